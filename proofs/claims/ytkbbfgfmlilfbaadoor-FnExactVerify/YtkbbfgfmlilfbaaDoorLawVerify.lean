/- laws.FnExactVerify: the walk, over a premise on impl.Verify. Out of LawFunsOk, by words. -/
import Derived.Test.YtkbbfgfmlilfbaaDoorRows
import Derived.Test.YtkbbfgfmlilfbaaDoorLaid
import Derived.Test.YtkbbfgfmlilfbaaDoorSzFun
import Derived.Test.YtkbbfgfmlilfbaaDoorToFun
import Derived.Test.YtkbbfgfmlilfbaaDoorEqFun
import Derived.Test.YtkbbfgfmlilfbaaDoorFunOpen
import Derived.Test.YtkbbfgfmlilfbaaDoorSpecVerify15
import Derived.WalkKit
import Derived.ProofKit
import Derived.LaidMore
import Derived.OpenShut
import Derived.OpenVars
import Derived.ChangeVars
import Derived.WideKeyArgs
import Derived.Stop.Joined
import Derived.SevenTiedAt
import Derived.Deep.Cut
namespace Go.Proofs.YtkbbfgfmlilfbaaDoor.fnExactVerify
open Go.ChangeShapes Go.WideShapes Go.ChangeAt Go.RowKit

/-- What the program must answer, in worlds in which its tables read so (T). -/
def ImplVerify (T : World → Prop) : Prop := ∀ (nf : Nat) (kid : Nat → Fu) (w : World) (v : Value), Fl w nf kid v → nf ≤ 1048576 → T w → ∀ R : Bool, (R = true ↔ VerP nf kid) →
  Calls Tryd.prog 19 #[v] w fun e w' => e = .returned (.bool R) ∧ Below w.heap.size w w'

set_option maxRecDepth 100000 in
set_option maxHeartbeats 4000000 in
theorem walk {T : World → Prop} (himpl : ImplVerify T) (len : Nat) (kid : Nat → Fu) (v : Value) (w : World) (hv : Fl w len kid v) (ht : ∀ w1, Below w.heap.size w w1 → T w1) :
    Calls Tryd.prog 5 #[v] w fun e w' => e = .returned (.bool true) ∧ Below w.heap.size w w' := by
  obtain ⟨p, cap, ev⟩ := hv.shape
  obtain ⟨B, HBP⟩ : ∃ B : Bool, Hid (B = true ↔ VerP len kid) := by
    by_cases h : VerP len kid
    · exact ⟨true, ⟨fun _ => h, fun _ => rfl⟩⟩
    · exact ⟨false, ⟨fun e => (by cases e), fun e => absurd e h⟩⟩
  have HV : Hid (∀ w1, Below w.heap.size w w1 → Fl w1 len kid v) := fun w1 h => hv.below h
  have HTB : Hid (∀ w1, Below w.heap.size w w1 → T w1) := ht
  have HIM : Hid (ImplVerify T) := himpl
  have hnf : funsWeight len kid ≤ 1048576 → len ≤ 1048576 := fun h => by unfold funsWeight at h; omega
  clear hv ht himpl
  subst ev
  by_cases h1 : funsWeight len kid ≤ 1048576
  · have E1 : Hid (szF 1048576 (funsWeight len kid) = ((1048576 - funsWeight len kid : Nat) : Int)) := szF_yes h1
    have H1 : Hid (funsWeight len kid ≤ 1048576) := h1
    have HNF : Hid (len ≤ 1048576) := hnf h1
    clear hnf
    generalize 1048576 - funsWeight len kid = y1 at *
    clear h1
    go_enter Tryd.func5, Tryd.ntmps5
    go_wp2_with fail
    refine (sz_funs len kid w _ 1048576 (HV.out _ (Below.refl _ _)) (by omega)).mono ?_
    rintro e w1 ⟨rfl, hb1⟩
    rw [E1.out]
    have B1 : Hid (Below w.heap.size w w1) := hb1
    clear hb1
    go_wp2_with fail
    refine (to_funs len kid w1 _ (HV.out _ B1.out) H1.out).mono ?_
    rintro e w2 ⟨x, rfl, hb2, hx⟩
    have B2 : Hid (Below w.heap.size w w2) := B1.out.trans (hb2.mono B1.out.size)
    have HX : Hid (Fl w2 len kid x) := hx.all
    clear hb2 hx B1
    go_wp2_with fail
    refine (spec_verify15 len kid w2 x HX.out HNF.out B HBP.out).mono ?_
    rintro e w3 ⟨rfl, hb3⟩
    have B3 : Hid (Below w.heap.size w w3) := B2.out.trans (hb3.mono B2.out.size)
    clear hb3 B2 HX
    go_wp2_with fail
    refine (to_funs len kid w3 _ (HV.out _ B3.out) H1.out).mono ?_
    rintro e w4 ⟨y, rfl, hb4, hy⟩
    have B4 : Hid (Below w.heap.size w w4) := B3.out.trans (hb4.mono B3.out.size)
    have HY : Hid (Fl w4 len kid y) := hy.all
    clear hb4 hy B3
    go_wp2_with fail
    refine (HIM.out len kid w4 y HY.out HNF.out (HTB.out _ B4.out) B HBP.out).mono ?_
    rintro e w5 ⟨rfl, hb5⟩
    have B5 : Hid (Below w.heap.size w w5) := B4.out.trans (hb5.mono B4.out.size)
    have HY5 : Hid (Fl w5 len kid y) := HY.out.below hb5
    clear hb5 B4 HY
    go_wp2_with fail
    refine (to_funs len kid w5 _ (HV.out _ B5.out) H1.out).mono ?_
    rintro e w6 ⟨z, rfl, hb6, hz⟩
    have B6 : Hid (Below w.heap.size w w6) := B5.out.trans (hb6.mono B5.out.size)
    have HYZ : Hid (Fl w6 len kid y ∧ Fl w6 len kid z) := ⟨HY5.out.below hb6, hz.all⟩
    clear hb6 hz B5 HY5
    go_wp2_with fail
    refine (eq_funs len kid w6 y z HYZ.out.1 HYZ.out.2).mono ?_
    rintro e w7 ⟨rfl, hb7⟩
    have B7 : Hid (Below w.heap.size w w7) := B6.out.trans (hb7.mono B6.out.size)
    clear hb7 B6
    go_wp2_with fail
    go_ret
    exact ⟨rfl, B7.out⟩
  · have E1 : Hid (szF 1048576 (funsWeight len kid) = -1) := szF_no (by omega)
    go_enter Tryd.func5, Tryd.ntmps5
    go_wp2_with fail
    refine (sz_funs len kid w _ 1048576 (HV.out _ (Below.refl _ _)) (by omega)).mono ?_
    rintro e w1 ⟨rfl, hb1⟩
    rw [E1.out]
    have B1 : Hid (Below w.heap.size w w1) := hb1
    clear hb1
    go_wp2_with fail
    go_ret
    exact ⟨rfl, B1.out⟩
end Go.Proofs.YtkbbfgfmlilfbaaDoor.fnExactVerify
