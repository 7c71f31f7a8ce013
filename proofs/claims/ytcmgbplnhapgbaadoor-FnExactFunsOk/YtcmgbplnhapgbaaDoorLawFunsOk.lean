/- At every list of functions impl.FunsOk answers as spec.FunsOk, and writes into none: laws.FnExactFunsOk returns true, and the argument reads as before. Condition (the card ties it to the program's text): the listed table reads as its text lays it. -/
import Derived.Test.YtcmgbplnhapgbaaDoorRows
import Derived.Test.YtcmgbplnhapgbaaDoorTie
import Derived.Test.YtcmgbplnhapgbaaDoorCards
import Derived.Test.YtcmgbplnhapgbaaDoorLaid
import Derived.Test.YtcmgbplnhapgbaaDoorSzFun
import Derived.Test.YtcmgbplnhapgbaaDoorToFun
import Derived.Test.YtcmgbplnhapgbaaDoorEqFun
import Derived.Test.YtcmgbplnhapgbaaDoorFunOpen
import Derived.Test.YtcmgbplnhapgbaaDoorSpecFunsOk
import Derived.Test.YtcmgbplnhapgbaaDoorImplFunsOk2
import Derived.WalkKit
import Derived.ProofKit
import Derived.LaidMore
import Derived.OpenShut
import Derived.OpenVars
import Derived.ChangeVars
import Derived.WideKeyArgs
import Derived.Stop.Joined
import Derived.SevenTiedAt
import Derived.Deep.Cut
namespace Go.Proofs.YtcmgbplnhapgbaaDoor.fnExactFunsOk
open Go.ChangeShapes Go.WideShapes Go.ChangeAt Go.RowKit

set_option maxRecDepth 100000 in
set_option maxHeartbeats 4000000 in
theorem walk (len : Nat) (kid : Nat → Fu) (v : Value) (w : World) (hv : Fl w len kid v) (ht : NameTab w) :
    Calls Tryd.prog 3 #[v] w fun e w' => e = .returned (.bool true) ∧ Below w.heap.size w w' := by
  obtain ⟨p, cap, ev⟩ := hv.shape
  obtain ⟨B, HBP⟩ : ∃ B : Bool, Hid (B = true ↔ FunsP len kid) := by
    by_cases h : FunsP len kid
    · exact ⟨true, ⟨fun _ => h, fun _ => rfl⟩⟩
    · exact ⟨false, ⟨fun e => (by cases e), fun e => absurd e h⟩⟩
  have HV : Hid (∀ w1, Below w.heap.size w w1 → Fl w1 len kid v) := fun w1 h => hv.below h
  have HTB : Hid (∀ w1, Below w.heap.size w w1 → NameTab w1) := fun w1 h => ht.below h
  clear hv ht
  subst ev
  by_cases h1 : funsWeight len kid ≤ 1048576
  · have E1 : Hid (szF 1048576 (funsWeight len kid) = ((1048576 - funsWeight len kid : Nat) : Int)) := szF_yes h1
    have H1 : Hid (funsWeight len kid ≤ 1048576) := h1
    generalize 1048576 - funsWeight len kid = y1 at *
    clear h1
    go_enter Tryd.func3, Tryd.ntmps3
    go_wp2_with fail
    refine (sz_funs len kid w _ 1048576 (HV.out _ (Below.refl _ _)) (by omega)).mono ?_
    rintro e w1 ⟨rfl, hb1⟩
    rw [E1.out]
    have B1 : Hid (Below w.heap.size w w1) := hb1
    clear hb1
    go_wp2_with fail
    refine (to_funs len kid w1 _ (HV.out _ B1.out) H1.out).mono ?_
    rintro e w2 ⟨x, rfl, hb2, hx⟩
    have B2 : Hid (Below w.heap.size w w2) := B1.out.trans (hb2.mono B1.out.size)
    have HX : Hid (Fl w2 len kid x) := hx.all
    clear hb2 hx B1
    go_wp2_with fail
    refine (spec_funs_ok len kid w2 x HX.out B HBP.out).mono ?_
    rintro e w3 ⟨rfl, hb3⟩
    have B3 : Hid (Below w.heap.size w w3) := B2.out.trans (hb3.mono B2.out.size)
    clear hb3 B2 HX
    go_wp2_with fail
    refine (to_funs len kid w3 _ (HV.out _ B3.out) H1.out).mono ?_
    rintro e w4 ⟨y, rfl, hb4, hy⟩
    have B4 : Hid (Below w.heap.size w w4) := B3.out.trans (hb4.mono B3.out.size)
    have HY : Hid (Fl w4 len kid y) := hy.all
    clear hb4 hy B3
    go_wp2_with fail
    refine (impl_funs_ok len kid w4 y HY.out (HTB.out _ B4.out) B HBP.out).mono ?_
    rintro e w5 ⟨rfl, hb5⟩
    have B5 : Hid (Below w.heap.size w w5) := B4.out.trans (hb5.mono B4.out.size)
    have HY5 : Hid (Fl w5 len kid y) := HY.out.below hb5
    clear hb5 B4 HY
    go_wp2_with fail
    refine (to_funs len kid w5 _ (HV.out _ B5.out) H1.out).mono ?_
    rintro e w6 ⟨z, rfl, hb6, hz⟩
    have B6 : Hid (Below w.heap.size w w6) := B5.out.trans (hb6.mono B5.out.size)
    have HYZ : Hid (Fl w6 len kid y ∧ Fl w6 len kid z) := ⟨HY5.out.below hb6, hz.all⟩
    clear hb6 hz B5 HY5
    go_wp2_with fail
    refine (eq_funs len kid w6 y z HYZ.out.1 HYZ.out.2).mono ?_
    rintro e w7 ⟨rfl, hb7⟩
    have B7 : Hid (Below w.heap.size w w7) := B6.out.trans (hb7.mono B6.out.size)
    clear hb7 B6
    go_wp2_with fail
    go_ret
    exact ⟨rfl, B7.out⟩
  · have E1 : Hid (szF 1048576 (funsWeight len kid) = -1) := szF_no (by omega)
    go_enter Tryd.func3, Tryd.ntmps3
    go_wp2_with fail
    refine (sz_funs len kid w _ 1048576 (HV.out _ (Below.refl _ _)) (by omega)).mono ?_
    rintro e w1 ⟨rfl, hb1⟩
    rw [E1.out]
    have B1 : Hid (Below w.heap.size w w1) := hb1
    clear hb1
    go_wp2_with fail
    go_ret
    exact ⟨rfl, B1.out⟩

theorem own : ownKnob Tryd.prog.godebug = none := by kernel_rfl
theorem laidOut : laidOutB Tryd.prog = true := by kernel_rfl

theorem types : FunTy Tryd.prog 38 30 3 36 22 where
  op :=
    { ex := ⟨_, Tryd.underlying30, rfl, ⟨_, rfl, rfl, rfl⟩, ⟨_, rfl, rfl, rfl⟩, ⟨_, rfl, rfl, rfl⟩⟩
      i := Tryd.underlying3
      k := Tryd.underlying36
      ci := by kernel_rfl
      co := by kernel_rfl
      ck := by kernel_rfl }
  ex := ⟨_, Tryd.underlying38, rfl, ⟨_, rfl, rfl, rfl⟩, ⟨_, rfl, rfl, rfl⟩⟩
  l := Tryd.underlying22
  cf := by kernel_rfl
  cl := by kernel_rfl

/-- What the row lists. -/
def lst : List (String × DataW Unit) := Rows.fnExactFunsOkRow.laid

theorem door_met (os : Os) (args : Array Value) : laidMetH Tryd.prog lst ((World.doorLaid Tryd.prog 4000 os).forCall (fun _ _ => 0) ⟨#[], args, []⟩).memory :=
  laidMetH_of_parts3 (fuel := 8) (laidMet_of_run' 8 (by kernel_rfl) (by kernel_rfl)) (by kernel_rfl) (by kernel_rfl)

theorem of_laid {W : World} (h : laidMetH Tryd.prog lst W) : NameTab W := by
  rw [MakeChecks.laidMetH_plain _ _ _ (by kernel_rfl)] at h
  exact names_of_head h

set_option maxRecDepth 100000 in
theorem lifted (os : Os) (started : os.Started) (H : Type) (enc : TypeId × Value → H) :
    ReturnsInHanded {} Tryd.checked os 3 .any (fun w args => (Rows.fnExactFunsOkSpec.pre enc Tryd.prog Tryd.f3 [] false w args ∧ laidMetH Tryd.prog lst w) ∧ sizedMet enc Tryd.prog Tryd.f3 (OpenSpec.ofChange Rows.fnExactFunsOkSpec) false w args)
      (Rows.fnExactFunsOkSpec.post enc Tryd.prog Tryd.f3 false true false false) := by
  refine returnsInHanded_of_change_and (C := Tryd.checked) (X := fun w _ => laidMetH Tryd.prog lst w) (fun _ _ _ hh h => h.of_heap hh) own started (by kernel_rfl) Tryd.func3
    (ChangeSpec.witness_shaped (enc := enc) (C := Tryd.checked) (os := os) (X := fun w _ => laidMetH Tryd.prog lst w) false (World.doorLaid Tryd.prog 4000 os) #[.slice none 0 0] 8 rfl (World.shaped_of_RefB (by kernel_rfl) (by kernel_rfl)) (by kernel_rfl) (by kernel_rfl) (by kernel_rfl) (door_met os _)) ?_
  intro W base args ds gs before hval0 hW _ _ hL _
  have hval : ∀ (j : Nat) t v, Tryd.f3.params[j]? = some t → args[j]? = some v → Value.okWide Tryd.prog W .any base t v := hval0
  have hW' := hW
  have hlt := fun x hx => DataW.Whole.lt hW x hx
  obtain ⟨p, q, hA0, hV, rfl, hfz, hnd⟩ := hW
  have hA : DataW.TrodAll enc Tryd.prog W 0 (fun _ => true) true Tryd.f3.params.toList args.toList ds p := hA0
  rw [Tryd.params3] at hA hval
  obtain ⟨v0, d0, rfl, rfl, h0⟩ := trodAll_one hA
  have hV1 := hV
  obtain ⟨_, _, _, _, dg, _, rfl, -⟩ := trodVars_one hV
  obtain ⟨a0, len0, cap0, rfl⟩ := okWide_slice Tryd.underlying22 (hval 0 22 v0 rfl rfl)
  have k1 := h0
  obtain ⟨fuel, h0⟩ := h0
  obtain ⟨len, kid, hs⟩ := open_funs types h0
  have ht := of_laid hL
  clear hA0 hval0
  refine (walk len kid _ W hs ht).mono fun e W' ⟨he, bel⟩ => ?_
  subst he
  have k0 := fun (sp' : Nat → Bool) (hsp : ∀ x ∈ p, sp' x.block = true) => Go.WideElems.Trod_stays laidOut (by kernel_rfl) (of_decide_eq_true (by kernel_rfl)) k1 (fun x hx => bel.same (hlt x (List.mem_append_left _ hx))) hsp
  have hv1 := Below.trodVars laidOut bel (by kernel_rfl) hV1
  refine ⟨_, rfl, _, _, _, [], p, q, hW', trodAll_mk1 (shut_bool Tryd.underlying4 _), trodAll_mk1 (k0 _ ?_), hv1, bel.frame _, fun h => by cases h⟩
  exact fun x hx => decide_eq_true (hlt x (List.mem_append_left _ hx))

theorem over : Rows.FnExactFunsOkSaid :=
  OpenClaim.holds_of_wide 3 Tryd.f3 rfl rfl rfl rfl rfl rfl rfl ⟨rfl, rfl, rfl, rfl, rfl⟩ rfl rfl rfl rfl rfl (by kernel_rfl) Tryd.func3 (by kernel_rfl)
    (of_decide_eq_true (by kernel_rfl)) (by unfold Func.isWrapper; first | (rw [if_pos (by decide +kernel)]; kernel_rfl) | (rw [if_neg (by decide +kernel)]; exact ⟨rfl, rfl⟩))
    (fun os started H enc _ => lifted os started H enc)

/-- The tied card. -/
theorem proved : Rows.FnExactFunsOkCardSaid :=
  Claim7.holds_tied_plain_at .later [] [.data] true (true, "9839c3d47579b997c4ec88bba4651fde0b41d7c3fc21953cbfd15153ccc1e8fb") false
    over (fun _ h => by cases h) (by kernel_rfl) (fun _ h => by cases h) fnExactFunsOk_row_tie rfl ⟨rfl, rfl⟩ (by kernel_rfl) rfl
    (fun f fn hf hfn => by
      obtain rfl : f = 3 := Option.some.inj ((show Tryd.prog.funcNamed "loop.example/g00396/laws.FnExactFunsOk" = some 3 by kernel_rfl).symm.trans hf) |>.symm
      obtain rfl : fn = Tryd.f3 := (Option.some.inj (Tryd.func3.symm.trans hfn)).symm
      exact ⟨by kernel_rfl, fun j t ht => by
        rw [Tryd.params3] at ht
        have hm : t ∈ [22] := by simpa using Array.mem_of_getElem? ht
        have hall : ([22].all fun u => !Tryd.prog.wantsStandIn u) = true := by kernel_rfl
        exact (show Tryd.prog.wantsStandIn t = false by simpa using List.all_eq_true.1 hall t hm)⟩)
    (by kernel_rfl)
#print axioms proved
end Go.Proofs.YtcmgbplnhapgbaaDoor.fnExactFunsOk
