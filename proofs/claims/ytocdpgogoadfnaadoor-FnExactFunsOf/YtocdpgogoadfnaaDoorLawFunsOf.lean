/- At any bytes impl.FunsOf answers as spec.FunsOf, writes into none and keeps nothing of them, and its answer owns its memory: laws.FnExactFunsOf returns true, and the argument reads as before. Condition (the card ties it to the program's text): the listed table reads as its text lays it. -/
import Derived.Test.YtocdpgogoadfnaaDoorRows
import Derived.Test.YtocdpgogoadfnaaDoorTie
import Derived.Test.YtocdpgogoadfnaaDoorCards
import Derived.Test.YtocdpgogoadfnaaDoorEqFun
import Derived.Test.YtocdpgogoadfnaaDoorSpecFunsOf
import Derived.Test.YtocdpgogoadfnaaDoorImplFunsOf
import Derived.Test.YtocdpgogoadfnaaDoorHeldFun
import Derived.WalkKit
import Derived.ProofKit
import Derived.LaidMore
import Derived.OpenShut
import Derived.OpenVars
import Derived.ChangeVars
import Derived.WideKeyArgs
import Derived.Stop.Joined
import Derived.SevenTiedAt
import Derived.Deep.Cut
namespace Go.Proofs.YtocdpgogoadfnaaDoor.fnExactFunsOf
open Go.ChangeShapes Go.WideShapes Go.ChangeAt Go.RowKit

theorem spec_made {xs : List Nat} {L : List FO} {ok : Bool} (hm : AnsF xs L ok) (hx : ∀ x ∈ xs, x < 256) (w : World) (v : Value) (hv : RdY w v xs) (hl : xs.length ≤ 4194304) :
    Calls Tryd.prog 14 #[v] w fun e w' => ∃ u, e = .returned (.tuple #[u, .bool ok]) ∧ Below w.heap.size w w' ∧ Fl w' L.length (kidL L) u := by
  refine (spec_funs_of xs hx v w hv hl).mono fun e w' ⟨L', ok', u, h1, h2, h3, h4⟩ => ?_
  obtain ⟨rfl, rfl⟩ := ansF_same hm h2
  exact ⟨u, h1, h4, h3⟩
theorem impl_made {xs : List Nat} {L : List FO} {ok : Bool} (hm : AnsF xs L ok) (hx : ∀ x ∈ xs, x < 256) (w : World) (v : Value) (hv : RdY w v xs) (hl : xs.length ≤ 4194304) (ht : NameTab w) :
    Calls Tryd.prog 16 #[v] w fun e w' => ∃ u le, e = .returned (.tuple #[u, .bool ok]) ∧ Below w.heap.size w w' ∧ strip le = L ∧ FOwn w.heap.size w' u le := by
  refine (impl_funs_of xs hx v w hv hl ht).mono fun e w' ⟨L', ok', u, le, h1, h2, h3, h4, h5⟩ => ?_
  obtain ⟨rfl, rfl⟩ := ansF_same hm h2
  exact ⟨u, le, h1, h5, h4, h3⟩
theorem marks_most {le : List Fe} (he : ∀ e ∈ strip le, FOk e ∧ e.2.length ≤ 3000) (hn : le.length ≤ 60) : cAt 1 le le.length ≤ 1099511627776 := by
  have : ∀ k, k ≤ le.length → cAt 1 le k ≤ 1 + k * 9001 := by
    intro k
    induction k with
    | zero => intro _; exact Nat.le_refl _
    | succ k ih =>
      intro hk
      have h1 := ih (by omega)
      have hq : le.getD k default = le[k] := by rw [List.getD_eq_getElem?_getD, List.getElem?_eq_getElem (by omega)]; rfl
      have h3 : (le[k]).ol.length ≤ 3000 := (he _ (List.mem_map.2 ⟨le[k], List.getElem_mem (by omega), rfl⟩)).2
      simp only [cAt]
      rw [hq]
      omega
  have h1 := this le.length (Nat.le_refl _)
  omega
/-- What is owned stays when only other blocks turn. -/
theorem fown_kept {B : Nat} {w w' : World} {vo : Value} {le : List Fe} (h : FOwn B w vo le) (hk : ∀ k, B ≤ k → k < w.heap.size → w'.heap[k]? = w.heap[k]?) : FOwn B w' vo le :=
  ⟨own_keepZ h.row (fun g e => hk g (own_betweenZ h.row e).1 (own_betweenZ h.row e).2), fun i e hi => own_keepZ (h.el i e hi) (fun g eg => hk g (own_betweenZ (h.el i e hi) eg).1 (own_betweenZ (h.el i e hi) eg).2), h.apart, h.ne⟩
theorem fl_kept {w w' : World} {n : Nat} {kid : Nat → Fu} {v : Value} (h : Fl w n kid v) (hk : ∀ k, k < w.heap.size → w'.heap[k]? = w.heap[k]?) : Fl w' n kid v :=
  FlB.kept (fun a _ _ hc => (World.cell?_of_block (w := w) (hk a.block (World.block_lt_of_cell? w _ hc))).trans hc) h
theorem keep_below {B : Nat} {w0 w w' : World} {vo : Value} {le : List Fe} (hb : Below w0.heap.size w0 w) (ho : FOwn B w vo le) (hB : w0.heap.size ≤ B) (k : FKeep vo le w w') : Below w0.heap.size w0 w' := by
  obtain ⟨k1, k2, k3, k4, k5⟩ := k
  exact ⟨k1.trans hb.os, k2.trans hb.tape, k3.trans hb.output, Nat.le_trans hb.size k4, fun j hj => (k5 j (Nat.lt_of_lt_of_le hj hb.size) (fun e => by have := (own_betweenZ ho.row e).1; omega) (fun i e hi e2 => by have := (own_betweenZ (ho.el i e hi) e2).1; omega)).trans (hb.block j hj)⟩
set_option maxRecDepth 100000 in
set_option maxHeartbeats 4000000 in
theorem walk (xs : List Nat) (hx : ∀ x ∈ xs, x < 256) (v : Value) (w : World) (hv : RsY w v xs) (ht : NameTab w) :
    Calls Tryd.prog 4 #[v] w fun e w' => e = .returned (.bool true) ∧ Below w.heap.size w w' := by
  have hv2 := hv
  obtain ⟨p, cap, ev, -⟩ := hv2
  have HV : Hid (∀ w1, Below w.heap.size w w1 → RsY w1 v xs) := fun w1 h => hv.below h
  have HTB : Hid (∀ w1, Below w.heap.size w w1 → NameTab w1) := fun w1 h => ht.below h
  obtain ⟨L, ok, hm⟩ := ansF_some xs
  have HM : Hid (AnsF xs L ok) := hm
  have HOK : Hid ((∀ e ∈ L, FOk e ∧ e.2.length ≤ 3000) ∧ L.length ≤ 60) := ansF_ok hm
  have HX256 : Hid (∀ x ∈ xs, x < 256) := hx
  clear hv ht hm hx
  subst ev
  obtain ⟨m, hm⟩ : ∃ m, m = xs.length := ⟨_, rfl⟩
  have HML : Hid (m = xs.length) := hm
  rw [← hm] at HV ⊢
  clear hm
  by_cases h1 : m ≤ 1048576
  · have HL4 : Hid (xs.length ≤ 4194304) := by show _ ≤ _; rw [← HML.out]; omega
    go_enter Tryd.func4, Tryd.ntmps4
    go_wp2_with fail
    refine (to_bytes xs _ w (HV.out _ (Below.refl _ _)) HL4.out).mono ?_
    rintro e w2 ⟨x, rfl, hb2, hx⟩
    have B2 : Hid (Below w.heap.size w w2) := hb2
    have HX : Hid (RdY w2 x xs) := hx.rd
    clear hb2 hx
    go_wp2_with fail
    refine (spec_made HM.out HX256.out w2 x HX.out HL4.out).mono ?_
    rintro e w3 ⟨u0, rfl, hb3, hu0⟩
    have B3 : Hid (Below w.heap.size w w3) := B2.out.trans (hb3.mono B2.out.size)
    have HU3 : Hid (Fl w3 L.length (kidL L) u0) := hu0
    clear hb3 B2 HX hu0
    go_wp2_with fail
    refine (to_bytes xs _ w3 (HV.out _ B3.out) HL4.out).mono ?_
    rintro e w4 ⟨y, rfl, hb4, hy⟩
    have B4 : Hid (Below w.heap.size w w4) := B3.out.trans (hb4.mono B3.out.size)
    have B34 : Hid (Below w3.heap.size w3 w4) := hb4
    have HY : Hid (OwnY w4 w3.heap.size y xs) := hy
    clear hb4 hy
    go_wp2_with fail
    refine (impl_made HM.out HX256.out w4 y HY.out.rd HL4.out (HTB.out _ B4.out)).mono ?_
    rintro e w5 ⟨g0, le, rfl, hb5, hle, hfo⟩
    subst hle
    have B5 : Hid (Below w4.heap.size w4 w5) := hb5
    obtain ⟨n, hn⟩ : ∃ n, n = le.length := ⟨_, rfl⟩
    have HLN : Hid (le.length = n) := hn.symm
    have HKL : Hid ((strip le).length = le.length) := strip_len le
    have HFO : Hid (FOwn w4.heap.size w5 g0 le) := hfo
    have HFL : Hid (∀ wx, FOwn w4.heap.size wx g0 le → Fl wx n (kidL (strip le)) g0) := fun wx h => by
      have h2 := (h.flZ (fun e he => (HOK.out.1 e he).1)).all
      rw [HLN.out] at h2
      exact h2
    have HCM : Hid (cAt 1 le le.length ≤ 1099511627776) := marks_most HOK.out.1 (by have := HOK.out.2; rw [strip_len] at this; exact this)
    rw [strip_len, ← hn] at HU3
    clear hn
    obtain ⟨pg, cg, eg⟩ := (HFL.out w5 hfo).shape
    obtain ⟨pu, cu, eu⟩ := HU3.out.shape
    clear hb5 hfo
    subst eg eu
    have HCE : Hid (Calls Tryd.prog 10 #[.slice pg n cg, .slice pu n cu] w5 fun e w' => e = .returned (.bool true) ∧ Below w5.heap.size w5 w') := eq_funs n (kidL (strip le)) w5 _ _ (HFL.out w5 HFO.out) (HU3.out.below (B34.out.trans (B5.out.mono B34.out.size)))
    go_wp2_with fail
    refine HCE.out.mono ?_
    rintro e w6 ⟨rfl, hb6⟩
    have B6 : Hid (Below w4.heap.size w4 w6) := B5.out.trans (hb6.mono B5.out.size)
    have HFO6 : Hid (FOwn w4.heap.size w6 (.slice pg n cg) le) := fown_kept HFO.out (fun k _ h => hb6.block k h)
    clear hb6 HCE HFO B5
    go_wp2_with fail
    refine (to_bytes xs _ w6 (HV.out _ (B4.out.trans (B6.out.mono B4.out.size))) HL4.out).mono ?_
    rintro e w7 ⟨z, rfl, hb7, hz⟩
    have B7 : Hid (Below w4.heap.size w4 w7) := B6.out.trans (hb7.mono B6.out.size)
    have HFO7 : Hid (FOwn w4.heap.size w7 (.slice pg n cg) le) := fown_kept HFO6.out (fun k _ h => hb7.block k h)
    have HYZ : Hid (RdY w7 y xs ∧ RdY w7 z xs) := ⟨HY.out.rd.below B7.out, hz.rd⟩
    clear hb7 hz B6 HFO6
    go_wp2_with fail
    refine (eq_bytes xs y z w7 HYZ.out.1 HYZ.out.2 HL4.out).mono ?_
    rintro e w8 ⟨rfl, hb8⟩
    have B8 : Hid (Below w4.heap.size w4 w8) := B7.out.trans (hb8.mono B7.out.size)
    have HFO8 : Hid (FOwn w4.heap.size w8 (.slice pg n cg) le) := fown_kept HFO7.out (fun k _ h => hb8.block k h)
    have HY8 : Hid (OwnY w8 w3.heap.size y xs) := HY.out.below B8.out
    have HYA : Hid (∀ g, y.ownBlock = some g → w3.heap.size ≤ g ∧ g < w4.heap.size) := fun g e => HY.out.lt g e
    clear hb8 HYZ B7 HFO7 HY
    have HMA : Hid (Calls Tryd.prog 12 #[y, .int .i64 1] w8 fun e w' => e = .returned (.int .i64 ((1 : Int) + m)) ∧ w8.grownBy w' y.ownBlock) := by
      have := mark_bytes y w3.heap.size xs 1 w8 HY8.out HL4.out (by omega)
      rw [← HML.out] at this
      exact this.mono fun e w' ⟨h1, _, h3⟩ => ⟨by rw [h1, show ((1 + m : Nat) : Int) = 1 + (m : Int) by omega], h3⟩
    go_wp2_with fail
    refine HMA.out.mono ?_
    rintro e w9 ⟨rfl, hk9⟩
    have HB8 : Hid (Below w.heap.size w w8) := B4.out.trans (B8.out.mono B4.out.size)
    have hY9 : ∀ k, y.ownBlock = some k → w3.heap.size ≤ k ∧ k < w4.heap.size := HYA.out
    have B9 : Hid (Below w.heap.size w w9) := HB8.out.grown hk9 HB8.out.size (fun k hk => Nat.le_trans B3.out.size (hY9 k hk).1)
    have HFO9 : Hid (FOwn w4.heap.size w9 (.slice pg n cg) le) := fown_kept HFO8.out (fun k h1 h2 => hk9.block k h2 (fun e => by have := (hY9 k e.symm).2; omega))
    have HU9 : Hid (Fl w9 n (kidL (strip le)) (.slice pu n cu)) := fl_kept HU3.out (fun k hk => by
      have a1 := B34.out.size
      have a2 := B8.out.size
      rw [hk9.block k (by omega) (fun e => by have := (hY9 k e.symm).1; omega), B8.out.block k (by omega), B34.out.block k hk])
    have hsz9 : w4.heap.size ≤ w9.heap.size := Nat.le_trans B8.out.size hk9.size
    have HSZ9 : Hid (w4.heap.size ≤ w9.heap.size) := hsz9
    have HU9o : Hid (∀ wx, (∀ k, k < w4.heap.size → wx.heap[k]? = w9.heap[k]?) → Fl wx n (kidL (strip le)) (.slice pu n cu)) := fun wx hx => fl_kept HU3.out (fun k hk => by
      have a1 := B34.out.size
      have a2 := B8.out.size
      rw [hx k (by omega), hk9.block k (by omega) (fun e => by have := (hY9 k e.symm).1; omega), B8.out.block k (by omega), B34.out.block k hk])
    clear hk9 HMA HY8 HYA hY9 hsz9 B8 HFO8 HB8 B34
    have HCE : Hid (Calls Tryd.prog 10 #[.slice pg n cg, .slice pu n cu] w9 fun e w' => e = .returned (.bool true) ∧ Below w9.heap.size w9 w') := eq_funs n (kidL (strip le)) w9 _ _ (HFL.out w9 HFO9.out) HU9.out
    go_wp2_with fail
    refine HCE.out.mono ?_
    rintro e w10 ⟨rfl, hb10⟩
    have B10 : Hid (Below w.heap.size w w10) := B9.out.trans (hb10.mono B9.out.size)
    have HFO10 : Hid (FOwn w4.heap.size w10 (.slice pg n cg) le) := fown_kept HFO9.out (fun k _ h => hb10.block k h)
    have HU10 : Hid (∀ wx, (∀ k, k < w4.heap.size → wx.heap[k]? = w10.heap[k]?) → Fl wx n (kidL (strip le)) (.slice pu n cu)) := fun wx hx => HU9o.out wx (fun k hk => (hx k hk).trans (hb10.block k (Nat.lt_of_lt_of_le hk HSZ9.out)))
    have HSZ10 : Hid (w4.heap.size ≤ w10.heap.size) := Nat.le_trans HSZ9.out hb10.size
    clear hb10 HCE HU9 HU9o HFO9 B9 HSZ9
    obtain ⟨M, hM⟩ : ∃ M, M = cAt 1 le le.length := ⟨_, rfl⟩
    have hM2 : M ≤ 1099511627776 := by rw [hM]; exact HCM.out
    have HMF : Hid (Calls Tryd.prog 11 #[.slice pg n cg, .int .i64 1] w10 fun e w' => e = .returned (.int .i64 (M : Nat)) ∧ FOwn w4.heap.size w' (.slice pg n cg) (markF 1 le le.length) ∧ FKeep (.slice pg n cg) le w10 w') := by
      rw [hM]; exact mark_funs w4.heap.size le w10 _ 1 HFO10.out HCM.out
    have HHF : Hid (∀ wx p c, HeldAt wx p 1 le → le.length ≤ maxLen → Calls Tryd.prog 17 #[.slice p n c, .int .i64 1] wx fun e w' => e = .returned (.int .i64 (M : Nat)) ∧ Below wx.heap.size wx w') := fun wx p c h h2 => by
      have := held_funs le wx p c 1 h h2 HCM.out
      rw [HLN.out] at this
      rw [hM, HLN.out]
      exact this
    clear hM
    go_wp2_with fail
    refine HMF.out.mono ?_
    rintro e w11 ⟨rfl, ho11, hk11⟩
    have B11 : Hid (Below w.heap.size w w11) := keep_below B10.out HFO10.out B4.out.size hk11
    have HU11 : Hid (∀ wx, (∀ k, k < w4.heap.size → wx.heap[k]? = w11.heap[k]?) → Fl wx n (kidL (strip le)) (.slice pu n cu)) := fun wx hx => HU10.out wx (fun k hk => (hx k hk).trans (hk11.2.2.2.2 k (Nat.lt_of_lt_of_le hk HSZ10.out) (fun e => by have := (own_betweenZ HFO10.out.row e).1; omega) (fun i e hi e2 => by have := (own_betweenZ (HFO10.out.el i e hi) e2).1; omega)))
    have HSZ11 : Hid (w4.heap.size ≤ w11.heap.size) := Nat.le_trans HSZ10.out hk11.2.2.2.1
    obtain ⟨ph, ch, eh, hlm, hh⟩ := ho11.held HCM.out
    rw [HLN.out] at eh
    injection eh with eh1 _ eh2
    subst eh1 eh2
    have HHE : Hid (∀ wx, Below w11.heap.size w11 wx → Calls Tryd.prog 17 #[.slice pg n cg, .int .i64 1] wx fun e w' => e = .returned (.int .i64 (M : Nat)) ∧ Below wx.heap.size wx w') := fun wx hb => HHF.out wx _ _ (hh.below hb) hlm
    clear ho11 hk11 hlm hh HMF HHF HU10 HFO10 B10 HSZ10
    go_wp2_with fail
    refine (HHE.out _ (Below.refl _ _)).mono ?_
    rintro e w12 ⟨rfl, hb12⟩
    have B12 : Hid (Below w11.heap.size w11 w12) := hb12
    have BW12 : Hid (Below w.heap.size w w12) := B11.out.trans (hb12.mono B11.out.size)
    clear hb12
    go_wp2_with fail
    refine (to_bytes xs _ w12 (HV.out _ BW12.out) HL4.out).mono ?_
    rintro e w13 ⟨y2, rfl, hb13, hy2⟩
    have B13 : Hid (Below w11.heap.size w11 w13) := B12.out.trans (hb13.mono B12.out.size)
    have BW13 : Hid (Below w.heap.size w w13) := BW12.out.trans (hb13.mono BW12.out.size)
    have HY2 : Hid (RdY w13 y2 xs) := hy2.rd
    clear hb13 hy2 B12 BW12
    go_wp2_with fail
    refine (impl_made HM.out HX256.out w13 y2 HY2.out HL4.out (HTB.out _ BW13.out)).mono ?_
    rintro e w14 ⟨h0, le2, rfl, hb14, hle2, hfo2⟩
    have B14 : Hid (Below w11.heap.size w11 w14) := B13.out.trans (hb14.mono B13.out.size)
    have HH14 : Hid (Fl w14 n (kidL (strip le)) h0) := by
      have h2 := (hfo2.flZ (by rw [hle2]; exact fun e he => (HOK.out.1 e he).1)).all
      rw [hle2, ← strip_len le2, hle2, strip_len, HLN.out] at h2
      exact h2
    obtain ⟨p2, c2, e2⟩ := HH14.out.shape
    clear hb14 hle2 hfo2 B13 BW13 HY2
    subst e2
    have HCE : Hid (Calls Tryd.prog 10 #[.slice p2 n c2, .slice pu n cu] w14 fun e w' => e = .returned (.bool true) ∧ Below w14.heap.size w14 w') := eq_funs n (kidL (strip le)) w14 _ _ HH14.out (HU11.out w14 (fun k hk => B14.out.block k (Nat.lt_of_lt_of_le hk HSZ11.out)))
    go_wp2_with fail
    refine HCE.out.mono ?_
    rintro e w15 ⟨rfl, hb15⟩
    have B15 : Hid (Below w11.heap.size w11 w15) := B14.out.trans (hb15.mono B14.out.size)
    clear hb15 HCE HH14 B14
    go_wp2_with fail
    refine (HHE.out _ B15.out).mono ?_
    rintro e w16 ⟨rfl, hb16⟩
    have B16 : Hid (Below w.heap.size w w16) := B11.out.trans ((B15.out.trans (hb16.mono B15.out.size)).mono B11.out.size)
    clear hb16
    go_wp2_with fail
    go_ret
    exact ⟨rfl, B16.out⟩
  · go_enter Tryd.func4, Tryd.ntmps4
    go_wp2_with fail
    go_ret
    exact ⟨rfl, Below.refl _ _⟩

theorem own : ownKnob Tryd.prog.godebug = none := by kernel_rfl
theorem laidOut : laidOutB Tryd.prog = true := by kernel_rfl

/-- What the row lists. -/
def lst : List (String × DataW Unit) := Rows.fnExactFunsOfRow.laid

theorem door_met (os : Os) (args : Array Value) : laidMetH Tryd.prog lst ((World.doorLaid Tryd.prog 4000 os).forCall (fun _ _ => 0) ⟨#[], args, []⟩).memory :=
  laidMetH_of_parts3 (fuel := 8) (laidMet_of_run' 8 (by kernel_rfl) (by kernel_rfl)) (by kernel_rfl) (by kernel_rfl)

theorem of_laid {W : World} (h : laidMetH Tryd.prog lst W) : NameTab W := by
  rw [MakeChecks.laidMetH_plain _ _ _ (by kernel_rfl)] at h
  exact names_of_head h

set_option maxRecDepth 100000 in
theorem lifted (os : Os) (started : os.Started) (H : Type) (enc : TypeId × Value → H) :
    ReturnsInHanded {} Tryd.checked os 4 .any (fun w args => (Rows.fnExactFunsOfSpec.pre enc Tryd.prog Tryd.f4 [] false w args ∧ laidMetH Tryd.prog lst w) ∧ sizedMet enc Tryd.prog Tryd.f4 (OpenSpec.ofChange Rows.fnExactFunsOfSpec) false w args)
      (Rows.fnExactFunsOfSpec.post enc Tryd.prog Tryd.f4 false true false false) := by
  refine returnsInHanded_of_change_and (C := Tryd.checked) (X := fun w _ => laidMetH Tryd.prog lst w) (fun _ _ _ hh h => h.of_heap hh) own started (by kernel_rfl) Tryd.func4
    (ChangeSpec.witness_shaped (enc := enc) (C := Tryd.checked) (os := os) (X := fun w _ => laidMetH Tryd.prog lst w) false (World.doorLaid Tryd.prog 4000 os) #[.slice none 0 0] 8 rfl (World.shaped_of_RefB (by kernel_rfl) (by kernel_rfl)) (by kernel_rfl) (by kernel_rfl) (by kernel_rfl) (door_met os _)) ?_
  intro W base args ds gs before hval0 hW _ _ hL _
  have hval : ∀ (j : Nat) t v, Tryd.f4.params[j]? = some t → args[j]? = some v → Value.okWide Tryd.prog W .any base t v := hval0
  have hW' := hW
  have hlt := fun x hx => DataW.Whole.lt hW x hx
  obtain ⟨p, q, hA0, hV, rfl, hfz, hnd⟩ := hW
  have hA : DataW.TrodAll enc Tryd.prog W 0 (fun _ => true) true Tryd.f4.params.toList args.toList ds p := hA0
  rw [Tryd.params4] at hA hval
  obtain ⟨v0, d0, rfl, rfl, h0⟩ := trodAll_one hA
  have hV1 := hV
  obtain ⟨_, _, _, _, dg, _, rfl, -⟩ := trodVars_one hV
  obtain ⟨a0, len0, cap0, rfl⟩ := okWide_slice Tryd.underlying24 (hval 0 24 v0 rfl rfl)
  have k1 := h0
  obtain ⟨z0, w0⟩ : ∃ zs, IsRowY W a0 len0 cap0 zs := by
    obtain ⟨fuel, hf⟩ := h0
    rcases open_ints Tryd.underlying24 Tryd.underlying5 (by kernel_rfl) hf with ⟨hcs, _⟩ | ⟨x, l, c, zs, hcs, _, hl, hm, hz, _, hcell, hwz⟩
    · simp [Value.cells] at hcs
      obtain ⟨rfl, rfl, rfl⟩ := hcs
      exact ⟨[], .inl ⟨rfl, rfl, rfl, rfl⟩⟩
    · simp [Value.cells] at hcs
      obtain ⟨rfl, rfl, rfl⟩ := hcs
      exact ⟨zs, .inr ⟨_, rfl, hl, hm, by simpa using hz, hcell, hwz⟩⟩
  obtain ⟨xs, -, hrs, hxb⟩ := w0.rs
  have ht := of_laid hL
  clear hA0 hval0
  refine (walk xs hxb _ W hrs ht).mono fun e W' ⟨he, bel⟩ => ?_
  subst he
  have k0 := fun (sp' : Nat → Bool) (hsp : ∀ x ∈ p, sp' x.block = true) => Go.WideElems.Trod_stays laidOut (by kernel_rfl) (of_decide_eq_true (by kernel_rfl)) k1 (fun x hx => bel.same (hlt x (List.mem_append_left _ hx))) hsp
  have hv1 := Below.trodVars laidOut bel (by kernel_rfl) hV1
  refine ⟨_, rfl, _, _, _, [], p, q, hW', trodAll_mk1 (shut_bool Tryd.underlying4 _), trodAll_mk1 (k0 _ ?_), hv1, bel.frame _, fun h => by cases h⟩
  exact fun x hx => decide_eq_true (hlt x (List.mem_append_left _ hx))

theorem over : Rows.FnExactFunsOfSaid :=
  OpenClaim.holds_of_wide 4 Tryd.f4 rfl rfl rfl rfl rfl rfl rfl ⟨rfl, rfl, rfl, rfl, rfl⟩ rfl rfl rfl rfl rfl (by kernel_rfl) Tryd.func4 (by kernel_rfl)
    (of_decide_eq_true (by kernel_rfl)) (by unfold Func.isWrapper; first | (rw [if_pos (by decide +kernel)]; kernel_rfl) | (rw [if_neg (by decide +kernel)]; exact ⟨rfl, rfl⟩))
    (fun os started H enc _ => lifted os started H enc)

/-- The tied card. -/
theorem proved : Rows.FnExactFunsOfCardSaid :=
  Claim7.holds_tied_plain_at .later [] [.data] true (true, "a7e8fa8c40a670e1e64ea5592409d2f9c70c63331d8b092feb11004f4326d09c") false
    over (fun _ h => by cases h) (by kernel_rfl) (fun _ h => by cases h) fnExactFunsOf_row_tie rfl ⟨rfl, rfl⟩ (by kernel_rfl) rfl
    (fun f fn hf hfn => by
      obtain rfl : f = 4 := Option.some.inj ((show Tryd.prog.funcNamed "loop.example/g00396/laws.FnExactFunsOf" = some 4 by kernel_rfl).symm.trans hf) |>.symm
      obtain rfl : fn = Tryd.f4 := (Option.some.inj (Tryd.func4.symm.trans hfn)).symm
      exact ⟨by kernel_rfl, fun j t ht => by
        rw [Tryd.params4] at ht
        have hm : t ∈ [24] := by simpa using Array.mem_of_getElem? ht
        have hall : ([24].all fun u => !Tryd.prog.wantsStandIn u) = true := by kernel_rfl
        exact (show Tryd.prog.wantsStandIn t = false by simpa using List.all_eq_true.1 hall t hm)⟩)
    (by kernel_rfl)
#print axioms proved
end Go.Proofs.YtocdpgogoadfnaaDoor.fnExactFunsOf
