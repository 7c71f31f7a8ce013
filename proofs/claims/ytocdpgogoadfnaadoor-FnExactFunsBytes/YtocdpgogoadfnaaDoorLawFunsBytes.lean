/- laws.FnExactFunsBytes: the walk, over a premise on impl.FunsBytes. -/
import Derived.Test.YtocdpgogoadfnaaDoorRows
import Derived.Test.YtocdpgogoadfnaaDoorSzFun
import Derived.Test.YtocdpgogoadfnaaDoorToFunM
import Derived.Test.YtocdpgogoadfnaaDoorEqFun
import Derived.Test.YtocdpgogoadfnaaDoorFunOpen
import Derived.Test.YtocdpgogoadfnaaDoorMarkFunM
import Derived.Test.YtocdpgogoadfnaaDoorSpecFunsBytes
import Derived.WalkKit
import Derived.ProofKit
import Derived.Deep.Cut
namespace Go.Proofs.YtocdpgogoadfnaaDoor.fnExactFunsBytes
open Go.ChangeShapes Go.WideShapes Go.ChangeAt Go.RowKit

/-- What the program must answer, in worlds in which its tables read so (T). -/
def ImplB (T : World → Prop) : Prop := ∀ (nf : Nat) (kid : Nat → Fu) (w : World) (v : Value), Fl w nf kid v → nf ≤ 1048576 → T w → Calls Tryd.prog 8 #[v] w (BytesPost nf kid w)
theorem rd_keptY {w w' : World} {v : Value} {xs : List Nat} (h : RdY w v xs) (hk : ∀ k, k < w.heap.size → w'.heap[k]? = w.heap[k]?) : RdY w' v xs := by
  rcases h with h | ⟨b, off, cap, rfl, hl, hc⟩
  · exact .inl h
  · exact .inr ⟨b, off, cap, rfl, hl, fun j hj => (World.cell?_of_block (w := w) (hk b (World.block_lt_of_cell? w _ (hc j hj)))).trans (hc j hj)⟩
theorem own_shapeY {w : World} {B : Nat} {v : Value} {xs : List Nat} (h : OwnY w B v xs) : ∃ p c, v = .slice p xs.length c := by
  rcases h.2 with ⟨e, h0⟩ | ⟨g, cap, cur, e, _⟩
  · exact ⟨none, 0, by rw [e, h0]⟩
  · exact ⟨_, cap, e⟩
theorem funs_most {nf : Nat} {kid : Nat → Fu} (h : funsWeight nf kid ≤ 1048576) : ∀ j, j ≤ nf → 1 + cntF15 kid j ≤ 1099511627776 := by
  have key : ∀ j, cntF15 kid j ≤ j + 3 * sumF (fun i => (kid i).weight) j := by
    intro j
    induction j with
    | zero => exact Nat.zero_le _
    | succ j ih =>
      have e : (kid j).weight = (kid j).len := rfl
      simp only [cntF15, sumF]
      omega
  have mono : ∀ m j, j ≤ m → sumF (fun i => (kid i).weight) j ≤ sumF (fun i => (kid i).weight) m := by
    intro m
    induction m with
    | zero => intro j hj; obtain rfl : j = 0 := by omega
              exact Nat.le_refl _
    | succ m ih =>
      intro j hj
      rcases Nat.lt_or_ge j (m + 1) with h1 | h1
      · have := ih j (by omega); simp only [sumF]; omega
      · obtain rfl : j = m + 1 := by omega
        exact Nat.le_refl _
  intro j hj
  have h1 := key j
  have h2 := mono nf j hj
  unfold funsWeight at h
  omega
theorem mk_belowD {B C : Nat} {w0 w w' : World} (hb : Below w0.heap.size w0 w) (hB : w0.heap.size ≤ B) (k : MK B C w w') : Below w0.heap.size w0 w' :=
  ⟨k.os.trans hb.os, k.tape.trans hb.tape, k.output.trans hb.output, Nat.le_trans hb.size k.size, fun j hj => (k.block j (Nat.lt_of_lt_of_le hj hb.size) (.inl (by omega))).trans (hb.block j hj)⟩
theorem own_belowD {w w' : World} {B : Nat} {v : Value} {xs : List Nat} (h : OwnY w B v xs) (hk : ∀ k, B ≤ k → k < w.heap.size → w'.heap[k]? = w.heap[k]?) : OwnY w' B v xs := by
  have hl := fun k hk => h.lt k hk
  refine ⟨h.1, ?_⟩
  rcases h.2 with hn | ⟨g, cap, cur, rfl, hbg, hgg, rest⟩
  · exact .inl hn
  · exact .inr ⟨g, cap, cur, rfl, hbg, (hk g (hl g rfl).1 (hl g rfl).2).trans hgg, rest⟩

set_option maxRecDepth 100000 in
set_option maxHeartbeats 4000000 in
theorem walk {T : World → Prop} (himpl : ImplB T) (len : Nat) (kid : Nat → Fu) (v : Value) (w : World) (hv : Fl w len kid v) (ht : ∀ w1, Below w.heap.size w w1 → T w1) :
    Calls Tryd.prog 3 #[v] w fun e w' => e = .returned (.bool true) ∧ Below w.heap.size w w' := by
  obtain ⟨p, cap, ev⟩ := hv.shape
  have HV : Hid (∀ w1, Below w.heap.size w w1 → Fl w1 len kid v) := fun w1 h => hv.below h
  have HTB : Hid (∀ w1, Below w.heap.size w w1 → T w1) := ht
  have HIM : Hid (ImplB T) := himpl
  have hnf : funsWeight len kid ≤ 1048576 → len ≤ 1048576 := fun h => by unfold funsWeight at h; omega
  clear hv ht himpl
  subst ev
  by_cases h1 : funsWeight len kid ≤ 1048576
  · have E1 : Hid (szF 1048576 (funsWeight len kid) = ((1048576 - funsWeight len kid : Nat) : Int)) := szF_yes h1
    have H1 : Hid (funsWeight len kid ≤ 1048576) := h1
    have HNF : Hid (len ≤ 1048576) := hnf h1
    generalize 1048576 - funsWeight len kid = y1 at *
    clear h1 hnf
    go_enter Tryd.func3, Tryd.ntmps3
    go_wp2_with fail
    refine (sz_funs len kid w _ 1048576 (HV.out _ (Below.refl _ _)) (by omega)).mono ?_
    rintro e w1 ⟨rfl, hb1⟩
    rw [E1.out]
    have B1 : Hid (Below w.heap.size w w1) := hb1
    clear hb1
    go_wp2_with fail
    refine (to_funs len kid w1 _ (HV.out _ B1.out) H1.out).mono ?_
    rintro e w2 ⟨x, rfl, hb2, hx⟩
    have B2 : Hid (Below w.heap.size w w2) := B1.out.trans (hb2.mono B1.out.size)
    have HX : Hid (Fl w2 len kid x) := hx.all
    clear hb2 hx B1
    go_wp2_with fail
    refine (spec_funs_bytes len kid w2 x HX.out).mono ?_
    rintro e w3 ⟨u0, D, rfl, hdo, hu0, hb3⟩
    have B3 : Hid (Below w.heap.size w w3) := B2.out.trans (hb3.mono B2.out.size)
    have HDO : Hid (FunsY len kid D) := hdo
    have HDL : Hid (D.length ≤ 2760010) := funsY_most hdo
    have HU3 : Hid (RdY w3 u0 D) := OwnY.rd hu0
    obtain ⟨pu, cu, eu⟩ := own_shapeY hu0
    clear hb3 B2 HX hu0 hdo
    subst eu
    go_wp2_with fail
    refine (to_funs_m len kid w3 _ (HV.out _ B3.out) H1.out).mono ?_
    rintro e w4 ⟨y, rfl, hb4, hy⟩
    have B4 : Hid (Below w.heap.size w w4) := B3.out.trans (hb4.mono B3.out.size)
    have B34 : Hid (Below w3.heap.size w3 w4) := hb4
    have HY : Hid (FlO w3.heap.size w4 len kid y) := hy
    clear hb4 hy
    go_wp2_with fail
    refine (HIM.out len kid w4 y HY.out.1.all HNF.out (HTB.out _ B4.out)).mono ?_
    rintro e w5 ⟨g0, D', rfl, hdo, hg0, hb5⟩
    obtain rfl := funsY_same HDO.out hdo
    have B5 : Hid (Below w4.heap.size w4 w5) := hb5
    have HO5 : Hid (OwnY w5 w4.heap.size g0 D') := hg0
    obtain ⟨pg, cg, eg⟩ := own_shapeY hg0
    clear hb5 hg0 hdo
    subst eg
    have HEQ : Hid (∀ wx a b, RdY wx a D' → RdY wx b D' → Calls Tryd.prog 9 #[a, b] wx fun e w' => e = .returned (.bool true) ∧ Below wx.heap.size wx w') := fun wx a b h2 h3 => by
      exact eq_bytes D' a b wx h2 h3 (by have := HDL.out; omega)
    have HCE : Hid (Calls Tryd.prog 9 #[.slice pg D'.length cg, .slice pu D'.length cu] w5 fun e w' => e = .returned (.bool true) ∧ Below w5.heap.size w5 w') := HEQ.out w5 _ _ (OwnY.rd HO5.out) (HU3.out.below (B34.out.trans (B5.out.mono B34.out.size)))
    go_wp2_with fail
    refine HCE.out.mono ?_
    rintro e w6 ⟨rfl, hb6⟩
    have B6 : Hid (Below w4.heap.size w4 w6) := B5.out.trans (hb6.mono B5.out.size)
    have HO6 : Hid (OwnY w6 w4.heap.size (.slice pg D'.length cg) D') := own_belowD HO5.out (fun k _ h => hb6.block k h)
    clear hb6 HCE HO5 B5
    go_wp2_with fail
    refine (to_funs len kid w6 _ (HV.out _ (B4.out.trans (B6.out.mono B4.out.size))) H1.out).mono ?_
    rintro e w7 ⟨z, rfl, hb7, hz⟩
    have B7 : Hid (Below w4.heap.size w4 w7) := B6.out.trans (hb7.mono B6.out.size)
    have HO7 : Hid (OwnY w7 w4.heap.size (.slice pg D'.length cg) D') := own_belowD HO6.out (fun k _ h => hb7.block k h)
    have HYZ : Hid (Fl w7 len kid y ∧ Fl w7 len kid z) := ⟨HY.out.1.all.below B7.out, hz.all⟩
    clear hb7 hz B6 HO6
    go_wp2_with fail
    refine (eq_funs len kid w7 y z HYZ.out.1 HYZ.out.2).mono ?_
    rintro e w8 ⟨rfl, hb8⟩
    have B8 : Hid (Below w4.heap.size w4 w8) := B7.out.trans (hb8.mono B7.out.size)
    have HO8 : Hid (OwnY w8 w4.heap.size (.slice pg D'.length cg) D') := own_belowD HO7.out (fun k _ h => hb8.block k h)
    have HMB : Hid (MFl w3.heap.size w4.heap.size w8 len kid y) := HY.out.2.keep (MK.below B8.out (Nat.le_refl _))
    clear hb8 HYZ B7 HO7 HY
    have HMA : Hid (Calls Tryd.prog 11 #[y, .int .i64 1] w8 fun e w' => e = .returned (.int .i64 (1 + cntF15 kid len : Nat)) ∧ MK w3.heap.size w4.heap.size w8 w') := mark_funs_m w3.heap.size w4.heap.size w8 len kid y 1 HMB.out (funs_most H1.out)
    have hcm := funs_most H1.out len (Nat.le_refl _)
    generalize 1 + cntF15 kid len = CM at *
    go_wp2_with fail
    refine HMA.out.mono ?_
    rintro e w9 ⟨rfl, hk9⟩
    have HB8 : Hid (Below w.heap.size w w8) := B4.out.trans (B8.out.mono B4.out.size)
    have B9 : Hid (Below w.heap.size w w9) := mk_belowD HB8.out B3.out.size hk9
    have HO9 : Hid (OwnY w9 w4.heap.size (.slice pg D'.length cg) D') := own_belowD HO8.out (fun k h1 h2 => hk9.block k h2 (.inr h1))
    have HSZ9 : Hid (w4.heap.size ≤ w9.heap.size) := Nat.le_trans B8.out.size hk9.size
    have HU9 : Hid (∀ wx, (∀ k, k < w4.heap.size → wx.heap[k]? = w9.heap[k]?) → RdY wx (.slice pu D'.length cu) D') := fun wx hx => rd_keptY HU3.out (fun k hk => by
      have a1 := B34.out.size
      have a2 := B8.out.size
      rw [hx k (by omega), hk9.block k (by omega) (.inl hk), B8.out.block k (by omega), B34.out.block k hk])
    clear hk9 HMA HMB B8 HO8 HB8 B34
    have HCE : Hid (Calls Tryd.prog 9 #[.slice pg D'.length cg, .slice pu D'.length cu] w9 fun e w' => e = .returned (.bool true) ∧ Below w9.heap.size w9 w') := HEQ.out w9 _ _ (OwnY.rd HO9.out) (HU9.out w9 (fun _ _ => rfl))
    go_wp2_with fail
    refine HCE.out.mono ?_
    rintro e w10 ⟨rfl, hb10⟩
    have B10 : Hid (Below w.heap.size w w10) := B9.out.trans (hb10.mono B9.out.size)
    have HO10 : Hid (OwnY w10 w4.heap.size (.slice pg D'.length cg) D') := own_belowD HO9.out (fun k _ h => hb10.block k h)
    have HU10 : Hid (∀ wx, (∀ k, k < w4.heap.size → wx.heap[k]? = w10.heap[k]?) → RdY wx (.slice pu D'.length cu) D') := fun wx hx => HU9.out wx (fun k hk => (hx k hk).trans (hb10.block k (Nat.lt_of_lt_of_le hk HSZ9.out)))
    have HSZ10 : Hid (w4.heap.size ≤ w10.heap.size) := Nat.le_trans HSZ9.out hb10.size
    clear hb10 HCE HU9 HO9 B9 HSZ9
    have hdl := HDL.out
    obtain ⟨M, hM⟩ : ∃ M, M = 1 + D'.length := ⟨_, rfl⟩
    have hM2 : M ≤ 2760011 := by omega
    have HMF : Hid (Calls Tryd.prog 12 #[.slice pg D'.length cg, .int .i64 1] w10 fun e w' => e = .returned (.int .i64 (M : Nat)) ∧ OwnY w' w4.heap.size (.slice pg D'.length cg) (marksY 1 D'.length) ∧ w10.grownBy w' (Value.slice pg D'.length cg).ownBlock) := by
      rw [hM]; exact mark_bytes _ w4.heap.size D' 1 w10 HO10.out (by omega) (by omega)
    have HHF : Hid (∀ wx, RdY wx (.slice pg D'.length cg) (marksY 1 D'.length) → Calls Tryd.prog 13 #[.slice pg D'.length cg, .int .i64 1] wx fun e w' => e = .returned (.int .i64 (M : Nat)) ∧ wx = w') := fun wx h => by
      rw [hM]
      exact (held_bytes D'.length _ 1 wx h (by omega) (by omega)).mono fun e w' ⟨a, b⟩ => ⟨a, b.symm⟩
    clear hM
    go_wp2_with fail
    refine HMF.out.mono ?_
    rintro e w11 ⟨rfl, ho11, hk11⟩
    have hge : ∀ g, (Value.slice pg D'.length cg).ownBlock = some g → w4.heap.size ≤ g := fun g e => (HO10.out.lt g e).1
    have B11 : Hid (Below w.heap.size w w11) := ⟨hk11.os.trans B10.out.os, hk11.tape.trans B10.out.tape, hk11.output.trans B10.out.output, Nat.le_trans B10.out.size hk11.size, fun k hk => (hk11.block k (Nat.lt_of_lt_of_le hk B10.out.size) (fun e => by have := hge k e.symm; have := B4.out.size; omega)).trans (B10.out.block k hk)⟩
    have HU11 : Hid (∀ wx, (∀ k, k < w4.heap.size → wx.heap[k]? = w11.heap[k]?) → RdY wx (.slice pu D'.length cu) D') := fun wx hx => HU10.out wx (fun k hk => (hx k hk).trans (hk11.block k (Nat.lt_of_lt_of_le hk HSZ10.out) (fun e => by have := hge k e.symm; omega)))
    have HSZ11 : Hid (w4.heap.size ≤ w11.heap.size) := Nat.le_trans HSZ10.out hk11.size
    have HRD : Hid (RdY w11 (.slice pg D'.length cg) (marksY 1 D'.length)) := by
      have h2 : OwnY w11 w4.heap.size (.slice pg D'.length cg) (marksY 1 D'.length) := ho11
      exact OwnY.rd h2
    have HHE : Hid (∀ wx, Below w11.heap.size w11 wx → Calls Tryd.prog 13 #[.slice pg D'.length cg, .int .i64 1] wx fun e w' => e = .returned (.int .i64 (M : Nat)) ∧ wx = w') := fun wx hb => HHF.out wx (HRD.out.below hb)
    clear ho11 hk11 hge HMF HHF HU10 HO10 B10 HSZ10
    go_wp2_with fail
    refine (HHE.out _ (Below.refl _ _)).mono ?_
    rintro e w12 ⟨rfl, rfl⟩
    go_wp2_with fail
    refine (to_funs len kid w11 _ (HV.out _ B11.out) H1.out).mono ?_
    rintro e w13 ⟨y2, rfl, hb13, hy2⟩
    have B13 : Hid (Below w11.heap.size w11 w13) := hb13
    have BW13 : Hid (Below w.heap.size w w13) := B11.out.trans (hb13.mono B11.out.size)
    have HY2 : Hid (Fl w13 len kid y2) := hy2.all
    clear hb13 hy2
    go_wp2_with fail
    refine (HIM.out len kid w13 y2 HY2.out HNF.out (HTB.out _ BW13.out)).mono ?_
    rintro e w14 ⟨h0, D2, rfl, hdo2, hh0, hb14⟩
    obtain rfl := funsY_same HDO.out hdo2
    have B14 : Hid (Below w11.heap.size w11 w14) := B13.out.trans (hb14.mono B13.out.size)
    have HH14 : Hid (RdY w14 h0 D2) := OwnY.rd hh0
    obtain ⟨p2, c2, e2⟩ := own_shapeY hh0
    clear hb14 hh0 hdo2 B13 BW13 HY2
    subst e2
    have HCE : Hid (Calls Tryd.prog 9 #[.slice p2 D2.length c2, .slice pu D2.length cu] w14 fun e w' => e = .returned (.bool true) ∧ Below w14.heap.size w14 w') := HEQ.out w14 _ _ HH14.out (HU11.out w14 (fun k hk => B14.out.block k (Nat.lt_of_lt_of_le hk HSZ11.out)))
    go_wp2_with fail
    refine HCE.out.mono ?_
    rintro e w15 ⟨rfl, hb15⟩
    have B15 : Hid (Below w11.heap.size w11 w15) := B14.out.trans (hb15.mono B14.out.size)
    clear hb15 HCE HH14 B14
    go_wp2_with fail
    refine (HHE.out _ B15.out).mono ?_
    rintro e w16 ⟨rfl, rfl⟩
    go_wp2_with fail
    go_ret
    exact ⟨rfl, B11.out.trans (B15.out.mono B11.out.size)⟩
  · have E1 : Hid (szF 1048576 (funsWeight len kid) = -1) := szF_no (by omega)
    clear hnf
    go_enter Tryd.func3, Tryd.ntmps3
    go_wp2_with fail
    refine (sz_funs len kid w _ 1048576 (HV.out _ (Below.refl _ _)) (by omega)).mono ?_
    rintro e w1 ⟨rfl, hb1⟩
    rw [E1.out]
    have B1 : Hid (Below w.heap.size w w1) := hb1
    clear hb1
    go_wp2_with fail
    go_ret
    exact ⟨rfl, B1.out⟩
end Go.Proofs.YtocdpgogoadfnaaDoor.fnExactFunsBytes
