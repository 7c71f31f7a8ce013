/- At every list of blocks impl.Gen answers as spec.Gen, writes into none and keeps nothing of one, and its answer owns its memory: laws.FnExactGen returns true, and the argument reads as before. Condition (the card ties it to the program's text): the listed tables read as their texts lay them. -/
import Derived.Test.YthnhdmanmmdoiaaDoorRows
import Derived.Test.YthnhdmanmmdoiaaDoorTie
import Derived.Test.YthnhdmanmmdoiaaDoorCards
import Derived.Test.YthnhdmanmmdoiaaDoorZG0Dat
import Derived.Test.YthnhdmanmmdoiaaDoorZG2SzBlk
import Derived.Test.YthnhdmanmmdoiaaDoorZG7EqIr
import Derived.Test.YthnhdmanmmdoiaaDoorZG8Fun
import Derived.Test.YthnhdmanmmdoiaaDoorZG9DatOpen
import Derived.Test.YthnhdmanmmdoiaaDoorZG10BlkOpen
import Derived.Test.YthnhdmanmmdoiaaDoorZG26OwnCut
import Derived.Test.YthnhdmanmmdoiaaDoorZG36MarkIr
import Derived.Test.YthnhdmanmmdoiaaDoorZHeldFun
import Derived.WalkKit
import Derived.ProofKit
import Derived.LaidMore
import Derived.OpenShut
import Derived.OpenVars
import Derived.ChangeVars
import Derived.WideKeyArgs
import Derived.Stop.Joined
import Derived.SevenTiedAt
import Derived.Deep.Cut
namespace Go.Proofs.YthnhdmanmmdoiaaDoor.fnExactGen
open Go.ChangeShapes Go.WideShapes Go.ChangeAt Go.RowKit

theorem trodVars_three {H : Type} {enc : TypeId × Value → H} {P : Program} {w : World} {spare : Nat → Bool} {n0 n1 n2 : String} {gs : List (DataW H)} {ps : List MemPlace} (h : DataW.TrodVars enc P w spare [n0, n1, n2] gs ps) : ∃ d0 d1 d2, gs = [d0, d1, d2] := by
  cases gs with
  | nil => simp [DataW.TrodVars] at h
  | cons d ds =>
    obtain ⟨g0, t0, cs0, f0, p0, q0, h1, h2, h3, h4, hs, e⟩ := h
    obtain ⟨_, _, _, _, d1, _, _, _, _, _, d2, _, rfl, _⟩ := trodVars_two hs
    exact ⟨d, d1, d2, rfl⟩

/-- How many functions are made, and whether. -/
def Made (nb : Nat) (kb : Nat → Kb) (n : Nat) (ok : Bool) : Prop := (n = nb ∧ ok = true ∧ blksB nb kb = true ∧ FunsP nb (fun i => genF (kb i))) ∨ (n = 0 ∧ ok = false ∧ ¬ (blksB nb kb = true ∧ FunsP nb (fun i => genF (kb i))))
theorem made_some (nb : Nat) (kb : Nat → Kb) : ∃ n ok, Made nb kb n ok := by
  by_cases h : blksB nb kb = true ∧ FunsP nb (fun i => genF (kb i))
  · exact ⟨nb, true, .inl ⟨rfl, rfl, h.1, h.2⟩⟩
  · exact ⟨0, false, .inr ⟨rfl, rfl, h⟩⟩
theorem fl_none {w : World} {kid kid' : Nat → Fu} {v : Value} (h : Fl w 0 kid v) : Fl w 0 kid' v := by
  obtain ⟨p, cap, e⟩ := h.shape
  exact .inl ⟨rfl, p, cap, e⟩
theorem spec_made {nb : Nat} {kb : Nat → Kb} {n : Nat} {ok : Bool} (hm : Made nb kb n ok) (w : World) (v : Value) (hv : Kl w nb kb v) (hw : kidsWeightK nb kb ≤ 1048576) :
    Calls Tryd.prog 5 #[v] w fun e w' => ∃ u, e = .returned (.tuple #[u, .bool ok]) ∧ Below w.heap.size w w' ∧ Fl w' n (fun i => genF (kb i)) u := by
  refine (spec_gen14 nb kb w v hv hw).mono fun e w' ⟨u, ok', h1, h2, h3⟩ => ?_
  rcases hm with ⟨rfl, rfl, h4, h5⟩ | ⟨rfl, rfl, h4⟩ <;> rcases h3 with ⟨rfl, h6, h7⟩ | ⟨rfl, h6, h7⟩
  · exact ⟨u, h1, h2, h7⟩
  · exact absurd ⟨h4, h5⟩ h6
  · exact absurd h6 h4
  · exact ⟨u, h1, h2, fl_none h7⟩
theorem impl_made {nb : Nat} {kb : Nat → Kb} {n : Nat} {ok : Bool} (hm : Made nb kb n ok) (w : World) (v : Value) (hv : Kl w nb kb v) (hk : KidTab w) (hc : CodeTab w) (ht : NameTab w) (hw : kidsWeightK nb kb ≤ 1048576) :
    Calls Tryd.prog 7 #[v] w fun e w' => ∃ u le, e = .returned (.tuple #[u, .bool ok]) ∧ Below w.heap.size w w' ∧ le.length = n ∧ FEs kb le ∧ FOwn w.heap.size w' u le := by
  refine (impl_gen14 nb kb w v hv hk hc ht hw).mono fun e w' ⟨u, ok', h1, h2, h3⟩ => ?_
  rcases hm with ⟨rfl, rfl, h4, h5⟩ | ⟨rfl, rfl, h4⟩ <;> rcases h3 with ⟨rfl, h6, le, h7, h8, h9⟩ | ⟨rfl, h6, h7⟩
  · exact ⟨u, le, h1, h2, h7, h8, h9⟩
  · exact absurd ⟨h4, h5⟩ h6
  · exact absurd h6 h4
  · exact ⟨u, [], h1, h2, rfl, (fun i e h => by simp at h), ⟨by rw [h7]; exact ⟨rfl, .inl ⟨rfl, rfl⟩⟩, (fun i e h => by simp at h), (fun i j ei ej h => by simp at h), (fun i e h => by simp at h)⟩⟩
/-- What the functions' numbers are, and how many marks they take. -/
theorem made_ok {nb : Nat} {kb : Nat → Kb} {n : Nat} {ok : Bool} (hm : Made nb kb n ok) {w : World} {v : Value} (hv : Kl w nb kb v) : ∀ i, i < n → I64 (kb i).fr ∧ (∀ q ∈ opsG (kb i), q.Ok) ∧ (opsG (kb i)).length ≤ 8001 ∧ n ≤ 60 := by
  intro i hi
  rcases hm with ⟨rfl, _, h4, _⟩ | ⟨rfl, _, _⟩
  · obtain ⟨p, cap, _, _, hat⟩ := hv.at
    obtain ⟨b, o, u, _, _, hin⟩ := hat i hi
    obtain ⟨a1, a2⟩ := blk_right h4
    obtain ⟨b1, b2⟩ := a2 i hi
    have hl := genI_len (kb i).bd [0] 1 0 1 b1
    refine ⟨hin.1, opsG_ok h4 hi (AllN.of_in _ hin.2), ?_, a1.2⟩
    unfold opsG
    rw [List.length_append]
    simp only [List.length_cons, List.length_nil]
    omega
  · omega
theorem marks_most {kb : Nat → Kb} {n : Nat} {le : List Fe} (hl : le.length = n) (he : FEs kb le) (hn : ∀ i, i < n → (opsG (kb i)).length ≤ 8001 ∧ n ≤ 60) : cAt 1 le le.length ≤ 1099511627776 := by
  have : ∀ k, k ≤ n → cAt 1 le k ≤ 1 + k * 24004 := by
    intro k
    induction k with
    | zero => intro _; exact Nat.le_refl _
    | succ k ih =>
      intro hk
      have h1 := ih (by omega)
      have hq : le[k]? = some (le.getD k default) := by rw [List.getD_eq_getElem?_getD, List.getElem?_eq_getElem (by omega)]; rfl
      have h2 := (he k _ hq).2
      have h3 := (hn k (by omega)).1
      simp only [cAt]
      rw [h2]
      omega
  have h1 := this n (Nat.le_refl _)
  rw [hl]
  rcases Nat.eq_zero_or_pos n with h0 | h0
  · rw [h0] at h1 ⊢; omega
  · have h60 := (hn 0 h0).2; omega
theorem blocks_most {nb : Nat} {kb : Nat → Kb} (h : kidsWeightK nb kb ≤ 1048576) : ∀ j, j ≤ nb → 1 + cntB14 kb j ≤ 1099511627776 := by
  have key : ∀ j, cntB14 kb j ≤ 3 * j + 2 * sumTo (fun i => (kb i).weight) j := by
    intro j
    induction j with
    | zero => exact Nat.zero_le _
    | succ j ih =>
      have := (kb j).bd.count_weight
      have e : (kb j).weight = (kb j).bd.weight := rfl
      unfold cntB14 at ih ⊢
      simp only [sumTo]
      omega
  have mono : ∀ m j, j ≤ m → sumTo (fun i => (kb i).weight) j ≤ sumTo (fun i => (kb i).weight) m := by
    intro m
    induction m with
    | zero => intro j hj; obtain rfl : j = 0 := by omega
              exact Nat.le_refl _
    | succ m ih =>
      intro j hj
      rcases Nat.lt_or_ge j (m + 1) with h1 | h1
      · have := ih j (by omega); simp only [sumTo]; omega
      · obtain rfl : j = m + 1 := by omega
        exact Nat.le_refl _
  intro j hj
  have h1 := key j
  have h2 := mono nb j hj
  unfold kidsWeightK at h
  omega
/-- What is owned stays when only other blocks turn. -/
theorem fown_kept {B : Nat} {w w' : World} {vo : Value} {le : List Fe} (h : FOwn B w vo le) (hk : ∀ k, B ≤ k → k < w.heap.size → w'.heap[k]? = w.heap[k]?) : FOwn B w' vo le :=
  ⟨own_keep h.row (fun g e => hk g (own_between h.row e).1 (own_between h.row e).2), fun i e hi => own_keep (h.el i e hi) (fun g eg => hk g (own_between (h.el i e hi) eg).1 (own_between (h.el i e hi) eg).2), h.apart, h.ne⟩
theorem fl_kept {w w' : World} {n : Nat} {kid : Nat → Fu} {v : Value} (h : Fl w n kid v) (hk : ∀ k, k < w.heap.size → w'.heap[k]? = w.heap[k]?) : Fl w' n kid v :=
  FlB.kept (fun a _ _ hc => (World.cell?_of_block (w := w) (hk a.block (World.block_lt_of_cell? w _ hc))).trans hc) h
theorem keep_below {B : Nat} {w0 w w' : World} {vo : Value} {le : List Fe} (hb : Below w0.heap.size w0 w) (ho : FOwn B w vo le) (hB : w0.heap.size ≤ B) (k : FKeep vo le w w') : Below w0.heap.size w0 w' := by
  obtain ⟨k1, k2, k3, k4, k5⟩ := k
  exact ⟨k1.trans hb.os, k2.trans hb.tape, k3.trans hb.output, Nat.le_trans hb.size k4, fun j hj => (k5 j (Nat.lt_of_lt_of_le hj hb.size) (fun e => by have := (own_between ho.row e).1; omega) (fun i e hi e2 => by have := (own_between (ho.el i e hi) e2).1; omega)).trans (hb.block j hj)⟩
theorem mk_below {B C : Nat} {w0 w w' : World} (hb : Below w0.heap.size w0 w) (hB : w0.heap.size ≤ B) (k : MK B C w w') : Below w0.heap.size w0 w' :=
  ⟨k.os.trans hb.os, k.tape.trans hb.tape, k.output.trans hb.output, Nat.le_trans hb.size k.size, fun j hj => (k.block j (Nat.lt_of_lt_of_le hj hb.size) (.inl (by omega))).trans (hb.block j hj)⟩

set_option maxRecDepth 100000 in
set_option maxHeartbeats 4000000 in
theorem walk (len : Nat) (kid : Nat → Kb) (v : Value) (w : World) (hv : Kl w len kid v) (hk : KidTab w) (hc : CodeTab w) (ht : NameTab w) :
    Calls Tryd.prog 3 #[v] w fun e w' => e = .returned (.bool true) ∧ Below w.heap.size w w' := by
  obtain ⟨p, cap, ev⟩ := hv.shape
  have HV : Hid (∀ w1, Below w.heap.size w w1 → Kl w1 len kid v) := fun w1 h => hv.below h
  have HTB : Hid (∀ w1, Below w.heap.size w w1 → KidTab w1 ∧ CodeTab w1 ∧ NameTab w1) := fun w1 h => ⟨hk.below h, hc.below h, ht.below h⟩
  obtain ⟨n, ok, hm⟩ := made_some len kid
  have HM : Hid (Made len kid n ok) := hm
  have HOK : Hid (∀ i, i < n → I64 (kid i).fr ∧ (∀ q ∈ opsG (kid i), q.Ok) ∧ (opsG (kid i)).length ≤ 8001 ∧ n ≤ 60) := made_ok hm hv
  clear hv hk hc ht hm
  subst ev
  by_cases h1 : kidsWeightK len kid ≤ 1048576
  · have E1 : Hid (szI 1048576 (kidsWeightK len kid) = ((1048576 - kidsWeightK len kid : Nat) : Int)) := szI_yes h1
    have H1 : Hid (kidsWeightK len kid ≤ 1048576) := h1
    generalize 1048576 - kidsWeightK len kid = y1 at *
    clear h1
    go_enter Tryd.func3, Tryd.ntmps3
    go_wp2_with fail
    refine (sz_blks len kid w _ 1048576 (HV.out _ (Below.refl _ _)) (by omega)).mono ?_
    rintro e w1 ⟨rfl, hb1⟩
    rw [E1.out]
    have B1 : Hid (Below w.heap.size w w1) := hb1
    clear hb1
    go_wp2_with fail
    refine (to_blks len kid w1 _ (HV.out _ B1.out) H1.out).mono ?_
    rintro e w2 ⟨x, rfl, hb2, hx⟩
    have B2 : Hid (Below w.heap.size w w2) := B1.out.trans (hb2.mono B1.out.size)
    have HX : Hid (Kl w2 len kid x) := hx.all
    clear hb2 hx B1
    go_wp2_with fail
    refine (spec_made HM.out w2 x HX.out H1.out).mono ?_
    rintro e w3 ⟨u0, rfl, hb3, hu0⟩
    have B3 : Hid (Below w.heap.size w w3) := B2.out.trans (hb3.mono B2.out.size)
    have HU3 : Hid (Fl w3 n (fun i => genF (kid i)) u0) := hu0
    obtain ⟨pu, cu, eu⟩ := hu0.shape
    clear hb3 B2 HX hu0
    subst eu
    go_wp2_with fail
    refine (to_blks_m len kid w3 _ (HV.out _ B3.out) H1.out).mono ?_
    rintro e w4 ⟨y, rfl, hb4, hy⟩
    have B4 : Hid (Below w.heap.size w w4) := B3.out.trans (hb4.mono B3.out.size)
    have B34 : Hid (Below w3.heap.size w3 w4) := hb4
    have HY : Hid (KlO w3.heap.size w4 len kid y) := hy
    clear hb4 hy
    go_wp2_with fail
    refine (impl_made HM.out w4 y HY.out.1.all (HTB.out _ B4.out).1 (HTB.out _ B4.out).2.1 (HTB.out _ B4.out).2.2 H1.out).mono ?_
    rintro e w5 ⟨g0, le, rfl, hb5, hle, hfe, hfo⟩
    have B5 : Hid (Below w4.heap.size w4 w5) := hb5
    have HLE : Hid (le.length = n ∧ FEs kid le) := ⟨hle, hfe⟩
    have HFO : Hid (FOwn w4.heap.size w5 g0 le) := hfo
    have HFL : Hid (∀ wx, FOwn w4.heap.size wx g0 le → Fl wx n (fun i => genF (kid i)) g0) := fun wx h => by
      have h2 := (h.fl hfe (fun i hi => ⟨(HOK.out i (by rw [hle] at hi; exact hi)).1, (HOK.out i (by rw [hle] at hi; exact hi)).2.1⟩)).all
      rw [hle] at h2
      exact h2
    have HCM : Hid (cAt 1 le le.length ≤ 1099511627776) := marks_most hle hfe (fun i hi => ⟨(HOK.out i hi).2.2.1, (HOK.out i hi).2.2.2⟩)
    obtain ⟨pg, cg, eg⟩ := (HFL.out w5 hfo).shape
    clear hb5 hle hfe hfo
    subst eg
    have HCE : Hid (Calls Tryd.prog 8 #[.slice pg n cg, .slice pu n cu] w5 fun e w' => e = .returned (.bool true) ∧ Below w5.heap.size w5 w') := eq_funs n _ w5 _ _ (HFL.out w5 HFO.out) (HU3.out.below (B34.out.trans (B5.out.mono B34.out.size)))
    go_wp2_with fail
    refine HCE.out.mono ?_
    rintro e w6 ⟨rfl, hb6⟩
    have B6 : Hid (Below w4.heap.size w4 w6) := B5.out.trans (hb6.mono B5.out.size)
    have HFO6 : Hid (FOwn w4.heap.size w6 (.slice pg n cg) le) := fown_kept HFO.out (fun k _ h => hb6.block k h)
    clear hb6 HCE HFO B5
    go_wp2_with fail
    refine (to_blks len kid w6 _ (HV.out _ (B4.out.trans (B6.out.mono B4.out.size))) H1.out).mono ?_
    rintro e w7 ⟨z, rfl, hb7, hz⟩
    have B7 : Hid (Below w4.heap.size w4 w7) := B6.out.trans (hb7.mono B6.out.size)
    have HFO7 : Hid (FOwn w4.heap.size w7 (.slice pg n cg) le) := fown_kept HFO6.out (fun k _ h => hb7.block k h)
    have HYZ : Hid (Kl w7 len kid y ∧ Kl w7 len kid z) := ⟨HY.out.1.all.below B7.out, hz.all⟩
    clear hb7 hz B6 HFO6
    go_wp2_with fail
    refine (eq_blks len kid w7 y z HYZ.out.1 HYZ.out.2).mono ?_
    rintro e w8 ⟨rfl, hb8⟩
    have B8 : Hid (Below w4.heap.size w4 w8) := B7.out.trans (hb8.mono B7.out.size)
    have HFO8 : Hid (FOwn w4.heap.size w8 (.slice pg n cg) le) := fown_kept HFO7.out (fun k _ h => hb8.block k h)
    have HMB : Hid (MBl w3.heap.size w4.heap.size w8 len kid y) := HY.out.2.keep (MK.below B8.out (Nat.le_refl _))
    clear hb8 HYZ B7 HFO7 HY
    have HMA : Hid (Calls Tryd.prog 10 #[y, .int .i64 1] w8 fun e w' => e = .returned (.int .i64 (1 + cntB14 kid len : Nat)) ∧ MK w3.heap.size w4.heap.size w8 w') := mark_blks w3.heap.size w4.heap.size w8 len kid y 1 HMB.out (blocks_most H1.out)
    have hcm := blocks_most H1.out len (Nat.le_refl _)
    generalize 1 + cntB14 kid len = CM at *
    go_wp2_with fail
    refine HMA.out.mono ?_
    rintro e w9 ⟨rfl, hk9⟩
    have HB8 : Hid (Below w.heap.size w w8) := B4.out.trans (B8.out.mono B4.out.size)
    have B9 : Hid (Below w.heap.size w w9) := mk_below HB8.out B3.out.size hk9
    have HFO9 : Hid (FOwn w4.heap.size w9 (.slice pg n cg) le) := fown_kept HFO8.out (fun k h1 h2 => hk9.block k h2 (.inr h1))
    have HU9 : Hid (Fl w9 n (fun i => genF (kid i)) (.slice pu n cu)) := fl_kept HU3.out (fun k hk => by
      have a1 := B34.out.size
      have a2 := B8.out.size
      rw [hk9.block k (by omega) (.inl hk), B8.out.block k (by omega), B34.out.block k hk])
    have hsz9 : w4.heap.size ≤ w9.heap.size := Nat.le_trans B8.out.size hk9.size
    have HSZ9 : Hid (w4.heap.size ≤ w9.heap.size) := hsz9
    have HU9o : Hid (∀ wx, (∀ k, k < w4.heap.size → wx.heap[k]? = w9.heap[k]?) → Fl wx n (fun i => genF (kid i)) (.slice pu n cu)) := fun wx hx => fl_kept HU3.out (fun k hk => by
      have a1 := B34.out.size
      have a2 := B8.out.size
      rw [hx k (by omega), hk9.block k (by omega) (.inl hk), B8.out.block k (by omega), B34.out.block k hk])
    clear hk9 HMA HMB hsz9 B8 HFO8 HB8 B34
    have HCE : Hid (Calls Tryd.prog 8 #[.slice pg n cg, .slice pu n cu] w9 fun e w' => e = .returned (.bool true) ∧ Below w9.heap.size w9 w') := eq_funs n _ w9 _ _ (HFL.out w9 HFO9.out) HU9.out
    go_wp2_with fail
    refine HCE.out.mono ?_
    rintro e w10 ⟨rfl, hb10⟩
    have B10 : Hid (Below w.heap.size w w10) := B9.out.trans (hb10.mono B9.out.size)
    have HFO10 : Hid (FOwn w4.heap.size w10 (.slice pg n cg) le) := fown_kept HFO9.out (fun k _ h => hb10.block k h)
    have HU10 : Hid (∀ wx, (∀ k, k < w4.heap.size → wx.heap[k]? = w10.heap[k]?) → Fl wx n (fun i => genF (kid i)) (.slice pu n cu)) := fun wx hx => HU9o.out wx (fun k hk => (hx k hk).trans (hb10.block k (Nat.lt_of_lt_of_le hk HSZ9.out)))
    have HSZ10 : Hid (w4.heap.size ≤ w10.heap.size) := Nat.le_trans HSZ9.out hb10.size
    clear hb10 HCE HU9 HU9o HFO9 B9 HSZ9
    obtain ⟨M, hM⟩ : ∃ M, M = cAt 1 le le.length := ⟨_, rfl⟩
    have hM2 : M ≤ 1099511627776 := by rw [hM]; exact HCM.out
    have HMF : Hid (Calls Tryd.prog 11 #[.slice pg n cg, .int .i64 1] w10 fun e w' => e = .returned (.int .i64 (M : Nat)) ∧ FOwn w4.heap.size w' (.slice pg n cg) (markF 1 le le.length) ∧ FKeep (.slice pg n cg) le w10 w') := by
      rw [hM]; exact mark_funs w4.heap.size le w10 _ 1 HFO10.out HCM.out
    have HHF : Hid (∀ wx p c, HeldAt wx p 1 le → le.length ≤ maxLen → Calls Tryd.prog 12 #[.slice p n c, .int .i64 1] wx fun e w' => e = .returned (.int .i64 (M : Nat)) ∧ Below wx.heap.size wx w') := fun wx p c h h2 => by
      have := held_funs le wx p c 1 h h2 HCM.out
      rw [HLE.out.1, ← HLE.out.1, ← hM] at this
      rw [← HLE.out.1]
      exact this
    clear hM
    go_wp2_with fail
    refine HMF.out.mono ?_
    rintro e w11 ⟨rfl, ho11, hk11⟩
    have B11 : Hid (Below w.heap.size w w11) := keep_below B10.out HFO10.out B4.out.size hk11
    have HU11 : Hid (∀ wx, (∀ k, k < w4.heap.size → wx.heap[k]? = w11.heap[k]?) → Fl wx n (fun i => genF (kid i)) (.slice pu n cu)) := fun wx hx => HU10.out wx (fun k hk => (hx k hk).trans (hk11.2.2.2.2 k (Nat.lt_of_lt_of_le hk HSZ10.out) (fun e => by have := (own_between HFO10.out.row e).1; omega) (fun i e hi e2 => by have := (own_between (HFO10.out.el i e hi) e2).1; omega)))
    have HSZ11 : Hid (w4.heap.size ≤ w11.heap.size) := Nat.le_trans HSZ10.out hk11.2.2.2.1
    obtain ⟨ph, ch, eh, hlm, hh⟩ := ho11.held HCM.out
    rw [HLE.out.1] at eh
    injection eh with eh1 _ eh2
    subst eh1 eh2
    have HHE : Hid (∀ wx, Below w11.heap.size w11 wx → Calls Tryd.prog 12 #[.slice pg n cg, .int .i64 1] wx fun e w' => e = .returned (.int .i64 (M : Nat)) ∧ Below wx.heap.size wx w') := fun wx hb => HHF.out wx _ _ (hh.below hb) hlm
    clear ho11 hk11 hlm hh HMF HHF HU10 HFO10 B10 HSZ10
    go_wp2_with fail
    refine (HHE.out _ (Below.refl _ _)).mono ?_
    rintro e w12 ⟨rfl, hb12⟩
    have B12 : Hid (Below w11.heap.size w11 w12) := hb12
    have BW12 : Hid (Below w.heap.size w w12) := B11.out.trans (hb12.mono B11.out.size)
    clear hb12
    go_wp2_with fail
    refine (to_blks len kid w12 _ (HV.out _ BW12.out) H1.out).mono ?_
    rintro e w13 ⟨y2, rfl, hb13, hy2⟩
    have B13 : Hid (Below w11.heap.size w11 w13) := B12.out.trans (hb13.mono B12.out.size)
    have BW13 : Hid (Below w.heap.size w w13) := BW12.out.trans (hb13.mono BW12.out.size)
    have HY2 : Hid (Kl w13 len kid y2) := hy2.all
    clear hb13 hy2 B12 BW12
    go_wp2_with fail
    refine (impl_made HM.out w13 y2 HY2.out (HTB.out _ BW13.out).1 (HTB.out _ BW13.out).2.1 (HTB.out _ BW13.out).2.2 H1.out).mono ?_
    rintro e w14 ⟨h0, le2, rfl, hb14, hle2, hfe2, hfo2⟩
    have B14 : Hid (Below w11.heap.size w11 w14) := B13.out.trans (hb14.mono B13.out.size)
    have HH14 : Hid (Fl w14 n (fun i => genF (kid i)) h0) := by
      have h2 := (hfo2.fl hfe2 (fun i hi => ⟨(HOK.out i (by rw [hle2] at hi; exact hi)).1, (HOK.out i (by rw [hle2] at hi; exact hi)).2.1⟩)).all
      rw [hle2] at h2
      exact h2
    obtain ⟨p2, c2, e2⟩ := HH14.out.shape
    clear hb14 hle2 hfe2 hfo2 B13 BW13 HY2
    subst e2
    have HCE : Hid (Calls Tryd.prog 8 #[.slice p2 n c2, .slice pu n cu] w14 fun e w' => e = .returned (.bool true) ∧ Below w14.heap.size w14 w') := eq_funs n _ w14 _ _ HH14.out (HU11.out w14 (fun k hk => B14.out.block k (Nat.lt_of_lt_of_le hk HSZ11.out)))
    go_wp2_with fail
    refine HCE.out.mono ?_
    rintro e w15 ⟨rfl, hb15⟩
    have B15 : Hid (Below w11.heap.size w11 w15) := B14.out.trans (hb15.mono B14.out.size)
    clear hb15 HCE HH14 B14
    go_wp2_with fail
    refine (HHE.out _ B15.out).mono ?_
    rintro e w16 ⟨rfl, hb16⟩
    have B16 : Hid (Below w.heap.size w w16) := B11.out.trans ((B15.out.trans (hb16.mono B15.out.size)).mono B11.out.size)
    clear hb16
    go_wp2_with fail
    go_ret
    exact ⟨rfl, B16.out⟩
  · have E1 : Hid (szI 1048576 (kidsWeightK len kid) = -1) := szI_no (by omega)
    go_enter Tryd.func3, Tryd.ntmps3
    go_wp2_with fail
    refine (sz_blks len kid w _ 1048576 (HV.out _ (Below.refl _ _)) (by omega)).mono ?_
    rintro e w1 ⟨rfl, hb1⟩
    rw [E1.out]
    have B1 : Hid (Below w.heap.size w w1) := hb1
    clear hb1
    go_wp2_with fail
    go_ret
    exact ⟨rfl, B1.out⟩

theorem own : ownKnob Tryd.prog.godebug = none := by kernel_rfl
theorem laidOut : laidOutB Tryd.prog = true := by kernel_rfl

theorem types : BlkTy Tryd.prog 39 37 3 35 22 where
  ir :=
    { ex := ⟨_, Tryd.underlying37, rfl, fun i hi => by
        match i, hi with
        | 0, _ => exact ⟨_, rfl, rfl, rfl⟩
        | 1, _ => exact ⟨_, rfl, rfl, rfl⟩, ⟨_, rfl, rfl, rfl⟩⟩
      i := Tryd.underlying3
      k := Tryd.underlying35
      ci := by kernel_rfl
      ck := by kernel_rfl
      cd := by kernel_rfl }
  ex := ⟨_, Tryd.underlying39, rfl, ⟨_, rfl, rfl, rfl⟩, ⟨_, rfl, rfl, rfl⟩⟩
  l := Tryd.underlying22
  cb := by kernel_rfl
  cl := by kernel_rfl

/-- What the row lists. -/
def lst : List (String × DataW Unit) := Rows.fnExactGenRow.laid

theorem door_met (os : Os) (args : Array Value) : laidMetH Tryd.prog lst ((World.doorLaid Tryd.prog 4000 os).forCall (fun _ _ => 0) ⟨#[], args, []⟩).memory :=
  laidMetH_of_parts3 (fuel := 8) (laidMet_of_run' 8 (by kernel_rfl) (by kernel_rfl)) (by kernel_rfl) (by kernel_rfl)

theorem of_laid {W : World} (h : laidMetH Tryd.prog lst W) : KidTab W ∧ CodeTab W ∧ NameTab W := by
  rw [MakeChecks.laidMetH_plain _ _ _ (by kernel_rfl)] at h
  exact ⟨kidTab_of_head h, codeTab_of_head (laidMet_tail (laidMet_tail h)), names_of_head (laidMet_tail h)⟩

set_option maxRecDepth 100000 in
theorem lifted (os : Os) (started : os.Started) (H : Type) (enc : TypeId × Value → H) :
    ReturnsInHanded {} Tryd.checked os 3 .any (fun w args => (Rows.fnExactGenSpec.pre enc Tryd.prog Tryd.f3 [] false w args ∧ laidMetH Tryd.prog lst w) ∧ sizedMet enc Tryd.prog Tryd.f3 (OpenSpec.ofChange Rows.fnExactGenSpec) false w args)
      (Rows.fnExactGenSpec.post enc Tryd.prog Tryd.f3 false true false false) := by
  refine returnsInHanded_of_change_and (C := Tryd.checked) (X := fun w _ => laidMetH Tryd.prog lst w) (fun _ _ _ hh h => h.of_heap hh) own started (by kernel_rfl) Tryd.func3
    (ChangeSpec.witness_shaped (enc := enc) (C := Tryd.checked) (os := os) (X := fun w _ => laidMetH Tryd.prog lst w) false (World.doorLaid Tryd.prog 4000 os) #[.slice none 0 0] 8 rfl (World.shaped_of_RefB (by kernel_rfl) (by kernel_rfl)) (by kernel_rfl) (by kernel_rfl) (by kernel_rfl) (door_met os _)) ?_
  intro W base args ds gs before hval0 hW _ _ hL _
  have hval : ∀ (j : Nat) t v, Tryd.f3.params[j]? = some t → args[j]? = some v → Value.okWide Tryd.prog W .any base t v := hval0
  have hW' := hW
  have hlt := fun x hx => DataW.Whole.lt hW x hx
  obtain ⟨p, q, hA0, hV, rfl, hfz, hnd⟩ := hW
  have hA : DataW.TrodAll enc Tryd.prog W 0 (fun _ => true) true Tryd.f3.params.toList args.toList ds p := hA0
  rw [Tryd.params3] at hA hval
  obtain ⟨v0, d0, rfl, rfl, h0⟩ := trodAll_one hA
  have hV1 := hV
  obtain ⟨dg1, dg2, dg3, rfl⟩ := trodVars_three hV
  obtain ⟨a0, len0, cap0, rfl⟩ := okWide_slice Tryd.underlying22 (hval 0 22 v0 rfl rfl)
  have k1 := h0
  obtain ⟨fuel, h0⟩ := h0
  obtain ⟨len, kid, hs⟩ := open_blks types h0
  have ht := of_laid hL
  clear hA0 hval0
  refine (walk len kid _ W hs ht.1 ht.2.1 ht.2.2).mono fun e W' ⟨he, bel⟩ => ?_
  subst he
  have k0 := fun (sp' : Nat → Bool) (hsp : ∀ x ∈ p, sp' x.block = true) => Go.WideElems.Trod_stays laidOut (by kernel_rfl) (of_decide_eq_true (by kernel_rfl)) k1 (fun x hx => bel.same (hlt x (List.mem_append_left _ hx))) hsp
  have hv1 := Below.trodVars laidOut bel (by kernel_rfl) hV1
  refine ⟨_, rfl, _, _, _, [], p, q, hW', trodAll_mk1 (shut_bool Tryd.underlying4 _), trodAll_mk1 (k0 _ ?_), hv1, bel.frame _, fun h => by cases h⟩
  exact fun x hx => decide_eq_true (hlt x (List.mem_append_left _ hx))

theorem over : Rows.FnExactGenSaid :=
  OpenClaim.holds_of_wide 3 Tryd.f3 rfl rfl rfl rfl rfl rfl rfl ⟨rfl, rfl, rfl, rfl, rfl⟩ rfl rfl rfl rfl rfl (by kernel_rfl) Tryd.func3 (by kernel_rfl)
    (of_decide_eq_true (by kernel_rfl)) (by unfold Func.isWrapper; first | (rw [if_pos (by decide +kernel)]; kernel_rfl) | (rw [if_neg (by decide +kernel)]; exact ⟨rfl, rfl⟩))
    (fun os started H enc _ => lifted os started H enc)

/-- The tied card. -/
theorem proved : Rows.FnExactGenCardSaid :=
  Claim7.holds_tied_plain_at .later [] [.data, .data, .data] true (true, "9222c8cb9a367ee4c97c03fee70355a17c3449e199978734a3478bbf41db290f") false
    over (fun _ h => by cases h) (by kernel_rfl) (fun _ h => by cases h) fnExactGen_row_tie rfl ⟨rfl, rfl⟩ (by kernel_rfl) rfl
    (fun f fn hf hfn => by
      obtain rfl : f = 3 := Option.some.inj ((show Tryd.prog.funcNamed "loop.example/g00396/laws.FnExactGen" = some 3 by kernel_rfl).symm.trans hf) |>.symm
      obtain rfl : fn = Tryd.f3 := (Option.some.inj (Tryd.func3.symm.trans hfn)).symm
      exact ⟨by kernel_rfl, fun j t ht => by
        rw [Tryd.params3] at ht
        have hm : t ∈ [22] := by simpa using Array.mem_of_getElem? ht
        have hall : ([22].all fun u => !Tryd.prog.wantsStandIn u) = true := by kernel_rfl
        exact (show Tryd.prog.wantsStandIn t = false by simpa using List.all_eq_true.1 hall t hm)⟩)
    (by kernel_rfl)
#print axioms proved
end Go.Proofs.YthnhdmanmmdoiaaDoor.fnExactGen
