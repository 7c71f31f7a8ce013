/- (*funGen).headOp: the place of a node. Conditions: the node's op is one; a local stands where one is; the table of codes reads as its text lays it. -/
import Derived.Test.YthnhdmanmmdoiaaDoorZG27HPut14
import Derived.Test.YthnhdmanmmdoiaaDoorZG17SpecLet14
namespace Go.Proofs.YthnhdmanmmdoiaaDoor
open Go.ChangeShapes Go.WideShapes Go.ChangeAt Go.RowKit

def codeTab : List Int := [0, 1, 2, 3, 4, 5, 6, 20, 18, 12, 13, 14, 15, 16, 8, 17, 9, 10, 11, 21]
/-- The table lies as its text has it. -/
def CodeTab (w : World) : Prop := ∀ i : Nat, i < 20 → w.cell? ⟨1, i, none⟩ = some (.int .i64 (codeTab.getD i 0))
theorem CodeTab.below {w w' : World} (h : CodeTab w) (hb : Below w.heap.size w w') : CodeTab w' := fun i hi => keeps hb _ _ (h i hi)
theorem gCode : Tryd.prog.globalNamed "loop.example/g00396/impl.irCodes" = some 1 := by kernel_rfl
theorem codeTab_of_head {W : World} {rest : List (String × DataW Unit)} (h : laidMet Tryd.prog (("loop.example/g00396/impl.irCodes", Lib.tabData .i64 codeTab) :: rest) W) : CodeTab W := fun i hi =>
  (Lib.tabIs_of_head (zs := codeTab) gCode (t := 96) (e := 3) (n := 20) (by kernel_rfl) (by kernel_rfl) (by kernel_rfl) (by kernel_rfl) (by kernel_rfl) h).cell gCode i hi

/-- The place of a node. -/
def headG (op n : Int) (sl : List Int) (len : Nat) : O3 := ⟨codeTab.getD op.toNat 0, if op = 2 then sl.getD n.toNat 0 else n, if op = 5 ∨ op = 14 then len else 0⟩

theorem below_drew {B : Nat} {w w' : World} (h : Below B w w') : Below B w w'.drew := ⟨h.os, h.tape, h.output, h.size, h.block⟩
/-- The result's three cells are stored anew. -/
theorem below_res3 {w W : World} {N : Nat} (h : Below w.heap.size w W) (e : N = w.heap.size) (a b c : Value) : Below w.heap.size w (((W.setCell ⟨N + 1, 0, none⟩ a).setCell ⟨N + 1, 1, none⟩ b).setCell ⟨N + 1, 2, none⟩ c) :=
  ((h.setCell (by show _ ≤ N + 1; omega) _).setCell (by show _ ≤ N + 1; omega) _).setCell (by show _ ≤ N + 1; omega) _

set_option maxRecDepth 100000 in
set_option maxHeartbeats 4000000 in
theorem impl_head14 (B Q : Nat) (v sv : Value) (l : List O3) (sl : List Int) (w : World) (h : HSt B Q v sv l sl w) (ht : CodeTab w) (op n : Int) (len : Nat) (p : Option Addr) (cap : Nat) (hop : 1 ≤ op ∧ op ≤ 19) (hn : op = 2 → 0 ≤ n ∧ n < sl.length) :
    Calls Tryd.prog 51 #[.pointer (some ⟨Q, 0, none⟩), .agg #[.int .i64 op, .int .i64 n, .slice p len cap]] w fun e w' => e = .returned (.agg #[.int .i64 (headG op n sl len).c, .int .i64 (headG op n sl len).n, .int .i64 (headG op n sl len).m]) ∧ Below w.heap.size w w' := by
  obtain ⟨i, rfl⟩ : ∃ i : Nat, op = i := ⟨op.toNat, by omega⟩
  have ct := fun wx hb => (ht.below (w' := wx) hb) i (by omega)
  have HCT : Hid (∀ wx, Below w.heap.size w wx → wx.cell? ⟨1, i, none⟩ = some (.int .i64 (codeTab.getD i 0))) := ct
  have HST : Hid (HSt B Q v sv l sl w) := h
  have HQ : Hid (∀ wx, Below w.heap.size w wx → wx.cell? ⟨Q, 1, none⟩ = some sv) := fun wx hb => (h.below hb).cell.2.1
  obtain ⟨C, hC⟩ : ∃ C, C = codeTab.getD i 0 := ⟨_, rfl⟩
  have e0 : headG (i : Int) n sl len = ⟨C, if (i : Int) = 2 then sl.getD n.toNat 0 else n, if (i : Int) = 5 ∨ (i : Int) = 14 then len else 0⟩ := by rw [hC]; rfl
  rw [e0]
  obtain ⟨RN, hRN⟩ : ∃ RN, RN = (if (i : Int) = 2 then sl.getD n.toNat 0 else n) := ⟨_, rfl⟩
  obtain ⟨RM, hRM⟩ : ∃ RM : Int, RM = (if (i : Int) = 5 ∨ (i : Int) = 14 then (len : Int) else 0) := ⟨_, rfl⟩
  rw [← hRN, ← hRM]
  have HRN : Hid (RN = (if (i : Int) = 2 then sl.getD n.toNat 0 else n)) := hRN
  have HRM : Hid (RM = (if (i : Int) = 5 ∨ (i : Int) = 14 then (len : Int) else 0)) := hRM
  clear hRN hRM
  rw [← hC] at HCT
  obtain ⟨W1, hW1⟩ : ∃ W1, W1 = (w.alloc (.cells #[.int .i64 i, .int .i64 n, .slice p len cap] 48)).alloc (.cells #[.int .i64 0, .int .i64 0, .int .i64 0] 68) := ⟨_, rfl⟩
  obtain ⟨N, hN⟩ : ∃ N, N = w.heap.size := ⟨_, rfl⟩
  have b1 : Below w.heap.size w W1 := by rw [hW1]; exact (newb w _).trans ((newb _ _).mono (by simp))
  have r0 : W1.heap[N]? = some (.cells #[.int .i64 i, .int .i64 n, .slice p len cap] 48 (0, 0)) := by
    rw [hW1, hN]
    exact ((newb _ _).block _ (by simp)).trans (heap_alloc_new w _)
  have r1 : W1.heap[N + 1]? = some (.cells #[.int .i64 0, .int .i64 0, .int .i64 0] 68 (0, 0)) := by
    rw [hW1, hN]
    have := heap_alloc_new (w.alloc (.cells #[.int .i64 i, .int .i64 n, .slice p len cap] 48)) (.cells #[.int .i64 0, .int .i64 0, .int .i64 0] 68)
    simpa using this
  have hsz : W1.heap.size = N + 2 := by rw [hW1, hN]; simp
  have n0 : W1.cell? ⟨N, 0, none⟩ = some (.int .i64 i) := cell_of_row W1 N 0 _ _ _ r0
  have n1 : W1.cell? ⟨N, 1, none⟩ = some (.int .i64 n) := cell_of_row W1 N 1 _ _ _ r0
  have n2 : W1.cell? ⟨N, 2, none⟩ = some (.slice p len cap) := cell_of_row W1 N 2 _ _ _ r0
  have gc := HCT.out W1 b1
  have m0 : ∀ o, (W1.alloc o).cell? ⟨N, 0, none⟩ = some (.int .i64 i) := fun o => keeps (newb W1 o) _ _ n0
  have m1 : ∀ o, (W1.alloc o).cell? ⟨N, 1, none⟩ = some (.int .i64 n) := fun o => keeps (newb W1 o) _ _ n1
  have mc : ∀ o, (W1.alloc o).cell? ⟨1, i, none⟩ = some (.int .i64 C) := fun o => keeps (newb W1 o) _ _ gc
  have HWW : Hid (W1 = (w.alloc (.cells #[.int .i64 i, .int .i64 n, .slice p len cap] 48)).alloc (.cells #[.int .i64 0, .int .i64 0, .int .i64 0] 68) ∧ N = w.heap.size) := ⟨hW1, hN⟩
  obtain ⟨W2, hW2⟩ : ∃ W2, W2 = W1.alloc (.cells #[.int .i64 C, .int .i64 n, .int .i64 0] 68) := ⟨_, rfl⟩
  have b2 : Below W1.heap.size W1 W2 := by rw [hW2]; exact newb W1 _
  have HW2 : Hid (W2 = W1.alloc (.cells #[.int .i64 C, .int .i64 n, .int .i64 0] 68)) := hW2
  have HR : Hid (Below w.heap.size w W2 ∧ W2.heap[N]? = some (.cells #[.int .i64 i, .int .i64 n, .slice p len cap] 48 (0, 0)) ∧ W2.heap[N + 1]? = some (.cells #[.int .i64 0, .int .i64 0, .int .i64 0] 68 (0, 0)) ∧ W2.heap[N + 2]? = some (.cells #[.int .i64 C, .int .i64 n, .int .i64 0] 68 (0, 0))) := by
    refine ⟨b1.trans (b2.mono b1.size), (b2.block _ (by omega)).trans r0, (b2.block _ (by omega)).trans r1, ?_⟩
    rw [hW2, ← hsz]
    exact heap_alloc_new W1 _
  have HSZ : Hid (W1.heap.size = N + 2) := hsz
  clear ct e0 hC ht h r0 r1 hW1 hN b1 b2 hW2 hsz
  have gi : (i : Int) < 20 := by omega
  go_enter Tryd.func51, Tryd.ntmps51
  go_upto_region 1 with fail
  rw [← HWW.out.2, ← HWW.out.1]
  go_region
  rw [HSZ.out, ← HW2.out]
  obtain ⟨hbW, q0, q1, q2⟩ := HR.out
  clear n0 n1 n2
  have n0 : W2.cell? ⟨N, 0, none⟩ = some (.int .i64 i) := cell_of_row W2 N 0 _ _ _ q0
  have n1 : W2.cell? ⟨N, 1, none⟩ = some (.int .i64 n) := cell_of_row W2 N 1 _ _ _ q0
  have n2 : W2.cell? ⟨N, 2, none⟩ = some (.slice p len cap) := cell_of_row W2 N 2 _ _ _ q0
  have r0 : W2.cell? ⟨N + 1, 0, none⟩ = some (.int .i64 0) := cell_of_row W2 _ 0 _ _ _ q1
  have r1 : W2.cell? ⟨N + 1, 1, none⟩ = some (.int .i64 0) := cell_of_row W2 _ 1 _ _ _ q1
  have r2 : W2.cell? ⟨N + 1, 2, none⟩ = some (.int .i64 0) := cell_of_row W2 _ 2 _ _ _ q1
  have o0 : W2.cell? ⟨N + 2, 0, none⟩ = some (.int .i64 C) := cell_of_row W2 _ 0 _ _ _ q2
  have o1 : W2.cell? ⟨N + 2, 1, none⟩ = some (.int .i64 n) := cell_of_row W2 _ 1 _ _ _ q2
  have o2 : W2.cell? ⟨N + 2, 2, none⟩ = some (.int .i64 0) := cell_of_row W2 _ 2 _ _ _ q2
  have hfr : ∀ j, W2.frozen? ⟨N + 1, j, none⟩ = false := fun j => frozen_of_row W2 _ j _ _ q1
  have hfo : ∀ j, W2.frozen? ⟨N + 2, j, none⟩ = false := fun j => frozen_of_row W2 _ j _ _ q2
  have HBW : Hid (Below w.heap.size w W2) := hbW
  have HNN : Hid (N = w.heap.size) := HWW.out.2
  have HS2 : Hid (HSt B Q v sv l sl W2) := HST.out.below hbW
  clear q0 q1 q2 hbW HWW HW2 HR HSZ HCT HST m0 m1 mc gc
  clear HQ
  by_cases h2 : (i : Int) = 2
  · obtain ⟨g0, g1⟩ := hn h2
    obtain ⟨j, rfl⟩ : ∃ j : Nat, n = j := ⟨n.toNat, by omega⟩
    have hj : j < sl.length := by omega
    obtain ⟨g, c, esv, hc1, hc2, hcl⟩ := HS2.out.some_ints (by omega)
    have hz : sl[j]? = some sl[j] := List.getElem?_eq_getElem hj
    have s0 := hcl j _ hz
    have k1 := HS2.out.cell.2.1
    have HZ : Hid (RN = sl[j] ∧ RM = 0) := by
      refine ⟨?_, HRM.out.trans (by rw [if_neg (by omega)])⟩
      rw [HRN.out, if_pos h2, Int.toNat_natCast, List.getD_eq_getElem?_getD, hz]; rfl
    clear hz hn hcl HRN HRM
    generalize sl[j] = Z at *
    subst esv
    unfold maxLen at hc2
    rw [h2] at n0
    clear hop h2 gi
    go_wp2_with fail
    go_region
    go_wp2_with fail
    refine bodyPost_ret (v := .agg #[.int .i64 C, .int .i64 Z, .int .i64 0]) (by rw [results_cell1 (p := 4) (ty := 68) (by kernel_rfl)]; simp [go_sem, r0, r1, r2]) rfl ⟨by rw [HZ.out.1, HZ.out.2], ?_⟩
    exact below_drew (below_drew (below_res3 (HBW.out.setCell (by show _ ≤ N + 2; have := HNN.out; omega) _) HNN.out _ _ _))
  by_cases h5 : (i : Int) = 5
  · have HZ : Hid (RN = n ∧ RM = len) := ⟨HRN.out.trans (by rw [if_neg h2]), HRM.out.trans (by rw [if_pos (.inl h5)])⟩
    clear hn HRN HRM
    rw [h5] at n0
    clear hop h2 h5 gi
    go_wp2_with fail
    refine bodyPost_ret (v := .agg #[.int .i64 C, .int .i64 n, .int .i64 len]) (by rw [results_cell1 (p := 4) (ty := 68) (by kernel_rfl)]; simp [go_sem, r0, r1, r2]) rfl ⟨by rw [HZ.out.1, HZ.out.2], ?_⟩
    exact below_drew (below_res3 (HBW.out.setCell (by show _ ≤ N + 2; have := HNN.out; omega) _) HNN.out _ _ _)
  by_cases h14 : (i : Int) = 14
  · have HZ : Hid (RN = n ∧ RM = len) := ⟨HRN.out.trans (by rw [if_neg h2]), HRM.out.trans (by rw [if_pos (.inr h14)])⟩
    clear hn HRN HRM
    rw [h14] at n0
    clear hop h2 h14 gi
    go_wp2_with fail
    refine bodyPost_ret (v := .agg #[.int .i64 C, .int .i64 n, .int .i64 len]) (by rw [results_cell1 (p := 4) (ty := 68) (by kernel_rfl)]; simp [go_sem, r0, r1, r2]) rfl ⟨by rw [HZ.out.1, HZ.out.2], ?_⟩
    exact below_drew (below_res3 (HBW.out.setCell (by show _ ≤ N + 2; have := HNN.out; omega) _) HNN.out _ _ _)
  · have HZ : Hid (RN = n ∧ RM = 0) := ⟨HRN.out.trans (by rw [if_neg h2]), HRM.out.trans (by rw [if_neg (by omega)])⟩
    clear hn HRN HRM
    have e2 : ((i : Int) == 2) = false := by simpa using h2
    have e5 : ((i : Int) == 5) = false := by simpa using h5
    have e14 : ((i : Int) == 14) = false := by simpa using h14
    clear h2 h5 h14 hop gi HS2
    go_wp2_with fail
    refine bodyPost_ret (v := .agg #[.int .i64 C, .int .i64 n, .int .i64 0]) (by rw [results_cell1 (p := 4) (ty := 68) (by kernel_rfl)]; simp [go_sem, r0, r1, r2]) rfl ⟨by rw [HZ.out.1, HZ.out.2], ?_⟩
    exact below_drew (below_res3 HBW.out HNN.out _ _ _)
end Go.Proofs.YthnhdmanmmdoiaaDoor

/- (*funGen).let at a let that is right: the places that are put. Conditions: those of the contract of its kids. -/
namespace Go.Proofs.YthnhdmanmmdoiaaDoor
open Go.ChangeShapes Go.WideShapes Go.ChangeAt Go.RowKit

/-- What (*funGen).tree, .let and .ways do at a body. -/
def HrOf (f : Nat) (t : It) : Prop := ∀ (w0 w : World) (Q : Nat) (v sv : Value) (l : List O3) (xv : Value) (sl : List Int) (d nb : Nat) (kb : Nat → Kb) (at_ : Nat), t.In w0 xv → HIn w0 w Q v sv l sl → CodeTab w0 → rightI nb kb at_ t sl.length = true →
  l.length + 2 * t.count ≤ 1073741824 → d + t.count ≤ 1073741824 → sl.length + t.count ≤ 1073741824 →
  Calls Tryd.prog f #[.pointer (some ⟨Q, 0, none⟩), .agg #[.int .i64 t.op, .int .i64 t.n, xv], .int .i64 d] w (HPost w0.heap.size Q v sv (l ++ genI t sl d l.length) sl w)
abbrev HrAt14 (t : It) : Prop := HrOf 35 t

/-- What stands of the call at its begin. -/
structure HBeg (w0 w W : World) (Q N : Nat) (v sv : Value) (l : List O3) (sl : List Int) (op n : Int) (xv : Value) : Prop where
  inn : HIn w0 W Q v sv l sl
  gk : HK Q v sv w v sv W
  fr : HFree Q v sv W N
  row : W.heap[N]? = some (.cells #[.int .i64 op, .int .i64 n, xv] 48 (0, 0))
theorem HBeg.cells {w0 w W : World} {Q N : Nat} {v sv : Value} {l : List O3} {sl : List Int} {op n : Int} {xv : Value} (h : HBeg w0 w W Q N v sv l sl op n xv) {v' sv' : Value} {w' : World} (k : HK Q v sv W v' sv' w') :
    w'.cell? ⟨N, 0, none⟩ = some (.int .i64 op) ∧ w'.cell? ⟨N, 1, none⟩ = some (.int .i64 n) ∧ w'.cell? ⟨N, 2, none⟩ = some xv := by
  have e := (k.block N h.fr.1 h.fr.2.1 h.fr.2.2.1 h.fr.2.2.2).trans h.row
  exact ⟨cell_of_row w' N 0 _ _ _ e, cell_of_row w' N 1 _ _ _ e, cell_of_row w' N 2 _ _ _ e⟩
theorem HBeg.begin {w0 w : World} {Q : Nat} {v sv : Value} {l : List O3} {sl : List Int} (op n : Int) (xv : Value) (h : HIn w0 w Q v sv l sl) : HBeg w0 w (w.alloc (.cells #[.int .i64 op, .int .i64 n, xv] 48)) Q w.heap.size v sv l sl op n xv := by
  have bW := newb w (.cells #[.int .i64 op, .int .i64 n, xv] 48)
  have hbx := heap_alloc_new w (.cells #[.int .i64 op, .int .i64 n, xv] 48)
  exact ⟨h.below bW, HK.of_below bW, ⟨(Array.getElem?_eq_some_iff.1 hbx).1, by have := h.st.lt; omega, fun e => by have := (own_between h.st.row e).2; omega, fun e => by have := (own_between h.st.ints e).2; omega⟩, hbx⟩

/-- A place in a row of its own. -/
theorem one_op14 (w : World) (q : O3) : ∀ j u, (ocells q)[j]? = some u → (w.alloc (.cells #[.int .i64 q.c, .int .i64 q.n, .int .i64 q.m] 68)).cell? ⟨w.heap.size, j, none⟩ = some u := by
  intro j u hj
  have hbx := heap_alloc_new w (.cells #[.int .i64 q.c, .int .i64 q.n, .int .i64 q.m] 68)
  have hlt : j < 3 := by
    have := (List.getElem?_eq_some_iff.1 hj).1
    simpa [ocells] using this
  rw [cell_of_row _ w.heap.size j _ _ _ hbx]
  match j, hlt with
  | 0, _ => exact hj
  | 1, _ => exact hj
  | 2, _ => exact hj
/-- put of a place that was laid anew. -/
theorem put_new14 (B Q : Nat) (v sv : Value) (l : List O3) (sl : List Int) (q : O3) (w : World) (h : HSt B Q v sv l sl w) (hl : l.length ≤ 1073741824) :
    Calls Tryd.prog 36 #[.pointer (some ⟨Q, 0, none⟩), .slice (some ⟨w.heap.size, 0, none⟩) 1 1] (w.alloc (.cells #[.int .i64 q.c, .int .i64 q.n, .int .i64 q.m] 68)) (HPut B Q v sv l q sl w) := by
  have hb := newb w (.cells #[.int .i64 q.c, .int .i64 q.n, .int .i64 q.m] 68)
  refine (impl_put14 B Q v sv l sl q _ (h.below hb) hl _ (one_op14 w q)).mono fun e w' ⟨he, v', hs, hk⟩ => ⟨he, v', hs, (HK.of_below hb).trans hk⟩

theorem num_none {nb : Nat} {kb : Nat → Kb} {at_ : Nat} {op n : Int} {len deep : Nat} (h : numI nb kb at_ op n len deep = true) (ho : op = 6 ∨ op = 7 ∨ op = 8 ∨ (9 ≤ op ∧ op ≤ 13) ∨ op = 15 ∨ op = 19) : n = 0 := by
  unfold numI at h
  rw [if_neg (by omega), if_neg (by omega), if_neg (by omega), if_neg (by omega), if_neg (by omega), if_neg (by omega)] at h
  simpa using h

set_option maxRecDepth 100000 in
set_option maxHeartbeats 8000000 in
theorem impl_let14 (n : Int) (kid : Nat → It) (ih : ∀ i, HrAt14 (kid i)) : HrOf 49 (.mk 7 n 2 kid) := by
  intro w0 w Q v sv l xv sl d nb kb at_ hx hin htab hr hl hd hsl
  have hc : (It.mk 7 n 2 kid).count = 1 + ((kid 0).count + (kid 1).count) := by rw [It.count_eq]; exact congrArg (1 + ·) (sum2 _)
  obtain ⟨-, -, hrk, hnum⟩ := right_node hr
  have hn0 : n = 0 := num_none (op := 7) hnum (.inr (.inl rfl))
  subst hn0
  have hr0 : rightI nb kb at_ (kid 0) sl.length = true := hrk 0 (by show 0 < 2; omega)
  have hr1 : rightI nb kb at_ (kid 1) (sl ++ [(d : Int)]).length = true := by
    have := hrk 1 (by show 1 < 2; omega)
    rw [List.length_append]
    exact this
  have g0 := genI_len (kid 0) sl d l.length _ hr0
  obtain ⟨px, cx, ex, -, hat⟩ := hx.sl.at
  obtain ⟨b, o, u0, ep, hd0, hi0⟩ := hat 0 (by show 0 < 2; omega)
  obtain ⟨b2, o2, u1, ep2, hd1, hi1⟩ := hat 1 (by show 1 < 2; omega)
  rw [ep] at ep2
  injection ep2 with ep2
  injection ep2 with eb eo _
  subst ep eb eo
  obtain ⟨pu0, cu0, eu0⟩ := hi0.sl.shape
  obtain ⟨pu1, cu1, eu1⟩ := hi1.sl.shape
  rw [genI_let (t := .mk 7 0 2 kid) rfl]
  simp only [It.kid, It.op, It.n]
  have hbg := HBeg.begin 7 0 xv hin
  obtain ⟨W, hW⟩ : ∃ W, W = w.alloc (.cells #[.int .i64 7, .int .i64 0, xv] 48) := ⟨_, rfl⟩
  obtain ⟨N, hN⟩ : ∃ N, N = w.heap.size := ⟨_, rfl⟩
  rw [← hW, ← hN] at hbg
  have HBG : Hid (HBeg w0 w W Q N v sv l sl 7 0 xv) := hbg
  have HWW : Hid (W = w.alloc (.cells #[.int .i64 7, .int .i64 0, xv] 48) ∧ N = w.heap.size) := ⟨hW, hN⟩
  have HI0 : Hid ((kid 0).In w0 u0 ∧ (kid 1).In w0 u1 ∧ HeadI w0 b (o + 1 * 3) (kid 1) u1) := ⟨hi0, hi1, hd1⟩
  have HRR : Hid (rightI nb kb at_ (kid 0) sl.length = true ∧ rightI nb kb at_ (kid 1) (sl ++ [(d : Int)]).length = true) := ⟨hr0, hr1⟩
  have HIH : Hid (∀ i, HrAt14 (kid i)) := ih
  have HTB : Hid (CodeTab w0) := htab
  have ex' : xv = .slice (some ⟨b, o, none⟩) 2 cx := ex
  obtain ⟨c0, c1, c2⟩ := HBG.out.cells (HK.refl Q v sv W)
  obtain ⟨d0, d1, d2⟩ := hd0.below HBG.out.inn.bel
  have HNU : Hid (d + (kid 0).count ≤ 1073741824 ∧ sl.length + (kid 0).count ≤ 1073741824 ∧ d + 1 + (kid 1).count ≤ 1073741824 ∧ (sl ++ [(d : Int)]).length + (kid 1).count ≤ 1073741824) := by
    rw [List.length_append, List.length_cons, List.length_nil]
    refine ⟨?_, ?_, ?_, ?_⟩ <;> omega
  have hsl30 : sl.length ≤ 1073741824 := by omega
  have hd30 : d + 1 ≤ 1073741824 := by omega
  rw [hc] at hl
  clear hW hN hbg hin hx hat hd0 hi0 hd1 hi1 hr hr0 hr1 hrk hnum ih ex hd hsl hc htab
  simp only [Nat.zero_mul, Nat.add_zero] at d0 d1 d2
  subst eu0 eu1 ex'
  obtain ⟨A, hA⟩ : ∃ A, A = genI (kid 0) sl d l.length := ⟨_, rfl⟩
  rw [← hA] at g0 ⊢
  have HAA : Hid (A = genI (kid 0) sl d l.length) := hA
  clear hA
  obtain ⟨FIN, hFIN⟩ : ∃ FIN, FIN = l ++ (A ++ genI (kid 1) (sl ++ [(d : Int)]) (d + 1) (l.length + A.length) ++ [⟨20, 0, 0⟩]) := ⟨_, rfl⟩
  rw [← hFIN]
  have HFIN : Hid (FIN = l ++ (A ++ genI (kid 1) (sl ++ [(d : Int)]) (d + 1) (l.length + A.length) ++ [⟨20, 0, 0⟩])) := hFIN
  clear hFIN
  have g1 := genI_len (kid 1) (sl ++ [(d : Int)]) (d + 1) (l ++ A).length _ HRR.out.2
  have HLA : Hid ((l ++ A).length + 2 * (kid 1).count ≤ 1073741824 ∧ (l ++ A ++ genI (kid 1) (sl ++ [(d : Int)]) (d + 1) (l ++ A).length).length ≤ 1073741824) := by
    have e1 : (l ++ A).length = l.length + A.length := List.length_append
    have e2 : (l ++ A ++ genI (kid 1) (sl ++ [(d : Int)]) (d + 1) (l ++ A).length).length = (l ++ A).length + (genI (kid 1) (sl ++ [(d : Int)]) (d + 1) (l ++ A).length).length := List.length_append
    refine ⟨?_, ?_⟩ <;> omega
  clear g1
  obtain ⟨i0, hi, hz0, hz1, hz2⟩ := info_parts int_info
  go_enter Tryd.func49, Tryd.ntmps49
  go_upto_region 1 with fail
  rw [← HWW.out.1, ← HWW.out.2]
  go_wp2_with fail
  refine (HIH.out 0 w0 W Q v sv l _ sl d nb kb at_ HI0.out.1 HBG.out.inn HTB.out HRR.out.1 (by omega) HNU.out.1 HNU.out.2.1).mono ?_
  rintro e w1 ⟨rfl, v1, sv1, hs1, hg1⟩
  rw [← HAA.out] at hs1
  have HI1 : Hid (HIn w0 w1 Q v1 sv1 (l ++ A) sl) := HBG.out.inn.keep hs1 hg1
  have HG1 : Hid (HK Q v sv W v1 sv1 w1) := hg1
  clear hs1 hg1 c0 c1 c2 d0 d1 d2
  obtain ⟨c0, c1, c2⟩ := HBG.out.cells HG1.out
  obtain ⟨-, k1, -, kf⟩ := HI1.out.st.cell
  obtain ⟨p1, cp1, esv⟩ := own_shape3 HI1.out.st.ints
  subst esv
  have nb1 := newb w1 (.cells #[.int .i64 (d : Int)] 3)
  have HROW : Hid ((w1.alloc (.cells #[.int .i64 (d : Int)] 3)).ownsRow w0.heap.size 3 1 (.slice p1 sl.length cp1) sl.length (sl.map (Value.int .i64))) := own_below5 HI1.out.st.ints nb1
  have HNEW : Hid (∀ j u, [Value.int .i64 (d : Int)][j]? = some u → (w1.alloc (.cells #[.int .i64 (d : Int)] 3)).cell? ((⟨w1.heap.size, 0, none⟩ : Addr).add j) = some u) := one_new14 w1 _ _ _ rfl
  have HBN : Hid (w0.heap.size ≤ (w1.alloc (.cells #[.int .i64 (d : Int)] 3)).heap.size) := Nat.le_trans HI1.out.bel.size nb1.size
  have HOUT : Hid (∀ v' w', w'.ownsRow w0.heap.size 3 1 v' (sl.length + 1) (sl.map (Value.int .i64) ++ [.int .i64 (d : Int)]) → (w1.alloc (.cells #[.int .i64 (d : Int)] 3)).grownBy w' (Value.slice p1 sl.length cp1).ownBlock →
      (v'.ownBlock = (Value.slice p1 sl.length cp1).ownBlock ∨ v'.ownBlock = some (w1.alloc (.cells #[.int .i64 (d : Int)] 3)).heap.size) →
      HSt w0.heap.size Q v1 v' (l ++ A) (sl ++ [(d : Int)]) (w'.setCell ⟨Q, 1, none⟩ v') ∧ HK Q v1 (.slice p1 sl.length cp1) w1 v1 v' (w'.setCell ⟨Q, 1, none⟩ v')) := fun v' w' h1 h2 h3 => HI1.out.st.stood nb1 h1 h2 h3
  have HQK : Hid (∀ w', (w1.alloc (.cells #[.int .i64 (d : Int)] 3)).grownBy w' (Value.slice p1 sl.length cp1).ownBlock → w'.cell? ⟨Q, 1, none⟩ = some (.slice p1 sl.length cp1) ∧ w'.frozen? ⟨Q, 1, none⟩ = false) := fun w' hg => by
    have hs := HI1.out.st
    have hb : w'.heap[Q]? = w1.heap[Q]? := (hg.block Q (Nat.lt_of_lt_of_le hs.lt nb1.size) (fun e => hs.ns e.symm)).trans (nb1.block Q hs.lt)
    exact ⟨(World.cell?_of_block (w := w1) hb).trans k1, (World.frozen?_of_block (w := w1) hb).trans kf⟩
  clear nb1
  go_upto_region 3 with (at_builtin; refine wpList_append_1 _ rfl (.tmp 17) (.tmp 19) 51 rfl w0.heap.size 3 i0 _ 1 8 Tryd.underlying51 hi hz0 hz1 hz2 rfl (by omega) (.slice p1 sl.length cp1) sl.length (sl.map (Value.int .i64)) rfl HROW.out ⟨w1.heap.size, 0, none⟩ 1 1 [.int .i64 (d : Int)] rfl rfl HNEW.out (by simp [Value.oneCell']) (by unfold maxLen; omega) (by omega) HBN.out (by omega) ?_; intro v' w' hown2 hg2 hat2; (obtain ⟨kq, kqf⟩ := HQK.out w' hg2.out); (obtain ⟨pv, cv, epv⟩ := own_shape3 hown2.out); subst epv)
  have hst := HOUT.out _ _ hown2.out hg2.out hat2.out
  clear HOUT HQK HROW HNEW HBN hown2 hg2 hat2 kq kqf kf k1
  obtain ⟨w2, hw2⟩ : ∃ w2, w2 = w'.setCell ⟨Q, 1, none⟩ (.slice pv (sl.length + 1) cv) := ⟨_, rfl⟩
  rw [← hw2] at hst ⊢
  have HI2 : Hid (HIn w0 w2 Q v1 (.slice pv (sl.length + 1) cv) (l ++ A) (sl ++ [(d : Int)])) := HI1.out.keep hst.1 hst.2
  have HG2 : Hid (HK Q v sv W v1 (.slice pv (sl.length + 1) cv) w2) := HG1.out.trans hst.2
  clear hst hw2 c0 c1 c2
  obtain ⟨c0, c1, c2⟩ := HBG.out.cells HG2.out
  obtain ⟨d0, d1, d2⟩ := HI0.out.2.2.below HI2.out.bel
  simp only [Nat.one_mul] at d0 d1 d2
  have HC1 : Hid (Calls Tryd.prog 35 #[.pointer (some ⟨Q, 0, none⟩), .agg #[.int .i64 (kid 1).op, .int .i64 (kid 1).n, .slice pu1 (kid 1).len cu1], .int .i64 ((d : Int) + 1)] w2 (HPost w0.heap.size Q v1 (.slice pv (sl.length + 1) cv) (l ++ A ++ genI (kid 1) (sl ++ [(d : Int)]) (d + 1) (l ++ A).length) (sl ++ [(d : Int)]) w2)) := by
    exact HIH.out 1 w0 w2 Q v1 _ (l ++ A) _ (sl ++ [(d : Int)]) (d + 1) nb kb at_ HI0.out.2.1 HI2.out HTB.out HRR.out.2 HLA.out.1 HNU.out.2.2.1 HNU.out.2.2.2
  go_wp2_with fail
  refine HC1.out.mono ?_
  rintro e w3 ⟨rfl, v3, sv3, hs3, hg3⟩
  obtain ⟨g3, cp3, es3, hc3, hm3, -⟩ := hs3.some_ints (by simp)
  rw [show (sl ++ [(d : Int)]).length = sl.length + 1 by simp] at es3 hc3
  subst es3
  have HI3 : Hid (HIn w0 w3 Q v3 (.slice (some ⟨g3, 0, none⟩) (sl.length + 1) cp3) (l ++ A ++ genI (kid 1) (sl ++ [(d : Int)]) (d + 1) (l ++ A).length) (sl ++ [(d : Int)])) := HI2.out.keep hs3 hg3
  have HG3 : Hid (HK Q v sv W v3 (.slice (some ⟨g3, 0, none⟩) (sl.length + 1) cp3) w3) := HG2.out.trans hg3
  clear hs3 hg3 c0 c1 c2 d0 d1 d2 HC1
  obtain ⟨-, k1, -, kf⟩ := HI3.out.st.cell
  unfold maxLen at hm3
  go_wp2_with fail
  go_region
  have hst := HI3.out.st.left
  obtain ⟨w4, hw4⟩ : ∃ w4, w4 = (w3.setCell ⟨Q, 1, none⟩ (.slice (some ⟨g3, 0, none⟩) sl.length cp3)).drew := ⟨_, rfl⟩
  have hs4 : HSt w0.heap.size Q v3 (.slice (some ⟨g3, 0, none⟩) sl.length cp3) (l ++ A ++ genI (kid 1) (sl ++ [(d : Int)]) (d + 1) (l ++ A).length) sl w4 := by rw [hw4]; exact hst.1.drewn
  have hk4 : HK Q v3 (.slice (some ⟨g3, 0, none⟩) (sl.length + 1) cp3) w3 v3 (.slice (some ⟨g3, 0, none⟩) sl.length cp3) w4 := by rw [hw4]; exact hst.2.drewn
  rw [← hw4]
  have HI4 : Hid (HIn w0 w4 Q v3 (.slice (some ⟨g3, 0, none⟩) sl.length cp3) (l ++ A ++ genI (kid 1) (sl ++ [(d : Int)]) (d + 1) (l ++ A).length) sl) := HI3.out.keep hs4 hk4
  have HG4 : Hid (HK Q v sv W v3 (.slice (some ⟨g3, 0, none⟩) sl.length cp3) w4) := HG3.out.trans hk4
  clear hst hs4 hk4 hw4 k1 kf hc3 hm3
  obtain ⟨c0, c1, c2⟩ := HBG.out.cells HG4.out
  go_wp2_with fail
  refine (impl_head14 w0.heap.size Q v3 _ _ sl w4 HI4.out.st (HTB.out.below HI4.out.bel) 7 0 2 _ cx ⟨by omega, by omega⟩ (fun e => by omega)).mono ?_
  rintro e w5 ⟨rfl, hb5⟩
  have HI5 : Hid (HIn w0 w5 Q v3 (.slice (some ⟨g3, 0, none⟩) sl.length cp3) (l ++ A ++ genI (kid 1) (sl ++ [(d : Int)]) (d + 1) (l ++ A).length) sl) := HI4.out.below hb5
  have HG5 : Hid (HK Q v sv W v3 (.slice (some ⟨g3, 0, none⟩) sl.length cp3) w5) := HG4.out.trans (HK.of_below hb5)
  clear hb5 c0 c1 c2
  have HPU : Hid (Calls Tryd.prog 36 #[.pointer (some ⟨Q, 0, none⟩), .slice (some ⟨w5.heap.size, 0, none⟩) 1 1] (w5.alloc (.cells #[.int .i64 (headG 7 0 sl 2).c, .int .i64 (headG 7 0 sl 2).n, .int .i64 (headG 7 0 sl 2).m] 68)) (HPut w0.heap.size Q v3 (.slice (some ⟨g3, 0, none⟩) sl.length cp3) (l ++ A ++ genI (kid 1) (sl ++ [(d : Int)]) (d + 1) (l ++ A).length) ⟨20, 0, 0⟩ sl w5)) :=
    put_new14 w0.heap.size Q v3 _ _ sl (headG 7 0 sl 2) w5 HI5.out.st HLA.out.2
  generalize (headG 7 0 sl 2).c = x0 at *
  generalize (headG 7 0 sl 2).n = x1 at *
  generalize (headG 7 0 sl 2).m = x2 at *
  go_wp2_with fail
  refine HPU.out.mono ?_
  rintro e w6 ⟨rfl, v6, hs6, hk6⟩
  have HP : Hid (HPost w0.heap.size Q v sv FIN sl w (.returned (.tuple #[])) w6) := by
    refine ⟨rfl, v6, _, ?_, HBG.out.gk.trans (HG5.out.trans hk6)⟩
    rw [HFIN.out]
    rw [show (l ++ A).length = l.length + A.length from List.length_append] at hs6
    simpa using hs6
  clear hs6 hk6
  go_wp2_with fail
  first
    | (go_end0; exact HP.out)
    | (refine bodyPost_ret (results_none rfl _ _ _) rfl ?_; exact HP.out)
end Go.Proofs.YthnhdmanmmdoiaaDoor
