/- impl.valuesThere and impl.nextPlaces. Conditions: at least one value is there; the table of names reads as its text lays it. -/
import Derived.Test.YtkbbfgfmlilfbaaDoorImplWork15
import Derived.Test.YtkbbfgfmlilfbaaDoorImplEffect
import Derived.Test.YtkbbfgfmlilfbaaDoorIntsOwn
import Derived.Test.YtkbbfgfmlilfbaaDoorAppendOne
import Derived.Deep.Cut
namespace Go.Proofs.YtkbbfgfmlilfbaaDoor
open Go.ChangeShapes Go.WideShapes Go.ChangeAt Go.RowKit

set_option maxRecDepth 100000 in
set_option maxHeartbeats 4000000 in
theorem values_there (q : O3) (d : Int) (w : World) (ht : NameTab w) (hd : 1 ≤ d) (h0 : 0 ≤ takesO q) (hm : takesO q ≤ 1073741824) : Calls Tryd.prog 53 #[.agg #[.int .i64 q.c, .int .i64 q.n, .int .i64 q.m], .int .i64 d] w fun e w' => e = .returned (.bool (!badO d q)) ∧ Below w.heap.size w w' := by
  obtain ⟨W, hW⟩ : ∃ W, W = w.alloc (.cells #[.int .i64 q.c, .int .i64 q.n, .int .i64 q.m] 26) := ⟨_, rfl⟩
  obtain ⟨K, hK⟩ : ∃ K, K = w.heap.size := ⟨_, rfl⟩
  have bW : Below w.heap.size w W := by rw [hW]; exact newb w _
  have hk : W.heap[K]? = some (.cells #[.int .i64 q.c, .int .i64 q.n, .int .i64 q.m] 26 (0, 0)) := by rw [hW, hK]; exact heap_alloc_new w _
  have k0 : W.cell? ⟨K, 0, none⟩ = some (.int .i64 q.c) := cell_of_row W K 0 _ _ _ hk
  have k1 : W.cell? ⟨K, 1, none⟩ = some (.int .i64 q.n) := cell_of_row W K 1 _ _ _ hk
  have k2 : W.cell? ⟨K, 2, none⟩ = some (.int .i64 q.m) := cell_of_row W K 2 _ _ _ hk
  have HC : Hid (∀ wq, Below W.heap.size W wq → wq.cell? ⟨K, 0, none⟩ = some (.int .i64 q.c) ∧ wq.cell? ⟨K, 1, none⟩ = some (.int .i64 q.n)) := fun wq h => ⟨keeps h _ _ k0, keeps h _ _ k1⟩
  have HWW : Hid (W = w.alloc (.cells #[.int .i64 q.c, .int .i64 q.n, .int .i64 q.m] 26) ∧ K = w.heap.size) := ⟨hW, hK⟩
  have HB : Hid (Below w.heap.size w W) := bW
  have HE : Hid (Calls Tryd.prog 8 #[.agg #[.int .i64 q.c, .int .i64 q.n, .int .i64 q.m]] W fun e w' => e = .returned (.tuple #[.int .i64 (takesO q), .int .i64 (putsO q)]) ∧ Below W.heap.size W w') := impl_effect q W (ht.below bW)
  obtain ⟨R, hR⟩ : ∃ R, R = !badO d q := ⟨_, rfl⟩
  have ht2 : q.c = 2 → takesO q = 0 := fun e => by unfold takesO; rw [if_neg (by omega), if_neg (by omega), if_neg (by omega)]
  have ht7 : q.c = 7 → takesO q = 1 := fun e => by unfold takesO; rw [if_neg (by omega), if_pos (by omega)]
  have hRR : R = if q.c = 2 then decide (q.n < d) else if q.c = 7 then decide (d = 2) else decide (1 + takesO q ≤ d) := by
    rw [hR]
    unfold badO
    by_cases e2 : q.c = 2
    · rw [if_pos e2, decide_eq_true e2, decide_eq_false (show ¬ q.c = 7 by omega), decide_eq_false (show ¬ d - 1 < takesO q by rw [ht2 e2]; omega)]
      by_cases h : q.n < d
      · rw [decide_eq_true h, decide_eq_false (by omega)]; rfl
      · rw [decide_eq_false h, decide_eq_true (by omega)]; rfl
    · rw [if_neg e2, decide_eq_false e2]
      by_cases e7 : q.c = 7
      · rw [if_pos e7, decide_eq_true e7, ht7 e7]
        by_cases h : d = 2
        · rw [decide_eq_true h, decide_eq_false (by omega)]; rfl
        · rw [decide_eq_false h]; simp
      · rw [if_neg e7, decide_eq_false e7]
        by_cases h : 1 + takesO q ≤ d
        · rw [decide_eq_true h, decide_eq_false (by omega)]; rfl
        · rw [decide_eq_false h, decide_eq_true (by omega)]; rfl
  rw [← hR]
  clear hR hk bW k0 k1 k2 hW hK ht
  obtain ⟨c, n, m⟩ := q
  simp only at HC HWW HE hRR ht2 ht7 ⊢
  generalize takesO ⟨c, n, m⟩ = ta at *
  generalize putsO ⟨c, n, m⟩ = pu at *
  have HW1 : Hid (∀ w1, Below W.heap.size W w1 → Below w.heap.size w w1) := fun w1 h => HB.out.trans (h.mono HB.out.size)
  by_cases e2 : c = 2
  · rw [if_pos e2] at hRR
    have HR : Hid (decide (n < d) = R) := hRR.symm
    subst e2
    clear hRR ht2 ht7
    go_enter Tryd.func53, Tryd.ntmps53
    go_upto_region 1 with fail
    rw [← HWW.out.2, ← HWW.out.1]
    obtain ⟨c0, c1⟩ := HC.out W (Below.refl _ _)
    have c2 : W.cell? ⟨K, 2, none⟩ = some (.int .i64 m) := by rw [HWW.out.1, HWW.out.2]; exact cell_of_row _ _ 2 _ _ _ (heap_alloc_new w _)
    go_wp2_with fail
    refine HE.out.mono ?_
    rintro e w1 ⟨rfl, hb1⟩
    have HB1 : Hid (Below w.heap.size w w1) := HW1.out w1 hb1
    obtain ⟨c0', c1'⟩ := HC.out w1 hb1
    clear hb1
    go_wp2_with fail
    go_ret
    exact ⟨by first | (rw [HR.out]; rfl) | (rw [← HR.out]; rfl) | (rw [HR.out]; simp), HB1.out⟩
  · rw [if_neg e2] at hRR
    have b2 : (c == 2) = false := by simpa using e2
    by_cases e7 : c = 7
    · rw [if_pos e7] at hRR
      have HR : Hid (R = decide (d = 2)) := hRR
      obtain rfl : ta = 1 := ht7 e7
      subst e7
      clear hRR ht2 ht7 e2
      go_enter Tryd.func53, Tryd.ntmps53
      go_upto_region 1 with fail
      rw [← HWW.out.2, ← HWW.out.1]
      obtain ⟨c0, c1⟩ := HC.out W (Below.refl _ _)
      have c2 : W.cell? ⟨K, 2, none⟩ = some (.int .i64 m) := by rw [HWW.out.1, HWW.out.2]; exact cell_of_row _ _ 2 _ _ _ (heap_alloc_new w _)
      go_wp2_with fail
      refine HE.out.mono ?_
      rintro e w1 ⟨rfl, hb1⟩
      have HB1 : Hid (Below w.heap.size w w1) := HW1.out w1 hb1
      obtain ⟨c0', c1'⟩ := HC.out w1 hb1
      clear hb1
      go_wp2_with fail
      go_ret
      exact ⟨by first | (rw [HR.out]; rfl) | (rw [← HR.out]; rfl) | (rw [HR.out]; simp), HB1.out⟩
    · rw [if_neg e7] at hRR
      have HR : Hid (R = decide (1 + ta ≤ d)) := hRR
      have b7 : (c == 7) = false := by simpa using e7
      clear hRR ht2 ht7 e2 e7
      go_enter Tryd.func53, Tryd.ntmps53
      go_upto_region 1 with fail
      rw [← HWW.out.2, ← HWW.out.1]
      obtain ⟨c0, c1⟩ := HC.out W (Below.refl _ _)
      have c2 : W.cell? ⟨K, 2, none⟩ = some (.int .i64 m) := by rw [HWW.out.1, HWW.out.2]; exact cell_of_row _ _ 2 _ _ _ (heap_alloc_new w _)
      go_wp2_with fail
      refine HE.out.mono ?_
      rintro e w1 ⟨rfl, hb1⟩
      have HB1 : Hid (Below w.heap.size w w1) := HW1.out w1 hb1
      obtain ⟨c0', c1'⟩ := HC.out w1 hb1
      clear hb1
      go_wp2_with fail
      go_ret
      exact ⟨by first | (rw [HR.out]; rfl) | (rw [← HR.out]; rfl) | (rw [HR.out]; simp), HB1.out⟩
end Go.Proofs.YtkbbfgfmlilfbaaDoor
