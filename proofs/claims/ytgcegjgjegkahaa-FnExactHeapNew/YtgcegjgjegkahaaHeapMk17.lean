/- HeapNew, of the program and of the specification. No conditions. -/
import Derived.Test.YtgcegjgjegkahaaHeapP
namespace Go.Proofs.Ytgcegjgjegkahaa
open Go.ChangeShapes Go.WideShapes Go.ChangeAt Go.RowKit

set_option maxRecDepth 100000 in
set_option maxHeartbeats 1000000 in
theorem impl_hnew (n : Int) (w : World) : Calls Try.prog 20 #[.int .i64 n] w (HpRet w.heap.size w (newHp n) (newOk n)) := by
  obtain ⟨POST, hPOST⟩ : ∃ P, P = HpRet w.heap.size w (newHp n) (newOk n) := ⟨_, rfl⟩
  rw [← hPOST]
  have HP : Hid (POST = HpRet w.heap.size w (newHp n) (newOk n)) := hPOST
  clear hPOST
  obtain ⟨A, hA⟩ : ∃ A, A = w.alloc (.cells #[.slice none 0 0, .int .i64 0, .int .i64 0, .int .i64 0] 26) := ⟨_, rfl⟩
  have HA : Hid (Below w.heap.size w A) := by rw [hA]; exact (Below.refl _ _).alloc (Nat.le_refl _) _
  have HAS : Hid (A.heap.size = w.heap.size + 1) := by show _ = _; rw [hA]; simp
  by_cases h : 1 ≤ n ∧ n ≤ 3000
  · have h1 := h.1
    have h2 := h.2
    obtain ⟨m, rfl⟩ : ∃ m : Nat, n = m := ⟨n.toNat, by omega⟩
    obtain ⟨i0, hi, hz0, hz1, hz2⟩ := info_parts int_info
    obtain ⟨w1, hrun, hown, hg⟩ := run_make_full (P := Try.prog) A w.heap.size 24 3 i0 _ 1 Try.underlying24 hi hz0 hz1 .i64 .i64 (2 * m) (by rw [hz2]; omega) (by unfold maxLen; omega) (by have := HAS.out; omega)
    rw [made_zeros] at hown
    rw [HAS.out, show ((2 * m : Nat) : Int) = 2 * (m : Int) by omega] at hrun
    rw [HAS.out] at hown
    rw [hA] at hrun
    have HOW : Hid (Own w1 w.heap.size (.slice (some ⟨w.heap.size + 1, 0, none⟩) (2 * m) (2 * m)) (List.replicate (2 * m) 0)) := by
      show World.ownsRow _ _ _ _ _ _ _
      rw [List.length_replicate]; exact hown
    have HB : Hid (Below w.heap.size w w1) := HA.out.grown hg (by have := HAS.out; omega) (fun k hk => by cases hk)
    have hrow : w1.heap[w.heap.size]? = some (.cells #[.slice none 0 0, .int .i64 0, .int .i64 0, .int .i64 0] 26 (0, 0)) := by
      rw [hg.block _ (by have := HAS.out; omega) (fun h => by cases h), hA]
      exact heap_alloc_last _ _
    have c0 := cell_of_row w1 _ 0 _ _ _ hrow
    have c1 := cell_of_row w1 _ 1 _ _ _ hrow
    have c2 := cell_of_row w1 _ 2 _ _ _ hrow
    have c3 := cell_of_row w1 _ 3 _ _ _ hrow
    have f0 := frozen_of_row w1 _ 0 _ _ hrow
    have f1 := frozen_of_row w1 _ 1 _ _ hrow
    have f2 := frozen_of_row w1 _ 2 _ _ hrow
    have f3 := frozen_of_row w1 _ 3 _ _ hrow
    have HN : Hid (newHp m = ⟨List.replicate (2 * m) 0, m, 0, 0⟩ ∧ newOk m = true) := by
      have hd : (decide ((1 : Int) ≤ m) && decide ((m : Int) ≤ 3000)) = true := by rw [decide_eq_true h1, decide_eq_true h2]; rfl
      exact ⟨by rw [newHp, if_pos hd, Int.toNat_natCast], hd⟩
    have HE : Hid (∀ a b c d, POST (.returned (.tuple #[heapV (.slice (some ⟨w.heap.size + 1, 0, none⟩) (2 * m) (2 * m)) (newHp m), .bool true])) ((((w1.setCell ⟨w.heap.size, 0, none⟩ a).setCell ⟨w.heap.size, 1, none⟩ b).setCell ⟨w.heap.size, 2, none⟩ c).setCell ⟨w.heap.size, 3, none⟩ d)) := fun a b c d => by
      rw [HP.out]
      refine ⟨_, by rw [HN.out.2], ?_, (((HB.out.setCell (Nat.le_refl _) _).setCell (Nat.le_refl _) _).setCell (Nat.le_refl _) _).setCell (Nat.le_refl _) _⟩
      rw [HN.out.1]
      have hne : ∀ j, (Value.slice (some ⟨w.heap.size + 1, 0, none⟩) (2 * m) (2 * m)).ownBlock ≠ some (⟨w.heap.size, j, none⟩ : Addr).block := fun j h => by injection h with h; exact absurd h (Nat.succ_ne_self _)
      exact ownsRow_setCell_other (ownsRow_setCell_other (ownsRow_setCell_other (ownsRow_setCell_other HOW.out (hne _) _) (hne _) _) (hne _) _) (hne _) _
    clear hg hown hA hrow
    go_enter Try.func20, Try.ntmps20
    go_wp2_with fail
    refine bodyPost_ret (v := .tuple #[heapV (.slice (some ⟨w.heap.size + 1, 0, none⟩) (2 * m) (2 * m)) ⟨[], m, 0, 0⟩, .bool true]) (by rw [results_cell_tmpH (p := 2) (q := 3) (ty := 26) (by kernel_rfl)]; simp [go_sem, c0, c1, c2, c3]) rfl ?_
    have := HE.out (.slice (some ⟨w.heap.size + 1, 0, none⟩) (2 * m) (2 * m)) (.int .i64 m) (.int .i64 0) (.int .i64 0)
    rw [HN.out.1] at this
    exact this
  have hd : (decide ((1 : Int) ≤ n) && decide (n ≤ 3000)) = false := by
    rw [Bool.and_eq_false_iff, decide_eq_false_iff_not, decide_eq_false_iff_not]; omega
  have HN : Hid (newHp n = ⟨[], 0, 0, 0⟩ ∧ newOk n = false) := ⟨by rw [newHp, if_neg (by rw [hd]; decide)], hd⟩
  have HE : Hid (POST (.returned (.tuple #[heapV (.slice none 0 0) ⟨[], 0, 0, 0⟩, .bool false])) A) := by
    show POST _ _
    rw [HP.out]
    refine ⟨.slice none 0 0, by rw [HN.out.1, HN.out.2], ?_, HA.out⟩
    rw [HN.out.1]
    exact World.ownsRow_nil _ _ _ _
  rw [hA] at HE
  by_cases h1 : n < 1
  · go_enter Try.func20, Try.ntmps20
    go_wp2_with fail
    refine bodyPost_ret (v := .tuple #[heapV (.slice none 0 0) ⟨[], 0, 0, 0⟩, .bool false]) (by rw [results_cell_tmpH (p := 2) (q := 3) (ty := 26) (by kernel_rfl)]; simp [go_sem]) rfl ?_
    exact HE.out
  · have h2 : 3000 < n := by omega
    go_enter Try.func20, Try.ntmps20
    go_wp2_with fail
    refine bodyPost_ret (v := .tuple #[heapV (.slice none 0 0) ⟨[], 0, 0, 0⟩, .bool false]) (by rw [results_cell_tmpH (p := 2) (q := 3) (ty := 26) (by kernel_rfl)]; simp [go_sem]) rfl ?_
    exact HE.out

set_option maxRecDepth 100000 in
set_option maxHeartbeats 1000000 in
theorem spec_hnew (n : Int) (w : World) : Calls Try.prog 19 #[.int .i64 n] w (HpRet w.heap.size w (newHp n) (newOk n)) := by
  obtain ⟨POST, hPOST⟩ : ∃ P, P = HpRet w.heap.size w (newHp n) (newOk n) := ⟨_, rfl⟩
  rw [← hPOST]
  have HP : Hid (POST = HpRet w.heap.size w (newHp n) (newOk n)) := hPOST
  clear hPOST
  obtain ⟨A, hA⟩ : ∃ A, A = w.alloc (.cells #[.slice none 0 0, .int .i64 0, .int .i64 0, .int .i64 0] 26) := ⟨_, rfl⟩
  have HA : Hid (Below w.heap.size w A) := by rw [hA]; exact (Below.refl _ _).alloc (Nat.le_refl _) _
  have HAS : Hid (A.heap.size = w.heap.size + 1) := by show _ = _; rw [hA]; simp
  by_cases h : 1 ≤ n ∧ n ≤ 3000
  · have h1 := h.1
    have h2 := h.2
    obtain ⟨m, rfl⟩ : ∃ m : Nat, n = m := ⟨n.toNat, by omega⟩
    obtain ⟨i0, hi, hz0, hz1, hz2⟩ := info_parts int_info
    obtain ⟨w1, hrun, hown, hg⟩ := run_make_full (P := Try.prog) A w.heap.size 24 3 i0 _ 1 Try.underlying24 hi hz0 hz1 .i64 .i64 (2 * m) (by rw [hz2]; omega) (by unfold maxLen; omega) (by have := HAS.out; omega)
    rw [made_zeros] at hown
    rw [HAS.out, show ((2 * m : Nat) : Int) = 2 * (m : Int) by omega] at hrun
    rw [HAS.out] at hown
    rw [hA] at hrun
    have HOW : Hid (Own w1 w.heap.size (.slice (some ⟨w.heap.size + 1, 0, none⟩) (2 * m) (2 * m)) (List.replicate (2 * m) 0)) := by
      show World.ownsRow _ _ _ _ _ _ _
      rw [List.length_replicate]; exact hown
    have HB : Hid (Below w.heap.size w w1) := HA.out.grown hg (by have := HAS.out; omega) (fun k hk => by cases hk)
    have hrow : w1.heap[w.heap.size]? = some (.cells #[.slice none 0 0, .int .i64 0, .int .i64 0, .int .i64 0] 26 (0, 0)) := by
      rw [hg.block _ (by have := HAS.out; omega) (fun h => by cases h), hA]
      exact heap_alloc_last _ _
    have c0 := cell_of_row w1 _ 0 _ _ _ hrow
    have c1 := cell_of_row w1 _ 1 _ _ _ hrow
    have c2 := cell_of_row w1 _ 2 _ _ _ hrow
    have c3 := cell_of_row w1 _ 3 _ _ _ hrow
    have f0 := frozen_of_row w1 _ 0 _ _ hrow
    have f1 := frozen_of_row w1 _ 1 _ _ hrow
    have f2 := frozen_of_row w1 _ 2 _ _ hrow
    have f3 := frozen_of_row w1 _ 3 _ _ hrow
    have HN : Hid (newHp m = ⟨List.replicate (2 * m) 0, m, 0, 0⟩ ∧ newOk m = true) := by
      have hd : (decide ((1 : Int) ≤ m) && decide ((m : Int) ≤ 3000)) = true := by rw [decide_eq_true h1, decide_eq_true h2]; rfl
      exact ⟨by rw [newHp, if_pos hd, Int.toNat_natCast], hd⟩
    have HE : Hid (∀ a b c d, POST (.returned (.tuple #[heapV (.slice (some ⟨w.heap.size + 1, 0, none⟩) (2 * m) (2 * m)) (newHp m), .bool true])) ((((w1.setCell ⟨w.heap.size, 0, none⟩ a).setCell ⟨w.heap.size, 1, none⟩ b).setCell ⟨w.heap.size, 2, none⟩ c).setCell ⟨w.heap.size, 3, none⟩ d)) := fun a b c d => by
      rw [HP.out]
      refine ⟨_, by rw [HN.out.2], ?_, (((HB.out.setCell (Nat.le_refl _) _).setCell (Nat.le_refl _) _).setCell (Nat.le_refl _) _).setCell (Nat.le_refl _) _⟩
      rw [HN.out.1]
      have hne : ∀ j, (Value.slice (some ⟨w.heap.size + 1, 0, none⟩) (2 * m) (2 * m)).ownBlock ≠ some (⟨w.heap.size, j, none⟩ : Addr).block := fun j h => by injection h with h; exact absurd h (Nat.succ_ne_self _)
      exact ownsRow_setCell_other (ownsRow_setCell_other (ownsRow_setCell_other (ownsRow_setCell_other HOW.out (hne _) _) (hne _) _) (hne _) _) (hne _) _
    clear hg hown hA hrow
    have HW : Hid (∀ w, Calls Try.prog 26 #[.int .i64 m, .int .i64 1, .int .i64 3000] w fun e w' => e = .returned (.bool true) ∧ w' = w) := fun w => in17 m 1 3000 _ (by rw [decide_eq_true h1, decide_eq_true h2]; rfl) w
    go_enter Try.func19, Try.ntmps19
    go_wp2_with (go_at_call 26; refine (HW.out _).mono ?_; rintro e w1 ⟨rfl, rfl⟩)
    refine bodyPost_ret (v := .tuple #[heapV (.slice (some ⟨w.heap.size + 1, 0, none⟩) (2 * m) (2 * m)) ⟨[], m, 0, 0⟩, .bool true]) (by rw [results_cell_tmpH (p := 2) (q := 3) (ty := 26) (by kernel_rfl)]; simp [go_sem, c0, c1, c2, c3]) rfl ?_
    have := HE.out (.slice (some ⟨w.heap.size + 1, 0, none⟩) (2 * m) (2 * m)) (.int .i64 m) (.int .i64 0) (.int .i64 0)
    rw [HN.out.1] at this
    exact this
  have hd : (decide ((1 : Int) ≤ n) && decide (n ≤ 3000)) = false := by
    rw [Bool.and_eq_false_iff, decide_eq_false_iff_not, decide_eq_false_iff_not]; omega
  have HN : Hid (newHp n = ⟨[], 0, 0, 0⟩ ∧ newOk n = false) := ⟨by rw [newHp, if_neg (by rw [hd]; decide)], hd⟩
  have HE : Hid (POST (.returned (.tuple #[heapV (.slice none 0 0) ⟨[], 0, 0, 0⟩, .bool false])) A) := by
    show POST _ _
    rw [HP.out]
    refine ⟨.slice none 0 0, by rw [HN.out.1, HN.out.2], ?_, HA.out⟩
    rw [HN.out.1]
    exact World.ownsRow_nil _ _ _ _
  rw [hA] at HE
  have HW : Hid (∀ w, Calls Try.prog 26 #[.int .i64 n, .int .i64 1, .int .i64 3000] w fun e w' => e = .returned (.bool false) ∧ w' = w) := fun w => in17 n 1 3000 _ hd.symm w
  clear hd
  go_enter Try.func19, Try.ntmps19
  go_wp2_with (go_at_call 26; refine (HW.out _).mono ?_; rintro e w1 ⟨rfl, rfl⟩)
  refine bodyPost_ret (v := .tuple #[heapV (.slice none 0 0) ⟨[], 0, 0, 0⟩, .bool false]) (by rw [results_cell_tmpH (p := 2) (q := 3) (ty := 26) (by kernel_rfl)]; simp [go_sem]) rfl ?_
  exact HE.out
end Go.Proofs.Ytgcegjgjegkahaa
