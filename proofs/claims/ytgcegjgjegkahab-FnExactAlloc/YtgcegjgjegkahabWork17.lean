/- impl.heapWork: how it lies; its atomic, and which half is in use. Conditions: as the theorems say. -/
import Derived.Test.YtgcegjgjegkahabBlockAt17
import Derived.Test.YtgcegjgjegkahabLocks
import Derived.Laws.LoneSync
namespace Go.Proofs.Ytgcegjgjegkahab
open Go.ChangeShapes Go.WideShapes Go.ChangeAt Go.RowKit

/-- A heap at work: the lock free, how often it was moved, its words, the half and how much of it is in use. -/
abbrev workO (g : Int) (m : Int) (v : Value) (half used : Int) : Obj := .cells #[.int .i32 g, .int .u32 0, .int .i64 m, v, .int .i64 half, .int .i64 used] 98
def WorkAt (w : World) (H : Nat) (g m : Int) (v : Value) (half used : Int) : Prop := w.heap[H]? = some (workO g m v half used)
theorem WorkAt.lt {w : World} {H : Nat} {g m : Int} {v : Value} {half used : Int} (h : WorkAt w H g m v half used) : H < w.heap.size := by
  rcases Nat.lt_or_ge H w.heap.size with h1 | h1
  · exact h1
  · unfold WorkAt at h; rw [Array.getElem?_eq_none h1] at h; cases h
theorem WorkAt.below {w w' : World} {H : Nat} {g m : Int} {v : Value} {half used : Int} (h : WorkAt w H g m v half used) (hb : Below w.heap.size w w') : WorkAt w' H g m v half used := (hb.block H h.lt).trans h
theorem WorkAt.cells {w : World} {H : Nat} {g m : Int} {v : Value} {half used : Int} (h : WorkAt w H g m v half used) :
    (w.cell? ⟨H, 0, none⟩ = some (.int .i32 g) ∧ w.cell? ⟨H, 1, none⟩ = some (.int .u32 0) ∧ w.cell? ⟨H, 2, none⟩ = some (.int .i64 m) ∧ w.cell? ⟨H, 3, none⟩ = some v ∧ w.cell? ⟨H, 4, none⟩ = some (.int .i64 half) ∧ w.cell? ⟨H, 5, none⟩ = some (.int .i64 used)) ∧ ∀ j, w.frozen? ⟨H, j, none⟩ = false :=
  ⟨⟨cell_of_row w _ 0 _ _ _ h, cell_of_row w _ 1 _ _ _ h, cell_of_row w _ 2 _ _ _ h, cell_of_row w _ 3 _ _ _ h, cell_of_row w _ 4 _ _ _ h, cell_of_row w _ 5 _ _ _ h⟩, fun j => frozen_of_row w _ j _ _ h⟩

set_option maxRecDepth 100000 in
set_option maxHeartbeats 1000000 in
theorem impl_load64 (b o : Nat) (n : Int) (w : World) (hc : w.cell? ⟨b, o, none⟩ = some (.int .i64 n)) :
    Calls Try.prog 100 #[.pointer (some ⟨b, o, none⟩)] w fun e w' => e = .returned (.int .i64 n) ∧ w' = w := by
  have hl := run_call_load (P := Try.prog) Try.func111 (by kernel_rfl) (by kernel_rfl) (by kernel_rfl) .i64 (by kernel_rfl) hc
  go_enter Try.func100, Try.ntmps100
  go_wp2
  go_ret
  exact ⟨rfl, rfl⟩

set_option maxRecDepth 100000 in
set_option maxHeartbeats 1000000 in
theorem impl_add64 (b o : Nat) (w : World) (hc : w.cell? ⟨b, o, none⟩ = some (.int .i64 0)) (hf : w.frozen? ⟨b, o, none⟩ = false) :
    Calls Try.prog 87 #[.pointer (some ⟨b, o, none⟩), .int .i64 1] w fun e w' => e = .returned (.int .i64 1) ∧ w' = w.setCell ⟨b, o, none⟩ (.int .i64 1) := by
  have hl := run_call_add (P := Try.prog) Try.func97 (by kernel_rfl) (by kernel_rfl) (by kernel_rfl) .i64 (by kernel_rfl) (y := 1) (s := 1) hc hf (by simp [go_sem]; rfl)
  go_enter Try.func87, Try.ntmps87
  go_wp2
  go_ret
  exact ⟨rfl, rfl⟩

set_option maxRecDepth 100000 in
set_option maxHeartbeats 1000000 in
theorem impl_base17 (H : Nat) (g m : Int) (v : Value) (half used : Int) (w : World) (hw : WorkAt w H g m v half used) (hm : m = 0 ∨ m = 1) (hh : 0 ≤ half ∧ half ≤ 3000) :
    Calls Try.prog 90 #[.pointer (some ⟨H, 0, none⟩)] w fun e w' => e = .returned (.int .i64 (m * half)) ∧ ∃ q, w' = w.drewN q := by
  obtain ⟨⟨c0, c1, c2, c3, c4, c5⟩, hf⟩ := hw.cells
  have HL : Hid (∀ q, Calls Try.prog 100 #[.pointer (some ⟨H, 2, none⟩)] (w.drewN q) fun e w' => e = .returned (.int .i64 m) ∧ w' = w.drewN q) := fun q => impl_load64 H 2 m (w.drewN q) (by exact c2)
  have hr : m.tmod 2 = m := by rcases hm with rfl | rfl <;> decide
  have hr2 : m * half ≤ 3000 ∧ 0 ≤ m * half := by rcases hm with rfl | rfl <;> omega
  clear hw hf
  have hb1 := hr2.1
  have hb2 := hr2.2
  clear hm hr2
  go_enter Try.func90, Try.ntmps90
  go_wp2_with fail
  go_quiet ((go_at_call 100; exact Calls.quiet_of_same (HL.out _)))
  go_wp2_with fail
  go_ret
  exact ⟨rfl, nq, rfl⟩
end Go.Proofs.Ytgcegjgjegkahab
