/- (*strings.Builder).String of a builder in a block of its own. No conditions. -/
import Derived.Test.YtbofjjjjjcolgaaDoorBld
namespace Go.Proofs.YtbofjjjjjcolgaaDoor
open Go.ChangeShapes Go.WideShapes Go.ChangeAt Go.RowKit

theorem us_none (W : World) (q : Option Addr) : (Builtin.unsafeString_ #[67, 3] 9 #[.pointer q, .int .i64 0]).run Tryd.prog W = .ok (.string .empty) W :=
  Lib.run_unsafeString_none W _ _ _ q

theorem cells_byte : Tryd.prog.cellsOf 5 = 1 := by kernel_rfl


set_option maxRecDepth 100000 in
set_option maxHeartbeats 1000000 in
theorem end_nil (w : World) (K : Nat) (c1 : w.cell? ⟨K, 1, none⟩ = some (.slice none 0 0)) :
    Calls Tryd.prog 26 #[self K] w fun e w' => e = .returned (.string ⟨#[]⟩) ∧ Below K w w' := by
  have hUS := us_none
  have hSD : ∀ W : World, (Builtin.unsafeSliceData_ #[22] 67 #[.slice none 0 0]).run Tryd.prog W = .ok (.pointer none) W := fun _ => rfl
  go_enter Tryd.func26, Tryd.ntmps26
  go_wp2
  go_region
  all_goals (go_wp2; go_ret; exact ⟨rfl, Below.drew (Below.refl K w)⟩)

set_option maxRecDepth 100000 in
set_option maxHeartbeats 1000000 in
theorem end_room (w : World) (K g cap : Nat) (hc0 : cap ≠ 0) (c1 : w.cell? ⟨K, 1, none⟩ = some (.slice (some ⟨g, 0, none⟩) 0 cap)) :
    Calls Tryd.prog 26 #[self K] w fun e w' => e = .returned (.string ⟨#[]⟩) ∧ Below K w w' := by
  have hUS := us_none
  have hSD : ∀ W : World, (Builtin.unsafeSliceData_ #[22] 67 #[.slice (some ⟨g, 0, none⟩) 0 cap]).run Tryd.prog W = .ok (.pointer (some ⟨g, 0, none⟩)) W := fun W => Lib.run_unsafeSliceData_row _ _ _ _ _ _ hc0
  clear hc0
  go_enter Tryd.func26, Tryd.ntmps26
  go_wp2
  go_region
  all_goals (go_wp2; go_ret; exact ⟨rfl, Below.drew (Below.refl K w)⟩)

set_option maxRecDepth 100000 in
set_option maxHeartbeats 1000000 in
theorem end_some (w : World) (K g cap : Nat) (l : List UInt8) (hKg : K ≤ g) (hc0 : cap ≠ 0) (c1 : w.cell? ⟨K, 1, none⟩ = some (.slice (some ⟨g, 0, none⟩) l.length cap))
    (hUS : (Builtin.unsafeString_ #[67, 3] 9 #[.pointer (some ⟨g, 0, none⟩), .int .i64 l.length]).run Tryd.prog w.drew = .ok (.string ⟨l.toArray⟩) (w.drew.freeze ⟨g, 0, none⟩ l.length)) :
    Calls Tryd.prog 26 #[self K] w fun e w' => e = .returned (.string ⟨l.toArray⟩) ∧ Below K w w' := by
  have hSD : ∀ W : World, (Builtin.unsafeSliceData_ #[22] 67 #[.slice (some ⟨g, 0, none⟩) l.length cap]).run Tryd.prog W = .ok (.pointer (some ⟨g, 0, none⟩)) W := fun W => Lib.run_unsafeSliceData_row _ _ _ _ _ _ hc0
  have HBG : Hid (K ≤ g) := hKg
  clear hc0 hKg
  go_enter Tryd.func26, Tryd.ntmps26
  go_wp2
  go_region
  all_goals (go_wp2; go_ret; exact ⟨rfl, Lib.below_freeze (Below.drew (Below.refl K w)) (p := ⟨g, 0, none⟩) HBG.out _⟩)

set_option maxRecDepth 100000 in
set_option maxHeartbeats 1000000 in
theorem end_noroom (w : World) (K g : Nat) (cur : Array Value) (hK : K < w.heap.size) (c1 : w.cell? ⟨K, 1, none⟩ = some (.slice (some ⟨g, 0, none⟩) 0 0)) (hg : w.heap[g]? = some (.cells cur 5 (0, 0))) :
    Calls Tryd.prog 26 #[self K] w fun e w' => e = .returned (.string ⟨#[]⟩) ∧ Below K w w' := by
  have hUS := us_none
  have hSD : (Builtin.unsafeSliceData_ #[22] 67 #[.slice (some ⟨g, 0, none⟩) 0 0]).run Tryd.prog w.drew = .ok (.pointer (some ⟨w.drew.heap.size, 0, none⟩)) (w.drew.alloc (.view ⟨g, 0, none⟩ 5)) :=
    Lib.run_unsafeSliceData_zero w.drew _ _ 5 Tryd.underlying67 ⟨g, 0, none⟩ 0 (5, cur.size) (by have hg' : w.drew.heap[g]? = some (.cells cur 5 (0, 0)) := hg; simp [World.shape?, hg'])
  have c2 : (w.drew.alloc (.view ⟨g, 0, none⟩ 5)).cell? ⟨K, 1, none⟩ = some (.slice (some ⟨g, 0, none⟩) 0 0) := keeps (newb _ _) _ _ c1
  have c3 : (w.alloc (.view ⟨g, 0, none⟩ 5)).drew.cell? ⟨K, 1, none⟩ = some (.slice (some ⟨g, 0, none⟩) 0 0) := c2
  have HK : Hid (K ≤ w.drew.heap.size) := by show K ≤ w.heap.size; omega
  clear hg hK
  go_enter Tryd.func26, Tryd.ntmps26
  go_wp2
  go_region
  all_goals (go_wp2; go_ret; exact ⟨rfl, (Below.drew (Below.refl K w)).alloc HK.out _⟩)

theorem tell_end (w : World) (K : Nat) (p bv : Value) (txt : List UInt8) (h : Tell w K p bv txt) :
    Calls Tryd.prog 26 #[self K] w fun e w' => e = .returned (.string ⟨txt.toArray⟩) ∧ Below K w w' := by
  have c1 := h.c1
  have hown := h.buf
  cases txt with
  | nil =>
    rcases hown.2 with ⟨rfl, _⟩ | ⟨g, cap, cur, rfl, hbg, hg, _, _, _, _⟩
    · exact end_nil w K c1
    · by_cases hc0 : cap = 0
      · subst hc0
        exact end_noroom w K g cur h.lt c1 hg
      · exact end_room w K g cap hc0 c1
  | cons x r =>
    have h0 : (x :: r) ≠ [] := by simp
    generalize hl : x :: r = l at *
    have hl0 : l.length ≠ 0 := by simpa using h0
    obtain ⟨g, cap, cur, rfl, hbg, hg, hnc, hcm, hcs, htake⟩ : ∃ g cap cur, bv = .slice (some ⟨g, 0, none⟩) l.length cap ∧ K + 1 ≤ g ∧ w.heap[g]? = some (.cells cur 5 (0, 0)) ∧ l.length ≤ cap ∧ cap ≤ maxLen ∧ cur.size = cap * 1 ∧ cur.toList.take (l.length * 1) = Lib.byteCells l := by
      rcases hown.2 with ⟨_, hz⟩ | ⟨g, cap, cur, hv, r⟩
      · exact absurd hz hl0
      · exact ⟨g, cap, cur, hv, r⟩
    refine end_some w K g cap l (by omega) (by omega) c1 ?_
    refine Lib.run_unsafeString_row w.drew 67 3 9 5 Tryd.underlying67 cells_byte g cur.size (by have hg' : w.drew.heap[g]? = some (.cells cur 5 (0, 0)) := hg; simp [World.shape?, hg']) l h0 (by omega) (by unfold maxLen at hcm; omega) ?_
    intro j x hx
    have := hown.cells (g := g) rfl j (.int .u8 x.toNat) (by simp [Lib.byteCells, hx])
    exact this
end Go.Proofs.YtbofjjjjjcolgaaDoor
