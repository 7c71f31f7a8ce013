/- impl.boundIn: the names that a core binds in a kid. No conditions. -/
import Derived.Test.YtefjnhkaampmcaaDoorRows
import Derived.Test.YtefjnhkaampmcaaDoorZCorRows
import Derived.Test.YtefjnhkaampmcaaDoorZStepP
import Derived.WalkKit
import Derived.ProofKit
import Derived.Deep.Cut
namespace Go.Proofs.YtefjnhkaampmcaaDoor
open Go.ChangeShapes Go.WideShapes Go.ChangeAt Go.RowKit

/-- The slice nv holds the names. -/
def NamesV (w : World) (nv : Value) (xs : List ByteArray) : Prop := (nv = .slice none 0 0 ∧ xs = []) ∨ ∃ g, nv = .slice (some ⟨g, 0, none⟩) (xs.length : Nat) (xs.length : Nat) ∧ w.heap[g]? = some (.cells (xs.map Value.string).toArray 9 (0, 0))
theorem NamesV.shape {w : World} {nv : Value} {xs : List ByteArray} (h : NamesV w nv xs) : ∃ p c, nv = .slice p (xs.length : Nat) c := by
  rcases h with ⟨rfl, rfl⟩ | ⟨g, rfl, _⟩
  · exact ⟨_, _, rfl⟩
  · exact ⟨_, _, rfl⟩
theorem NamesV.below {w w' : World} {nv : Value} {xs : List ByteArray} (h : NamesV w nv xs) (hb : Below w.heap.size w w') : NamesV w' nv xs := by
  rcases h with h | ⟨g, h1, h2⟩
  · exact .inl h
  · exact .inr ⟨g, h1, (hb.block g (Array.getElem?_eq_some_iff.1 h2).1).trans h2⟩

theorem bndIB_nil {op : Int} {i : Nat} {s t2 : ByteArray} (h1 : ¬ (op = 6 ∧ i = 0)) (h2 : ¬ ((op = 3 ∧ i = 0) ∨ (op = 5 ∧ i = 1) ∨ (op = 6 ∧ i = 1))) : bndIB op i s t2 = [] := by
  unfold bndIB
  rw [if_neg h1, if_neg h2]

set_option maxRecDepth 100000 in
set_option maxHeartbeats 2000000 in
theorem bound_in (t : C) (p : Option Addr) (cap k : Nat) (w : World) (hk : k ≤ 1048576) :
    Calls Tryd.prog 40 #[.agg #[.int .i64 t.op, .int .i64 t.n, .string t.s, .string t.t2, .slice p t.len cap], .int .i64 k] w fun e w' => ∃ nv, e = .returned nv ∧ NamesV w' nv (bndIB t.op k t.s t.t2) ∧ Below w.heap.size w w' := by
  have HB : Hid (∀ o1, Below w.heap.size w (w.alloc o1)) := fun o1 => newb w _
  have HB2 : Hid (∀ o1 o2, Below w.heap.size w ((w.alloc o1).alloc o2) ∧ ((w.alloc o1).alloc o2).heap[w.heap.size + 1]? = some o2) := fun o1 o2 => ⟨(newb w _).trans ((newb _ _).mono (by simp)), by have := heap_alloc_new (w.alloc o1) o2; rwa [World.size_alloc] at this⟩
  generalize t.n = n at *
  generalize t.s = s at *
  generalize t.t2 = t2 at *
  generalize t.len = len at *
  generalize t.op = op at *
  have hop : op = 3 ∨ op = 5 ∨ op = 6 ∨ ((op == 3) = false ∧ (op == 5) = false ∧ (op == 6) = false ∧ op ≠ 3 ∧ op ≠ 5 ∧ op ≠ 6) := by
    by_cases h3 : op = 3
    · exact .inl h3
    by_cases h5 : op = 5
    · exact .inr (.inl h5)
    by_cases h6 : op = 6
    · exact .inr (.inr (.inl h6))
    exact .inr (.inr (.inr ⟨by simpa using h3, by simpa using h5, by simpa using h6, h3, h5, h6⟩))
  have hkk : k = 0 ∨ k = 1 ∨ (((k : Int) == 0) = false ∧ ((k : Int) == 1) = false ∧ k ≠ 0 ∧ k ≠ 1) := by
    by_cases h0 : k = 0
    · exact .inl h0
    by_cases h1 : k = 1
    · exact .inr (.inl h1)
    exact .inr (.inr ⟨by rw [beq_eq_false_iff_ne]; omega, by rw [beq_eq_false_iff_ne]; omega, h0, h1⟩)
  obtain ⟨xs, hxs⟩ : ∃ xs, xs = bndIB op k s t2 := ⟨_, rfl⟩
  rw [← hxs]
  rcases hop with rfl | rfl | rfl | ⟨g3, g5, g6, n3, n5, n6⟩ <;> rcases hkk with rfl | rfl | ⟨k0, k1, e0, e1⟩
  all_goals
    first
    | (have e9 : xs = [s, t2] := hxs
       subst e9
       clear hxs
       go_enter Tryd.func40, Tryd.ntmps40
       go_wp2_with fail
       go_ret
       exact ⟨_, rfl, .inr ⟨w.heap.size + 1, by simp, (HB2.out _ _).2⟩, (HB2.out _ _).1⟩)
    | (have e9 : xs = [s] := hxs
       subst e9
       clear hxs
       go_enter Tryd.func40, Tryd.ntmps40
       go_wp2_with fail
       go_ret
       exact ⟨_, rfl, .inr ⟨w.heap.size + 1, by simp, (HB2.out _ _).2⟩, (HB2.out _ _).1⟩)
    | (have e9 : xs = [s] := hxs
       subst e9
       clear hxs
       go_enter Tryd.func40, Tryd.ntmps40
       go_wp2_with fail
       go_ret
       exact ⟨_, rfl, .inr ⟨w.heap.size + 1, by simp, (HB2.out _ _).2⟩, (HB2.out _ _).1⟩)
    | (have e9 : xs = [s] := hxs
       subst e9
       clear hxs
       go_enter Tryd.func40, Tryd.ntmps40
       go_wp2_with fail
       go_ret
       exact ⟨_, rfl, .inr ⟨w.heap.size + 1, by simp, (HB2.out _ _).2⟩, (HB2.out _ _).1⟩)
    | (have e9 : xs = [] := hxs.trans (bndIB_nil (by omega) (by omega))
       subst e9
       clear hxs
       go_enter Tryd.func40, Tryd.ntmps40
       go_wp2_with fail
       go_ret
       exact ⟨_, rfl, .inl ⟨rfl, rfl⟩, HB.out _⟩)
end Go.Proofs.YtefjnhkaampmcaaDoor
