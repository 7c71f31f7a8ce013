/- What marking keeps: only ints of some blocks turn. No conditions. -/
import Derived.Test.YtocdpgogoadfnaaDoorRows
import Derived.Test.YtocdpgogoadfnaaDoorDat
import Derived.HandedShaped
namespace Go.Proofs.YtocdpgogoadfnaaDoor
open Go.ChangeShapes Go.WideShapes Go.ChangeAt Go.RowKit

/-- Only ints of the blocks from B up to C turned. -/
structure MK (B C : Nat) (w w' : World) : Prop where
  os : w'.os = w.os
  tape : w'.tape = w.tape
  output : w'.output = w.output
  size : w.heap.size ≤ w'.heap.size
  block : ∀ k, k < w.heap.size → (k < B ∨ C ≤ k) → w'.heap[k]? = w.heap[k]?
  sl : ∀ g j p n c, w.cell? ⟨g, j, none⟩ = some (.slice p n c) → w'.cell? ⟨g, j, none⟩ = some (.slice p n c)
  int : ∀ g j, (∃ a, w.cell? ⟨g, j, none⟩ = some (.int .i64 a)) → ∃ a, w'.cell? ⟨g, j, none⟩ = some (.int .i64 a)
  fz : ∀ g j, g < C → w'.frozen? ⟨g, j, none⟩ = w.frozen? ⟨g, j, none⟩
theorem MK.refl (B C : Nat) (w : World) : MK B C w w := ⟨rfl, rfl, rfl, Nat.le_refl _, fun _ _ _ => rfl, fun _ _ _ _ _ h => h, fun _ _ h => h, fun _ _ _ => rfl⟩
theorem MK.trans {B C : Nat} {w w1 w2 : World} (h : MK B C w w1) (k : MK B C w1 w2) : MK B C w w2 :=
  ⟨k.os.trans h.os, k.tape.trans h.tape, k.output.trans h.output, Nat.le_trans h.size k.size, fun j hj hn => (k.block j (Nat.lt_of_lt_of_le hj h.size) hn).trans (h.block j hj hn), fun g j p n c e => k.sl g j p n c (h.sl g j p n c e), fun g j e => k.int g j (h.int g j e), fun g j hg => (k.fz g j hg).trans (h.fz g j hg)⟩
theorem MK.below {B C : Nat} {w w' : World} (h : Below w.heap.size w w') (hC : C ≤ w.heap.size) : MK B C w w' :=
  ⟨h.os, h.tape, h.output, h.size, fun k hk _ => h.block k hk, fun _ _ _ _ _ e => keeps h _ _ e, fun _ _ ⟨a, e⟩ => ⟨a, keeps h _ _ e⟩, fun g j hg => World.frozen?_of_block (w := w) (h.block g (by show g < _; omega))⟩
/-- An int is stored where one was. -/
theorem MK.store {B C g j : Nat} {w : World} {a : Int} (hB : B ≤ g) (hC : g < C) (h : w.cell? ⟨g, j, none⟩ = some (.int .i64 a)) (z : Int) : MK B C w (w.setCell ⟨g, j, none⟩ (.int .i64 z)) :=
  ⟨rfl, rfl, rfl, by simp, fun k _ hn => Below.heap_setCell w ⟨g, j, none⟩ _ k (by show k ≠ g; omega), fun g' j' p n c e => (World.cell?_setCell_other _ _ _ _ (fun e2 => by rw [e2, e] at h; cases h)).trans e,
    fun g' j' e => someInt_setCell e _ _, fun g' j' _ => by simp⟩
end Go.Proofs.YtocdpgogoadfnaaDoor
