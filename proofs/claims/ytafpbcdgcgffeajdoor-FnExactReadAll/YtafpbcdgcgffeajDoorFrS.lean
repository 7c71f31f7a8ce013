/- What is kept but for a list of blocks. No conditions. -/
import Derived.Test.YtafpbcdgcgffeajDoorDatOwn
import Derived.Test.YtafpbcdgcgffeajDoorPlain
import Derived.WalkKit
import Derived.ProofKit
import Derived.Below
import Derived.Deep.RegionHeld3
namespace Go.Proofs.YtafpbcdgcgffeajDoor
open Go.ChangeShapes Go.WideShapes Go.ChangeAt Go.RowKit

/-- What is kept: every block but those of S. -/
structure FrS (w w' : World) (S : List Nat) : Prop where
  os : w'.os = w.os
  tape : w'.tape = w.tape
  output : w'.output = w.output
  size : w.heap.size ≤ w'.heap.size
  block : ∀ g, g < w.heap.size → g ∉ S → w'.heap[g]? = w.heap[g]?
theorem FrS.refl (w : World) (S : List Nat) : FrS w w S := ⟨rfl, rfl, rfl, Nat.le_refl _, fun _ _ _ => rfl⟩
theorem FrS.trans {w w1 w2 : World} {S : List Nat} (h : FrS w w1 S) (h2 : FrS w1 w2 S) : FrS w w2 S :=
  ⟨h2.os.trans h.os, h2.tape.trans h.tape, h2.output.trans h.output, Nat.le_trans h.size h2.size, fun g a b => (h2.block g (Nat.lt_of_lt_of_le a h.size) b).trans (h.block g a b)⟩
theorem FrS.mono {w w' : World} {S S' : List Nat} (h : FrS w w' S) (hs : ∀ g ∈ S, g ∈ S') : FrS w w' S' := ⟨h.os, h.tape, h.output, h.size, fun g a b => h.block g a (fun c => b (hs g c))⟩
theorem FrS.grown {w w' : World} {g : Nat} {S : List Nat} (h : w.grownBy w' (some g)) (hg : g ∈ S) : FrS w w' S := ⟨h.os, h.tape, h.output, h.size, fun k a b => h.block k a (fun e => b (by injection e with e; rw [e]; exact hg))⟩
theorem FrS.below {w w' : World} (h : Below w.heap.size w w') (S : List Nat) : FrS w w' S := ⟨h.os, h.tape, h.output, h.size, fun g a _ => h.block g a⟩

end Go.Proofs.YtafpbcdgcgffeajDoor
