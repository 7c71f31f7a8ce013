/- Plain facts on decimal digits: the digits of k are those of k / 10, then that of k % 10. No conditions. -/
import Derived.Test.YtoljphjmekkneabGreatDoorZG1DatOwn
import Derived.Lib.ItoaNum
import Derived.Lib.ItoaLen
import Derived.WalkKit
import Derived.ProofKit
import Derived.Below
import Derived.Deep.RegionHeld3
namespace Go.Proofs.YtoljphjmekkneabGreatDoor

/-- The digits of k, none of 0. -/
def decD (k : Nat) : List UInt8 := if k = 0 then [] else Lib.decDigits k

theorem decD_zero : decD 0 = [] := by simp [decD]

theorem decD_pos (k : Nat) (h : 0 < k) : decD k = Lib.decDigits k := by
  unfold decD; rw [if_neg (by omega)]

theorem decD_step (k : Nat) (h : 0 < k) : decD k = decD (k / 10) ++ [UInt8.ofNat (48 + k % 10)] := by
  rw [decD_pos k h]
  by_cases hs : k < 10
  · rw [Lib.decDigits_one hs]
    have e : k / 10 = 0 := by omega
    have e2 : k % 10 = k := by omega
    rw [e, e2, decD_zero]; rfl
  · rw [Lib.decDigits, dif_neg hs, decD_pos (k / 10) (by omega)]

theorem acc_step (k n : Nat) (h : 0 < k) (l : List UInt8) (hl : decD k ++ l = Lib.decDigits n) :
    decD (k / 10) ++ ((48 + UInt8.ofNat (k % 10)) :: l) = Lib.decDigits n := by
  have e : UInt8.ofNat (48 + k % 10) = 48 + UInt8.ofNat (k % 10) := by rw [UInt8.ofNat_add]; rfl
  rw [← hl, decD_step k h, e]; simp

theorem acc_len (k n : Nat) (l : List UInt8) (hn : n < 18446744073709551616) (hl : decD k ++ l = Lib.decDigits n) : l.length ≤ 20 := by
  have h1 := congrArg List.length hl
  rw [List.length_append, Lib.decDigits_length] at h1
  have := Lib.nDigits_le20 n hn
  omega

theorem join_one (c : UInt8) (l : List UInt8) : ((⟨#[c]⟩ : ByteArray) ++ ⟨l.toArray⟩) = ⟨(c :: l).toArray⟩ := by
  apply ByteArray.ext
  simp [ByteArray.data_append]

end Go.Proofs.YtoljphjmekkneabGreatDoor

/- What is kept but for a list of blocks. No conditions. -/
namespace Go.Proofs.YtoljphjmekkneabGreatDoor
open Go.ChangeShapes Go.WideShapes Go.ChangeAt Go.RowKit

/-- What is kept: every block but those of S. -/
structure FrS (w w' : World) (S : List Nat) : Prop where
  os : w'.os = w.os
  tape : w'.tape = w.tape
  output : w'.output = w.output
  size : w.heap.size ≤ w'.heap.size
  block : ∀ g, g < w.heap.size → g ∉ S → w'.heap[g]? = w.heap[g]?
theorem FrS.refl (w : World) (S : List Nat) : FrS w w S := ⟨rfl, rfl, rfl, Nat.le_refl _, fun _ _ _ => rfl⟩
theorem FrS.trans {w w1 w2 : World} {S : List Nat} (h : FrS w w1 S) (h2 : FrS w1 w2 S) : FrS w w2 S :=
  ⟨h2.os.trans h.os, h2.tape.trans h.tape, h2.output.trans h.output, Nat.le_trans h.size h2.size, fun g a b => (h2.block g (Nat.lt_of_lt_of_le a h.size) b).trans (h.block g a b)⟩
theorem FrS.mono {w w' : World} {S S' : List Nat} (h : FrS w w' S) (hs : ∀ g ∈ S, g ∈ S') : FrS w w' S' := ⟨h.os, h.tape, h.output, h.size, fun g a b => h.block g a (fun c => b (hs g c))⟩
theorem FrS.grown {w w' : World} {g : Nat} {S : List Nat} (h : w.grownBy w' (some g)) (hg : g ∈ S) : FrS w w' S := ⟨h.os, h.tape, h.output, h.size, fun k a b => h.block k a (fun e => b (by injection e with e; rw [e]; exact hg))⟩
theorem FrS.below {w w' : World} (h : Below w.heap.size w w') (S : List Nat) : FrS w w' S := ⟨h.os, h.tape, h.output, h.size, fun g a _ => h.block g a⟩

end Go.Proofs.YtoljphjmekkneabGreatDoor
