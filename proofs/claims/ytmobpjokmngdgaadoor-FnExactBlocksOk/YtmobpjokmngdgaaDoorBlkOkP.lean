/- Which blocks are right, plainly. No conditions. -/
import Derived.Test.YtmobpjokmngdgaaDoorBlk
import Derived.Test.YtmobpjokmngdgaaDoorDatSame
import Derived.Test.YtmobpjokmngdgaaDoorWordsOk
namespace Go.Proofs.YtmobpjokmngdgaaDoor
open Go.ChangeShapes Go.WideShapes Go.ChangeAt Go.RowKit

/-- How many kids an op has; -1: any. -/
def kidsI (op : Int) : Int :=
  if op = 1 ∨ op = 2 ∨ op = 3 ∨ op = 4 ∨ op = 19 then 0 else if op = 15 ∨ op = 16 then 1 else if op = 8 ∨ op = 17 ∨ op = 18 then 3 else if op = 5 ∨ op = 14 then -1 else 2
def opB (op : Int) : Bool := decide (1 ≤ op) && decide (op ≤ 19)
def cntB (op : Int) (len : Nat) : Bool := !(decide (0 ≤ kidsI op)) || ((len : Int) == kidsI op)
def bitI (op : Int) (i : Nat) : Nat := if op = 7 ∧ i = 1 then 1 else 0
/-- Whether the number is right. -/
def numI (nb : Nat) (kb : Nat → Kb) (at_ : Nat) (op n : Int) (len deep : Nat) : Bool :=
  if op = 1 ∨ op = 18 then wokB n
  else if op = 2 then decide (0 ≤ n) && decide (n ≤ (deep : Int) - 1)
  else if op = 3 then decide (0 ≤ n) && decide (n ≤ (kb at_).fr - 1)
  else if op = 4 then (n == 0) && decide (0 < at_)
  else if op = 5 then (decide (1 ≤ n) && decide (n ≤ (nb : Int) - 1)) && ((len : Int) == (kb n.toNat).fr)
  else if op = 14 ∨ op = 16 ∨ op = 17 then decide (0 ≤ n) && decide (n ≤ 1073741823)
  else (n == 0)
def rightI (nb : Nat) (kb : Nat → Kb) (at_ : Nat) : It → Nat → Bool
  | .no, _ => false
  | .mk op n len kid, deep => (opB op && cntB op len) && (allTo (fun i => rightI nb kb at_ (kid i) (deep + bitI op i)) len && numI nb kb at_ op n len deep)
/-- A body that is right, of no more parts than may come. -/
def okI (nb : Nat) (kb : Nat → Kb) (at_ : Nat) (t : It) (deep left : Nat) : Bool := decide (t.count ≤ left) && rightI nb kb at_ t deep
/-- A block that is right. -/
def blkI (nb : Nat) (kb : Nat → Kb) (i : Nat) : Bool := decide (0 ≤ (kb i).fr) && okI nb kb i (kb i).bd 1 4000
def blksB (nb : Nat) (kb : Nat → Kb) : Bool := allTo (blkI nb kb) nb && ((decide (1 ≤ nb) && decide (nb ≤ 60)) && ((kb 0).fr == 0))

theorem It.count_pos (t : It) : 1 ≤ t.count := by rw [It.count_eq]; omega
theorem bit_no1 {op : Int} (i : Nat) (h : (op == 7) = false) : bitI op i = 0 := by
  unfold bitI; rw [if_neg]; rintro ⟨h1, _⟩; subst h1; simp at h
theorem bit_no2 {op : Int} {i : Nat} (h : ((i : Int) == 1) = false) : bitI op i = 0 := by
  unfold bitI; rw [if_neg]; rintro ⟨_, h1⟩; subst h1; simp at h
theorem bit_yes {op : Int} {i : Nat} (h1 : (op == 7) = true) (h2 : ((i : Int) == 1) = true) : bitI op i = 1 := by
  unfold bitI; rw [if_pos]; simp at h1 h2; exact ⟨h1, by omega⟩

variable {nb : Nat} {kb : Nat → Kb} {at_ : Nat} {op n : Int} {len deep : Nat}
theorem num_word (h : op = 1 ∨ op = 18) : numI nb kb at_ op n len deep = wokB n := by unfold numI; rw [if_pos h]
theorem num_local : numI nb kb at_ 2 n len deep = (decide (0 ≤ n) && decide (n ≤ (deep : Int) - 1)) := rfl
theorem num_free : numI nb kb at_ 3 n len deep = (decide (0 ≤ n) && decide (n ≤ (kb at_).fr - 1)) := rfl
theorem num_self : numI nb kb at_ 4 n len deep = ((n == 0) && decide (0 < at_)) := rfl
theorem num_clos : numI nb kb at_ 5 n len deep = ((decide (1 ≤ n) && decide (n ≤ (nb : Int) - 1)) && ((len : Int) == (kb n.toNat).fr)) := rfl
theorem num_con (h : op = 14 ∨ op = 16 ∨ op = 17) : numI nb kb at_ op n len deep = (decide (0 ≤ n) && decide (n ≤ 1073741823)) := by unfold numI; rw [if_neg (by omega), if_neg (by omega), if_neg (by omega), if_neg (by omega), if_neg (by omega), if_pos h]
theorem num_else (h1 : op ≠ 1) (h18 : op ≠ 18) (h2 : op ≠ 2) (h3 : op ≠ 3) (h4 : op ≠ 4) (h5 : op ≠ 5) (h14 : op ≠ 14) (h16 : op ≠ 16) (h17 : op ≠ 17) : numI nb kb at_ op n len deep = (n == 0) := by
  unfold numI; rw [if_neg (by omega), if_neg (by omega), if_neg (by omega), if_neg (by omega), if_neg (by omega), if_neg (by omega)]
end Go.Proofs.YtmobpjokmngdgaaDoor
