/- Plain facts on what is right as it is written: by a count of what may still come. No conditions. -/
import Derived.Test.YtoifhaakieigcaaStxD
import Derived.Test.YtoifhaakieigcaaDatOkP
namespace Go.Proofs.Ytoifhaakieigcaa
open Go.ChangeShapes Go.WideShapes Go.ChangeAt Go.RowKit

/-- What is told of one but for its kids, by its tests. -/
def gB (a op : Int) (wb sb e n0 l0 z0 st : Bool) : Bool :=
  decide (0 ≤ a) && (if op = 1 then wb && (e && (z0 && l0)) else if op = 2 then sb && (n0 && (st && l0)) else if op = 3 then n0 && (e && z0) else false)
def nodeB (t : X) : Bool := (decide (t.op = 2) && setB t.set) || decide (t.set.length = 0)
def fieldsXB (t : X) : Bool := fieldsB (datX t) && nodeB t

theorem datX_parts (t : X) : (datX t).op = t.op ∧ (datX t).at_ = t.at_ ∧ (datX t).n = t.n ∧ (datX t).s = t.s ∧ (datX t).len = t.len := by cases t <;> exact ⟨rfl, rfl, rfl, rfl, rfl⟩
theorem datX_kid (t : X) (i : Nat) : (datX t).kid i = datX (t.kid i) := by cases t <;> rfl

theorem fieldsXB_eq (t : X) : fieldsXB t = gB t.at_ t.op (decide (-1073741824 ≤ t.n ∧ t.n ≤ 1073741823)) (symB t.s.data.toList) (t.s.toList == []) (t.n == 0) ((t.len : Int) == 0) ((t.set.length : Int) == 0) (setB t.set) := by
  obtain ⟨h1, h2, h3, h4, h5⟩ := datX_parts t
  unfold fieldsXB fieldsB nodeB
  rw [h1, h2, h3, h4, h5]
  have hz : (((t.set.length : Nat) : Int) == 0) = decide (t.set.length = 0) := by
    by_cases h : t.set.length = 0
    · simp [h]
    · rw [decide_eq_false h, beq_eq_false_iff_ne]; omega
  have hst : t.set.length = 0 → setB t.set = true := fun h => by rw [List.eq_nil_of_length_eq_zero h]; exact setB_nil
  rw [hz]
  generalize decide (-1073741824 ≤ t.n ∧ t.n ≤ 1073741823) = wb
  generalize symB t.s.data.toList = sb
  generalize (t.s.toList == []) = e
  generalize (t.n == 0) = n0
  generalize ((t.len : Int) == 0) = l0
  generalize setB t.set = st at *
  unfold fB gB
  by_cases hz0 : t.set.length = 0
  · rw [hst hz0, decide_eq_true hz0]
    by_cases h1 : t.op = 1
    · simp [h1]
    · by_cases h2 : t.op = 2
      · simp [h2]
      · by_cases h3 : t.op = 3
        · simp [h3]
        · simp [h1, h2, h3]
  · rw [decide_eq_false hz0]
    by_cases h1 : t.op = 1
    · simp [h1]
    · by_cases h2 : t.op = 2
      · simp only [h2, decide_true, Bool.true_and, Bool.or_false]
        cases decide (0 ≤ t.at_) <;> cases sb <;> cases n0 <;> cases st <;> cases l0 <;> rfl
      · by_cases h3 : t.op = 3
        · simp [h3]
        · simp [h1, h2, h3]

def foldX (g : X → Nat → Option Nat) (kid : Nat → X) (left : Nat) : Nat → Option Nat
  | 0 => some left
  | k + 1 => (foldX g kid left k).bind (g (kid k))
theorem foldX_none {g : X → Nat → Option Nat} {kid : Nat → X} {left k n : Nat} (h : foldX g kid left k = none) (hk : k ≤ n) : foldX g kid left n = none := by
  induction n with
  | zero => obtain rfl : k = 0 := by omega
            exact h
  | succ n ih =>
    rcases Nat.lt_or_ge n k with h1 | h1
    · obtain rfl : k = n + 1 := by omega
      exact h
    · simp [foldX, ih h1]
/-- How many may come behind a list, if it is right and no deeper than nest. -/
def lookX : Nat → Nat → Nat → (Nat → X) → Option Nat
  | 0, left, len, _ => if len = 0 then some left else none
  | nest + 1, left, len, kid => if left < len then none else foldX (fun d l => if fieldsXB d = true then lookX nest l d.len d.kid else none) kid (left - len) len

theorem setsB_node (t : X) : t.setsB = (allX (fun i => (t.kid i).setsB) t.len && nodeB t) := by
  cases t with
  | no => rfl
  | mk op a n s set len kid => rfl

theorem lookX_eq (nest : Nat) : ∀ left len kid, lookX nest left len kid = if allX (fun i => (kid i).setsB) len = true then look nest left len (fun i => datX (kid i)) else none := by
  induction nest with
  | zero =>
    intro left len kid
    unfold lookX look
    by_cases h : len = 0
    · subst h; simp [allX]
    · rw [if_neg h]; simp
  | succ nest ih =>
    intro left len kid
    have hone : ∀ (d : X) (l : Nat), (if fieldsXB d = true then lookX nest l d.len d.kid else none) = if d.setsB = true then (if fieldsB (datX d) = true then look nest l (datX d).len (datX d).kid else none) else none := by
      intro d l
      have hk : (datX d).kid = fun i => datX (d.kid i) := by funext i; exact datX_kid d i
      rw [ih, setsB_node d, (datX_parts d).2.2.2.2, hk]
      unfold fieldsXB
      cases fieldsB (datX d) <;> cases nodeB d <;> cases allX (fun i => (d.kid i).setsB) d.len <;> simp
    have hf : ∀ k, foldX (fun d l => if fieldsXB d = true then lookX nest l d.len d.kid else none) kid (left - len) k = if allX (fun i => (kid i).setsB) k = true then foldTo (fun d l => if fieldsB d = true then look nest l d.len d.kid else none) (fun i => datX (kid i)) (left - len) k else none := by
      intro k
      induction k with
      | zero => simp [foldX, foldTo, allX]
      | succ k ihk =>
        unfold foldX foldTo
        rw [ihk, show allX (fun i => (kid i).setsB) (k + 1) = (allX (fun i => (kid i).setsB) k && (kid k).setsB) from rfl]
        by_cases ha : allX (fun i => (kid i).setsB) k = true
        · rw [if_pos ha, ha, Bool.true_and]
          generalize foldTo (fun d l => if fieldsB d = true then look nest l d.len d.kid else none) (fun i => datX (kid i)) (left - len) k = o
          cases o with
          | none => simp
          | some l => exact hone (kid k) l
        · have hb : allX (fun i => (kid i).setsB) k = false := by simpa using ha
          rw [if_neg ha, hb]
          simp
    unfold lookX look
    by_cases h : left < len
    · rw [if_pos h, if_pos h]; simp
    · rw [if_neg h, if_neg h]
      exact hf len

/-- All is right. -/
def stxOkB (t : X) : Bool := t.setsB && datsB 1 (fun _ => datX t)
theorem stxOk_look (t : X) : stxOkB t = (lookX 20 1500 1 (fun _ => t)).isSome := by
  unfold stxOkB
  rw [lookX_eq, look_datsB]
  simp only [allX, Bool.true_and]
  cases t.setsB <;> simp
end Go.Proofs.Ytoifhaakieigcaa
