/- Plain facts on what is right as it is written: by a count of what may still come. No conditions. -/
import Derived.Test.YtaflnjhknnnaoaaZG3DatSame
import Derived.Test.YtaflnjhknnnaoaaZG5DatOkP
namespace Go.Proofs.Ytaflnjhknnnaoaa
open Go.ChangeShapes Go.WideShapes Go.ChangeAt Go.RowKit

/-- What is told of one but for its kids, by its tests. -/
def gB (a op : Int) (wb sb e n0 l0 z0 st : Bool) : Bool :=
  decide (0 ≤ a) && (if op = 1 then wb && (e && (z0 && l0)) else if op = 2 then sb && (n0 && (st && l0)) else if op = 3 then n0 && (e && z0) else false)
def nodeB (t : X) : Bool := (decide (t.op = 2) && setB t.set) || decide (t.set.length = 0)
def fieldsXB (t : X) : Bool := fieldsB (datX t) && nodeB t

theorem datX_parts (t : X) : (datX t).op = t.op ∧ (datX t).at_ = t.at_ ∧ (datX t).n = t.n ∧ (datX t).s = t.s ∧ (datX t).len = t.len := by cases t <;> exact ⟨rfl, rfl, rfl, rfl, rfl⟩
theorem datX_kid (t : X) (i : Nat) : (datX t).kid i = datX (t.kid i) := by cases t <;> rfl

theorem fieldsXB_eq (t : X) : fieldsXB t = gB t.at_ t.op (decide (-1073741824 ≤ t.n ∧ t.n ≤ 1073741823)) (symB t.s.data.toList) (t.s.toList == []) (t.n == 0) ((t.len : Int) == 0) ((t.set.length : Int) == 0) (setB t.set) := by
  obtain ⟨h1, h2, h3, h4, h5⟩ := datX_parts t
  unfold fieldsXB fieldsB nodeB
  rw [h1, h2, h3, h4, h5]
  have hz : (((t.set.length : Nat) : Int) == 0) = decide (t.set.length = 0) := by
    by_cases h : t.set.length = 0
    · simp [h]
    · rw [decide_eq_false h, beq_eq_false_iff_ne]; omega
  have hst : t.set.length = 0 → setB t.set = true := fun h => by rw [List.eq_nil_of_length_eq_zero h]; exact setB_nil
  rw [hz]
  generalize decide (-1073741824 ≤ t.n ∧ t.n ≤ 1073741823) = wb
  generalize symB t.s.data.toList = sb
  generalize (t.s.toList == []) = e
  generalize (t.n == 0) = n0
  generalize ((t.len : Int) == 0) = l0
  generalize setB t.set = st at *
  unfold fB gB
  by_cases hz0 : t.set.length = 0
  · rw [hst hz0, decide_eq_true hz0]
    by_cases h1 : t.op = 1
    · simp [h1]
    · by_cases h2 : t.op = 2
      · simp [h2]
      · by_cases h3 : t.op = 3
        · simp [h3]
        · simp [h1, h2, h3]
  · rw [decide_eq_false hz0]
    by_cases h1 : t.op = 1
    · simp [h1]
    · by_cases h2 : t.op = 2
      · simp only [h2, decide_true, Bool.true_and, Bool.or_false]
        cases decide (0 ≤ t.at_) <;> cases sb <;> cases n0 <;> cases st <;> cases l0 <;> rfl
      · by_cases h3 : t.op = 3
        · simp [h3]
        · simp [h1, h2, h3]

def foldX (g : X → Nat → Option Nat) (kid : Nat → X) (left : Nat) : Nat → Option Nat
  | 0 => some left
  | k + 1 => (foldX g kid left k).bind (g (kid k))
theorem foldX_none {g : X → Nat → Option Nat} {kid : Nat → X} {left k n : Nat} (h : foldX g kid left k = none) (hk : k ≤ n) : foldX g kid left n = none := by
  induction n with
  | zero => obtain rfl : k = 0 := by omega
            exact h
  | succ n ih =>
    rcases Nat.lt_or_ge n k with h1 | h1
    · obtain rfl : k = n + 1 := by omega
      exact h
    · simp [foldX, ih h1]
/-- How many may come behind a list, if it is right and no deeper than nest. -/
def lookX : Nat → Nat → Nat → (Nat → X) → Option Nat
  | 0, left, len, _ => if len = 0 then some left else none
  | nest + 1, left, len, kid => if left < len then none else foldX (fun d l => if fieldsXB d = true then lookX nest l d.len d.kid else none) kid (left - len) len

theorem setsB_node (t : X) : t.setsB = (allX (fun i => (t.kid i).setsB) t.len && nodeB t) := by
  cases t with
  | no => rfl
  | mk op a n s set len kid => rfl

theorem lookX_eq (nest : Nat) : ∀ left len kid, lookX nest left len kid = if allX (fun i => (kid i).setsB) len = true then look nest left len (fun i => datX (kid i)) else none := by
  induction nest with
  | zero =>
    intro left len kid
    unfold lookX look
    by_cases h : len = 0
    · subst h; simp [allX]
    · rw [if_neg h]; simp
  | succ nest ih =>
    intro left len kid
    have hone : ∀ (d : X) (l : Nat), (if fieldsXB d = true then lookX nest l d.len d.kid else none) = if d.setsB = true then (if fieldsB (datX d) = true then look nest l (datX d).len (datX d).kid else none) else none := by
      intro d l
      have hk : (datX d).kid = fun i => datX (d.kid i) := by funext i; exact datX_kid d i
      rw [ih, setsB_node d, (datX_parts d).2.2.2.2, hk]
      unfold fieldsXB
      cases fieldsB (datX d) <;> cases nodeB d <;> cases allX (fun i => (d.kid i).setsB) d.len <;> simp
    have hf : ∀ k, foldX (fun d l => if fieldsXB d = true then lookX nest l d.len d.kid else none) kid (left - len) k = if allX (fun i => (kid i).setsB) k = true then foldTo (fun d l => if fieldsB d = true then look nest l d.len d.kid else none) (fun i => datX (kid i)) (left - len) k else none := by
      intro k
      induction k with
      | zero => simp [foldX, foldTo, allX]
      | succ k ihk =>
        unfold foldX foldTo
        rw [ihk, show allX (fun i => (kid i).setsB) (k + 1) = (allX (fun i => (kid i).setsB) k && (kid k).setsB) from rfl]
        by_cases ha : allX (fun i => (kid i).setsB) k = true
        · rw [if_pos ha, ha, Bool.true_and]
          generalize foldTo (fun d l => if fieldsB d = true then look nest l d.len d.kid else none) (fun i => datX (kid i)) (left - len) k = o
          cases o with
          | none => simp
          | some l => exact hone (kid k) l
        · have hb : allX (fun i => (kid i).setsB) k = false := by simpa using ha
          rw [if_neg ha, hb]
          simp
    unfold lookX look
    by_cases h : left < len
    · rw [if_pos h, if_pos h]; simp
    · rw [if_neg h, if_neg h]
      exact hf len

/-- All is right. -/
def stxOkB (t : X) : Bool := t.setsB && datsB 1 (fun _ => datX t)
theorem stxOk_look (t : X) : stxOkB t = (lookX 20 1500 1 (fun _ => t)).isSome := by
  unfold stxOkB
  rw [lookX_eq, look_datsB]
  simp only [allX, Bool.true_and]
  cases t.setsB <;> simp
end Go.Proofs.Ytaflnjhknnnaoaa

/- Patterns, as plain trees: their names, and where dots stand. No conditions. -/
namespace Go.Proofs.Ytaflnjhknnnaoaa

/-- The steps 0 .. k - 1, one behind the other. -/
def stepsTo {α : Type} (f : Nat → α → α) : Nat → α → α
  | 0, a => a
  | k + 1, a => f k (stepsTo f k a)

def dotsL : List UInt8 := [46, 46, 46]
def lineL : List UInt8 := [95]
/-- A symbol that is a name. -/
def nameX (op : Int) (s : ByteArray) : Bool := (op == 2) && (!(s.toList == lineL) && !(s.toList == dotsL))
/-- The symbol '...'. -/
def dotsX (t : X) : Bool := (t.op == 2) && (t.s.toList == dotsL)
/-- It stands in the list. -/
def inS (l : List ByteArray) (s : ByteArray) : Bool := l.any fun x => x.toList == s.toList
/-- One more name. -/
def addN (s : ByteArray) (a : List ByteArray × Bool) : List ByteArray × Bool := if inS a.1 s then (a.1, true) else (a.1 ++ [s], a.2)
/-- The names, behind others; whether one stood already. -/
def namesX : X → List ByteArray × Bool → List ByteArray × Bool
  | .no, a => a
  | .mk op _ _ s _ len kid, a => if nameX op s then addN s a else stepsTo (fun i a => namesX (kid i) a) len a
theorem namesX_mk (op a n : Int) (s : ByteArray) (set : List Int) (len : Nat) (kid : Nat → X) (x : List ByteArray × Bool) : namesX (.mk op a n s set len kid) x = if nameX op s then addN s x else stepsTo (fun i a => namesX (kid i) a) len x := rfl

theorem addN_len (s : ByteArray) (a : List ByteArray × Bool) : (addN s a).1.length ≤ a.1.length + 1 := by
  unfold addN
  split <;> simp
theorem namesX_len (t : X) : ∀ a, (namesX t a).1.length ≤ a.1.length + t.count := by
  induction t with
  | no => intro a; exact Nat.le_add_right _ _
  | mk op b n s set len kid ih =>
    intro a
    rw [namesX_mk]
    have hc : (X.mk op b n s set len kid).count = 1 + sumX (fun i => (kid i).count) len := rfl
    split
    · have := addN_len s a; omega
    · have h : ∀ k, (stepsTo (fun i a => namesX (kid i) a) k a).1.length ≤ a.1.length + sumX (fun i => (kid i).count) k := by
        intro k
        induction k with
        | zero => exact Nat.le_add_right _ _
        | succ k ihk =>
          simp only [stepsTo, sumX]
          have := ih k (stepsTo (fun i a => namesX (kid i) a) k a)
          omega
      have := h len
      omega
theorem inS_no {l : List ByteArray} {s : ByteArray} (h : ∀ i, i < l.length → ((l.getD i ⟨#[]⟩).toList == s.toList) = false) : inS l s = false := by
  unfold inS
  rw [List.any_eq_false]
  intro x hx
  obtain ⟨i, hi, rfl⟩ := List.mem_iff_getElem.1 hx
  have := h i hi
  rw [List.getD_eq_getElem?_getD, List.getElem?_eq_getElem hi, Option.getD_some] at this
  simp [this]
theorem inS_yes {l : List ByteArray} {s : ByteArray} (i : Nat) (hi : i < l.length) (h : ((l.getD i ⟨#[]⟩).toList == s.toList) = true) : inS l s = true := by
  unfold inS
  rw [List.any_eq_true]
  rw [List.getD_eq_getElem?_getD, List.getElem?_eq_getElem hi, Option.getD_some] at h
  exact ⟨_, List.getElem_mem hi, h⟩

/-- The i-th kid stands where it may. -/
def kidPlace (len : Nat) (kid : Nat → X) (i : Nat) : Bool := !(dotsX (kid i) && (!(decide (i + 1 = len)) || (decide (i = 0) || dotsX (kid (i - 1)))))
/-- Dots stand only where they may. -/
def placesX : X → Bool
  | .no => true
  | .mk _ _ _ _ _ len kid => allX (fun i => kidPlace len kid i && placesX (kid i)) len
theorem placesX_mk (op a n : Int) (s : ByteArray) (set : List Int) (len : Nat) (kid : Nat → X) : placesX (.mk op a n s set len kid) = allX (fun i => kidPlace len kid i && placesX (kid i)) len := rfl
/-- A pattern. -/
def patternB (t : X) : Bool := stxOkB t && (!(namesX t ([], false)).2 && (!dotsX t && placesX t))
end Go.Proofs.Ytaflnjhknnnaoaa
