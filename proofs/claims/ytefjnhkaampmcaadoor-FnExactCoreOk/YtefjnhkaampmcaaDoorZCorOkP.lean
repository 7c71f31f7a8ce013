/- Plain facts on cores that are right: of all parts, by a count of what may still come, and with names that are bound. No conditions. -/
import Derived.Test.YtefjnhkaampmcaaDoorZCor
import Derived.Test.YtefjnhkaampmcaaDoorZDatOkP
namespace Go.Proofs.YtefjnhkaampmcaaDoor
open Go.ChangeShapes Go.WideShapes Go.ChangeAt Go.RowKit

/-- How many kids an op has; -1: there is no such op. -/
def kidsN (op : Int) : Int :=
  if op = 1 ∨ op = 2 ∨ op = 13 then 0 else if op = 3 ∨ op = 15 ∨ op = 16 ∨ op = 17 ∨ op = 18 then 1 else if op = 4 ∨ op = 5 ∨ op = 6 ∨ op = 8 ∨ op = 9 ∨ op = 10 ∨ op = 11 ∨ op = 12 ∨ op = 14 then 2 else if op = 7 then 3 else -1
def namedB (op : Int) : Bool := decide (op = 2) || (decide (op = 3) || (decide (op = 5) || decide (op = 6)))
def wordCB (n : Int) : Bool := decide (-1073741824 ≤ n ∧ n ≤ 1073741823)
/-- What is told of a core but for its kids. -/
def fieldsCB (t : C) : Bool := (kidsN t.op == (t.len : Int)) && ((namedB t.op == !(t.s.toList == ([] : List UInt8))) && ((decide (t.op = 6) == !(t.t2.toList == ([] : List UInt8))) && (!(!(t.op == 1) && !(t.n == 0)) && wordCB t.n)))

def allFC : C → Bool
  | .no => fieldsCB .no
  | .mk op n s t2 len kid => allTo (fun i => allFC (kid i)) len && fieldsCB (.mk op n s t2 len kid)
theorem allFC_eq (t : C) : allFC t = (allTo (fun i => allFC (t.kid i)) t.len && fieldsCB t) := by
  cases t with
  | no => simp [allFC, C.len, allTo]
  | mk op n s t2 len kid => rfl

def C.deep : C → Nat
  | .no => 1
  | .mk _ _ _ _ len kid => maxTo (fun i => (kid i).deep) len + 1
theorem C.deep_eq (t : C) : t.deep = maxTo (fun i => (t.kid i).deep) t.len + 1 := by cases t <;> rfl
theorem C.deep_count (t : C) : t.deep ≤ t.count := by
  induction t with
  | no => simp [deep, count]
  | mk op n s t2 len kid ih =>
    unfold deep count
    have : maxTo (fun i => (kid i).deep) len ≤ sumTo (fun i => (kid i).count) len := by
      rw [maxTo_le]
      intro i hi
      have := sumTo_at (fun i => (kid i).count) i len hi
      have := ih i
      omega
    omega

/-- One after the other: what is left behind the first k. -/
def foldC (g : C → Nat → Option Nat) (kid : Nat → C) (left : Nat) : Nat → Option Nat
  | 0 => some left
  | k + 1 => (foldC g kid left k).bind (g (kid k))

theorem foldC_none {g : C → Nat → Option Nat} {kid : Nat → C} {left k n : Nat} (h : foldC g kid left k = none) (hk : k ≤ n) : foldC g kid left n = none := by
  induction n with
  | zero => obtain rfl : k = 0 := by omega
            exact h
  | succ n ih =>
    rcases Nat.lt_or_ge n k with h1 | h1
    · obtain rfl : k = n + 1 := by omega
      exact h
    · simp [foldC, ih h1]

/-- How many may come behind a list, if it is right and no deeper than nest. -/
def lookC : Nat → Nat → Nat → (Nat → C) → Option Nat
  | 0, left, len, _ => if len = 0 then some left else none
  | nest + 1, left, len, kid => if left < len then none else foldC (fun d l => if fieldsCB d = true then lookC nest l d.len d.kid else none) kid (left - len) len

theorem lookC_eq (nest : Nat) : ∀ left len kid, lookC nest left len kid = if (∀ i, i < len → allFC (kid i) = true ∧ (kid i).deep ≤ nest) ∧ sumTo (fun i => (kid i).count) len ≤ left then some (left - sumTo (fun i => (kid i).count) len) else none := by
  induction nest with
  | zero =>
    intro left len kid
    unfold lookC
    by_cases h : len = 0
    · subst h; simp [sumTo]
    · rw [if_neg h, if_neg]
      rintro ⟨h1, _⟩
      have := (h1 0 (by omega)).2
      rw [C.deep_eq] at this
      omega
  | succ nest ih =>
    intro left len kid
    have hone : ∀ d l, (if fieldsCB d = true then lookC nest l d.len d.kid else none) = if (allFC d = true ∧ d.deep ≤ nest + 1) ∧ d.count - 1 ≤ l then some (l - (d.count - 1)) else none := by
      intro d l
      rw [ih, C.count_eq d, C.deep_eq d, allFC_eq d]
      have e : 1 + sumTo (fun i => (d.kid i).count) d.len - 1 = sumTo (fun i => (d.kid i).count) d.len := by omega
      rw [e]
      have hd : maxTo (fun i => (d.kid i).deep) d.len + 1 ≤ nest + 1 ↔ ∀ i, i < d.len → (d.kid i).deep ≤ nest := by
        rw [← maxTo_le (f := fun i => (d.kid i).deep)]; omega
      by_cases hf : fieldsCB d = true
      · rw [if_pos hf]
        by_cases hc : (∀ i, i < d.len → allFC (d.kid i) = true ∧ (d.kid i).deep ≤ nest) ∧ sumTo (fun i => (d.kid i).count) d.len ≤ l
        · rw [if_pos hc, if_pos]
          refine ⟨⟨?_, hd.2 fun i hi => (hc.1 i hi).2⟩, hc.2⟩
          rw [Bool.and_eq_true, allTo_true]
          exact ⟨fun i hi => (hc.1 i hi).1, hf⟩
        · rw [if_neg hc, if_neg]
          rintro ⟨⟨h1, h3⟩, h2⟩
          rw [Bool.and_eq_true, allTo_true] at h1
          exact hc ⟨fun i hi => ⟨h1.1 i hi, hd.1 h3 i hi⟩, h2⟩
      · rw [if_neg hf, if_neg]
        rintro ⟨⟨h1, _⟩, _⟩
        rw [Bool.and_eq_true] at h1
        exact hf h1.2
    have hpos : ∀ d : C, 1 ≤ d.count := fun d => by rw [C.count_eq]; omega
    have hfold : ∀ l k, foldC (fun d l => if fieldsCB d = true then lookC nest l d.len d.kid else none) kid l k = if (∀ i, i < k → allFC (kid i) = true ∧ (kid i).deep ≤ nest + 1) ∧ sumTo (fun i => (kid i).count) k ≤ l + k then some (l + k - sumTo (fun i => (kid i).count) k) else none := by
      intro l k
      induction k with
      | zero => simp [foldC, sumTo]
      | succ k ihk =>
        unfold foldC
        rw [ihk]
        have hp := hpos (kid k)
        by_cases h1 : (∀ i, i < k → allFC (kid i) = true ∧ (kid i).deep ≤ nest + 1) ∧ sumTo (fun i => (kid i).count) k ≤ l + k
        · rw [if_pos h1, Option.bind_some, hone]
          have h2 := h1.2
          by_cases h3 : (allFC (kid k) = true ∧ (kid k).deep ≤ nest + 1) ∧ (kid k).count - 1 ≤ l + k - sumTo (fun i => (kid i).count) k
          · rw [if_pos h3, if_pos]
            · simp only [sumTo]; congr 1; have := h3.2; omega
            · refine ⟨fun i hi => ?_, ?_⟩
              · rcases Nat.lt_or_ge i k with h | h
                · exact h1.1 i h
                · obtain rfl : i = k := by omega
                  exact h3.1
              · simp only [sumTo]; have := h3.2; omega
          · rw [if_neg h3, if_neg]
            rintro ⟨h4, h5⟩
            apply h3
            refine ⟨h4 k (by omega), ?_⟩
            simp only [sumTo] at h5; omega
        · rw [if_neg h1, if_neg]
          · rfl
          · rintro ⟨h4, h5⟩
            apply h1
            refine ⟨fun i hi => h4 i (by omega), ?_⟩
            simp only [sumTo] at h5; omega
    unfold lookC
    have hlen : len ≤ sumTo (fun i => (kid i).count) len := by
      clear hfold hone
      induction len with
      | zero => simp
      | succ k ihk => simp only [sumTo]; have := hpos (kid k); omega
    by_cases hl : left < len
    · rw [if_pos hl, if_neg]
      rintro ⟨_, h⟩; omega
    · rw [if_neg hl, hfold, show left - len + len = left from by omega]


/-- The names that a core binds in a kid, as the model says. -/
def bnd (op : Int) (i : Nat) (s t2 : ByteArray) : List (List UInt8) :=
  if op = 3 ∨ (op = 5 ∧ i = 1) ∨ (op = 6 ∧ i = 1) then [s.data.toList] else if op = 6 then [s.data.toList, t2.data.toList] else []
/-- As the program says. -/
def bndI (op : Int) (i : Nat) (s t2 : ByteArray) : List (List UInt8) :=
  if op = 6 ∧ i = 0 then [s.data.toList, t2.data.toList] else if (op = 3 ∧ i = 0) ∨ (op = 5 ∧ i = 1) ∨ (op = 6 ∧ i = 1) then [s.data.toList] else []
theorem bnd_same (op : Int) (i len : Nat) (s t2 : ByteArray) (hk : kidsN op = len) (hi : i < len) : bnd op i s t2 = bndI op i s t2 := by
  have e3 : kidsN 3 = 1 := by decide
  have e6 : kidsN 6 = 2 := by decide
  unfold bnd bndI
  by_cases h3 : op = 3
  · subst h3
    have : i = 0 := by omega
    subst this
    simp
  · by_cases h6 : op = 6
    · subst h6
      rcases Nat.lt_or_ge i 1 with h | h
      · have : i = 0 := by omega
        subst this
        simp
      · have : i = 1 := by omega
        subst this
        simp
    · simp [h3, h6]

/-- Right, with names that are bound. -/
def C.right : C → List (List UInt8) → Bool
  | .no, _ => false
  | .mk op n s t2 len kid, env => (fieldsCB (.mk op n s t2 len kid) && (!(decide (op = 2)) || env.contains s.data.toList)) && allTo (fun i => (kid i).right (env ++ bnd op i s t2)) len
/-- Each name is bound about it. -/
def C.closed : C → List (List UInt8) → Bool
  | .no, _ => true
  | .mk op _ s t2 len kid, env => (!(decide (op = 2)) || env.contains s.data.toList) && allTo (fun i => (kid i).closed (env ++ bndI op i s t2)) len
theorem fieldsCB_kids {t : C} (h : fieldsCB t = true) : kidsN t.op = (t.len : Int) := by
  unfold fieldsCB at h
  rw [Bool.and_eq_true] at h
  exact eq_of_beq h.1
theorem C.right_eq (t : C) : ∀ env, t.right env = (allFC t && t.closed env) := by
  induction t with
  | no => intro env; rfl
  | mk op n s t2 len kid ih =>
    intro env
    rw [Bool.eq_iff_iff]
    unfold C.right C.closed
    rw [allFC_eq]
    simp only [C.len, C.kid, Bool.and_eq_true, allTo_true]
    constructor
    · rintro ⟨⟨h1, h2⟩, h3⟩
      have hk := fieldsCB_kids h1
      simp only [C.op, C.len] at hk
      refine ⟨⟨fun i hi => ?_, h1⟩, h2, fun i hi => ?_⟩
      · have := h3 i hi
        rw [ih i, Bool.and_eq_true] at this
        exact this.1
      · have := h3 i hi
        rw [ih i, Bool.and_eq_true, bnd_same op i len s t2 hk hi] at this
        exact this.2
    · rintro ⟨⟨h3, h1⟩, h2, h4⟩
      have hk := fieldsCB_kids h1
      simp only [C.op, C.len] at hk
      refine ⟨⟨h1, h2⟩, fun i hi => ?_⟩
      rw [ih i, Bool.and_eq_true, bnd_same op i len s t2 hk hi]
      exact ⟨h3 i hi, h4 i hi⟩

/-- A core is right. -/
def coreB (t : C) : Bool := decide (t.count ≤ 3000) && (decide (t.deep ≤ 150) && t.right [])
theorem coreB_look (t : C) : coreB t = ((lookC 150 3000 1 (fun _ => t)).isSome && t.closed []) := by
  rw [lookC_eq, Bool.eq_iff_iff]
  unfold coreB
  rw [C.right_eq]
  simp only [Bool.and_eq_true, decide_eq_true_eq, sumTo, Nat.zero_add]
  constructor
  · rintro ⟨h1, h2, h3, h4⟩
    rw [if_pos ⟨fun i _ => ⟨h3, h2⟩, h1⟩]
    exact ⟨rfl, h4⟩
  · rintro ⟨h1, h4⟩
    by_cases h : (∀ i, i < 1 → allFC t = true ∧ t.deep ≤ 150) ∧ t.count ≤ 3000
    · exact ⟨h.2, (h.1 0 (by omega)).2, (h.1 0 (by omega)).1, h4⟩
    · rw [if_neg h] at h1; cases h1
end Go.Proofs.YtefjnhkaampmcaaDoor
