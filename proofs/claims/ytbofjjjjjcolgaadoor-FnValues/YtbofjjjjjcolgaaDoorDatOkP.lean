/- Plain facts on data that are right: of a list all of it, and by a count of what may still come. No conditions. -/
import Derived.Test.YtbofjjjjjcolgaaDoorDatSame
import Derived.Test.YtbofjjjjjcolgaaDoorTok
namespace Go.Proofs.YtbofjjjjjcolgaaDoor
open Go.ChangeShapes Go.WideShapes Go.ChangeAt Go.RowKit

/-- What is told of a datum but for its kids, by its tests. -/
def fB (a op : Int) (wb sb e n0 l0 : Bool) : Bool :=
  decide (0 ≤ a) && (if op = 1 then wb && (e && l0) else if op = 2 then sb && (n0 && l0) else if op = 3 then n0 && e else false)

def fieldsB (t : D) : Bool := fB t.at_ t.op (decide (-1073741824 ≤ t.n ∧ t.n ≤ 1073741823)) (symB t.s.data.toList) (t.s.toList == []) (t.n == 0) ((t.len : Int) == 0)

def rightB : D → Bool
  | .no => fieldsB .no
  | .mk op a n s len kid => allTo (fun i => rightB (kid i)) len && fieldsB (.mk op a n s len kid)
theorem rightB_eq (t : D) : rightB t = (allTo (fun i => rightB (t.kid i)) t.len && fieldsB t) := by
  cases t with
  | no => simp [rightB, D.len, allTo]
  | mk op a n s len kid => rfl

def maxTo (f : Nat → Nat) : Nat → Nat
  | 0 => 0
  | k + 1 => max (maxTo f k) (f k)
theorem maxTo_le {f : Nat → Nat} {k m : Nat} : maxTo f k ≤ m ↔ ∀ i, i < k → f i ≤ m := by
  induction k with
  | zero => simp [maxTo]
  | succ k ih =>
    simp only [maxTo, Nat.max_le, ih]
    constructor
    · rintro ⟨h1, h2⟩ i hi
      rcases Nat.lt_or_ge i k with h | h
      · exact h1 i h
      · obtain rfl : i = k := by omega
        exact h2
    · intro h
      exact ⟨fun i hi => h i (by omega), h k (by omega)⟩

def D.deep : D → Nat
  | .no => 1
  | .mk _ _ _ _ len kid => maxTo (fun i => (kid i).deep) len + 1
theorem D.deep_eq (t : D) : t.deep = maxTo (fun i => (t.kid i).deep) t.len + 1 := by cases t <;> rfl
theorem D.deep_count (t : D) : t.deep ≤ t.count := by
  induction t with
  | no => simp [deep, count]
  | mk op a n s len kid ih =>
    unfold deep count
    have : maxTo (fun i => (kid i).deep) len ≤ sumTo (fun i => (kid i).count) len := by
      rw [maxTo_le]
      intro i hi
      have := sumTo_at (fun i => (kid i).count) i len hi
      have := ih i
      omega
    omega

/-- All of a list is right. -/
def datsB (len : Nat) (kid : Nat → D) : Bool :=
  allTo (fun i => decide ((kid i).deep ≤ 20) && rightB (kid i)) len && decide (sumTo (fun i => (kid i).count) len ≤ 1500)

/-- One after the other: what is left behind the first k. -/
def foldTo (g : D → Nat → Option Nat) (kid : Nat → D) (left : Nat) : Nat → Option Nat
  | 0 => some left
  | k + 1 => (foldTo g kid left k).bind (g (kid k))

theorem fold_none {g : D → Nat → Option Nat} {kid : Nat → D} {left k n : Nat} (h : foldTo g kid left k = none) (hk : k ≤ n) : foldTo g kid left n = none := by
  induction n with
  | zero => obtain rfl : k = 0 := by omega
            exact h
  | succ n ih =>
    rcases Nat.lt_or_ge n k with h1 | h1
    · obtain rfl : k = n + 1 := by omega
      exact h
    · simp [foldTo, ih h1]

/-- How many may come behind a list, if it is right and no deeper than nest. -/
def look : Nat → Nat → Nat → (Nat → D) → Option Nat
  | 0, left, len, _ => if len = 0 then some left else none
  | nest + 1, left, len, kid => if left < len then none else foldTo (fun d l => if fieldsB d = true then look nest l d.len d.kid else none) kid (left - len) len

theorem look_eq (nest : Nat) : ∀ left len kid, look nest left len kid = if (∀ i, i < len → rightB (kid i) = true ∧ (kid i).deep ≤ nest) ∧ sumTo (fun i => (kid i).count) len ≤ left then some (left - sumTo (fun i => (kid i).count) len) else none := by
  induction nest with
  | zero =>
    intro left len kid
    unfold look
    by_cases h : len = 0
    · subst h; simp [sumTo]
    · rw [if_neg h, if_neg]
      rintro ⟨h1, _⟩
      have := (h1 0 (by omega)).2
      rw [D.deep_eq] at this
      omega
  | succ nest ih =>
    intro left len kid
    have hone : ∀ d l, (if fieldsB d = true then look nest l d.len d.kid else none) = if (rightB d = true ∧ d.deep ≤ nest + 1) ∧ d.count - 1 ≤ l then some (l - (d.count - 1)) else none := by
      intro d l
      rw [ih, D.count_eq d, D.deep_eq d, rightB_eq d]
      have e : 1 + sumTo (fun i => (d.kid i).count) d.len - 1 = sumTo (fun i => (d.kid i).count) d.len := by omega
      rw [e]
      have hd : maxTo (fun i => (d.kid i).deep) d.len + 1 ≤ nest + 1 ↔ ∀ i, i < d.len → (d.kid i).deep ≤ nest := by
        rw [← maxTo_le (f := fun i => (d.kid i).deep)]; omega
      by_cases hf : fieldsB d = true
      · rw [if_pos hf]
        by_cases hc : (∀ i, i < d.len → rightB (d.kid i) = true ∧ (d.kid i).deep ≤ nest) ∧ sumTo (fun i => (d.kid i).count) d.len ≤ l
        · rw [if_pos hc, if_pos]
          refine ⟨⟨?_, hd.2 fun i hi => (hc.1 i hi).2⟩, hc.2⟩
          rw [Bool.and_eq_true, allTo_true]
          exact ⟨fun i hi => (hc.1 i hi).1, hf⟩
        · rw [if_neg hc, if_neg]
          rintro ⟨⟨h1, h3⟩, h2⟩
          rw [Bool.and_eq_true, allTo_true] at h1
          exact hc ⟨fun i hi => ⟨h1.1 i hi, hd.1 h3 i hi⟩, h2⟩
      · rw [if_neg hf, if_neg]
        rintro ⟨⟨h1, _⟩, _⟩
        rw [Bool.and_eq_true] at h1
        exact hf h1.2
    have hpos : ∀ d : D, 1 ≤ d.count := fun d => by rw [D.count_eq]; omega
    have hfold : ∀ l k, foldTo (fun d l => if fieldsB d = true then look nest l d.len d.kid else none) kid l k = if (∀ i, i < k → rightB (kid i) = true ∧ (kid i).deep ≤ nest + 1) ∧ sumTo (fun i => (kid i).count) k ≤ l + k then some (l + k - sumTo (fun i => (kid i).count) k) else none := by
      intro l k
      induction k with
      | zero => simp [foldTo, sumTo]
      | succ k ihk =>
        unfold foldTo
        rw [ihk]
        have hp := hpos (kid k)
        by_cases h1 : (∀ i, i < k → rightB (kid i) = true ∧ (kid i).deep ≤ nest + 1) ∧ sumTo (fun i => (kid i).count) k ≤ l + k
        · rw [if_pos h1, Option.bind_some, hone]
          have h2 := h1.2
          by_cases h3 : (rightB (kid k) = true ∧ (kid k).deep ≤ nest + 1) ∧ (kid k).count - 1 ≤ l + k - sumTo (fun i => (kid i).count) k
          · rw [if_pos h3, if_pos]
            · simp only [sumTo]; congr 1; have := h3.2; omega
            · refine ⟨fun i hi => ?_, ?_⟩
              · rcases Nat.lt_or_ge i k with h | h
                · exact h1.1 i h
                · obtain rfl : i = k := by omega
                  exact h3.1
              · simp only [sumTo]; have := h3.2; omega
          · rw [if_neg h3, if_neg]
            rintro ⟨h4, h5⟩
            apply h3
            refine ⟨h4 k (by omega), ?_⟩
            simp only [sumTo] at h5; omega
        · rw [if_neg h1, if_neg]
          · rfl
          · rintro ⟨h4, h5⟩
            apply h1
            refine ⟨fun i hi => h4 i (by omega), ?_⟩
            simp only [sumTo] at h5; omega
    unfold look
    have hlen : len ≤ sumTo (fun i => (kid i).count) len := by
      clear hfold hone
      induction len with
      | zero => simp
      | succ k ihk => simp only [sumTo]; have := hpos (kid k); omega
    by_cases hl : left < len
    · rw [if_pos hl, if_neg]
      rintro ⟨_, h⟩; omega
    · rw [if_neg hl, hfold, show left - len + len = left from by omega]

theorem look_datsB (len : Nat) (kid : Nat → D) : datsB len kid = (look 20 1500 len kid).isSome := by
  rw [look_eq]
  unfold datsB
  by_cases h : (∀ i, i < len → rightB (kid i) = true ∧ (kid i).deep ≤ 20) ∧ sumTo (fun i => (kid i).count) len ≤ 1500
  · rw [if_pos h, Option.isSome_some, Bool.and_eq_true, allTo_true]
    exact ⟨fun i hi => by rw [Bool.and_eq_true]; exact ⟨decide_eq_true (h.1 i hi).2, (h.1 i hi).1⟩, decide_eq_true h.2⟩
  · rw [if_neg h, Option.isSome_none, Bool.eq_false_iff, Ne, Bool.and_eq_true, allTo_true]
    rintro ⟨h1, h2⟩
    apply h
    refine ⟨fun i hi => ?_, of_decide_eq_true h2⟩
    have := h1 i hi
    rw [Bool.and_eq_true] at this
    exact ⟨this.2, of_decide_eq_true this.1⟩
end Go.Proofs.YtbofjjjjjcolgaaDoor
