/- Plain facts on data that are the same but for their places; also by a list of pairs that are left. No conditions. -/
import Derived.Test.YtoljphjmekkneabGreatDoorZG0Dat
import Derived.Test.YtoljphjmekkneabGreatDoorZG3Tok
namespace Go.Proofs.YtoljphjmekkneabGreatDoor
open Go.ChangeShapes Go.WideShapes Go.ChangeAt Go.RowKit

/-- All of the first k. -/
def allTo (p : Nat → Bool) : Nat → Bool
  | 0 => true
  | k + 1 => allTo p k && p k

theorem allTo_true {p : Nat → Bool} {k : Nat} : allTo p k = true ↔ ∀ i, i < k → p i = true := by
  induction k with
  | zero => simp [allTo]
  | succ k ih =>
    simp only [allTo, Bool.and_eq_true, ih]
    constructor
    · rintro ⟨h1, h2⟩ i hi
      rcases Nat.lt_or_ge i k with h | h
      · exact h1 i h
      · obtain rfl : i = k := by omega
        exact h2
    · intro h
      exact ⟨fun i hi => h i (by omega), h k (by omega)⟩

theorem allTo_false {p : Nat → Bool} {n k : Nat} (hk : k < n) (h : p k = false) : allTo p n = false := by
  cases e : allTo p n with
  | false => rfl
  | true => rw [allTo_true] at e; rw [e k hk] at h; cases h

/-- The same op, number, text and number of kids. -/
def headB (a b : D) : Bool := (a.op == b.op) && ((a.n == b.n) && ((a.s.toList == b.s.toList) && (a.len == b.len)))

/-- The same but for places. -/
def sameD : D → D → Bool
  | .no, b => headB .no b
  | .mk op a n s len kid, b => headB (.mk op a n s len kid) b && allTo (fun i => sameD (kid i) (b.kid i)) len

theorem sameD_eq (a b : D) : sameD a b = (headB a b && allTo (fun i => sameD (a.kid i) (b.kid i)) a.len) := by
  cases a with
  | no => simp [sameD, D.len, allTo]
  | mk op a n s len kid => rfl

/-- Pairs that are left. -/
abbrev Pr := D × D × Value × Value

def Pr.cells (q : Pr) : List Value := [.int .i64 q.1.op, .int .i64 q.1.at_, .int .i64 q.1.n, .string q.1.s, q.2.2.1, .int .i64 q.2.1.op, .int .i64 q.2.1.at_, .int .i64 q.2.1.n, .string q.2.1.s, q.2.2.2]
def prows (st : List Pr) : List Value := st.flatMap Pr.cells
theorem prows_append (a b : List Pr) : prows (a ++ b) = prows a ++ prows b := by simp [prows]
theorem prows_length (st : List Pr) : (prows st).length = st.length * 10 := by
  induction st with
  | nil => rfl
  | cons t r ih => simp only [prows, List.flatMap_cons, List.length_append, List.length_cons] at ih ⊢; rw [ih]; simp [Pr.cells]; omega

def allSame (st : List Pr) : Bool := st.all fun q => sameD q.1 q.2.1
def total (st : List Pr) : Nat := (st.map fun q => q.1.count).sum

theorem total_append (a b : List Pr) : total (a ++ b) = total a + total b := by simp [total]
theorem total_len (st : List Pr) : st.length ≤ total st := by
  induction st with
  | nil => simp
  | cons q r ih =>
    simp only [total, List.map_cons, List.sum_cons, List.length_cons] at ih ⊢
    have : 1 ≤ q.1.count := by rw [D.count_eq]; omega
    omega

/-- The first k pairs of kids. -/
def pushed (x y : D) (U V : Nat → Value) (k : Nat) : List Pr := (List.range k).map fun i => (x.kid i, y.kid i, U i, V i)
theorem pushed_succ (x y : D) (U V : Nat → Value) (k : Nat) : pushed x y U V (k + 1) = pushed x y U V k ++ [(x.kid k, y.kid k, U k, V k)] := by simp [pushed, List.range_succ]
theorem pushed_len (x y : D) (U V : Nat → Value) (k : Nat) : (pushed x y U V k).length = k := by simp [pushed]
theorem pushed_total (x y : D) (U V : Nat → Value) (k : Nat) : total (pushed x y U V k) = sumTo (fun i => (x.kid i).count) k := by
  induction k with
  | zero => rfl
  | succ k ih => rw [pushed_succ, total_append, ih]; simp [total, sumTo]
theorem pushed_same (x y : D) (U V : Nat → Value) (k : Nat) : allSame (pushed x y U V k) = allTo (fun i => sameD (x.kid i) (y.kid i)) k := by
  induction k with
  | zero => rfl
  | succ k ih => rw [pushed_succ]; simp only [allSame, List.all_append] at ih ⊢; rw [ih]; simp [allTo]

theorem pop_same (r : List Pr) (x y : D) (u v : Value) (U V : Nat → Value) (h : headB x y = true) : allSame (r ++ [(x, y, u, v)]) = allSame (r ++ pushed x y U V x.len) := by
  have h1 := pushed_same x y U V x.len
  simp only [allSame, List.all_append] at h1 ⊢
  rw [h1, ← Bool.true_and (allTo _ _), ← h, ← sameD_eq]
  simp
theorem pop_no (r : List Pr) (x y : D) (u v : Value) (h : headB x y = false) : allSame (r ++ [(x, y, u, v)]) = false := by
  simp only [allSame, List.all_append]
  simp [sameD_eq x y, h]
theorem pop_total (r : List Pr) (x y : D) (u v : Value) (U V : Nat → Value) : total (r ++ pushed x y U V x.len) + 1 = total (r ++ [(x, y, u, v)]) := by
  rw [total_append, total_append, pushed_total]
  simp only [total, List.map_cons, List.map_nil, List.sum_cons, List.sum_nil]
  rw [D.count_eq x]; omega

/-- The pairs lie in w. -/
def PrsIn (w : World) (st : List Pr) : Prop := ∀ q ∈ st, q.1.In w q.2.2.1 ∧ q.2.1.In w q.2.2.2
theorem PrsIn.below {w w' : World} {st : List Pr} (h : PrsIn w st) (hb : Below w.heap.size w w') : PrsIn w' st := fun q hq => ⟨(h q hq).1.below hb, (h q hq).2.below hb⟩
end Go.Proofs.YtoljphjmekkneabGreatDoor

/- Plain facts on data that are right: of a list all of it, and by a count of what may still come. No conditions. -/
namespace Go.Proofs.YtoljphjmekkneabGreatDoor
open Go.ChangeShapes Go.WideShapes Go.ChangeAt Go.RowKit

/-- What is told of a datum but for its kids, by its tests. -/
def fB (a op : Int) (wb sb e n0 l0 : Bool) : Bool :=
  decide (0 ≤ a) && (if op = 1 then wb && (e && l0) else if op = 2 then sb && (n0 && l0) else if op = 3 then n0 && e else false)

def fieldsB (t : D) : Bool := fB t.at_ t.op (decide (-1073741824 ≤ t.n ∧ t.n ≤ 1073741823)) (symB t.s.data.toList) (t.s.toList == []) (t.n == 0) ((t.len : Int) == 0)

def rightB : D → Bool
  | .no => fieldsB .no
  | .mk op a n s len kid => allTo (fun i => rightB (kid i)) len && fieldsB (.mk op a n s len kid)
theorem rightB_eq (t : D) : rightB t = (allTo (fun i => rightB (t.kid i)) t.len && fieldsB t) := by
  cases t with
  | no => simp [rightB, D.len, allTo]
  | mk op a n s len kid => rfl

def maxTo (f : Nat → Nat) : Nat → Nat
  | 0 => 0
  | k + 1 => max (maxTo f k) (f k)
theorem maxTo_le {f : Nat → Nat} {k m : Nat} : maxTo f k ≤ m ↔ ∀ i, i < k → f i ≤ m := by
  induction k with
  | zero => simp [maxTo]
  | succ k ih =>
    simp only [maxTo, Nat.max_le, ih]
    constructor
    · rintro ⟨h1, h2⟩ i hi
      rcases Nat.lt_or_ge i k with h | h
      · exact h1 i h
      · obtain rfl : i = k := by omega
        exact h2
    · intro h
      exact ⟨fun i hi => h i (by omega), h k (by omega)⟩

def D.deep : D → Nat
  | .no => 1
  | .mk _ _ _ _ len kid => maxTo (fun i => (kid i).deep) len + 1
theorem D.deep_eq (t : D) : t.deep = maxTo (fun i => (t.kid i).deep) t.len + 1 := by cases t <;> rfl
theorem D.deep_count (t : D) : t.deep ≤ t.count := by
  induction t with
  | no => simp [deep, count]
  | mk op a n s len kid ih =>
    unfold deep count
    have : maxTo (fun i => (kid i).deep) len ≤ sumTo (fun i => (kid i).count) len := by
      rw [maxTo_le]
      intro i hi
      have := sumTo_at (fun i => (kid i).count) i len hi
      have := ih i
      omega
    omega

/-- All of a list is right. -/
def datsB (len : Nat) (kid : Nat → D) : Bool :=
  allTo (fun i => decide ((kid i).deep ≤ 20) && rightB (kid i)) len && decide (sumTo (fun i => (kid i).count) len ≤ 1500)

/-- One after the other: what is left behind the first k. -/
def foldTo (g : D → Nat → Option Nat) (kid : Nat → D) (left : Nat) : Nat → Option Nat
  | 0 => some left
  | k + 1 => (foldTo g kid left k).bind (g (kid k))

theorem fold_none {g : D → Nat → Option Nat} {kid : Nat → D} {left k n : Nat} (h : foldTo g kid left k = none) (hk : k ≤ n) : foldTo g kid left n = none := by
  induction n with
  | zero => obtain rfl : k = 0 := by omega
            exact h
  | succ n ih =>
    rcases Nat.lt_or_ge n k with h1 | h1
    · obtain rfl : k = n + 1 := by omega
      exact h
    · simp [foldTo, ih h1]

/-- How many may come behind a list, if it is right and no deeper than nest. -/
def look : Nat → Nat → Nat → (Nat → D) → Option Nat
  | 0, left, len, _ => if len = 0 then some left else none
  | nest + 1, left, len, kid => if left < len then none else foldTo (fun d l => if fieldsB d = true then look nest l d.len d.kid else none) kid (left - len) len

theorem look_eq (nest : Nat) : ∀ left len kid, look nest left len kid = if (∀ i, i < len → rightB (kid i) = true ∧ (kid i).deep ≤ nest) ∧ sumTo (fun i => (kid i).count) len ≤ left then some (left - sumTo (fun i => (kid i).count) len) else none := by
  induction nest with
  | zero =>
    intro left len kid
    unfold look
    by_cases h : len = 0
    · subst h; simp [sumTo]
    · rw [if_neg h, if_neg]
      rintro ⟨h1, _⟩
      have := (h1 0 (by omega)).2
      rw [D.deep_eq] at this
      omega
  | succ nest ih =>
    intro left len kid
    have hone : ∀ d l, (if fieldsB d = true then look nest l d.len d.kid else none) = if (rightB d = true ∧ d.deep ≤ nest + 1) ∧ d.count - 1 ≤ l then some (l - (d.count - 1)) else none := by
      intro d l
      rw [ih, D.count_eq d, D.deep_eq d, rightB_eq d]
      have e : 1 + sumTo (fun i => (d.kid i).count) d.len - 1 = sumTo (fun i => (d.kid i).count) d.len := by omega
      rw [e]
      have hd : maxTo (fun i => (d.kid i).deep) d.len + 1 ≤ nest + 1 ↔ ∀ i, i < d.len → (d.kid i).deep ≤ nest := by
        rw [← maxTo_le (f := fun i => (d.kid i).deep)]; omega
      by_cases hf : fieldsB d = true
      · rw [if_pos hf]
        by_cases hc : (∀ i, i < d.len → rightB (d.kid i) = true ∧ (d.kid i).deep ≤ nest) ∧ sumTo (fun i => (d.kid i).count) d.len ≤ l
        · rw [if_pos hc, if_pos]
          refine ⟨⟨?_, hd.2 fun i hi => (hc.1 i hi).2⟩, hc.2⟩
          rw [Bool.and_eq_true, allTo_true]
          exact ⟨fun i hi => (hc.1 i hi).1, hf⟩
        · rw [if_neg hc, if_neg]
          rintro ⟨⟨h1, h3⟩, h2⟩
          rw [Bool.and_eq_true, allTo_true] at h1
          exact hc ⟨fun i hi => ⟨h1.1 i hi, hd.1 h3 i hi⟩, h2⟩
      · rw [if_neg hf, if_neg]
        rintro ⟨⟨h1, _⟩, _⟩
        rw [Bool.and_eq_true] at h1
        exact hf h1.2
    have hpos : ∀ d : D, 1 ≤ d.count := fun d => by rw [D.count_eq]; omega
    have hfold : ∀ l k, foldTo (fun d l => if fieldsB d = true then look nest l d.len d.kid else none) kid l k = if (∀ i, i < k → rightB (kid i) = true ∧ (kid i).deep ≤ nest + 1) ∧ sumTo (fun i => (kid i).count) k ≤ l + k then some (l + k - sumTo (fun i => (kid i).count) k) else none := by
      intro l k
      induction k with
      | zero => simp [foldTo, sumTo]
      | succ k ihk =>
        unfold foldTo
        rw [ihk]
        have hp := hpos (kid k)
        by_cases h1 : (∀ i, i < k → rightB (kid i) = true ∧ (kid i).deep ≤ nest + 1) ∧ sumTo (fun i => (kid i).count) k ≤ l + k
        · rw [if_pos h1, Option.bind_some, hone]
          have h2 := h1.2
          by_cases h3 : (rightB (kid k) = true ∧ (kid k).deep ≤ nest + 1) ∧ (kid k).count - 1 ≤ l + k - sumTo (fun i => (kid i).count) k
          · rw [if_pos h3, if_pos]
            · simp only [sumTo]; congr 1; have := h3.2; omega
            · refine ⟨fun i hi => ?_, ?_⟩
              · rcases Nat.lt_or_ge i k with h | h
                · exact h1.1 i h
                · obtain rfl : i = k := by omega
                  exact h3.1
              · simp only [sumTo]; have := h3.2; omega
          · rw [if_neg h3, if_neg]
            rintro ⟨h4, h5⟩
            apply h3
            refine ⟨h4 k (by omega), ?_⟩
            simp only [sumTo] at h5; omega
        · rw [if_neg h1, if_neg]
          · rfl
          · rintro ⟨h4, h5⟩
            apply h1
            refine ⟨fun i hi => h4 i (by omega), ?_⟩
            simp only [sumTo] at h5; omega
    unfold look
    have hlen : len ≤ sumTo (fun i => (kid i).count) len := by
      clear hfold hone
      induction len with
      | zero => simp
      | succ k ihk => simp only [sumTo]; have := hpos (kid k); omega
    by_cases hl : left < len
    · rw [if_pos hl, if_neg]
      rintro ⟨_, h⟩; omega
    · rw [if_neg hl, hfold, show left - len + len = left from by omega]

theorem look_datsB (len : Nat) (kid : Nat → D) : datsB len kid = (look 20 1500 len kid).isSome := by
  rw [look_eq]
  unfold datsB
  by_cases h : (∀ i, i < len → rightB (kid i) = true ∧ (kid i).deep ≤ 20) ∧ sumTo (fun i => (kid i).count) len ≤ 1500
  · rw [if_pos h, Option.isSome_some, Bool.and_eq_true, allTo_true]
    exact ⟨fun i hi => by rw [Bool.and_eq_true]; exact ⟨decide_eq_true (h.1 i hi).2, (h.1 i hi).1⟩, decide_eq_true h.2⟩
  · rw [if_neg h, Option.isSome_none, Bool.eq_false_iff, Ne, Bool.and_eq_true, allTo_true]
    rintro ⟨h1, h2⟩
    apply h
    refine ⟨fun i hi => ?_, of_decide_eq_true h2⟩
    have := h1 i hi
    rw [Bool.and_eq_true] at this
    exact ⟨this.2, of_decide_eq_true this.1⟩
end Go.Proofs.YtoljphjmekkneabGreatDoor
