/- What is written of a datum, and the datum of what is written. No conditions. -/
import Derived.Test.YtaflnjhknnnaoaaZG2Dat
namespace Go.Proofs.Ytaflnjhknnnaoaa
open Go.ChangeShapes Go.WideShapes Go.ChangeAt Go.RowKit

/-- What is written of a datum: each symbol has the set. -/
def stxD (set : List Int) : D → X
  | .no => .no
  | .mk op a n s len kid => .mk op a n s (if op = 2 then set else []) len (fun i => stxD set (kid i))
/-- The datum of what is written. -/
def datX : X → D
  | .no => .no
  | .mk op a n s _ len kid => .mk op a n s len (fun i => datX (kid i))
theorem datX_stxD (set : List Int) (d : D) : datX (stxD set d) = d := by
  induction d with
  | no => rfl
  | mk op a n s len kid ih =>
    show D.mk op a n s len (fun i => datX (stxD set (kid i))) = _
    congr 1
    funext i
    exact ih i
theorem datX_turn (f : List Int → List Int) (t : X) : datX (t.turn f) = datX t := by
  induction t with
  | no => rfl
  | mk op a n s set len kid ih =>
    show D.mk op a n s len (fun i => datX ((kid i).turn f)) = D.mk op a n s len (fun i => datX (kid i))
    congr 1
    funext i
    exact ih i
theorem datX_flip (t : X) (n : Int) : datX (t.flip n) = datX t := datX_turn _ t
theorem sumX_eq (f : Nat → Nat) (k : Nat) : sumX f k = sumTo f k := by
  induction k with
  | zero => rfl
  | succ k ih => simp only [sumX, sumTo, ih]
theorem sumTo_le2 {f g : Nat → Nat} (h : ∀ i, f i ≤ g i) (k : Nat) : sumTo f k ≤ sumTo g k := by
  rw [← sumX_eq, ← sumX_eq]; exact sumX_le2 h k
theorem datX_weight (t : X) : (datX t).weight ≤ t.weight := by
  induction t with
  | no => exact Nat.le_refl _
  | mk op a n s set len kid ih =>
    have e1 : (datX (.mk op a n s set len kid)).weight = s.size + (len + sumTo (fun i => (datX (kid i)).weight) len) := rfl
    have e2 : (X.mk op a n s set len kid).weight = s.size + (set.length + (len + sumX (fun i => (kid i).weight) len)) := rfl
    have h := sumTo_le2 ih len
    rw [← sumX_eq (fun i => (kid i).weight)] at h
    omega
theorem datX_count (t : X) : (datX t).count = t.count := by
  induction t with
  | no => rfl
  | mk op a n s set len kid ih =>
    have e1 : (datX (.mk op a n s set len kid)).count = 1 + sumTo (fun i => (datX (kid i)).count) len := rfl
    have e2 : (X.mk op a n s set len kid).count = 1 + sumX (fun i => (kid i).count) len := rfl
    rw [e1, e2, sumX_eq]
    simp only [ih]
theorem stxD_count (set : List Int) (d : D) : (stxD set d).count = d.count := by rw [← datX_count, datX_stxD]
theorem stxD_setsLe (set : List Int) (d : D) : (stxD set d).SetsLe set.length := by
  induction d with
  | no => trivial
  | mk op a n s len kid ih =>
    refine ⟨?_, fun i _ => ih i⟩
    by_cases h : op = 2
    · simp only [if_pos h]; exact Nat.le_refl _
    · simp only [if_neg h]; exact Nat.zero_le _
theorem stxD_nums (set : List Int) (d : D) : (stxD set d).nums ≤ d.count * set.length := by
  induction d with
  | no => simp [stxD, X.nums]
  | mk op a n s len kid ih =>
    have e1 : (stxD set (.mk op a n s len kid)).nums = (if op = 2 then set else []).length + sumX (fun i => (stxD set (kid i)).nums) len := rfl
    have e2 : (D.mk op a n s len kid).count = 1 + sumTo (fun i => (kid i).count) len := rfl
    have h := sumX_le2 ih len
    have h2 : sumX (fun i => (kid i).count * set.length) len = sumTo (fun i => (kid i).count) len * set.length := by
      have : (fun i => (kid i).count * set.length) = fun i => set.length * (kid i).count := by funext i; exact Nat.mul_comm _ _
      rw [this, sumX_mul, sumX_eq, Nat.mul_comm]
    rw [h2] at h
    have h3 : (if op = 2 then set else []).length ≤ set.length := by
      by_cases h : op = 2
      · simp only [if_pos h]; exact Nat.le_refl _
      · simp only [if_neg h]; exact Nat.zero_le _
    rw [e1, e2, Nat.add_mul, Nat.one_mul]
    omega
theorem stxD_setsB (set : List Int) (hs : setB set = true) (d : D) : (stxD set d).setsB = true := by
  induction d with
  | no => rfl
  | mk op a n s len kid ih =>
    show (allX (fun i => (stxD set (kid i)).setsB) len && ((decide (op = 2) && setB (if op = 2 then set else [])) || decide ((if op = 2 then set else []).length = 0))) = true
    rw [Bool.and_eq_true, allX_true]
    refine ⟨fun i _ => ih i, ?_⟩
    by_cases h : op = 2
    · simp [h, hs]
    · simp [h]
end Go.Proofs.Ytaflnjhknnnaoaa

/- Plain facts on data that are the same but for their places; also by a list of pairs that are left. No conditions. -/
namespace Go.Proofs.Ytaflnjhknnnaoaa
open Go.ChangeShapes Go.WideShapes Go.ChangeAt Go.RowKit

/-- All of the first k. -/
def allTo (p : Nat → Bool) : Nat → Bool
  | 0 => true
  | k + 1 => allTo p k && p k

theorem allTo_true {p : Nat → Bool} {k : Nat} : allTo p k = true ↔ ∀ i, i < k → p i = true := by
  induction k with
  | zero => simp [allTo]
  | succ k ih =>
    simp only [allTo, Bool.and_eq_true, ih]
    constructor
    · rintro ⟨h1, h2⟩ i hi
      rcases Nat.lt_or_ge i k with h | h
      · exact h1 i h
      · obtain rfl : i = k := by omega
        exact h2
    · intro h
      exact ⟨fun i hi => h i (by omega), h k (by omega)⟩

theorem allTo_false {p : Nat → Bool} {n k : Nat} (hk : k < n) (h : p k = false) : allTo p n = false := by
  cases e : allTo p n with
  | false => rfl
  | true => rw [allTo_true] at e; rw [e k hk] at h; cases h

/-- The same op, number, text and number of kids. -/
def headB (a b : D) : Bool := (a.op == b.op) && ((a.n == b.n) && ((a.s.toList == b.s.toList) && (a.len == b.len)))

/-- The same but for places. -/
def sameD : D → D → Bool
  | .no, b => headB .no b
  | .mk op a n s len kid, b => headB (.mk op a n s len kid) b && allTo (fun i => sameD (kid i) (b.kid i)) len

theorem sameD_eq (a b : D) : sameD a b = (headB a b && allTo (fun i => sameD (a.kid i) (b.kid i)) a.len) := by
  cases a with
  | no => simp [sameD, D.len, allTo]
  | mk op a n s len kid => rfl

/-- Pairs that are left. -/
abbrev Pr := D × D × Value × Value

def Pr.cells (q : Pr) : List Value := [.int .i64 q.1.op, .int .i64 q.1.at_, .int .i64 q.1.n, .string q.1.s, q.2.2.1, .int .i64 q.2.1.op, .int .i64 q.2.1.at_, .int .i64 q.2.1.n, .string q.2.1.s, q.2.2.2]
def prows (st : List Pr) : List Value := st.flatMap Pr.cells
theorem prows_append (a b : List Pr) : prows (a ++ b) = prows a ++ prows b := by simp [prows]
theorem prows_length (st : List Pr) : (prows st).length = st.length * 10 := by
  induction st with
  | nil => rfl
  | cons t r ih => simp only [prows, List.flatMap_cons, List.length_append, List.length_cons] at ih ⊢; rw [ih]; simp [Pr.cells]; omega

def allSame (st : List Pr) : Bool := st.all fun q => sameD q.1 q.2.1
def total (st : List Pr) : Nat := (st.map fun q => q.1.count).sum

theorem total_append (a b : List Pr) : total (a ++ b) = total a + total b := by simp [total]
theorem total_len (st : List Pr) : st.length ≤ total st := by
  induction st with
  | nil => simp
  | cons q r ih =>
    simp only [total, List.map_cons, List.sum_cons, List.length_cons] at ih ⊢
    have : 1 ≤ q.1.count := by rw [D.count_eq]; omega
    omega

/-- The first k pairs of kids. -/
def pushed (x y : D) (U V : Nat → Value) (k : Nat) : List Pr := (List.range k).map fun i => (x.kid i, y.kid i, U i, V i)
theorem pushed_succ (x y : D) (U V : Nat → Value) (k : Nat) : pushed x y U V (k + 1) = pushed x y U V k ++ [(x.kid k, y.kid k, U k, V k)] := by simp [pushed, List.range_succ]
theorem pushed_len (x y : D) (U V : Nat → Value) (k : Nat) : (pushed x y U V k).length = k := by simp [pushed]
theorem pushed_total (x y : D) (U V : Nat → Value) (k : Nat) : total (pushed x y U V k) = sumTo (fun i => (x.kid i).count) k := by
  induction k with
  | zero => rfl
  | succ k ih => rw [pushed_succ, total_append, ih]; simp [total, sumTo]
theorem pushed_same (x y : D) (U V : Nat → Value) (k : Nat) : allSame (pushed x y U V k) = allTo (fun i => sameD (x.kid i) (y.kid i)) k := by
  induction k with
  | zero => rfl
  | succ k ih => rw [pushed_succ]; simp only [allSame, List.all_append] at ih ⊢; rw [ih]; simp [allTo]

theorem pop_same (r : List Pr) (x y : D) (u v : Value) (U V : Nat → Value) (h : headB x y = true) : allSame (r ++ [(x, y, u, v)]) = allSame (r ++ pushed x y U V x.len) := by
  have h1 := pushed_same x y U V x.len
  simp only [allSame, List.all_append] at h1 ⊢
  rw [h1, ← Bool.true_and (allTo _ _), ← h, ← sameD_eq]
  simp
theorem pop_no (r : List Pr) (x y : D) (u v : Value) (h : headB x y = false) : allSame (r ++ [(x, y, u, v)]) = false := by
  simp only [allSame, List.all_append]
  simp [sameD_eq x y, h]
theorem pop_total (r : List Pr) (x y : D) (u v : Value) (U V : Nat → Value) : total (r ++ pushed x y U V x.len) + 1 = total (r ++ [(x, y, u, v)]) := by
  rw [total_append, total_append, pushed_total]
  simp only [total, List.map_cons, List.map_nil, List.sum_cons, List.sum_nil]
  rw [D.count_eq x]; omega

/-- The pairs lie in w. -/
def PrsIn (w : World) (st : List Pr) : Prop := ∀ q ∈ st, q.1.In w q.2.2.1 ∧ q.2.1.In w q.2.2.2
theorem PrsIn.below {w w' : World} {st : List Pr} (h : PrsIn w st) (hb : Below w.heap.size w w') : PrsIn w' st := fun q hq => ⟨(h q hq).1.below hb, (h q hq).2.below hb⟩
end Go.Proofs.Ytaflnjhknnnaoaa
