/- Pairs of what is written that are left to be compared. No conditions. -/
import Derived.Test.YtoifhaakieigcaaStxP
namespace Go.Proofs.Ytoifhaakieigcaa
open Go.ChangeShapes Go.WideShapes Go.ChangeAt Go.RowKit

/-- Pairs that are left. -/
abbrev XP := X × X × (Value × Value) × (Value × Value)

def XP.cells (q : XP) : List Value := [.int .i64 q.1.op, .int .i64 q.1.at_, .int .i64 q.1.n, .string q.1.s, q.2.2.1.1, q.2.2.1.2, .int .i64 q.2.1.op, .int .i64 q.2.1.at_, .int .i64 q.2.1.n, .string q.2.1.s, q.2.2.2.1, q.2.2.2.2]
def xprows (st : List XP) : List Value := st.flatMap XP.cells
theorem xprows_append (a b : List XP) : xprows (a ++ b) = xprows a ++ xprows b := by simp [xprows]
theorem xprows_length (st : List XP) : (xprows st).length = st.length * 12 := by
  induction st with
  | nil => rfl
  | cons t r ih => simp only [xprows, List.flatMap_cons, List.length_append, List.length_cons] at ih ⊢; rw [ih]; simp [XP.cells]; omega

def allSameX (st : List XP) : Bool := st.all fun q => sameX q.1 q.2.1
def totalX (st : List XP) : Nat := (st.map fun q => q.1.count).sum

theorem totalX_append (a b : List XP) : totalX (a ++ b) = totalX a + totalX b := by simp [totalX]
theorem totalX_len (st : List XP) : st.length ≤ totalX st := by
  induction st with
  | nil => simp
  | cons q r ih =>
    simp only [totalX, List.map_cons, List.sum_cons, List.length_cons] at ih ⊢
    have : 1 ≤ q.1.count := by rw [X.count_eq]; omega
    omega

/-- The first k pairs of kids. -/
def pushedX (x y : X) (U V : Nat → Value × Value) (k : Nat) : List XP := (List.range k).map fun i => (x.kid i, y.kid i, U i, V i)
theorem pushedX_succ (x y : X) (U V : Nat → Value × Value) (k : Nat) : pushedX x y U V (k + 1) = pushedX x y U V k ++ [(x.kid k, y.kid k, U k, V k)] := by simp [pushedX, List.range_succ]
theorem pushedX_len (x y : X) (U V : Nat → Value × Value) (k : Nat) : (pushedX x y U V k).length = k := by simp [pushedX]
theorem pushedX_totalX (x y : X) (U V : Nat → Value × Value) (k : Nat) : totalX (pushedX x y U V k) = sumX (fun i => (x.kid i).count) k := by
  induction k with
  | zero => rfl
  | succ k ih => rw [pushedX_succ, totalX_append, ih]; simp [totalX, sumX]
theorem pushedX_same (x y : X) (U V : Nat → Value × Value) (k : Nat) : allSameX (pushedX x y U V k) = allX (fun i => sameX (x.kid i) (y.kid i)) k := by
  induction k with
  | zero => rfl
  | succ k ih => rw [pushedX_succ]; simp only [allSameX, List.all_append] at ih ⊢; rw [ih]; simp [allX]

theorem popX_same (r : List XP) (x y : X) (u v : Value × Value) (U V : Nat → Value × Value) (h : headX x y = true) : allSameX (r ++ [(x, y, u, v)]) = allSameX (r ++ pushedX x y U V x.len) := by
  have h1 := pushedX_same x y U V x.len
  simp only [allSameX, List.all_append] at h1 ⊢
  rw [h1, ← Bool.true_and (allX _ _), ← h, ← sameX_eq]
  simp
theorem popX_no (r : List XP) (x y : X) (u v : Value × Value) (h : headX x y = false) : allSameX (r ++ [(x, y, u, v)]) = false := by
  simp only [allSameX, List.all_append]
  simp [sameX_eq x y, h]
theorem popX_totalX (r : List XP) (x y : X) (u v : Value × Value) (U V : Nat → Value × Value) : totalX (r ++ pushedX x y U V x.len) + 1 = totalX (r ++ [(x, y, u, v)]) := by
  rw [totalX_append, totalX_append, pushedX_totalX]
  simp only [totalX, List.map_cons, List.map_nil, List.sum_cons, List.sum_nil]
  rw [X.count_eq x]; omega

/-- The pairs lie in w, each of them small. -/
def XPsIn (w : World) (st : List XP) : Prop := ∀ q ∈ st, (q.1.At 0 w q.2.2.1.1 q.2.2.1.2 ∧ q.1.Small) ∧ (q.2.1.At 0 w q.2.2.2.1 q.2.2.2.2 ∧ q.2.1.Small)
end Go.Proofs.Ytoifhaakieigcaa
