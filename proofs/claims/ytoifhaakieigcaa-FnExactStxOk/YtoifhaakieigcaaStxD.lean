/- What is written of a datum, and the datum of what is written. No conditions. -/
import Derived.Test.YtoifhaakieigcaaStxP
import Derived.Test.YtoifhaakieigcaaDat
namespace Go.Proofs.Ytoifhaakieigcaa
open Go.ChangeShapes Go.WideShapes Go.ChangeAt Go.RowKit

/-- What is written of a datum: each symbol has the set. -/
def stxD (set : List Int) : D → X
  | .no => .no
  | .mk op a n s len kid => .mk op a n s (if op = 2 then set else []) len (fun i => stxD set (kid i))
/-- The datum of what is written. -/
def datX : X → D
  | .no => .no
  | .mk op a n s _ len kid => .mk op a n s len (fun i => datX (kid i))
theorem datX_stxD (set : List Int) (d : D) : datX (stxD set d) = d := by
  induction d with
  | no => rfl
  | mk op a n s len kid ih =>
    show D.mk op a n s len (fun i => datX (stxD set (kid i))) = _
    congr 1
    funext i
    exact ih i
theorem datX_turn (f : List Int → List Int) (t : X) : datX (t.turn f) = datX t := by
  induction t with
  | no => rfl
  | mk op a n s set len kid ih =>
    show D.mk op a n s len (fun i => datX ((kid i).turn f)) = D.mk op a n s len (fun i => datX (kid i))
    congr 1
    funext i
    exact ih i
theorem datX_flip (t : X) (n : Int) : datX (t.flip n) = datX t := datX_turn _ t
theorem sumX_eq (f : Nat → Nat) (k : Nat) : sumX f k = sumTo f k := by
  induction k with
  | zero => rfl
  | succ k ih => simp only [sumX, sumTo, ih]
theorem sumTo_le2 {f g : Nat → Nat} (h : ∀ i, f i ≤ g i) (k : Nat) : sumTo f k ≤ sumTo g k := by
  rw [← sumX_eq, ← sumX_eq]; exact sumX_le2 h k
theorem datX_weight (t : X) : (datX t).weight ≤ t.weight := by
  induction t with
  | no => exact Nat.le_refl _
  | mk op a n s set len kid ih =>
    have e1 : (datX (.mk op a n s set len kid)).weight = s.size + (len + sumTo (fun i => (datX (kid i)).weight) len) := rfl
    have e2 : (X.mk op a n s set len kid).weight = s.size + (set.length + (len + sumX (fun i => (kid i).weight) len)) := rfl
    have h := sumTo_le2 ih len
    rw [← sumX_eq (fun i => (kid i).weight)] at h
    omega
theorem datX_count (t : X) : (datX t).count = t.count := by
  induction t with
  | no => rfl
  | mk op a n s set len kid ih =>
    have e1 : (datX (.mk op a n s set len kid)).count = 1 + sumTo (fun i => (datX (kid i)).count) len := rfl
    have e2 : (X.mk op a n s set len kid).count = 1 + sumX (fun i => (kid i).count) len := rfl
    rw [e1, e2, sumX_eq]
    simp only [ih]
theorem stxD_count (set : List Int) (d : D) : (stxD set d).count = d.count := by rw [← datX_count, datX_stxD]
theorem stxD_setsLe (set : List Int) (d : D) : (stxD set d).SetsLe set.length := by
  induction d with
  | no => trivial
  | mk op a n s len kid ih =>
    refine ⟨?_, fun i _ => ih i⟩
    by_cases h : op = 2
    · simp only [if_pos h]; exact Nat.le_refl _
    · simp only [if_neg h]; exact Nat.zero_le _
theorem stxD_nums (set : List Int) (d : D) : (stxD set d).nums ≤ d.count * set.length := by
  induction d with
  | no => simp [stxD, X.nums]
  | mk op a n s len kid ih =>
    have e1 : (stxD set (.mk op a n s len kid)).nums = (if op = 2 then set else []).length + sumX (fun i => (stxD set (kid i)).nums) len := rfl
    have e2 : (D.mk op a n s len kid).count = 1 + sumTo (fun i => (kid i).count) len := rfl
    have h := sumX_le2 ih len
    have h2 : sumX (fun i => (kid i).count * set.length) len = sumTo (fun i => (kid i).count) len * set.length := by
      have : (fun i => (kid i).count * set.length) = fun i => set.length * (kid i).count := by funext i; exact Nat.mul_comm _ _
      rw [this, sumX_mul, sumX_eq, Nat.mul_comm]
    rw [h2] at h
    have h3 : (if op = 2 then set else []).length ≤ set.length := by
      by_cases h : op = 2
      · simp only [if_pos h]; exact Nat.le_refl _
      · simp only [if_neg h]; exact Nat.zero_le _
    rw [e1, e2, Nat.add_mul, Nat.one_mul]
    omega
theorem stxD_setsB (set : List Int) (hs : setB set = true) (d : D) : (stxD set d).setsB = true := by
  induction d with
  | no => rfl
  | mk op a n s len kid ih =>
    show (allX (fun i => (stxD set (kid i)).setsB) len && ((decide (op = 2) && setB (if op = 2 then set else [])) || decide ((if op = 2 then set else []).length = 0))) = true
    rw [Bool.and_eq_true, allX_true]
    refine ⟨fun i _ => ih i, ?_⟩
    by_cases h : op = 2
    · simp [h, hs]
    · simp [h]
end Go.Proofs.Ytoifhaakieigcaa
