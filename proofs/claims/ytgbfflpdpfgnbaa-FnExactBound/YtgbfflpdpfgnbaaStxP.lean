/- Plain facts on what is written: the same but for places; its sets turned; how great it is. No conditions. -/
import Derived.Test.YtgbfflpdpfgnbaaStx
import Derived.Test.YtgbfflpdpfgnbaaSetsQ
namespace Go.Proofs.Ytgbfflpdpfgnbaa
open Go.ChangeShapes Go.WideShapes Go.ChangeAt Go.RowKit

/-- No set of more than 2^22. -/
def X.Small : X → Prop
  | .no => True
  | .mk _ _ _ _ set len kid => set.length ≤ 4194304 ∧ ∀ i, i < len → (kid i).Small
theorem X.small_of_weight (t : X) : t.weight ≤ 4194304 → t.Small := by
  induction t with
  | no => intro _; trivial
  | mk op a n s set len kid ih =>
    intro h
    have e : (X.mk op a n s set len kid).weight = s.size + (set.length + (len + sumX (fun i => (kid i).weight) len)) := rfl
    refine ⟨by omega, fun i hi => ih i ?_⟩
    have := sumX_at (fun i => (kid i).weight) i len hi
    omega

/-- All of the first k. -/
def allX (p : Nat → Bool) : Nat → Bool
  | 0 => true
  | k + 1 => allX p k && p k
theorem allX_true {p : Nat → Bool} {k : Nat} : allX p k = true ↔ ∀ i, i < k → p i = true := by
  induction k with
  | zero => simp [allX]
  | succ k ih =>
    simp only [allX, Bool.and_eq_true, ih]
    constructor
    · rintro ⟨h1, h2⟩ i hi
      rcases Nat.lt_or_ge i k with h | h
      · exact h1 i h
      · obtain rfl : i = k := by omega
        exact h2
    · intro h
      exact ⟨fun i hi => h i (by omega), h k (by omega)⟩
theorem allX_false {p : Nat → Bool} {n k : Nat} (hk : k < n) (h : p k = false) : allX p n = false := by
  cases e : allX p n with
  | false => rfl
  | true => rw [allX_true] at e; rw [e k hk] at h; cases h

/-- The same op, number, text, set and number of kids. -/
def headX (a b : X) : Bool := (a.op == b.op) && ((a.n == b.n) && ((a.s.toList == b.s.toList) && (sameB a.set b.set && (a.len == b.len))))
/-- The same but for places. -/
def sameX : X → X → Bool
  | .no, b => headX .no b
  | .mk op a n s set len kid, b => headX (.mk op a n s set len kid) b && allX (fun i => sameX (kid i) (b.kid i)) len
theorem sameX_eq (a b : X) : sameX a b = (headX a b && allX (fun i => sameX (a.kid i) (b.kid i)) a.len) := by
  cases a with
  | no => simp [sameX, X.len, allX]
  | mk op a n s set len kid => rfl

theorem bytes_injX {a b : ByteArray} (h : a.toList = b.toList) : a = b := by
  rw [ByteArray.toList_eq, ByteArray.toList_eq] at h
  cases a; cases b; simp only at h; congr; exact Array.toList_inj.1 h

/-- The tests ahead, one by one. -/
theorem headX_cases (a b : X) : (headX a b = true ∧ a.op = b.op ∧ a.n = b.n ∧ a.s = b.s ∧ sameB a.set b.set = true ∧ a.len = b.len) ∨
    (headX a b = false ∧ (a.op ≠ b.op ∨ (a.op = b.op ∧ (a.n ≠ b.n ∨ (a.n = b.n ∧ ((a.s.toList == b.s.toList) = false ∨ (a.s = b.s ∧ (sameB a.set b.set = false ∨ (sameB a.set b.set = true ∧ a.len ≠ b.len))))))))) := by
  unfold headX
  by_cases h1 : a.op = b.op
  · by_cases h2 : a.n = b.n
    · by_cases h3 : a.s.toList = b.s.toList
      · have h3' : a.s = b.s := bytes_injX h3
        cases h5 : sameB a.set b.set with
        | false => exact .inr (by simp [h1, h2, h3'])
        | true =>
          by_cases h4 : a.len = b.len
          · exact .inl (by simp [h1, h2, h3', h4])
          · exact .inr (by simp [h1, h2, h3', h4])
      · exact .inr (by simp [h1, h2, h3])
    · exact .inr (by simp [h1, h2])
  · exact .inr (by simp [h1])

theorem sameX_self (t : X) : sameX t t = true := by
  induction t with
  | no => simp [sameX, headX, same_self]
  | mk op a n s set len kid ih =>
    rw [sameX_eq]
    have h1 : headX (.mk op a n s set len kid) (.mk op a n s set len kid) = true := by simp [headX, same_self]
    rw [h1, Bool.true_and, allX_true]
    exact fun i _ => ih i

/-- Sets turned at symbols. -/
def X.turn (f : List Int → List Int) : X → X
  | .no => .no
  | .mk op a n s set len kid => .mk op a n s (if op = 2 then f set else set) len (fun i => (kid i).turn f)
def X.flip (t : X) (n : Int) : X := t.turn fun s => flipL s n
def X.withAll (t : X) (n : Int) : X := t.turn fun s => withL s n
theorem X.turn_mk (f : List Int → List Int) (op a n : Int) (s : ByteArray) (set : List Int) (len : Nat) (kid : Nat → X) : (X.mk op a n s set len kid).turn f = .mk op a n s (if op = 2 then f set else set) len (fun i => (kid i).turn f) := rfl
theorem X.turn_ne (f : List Int → List Int) (t : X) (h : t ≠ .no) : t.turn f ≠ .no := by
  cases t with
  | no => exact absurd rfl h
  | mk op a n s set len kid => intro e; cases e
theorem X.turn_count (f : List Int → List Int) (t : X) : (t.turn f).count = t.count := by
  induction t with
  | no => rfl
  | mk op a n s set len kid ih => rw [turn_mk]; unfold count; simp only [ih]

/-- All sets are right: at symbols sets, elsewhere none. -/
def X.setsB : X → Bool
  | .no => true
  | .mk op _ _ _ set len kid => allX (fun i => (kid i).setsB) len && ((decide (op = 2) && setB set) || decide (set.length = 0))
theorem X.setsB_mk (op a n : Int) (s : ByteArray) (set : List Int) (len : Nat) (kid : Nat → X) : (X.mk op a n s set len kid).setsB = (allX (fun i => (kid i).setsB) len && ((decide (op = 2) && setB set) || decide (set.length = 0))) := rfl

theorem setB_nil : setB [] = true := by simp [setB]
/-- Flipped twice it is as it was. -/
theorem X.flip_flip (t : X) (m : Int) : t.setsB = true → sameX ((t.flip m).flip m) t = true := by
  induction t with
  | no => intro _; exact sameX_self .no
  | mk op a n s set len kid ih =>
    intro h
    rw [setsB_mk, Bool.and_eq_true, allX_true] at h
    obtain ⟨hk, hs⟩ := h
    have hset : (if op = 2 then flipL (if op = 2 then flipL set m else set) m else (if op = 2 then flipL set m else set)) = set := by
      by_cases h2 : op = 2
      · simp only [if_pos h2]
        rcases Bool.or_eq_true _ _ ▸ hs with h3 | h3
        · rw [Bool.and_eq_true] at h3; exact Go.Proofs.Ytgbfflpdpfgnbaa.flip_flip h3.2
        · have h0 : set = [] := List.eq_nil_of_length_eq_zero (of_decide_eq_true h3)
          subst h0
          exact Go.Proofs.Ytgbfflpdpfgnbaa.flip_flip setB_nil
      · simp only [if_neg h2]
    have e : ((X.mk op a n s set len kid).flip m).flip m = .mk op a n s set len (fun i => ((kid i).flip m).flip m) := by
      unfold X.flip
      rw [turn_mk, turn_mk, hset]
    rw [e, sameX_eq]
    have h1 : headX (.mk op a n s set len (fun i => ((kid i).flip m).flip m)) (.mk op a n s set len kid) = true := by simp [headX, same_self, X.op, X.n, X.s, X.set, X.len]
    rw [h1, Bool.true_and, allX_true]
    exact fun i hi => ih i (hk i hi)

/-- How many numbers its sets have, in all. -/
def X.nums : X → Nat | .no => 0 | .mk _ _ _ _ set len kid => set.length + sumX (fun i => (kid i).nums) len
theorem sumX_le2 {f g : Nat → Nat} (h : ∀ i, f i ≤ g i) (k : Nat) : sumX f k ≤ sumX g k := by
  induction k with
  | zero => exact Nat.le_refl _
  | succ k ih => simp only [sumX]; have := h k; omega
theorem sumX_add (f g : Nat → Nat) (k : Nat) : sumX (fun i => f i + g i) k = sumX f k + sumX g k := by
  induction k with
  | zero => rfl
  | succ k ih => simp only [sumX, ih]; omega
theorem sumX_mul (c : Nat) (f : Nat → Nat) (k : Nat) : sumX (fun i => c * f i) k = c * sumX f k := by
  induction k with
  | zero => rfl
  | succ k ih => simp only [sumX, ih, Nat.mul_add]
theorem X.nums_weight (t : X) : t.nums ≤ t.weight := by
  induction t with
  | no => exact Nat.le_refl _
  | mk op a n s set len kid ih =>
    unfold nums weight
    have := sumX_le2 ih len
    omega
theorem X.turn_nums (f : List Int → List Int) (hf : ∀ s, (f s).length ≤ s.length + 1) (t : X) : (t.turn f).nums ≤ t.nums + t.count := by
  induction t with
  | no => simp [turn, nums]
  | mk op a n s set len kid ih =>
    rw [turn_mk]
    unfold nums count
    have h1 := sumX_le2 ih len
    rw [sumX_add] at h1
    have h2 := hf set
    by_cases h : op = 2
    · simp only [if_pos h]; omega
    · simp only [if_neg h]; omega
/-- No set of more than m. -/
def X.SetsLe (m : Nat) : X → Prop
  | .no => True
  | .mk _ _ _ _ set len kid => set.length ≤ m ∧ ∀ i, i < len → (kid i).SetsLe m
theorem X.setsLe_weight {m : Nat} (t : X) : t.weight ≤ m → t.SetsLe m := by
  induction t with
  | no => intro _; trivial
  | mk op a n s set len kid ih =>
    intro h
    have e : (X.mk op a n s set len kid).weight = s.size + (set.length + (len + sumX (fun i => (kid i).weight) len)) := rfl
    refine ⟨by omega, fun i hi => ih i ?_⟩
    have := sumX_at (fun i => (kid i).weight) i len hi
    omega
theorem X.SetsLe.small {m : Nat} (hm : m ≤ 4194304) (t : X) : t.SetsLe m → t.Small := by
  induction t with
  | no => intro _; trivial
  | mk op a n s set len kid ih => intro h; exact ⟨Nat.le_trans h.1 hm, fun i hi => ih i (h.2 i hi)⟩
theorem X.SetsLe.turn {m : Nat} {f : List Int → List Int} (hf : ∀ s, (f s).length ≤ s.length + 1) (t : X) : t.SetsLe m → (t.turn f).SetsLe (m + 1) := by
  induction t with
  | no => intro _; trivial
  | mk op a n s set len kid ih =>
    intro h
    refine ⟨?_, fun i hi => ih i (h.2 i hi)⟩
    have h1 := h.1
    have h2 := hf set
    by_cases h3 : op = 2
    · simp only [if_pos h3]; omega
    · simp only [if_neg h3]; omega
theorem X.turn_small {f : List Int → List Int} (hf : ∀ s, (f s).length ≤ s.length + 1) (t : X) (h : t.weight ≤ 1048576) : (t.turn f).Small := X.SetsLe.small (m := 1048577) (by omega) _ ((X.setsLe_weight t h).turn hf)
end Go.Proofs.Ytgbfflpdpfgnbaa
