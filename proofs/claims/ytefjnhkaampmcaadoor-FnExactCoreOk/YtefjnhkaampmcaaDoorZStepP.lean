/- The steps that are left of a walk through a core; plain facts. No conditions. -/
import Derived.Test.YtefjnhkaampmcaaDoorZCorOkP
namespace Go.Proofs.YtefjnhkaampmcaaDoor
open Go.ChangeShapes Go.WideShapes Go.ChangeAt Go.RowKit

/-- A step: a part (with the slice of its kids, and where it lies) that is come to, or none; names, and the slice that holds them. -/
structure St where
  part : Option (C × Value × Nat × Nat)
  names : List ByteArray
  nv : Value
def St.adr (st : St) : Option Addr := st.part.map fun q => ⟨q.2.2.1, q.2.2.2, none⟩
def St.cells (st : St) : List Value := [.pointer st.adr, st.nv]
def strows (l : List St) : List Value := l.flatMap St.cells
theorem strows_append (a b : List St) : strows (a ++ b) = strows a ++ strows b := by simp [strows]
theorem strows_length (l : List St) : (strows l).length = l.length * 2 := by
  induction l with
  | nil => rfl
  | cons t r ih => simp only [strows, List.flatMap_cons, List.length_append, List.length_cons] at ih ⊢; rw [ih]; simp [St.cells]; omega
theorem strows_at : ∀ (l : List St) (i : Nat) (p : St), l[i]? = some p → (strows l)[i * 2]? = some (.pointer p.adr) ∧ (strows l)[i * 2 + 1]? = some p.nv
  | [], i, p, h => by simp at h
  | x :: r, 0, p, h => by simp at h; subst h; simp [strows, St.cells]
  | x :: r, i + 1, p, h => by
    have ih := strows_at r i p (by simpa using h)
    have e : strows (x :: r) = .pointer x.adr :: x.nv :: strows r := rfl
    rw [e, show (i + 1) * 2 = i * 2 + 1 + 1 from by omega]
    simpa using ih

def nmL (xs : List ByteArray) : List (List UInt8) := xs.map fun x => x.data.toList
/-- The names that are bound at the top. -/
def envOf : List St → List (List UInt8)
  | [] => []
  | st :: r => (match st.part with | none => nmL st.names | some _ => []) ++ envOf r
theorem envOf_append (a b : List St) : envOf (a ++ b) = envOf a ++ envOf b := by
  induction a with
  | nil => rfl
  | cons x r ih => simp [envOf, ih]
/-- What is still to come is closed. -/
def pend : List St → List (List UInt8) → Bool
  | [], _ => true
  | st :: r, env => match st.part with | none => pend r (env ++ nmL st.names) | some q => q.1.closed (env ++ nmL st.names) && pend r env
theorem pend_append (a b : List St) : ∀ env, pend (a ++ b) env = (pend a env && pend b (env ++ envOf a)) := by
  induction a with
  | nil => intro env; simp [pend, envOf]
  | cons x r ih =>
    intro env
    obtain ⟨part, names, nv⟩ := x
    cases part with
    | none => simp only [List.cons_append, pend, envOf, ih, List.append_assoc]
    | some q => simp only [List.cons_append, pend, envOf, ih, List.nil_append, Bool.and_assoc]

/-- How many steps a core makes. -/
def C.goes9 : C → Nat | .no => 2 | .mk _ _ _ _ len kid => 2 + sumTo (fun i => (kid i).goes9) len
theorem C.goes9_eq (t : C) : t.goes9 = 2 + sumTo (fun i => (t.kid i).goes9) t.len := by cases t <;> rfl
theorem C.goes9_count (t : C) : t.goes9 ≤ 2 * t.count := by
  induction t with
  | no => simp [goes9, count]
  | mk op n s t2 len kid ih =>
    unfold goes9 count
    have : ∀ k, sumTo (fun i => (kid i).goes9) k ≤ 2 * sumTo (fun i => (kid i).count) k := by
      intro k
      induction k with
      | zero => simp [sumTo]
      | succ k ihk => simp only [sumTo]; have := ih k; omega
    have := this len
    omega
def St.goes (st : St) : Nat := match st.part with | none => 1 | some q => q.1.goes9
def goesS (l : List St) : Nat := (l.map St.goes).sum
theorem goesS_append (a b : List St) : goesS (a ++ b) = goesS a + goesS b := by simp [goesS]
theorem goesS_len (l : List St) : l.length ≤ goesS l := by
  induction l with
  | nil => simp
  | cons q r ih =>
    simp only [goesS, List.map_cons, List.sum_cons, List.length_cons] at ih ⊢
    have : 1 ≤ q.goes := by
      obtain ⟨part, _, _⟩ := q
      cases part with
      | none => exact Nat.le_refl _
      | some x => show 1 ≤ x.1.goes9; rw [C.goes9_eq]; omega
    omega

/-- As the program binds them. -/
def bndIB (op : Int) (i : Nat) (s t2 : ByteArray) : List ByteArray :=
  if op = 6 ∧ i = 0 then [s, t2] else if (op = 3 ∧ i = 0) ∨ (op = 5 ∧ i = 1) ∨ (op = 6 ∧ i = 1) then [s] else []
theorem bndIB_nm (op : Int) (i : Nat) (s t2 : ByteArray) : nmL (bndIB op i s t2) = bndI op i s t2 := by
  unfold bndIB bndI
  split
  · rfl
  · split <;> rfl
/-- The steps to the last k kids, the last one first. -/
def kidSts (t : C) (V : Nat → Value) (NV : Nat → Value) (b o : Nat) : Nat → List St
  | 0 => []
  | k + 1 => kidSts t V NV b o k ++ [⟨some (t.kid (t.len - 1 - k), V (t.len - 1 - k), b, o + (t.len - 1 - k) * 5), bndIB t.op (t.len - 1 - k) t.s t.t2, NV (t.len - 1 - k)⟩]
theorem kidSts_len (t : C) (V NV : Nat → Value) (b o : Nat) : ∀ k, (kidSts t V NV b o k).length = k
  | 0 => rfl
  | k + 1 => by simp [kidSts, kidSts_len t V NV b o k]
theorem kidSts_env (t : C) (V NV : Nat → Value) (b o : Nat) : ∀ k, envOf (kidSts t V NV b o k) = []
  | 0 => rfl
  | k + 1 => by rw [kidSts, envOf_append, kidSts_env t V NV b o k]; rfl
theorem kidSts_pend (t : C) (V NV : Nat → Value) (b o : Nat) (env : List (List UInt8)) : ∀ k, k ≤ t.len → (pend (kidSts t V NV b o k) env = true ↔ ∀ i, t.len - k ≤ i → i < t.len → (t.kid i).closed (env ++ bndI t.op i t.s t.t2) = true)
  | 0, _ => ⟨fun _ i h1 h2 => by omega, fun _ => rfl⟩
  | k + 1, hk => by
    have ih := kidSts_pend t V NV b o env k (by omega)
    rw [kidSts, pend_append, kidSts_env, List.append_nil, Bool.and_eq_true, ih]
    simp only [pend, Bool.and_true, bndIB_nm]
    constructor
    · rintro ⟨h1, h2⟩ i hi1 hi2
      by_cases e : i = t.len - 1 - k
      · subst e; exact h2
      · exact h1 i (by omega) hi2
    · intro h
      exact ⟨fun i hi1 hi2 => h i (by omega) hi2, h _ (by omega) (by omega)⟩
theorem sumTo_last (f : Nat → Nat) (n : Nat) : ∀ k, k ≤ n → sumTo f n = sumTo f (n - k) + sumTo (fun j => f (n - 1 - j)) k
  | 0, _ => by simp [sumTo]
  | k + 1, hk => by
    have ih := sumTo_last f n k (by omega)
    have e : sumTo f (n - k) = sumTo f (n - (k + 1)) + f (n - 1 - k) := by
      have : n - k = (n - (k + 1)) + 1 := by omega
      rw [this]
      simp only [sumTo]
      congr 2
      omega
    simp only [sumTo]
    omega
theorem kidSts_goes (t : C) (V NV : Nat → Value) (b o : Nat) : goesS (kidSts t V NV b o t.len) = sumTo (fun i => (t.kid i).goes9) t.len := by
  have h : ∀ k, goesS (kidSts t V NV b o k) = sumTo (fun j => (t.kid (t.len - 1 - j)).goes9) k := by
    intro k
    induction k with
    | zero => rfl
    | succ k ih => rw [kidSts, goesS_append, ih]; simp [goesS, St.goes, sumTo]
  rw [h, sumTo_last (fun i => (t.kid i).goes9) t.len t.len (Nat.le_refl _)]
  simp [sumTo]
/-- What is pushed when a part is come to. -/
def leaveOf (xs : List ByteArray) (nv : Value) : List St := if xs = [] then [] else [⟨none, xs, nv⟩]
theorem leaveOf_env (xs : List ByteArray) (nv : Value) : envOf (leaveOf xs nv) = nmL xs := by
  unfold leaveOf
  split
  · rename_i h; subst h; rfl
  · simp [envOf]
theorem leaveOf_pend (xs : List ByteArray) (nv : Value) (env : List (List UInt8)) : pend (leaveOf xs nv) env = true := by
  unfold leaveOf
  split <;> rfl
theorem leaveOf_goes (xs : List ByteArray) (nv : Value) : goesS (leaveOf xs nv) ≤ 1 := by
  unfold leaveOf
  split
  · simp [goesS]
  · simp [goesS, St.goes]
theorem C.closed_mk (op n : Int) (s t2 : ByteArray) (len : Nat) (kid : Nat → C) (env : List (List UInt8)) : (C.mk op n s t2 len kid).closed env = ((!(decide (op = 2)) || env.contains s.data.toList) && allTo (fun i => (kid i).closed (env ++ bndI op i s t2)) len) := rfl
theorem C.closed_eq (t : C) (h : t ≠ .no) (env : List (List UInt8)) : t.closed env = true ↔ (t.op = 2 → env.contains t.s.data.toList = true) ∧ ∀ i, i < t.len → (t.kid i).closed (env ++ bndI t.op i t.s t.t2) = true := by
  cases t with
  | no => exact absurd rfl h
  | mk op n s t2 len kid =>
    rw [C.closed_mk]
    simp only [Bool.and_eq_true, allTo_true, Bool.or_eq_true, Bool.not_eq_true', decide_eq_false_iff_not, C.op, C.s, C.t2, C.len, C.kid]
    constructor
    · rintro ⟨h1, h2⟩
      exact ⟨fun e => h1.resolve_left (fun h => h e), h2⟩
    · rintro ⟨h1, h2⟩
      refine ⟨?_, h2⟩
      by_cases e : op = 2
      · exact .inr (h1 e)
      · exact .inl e
/-- Come to a part: what is still to come then. -/
theorem pend_come (r : List St) (t : C) (h : t ≠ .no) (v nv nv' : Value) (V NV : Nat → Value) (b0 o0 b o : Nat) (xs : List ByteArray) :
    pend (r ++ [⟨some (t, v, b0, o0), xs, nv⟩]) [] = true ↔ (t.op = 2 → (envOf r ++ nmL xs).contains t.s.data.toList = true) ∧ pend (r ++ (leaveOf xs nv' ++ kidSts t V NV b o t.len)) [] = true := by
  rw [pend_append, pend_append, pend_append, leaveOf_env, leaveOf_pend, Bool.true_and, Bool.and_eq_true, Bool.and_eq_true, List.nil_append]
  rw [kidSts_pend t V NV b o _ t.len (Nat.le_refl _)]
  simp only [pend, Bool.and_true]
  rw [C.closed_eq t h]
  constructor
  · rintro ⟨h1, h2, h3⟩
    exact ⟨h2, h1, fun i _ hi => h3 i hi⟩
  · rintro ⟨h2, h1, h3⟩
    exact ⟨h1, h2, fun i hi => h3 i (by omega) hi⟩
theorem goes_come (r : List St) (t : C) (v nv nv' : Value) (V NV : Nat → Value) (b0 o0 b o : Nat) (xs : List ByteArray) : goesS (r ++ (leaveOf xs nv' ++ kidSts t V NV b o t.len)) < goesS (r ++ [⟨some (t, v, b0, o0), xs, nv⟩]) := by
  have h1 := leaveOf_goes xs nv'
  have h2 := t.goes9_eq
  rw [goesS_append, goesS_append, goesS_append, kidSts_goes]
  have h3 : goesS [⟨some (t, v, b0, o0), xs, nv⟩] = t.goes9 := by simp [goesS, St.goes]
  omega
theorem pend_leave (r : List St) (xs : List ByteArray) (nv : Value) : pend (r ++ [⟨none, xs, nv⟩]) [] = pend r [] := by
  rw [pend_append]; simp [pend]
end Go.Proofs.YtefjnhkaampmcaaDoor
