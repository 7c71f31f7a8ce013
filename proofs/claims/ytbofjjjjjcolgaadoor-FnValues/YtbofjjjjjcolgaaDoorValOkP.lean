/- Plain facts on values that are right: by fields, how deep, and level by level. No conditions. -/
import Derived.Test.YtbofjjjjjcolgaaDoorVal
import Derived.Test.YtbofjjjjjcolgaaDoorDatOkP
import Derived.Test.YtbofjjjjjcolgaaDoorWordsOk
namespace Go.Proofs.YtbofjjjjjcolgaaDoor
open Go.ChangeShapes Go.WideShapes Go.ChangeAt Go.RowKit

/-- What is told of a value but for its kids, by its tests. -/
def fVB (op : Int) (wb n0 l0 l2 : Bool) : Bool := if op = 1 then wb && l0 else if op = 2 then n0 && l0 else if op = 4 then n0 && l0 else if op = 3 then n0 && l2 else false
def fieldsV (t : Vt) : Bool := fVB t.op (wokB t.n) (t.n == 0) ((t.len : Int) == 0) ((t.len : Int) == 2)
/-- What is right has two kids, or none. -/
theorem fieldsV_len {t : Vt} (h : fieldsV t = true) : t.len = 0 ∨ t.len = 2 := by
  have key : ∀ (op : Int) (wb n0 l0 l2 : Bool), fVB op wb n0 l0 l2 = true → l0 = true ∨ l2 = true := by
    intro op wb n0 l0 l2 h
    unfold fVB at h
    split at h
    · simp only [Bool.and_eq_true] at h; exact .inl h.2
    split at h
    · simp only [Bool.and_eq_true] at h; exact .inl h.2
    split at h
    · simp only [Bool.and_eq_true] at h; exact .inl h.2
    split at h
    · simp only [Bool.and_eq_true] at h; exact .inr h.2
    · cases h
  rcases key _ _ _ _ _ h with h | h
  · left; have := beq_iff_eq.1 h; omega
  · right; have := beq_iff_eq.1 h; omega

def rightV : Vt → Bool
  | .no => fieldsV .no
  | .mk op n len kid => allTo (fun i => rightV (kid i)) len && fieldsV (.mk op n len kid)
theorem rightV_eq (t : Vt) : rightV t = (allTo (fun i => rightV (t.kid i)) t.len && fieldsV t) := by
  cases t with
  | no => simp [rightV, Vt.len, allTo]
  | mk op n len kid => rfl
def Vt.deep : Vt → Nat
  | .no => 1
  | .mk _ _ len kid => maxTo (fun i => (kid i).deep) len + 1
theorem Vt.deep_eq (t : Vt) : t.deep = maxTo (fun i => (t.kid i).deep) t.len + 1 := by cases t <;> rfl
theorem Vt.deep_count (t : Vt) : t.deep ≤ t.count := by
  induction t with
  | no => simp [deep, count]
  | mk op n len kid ih =>
    unfold deep count
    have : maxTo (fun i => (kid i).deep) len ≤ sumTo (fun i => (kid i).count) len := by
      rw [maxTo_le]
      intro i hi
      have := sumTo_at (fun i => (kid i).count) i len hi
      have := ih i
      omega
    omega

/-- Right, and at most so many within each other. -/
def okV : Nat → Vt → Bool
  | 0, _ => false
  | d + 1, t => fieldsV t && allTo (fun i => okV d (t.kid i)) t.len
theorem okV_eq : ∀ (d : Nat) (t : Vt), okV d t = (decide (t.deep ≤ d) && rightV t)
  | 0, t => by
    have : ¬ t.deep ≤ 0 := by rw [Vt.deep_eq]; omega
    simp [okV, this]
  | d + 1, t => by
    have e : decide (t.deep ≤ d + 1) = allTo (fun i => decide ((t.kid i).deep ≤ d)) t.len := by
      rw [Bool.eq_iff_iff, decide_eq_true_iff, allTo_true, Vt.deep_eq]
      constructor
      · intro h i hi
        exact decide_eq_true ((maxTo_le (f := fun i => (t.kid i).deep)).1 (by omega) i hi)
      · intro h
        have := (maxTo_le (f := fun i => (t.kid i).deep) (k := t.len) (m := d)).2 (fun i hi => of_decide_eq_true (h i hi))
        omega
    rw [e, rightV_eq]
    unfold okV
    rw [Bool.eq_iff_iff]
    simp only [Bool.and_eq_true, allTo_true]
    constructor
    · rintro ⟨h1, h2⟩
      have h3 : ∀ i, i < t.len → (t.kid i).deep ≤ d ∧ rightV (t.kid i) = true := fun i hi => by
        have := h2 i hi
        rw [okV_eq d (t.kid i), Bool.and_eq_true, decide_eq_true_iff] at this
        exact this
      exact ⟨fun i hi => decide_eq_true (h3 i hi).1, fun i hi => (h3 i hi).2, h1⟩
    · rintro ⟨h1, h2, h3⟩
      refine ⟨h3, fun i hi => ?_⟩
      rw [okV_eq d (t.kid i), Bool.and_eq_true]
      exact ⟨h1 i hi, h2 i hi⟩
/-- The answer. -/
def valueB (t : Vt) : Bool := okV 200 t

/-- A list of values of a level: how many, which, and its slice. -/
structure Lst where
  len : Nat
  kid : Nat → Vt
  v : Value
def okLst (d : Nat) (e : Lst) : Bool := allTo (fun i => okV d (e.kid i)) e.len
def okL (d : Nat) (L : List Lst) : Bool := L.all (okLst d)
theorem okL_true {d : Nat} {L : List Lst} : okL d L = true ↔ ∀ e ∈ L, ∀ i, i < e.len → okV d (e.kid i) = true := by
  unfold okL
  rw [List.all_eq_true]
  exact ⟨fun h e he => allTo_true.1 (h e he), fun h e he => allTo_true.2 (h e he)⟩
theorem okL_zero {L : List Lst} (h : L ≠ []) (hp : ∀ e ∈ L, 0 < e.len) : okL 0 L = false := by
  cases hb : okL 0 L with
  | false => rfl
  | true =>
    rw [okL_true] at hb
    cases L with
    | nil => exact absurd rfl h
    | cons e r =>
      have := hb e (by simp) 0 (hp e (by simp))
      cases this
theorem okL_field {d : Nat} {L : List Lst} {e : Lst} (he : e ∈ L) {i : Nat} (hi : i < e.len) (hf : fieldsV (e.kid i) = false) : okL (d + 1) L = false := by
  cases hb : okL (d + 1) L with
  | false => rfl
  | true =>
    rw [okL_true] at hb
    have := hb e he i hi
    unfold okV at this
    rw [hf] at this
    cases this
/-- How many are in a level's lists. -/
def wL (L : List Lst) : Nat := (L.map fun e => sumTo (fun i => (e.kid i).count) e.len).sum
theorem wL_append (a b : List Lst) : wL (a ++ b) = wL a + wL b := by simp [wL]
theorem Vt.count_pos (t : Vt) : 1 ≤ t.count := by rw [Vt.count_eq]; omega
theorem sumTo_pos (f : Nat → Nat) (h : ∀ i, 1 ≤ f i) : ∀ k, k ≤ sumTo f k
  | 0 => Nat.zero_le _
  | k + 1 => by simp only [sumTo]; have := sumTo_pos f h k; have := h k; omega
theorem wL_len {L : List Lst} (hp : ∀ e ∈ L, 0 < e.len) : L.length ≤ wL L := by
  induction L with
  | nil => simp
  | cons e r ih =>
    have h1 := ih (fun x hx => hp x (List.mem_cons_of_mem _ hx))
    have h2 := sumTo_pos (fun i => (e.kid i).count) (fun i => (e.kid i).count_pos) e.len
    have h3 := hp e (by simp)
    simp only [wL, List.map_cons, List.sum_cons, List.length_cons] at h1 ⊢
    omega
end Go.Proofs.YtbofjjjjjcolgaaDoor
