/- Plain facts on sets of numbers as ascending lists: with a number, without it, flipped. No conditions. -/
import Derived.WalkKit
namespace Go.Proofs.Ytgcegjgjegkahab

/-- The number is in the list. -/
def hasB (xs : List Int) (n : Int) : Bool := xs.any fun x => x == n
/-- Of the first k none is it. -/
theorem has_no {xs : List Int} {n : Int} (h : ∀ i, i < xs.length → (xs.getD i 0 == n) = false) : hasB xs n = false := by
  unfold hasB
  rw [List.any_eq_false]
  intro x hx
  obtain ⟨i, hi, rfl⟩ := List.mem_iff_getElem.1 hx
  have := h i hi
  rw [List.getD_eq_getElem?_getD, List.getElem?_eq_getElem hi, Option.getD_some] at this
  simp [this]
theorem has_yes {xs : List Int} {n : Int} (i : Nat) (hi : i < xs.length) (h : (xs.getD i 0 == n) = true) : hasB xs n = true := by
  unfold hasB
  rw [List.any_eq_true]
  rw [List.getD_eq_getElem?_getD, List.getElem?_eq_getElem hi, Option.getD_some] at h
  exact ⟨_, List.getElem_mem hi, h⟩
theorem has_iff (xs : List Int) (n : Int) : hasB xs n = true ↔ n ∈ xs := by
  unfold hasB
  rw [List.any_eq_true]
  constructor
  · rintro ⟨x, hx, h⟩
    have := eq_of_beq h
    subst this; exact hx
  · intro h; exact ⟨n, h, by simp⟩

/-- The i-th stands right: from 0 on, and behind the one ahead of it. -/
def standsB (xs : List Int) (i : Nat) : Bool := decide (0 ≤ xs.getD i 0) && (decide (i = 0) || decide (xs.getD (i - 1) 0 < xs.getD i 0))
/-- Ascending, each once, from 0 on. -/
def setB (xs : List Int) : Bool := (List.range xs.length).all fun i => standsB xs i
theorem set_yes {xs : List Int} (h : ∀ i, i < xs.length → standsB xs i = true) : setB xs = true := by
  unfold setB
  rw [List.all_eq_true]
  intro i hi
  exact h i (by simpa using hi)
theorem set_no {xs : List Int} (i : Nat) (hi : i < xs.length) (h : standsB xs i = false) : setB xs = false := by
  unfold setB
  rw [List.all_eq_false]
  exact ⟨i, by simpa using hi, by simp [h]⟩
theorem set_at {xs : List Int} (h : setB xs = true) (i : Nat) (hi : i < xs.length) : standsB xs i = true := by
  unfold setB at h
  rw [List.all_eq_true] at h
  exact h i (by simpa using hi)

/-- Where n is put in. -/
def placeL : List Int → Int → Nat
  | [], _ => 0
  | x :: r, n => if x < n then placeL r n + 1 else 0
theorem place_le (xs : List Int) (n : Int) : placeL xs n ≤ xs.length := by
  induction xs with
  | nil => simp [placeL]
  | cons x r ih => unfold placeL; split <;> simp; omega
theorem place_before (xs : List Int) (n : Int) : ∀ i, i < placeL xs n → xs.getD i 0 < n := by
  induction xs with
  | nil => intro i hi; simp [placeL] at hi
  | cons x r ih =>
    intro i hi
    unfold placeL at hi
    split at hi
    · rename_i hx
      match i with
      | 0 => simpa using hx
      | i + 1 => simpa using ih i (by omega)
    · omega
theorem place_is (xs : List Int) (n : Int) (k : Nat) (hk : k ≤ xs.length) (hb : ∀ i, i < k → xs.getD i 0 < n) (ha : k < xs.length → ¬ xs.getD k 0 < n) : placeL xs n = k := by
  induction xs generalizing k with
  | nil => simp at hk; simp [placeL, hk]
  | cons x r ih =>
    unfold placeL
    match k with
    | 0 =>
      have h0 : ¬ x < n := by simpa using ha (by simp)
      rw [if_neg h0]
    | k + 1 =>
      have h0 : x < n := by simpa using hb 0 (by omega)
      rw [if_pos h0, ih k (by simpa using hk) (fun i hi => by simpa using hb (i + 1) (by omega)) (fun h => by simpa using ha (by simpa using h))]

def withL (xs : List Int) (n : Int) : List Int := if hasB xs n = true then xs else xs.take (placeL xs n) ++ n :: xs.drop (placeL xs n)
def withoutL (xs : List Int) (n : Int) : List Int := xs.filter fun x => x != n
def flipL (xs : List Int) (n : Int) : List Int := if hasB xs n = true then withoutL xs n else withL xs n
def withinB (a b : List Int) : Bool := a.all fun x => hasB b x

theorem with_yes {xs : List Int} {n : Int} (h : hasB xs n = true) : withL xs n = xs := by unfold withL; rw [if_pos h]
theorem with_no {xs : List Int} {n : Int} (h : hasB xs n = false) : withL xs n = xs.take (placeL xs n) ++ n :: xs.drop (placeL xs n) := by unfold withL; rw [if_neg (by simp [h])]
theorem flip_yes {xs : List Int} {n : Int} (h : hasB xs n = true) : flipL xs n = withoutL xs n := by unfold flipL; rw [if_pos h]
theorem flip_no {xs : List Int} {n : Int} (h : hasB xs n = false) : flipL xs n = withL xs n := by unfold flipL; rw [if_neg (by simp [h])]
theorem with_len (xs : List Int) (n : Int) : (withL xs n).length ≤ xs.length + 1 := by
  unfold withL
  have := place_le xs n
  split
  · omega
  · simp; omega
theorem without_len (xs : List Int) (n : Int) : (withoutL xs n).length ≤ xs.length := List.length_filter_le _ _
theorem flip_len (xs : List Int) (n : Int) : (flipL xs n).length ≤ xs.length + 1 := by
  unfold flipL
  split
  · have := without_len xs n; omega
  · exact with_len xs n

theorem without_succ (xs : List Int) (n : Int) (k : Nat) (hk : k < xs.length) : withoutL (xs.take (k + 1)) n = withoutL (xs.take k) n ++ (if (xs.getD k 0 != n) = true then [xs.getD k 0] else []) := by
  unfold withoutL
  rw [List.take_add_one, List.getElem?_eq_getElem hk]
  have : xs.getD k 0 = xs[k] := by rw [List.getD_eq_getElem?_getD, List.getElem?_eq_getElem hk, Option.getD_some]
  rw [this, List.filter_append]
  congr 1
  simp only [Option.toList_some, List.filter_cons, List.filter_nil]

theorem within_yes {a b : List Int} (h : ∀ i, i < a.length → hasB b (a.getD i 0) = true) : withinB a b = true := by
  unfold withinB
  rw [List.all_eq_true]
  intro x hx
  obtain ⟨i, hi, rfl⟩ := List.mem_iff_getElem.1 hx
  have := h i hi
  rwa [List.getD_eq_getElem?_getD, List.getElem?_eq_getElem hi, Option.getD_some] at this
theorem within_no {a b : List Int} (i : Nat) (hi : i < a.length) (h : hasB b (a.getD i 0) = false) : withinB a b = false := by
  unfold withinB
  rw [List.all_eq_false]
  rw [List.getD_eq_getElem?_getD, List.getElem?_eq_getElem hi, Option.getD_some] at h
  exact ⟨_, List.getElem_mem hi, by simp [h]⟩

/-- The same, one by one. -/
def sameB (a b : List Int) : Bool := decide (a = b)
theorem same_len {a b : List Int} (h : a.length ≠ b.length) : sameB a b = false := by
  unfold sameB
  rw [decide_eq_false_iff_not]
  intro e; exact h (by rw [e])
theorem same_no {a b : List Int} (i : Nat) (h : a.getD i 0 ≠ b.getD i 0) : sameB a b = false := by
  unfold sameB
  rw [decide_eq_false_iff_not]
  intro e; exact h (by rw [e])
theorem same_yes {a b : List Int} (hl : a.length = b.length) (h : ∀ i, i < a.length → a.getD i 0 = b.getD i 0) : sameB a b = true := by
  unfold sameB
  rw [decide_eq_true_iff]
  apply List.ext_getElem hl
  intro i h1 h2
  have := h i h1
  rwa [List.getD_eq_getElem?_getD, List.getD_eq_getElem?_getD, List.getElem?_eq_getElem h1, List.getElem?_eq_getElem h2] at this
theorem same_self (a : List Int) : sameB a a = true := by simp [sameB]
end Go.Proofs.Ytgcegjgjegkahab
