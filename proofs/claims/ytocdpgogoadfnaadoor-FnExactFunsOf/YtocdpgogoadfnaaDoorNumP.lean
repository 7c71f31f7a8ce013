/- The bytes of a number, and the number that begins at a place: plainly. No conditions. -/
import Derived.Test.YtocdpgogoadfnaaDoorRows
namespace Go.Proofs.YtocdpgogoadfnaaDoor

/-- The bytes of n: seven bits a byte, the low ones first. -/
def putN (n : Nat) : List Nat := if n < 128 then [n] else (n % 128 + 128) :: putN (n / 128)
termination_by n
decreasing_by omega

theorem putN_small {n : Nat} (h : n < 128) : putN n = [n] := by rw [putN, if_pos h]
theorem putN_big {n : Nat} (h : 128 ≤ n) : putN n = (n % 128 + 128) :: putN (n / 128) := by rw [putN, if_neg (by omega)]
theorem putN_len : ∀ (f n : Nat), n < 128 ^ (f + 1) → (putN n).length ≤ f + 1
  | 0, n, h => by rw [putN_small (by simpa using h)]; simp
  | f + 1, n, h => by
    by_cases h1 : n < 128
    · rw [putN_small h1]; simp
    · rw [putN_big (by omega), List.length_cons]
      have := putN_len f (n / 128) (by rw [Nat.pow_succ] at h; exact Nat.div_lt_of_lt_mul (by rw [Nat.mul_comm]; exact h))
      omega
theorem putN_len5 {n : Nat} (h : n ≤ 2147483647) : (putN n).length ≤ 5 := putN_len 4 n (by omega)
theorem putN_pos (n : Nat) : 0 < (putN n).length := by
  by_cases h : n < 128
  · rw [putN_small h]; simp
  · rw [putN_big (by omega)]; simp
theorem putN_lt : ∀ (f n : Nat), n ≤ f → ∀ x ∈ putN n, x < 256
  | 0, n, h, x, hx => by rw [putN_small (by omega)] at hx; simp at hx; omega
  | f + 1, n, h, x, hx => by
    by_cases h1 : n < 128
    · rw [putN_small h1] at hx; simp at hx; omega
    · rw [putN_big (by omega)] at hx
      rcases List.mem_cons.1 hx with rfl | hx
      · omega
      · exact putN_lt f (n / 128) (by omega) x hx

/-- What PutNum answers. -/
def putI (n : Int) : List Nat := if 0 ≤ n ∧ n ≤ 2147483647 then putN n.toNat else []

/-- The number that begins a row of bytes, of which k are read and give n: the number, and how many bytes it has; none where there is none. -/
def numB : Nat → Nat → Nat → List Nat → Option (Nat × Nat)
  | 0, _, _, _ => none
  | _ + 1, _, _, [] => none
  | f + 1, k, n, d :: r =>
    if d < 128 then (if (0 < k ∧ d = 0) ∨ 2147483647 < n + d % 128 * 128 ^ k then none else some (n + d % 128 * 128 ^ k, k + 1))
    else numB f (k + 1) (n + d % 128 * 128 ^ k) r

theorem numB_nil (f k n : Nat) : numB f k n [] = none := by cases f <;> rfl
theorem numB_more {f k n d : Nat} {r : List Nat} (h : 128 ≤ d) : numB (f + 1) k n (d :: r) = numB f (k + 1) (n + d % 128 * 128 ^ k) r := by rw [numB, if_neg (by omega)]
theorem numB_bad {f k n d : Nat} {r : List Nat} (h : d < 128) (hb : (0 < k ∧ d = 0) ∨ 2147483647 < n + d % 128 * 128 ^ k) : numB (f + 1) k n (d :: r) = none := by rw [numB, if_pos h, if_pos hb]
theorem numB_yes {f k n d : Nat} {r : List Nat} (h : d < 128) (hb : ¬ ((0 < k ∧ d = 0) ∨ 2147483647 < n + d % 128 * 128 ^ k)) : numB (f + 1) k n (d :: r) = some (n + d % 128 * 128 ^ k, k + 1) := by rw [numB, if_pos h, if_neg hb]

/-- The number that begins at a place. -/
def numAt (b : List Nat) (at_ : Int) : Option (Nat × Nat) := if 0 ≤ at_ ∧ at_ < b.length then numB 5 0 0 (b.drop at_.toNat) else none

theorem drop_cons {b : List Nat} {p : Nat} (h : p < b.length) : b.drop p = b.getD p 0 :: b.drop (p + 1) := by
  rw [List.drop_eq_getElem_cons h, List.getD_eq_getElem?_getD, List.getElem?_eq_getElem h, Option.getD_some]
theorem getD_byte {b : List Nat} (hb : ∀ x ∈ b, x < 256) (p : Nat) : b.getD p 0 < 256 := by
  rw [List.getD_eq_getElem?_getD]
  by_cases h : p < b.length
  · rw [List.getElem?_eq_getElem h]; exact hb _ (List.getElem_mem h)
  · rw [List.getElem?_eq_none (by omega)]; simp
end Go.Proofs.YtocdpgogoadfnaaDoor
