/- Plain facts on numerals: the digits of v, read as a number, are v; a text is the digits of at most one number. No conditions. -/
import Derived.Test.YtbofjjjjjcolgaaDoorPlain
import Derived.Lib.AtoiAll
namespace Go.Proofs.YtbofjjjjjcolgaaDoor

/-- The number that digits spell. -/
def valFrom (a : Nat) : List UInt8 → Nat
  | [] => a
  | c :: r => valFrom (a * 10 + (c.toNat - 48)) r
def val (l : List UInt8) : Nat := valFrom 0 l

def isDig (c : UInt8) : Prop := 48 ≤ c.toNat ∧ c.toNat ≤ 57

theorem valFrom_append (l : List UInt8) (c : UInt8) : ∀ a, valFrom a (l ++ [c]) = valFrom a l * 10 + (c.toNat - 48) := by
  induction l with
  | nil => intro a; rfl
  | cons d r ih => intro a; exact ih _

theorem val_append (l : List UInt8) (c : UInt8) : val (l ++ [c]) = val l * 10 + (c.toNat - 48) := valFrom_append l c 0

theorem dig_nat (u : Nat) (h : u < 10) : (UInt8.ofNat (48 + u)).toNat = 48 + u := by
  rw [UInt8.toNat_ofNat']; omega

theorem val_decDigits (v : Nat) : val (Lib.decDigits v) = v := by
  induction v using Nat.strongRecOn with
  | _ v ih =>
    by_cases h : v < 10
    · rw [Lib.decDigits_one h]
      show 0 * 10 + ((UInt8.ofNat (48 + v)).toNat - 48) = v
      rw [dig_nat v h]; omega
    · rw [Lib.decDigits, dif_neg h, val_append, ih (v / 10) (by omega), dig_nat _ (by omega)]
      omega

theorem dig_decDigits (v : Nat) : ∀ c ∈ Lib.decDigits v, isDig c := by
  induction v using Nat.strongRecOn with
  | _ v ih =>
    intro c hc
    by_cases h : v < 10
    · rw [Lib.decDigits_one h] at hc
      simp only [List.mem_singleton] at hc
      subst hc
      unfold isDig
      rw [dig_nat v h]; omega
    · rw [Lib.decDigits, dif_neg h] at hc
      rcases List.mem_append.1 hc with hc | hc
      · exact ih (v / 10) (by omega) c hc
      · simp only [List.mem_singleton] at hc
        subst hc
        unfold isDig
        rw [dig_nat _ (by omega)]; omega

theorem len_decDigits (k : Nat) : ∀ v, v < 10 ^ (k + 1) → (Lib.decDigits v).length ≤ k + 1 := by
  induction k with
  | zero =>
    intro v hv
    rw [Lib.decDigits_one (by omega)]; simp
  | succ k ih =>
    intro v hv
    by_cases h : v < 10
    · rw [Lib.decDigits_one h]; simp
    · rw [Lib.decDigits, dif_neg h, List.length_append]
      have := ih (v / 10) (by rw [Nat.pow_succ] at hv; omega)
      simp; omega

theorem len_pos_decDigits (v : Nat) : 1 ≤ (Lib.decDigits v).length := by
  by_cases h : v < 10
  · rw [Lib.decDigits_one h]; simp
  · rw [Lib.decDigits, dif_neg h, List.length_append]; simp

/-- The text is the digits of a word that is not below 0. -/
def numB (l : List UInt8) : Bool := decide (val l ≤ 1073741823 ∧ Lib.decDigits (val l) = l)

theorem numB_mk (v : Nat) (h : v ≤ 1073741823) : numB (Lib.decDigits v) = true := by
  unfold numB
  rw [val_decDigits]
  simp [h]

theorem numB_iff {l : List UInt8} : numB l = true ↔ val l ≤ 1073741823 ∧ Lib.decDigits (val l) = l := by
  unfold numB; exact decide_eq_true_iff

theorem numB_len {l : List UInt8} (h : numB l = true) : 1 ≤ l.length ∧ l.length ≤ 10 := by
  obtain ⟨h1, h2⟩ := numB_iff.1 h
  rw [← h2]
  exact ⟨len_pos_decDigits _, len_decDigits 9 _ (by omega)⟩

theorem numB_dig {l : List UInt8} (h : numB l = true) : ∀ c ∈ l, isDig c := by
  obtain ⟨_, h2⟩ := numB_iff.1 h
  rw [← h2]
  exact dig_decDigits _

theorem no_of_len {l : List UInt8} (h : l.length < 1 ∨ 10 < l.length) : numB l = false := by
  cases e : numB l with
  | false => rfl
  | true => have := numB_len e; omega

theorem no_of_byte {l : List UInt8} (c : UInt8) (hc : c ∈ l) (h : ¬ isDig c) : numB l = false := by
  cases e : numB l with
  | false => rfl
  | true => exact absurd (numB_dig e c hc) h

theorem no_of_big {l : List UInt8} (h : ¬ val l ≤ 1073741823) : numB l = false := by
  cases e : numB l with
  | false => rfl
  | true => exact absurd (numB_iff.1 e).1 h

theorem no_of_other {l : List UInt8} (h : ¬ Lib.decDigits (val l) = l) : numB l = false := by
  cases e : numB l with
  | false => rfl
  | true => exact absurd (numB_iff.1 e).2 h

theorem parse_digits (l : List UInt8) : ∀ a k, a < 10 ^ k → k + l.length ≤ 18 → (∀ c ∈ l, isDig c) → Lib.parseUint10 a l = .ok (valFrom a l) := by
  induction l with
  | nil => intro a k _ _ _; rfl
  | cons c r ih =>
    intro a k ha hk hd
    have hc := hd c List.mem_cons_self
    unfold isDig at hc
    simp only [List.length_cons] at hk
    have hp : 10 ^ k ≤ 10 ^ 17 := Nat.pow_le_pow_right (by omega) (by omega)
    simp only [Lib.parseUint10]
    rw [if_pos hc, if_neg (by omega), if_neg (by omega)]
    exact ih _ (k + 1) (by rw [Nat.pow_succ]; omega) (by omega) (fun d h => hd d (List.mem_cons_of_mem _ h))

theorem atoi_num {l : List UInt8} (h : numB l = true) : Lib.atoiAll l = .ok (val l : Int) := by
  have hl := numB_len h
  have hd := numB_dig h
  have hv := (numB_iff.1 h).1
  clear h
  cases l with
  | nil => simp at hl
  | cons c r =>
    have hc := hd c List.mem_cons_self
    unfold isDig at hc
    have hp := parse_digits (c :: r) 0 0 (by omega) (by omega) hd
    have hm : Lib.parseMag (c :: r) = .ok (val (c :: r)) := by
      unfold Lib.parseMag
      rw [if_neg (by simp)]
      exact hp
    unfold Lib.atoiAll
    simp only
    rw [if_neg (by omega), hm]
    simp only
    rw [if_neg (by omega), if_neg (by omega)]
    rw [if_neg (by omega)]

theorem itoa_val (n : Int) (h0 : 0 ≤ n) : Lib.itoa n = Lib.decDigits n.toNat := by
  unfold Lib.itoa
  rw [if_neg (by omega)]
end Go.Proofs.YtbofjjjjjcolgaaDoor
