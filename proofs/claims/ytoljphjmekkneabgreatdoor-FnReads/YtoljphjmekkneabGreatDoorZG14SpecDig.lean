/- Plain facts on a word's magnitude: what spec.l2Word asks of the text behind the minus. No conditions. -/
import Derived.Test.YtoljphjmekkneabGreatDoorZG3Tok
import Derived.Test.YtoljphjmekkneabGreatDoorRows
import Derived.WalkKit
import Derived.ProofKit
import Derived.Below
namespace Go.Proofs.YtoljphjmekkneabGreatDoor

/-- The magnitude with its sign. -/
def sg (m : Bool) (r : List UInt8) : Int := if m then -(val r : Int) else val r
theorem sg_true (r : List UInt8) : sg true r = -(val r : Int) := rfl
theorem sg_false (r : List UInt8) : sg false r = (val r : Int) := rfl

/-- The word whose magnitude is spelled by r, with a minus (m) or without. -/
def mg (m : Bool) (r : List UInt8) : Option Int :=
  if Lib.decDigits (val r) = r ∧ (m = true → val r ≠ 0) ∧ -1073741824 ≤ sg m r ∧ sg m r ≤ 1073741823 then some (sg m r) else none

theorem mg_yes {m : Bool} {r : List UInt8} {v : Int} (h1 : Lib.decDigits (val r) = r) (h2 : m = true → val r ≠ 0) (h3 : -1073741824 ≤ v) (h4 : v ≤ 1073741823) (h5 : v = sg m r) : mg m r = some v := by
  subst h5
  unfold mg
  rw [if_pos ⟨h1, h2, h3, h4⟩]

theorem mg_some {m : Bool} {r : List UInt8} {v : Int} (h : mg m r = some v) : Lib.decDigits (val r) = r ∧ (m = true → val r ≠ 0) ∧ -1073741824 ≤ v ∧ v ≤ 1073741823 ∧ v = sg m r := by
  unfold mg at h
  split at h
  · rename_i hc
    injection h with h
    obtain ⟨h1, h2, h3, h4⟩ := hc
    rw [h] at h3 h4
    exact ⟨h1, h2, h3, h4, h.symm⟩
  · cases h

theorem mg_small {m : Bool} {r : List UInt8} {v : Int} (h : mg m r = some v) : val r ≤ 1073741824 := by
  obtain ⟨_, _, h3, h4, h5⟩ := mg_some h
  cases m <;> simp only [sg_true, sg_false] at h5 <;> omega

theorem mg_len {m : Bool} {r : List UInt8} (h : r.length < 1 ∨ 10 < r.length) : mg m r = none := by
  cases e : mg m r with
  | none => rfl
  | some v =>
    have hv := mg_small e
    have hd := (mg_some e).1
    have h1 := len_pos_decDigits (val r)
    have h2 := len_decDigits 9 (val r) (by omega)
    rw [hd] at h1 h2
    omega

theorem mg_byte {m : Bool} {r : List UInt8} (c : UInt8) (hc : c ∈ r) (h : ¬ isDig c) : mg m r = none := by
  cases e : mg m r with
  | none => rfl
  | some v =>
    have hd := (mg_some e).1
    rw [← hd] at hc
    exact absurd (dig_decDigits _ c hc) h

theorem mg_other {m : Bool} {r : List UInt8} (h : ¬ Lib.decDigits (val r) = r) : mg m r = none := by
  cases e : mg m r with
  | none => rfl
  | some v => exact absurd (mg_some e).1 h

theorem mg_zero {r : List UInt8} (h : val r = 0) : mg true r = none := by
  cases e : mg true r with
  | none => rfl
  | some v => exact absurd h ((mg_some e).2.1 rfl)

theorem mg_range {m : Bool} {r : List UInt8} (h : ¬ (-1073741824 ≤ sg m r ∧ sg m r ≤ 1073741823)) : mg m r = none := by
  cases e : mg m r with
  | none => rfl
  | some v =>
    obtain ⟨_, _, h3, h4, h5⟩ := mg_some e
    subst h5
    exact absurd ⟨h3, h4⟩ h

theorem wordV_minus {l : List UInt8} (h : l.head? = some 45) : wordV l = mg true l.tail := by
  have hl : l = 45 :: l.tail := by
    cases l with
    | nil => simp at h
    | cons c r => simp at h; subst h; rfl
  cases e : mg true l.tail with
  | some v =>
    obtain ⟨h1, h2, h3, h4, h5⟩ := mg_some e
    have h2 := h2 rfl
    rw [sg_true] at h5
    refine wordV_of h3 h4 ?_
    rw [itoa_neg v (by omega)]
    have e3 : v.natAbs = val l.tail := by omega
    rw [e3, h1]
    exact hl.symm
  | none =>
    refine wordV_none fun v h0 h1 h2 => ?_
    by_cases hv : v < 0
    · rw [itoa_neg v hv] at h2
      have h3 : l.tail = Lib.decDigits v.natAbs := by rw [← h2]; rfl
      have h4 : val l.tail = v.natAbs := by rw [h3, val_decDigits]
      have := mg_yes (m := true) (r := l.tail) (v := v) (by rw [h4, h3]) (fun _ => by omega) h0 h1 (by rw [sg_true]; omega)
      rw [e] at this
      cases this
    · rw [itoa_val v (by omega)] at h2
      rw [← h2] at h
      exact head_decDigits _ h

theorem wordV_plus {l : List UInt8} (h : l.head? ≠ some 45) : wordV l = mg false l := by
  cases e : mg false l with
  | some v =>
    obtain ⟨h1, _, h3, h4, h5⟩ := mg_some e
    rw [sg_false] at h5
    refine wordV_of h3 h4 ?_
    rw [itoa_val v (by omega)]
    have e3 : v.toNat = val l := by omega
    rw [e3, h1]
  | none =>
    refine wordV_none fun v h0 h1 h2 => ?_
    by_cases hv : v < 0
    · rw [itoa_neg v hv] at h2
      rw [← h2] at h
      exact h rfl
    · rw [itoa_val v (by omega)] at h2
      have h4 : val l = v.toNat := by rw [← h2, val_decDigits]
      have := mg_yes (m := false) (r := l) (v := v) (by rw [h4]; exact h2) (by simp) h0 h1 (by rw [sg_false]; omega)
      rw [e] at this
      cases this
end Go.Proofs.YtoljphjmekkneabGreatDoor

/- spec.l2Digit, and small facts on the bytes of a text. No conditions. -/
namespace Go.Proofs.YtoljphjmekkneabGreatDoor
open Go.ChangeShapes Go.WideShapes Go.ChangeAt Go.RowKit

theorem take_snoc (s : ByteArray) (k : Nat) (h : k < s.size) : s.data.toList.take (k + 1) = s.data.toList.take k ++ [s[k]] := by
  rw [List.take_succ_eq_append_getElem (by simpa using h)]; rfl

theorem byte_mem (s : ByteArray) (k : Nat) (h : k < s.size) : s[k] ∈ s.data.toList := by
  have : s[k] = s.data.toList[k]'(by simpa using h) := rfl
  rw [this]; exact List.getElem_mem _

theorem spec_digit (c : UInt8) (w : World) : Calls Tryz.prog 60 #[.int .u8 c.toNat] w fun e w' => e = .returned (.bool (digB c)) ∧ w' = w := by
  have hc : c.toNat < 256 := c.toNat_lt
  by_cases h1 : (48 : Int) ≤ c.toNat
  · by_cases h2 : (c.toNat : Int) ≤ 57
    · have HN : Hid (digB c = true) := show digB c = true by unfold digB; simp only [Bool.and_eq_true, decide_eq_true_eq]; omega
      go_enter Tryz.func60, Tryz.ntmps60
      go_wp2
      go_ret
      exact ⟨by rw [HN.out]; rfl, rfl⟩
    · have HN : Hid (digB c = false) := show digB c = false by unfold digB; rw [Bool.and_eq_false_iff, decide_eq_false_iff_not, decide_eq_false_iff_not]; omega
      go_enter Tryz.func60, Tryz.ntmps60
      go_wp2
      go_ret
      exact ⟨by rw [HN.out]; rfl, rfl⟩
  · have HN : Hid (digB c = false) := show digB c = false by unfold digB; rw [Bool.and_eq_false_iff, decide_eq_false_iff_not, decide_eq_false_iff_not]; omega
    go_enter Tryz.func60, Tryz.ntmps60
    go_wp2
    go_ret
    exact ⟨by rw [HN.out]; rfl, rfl⟩

theorem digB_dig {c : UInt8} (h : digB c = true) : isDig c := by
  unfold digB at h; unfold isDig; simp only [Bool.and_eq_true, decide_eq_true_eq] at h; exact h
theorem digB_no {c : UInt8} (h : digB c = false) : ¬ isDig c := by
  intro hd; unfold isDig at hd; unfold digB at h; rw [Bool.and_eq_false_iff, decide_eq_false_iff_not, decide_eq_false_iff_not] at h; omega

end Go.Proofs.YtoljphjmekkneabGreatDoor
