/- spec.l2Digit, and small facts on the bytes of a text. No conditions. -/
import Derived.Test.YtafpbcdgcgffeabGreatDoorRows
import Derived.Test.YtafpbcdgcgffeabGreatDoorZBase
import Derived.WalkKit
import Derived.ProofKit
import Derived.Below
namespace Go.Proofs.YtafpbcdgcgffeabGreatDoor
open Go.ChangeShapes Go.WideShapes Go.ChangeAt Go.RowKit

theorem take_snoc (s : ByteArray) (k : Nat) (h : k < s.size) : s.data.toList.take (k + 1) = s.data.toList.take k ++ [s[k]] := by
  rw [List.take_succ_eq_append_getElem (by simpa using h)]; rfl

theorem byte_mem (s : ByteArray) (k : Nat) (h : k < s.size) : s[k] ∈ s.data.toList := by
  have : s[k] = s.data.toList[k]'(by simpa using h) := rfl
  rw [this]; exact List.getElem_mem _

theorem spec_digit (c : UInt8) (w : World) : Calls Tryz.prog 59 #[.int .u8 c.toNat] w fun e w' => e = .returned (.bool (digB c)) ∧ w' = w := by
  have hc : c.toNat < 256 := c.toNat_lt
  by_cases h1 : (48 : Int) ≤ c.toNat
  · by_cases h2 : (c.toNat : Int) ≤ 57
    · have HN : Hid (digB c = true) := show digB c = true by unfold digB; simp only [Bool.and_eq_true, decide_eq_true_eq]; omega
      go_enter Tryz.func59, Tryz.ntmps59
      go_wp2
      go_ret
      exact ⟨by rw [HN.out]; rfl, rfl⟩
    · have HN : Hid (digB c = false) := show digB c = false by unfold digB; rw [Bool.and_eq_false_iff, decide_eq_false_iff_not, decide_eq_false_iff_not]; omega
      go_enter Tryz.func59, Tryz.ntmps59
      go_wp2
      go_ret
      exact ⟨by rw [HN.out]; rfl, rfl⟩
  · have HN : Hid (digB c = false) := show digB c = false by unfold digB; rw [Bool.and_eq_false_iff, decide_eq_false_iff_not, decide_eq_false_iff_not]; omega
    go_enter Tryz.func59, Tryz.ntmps59
    go_wp2
    go_ret
    exact ⟨by rw [HN.out]; rfl, rfl⟩

theorem digB_dig {c : UInt8} (h : digB c = true) : isDig c := by
  unfold digB at h; unfold isDig; simp only [Bool.and_eq_true, decide_eq_true_eq] at h; exact h
theorem digB_no {c : UInt8} (h : digB c = false) : ¬ isDig c := by
  intro hd; unfold isDig at hd; unfold digB at h; rw [Bool.and_eq_false_iff, decide_eq_false_iff_not, decide_eq_false_iff_not] at h; omega

end Go.Proofs.YtafpbcdgcgffeabGreatDoor
