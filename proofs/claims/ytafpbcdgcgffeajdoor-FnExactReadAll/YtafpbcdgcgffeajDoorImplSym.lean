/- impl.SymOk at every text: whether it is a name. Condition: the text has at most 2^20 bytes. -/
import Derived.Test.YtafpbcdgcgffeajDoorRuneHigh
import Derived.Test.YtafpbcdgcgffeajDoorSpecSym
namespace Go.Proofs.YtafpbcdgcgffeajDoor
open Go.ChangeShapes Go.WideShapes Go.ChangeAt Go.RowKit

theorem impl_digit (c : Nat) (h : c < 256) (w : World) : Calls Tryd.prog 81 #[.int .i32 c] w fun e w' => e = .returned (.bool (digB (UInt8.ofNat c))) ∧ w' = w := by
  have hc : (UInt8.ofNat c).toNat = c := by rw [UInt8.toNat_ofNat']; omega
  by_cases h1 : (48 : Int) ≤ c
  · by_cases h2 : (c : Int) ≤ 57
    · have HN : Hid (digB (UInt8.ofNat c) = true) := show digB _ = true by unfold digB; rw [hc]; simp only [Bool.and_eq_true, decide_eq_true_eq]; omega
      clear hc
      go_enter Tryd.func81, Tryd.ntmps81
      go_wp2
      go_ret
      exact ⟨by rw [HN.out]; rfl, rfl⟩
    · have HN : Hid (digB (UInt8.ofNat c) = false) := show digB _ = false by unfold digB; rw [hc, Bool.and_eq_false_iff, decide_eq_false_iff_not, decide_eq_false_iff_not]; omega
      clear hc
      go_enter Tryd.func81, Tryd.ntmps81
      go_wp2
      go_ret
      exact ⟨by rw [HN.out]; rfl, rfl⟩
  · have HN : Hid (digB (UInt8.ofNat c) = false) := show digB _ = false by unfold digB; rw [hc, Bool.and_eq_false_iff, decide_eq_false_iff_not, decide_eq_false_iff_not]; omega
    clear hc
    go_enter Tryd.func81, Tryd.ntmps81
    go_wp2
    go_ret
    exact ⟨by rw [HN.out]; rfl, rfl⟩

theorem digit_high (r : Nat) (h : 128 ≤ r) (hr : r ≤ 1114111) (w : World) : Calls Tryd.prog 81 #[.int .i32 r] w fun e w' => e = .returned (.bool false) ∧ w' = w := by
  have h1 : (48 : Int) ≤ r := by omega
  have h2 : ¬ (r : Int) ≤ 57 := by omega
  go_enter Tryd.func81, Tryd.ntmps81
  go_wp2
  go_ret
  exact ⟨rfl, rfl⟩

theorem signs_ascii : ∀ b ∈ (⟨#[43, 45, 42, 60, 61, 63, 46, 95]⟩ : ByteArray).data.toList, b.toNat < 128 := by decide
theorem blanks_ascii : ∀ b ∈ (⟨#[32, 10]⟩ : ByteArray).data.toList, b.toNat < 128 := by decide

set_option maxHeartbeats 1000000 in
theorem name_low (c : Nat) (h : c < 128) (w : World) : Calls Tryd.prog 72 #[.int .i32 c] w fun e w' => e = .returned (.bool (nameB (UInt8.ofNat c))) ∧ w' = w := by
  have hc : (UInt8.ofNat c).toNat = c := by rw [UInt8.toNat_ofNat']; omega
  have hN : nameB (UInt8.ofNat c) = ((decide (97 ≤ c) && decide (c ≤ 122)) || digB (UInt8.ofNat c) || (⟨#[43, 45, 42, 60, 61, 63, 46, 95]⟩ : ByteArray).data.toList.contains (UInt8.ofNat c)) := by
    unfold nameB digB
    rw [hc]
  by_cases h1 : (97 : Int) ≤ c ∧ (c : Int) ≤ 122
  · have HN : Hid (nameB (UInt8.ofNat c) = true) := show nameB _ = true by
      rw [hN, decide_eq_true (by omega : 97 ≤ c), decide_eq_true (by omega : c ≤ 122)]; rfl
    clear hc hN
    obtain ⟨h1, h2⟩ := h1
    go_enter Tryd.func72, Tryd.ntmps72
    go_wp2
    go_ret
    exact ⟨by rw [HN.out]; rfl, rfl⟩
  have hf : (decide (97 ≤ c) && decide (c ≤ 122)) = false := by rw [Bool.and_eq_false_iff, decide_eq_false_iff_not, decide_eq_false_iff_not]; omega
  rw [hf] at hN
  have h2 : (c : Int) < 97 ∨ ((97 : Int) ≤ c ∧ ¬ (c : Int) ≤ 122) := by omega
  cases hd : digB (UInt8.ofNat c) with
  | true =>
    have HN : Hid (nameB (UInt8.ofNat c) = true) := show nameB _ = true by rw [hN, hd]; rfl
    clear hc hN hf h1
    rcases h2 with h2 | ⟨h2, h3⟩
    all_goals
      go_enter Tryd.func72, Tryd.ntmps72
      go_wp2_with (go_at_call 81; refine (impl_digit c (by omega) _).mono ?_; rintro e w1 ⟨rfl, rfl⟩)
      go_ret
      exact ⟨by rw [HN.out]; rfl, rfl⟩
  | false =>
    have HN : Hid (nameB (UInt8.ofNat c) = (⟨#[43, 45, 42, 60, 61, 63, 46, 95]⟩ : ByteArray).data.toList.contains (UInt8.ofNat c)) := show nameB _ = _ by rw [hN, hd]; rfl
    clear hc hN hf h1
    have HC : Hid (∀ w : World, Calls Tryd.prog 43 #[.string ⟨#[43, 45, 42, 60, 61, 63, 46, 95]⟩, .int .i32 c] w fun e w' => e = .returned (.bool ((⟨#[43, 45, 42, 60, 61, 63, 46, 95]⟩ : ByteArray).data.toList.contains (UInt8.ofNat c))) ∧ w' = w) := fun w => contains_low _ c h w
    generalize (⟨#[43, 45, 42, 60, 61, 63, 46, 95]⟩ : ByteArray).data.toList.contains (UInt8.ofNat c) = b at HN HC
    rcases h2 with h2 | ⟨h2, h3⟩
    all_goals
      go_enter Tryd.func72, Tryd.ntmps72
      go_wp2_with (first | (go_at_call 81; refine (impl_digit c (by omega) _).mono ?_; rintro e w1 ⟨rfl, rfl⟩) | (go_at_call 43; refine (HC.out _).mono ?_; rintro e w1 ⟨rfl, rfl⟩))
      go_ret
      exact ⟨by rw [HN.out]; rfl, rfl⟩

set_option maxHeartbeats 1000000 in
theorem name_high_call (r : Nat) (h1 : 128 ≤ r) (h2 : r ≤ 1114111) (hv : Utf8.valid (r : Int) = true) (w : World) : Calls Tryd.prog 72 #[.int .i32 r] w fun e w' => e = .returned (.bool false) ∧ Below w.heap.size w w' := by
  have HV : Hid (Utf8.valid (r : Int) = true) := hv
  clear hv
  have h3 : (97 : Int) ≤ r := by omega
  have h4 : ¬ (r : Int) ≤ 122 := by omega
  go_enter Tryd.func72, Tryd.ntmps72
  go_wp2_with (first | (go_at_call 81; refine (digit_high r h1 h2 _).mono ?_; rintro e w1 ⟨rfl, rfl⟩) | (go_at_call 43; refine (contains_high _ signs_ascii r h1 h2 HV.out _).mono ?_; rintro e w1 ⟨rfl, hb1⟩))
  go_ret
  exact ⟨rfl, hb1⟩

theorem trim_minus (s : ByteArray) (h0 : 0 < s.size) (hm : s[0]'h0 = 45) : Lib.trimPrefix s.data.toList [45] = s.data.toList.tail := by
  have h := get_list s 0 h0
  cases e : s.data.toList with
  | nil => rw [e] at h; simp at h
  | cons c r =>
    rw [e] at h
    simp at h
    subst h
    rw [hm]
    simp [Lib.trimPrefix, Lib.hasPrefix]

theorem trim_other (s : ByteArray) (h : ∀ h0 : 0 < s.size, s[0]'h0 ≠ 45) : Lib.trimPrefix s.data.toList [45] = s.data.toList := by
  cases e : s.data.toList with
  | nil => rfl
  | cons c r =>
    have hl : s.data.toList.length = s.size := by simp
    have h0 : 0 < s.size := by rw [← hl, e]; simp
    have hg := get_list s 0 h0
    rw [e] at hg
    simp at hg
    have := h h0
    rw [← hg] at this
    simp [Lib.trimPrefix, Lib.hasPrefix]
    exact fun e => this e.symm

/-- What begNum asks of what stands behind a minus. -/
theorem begNum_rest (s : ByteArray) : begNum s.data.toList = match Lib.trimPrefix s.data.toList [45] with | [] => false | c :: _ => digB c := by
  by_cases hm : ∃ h0 : 0 < s.size, s[0]'h0 = 45
  · obtain ⟨h0, hm⟩ := hm
    rw [trim_minus s h0 hm]
    have h := get_list s 0 h0
    cases e : s.data.toList with
    | nil => rw [e] at h; simp at h
    | cons c r =>
      rw [e] at h
      simp at h
      subst h
      rw [hm]
      cases r <;> simp [begNum, show digB 45 = false from by decide]
  · rw [trim_other s (fun h0 hx => hm ⟨h0, hx⟩)]
    cases e : s.data.toList with
    | nil => rfl
    | cons c r =>
      have hl : s.data.toList.length = s.size := by simp
      have h0 : 0 < s.size := by rw [← hl, e]; simp
      have hg := get_list s 0 h0
      rw [e] at hg
      simp at hg
      have : c ≠ 45 := by intro hx; exact hm ⟨h0, by rw [← hg]; exact hx⟩
      simp [begNum, this]

end Go.Proofs.YtafpbcdgcgffeajDoor
