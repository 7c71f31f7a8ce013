/- Plain facts on a word's magnitude: what spec.l2Word asks of the text behind the minus. No conditions. -/
import Derived.Test.YtgbfflpdpfgnbaaGreatZG12TokGood
import Derived.Test.YtgbfflpdpfgnbaaGreatRows
import Derived.Test.YtgbfflpdpfgnbaaGreatZG17SpecDigits
import Derived.WalkKit
import Derived.ProofKit
import Derived.Below
namespace Go.Proofs.YtgbfflpdpfgnbaaGreat

/-- The magnitude with its sign. -/
def sg (m : Bool) (r : List UInt8) : Int := if m then -(val r : Int) else val r
theorem sg_true (r : List UInt8) : sg true r = -(val r : Int) := rfl
theorem sg_false (r : List UInt8) : sg false r = (val r : Int) := rfl

/-- The word whose magnitude is spelled by r, with a minus (m) or without. -/
def mg (m : Bool) (r : List UInt8) : Option Int :=
  if Lib.decDigits (val r) = r ∧ (m = true → val r ≠ 0) ∧ -1073741824 ≤ sg m r ∧ sg m r ≤ 1073741823 then some (sg m r) else none

theorem mg_yes {m : Bool} {r : List UInt8} {v : Int} (h1 : Lib.decDigits (val r) = r) (h2 : m = true → val r ≠ 0) (h3 : -1073741824 ≤ v) (h4 : v ≤ 1073741823) (h5 : v = sg m r) : mg m r = some v := by
  subst h5
  unfold mg
  rw [if_pos ⟨h1, h2, h3, h4⟩]

theorem mg_some {m : Bool} {r : List UInt8} {v : Int} (h : mg m r = some v) : Lib.decDigits (val r) = r ∧ (m = true → val r ≠ 0) ∧ -1073741824 ≤ v ∧ v ≤ 1073741823 ∧ v = sg m r := by
  unfold mg at h
  split at h
  · rename_i hc
    injection h with h
    obtain ⟨h1, h2, h3, h4⟩ := hc
    rw [h] at h3 h4
    exact ⟨h1, h2, h3, h4, h.symm⟩
  · cases h

theorem mg_small {m : Bool} {r : List UInt8} {v : Int} (h : mg m r = some v) : val r ≤ 1073741824 := by
  obtain ⟨_, _, h3, h4, h5⟩ := mg_some h
  cases m <;> simp only [sg_true, sg_false] at h5 <;> omega

theorem mg_len {m : Bool} {r : List UInt8} (h : r.length < 1 ∨ 10 < r.length) : mg m r = none := by
  cases e : mg m r with
  | none => rfl
  | some v =>
    have hv := mg_small e
    have hd := (mg_some e).1
    have h1 := len_pos_decDigits (val r)
    have h2 := len_decDigits 9 (val r) (by omega)
    rw [hd] at h1 h2
    omega

theorem mg_byte {m : Bool} {r : List UInt8} (c : UInt8) (hc : c ∈ r) (h : ¬ isDig c) : mg m r = none := by
  cases e : mg m r with
  | none => rfl
  | some v =>
    have hd := (mg_some e).1
    rw [← hd] at hc
    exact absurd (dig_decDigits _ c hc) h

theorem mg_other {m : Bool} {r : List UInt8} (h : ¬ Lib.decDigits (val r) = r) : mg m r = none := by
  cases e : mg m r with
  | none => rfl
  | some v => exact absurd (mg_some e).1 h

theorem mg_zero {r : List UInt8} (h : val r = 0) : mg true r = none := by
  cases e : mg true r with
  | none => rfl
  | some v => exact absurd h ((mg_some e).2.1 rfl)

theorem mg_range {m : Bool} {r : List UInt8} (h : ¬ (-1073741824 ≤ sg m r ∧ sg m r ≤ 1073741823)) : mg m r = none := by
  cases e : mg m r with
  | none => rfl
  | some v =>
    obtain ⟨_, _, h3, h4, h5⟩ := mg_some e
    subst h5
    exact absurd ⟨h3, h4⟩ h

theorem wordV_minus {l : List UInt8} (h : l.head? = some 45) : wordV l = mg true l.tail := by
  have hl : l = 45 :: l.tail := by
    cases l with
    | nil => simp at h
    | cons c r => simp at h; subst h; rfl
  cases e : mg true l.tail with
  | some v =>
    obtain ⟨h1, h2, h3, h4, h5⟩ := mg_some e
    have h2 := h2 rfl
    rw [sg_true] at h5
    refine wordV_of h3 h4 ?_
    rw [itoa_neg v (by omega)]
    have e3 : v.natAbs = val l.tail := by omega
    rw [e3, h1]
    exact hl.symm
  | none =>
    refine wordV_none fun v h0 h1 h2 => ?_
    by_cases hv : v < 0
    · rw [itoa_neg v hv] at h2
      have h3 : l.tail = Lib.decDigits v.natAbs := by rw [← h2]; rfl
      have h4 : val l.tail = v.natAbs := by rw [h3, val_decDigits]
      have := mg_yes (m := true) (r := l.tail) (v := v) (by rw [h4, h3]) (fun _ => by omega) h0 h1 (by rw [sg_true]; omega)
      rw [e] at this
      cases this
    · rw [itoa_val v (by omega)] at h2
      rw [← h2] at h
      exact head_decDigits _ h

theorem wordV_plus {l : List UInt8} (h : l.head? ≠ some 45) : wordV l = mg false l := by
  cases e : mg false l with
  | some v =>
    obtain ⟨h1, _, h3, h4, h5⟩ := mg_some e
    rw [sg_false] at h5
    refine wordV_of h3 h4 ?_
    rw [itoa_val v (by omega)]
    have e3 : v.toNat = val l := by omega
    rw [e3, h1]
  | none =>
    refine wordV_none fun v h0 h1 h2 => ?_
    by_cases hv : v < 0
    · rw [itoa_neg v hv] at h2
      rw [← h2] at h
      exact h rfl
    · rw [itoa_val v (by omega)] at h2
      have h4 : val l = v.toNat := by rw [← h2, val_decDigits]
      have := mg_yes (m := false) (r := l) (v := v) (by rw [h4]; exact h2) (by simp) h0 h1 (by rw [sg_false]; omega)
      rw [e] at this
      cases this
end Go.Proofs.YtgbfflpdpfgnbaaGreat

/- spec.l2Digit, and small facts on the bytes of a text. No conditions. -/
namespace Go.Proofs.YtgbfflpdpfgnbaaGreat
open Go.ChangeShapes Go.WideShapes Go.ChangeAt Go.RowKit

theorem take_snoc (s : ByteArray) (k : Nat) (h : k < s.size) : s.data.toList.take (k + 1) = s.data.toList.take k ++ [s[k]] := by
  rw [List.take_succ_eq_append_getElem (by simpa using h)]; rfl

theorem byte_mem (s : ByteArray) (k : Nat) (h : k < s.size) : s[k] ∈ s.data.toList := by
  have : s[k] = s.data.toList[k]'(by simpa using h) := rfl
  rw [this]; exact List.getElem_mem _

theorem spec_digit (c : UInt8) (w : World) : Calls Tryz.prog 96 #[.int .u8 c.toNat] w fun e w' => e = .returned (.bool (digB c)) ∧ w' = w := by
  have hc : c.toNat < 256 := c.toNat_lt
  by_cases h1 : (48 : Int) ≤ c.toNat
  · by_cases h2 : (c.toNat : Int) ≤ 57
    · have HN : Hid (digB c = true) := show digB c = true by unfold digB; simp only [Bool.and_eq_true, decide_eq_true_eq]; omega
      go_enter Tryz.func96, Tryz.ntmps96
      go_wp2
      go_ret
      exact ⟨by rw [HN.out]; rfl, rfl⟩
    · have HN : Hid (digB c = false) := show digB c = false by unfold digB; rw [Bool.and_eq_false_iff, decide_eq_false_iff_not, decide_eq_false_iff_not]; omega
      go_enter Tryz.func96, Tryz.ntmps96
      go_wp2
      go_ret
      exact ⟨by rw [HN.out]; rfl, rfl⟩
  · have HN : Hid (digB c = false) := show digB c = false by unfold digB; rw [Bool.and_eq_false_iff, decide_eq_false_iff_not, decide_eq_false_iff_not]; omega
    go_enter Tryz.func96, Tryz.ntmps96
    go_wp2
    go_ret
    exact ⟨by rw [HN.out]; rfl, rfl⟩

theorem digB_dig {c : UInt8} (h : digB c = true) : isDig c := by
  unfold digB at h; unfold isDig; simp only [Bool.and_eq_true, decide_eq_true_eq] at h; exact h
theorem digB_no {c : UInt8} (h : digB c = false) : ¬ isDig c := by
  intro hd; unfold isDig at hd; unfold digB at h; rw [Bool.and_eq_false_iff, decide_eq_false_iff_not, decide_eq_false_iff_not] at h; omega

end Go.Proofs.YtgbfflpdpfgnbaaGreat

/- spec.l2Word at every text: the word of which it is the digits and true, or false. Condition: the text is no longer than a text can be. -/
namespace Go.Proofs.YtgbfflpdpfgnbaaGreat
open Go.ChangeShapes Go.WideShapes Go.ChangeAt Go.RowKit

theorem val_take_lt (l : List UInt8) (k : Nat) (hd : ∀ c ∈ l.take k, isDig c) : val (l.take k) < 10 ^ (l.take k).length := by
  have key : ∀ (m : List UInt8), (∀ c ∈ m, isDig c) → ∀ a j, a < 10 ^ j → valFrom a m < 10 ^ (j + m.length) := by
    intro m
    induction m with
    | nil => intro _ a j h; exact h
    | cons c r ih =>
      intro hm a j h
      have hc := hm c List.mem_cons_self
      unfold isDig at hc
      have := ih (fun d h => hm d (List.mem_cons_of_mem _ h)) (a * 10 + (c.toNat - 48)) (j + 1) (by rw [Nat.pow_succ]; omega)
      rw [show j + (c :: r).length = j + 1 + r.length from by simp; omega]
      exact this
  have := key (l.take k) hd 0 0 (by omega)
  simpa [val] using this

/-- What l2Word answers: some int, which is the word where there is one. -/
def IsWord (o : Option Int) (e : Ending) : Prop := ∃ n : Int, e = .returned (.tuple #[.int .i64 n, .bool o.isSome]) ∧ ∀ v, o = some v → n = v
theorem IsWord.no {o : Option Int} {e : Ending} (n : Int) (h : o = none) (he : e = .returned (.tuple #[.int .i64 n, .bool false])) : IsWord o e := by
  subst h; exact ⟨n, he, by simp⟩
theorem IsWord.yes {o : Option Int} {e : Ending} (n : Int) (h : o = some n) (he : e = .returned (.tuple #[.int .i64 n, .bool true])) : IsWord o e := by
  subst h; exact ⟨n, he, by simp⟩

theorem tail_extract (s : ByteArray) : (s.extract 1 s.size).data.toList = s.data.toList.tail := by
  rw [ByteArray.data_extract, Array.toList_extract]
  simp only [List.extract]
  rw [List.take_of_length_le (by simp)]
  simp

theorem head_byte (s : ByteArray) (h : 0 < s.size) : s.data.toList.head? = some s[0] := by
  have : s[0] = s.data.toList[0]'(by simpa using h) := rfl
  rw [this, List.head?_eq_getElem?, List.getElem?_eq_getElem]

set_option maxHeartbeats 1000000 in
theorem word_minus (s : ByteArray) (w : World) (hs : s.size ≤ maxLen) (h0 : 0 < s.size) (hm : (s[0].toNat : Int) = 45) :
    Calls Tryz.prog 98 #[.string s] w fun e w' => IsWord (wordV s.data.toList) e ∧ Below w.heap.size w w' := by
  unfold maxLen at hs
  have HW0 : Hid (wordV s.data.toList = mg true (s.extract 1 s.size).data.toList) := by
    rw [tail_extract]
    refine wordV_minus ?_
    rw [head_byte s h0]
    congr 1
    exact UInt8.toNat_inj.1 (by rw [show (45 : UInt8).toNat = 45 from rfl]; omega)
  have hl : (s.extract 1 s.size).data.toList.length = s.size - 1 := by simp
  have hz : (0 : Int) < s.size := by omega
  by_cases h1 : ((s.size - 1 : Nat) : Int) < 1
  · have HN : Hid (wordV s.data.toList = none) := by rw [HW0.out]; exact mg_len (by omega)
    clear HW0 hl
    go_enter Tryz.func98, Tryz.ntmps98
    go_wp2
    go_ret2
    exact ⟨.no _ HN.out rfl, Below.refl _ _⟩
  by_cases h2 : (10 : Int) < ((s.size - 1 : Nat) : Int)
  · have HN : Hid (wordV s.data.toList = none) := by rw [HW0.out]; exact mg_len (by omega)
    clear HW0 hl
    go_enter Tryz.func98, Tryz.ntmps98
    go_wp2
    go_ret2
    exact ⟨.no _ HN.out rfl, Below.refl _ _⟩
  clear hl
  have hsz : (s.extract 1 s.size).size = s.size - 1 := by simp
  go_enter Tryz.func98, Tryz.ntmps98
  go_wp2
  generalize s.extract 1 s.size = r at HW0 hsz ⊢
  have HW : Hid (wordV s.data.toList = mg true r.data.toList) := HW0
  have hr10 : r.size ≤ 10 := by omega
  clear HW0 h1 h2 hsz
  go_loop [5, 6] (fun x i => ∃ k : Nat, k ≤ r.size ∧ i = .int .i64 k ∧ (∀ c ∈ r.data.toList.take k, isDig c) ∧ x = .int .i64 (val (r.data.toList.take k))) (fun _ i => r.size - (intOf i).toNat)
  case atStart => exact ⟨0, Nat.zero_le _, rfl, by simp, rfl⟩
  case round =>
    obtain ⟨k, hk, rfl, hd, rfl⟩ := hrel
    have hlen : (r.data.toList.take k).length = k := by rw [List.length_take]; simp; omega
    have hv := val_take_lt r.data.toList k hd
    rw [hlen] at hv
    have hp : 10 ^ k ≤ 10 ^ 10 := Nat.pow_le_pow_right (by omega) (by omega)
    have hv2 : val (r.data.toList.take k) < 10000000000 := by omega
    clear hv hp hlen
    have HD : Hid (∀ c ∈ r.data.toList.take k, isDig c) := hd
    clear hd
    by_cases hlt : (k : Int) < r.size
    · have hlt' : k < r.size := by omega
      have HT : Hid (r.data.toList.take (k + 1) = r.data.toList.take k ++ [r[k]]) := take_snoc r k hlt'
      have HM : Hid (r[k] ∈ r.data.toList) := byte_mem r k hlt'
      cases hdg : digB r[k] with
      | false =>
        have HN : Hid (wordV s.data.toList = none) := by rw [HW.out]; exact mg_byte r[k] HM.out (digB_no hdg)
        go_wp2_with (go_at_call 96; refine (spec_digit r[k] _).mono ?_; rintro e w1 ⟨rfl, rfl⟩)
        go_ret2
        exact ⟨.no _ HN.out rfl, Below.refl _ _⟩
      | true =>
      have hig := digB_dig hdg
      unfold isDig at hig
      go_wp2_with (go_at_call 96; refine (spec_digit r[k] _).mono ?_; rintro e w1 ⟨rfl, rfl⟩)
      refine ⟨⟨k + 1, by omega, by go_num, ?_, ?_⟩, by simp [intOf]; omega⟩
      · rw [HT.out]
        intro c hc
        rcases List.mem_append.1 hc with hc | hc
        · exact HD.out c hc
        · simp only [List.mem_singleton] at hc
          subst hc
          unfold isDig; omega
      · rw [HT.out, val_append]
        have : (((val (List.take k r.data.toList) * 10 + (r[k].toNat - 48) : Nat)) : Int) = 10 * ↑(val (List.take k r.data.toList)) + ↑r[k].toNat - 48 := by omega
        rw [this]
    · have hke : k = r.size := by omega
      subst hke
      rw [List.take_of_length_le (by simp)] at hv2 ⊢
      have hvn : ∃ n : Nat, val r.data.toList = n := ⟨_, rfl⟩
      obtain ⟨n, hn⟩ := hvn
      have HV : Hid (val r.data.toList = n) := hn
      rw [hn] at hv2 ⊢
      clear hn HD
      have hst : r.toList = r.data.toList := ByteArray.toList_eq r
      by_cases hd : Lib.decDigits n = r.data.toList
      · have ht : (Lib.itoa (n : Int) == r.toList) = true := by
          rw [itoa_val _ (by omega), hst, Int.toNat_natCast, hd]; simp
        have HD : Hid (Lib.decDigits (val r.data.toList) = r.data.toList) := by rw [HV.out]; exact hd
        clear hd hst
        by_cases hz : n = 0
        · have hz' : ((n : Int) == 0) = true := by rw [hz]; rfl
          have HN : Hid (wordV s.data.toList = none) := by rw [HW.out]; exact mg_zero (by rw [HV.out]; exact hz)
          clear hz
          go_wp2_with (first | (go_at_call 102; refine (spec_digits _ (by omega) (by omega) _).mono ?_; rintro e w1 ⟨rfl, hb1⟩) | go_in)
          go_ret2
          exact ⟨.no _ HN.out rfl, hb1⟩
        have hz' : ((n : Int) == 0) = false := by simp; omega
        by_cases hr : (n : Int) ≤ 1073741824
        · have HN : Hid (wordV s.data.toList = some (-(n : Int))) := by
            rw [HW.out]; exact mg_yes HD.out (fun _ => by rw [HV.out]; exact hz) (by omega) (by omega) (by rw [sg_true, HV.out])
          go_wp2_with (first | (go_at_call 102; refine (spec_digits _ (by omega) (by omega) _).mono ?_; rintro e w1 ⟨rfl, hb1⟩) | go_in)
          go_ret2
          exact ⟨.yes _ HN.out (by simp), hb1⟩
        · have HN : Hid (wordV s.data.toList = none) := by rw [HW.out]; exact mg_range (by rw [sg_true, HV.out]; omega)
          go_wp2_with (first | (go_at_call 102; refine (spec_digits _ (by omega) (by omega) _).mono ?_; rintro e w1 ⟨rfl, hb1⟩) | go_in)
          go_ret2
          exact ⟨.no _ HN.out rfl, hb1⟩
      · have HN : Hid (wordV s.data.toList = none) := by rw [HW.out]; exact mg_other (by rw [HV.out]; exact hd)
        have ht : (Lib.itoa (n : Int) == r.toList) = false := by
          rw [itoa_val _ (by omega), hst, Int.toNat_natCast]; simp [hd]
        clear hd hst
        go_wp2_with (first | (go_at_call 102; refine (spec_digits _ (by omega) (by omega) _).mono ?_; rintro e w1 ⟨rfl, hb1⟩) | go_in)
        go_ret2
        exact ⟨.no _ HN.out rfl, hb1⟩

set_option maxHeartbeats 1000000 in
theorem word_plus (s : ByteArray) (w : World) (hs : s.size ≤ maxLen) (h0 : 0 < s.size) (hm : ¬ (s[0].toNat : Int) = 45) :
    Calls Tryz.prog 98 #[.string s] w fun e w' => IsWord (wordV s.data.toList) e ∧ Below w.heap.size w w' := by
  unfold maxLen at hs
  have HW0 : Hid (wordV s.data.toList = mg false s.data.toList) := by
    refine wordV_plus ?_
    rw [head_byte s h0]
    intro e
    injection e with e
    exact hm (by rw [e]; rfl)
  have hl : s.data.toList.length = s.size := by simp
  have hz : (0 : Int) < s.size := by omega
  have h1 : ¬ (s.size : Int) < 1 := by omega
  have hm' : ((s[0].toNat : Int) == 45) = false := by simpa using hm
  by_cases h2 : (10 : Int) < (s.size : Int)
  · have HN : Hid (wordV s.data.toList = none) := by rw [HW0.out]; exact mg_len (by omega)
    clear HW0 hl
    go_enter Tryz.func98, Tryz.ntmps98
    go_wp2
    go_ret2
    exact ⟨.no _ HN.out rfl, Below.refl _ _⟩
  clear hl
  go_enter Tryz.func98, Tryz.ntmps98
  go_wp2
  have HW : Hid (wordV s.data.toList = mg false s.data.toList) := HW0
  have hr10 : s.size ≤ 10 := by omega
  clear HW0 hm' h1 h2
  go_loop [5, 6] (fun x i => ∃ k : Nat, k ≤ s.size ∧ i = .int .i64 k ∧ (∀ c ∈ s.data.toList.take k, isDig c) ∧ x = .int .i64 (val (s.data.toList.take k))) (fun _ i => s.size - (intOf i).toNat)
  case atStart => exact ⟨0, Nat.zero_le _, rfl, by simp, rfl⟩
  case round =>
    obtain ⟨k, hk, rfl, hd, rfl⟩ := hrel
    have hlen : (s.data.toList.take k).length = k := by rw [List.length_take]; simp; omega
    have hv := val_take_lt s.data.toList k hd
    rw [hlen] at hv
    have hp : 10 ^ k ≤ 10 ^ 10 := Nat.pow_le_pow_right (by omega) (by omega)
    have hv2 : val (s.data.toList.take k) < 10000000000 := by omega
    clear hv hp hlen
    have HD : Hid (∀ c ∈ s.data.toList.take k, isDig c) := hd
    clear hd
    by_cases hlt : (k : Int) < s.size
    · have hlt' : k < s.size := by omega
      have HT : Hid (s.data.toList.take (k + 1) = s.data.toList.take k ++ [s[k]]) := take_snoc s k hlt'
      have HM : Hid (s[k] ∈ s.data.toList) := byte_mem s k hlt'
      cases hdg : digB s[k] with
      | false =>
        have HN : Hid (wordV s.data.toList = none) := by rw [HW.out]; exact mg_byte s[k] HM.out (digB_no hdg)
        go_wp2_with (go_at_call 96; refine (spec_digit s[k] _).mono ?_; rintro e w1 ⟨rfl, rfl⟩)
        go_ret2
        exact ⟨.no _ HN.out rfl, Below.refl _ _⟩
      | true =>
      have hig := digB_dig hdg
      unfold isDig at hig
      go_wp2_with (go_at_call 96; refine (spec_digit s[k] _).mono ?_; rintro e w1 ⟨rfl, rfl⟩)
      refine ⟨⟨k + 1, by omega, by go_num, ?_, ?_⟩, by simp [intOf]; omega⟩
      · rw [HT.out]
        intro c hc
        rcases List.mem_append.1 hc with hc | hc
        · exact HD.out c hc
        · simp only [List.mem_singleton] at hc
          subst hc
          unfold isDig; omega
      · rw [HT.out, val_append]
        have : (((val (List.take k s.data.toList) * 10 + (s[k].toNat - 48) : Nat)) : Int) = 10 * ↑(val (List.take k s.data.toList)) + ↑s[k].toNat - 48 := by omega
        rw [this]
    · have hke : k = s.size := by omega
      subst hke
      rw [List.take_of_length_le (by simp)] at hv2 ⊢
      have hvn : ∃ n : Nat, val s.data.toList = n := ⟨_, rfl⟩
      obtain ⟨n, hn⟩ := hvn
      have HV : Hid (val s.data.toList = n) := hn
      rw [hn] at hv2 ⊢
      clear hn HD
      have hst : s.toList = s.data.toList := ByteArray.toList_eq s
      by_cases hd : Lib.decDigits n = s.data.toList
      · have ht : (Lib.itoa (n : Int) == s.toList) = true := by
          rw [itoa_val _ (by omega), hst, Int.toNat_natCast, hd]; simp
        have HD : Hid (Lib.decDigits (val s.data.toList) = s.data.toList) := by rw [HV.out]; exact hd
        clear hd hst
        by_cases hr : (n : Int) ≤ 1073741823
        · have HN : Hid (wordV s.data.toList = some (n : Int)) := by
            rw [HW.out]; exact mg_yes HD.out (by simp) (by omega) (by omega) (by rw [sg_false, HV.out])
          go_wp2_with (first | (go_at_call 102; refine (spec_digits _ (by omega) (by omega) _).mono ?_; rintro e w1 ⟨rfl, hb1⟩) | go_in)
          go_ret2
          exact ⟨.yes _ HN.out (by simp), hb1⟩
        · have HN : Hid (wordV s.data.toList = none) := by rw [HW.out]; exact mg_range (by rw [sg_false, HV.out]; omega)
          go_wp2_with (first | (go_at_call 102; refine (spec_digits _ (by omega) (by omega) _).mono ?_; rintro e w1 ⟨rfl, hb1⟩) | go_in)
          go_ret2
          exact ⟨.no (n : Int) HN.out (by simp; omega), hb1⟩
      · have HN : Hid (wordV s.data.toList = none) := by rw [HW.out]; exact mg_other (by rw [HV.out]; exact hd)
        have ht : (Lib.itoa (n : Int) == s.toList) = false := by
          rw [itoa_val _ (by omega), hst, Int.toNat_natCast]; simp [hd]
        clear hd hst
        go_wp2_with (first | (go_at_call 102; refine (spec_digits _ (by omega) (by omega) _).mono ?_; rintro e w1 ⟨rfl, hb1⟩) | go_in)
        go_ret2
        exact ⟨.no _ HN.out rfl, hb1⟩

theorem spec_word (s : ByteArray) (w : World) (hs : s.size ≤ maxLen) :
    Calls Tryz.prog 98 #[.string s] w fun e w' => IsWord (wordV s.data.toList) e ∧ Below w.heap.size w w' := by
  by_cases h0 : 0 < s.size
  · by_cases hm : (s[0].toNat : Int) = 45
    · exact word_minus s w hs h0 hm
    · exact word_plus s w hs h0 hm
  · have hl : s.data.toList.length = s.size := by simp
    have hn : s.data.toList = [] := List.eq_nil_of_length_eq_zero (by omega)
    have HN : Hid (wordV s.data.toList = none) := by
      rw [hn, wordV_plus (by simp)]; exact mg_len (by simp)
    clear hn hl
    have h1 : ¬ (0 : Int) < s.size := by omega
    have h2 : (s.size : Int) < 1 := by omega
    go_enter Tryz.func98, Tryz.ntmps98
    go_wp2
    go_ret2
    exact ⟨.no _ HN.out rfl, Below.refl _ _⟩
end Go.Proofs.YtgbfflpdpfgnbaaGreat
