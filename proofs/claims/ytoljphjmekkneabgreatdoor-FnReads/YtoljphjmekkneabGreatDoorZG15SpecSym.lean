/- spec.l2Word at every text: the word of which it is the digits and true, or false. Condition: the text is no longer than a text can be. -/
import Derived.Test.YtoljphjmekkneabGreatDoorZG13SpecDigits
import Derived.Test.YtoljphjmekkneabGreatDoorZG14SpecDig
import Derived.Test.YtoljphjmekkneabGreatDoorRows
import Derived.WalkKit
import Derived.ProofKit
import Derived.Below
namespace Go.Proofs.YtoljphjmekkneabGreatDoor
open Go.ChangeShapes Go.WideShapes Go.ChangeAt Go.RowKit

theorem val_take_lt (l : List UInt8) (k : Nat) (hd : ∀ c ∈ l.take k, isDig c) : val (l.take k) < 10 ^ (l.take k).length := by
  have key : ∀ (m : List UInt8), (∀ c ∈ m, isDig c) → ∀ a j, a < 10 ^ j → valFrom a m < 10 ^ (j + m.length) := by
    intro m
    induction m with
    | nil => intro _ a j h; exact h
    | cons c r ih =>
      intro hm a j h
      have hc := hm c List.mem_cons_self
      unfold isDig at hc
      have := ih (fun d h => hm d (List.mem_cons_of_mem _ h)) (a * 10 + (c.toNat - 48)) (j + 1) (by rw [Nat.pow_succ]; omega)
      rw [show j + (c :: r).length = j + 1 + r.length from by simp; omega]
      exact this
  have := key (l.take k) hd 0 0 (by omega)
  simpa [val] using this

/-- What l2Word answers: some int, which is the word where there is one. -/
def IsWord (o : Option Int) (e : Ending) : Prop := ∃ n : Int, e = .returned (.tuple #[.int .i64 n, .bool o.isSome]) ∧ ∀ v, o = some v → n = v
theorem IsWord.no {o : Option Int} {e : Ending} (n : Int) (h : o = none) (he : e = .returned (.tuple #[.int .i64 n, .bool false])) : IsWord o e := by
  subst h; exact ⟨n, he, by simp⟩
theorem IsWord.yes {o : Option Int} {e : Ending} (n : Int) (h : o = some n) (he : e = .returned (.tuple #[.int .i64 n, .bool true])) : IsWord o e := by
  subst h; exact ⟨n, he, by simp⟩

theorem tail_extract (s : ByteArray) : (s.extract 1 s.size).data.toList = s.data.toList.tail := by
  rw [ByteArray.data_extract, Array.toList_extract]
  simp only [List.extract]
  rw [List.take_of_length_le (by simp)]
  simp

theorem head_byte (s : ByteArray) (h : 0 < s.size) : s.data.toList.head? = some s[0] := by
  have : s[0] = s.data.toList[0]'(by simpa using h) := rfl
  rw [this, List.head?_eq_getElem?, List.getElem?_eq_getElem]

set_option maxHeartbeats 1000000 in
theorem word_minus (s : ByteArray) (w : World) (hs : s.size ≤ maxLen) (h0 : 0 < s.size) (hm : (s[0].toNat : Int) = 45) :
    Calls Tryz.prog 44 #[.string s] w fun e w' => IsWord (wordV s.data.toList) e ∧ Below w.heap.size w w' := by
  unfold maxLen at hs
  have HW0 : Hid (wordV s.data.toList = mg true (s.extract 1 s.size).data.toList) := by
    rw [tail_extract]
    refine wordV_minus ?_
    rw [head_byte s h0]
    congr 1
    exact UInt8.toNat_inj.1 (by rw [show (45 : UInt8).toNat = 45 from rfl]; omega)
  have hl : (s.extract 1 s.size).data.toList.length = s.size - 1 := by simp
  have hz : (0 : Int) < s.size := by omega
  by_cases h1 : ((s.size - 1 : Nat) : Int) < 1
  · have HN : Hid (wordV s.data.toList = none) := by rw [HW0.out]; exact mg_len (by omega)
    clear HW0 hl
    go_enter Tryz.func44, Tryz.ntmps44
    go_wp2
    go_ret2
    exact ⟨.no _ HN.out rfl, Below.refl _ _⟩
  by_cases h2 : (10 : Int) < ((s.size - 1 : Nat) : Int)
  · have HN : Hid (wordV s.data.toList = none) := by rw [HW0.out]; exact mg_len (by omega)
    clear HW0 hl
    go_enter Tryz.func44, Tryz.ntmps44
    go_wp2
    go_ret2
    exact ⟨.no _ HN.out rfl, Below.refl _ _⟩
  clear hl
  have hsz : (s.extract 1 s.size).size = s.size - 1 := by simp
  go_enter Tryz.func44, Tryz.ntmps44
  go_wp2
  generalize s.extract 1 s.size = r at HW0 hsz ⊢
  have HW : Hid (wordV s.data.toList = mg true r.data.toList) := HW0
  have hr10 : r.size ≤ 10 := by omega
  clear HW0 h1 h2 hsz
  go_loop [5, 6] (fun x i => ∃ k : Nat, k ≤ r.size ∧ i = .int .i64 k ∧ (∀ c ∈ r.data.toList.take k, isDig c) ∧ x = .int .i64 (val (r.data.toList.take k))) (fun _ i => r.size - (intOf i).toNat)
  case atStart => exact ⟨0, Nat.zero_le _, rfl, by simp, rfl⟩
  case round =>
    obtain ⟨k, hk, rfl, hd, rfl⟩ := hrel
    have hlen : (r.data.toList.take k).length = k := by rw [List.length_take]; simp; omega
    have hv := val_take_lt r.data.toList k hd
    rw [hlen] at hv
    have hp : 10 ^ k ≤ 10 ^ 10 := Nat.pow_le_pow_right (by omega) (by omega)
    have hv2 : val (r.data.toList.take k) < 10000000000 := by omega
    clear hv hp hlen
    have HD : Hid (∀ c ∈ r.data.toList.take k, isDig c) := hd
    clear hd
    by_cases hlt : (k : Int) < r.size
    · have hlt' : k < r.size := by omega
      have HT : Hid (r.data.toList.take (k + 1) = r.data.toList.take k ++ [r[k]]) := take_snoc r k hlt'
      have HM : Hid (r[k] ∈ r.data.toList) := byte_mem r k hlt'
      cases hdg : digB r[k] with
      | false =>
        have HN : Hid (wordV s.data.toList = none) := by rw [HW.out]; exact mg_byte r[k] HM.out (digB_no hdg)
        go_wp2_with (go_at_call 60; refine (spec_digit r[k] _).mono ?_; rintro e w1 ⟨rfl, rfl⟩)
        go_ret2
        exact ⟨.no _ HN.out rfl, Below.refl _ _⟩
      | true =>
      have hig := digB_dig hdg
      unfold isDig at hig
      go_wp2_with (go_at_call 60; refine (spec_digit r[k] _).mono ?_; rintro e w1 ⟨rfl, rfl⟩)
      refine ⟨⟨k + 1, by omega, by go_num, ?_, ?_⟩, by simp [intOf]; omega⟩
      · rw [HT.out]
        intro c hc
        rcases List.mem_append.1 hc with hc | hc
        · exact HD.out c hc
        · simp only [List.mem_singleton] at hc
          subst hc
          unfold isDig; omega
      · rw [HT.out, val_append]
        have : (((val (List.take k r.data.toList) * 10 + (r[k].toNat - 48) : Nat)) : Int) = 10 * ↑(val (List.take k r.data.toList)) + ↑r[k].toNat - 48 := by omega
        rw [this]
    · have hke : k = r.size := by omega
      subst hke
      rw [List.take_of_length_le (by simp)] at hv2 ⊢
      have hvn : ∃ n : Nat, val r.data.toList = n := ⟨_, rfl⟩
      obtain ⟨n, hn⟩ := hvn
      have HV : Hid (val r.data.toList = n) := hn
      rw [hn] at hv2 ⊢
      clear hn HD
      have hst : r.toList = r.data.toList := ByteArray.toList_eq r
      by_cases hd : Lib.decDigits n = r.data.toList
      · have ht : (Lib.itoa (n : Int) == r.toList) = true := by
          rw [itoa_val _ (by omega), hst, Int.toNat_natCast, hd]; simp
        have HD : Hid (Lib.decDigits (val r.data.toList) = r.data.toList) := by rw [HV.out]; exact hd
        clear hd hst
        by_cases hz : n = 0
        · have hz' : ((n : Int) == 0) = true := by rw [hz]; rfl
          have HN : Hid (wordV s.data.toList = none) := by rw [HW.out]; exact mg_zero (by rw [HV.out]; exact hz)
          clear hz
          go_wp2_with (first | (go_at_call 36; refine (spec_digits _ (by omega) (by omega) _).mono ?_; rintro e w1 ⟨rfl, hb1⟩) | go_in)
          go_ret2
          exact ⟨.no _ HN.out rfl, hb1⟩
        have hz' : ((n : Int) == 0) = false := by simp; omega
        by_cases hr : (n : Int) ≤ 1073741824
        · have HN : Hid (wordV s.data.toList = some (-(n : Int))) := by
            rw [HW.out]; exact mg_yes HD.out (fun _ => by rw [HV.out]; exact hz) (by omega) (by omega) (by rw [sg_true, HV.out])
          go_wp2_with (first | (go_at_call 36; refine (spec_digits _ (by omega) (by omega) _).mono ?_; rintro e w1 ⟨rfl, hb1⟩) | go_in)
          go_ret2
          exact ⟨.yes _ HN.out (by simp), hb1⟩
        · have HN : Hid (wordV s.data.toList = none) := by rw [HW.out]; exact mg_range (by rw [sg_true, HV.out]; omega)
          go_wp2_with (first | (go_at_call 36; refine (spec_digits _ (by omega) (by omega) _).mono ?_; rintro e w1 ⟨rfl, hb1⟩) | go_in)
          go_ret2
          exact ⟨.no _ HN.out rfl, hb1⟩
      · have HN : Hid (wordV s.data.toList = none) := by rw [HW.out]; exact mg_other (by rw [HV.out]; exact hd)
        have ht : (Lib.itoa (n : Int) == r.toList) = false := by
          rw [itoa_val _ (by omega), hst, Int.toNat_natCast]; simp [hd]
        clear hd hst
        go_wp2_with (first | (go_at_call 36; refine (spec_digits _ (by omega) (by omega) _).mono ?_; rintro e w1 ⟨rfl, hb1⟩) | go_in)
        go_ret2
        exact ⟨.no _ HN.out rfl, hb1⟩

set_option maxHeartbeats 1000000 in
theorem word_plus (s : ByteArray) (w : World) (hs : s.size ≤ maxLen) (h0 : 0 < s.size) (hm : ¬ (s[0].toNat : Int) = 45) :
    Calls Tryz.prog 44 #[.string s] w fun e w' => IsWord (wordV s.data.toList) e ∧ Below w.heap.size w w' := by
  unfold maxLen at hs
  have HW0 : Hid (wordV s.data.toList = mg false s.data.toList) := by
    refine wordV_plus ?_
    rw [head_byte s h0]
    intro e
    injection e with e
    exact hm (by rw [e]; rfl)
  have hl : s.data.toList.length = s.size := by simp
  have hz : (0 : Int) < s.size := by omega
  have h1 : ¬ (s.size : Int) < 1 := by omega
  have hm' : ((s[0].toNat : Int) == 45) = false := by simpa using hm
  by_cases h2 : (10 : Int) < (s.size : Int)
  · have HN : Hid (wordV s.data.toList = none) := by rw [HW0.out]; exact mg_len (by omega)
    clear HW0 hl
    go_enter Tryz.func44, Tryz.ntmps44
    go_wp2
    go_ret2
    exact ⟨.no _ HN.out rfl, Below.refl _ _⟩
  clear hl
  go_enter Tryz.func44, Tryz.ntmps44
  go_wp2
  have HW : Hid (wordV s.data.toList = mg false s.data.toList) := HW0
  have hr10 : s.size ≤ 10 := by omega
  clear HW0 hm' h1 h2
  go_loop [5, 6] (fun x i => ∃ k : Nat, k ≤ s.size ∧ i = .int .i64 k ∧ (∀ c ∈ s.data.toList.take k, isDig c) ∧ x = .int .i64 (val (s.data.toList.take k))) (fun _ i => s.size - (intOf i).toNat)
  case atStart => exact ⟨0, Nat.zero_le _, rfl, by simp, rfl⟩
  case round =>
    obtain ⟨k, hk, rfl, hd, rfl⟩ := hrel
    have hlen : (s.data.toList.take k).length = k := by rw [List.length_take]; simp; omega
    have hv := val_take_lt s.data.toList k hd
    rw [hlen] at hv
    have hp : 10 ^ k ≤ 10 ^ 10 := Nat.pow_le_pow_right (by omega) (by omega)
    have hv2 : val (s.data.toList.take k) < 10000000000 := by omega
    clear hv hp hlen
    have HD : Hid (∀ c ∈ s.data.toList.take k, isDig c) := hd
    clear hd
    by_cases hlt : (k : Int) < s.size
    · have hlt' : k < s.size := by omega
      have HT : Hid (s.data.toList.take (k + 1) = s.data.toList.take k ++ [s[k]]) := take_snoc s k hlt'
      have HM : Hid (s[k] ∈ s.data.toList) := byte_mem s k hlt'
      cases hdg : digB s[k] with
      | false =>
        have HN : Hid (wordV s.data.toList = none) := by rw [HW.out]; exact mg_byte s[k] HM.out (digB_no hdg)
        go_wp2_with (go_at_call 60; refine (spec_digit s[k] _).mono ?_; rintro e w1 ⟨rfl, rfl⟩)
        go_ret2
        exact ⟨.no _ HN.out rfl, Below.refl _ _⟩
      | true =>
      have hig := digB_dig hdg
      unfold isDig at hig
      go_wp2_with (go_at_call 60; refine (spec_digit s[k] _).mono ?_; rintro e w1 ⟨rfl, rfl⟩)
      refine ⟨⟨k + 1, by omega, by go_num, ?_, ?_⟩, by simp [intOf]; omega⟩
      · rw [HT.out]
        intro c hc
        rcases List.mem_append.1 hc with hc | hc
        · exact HD.out c hc
        · simp only [List.mem_singleton] at hc
          subst hc
          unfold isDig; omega
      · rw [HT.out, val_append]
        have : (((val (List.take k s.data.toList) * 10 + (s[k].toNat - 48) : Nat)) : Int) = 10 * ↑(val (List.take k s.data.toList)) + ↑s[k].toNat - 48 := by omega
        rw [this]
    · have hke : k = s.size := by omega
      subst hke
      rw [List.take_of_length_le (by simp)] at hv2 ⊢
      have hvn : ∃ n : Nat, val s.data.toList = n := ⟨_, rfl⟩
      obtain ⟨n, hn⟩ := hvn
      have HV : Hid (val s.data.toList = n) := hn
      rw [hn] at hv2 ⊢
      clear hn HD
      have hst : s.toList = s.data.toList := ByteArray.toList_eq s
      by_cases hd : Lib.decDigits n = s.data.toList
      · have ht : (Lib.itoa (n : Int) == s.toList) = true := by
          rw [itoa_val _ (by omega), hst, Int.toNat_natCast, hd]; simp
        have HD : Hid (Lib.decDigits (val s.data.toList) = s.data.toList) := by rw [HV.out]; exact hd
        clear hd hst
        by_cases hr : (n : Int) ≤ 1073741823
        · have HN : Hid (wordV s.data.toList = some (n : Int)) := by
            rw [HW.out]; exact mg_yes HD.out (by simp) (by omega) (by omega) (by rw [sg_false, HV.out])
          go_wp2_with (first | (go_at_call 36; refine (spec_digits _ (by omega) (by omega) _).mono ?_; rintro e w1 ⟨rfl, hb1⟩) | go_in)
          go_ret2
          exact ⟨.yes _ HN.out (by simp), hb1⟩
        · have HN : Hid (wordV s.data.toList = none) := by rw [HW.out]; exact mg_range (by rw [sg_false, HV.out]; omega)
          go_wp2_with (first | (go_at_call 36; refine (spec_digits _ (by omega) (by omega) _).mono ?_; rintro e w1 ⟨rfl, hb1⟩) | go_in)
          go_ret2
          exact ⟨.no (n : Int) HN.out (by simp; omega), hb1⟩
      · have HN : Hid (wordV s.data.toList = none) := by rw [HW.out]; exact mg_other (by rw [HV.out]; exact hd)
        have ht : (Lib.itoa (n : Int) == s.toList) = false := by
          rw [itoa_val _ (by omega), hst, Int.toNat_natCast]; simp [hd]
        clear hd hst
        go_wp2_with (first | (go_at_call 36; refine (spec_digits _ (by omega) (by omega) _).mono ?_; rintro e w1 ⟨rfl, hb1⟩) | go_in)
        go_ret2
        exact ⟨.no _ HN.out rfl, hb1⟩

theorem spec_word (s : ByteArray) (w : World) (hs : s.size ≤ maxLen) :
    Calls Tryz.prog 44 #[.string s] w fun e w' => IsWord (wordV s.data.toList) e ∧ Below w.heap.size w w' := by
  by_cases h0 : 0 < s.size
  · by_cases hm : (s[0].toNat : Int) = 45
    · exact word_minus s w hs h0 hm
    · exact word_plus s w hs h0 hm
  · have hl : s.data.toList.length = s.size := by simp
    have hn : s.data.toList = [] := List.eq_nil_of_length_eq_zero (by omega)
    have HN : Hid (wordV s.data.toList = none) := by
      rw [hn, wordV_plus (by simp)]; exact mg_len (by simp)
    clear hn hl
    have h1 : ¬ (0 : Int) < s.size := by omega
    have h2 : (s.size : Int) < 1 := by omega
    go_enter Tryz.func44, Tryz.ntmps44
    go_wp2
    go_ret2
    exact ⟨.no _ HN.out rfl, Below.refl _ _⟩
end Go.Proofs.YtoljphjmekkneabGreatDoor

/- spec.SymOk at every text: whether it is a name. Condition: the text is no longer than a text can be. -/
namespace Go.Proofs.YtoljphjmekkneabGreatDoor
open Go.ChangeShapes Go.WideShapes Go.ChangeAt Go.RowKit

theorem u8_eq' (c d : UInt8) : (c == d) = ((c.toNat : Int) == (d.toNat : Int)) := by
  rw [Bool.eq_iff_iff]
  simp only [beq_iff_eq]
  constructor
  · rintro rfl; rfl
  · intro h; exact UInt8.toNat_inj.1 (by omega)

theorem snoc_no {l : List UInt8} {k : Nat} {c d : UInt8} (h : (l.take k).contains c = false) (hd : l[k]? = some d) (hne : c ≠ d) : (l.take (k + 1)).contains c = false := by
  rw [List.take_add_one, hd]
  simp only [List.contains_eq_mem, List.mem_append, decide_eq_false_iff_not] at h ⊢
  rintro (h1 | h1)
  · exact h h1
  · simp at h1; exact hne h1

set_option maxHeartbeats 1000000 in
theorem spec_byte (c : UInt8) (w : World) : Calls Tryz.prog 61 #[.int .u8 c.toNat] w fun e w' => e = .returned (.bool (nameB c)) ∧ w' = w := by
  have hc : c.toNat < 256 := c.toNat_lt
  by_cases h1 : (97 : Int) ≤ c.toNat ∧ (c.toNat : Int) ≤ 122
  · have HN : Hid (nameB c = true) := show nameB c = true by
      unfold nameB
      simp only [Bool.or_eq_true, Bool.and_eq_true, decide_eq_true_eq]
      omega
    obtain ⟨h1, h2⟩ := h1
    go_enter Tryz.func61, Tryz.ntmps61
    go_wp2
    go_ret
    exact ⟨by rw [HN.out]; rfl, rfl⟩
  by_cases h2 : (48 : Int) ≤ c.toNat ∧ (c.toNat : Int) ≤ 57
  · have HN : Hid (nameB c = true) := show nameB c = true by
      unfold nameB
      simp only [Bool.or_eq_true, Bool.and_eq_true, decide_eq_true_eq]
      omega
    obtain ⟨h2, h3⟩ := h2
    have h4 : ¬ (97 : Int) ≤ c.toNat := by omega
    clear h1
    go_enter Tryz.func61, Tryz.ntmps61
    go_wp2
    go_ret
    exact ⟨by rw [HN.out]; rfl, rfl⟩
  have HL : Hid (nameB c = (([43, 45, 42, 60, 61, 63, 46, 95] : List UInt8).contains c)) := show nameB c = _ by
    unfold nameB
    have e1 : (decide (97 ≤ c.toNat) && decide (c.toNat ≤ 122)) = false := by rw [Bool.and_eq_false_iff, decide_eq_false_iff_not, decide_eq_false_iff_not]; omega
    have e2 : (decide (48 ≤ c.toNat) && decide (c.toNat ≤ 57)) = false := by rw [Bool.and_eq_false_iff, decide_eq_false_iff_not, decide_eq_false_iff_not]; omega
    rw [e1, e2]; rfl
  have h3 : (c.toNat : Int) < 48 ∨ ((57 : Int) < c.toNat ∧ (c.toNat : Int) < 97) ∨ (122 : Int) < c.toNat := by omega
  clear h1 h2
  rcases h3 with h3 | ⟨h3, h4⟩ | h3
  all_goals
    go_enter Tryz.func61, Tryz.ntmps61
    go_wp2
    go_loop [4] (fun i => ∃ k : Nat, k ≤ 8 ∧ i = .int .i64 k ∧ (([43, 45, 42, 60, 61, 63, 46, 95] : List UInt8).take k).contains c = false) (fun i => 8 - (intOf i).toNat)
    case atStart => exact ⟨0, Nat.zero_le _, rfl, rfl⟩
    case round =>
      obtain ⟨k, hk, rfl, hno⟩ := hrel
      have HO : Hid ((([43, 45, 42, 60, 61, 63, 46, 95] : List UInt8).take k).contains c = false) := hno
      clear hno
      by_cases hlt : (k : Int) < 8
      · have hlt' : k < (⟨#[43, 45, 42, 60, 61, 63, 46, 95]⟩ : ByteArray).size := by show k < 8; omega
        have hg : ([43, 45, 42, 60, 61, 63, 46, 95] : List UInt8)[k]? = some ((⟨#[43, 45, 42, 60, 61, 63, 46, 95]⟩ : ByteArray)[k]'hlt') := List.getElem?_eq_getElem (by show k < 8; omega)
        by_cases he : (⟨#[43, 45, 42, 60, 61, 63, 46, 95]⟩ : ByteArray)[k]'hlt' = c
        · have HN : Hid (nameB c = true) := show nameB c = true by
            rw [HL.out, ← he]
            exact List.contains_iff_mem.2 (List.mem_of_getElem? hg)
          have hx : ((((⟨#[43, 45, 42, 60, 61, 63, 46, 95]⟩ : ByteArray)[k]'hlt').toNat : Int) == (c.toNat : Int)) = true := by rw [he]; simp
          clear he hg
          go_wp2
          go_ret
          exact ⟨by rw [HN.out]; rfl, rfl⟩
        · have HO2 : Hid ((([43, 45, 42, 60, 61, 63, 46, 95] : List UInt8).take (k + 1)).contains c = false) := snoc_no HO.out hg (fun e => he e.symm)
          have hx : ((((⟨#[43, 45, 42, 60, 61, 63, 46, 95]⟩ : ByteArray)[k]'hlt').toNat : Int) == (c.toNat : Int)) = false := by
            rw [← u8_eq' _ c]; exact beq_eq_false_iff_ne.2 he
          clear he hg
          go_wp2
          go_round
          case rel => exact ⟨k + 1, by omega, by go_num, HO2.out⟩
          case measure => simp [intOf]; omega
      · have hk8 : k = 8 := by omega
        have HN : Hid (nameB c = false) := show nameB c = false by rw [HL.out]; have := HO.out; rw [hk8] at this; exact this
        clear hk8
        go_wp2
        go_ret
        exact ⟨by rw [HN.out]; rfl, rfl⟩

theorem get_list (s : ByteArray) (k : Nat) (h : k < s.size) : s.data.toList[k]? = some (s[k]'h) := List.getElem?_eq_getElem (by simpa using h)

theorem begNum_dig (s : ByteArray) (h0 : 0 < s.size) (hd : digB (s[0]'h0) = true) : begNum s.data.toList = true := by
  have h := get_list s 0 h0
  cases e : s.data.toList with
  | nil => rw [e] at h; simp at h
  | cons c r => rw [e] at h; simp at h; subst h; simp [begNum, hd]

theorem begNum_other (s : ByteArray) (h0 : 0 < s.size) (hd : digB (s[0]'h0) = false) (hm : s[0]'h0 ≠ 45) : begNum s.data.toList = false := by
  have h := get_list s 0 h0
  cases e : s.data.toList with
  | nil => rw [e] at h; simp at h
  | cons c r => rw [e] at h; simp at h; subst h; simp [begNum, hd, hm]

theorem begNum_one (s : ByteArray) (h1 : s.size = 1) (hm : s[0]'(by omega) = 45) : begNum s.data.toList = false := by
  have h := get_list s 0 (by omega)
  have hl : s.data.toList.length = 1 := by simpa using h1
  cases e : s.data.toList with
  | nil => rw [e] at h; simp at h
  | cons c r =>
    rw [e] at h hl
    simp at h hl
    subst hl
    rw [h, hm]; rfl

theorem begNum_two (s : ByteArray) (h1 : 1 < s.size) (hm : s[0]'(by omega) = 45) : begNum s.data.toList = digB (s[1]'h1) := by
  have h := get_list s 0 (by omega)
  have h' := get_list s 1 h1
  cases e : s.data.toList with
  | nil => rw [e] at h; simp at h
  | cons c r =>
    rw [e] at h h'
    simp at h h'
    rw [hm] at h
    subst h
    cases r with
    | nil => simp at h'
    | cons d r =>
      simp at h'
      subst h'
      show (digB 45 || ((45 : UInt8) == 45 && digB _)) = _
      rw [show digB 45 = false from by decide, show ((45 : UInt8) == 45) = true from by decide]
      simp

theorem symB_len {l : List UInt8} (h : l.length < 1 ∨ 12 < l.length) : symB l = false := by
  unfold symB
  rcases h with h | h
  · have : decide (1 ≤ l.length) = false := by rw [decide_eq_false_iff_not]; omega
    rw [this]; rfl
  · have : decide (l.length ≤ 12) = false := by rw [decide_eq_false_iff_not]; omega
    rw [this]; simp

theorem symB_beg {l : List UInt8} (h : begNum l = true) : symB l = false := by
  unfold symB; rw [h]; simp

theorem symB_bad {l : List UInt8} (c : UInt8) (hc : c ∈ l) (h : nameB c = false) : symB l = false := by
  unfold symB
  have : l.all nameB = false := by
    rw [List.all_eq_false]
    exact ⟨c, hc, by simp [h]⟩
  rw [this]; simp

theorem symB_yes {l : List UInt8} (h1 : 1 ≤ l.length) (h2 : l.length ≤ 12) (h3 : begNum l = false) (h4 : ∀ c ∈ l, nameB c = true) : symB l = true := by
  unfold symB
  have : l.all nameB = true := List.all_eq_true.2 h4
  rw [this, h3, decide_eq_true h1, decide_eq_true h2]; rfl

set_option maxHeartbeats 1000000 in
theorem spec_sym (s : ByteArray) (w : World) (hs : s.size ≤ maxLen) :
    Calls Tryz.prog 45 #[.string s] w fun e w' => e = .returned (.bool (symB s.data.toList)) ∧ w' = w := by
  unfold maxLen at hs
  go_enter Tryz.func45, Tryz.ntmps45
  go_wp2
  go_loop [3] (fun i => ∃ k : Nat, k ≤ s.size ∧ i = .int .i64 k ∧ ∀ c ∈ s.data.toList.take k, nameB c = true) (fun i => s.size - (intOf i).toNat)
  case atStart => exact ⟨0, Nat.zero_le _, rfl, by simp⟩
  case round =>
    obtain ⟨k, hk, rfl, hd⟩ := hrel
    have HD : Hid (∀ c ∈ s.data.toList.take k, nameB c = true) := hd
    clear hd
    by_cases hlt : (k : Int) < s.size
    · have hlt' : k < s.size := by omega
      have HT : Hid (s.data.toList.take (k + 1) = s.data.toList.take k ++ [s[k]]) := take_snoc s k hlt'
      have HM : Hid (s[k] ∈ s.data.toList) := byte_mem s k hlt'
      cases hn : nameB s[k] with
      | false =>
        have HN : Hid (symB s.data.toList = false) := symB_bad s[k] HM.out hn
        go_wp2_with (go_at_call 61; refine (spec_byte s[k] _).mono ?_; rintro e w1 ⟨rfl, rfl⟩)
        go_ret
        exact ⟨by rw [HN.out]; rfl, rfl⟩
      | true =>
        have HN : Hid (nameB s[k] = true) := hn
        go_wp2_with (go_at_call 61; refine (spec_byte s[k] _).mono ?_; rintro e w1 ⟨rfl, rfl⟩)
        go_round
        case rel =>
          refine ⟨k + 1, by omega, by go_num, ?_⟩
          rw [HT.out]
          intro c hc
          rcases List.mem_append.1 hc with hc | hc
          · exact HD.out c hc
          · simp only [List.mem_singleton] at hc
            subst hc
            exact HN.out
        case measure => simp [intOf]; omega
    · have hke : k = s.size := by omega
      have HA : Hid (∀ c ∈ s.data.toList, nameB c = true) := show ∀ c ∈ s.data.toList, nameB c = true by
        have := HD.out
        rw [hke, List.take_of_length_le (by simp)] at this
        exact this
      have hl : s.data.toList.length = s.size := by simp
      clear HD hke
      by_cases h1 : (s.size : Int) < 1
      · have HN : Hid (symB s.data.toList = false) := symB_len (by omega)
        clear hl
        go_wp2_with (first | (go_at_call 62; go_in))
        go_ret
        exact ⟨by rw [HN.out]; rfl, rfl⟩
      by_cases h2 : (12 : Int) < s.size
      · have HN : Hid (symB s.data.toList = false) := symB_len (by omega)
        clear hl
        go_wp2_with (first | (go_at_call 62; go_in))
        go_ret
        exact ⟨by rw [HN.out]; rfl, rfl⟩
      have h0 : 0 < s.size := by omega
      cases hd : digB s[0] with
      | true =>
        have HN : Hid (symB s.data.toList = false) := symB_beg (begNum_dig s h0 hd)
        clear hl
        go_wp2_with (first | (go_at_call 62; go_in) | (go_at_call 60; refine (spec_digit s[0] _).mono ?_; rintro e w1 ⟨rfl, rfl⟩))
        go_ret
        exact ⟨by rw [HN.out]; rfl, rfl⟩
      | false =>
      by_cases hm : s[0] = 45
      · by_cases h3 : s.size = 1
        · have HN : Hid (symB s.data.toList = true) := symB_yes (by omega) (by omega) (begNum_one s h3 hm) HA.out
          have hm' : ((s[0].toNat : Int) != 45) = false := by rw [hm]; rfl
          have h3' : ((s.size : Int) == 1) = true := by rw [h3]; rfl
          clear hl hm h3
          go_wp2_with (first | (go_at_call 62; go_in) | (go_at_call 60; refine (spec_digit s[0] _).mono ?_; rintro e w1 ⟨rfl, rfl⟩))
          go_ret
          exact ⟨by rw [HN.out]; rfl, rfl⟩
        · have h4 : 1 < s.size := by omega
          have hb := begNum_two s h4 hm
          have hm' : ((s[0].toNat : Int) != 45) = false := by rw [hm]; rfl
          have h3' : ((s.size : Int) == 1) = false := by simp; omega
          have h4' : (1 : Int) < s.size := by omega
          cases hd1 : digB s[1] with
          | true =>
            have HN : Hid (symB s.data.toList = false) := symB_beg (by rw [hb, hd1])
            clear hl hm h3 hb
            go_wp2_with (first | (go_at_call 62; go_in) | (go_at_call 60; refine (spec_digit _ _).mono ?_; rintro e w1 ⟨rfl, rfl⟩))
            go_ret
            exact ⟨by rw [HN.out]; rfl, rfl⟩
          | false =>
            have HN : Hid (symB s.data.toList = true) := symB_yes (by omega) (by omega) (by rw [hb, hd1]) HA.out
            clear hl hm h3 hb
            go_wp2_with (first | (go_at_call 62; go_in) | (go_at_call 60; refine (spec_digit _ _).mono ?_; rintro e w1 ⟨rfl, rfl⟩))
            go_ret
            exact ⟨by rw [HN.out]; rfl, rfl⟩
      · have HN : Hid (symB s.data.toList = true) := symB_yes (by omega) (by omega) (begNum_other s h0 hd hm) HA.out
        have hm' : ((s[0].toNat : Int) != 45) = true := by
          have := u8_eq' s[0] 45
          rw [show ((45 : UInt8).toNat : Int) = 45 from rfl] at this
          rw [bne, ← this, beq_eq_false_iff_ne.2 hm]; rfl
        clear hl hm
        go_wp2_with (first | (go_at_call 62; go_in) | (go_at_call 60; refine (spec_digit s[0] _).mono ?_; rintro e w1 ⟨rfl, rfl⟩))
        go_ret
        exact ⟨by rw [HN.out]; rfl, rfl⟩
end Go.Proofs.YtoljphjmekkneabGreatDoor
