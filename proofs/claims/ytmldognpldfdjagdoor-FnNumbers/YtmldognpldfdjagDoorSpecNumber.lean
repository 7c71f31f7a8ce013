/- spec.Number at every text: the word that it spells and true, or 0 and false. Condition: the text is no longer than a text can be. -/
import Derived.Test.YtmldognpldfdjagDoorSpecDigits
import Derived.Test.YtmldognpldfdjagDoorPlainNumber
import Derived.WalkKit
import Derived.ProofKit
import Derived.Below
namespace Go.Proofs.YtmldognpldfdjagDoor
open Go.ChangeShapes Go.WideShapes Go.ChangeAt Go.RowKit

theorem take_snoc (s : ByteArray) (k : Nat) (h : k < s.size) : s.data.toList.take (k + 1) = s.data.toList.take k ++ [s[k]] := by
  rw [List.take_succ_eq_append_getElem (by simpa using h)]; rfl

theorem byte_mem (s : ByteArray) (k : Nat) (h : k < s.size) : s[k] ∈ s.data.toList := by
  have : s[k] = s.data.toList[k]'(by simpa using h) := rfl
  rw [this]; exact List.getElem_mem _

theorem val_take_lt (l : List UInt8) (k : Nat) (hd : ∀ c ∈ l.take k, isDig c) : val (l.take k) < 10 ^ (l.take k).length := by
  have key : ∀ (m : List UInt8), (∀ c ∈ m, isDig c) → ∀ a j, a < 10 ^ j → valFrom a m < 10 ^ (j + m.length) := by
    intro m
    induction m with
    | nil => intro _ a j h; exact h
    | cons c r ih =>
      intro hm a j h
      have hc := hm c List.mem_cons_self
      unfold isDig at hc
      have := ih (fun d h => hm d (List.mem_cons_of_mem _ h)) (a * 10 + (c.toNat - 48)) (j + 1) (by rw [Nat.pow_succ]; omega)
      rw [show j + (c :: r).length = j + 1 + r.length from by simp; omega]
      exact this
  have := key (l.take k) hd 0 0 (by omega)
  simpa [val] using this

/-- What Number answers at the text l. -/
def numRes (l : List UInt8) : Value := .tuple #[.int .i64 (if numB l = true then (val l : Int) else 0), .bool (numB l)]
theorem numRes_no {l : List UInt8} (h : numB l = false) : numRes l = .tuple #[.int .i64 0, .bool false] := by
  unfold numRes; rw [h]; rfl
theorem numRes_yes {l : List UInt8} (h : numB l = true) : numRes l = .tuple #[.int .i64 (val l), .bool true] := by
  unfold numRes; rw [h]; rfl

set_option maxHeartbeats 1000000 in
theorem spec_number (s : ByteArray) (w : World) (hs : s.size ≤ maxLen) :
    Calls Tryd.prog 11 #[.string s] w fun e w' => e = .returned (numRes s.data.toList) ∧ Below w.heap.size w w' := by
  unfold maxLen at hs
  have hl : s.data.toList.length = s.size := by simp
  by_cases h1 : (s.size : Int) < 1
  · have HN : Hid (numB s.data.toList = false) := no_of_len (by omega)
    go_enter Tryd.func11, Tryd.ntmps11
    go_wp2
    go_ret2
    exact ⟨by rw [numRes_no HN.out]; rfl, Below.refl _ _⟩
  by_cases h2 : (10 : Int) < s.size
  · have HN : Hid (numB s.data.toList = false) := no_of_len (by omega)
    go_enter Tryd.func11, Tryd.ntmps11
    go_wp2
    go_ret2
    exact ⟨by rw [numRes_no HN.out]; rfl, Below.refl _ _⟩
  clear hl
  go_enter Tryd.func11, Tryd.ntmps11
  go_wp2
  go_loop [4, 5] (fun x i => ∃ k : Nat, k ≤ s.size ∧ i = .int .i64 k ∧ (∀ c ∈ s.data.toList.take k, isDig c) ∧ x = .int .i64 (val (s.data.toList.take k))) (fun _ i => s.size - (intOf i).toNat)
  case atStart => exact ⟨0, Nat.zero_le _, rfl, by simp, rfl⟩
  case round =>
    obtain ⟨k, hk, rfl, hd, rfl⟩ := hrel
    have hlen : (s.data.toList.take k).length = k := by rw [List.length_take]; simp; omega
    have hv := val_take_lt s.data.toList k hd
    rw [hlen] at hv
    have hp : 10 ^ k ≤ 10 ^ 10 := Nat.pow_le_pow_right (by omega) (by omega)
    have hv2 : val (s.data.toList.take k) < 10000000000 := by omega
    clear hv hp hlen
    have HD : Hid (∀ c ∈ s.data.toList.take k, isDig c) := hd
    clear hd
    by_cases hlt : (k : Int) < s.size
    · have hlt' : k < s.size := by omega
      have HT : Hid (s.data.toList.take (k + 1) = s.data.toList.take k ++ [s[k]]) := take_snoc s k hlt'
      have HM : Hid (s[k] ∈ s.data.toList) := byte_mem s k hlt'
      by_cases hc1 : (s[k].toNat : Int) < 48
      · have HN : Hid (numB s.data.toList = false) := no_of_byte s[k] HM.out (by unfold isDig; omega)
        go_wp2
        go_ret2
        exact ⟨by rw [numRes_no HN.out]; rfl, Below.refl _ _⟩
      by_cases hc2 : (57 : Int) < s[k].toNat
      · have HN : Hid (numB s.data.toList = false) := no_of_byte s[k] HM.out (by unfold isDig; omega)
        go_wp2
        go_ret2
        exact ⟨by rw [numRes_no HN.out]; rfl, Below.refl _ _⟩
      go_wp2
      refine ⟨⟨k + 1, by omega, by go_num, ?_, ?_⟩, by simp [intOf]; omega⟩
      · rw [HT.out]
        intro c hc
        rcases List.mem_append.1 hc with hc | hc
        · exact HD.out c hc
        · simp only [List.mem_singleton] at hc
          subst hc
          unfold isDig; omega
      · rw [HT.out, val_append]
        have : (((val (List.take k s.data.toList) * 10 + (s[k].toNat - 48) : Nat)) : Int) = 10 * ↑(val (List.take k s.data.toList)) + ↑s[k].toNat - 48 := by omega
        rw [this]
    · have hke : k = s.size := by omega
      subst hke
      rw [List.take_of_length_le (by simp)] at hv2 ⊢
      have hvn : ∃ n : Nat, val s.data.toList = n := ⟨_, rfl⟩
      obtain ⟨n, hn⟩ := hvn
      have HV : Hid (val s.data.toList = n) := hn
      rw [hn] at hv2 ⊢
      clear hn HD
      have hst : s.toList = s.data.toList := ByteArray.toList_eq s
      by_cases hc : (n : Int) ≤ 1073741823
      · by_cases hd : Lib.decDigits n = s.data.toList
        · have HN : Hid (numB s.data.toList = true) := numB_iff.2 ⟨by rw [HV.out]; omega, by rw [HV.out]; exact hd⟩
          have ht : (Lib.itoa (n : Int) == s.toList) = true := by
            rw [itoa_val _ (by omega), hst, Int.toNat_natCast, hd]; simp
          clear hd hst
          go_wp2_with (first | (go_at_call 8; refine (spec_digits _ (by omega) (by omega) _).mono ?_; rintro e w1 ⟨rfl, hb1⟩) | (go_at_call 16; go_in) | (go_at_call 25; go_in))
          go_ret2
          exact ⟨by rw [numRes_yes HN.out, HV.out]; rfl, hb1⟩
        · have HN : Hid (numB s.data.toList = false) := no_of_other (by rw [HV.out]; exact hd)
          have ht : (Lib.itoa (n : Int) == s.toList) = false := by
            rw [itoa_val _ (by omega), hst, Int.toNat_natCast]; simp [hd]
          clear hd hst
          go_wp2_with (first | (go_at_call 8; refine (spec_digits _ (by omega) (by omega) _).mono ?_; rintro e w1 ⟨rfl, hb1⟩) | (go_at_call 16; go_in) | (go_at_call 25; go_in))
          go_ret2
          exact ⟨by rw [numRes_no HN.out]; rfl, hb1⟩
      · have HN : Hid (numB s.data.toList = false) := no_of_big (by rw [HV.out]; omega)
        clear hst
        go_wp2
        go_ret2
        exact ⟨by rw [numRes_no HN.out]; rfl, Below.refl _ _⟩
end Go.Proofs.YtmldognpldfdjagDoor
