/- impl.beginsNumber and impl.SymOk at every text. Condition: the text has at most 2^20 bytes. -/
import Derived.Test.YtafpbcdgcgffeajDoorImplSym
namespace Go.Proofs.YtafpbcdgcgffeajDoor
open Go.ChangeShapes Go.WideShapes Go.ChangeAt Go.RowKit

set_option maxHeartbeats 1000000 in
theorem impl_begins (s : ByteArray) (w : World) : Calls Tryd.prog 71 #[.string s] w fun e w' => e = .returned (.bool (begNum s.data.toList)) ∧ w' = w := by
  have HC : Hid (Calls Tryd.prog 80 #[.string s, .string ⟨#[45]⟩] w fun e w' => e = .returned (.string ⟨(Lib.trimPrefix s.data.toList [45]).toArray⟩) ∧ w' = w) := Tryd.strings_TrimPrefix s ⟨#[45]⟩ w
  have HB : Hid (begNum s.data.toList = match Lib.trimPrefix s.data.toList [45] with | [] => false | c :: _ => digB c) := begNum_rest s
  generalize Lib.trimPrefix s.data.toList [45] = l at HC HB
  cases l with
  | nil =>
    have HN : Hid (begNum s.data.toList = false) := HB
    clear HB
    go_enter Tryd.func71, Tryd.ntmps71
    go_wp2_with (go_at_call 80; refine HC.out.mono ?_; rintro e w1 ⟨rfl, rfl⟩)
    go_ret
    exact ⟨by rw [HN.out]; rfl, rfl⟩
  | cons c r =>
    have HN : Hid (begNum s.data.toList = digB c) := HB
    clear HB
    generalize hq : (⟨(c :: r).toArray⟩ : ByteArray) = q at HC
    have hq0 : 0 < q.size := by subst hq; show 0 < (c :: r).toArray.size; simp
    have hqc : q[0]'hq0 = c := by subst hq; rfl
    have hne : (q.toList == ([] : List UInt8)) = false := by rw [ByteArray.toList_eq q, ← hq]; rfl
    have hq1 : (0 : Int) < q.size := by omega
    have hcb : c.toNat < 256 := c.toNat_lt
    clear hq
    go_enter Tryd.func71, Tryd.ntmps71
    go_wp2_with (first | (go_at_call 80; refine HC.out.mono ?_; rintro e w1 ⟨rfl, rfl⟩) | (go_at_call 81; refine (impl_digit c.toNat c.toNat_lt _).mono ?_; rintro e w1 ⟨rfl, rfl⟩))
    go_ret
    exact ⟨by rw [HN.out]; simp, rfl⟩

theorem ofNat_toNat (c : UInt8) : UInt8.ofNat c.toNat = c := by simp

set_option maxHeartbeats 1000000 in
theorem impl_sym (s : ByteArray) (hs : s.size ≤ 1048576) (w : World) : Calls Tryd.prog 56 #[.string s] w fun e w' => e = .returned (.bool (symB s.data.toList)) ∧ Below w.heap.size w w' := by
  have hl : s.data.toList.length = s.size := by simp
  by_cases h0 : s.size = 0
  · have HN : Hid (symB s.data.toList = false) := symB_len (by omega)
    have hn : s.data.toList = [] := List.eq_nil_of_length_eq_zero (by omega)
    have hne : (s.toList == ([] : List UInt8)) = true := by rw [ByteArray.toList_eq s, hn]; rfl
    clear hl hn h0
    go_enter Tryd.func56, Tryd.ntmps56
    go_wp2
    go_ret
    exact ⟨by rw [HN.out]; rfl, Below.refl _ _⟩
  have hne : (s.toList == ([] : List UInt8)) = false := by
    rw [ByteArray.toList_eq s, beq_eq_false_iff_ne]
    intro e; rw [e] at hl; simp at hl; omega
  by_cases h12 : (12 : Int) < s.size
  · have HN : Hid (symB s.data.toList = false) := symB_len (by omega)
    clear hl
    go_enter Tryd.func56, Tryd.ntmps56
    go_wp2
    go_ret
    exact ⟨by rw [HN.out]; rfl, Below.refl _ _⟩
  cases hb : begNum s.data.toList with
  | true =>
    have HN : Hid (symB s.data.toList = false) := symB_beg hb
    clear hl
    go_enter Tryd.func56, Tryd.ntmps56
    go_wp2_with (go_at_call 71; refine (impl_begins s _).mono ?_; rintro e w1 ⟨rfl, rfl⟩)
    go_ret
    exact ⟨by rw [HN.out]; rfl, Below.refl _ _⟩
  | false =>
    have HB : Hid (begNum s.data.toList = false) := hb
    clear hl
    go_enter Tryd.func56, Tryd.ntmps56
    go_wp2_with (go_at_call 71; refine (impl_begins s _).mono ?_; rintro e w1 ⟨rfl, rfl⟩)
    clear hb hne
    go_loopw [4] (fun _ w' => ∃ pos : Nat, pos ≤ s.size ∧ w' = w1.iter s pos ∧ ∀ c ∈ s.data.toList.take pos, nameB c = true) (fun _ w' => s.size - w'.iterPos w1.heap.size)
    case atStart => exact ⟨0, Nat.zero_le _, rfl, by simp⟩
    case round =>
      obtain ⟨pos, hpos, rfl, hd⟩ := hrel
      have HD : Hid (∀ c ∈ s.data.toList.take pos, nameB c = true) := hd
      clear hd
      by_cases hp : pos < s.size
      · have HT : Hid (s.data.toList.take (pos + 1) = s.data.toList.take pos ++ [s[pos]]) := take_snoc s pos hp
        have HM : Hid (s[pos] ∈ s.data.toList) := byte_mem s pos hp
        by_cases ha : (s[pos]).toNat < 128
        · have hnx : ∀ ty, (Instr.next (.pointer (some ⟨w1.heap.size, 0, none⟩)) true ty).run Tryd.prog (w1.iter s pos) = _ := fun ty => run_next_ascii w1 s pos ty hp ha
          cases hn : nameB s[pos] with
          | true =>
            have HN : Hid (nameB s[pos] = true) := hn
            have HC : Hid (∀ w : World, Calls Tryd.prog 72 #[.int .i32 (s[pos]).toNat] w fun e w' => e = .returned (.bool true) ∧ w' = w) := fun w => by
              have := name_low (s[pos]).toNat ha w
              rw [ofNat_toNat, hn] at this
              exact this
            clear hn
            go_wp2_with (go_at_call 72; refine (HC.out _).mono ?_; rintro e w2 ⟨rfl, rfl⟩)
            go_roundw
            case rel =>
              refine ⟨pos + 1, by omega, rfl, ?_⟩
              rw [HT.out]
              intro c hc
              rcases List.mem_append.1 hc with hc | hc
              · exact HD.out c hc
              · simp only [List.mem_singleton] at hc
                subst hc
                exact HN.out
            case measure => simp; omega
          | false =>
            have HN : Hid (symB s.data.toList = false) := symB_bad s[pos] HM.out hn
            have HC : Hid (∀ w : World, Calls Tryd.prog 72 #[.int .i32 (s[pos]).toNat] w fun e w' => e = .returned (.bool false) ∧ w' = w) := fun w => by
              have := name_low (s[pos]).toNat ha w
              rw [ofNat_toNat, hn] at this
              exact this
            clear hn
            go_wp2_with (go_at_call 72; refine (HC.out _).mono ?_; rintro e w2 ⟨rfl, rfl⟩)
            go_ret
            exact ⟨by rw [HN.out]; rfl, below_iter _ _ _⟩
        · have hnx : ∀ ty, (Instr.next (.pointer (some ⟨w1.heap.size, 0, none⟩)) true ty).run Tryd.prog (w1.iter s pos) = _ := fun ty => run_next_any w1 s pos ty hp
          have HN : Hid (symB s.data.toList = false) := symB_bad s[pos] HM.out (name_high _ (by omega))
          have HV : Hid ((Utf8.decode s pos).1 ≤ 1114111 ∧ Utf8.valid ((Utf8.decode s pos).1 : Int) = true ∧ 128 ≤ (Utf8.decode s pos).1) := by
            obtain ⟨h1, h2⟩ := decode_valid s pos hp (by omega)
            exact ⟨h1, h2, (decode_high s pos hp (by omega)).1⟩
          go_wp2_with (go_at_call 72; refine (name_high_call (Utf8.decode s pos).1 HV.out.2.2 HV.out.1 HV.out.2.1 _).mono ?_; rintro e w2 ⟨rfl, hb2⟩)
          go_ret
          exact ⟨by rw [HN.out]; rfl, (below_iter _ _ _).trans (hb2.mono (by simp [World.iter]))⟩
      · have hnx : ∀ ty, (Instr.next (.pointer (some ⟨w1.heap.size, 0, none⟩)) true ty).run Tryd.prog (w1.iter s pos) = _ := fun ty => run_next_end w1 s pos ty hp
        have hpe : pos = s.size := by omega
        have HN : Hid (symB s.data.toList = true) := by
          have hl : s.data.toList.length = s.size := by simp
          refine symB_yes (by omega) (by omega) HB.out ?_
          have := HD.out
          rw [hpe, List.take_of_length_le (by simp)] at this
          exact this
        clear hpe
        go_wp2
        go_ret
        exact ⟨by rw [HN.out]; rfl, below_iter _ _ _⟩
end Go.Proofs.YtafpbcdgcgffeajDoor
