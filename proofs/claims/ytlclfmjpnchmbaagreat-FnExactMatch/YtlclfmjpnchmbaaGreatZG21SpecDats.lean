/- spec.SymOk at every text: whether it is a name. Condition: the text is no longer than a text can be. -/
import Derived.Test.YtlclfmjpnchmbaaGreatRows
import Derived.Test.YtlclfmjpnchmbaaGreatZG20SpecDig
import Derived.Test.YtlclfmjpnchmbaaGreatZG10StxOkP
import Derived.WalkKit
import Derived.ProofKit
import Derived.Below
import Derived.OwnWalk
namespace Go.Proofs.YtlclfmjpnchmbaaGreat
open Go.ChangeShapes Go.WideShapes Go.ChangeAt Go.RowKit

theorem u8_eq' (c d : UInt8) : (c == d) = ((c.toNat : Int) == (d.toNat : Int)) := by
  rw [Bool.eq_iff_iff]
  simp only [beq_iff_eq]
  constructor
  · rintro rfl; rfl
  · intro h; exact UInt8.toNat_inj.1 (by omega)

theorem snoc_no {l : List UInt8} {k : Nat} {c d : UInt8} (h : (l.take k).contains c = false) (hd : l[k]? = some d) (hne : c ≠ d) : (l.take (k + 1)).contains c = false := by
  rw [List.take_add_one, hd]
  simp only [List.contains_eq_mem, List.mem_append, decide_eq_false_iff_not] at h ⊢
  rintro (h1 | h1)
  · exact h h1
  · simp at h1; exact hne h1

set_option maxHeartbeats 1000000 in
theorem spec_byte (c : UInt8) (w : World) : Calls Tryz.prog 80 #[.int .u8 c.toNat] w fun e w' => e = .returned (.bool (nameB c)) ∧ w' = w := by
  have hc : c.toNat < 256 := c.toNat_lt
  by_cases h1 : (97 : Int) ≤ c.toNat ∧ (c.toNat : Int) ≤ 122
  · have HN : Hid (nameB c = true) := show nameB c = true by
      unfold nameB
      simp only [Bool.or_eq_true, Bool.and_eq_true, decide_eq_true_eq]
      omega
    obtain ⟨h1, h2⟩ := h1
    go_enter Tryz.func80, Tryz.ntmps80
    go_wp2
    go_ret
    exact ⟨by rw [HN.out]; rfl, rfl⟩
  by_cases h2 : (48 : Int) ≤ c.toNat ∧ (c.toNat : Int) ≤ 57
  · have HN : Hid (nameB c = true) := show nameB c = true by
      unfold nameB
      simp only [Bool.or_eq_true, Bool.and_eq_true, decide_eq_true_eq]
      omega
    obtain ⟨h2, h3⟩ := h2
    have h4 : ¬ (97 : Int) ≤ c.toNat := by omega
    clear h1
    go_enter Tryz.func80, Tryz.ntmps80
    go_wp2
    go_ret
    exact ⟨by rw [HN.out]; rfl, rfl⟩
  have HL : Hid (nameB c = (([43, 45, 42, 60, 61, 63, 46, 95] : List UInt8).contains c)) := show nameB c = _ by
    unfold nameB
    have e1 : (decide (97 ≤ c.toNat) && decide (c.toNat ≤ 122)) = false := by rw [Bool.and_eq_false_iff, decide_eq_false_iff_not, decide_eq_false_iff_not]; omega
    have e2 : (decide (48 ≤ c.toNat) && decide (c.toNat ≤ 57)) = false := by rw [Bool.and_eq_false_iff, decide_eq_false_iff_not, decide_eq_false_iff_not]; omega
    rw [e1, e2]; rfl
  have h3 : (c.toNat : Int) < 48 ∨ ((57 : Int) < c.toNat ∧ (c.toNat : Int) < 97) ∨ (122 : Int) < c.toNat := by omega
  clear h1 h2
  rcases h3 with h3 | ⟨h3, h4⟩ | h3
  all_goals
    go_enter Tryz.func80, Tryz.ntmps80
    go_wp2
    go_loop [4] (fun i => ∃ k : Nat, k ≤ 8 ∧ i = .int .i64 k ∧ (([43, 45, 42, 60, 61, 63, 46, 95] : List UInt8).take k).contains c = false) (fun i => 8 - (intOf i).toNat)
    case atStart => exact ⟨0, Nat.zero_le _, rfl, rfl⟩
    case round =>
      obtain ⟨k, hk, rfl, hno⟩ := hrel
      have HO : Hid ((([43, 45, 42, 60, 61, 63, 46, 95] : List UInt8).take k).contains c = false) := hno
      clear hno
      by_cases hlt : (k : Int) < 8
      · have hlt' : k < (⟨#[43, 45, 42, 60, 61, 63, 46, 95]⟩ : ByteArray).size := by show k < 8; omega
        have hg : ([43, 45, 42, 60, 61, 63, 46, 95] : List UInt8)[k]? = some ((⟨#[43, 45, 42, 60, 61, 63, 46, 95]⟩ : ByteArray)[k]'hlt') := List.getElem?_eq_getElem (by show k < 8; omega)
        by_cases he : (⟨#[43, 45, 42, 60, 61, 63, 46, 95]⟩ : ByteArray)[k]'hlt' = c
        · have HN : Hid (nameB c = true) := show nameB c = true by
            rw [HL.out, ← he]
            exact List.contains_iff_mem.2 (List.mem_of_getElem? hg)
          have hx : ((((⟨#[43, 45, 42, 60, 61, 63, 46, 95]⟩ : ByteArray)[k]'hlt').toNat : Int) == (c.toNat : Int)) = true := by rw [he]; simp
          clear he hg
          go_wp2
          go_ret
          exact ⟨by rw [HN.out]; rfl, rfl⟩
        · have HO2 : Hid ((([43, 45, 42, 60, 61, 63, 46, 95] : List UInt8).take (k + 1)).contains c = false) := snoc_no HO.out hg (fun e => he e.symm)
          have hx : ((((⟨#[43, 45, 42, 60, 61, 63, 46, 95]⟩ : ByteArray)[k]'hlt').toNat : Int) == (c.toNat : Int)) = false := by
            rw [← u8_eq' _ c]; exact beq_eq_false_iff_ne.2 he
          clear he hg
          go_wp2
          go_round
          case rel => exact ⟨k + 1, by omega, by go_num, HO2.out⟩
          case measure => simp [intOf]; omega
      · have hk8 : k = 8 := by omega
        have HN : Hid (nameB c = false) := show nameB c = false by rw [HL.out]; have := HO.out; rw [hk8] at this; exact this
        clear hk8
        go_wp2
        go_ret
        exact ⟨by rw [HN.out]; rfl, rfl⟩

theorem get_list (s : ByteArray) (k : Nat) (h : k < s.size) : s.data.toList[k]? = some (s[k]'h) := List.getElem?_eq_getElem (by simpa using h)

theorem begNum_dig (s : ByteArray) (h0 : 0 < s.size) (hd : digB (s[0]'h0) = true) : begNum s.data.toList = true := by
  have h := get_list s 0 h0
  cases e : s.data.toList with
  | nil => rw [e] at h; simp at h
  | cons c r => rw [e] at h; simp at h; subst h; simp [begNum, hd]

theorem begNum_other (s : ByteArray) (h0 : 0 < s.size) (hd : digB (s[0]'h0) = false) (hm : s[0]'h0 ≠ 45) : begNum s.data.toList = false := by
  have h := get_list s 0 h0
  cases e : s.data.toList with
  | nil => rw [e] at h; simp at h
  | cons c r => rw [e] at h; simp at h; subst h; simp [begNum, hd, hm]

theorem begNum_one (s : ByteArray) (h1 : s.size = 1) (hm : s[0]'(by omega) = 45) : begNum s.data.toList = false := by
  have h := get_list s 0 (by omega)
  have hl : s.data.toList.length = 1 := by simpa using h1
  cases e : s.data.toList with
  | nil => rw [e] at h; simp at h
  | cons c r =>
    rw [e] at h hl
    simp at h hl
    subst hl
    rw [h, hm]; rfl

theorem begNum_two (s : ByteArray) (h1 : 1 < s.size) (hm : s[0]'(by omega) = 45) : begNum s.data.toList = digB (s[1]'h1) := by
  have h := get_list s 0 (by omega)
  have h' := get_list s 1 h1
  cases e : s.data.toList with
  | nil => rw [e] at h; simp at h
  | cons c r =>
    rw [e] at h h'
    simp at h h'
    rw [hm] at h
    subst h
    cases r with
    | nil => simp at h'
    | cons d r =>
      simp at h'
      subst h'
      show (digB 45 || ((45 : UInt8) == 45 && digB _)) = _
      rw [show digB 45 = false from by decide, show ((45 : UInt8) == 45) = true from by decide]
      simp

theorem symB_len {l : List UInt8} (h : l.length < 1 ∨ 12 < l.length) : symB l = false := by
  unfold symB
  rcases h with h | h
  · have : decide (1 ≤ l.length) = false := by rw [decide_eq_false_iff_not]; omega
    rw [this]; rfl
  · have : decide (l.length ≤ 12) = false := by rw [decide_eq_false_iff_not]; omega
    rw [this]; simp

theorem symB_beg {l : List UInt8} (h : begNum l = true) : symB l = false := by
  unfold symB; rw [h]; simp

theorem symB_bad {l : List UInt8} (c : UInt8) (hc : c ∈ l) (h : nameB c = false) : symB l = false := by
  unfold symB
  have : l.all nameB = false := by
    rw [List.all_eq_false]
    exact ⟨c, hc, by simp [h]⟩
  rw [this]; simp

theorem symB_yes {l : List UInt8} (h1 : 1 ≤ l.length) (h2 : l.length ≤ 12) (h3 : begNum l = false) (h4 : ∀ c ∈ l, nameB c = true) : symB l = true := by
  unfold symB
  have : l.all nameB = true := List.all_eq_true.2 h4
  rw [this, h3, decide_eq_true h1, decide_eq_true h2]; rfl

set_option maxHeartbeats 1000000 in
theorem spec_sym (s : ByteArray) (w : World) (hs : s.size ≤ maxLen) :
    Calls Tryz.prog 65 #[.string s] w fun e w' => e = .returned (.bool (symB s.data.toList)) ∧ w' = w := by
  unfold maxLen at hs
  go_enter Tryz.func65, Tryz.ntmps65
  go_wp2
  go_loop [3] (fun i => ∃ k : Nat, k ≤ s.size ∧ i = .int .i64 k ∧ ∀ c ∈ s.data.toList.take k, nameB c = true) (fun i => s.size - (intOf i).toNat)
  case atStart => exact ⟨0, Nat.zero_le _, rfl, by simp⟩
  case round =>
    obtain ⟨k, hk, rfl, hd⟩ := hrel
    have HD : Hid (∀ c ∈ s.data.toList.take k, nameB c = true) := hd
    clear hd
    by_cases hlt : (k : Int) < s.size
    · have hlt' : k < s.size := by omega
      have HT : Hid (s.data.toList.take (k + 1) = s.data.toList.take k ++ [s[k]]) := take_snoc s k hlt'
      have HM : Hid (s[k] ∈ s.data.toList) := byte_mem s k hlt'
      cases hn : nameB s[k] with
      | false =>
        have HN : Hid (symB s.data.toList = false) := symB_bad s[k] HM.out hn
        go_wp2_with (go_at_call 80; refine (spec_byte s[k] _).mono ?_; rintro e w1 ⟨rfl, rfl⟩)
        go_ret
        exact ⟨by rw [HN.out]; rfl, rfl⟩
      | true =>
        have HN : Hid (nameB s[k] = true) := hn
        go_wp2_with (go_at_call 80; refine (spec_byte s[k] _).mono ?_; rintro e w1 ⟨rfl, rfl⟩)
        go_round
        case rel =>
          refine ⟨k + 1, by omega, by go_num, ?_⟩
          rw [HT.out]
          intro c hc
          rcases List.mem_append.1 hc with hc | hc
          · exact HD.out c hc
          · simp only [List.mem_singleton] at hc
            subst hc
            exact HN.out
        case measure => simp [intOf]; omega
    · have hke : k = s.size := by omega
      have HA : Hid (∀ c ∈ s.data.toList, nameB c = true) := show ∀ c ∈ s.data.toList, nameB c = true by
        have := HD.out
        rw [hke, List.take_of_length_le (by simp)] at this
        exact this
      have hl : s.data.toList.length = s.size := by simp
      clear HD hke
      by_cases h1 : (s.size : Int) < 1
      · have HN : Hid (symB s.data.toList = false) := symB_len (by omega)
        clear hl
        go_wp2_with (first | (go_at_call 79; go_in))
        go_ret
        exact ⟨by rw [HN.out]; rfl, rfl⟩
      by_cases h2 : (12 : Int) < s.size
      · have HN : Hid (symB s.data.toList = false) := symB_len (by omega)
        clear hl
        go_wp2_with (first | (go_at_call 79; go_in))
        go_ret
        exact ⟨by rw [HN.out]; rfl, rfl⟩
      have h0 : 0 < s.size := by omega
      cases hd : digB s[0] with
      | true =>
        have HN : Hid (symB s.data.toList = false) := symB_beg (begNum_dig s h0 hd)
        clear hl
        go_wp2_with (first | (go_at_call 79; go_in) | (go_at_call 81; refine (spec_digit s[0] _).mono ?_; rintro e w1 ⟨rfl, rfl⟩))
        go_ret
        exact ⟨by rw [HN.out]; rfl, rfl⟩
      | false =>
      by_cases hm : s[0] = 45
      · by_cases h3 : s.size = 1
        · have HN : Hid (symB s.data.toList = true) := symB_yes (by omega) (by omega) (begNum_one s h3 hm) HA.out
          have hm' : ((s[0].toNat : Int) != 45) = false := by rw [hm]; rfl
          have h3' : ((s.size : Int) == 1) = true := by rw [h3]; rfl
          clear hl hm h3
          go_wp2_with (first | (go_at_call 79; go_in) | (go_at_call 81; refine (spec_digit s[0] _).mono ?_; rintro e w1 ⟨rfl, rfl⟩))
          go_ret
          exact ⟨by rw [HN.out]; rfl, rfl⟩
        · have h4 : 1 < s.size := by omega
          have hb := begNum_two s h4 hm
          have hm' : ((s[0].toNat : Int) != 45) = false := by rw [hm]; rfl
          have h3' : ((s.size : Int) == 1) = false := by simp; omega
          have h4' : (1 : Int) < s.size := by omega
          cases hd1 : digB s[1] with
          | true =>
            have HN : Hid (symB s.data.toList = false) := symB_beg (by rw [hb, hd1])
            clear hl hm h3 hb
            go_wp2_with (first | (go_at_call 79; go_in) | (go_at_call 81; refine (spec_digit _ _).mono ?_; rintro e w1 ⟨rfl, rfl⟩))
            go_ret
            exact ⟨by rw [HN.out]; rfl, rfl⟩
          | false =>
            have HN : Hid (symB s.data.toList = true) := symB_yes (by omega) (by omega) (by rw [hb, hd1]) HA.out
            clear hl hm h3 hb
            go_wp2_with (first | (go_at_call 79; go_in) | (go_at_call 81; refine (spec_digit _ _).mono ?_; rintro e w1 ⟨rfl, rfl⟩))
            go_ret
            exact ⟨by rw [HN.out]; rfl, rfl⟩
      · have HN : Hid (symB s.data.toList = true) := symB_yes (by omega) (by omega) (begNum_other s h0 hd hm) HA.out
        have hm' : ((s[0].toNat : Int) != 45) = true := by
          have := u8_eq' s[0] 45
          rw [show ((45 : UInt8).toNat : Int) = 45 from rfl] at this
          rw [bne, ← this, beq_eq_false_iff_ne.2 hm]; rfl
        clear hl hm
        go_wp2_with (first | (go_at_call 79; go_in) | (go_at_call 81; refine (spec_digit s[0] _).mono ?_; rintro e w1 ⟨rfl, rfl⟩))
        go_ret
        exact ⟨by rw [HN.out]; rfl, rfl⟩
end Go.Proofs.YtlclfmjpnchmbaaGreat

/- spec.l3Right. No conditions. -/
namespace Go.Proofs.YtlclfmjpnchmbaaGreat
open Go.ChangeShapes Go.WideShapes Go.ChangeAt Go.RowKit

def RightAt (t : D) : Prop := ∀ (w : World) (v : Value), t.In w v →
  Calls Tryz.prog 49 #[.agg #[.int .i64 t.op, .int .i64 t.at_, .int .i64 t.n, .string t.s, v]] w fun e w' => e = .returned (.bool (rightB t)) ∧ Below w.heap.size w w'

set_option maxRecDepth 100000 in
set_option maxHeartbeats 16000000 in
theorem spec_right (t : D) : RightAt t := by
  induction t with
  | no => intro w v h; exact h.elim
  | mk op a n s len kid ih =>
    intro w v hin
    have h1 := hin.sl
    have hs := hin.size
    have HRE : Hid (rightB (D.mk op a n s len kid) = (allTo (fun i => rightB (kid i)) len && fB a op (wokB n) (symB s.data.toList) (s.toList == []) (n == 0) ((len : Int) == 0))) := rfl
    simp only [D.op, D.at_, D.n, D.s, D.len, D.kid] at h1 hs ⊢
    generalize rightB (D.mk op a n s len kid) = R at *
    obtain ⟨p, cap, e1, hlen, hat⟩ := h1.at
    have HC : Hid (∀ i, i < len → ∃ b o u, p = some ⟨b, o, none⟩ ∧ Head w b (o + i * 5) (kid i) u ∧ (kid i).In w u) := hat
    have IH : Hid (∀ i, RightAt (kid i)) := ih
    have HW : Hid (∀ w, Calls Tryz.prog 64 #[.int .i64 n] w fun e w' => e = .returned (.bool (wokB n)) ∧ w' = w) := fun w => spec_wordOk n w
    have HS : Hid (∀ w, Calls Tryz.prog 65 #[.string s] w fun e w' => e = .returned (.bool (symB s.data.toList)) ∧ w' = w) := fun w => spec_sym s w hs
    generalize symB s.data.toList = sb at *
    generalize wokB n = wb at *
    clear hin h1 hat ih hs
    unfold maxLen at hlen
    subst e1
    go_enter Tryz.func49, Tryz.ntmps49
    go_wp2_with fail
    go_loopw [3] (fun i wr => ∃ k : Nat, i = .int .i64 k ∧ k ≤ len ∧ allTo (fun i => rightB (kid i)) k = true ∧ wr.heap[w.heap.size]? = some (.cells #[.int .i64 op, .int .i64 a, .int .i64 n, .string s, .slice p len cap] 60 (0, 0)) ∧ Below w.heap.size w wr) (fun i _ => len - (intOf i).toNat)
    case atStart => exact ⟨0, rfl, Nat.zero_le _, rfl, heap_alloc_new w _, newb w _⟩
    case round =>
      obtain ⟨k, rfl, hk, hcc, hblk, hbel⟩ := hrel
      have HBL : Hid (Below w.heap.size w wr) := hbel
      have HA : Hid (allTo (fun i => rightB (kid i)) k = true) := hcc
      have HK : Hid (wr.heap[w.heap.size]? = some (.cells #[.int .i64 op, .int .i64 a, .int .i64 n, .string s, .slice p len cap] 60 (0, 0))) := hblk
      have b0 : wr.cell? ⟨w.heap.size, 0, none⟩ = some (.int .i64 op) := cell_of_row wr _ 0 _ _ _ hblk
      have b1 : wr.cell? ⟨w.heap.size, 1, none⟩ = some (.int .i64 a) := cell_of_row wr _ 1 _ _ _ hblk
      have b2 : wr.cell? ⟨w.heap.size, 2, none⟩ = some (.int .i64 n) := cell_of_row wr _ 2 _ _ _ hblk
      have b3 : wr.cell? ⟨w.heap.size, 3, none⟩ = some (.string s) := cell_of_row wr _ 3 _ _ _ hblk
      have b4 : wr.cell? ⟨w.heap.size, 4, none⟩ = some (.slice p len cap) := cell_of_row wr _ 4 _ _ _ hblk
      clear hbel hcc hblk
      by_cases hlt : (k : Int) < len
      · have hlt' : k < len := by omega
        obtain ⟨b, o, u, hp, hd, hin⟩ := HC.out k hlt'
        subst hp
        obtain ⟨c0, c1, c2, c3, c4⟩ := hd.below HBL.out
        have HI : Hid ((kid k).In wr u) := hin.below HBL.out
        clear hd hin HW HS
        cases hr : rightB (kid k) with
        | true =>
          have HN : Hid (allTo (fun i => rightB (kid i)) (k + 1) = true) := by
            show _ = _
            simp only [allTo, HA.out, hr, Bool.and_self]
          have HRK : Hid (rightB (kid k) = true) := hr
          clear hr
          go_wp2_with fail
          refine (IH.out k wr u HI.out).mono ?_
          rintro e w1 ⟨rfl, hb1⟩
          rw [HRK.out]
          have HB1 : Hid (Below w.heap.size w w1) := HBL.out.trans (hb1.mono HBL.out.size)
          have HX : Hid (w1.heap[w.heap.size]? = some (.cells #[.int .i64 op, .int .i64 a, .int .i64 n, .string s, .slice (some ⟨b, o, none⟩) len cap] 60 (0, 0))) := (hb1.block _ (Array.getElem?_eq_some_iff.1 HK.out).1).trans HK.out
          clear hb1 c0 c1 c2 c3 c4 b0 b1 b2 b3 b4
          go_wp2_with fail
          go_roundw
          case rel => exact ⟨k + 1, by go_num, by omega, HN.out, HX.out, HB1.out⟩
          case measure => simp [intOf]; omega
        | false =>
          have HN : Hid (R = false) := HRE.out.trans (by rw [allTo_false hlt' hr]; rfl)
          have HRK : Hid (rightB (kid k) = false) := hr
          clear hr HRE
          go_wp2_with fail
          refine (IH.out k wr u HI.out).mono ?_
          rintro e w1 ⟨rfl, hb1⟩
          rw [HRK.out]
          have HB1 : Hid (Below w.heap.size w w1) := HBL.out.trans (hb1.mono HBL.out.size)
          clear hb1 c0 c1 c2 c3 c4 b0 b1 b2 b3 b4
          go_wp2_with fail
          go_ret
          exact ⟨by rw [HN.out]; rfl, HB1.out⟩
      · have hke : k = len := by omega
        have HR : Hid (R = fB a op wb sb (s.toList == []) (n == 0) ((len : Int) == 0)) := HRE.out.trans (by rw [← hke, HA.out, Bool.true_and])
        clear HRE HA HC IH HK hke
        cases he : (s.toList == ([] : List UInt8)) <;> cases hn : (n == 0) <;> cases hl : ((len : Int) == 0)
        all_goals
          rw [he, hn, hl] at HR
          rcases Int.lt_or_le a 0 with ha | ha
          · have HR2 : Hid (R = false) := HR.out.trans (by unfold fB; rw [decide_eq_false (by omega)]; rfl)
            clear HR
            have ha2 : decide (0 ≤ a) = false := decide_eq_false (by omega)
            by_cases h1 : op = 1
            · subst h1
              cases wb
              all_goals
                go_wp2_with ((go_at_call 64; refine (HW.out _).mono ?_; rintro e w1 ⟨rfl, rfl⟩))
                go_ret
                exact ⟨ret_bool HR2.out.symm, HBL.out⟩
            · by_cases h2 : op = 2
              · subst h2
                cases sb
                all_goals
                  go_wp2_with ((go_at_call 65; refine (HS.out _).mono ?_; rintro e w1 ⟨rfl, rfl⟩))
                  go_ret
                  exact ⟨ret_bool HR2.out.symm, HBL.out⟩
              · have g1 : (op == 1) = false := by simpa using h1
                have g2 : (op == 2) = false := by simpa using h2
                cases g3 : (op == 3)
                all_goals
                  go_wp2_with fail
                  go_ret
                  exact ⟨ret_bool HR2.out.symm, HBL.out⟩
          · by_cases h1 : op = 1
            · subst h1
              cases wb
              all_goals
                have HR2 : Hid _ := HR.out.trans (by unfold fB; rw [decide_eq_true ha, if_pos rfl])
                clear HR
                go_wp2_with ((go_at_call 64; refine (HW.out _).mono ?_; rintro e w1 ⟨rfl, rfl⟩))
                go_ret
                exact ⟨ret_bool HR2.out.symm, HBL.out⟩
            · by_cases h2 : op = 2
              · subst h2
                cases sb
                all_goals
                  have HR2 : Hid _ := HR.out.trans (by unfold fB; rw [decide_eq_true ha, if_neg (by omega), if_pos rfl])
                  clear HR
                  go_wp2_with ((go_at_call 65; refine (HS.out _).mono ?_; rintro e w1 ⟨rfl, rfl⟩))
                  go_ret
                  exact ⟨ret_bool HR2.out.symm, HBL.out⟩
              · by_cases h3 : op = 3
                · subst h3
                  have HR2 : Hid _ := HR.out.trans (by unfold fB; rw [decide_eq_true ha, if_neg (by omega), if_neg (by omega), if_pos rfl])
                  clear HR
                  go_wp2_with fail
                  go_ret
                  exact ⟨ret_bool HR2.out.symm, HBL.out⟩
                · have HR2 : Hid (R = false) := HR.out.trans (by unfold fB; rw [if_neg h1, if_neg h2, if_neg h3]; simp)
                  clear HR
                  have g1 : (op == 1) = false := by simpa using h1
                  have g2 : (op == 2) = false := by simpa using h2
                  have g3 : (op == 3) = false := by simpa using h3
                  go_wp2_with fail
                  go_ret
                  exact ⟨ret_bool HR2.out.symm, HBL.out⟩
end Go.Proofs.YtlclfmjpnchmbaaGreat

/- spec.DatsOk. Condition: at most 2^40 data. -/
namespace Go.Proofs.YtlclfmjpnchmbaaGreat
open Go.ChangeShapes Go.WideShapes Go.ChangeAt Go.RowKit

set_option maxRecDepth 100000 in
set_option maxHeartbeats 4000000 in
theorem spec_dats (len : Nat) (kid : Nat → D) (w : World) (v : Value) (hv : Sl w len kid v) (hc : sumTo (fun i => (kid i).count) len ≤ 1099511627776) :
    Calls Tryz.prog 35 #[v] w fun e w' => e = .returned (.bool (datsB len kid)) ∧ Below w.heap.size w w' := by
  obtain ⟨p, cap, rfl, hlen, hat⟩ := hv.at
  have HC : Hid (∀ i, i < len → ∃ b o u, p = some ⟨b, o, none⟩ ∧ Head w b (o + i * 5) (kid i) u ∧ (kid i).In w u) := hat
  have HRE : Hid (datsB len kid = (allTo (fun i => decide ((kid i).deep ≤ 20) && rightB (kid i)) len && decide (sumTo (fun i => (kid i).count) len ≤ 1500))) := rfl
  have HSC : Hid (sumTo (fun i => (kid i).count) len ≤ 1099511627776) := hc
  generalize datsB len kid = R at *
  clear hat hv hc
  unfold maxLen at hlen
  go_enter Tryz.func35, Tryz.ntmps35
  go_wp2_with fail
  go_loopw [3, 4] (fun x i wr => ∃ k c : Nat, i = .int .i64 k ∧ x = .int .i64 c ∧ k ≤ len ∧ c = sumTo (fun i => (kid i).count) k ∧ allTo (fun i => decide ((kid i).deep ≤ 20) && rightB (kid i)) k = true ∧ Below w.heap.size w wr) (fun _ i _ => len - (intOf i).toNat)
  case atStart => exact ⟨0, 0, rfl, rfl, Nat.zero_le _, rfl, rfl, Below.refl _ _⟩
  case round =>
    obtain ⟨k, c, rfl, rfl, hk, hcc, hall, hbel⟩ := hrel
    have HBL : Hid (Below w.heap.size w wr) := hbel
    have HS : Hid (c = sumTo (fun i => (kid i).count) k) := hcc
    have HA : Hid (allTo (fun i => decide ((kid i).deep ≤ 20) && rightB (kid i)) k = true) := hall
    clear hbel hcc hall
    by_cases hlt : (k : Int) < len
    · have hlt' : k < len := by omega
      obtain ⟨b, o, u, hp, hd, hin⟩ := HC.out k hlt'
      subst hp
      obtain ⟨c0, c1, c2, c3, c4⟩ := hd.below HBL.out
      have HI : Hid ((kid k).In wr u) := hin.below HBL.out
      have HH : Hid (Head w b (o + k * 5) (kid k) u) := hd
      have hsum : c + (kid k).count ≤ 1099511627776 := by
        have h1 := sumTo_at (fun i => (kid i).count) k len hlt'
        have h2 := HS.out
        have h3 := HSC.out
        omega
      have hck : (kid k).count ≤ 1099511627776 := by omega
      have HNS : Hid (c + (kid k).count = sumTo (fun i => (kid i).count) (k + 1)) := by
        show _ = _
        rw [HS.out]; rfl
      clear hd hin
      go_wp2_with fail
      refine (spec_size (kid k) wr u HI.out hck).mono ?_
      rintro e w1 ⟨rfl, hb1⟩
      have HB1 : Hid (Below w.heap.size w w1) := HBL.out.trans (hb1.mono HBL.out.size)
      have HI1 : Hid ((kid k).In w1 u) := HI.out.below hb1
      clear hb1 c0 c1 c2 c3 c4 HI HBL
      obtain ⟨c0, c1, c2, c3, c4⟩ := HH.out.below HB1.out
      go_wp2_with fail
      refine (spec_deep (kid k) w1 u HI1.out hck).mono ?_
      rintro e w2 ⟨rfl, hb2⟩
      have HB2 : Hid (Below w.heap.size w w2) := HB1.out.trans (hb2.mono HB1.out.size)
      have HI2 : Hid ((kid k).In w2 u) := HI1.out.below hb2
      clear hb2 c0 c1 c2 c3 c4 HI1 HB1
      obtain ⟨c0, c1, c2, c3, c4⟩ := HH.out.below HB2.out
      by_cases hdp : (20 : Int) < (kid k).deep
      · have HN : Hid (R = false) := HRE.out.trans (by rw [allTo_false hlt' (by rw [decide_eq_false (by omega)]; rfl)]; rfl)
        clear HRE
        go_wp2_with fail
        go_ret
        exact ⟨ret_bool HN.out.symm, HB2.out⟩
      · have hd20 : decide ((kid k).deep ≤ 20) = true := decide_eq_true (by omega)
        cases hr : rightB (kid k) with
        | true =>
          have HN : Hid (allTo (fun i => decide ((kid i).deep ≤ 20) && rightB (kid i)) (k + 1) = true) := by
            show _ = _
            simp only [allTo, HA.out, hr, hd20, Bool.and_self]
          have HRK : Hid (rightB (kid k) = true) := hr
          clear hr hd20
          go_wp2_with fail
          refine (spec_right (kid k) w2 u HI2.out).mono ?_
          rintro e w3 ⟨rfl, hb3⟩
          rw [HRK.out]
          have HB3 : Hid (Below w.heap.size w w3) := HB2.out.trans (hb3.mono HB2.out.size)
          clear hb3 c0 c1 c2 c3 c4
          go_wp2_with fail
          go_roundw
          case rel => exact ⟨k + 1, c + (kid k).count, by go_num, by go_num, by omega, HNS.out, HN.out, HB3.out⟩
          case measure => simp [intOf]; omega
        | false =>
          have HN : Hid (R = false) := HRE.out.trans (by rw [allTo_false hlt' (by rw [hr, Bool.and_false])]; rfl)
          have HRK : Hid (rightB (kid k) = false) := hr
          clear hr hd20 HRE
          go_wp2_with fail
          refine (spec_right (kid k) w2 u HI2.out).mono ?_
          rintro e w3 ⟨rfl, hb3⟩
          rw [HRK.out]
          have HB3 : Hid (Below w.heap.size w w3) := HB2.out.trans (hb3.mono HB2.out.size)
          clear hb3 c0 c1 c2 c3 c4
          go_wp2_with fail
          go_ret
          exact ⟨ret_bool HN.out.symm, HB3.out⟩
    · have hke : k = len := by omega
      have HR : Hid (R = decide ((c : Int) ≤ 1500)) := HRE.out.trans (by
        rw [← hke, HA.out, Bool.true_and, ← HS.out]
        by_cases h : c ≤ 1500
        · rw [decide_eq_true h, decide_eq_true (by omega)]
        · rw [decide_eq_false h, decide_eq_false (by omega)])
      go_wp2_with fail
      go_ret
      exact ⟨ret_bool HR.out.symm, HBL.out⟩
end Go.Proofs.YtlclfmjpnchmbaaGreat
