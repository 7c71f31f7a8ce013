/- spec.SymOk at every text: whether it is a name. Condition: the text is no longer than a text can be. -/
import Derived.Test.YtgbfflpdpfgnbaaGreatRows
import Derived.Test.YtgbfflpdpfgnbaaGreatZG18SpecWord
import Derived.Test.YtgbfflpdpfgnbaaGreatZG12TokGood
import Derived.Test.YtgbfflpdpfgnbaaGreatZG16ReadW
import Derived.WalkKit
import Derived.ProofKit
import Derived.Below
import Derived.OwnWalk
import Derived.Deep.AppendLies
namespace Go.Proofs.YtgbfflpdpfgnbaaGreat
open Go.ChangeShapes Go.WideShapes Go.ChangeAt Go.RowKit

theorem u8_eq' (c d : UInt8) : (c == d) = ((c.toNat : Int) == (d.toNat : Int)) := by
  rw [Bool.eq_iff_iff]
  simp only [beq_iff_eq]
  constructor
  · rintro rfl; rfl
  · intro h; exact UInt8.toNat_inj.1 (by omega)

theorem snoc_no {l : List UInt8} {k : Nat} {c d : UInt8} (h : (l.take k).contains c = false) (hd : l[k]? = some d) (hne : c ≠ d) : (l.take (k + 1)).contains c = false := by
  rw [List.take_add_one, hd]
  simp only [List.contains_eq_mem, List.mem_append, decide_eq_false_iff_not] at h ⊢
  rintro (h1 | h1)
  · exact h h1
  · simp at h1; exact hne h1

set_option maxHeartbeats 1000000 in
theorem spec_byte (c : UInt8) (w : World) : Calls Tryz.prog 95 #[.int .u8 c.toNat] w fun e w' => e = .returned (.bool (nameB c)) ∧ w' = w := by
  have hc : c.toNat < 256 := c.toNat_lt
  by_cases h1 : (97 : Int) ≤ c.toNat ∧ (c.toNat : Int) ≤ 122
  · have HN : Hid (nameB c = true) := show nameB c = true by
      unfold nameB
      simp only [Bool.or_eq_true, Bool.and_eq_true, decide_eq_true_eq]
      omega
    obtain ⟨h1, h2⟩ := h1
    go_enter Tryz.func95, Tryz.ntmps95
    go_wp2
    go_ret
    exact ⟨by rw [HN.out]; rfl, rfl⟩
  by_cases h2 : (48 : Int) ≤ c.toNat ∧ (c.toNat : Int) ≤ 57
  · have HN : Hid (nameB c = true) := show nameB c = true by
      unfold nameB
      simp only [Bool.or_eq_true, Bool.and_eq_true, decide_eq_true_eq]
      omega
    obtain ⟨h2, h3⟩ := h2
    have h4 : ¬ (97 : Int) ≤ c.toNat := by omega
    clear h1
    go_enter Tryz.func95, Tryz.ntmps95
    go_wp2
    go_ret
    exact ⟨by rw [HN.out]; rfl, rfl⟩
  have HL : Hid (nameB c = (([43, 45, 42, 60, 61, 63, 46, 95] : List UInt8).contains c)) := show nameB c = _ by
    unfold nameB
    have e1 : (decide (97 ≤ c.toNat) && decide (c.toNat ≤ 122)) = false := by rw [Bool.and_eq_false_iff, decide_eq_false_iff_not, decide_eq_false_iff_not]; omega
    have e2 : (decide (48 ≤ c.toNat) && decide (c.toNat ≤ 57)) = false := by rw [Bool.and_eq_false_iff, decide_eq_false_iff_not, decide_eq_false_iff_not]; omega
    rw [e1, e2]; rfl
  have h3 : (c.toNat : Int) < 48 ∨ ((57 : Int) < c.toNat ∧ (c.toNat : Int) < 97) ∨ (122 : Int) < c.toNat := by omega
  clear h1 h2
  rcases h3 with h3 | ⟨h3, h4⟩ | h3
  all_goals
    go_enter Tryz.func95, Tryz.ntmps95
    go_wp2
    go_loop [4] (fun i => ∃ k : Nat, k ≤ 8 ∧ i = .int .i64 k ∧ (([43, 45, 42, 60, 61, 63, 46, 95] : List UInt8).take k).contains c = false) (fun i => 8 - (intOf i).toNat)
    case atStart => exact ⟨0, Nat.zero_le _, rfl, rfl⟩
    case round =>
      obtain ⟨k, hk, rfl, hno⟩ := hrel
      have HO : Hid ((([43, 45, 42, 60, 61, 63, 46, 95] : List UInt8).take k).contains c = false) := hno
      clear hno
      by_cases hlt : (k : Int) < 8
      · have hlt' : k < (⟨#[43, 45, 42, 60, 61, 63, 46, 95]⟩ : ByteArray).size := by show k < 8; omega
        have hg : ([43, 45, 42, 60, 61, 63, 46, 95] : List UInt8)[k]? = some ((⟨#[43, 45, 42, 60, 61, 63, 46, 95]⟩ : ByteArray)[k]'hlt') := List.getElem?_eq_getElem (by show k < 8; omega)
        by_cases he : (⟨#[43, 45, 42, 60, 61, 63, 46, 95]⟩ : ByteArray)[k]'hlt' = c
        · have HN : Hid (nameB c = true) := show nameB c = true by
            rw [HL.out, ← he]
            exact List.contains_iff_mem.2 (List.mem_of_getElem? hg)
          have hx : ((((⟨#[43, 45, 42, 60, 61, 63, 46, 95]⟩ : ByteArray)[k]'hlt').toNat : Int) == (c.toNat : Int)) = true := by rw [he]; simp
          clear he hg
          go_wp2
          go_ret
          exact ⟨by rw [HN.out]; rfl, rfl⟩
        · have HO2 : Hid ((([43, 45, 42, 60, 61, 63, 46, 95] : List UInt8).take (k + 1)).contains c = false) := snoc_no HO.out hg (fun e => he e.symm)
          have hx : ((((⟨#[43, 45, 42, 60, 61, 63, 46, 95]⟩ : ByteArray)[k]'hlt').toNat : Int) == (c.toNat : Int)) = false := by
            rw [← u8_eq' _ c]; exact beq_eq_false_iff_ne.2 he
          clear he hg
          go_wp2
          go_round
          case rel => exact ⟨k + 1, by omega, by go_num, HO2.out⟩
          case measure => simp [intOf]; omega
      · have hk8 : k = 8 := by omega
        have HN : Hid (nameB c = false) := show nameB c = false by rw [HL.out]; have := HO.out; rw [hk8] at this; exact this
        clear hk8
        go_wp2
        go_ret
        exact ⟨by rw [HN.out]; rfl, rfl⟩

theorem get_list (s : ByteArray) (k : Nat) (h : k < s.size) : s.data.toList[k]? = some (s[k]'h) := List.getElem?_eq_getElem (by simpa using h)

theorem begNum_dig (s : ByteArray) (h0 : 0 < s.size) (hd : digB (s[0]'h0) = true) : begNum s.data.toList = true := by
  have h := get_list s 0 h0
  cases e : s.data.toList with
  | nil => rw [e] at h; simp at h
  | cons c r => rw [e] at h; simp at h; subst h; simp [begNum, hd]

theorem begNum_other (s : ByteArray) (h0 : 0 < s.size) (hd : digB (s[0]'h0) = false) (hm : s[0]'h0 ≠ 45) : begNum s.data.toList = false := by
  have h := get_list s 0 h0
  cases e : s.data.toList with
  | nil => rw [e] at h; simp at h
  | cons c r => rw [e] at h; simp at h; subst h; simp [begNum, hd, hm]

theorem begNum_one (s : ByteArray) (h1 : s.size = 1) (hm : s[0]'(by omega) = 45) : begNum s.data.toList = false := by
  have h := get_list s 0 (by omega)
  have hl : s.data.toList.length = 1 := by simpa using h1
  cases e : s.data.toList with
  | nil => rw [e] at h; simp at h
  | cons c r =>
    rw [e] at h hl
    simp at h hl
    subst hl
    rw [h, hm]; rfl

theorem begNum_two (s : ByteArray) (h1 : 1 < s.size) (hm : s[0]'(by omega) = 45) : begNum s.data.toList = digB (s[1]'h1) := by
  have h := get_list s 0 (by omega)
  have h' := get_list s 1 h1
  cases e : s.data.toList with
  | nil => rw [e] at h; simp at h
  | cons c r =>
    rw [e] at h h'
    simp at h h'
    rw [hm] at h
    subst h
    cases r with
    | nil => simp at h'
    | cons d r =>
      simp at h'
      subst h'
      show (digB 45 || ((45 : UInt8) == 45 && digB _)) = _
      rw [show digB 45 = false from by decide, show ((45 : UInt8) == 45) = true from by decide]
      simp

theorem symB_len {l : List UInt8} (h : l.length < 1 ∨ 12 < l.length) : symB l = false := by
  unfold symB
  rcases h with h | h
  · have : decide (1 ≤ l.length) = false := by rw [decide_eq_false_iff_not]; omega
    rw [this]; rfl
  · have : decide (l.length ≤ 12) = false := by rw [decide_eq_false_iff_not]; omega
    rw [this]; simp

theorem symB_beg {l : List UInt8} (h : begNum l = true) : symB l = false := by
  unfold symB; rw [h]; simp

theorem symB_bad {l : List UInt8} (c : UInt8) (hc : c ∈ l) (h : nameB c = false) : symB l = false := by
  unfold symB
  have : l.all nameB = false := by
    rw [List.all_eq_false]
    exact ⟨c, hc, by simp [h]⟩
  rw [this]; simp

theorem symB_yes {l : List UInt8} (h1 : 1 ≤ l.length) (h2 : l.length ≤ 12) (h3 : begNum l = false) (h4 : ∀ c ∈ l, nameB c = true) : symB l = true := by
  unfold symB
  have : l.all nameB = true := List.all_eq_true.2 h4
  rw [this, h3, decide_eq_true h1, decide_eq_true h2]; rfl

set_option maxHeartbeats 1000000 in
theorem spec_sym (s : ByteArray) (w : World) (hs : s.size ≤ maxLen) :
    Calls Tryz.prog 86 #[.string s] w fun e w' => e = .returned (.bool (symB s.data.toList)) ∧ w' = w := by
  unfold maxLen at hs
  go_enter Tryz.func86, Tryz.ntmps86
  go_wp2
  go_loop [3] (fun i => ∃ k : Nat, k ≤ s.size ∧ i = .int .i64 k ∧ ∀ c ∈ s.data.toList.take k, nameB c = true) (fun i => s.size - (intOf i).toNat)
  case atStart => exact ⟨0, Nat.zero_le _, rfl, by simp⟩
  case round =>
    obtain ⟨k, hk, rfl, hd⟩ := hrel
    have HD : Hid (∀ c ∈ s.data.toList.take k, nameB c = true) := hd
    clear hd
    by_cases hlt : (k : Int) < s.size
    · have hlt' : k < s.size := by omega
      have HT : Hid (s.data.toList.take (k + 1) = s.data.toList.take k ++ [s[k]]) := take_snoc s k hlt'
      have HM : Hid (s[k] ∈ s.data.toList) := byte_mem s k hlt'
      cases hn : nameB s[k] with
      | false =>
        have HN : Hid (symB s.data.toList = false) := symB_bad s[k] HM.out hn
        go_wp2_with (go_at_call 95; refine (spec_byte s[k] _).mono ?_; rintro e w1 ⟨rfl, rfl⟩)
        go_ret
        exact ⟨by rw [HN.out]; rfl, rfl⟩
      | true =>
        have HN : Hid (nameB s[k] = true) := hn
        go_wp2_with (go_at_call 95; refine (spec_byte s[k] _).mono ?_; rintro e w1 ⟨rfl, rfl⟩)
        go_round
        case rel =>
          refine ⟨k + 1, by omega, by go_num, ?_⟩
          rw [HT.out]
          intro c hc
          rcases List.mem_append.1 hc with hc | hc
          · exact HD.out c hc
          · simp only [List.mem_singleton] at hc
            subst hc
            exact HN.out
        case measure => simp [intOf]; omega
    · have hke : k = s.size := by omega
      have HA : Hid (∀ c ∈ s.data.toList, nameB c = true) := show ∀ c ∈ s.data.toList, nameB c = true by
        have := HD.out
        rw [hke, List.take_of_length_le (by simp)] at this
        exact this
      have hl : s.data.toList.length = s.size := by simp
      clear HD hke
      by_cases h1 : (s.size : Int) < 1
      · have HN : Hid (symB s.data.toList = false) := symB_len (by omega)
        clear hl
        go_wp2_with (first | (go_at_call 94; go_in))
        go_ret
        exact ⟨by rw [HN.out]; rfl, rfl⟩
      by_cases h2 : (12 : Int) < s.size
      · have HN : Hid (symB s.data.toList = false) := symB_len (by omega)
        clear hl
        go_wp2_with (first | (go_at_call 94; go_in))
        go_ret
        exact ⟨by rw [HN.out]; rfl, rfl⟩
      have h0 : 0 < s.size := by omega
      cases hd : digB s[0] with
      | true =>
        have HN : Hid (symB s.data.toList = false) := symB_beg (begNum_dig s h0 hd)
        clear hl
        go_wp2_with (first | (go_at_call 94; go_in) | (go_at_call 96; refine (spec_digit s[0] _).mono ?_; rintro e w1 ⟨rfl, rfl⟩))
        go_ret
        exact ⟨by rw [HN.out]; rfl, rfl⟩
      | false =>
      by_cases hm : s[0] = 45
      · by_cases h3 : s.size = 1
        · have HN : Hid (symB s.data.toList = true) := symB_yes (by omega) (by omega) (begNum_one s h3 hm) HA.out
          have hm' : ((s[0].toNat : Int) != 45) = false := by rw [hm]; rfl
          have h3' : ((s.size : Int) == 1) = true := by rw [h3]; rfl
          clear hl hm h3
          go_wp2_with (first | (go_at_call 94; go_in) | (go_at_call 96; refine (spec_digit s[0] _).mono ?_; rintro e w1 ⟨rfl, rfl⟩))
          go_ret
          exact ⟨by rw [HN.out]; rfl, rfl⟩
        · have h4 : 1 < s.size := by omega
          have hb := begNum_two s h4 hm
          have hm' : ((s[0].toNat : Int) != 45) = false := by rw [hm]; rfl
          have h3' : ((s.size : Int) == 1) = false := by simp; omega
          have h4' : (1 : Int) < s.size := by omega
          cases hd1 : digB s[1] with
          | true =>
            have HN : Hid (symB s.data.toList = false) := symB_beg (by rw [hb, hd1])
            clear hl hm h3 hb
            go_wp2_with (first | (go_at_call 94; go_in) | (go_at_call 96; refine (spec_digit _ _).mono ?_; rintro e w1 ⟨rfl, rfl⟩))
            go_ret
            exact ⟨by rw [HN.out]; rfl, rfl⟩
          | false =>
            have HN : Hid (symB s.data.toList = true) := symB_yes (by omega) (by omega) (by rw [hb, hd1]) HA.out
            clear hl hm h3 hb
            go_wp2_with (first | (go_at_call 94; go_in) | (go_at_call 96; refine (spec_digit _ _).mono ?_; rintro e w1 ⟨rfl, rfl⟩))
            go_ret
            exact ⟨by rw [HN.out]; rfl, rfl⟩
      · have HN : Hid (symB s.data.toList = true) := symB_yes (by omega) (by omega) (begNum_other s h0 hd hm) HA.out
        have hm' : ((s[0].toNat : Int) != 45) = true := by
          have := u8_eq' s[0] 45
          rw [show ((45 : UInt8).toNat : Int) = 45 from rfl] at this
          rw [bne, ← this, beq_eq_false_iff_ne.2 hm]; rfl
        clear hl hm
        go_wp2_with (first | (go_at_call 94; go_in) | (go_at_call 96; refine (spec_digit s[0] _).mono ?_; rintro e w1 ⟨rfl, rfl⟩))
        go_ret
        exact ⟨by rw [HN.out]; rfl, rfl⟩
end Go.Proofs.YtgbfflpdpfgnbaaGreat

/- spec.Tokens at every text: its tokens and -1, or none and the place of the first word that is none. Condition: the text is no longer than a text can be. -/
namespace Go.Proofs.YtgbfflpdpfgnbaaGreat
open Go.ChangeShapes Go.WideShapes Go.ChangeAt Go.RowKit

theorem tok_info' : (Tryz.prog.info? 134).map (fun i => (i.zero, i.size, i.bytes)) = some (some (.agg #[.int .i64 0, .int .i64 0, .int .i64 0, .string ⟨#[]⟩]), 4, 40) := by kernel_rfl

set_option maxHeartbeats 1000000 in
theorem spec_part (c : UInt8) (w : World) : Calls Tryz.prog 97 #[.int .u8 c.toNat] w fun e w' => e = .returned (.bool (partB c)) ∧ w' = w := by
  have H : Hid (partB c = ((c.toNat : Int) == 32 || (c.toNat : Int) == 10 || (c.toNat : Int) == 40 || (c.toNat : Int) == 41)) := show partB c = _ by
    unfold partB
    rw [u8_eq' c 32, u8_eq' c 10, u8_eq' c 40, u8_eq' c 41]; rfl
  cases h1 : ((c.toNat : Int) == 32)
  · cases h2 : ((c.toNat : Int) == 10)
    · cases h3 : ((c.toNat : Int) == 40)
      · cases h4 : ((c.toNat : Int) == 41)
        all_goals
          have HN := H.out
          rw [h1, h2, h3, h4] at HN
          have HM : Hid (partB c = _) := HN
          clear HN
          go_enter Tryz.func97, Tryz.ntmps97
          go_wp2
          go_ret
          exact ⟨by rw [HM.out]; rfl, rfl⟩
      · have HN := H.out
        rw [h1, h2, h3] at HN
        have HM : Hid (partB c = true) := HN.trans (by simp)
        clear HN
        go_enter Tryz.func97, Tryz.ntmps97
        go_wp2
        go_ret
        exact ⟨by rw [HM.out]; rfl, rfl⟩
    · have HN := H.out
      rw [h1, h2] at HN
      have HM : Hid (partB c = true) := HN.trans (by simp)
      clear HN
      go_enter Tryz.func97, Tryz.ntmps97
      go_wp2
      go_ret
      exact ⟨by rw [HM.out]; rfl, rfl⟩
  · have HN := H.out
    rw [h1] at HN
    have HM : Hid (partB c = true) := HN.trans (by simp)
    clear HN
    go_enter Tryz.func97, Tryz.ntmps97
    go_wp2
    go_ret
    exact ⟨by rw [HM.out]; rfl, rfl⟩

theorem below_al (w : World) (o : Obj) : Below w.heap.size w (w.alloc o) :=
  ⟨rfl, rfl, rfl, by simp, fun k hk => (World.grownBy_alloc w o none).block k hk (by simp)⟩

/-- What an append leaves of the loop's relation. -/
theorem rel_app {w W X w4 : World} {B : Nat} {acc : List Tok} {v v' : Value} {t : Tok} {cells : Obj} (hB : W.heap[B]? = some cells) (hbel : Below B w W) (hX : Below W.heap.size W X)
    (hown : W.ownsRow (B + 1) 134 4 v acc.length (rows acc))
    (ho : w4.ownsRow (B + 1) 134 4 v' (acc.length + 1) (rows acc ++ [.int .i64 t.kind, .int .i64 t.at_, .int .i64 t.n, .string t.text])) (hg : X.grownBy w4 v.ownBlock) :
    w4.heap[B]? = some cells ∧ Below B w w4 ∧ w4.ownsRow (B + 1) 134 4 v' (acc ++ [t]).length (rows (acc ++ [t])) := by
  have hBs : B < W.heap.size := (Array.getElem?_eq_some_iff.1 hB).1
  have hrow : ∀ k, k < B + 1 → some k ≠ v.ownBlock := by intro k hk e; have := (hown.lt k e.symm).1; omega
  have hold : ∀ k, k < B + 1 → w4.heap[k]? = W.heap[k]? := by
    intro k hk
    rw [hg.block k (Nat.lt_of_lt_of_le (by omega : k < W.heap.size) hX.size) (hrow k hk)]
    exact hX.block k (by omega)
  refine ⟨(hold B (by omega)).trans hB, ⟨(hg.os.trans hX.os).trans hbel.os, (hg.tape.trans hX.tape).trans hbel.tape, (hg.output.trans hX.output).trans hbel.output, ?_, fun k hk => (hold k (by omega)).trans (hbel.block k hk)⟩, ?_⟩
  · have h1 := hg.size
    have h2 := hX.size
    have h3 := hbel.size
    omega
  · have hl : (acc ++ [t]).length = acc.length + 1 := by simp
    have hr : rows (acc ++ [t]) = rows acc ++ [.int .i64 t.kind, .int .i64 t.at_, .int .i64 t.n, .string t.text] := by rw [rows_append]; rfl
    rw [hl, hr]; exact ho

theorem own_below {w w' : World} {base e size n : Nat} {v : Value} {xs : List Value} (h : w.ownsRow base e size v n xs) (hb : Below w.heap.size w w') : w'.ownsRow base e size v n xs := by
  refine ⟨h.1, ?_⟩
  rcases h.2 with hn | ⟨g, cap, cur, rfl, hbg, hgg, rest⟩
  · exact .inl hn
  · exact .inr ⟨g, cap, cur, rfl, hbg, (hb.block g (Array.getElem?_eq_some_iff.1 hgg).1).trans hgg, rest⟩

theorem own_baseT {w : World} {base base' e size n : Nat} {v : Value} {xs : List Value} (h : w.ownsRow base e size v n xs) (hb : base' ≤ base) : w.ownsRow base' e size v n xs := by
  refine ⟨h.1, ?_⟩
  rcases h.2 with hn | ⟨g, cap, cur, rfl, hbg, rest⟩
  · exact .inl hn
  · exact .inr ⟨g, cap, cur, rfl, by omega, rest⟩

theorem own_none {w : World} {B : Nat} {e : TypeId} (hB : w.heap[B]? = some (.cells #[] e (0, 0))) : w.ownsRow B e 4 (.slice (some ⟨B, 0, none⟩) 0 0) 0 [] :=
  ⟨rfl, .inr ⟨B, 0, #[], rfl, Nat.le_refl _, hB, Nat.le_refl _, Nat.zero_le _, rfl, rfl⟩⟩

theorem rest_word {s : ByteArray} {acc : List Tok} {p q : Nat} (hpq : p < q) (hq : q ≤ s.size) (hno : ∀ j (hj : j < q - p), partB (s[p + j]'(by omega)) = false) (hend : ∀ h : q < s.size, partB (s[q]'h) = true) :
    rest s acc p p = match tokOf (s.extract p q) p with | none => ([], (p : Int)) | some t => rest s (acc ++ [t]) q q := by
  have h1 := rest_others s acc p p (q - p) (by omega) hno
  have e : p + (q - p) = q := by omega
  rw [e] at h1
  rw [h1]
  exact rest_end s acc p q hpq hend

theorem spec_word_some (x : ByteArray) (hx : x.size ≤ maxLen) (v : Int) (h : wordV x.data.toList = some v) (w : World) :
    Calls Tryz.prog 98 #[.string x] w fun e w' => e = .returned (.tuple #[.int .i64 v, .bool true]) ∧ Below w.heap.size w w' := by
  refine (spec_word x w hx).mono ?_
  rintro e w' ⟨⟨n, rfl, hn⟩, hb⟩
  rw [h, hn v h]
  exact ⟨rfl, hb⟩

theorem spec_word_none (x : ByteArray) (hx : x.size ≤ maxLen) (h : wordV x.data.toList = none) (w : World) :
    Calls Tryz.prog 98 #[.string x] w fun e w' => (∃ n, e = .returned (.tuple #[.int .i64 n, .bool false])) ∧ Below w.heap.size w w' := by
  refine (spec_word x w hx).mono ?_
  rintro e w' ⟨⟨n, rfl, hn⟩, hb⟩
  rw [h]
  exact ⟨⟨n, rfl⟩, hb⟩

set_option maxRecDepth 1000000 in
set_option maxHeartbeats 8000000 in
theorem spec_tokens (s : ByteArray) (hm : s.size ≤ maxLen) (w : World) :
    Calls Tryz.prog 87 #[.string s] w fun e w' => ∃ lv, e = .returned (.tuple #[lv, .int .i64 (toks s).2]) ∧ Below w.heap.size w w' ∧ w'.ownsRow w.heap.size 134 4 lv (toks s).1.length (rows (toks s).1) := by
  have HM := hm
  unfold maxLen at hm
  obtain ⟨i0, hi, hz0, hz1, hz2⟩ := info_parts tok_info'
  by_cases hs : (4000 : Int) < s.size
  · have H : Hid (toks s = ([], 0)) := show toks s = ([], 0) by unfold toks; rw [if_neg (by omega)]
    go_enter Tryz.func87, Tryz.ntmps87
    go_wp2
    go_ret2
    rw [H.out]
    refine ⟨_, rfl, (below_al w _).trans ((below_al _ _).mono (by simp)), own_none ?_⟩
    exact ((below_al _ _).block _ (by simp)).trans (heap_alloc_new w _)
  have HS : Hid (toks s = rest s [] 0 0) := rest_start s (by omega)
  have hs4 : s.size ≤ 4000 := by omega
  go_enter Tryz.func87, Tryz.ntmps87
  go_wp2
  generalize hBw : w.heap.size = B
  go_loopw [5, 6] (fun v5 v6 wr => ∃ (pos : Nat) (acc : List Tok), v6 = .int .i64 pos ∧ pos ≤ s.size ∧ wr.ownsRow (B + 1) 134 4 v5 acc.length (rows acc) ∧ wr.heap[B]? = some (.cells #[] 134 (0, 0)) ∧ Below B w wr ∧ rest s acc pos pos = toks s ∧ acc.length ≤ pos)
    (fun _ v6 _ => s.size - (intOf v6).toNat)
  case atStart =>
    subst hBw
    refine ⟨0, [], rfl, Nat.zero_le _, ?_, ?_, ?_, HS.out.symm, Nat.le_refl _⟩
    · have hq := World.ownsRow_lit (base := w.heap.size + 1) (e := 134) (size := 4) (w.alloc (.cells #[] 134)) #[] 0 (by simp) (by unfold maxLen; omega) (by simp)
      rw [World.size_alloc] at hq
      exact hq
    · exact ((below_al _ _).block _ (by simp)).trans (heap_alloc_new w _)
    · exact (below_al w _).trans ((below_al _ _).mono (by simp))
  case round =>
    obtain ⟨pos, acc, rfl, hpos, hown, hB, hbel, hrest, hlen⟩ := hrel
    have HO : Hid (wr.ownsRow (B + 1) 134 4 u5 acc.length (rows acc)) := hown
    have HB : Hid (wr.heap[B]? = some (.cells #[] 134 (0, 0)) ∧ Below B w wr) := ⟨hB, hbel⟩
    have HR : Hid (rest s acc pos pos = toks s) := hrest
    clear hown hB hbel hrest
    by_cases hp : (pos : Int) < s.size
    · have hp' : pos < s.size := by omega
      cases hpart : partB s[pos] with
      | true =>
        rcases part_cases hpart with h | h | h | h
        · have t32 : ((s[pos].toNat : Int) == 32) = true := by rw [h]; rfl
          have HQ : Hid (rest s acc (pos + 1) (pos + 1) = toks s) := show rest s acc (pos + 1) (pos + 1) = toks s by
            rw [← HR.out, rest_part s acc pos hp' hpart, brack_blank (.inl h), List.append_nil]
          clear h
          go_wp2
          go_roundw
          case rel => exact ⟨pos + 1, acc, by go_num, by omega, HO.out, HB.out.1, HB.out.2, HQ.out, by omega⟩
          case measure => simp [intOf]; omega
        · have t32 : ((s[pos].toNat : Int) == 32) = false := by rw [h]; rfl
          have t10 : ((s[pos].toNat : Int) == 10) = true := by rw [h]; rfl
          have HQ : Hid (rest s acc (pos + 1) (pos + 1) = toks s) := show rest s acc (pos + 1) (pos + 1) = toks s by
            rw [← HR.out, rest_part s acc pos hp' hpart, brack_blank (.inr h), List.append_nil]
          clear h
          go_wp2
          go_roundw
          case rel => exact ⟨pos + 1, acc, by go_num, by omega, HO.out, HB.out.1, HB.out.2, HQ.out, by omega⟩
          case measure => simp [intOf]; omega
        · have t32 : ((s[pos].toNat : Int) == 32) = false := by rw [h]; rfl
          have t10 : ((s[pos].toNat : Int) == 10) = false := by rw [h]; rfl
          have t40 : ((s[pos].toNat : Int) == 40) = true := by rw [h]; rfl
          have HQ : Hid (rest s (acc ++ [⟨1, pos, 0, ⟨#[40]⟩⟩]) (pos + 1) (pos + 1) = toks s) := show rest s (acc ++ [⟨1, pos, 0, ⟨#[40]⟩⟩]) (pos + 1) (pos + 1) = toks s by
            rw [← HR.out, rest_part s acc pos hp' hpart, h]; rfl
          clear h
          go_wp2_with (first | (at_builtin; refine wpList_append_own _ rfl _ _ 120 rfl (B + 1) 134 i0 _ 4 40 Tryz.underlying120 hi hz0 hz1 hz2 rfl (by decide) _ acc.length (rows acc) rfl (HO.out.alloc _) ⟨wr.heap.size, 0, none⟩ 1 1 [.int .i64 1, .int .i64 pos, .int .i64 0, .string ⟨#[40]⟩] rfl rfl ?c1 ?c2 ?c3 ?c4 ?c5 ?_))
          case c1 => exact World.news_of_block (cs := #[.int .i64 1, .int .i64 pos, .int .i64 0, .string ⟨#[40]⟩]) (t := 134) (fr := (0, 0)) (heap_alloc_new wr _)
          case c2 => simp [Value.oneCell']
          case c3 => unfold maxLen; omega
          case c4 => omega
          case c5 => have := (Array.getElem?_eq_some_iff.1 HB.out.1).1; simp; omega
          intro v' w4 hown4 hgrow4 _
          have R := rel_app (t := ⟨1, pos, 0, ⟨#[40]⟩⟩) HB.out.1 HB.out.2 (below_al wr _) HO.out hown4 hgrow4
          have HRR : Hid _ := R
          clear hown4 hgrow4 R
          go_wp2
          go_roundw
          case rel => first | exact ⟨pos + 1, acc ++ [⟨1, pos, 0, ⟨#[40]⟩⟩], by go_num, by omega, HRR.out.2.2, HRR.out.1, HRR.out.2.1, HQ.out, by simp; omega⟩ | ((repeat apply Exists.intro); exact ⟨⟨pos + 1, acc ++ [⟨1, pos, 0, ⟨#[40]⟩⟩], by go_num, by omega, HRR.out.2.2, HRR.out.1, HRR.out.2.1, HQ.out, by simp; omega⟩, rfl⟩)
          case measure => simp [intOf]; omega
        · have t32 : ((s[pos].toNat : Int) == 32) = false := by rw [h]; rfl
          have t10 : ((s[pos].toNat : Int) == 10) = false := by rw [h]; rfl
          have t40 : ((s[pos].toNat : Int) == 40) = false := by rw [h]; rfl
          have t41 : ((s[pos].toNat : Int) == 41) = true := by rw [h]; rfl
          have HQ : Hid (rest s (acc ++ [⟨2, pos, 0, ⟨#[41]⟩⟩]) (pos + 1) (pos + 1) = toks s) := show rest s (acc ++ [⟨2, pos, 0, ⟨#[41]⟩⟩]) (pos + 1) (pos + 1) = toks s by
            rw [← HR.out, rest_part s acc pos hp' hpart, h]; rfl
          clear h
          go_wp2_with (first | (at_builtin; refine wpList_append_own _ rfl _ _ 120 rfl (B + 1) 134 i0 _ 4 40 Tryz.underlying120 hi hz0 hz1 hz2 rfl (by decide) _ acc.length (rows acc) rfl (HO.out.alloc _) ⟨wr.heap.size, 0, none⟩ 1 1 [.int .i64 2, .int .i64 pos, .int .i64 0, .string ⟨#[41]⟩] rfl rfl ?c1 ?c2 ?c3 ?c4 ?c5 ?_))
          case c1 => exact World.news_of_block (cs := #[.int .i64 2, .int .i64 pos, .int .i64 0, .string ⟨#[41]⟩]) (t := 134) (fr := (0, 0)) (heap_alloc_new wr _)
          case c2 => simp [Value.oneCell']
          case c3 => unfold maxLen; omega
          case c4 => omega
          case c5 => have := (Array.getElem?_eq_some_iff.1 HB.out.1).1; simp; omega
          intro v' w4 hown4 hgrow4 _
          have R := rel_app (t := ⟨2, pos, 0, ⟨#[41]⟩⟩) HB.out.1 HB.out.2 (below_al wr _) HO.out hown4 hgrow4
          have HRR : Hid _ := R
          clear hown4 hgrow4 R
          go_wp2
          go_roundw
          case rel => first | exact ⟨pos + 1, acc ++ [⟨2, pos, 0, ⟨#[41]⟩⟩], by go_num, by omega, HRR.out.2.2, HRR.out.1, HRR.out.2.1, HQ.out, by simp; omega⟩ | ((repeat apply Exists.intro); exact ⟨⟨pos + 1, acc ++ [⟨2, pos, 0, ⟨#[41]⟩⟩], by go_num, by omega, HRR.out.2.2, HRR.out.1, HRR.out.2.1, HQ.out, by simp; omega⟩, rfl⟩)
          case measure => simp [intOf]; omega
      | false =>
        obtain ⟨n32, n10, n40, n41⟩ := part_no hpart
        have t32 : ((s[pos].toNat : Int) == 32) = false := by rw [beq_eq_false_iff_ne]; omega
        have t10 : ((s[pos].toNat : Int) == 10) = false := by rw [beq_eq_false_iff_ne]; omega
        have t40 : ((s[pos].toNat : Int) == 40) = false := by rw [beq_eq_false_iff_ne]; omega
        have t41 : ((s[pos].toNat : Int) == 41) = false := by rw [beq_eq_false_iff_ne]; omega
        clear n32 n10 n40 n41
        go_wp2
        go_loop [7] (fun v7 => ∃ to : Nat, v7 = .int .i64 to ∧ pos ≤ to ∧ to ≤ s.size ∧ ∀ k, pos ≤ k → ∀ h : k < s.size, k < to → partB (s[k]'h) = false) (fun v7 => s.size - (intOf v7).toNat)
        case atStart => exact ⟨pos, rfl, Nat.le_refl _, by omega, by intro k h1 h h2; omega⟩
        case round =>
          obtain ⟨to, rfl, h1, h2, h3⟩ := hrel
          have HNP : Hid (∀ k, pos ≤ k → ∀ h : k < s.size, k < to → partB (s[k]'h) = false) := h3
          clear h3
          by_cases hto : (to : Int) < s.size
          · have hto' : to < s.size := by omega
            cases hpt : partB s[to] with
            | false =>
              have HPT : Hid (partB s[to] = false) := hpt
              go_wp2_with fail
              refine (spec_part _ _).mono ?_
              rintro e w1 ⟨rfl, hw1⟩
              subst hw1
              go_wp2
              go_round
              case rel =>
                refine ⟨to + 1, by go_num, by omega, by omega, ?_⟩
                intro k hk1 hk2 hk3
                rcases Nat.lt_or_ge k to with hh | hh
                · exact HNP.out k hk1 hk2 hh
                · have e : k = to := by omega
                  subst e; exact HPT.out
              case measure => simp [intOf]; omega
            | true =>
              have HEND : Hid (∀ h : to < s.size, partB (s[to]'h) = true) := fun _ => hpt
              have hgt : pos < to := by
                rcases Nat.lt_or_ge pos to with hh | hh
                · exact hh
                · exfalso
                  have e : to = pos := by omega
                  have := HEND.out (by omega)
                  simp only [e, hpart] at this
                  cases this
              have HX : Hid (rest s acc pos pos = match tokOf (s.extract pos to) pos with | none => ([], (pos : Int)) | some t => rest s (acc ++ [t]) to to) :=
                rest_word hgt h2 (fun j hj => HNP.out (pos + j) (by omega) (by omega) (by omega)) HEND.out
              have hx : (s.extract pos to).size ≤ maxLen := by rw [size_extract' s pos to (by omega) h2]; unfold maxLen; omega
              have hi1 : (pos : Int) ≤ (to : Int) := by omega
              have hi2 : (to : Int) ≤ (s.size : Int) := by omega
              cases hw : wordV (s.extract pos to).data.toList with
              | some v =>
                have HQ : Hid (rest s (acc ++ [⟨3, pos, v, s.extract pos to⟩]) to to = toks s) := show _ = toks s by
                  rw [← HR.out, HX.out]; unfold tokOf; rw [hw]
                have HC : Hid (∀ w, Calls Tryz.prog 98 #[.string (s.extract pos to)] w fun e w' => e = .returned (.tuple #[.int .i64 v, .bool true]) ∧ Below w.heap.size w w') := fun w => spec_word_some _ hx v hw w
                clear hw hpart
                go_wp2_with fail
                refine (spec_part _ _).mono ?_
                rintro e w1 ⟨rfl, hw1⟩
                subst hw1
                go_wp2_with fail
                refine (HC.out _).mono ?_
                rintro e w2 ⟨rfl, hb2⟩
                have HO2 : Hid (w2.ownsRow (B + 1) 134 4 u5 acc.length (rows acc)) := own_below HO.out hb2
                have HB2 : Hid (w2.heap[B]? = some (.cells #[] 134 (0, 0)) ∧ Below B w w2) := ⟨(hb2.block _ (Array.getElem?_eq_some_iff.1 HB.out.1).1).trans HB.out.1, HB.out.2.trans (hb2.mono (by have := (Array.getElem?_eq_some_iff.1 HB.out.1).1; omega))⟩
                clear hb2
                go_wp2_with (first | (at_builtin; refine wpList_append_own _ rfl _ _ 120 rfl (B + 1) 134 i0 _ 4 40 Tryz.underlying120 hi hz0 hz1 hz2 rfl (by decide) _ acc.length (rows acc) rfl (HO2.out.alloc _) ⟨w2.heap.size, 0, none⟩ 1 1 [.int .i64 3, .int .i64 pos, .int .i64 v, .string (s.extract pos to)] rfl rfl ?c1 ?c2 ?c3 ?c4 ?c5 ?_))
                case c1 => exact World.news_of_block (cs := #[.int .i64 3, .int .i64 pos, .int .i64 v, .string (s.extract pos to)]) (t := 134) (fr := (0, 0)) (heap_alloc_new w2 _)
                case c2 => simp [Value.oneCell']
                case c3 => unfold maxLen; omega
                case c4 => omega
                case c5 => have := (Array.getElem?_eq_some_iff.1 HB2.out.1).1; simp; omega
                intro v' w4 hown4 hgrow4 _
                have R := rel_app (t := ⟨3, pos, v, s.extract pos to⟩) HB2.out.1 HB2.out.2 (below_al w2 _) HO2.out hown4 hgrow4
                have HRR : Hid _ := R
                clear hown4 hgrow4 R
                go_wp2
                go_roundw
                case rel => first | exact ⟨to, acc ++ [⟨3, pos, v, s.extract pos to⟩], by go_num, by omega, HRR.out.2.2, HRR.out.1, HRR.out.2.1, HQ.out, by simp; omega⟩ | ((repeat apply Exists.intro); exact ⟨⟨to, acc ++ [⟨3, pos, v, s.extract pos to⟩], by go_num, by omega, HRR.out.2.2, HRR.out.1, HRR.out.2.1, HQ.out, by simp; omega⟩, rfl⟩)
                case measure => simp [intOf]; omega
              | none =>
                have HC : Hid (∀ w, Calls Tryz.prog 98 #[.string (s.extract pos to)] w fun e w' => (∃ n, e = .returned (.tuple #[.int .i64 n, .bool false])) ∧ Below w.heap.size w w') := fun w => spec_word_none _ hx hw w
                cases hsy : symB (s.extract pos to).data.toList with
                | true =>
                  have HQ : Hid (rest s (acc ++ [⟨4, pos, 0, s.extract pos to⟩]) to to = toks s) := show _ = toks s by
                    rw [← HR.out, HX.out]; unfold tokOf; rw [hw, hsy]; rfl
                  have HSY : Hid (∀ w, Calls Tryz.prog 86 #[.string (s.extract pos to)] w fun e w' => e = .returned (.bool true) ∧ w' = w) := fun w => by
                    have := spec_sym (s.extract pos to) w hx
                    rw [hsy] at this
                    exact this
                  clear hw hsy hpart
                  go_wp2_with fail
                  refine (spec_part _ _).mono ?_
                  rintro e w1 ⟨rfl, hw1⟩
                  subst hw1
                  go_wp2_with fail
                  refine (HC.out _).mono ?_
                  rintro e w2 ⟨⟨n, rfl⟩, hb2⟩
                  have HO2 : Hid (w2.ownsRow (B + 1) 134 4 u5 acc.length (rows acc)) := own_below HO.out hb2
                  have HB2 : Hid (w2.heap[B]? = some (.cells #[] 134 (0, 0)) ∧ Below B w w2) := ⟨(hb2.block _ (Array.getElem?_eq_some_iff.1 HB.out.1).1).trans HB.out.1, HB.out.2.trans (hb2.mono (by have := (Array.getElem?_eq_some_iff.1 HB.out.1).1; omega))⟩
                  clear hb2
                  go_wp2_with fail
                  refine (HSY.out _).mono ?_
                  rintro e w3 ⟨rfl, hw3⟩
                  subst hw3
                  go_wp2_with (first | (at_builtin; refine wpList_append_own _ rfl _ _ 120 rfl (B + 1) 134 i0 _ 4 40 Tryz.underlying120 hi hz0 hz1 hz2 rfl (by decide) _ acc.length (rows acc) rfl (HO2.out.alloc _) ⟨w3.heap.size, 0, none⟩ 1 1 [.int .i64 4, .int .i64 pos, .int .i64 0, .string (s.extract pos to)] rfl rfl ?c1 ?c2 ?c3 ?c4 ?c5 ?_))
                  case c1 => exact World.news_of_block (cs := #[.int .i64 4, .int .i64 pos, .int .i64 0, .string (s.extract pos to)]) (t := 134) (fr := (0, 0)) (heap_alloc_new w3 _)
                  case c2 => simp [Value.oneCell']
                  case c3 => unfold maxLen; omega
                  case c4 => omega
                  case c5 => have := (Array.getElem?_eq_some_iff.1 HB2.out.1).1; simp; omega
                  intro v' w4 hown4 hgrow4 _
                  have R := rel_app (t := ⟨4, pos, 0, s.extract pos to⟩) HB2.out.1 HB2.out.2 (below_al w3 _) HO2.out hown4 hgrow4
                  have HRR : Hid _ := R
                  clear hown4 hgrow4 R
                  go_wp2
                  go_roundw
                  case rel => first | exact ⟨to, acc ++ [⟨4, pos, 0, s.extract pos to⟩], by go_num, by omega, HRR.out.2.2, HRR.out.1, HRR.out.2.1, HQ.out, by simp; omega⟩ | ((repeat apply Exists.intro); exact ⟨⟨to, acc ++ [⟨4, pos, 0, s.extract pos to⟩], by go_num, by omega, HRR.out.2.2, HRR.out.1, HRR.out.2.1, HQ.out, by simp; omega⟩, rfl⟩)
                  case measure => simp [intOf]; omega
                | false =>
                  have HQ : Hid (toks s = ([], (pos : Int))) := show toks s = _ by
                    rw [← HR.out, HX.out]; unfold tokOf; rw [hw, hsy]; rfl
                  have HSY : Hid (∀ w, Calls Tryz.prog 86 #[.string (s.extract pos to)] w fun e w' => e = .returned (.bool false) ∧ w' = w) := fun w => by
                    have := spec_sym (s.extract pos to) w hx
                    rw [hsy] at this
                    exact this
                  clear hw hsy hpart
                  go_wp2_with fail
                  refine (spec_part _ _).mono ?_
                  rintro e w1 ⟨rfl, hw1⟩
                  subst hw1
                  go_wp2_with fail
                  refine (HC.out _).mono ?_
                  rintro e w2 ⟨⟨n, rfl⟩, hb2⟩
                  have HO2 : Hid (w2.ownsRow (B + 1) 134 4 u5 acc.length (rows acc)) := own_below HO.out hb2
                  have HB2 : Hid (w2.heap[B]? = some (.cells #[] 134 (0, 0)) ∧ Below B w w2) := ⟨(hb2.block _ (Array.getElem?_eq_some_iff.1 HB.out.1).1).trans HB.out.1, HB.out.2.trans (hb2.mono (by have := (Array.getElem?_eq_some_iff.1 HB.out.1).1; omega))⟩
                  clear hb2
                  go_wp2_with fail
                  refine (HSY.out _).mono ?_
                  rintro e w3 ⟨rfl, hw3⟩
                  subst hw3
                  go_wp2
                  go_ret2
                  rw [HQ.out]
                  exact ⟨_, rfl, by first | exact HB2.out.2 | (rw [hBw]; exact HB2.out.2), by first | exact own_none HB2.out.1 | (rw [hBw]; exact own_none HB2.out.1)⟩
          · have HEND : Hid (∀ h : to < s.size, partB (s[to]'h) = true) := fun h => absurd h (by omega)
            have hgt : pos < to := by
              rcases Nat.lt_or_ge pos to with hh | hh
              · exact hh
              · exfalso
                have e : to = pos := by omega
                have := HEND.out (by omega)
                simp only [e, hpart] at this
                cases this
            have HX : Hid (rest s acc pos pos = match tokOf (s.extract pos to) pos with | none => ([], (pos : Int)) | some t => rest s (acc ++ [t]) to to) :=
              rest_word hgt h2 (fun j hj => HNP.out (pos + j) (by omega) (by omega) (by omega)) HEND.out
            have hx : (s.extract pos to).size ≤ maxLen := by rw [size_extract' s pos to (by omega) h2]; unfold maxLen; omega
            have hi1 : (pos : Int) ≤ (to : Int) := by omega
            have hi2 : (to : Int) ≤ (s.size : Int) := by omega
            cases hw : wordV (s.extract pos to).data.toList with
            | some v =>
              have HQ : Hid (rest s (acc ++ [⟨3, pos, v, s.extract pos to⟩]) to to = toks s) := show _ = toks s by
                rw [← HR.out, HX.out]; unfold tokOf; rw [hw]
              have HC : Hid (∀ w, Calls Tryz.prog 98 #[.string (s.extract pos to)] w fun e w' => e = .returned (.tuple #[.int .i64 v, .bool true]) ∧ Below w.heap.size w w') := fun w => spec_word_some _ hx v hw w
              clear hw hpart

              go_wp2_with fail
              refine (HC.out _).mono ?_
              rintro e w2 ⟨rfl, hb2⟩
              have HO2 : Hid (w2.ownsRow (B + 1) 134 4 u5 acc.length (rows acc)) := own_below HO.out hb2
              have HB2 : Hid (w2.heap[B]? = some (.cells #[] 134 (0, 0)) ∧ Below B w w2) := ⟨(hb2.block _ (Array.getElem?_eq_some_iff.1 HB.out.1).1).trans HB.out.1, HB.out.2.trans (hb2.mono (by have := (Array.getElem?_eq_some_iff.1 HB.out.1).1; omega))⟩
              clear hb2
              go_wp2_with (first | (at_builtin; refine wpList_append_own _ rfl _ _ 120 rfl (B + 1) 134 i0 _ 4 40 Tryz.underlying120 hi hz0 hz1 hz2 rfl (by decide) _ acc.length (rows acc) rfl (HO2.out.alloc _) ⟨w2.heap.size, 0, none⟩ 1 1 [.int .i64 3, .int .i64 pos, .int .i64 v, .string (s.extract pos to)] rfl rfl ?c1 ?c2 ?c3 ?c4 ?c5 ?_))
              case c1 => exact World.news_of_block (cs := #[.int .i64 3, .int .i64 pos, .int .i64 v, .string (s.extract pos to)]) (t := 134) (fr := (0, 0)) (heap_alloc_new w2 _)
              case c2 => simp [Value.oneCell']
              case c3 => unfold maxLen; omega
              case c4 => omega
              case c5 => have := (Array.getElem?_eq_some_iff.1 HB2.out.1).1; simp; omega
              intro v' w4 hown4 hgrow4 _
              have R := rel_app (t := ⟨3, pos, v, s.extract pos to⟩) HB2.out.1 HB2.out.2 (below_al w2 _) HO2.out hown4 hgrow4
              have HRR : Hid _ := R
              clear hown4 hgrow4 R
              go_wp2
              go_roundw
              case rel => first | exact ⟨to, acc ++ [⟨3, pos, v, s.extract pos to⟩], by go_num, by omega, HRR.out.2.2, HRR.out.1, HRR.out.2.1, HQ.out, by simp; omega⟩ | ((repeat apply Exists.intro); exact ⟨⟨to, acc ++ [⟨3, pos, v, s.extract pos to⟩], by go_num, by omega, HRR.out.2.2, HRR.out.1, HRR.out.2.1, HQ.out, by simp; omega⟩, rfl⟩)
              case measure => simp [intOf]; omega
            | none =>
              have HC : Hid (∀ w, Calls Tryz.prog 98 #[.string (s.extract pos to)] w fun e w' => (∃ n, e = .returned (.tuple #[.int .i64 n, .bool false])) ∧ Below w.heap.size w w') := fun w => spec_word_none _ hx hw w
              cases hsy : symB (s.extract pos to).data.toList with
              | true =>
                have HQ : Hid (rest s (acc ++ [⟨4, pos, 0, s.extract pos to⟩]) to to = toks s) := show _ = toks s by
                  rw [← HR.out, HX.out]; unfold tokOf; rw [hw, hsy]; rfl
                have HSY : Hid (∀ w, Calls Tryz.prog 86 #[.string (s.extract pos to)] w fun e w' => e = .returned (.bool true) ∧ w' = w) := fun w => by
                  have := spec_sym (s.extract pos to) w hx
                  rw [hsy] at this
                  exact this
                clear hw hsy hpart

                go_wp2_with fail
                refine (HC.out _).mono ?_
                rintro e w2 ⟨⟨n, rfl⟩, hb2⟩
                have HO2 : Hid (w2.ownsRow (B + 1) 134 4 u5 acc.length (rows acc)) := own_below HO.out hb2
                have HB2 : Hid (w2.heap[B]? = some (.cells #[] 134 (0, 0)) ∧ Below B w w2) := ⟨(hb2.block _ (Array.getElem?_eq_some_iff.1 HB.out.1).1).trans HB.out.1, HB.out.2.trans (hb2.mono (by have := (Array.getElem?_eq_some_iff.1 HB.out.1).1; omega))⟩
                clear hb2
                go_wp2_with fail
                refine (HSY.out _).mono ?_
                rintro e w3 ⟨rfl, hw3⟩
                subst hw3
                go_wp2_with (first | (at_builtin; refine wpList_append_own _ rfl _ _ 120 rfl (B + 1) 134 i0 _ 4 40 Tryz.underlying120 hi hz0 hz1 hz2 rfl (by decide) _ acc.length (rows acc) rfl (HO2.out.alloc _) ⟨w3.heap.size, 0, none⟩ 1 1 [.int .i64 4, .int .i64 pos, .int .i64 0, .string (s.extract pos to)] rfl rfl ?c1 ?c2 ?c3 ?c4 ?c5 ?_))
                case c1 => exact World.news_of_block (cs := #[.int .i64 4, .int .i64 pos, .int .i64 0, .string (s.extract pos to)]) (t := 134) (fr := (0, 0)) (heap_alloc_new w3 _)
                case c2 => simp [Value.oneCell']
                case c3 => unfold maxLen; omega
                case c4 => omega
                case c5 => have := (Array.getElem?_eq_some_iff.1 HB2.out.1).1; simp; omega
                intro v' w4 hown4 hgrow4 _
                have R := rel_app (t := ⟨4, pos, 0, s.extract pos to⟩) HB2.out.1 HB2.out.2 (below_al w3 _) HO2.out hown4 hgrow4
                have HRR : Hid _ := R
                clear hown4 hgrow4 R
                go_wp2
                go_roundw
                case rel => first | exact ⟨to, acc ++ [⟨4, pos, 0, s.extract pos to⟩], by go_num, by omega, HRR.out.2.2, HRR.out.1, HRR.out.2.1, HQ.out, by simp; omega⟩ | ((repeat apply Exists.intro); exact ⟨⟨to, acc ++ [⟨4, pos, 0, s.extract pos to⟩], by go_num, by omega, HRR.out.2.2, HRR.out.1, HRR.out.2.1, HQ.out, by simp; omega⟩, rfl⟩)
                case measure => simp [intOf]; omega
              | false =>
                have HQ : Hid (toks s = ([], (pos : Int))) := show toks s = _ by
                  rw [← HR.out, HX.out]; unfold tokOf; rw [hw, hsy]; rfl
                have HSY : Hid (∀ w, Calls Tryz.prog 86 #[.string (s.extract pos to)] w fun e w' => e = .returned (.bool false) ∧ w' = w) := fun w => by
                  have := spec_sym (s.extract pos to) w hx
                  rw [hsy] at this
                  exact this
                clear hw hsy hpart

                go_wp2_with fail
                refine (HC.out _).mono ?_
                rintro e w2 ⟨⟨n, rfl⟩, hb2⟩
                have HO2 : Hid (w2.ownsRow (B + 1) 134 4 u5 acc.length (rows acc)) := own_below HO.out hb2
                have HB2 : Hid (w2.heap[B]? = some (.cells #[] 134 (0, 0)) ∧ Below B w w2) := ⟨(hb2.block _ (Array.getElem?_eq_some_iff.1 HB.out.1).1).trans HB.out.1, HB.out.2.trans (hb2.mono (by have := (Array.getElem?_eq_some_iff.1 HB.out.1).1; omega))⟩
                clear hb2
                go_wp2_with fail
                refine (HSY.out _).mono ?_
                rintro e w3 ⟨rfl, hw3⟩
                subst hw3
                go_wp2
                go_ret2
                rw [HQ.out]
                exact ⟨_, rfl, by first | exact HB2.out.2 | (rw [hBw]; exact HB2.out.2), by first | exact own_none HB2.out.1 | (rw [hBw]; exact own_none HB2.out.1)⟩
    · have hpe : pos = s.size := by omega
      have HQ : Hid (toks s = (acc, -1)) := show toks s = _ by rw [← HR.out, hpe, rest_done]
      clear hpe
      go_wp2
      go_ret2
      rw [HQ.out]
      exact ⟨_, rfl, HB.out.2, own_baseT HO.out (by omega)⟩
end Go.Proofs.YtgbfflpdpfgnbaaGreat

/- spec.l3Size, spec.l3Deep and spec.l1Max. Condition: at most 2^40 data. -/
namespace Go.Proofs.YtgbfflpdpfgnbaaGreat
open Go.ChangeShapes Go.WideShapes Go.ChangeAt Go.RowKit

theorem spec_max (a b : Nat) (w : World) : Calls Tryz.prog 84 #[.int .i64 a, .int .i64 b] w fun e w' => e = .returned (.int .i64 ((max a b : Nat) : Int)) ∧ w' = w := by
  by_cases h : (b : Int) < a
  · have H : Hid (max a b = a) := by show _ = _; omega
    go_enter Tryz.func84, Tryz.ntmps84
    go_wp2
    go_ret
    exact ⟨by rw [H.out]; rfl, rfl⟩
  · have H : Hid (max a b = b) := by show _ = _; omega
    go_enter Tryz.func84, Tryz.ntmps84
    go_wp2
    go_ret
    exact ⟨by rw [H.out]; rfl, rfl⟩

def SizeAt (t : D) : Prop := ∀ (w : World) (v : Value), t.In w v → t.count ≤ 1099511627776 →
  Calls Tryz.prog 70 #[.agg #[.int .i64 t.op, .int .i64 t.at_, .int .i64 t.n, .string t.s, v]] w fun e w' => e = .returned (.int .i64 t.count) ∧ Below w.heap.size w w'
def DeepAt (t : D) : Prop := ∀ (w : World) (v : Value), t.In w v → t.count ≤ 1099511627776 →
  Calls Tryz.prog 71 #[.agg #[.int .i64 t.op, .int .i64 t.at_, .int .i64 t.n, .string t.s, v]] w fun e w' => e = .returned (.int .i64 t.deep) ∧ Below w.heap.size w w'

set_option maxRecDepth 100000 in
set_option maxHeartbeats 2000000 in
theorem spec_size (t : D) : SizeAt t := by
  induction t with
  | no => intro w v h _; exact h.elim
  | mk op a n s len kid ih =>
    intro w v hin hc
    have h1 := hin.sl
    have HCE : Hid ((D.mk op a n s len kid).count = 1 + sumTo (fun i => (kid i).count) len) := rfl
    simp only [D.op, D.at_, D.n, D.s, D.len, D.kid] at h1 ⊢
    generalize (D.mk op a n s len kid).count = C at *
    obtain ⟨p, cap, e1, hlen, hat⟩ := h1.at
    have HC : Hid (∀ i, i < len → ∃ b o u, p = some ⟨b, o, none⟩ ∧ Head w b (o + i * 5) (kid i) u ∧ (kid i).In w u) := hat
    have IH : Hid (∀ i, SizeAt (kid i)) := ih
    clear hin h1 hat ih
    unfold maxLen at hlen
    subst e1
    go_enter Tryz.func70, Tryz.ntmps70
    go_wp2_with fail
    go_loopw [3, 4] (fun x i wr => ∃ k c : Nat, i = .int .i64 k ∧ x = .int .i64 c ∧ k ≤ len ∧ c = 1 + sumTo (fun i => (kid i).count) k ∧ wr.cell? ⟨w.heap.size, 4, none⟩ = some (.slice p len cap) ∧ Below w.heap.size w wr) (fun _ i _ => len - (intOf i).toNat)
    case atStart => exact ⟨0, 1, rfl, rfl, Nat.zero_le _, rfl, by simp, newb w _⟩
    case round =>
      obtain ⟨k, c, rfl, rfl, hk, hcc, hc1, hbel⟩ := hrel
      have HBL : Hid (Below w.heap.size w wr) := hbel
      have HS : Hid (c = 1 + sumTo (fun i => (kid i).count) k) := hcc
      clear hbel hcc
      by_cases hlt : (k : Int) < len
      · have hlt' : k < len := by omega
        obtain ⟨b, o, u, hp, hd, hin⟩ := HC.out k hlt'
        subst hp
        obtain ⟨c0, c1, c2, c3, c4⟩ := hd.below HBL.out
        have HI : Hid ((kid k).In wr u) := hin.below HBL.out
        have hsum : c + (kid k).count ≤ C := by
          have h1 := sumTo_at (fun i => (kid i).count) k len hlt'
          have h2 := HS.out
          have h3 := HCE.out
          omega
        have hck : (kid k).count ≤ 1099511627776 := by omega
        clear hd hin
        go_wp2_with fail
        refine (IH.out k wr u HI.out hck).mono ?_
        rintro e w1 ⟨rfl, hb1⟩
        have HB1 : Hid (Below w.heap.size w w1) := HBL.out.trans (hb1.mono HBL.out.size)
        have HX : Hid (w1.cell? ⟨w.heap.size, 4, none⟩ = some (.slice (some ⟨b, o, none⟩) len cap)) := keeps hb1 _ _ hc1
        clear hb1 c0 c1 c2 c3 c4
        go_wp2_with fail
        go_roundw
        case rel => exact ⟨k + 1, c + (kid k).count, by go_num, by go_num, by omega, by rw [HS.out]; simp only [sumTo]; omega, HX.out, HB1.out⟩
        case measure => simp [intOf]; omega
      · have hke : k = len := by omega
        subst hke
        have HE : Hid (c = C) := HS.out.trans HCE.out.symm
        go_wp2_with fail
        go_ret
        exact ⟨by rw [← HE.out]; rfl, HBL.out⟩

set_option maxRecDepth 100000 in
set_option maxHeartbeats 2000000 in
theorem spec_deep (t : D) : DeepAt t := by
  induction t with
  | no => intro w v h _; exact h.elim
  | mk op a n s len kid ih =>
    intro w v hin hc
    have h1 := hin.sl
    have HCE : Hid ((D.mk op a n s len kid).count = 1 + sumTo (fun i => (kid i).count) len) := rfl
    have HDE : Hid ((D.mk op a n s len kid).deep = maxTo (fun i => (kid i).deep) len + 1) := rfl
    have hdc := (D.mk op a n s len kid).deep_count
    simp only [D.op, D.at_, D.n, D.s, D.len, D.kid] at h1 ⊢
    generalize (D.mk op a n s len kid).count = C at *
    generalize (D.mk op a n s len kid).deep = E at *
    obtain ⟨p, cap, e1, hlen, hat⟩ := h1.at
    have HC : Hid (∀ i, i < len → ∃ b o u, p = some ⟨b, o, none⟩ ∧ Head w b (o + i * 5) (kid i) u ∧ (kid i).In w u) := hat
    have IH : Hid (∀ i, DeepAt (kid i)) := ih
    clear hin h1 hat ih
    unfold maxLen at hlen
    subst e1
    go_enter Tryz.func71, Tryz.ntmps71
    go_wp2_with fail
    go_loopw [3, 4] (fun x i wr => ∃ k c : Nat, i = .int .i64 k ∧ x = .int .i64 c ∧ k ≤ len ∧ c = maxTo (fun i => (kid i).deep) k ∧ wr.cell? ⟨w.heap.size, 4, none⟩ = some (.slice p len cap) ∧ Below w.heap.size w wr) (fun _ i _ => len - (intOf i).toNat)
    case atStart => exact ⟨0, 0, rfl, rfl, Nat.zero_le _, rfl, by simp, newb w _⟩
    case round =>
      obtain ⟨k, c, rfl, rfl, hk, hcc, hc1, hbel⟩ := hrel
      have HBL : Hid (Below w.heap.size w wr) := hbel
      have HS : Hid (c = maxTo (fun i => (kid i).deep) k) := hcc
      clear hbel hcc
      by_cases hlt : (k : Int) < len
      · have hlt' : k < len := by omega
        obtain ⟨b, o, u, hp, hd, hin⟩ := HC.out k hlt'
        subst hp
        obtain ⟨c0, c1, c2, c3, c4⟩ := hd.below HBL.out
        have HI : Hid ((kid k).In wr u) := hin.below HBL.out
        have hck : (kid k).count ≤ 1099511627776 := by
          have h1 := sumTo_at (fun i => (kid i).count) k len hlt'
          have h3 := HCE.out
          omega
        clear hd hin
        go_wp2_with fail
        refine (IH.out k wr u HI.out hck).mono ?_
        rintro e w1 ⟨rfl, hb1⟩
        have HB1 : Hid (Below w.heap.size w w1) := HBL.out.trans (hb1.mono HBL.out.size)
        have HX : Hid (w1.cell? ⟨w.heap.size, 4, none⟩ = some (.slice (some ⟨b, o, none⟩) len cap)) := keeps hb1 _ _ hc1
        clear hb1 c0 c1 c2 c3 c4
        go_wp2_with fail
        refine (spec_max c (kid k).deep _).mono ?_
        rintro e w2 ⟨rfl, hw2⟩
        subst hw2
        go_wp2_with fail
        go_roundw
        case rel => exact ⟨k + 1, max c (kid k).deep, by go_num, rfl, by omega, by rw [HS.out]; rfl, HX.out, HB1.out⟩
        case measure => simp [intOf]; omega
      · have hke : k = len := by omega
        subst hke
        have HE : Hid (c + 1 = E) := by
          have h1 := HS.out
          have h2 := HDE.out
          show _ = _
          omega
        have hcb : c ≤ 1099511627776 := by have := HE.out; omega
        go_wp2_with fail
        go_ret
        exact ⟨by rw [← HE.out]; rfl, HBL.out⟩
end Go.Proofs.YtgbfflpdpfgnbaaGreat
