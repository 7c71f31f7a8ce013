/- The library functions named below, at this program: their contracts of the guide, laid at its numbers. No conditions of our own. -/
import Derived.Test.YtlclfmjpnchmbaaGreatProg
import Derived.Test.YtlclfmjpnchmbaaGreatRows
import Derived.Test.YtlclfmjpnchmbaaGreatZG21SpecDats
import Derived.Shelf.Small.Utf8
import Derived.Shelf.Small.Strs
import Derived.Shelf.Strings.Search1
import Derived.Shelf.Strings.Prefix
import Derived.Shelf.Strings.Runes
import Derived.Laws.Runes
import Derived.Laws.RangeAny
import Derived.Lib.IndexLaws
import Derived.WalkKit
import Derived.ProofKit
import Derived.Below
import Derived.BigQuiet
import Derived.Deep.QuietTactic
import Derived.WalkMore
namespace Go.Proofs
open Go.Shelf
def Tryz.lays137_ren : Go.Shelf.Ren := ⟨fun | 137 => 94 | 217 => 98 | 266 => 99 | n => n, fun | 9 => 9 | 5 => 5 | 3 => 3 | n => n, fun | n => n⟩
theorem Tryz.lays137 : Go.Proofs.Lays.n137 Tryz.prog Tryz.lays137_ren := {
  mixed := by kernel_rfl
  f137 := Tryz.func94.trans (congrArg some (by kernel_rfl))
  f217 := Tryz.func98.trans (congrArg some (by kernel_rfl))
  f266 := Tryz.func99.trans (congrArg some (by kernel_rfl))
  t3 := Tryz.underlying3
  a3 := Tryz.isAgg3
  z3 := Tryz.sizeOf3
  v3 := Tryz.zeroValue3
  t5 := Tryz.underlying5
  a5 := Tryz.isAgg5
  z5 := Tryz.sizeOf5
  v5 := Tryz.zeroValue5
  t9 := Tryz.underlying9
  a9 := Tryz.isAgg9
  z9 := Tryz.sizeOf9
  v9 := Tryz.zeroValue9 }
def Tryz.lays101_ren : Go.Shelf.Ren := ⟨fun | 101 => 83 | 208 => 91 | 206 => 93 | n => n, fun | 9 => 9 | 4 => 4 | 3 => 3 | n => n, fun | n => n⟩
theorem Tryz.lays101 : Go.Proofs.Lays.n101 Tryz.prog Tryz.lays101_ren := {
  mixed := by kernel_rfl
  f101 := Tryz.func83.trans (congrArg some (by kernel_rfl))
  f206 := Tryz.func93.trans (congrArg some (by kernel_rfl))
  f208 := Tryz.func91.trans (congrArg some (by kernel_rfl))
  t3 := Tryz.underlying3
  a3 := Tryz.isAgg3
  z3 := Tryz.sizeOf3
  v3 := Tryz.zeroValue3
  t4 := Tryz.underlying4
  a4 := Tryz.isAgg4
  z4 := Tryz.sizeOf4
  v4 := Tryz.zeroValue4
  t9 := Tryz.underlying9
  a9 := Tryz.isAgg9
  z9 := Tryz.sizeOf9
  v9 := Tryz.zeroValue9 }
def Tryz.lays151_ren : Go.Shelf.Ren := ⟨fun | 151 => 85 | 152 => 92 | 137 => 94 | 119 => 95 | 224 => 96 | 225 => 97 | 217 => 98 | 266 => 99 | n => n, fun | 9 => 9 | 21 => 21 | 4 => 4 | 3 => 3 | 5 => 5 | 0 => 0 | 46 => 129 | n => n, fun | n => n⟩
theorem Tryz.lays151 : Go.Proofs.Lays.n151 Tryz.prog Tryz.lays151_ren := {
  mixed := by kernel_rfl
  f119 := Tryz.func95.trans (congrArg some (by kernel_rfl))
  f137 := Tryz.func94.trans (congrArg some (by kernel_rfl))
  f151 := Tryz.func85.trans (congrArg some (by kernel_rfl))
  f152 := Tryz.func92.trans (congrArg some (by kernel_rfl))
  f217 := Tryz.func98.trans (congrArg some (by kernel_rfl))
  f224 := Tryz.func96.trans (congrArg some (by kernel_rfl))
  f225 := Tryz.func97.trans (congrArg some (by kernel_rfl))
  f266 := Tryz.func99.trans (congrArg some (by kernel_rfl))
  t0 := Tryz.underlying0
  a0 := Tryz.isAgg0
  z0 := Tryz.sizeOf0
  v0 := Tryz.zeroValue0
  t3 := Tryz.underlying3
  a3 := Tryz.isAgg3
  z3 := Tryz.sizeOf3
  v3 := Tryz.zeroValue3
  t4 := Tryz.underlying4
  a4 := Tryz.isAgg4
  z4 := Tryz.sizeOf4
  v4 := Tryz.zeroValue4
  t5 := Tryz.underlying5
  a5 := Tryz.isAgg5
  z5 := Tryz.sizeOf5
  v5 := Tryz.zeroValue5
  t9 := Tryz.underlying9
  a9 := Tryz.isAgg9
  z9 := Tryz.sizeOf9
  v9 := Tryz.zeroValue9
  t21 := Tryz.underlying21
  a21 := Tryz.isAgg21
  z21 := Tryz.sizeOf21
  v21 := Tryz.zeroValue21
  t46 := Tryz.underlying129
  a46 := Tryz.isAgg129
  z46 := Tryz.sizeOf129
  v46 := Tryz.zeroValue129 }
open Go.RowKit in
theorem Tryz.strings_IndexByte (s : ByteArray) (c : Int) (w : World) :
    Calls Tryz.prog 94 #[.string s, .int .u8 c] w fun e w' => e = .returned (.int .i64 (Lib.indexByte s.data.toList c.toNat.toUInt8)) ∧ w' = w := Any.strings_IndexByte Tryz.lays137 s c w
open Go.RowKit Go.Lib in
theorem Tryz.strings_TrimPrefix (s p : ByteArray) (w : World) :
    Calls Tryz.prog 83 #[.string s, .string p] w fun e w' => e = .returned (.string ⟨(Lib.trimPrefix s.data.toList p.data.toList).toArray⟩) ∧ w' = w := Any.strings_TrimPrefix Tryz.lays101 s p w
open Go.RowKit Go.Lib in
theorem Tryz.strings_ContainsRune_ascii (s : ByteArray) (r : Int) (w : World) (h0 : 0 ≤ r) (h1 : r < 128) :
    Calls Tryz.prog 85 #[.string s, .int .i32 r] w fun e w' => e = .returned (.bool (decide (0 ≤ Lib.indexByte s.data.toList r.toNat.toUInt8))) ∧ w' = w := Any.strings_ContainsRune_ascii Tryz.lays151 s r w h0 h1
end Go.Proofs

/- strings.ContainsRune on a short text of one-byte signs: at a sign of one byte, whether it is there; at any other, no. No conditions on the world. -/
namespace Go.Proofs.YtlclfmjpnchmbaaGreat
open Go.ChangeShapes Go.WideShapes Go.ChangeAt Go.RowKit

theorem index_has (l : List UInt8) (c : UInt8) : decide (0 ≤ Lib.indexByte l c) = l.contains c := by
  induction l with
  | nil => rfl
  | cons b r ih =>
    have hge := Lib.indexByte_ge r c
    unfold Lib.indexByte
    rw [List.contains_cons]
    by_cases hb : b = c
    · subst hb; simp
    · have h1 : (b == c) = false := beq_eq_false_iff_ne.2 hb
      have h2 : (c == b) = false := beq_eq_false_iff_ne.2 (fun e => hb e.symm)
      rw [h1, h2, ← ih]
      simp only [Bool.false_eq_true, if_false, Bool.false_or]
      by_cases h3 : Lib.indexByte r c = -1
      · simp [h3]
      · have h4 : (Lib.indexByte r c == -1) = false := beq_eq_false_iff_ne.2 h3
        rw [h4]
        simp only [Bool.false_eq_true, if_false, decide_eq_decide]
        omega

theorem index_no (l : List UInt8) (c : UInt8) (h : ∀ b ∈ l, b ≠ c) : Lib.indexByte l c = -1 := by
  induction l with
  | nil => rfl
  | cons b r ih =>
    unfold Lib.indexByte
    rw [beq_eq_false_iff_ne.2 (h b List.mem_cons_self), ih (fun d hd => h d (List.mem_cons_of_mem _ hd))]
    rfl

theorem below_iter (w : World) (t : ByteArray) (pos : Nat) : Below w.heap.size w (w.iter t pos) :=
  ⟨rfl, rfl, rfl, by simp [World.iter], fun k hk => (World.grownBy_alloc w _ none).block k hk (by simp)⟩

theorem below_drewN (w : World) (k : Nat) : Below w.heap.size w (w.drewN k) := ⟨rfl, rfl, rfl, Nat.le_refl _, fun _ _ => rfl⟩

theorem contains_low (t : ByteArray) (r : Nat) (hr : r < 128) (w : World) :
    Calls Tryz.prog 85 #[.string t, .int .i32 r] w fun e w' => e = .returned (.bool (t.data.toList.contains (UInt8.ofNat r))) ∧ w' = w := by
  refine (Tryz.strings_ContainsRune_ascii t r w (by omega) (by omega)).mono fun e w' ⟨he, hw⟩ => ⟨?_, hw⟩
  rw [he, index_has]
  rfl

set_option maxRecDepth 1000000 in
set_option maxHeartbeats 2000000 in
theorem rune_bad (t : ByteArray) (ht : ∀ b ∈ t.data.toList, b.toNat < 128) (w : World) :
    Calls Tryz.prog 92 #[.string t, .int .i32 65533] w fun e w' => e = .returned (.int .i64 (-1)) ∧ Below w.heap.size w w' := by
  have HT : Hid (∀ b ∈ t.data.toList, b.toNat < 128) := ht
  clear ht
  go_enter Tryz.func92, Tryz.ntmps92
  go_wp2
  go_loopw [5] (fun _ w' => ∃ pos : Nat, pos ≤ t.size ∧ w' = w.iter t pos) (fun _ w' => t.size - w'.iterPos w.heap.size)
  case atStart => exact ⟨0, Nat.zero_le _, rfl⟩
  case round =>
    obtain ⟨pos, hpos, rfl⟩ := hrel
    by_cases hp : pos < t.size
    · have hb : (t[pos]).toNat < 128 := HT.out _ (by have : t[pos] = t.data.toList[pos]'(by simpa using hp) := rfl
                                                     rw [this]; exact List.getElem_mem _)
      have hnx : ∀ ty, (Instr.next (.pointer (some ⟨w.heap.size, 0, none⟩)) true ty).run Tryz.prog (w.iter t pos) = _ := fun ty => run_next_ascii w t pos ty hp hb
      have hne : ((t[pos].toNat : Int) == 65533) = false := by simp; omega
      go_wp2
      go_roundw
      case rel => exact ⟨pos + 1, by omega, rfl⟩
      case measure => simp; omega
    · have hnx : ∀ ty, (Instr.next (.pointer (some ⟨w.heap.size, 0, none⟩)) true ty).run Tryz.prog (w.iter t pos) = _ := fun ty => run_next_end w t pos ty hp
      go_wp2
      go_ret
      exact ⟨rfl, below_iter _ _ _⟩

theorem index_tail (t e : ByteArray) (m : Nat) (hml : m < e.size) (h : Lib.indexByte (t.extract (m + 1) t.size).data.toList (e[m]'hml) = -1) (w : World) :
    Calls Tryz.prog 94 #[.string (t.extract (m + 1) t.size), .int .u8 ((e[m]'hml).toNat)] w fun e w' => e = .returned (.int .i64 (-1)) ∧ w' = w := by
  refine (Tryz.strings_IndexByte _ _ w).mono fun e' w' ⟨he, hw⟩ => ⟨?_, hw⟩
  rw [he, Int.toNat_natCast]
  have : Nat.toUInt8 (e[m]'hml).toNat = e[m]'hml := by simp
  rw [this, h]

set_option maxRecDepth 1000000 in
set_option maxHeartbeats 2000000 in
theorem rune_good (t : ByteArray) (ht : ∀ b ∈ t.data.toList, b.toNat < 128) (r : Int) (h1 : 128 ≤ r) (h2 : r ≤ 1114111) (h3 : r ≠ 65533) (hv : Utf8.valid r = true) (w : World) :
    Calls Tryz.prog 92 #[.string t, .int .i32 r] w fun e w' => e = .returned (.int .i64 (-1)) ∧ Below w.heap.size w w' := by
  have HT : Hid (∀ b ∈ t.data.toList, b.toNat < 128) := ht
  clear ht
  obtain ⟨hz1, hz2, hz3⟩ := encode_facts r hv h1
  have HL : Hid (∀ h : (Utf8.encode r).size - 1 < (Utf8.encode r).size, 128 ≤ ((Utf8.encode r)[(Utf8.encode r).size - 1]'h).toNat) := hz3
  clear hz3
  have h3' : (r == 65533) = false := by simpa using h3
  rw [validRune_eq] at hv
  unfold validRune at hv
  have hr : r < 55296 ∨ (57343 < r ∧ ¬ r < 55296) := by simp at hv; omega
  clear hv
  rcases hr with hr | ⟨hr, hr'⟩
  all_goals
    go_enter Tryz.func92, Tryz.ntmps92
    go_wp2_with (first | (go_at_call 95; go_in))
    go_step3
    go_wp2
    generalize Utf8.encode r = e at hz1 hz2 HL ⊢
    obtain ⟨m, hm⟩ : ∃ m, e.size = m + 1 := ⟨e.size - 1, by omega⟩
    have hml : m < e.size := by omega
    have hE : 128 ≤ (e[m]'hml).toNat := by
      have := HL.out (by omega)
      have e2 : e.size - 1 = m := by omega
      simp only [e2] at this
      exact this
    have e3 : ((e.size : Int) - 1) = (m : Int) := by omega
    rw [e3]
    have hm4 : m < 4 := by omega
    have HM : Hid (e.size = m + 1) := hm
    clear HL hz1 hz2 e3 hm
    go_loop [9] (fun i => i = .int .i64 m) (fun _ => 0)
    case atStart => rfl
    case round =>
      obtain rfl := hrel
      by_cases hlt : (m : Int) < t.size
      · have hlt' : m < t.size := by omega
        have hb : (t[m]).toNat < 128 := HT.out _ (by have : t[m] = t.data.toList[m]'(by simpa using hlt') := rfl
                                                     rw [this]; exact List.getElem_mem _)
        have hne : (((t[m]'hlt').toNat : Int) != ((e[m]'hml).toNat : Int)) = true := by
          rw [bne_iff_ne]; omega
        have HX : Hid (Lib.indexByte (t.extract (m + 1) t.size).data.toList (e[m]'hml) = -1) := index_no _ _ (fun b hb e => by
          have := HT.out b (mem_extract hb); rw [e] at this; omega)
        have hlm : (m : Int) < e.size := by omega
        have hle : (m : Int) + 1 ≤ t.size := by omega
        have hl0 : (0 : Int) ≤ (m : Int) + 1 := by omega
        have hwr : IntKind.i64.wrap ((m : Int) + 1) = (m : Int) + 1 := wrap_small _ (by omega) (by omega)
        go_wp2
        go_step3
        go_wp2
        go_quiet (fail)
        go_wp2
        go_region_with ((go_at_call 94; refine (index_tail t e m hml HX.out _).mono ?_; rintro e' w1 ⟨rfl, rfl⟩))
        all_goals
          go_wp2
          try rw [Exit.noGoto_ret]
          try go_wp2
          try rw [Exit.noGoto_ret]
          try go_wp2
          try rw [Exit.noGoto_ret]
          go_ret
          exact ⟨rfl, below_drewN _ _⟩
      · go_wp2
        go_ret
        exact ⟨rfl, Below.refl _ _⟩

theorem index_high (t : ByteArray) (ht : ∀ b ∈ t.data.toList, b.toNat < 128) (r : Nat) (h1 : 128 ≤ r) (h2 : r ≤ 1114111) (hv : Utf8.valid (r : Int) = true) (w : World) :
    Calls Tryz.prog 92 #[.string t, .int .i32 r] w fun e w' => e = .returned (.int .i64 (-1)) ∧ Below w.heap.size w w' := by
  by_cases h3 : r = 65533
  · subst h3; exact rune_bad t ht w
  · exact rune_good t ht r (by omega) (by omega) (by omega) hv w

theorem contains_high (t : ByteArray) (ht : ∀ b ∈ t.data.toList, b.toNat < 128) (r : Nat) (h1 : 128 ≤ r) (h2 : r ≤ 1114111) (hv : Utf8.valid (r : Int) = true) (w : World) :
    Calls Tryz.prog 85 #[.string t, .int .i32 r] w fun e w' => e = .returned (.bool false) ∧ Below w.heap.size w w' := by
  have HC : Hid (Calls Tryz.prog 92 #[.string t, .int .i32 r] w fun e w' => e = .returned (.int .i64 (-1)) ∧ Below w.heap.size w w') := index_high t ht r h1 h2 hv w
  clear ht h1 h2 hv
  go_enter Tryz.func85, Tryz.ntmps85
  go_wp2_with (go_at_call 92; refine HC.out.mono ?_; rintro e w1 ⟨rfl, hb1⟩)
  go_ret
  exact ⟨rfl, hb1⟩

/-- A sign that is read is a rune. -/
theorem decode_valid (s : ByteArray) (p : Nat) (h : p < s.size) (ha : 128 ≤ (s[p]'h).toNat) : (Utf8.decode s p).1 ≤ 1114111 ∧ Utf8.valid ((Utf8.decode s p).1 : Int) = true := by
  have hn : ¬ (s[p]'h).toNat < 128 := by omega
  have hb : ∀ k, (s.get! (p + k)).toNat < 256 := fun k => (s.get! (p + k)).toNat_lt
  have h0 := (s[p]'h).toNat_lt
  have h1 := hb 1; have h2 := hb 2; have h3 := hb 3
  rw [validRune_eq]
  unfold validRune
  have hv : ∀ c : Nat, Utf8.valid (c : Int) = true → ((0 : Int) ≤ c ∧ (c : Int) < 55296) ∨ (57343 < (c : Int) ∧ (c : Int) ≤ 1114111) := by
    intro c hc
    rw [validRune_eq] at hc
    unfold validRune at hc
    exact of_decide_eq_true hc
  simp only [Utf8.decode, get_at s p h, hn, if_false, Utf8.runeError]
  repeat' split
  all_goals simp only [decide_eq_true_eq, Bool.and_eq_true] at *
  all_goals first
    | (constructor <;> omega)
    | (rename_i hq; have := hv _ hq.2; constructor <;> omega)
end Go.Proofs.YtlclfmjpnchmbaaGreat

/- impl.SymOk at every text: whether it is a name. Condition: the text has at most 2^20 bytes. -/
namespace Go.Proofs.YtlclfmjpnchmbaaGreat
open Go.ChangeShapes Go.WideShapes Go.ChangeAt Go.RowKit

theorem impl_digit (c : Nat) (h : c < 256) (w : World) : Calls Tryz.prog 84 #[.int .i32 c] w fun e w' => e = .returned (.bool (digB (UInt8.ofNat c))) ∧ w' = w := by
  have hc : (UInt8.ofNat c).toNat = c := by rw [UInt8.toNat_ofNat']; omega
  by_cases h1 : (48 : Int) ≤ c
  · by_cases h2 : (c : Int) ≤ 57
    · have HN : Hid (digB (UInt8.ofNat c) = true) := show digB _ = true by unfold digB; rw [hc]; simp only [Bool.and_eq_true, decide_eq_true_eq]; omega
      clear hc
      go_enter Tryz.func84, Tryz.ntmps84
      go_wp2
      go_ret
      exact ⟨by rw [HN.out]; rfl, rfl⟩
    · have HN : Hid (digB (UInt8.ofNat c) = false) := show digB _ = false by unfold digB; rw [hc, Bool.and_eq_false_iff, decide_eq_false_iff_not, decide_eq_false_iff_not]; omega
      clear hc
      go_enter Tryz.func84, Tryz.ntmps84
      go_wp2
      go_ret
      exact ⟨by rw [HN.out]; rfl, rfl⟩
  · have HN : Hid (digB (UInt8.ofNat c) = false) := show digB _ = false by unfold digB; rw [hc, Bool.and_eq_false_iff, decide_eq_false_iff_not, decide_eq_false_iff_not]; omega
    clear hc
    go_enter Tryz.func84, Tryz.ntmps84
    go_wp2
    go_ret
    exact ⟨by rw [HN.out]; rfl, rfl⟩

theorem digit_high (r : Nat) (h : 128 ≤ r) (hr : r ≤ 1114111) (w : World) : Calls Tryz.prog 84 #[.int .i32 r] w fun e w' => e = .returned (.bool false) ∧ w' = w := by
  have h1 : (48 : Int) ≤ r := by omega
  have h2 : ¬ (r : Int) ≤ 57 := by omega
  go_enter Tryz.func84, Tryz.ntmps84
  go_wp2
  go_ret
  exact ⟨rfl, rfl⟩

theorem signs_ascii : ∀ b ∈ (⟨#[43, 45, 42, 60, 61, 63, 46, 95]⟩ : ByteArray).data.toList, b.toNat < 128 := by decide
theorem blanks_ascii : ∀ b ∈ (⟨#[32, 10]⟩ : ByteArray).data.toList, b.toNat < 128 := by decide

set_option maxHeartbeats 1000000 in
theorem name_low (c : Nat) (h : c < 128) (w : World) : Calls Tryz.prog 71 #[.int .i32 c] w fun e w' => e = .returned (.bool (nameB (UInt8.ofNat c))) ∧ w' = w := by
  have hc : (UInt8.ofNat c).toNat = c := by rw [UInt8.toNat_ofNat']; omega
  have hN : nameB (UInt8.ofNat c) = ((decide (97 ≤ c) && decide (c ≤ 122)) || digB (UInt8.ofNat c) || (⟨#[43, 45, 42, 60, 61, 63, 46, 95]⟩ : ByteArray).data.toList.contains (UInt8.ofNat c)) := by
    unfold nameB digB
    rw [hc]
  by_cases h1 : (97 : Int) ≤ c ∧ (c : Int) ≤ 122
  · have HN : Hid (nameB (UInt8.ofNat c) = true) := show nameB _ = true by
      rw [hN, decide_eq_true (by omega : 97 ≤ c), decide_eq_true (by omega : c ≤ 122)]; rfl
    clear hc hN
    obtain ⟨h1, h2⟩ := h1
    go_enter Tryz.func71, Tryz.ntmps71
    go_wp2
    go_ret
    exact ⟨by rw [HN.out]; rfl, rfl⟩
  have hf : (decide (97 ≤ c) && decide (c ≤ 122)) = false := by rw [Bool.and_eq_false_iff, decide_eq_false_iff_not, decide_eq_false_iff_not]; omega
  rw [hf] at hN
  have h2 : (c : Int) < 97 ∨ ((97 : Int) ≤ c ∧ ¬ (c : Int) ≤ 122) := by omega
  cases hd : digB (UInt8.ofNat c) with
  | true =>
    have HN : Hid (nameB (UInt8.ofNat c) = true) := show nameB _ = true by rw [hN, hd]; rfl
    clear hc hN hf h1
    rcases h2 with h2 | ⟨h2, h3⟩
    all_goals
      go_enter Tryz.func71, Tryz.ntmps71
      go_wp2_with (go_at_call 84; refine (impl_digit c (by omega) _).mono ?_; rintro e w1 ⟨rfl, rfl⟩)
      go_ret
      exact ⟨by rw [HN.out]; rfl, rfl⟩
  | false =>
    have HN : Hid (nameB (UInt8.ofNat c) = (⟨#[43, 45, 42, 60, 61, 63, 46, 95]⟩ : ByteArray).data.toList.contains (UInt8.ofNat c)) := show nameB _ = _ by rw [hN, hd]; rfl
    clear hc hN hf h1
    have HC : Hid (∀ w : World, Calls Tryz.prog 85 #[.string ⟨#[43, 45, 42, 60, 61, 63, 46, 95]⟩, .int .i32 c] w fun e w' => e = .returned (.bool ((⟨#[43, 45, 42, 60, 61, 63, 46, 95]⟩ : ByteArray).data.toList.contains (UInt8.ofNat c))) ∧ w' = w) := fun w => contains_low _ c h w
    generalize (⟨#[43, 45, 42, 60, 61, 63, 46, 95]⟩ : ByteArray).data.toList.contains (UInt8.ofNat c) = b at HN HC
    rcases h2 with h2 | ⟨h2, h3⟩
    all_goals
      go_enter Tryz.func71, Tryz.ntmps71
      go_wp2_with (first | (go_at_call 84; refine (impl_digit c (by omega) _).mono ?_; rintro e w1 ⟨rfl, rfl⟩) | (go_at_call 85; refine (HC.out _).mono ?_; rintro e w1 ⟨rfl, rfl⟩))
      go_ret
      exact ⟨by rw [HN.out]; rfl, rfl⟩

set_option maxHeartbeats 1000000 in
theorem name_high_call (r : Nat) (h1 : 128 ≤ r) (h2 : r ≤ 1114111) (hv : Utf8.valid (r : Int) = true) (w : World) : Calls Tryz.prog 71 #[.int .i32 r] w fun e w' => e = .returned (.bool false) ∧ Below w.heap.size w w' := by
  have HV : Hid (Utf8.valid (r : Int) = true) := hv
  clear hv
  have h3 : (97 : Int) ≤ r := by omega
  have h4 : ¬ (r : Int) ≤ 122 := by omega
  go_enter Tryz.func71, Tryz.ntmps71
  go_wp2_with (first | (go_at_call 84; refine (digit_high r h1 h2 _).mono ?_; rintro e w1 ⟨rfl, rfl⟩) | (go_at_call 85; refine (contains_high _ signs_ascii r h1 h2 HV.out _).mono ?_; rintro e w1 ⟨rfl, hb1⟩))
  go_ret
  exact ⟨rfl, hb1⟩

theorem trim_minus (s : ByteArray) (h0 : 0 < s.size) (hm : s[0]'h0 = 45) : Lib.trimPrefix s.data.toList [45] = s.data.toList.tail := by
  have h := get_list s 0 h0
  cases e : s.data.toList with
  | nil => rw [e] at h; simp at h
  | cons c r =>
    rw [e] at h
    simp at h
    subst h
    rw [hm]
    simp [Lib.trimPrefix, Lib.hasPrefix]

theorem trim_other (s : ByteArray) (h : ∀ h0 : 0 < s.size, s[0]'h0 ≠ 45) : Lib.trimPrefix s.data.toList [45] = s.data.toList := by
  cases e : s.data.toList with
  | nil => rfl
  | cons c r =>
    have hl : s.data.toList.length = s.size := by simp
    have h0 : 0 < s.size := by rw [← hl, e]; simp
    have hg := get_list s 0 h0
    rw [e] at hg
    simp at hg
    have := h h0
    rw [← hg] at this
    simp [Lib.trimPrefix, Lib.hasPrefix]
    exact fun e => this e.symm

/-- What begNum asks of what stands behind a minus. -/
theorem begNum_rest (s : ByteArray) : begNum s.data.toList = match Lib.trimPrefix s.data.toList [45] with | [] => false | c :: _ => digB c := by
  by_cases hm : ∃ h0 : 0 < s.size, s[0]'h0 = 45
  · obtain ⟨h0, hm⟩ := hm
    rw [trim_minus s h0 hm]
    have h := get_list s 0 h0
    cases e : s.data.toList with
    | nil => rw [e] at h; simp at h
    | cons c r =>
      rw [e] at h
      simp at h
      subst h
      rw [hm]
      cases r <;> simp [begNum, show digB 45 = false from by decide]
  · rw [trim_other s (fun h0 hx => hm ⟨h0, hx⟩)]
    cases e : s.data.toList with
    | nil => rfl
    | cons c r =>
      have hl : s.data.toList.length = s.size := by simp
      have h0 : 0 < s.size := by rw [← hl, e]; simp
      have hg := get_list s 0 h0
      rw [e] at hg
      simp at hg
      have : c ≠ 45 := by intro hx; exact hm ⟨h0, by rw [← hg]; exact hx⟩
      simp [begNum, this]

end Go.Proofs.YtlclfmjpnchmbaaGreat
