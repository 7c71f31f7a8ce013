/- The library functions named below, at this program: their contracts of the guide, laid at its numbers. No conditions of our own. -/
import Derived.Test.YtaflnjhknnnaoaaProg
import Derived.Test.YtaflnjhknnnaoaaRows
import Derived.Shelf.Small.Utf8
import Derived.Shelf.Small.Strs
import Derived.Shelf.Strings.Search1
import Derived.Shelf.Strings.Prefix
import Derived.Shelf.Strings.Runes
import Derived.Laws.Runes
import Derived.Laws.RangeAny
import Derived.Lib.IndexLaws
import Derived.WalkKit
import Derived.ProofKit
import Derived.Below
import Derived.BigQuiet
import Derived.Deep.QuietTactic
import Derived.WalkMore
namespace Go.Proofs
open Go.Shelf
def Try.lays137_ren : Go.Shelf.Ren := ⟨fun | 137 => 73 | 217 => 77 | 266 => 78 | n => n, fun | 9 => 9 | 5 => 5 | 3 => 3 | n => n, fun | n => n⟩
theorem Try.lays137 : Go.Proofs.Lays.n137 Try.prog Try.lays137_ren := {
  mixed := by kernel_rfl
  f137 := Try.func73.trans (congrArg some (by kernel_rfl))
  f217 := Try.func77.trans (congrArg some (by kernel_rfl))
  f266 := Try.func78.trans (congrArg some (by kernel_rfl))
  t3 := Try.underlying3
  a3 := Try.isAgg3
  z3 := Try.sizeOf3
  v3 := Try.zeroValue3
  t5 := Try.underlying5
  a5 := Try.isAgg5
  z5 := Try.sizeOf5
  v5 := Try.zeroValue5
  t9 := Try.underlying9
  a9 := Try.isAgg9
  z9 := Try.sizeOf9
  v9 := Try.zeroValue9 }
def Try.lays101_ren : Go.Shelf.Ren := ⟨fun | 101 => 66 | 208 => 70 | 206 => 72 | n => n, fun | 9 => 9 | 4 => 4 | 3 => 3 | n => n, fun | n => n⟩
theorem Try.lays101 : Go.Proofs.Lays.n101 Try.prog Try.lays101_ren := {
  mixed := by kernel_rfl
  f101 := Try.func66.trans (congrArg some (by kernel_rfl))
  f206 := Try.func72.trans (congrArg some (by kernel_rfl))
  f208 := Try.func70.trans (congrArg some (by kernel_rfl))
  t3 := Try.underlying3
  a3 := Try.isAgg3
  z3 := Try.sizeOf3
  v3 := Try.zeroValue3
  t4 := Try.underlying4
  a4 := Try.isAgg4
  z4 := Try.sizeOf4
  v4 := Try.zeroValue4
  t9 := Try.underlying9
  a9 := Try.isAgg9
  z9 := Try.sizeOf9
  v9 := Try.zeroValue9 }
def Try.lays151_ren : Go.Shelf.Ren := ⟨fun | 151 => 68 | 152 => 71 | 137 => 73 | 119 => 74 | 224 => 75 | 225 => 76 | 217 => 77 | 266 => 78 | n => n, fun | 9 => 9 | 21 => 21 | 4 => 4 | 3 => 3 | 5 => 5 | 0 => 0 | 46 => 104 | n => n, fun | n => n⟩
theorem Try.lays151 : Go.Proofs.Lays.n151 Try.prog Try.lays151_ren := {
  mixed := by kernel_rfl
  f119 := Try.func74.trans (congrArg some (by kernel_rfl))
  f137 := Try.func73.trans (congrArg some (by kernel_rfl))
  f151 := Try.func68.trans (congrArg some (by kernel_rfl))
  f152 := Try.func71.trans (congrArg some (by kernel_rfl))
  f217 := Try.func77.trans (congrArg some (by kernel_rfl))
  f224 := Try.func75.trans (congrArg some (by kernel_rfl))
  f225 := Try.func76.trans (congrArg some (by kernel_rfl))
  f266 := Try.func78.trans (congrArg some (by kernel_rfl))
  t0 := Try.underlying0
  a0 := Try.isAgg0
  z0 := Try.sizeOf0
  v0 := Try.zeroValue0
  t3 := Try.underlying3
  a3 := Try.isAgg3
  z3 := Try.sizeOf3
  v3 := Try.zeroValue3
  t4 := Try.underlying4
  a4 := Try.isAgg4
  z4 := Try.sizeOf4
  v4 := Try.zeroValue4
  t5 := Try.underlying5
  a5 := Try.isAgg5
  z5 := Try.sizeOf5
  v5 := Try.zeroValue5
  t9 := Try.underlying9
  a9 := Try.isAgg9
  z9 := Try.sizeOf9
  v9 := Try.zeroValue9
  t21 := Try.underlying21
  a21 := Try.isAgg21
  z21 := Try.sizeOf21
  v21 := Try.zeroValue21
  t46 := Try.underlying104
  a46 := Try.isAgg104
  z46 := Try.sizeOf104
  v46 := Try.zeroValue104 }
open Go.RowKit in
theorem Try.strings_IndexByte (s : ByteArray) (c : Int) (w : World) :
    Calls Try.prog 73 #[.string s, .int .u8 c] w fun e w' => e = .returned (.int .i64 (Lib.indexByte s.data.toList c.toNat.toUInt8)) ∧ w' = w := Any.strings_IndexByte Try.lays137 s c w
open Go.RowKit Go.Lib in
theorem Try.strings_TrimPrefix (s p : ByteArray) (w : World) :
    Calls Try.prog 66 #[.string s, .string p] w fun e w' => e = .returned (.string ⟨(Lib.trimPrefix s.data.toList p.data.toList).toArray⟩) ∧ w' = w := Any.strings_TrimPrefix Try.lays101 s p w
open Go.RowKit Go.Lib in
theorem Try.strings_ContainsRune_ascii (s : ByteArray) (r : Int) (w : World) (h0 : 0 ≤ r) (h1 : r < 128) :
    Calls Try.prog 68 #[.string s, .int .i32 r] w fun e w' => e = .returned (.bool (decide (0 ≤ Lib.indexByte s.data.toList r.toNat.toUInt8))) ∧ w' = w := Any.strings_ContainsRune_ascii Try.lays151 s r w h0 h1
end Go.Proofs

/- strings.ContainsRune on a short text of one-byte signs: at a sign of one byte, whether it is there; at any other, no. No conditions on the world. -/
namespace Go.Proofs.Ytaflnjhknnnaoaa
open Go.ChangeShapes Go.WideShapes Go.ChangeAt Go.RowKit

theorem index_has (l : List UInt8) (c : UInt8) : decide (0 ≤ Lib.indexByte l c) = l.contains c := by
  induction l with
  | nil => rfl
  | cons b r ih =>
    have hge := Lib.indexByte_ge r c
    unfold Lib.indexByte
    rw [List.contains_cons]
    by_cases hb : b = c
    · subst hb; simp
    · have h1 : (b == c) = false := beq_eq_false_iff_ne.2 hb
      have h2 : (c == b) = false := beq_eq_false_iff_ne.2 (fun e => hb e.symm)
      rw [h1, h2, ← ih]
      simp only [Bool.false_eq_true, if_false, Bool.false_or]
      by_cases h3 : Lib.indexByte r c = -1
      · simp [h3]
      · have h4 : (Lib.indexByte r c == -1) = false := beq_eq_false_iff_ne.2 h3
        rw [h4]
        simp only [Bool.false_eq_true, if_false, decide_eq_decide]
        omega

theorem index_no (l : List UInt8) (c : UInt8) (h : ∀ b ∈ l, b ≠ c) : Lib.indexByte l c = -1 := by
  induction l with
  | nil => rfl
  | cons b r ih =>
    unfold Lib.indexByte
    rw [beq_eq_false_iff_ne.2 (h b List.mem_cons_self), ih (fun d hd => h d (List.mem_cons_of_mem _ hd))]
    rfl

theorem below_iter (w : World) (t : ByteArray) (pos : Nat) : Below w.heap.size w (w.iter t pos) :=
  ⟨rfl, rfl, rfl, by simp [World.iter], fun k hk => (World.grownBy_alloc w _ none).block k hk (by simp)⟩

theorem below_drewN (w : World) (k : Nat) : Below w.heap.size w (w.drewN k) := ⟨rfl, rfl, rfl, Nat.le_refl _, fun _ _ => rfl⟩

theorem contains_low (t : ByteArray) (r : Nat) (hr : r < 128) (w : World) :
    Calls Try.prog 68 #[.string t, .int .i32 r] w fun e w' => e = .returned (.bool (t.data.toList.contains (UInt8.ofNat r))) ∧ w' = w := by
  refine (Try.strings_ContainsRune_ascii t r w (by omega) (by omega)).mono fun e w' ⟨he, hw⟩ => ⟨?_, hw⟩
  rw [he, index_has]
  rfl

set_option maxRecDepth 1000000 in
set_option maxHeartbeats 2000000 in
theorem rune_bad (t : ByteArray) (ht : ∀ b ∈ t.data.toList, b.toNat < 128) (w : World) :
    Calls Try.prog 71 #[.string t, .int .i32 65533] w fun e w' => e = .returned (.int .i64 (-1)) ∧ Below w.heap.size w w' := by
  have HT : Hid (∀ b ∈ t.data.toList, b.toNat < 128) := ht
  clear ht
  go_enter Try.func71, Try.ntmps71
  go_wp2
  go_loopw [5] (fun _ w' => ∃ pos : Nat, pos ≤ t.size ∧ w' = w.iter t pos) (fun _ w' => t.size - w'.iterPos w.heap.size)
  case atStart => exact ⟨0, Nat.zero_le _, rfl⟩
  case round =>
    obtain ⟨pos, hpos, rfl⟩ := hrel
    by_cases hp : pos < t.size
    · have hb : (t[pos]).toNat < 128 := HT.out _ (by have : t[pos] = t.data.toList[pos]'(by simpa using hp) := rfl
                                                     rw [this]; exact List.getElem_mem _)
      have hnx : ∀ ty, (Instr.next (.pointer (some ⟨w.heap.size, 0, none⟩)) true ty).run Try.prog (w.iter t pos) = _ := fun ty => run_next_ascii w t pos ty hp hb
      have hne : ((t[pos].toNat : Int) == 65533) = false := by simp; omega
      go_wp2
      go_roundw
      case rel => exact ⟨pos + 1, by omega, rfl⟩
      case measure => simp; omega
    · have hnx : ∀ ty, (Instr.next (.pointer (some ⟨w.heap.size, 0, none⟩)) true ty).run Try.prog (w.iter t pos) = _ := fun ty => run_next_end w t pos ty hp
      go_wp2
      go_ret
      exact ⟨rfl, below_iter _ _ _⟩

theorem index_tail (t e : ByteArray) (m : Nat) (hml : m < e.size) (h : Lib.indexByte (t.extract (m + 1) t.size).data.toList (e[m]'hml) = -1) (w : World) :
    Calls Try.prog 73 #[.string (t.extract (m + 1) t.size), .int .u8 ((e[m]'hml).toNat)] w fun e w' => e = .returned (.int .i64 (-1)) ∧ w' = w := by
  refine (Try.strings_IndexByte _ _ w).mono fun e' w' ⟨he, hw⟩ => ⟨?_, hw⟩
  rw [he, Int.toNat_natCast]
  have : Nat.toUInt8 (e[m]'hml).toNat = e[m]'hml := by simp
  rw [this, h]

set_option maxRecDepth 1000000 in
set_option maxHeartbeats 2000000 in
theorem rune_good (t : ByteArray) (ht : ∀ b ∈ t.data.toList, b.toNat < 128) (r : Int) (h1 : 128 ≤ r) (h2 : r ≤ 1114111) (h3 : r ≠ 65533) (hv : Utf8.valid r = true) (w : World) :
    Calls Try.prog 71 #[.string t, .int .i32 r] w fun e w' => e = .returned (.int .i64 (-1)) ∧ Below w.heap.size w w' := by
  have HT : Hid (∀ b ∈ t.data.toList, b.toNat < 128) := ht
  clear ht
  obtain ⟨hz1, hz2, hz3⟩ := encode_facts r hv h1
  have HL : Hid (∀ h : (Utf8.encode r).size - 1 < (Utf8.encode r).size, 128 ≤ ((Utf8.encode r)[(Utf8.encode r).size - 1]'h).toNat) := hz3
  clear hz3
  have h3' : (r == 65533) = false := by simpa using h3
  rw [validRune_eq] at hv
  unfold validRune at hv
  have hr : r < 55296 ∨ (57343 < r ∧ ¬ r < 55296) := by simp at hv; omega
  clear hv
  rcases hr with hr | ⟨hr, hr'⟩
  all_goals
    go_enter Try.func71, Try.ntmps71
    go_wp2_with (first | (go_at_call 74; go_in))
    go_step3
    go_wp2
    generalize Utf8.encode r = e at hz1 hz2 HL ⊢
    obtain ⟨m, hm⟩ : ∃ m, e.size = m + 1 := ⟨e.size - 1, by omega⟩
    have hml : m < e.size := by omega
    have hE : 128 ≤ (e[m]'hml).toNat := by
      have := HL.out (by omega)
      have e2 : e.size - 1 = m := by omega
      simp only [e2] at this
      exact this
    have e3 : ((e.size : Int) - 1) = (m : Int) := by omega
    rw [e3]
    have hm4 : m < 4 := by omega
    have HM : Hid (e.size = m + 1) := hm
    clear HL hz1 hz2 e3 hm
    go_loop [9] (fun i => i = .int .i64 m) (fun _ => 0)
    case atStart => rfl
    case round =>
      obtain rfl := hrel
      by_cases hlt : (m : Int) < t.size
      · have hlt' : m < t.size := by omega
        have hb : (t[m]).toNat < 128 := HT.out _ (by have : t[m] = t.data.toList[m]'(by simpa using hlt') := rfl
                                                     rw [this]; exact List.getElem_mem _)
        have hne : (((t[m]'hlt').toNat : Int) != ((e[m]'hml).toNat : Int)) = true := by
          rw [bne_iff_ne]; omega
        have HX : Hid (Lib.indexByte (t.extract (m + 1) t.size).data.toList (e[m]'hml) = -1) := index_no _ _ (fun b hb e => by
          have := HT.out b (mem_extract hb); rw [e] at this; omega)
        have hlm : (m : Int) < e.size := by omega
        have hle : (m : Int) + 1 ≤ t.size := by omega
        have hl0 : (0 : Int) ≤ (m : Int) + 1 := by omega
        have hwr : IntKind.i64.wrap ((m : Int) + 1) = (m : Int) + 1 := wrap_small _ (by omega) (by omega)
        go_wp2
        go_step3
        go_wp2
        go_quiet (fail)
        go_wp2
        go_region_with ((go_at_call 73; refine (index_tail t e m hml HX.out _).mono ?_; rintro e' w1 ⟨rfl, rfl⟩))
        all_goals
          go_wp2
          try rw [Exit.noGoto_ret]
          try go_wp2
          try rw [Exit.noGoto_ret]
          try go_wp2
          try rw [Exit.noGoto_ret]
          go_ret
          exact ⟨rfl, below_drewN _ _⟩
      · go_wp2
        go_ret
        exact ⟨rfl, Below.refl _ _⟩

theorem index_high (t : ByteArray) (ht : ∀ b ∈ t.data.toList, b.toNat < 128) (r : Nat) (h1 : 128 ≤ r) (h2 : r ≤ 1114111) (hv : Utf8.valid (r : Int) = true) (w : World) :
    Calls Try.prog 71 #[.string t, .int .i32 r] w fun e w' => e = .returned (.int .i64 (-1)) ∧ Below w.heap.size w w' := by
  by_cases h3 : r = 65533
  · subst h3; exact rune_bad t ht w
  · exact rune_good t ht r (by omega) (by omega) (by omega) hv w

theorem contains_high (t : ByteArray) (ht : ∀ b ∈ t.data.toList, b.toNat < 128) (r : Nat) (h1 : 128 ≤ r) (h2 : r ≤ 1114111) (hv : Utf8.valid (r : Int) = true) (w : World) :
    Calls Try.prog 68 #[.string t, .int .i32 r] w fun e w' => e = .returned (.bool false) ∧ Below w.heap.size w w' := by
  have HC : Hid (Calls Try.prog 71 #[.string t, .int .i32 r] w fun e w' => e = .returned (.int .i64 (-1)) ∧ Below w.heap.size w w') := index_high t ht r h1 h2 hv w
  clear ht h1 h2 hv
  go_enter Try.func68, Try.ntmps68
  go_wp2_with (go_at_call 71; refine HC.out.mono ?_; rintro e w1 ⟨rfl, hb1⟩)
  go_ret
  exact ⟨rfl, hb1⟩

/-- A sign that is read is a rune. -/
theorem decode_valid (s : ByteArray) (p : Nat) (h : p < s.size) (ha : 128 ≤ (s[p]'h).toNat) : (Utf8.decode s p).1 ≤ 1114111 ∧ Utf8.valid ((Utf8.decode s p).1 : Int) = true := by
  have hn : ¬ (s[p]'h).toNat < 128 := by omega
  have hb : ∀ k, (s.get! (p + k)).toNat < 256 := fun k => (s.get! (p + k)).toNat_lt
  have h0 := (s[p]'h).toNat_lt
  have h1 := hb 1; have h2 := hb 2; have h3 := hb 3
  rw [validRune_eq]
  unfold validRune
  have hv : ∀ c : Nat, Utf8.valid (c : Int) = true → ((0 : Int) ≤ c ∧ (c : Int) < 55296) ∨ (57343 < (c : Int) ∧ (c : Int) ≤ 1114111) := by
    intro c hc
    rw [validRune_eq] at hc
    unfold validRune at hc
    exact of_decide_eq_true hc
  simp only [Utf8.decode, get_at s p h, hn, if_false, Utf8.runeError]
  repeat' split
  all_goals simp only [decide_eq_true_eq, Bool.and_eq_true] at *
  all_goals first
    | (constructor <;> omega)
    | (rename_i hq; have := hv _ hq.2; constructor <;> omega)
end Go.Proofs.Ytaflnjhknnnaoaa
