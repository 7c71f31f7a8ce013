/- impl.readWord at every text: the word of which it is the digits and true, or 0 and false; impl.Number. Conditions: the text has at most 2^20 bytes; the library's table of powers of ten and its two errors lie as their text lays them. -/
import Derived.Test.YtafpbcdgcgffeabGreatDoorZPow
import Derived.Test.YtafpbcdgcgffeabGreatDoorZBase
import Derived.Test.YtafpbcdgcgffeabGreatDoorZShelf
import Derived.Lib.AtoiErrMem
import Derived.WalkKit
import Derived.ProofKit
import Derived.Below
namespace Go.Proofs.YtafpbcdgcgffeabGreatDoor
open Go.ChangeShapes Go.WideShapes Go.ChangeAt Go.RowKit

/-- The library's two errors lie as some errors. -/
def ErrVars (w : World) : Prop := (∃ tp p, w.var? Tryz.prog "strconv.ErrSyntax" = some #[.iface tp p]) ∧ ∃ tp p, w.var? Tryz.prog "strconv.ErrRange" = some #[.iface tp p]

theorem gSyn : Tryz.prog.globalNamed "strconv.ErrSyntax" = some 2 := by kernel_rfl
theorem gRng : Tryz.prog.globalNamed "strconv.ErrRange" = some 3 := by kernel_rfl

theorem var_lt {w : World} {n : String} {g : Nat} {cs : Array Value} (hg : Tryz.prog.globalNamed n = some g) (h : w.var? Tryz.prog n = some cs) : g < w.heap.size := by
  unfold World.var? at h
  rw [hg] at h
  simp only [Option.bind_some] at h
  rcases Nat.lt_or_ge g w.heap.size with hl | hl
  · exact hl
  · rw [Array.getElem?_eq_none hl] at h
    simp at h

theorem ErrVars.below {w w' : World} (h : ErrVars w) (hb : Below w.heap.size w w') : ErrVars w' := by
  obtain ⟨⟨t1, p1, h1⟩, t2, p2, h2⟩ := h
  exact ⟨⟨t1, p1, var?_below hb gSyn (var_lt gSyn h1) h1⟩, t2, p2, var?_below hb gRng (var_lt gRng h2) h2⟩

theorem atoi_ok (s : ByteArray) (hs : s.size ≤ 1048576) (v : Int) (h : Lib.atoiAll s.data.toList = .ok v) (w : World) :
    Calls Tryz.prog 85 #[.string s] w fun e w' => e = .returned (.tuple #[.int .i64 v, .nilIface]) ∧ Below w.heap.size w w' := by
  refine (Tryz.strconv_Atoi_ok s (by omega) v h w).mono fun e w' ⟨he, hw⟩ => ⟨he, ?_⟩
  rcases hw with rfl | ⟨t, rfl⟩
  · exact Below.refl _ _
  · exact Lib.bytesWorld_below _ _ _

theorem atoi_bad (s : ByteArray) (hs : s.size ≤ 1048576) (h : ∀ v, Lib.atoiAll s.data.toList ≠ .ok v) (w : World) (hv : ErrVars w) :
    Calls Tryz.prog 85 #[.string s] w fun e w' => (∃ v N, e = .returned (.tuple #[.int .i64 v, .iface 142 (.pointer (some ⟨N, 0, none⟩))])) ∧ Below w.heap.size w w' := by
  obtain ⟨⟨t1, p1, h1⟩, t2, p2, h2⟩ := hv
  cases e : Lib.atoiAll s.data.toList with
  | ok v => exact absurd e (h v)
  | range =>
    refine (Any.strconv_Atoi_range_var Tryz.laysC172 s (by omega) e t2 p2 w h2).mono fun e w' ⟨N, he, _, _, hb⟩ => ⟨⟨_, N, he⟩, hb⟩
  | _ =>
    refine (Any.strconv_Atoi_syntax_var Tryz.laysC172 s (by omega) e t1 p1 w h1).mono fun e w' ⟨N, he, _, _, hb⟩ => ⟨⟨_, N, he⟩, hb⟩

theorem wordV_atoi {l : List UInt8} {v u : Int} (h : Lib.atoiAll l = .ok v) (hu : wordV l = some u) : u = v := by
  obtain ⟨h0, h1, h2⟩ := wordV_some hu
  have := atoi_itoa u h0 h1
  rw [h2, h] at this
  injection this with this
  exact this.symm

theorem none_atoi {l : List UInt8} {v : Int} (h : Lib.atoiAll l = .ok v) (hv : ¬ (-1073741824 ≤ v ∧ v ≤ 1073741823 ∧ Lib.itoa v = l)) : wordV l = none := by
  cases e : wordV l with
  | none => rfl
  | some u =>
    have := wordV_atoi h e
    subst this
    exact absurd (wordV_some e) hv

theorem none_noatoi {l : List UInt8} (h : ∀ v, Lib.atoiAll l ≠ .ok v) : wordV l = none := by
  cases e : wordV l with
  | none => rfl
  | some u =>
    obtain ⟨h0, h1, h2⟩ := wordV_some e
    have := atoi_itoa u h0 h1
    rw [h2] at this
    exact absurd this (h u)

/-- What readWord answers at the text l. -/
def wordRes (l : List UInt8) : Value := .tuple #[.int .i64 ((wordV l).getD 0), .bool (wordV l).isSome]
theorem wordRes_no {l : List UInt8} (h : wordV l = none) : wordRes l = .tuple #[.int .i64 0, .bool false] := by
  unfold wordRes; rw [h]; rfl
theorem wordRes_yes {l : List UInt8} {v : Int} (h : wordV l = some v) : wordRes l = .tuple #[.int .i64 v, .bool true] := by
  unfold wordRes; rw [h]; rfl

set_option maxHeartbeats 1000000 in
theorem impl_read (s : ByteArray) (hs : s.size ≤ 1048576) (w : World) (ht : PowTab w) (hv : ErrVars w) :
    Calls Tryz.prog 76 #[.string s] w fun e w' => e = .returned (wordRes s.data.toList) ∧ Below w.heap.size w w' := by
  have HT : Hid (PowTab w) := ht
  clear ht
  by_cases hok : ∃ v, Lib.atoiAll s.data.toList = .ok v
  · obtain ⟨v, hok⟩ := hok
    have HO : Hid (Lib.atoiAll s.data.toList = .ok v) := hok
    clear hok hv
    by_cases hlo : v < -1073741824
    · have HN : Hid (wordV s.data.toList = none) := none_atoi HO.out (by omega)
      go_enter Tryz.func76, Tryz.ntmps76
      go_wp2_with (first | (go_at_call 85; refine (atoi_ok s hs v HO.out _).mono ?_; rintro e w1 ⟨rfl, hb1⟩) | go_in)
      go_ret2
      exact ⟨by rw [wordRes_no HN.out]; rfl, hb1⟩
    by_cases hbig : v ≤ 1073741823
    · by_cases hd : Lib.itoa v = s.data.toList
      · have HN : Hid (wordV s.data.toList = some v) := wordV_of (by omega) hbig hd
        have htx : (Lib.itoa v == s.toList) = true := by rw [ByteArray.toList_eq s, hd]; simp
        clear hd
        go_enter Tryz.func76, Tryz.ntmps76
        go_wp2_with (first | (go_at_call 85; refine (atoi_ok s hs v HO.out _).mono ?_; rintro e w1 ⟨rfl, hb1⟩) | (go_at_call 66; refine (word_digits v (by omega) (by omega) _ (HT.out.below hb1)).mono ?_; rintro e w2 ⟨rfl, hb2⟩) | go_in)
        go_ret2
        exact ⟨by rw [wordRes_yes HN.out]; rfl, hb1.trans (hb2.mono hb1.size)⟩
      · have HN : Hid (wordV s.data.toList = none) := none_atoi HO.out (fun h => hd h.2.2)
        have htx : (Lib.itoa v == s.toList) = false := by rw [ByteArray.toList_eq s]; simp [hd]
        clear hd
        go_enter Tryz.func76, Tryz.ntmps76
        go_wp2_with (first | (go_at_call 85; refine (atoi_ok s hs v HO.out _).mono ?_; rintro e w1 ⟨rfl, hb1⟩) | (go_at_call 66; refine (word_digits v (by omega) (by omega) _ (HT.out.below hb1)).mono ?_; rintro e w2 ⟨rfl, hb2⟩) | go_in)
        go_ret2
        exact ⟨by rw [wordRes_no HN.out]; rfl, hb1.trans (hb2.mono hb1.size)⟩
    · have HN : Hid (wordV s.data.toList = none) := none_atoi HO.out (by omega)
      go_enter Tryz.func76, Tryz.ntmps76
      go_wp2_with (first | (go_at_call 85; refine (atoi_ok s hs v HO.out _).mono ?_; rintro e w1 ⟨rfl, hb1⟩) | go_in)
      go_ret2
      exact ⟨by rw [wordRes_no HN.out]; rfl, hb1⟩
  · have HB : Hid (∀ v, Lib.atoiAll s.data.toList ≠ .ok v) := fun v h => hok ⟨v, h⟩
    have HN : Hid (wordV s.data.toList = none) := none_noatoi HB.out
    have HE : Hid (ErrVars w) := hv
    clear hok hv
    go_enter Tryz.func76, Tryz.ntmps76
    go_wp2_with (go_at_call 85; refine (atoi_bad s hs HB.out _ HE.out).mono ?_; rintro e w1 ⟨⟨v, N, rfl⟩, hb1⟩)
    go_ret2
    exact ⟨by rw [wordRes_no HN.out]; rfl, hb1⟩
end Go.Proofs.YtafpbcdgcgffeabGreatDoor
