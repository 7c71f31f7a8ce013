/- impl.Number at every text: the word that it spells and true, or 0 and false. Conditions: the text has at most 2^20 bytes; the library's table of powers of ten and its two errors lie as their text lays them. -/
import Derived.Test.YtdcecgelgaghgagDoorImplDigits
import Derived.Test.YtdcecgelgaghgagDoorSpecNumber
import Derived.Test.YtdcecgelgaghgagDoorAtoi
import Derived.Lib.AtoiErrMem
import Derived.WalkKit
import Derived.ProofKit
import Derived.Below
namespace Go.Proofs.YtdcecgelgaghgagDoor
open Go.ChangeShapes Go.WideShapes Go.ChangeAt Go.RowKit

/-- The library's two errors lie as some errors. -/
def ErrVars (w : World) : Prop := (∃ tp p, w.var? Tryd.prog "strconv.ErrSyntax" = some #[.iface tp p]) ∧ ∃ tp p, w.var? Tryd.prog "strconv.ErrRange" = some #[.iface tp p]

theorem gSyn : Tryd.prog.globalNamed "strconv.ErrSyntax" = some 0 := by kernel_rfl
theorem gRng : Tryd.prog.globalNamed "strconv.ErrRange" = some 1 := by kernel_rfl

theorem var_lt {w : World} {n : String} {g : Nat} {cs : Array Value} (hg : Tryd.prog.globalNamed n = some g) (h : w.var? Tryd.prog n = some cs) : g < w.heap.size := by
  unfold World.var? at h
  rw [hg] at h
  simp only [Option.bind_some] at h
  rcases Nat.lt_or_ge g w.heap.size with hl | hl
  · exact hl
  · rw [Array.getElem?_eq_none hl] at h
    simp at h

theorem ErrVars.below {w w' : World} (h : ErrVars w) (hb : Below w.heap.size w w') : ErrVars w' := by
  obtain ⟨⟨t1, p1, h1⟩, t2, p2, h2⟩ := h
  exact ⟨⟨t1, p1, var?_below hb gSyn (var_lt gSyn h1) h1⟩, t2, p2, var?_below hb gRng (var_lt gRng h2) h2⟩

theorem atoi_ok (s : ByteArray) (hs : s.size ≤ 1048576) (v : Int) (h : Lib.atoiAll s.data.toList = .ok v) (w : World) :
    Calls Tryd.prog 20 #[.string s] w fun e w' => e = .returned (.tuple #[.int .i64 v, .nilIface]) ∧ Below w.heap.size w w' := by
  refine (Tryd.strconv_Atoi_ok s (by omega) v h w).mono fun e w' ⟨he, hw⟩ => ⟨he, ?_⟩
  rcases hw with rfl | ⟨t, rfl⟩
  · exact Below.refl _ _
  · exact Lib.bytesWorld_below _ _ _

theorem atoi_bad (s : ByteArray) (hs : s.size ≤ 1048576) (h : ∀ v, Lib.atoiAll s.data.toList ≠ .ok v) (w : World) (hv : ErrVars w) :
    Calls Tryd.prog 20 #[.string s] w fun e w' => (∃ v N, e = .returned (.tuple #[.int .i64 v, .iface 55 (.pointer (some ⟨N, 0, none⟩))])) ∧ Below w.heap.size w w' := by
  obtain ⟨⟨t1, p1, h1⟩, t2, p2, h2⟩ := hv
  cases e : Lib.atoiAll s.data.toList with
  | ok v => exact absurd e (h v)
  | range =>
    refine (Any.strconv_Atoi_range_var Tryd.laysC172 s (by omega) e t2 p2 w h2).mono fun e w' ⟨N, he, _, _, hb⟩ => ⟨⟨_, N, he⟩, hb⟩
  | _ =>
    refine (Any.strconv_Atoi_syntax_var Tryd.laysC172 s (by omega) e t1 p1 w h1).mono fun e w' ⟨N, he, _, _, hb⟩ => ⟨⟨_, N, he⟩, hb⟩

/-- (impl.word).digits at every int. -/
theorem word_digits (n : Int) (h0 : -9223372036854775808 ≤ n) (h1 : n ≤ 9223372036854775807) (w : World) (ht : PowTab w) :
    Calls Tryd.prog 19 #[.int .i64 n] w fun e w' => e = .returned (.string ⟨(Lib.itoa n).toArray⟩) ∧ Below w.heap.size w w' := by
  have HS : Hid (Calls Tryd.prog 27 #[.int .i64 n] w fun e w' => e = .returned (.string ⟨(Lib.itoa n).toArray⟩) ∧ ∃ k os, w' = Sort.grow (w.drewN k) os) := Tryd.strconv_Itoa n h0 h1 w ht
  go_enter Tryd.func19, Tryd.ntmps19
  go_wp2_with (go_at_call 27; refine HS.out.mono ?_; rintro e w' ⟨rfl, k, os, rfl⟩)
  go_ret
  exact ⟨rfl, below_grow w k os⟩

theorem int_of_atoi {l : List UInt8} {v : Int} (h : Lib.atoiAll l = .ok v) (hn : numB l = true) : v = (val l : Int) := by
  have := atoi_num hn
  rw [h] at this
  injection this

set_option maxHeartbeats 1000000 in
theorem impl_number (s : ByteArray) (hs : s.size ≤ 1048576) (w : World) (ht : PowTab w) (hv : ErrVars w) :
    Calls Tryd.prog 7 #[.string s] w fun e w' => e = .returned (numRes s.data.toList) ∧ Below w.heap.size w w' := by
  have HT : Hid (PowTab w) := ht
  clear ht
  by_cases hok : ∃ v, Lib.atoiAll s.data.toList = .ok v
  · obtain ⟨v, hok⟩ := hok
    have HO : Hid (Lib.atoiAll s.data.toList = .ok v) := hok
    clear hok hv
    by_cases hneg : v < 0
    · have HN : Hid (numB s.data.toList = false) := by
        cases e : numB s.data.toList with
        | false => rfl
        | true => have := int_of_atoi HO.out e; omega
      go_enter Tryd.func7, Tryd.ntmps7
      go_wp2_with (go_at_call 20; refine (atoi_ok s hs v HO.out _).mono ?_; rintro e w1 ⟨rfl, hb1⟩)
      go_ret2
      exact ⟨by rw [numRes_no HN.out]; rfl, hb1⟩
    by_cases hbig : v ≤ 1073741823
    · have hlo : ¬ v < -1073741824 := by omega
      by_cases hd : Lib.itoa v = s.data.toList
      · have HN : Hid (numB s.data.toList = true ∧ (val s.data.toList : Int) = v) := by
          rw [itoa_val v (by omega)] at hd
          refine ⟨?_, ?_⟩
          · rw [← hd]; exact numB_mk _ (by omega)
          · rw [← hd, val_decDigits]; omega
        have htx : (Lib.itoa v == s.toList) = true := by rw [ByteArray.toList_eq s, hd]; simp
        clear hd
        go_enter Tryd.func7, Tryd.ntmps7
        go_wp2_with (first | (go_at_call 20; refine (atoi_ok s hs v HO.out _).mono ?_; rintro e w1 ⟨rfl, hb1⟩) | (go_at_call 19; refine (word_digits v (by omega) (by omega) _ (HT.out.below hb1)).mono ?_; rintro e w2 ⟨rfl, hb2⟩) | go_in)
        go_ret2
        exact ⟨by rw [numRes_yes HN.out.1, HN.out.2]; rfl, hb1.trans (hb2.mono hb1.size)⟩
      · have HN : Hid (numB s.data.toList = false) := by
          cases e : numB s.data.toList with
          | false => rfl
          | true =>
            exfalso
            have h1 := int_of_atoi HO.out e
            apply hd
            rw [h1, itoa_val _ (by omega), Int.toNat_natCast]
            exact (numB_iff.1 e).2
        have htx : (Lib.itoa v == s.toList) = false := by rw [ByteArray.toList_eq s]; simp [hd]
        clear hd
        go_enter Tryd.func7, Tryd.ntmps7
        go_wp2_with (first | (go_at_call 20; refine (atoi_ok s hs v HO.out _).mono ?_; rintro e w1 ⟨rfl, hb1⟩) | (go_at_call 19; refine (word_digits v (by omega) (by omega) _ (HT.out.below hb1)).mono ?_; rintro e w2 ⟨rfl, hb2⟩) | go_in)
        go_ret2
        exact ⟨by rw [numRes_no HN.out]; rfl, hb1.trans (hb2.mono hb1.size)⟩
    · have HN : Hid (numB s.data.toList = false) := by
        cases e : numB s.data.toList with
        | false => rfl
        | true =>
          exfalso
          have h1 := int_of_atoi HO.out e
          have h2 := (numB_iff.1 e).1
          omega
      go_enter Tryd.func7, Tryd.ntmps7
      go_wp2_with (first | (go_at_call 20; refine (atoi_ok s hs v HO.out _).mono ?_; rintro e w1 ⟨rfl, hb1⟩) | go_in)
      go_ret2
      exact ⟨by rw [numRes_no HN.out]; rfl, hb1⟩
  · have HB : Hid (∀ v, Lib.atoiAll s.data.toList ≠ .ok v) := fun v h => hok ⟨v, h⟩
    have HN : Hid (numB s.data.toList = false) := by
      cases e : numB s.data.toList with
      | false => rfl
      | true => exact absurd (atoi_num e) (HB.out _)
    have HE : Hid (ErrVars w) := hv
    clear hok hv
    go_enter Tryd.func7, Tryd.ntmps7
    go_wp2_with (go_at_call 20; refine (atoi_bad s hs HB.out _ HE.out).mono ?_; rintro e w1 ⟨⟨v, N, rfl⟩, hb1⟩)
    go_ret2
    exact ⟨by rw [numRes_no HN.out]; rfl, hb1⟩
end Go.Proofs.YtdcecgelgaghgagDoor
