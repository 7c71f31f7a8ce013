/- The walk of laws.FnNumbers: it returns true. Conditions: the code's bytes can be read; the library's table of powers of ten and its two errors lie as their text lays them. -/
import Derived.Test.YtmldognpldfdjagDoorCodeRow
import Derived.Test.YtmldognpldfdjagDoorWords
import Derived.Test.YtmldognpldfdjagDoorDrawWord
import Derived.Test.YtmldognpldfdjagDoorImplNumber
import Derived.Test.YtmldognpldfdjagDoorImplDigits
namespace Go.Proofs.YtmldognpldfdjagDoor.fnNumbers
open Go.ChangeShapes Go.WideShapes Go.ChangeAt Go.RowKit

theorem numB_itoa_yes (n : Int) (h0 : 0 ≤ n) (h1 : n ≤ 1073741823) : numRes (Lib.itoa n) = .tuple #[.int .i64 n, .bool true] := by
  rw [itoa_val n h0, numRes_yes (numB_mk _ (by omega)), val_decDigits, Int.toNat_of_nonneg h0]
theorem numB_itoa_hi (n : Int) (h0 : 0 ≤ n) (h1 : ¬ n ≤ 1073741823) : numRes (Lib.itoa n) = .tuple #[.int .i64 0, .bool false] := by
  rw [itoa_val n h0, numRes_no (no_of_big (by rw [val_decDigits]; omega))]
theorem numB_itoa_neg (n : Int) (h0 : ¬ 0 ≤ n) : numRes (Lib.itoa n) = .tuple #[.int .i64 0, .bool false] := by
  refine numRes_no (no_of_byte 45 ?_ (by unfold isDig; decide))
  unfold Lib.itoa
  rw [if_pos (by omega)]
  exact List.mem_cons_self

theorem data_mk (l : List UInt8) : (⟨l.toArray⟩ : ByteArray).data.toList = l := rfl

/-- What the law's second half needs of the world. -/
structure Ground (a : Option Addr) (len : Nat) (w : World) : Prop where
  code : CodeOk a len w.heap.size w
  tab : PowTab w
  errs : ErrVars w

theorem Ground.below {a : Option Addr} {len : Nat} {w w' : World} (h : Ground a len w) (hb : Below w.heap.size w w') : Ground a len w' :=
  ⟨(show CodeOk a len w'.heap.size w' from by
      have := h.code.keep (w' := w') fun k hk _ => hb.block k hk
      obtain ⟨h1, h2 | ⟨b, off, e, hlt, hz⟩⟩ := this
      · exact ⟨h1, .inl h2⟩
      · exact ⟨h1, .inr ⟨b, off, e, Nat.lt_of_lt_of_le hlt hb.size, hz⟩⟩), h.tab.below hb, h.errs.below hb⟩

set_option maxHeartbeats 1000000 in
theorem walk (a : Option Addr) (len cap : Nat) (w : World) (hl : len ≤ 1048576) (hg : Ground a len w) :
    Calls Tryd.prog 3 #[.slice a len cap] w fun e w' => e = .returned (.bool true) ∧ Below w.heap.size w w' := by
  have hb0 : ¬ (1048576 : Int) < len := by omega
  go_enter Tryd.func3, Tryd.ntmps3
  go_wp2_with (go_at_call 4; go_in)
  refine (drawDigits_any a len cap _ hg.code).mono ?_
  rintro e w1 ⟨⟨n, n0, n1, rfl⟩, b1⟩
  have g1 := hg.below b1
  go_wp2_with fail
  refine (impl_digits n n0 n1 _ g1.tab).mono ?_
  rintro e w2 ⟨rfl, b2⟩
  have g2 := g1.below b2
  have hlen := Lib.itoa_length_le n n0 n1
  go_wp2_with fail
  refine (impl_number ⟨(Lib.itoa n).toArray⟩ (by show (Lib.itoa n).toArray.size ≤ _; simp; omega) _ g2.tab g2.errs).mono ?_
  rintro e w3 ⟨rfl, b3⟩
  have g3 := g2.below b3
  rw [data_mk]
  have B3 : Below w.heap.size w w3 := (b1.trans (b2.mono b1.size)).trans (b3.mono (Nat.le_trans b1.size b2.size))
  clear b1 b2 b3 g1 g2 hg
  obtain ⟨x, b, hnum, hwk⟩ : ∃ (x : Int) (b : Bool), numRes (Lib.itoa n) = .tuple #[.int .i64 x, .bool b] ∧ ((b = true ∧ n = x ∧ wokB n = true ∧ 0 ≤ n) ∨ (b = false ∧ wokB n = false) ∨ (b = false ∧ n < 0 ∧ wokB n = true)) := by
    by_cases h0 : 0 ≤ n
    · by_cases h1 : n ≤ 1073741823
      · exact ⟨n, true, numB_itoa_yes n h0 h1, .inl ⟨rfl, rfl, wokB_yes (by omega) h1, h0⟩⟩
      · exact ⟨0, false, numB_itoa_hi n h0 h1, .inr (.inl ⟨rfl, wokB_hi h1⟩)⟩
    · refine ⟨0, false, numB_itoa_neg n h0, ?_⟩
      by_cases h1 : -1073741824 ≤ n
      · exact .inr (.inr ⟨rfl, by omega, wokB_yes h1 (by omega)⟩)
      · exact .inr (.inl ⟨rfl, wokB_lo h1⟩)
  rw [hnum]
  clear hnum
  have hst : ∀ s : ByteArray, s.toList = s.data.toList := ByteArray.toList_eq
  have HST : Hid (∀ s : ByteArray, s.toList = s.data.toList) := hst
  clear hst
  rcases hwk with ⟨rfl, rfl, hwk, hn0⟩ | ⟨rfl, hwk⟩ | ⟨rfl, hn0, hwk⟩
  all_goals
    go_wp2_with fail
    refine (spec_digits n n0 n1 _).mono ?_
    rintro e w4 ⟨rfl, b4⟩
    have g4 := g3.below b4
    have B4 : Below w.heap.size w w4 := B3.trans (b4.mono B3.size)
    generalize Lib.itoa n = ln at *
    clear b4 g3 B3
    go_wp2_with (first | (go_at_call 9; refine (impl_wordOk _ _).mono ?_; rintro e w' ⟨rfl, rfl⟩) | (go_at_call 16; refine (spec_wordOk _ _).mono ?_; rintro e w' ⟨rfl, rfl⟩) | (go_at_call 14; refine (impl_round _ _).mono ?_; rintro e w' ⟨rfl, rfl⟩) | (go_at_call 15; refine (spec_round _ _).mono ?_; rintro e w' ⟨rfl, rfl⟩))
    refine (drawNumber_any a len cap _ g4.code).mono ?_
    rintro e w5 ⟨⟨s, hs, rfl⟩, b5⟩
    have g5 := g4.below b5
    have B5 : Below w.heap.size w w5 := B4.trans (b5.mono B4.size)
    clear b5 g4 B4
    go_wp2_with fail
    refine (impl_number s (by omega) _ g5.tab g5.errs).mono ?_
    rintro e w6 ⟨rfl, b6⟩
    have g6 := g5.below b6
    have B6 : Below w.heap.size w w6 := B5.trans (b6.mono B5.size)
    clear b6 g5 B5
    by_cases hn : numB s.data.toList = true
    · rw [numRes_yes hn]
      go_wp2_with fail
      refine (spec_number s _ (by unfold maxLen; omega)).mono ?_
      rintro e w7 ⟨rfl, b7⟩
      have g7 := g6.below b7
      have B7 : Below w.heap.size w w7 := B6.trans (b7.mono B6.size)
      clear b7 g6 B6
      rw [numRes_yes hn]
      have hv0 : (val s.data.toList : Int) ≤ 1073741823 := by have := (numB_iff.1 hn).1; omega
      have hv1 : 0 ≤ (val s.data.toList : Int) := by omega
      have hit : (Lib.itoa (val s.data.toList : Int) == s.toList) = true := by
        rw [itoa_val _ hv1, Int.toNat_natCast, HST.out s, (numB_iff.1 hn).2]; simp
      clear hn
      generalize (val s.data.toList : Int) = v at *
      go_wp2_with fail
      refine (drawRound_any a len cap _ g7.code).mono ?_
      rintro e w8 ⟨⟨r, r0, r1, rfl⟩, b8⟩
      have g8 := g7.below b8
      have B8 : Below w.heap.size w w8 := B7.trans (b8.mono B7.size)
      clear b8 g7 B7
      go_wp2_with fail
      refine (drawWordOk_any a len cap _ g8.code).mono ?_
      rintro e w9 ⟨⟨u, u0, u1, rfl⟩, b9⟩
      have g9 := g8.below b9
      have B9 : Below w.heap.size w w9 := B8.trans (b9.mono B8.size)
      clear b9 g8 B8
      go_wp2_with fail
      refine (impl_digits v (by omega) (by omega) _ g9.tab).mono ?_
      rintro e w10 ⟨rfl, b10⟩
      have B10 : Below w.heap.size w w10 := B9.trans (b10.mono B9.size)
      clear b10 g9 B9
      have q1 := wokB_rnd r
      have q2 := rnd_eq r
      go_wp2_with (first | (go_at_call 9; refine (impl_wordOk _ _).mono ?_; rintro e w' ⟨rfl, rfl⟩) | (go_at_call 16; refine (spec_wordOk _ _).mono ?_; rintro e w' ⟨rfl, rfl⟩) | (go_at_call 14; refine (impl_round _ _).mono ?_; rintro e w' ⟨rfl, rfl⟩) | (go_at_call 15; refine (spec_round _ _).mono ?_; rintro e w' ⟨rfl, rfl⟩))
      go_ret
      exact ⟨rfl, B10⟩
    · have hn' : numB s.data.toList = false := by simpa using hn
      rw [numRes_no hn']
      go_wp2_with fail
      refine (spec_number s _ (by unfold maxLen; omega)).mono ?_
      rintro e w7 ⟨rfl, b7⟩
      have g7 := g6.below b7
      have B7 : Below w.heap.size w w7 := B6.trans (b7.mono B6.size)
      clear b7 g6 B6
      rw [numRes_no hn']
      clear hn hn'
      go_wp2_with fail
      refine (drawRound_any a len cap _ g7.code).mono ?_
      rintro e w8 ⟨⟨r, r0, r1, rfl⟩, b8⟩
      have g8 := g7.below b8
      have B8 : Below w.heap.size w w8 := B7.trans (b8.mono B7.size)
      clear b8 g7 B7
      go_wp2_with fail
      refine (drawWordOk_any a len cap _ g8.code).mono ?_
      rintro e w9 ⟨⟨u, u0, u1, rfl⟩, b9⟩
      have B9 : Below w.heap.size w w9 := B8.trans (b9.mono B8.size)
      clear b9 g8 B8
      have q1 := wokB_rnd r
      have q2 := rnd_eq r
      go_wp2_with (first | (go_at_call 9; refine (impl_wordOk _ _).mono ?_; rintro e w' ⟨rfl, rfl⟩) | (go_at_call 16; refine (spec_wordOk _ _).mono ?_; rintro e w' ⟨rfl, rfl⟩) | (go_at_call 14; refine (impl_round _ _).mono ?_; rintro e w' ⟨rfl, rfl⟩) | (go_at_call 15; refine (spec_round _ _).mono ?_; rintro e w' ⟨rfl, rfl⟩))
      go_ret
      exact ⟨rfl, B9⟩
end Go.Proofs.YtmldognpldfdjagDoor.fnNumbers
