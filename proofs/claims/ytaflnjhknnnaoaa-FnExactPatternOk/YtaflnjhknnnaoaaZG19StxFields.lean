/- impl's sets of ints, what only reads: has, okFrom, placeFor, within, and slices.Index, slices.Contains. Condition: at most 2^22 of them. -/
import Derived.Test.YtaflnjhknnnaoaaZG0Ints
import Derived.Test.YtaflnjhknnnaoaaZG6PatP
import Derived.Test.YtaflnjhknnnaoaaZG7StxParts
import Derived.Test.YtaflnjhknnnaoaaZG9ImplDots
import Derived.Test.YtaflnjhknnnaoaaZG15WordsOk
import Derived.Test.YtaflnjhknnnaoaaZG18ImplSym2
import Derived.Deep.QuietTactic
import Derived.BigQuiet
import Derived.WalkSpells
import Derived.WalkSmall
namespace Go.Proofs.Ytaflnjhknnnaoaa
open Go.ChangeShapes Go.WideShapes Go.ChangeAt Go.RowKit

set_option maxHeartbeats 1000000 in
theorem impl_okfrom (xs : List Int) (v : Value) (w : World) (hv : Rd w v xs) (hl : xs.length ≤ 4194304) :
    Calls Try.prog 60 #[v, .int .i64 0] w fun e w' => e = .returned (.bool (setB xs)) ∧ w' = w := by
  obtain ⟨a, cap, rfl, hc⟩ := hv.shape
  have HC : Hid (∀ j, j < xs.length → ∃ b off, a = some ⟨b, off, none⟩ ∧ w.cell? ⟨b, off + j, none⟩ = some (.int .i64 (xs.getD j 0))) := hc
  clear hc hv
  obtain ⟨m, hm⟩ : ∃ m, m = xs.length := ⟨_, rfl⟩
  rw [← hm] at HC hl ⊢
  have HM : Hid (m = xs.length) := hm
  clear hm
  go_enter Try.func60, Try.ntmps60
  go_wp2
  go_loop [9] (fun i => ∃ k : Nat, k ≤ m ∧ i = .int .i64 k ∧ (∀ j, j < k → standsB xs j = true)) (fun i => m - (intOf i).toNat)
  case atStart => exact ⟨0, by omega, rfl, fun j hj => by omega⟩
  case round =>
    obtain ⟨k, hk, rfl, hno⟩ := hrel
    have HNO : Hid (∀ j, j < k → standsB xs j = true) := hno
    clear hno
    have hup : ∀ (b : Bool), standsB xs k = b → b = true → ∀ j, j < k + 1 → standsB xs j = true := by
      intro b h1 h2 j hj
      by_cases hjk : j = k
      · subst hjk; rw [h1, h2]
      · exact HNO.out j (by omega)
    have HUP : Hid (∀ (b : Bool), standsB xs k = b → b = true → ∀ j, j < k + 1 → standsB xs j = true) := hup
    clear hup
    by_cases hlt : (k : Int) < m
    · have HK : Hid (k < xs.length) := by show k < _; rw [← HM.out]; omega
      obtain ⟨b, off, rfl, hcell⟩ := HC.out k (by omega)
      generalize hx : xs.getD k 0 = x at hcell
      have HX : Hid (xs.getD k 0 = x) := hx
      clear hx
      by_cases h0 : x < 0
      · have d0 : decide (x < 0) = true := by simpa using h0
        go_wp2
        go_ret
        have hs : standsB xs k = false := by unfold standsB; rw [HX.out]; simp; omega
        rw [set_no k HK.out hs]
        exact ⟨rfl, rfl⟩
      · have d0 : decide (x < 0) = false := by simpa using h0
        by_cases hk0 : 0 < k
        · have dk : decide (0 < k) = true := by simpa using hk0
          obtain ⟨b', off', hbb, hcell2⟩ := HC.out (k - 1) (by omega)
          simp only [Option.some.injEq, Addr.mk.injEq, and_true] at hbb
          obtain ⟨rfl, rfl⟩ := hbb
          generalize hy : xs.getD (k - 1) 0 = y at hcell2
          have HY : Hid (xs.getD (k - 1) 0 = y) := hy
          clear hy
          have hs : standsB xs k = decide (y < x) := by
            unfold standsB; rw [HX.out, HY.out, decide_eq_true (by omega : 0 ≤ x), decide_eq_false (by omega : ¬ k = 0)]; simp
          have HS : Hid (standsB xs k = decide (y < x)) := hs
          clear hs
          have e1 : (((k : Int) - 1).toNat) = k - 1 := by omega
          by_cases hyx : x ≤ y
          · go_wp2
            go_ret
            rw [set_no k HK.out (by rw [HS.out]; simp; omega)]
            exact ⟨rfl, rfl⟩
          · have d1 : decide (x ≤ y) = false := by simpa using hyx
            go_wp2
            go_round
            case rel => exact ⟨k + 1, by omega, by go_num, HUP.out _ HS.out (by simp; omega)⟩
            case measure => simp [intOf]; omega
        · have dk : decide (0 < k) = false := by simpa using hk0
          have hs : standsB xs k = true := by
            unfold standsB; rw [HX.out, decide_eq_true (by omega : 0 ≤ x), decide_eq_true (by omega : k = 0)]; rfl
          have HS : Hid (standsB xs k = true) := hs
          clear hs
          go_wp2
          go_round
          case rel => exact ⟨k + 1, by omega, by go_num, HUP.out _ HS.out rfl⟩
          case measure => simp [intOf]; omega
    · go_wp2
      go_ret
      have hke : k = m := by omega
      subst hke
      rw [set_yes (fun i hi => HNO.out i (by rw [HM.out]; exact hi))]
      exact ⟨rfl, rfl⟩

set_option maxHeartbeats 400000 in
theorem impl_setok (xs : List Int) (v : Value) (w : World) (hv : Rd w v xs) (hl : xs.length ≤ 4194304) :
    Calls Try.prog 49 #[v] w fun e w' => e = .returned (.bool (setB xs)) ∧ w' = w := by
  go_enter Try.func49, Try.ntmps49
  go_wp2_with fail
  refine (impl_okfrom xs v w hv hl).mono ?_
  rintro e w1 ⟨rfl, hw1⟩
  subst hw1
  go_wp2
  go_ret
  exact ⟨rfl, rfl⟩

end Go.Proofs.Ytaflnjhknnnaoaa

/- impl.stxFieldsOk. Condition: the text has at most 2^20 bytes, the set at most 2^22 numbers. -/
namespace Go.Proofs.Ytaflnjhknnnaoaa
open Go.ChangeShapes Go.WideShapes Go.ChangeAt Go.RowKit

set_option maxRecDepth 100000 in
set_option maxHeartbeats 8000000 in
theorem fields_okX (t : X) (w : World) (sp p : Option Addr) (sc cap : Nat) (hs : t.s.size ≤ 1048576) (hset : Rd w (.slice sp t.set.length sc) t.set) (hsl : t.set.length ≤ 4194304) :
    Calls Try.prog 37 #[.agg #[.int .i64 t.op, .int .i64 t.at_, .int .i64 t.n, .string t.s, .slice sp t.set.length sc, .slice p t.len cap]] w fun e w' => e = .returned (.bool (fieldsXB t)) ∧ Below w.heap.size w w' := by
  have HW : Hid (∀ w, Calls Try.prog 47 #[.int .i64 t.n] w fun e w' => e = .returned (.bool (wokB t.n)) ∧ w' = w) := fun w => impl_wordOk t.n w
  have HS : Hid (∀ w, Calls Try.prog 48 #[.string t.s] w fun e w' => e = .returned (.bool (symB t.s.data.toList)) ∧ Below w.heap.size w w') := fun w => impl_sym t.s hs w
  have HT : Hid (∀ w1, Below w.heap.size w w1 → Calls Try.prog 49 #[.slice sp t.set.length sc] w1 fun e w' => e = .returned (.bool (setB t.set)) ∧ Below w1.heap.size w1 w') := fun w1 hb => (impl_setok t.set _ w1 (hset.below hb) hsl).mono (fun _ _ h => ⟨h.1, by rw [h.2]; exact Below.refl _ _⟩)
  have HR : Hid (fieldsXB t = gB t.at_ t.op (wokB t.n) (symB t.s.data.toList) (t.s.toList == []) (t.n == 0) ((t.len : Int) == 0) ((t.set.length : Int) == 0) (setB t.set)) := fieldsXB_eq t
  clear hset hsl hs
  generalize fieldsXB t = R at *
  generalize symB t.s.data.toList = sb at *
  generalize wokB t.n = wb at *
  generalize setB t.set = st at *
  generalize t.set.length = sl at *
  generalize t.op = op at *
  generalize t.at_ = a at *
  generalize t.n = n at *
  generalize t.s = s at *
  generalize t.len = len at *
  rcases Int.lt_or_le a 0 with ha | ha
  · have HR2 : Hid (R = false) := HR.out.trans (by unfold gB; rw [decide_eq_false (by omega)]; rfl)
    have HB : Hid (∀ o1, Below w.heap.size w (w.alloc o1)) := fun o1 => newx w _
    clear HR
    go_enter Try.func37, Try.ntmps37
    go_wp2_with fail
    go_ret
    exact ⟨ret_bool HR2.out.symm, HB.out _⟩
  · have HRA : Hid (R = (if op = 1 then wb && ((s.toList == []) && (((sl : Int) == 0) && ((len : Int) == 0))) else if op = 2 then sb && ((n == 0) && (st && ((len : Int) == 0))) else if op = 3 then (n == 0) && ((s.toList == []) && ((sl : Int) == 0)) else false)) := HR.out.trans (by unfold gB; rw [decide_eq_true ha, Bool.true_and])
    clear HR
    go_enter Try.func37, Try.ntmps37
    go_wp2_with fail
    refine (part_of op a n s (.slice sp sl sc) (.slice p len cap) _).mono ?_
    rintro e w1 ⟨T, rfl, hb1, hT⟩
    have HB1 : Hid (Below w.heap.size w w1) := (newx w _).trans (hb1.mono (by simp))
    clear hb1
    rcases hT with ⟨h, rfl⟩ | ⟨h, rfl⟩ | ⟨h, rfl⟩ | ⟨⟨h1, h2, h3⟩, rfl⟩
    · have HR2 : Hid (R = (wb && ((s.toList == []) && (((sl : Int) == 0) && ((len : Int) == 0))))) := HRA.out.trans (if_pos h)
      have hta := is_numPart (.agg #[.int .i64 op, .int .i64 a, .int .i64 n, .string s, .slice sp sl sc, .slice p len cap]) w1
      have HB2 : Hid (∀ o, Below w.heap.size w (w1.alloc o)) := fun o => HB1.out.trans ((newx _ _).mono HB1.out.size)
      clear h HRA
      cases he : (s.toList == ([] : List UInt8)) <;> cases hz : ((sl : Int) == 0) <;> cases hl : ((len : Int) == 0)
      all_goals
        rw [he, hz, hl] at HR2
        cases wb
        all_goals
          go_wp2_with ((go_at_call 47; refine (HW.out _).mono ?_; rintro e w2 ⟨rfl, rfl⟩))
          go_ret
          exact ⟨ret_bool HR2.out.symm, HB2.out _⟩
    · have HR2 : Hid (R = (sb && ((n == 0) && (st && ((len : Int) == 0))))) := HRA.out.trans ((if_neg (by omega)).trans (if_pos h))
      have hta := no_numPart (ty := 76) (by decide) (.agg #[.int .i64 op, .int .i64 a, .int .i64 n, .string s, .slice sp sl sc, .slice p len cap]) w1
      have htb := is_symPart (.agg #[.int .i64 op, .int .i64 a, .int .i64 n, .string s, .slice sp sl sc, .slice p len cap]) w1
      have hnb := newx w1 (.cells #[.int .i64 op, .int .i64 a, .int .i64 n, .string s, .slice sp sl sc, .slice p len cap] 76)
      have HB2 : Hid (Below w.heap.size w (w1.alloc (.cells #[.int .i64 op, .int .i64 a, .int .i64 n, .string s, .slice sp sl sc, .slice p len cap] 76))) := HB1.out.trans (hnb.mono HB1.out.size)
      clear h HRA hnb
      go_wp2_with fail
      refine (HS.out _).mono ?_
      rintro e w2 ⟨rfl, hb2⟩
      have hX2 : Six w2 w1.heap.size op a n s (.slice sp sl sc) (.slice p len cap) 76 := (hb2.block _ (by simp)).trans (heap_alloc_new w1 _)
      obtain ⟨q0, q1, q2, q3, q4, q5⟩ := hX2.cells
      have HX2 : Hid (Six w2 w1.heap.size op a n s (.slice sp sl sc) (.slice p len cap) 76) := hX2
      have HB3 : Hid (Below w.heap.size w w2) := HB2.out.trans (hb2.mono HB2.out.size)
      clear hb2 hX2 hta htb
      cases sb with
      | false =>
        go_wp2_with fail
        go_ret
        exact ⟨ret_bool (HR2.out.trans (by simp)).symm, HB3.out⟩
      | true =>
        cases hn : (n == 0) with
        | false =>
          rw [hn] at HR2
          go_wp2_with fail
          go_ret
          exact ⟨ret_bool (HR2.out.trans (by simp)).symm, HB3.out⟩
        | true =>
          rw [hn] at HR2
          go_wp2_with fail
          refine (HT.out _ HB3.out).mono ?_
          rintro e w3 ⟨rfl, hb3⟩
          obtain ⟨y0, y1, y2, y3, y4, y5⟩ := (HX2.out.below hb3).cells
          have HB4 : Hid (Below w.heap.size w w3) := HB3.out.trans (hb3.mono HB3.out.size)
          clear hb3 q0 q1 q2 q3 q4 q5
          cases st <;> cases hl : ((len : Int) == 0)
          all_goals
            rw [hl] at HR2
            go_wp2_with fail
            go_ret
            exact ⟨ret_bool (HR2.out.trans (by simp)).symm, HB4.out⟩
    · have HR2 : Hid (R = ((n == 0) && ((s.toList == []) && ((sl : Int) == 0)))) := HRA.out.trans ((if_neg (by omega)).trans ((if_neg (by omega)).trans (if_pos h)))
      have hta := no_numPart (ty := 78) (by decide) (.agg #[.int .i64 op, .int .i64 a, .int .i64 n, .string s, .slice sp sl sc, .slice p len cap]) w1
      have htb := no_symPart (ty := 78) (by decide) (.agg #[.int .i64 op, .int .i64 a, .int .i64 n, .string s, .slice sp sl sc, .slice p len cap]) w1
      have htc := is_listPart (.agg #[.int .i64 op, .int .i64 a, .int .i64 n, .string s, .slice sp sl sc, .slice p len cap]) w1
      have HB2 : Hid (∀ o, Below w.heap.size w (w1.alloc o)) := fun o => HB1.out.trans ((newx _ _).mono HB1.out.size)
      clear h HRA
      cases he : (s.toList == ([] : List UInt8)) <;> cases hz : ((sl : Int) == 0) <;> cases hn : (n == 0)
      all_goals
        rw [he, hz, hn] at HR2
        go_wp2_with fail
        go_ret
        exact ⟨ret_bool (HR2.out.trans (by simp)).symm, HB2.out _⟩
    · have HR2 : Hid (R = false) := HRA.out.trans ((if_neg h1).trans ((if_neg h2).trans (if_neg h3)))
      have hta := no_numPart (ty := 86) (by decide) (.agg #[.int .i64 op, .int .i64 a, .int .i64 n, .string s, .slice sp sl sc, .slice p len cap]) w1
      have htb := no_symPart (ty := 86) (by decide) (.agg #[.int .i64 op, .int .i64 a, .int .i64 n, .string s, .slice sp sl sc, .slice p len cap]) w1
      have htc := no_listPart (ty := 86) (by decide) (.agg #[.int .i64 op, .int .i64 a, .int .i64 n, .string s, .slice sp sl sc, .slice p len cap]) w1
      clear h1 h2 h3 HRA
      go_wp2_with fail
      go_ret
      exact ⟨ret_bool HR2.out.symm, HB1.out⟩
end Go.Proofs.Ytaflnjhknnnaoaa
