/- impl.stxFieldsOk. Condition: the text has at most 2^20 bytes, the set at most 2^22 numbers. -/
import Derived.Test.YtoifhaakieigcaaStxOkP
import Derived.Test.YtoifhaakieigcaaStxParts
import Derived.Test.YtoifhaakieigcaaSixCells
import Derived.Test.YtoifhaakieigcaaWordsOk
import Derived.Test.YtoifhaakieigcaaImplSym2
import Derived.Test.YtoifhaakieigcaaIntsImpl
namespace Go.Proofs.Ytoifhaakieigcaa
open Go.ChangeShapes Go.WideShapes Go.ChangeAt Go.RowKit

set_option maxRecDepth 100000 in
set_option maxHeartbeats 8000000 in
theorem fields_okX (t : X) (w : World) (sp p : Option Addr) (sc cap : Nat) (hs : t.s.size ≤ 1048576) (hset : Rd w (.slice sp t.set.length sc) t.set) (hsl : t.set.length ≤ 4194304) :
    Calls Try.prog 56 #[.agg #[.int .i64 t.op, .int .i64 t.at_, .int .i64 t.n, .string t.s, .slice sp t.set.length sc, .slice p t.len cap]] w fun e w' => e = .returned (.bool (fieldsXB t)) ∧ Below w.heap.size w w' := by
  have HW : Hid (∀ w, Calls Try.prog 73 #[.int .i64 t.n] w fun e w' => e = .returned (.bool (wokB t.n)) ∧ w' = w) := fun w => impl_wordOk t.n w
  have HS : Hid (∀ w, Calls Try.prog 74 #[.string t.s] w fun e w' => e = .returned (.bool (symB t.s.data.toList)) ∧ Below w.heap.size w w') := fun w => impl_sym t.s hs w
  have HT : Hid (∀ w1, Below w.heap.size w w1 → Calls Try.prog 75 #[.slice sp t.set.length sc] w1 fun e w' => e = .returned (.bool (setB t.set)) ∧ Below w1.heap.size w1 w') := fun w1 hb => (impl_setok t.set _ w1 (hset.below hb) hsl).mono (fun _ _ h => ⟨h.1, by rw [h.2]; exact Below.refl _ _⟩)
  have HR : Hid (fieldsXB t = gB t.at_ t.op (wokB t.n) (symB t.s.data.toList) (t.s.toList == []) (t.n == 0) ((t.len : Int) == 0) ((t.set.length : Int) == 0) (setB t.set)) := fieldsXB_eq t
  clear hset hsl hs
  generalize fieldsXB t = R at *
  generalize symB t.s.data.toList = sb at *
  generalize wokB t.n = wb at *
  generalize setB t.set = st at *
  generalize t.set.length = sl at *
  generalize t.op = op at *
  generalize t.at_ = a at *
  generalize t.n = n at *
  generalize t.s = s at *
  generalize t.len = len at *
  rcases Int.lt_or_le a 0 with ha | ha
  · have HR2 : Hid (R = false) := HR.out.trans (by unfold gB; rw [decide_eq_false (by omega)]; rfl)
    have HB : Hid (∀ o1, Below w.heap.size w (w.alloc o1)) := fun o1 => newx w _
    clear HR
    go_enter Try.func56, Try.ntmps56
    go_wp2_with fail
    go_ret
    exact ⟨ret_bool HR2.out.symm, HB.out _⟩
  · have HRA : Hid (R = (if op = 1 then wb && ((s.toList == []) && (((sl : Int) == 0) && ((len : Int) == 0))) else if op = 2 then sb && ((n == 0) && (st && ((len : Int) == 0))) else if op = 3 then (n == 0) && ((s.toList == []) && ((sl : Int) == 0)) else false)) := HR.out.trans (by unfold gB; rw [decide_eq_true ha, Bool.true_and])
    clear HR
    go_enter Try.func56, Try.ntmps56
    go_wp2_with fail
    refine (part_of op a n s (.slice sp sl sc) (.slice p len cap) _).mono ?_
    rintro e w1 ⟨T, rfl, hb1, hT⟩
    have HB1 : Hid (Below w.heap.size w w1) := (newx w _).trans (hb1.mono (by simp))
    clear hb1
    rcases hT with ⟨h, rfl⟩ | ⟨h, rfl⟩ | ⟨h, rfl⟩ | ⟨⟨h1, h2, h3⟩, rfl⟩
    · have HR2 : Hid (R = (wb && ((s.toList == []) && (((sl : Int) == 0) && ((len : Int) == 0))))) := HRA.out.trans (if_pos h)
      have hta := is_numPart (.agg #[.int .i64 op, .int .i64 a, .int .i64 n, .string s, .slice sp sl sc, .slice p len cap]) w1
      have HB2 : Hid (∀ o, Below w.heap.size w (w1.alloc o)) := fun o => HB1.out.trans ((newx _ _).mono HB1.out.size)
      clear h HRA
      cases he : (s.toList == ([] : List UInt8)) <;> cases hz : ((sl : Int) == 0) <;> cases hl : ((len : Int) == 0)
      all_goals
        rw [he, hz, hl] at HR2
        cases wb
        all_goals
          go_wp2_with ((go_at_call 73; refine (HW.out _).mono ?_; rintro e w2 ⟨rfl, rfl⟩))
          go_ret
          exact ⟨ret_bool HR2.out.symm, HB2.out _⟩
    · have HR2 : Hid (R = (sb && ((n == 0) && (st && ((len : Int) == 0))))) := HRA.out.trans ((if_neg (by omega)).trans (if_pos h))
      have hta := no_numPart (ty := 96) (by decide) (.agg #[.int .i64 op, .int .i64 a, .int .i64 n, .string s, .slice sp sl sc, .slice p len cap]) w1
      have htb := is_symPart (.agg #[.int .i64 op, .int .i64 a, .int .i64 n, .string s, .slice sp sl sc, .slice p len cap]) w1
      have hnb := newx w1 (.cells #[.int .i64 op, .int .i64 a, .int .i64 n, .string s, .slice sp sl sc, .slice p len cap] 96)
      have HB2 : Hid (Below w.heap.size w (w1.alloc (.cells #[.int .i64 op, .int .i64 a, .int .i64 n, .string s, .slice sp sl sc, .slice p len cap] 96))) := HB1.out.trans (hnb.mono HB1.out.size)
      clear h HRA hnb
      go_wp2_with fail
      refine (HS.out _).mono ?_
      rintro e w2 ⟨rfl, hb2⟩
      have hX2 : Six w2 w1.heap.size op a n s (.slice sp sl sc) (.slice p len cap) 96 := (hb2.block _ (by simp)).trans (heap_alloc_new w1 _)
      obtain ⟨q0, q1, q2, q3, q4, q5⟩ := hX2.cells
      have HX2 : Hid (Six w2 w1.heap.size op a n s (.slice sp sl sc) (.slice p len cap) 96) := hX2
      have HB3 : Hid (Below w.heap.size w w2) := HB2.out.trans (hb2.mono HB2.out.size)
      clear hb2 hX2 hta htb
      cases sb with
      | false =>
        go_wp2_with fail
        go_ret
        exact ⟨ret_bool (HR2.out.trans (by simp)).symm, HB3.out⟩
      | true =>
        cases hn : (n == 0) with
        | false =>
          rw [hn] at HR2
          go_wp2_with fail
          go_ret
          exact ⟨ret_bool (HR2.out.trans (by simp)).symm, HB3.out⟩
        | true =>
          rw [hn] at HR2
          go_wp2_with fail
          refine (HT.out _ HB3.out).mono ?_
          rintro e w3 ⟨rfl, hb3⟩
          obtain ⟨y0, y1, y2, y3, y4, y5⟩ := (HX2.out.below hb3).cells
          have HB4 : Hid (Below w.heap.size w w3) := HB3.out.trans (hb3.mono HB3.out.size)
          clear hb3 q0 q1 q2 q3 q4 q5
          cases st <;> cases hl : ((len : Int) == 0)
          all_goals
            rw [hl] at HR2
            go_wp2_with fail
            go_ret
            exact ⟨ret_bool (HR2.out.trans (by simp)).symm, HB4.out⟩
    · have HR2 : Hid (R = ((n == 0) && ((s.toList == []) && ((sl : Int) == 0)))) := HRA.out.trans ((if_neg (by omega)).trans ((if_neg (by omega)).trans (if_pos h)))
      have hta := no_numPart (ty := 98) (by decide) (.agg #[.int .i64 op, .int .i64 a, .int .i64 n, .string s, .slice sp sl sc, .slice p len cap]) w1
      have htb := no_symPart (ty := 98) (by decide) (.agg #[.int .i64 op, .int .i64 a, .int .i64 n, .string s, .slice sp sl sc, .slice p len cap]) w1
      have htc := is_listPart (.agg #[.int .i64 op, .int .i64 a, .int .i64 n, .string s, .slice sp sl sc, .slice p len cap]) w1
      have HB2 : Hid (∀ o, Below w.heap.size w (w1.alloc o)) := fun o => HB1.out.trans ((newx _ _).mono HB1.out.size)
      clear h HRA
      cases he : (s.toList == ([] : List UInt8)) <;> cases hz : ((sl : Int) == 0) <;> cases hn : (n == 0)
      all_goals
        rw [he, hz, hn] at HR2
        go_wp2_with fail
        go_ret
        exact ⟨ret_bool (HR2.out.trans (by simp)).symm, HB2.out _⟩
    · have HR2 : Hid (R = false) := HRA.out.trans ((if_neg h1).trans ((if_neg h2).trans (if_neg h3)))
      have hta := no_numPart (ty := 105) (by decide) (.agg #[.int .i64 op, .int .i64 a, .int .i64 n, .string s, .slice sp sl sc, .slice p len cap]) w1
      have htb := no_symPart (ty := 105) (by decide) (.agg #[.int .i64 op, .int .i64 a, .int .i64 n, .string s, .slice sp sl sc, .slice p len cap]) w1
      have htc := no_listPart (ty := 105) (by decide) (.agg #[.int .i64 op, .int .i64 a, .int .i64 n, .string s, .slice sp sl sc, .slice p len cap]) w1
      clear h1 h2 h3 HRA
      go_wp2_with fail
      go_ret
      exact ⟨ret_bool HR2.out.symm, HB1.out⟩
end Go.Proofs.Ytoifhaakieigcaa
