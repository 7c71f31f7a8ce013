/- impl.datFieldsOk. Condition: the text has at most 2^20 bytes. -/
import Derived.Test.YtafpbcdgcgffeabGreatDoorRows
import Derived.Test.YtafpbcdgcgffeabGreatDoorZBase
import Derived.Test.YtafpbcdgcgffeabGreatDoorZSym
import Derived.WalkKit
import Derived.ProofKit
namespace Go.Proofs.YtafpbcdgcgffeabGreatDoor
open Go.ChangeShapes Go.WideShapes Go.ChangeAt Go.RowKit

set_option maxRecDepth 100000 in
set_option maxHeartbeats 8000000 in
theorem fields_ok (t : D) (w : World) (p : Option Addr) (cap : Nat) (hs : t.s.size ≤ 1048576) :
    Calls Tryz.prog 28 #[.agg #[.int .i64 t.op, .int .i64 t.at_, .int .i64 t.n, .string t.s, .slice p t.len cap]] w fun e w' => e = .returned (.bool (fieldsB t)) ∧ Below w.heap.size w w' := by
  have HW : Hid (∀ w, Calls Tryz.prog 48 #[.int .i64 t.n] w fun e w' => e = .returned (.bool (wokB t.n)) ∧ w' = w) := fun w => impl_wordOk t.n w
  have HS : Hid (∀ w, Calls Tryz.prog 49 #[.string t.s] w fun e w' => e = .returned (.bool (symB t.s.data.toList)) ∧ Below w.heap.size w w') := fun w => impl_sym t.s hs w
  have HR : Hid (fieldsB t = fB t.at_ t.op (wokB t.n) (symB t.s.data.toList) (t.s.toList == []) (t.n == 0) ((t.len : Int) == 0)) := rfl
  generalize fieldsB t = R at *
  generalize symB t.s.data.toList = sb at *
  generalize wokB t.n = wb at *
  generalize t.op = op at *
  generalize t.at_ = a at *
  generalize t.n = n at *
  generalize t.s = s at *
  generalize t.len = len at *
  have HB : Hid (∀ o1, Below w.heap.size w (w.alloc o1)) := fun o1 => newb w _
  have HBB : Hid (∀ o1 w2, Below (w.alloc o1).heap.size (w.alloc o1) w2 → Below w.heap.size w w2) := fun o1 w2 h => (newb w _).trans (h.mono (newb w _).size)
  clear hs
  cases he : (s.toList == ([] : List UInt8)) <;> cases hn : (n == 0) <;> cases hl : ((len : Int) == 0)
  all_goals
    rw [he, hn, hl] at HR
    rcases Int.lt_or_le a 0 with ha | ha
    · have HR2 : Hid (R = false) := HR.out.trans (by unfold fB; rw [decide_eq_false (by omega)]; rfl)
      clear HR
      go_enter Tryz.func28, Tryz.ntmps28
      go_wp2_with fail
      go_ret
      exact ⟨ret_bool HR2.out.symm, HB.out _⟩
    · by_cases h1 : op = 1
      · subst h1
        cases wb
        all_goals
          have HR2 : Hid _ := HR.out.trans (by unfold fB; rw [decide_eq_true ha, if_pos rfl])
          clear HR
          go_enter Tryz.func28, Tryz.ntmps28
          go_wp2_with ((go_at_call 48; refine (HW.out _).mono ?_; rintro e w1 ⟨rfl, rfl⟩))
          go_ret
          exact ⟨ret_bool HR2.out.symm, HB.out _⟩
      · by_cases h2 : op = 2
        · subst h2
          cases sb
          all_goals
            have HR2 : Hid _ := HR.out.trans (by unfold fB; rw [decide_eq_true ha, if_neg (by omega), if_pos rfl])
            clear HR
            go_enter Tryz.func28, Tryz.ntmps28
            go_wp2_with fail
            refine (HS.out _).mono ?_
            rintro e w1 ⟨rfl, hb1⟩
            have HB1 : Hid (Below w.heap.size w w1) := HBB.out _ _ hb1
            have hbk := hb1.block w.heap.size (by simp)
            rw [heap_alloc_new] at hbk
            have k2 : w1.cell? ⟨w.heap.size, 2, none⟩ = some (.int .i64 n) := cell_of_row w1 _ 2 _ _ _ hbk
            have k4 : w1.cell? ⟨w.heap.size, 4, none⟩ = some (.slice p len cap) := cell_of_row w1 _ 4 _ _ _ hbk
            clear hb1 hbk
            go_wp2_with fail
            go_ret
            exact ⟨ret_bool HR2.out.symm, HB1.out⟩
        · by_cases h3 : op = 3
          · subst h3
            have HR2 : Hid _ := HR.out.trans (by unfold fB; rw [decide_eq_true ha, if_neg (by omega), if_neg (by omega), if_pos rfl])
            clear HR
            go_enter Tryz.func28, Tryz.ntmps28
            go_wp2_with fail
            go_ret
            exact ⟨ret_bool HR2.out.symm, HB.out _⟩
          · have HR2 : Hid (R = false) := HR.out.trans (by unfold fB; rw [if_neg h1, if_neg h2, if_neg h3]; simp)
            clear HR
            have g1 : (op == 1) = false := by simpa using h1
            have g2 : (op == 2) = false := by simpa using h2
            have g3 : (op == 3) = false := by simpa using h3
            go_enter Tryz.func28, Tryz.ntmps28
            go_wp2_with fail
            go_ret
            exact ⟨ret_bool HR2.out.symm, HB.out _⟩
end Go.Proofs.YtafpbcdgcgffeabGreatDoor
