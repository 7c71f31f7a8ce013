/- (*blockLook).numberOk and .kidCountOk. Conditions: the table reads as its text lays it; the block is one of the list. -/
import Derived.Test.YtmobpjokmngdgaaDoorImplBlk0
namespace Go.Proofs.YtmobpjokmngdgaaDoor
open Go.ChangeShapes Go.WideShapes Go.ChangeAt Go.RowKit

/-- Block K is a look. -/
def Look (w : World) (K : Nat) (lv : Value) (at_ : Nat) (left : Int) : Prop := w.heap[K]? = some (.cells #[lv, .int .i64 at_, .int .i64 left] 45 (0, 0))
theorem Look.below {w w' : World} {K : Nat} {lv : Value} {at_ : Nat} {left : Int} (h : Look w K lv at_ left) (hb : Below w.heap.size w w') : Look w' K lv at_ left := (hb.block _ (Array.getElem?_eq_some_iff.1 h).1).trans h
theorem Look.cells {w : World} {K : Nat} {lv : Value} {at_ : Nat} {left : Int} (h : Look w K lv at_ left) :
    w.cell? ⟨K, 0, none⟩ = some lv ∧ w.cell? ⟨K, 1, none⟩ = some (.int .i64 at_) ∧ w.cell? ⟨K, 2, none⟩ = some (.int .i64 left) :=
  ⟨cell_of_row w K 0 _ _ _ h, cell_of_row w K 1 _ _ _ h, cell_of_row w K 2 _ _ _ h⟩

set_option maxRecDepth 100000 in
set_option maxHeartbeats 4000000 in
theorem number_ok (nb : Nat) (kb : Nat → Kb) (at_ : Nat) (hat : at_ < nb) (op n : Int) (deep : Nat) (w : World) (K : Nat) (lv v : Value) (left : Int) (p : Option Addr) (len cap : Nat) (hv : v = .slice p len cap) (hlv : Kl w nb kb lv) (hK : Look w K lv at_ left) :
    Calls Tryd.prog 21 #[.pointer (some ⟨K, 0, none⟩), .agg #[.int .i64 op, .int .i64 n, v], .int .i64 deep] w fun e w' => e = .returned (.bool (numJ nb kb at_ op n deep)) ∧ Below w.heap.size w w' := by
  obtain ⟨pl, cl, el, hll, hal⟩ := hlv.at
  obtain ⟨W, hW⟩ : ∃ W, W = w.alloc (.cells #[.int .i64 op, .int .i64 n, v] 37) := ⟨_, rfl⟩
  obtain ⟨TB, hTB⟩ : ∃ TB, TB = w.heap.size := ⟨_, rfl⟩
  have nb1 : Below w.heap.size w W := by rw [hW]; exact newb w _
  have HBL : Hid (Below w.heap.size w W) := nb1
  have hbx : W.heap[TB]? = some (.cells #[.int .i64 op, .int .i64 n, v] 37 (0, 0)) := by rw [hW, hTB]; exact heap_alloc_new w _
  have q0 : W.cell? ⟨TB, 0, none⟩ = some (.int .i64 op) := cell_of_row W TB 0 _ _ _ hbx
  have q1 : W.cell? ⟨TB, 1, none⟩ = some (.int .i64 n) := cell_of_row W TB 1 _ _ _ hbx
  obtain ⟨k0, k1, -⟩ := (hK.below nb1).cells
  have HL : Hid (∀ i, i < nb → ∃ b o, pl = some ⟨b, o, none⟩ ∧ W.cell? ⟨b, o + i * 4, none⟩ = some (.int .i64 (kb i).fr)) := fun i hi => by
    obtain ⟨b, o, u, hp, hd, -⟩ := hal i hi
    exact ⟨b, o, hp, (hd.below nb1).c0⟩
  have HWW : Hid (W = w.alloc (.cells #[.int .i64 op, .int .i64 n, v] 37) ∧ TB = w.heap.size) := ⟨hW, hTB⟩
  have HNJ : Hid (∀ R, numJ nb kb at_ op n deep = R → (Ending.returned (.bool (numJ nb kb at_ op n deep)) = .returned (.bool R))) := fun R h => by rw [h]
  clear hW hTB hbx hal hlv hK nb1
  unfold maxLen at hll
  subst hv el
  have HW : Hid (∀ w, Calls Tryd.prog 26 #[.int .i64 n] w fun e w' => e = .returned (.bool (wokB n)) ∧ w' = w) := fun w => impl_wordOk n w
  obtain ⟨R, hR⟩ : ∃ R, numJ nb kb at_ op n deep = R := ⟨_, rfl⟩
  rw [hR]
  have HR : Hid (R = numJ nb kb at_ op n deep) := hR.symm
  clear hR HNJ
  by_cases h1 : op = 1
  · subst h1
    have HR2 : Hid (R = wokB n) := HR.out
    go_enter Tryd.func21, Tryd.ntmps21
    go_upto_region 1 with fail
    rw [← HWW.out.1, ← HWW.out.2]
    go_wp2_with (go_at_call 26; refine (HW.out _).mono ?_; rintro e w1 ⟨rfl, rfl⟩)
    go_ret
    exact ⟨by rw [HR2.out]; rfl, HBL.out⟩
  by_cases h18 : op = 18
  · subst h18
    have HR2 : Hid (R = wokB n) := HR.out
    go_enter Tryd.func21, Tryd.ntmps21
    go_upto_region 1 with fail
    rw [← HWW.out.1, ← HWW.out.2]
    go_wp2_with (go_at_call 26; refine (HW.out _).mono ?_; rintro e w1 ⟨rfl, rfl⟩)
    go_ret
    exact ⟨by rw [HR2.out]; rfl, HBL.out⟩
  by_cases h2 : op = 2
  · subst h2
    have HR2 : Hid (R = (decide (0 ≤ n) && decide (n < (deep : Int)))) := HR.out
    by_cases c1 : 0 ≤ n
    · rw [decide_eq_true c1, Bool.true_and] at HR2
      clear HR
      go_enter Tryd.func21, Tryd.ntmps21
      go_upto_region 1 with fail
      rw [← HWW.out.1, ← HWW.out.2]
      go_wp2_with fail
      go_ret
      exact ⟨by rw [HR2.out]; rfl, HBL.out⟩
    · rw [decide_eq_false c1, Bool.false_and] at HR2
      clear HR
      go_enter Tryd.func21, Tryd.ntmps21
      go_upto_region 1 with fail
      rw [← HWW.out.1, ← HWW.out.2]
      go_wp2_with fail
      go_ret
      exact ⟨by rw [HR2.out]; rfl, HBL.out⟩
  by_cases h3 : op = 3
  · subst h3
    have HR2 : Hid (R = (decide (0 ≤ n) && decide (n < (kb at_).fr))) := HR.out
    obtain ⟨b, o, hp, c0⟩ := HL.out at_ hat
    subst hp
    generalize (kb at_).fr = F at *
    by_cases c1 : 0 ≤ n
    · rw [decide_eq_true c1, Bool.true_and] at HR2
      clear HR HL
      have hone := Later.one W
      have y0 := fun x : Later W => x.cell q0
      have y1 := fun x : Later W => x.cell q1
      have y2 := fun x : Later W => x.cell k0
      have y3 := fun x : Later W => x.cell k1
      have y4 := fun x : Later W => x.cell c0
      go_enter Tryd.func21, Tryd.ntmps21
      go_upto_region 1 with fail
      rw [← HWW.out.1, ← HWW.out.2]
      go_upto_region 8 with fail
      clear q0 q1 k0 k1 c0
      refine wp_region_later (by kernel_rfl) (by kernel_rfl) ?_
      repeat (go_big_quiet_step (fail))
      refine wpQuiet_nil ?_
      rintro _ ⟨x, rfl⟩
      go_wp2_with fail
      go_ret
      exact ⟨by rw [HR2.out]; rfl, HBL.out.trans (x.le.mono HBL.out.size)⟩
    · rw [decide_eq_false c1, Bool.false_and] at HR2
      clear HR HL
      have hone := Later.one W
      have y0 := fun x : Later W => x.cell q0
      have y1 := fun x : Later W => x.cell q1
      have y2 := fun x : Later W => x.cell k0
      have y3 := fun x : Later W => x.cell k1
      have y4 := fun x : Later W => x.cell c0
      go_enter Tryd.func21, Tryd.ntmps21
      go_upto_region 1 with fail
      rw [← HWW.out.1, ← HWW.out.2]
      go_upto_region 8 with fail
      clear q0 q1 k0 k1 c0
      refine wp_region_later (by kernel_rfl) (by kernel_rfl) ?_
      repeat (go_big_quiet_step (fail))
      refine wpQuiet_nil ?_
      rintro _ ⟨x, rfl⟩
      go_wp2_with fail
      go_ret
      exact ⟨by rw [HR2.out]; rfl, HBL.out.trans (x.le.mono HBL.out.size)⟩
  by_cases h4 : op = 4
  · subst h4
    have HR2 : Hid (R = ((n == 0) && !((at_ : Int) == 0))) := HR.out
    cases hn : (n == 0) <;> cases ha : ((at_ : Int) == 0)
    all_goals
      rw [hn, ha] at HR2
      have han := congrArg not ha
      have han2 : ((at_ : Int) != 0) = _ := han
      clear HR han
      go_enter Tryd.func21, Tryd.ntmps21
      go_upto_region 1 with fail
      rw [← HWW.out.1, ← HWW.out.2]
      go_wp2_with fail
      go_ret
      exact ⟨by rw [HR2.out]; rfl, HBL.out⟩
  by_cases h5 : op = 5
  · subst h5
    have HR2 : Hid (R = (decide (1 ≤ n) && decide (n < (nb : Int)))) := HR.out
    by_cases c1 : 1 ≤ n
    · rw [decide_eq_true c1, Bool.true_and] at HR2
      clear HR HL
      have hone := Later.one W
      have y0 := fun x : Later W => x.cell q0
      have y1 := fun x : Later W => x.cell q1
      have y2 := fun x : Later W => x.cell k0
      have y3 := fun x : Later W => x.cell k1
      go_enter Tryd.func21, Tryd.ntmps21
      go_upto_region 1 with fail
      rw [← HWW.out.1, ← HWW.out.2]
      go_upto_region 12 with fail
      clear q0 q1 k0 k1
      refine wp_region_later (by kernel_rfl) (by kernel_rfl) ?_
      repeat (go_big_quiet_step (fail))
      refine wpQuiet_nil ?_
      rintro _ ⟨x, rfl⟩
      go_wp2_with fail
      go_ret
      exact ⟨by rw [HR2.out]; rfl, HBL.out.trans (x.le.mono HBL.out.size)⟩
    · rw [decide_eq_false c1, Bool.false_and] at HR2
      clear HR HL
      have hone := Later.one W
      have y0 := fun x : Later W => x.cell q0
      have y1 := fun x : Later W => x.cell q1
      have y2 := fun x : Later W => x.cell k0
      have y3 := fun x : Later W => x.cell k1
      go_enter Tryd.func21, Tryd.ntmps21
      go_upto_region 1 with fail
      rw [← HWW.out.1, ← HWW.out.2]
      go_upto_region 12 with fail
      clear q0 q1 k0 k1
      refine wp_region_later (by kernel_rfl) (by kernel_rfl) ?_
      repeat (go_big_quiet_step (fail))
      refine wpQuiet_nil ?_
      rintro _ ⟨x, rfl⟩
      go_wp2_with fail
      go_ret
      exact ⟨by rw [HR2.out]; rfl, HBL.out.trans (x.le.mono HBL.out.size)⟩
  by_cases h14 : op = 14
  · subst h14
    have HR2 : Hid (R = (decide (0 ≤ n) && wokB n)) := HR.out
    by_cases c1 : 0 ≤ n
    · rw [decide_eq_true c1, Bool.true_and] at HR2
      clear HR
      go_enter Tryd.func21, Tryd.ntmps21
      go_upto_region 1 with fail
      rw [← HWW.out.1, ← HWW.out.2]
      go_wp2_with (go_at_call 26; refine (HW.out _).mono ?_; rintro e w1 ⟨rfl, rfl⟩)
      go_ret
      exact ⟨by rw [HR2.out]; rfl, HBL.out⟩
    · rw [decide_eq_false c1, Bool.false_and] at HR2
      clear HR
      go_enter Tryd.func21, Tryd.ntmps21
      go_upto_region 1 with fail
      rw [← HWW.out.1, ← HWW.out.2]
      go_wp2_with fail
      go_ret
      exact ⟨by rw [HR2.out]; rfl, HBL.out⟩
  by_cases h16 : op = 16
  · subst h16
    have HR2 : Hid (R = (decide (0 ≤ n) && wokB n)) := HR.out
    by_cases c1 : 0 ≤ n
    · rw [decide_eq_true c1, Bool.true_and] at HR2
      clear HR
      go_enter Tryd.func21, Tryd.ntmps21
      go_upto_region 1 with fail
      rw [← HWW.out.1, ← HWW.out.2]
      go_wp2_with (go_at_call 26; refine (HW.out _).mono ?_; rintro e w1 ⟨rfl, rfl⟩)
      go_ret
      exact ⟨by rw [HR2.out]; rfl, HBL.out⟩
    · rw [decide_eq_false c1, Bool.false_and] at HR2
      clear HR
      go_enter Tryd.func21, Tryd.ntmps21
      go_upto_region 1 with fail
      rw [← HWW.out.1, ← HWW.out.2]
      go_wp2_with fail
      go_ret
      exact ⟨by rw [HR2.out]; rfl, HBL.out⟩
  by_cases h17 : op = 17
  · subst h17
    have HR2 : Hid (R = (decide (0 ≤ n) && wokB n)) := HR.out
    by_cases c1 : 0 ≤ n
    · rw [decide_eq_true c1, Bool.true_and] at HR2
      clear HR
      go_enter Tryd.func21, Tryd.ntmps21
      go_upto_region 1 with fail
      rw [← HWW.out.1, ← HWW.out.2]
      go_wp2_with (go_at_call 26; refine (HW.out _).mono ?_; rintro e w1 ⟨rfl, rfl⟩)
      go_ret
      exact ⟨by rw [HR2.out]; rfl, HBL.out⟩
    · rw [decide_eq_false c1, Bool.false_and] at HR2
      clear HR
      go_enter Tryd.func21, Tryd.ntmps21
      go_upto_region 1 with fail
      rw [← HWW.out.1, ← HWW.out.2]
      go_wp2_with fail
      go_ret
      exact ⟨by rw [HR2.out]; rfl, HBL.out⟩
  have HR2 : Hid (R = (n == 0)) := HR.out.trans (by unfold numJ; rw [if_neg (by omega), if_neg (by omega), if_neg (by omega), if_neg (by omega), if_neg (by omega), if_neg (by omega)])
  have g1 : (op == 1) = false := by simpa using h1
  have g18 : (op == 18) = false := by simpa using h18
  have g2 : (op == 2) = false := by simpa using h2
  have g3 : (op == 3) = false := by simpa using h3
  have g4 : (op == 4) = false := by simpa using h4
  have g5 : (op == 5) = false := by simpa using h5
  have g14 : (op == 14) = false := by simpa using h14
  have g16 : (op == 16) = false := by simpa using h16
  have g17 : (op == 17) = false := by simpa using h17
  clear HR
  go_enter Tryd.func21, Tryd.ntmps21
  go_upto_region 1 with fail
  rw [← HWW.out.1, ← HWW.out.2]
  go_wp2_with fail
  go_ret
  exact ⟨by rw [HR2.out]; rfl, HBL.out⟩
end Go.Proofs.YtmobpjokmngdgaaDoor
