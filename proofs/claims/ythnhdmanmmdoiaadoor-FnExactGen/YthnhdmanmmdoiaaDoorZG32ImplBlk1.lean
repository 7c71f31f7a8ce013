/- The program's table of kids, (*blockLook).numberOk and .kidCountOk. Conditions: the table reads as its text lays it; the block is one of the list. -/
import Derived.Test.YthnhdmanmmdoiaaDoorRows
import Derived.Test.YthnhdmanmmdoiaaDoorZG12GenP
import Derived.Test.YthnhdmanmmdoiaaDoorZG0Dat
import Derived.Test.YthnhdmanmmdoiaaDoorZG20SpecBlk1
import Derived.Test.YthnhdmanmmdoiaaDoorZG3IrRows
import Derived.Deep.Cut
import Derived.Deep.CutRange
namespace Go.Proofs.YthnhdmanmmdoiaaDoor
open Go.ChangeShapes Go.WideShapes Go.ChangeAt Go.RowKit

def kidTab : List Int := [0, 0, 0, 0, 0, 0, 2, 2, 3, 2, 2, 2, 2, 2, 0, 1, 1, 3, 3, 0]
/-- The table lies as its text has it. -/
def KidTab (w : World) : Prop := ∀ i : Nat, i < 20 → w.cell? ⟨0, i, none⟩ = some (.int .i64 (kidTab.getD i 0))
theorem KidTab.below {w w' : World} (h : KidTab w) (hb : Below w.heap.size w w') : KidTab w' := fun i hi => keeps hb _ _ (h i hi)
theorem gKid : Tryd.prog.globalNamed "loop.example/g00396/impl.irKidCounts" = some 0 := by kernel_rfl
theorem kidTab_of_head {W : World} {rest : List (String × DataW Unit)} (h : laidMet Tryd.prog (("loop.example/g00396/impl.irKidCounts", Lib.tabData .i64 kidTab) :: rest) W) : KidTab W := fun i hi =>
  (Lib.tabIs_of_head (zs := kidTab) gKid (t := 96) (e := 3) (n := 20) (by kernel_rfl) (by kernel_rfl) (by kernel_rfl) (by kernel_rfl) (by kernel_rfl) h).cell gKid i hi

/-- What numberOk asks. -/
def numJ (nb : Nat) (kb : Nat → Kb) (at_ : Nat) (op n : Int) (deep : Nat) : Bool :=
  if op = 1 ∨ op = 18 then wokB n
  else if op = 2 then decide (0 ≤ n) && decide (n < (deep : Int))
  else if op = 3 then decide (0 ≤ n) && decide (n < (kb at_).fr)
  else if op = 4 then (n == 0) && !((at_ : Int) == 0)
  else if op = 5 then decide (1 ≤ n) && decide (n < (nb : Int))
  else if op = 14 ∨ op = 16 ∨ op = 17 then decide (0 ≤ n) && wokB n
  else (n == 0)
/-- What kidCountOk asks. -/
def kidJ (kb : Nat → Kb) (op n : Int) (len : Nat) : Bool :=
  if op = 14 then true else if op = 5 then ((len : Int) == (kb n.toNat).fr) else ((len : Int) == kidTab.getD op.toNat 0)

theorem op_cases {op : Int} (h : opB op = true) : ∃ i : Nat, op = i ∧ 1 ≤ i ∧ i ≤ 19 := by
  unfold opB at h
  simp only [Bool.and_eq_true, decide_eq_true_eq] at h
  exact ⟨op.toNat, by omega, by omega, by omega⟩
theorem tab_kids : ∀ i : Nat, 1 ≤ i → i ≤ 19 → i ≠ 5 → i ≠ 14 → kidTab.getD i 0 = kidsI i ∧ 0 ≤ kidsI i
  | 1, _, _, _, _ => by decide
  | 2, _, _, _, _ => by decide
  | 3, _, _, _, _ => by decide
  | 4, _, _, _, _ => by decide
  | 6, _, _, _, _ => by decide
  | 7, _, _, _, _ => by decide
  | 8, _, _, _, _ => by decide
  | 9, _, _, _, _ => by decide
  | 10, _, _, _, _ => by decide
  | 11, _, _, _, _ => by decide
  | 12, _, _, _, _ => by decide
  | 13, _, _, _, _ => by decide
  | 15, _, _, _, _ => by decide
  | 16, _, _, _, _ => by decide
  | 17, _, _, _, _ => by decide
  | 18, _, _, _, _ => by decide
  | 19, _, _, _, _ => by decide
  | 0, h, _, _, _ => absurd h (by omega)
  | 5, _, _, h, _ => absurd rfl h
  | 14, _, _, _, h => absurd rfl h
  | n + 20, _, h, _, _ => absurd h (by omega)

/-- Both ask the same. -/
theorem num_kid {nb : Nat} {kb : Nat → Kb} {at_ : Nat} {op n : Int} {len deep : Nat} (h : opB op = true) : (cntB op len && numI nb kb at_ op n len deep) = (numJ nb kb at_ op n deep && kidJ kb op n len) := by
  obtain ⟨i, rfl, h1, h2⟩ := op_cases h
  have hc : (i : Int) ≠ 5 → (i : Int) ≠ 14 → cntB i len = kidJ kb i n len := by
    intro h5 h14
    obtain ⟨e1, e2⟩ := tab_kids i h1 h2 (by omega) (by omega)
    unfold cntB kidJ
    rw [if_neg h14, if_neg h5, decide_eq_true e2, Int.toNat_natCast, e1]; rfl
  by_cases h5 : (i : Int) = 5
  · rw [h5]
    have e : cntB 5 len = true := rfl
    have e2 : numJ nb kb at_ 5 n deep = (decide (1 ≤ n) && decide (n < (nb : Int))) := rfl
    have e3 : kidJ kb 5 n len = ((len : Int) == (kb n.toNat).fr) := rfl
    rw [e, num_clos, e2, e3, Bool.true_and]
    congr 2
    exact decide_eq_decide.2 (by omega)
  by_cases h14 : (i : Int) = 14
  · rw [h14]
    have e : cntB 14 len = true := rfl
    have e2 : numJ nb kb at_ 14 n deep = (decide (0 ≤ n) && wokB n) := rfl
    have e3 : kidJ kb 14 n len = true := rfl
    rw [e, num_con (by omega), e2, e3, Bool.true_and, Bool.and_true]
    unfold wokB
    rw [Bool.eq_iff_iff]
    simp only [Bool.and_eq_true, decide_eq_true_eq]
    omega
  rw [hc h5 h14, Bool.and_comm]
  congr 1
  unfold numI numJ
  by_cases c1 : (i : Int) = 1 ∨ (i : Int) = 18
  · rw [if_pos c1, if_pos c1]
  rw [if_neg c1, if_neg c1]
  by_cases c2 : (i : Int) = 2
  · rw [if_pos c2, if_pos c2]; congr 1; exact decide_eq_decide.2 (by omega)
  rw [if_neg c2, if_neg c2]
  by_cases c3 : (i : Int) = 3
  · rw [if_pos c3, if_pos c3]; congr 1; exact decide_eq_decide.2 (by omega)
  rw [if_neg c3, if_neg c3]
  by_cases c4 : (i : Int) = 4
  · rw [if_pos c4, if_pos c4]; congr 1
    by_cases ha : at_ = 0
    · subst ha; rfl
    · rw [decide_eq_true (by omega)]
      have : ((at_ : Int) == 0) = false := by simp; omega
      rw [this]; rfl
  rw [if_neg c4, if_neg c4, if_neg h5, if_neg h5]
  by_cases c6 : (i : Int) = 14 ∨ (i : Int) = 16 ∨ (i : Int) = 17
  · rw [if_pos c6, if_pos c6]
    unfold wokB
    rw [Bool.eq_iff_iff]
    simp only [Bool.and_eq_true, decide_eq_true_eq]
    omega
  rw [if_neg c6, if_neg c6]
end Go.Proofs.YthnhdmanmmdoiaaDoor

/- (*blockLook).numberOk and .kidCountOk. Conditions: the table reads as its text lays it; the block is one of the list. -/
namespace Go.Proofs.YthnhdmanmmdoiaaDoor
open Go.ChangeShapes Go.WideShapes Go.ChangeAt Go.RowKit

/-- Block K is a look. -/
def Look (w : World) (K : Nat) (lv : Value) (at_ : Nat) (left : Int) : Prop := w.heap[K]? = some (.cells #[lv, .int .i64 at_, .int .i64 left] 72 (0, 0))
theorem Look.below {w w' : World} {K : Nat} {lv : Value} {at_ : Nat} {left : Int} (h : Look w K lv at_ left) (hb : Below w.heap.size w w') : Look w' K lv at_ left := (hb.block _ (Array.getElem?_eq_some_iff.1 h).1).trans h
theorem Look.cells {w : World} {K : Nat} {lv : Value} {at_ : Nat} {left : Int} (h : Look w K lv at_ left) :
    w.cell? ⟨K, 0, none⟩ = some lv ∧ w.cell? ⟨K, 1, none⟩ = some (.int .i64 at_) ∧ w.cell? ⟨K, 2, none⟩ = some (.int .i64 left) :=
  ⟨cell_of_row w K 0 _ _ _ h, cell_of_row w K 1 _ _ _ h, cell_of_row w K 2 _ _ _ h⟩

set_option maxRecDepth 100000 in
set_option maxHeartbeats 4000000 in
theorem number_ok (nb : Nat) (kb : Nat → Kb) (at_ : Nat) (hat : at_ < nb) (op n : Int) (deep : Nat) (w : World) (K : Nat) (lv v : Value) (left : Int) (p : Option Addr) (len cap : Nat) (hv : v = .slice p len cap) (hlv : Kl w nb kb lv) (hK : Look w K lv at_ left) :
    Calls Tryd.prog 47 #[.pointer (some ⟨K, 0, none⟩), .agg #[.int .i64 op, .int .i64 n, v], .int .i64 deep] w fun e w' => e = .returned (.bool (numJ nb kb at_ op n deep)) ∧ Below w.heap.size w w' := by
  obtain ⟨pl, cl, el, hll, hal⟩ := hlv.at
  obtain ⟨W, hW⟩ : ∃ W, W = w.alloc (.cells #[.int .i64 op, .int .i64 n, v] 48) := ⟨_, rfl⟩
  obtain ⟨TB, hTB⟩ : ∃ TB, TB = w.heap.size := ⟨_, rfl⟩
  have nb1 : Below w.heap.size w W := by rw [hW]; exact newb w _
  have HBL : Hid (Below w.heap.size w W) := nb1
  have hbx : W.heap[TB]? = some (.cells #[.int .i64 op, .int .i64 n, v] 48 (0, 0)) := by rw [hW, hTB]; exact heap_alloc_new w _
  have q0 : W.cell? ⟨TB, 0, none⟩ = some (.int .i64 op) := cell_of_row W TB 0 _ _ _ hbx
  have q1 : W.cell? ⟨TB, 1, none⟩ = some (.int .i64 n) := cell_of_row W TB 1 _ _ _ hbx
  obtain ⟨k0, k1, -⟩ := (hK.below nb1).cells
  have HL : Hid (∀ i, i < nb → ∃ b o, pl = some ⟨b, o, none⟩ ∧ W.cell? ⟨b, o + i * 4, none⟩ = some (.int .i64 (kb i).fr)) := fun i hi => by
    obtain ⟨b, o, u, hp, hd, -⟩ := hal i hi
    exact ⟨b, o, hp, (hd.below nb1).c0⟩
  have HWW : Hid (W = w.alloc (.cells #[.int .i64 op, .int .i64 n, v] 48) ∧ TB = w.heap.size) := ⟨hW, hTB⟩
  have HNJ : Hid (∀ R, numJ nb kb at_ op n deep = R → (Ending.returned (.bool (numJ nb kb at_ op n deep)) = .returned (.bool R))) := fun R h => by rw [h]
  clear hW hTB hbx hal hlv hK nb1
  unfold maxLen at hll
  subst hv el
  have HW : Hid (∀ w, Calls Tryd.prog 56 #[.int .i64 n] w fun e w' => e = .returned (.bool (wokB n)) ∧ w' = w) := fun w => impl_wordOk n w
  obtain ⟨R, hR⟩ : ∃ R, numJ nb kb at_ op n deep = R := ⟨_, rfl⟩
  rw [hR]
  have HR : Hid (R = numJ nb kb at_ op n deep) := hR.symm
  clear hR HNJ
  by_cases h1 : op = 1
  · subst h1
    have HR2 : Hid (R = wokB n) := HR.out
    go_enter Tryd.func47, Tryd.ntmps47
    go_upto_region 1 with fail
    rw [← HWW.out.1, ← HWW.out.2]
    go_wp2_with (go_at_call 56; refine (HW.out _).mono ?_; rintro e w1 ⟨rfl, rfl⟩)
    go_ret
    exact ⟨by rw [HR2.out]; rfl, HBL.out⟩
  by_cases h18 : op = 18
  · subst h18
    have HR2 : Hid (R = wokB n) := HR.out
    go_enter Tryd.func47, Tryd.ntmps47
    go_upto_region 1 with fail
    rw [← HWW.out.1, ← HWW.out.2]
    go_wp2_with (go_at_call 56; refine (HW.out _).mono ?_; rintro e w1 ⟨rfl, rfl⟩)
    go_ret
    exact ⟨by rw [HR2.out]; rfl, HBL.out⟩
  by_cases h2 : op = 2
  · subst h2
    have HR2 : Hid (R = (decide (0 ≤ n) && decide (n < (deep : Int)))) := HR.out
    by_cases c1 : 0 ≤ n
    · rw [decide_eq_true c1, Bool.true_and] at HR2
      clear HR
      go_enter Tryd.func47, Tryd.ntmps47
      go_upto_region 1 with fail
      rw [← HWW.out.1, ← HWW.out.2]
      go_wp2_with fail
      go_ret
      exact ⟨by rw [HR2.out]; rfl, HBL.out⟩
    · rw [decide_eq_false c1, Bool.false_and] at HR2
      clear HR
      go_enter Tryd.func47, Tryd.ntmps47
      go_upto_region 1 with fail
      rw [← HWW.out.1, ← HWW.out.2]
      go_wp2_with fail
      go_ret
      exact ⟨by rw [HR2.out]; rfl, HBL.out⟩
  by_cases h3 : op = 3
  · subst h3
    have HR2 : Hid (R = (decide (0 ≤ n) && decide (n < (kb at_).fr))) := HR.out
    obtain ⟨b, o, hp, c0⟩ := HL.out at_ hat
    subst hp
    generalize (kb at_).fr = F at *
    by_cases c1 : 0 ≤ n
    · rw [decide_eq_true c1, Bool.true_and] at HR2
      clear HR HL
      have hone := Later.one W
      have y0 := fun x : Later W => x.cell q0
      have y1 := fun x : Later W => x.cell q1
      have y2 := fun x : Later W => x.cell k0
      have y3 := fun x : Later W => x.cell k1
      have y4 := fun x : Later W => x.cell c0
      go_enter Tryd.func47, Tryd.ntmps47
      go_upto_region 1 with fail
      rw [← HWW.out.1, ← HWW.out.2]
      go_upto_region 8 with fail
      clear q0 q1 k0 k1 c0
      refine wp_region_later (by kernel_rfl) (by kernel_rfl) ?_
      repeat (go_big_quiet_step (fail))
      refine wpQuiet_nil ?_
      rintro _ ⟨x, rfl⟩
      go_wp2_with fail
      go_ret
      exact ⟨by rw [HR2.out]; rfl, HBL.out.trans (x.le.mono HBL.out.size)⟩
    · rw [decide_eq_false c1, Bool.false_and] at HR2
      clear HR HL
      have hone := Later.one W
      have y0 := fun x : Later W => x.cell q0
      have y1 := fun x : Later W => x.cell q1
      have y2 := fun x : Later W => x.cell k0
      have y3 := fun x : Later W => x.cell k1
      have y4 := fun x : Later W => x.cell c0
      go_enter Tryd.func47, Tryd.ntmps47
      go_upto_region 1 with fail
      rw [← HWW.out.1, ← HWW.out.2]
      go_upto_region 8 with fail
      clear q0 q1 k0 k1 c0
      refine wp_region_later (by kernel_rfl) (by kernel_rfl) ?_
      repeat (go_big_quiet_step (fail))
      refine wpQuiet_nil ?_
      rintro _ ⟨x, rfl⟩
      go_wp2_with fail
      go_ret
      exact ⟨by rw [HR2.out]; rfl, HBL.out.trans (x.le.mono HBL.out.size)⟩
  by_cases h4 : op = 4
  · subst h4
    have HR2 : Hid (R = ((n == 0) && !((at_ : Int) == 0))) := HR.out
    cases hn : (n == 0) <;> cases ha : ((at_ : Int) == 0)
    all_goals
      rw [hn, ha] at HR2
      have han := congrArg not ha
      have han2 : ((at_ : Int) != 0) = _ := han
      clear HR han
      go_enter Tryd.func47, Tryd.ntmps47
      go_upto_region 1 with fail
      rw [← HWW.out.1, ← HWW.out.2]
      go_wp2_with fail
      go_ret
      exact ⟨by rw [HR2.out]; rfl, HBL.out⟩
  by_cases h5 : op = 5
  · subst h5
    have HR2 : Hid (R = (decide (1 ≤ n) && decide (n < (nb : Int)))) := HR.out
    by_cases c1 : 1 ≤ n
    · rw [decide_eq_true c1, Bool.true_and] at HR2
      clear HR HL
      have hone := Later.one W
      have y0 := fun x : Later W => x.cell q0
      have y1 := fun x : Later W => x.cell q1
      have y2 := fun x : Later W => x.cell k0
      have y3 := fun x : Later W => x.cell k1
      go_enter Tryd.func47, Tryd.ntmps47
      go_upto_region 1 with fail
      rw [← HWW.out.1, ← HWW.out.2]
      go_upto_region 12 with fail
      clear q0 q1 k0 k1
      refine wp_region_later (by kernel_rfl) (by kernel_rfl) ?_
      repeat (go_big_quiet_step (fail))
      refine wpQuiet_nil ?_
      rintro _ ⟨x, rfl⟩
      go_wp2_with fail
      go_ret
      exact ⟨by rw [HR2.out]; rfl, HBL.out.trans (x.le.mono HBL.out.size)⟩
    · rw [decide_eq_false c1, Bool.false_and] at HR2
      clear HR HL
      have hone := Later.one W
      have y0 := fun x : Later W => x.cell q0
      have y1 := fun x : Later W => x.cell q1
      have y2 := fun x : Later W => x.cell k0
      have y3 := fun x : Later W => x.cell k1
      go_enter Tryd.func47, Tryd.ntmps47
      go_upto_region 1 with fail
      rw [← HWW.out.1, ← HWW.out.2]
      go_upto_region 12 with fail
      clear q0 q1 k0 k1
      refine wp_region_later (by kernel_rfl) (by kernel_rfl) ?_
      repeat (go_big_quiet_step (fail))
      refine wpQuiet_nil ?_
      rintro _ ⟨x, rfl⟩
      go_wp2_with fail
      go_ret
      exact ⟨by rw [HR2.out]; rfl, HBL.out.trans (x.le.mono HBL.out.size)⟩
  by_cases h14 : op = 14
  · subst h14
    have HR2 : Hid (R = (decide (0 ≤ n) && wokB n)) := HR.out
    by_cases c1 : 0 ≤ n
    · rw [decide_eq_true c1, Bool.true_and] at HR2
      clear HR
      go_enter Tryd.func47, Tryd.ntmps47
      go_upto_region 1 with fail
      rw [← HWW.out.1, ← HWW.out.2]
      go_wp2_with (go_at_call 56; refine (HW.out _).mono ?_; rintro e w1 ⟨rfl, rfl⟩)
      go_ret
      exact ⟨by rw [HR2.out]; rfl, HBL.out⟩
    · rw [decide_eq_false c1, Bool.false_and] at HR2
      clear HR
      go_enter Tryd.func47, Tryd.ntmps47
      go_upto_region 1 with fail
      rw [← HWW.out.1, ← HWW.out.2]
      go_wp2_with fail
      go_ret
      exact ⟨by rw [HR2.out]; rfl, HBL.out⟩
  by_cases h16 : op = 16
  · subst h16
    have HR2 : Hid (R = (decide (0 ≤ n) && wokB n)) := HR.out
    by_cases c1 : 0 ≤ n
    · rw [decide_eq_true c1, Bool.true_and] at HR2
      clear HR
      go_enter Tryd.func47, Tryd.ntmps47
      go_upto_region 1 with fail
      rw [← HWW.out.1, ← HWW.out.2]
      go_wp2_with (go_at_call 56; refine (HW.out _).mono ?_; rintro e w1 ⟨rfl, rfl⟩)
      go_ret
      exact ⟨by rw [HR2.out]; rfl, HBL.out⟩
    · rw [decide_eq_false c1, Bool.false_and] at HR2
      clear HR
      go_enter Tryd.func47, Tryd.ntmps47
      go_upto_region 1 with fail
      rw [← HWW.out.1, ← HWW.out.2]
      go_wp2_with fail
      go_ret
      exact ⟨by rw [HR2.out]; rfl, HBL.out⟩
  by_cases h17 : op = 17
  · subst h17
    have HR2 : Hid (R = (decide (0 ≤ n) && wokB n)) := HR.out
    by_cases c1 : 0 ≤ n
    · rw [decide_eq_true c1, Bool.true_and] at HR2
      clear HR
      go_enter Tryd.func47, Tryd.ntmps47
      go_upto_region 1 with fail
      rw [← HWW.out.1, ← HWW.out.2]
      go_wp2_with (go_at_call 56; refine (HW.out _).mono ?_; rintro e w1 ⟨rfl, rfl⟩)
      go_ret
      exact ⟨by rw [HR2.out]; rfl, HBL.out⟩
    · rw [decide_eq_false c1, Bool.false_and] at HR2
      clear HR
      go_enter Tryd.func47, Tryd.ntmps47
      go_upto_region 1 with fail
      rw [← HWW.out.1, ← HWW.out.2]
      go_wp2_with fail
      go_ret
      exact ⟨by rw [HR2.out]; rfl, HBL.out⟩
  have HR2 : Hid (R = (n == 0)) := HR.out.trans (by unfold numJ; rw [if_neg (by omega), if_neg (by omega), if_neg (by omega), if_neg (by omega), if_neg (by omega), if_neg (by omega)])
  have g1 : (op == 1) = false := by simpa using h1
  have g18 : (op == 18) = false := by simpa using h18
  have g2 : (op == 2) = false := by simpa using h2
  have g3 : (op == 3) = false := by simpa using h3
  have g4 : (op == 4) = false := by simpa using h4
  have g5 : (op == 5) = false := by simpa using h5
  have g14 : (op == 14) = false := by simpa using h14
  have g16 : (op == 16) = false := by simpa using h16
  have g17 : (op == 17) = false := by simpa using h17
  clear HR
  go_enter Tryd.func47, Tryd.ntmps47
  go_upto_region 1 with fail
  rw [← HWW.out.1, ← HWW.out.2]
  go_wp2_with fail
  go_ret
  exact ⟨by rw [HR2.out]; rfl, HBL.out⟩
end Go.Proofs.YthnhdmanmmdoiaaDoor
