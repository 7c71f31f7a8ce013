/- spec.l13Op at every op: whether it is right at function i of the list. Conditions: there is such a function, and its Free is not below 0. Written by wip/tools/mkfunok.py. -/
import Derived.Test.YthnhdmanmmdoiaaDoorZG23ImplFun1
import Derived.Test.YthnhdmanmmdoiaaDoorZG24SpecIn13
import Derived.Test.YthnhdmanmmdoiaaDoorZG20SpecBlk1
import Derived.Deep.Cut
namespace Go.Proofs.YthnhdmanmmdoiaaDoor
open Go.ChangeShapes Go.WideShapes Go.ChangeAt Go.RowKit

theorem spec_tag (n : Int) (R : Bool) (hR : R = belB n 20) (w : World) : Calls Tryd.prog 45 #[.int .i64 n] w fun e w' => e = .returned (.bool R) ∧ w' = w := by
  have HC : Hid (∀ w, Calls Tryd.prog 30 #[.int .i64 n, .int .i64 0, .int .i64 19] w fun e w' => e = .returned (.bool R) ∧ w' = w) := fun w => spec_in13 n 0 19 R (hR.trans (in_bel n 20).symm) w
  clear hR
  go_enter Tryd.func45, Tryd.ntmps45
  go_wp2_with (go_at_call 30; refine (HC.out _).mono ?_; rintro e w1 ⟨rfl, rfl⟩)
  go_ret
  exact ⟨rfl, rfl⟩

set_option maxRecDepth 100000 in
set_option maxHeartbeats 8000000 in
theorem spec_op13 (nf : Nat) (kid : Nat → Fu) (i : Nat) (hi : i < nf) (hfr : belB (kid i).fr 21 = true) (c n m : Int) (w : World) (lv : Value) (hlv : Fl w nf kid lv) :
    Calls Tryd.prog 32 #[lv, .int .i64 i, .agg #[.int .i64 c, .int .i64 n, .int .i64 m]] w fun e w' => e = .returned (.bool (opOkF nf kid i ⟨c, n, m⟩)) ∧ Below w.heap.size w w' := by
  obtain ⟨pl, cl, el, hll, hal⟩ := hlv.at
  subst el
  obtain ⟨W, hW⟩ : ∃ W, W = w.alloc (.cells #[.int .i64 c, .int .i64 n, .int .i64 m] 68) := ⟨_, rfl⟩
  obtain ⟨K, hK⟩ : ∃ K, K = w.heap.size := ⟨_, rfl⟩
  have nb1 : Below w.heap.size w W := by rw [hW]; exact newb w _
  have HBL : Hid (Below w.heap.size w W) := nb1
  have hbx : W.heap[K]? = some (.cells #[.int .i64 c, .int .i64 n, .int .i64 m] 68 (0, 0)) := by rw [hW, hK]; exact heap_alloc_new w _
  have q0 : W.cell? ⟨K, 0, none⟩ = some (.int .i64 c) := cell_of_row W K 0 _ _ _ hbx
  have q1 : W.cell? ⟨K, 1, none⟩ = some (.int .i64 n) := cell_of_row W K 1 _ _ _ hbx
  have q2 : W.cell? ⟨K, 2, none⟩ = some (.int .i64 m) := cell_of_row W K 2 _ _ _ hbx
  obtain ⟨b, o, u, hp, hd, hin⟩ := hal i hi
  obtain ⟨pu, cu, eu, hlu, -⟩ := hin.sl.at
  have HL : Hid (∀ j, j < nf → W.cell? ⟨b, o + j * 2, none⟩ = some (.int .i64 (kid j).fr)) := fun j hj => by
    obtain ⟨b2, o2, u2, hp2, hd2, -⟩ := hal j hj
    rw [hp] at hp2
    injection hp2 with hp2
    injection hp2 with e1 e2 _
    subst e1 e2
    exact (hd2.below nb1).c0
  have f0 := (hd.below nb1).c0
  have f1 := (hd.below nb1).c1
  subst eu hp
  have HWW : Hid (W = w.alloc (.cells #[.int .i64 c, .int .i64 n, .int .i64 m] 68) ∧ K = w.heap.size) := ⟨hW, hK⟩
  obtain ⟨R, hR⟩ : ∃ R, opOkF nf kid i ⟨c, n, m⟩ = R := ⟨_, rfl⟩
  rw [hR]
  have HR : Hid (R = opOkF nf kid i ⟨c, n, m⟩) := hR.symm
  have HFR : Hid (0 ≤ (kid i).fr ∧ (kid i).fr < 21) := by
    unfold belB at hfr
    show _ ∧ _
    simpa using hfr
  have hi' : (i : Int) < nf := by omega
  unfold maxLen at hll hlu
  clear hW hK hbx hal hlv nb1 hR hd hin hfr
  have hF0 := HFR.out.1
  have hF1 := HFR.out.2
  clear HFR
  by_cases h1 : c = 1
  · subst h1
    have HR1 : Hid (R = (wokB n && (m == 0))) := HR.out
    cases hb : wokB n with
    | true =>
      rw [hb, Bool.true_and] at HR1
      have HR2 : Hid (R = (m == 0)) := HR1.out
      clear HR1
      have HW : Hid (∀ w, Calls Tryd.prog 44 #[.int .i64 n] w fun e w' => e = .returned (.bool true) ∧ w' = w) := fun w => by have := spec_wordOk n w; rw [hb] at this; exact this
      clear hb
      clear HR HL
      go_enter Tryd.func32, Tryd.ntmps32
      go_upto_region 1 with fail
      rw [← HWW.out.1, ← HWW.out.2]
      go_wp2_with (go_at_call 44; refine (HW.out _).mono ?_; rintro e w1 ⟨rfl, rfl⟩)
      go_ret
      exact ⟨by rw [HR2.out]; rfl, HBL.out⟩
    | false =>
      rw [hb, Bool.false_and] at HR1
      have HR2 : Hid (R = false) := HR1.out
      clear HR1
      have HW : Hid (∀ w, Calls Tryd.prog 44 #[.int .i64 n] w fun e w' => e = .returned (.bool false) ∧ w' = w) := fun w => by have := spec_wordOk n w; rw [hb] at this; exact this
      clear hb
      clear HR HL
      go_enter Tryd.func32, Tryd.ntmps32
      go_upto_region 1 with fail
      rw [← HWW.out.1, ← HWW.out.2]
      go_wp2_with (go_at_call 44; refine (HW.out _).mono ?_; rintro e w1 ⟨rfl, rfl⟩)
      go_ret
      exact ⟨by rw [HR2.out]; rfl, HBL.out⟩
  by_cases h2 : c = 2
  · subst h2
    have HR1 : Hid (R = (belB n 3000 && (m == 0))) := HR.out
    cases hb : belB n 3000 with
    | true =>
      rw [hb, Bool.true_and] at HR1
      have HR2 : Hid (R = (m == 0)) := HR1.out
      clear HR1
      have HI : Hid (∀ w, Calls Tryd.prog 30 #[.int .i64 n, .int .i64 0, .int .i64 2999] w fun e w' => e = .returned (.bool true) ∧ w' = w) := fun w => spec_in13 n 0 2999 true (hb.symm.trans (in_bel n 3000).symm) w
      clear hb
      clear HR HL
      go_enter Tryd.func32, Tryd.ntmps32
      go_upto_region 1 with fail
      rw [← HWW.out.1, ← HWW.out.2]
      go_wp2_with (go_at_call 30; refine (HI.out _).mono ?_; rintro e w1 ⟨rfl, rfl⟩)
      go_ret
      exact ⟨by rw [HR2.out]; rfl, HBL.out⟩
    | false =>
      rw [hb, Bool.false_and] at HR1
      have HR2 : Hid (R = false) := HR1.out
      clear HR1
      have HI : Hid (∀ w, Calls Tryd.prog 30 #[.int .i64 n, .int .i64 0, .int .i64 2999] w fun e w' => e = .returned (.bool false) ∧ w' = w) := fun w => spec_in13 n 0 2999 false (hb.symm.trans (in_bel n 3000).symm) w
      clear hb
      clear HR HL
      go_enter Tryd.func32, Tryd.ntmps32
      go_upto_region 1 with fail
      rw [← HWW.out.1, ← HWW.out.2]
      go_wp2_with (go_at_call 30; refine (HI.out _).mono ?_; rintro e w1 ⟨rfl, rfl⟩)
      go_ret
      exact ⟨by rw [HR2.out]; rfl, HBL.out⟩
  by_cases h3 : c = 3
  · subst h3
    have HR1 : Hid (R = (belB n (kid i).fr && (m == 0))) := HR.out
    cases hb : belB n (kid i).fr with
    | true =>
      rw [hb, Bool.true_and] at HR1
      have HR2 : Hid (R = (m == 0)) := HR1.out
      clear HR1
      have HI : Hid (∀ w, Calls Tryd.prog 30 #[.int .i64 n, .int .i64 0, .int .i64 ((kid i).fr - 1)] w fun e w' => e = .returned (.bool true) ∧ w' = w) := fun w => spec_in13 n 0 ((kid i).fr - 1) true (hb.symm.trans (in_bel n (kid i).fr).symm) w
      clear hb HL HR
      generalize (kid i).fr = F at *
      have hone := Later.one W
      have y0 := fun x : Later W => x.cell q0
      have y1 := fun x : Later W => x.cell q1
      have y2 := fun x : Later W => x.cell q2
      have y3 := fun x : Later W => x.cell f0
      have y4 := fun x : Later W => x.cell f1
      go_enter Tryd.func32, Tryd.ntmps32
      go_upto_region 1 with fail
      rw [← HWW.out.1, ← HWW.out.2]
      go_upto_region 8 with fail
      clear q0 q1 q2 f0 f1
      refine wp_region_later (by kernel_rfl) (by kernel_rfl) ?_
      repeat (go_big_quiet_step ((go_at_call 30; refine calls_later_same (HI.out _))))
      refine wpQuiet_nil ?_
      rintro _ ⟨x, rfl⟩
      go_wp2_with fail
      go_ret
      exact ⟨by rw [HR2.out]; rfl, HBL.out.trans (x.le.mono HBL.out.size)⟩
    | false =>
      rw [hb, Bool.false_and] at HR1
      have HR2 : Hid (R = false) := HR1.out
      clear HR1
      have HI : Hid (∀ w, Calls Tryd.prog 30 #[.int .i64 n, .int .i64 0, .int .i64 ((kid i).fr - 1)] w fun e w' => e = .returned (.bool false) ∧ w' = w) := fun w => spec_in13 n 0 ((kid i).fr - 1) false (hb.symm.trans (in_bel n (kid i).fr).symm) w
      clear hb HL HR
      generalize (kid i).fr = F at *
      have hone := Later.one W
      have y0 := fun x : Later W => x.cell q0
      have y1 := fun x : Later W => x.cell q1
      have y2 := fun x : Later W => x.cell q2
      have y3 := fun x : Later W => x.cell f0
      have y4 := fun x : Later W => x.cell f1
      go_enter Tryd.func32, Tryd.ntmps32
      go_upto_region 1 with fail
      rw [← HWW.out.1, ← HWW.out.2]
      go_upto_region 8 with fail
      clear q0 q1 q2 f0 f1
      refine wp_region_later (by kernel_rfl) (by kernel_rfl) ?_
      repeat (go_big_quiet_step ((go_at_call 30; refine calls_later_same (HI.out _))))
      refine wpQuiet_nil ?_
      rintro _ ⟨x, rfl⟩
      go_wp2_with fail
      go_ret
      exact ⟨by rw [HR2.out]; rfl, HBL.out.trans (x.le.mono HBL.out.size)⟩
  by_cases h4 : c = 4
  · subst h4
    have HR1 : Hid (R = (((n == 0) && !((i : Int) == 0)) && (m == 0))) := HR.out
    by_cases ha : i = 0
    · subst ha
      have HR2 : Hid (R = false) := by show _ = _; rw [HR1.out]; simp
      clear HR1
      clear HR HL
      go_enter Tryd.func32, Tryd.ntmps32
      go_upto_region 1 with fail
      rw [← HWW.out.1, ← HWW.out.2]
      go_wp2_with fail
      go_ret
      exact ⟨by rw [HR2.out]; rfl, HBL.out⟩
    · have g0 : (0 : Int) < i := by omega
      have e0 : ((i : Int) == 0) = false := by simp; omega
      cases hb : (n == 0) with
      | true =>
        have HR2 : Hid (R = (m == 0)) := by show _ = _; rw [HR1.out, hb, e0]; simp
        clear HR1 e0
        clear HR HL
        go_enter Tryd.func32, Tryd.ntmps32
        go_upto_region 1 with fail
        rw [← HWW.out.1, ← HWW.out.2]
        go_wp2_with fail
        go_ret
        exact ⟨by rw [HR2.out]; rfl, HBL.out⟩
      | false =>
        have HR2 : Hid (R = false) := by show _ = _; rw [HR1.out, hb]; simp
        clear HR1 e0
        clear HR HL
        go_enter Tryd.func32, Tryd.ntmps32
        go_upto_region 1 with fail
        rw [← HWW.out.1, ← HWW.out.2]
        go_wp2_with fail
        go_ret
        exact ⟨by rw [HR2.out]; rfl, HBL.out⟩
  by_cases h5 : c = 5
  · subst h5
    have HR1 : Hid (R = ((!(n == 0) && belB n nf) && (m == (kid n.toNat).fr))) := HR.out
    have HE : Hid ((decide (1 ≤ n) && decide (n ≤ (nf : Int) - 1)) = (!(n == 0) && belB n nf)) := by
      show _ = _
      unfold belB
      rw [Bool.eq_iff_iff]
      simp only [Bool.and_eq_true, decide_eq_true_eq, Bool.not_eq_true', beq_eq_false_iff_ne]
      omega
    cases hb : (!(n == 0) && belB n nf) with
    | true =>
      have HI : Hid (∀ w, Calls Tryd.prog 30 #[.int .i64 n, .int .i64 1, .int .i64 ((nf : Int) - 1)] w fun e w' => e = .returned (.bool true) ∧ w' = w) := fun w => spec_in13 n 1 ((nf : Int) - 1) true (hb.symm.trans HE.out.symm) w
      rw [hb, Bool.true_and] at HR1
      have hn : 1 ≤ n ∧ n ≤ (nf : Int) - 1 := by
        have := HE.out.trans hb
        simpa using this
      obtain ⟨j, rfl⟩ : ∃ j : Nat, n = j := ⟨n.toNat, by omega⟩
      have g0 := HL.out j (by omega)
      have hj' : (j : Int) < nf := by omega
      rw [Int.toNat_natCast] at HR1
      have HR2 : Hid (R = (m == (kid j).fr)) := HR1.out
      clear hb HL HR HR1 HE hn
      generalize (kid j).fr = F at *
      have hone := Later.one W
      have y0 := fun x : Later W => x.cell q0
      have y1 := fun x : Later W => x.cell q1
      have y2 := fun x : Later W => x.cell q2
      have y3 := fun x : Later W => x.cell f0
      have y4 := fun x : Later W => x.cell f1
      have y5 := fun x : Later W => x.cell g0
      go_enter Tryd.func32, Tryd.ntmps32
      go_upto_region 1 with fail
      rw [← HWW.out.1, ← HWW.out.2]
      go_upto_region 12 with fail
      clear q0 q1 q2 f0 f1 g0
      refine wp_region_later (by kernel_rfl) (by kernel_rfl) ?_
      repeat (go_big_quiet_step ((go_at_call 30; refine calls_later_same (HI.out _))))
      refine wpQuiet_nil ?_
      rintro _ ⟨x, rfl⟩
      go_wp2_with fail
      go_ret
      exact ⟨by rw [HR2.out]; rfl, HBL.out.trans (x.le.mono HBL.out.size)⟩
    | false =>
      have HI : Hid (∀ w, Calls Tryd.prog 30 #[.int .i64 n, .int .i64 1, .int .i64 ((nf : Int) - 1)] w fun e w' => e = .returned (.bool false) ∧ w' = w) := fun w => spec_in13 n 1 ((nf : Int) - 1) false (hb.symm.trans HE.out.symm) w
      rw [hb, Bool.false_and] at HR1
      have HR2 : Hid (R = false) := HR1.out
      clear hb HL HR HR1 HE
      have hone := Later.one W
      have y0 := fun x : Later W => x.cell q0
      have y1 := fun x : Later W => x.cell q1
      have y2 := fun x : Later W => x.cell q2
      have y3 := fun x : Later W => x.cell f0
      have y4 := fun x : Later W => x.cell f1
      go_enter Tryd.func32, Tryd.ntmps32
      go_upto_region 1 with fail
      rw [← HWW.out.1, ← HWW.out.2]
      go_upto_region 12 with fail
      clear q0 q1 q2 f0 f1
      refine wp_region_later (by kernel_rfl) (by kernel_rfl) ?_
      repeat (go_big_quiet_step ((go_at_call 30; refine calls_later_same (HI.out _))))
      refine wpQuiet_nil ?_
      rintro _ ⟨x, rfl⟩
      go_wp2_with fail
      go_ret
      exact ⟨by rw [HR2.out]; rfl, HBL.out.trans (x.le.mono HBL.out.size)⟩
  by_cases h8 : c = 8
  · subst h8
    have HR1 : Hid (R = (belB n 20 && (belB m 21))) := HR.out
    cases hb : belB n 20 with
    | true =>
      rw [hb, Bool.true_and] at HR1
      have HR2 : Hid (R = (belB m 21)) := HR1.out
      clear HR1
      have HG : Hid (∀ w, Calls Tryd.prog 45 #[.int .i64 n] w fun e w' => e = .returned (.bool true) ∧ w' = w) := fun w => spec_tag n true hb.symm w
      clear hb
      have HI : Hid (∀ w, Calls Tryd.prog 30 #[.int .i64 m, .int .i64 0, .int .i64 20] w fun e w' => e = .returned (.bool (belB m 21)) ∧ w' = w) := fun w => spec_in13 m 0 20 (belB m 21) (in_bel m 21).symm w
      clear HR HL
      go_enter Tryd.func32, Tryd.ntmps32
      go_upto_region 1 with fail
      rw [← HWW.out.1, ← HWW.out.2]
      go_wp2_with (first | (go_at_call 45; refine (HG.out _).mono ?_; rintro e w1 ⟨rfl, rfl⟩) | (go_at_call 30; refine (HI.out _).mono ?_; rintro e w1 ⟨rfl, rfl⟩))
      go_ret
      exact ⟨by rw [HR2.out]; rfl, HBL.out⟩
    | false =>
      rw [hb, Bool.false_and] at HR1
      have HR2 : Hid (R = false) := HR1.out
      clear HR1
      have HG : Hid (∀ w, Calls Tryd.prog 45 #[.int .i64 n] w fun e w' => e = .returned (.bool false) ∧ w' = w) := fun w => spec_tag n false hb.symm w
      clear hb
      have HI : Hid (∀ w, Calls Tryd.prog 30 #[.int .i64 m, .int .i64 0, .int .i64 20] w fun e w' => e = .returned (.bool (belB m 21)) ∧ w' = w) := fun w => spec_in13 m 0 20 (belB m 21) (in_bel m 21).symm w
      clear HR HL
      go_enter Tryd.func32, Tryd.ntmps32
      go_upto_region 1 with fail
      rw [← HWW.out.1, ← HWW.out.2]
      go_wp2_with (first | (go_at_call 45; refine (HG.out _).mono ?_; rintro e w1 ⟨rfl, rfl⟩) | (go_at_call 30; refine (HI.out _).mono ?_; rintro e w1 ⟨rfl, rfl⟩))
      go_ret
      exact ⟨by rw [HR2.out]; rfl, HBL.out⟩
  by_cases h9 : c = 9
  · subst h9
    have HR1 : Hid (R = (belB n 20 && (m == 0))) := HR.out
    cases hb : belB n 20 with
    | true =>
      rw [hb, Bool.true_and] at HR1
      have HR2 : Hid (R = (m == 0)) := HR1.out
      clear HR1
      have HG : Hid (∀ w, Calls Tryd.prog 45 #[.int .i64 n] w fun e w' => e = .returned (.bool true) ∧ w' = w) := fun w => spec_tag n true hb.symm w
      clear hb
      clear HR HL
      go_enter Tryd.func32, Tryd.ntmps32
      go_upto_region 1 with fail
      rw [← HWW.out.1, ← HWW.out.2]
      go_wp2_with (go_at_call 45; refine (HG.out _).mono ?_; rintro e w1 ⟨rfl, rfl⟩)
      go_ret
      exact ⟨by rw [HR2.out]; rfl, HBL.out⟩
    | false =>
      rw [hb, Bool.false_and] at HR1
      have HR2 : Hid (R = false) := HR1.out
      clear HR1
      have HG : Hid (∀ w, Calls Tryd.prog 45 #[.int .i64 n] w fun e w' => e = .returned (.bool false) ∧ w' = w) := fun w => spec_tag n false hb.symm w
      clear hb
      clear HR HL
      go_enter Tryd.func32, Tryd.ntmps32
      go_upto_region 1 with fail
      rw [← HWW.out.1, ← HWW.out.2]
      go_wp2_with (go_at_call 45; refine (HG.out _).mono ?_; rintro e w1 ⟨rfl, rfl⟩)
      go_ret
      exact ⟨by rw [HR2.out]; rfl, HBL.out⟩
  by_cases h10 : c = 10
  · subst h10
    have HR1 : Hid (R = (belB n 20 && (belB m ((kid i).len : Int)))) := HR.out
    cases hb : belB n 20 with
    | true =>
      rw [hb, Bool.true_and] at HR1
      have HR2 : Hid (R = (belB m ((kid i).len : Int))) := HR1.out
      clear HR1
      have HG : Hid (∀ w, Calls Tryd.prog 45 #[.int .i64 n] w fun e w' => e = .returned (.bool true) ∧ w' = w) := fun w => spec_tag n true hb.symm w
      clear hb
      have HI : Hid (∀ w, Calls Tryd.prog 30 #[.int .i64 m, .int .i64 0, .int .i64 (((kid i).len : Int) - 1)] w fun e w' => e = .returned (.bool (belB m ((kid i).len : Int))) ∧ w' = w) := fun w => spec_in13 m 0 (((kid i).len : Int) - 1) (belB m ((kid i).len : Int)) (in_bel m ((kid i).len : Int)).symm w
      clear HR HL
      go_enter Tryd.func32, Tryd.ntmps32
      go_upto_region 1 with fail
      rw [← HWW.out.1, ← HWW.out.2]
      go_wp2_with (first | (go_at_call 45; refine (HG.out _).mono ?_; rintro e w1 ⟨rfl, rfl⟩) | (go_at_call 30; refine (HI.out _).mono ?_; rintro e w1 ⟨rfl, rfl⟩))
      go_ret
      exact ⟨by rw [HR2.out]; rfl, HBL.out⟩
    | false =>
      rw [hb, Bool.false_and] at HR1
      have HR2 : Hid (R = false) := HR1.out
      clear HR1
      have HG : Hid (∀ w, Calls Tryd.prog 45 #[.int .i64 n] w fun e w' => e = .returned (.bool false) ∧ w' = w) := fun w => spec_tag n false hb.symm w
      clear hb
      have HI : Hid (∀ w, Calls Tryd.prog 30 #[.int .i64 m, .int .i64 0, .int .i64 (((kid i).len : Int) - 1)] w fun e w' => e = .returned (.bool (belB m ((kid i).len : Int))) ∧ w' = w) := fun w => spec_in13 m 0 (((kid i).len : Int) - 1) (belB m ((kid i).len : Int)) (in_bel m ((kid i).len : Int)).symm w
      clear HR HL
      go_enter Tryd.func32, Tryd.ntmps32
      go_upto_region 1 with fail
      rw [← HWW.out.1, ← HWW.out.2]
      go_wp2_with (first | (go_at_call 45; refine (HG.out _).mono ?_; rintro e w1 ⟨rfl, rfl⟩) | (go_at_call 30; refine (HI.out _).mono ?_; rintro e w1 ⟨rfl, rfl⟩))
      go_ret
      exact ⟨by rw [HR2.out]; rfl, HBL.out⟩
  by_cases h11 : c = 11
  · subst h11
    have HR1 : Hid (R = (wokB n && (belB m ((kid i).len : Int)))) := HR.out
    cases hb : wokB n with
    | true =>
      rw [hb, Bool.true_and] at HR1
      have HR2 : Hid (R = (belB m ((kid i).len : Int))) := HR1.out
      clear HR1
      have HW : Hid (∀ w, Calls Tryd.prog 44 #[.int .i64 n] w fun e w' => e = .returned (.bool true) ∧ w' = w) := fun w => by have := spec_wordOk n w; rw [hb] at this; exact this
      clear hb
      have HI : Hid (∀ w, Calls Tryd.prog 30 #[.int .i64 m, .int .i64 0, .int .i64 (((kid i).len : Int) - 1)] w fun e w' => e = .returned (.bool (belB m ((kid i).len : Int))) ∧ w' = w) := fun w => spec_in13 m 0 (((kid i).len : Int) - 1) (belB m ((kid i).len : Int)) (in_bel m ((kid i).len : Int)).symm w
      clear HR HL
      go_enter Tryd.func32, Tryd.ntmps32
      go_upto_region 1 with fail
      rw [← HWW.out.1, ← HWW.out.2]
      go_wp2_with (first | (go_at_call 44; refine (HW.out _).mono ?_; rintro e w1 ⟨rfl, rfl⟩) | (go_at_call 30; refine (HI.out _).mono ?_; rintro e w1 ⟨rfl, rfl⟩))
      go_ret
      exact ⟨by rw [HR2.out]; rfl, HBL.out⟩
    | false =>
      rw [hb, Bool.false_and] at HR1
      have HR2 : Hid (R = false) := HR1.out
      clear HR1
      have HW : Hid (∀ w, Calls Tryd.prog 44 #[.int .i64 n] w fun e w' => e = .returned (.bool false) ∧ w' = w) := fun w => by have := spec_wordOk n w; rw [hb] at this; exact this
      clear hb
      have HI : Hid (∀ w, Calls Tryd.prog 30 #[.int .i64 m, .int .i64 0, .int .i64 (((kid i).len : Int) - 1)] w fun e w' => e = .returned (.bool (belB m ((kid i).len : Int))) ∧ w' = w) := fun w => spec_in13 m 0 (((kid i).len : Int) - 1) (belB m ((kid i).len : Int)) (in_bel m ((kid i).len : Int)).symm w
      clear HR HL
      go_enter Tryd.func32, Tryd.ntmps32
      go_upto_region 1 with fail
      rw [← HWW.out.1, ← HWW.out.2]
      go_wp2_with (first | (go_at_call 44; refine (HW.out _).mono ?_; rintro e w1 ⟨rfl, rfl⟩) | (go_at_call 30; refine (HI.out _).mono ?_; rintro e w1 ⟨rfl, rfl⟩))
      go_ret
      exact ⟨by rw [HR2.out]; rfl, HBL.out⟩
  by_cases h18 : c = 18
  · subst h18
    have HR1 : Hid (R = (belB n ((kid i).len : Int) && (m == 0))) := HR.out
    cases hb : belB n ((kid i).len : Int) with
    | true =>
      rw [hb, Bool.true_and] at HR1
      have HR2 : Hid (R = (m == 0)) := HR1.out
      clear HR1
      have HI : Hid (∀ w, Calls Tryd.prog 30 #[.int .i64 n, .int .i64 0, .int .i64 (((kid i).len : Int) - 1)] w fun e w' => e = .returned (.bool true) ∧ w' = w) := fun w => spec_in13 n 0 (((kid i).len : Int) - 1) true (hb.symm.trans (in_bel n ((kid i).len : Int)).symm) w
      clear hb
      clear HR HL
      go_enter Tryd.func32, Tryd.ntmps32
      go_upto_region 1 with fail
      rw [← HWW.out.1, ← HWW.out.2]
      go_wp2_with (go_at_call 30; refine (HI.out _).mono ?_; rintro e w1 ⟨rfl, rfl⟩)
      go_ret
      exact ⟨by rw [HR2.out]; rfl, HBL.out⟩
    | false =>
      rw [hb, Bool.false_and] at HR1
      have HR2 : Hid (R = false) := HR1.out
      clear HR1
      have HI : Hid (∀ w, Calls Tryd.prog 30 #[.int .i64 n, .int .i64 0, .int .i64 (((kid i).len : Int) - 1)] w fun e w' => e = .returned (.bool false) ∧ w' = w) := fun w => spec_in13 n 0 (((kid i).len : Int) - 1) false (hb.symm.trans (in_bel n ((kid i).len : Int)).symm) w
      clear hb
      clear HR HL
      go_enter Tryd.func32, Tryd.ntmps32
      go_upto_region 1 with fail
      rw [← HWW.out.1, ← HWW.out.2]
      go_wp2_with (go_at_call 30; refine (HI.out _).mono ?_; rintro e w1 ⟨rfl, rfl⟩)
      go_ret
      exact ⟨by rw [HR2.out]; rfl, HBL.out⟩
  by_cases h19 : c = 19
  · subst h19
    have HR1 : Hid (R = (belB n ((kid i).len : Int) && (m == 0))) := HR.out
    cases hb : belB n ((kid i).len : Int) with
    | true =>
      rw [hb, Bool.true_and] at HR1
      have HR2 : Hid (R = (m == 0)) := HR1.out
      clear HR1
      have HI : Hid (∀ w, Calls Tryd.prog 30 #[.int .i64 n, .int .i64 0, .int .i64 (((kid i).len : Int) - 1)] w fun e w' => e = .returned (.bool true) ∧ w' = w) := fun w => spec_in13 n 0 (((kid i).len : Int) - 1) true (hb.symm.trans (in_bel n ((kid i).len : Int)).symm) w
      clear hb
      clear HR HL
      go_enter Tryd.func32, Tryd.ntmps32
      go_upto_region 1 with fail
      rw [← HWW.out.1, ← HWW.out.2]
      go_wp2_with (go_at_call 30; refine (HI.out _).mono ?_; rintro e w1 ⟨rfl, rfl⟩)
      go_ret
      exact ⟨by rw [HR2.out]; rfl, HBL.out⟩
    | false =>
      rw [hb, Bool.false_and] at HR1
      have HR2 : Hid (R = false) := HR1.out
      clear HR1
      have HI : Hid (∀ w, Calls Tryd.prog 30 #[.int .i64 n, .int .i64 0, .int .i64 (((kid i).len : Int) - 1)] w fun e w' => e = .returned (.bool false) ∧ w' = w) := fun w => spec_in13 n 0 (((kid i).len : Int) - 1) false (hb.symm.trans (in_bel n ((kid i).len : Int)).symm) w
      clear hb
      clear HR HL
      go_enter Tryd.func32, Tryd.ntmps32
      go_upto_region 1 with fail
      rw [← HWW.out.1, ← HWW.out.2]
      go_wp2_with (go_at_call 30; refine (HI.out _).mono ?_; rintro e w1 ⟨rfl, rfl⟩)
      go_ret
      exact ⟨by rw [HR2.out]; rfl, HBL.out⟩
  have HR1 : Hid (R = ((codeB c && (n == 0)) && (m == 0))) := by
    show _ = _
    rw [HR.out]
    unfold opOkF nOkF mOkF
    simp only
    rw [if_neg (by omega), if_neg h2, if_neg h3, if_neg h4, if_neg h5, if_neg (by omega), if_neg (by omega), if_neg h5, if_neg h8, if_neg (by omega)]
  have g1 : (c == 1) = false := by simpa using h1
  have g2 : (c == 2) = false := by simpa using h2
  have g3 : (c == 3) = false := by simpa using h3
  have g4 : (c == 4) = false := by simpa using h4
  have g5 : (c == 5) = false := by simpa using h5
  have g8 : (c == 8) = false := by simpa using h8
  have g9 : (c == 9) = false := by simpa using h9
  have g10 : (c == 10) = false := by simpa using h10
  have g11 : (c == 11) = false := by simpa using h11
  have g18 : (c == 18) = false := by simpa using h18
  have g19 : (c == 19) = false := by simpa using h19
  have HI : Hid (∀ w, Calls Tryd.prog 30 #[.int .i64 c, .int .i64 1, .int .i64 21] w fun e w' => e = .returned (.bool (codeB c)) ∧ w' = w) := fun w => spec_in13 c 1 21 (codeB c) rfl w
  clear h1 h2 h3 h4 h5 h8 h9 h10 h11 h18 h19 HR HL
  cases hb : codeB c with
  | true =>
    rw [hb] at HI HR1
    cases hn : (n == 0) with
    | true =>
      have HR2 : Hid (R = (m == 0)) := by show _ = _; rw [HR1.out, hn]; rfl
      clear hb HR1
      go_enter Tryd.func32, Tryd.ntmps32
      go_upto_region 1 with fail
      rw [← HWW.out.1, ← HWW.out.2]
      go_wp2_with (go_at_call 30; refine (HI.out _).mono ?_; rintro e w1 ⟨rfl, rfl⟩)
      go_ret
      exact ⟨by rw [HR2.out]; rfl, HBL.out⟩
    | false =>
      have HR2 : Hid (R = false) := by show _ = _; rw [HR1.out, hn]; rfl
      clear hb HR1
      go_enter Tryd.func32, Tryd.ntmps32
      go_upto_region 1 with fail
      rw [← HWW.out.1, ← HWW.out.2]
      go_wp2_with (go_at_call 30; refine (HI.out _).mono ?_; rintro e w1 ⟨rfl, rfl⟩)
      go_ret
      exact ⟨by rw [HR2.out]; rfl, HBL.out⟩
  | false =>
    rw [hb] at HI HR1
    have HR2 : Hid (R = false) := by show _ = _; rw [HR1.out]; rfl
    clear hb HR1
    go_enter Tryd.func32, Tryd.ntmps32
    go_upto_region 1 with fail
    rw [← HWW.out.1, ← HWW.out.2]
    go_wp2_with (go_at_call 30; refine (HI.out _).mono ?_; rintro e w1 ⟨rfl, rfl⟩)
    go_ret
    exact ⟨by rw [HR2.out]; rfl, HBL.out⟩
end Go.Proofs.YthnhdmanmmdoiaaDoor

/- spec.FunsOk at every list of functions. No conditions. -/
namespace Go.Proofs.YthnhdmanmmdoiaaDoor
open Go.ChangeShapes Go.WideShapes Go.ChangeAt Go.RowKit

set_option maxRecDepth 100000 in
set_option maxHeartbeats 8000000 in
theorem spec_funs_ok (nf : Nat) (kid : Nat → Fu) (w : World) (v : Value) (hv : Fl w nf kid v) (R : Bool) (hR : R = true ↔ FunsP nf kid) :
    Calls Tryd.prog 17 #[v] w fun e w' => e = .returned (.bool R) ∧ Below w.heap.size w w' := by
  have HR : Hid (R = true ↔ FunsP nf kid) := hR
  have HV : Hid (Fl w nf kid v) := hv
  clear hR
  have HI0 : Hid (∀ w B, B = (decide (1 ≤ nf) && decide (nf ≤ 60)) → Calls Tryd.prog 30 #[.int .i64 nf, .int .i64 1, .int .i64 60] w fun e w' => e = .returned (.bool B) ∧ w' = w) := fun w B hB => spec_in13 _ _ _ _ (hB.trans (by congr 1 <;> exact decide_eq_decide.2 (by omega))) w
  by_cases hx : 1 ≤ nf ∧ nf ≤ 60
  · obtain ⟨b, o, cl, e, hall⟩ := hv.all_at hx.1
    subst e
    have HI : Hid (∀ w, Calls Tryd.prog 30 #[.int .i64 nf, .int .i64 1, .int .i64 60] w fun e w' => e = .returned (.bool true) ∧ w' = w) := fun w => HI0.out w true (by rw [decide_eq_true hx.1, decide_eq_true hx.2]; rfl)
    have HALL : Hid (∀ i, i < nf → ∃ pu cu, FunsAt w nf kid i b o cl pu cu) := hall
    obtain ⟨pu0, cu0, hF0⟩ := hall 0 (by omega)
    have c0 := hF0.fr 0 (by omega)
    simp only [Nat.zero_mul, Nat.add_zero] at c0
    have hnf := hF0.ln.2
    have hn0 : (0 : Int) < nf := by omega
    unfold maxLen at hnf
    clear HI0 hv hall hF0
    by_cases h0 : (kid 0).fr = 0
    · have HFR0 : Hid ((kid 0).fr = 0) := h0
      rw [h0] at c0
      clear h0
      go_enter Tryd.func17, Tryd.ntmps17
      go_wp2_with (go_at_call 30; refine (HI.out _).mono ?_; rintro e w1 ⟨rfl, hw1⟩; obtain rfl : w = w1 := hw1.symm)
      go_loopw [3] (fun x wr => ∃ k : Nat, x = .int .i64 k ∧ k ≤ nf ∧ (∀ j, j < k → belB (kid j).fr 21 = true ∧ PlacesP nf kid j) ∧ Below w.heap.size w wr) (fun x _ => nf - (intOf x).toNat)
      case atStart => exact ⟨0, rfl, Nat.zero_le _, fun j hj => absurd hj (Nat.not_lt_zero _), Below.refl _ _⟩
      case round =>
        obtain ⟨k, rfl, hk, hdone, hbel⟩ := hrel
        have HBL : Hid (Below w.heap.size w wr) := hbel
        have HDN : Hid (∀ j, j < k → belB (kid j).fr 21 = true ∧ PlacesP nf kid j) := hdone
        clear hbel hdone c0 HI
        by_cases hlt : (k : Int) < nf
        · have hlt' : k < nf := by omega
          obtain ⟨pu, cu, hF⟩ := HALL.out k hlt'
          have HF : Hid (FunsAt wr nf kid k b o cl pu cu) := hF.below HBL.out
          have f0 := HF.out.fr k hlt'
          have f1 := HF.out.sl
          have hln := hF.ln.1
          unfold maxLen at hln
          clear hF
          have HI1 : Hid (∀ w B, B = belB (kid k).fr 21 → Calls Tryd.prog 30 #[.int .i64 (kid k).fr, .int .i64 0, .int .i64 20] w fun e w' => e = .returned (.bool B) ∧ w' = w) := fun w B hB => spec_in13 _ _ _ _ (hB.trans (in_bel _ 21).symm) w
          have HI2 : Hid (∀ w B, B = (decide (1 ≤ (kid k).len) && decide ((kid k).len ≤ 3000)) → Calls Tryd.prog 30 #[.int .i64 ((kid k).len : Int), .int .i64 1, .int .i64 3000] w fun e w' => e = .returned (.bool B) ∧ w' = w) := fun w B hB => spec_in13 _ _ _ _ (hB.trans (by congr 1 <;> exact decide_eq_decide.2 (by omega))) w
          have tok1 : True := trivial
          cases hb1 : belB (kid k).fr 21 with
          | false =>
            have HR2 : Hid (R = false) := bool_no HR.out (fun h => by have := (h.2.2 k hlt').1; rw [hb1] at this; cases this)
            have HA : Hid (∀ w, Calls Tryd.prog 30 #[.int .i64 (kid k).fr, .int .i64 0, .int .i64 20] w fun e w' => e = .returned (.bool false) ∧ w' = w) := fun w => HI1.out w false hb1.symm
            clear hb1 HI1 HI2 tok1
            go_wp2_with (go_at_call 30; refine (HA.out _).mono ?_; rintro e w1 ⟨rfl, rfl⟩)
            go_ret
            exact ⟨by rw [HR2.out]; rfl, HBL.out⟩
          | true =>
            have HFRK : Hid (belB (kid k).fr 21 = true) := hb1
            have HA : Hid (∀ w, Calls Tryd.prog 30 #[.int .i64 (kid k).fr, .int .i64 0, .int .i64 20] w fun e w' => e = .returned (.bool true) ∧ w' = w) := fun w => HI1.out w true hb1.symm
            clear hb1 HI1
            by_cases hx2 : 1 ≤ (kid k).len ∧ (kid k).len ≤ 3000
            · have HBB : Hid (∀ w, Calls Tryd.prog 30 #[.int .i64 ((kid k).len : Int), .int .i64 1, .int .i64 3000] w fun e w' => e = .returned (.bool true) ∧ w' = w) := fun w => HI2.out w true (by rw [decide_eq_true hx2.1, decide_eq_true hx2.2]; rfl)
              have HX2 : Hid (1 ≤ (kid k).len ∧ (kid k).len ≤ 3000) := hx2
              have hl1 := hx2.1
              have hl2 := hx2.2
              have HOP : Hid (∀ j, j < (kid k).len → ∃ g q, pu = some ⟨g, q, none⟩ ∧ HeadO wr g (q + j * 3) ((kid k).op j)) := HF.out.op
              have HSP : Hid (∀ c n m w1, Below wr.heap.size wr w1 → Calls Tryd.prog 32 #[.slice (some ⟨b, o, none⟩) nf cl, .int .i64 k, .agg #[.int .i64 c, .int .i64 n, .int .i64 m]] w1 fun e w' => e = .returned (.bool (opOkF nf kid k ⟨c, n, m⟩)) ∧ Below w1.heap.size w1 w') :=
                fun c n m w1 h1 => spec_op13 nf kid k hlt' HFRK.out c n m w1 _ (HV.out.below (HBL.out.trans (h1.mono HBL.out.size)))
              obtain ⟨wf, rfl⟩ : ∃ x, x = wr := ⟨_, rfl⟩
              clear HI2 hx2
              generalize hL : (kid k).len = L at *
              have HLL : Hid ((kid k).len = L) := hL
              clear hL
              go_wp2_with (go_at_call 30; first | (clear tok1; refine (HA.out _).mono ?_; rintro e w1 ⟨rfl, hw1⟩; obtain rfl : wf = w1 := hw1.symm) | (refine (HBB.out _).mono ?_; rintro e w1 ⟨rfl, hw1⟩; obtain rfl : wf = w1 := hw1.symm))
              go_loopw [5] (fun x wi => ∃ j : Nat, x = .int .i64 j ∧ j ≤ L ∧ (∀ q, q < j → opOkF nf kid k ((kid k).op q) = true) ∧ Below wf.heap.size wf wi) (fun x _ => L - (intOf x).toNat)
              case atStart => exact ⟨0, rfl, Nat.zero_le _, fun j hj => absurd hj (Nat.not_lt_zero _), Below.refl _ _⟩
              case round =>
                obtain ⟨j, rfl, hj, hops, hbi⟩ := hrel
                have HBI : Hid (Below wf.heap.size wf wr) := hbi
                have HOPS : Hid (∀ q, q < j → opOkF nf kid k ((kid k).op q) = true) := hops
                have HEND : Hid (Below w.heap.size w wr) := HBL.out.trans (hbi.mono HBL.out.size)
                clear hops hbi f0 f1
                have f1 := (HF.out.below HBI.out).sl
                rw [HLL.out] at f1
                by_cases hjl : (j : Int) < L
                · have hjl' : j < L := by omega
                  obtain ⟨g, q, hp, hh⟩ := HOP.out j hjl'
                  obtain ⟨d0, d1, d2⟩ := hh.below HBI.out
                  have HOK : Hid (Calls Tryd.prog 32 #[.slice (some ⟨b, o, none⟩) nf cl, .int .i64 k, .agg #[.int .i64 ((kid k).op j).c, .int .i64 ((kid k).op j).n, .int .i64 ((kid k).op j).m]] wr fun e w' => e = .returned (.bool (opOkF nf kid k ((kid k).op j))) ∧ Below wr.heap.size wr w') := HSP.out _ _ _ wr HBI.out
                  subst hp
                  clear hh HF HOP HSP
                  cases hok : opOkF nf kid k ((kid k).op j) with
                  | false =>
                    rw [hok] at HOK
                    have HR2 : Hid (R = false) := bool_no HR.out (fun h => by have := (h.2.2 k hlt').2.2.2 j (by rw [HLL.out]; exact hjl'); rw [hok] at this; cases this)
                    clear hok
                    go_wp2_with fail
                    refine HOK.out.mono ?_
                    rintro e w2 ⟨rfl, hb2⟩
                    have HE2 : Hid (Below w.heap.size w w2) := HEND.out.trans (hb2.mono HEND.out.size)
                    clear hb2
                    go_wp2_with fail
                    go_ret
                    exact ⟨by rw [HR2.out]; rfl, HE2.out⟩
                  | true =>
                    rw [hok] at HOK
                    have HOP2 : Hid (∀ q, q < j + 1 → opOkF nf kid k ((kid k).op q) = true) := fun q hq => by
                      rcases Nat.lt_or_ge q j with h | h
                      · exact HOPS.out q h
                      · obtain rfl : q = j := by omega
                        exact hok
                    clear hok
                    go_wp2_with fail
                    refine HOK.out.mono ?_
                    rintro e w2 ⟨rfl, hb2⟩
                    have HE2 : Hid (Below wf.heap.size wf w2) := HBI.out.trans (hb2.mono HBI.out.size)
                    clear hb2
                    go_wp2_with fail
                    go_roundw
                    case rel => exact ⟨j + 1, by go_num, by omega, HOP2.out, HE2.out⟩
                    case measure => simp [intOf]; omega
                · have hje : j = L := by omega
                  subst hje
                  obtain ⟨l, hl⟩ : ∃ l, j = l + 1 := ⟨j - 1, by omega⟩
                  subst hl
                  obtain ⟨g, q, hp, hh⟩ := HOP.out l (by omega)
                  obtain ⟨d0, -, -⟩ := hh.below HBI.out
                  subst hp
                  have HPL : Hid (PlacesP nf kid k ↔ endB ((kid k).op l).c = true) := by
                    show _ ↔ _
                    unfold PlacesP
                    rw [HLL.out]
                    exact ⟨fun h => h.2.1, fun h => ⟨HX2.out, h, HOPS.out⟩⟩
                  have HNX : Hid (endB ((kid k).op l).c = true → ∀ q, q < k + 1 → belB (kid q).fr 21 = true ∧ PlacesP nf kid q) := fun he q hq => by
                    rcases Nat.lt_or_ge q k with h | h
                    · exact HDN.out q h
                    · obtain rfl : q = k := by omega
                      exact ⟨HFRK.out, HPL.out.2 he⟩
                  have HNO : Hid (endB ((kid k).op l).c = false → R = false) := fun he => bool_no HR.out (fun h => by have := HPL.out.1 (h.2.2 k hlt').2; rw [he] at this; cases this)
                  have HEQ : Hid (endB ((kid k).op l).c = (((((kid k).op l).c == 7) || (((kid k).op l).c == 19)) || (((kid k).op l).c == 21))) := rfl
                  clear hh HF HOP HSP HPL HOPS HDN
                  generalize ((kid k).op l).c = c at *
                  cases e7 : (c == 7) with
                  | true =>
                    have g7 : (c != 7) = false := by rw [bne, e7]; rfl
                    have HN := HNX.out (by rw [HEQ.out, e7]; rfl)
                    have HN2 : Hid (∀ q, q < k + 1 → belB (kid q).fr 21 = true ∧ PlacesP nf kid q) := HN
                    clear HN
                    go_wp2_with fail
                    go_roundw
                    case rel => exact ⟨k + 1, by go_num, by omega, HN2.out, HEND.out⟩
                    case measure => simp [intOf]; omega
                  | false =>
                    have g7 : (c != 7) = true := by rw [bne, e7]; rfl
                    cases e19 : (c == 19) with
                    | true =>
                      have g19 : (c != 19) = false := by rw [bne, e19]; rfl
                      have HN := HNX.out (by rw [HEQ.out, e7, e19]; rfl)
                      have HN2 : Hid (∀ q, q < k + 1 → belB (kid q).fr 21 = true ∧ PlacesP nf kid q) := HN
                      clear HN
                      go_wp2_with fail
                      go_roundw
                      case rel => exact ⟨k + 1, by go_num, by omega, HN2.out, HEND.out⟩
                      case measure => simp [intOf]; omega
                    | false =>
                      have g19 : (c != 19) = true := by rw [bne, e19]; rfl
                      cases e21 : (c == 21) with
                      | true =>
                        have g21 : (c != 21) = false := by rw [bne, e21]; rfl
                        have HN := HNX.out (by rw [HEQ.out, e7, e19, e21]; rfl)
                        have HN2 : Hid (∀ q, q < k + 1 → belB (kid q).fr 21 = true ∧ PlacesP nf kid q) := HN
                        clear HN
                        go_wp2_with fail
                        go_roundw
                        case rel => exact ⟨k + 1, by go_num, by omega, HN2.out, HEND.out⟩
                        case measure => simp [intOf]; omega
                      | false =>
                        have g21 : (c != 21) = true := by rw [bne, e21]; rfl
                        have HR2 : Hid (R = false) := HNO.out (by rw [HEQ.out, e7, e19, e21]; rfl)
                        go_wp2_with fail
                        go_ret
                        exact ⟨by rw [HR2.out]; rfl, HEND.out⟩
            · have HBB : Hid (∀ w, Calls Tryd.prog 30 #[.int .i64 ((kid k).len : Int), .int .i64 1, .int .i64 3000] w fun e w' => e = .returned (.bool false) ∧ w' = w) := fun w => HI2.out w false (by
                symm
                rw [Bool.and_eq_false_iff, decide_eq_false_iff_not, decide_eq_false_iff_not]
                omega)
              have HR2 : Hid (R = false) := bool_no HR.out (fun h => hx2 (h.2.2 k hlt').2.1)
              clear HI2 hx2
              go_wp2_with (go_at_call 30; first | (clear tok1; refine (HA.out _).mono ?_; rintro e w1 ⟨rfl, rfl⟩) | (refine (HBB.out _).mono ?_; rintro e w1 ⟨rfl, rfl⟩))
              go_ret
              exact ⟨by rw [HR2.out]; rfl, HBL.out⟩
        · have hke : k = nf := by omega
          subst hke
          have HR2 : Hid (R = true) := bool_yes HR.out ⟨hx, HFR0.out, HDN.out⟩
          go_wp2_with fail
          go_ret
          exact ⟨by rw [HR2.out]; rfl, HBL.out⟩
    · have HR2 : Hid (R = false) := bool_no HR.out (fun h => h0 h.2.1)
      have g0 : ((kid 0).fr != 0) = true := by simpa using h0
      clear h0
      generalize (kid 0).fr = F at *
      go_enter Tryd.func17, Tryd.ntmps17
      go_wp2_with (go_at_call 30; refine (HI.out _).mono ?_; rintro e w1 ⟨rfl, rfl⟩)
      go_ret
      exact ⟨by rw [HR2.out]; rfl, Below.refl _ _⟩
  · obtain ⟨p, cap, e, hm, -⟩ := hv.at
    subst e
    unfold maxLen at hm
    have HR2 : Hid (R = false) := bool_no HR.out (fun h => hx h.1)
    have HI : Hid (∀ w, Calls Tryd.prog 30 #[.int .i64 nf, .int .i64 1, .int .i64 60] w fun e w' => e = .returned (.bool false) ∧ w' = w) := fun w => HI0.out w false (by
      symm
      rw [Bool.and_eq_false_iff, decide_eq_false_iff_not, decide_eq_false_iff_not]
      omega)
    clear HI0 hx
    go_enter Tryd.func17, Tryd.ntmps17
    go_wp2_with (go_at_call 30; refine (HI.out _).mono ?_; rintro e w1 ⟨rfl, rfl⟩)
    go_ret
    exact ⟨by rw [HR2.out]; rfl, Below.refl _ _⟩
end Go.Proofs.YthnhdmanmmdoiaaDoor
