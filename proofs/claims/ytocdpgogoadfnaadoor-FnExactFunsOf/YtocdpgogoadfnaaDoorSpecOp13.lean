/- spec.l13Op at every op: whether it is right at function i of the list. Conditions: there is such a function, and its Free is not below 0. Written by wip/tools/mkfunok.py. -/
import Derived.Test.YtocdpgogoadfnaaDoorFunOkP
import Derived.Test.YtocdpgogoadfnaaDoorSpecIn13
import Derived.Test.YtocdpgogoadfnaaDoorLater
import Derived.Deep.Cut
namespace Go.Proofs.YtocdpgogoadfnaaDoor
open Go.ChangeShapes Go.WideShapes Go.ChangeAt Go.RowKit

theorem spec_tag (n : Int) (R : Bool) (hR : R = belB n 20) (w : World) : Calls Tryd.prog 43 #[.int .i64 n] w fun e w' => e = .returned (.bool R) ∧ w' = w := by
  have HC : Hid (∀ w, Calls Tryd.prog 32 #[.int .i64 n, .int .i64 0, .int .i64 19] w fun e w' => e = .returned (.bool R) ∧ w' = w) := fun w => spec_in13 n 0 19 R (hR.trans (in_bel n 20).symm) w
  clear hR
  go_enter Tryd.func43, Tryd.ntmps43
  go_wp2_with (go_at_call 32; refine (HC.out _).mono ?_; rintro e w1 ⟨rfl, rfl⟩)
  go_ret
  exact ⟨rfl, rfl⟩

set_option maxRecDepth 100000 in
set_option maxHeartbeats 8000000 in
theorem spec_op13 (nf : Nat) (kid : Nat → Fu) (i : Nat) (hi : i < nf) (hfr : belB (kid i).fr 21 = true) (c n m : Int) (w : World) (lv : Value) (hlv : Fl w nf kid lv) :
    Calls Tryd.prog 33 #[lv, .int .i64 i, .agg #[.int .i64 c, .int .i64 n, .int .i64 m]] w fun e w' => e = .returned (.bool (opOkF nf kid i ⟨c, n, m⟩)) ∧ Below w.heap.size w w' := by
  obtain ⟨pl, cl, el, hll, hal⟩ := hlv.at
  subst el
  obtain ⟨W, hW⟩ : ∃ W, W = w.alloc (.cells #[.int .i64 c, .int .i64 n, .int .i64 m] 47) := ⟨_, rfl⟩
  obtain ⟨K, hK⟩ : ∃ K, K = w.heap.size := ⟨_, rfl⟩
  have nb1 : Below w.heap.size w W := by rw [hW]; exact newb w _
  have HBL : Hid (Below w.heap.size w W) := nb1
  have hbx : W.heap[K]? = some (.cells #[.int .i64 c, .int .i64 n, .int .i64 m] 47 (0, 0)) := by rw [hW, hK]; exact heap_alloc_new w _
  have q0 : W.cell? ⟨K, 0, none⟩ = some (.int .i64 c) := cell_of_row W K 0 _ _ _ hbx
  have q1 : W.cell? ⟨K, 1, none⟩ = some (.int .i64 n) := cell_of_row W K 1 _ _ _ hbx
  have q2 : W.cell? ⟨K, 2, none⟩ = some (.int .i64 m) := cell_of_row W K 2 _ _ _ hbx
  obtain ⟨b, o, u, hp, hd, hin⟩ := hal i hi
  obtain ⟨pu, cu, eu, hlu, -⟩ := hin.sl.at
  have HL : Hid (∀ j, j < nf → W.cell? ⟨b, o + j * 2, none⟩ = some (.int .i64 (kid j).fr)) := fun j hj => by
    obtain ⟨b2, o2, u2, hp2, hd2, -⟩ := hal j hj
    rw [hp] at hp2
    injection hp2 with hp2
    injection hp2 with e1 e2 _
    subst e1 e2
    exact (hd2.below nb1).c0
  have f0 := (hd.below nb1).c0
  have f1 := (hd.below nb1).c1
  subst eu hp
  have HWW : Hid (W = w.alloc (.cells #[.int .i64 c, .int .i64 n, .int .i64 m] 47) ∧ K = w.heap.size) := ⟨hW, hK⟩
  obtain ⟨R, hR⟩ : ∃ R, opOkF nf kid i ⟨c, n, m⟩ = R := ⟨_, rfl⟩
  rw [hR]
  have HR : Hid (R = opOkF nf kid i ⟨c, n, m⟩) := hR.symm
  have HFR : Hid (0 ≤ (kid i).fr ∧ (kid i).fr < 21) := by
    unfold belB at hfr
    show _ ∧ _
    simpa using hfr
  have hi' : (i : Int) < nf := by omega
  unfold maxLen at hll hlu
  clear hW hK hbx hal hlv nb1 hR hd hin hfr
  have hF0 := HFR.out.1
  have hF1 := HFR.out.2
  clear HFR
  by_cases h1 : c = 1
  · subst h1
    have HR1 : Hid (R = (wokB n && (m == 0))) := HR.out
    cases hb : wokB n with
    | true =>
      rw [hb, Bool.true_and] at HR1
      have HR2 : Hid (R = (m == 0)) := HR1.out
      clear HR1
      have HW : Hid (∀ w, Calls Tryd.prog 42 #[.int .i64 n] w fun e w' => e = .returned (.bool true) ∧ w' = w) := fun w => by have := spec_wordOk n w; rw [hb] at this; exact this
      clear hb
      clear HR HL
      go_enter Tryd.func33, Tryd.ntmps33
      go_upto_region 1 with fail
      rw [← HWW.out.1, ← HWW.out.2]
      go_wp2_with (go_at_call 42; refine (HW.out _).mono ?_; rintro e w1 ⟨rfl, rfl⟩)
      go_ret
      exact ⟨by rw [HR2.out]; rfl, HBL.out⟩
    | false =>
      rw [hb, Bool.false_and] at HR1
      have HR2 : Hid (R = false) := HR1.out
      clear HR1
      have HW : Hid (∀ w, Calls Tryd.prog 42 #[.int .i64 n] w fun e w' => e = .returned (.bool false) ∧ w' = w) := fun w => by have := spec_wordOk n w; rw [hb] at this; exact this
      clear hb
      clear HR HL
      go_enter Tryd.func33, Tryd.ntmps33
      go_upto_region 1 with fail
      rw [← HWW.out.1, ← HWW.out.2]
      go_wp2_with (go_at_call 42; refine (HW.out _).mono ?_; rintro e w1 ⟨rfl, rfl⟩)
      go_ret
      exact ⟨by rw [HR2.out]; rfl, HBL.out⟩
  by_cases h2 : c = 2
  · subst h2
    have HR1 : Hid (R = (belB n 3000 && (m == 0))) := HR.out
    cases hb : belB n 3000 with
    | true =>
      rw [hb, Bool.true_and] at HR1
      have HR2 : Hid (R = (m == 0)) := HR1.out
      clear HR1
      have HI : Hid (∀ w, Calls Tryd.prog 32 #[.int .i64 n, .int .i64 0, .int .i64 2999] w fun e w' => e = .returned (.bool true) ∧ w' = w) := fun w => spec_in13 n 0 2999 true (hb.symm.trans (in_bel n 3000).symm) w
      clear hb
      clear HR HL
      go_enter Tryd.func33, Tryd.ntmps33
      go_upto_region 1 with fail
      rw [← HWW.out.1, ← HWW.out.2]
      go_wp2_with (go_at_call 32; refine (HI.out _).mono ?_; rintro e w1 ⟨rfl, rfl⟩)
      go_ret
      exact ⟨by rw [HR2.out]; rfl, HBL.out⟩
    | false =>
      rw [hb, Bool.false_and] at HR1
      have HR2 : Hid (R = false) := HR1.out
      clear HR1
      have HI : Hid (∀ w, Calls Tryd.prog 32 #[.int .i64 n, .int .i64 0, .int .i64 2999] w fun e w' => e = .returned (.bool false) ∧ w' = w) := fun w => spec_in13 n 0 2999 false (hb.symm.trans (in_bel n 3000).symm) w
      clear hb
      clear HR HL
      go_enter Tryd.func33, Tryd.ntmps33
      go_upto_region 1 with fail
      rw [← HWW.out.1, ← HWW.out.2]
      go_wp2_with (go_at_call 32; refine (HI.out _).mono ?_; rintro e w1 ⟨rfl, rfl⟩)
      go_ret
      exact ⟨by rw [HR2.out]; rfl, HBL.out⟩
  by_cases h3 : c = 3
  · subst h3
    have HR1 : Hid (R = (belB n (kid i).fr && (m == 0))) := HR.out
    cases hb : belB n (kid i).fr with
    | true =>
      rw [hb, Bool.true_and] at HR1
      have HR2 : Hid (R = (m == 0)) := HR1.out
      clear HR1
      have HI : Hid (∀ w, Calls Tryd.prog 32 #[.int .i64 n, .int .i64 0, .int .i64 ((kid i).fr - 1)] w fun e w' => e = .returned (.bool true) ∧ w' = w) := fun w => spec_in13 n 0 ((kid i).fr - 1) true (hb.symm.trans (in_bel n (kid i).fr).symm) w
      clear hb HL HR
      generalize (kid i).fr = F at *
      have hone := Later.one W
      have y0 := fun x : Later W => x.cell q0
      have y1 := fun x : Later W => x.cell q1
      have y2 := fun x : Later W => x.cell q2
      have y3 := fun x : Later W => x.cell f0
      have y4 := fun x : Later W => x.cell f1
      go_enter Tryd.func33, Tryd.ntmps33
      go_upto_region 1 with fail
      rw [← HWW.out.1, ← HWW.out.2]
      go_upto_region 8 with fail
      clear q0 q1 q2 f0 f1
      refine wp_region_later (by kernel_rfl) (by kernel_rfl) ?_
      repeat (go_big_quiet_step ((go_at_call 32; refine calls_later_same (HI.out _))))
      refine wpQuiet_nil ?_
      rintro _ ⟨x, rfl⟩
      go_wp2_with fail
      go_ret
      exact ⟨by rw [HR2.out]; rfl, HBL.out.trans (x.le.mono HBL.out.size)⟩
    | false =>
      rw [hb, Bool.false_and] at HR1
      have HR2 : Hid (R = false) := HR1.out
      clear HR1
      have HI : Hid (∀ w, Calls Tryd.prog 32 #[.int .i64 n, .int .i64 0, .int .i64 ((kid i).fr - 1)] w fun e w' => e = .returned (.bool false) ∧ w' = w) := fun w => spec_in13 n 0 ((kid i).fr - 1) false (hb.symm.trans (in_bel n (kid i).fr).symm) w
      clear hb HL HR
      generalize (kid i).fr = F at *
      have hone := Later.one W
      have y0 := fun x : Later W => x.cell q0
      have y1 := fun x : Later W => x.cell q1
      have y2 := fun x : Later W => x.cell q2
      have y3 := fun x : Later W => x.cell f0
      have y4 := fun x : Later W => x.cell f1
      go_enter Tryd.func33, Tryd.ntmps33
      go_upto_region 1 with fail
      rw [← HWW.out.1, ← HWW.out.2]
      go_upto_region 8 with fail
      clear q0 q1 q2 f0 f1
      refine wp_region_later (by kernel_rfl) (by kernel_rfl) ?_
      repeat (go_big_quiet_step ((go_at_call 32; refine calls_later_same (HI.out _))))
      refine wpQuiet_nil ?_
      rintro _ ⟨x, rfl⟩
      go_wp2_with fail
      go_ret
      exact ⟨by rw [HR2.out]; rfl, HBL.out.trans (x.le.mono HBL.out.size)⟩
  by_cases h4 : c = 4
  · subst h4
    have HR1 : Hid (R = (((n == 0) && !((i : Int) == 0)) && (m == 0))) := HR.out
    by_cases ha : i = 0
    · subst ha
      have HR2 : Hid (R = false) := by show _ = _; rw [HR1.out]; simp
      clear HR1
      clear HR HL
      go_enter Tryd.func33, Tryd.ntmps33
      go_upto_region 1 with fail
      rw [← HWW.out.1, ← HWW.out.2]
      go_wp2_with fail
      go_ret
      exact ⟨by rw [HR2.out]; rfl, HBL.out⟩
    · have g0 : (0 : Int) < i := by omega
      have e0 : ((i : Int) == 0) = false := by simp; omega
      cases hb : (n == 0) with
      | true =>
        have HR2 : Hid (R = (m == 0)) := by show _ = _; rw [HR1.out, hb, e0]; simp
        clear HR1 e0
        clear HR HL
        go_enter Tryd.func33, Tryd.ntmps33
        go_upto_region 1 with fail
        rw [← HWW.out.1, ← HWW.out.2]
        go_wp2_with fail
        go_ret
        exact ⟨by rw [HR2.out]; rfl, HBL.out⟩
      | false =>
        have HR2 : Hid (R = false) := by show _ = _; rw [HR1.out, hb]; simp
        clear HR1 e0
        clear HR HL
        go_enter Tryd.func33, Tryd.ntmps33
        go_upto_region 1 with fail
        rw [← HWW.out.1, ← HWW.out.2]
        go_wp2_with fail
        go_ret
        exact ⟨by rw [HR2.out]; rfl, HBL.out⟩
  by_cases h5 : c = 5
  · subst h5
    have HR1 : Hid (R = ((!(n == 0) && belB n nf) && (m == (kid n.toNat).fr))) := HR.out
    have HE : Hid ((decide (1 ≤ n) && decide (n ≤ (nf : Int) - 1)) = (!(n == 0) && belB n nf)) := by
      show _ = _
      unfold belB
      rw [Bool.eq_iff_iff]
      simp only [Bool.and_eq_true, decide_eq_true_eq, Bool.not_eq_true', beq_eq_false_iff_ne]
      omega
    cases hb : (!(n == 0) && belB n nf) with
    | true =>
      have HI : Hid (∀ w, Calls Tryd.prog 32 #[.int .i64 n, .int .i64 1, .int .i64 ((nf : Int) - 1)] w fun e w' => e = .returned (.bool true) ∧ w' = w) := fun w => spec_in13 n 1 ((nf : Int) - 1) true (hb.symm.trans HE.out.symm) w
      rw [hb, Bool.true_and] at HR1
      have hn : 1 ≤ n ∧ n ≤ (nf : Int) - 1 := by
        have := HE.out.trans hb
        simpa using this
      obtain ⟨j, rfl⟩ : ∃ j : Nat, n = j := ⟨n.toNat, by omega⟩
      have g0 := HL.out j (by omega)
      have hj' : (j : Int) < nf := by omega
      rw [Int.toNat_natCast] at HR1
      have HR2 : Hid (R = (m == (kid j).fr)) := HR1.out
      clear hb HL HR HR1 HE hn
      generalize (kid j).fr = F at *
      have hone := Later.one W
      have y0 := fun x : Later W => x.cell q0
      have y1 := fun x : Later W => x.cell q1
      have y2 := fun x : Later W => x.cell q2
      have y3 := fun x : Later W => x.cell f0
      have y4 := fun x : Later W => x.cell f1
      have y5 := fun x : Later W => x.cell g0
      go_enter Tryd.func33, Tryd.ntmps33
      go_upto_region 1 with fail
      rw [← HWW.out.1, ← HWW.out.2]
      go_upto_region 12 with fail
      clear q0 q1 q2 f0 f1 g0
      refine wp_region_later (by kernel_rfl) (by kernel_rfl) ?_
      repeat (go_big_quiet_step ((go_at_call 32; refine calls_later_same (HI.out _))))
      refine wpQuiet_nil ?_
      rintro _ ⟨x, rfl⟩
      go_wp2_with fail
      go_ret
      exact ⟨by rw [HR2.out]; rfl, HBL.out.trans (x.le.mono HBL.out.size)⟩
    | false =>
      have HI : Hid (∀ w, Calls Tryd.prog 32 #[.int .i64 n, .int .i64 1, .int .i64 ((nf : Int) - 1)] w fun e w' => e = .returned (.bool false) ∧ w' = w) := fun w => spec_in13 n 1 ((nf : Int) - 1) false (hb.symm.trans HE.out.symm) w
      rw [hb, Bool.false_and] at HR1
      have HR2 : Hid (R = false) := HR1.out
      clear hb HL HR HR1 HE
      have hone := Later.one W
      have y0 := fun x : Later W => x.cell q0
      have y1 := fun x : Later W => x.cell q1
      have y2 := fun x : Later W => x.cell q2
      have y3 := fun x : Later W => x.cell f0
      have y4 := fun x : Later W => x.cell f1
      go_enter Tryd.func33, Tryd.ntmps33
      go_upto_region 1 with fail
      rw [← HWW.out.1, ← HWW.out.2]
      go_upto_region 12 with fail
      clear q0 q1 q2 f0 f1
      refine wp_region_later (by kernel_rfl) (by kernel_rfl) ?_
      repeat (go_big_quiet_step ((go_at_call 32; refine calls_later_same (HI.out _))))
      refine wpQuiet_nil ?_
      rintro _ ⟨x, rfl⟩
      go_wp2_with fail
      go_ret
      exact ⟨by rw [HR2.out]; rfl, HBL.out.trans (x.le.mono HBL.out.size)⟩
  by_cases h8 : c = 8
  · subst h8
    have HR1 : Hid (R = (belB n 20 && (belB m 21))) := HR.out
    cases hb : belB n 20 with
    | true =>
      rw [hb, Bool.true_and] at HR1
      have HR2 : Hid (R = (belB m 21)) := HR1.out
      clear HR1
      have HG : Hid (∀ w, Calls Tryd.prog 43 #[.int .i64 n] w fun e w' => e = .returned (.bool true) ∧ w' = w) := fun w => spec_tag n true hb.symm w
      clear hb
      have HI : Hid (∀ w, Calls Tryd.prog 32 #[.int .i64 m, .int .i64 0, .int .i64 20] w fun e w' => e = .returned (.bool (belB m 21)) ∧ w' = w) := fun w => spec_in13 m 0 20 (belB m 21) (in_bel m 21).symm w
      clear HR HL
      go_enter Tryd.func33, Tryd.ntmps33
      go_upto_region 1 with fail
      rw [← HWW.out.1, ← HWW.out.2]
      go_wp2_with (first | (go_at_call 43; refine (HG.out _).mono ?_; rintro e w1 ⟨rfl, rfl⟩) | (go_at_call 32; refine (HI.out _).mono ?_; rintro e w1 ⟨rfl, rfl⟩))
      go_ret
      exact ⟨by rw [HR2.out]; rfl, HBL.out⟩
    | false =>
      rw [hb, Bool.false_and] at HR1
      have HR2 : Hid (R = false) := HR1.out
      clear HR1
      have HG : Hid (∀ w, Calls Tryd.prog 43 #[.int .i64 n] w fun e w' => e = .returned (.bool false) ∧ w' = w) := fun w => spec_tag n false hb.symm w
      clear hb
      have HI : Hid (∀ w, Calls Tryd.prog 32 #[.int .i64 m, .int .i64 0, .int .i64 20] w fun e w' => e = .returned (.bool (belB m 21)) ∧ w' = w) := fun w => spec_in13 m 0 20 (belB m 21) (in_bel m 21).symm w
      clear HR HL
      go_enter Tryd.func33, Tryd.ntmps33
      go_upto_region 1 with fail
      rw [← HWW.out.1, ← HWW.out.2]
      go_wp2_with (first | (go_at_call 43; refine (HG.out _).mono ?_; rintro e w1 ⟨rfl, rfl⟩) | (go_at_call 32; refine (HI.out _).mono ?_; rintro e w1 ⟨rfl, rfl⟩))
      go_ret
      exact ⟨by rw [HR2.out]; rfl, HBL.out⟩
  by_cases h9 : c = 9
  · subst h9
    have HR1 : Hid (R = (belB n 20 && (m == 0))) := HR.out
    cases hb : belB n 20 with
    | true =>
      rw [hb, Bool.true_and] at HR1
      have HR2 : Hid (R = (m == 0)) := HR1.out
      clear HR1
      have HG : Hid (∀ w, Calls Tryd.prog 43 #[.int .i64 n] w fun e w' => e = .returned (.bool true) ∧ w' = w) := fun w => spec_tag n true hb.symm w
      clear hb
      clear HR HL
      go_enter Tryd.func33, Tryd.ntmps33
      go_upto_region 1 with fail
      rw [← HWW.out.1, ← HWW.out.2]
      go_wp2_with (go_at_call 43; refine (HG.out _).mono ?_; rintro e w1 ⟨rfl, rfl⟩)
      go_ret
      exact ⟨by rw [HR2.out]; rfl, HBL.out⟩
    | false =>
      rw [hb, Bool.false_and] at HR1
      have HR2 : Hid (R = false) := HR1.out
      clear HR1
      have HG : Hid (∀ w, Calls Tryd.prog 43 #[.int .i64 n] w fun e w' => e = .returned (.bool false) ∧ w' = w) := fun w => spec_tag n false hb.symm w
      clear hb
      clear HR HL
      go_enter Tryd.func33, Tryd.ntmps33
      go_upto_region 1 with fail
      rw [← HWW.out.1, ← HWW.out.2]
      go_wp2_with (go_at_call 43; refine (HG.out _).mono ?_; rintro e w1 ⟨rfl, rfl⟩)
      go_ret
      exact ⟨by rw [HR2.out]; rfl, HBL.out⟩
  by_cases h10 : c = 10
  · subst h10
    have HR1 : Hid (R = (belB n 20 && (belB m ((kid i).len : Int)))) := HR.out
    cases hb : belB n 20 with
    | true =>
      rw [hb, Bool.true_and] at HR1
      have HR2 : Hid (R = (belB m ((kid i).len : Int))) := HR1.out
      clear HR1
      have HG : Hid (∀ w, Calls Tryd.prog 43 #[.int .i64 n] w fun e w' => e = .returned (.bool true) ∧ w' = w) := fun w => spec_tag n true hb.symm w
      clear hb
      have HI : Hid (∀ w, Calls Tryd.prog 32 #[.int .i64 m, .int .i64 0, .int .i64 (((kid i).len : Int) - 1)] w fun e w' => e = .returned (.bool (belB m ((kid i).len : Int))) ∧ w' = w) := fun w => spec_in13 m 0 (((kid i).len : Int) - 1) (belB m ((kid i).len : Int)) (in_bel m ((kid i).len : Int)).symm w
      clear HR HL
      go_enter Tryd.func33, Tryd.ntmps33
      go_upto_region 1 with fail
      rw [← HWW.out.1, ← HWW.out.2]
      go_wp2_with (first | (go_at_call 43; refine (HG.out _).mono ?_; rintro e w1 ⟨rfl, rfl⟩) | (go_at_call 32; refine (HI.out _).mono ?_; rintro e w1 ⟨rfl, rfl⟩))
      go_ret
      exact ⟨by rw [HR2.out]; rfl, HBL.out⟩
    | false =>
      rw [hb, Bool.false_and] at HR1
      have HR2 : Hid (R = false) := HR1.out
      clear HR1
      have HG : Hid (∀ w, Calls Tryd.prog 43 #[.int .i64 n] w fun e w' => e = .returned (.bool false) ∧ w' = w) := fun w => spec_tag n false hb.symm w
      clear hb
      have HI : Hid (∀ w, Calls Tryd.prog 32 #[.int .i64 m, .int .i64 0, .int .i64 (((kid i).len : Int) - 1)] w fun e w' => e = .returned (.bool (belB m ((kid i).len : Int))) ∧ w' = w) := fun w => spec_in13 m 0 (((kid i).len : Int) - 1) (belB m ((kid i).len : Int)) (in_bel m ((kid i).len : Int)).symm w
      clear HR HL
      go_enter Tryd.func33, Tryd.ntmps33
      go_upto_region 1 with fail
      rw [← HWW.out.1, ← HWW.out.2]
      go_wp2_with (first | (go_at_call 43; refine (HG.out _).mono ?_; rintro e w1 ⟨rfl, rfl⟩) | (go_at_call 32; refine (HI.out _).mono ?_; rintro e w1 ⟨rfl, rfl⟩))
      go_ret
      exact ⟨by rw [HR2.out]; rfl, HBL.out⟩
  by_cases h11 : c = 11
  · subst h11
    have HR1 : Hid (R = (wokB n && (belB m ((kid i).len : Int)))) := HR.out
    cases hb : wokB n with
    | true =>
      rw [hb, Bool.true_and] at HR1
      have HR2 : Hid (R = (belB m ((kid i).len : Int))) := HR1.out
      clear HR1
      have HW : Hid (∀ w, Calls Tryd.prog 42 #[.int .i64 n] w fun e w' => e = .returned (.bool true) ∧ w' = w) := fun w => by have := spec_wordOk n w; rw [hb] at this; exact this
      clear hb
      have HI : Hid (∀ w, Calls Tryd.prog 32 #[.int .i64 m, .int .i64 0, .int .i64 (((kid i).len : Int) - 1)] w fun e w' => e = .returned (.bool (belB m ((kid i).len : Int))) ∧ w' = w) := fun w => spec_in13 m 0 (((kid i).len : Int) - 1) (belB m ((kid i).len : Int)) (in_bel m ((kid i).len : Int)).symm w
      clear HR HL
      go_enter Tryd.func33, Tryd.ntmps33
      go_upto_region 1 with fail
      rw [← HWW.out.1, ← HWW.out.2]
      go_wp2_with (first | (go_at_call 42; refine (HW.out _).mono ?_; rintro e w1 ⟨rfl, rfl⟩) | (go_at_call 32; refine (HI.out _).mono ?_; rintro e w1 ⟨rfl, rfl⟩))
      go_ret
      exact ⟨by rw [HR2.out]; rfl, HBL.out⟩
    | false =>
      rw [hb, Bool.false_and] at HR1
      have HR2 : Hid (R = false) := HR1.out
      clear HR1
      have HW : Hid (∀ w, Calls Tryd.prog 42 #[.int .i64 n] w fun e w' => e = .returned (.bool false) ∧ w' = w) := fun w => by have := spec_wordOk n w; rw [hb] at this; exact this
      clear hb
      have HI : Hid (∀ w, Calls Tryd.prog 32 #[.int .i64 m, .int .i64 0, .int .i64 (((kid i).len : Int) - 1)] w fun e w' => e = .returned (.bool (belB m ((kid i).len : Int))) ∧ w' = w) := fun w => spec_in13 m 0 (((kid i).len : Int) - 1) (belB m ((kid i).len : Int)) (in_bel m ((kid i).len : Int)).symm w
      clear HR HL
      go_enter Tryd.func33, Tryd.ntmps33
      go_upto_region 1 with fail
      rw [← HWW.out.1, ← HWW.out.2]
      go_wp2_with (first | (go_at_call 42; refine (HW.out _).mono ?_; rintro e w1 ⟨rfl, rfl⟩) | (go_at_call 32; refine (HI.out _).mono ?_; rintro e w1 ⟨rfl, rfl⟩))
      go_ret
      exact ⟨by rw [HR2.out]; rfl, HBL.out⟩
  by_cases h18 : c = 18
  · subst h18
    have HR1 : Hid (R = (belB n ((kid i).len : Int) && (m == 0))) := HR.out
    cases hb : belB n ((kid i).len : Int) with
    | true =>
      rw [hb, Bool.true_and] at HR1
      have HR2 : Hid (R = (m == 0)) := HR1.out
      clear HR1
      have HI : Hid (∀ w, Calls Tryd.prog 32 #[.int .i64 n, .int .i64 0, .int .i64 (((kid i).len : Int) - 1)] w fun e w' => e = .returned (.bool true) ∧ w' = w) := fun w => spec_in13 n 0 (((kid i).len : Int) - 1) true (hb.symm.trans (in_bel n ((kid i).len : Int)).symm) w
      clear hb
      clear HR HL
      go_enter Tryd.func33, Tryd.ntmps33
      go_upto_region 1 with fail
      rw [← HWW.out.1, ← HWW.out.2]
      go_wp2_with (go_at_call 32; refine (HI.out _).mono ?_; rintro e w1 ⟨rfl, rfl⟩)
      go_ret
      exact ⟨by rw [HR2.out]; rfl, HBL.out⟩
    | false =>
      rw [hb, Bool.false_and] at HR1
      have HR2 : Hid (R = false) := HR1.out
      clear HR1
      have HI : Hid (∀ w, Calls Tryd.prog 32 #[.int .i64 n, .int .i64 0, .int .i64 (((kid i).len : Int) - 1)] w fun e w' => e = .returned (.bool false) ∧ w' = w) := fun w => spec_in13 n 0 (((kid i).len : Int) - 1) false (hb.symm.trans (in_bel n ((kid i).len : Int)).symm) w
      clear hb
      clear HR HL
      go_enter Tryd.func33, Tryd.ntmps33
      go_upto_region 1 with fail
      rw [← HWW.out.1, ← HWW.out.2]
      go_wp2_with (go_at_call 32; refine (HI.out _).mono ?_; rintro e w1 ⟨rfl, rfl⟩)
      go_ret
      exact ⟨by rw [HR2.out]; rfl, HBL.out⟩
  by_cases h19 : c = 19
  · subst h19
    have HR1 : Hid (R = (belB n ((kid i).len : Int) && (m == 0))) := HR.out
    cases hb : belB n ((kid i).len : Int) with
    | true =>
      rw [hb, Bool.true_and] at HR1
      have HR2 : Hid (R = (m == 0)) := HR1.out
      clear HR1
      have HI : Hid (∀ w, Calls Tryd.prog 32 #[.int .i64 n, .int .i64 0, .int .i64 (((kid i).len : Int) - 1)] w fun e w' => e = .returned (.bool true) ∧ w' = w) := fun w => spec_in13 n 0 (((kid i).len : Int) - 1) true (hb.symm.trans (in_bel n ((kid i).len : Int)).symm) w
      clear hb
      clear HR HL
      go_enter Tryd.func33, Tryd.ntmps33
      go_upto_region 1 with fail
      rw [← HWW.out.1, ← HWW.out.2]
      go_wp2_with (go_at_call 32; refine (HI.out _).mono ?_; rintro e w1 ⟨rfl, rfl⟩)
      go_ret
      exact ⟨by rw [HR2.out]; rfl, HBL.out⟩
    | false =>
      rw [hb, Bool.false_and] at HR1
      have HR2 : Hid (R = false) := HR1.out
      clear HR1
      have HI : Hid (∀ w, Calls Tryd.prog 32 #[.int .i64 n, .int .i64 0, .int .i64 (((kid i).len : Int) - 1)] w fun e w' => e = .returned (.bool false) ∧ w' = w) := fun w => spec_in13 n 0 (((kid i).len : Int) - 1) false (hb.symm.trans (in_bel n ((kid i).len : Int)).symm) w
      clear hb
      clear HR HL
      go_enter Tryd.func33, Tryd.ntmps33
      go_upto_region 1 with fail
      rw [← HWW.out.1, ← HWW.out.2]
      go_wp2_with (go_at_call 32; refine (HI.out _).mono ?_; rintro e w1 ⟨rfl, rfl⟩)
      go_ret
      exact ⟨by rw [HR2.out]; rfl, HBL.out⟩
  have HR1 : Hid (R = ((codeB c && (n == 0)) && (m == 0))) := by
    show _ = _
    rw [HR.out]
    unfold opOkF nOkF mOkF
    simp only
    rw [if_neg (by omega), if_neg h2, if_neg h3, if_neg h4, if_neg h5, if_neg (by omega), if_neg (by omega), if_neg h5, if_neg h8, if_neg (by omega)]
  have g1 : (c == 1) = false := by simpa using h1
  have g2 : (c == 2) = false := by simpa using h2
  have g3 : (c == 3) = false := by simpa using h3
  have g4 : (c == 4) = false := by simpa using h4
  have g5 : (c == 5) = false := by simpa using h5
  have g8 : (c == 8) = false := by simpa using h8
  have g9 : (c == 9) = false := by simpa using h9
  have g10 : (c == 10) = false := by simpa using h10
  have g11 : (c == 11) = false := by simpa using h11
  have g18 : (c == 18) = false := by simpa using h18
  have g19 : (c == 19) = false := by simpa using h19
  have HI : Hid (∀ w, Calls Tryd.prog 32 #[.int .i64 c, .int .i64 1, .int .i64 21] w fun e w' => e = .returned (.bool (codeB c)) ∧ w' = w) := fun w => spec_in13 c 1 21 (codeB c) rfl w
  clear h1 h2 h3 h4 h5 h8 h9 h10 h11 h18 h19 HR HL
  cases hb : codeB c with
  | true =>
    rw [hb] at HI HR1
    cases hn : (n == 0) with
    | true =>
      have HR2 : Hid (R = (m == 0)) := by show _ = _; rw [HR1.out, hn]; rfl
      clear hb HR1
      go_enter Tryd.func33, Tryd.ntmps33
      go_upto_region 1 with fail
      rw [← HWW.out.1, ← HWW.out.2]
      go_wp2_with (go_at_call 32; refine (HI.out _).mono ?_; rintro e w1 ⟨rfl, rfl⟩)
      go_ret
      exact ⟨by rw [HR2.out]; rfl, HBL.out⟩
    | false =>
      have HR2 : Hid (R = false) := by show _ = _; rw [HR1.out, hn]; rfl
      clear hb HR1
      go_enter Tryd.func33, Tryd.ntmps33
      go_upto_region 1 with fail
      rw [← HWW.out.1, ← HWW.out.2]
      go_wp2_with (go_at_call 32; refine (HI.out _).mono ?_; rintro e w1 ⟨rfl, rfl⟩)
      go_ret
      exact ⟨by rw [HR2.out]; rfl, HBL.out⟩
  | false =>
    rw [hb] at HI HR1
    have HR2 : Hid (R = false) := by show _ = _; rw [HR1.out]; rfl
    clear hb HR1
    go_enter Tryd.func33, Tryd.ntmps33
    go_upto_region 1 with fail
    rw [← HWW.out.1, ← HWW.out.2]
    go_wp2_with (go_at_call 32; refine (HI.out _).mono ?_; rintro e w1 ⟨rfl, rfl⟩)
    go_ret
    exact ⟨by rw [HR2.out]; rfl, HBL.out⟩
end Go.Proofs.YtocdpgogoadfnaaDoor
