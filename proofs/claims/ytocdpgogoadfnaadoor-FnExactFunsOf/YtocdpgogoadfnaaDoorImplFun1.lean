/- (funLook).isPlace, .numberOk, .secondOk, .opOk and impl.isEnd. Conditions: the table of names reads as its text lays it; the function is one of the list. Written by wip/tools/mkfunok.py. -/
import Derived.Test.YtocdpgogoadfnaaDoorFunOkP
import Derived.Test.YtocdpgogoadfnaaDoorLater
import Derived.Deep.Cut
namespace Go.Proofs.YtocdpgogoadfnaaDoor
open Go.ChangeShapes Go.WideShapes Go.ChangeAt Go.RowKit

/-- What stands of a list of functions. -/
structure FunsAt (w : World) (nf : Nat) (kid : Nat → Fu) (i b o cl : Nat) (pu : Option Addr) (cu : Nat) : Prop where
  fr : ∀ j, j < nf → w.cell? ⟨b, o + j * 2, none⟩ = some (.int .i64 (kid j).fr)
  sl : w.cell? ⟨b, o + i * 2 + 1, none⟩ = some (.slice pu (kid i).len cu)
  ln : (kid i).len ≤ maxLen ∧ nf ≤ maxLen
  op : ∀ k, k < (kid i).len → ∃ g q, pu = some ⟨g, q, none⟩ ∧ HeadO w g (q + k * 3) ((kid i).op k)
theorem FunsAt.below {w w' : World} {nf : Nat} {kid : Nat → Fu} {i b o cl : Nat} {pu : Option Addr} {cu : Nat} (h : FunsAt w nf kid i b o cl pu cu) (hb : Below w.heap.size w w') : FunsAt w' nf kid i b o cl pu cu :=
  ⟨fun j hj => keeps hb _ _ (h.fr j hj), keeps hb _ _ h.sl, h.ln, fun k hk => by obtain ⟨g, q, e, hh⟩ := h.op k hk; exact ⟨g, q, e, hh.below hb⟩⟩
theorem FlB.funsAt {w : World} {nf : Nat} {kid : Nat → Fu} {lv : Value} (h : Fl w nf kid lv) {i : Nat} (hi : i < nf) : ∃ b o cl pu cu, lv = .slice (some ⟨b, o, none⟩) nf cl ∧ FunsAt w nf kid i b o cl pu cu := by
  obtain ⟨pl, cl, el, hll, hal⟩ := h.at
  subst el
  obtain ⟨b, o, u, hp, hd, hin⟩ := hal i hi
  obtain ⟨pu, cu, eu, hlu, hat⟩ := hin.sl.at
  subst eu hp
  refine ⟨b, o, cl, pu, cu, rfl, ⟨fun j hj => ?_, hd.c1, ⟨hlu, hll⟩, fun k hk => ?_⟩⟩
  · obtain ⟨b2, o2, u2, hp2, hd2, -⟩ := hal j hj
    injection hp2 with hp2
    injection hp2 with e1 e2 _
    subst e1 e2
    exact hd2.c0
  · obtain ⟨g, q, e, hh, -⟩ := hat k hk
    exact ⟨g, q, e, hh⟩

set_option maxRecDepth 100000 in
set_option maxHeartbeats 2000000 in
theorem is_place (nf : Nat) (kid : Nat → Fu) (i : Nat) (hi : i < nf) (n : Int) (w : World) (b o cl : Nat) (pu : Option Addr) (cu : Nat) (hF : FunsAt w nf kid i b o cl pu cu) :
    Calls Tryd.prog 53 #[.agg #[.slice (some ⟨b, o, none⟩) nf cl, .int .i64 i], .int .i64 n] w fun e w' => e = .returned (.bool (belB n (kid i).len)) ∧ Below w.heap.size w w' := by
  obtain ⟨W, hW⟩ : ∃ W, W = w.alloc (.cells #[.slice (some ⟨b, o, none⟩) nf cl, .int .i64 i] 65) := ⟨_, rfl⟩
  obtain ⟨K, hK⟩ : ∃ K, K = w.heap.size := ⟨_, rfl⟩
  have nb1 : Below w.heap.size w W := by rw [hW]; exact newb w _
  have HBL : Hid (Below w.heap.size w W) := nb1
  have hbx : W.heap[K]? = some (.cells #[.slice (some ⟨b, o, none⟩) nf cl, .int .i64 i] 65 (0, 0)) := by rw [hW, hK]; exact heap_alloc_new w _
  have k0 : W.cell? ⟨K, 0, none⟩ = some (.slice (some ⟨b, o, none⟩) nf cl) := cell_of_row W K 0 _ _ _ hbx
  have k1 : W.cell? ⟨K, 1, none⟩ = some (.int .i64 i) := cell_of_row W K 1 _ _ _ hbx
  have f1 := (hF.below nb1).sl
  have hi' : (i : Int) < nf := by omega
  have hln := hF.ln
  have HWW : Hid (W = w.alloc (.cells #[.slice (some ⟨b, o, none⟩) nf cl, .int .i64 i] 65) ∧ K = w.heap.size) := ⟨hW, hK⟩
  have HI : Hid (∀ w, Calls Tryd.prog 35 #[.int .i64 n, .int .i64 ((kid i).len : Int)] w fun e w' => e = .returned (.bool (belB n (kid i).len)) ∧ w' = w) := fun w => is_below n (kid i).len _ rfl w
  clear hW hK hbx nb1 hF
  unfold maxLen at hln
  generalize belB n (kid i).len = R at *
  go_enter Tryd.func53, Tryd.ntmps53
  go_upto_region 1 with fail
  rw [← HWW.out.1, ← HWW.out.2]
  go_wp2_with (go_at_call 35; refine (HI.out _).mono ?_; rintro e w1 ⟨rfl, rfl⟩)
  go_ret
  exact ⟨rfl, HBL.out⟩

set_option maxRecDepth 100000 in
set_option maxHeartbeats 2000000 in
theorem is_end (c n m : Int) (w : World) : Calls Tryd.prog 45 #[.agg #[.int .i64 c, .int .i64 n, .int .i64 m]] w fun e w' => e = .returned (.bool (endB c)) ∧ Below w.heap.size w w' := by
  have HB : Hid (∀ o, Below w.heap.size w (w.alloc o)) := fun o => newb w o
  have HE : Hid (endB c = (((c == 7) || (c == 19)) || (c == 21))) := rfl
  cases h1 : (c == 7) with
  | true =>
    have HR : Hid (endB c = true) := by show _ = _; rw [HE.out, h1]; rfl
    rw [HR.out]
    clear HR HE
    go_enter Tryd.func45, Tryd.ntmps45
    go_wp2_with fail
    go_ret
    exact ⟨rfl, HB.out _⟩
  | false =>
    cases h2 : (c == 19) with
    | true =>
      have HR : Hid (endB c = true) := by show _ = _; rw [HE.out, h2]; simp
      rw [HR.out]
      clear HR HE
      go_enter Tryd.func45, Tryd.ntmps45
      go_wp2_with fail
      go_ret
      exact ⟨rfl, HB.out _⟩
    | false =>
      have HR : Hid (endB c = (c == 21)) := by show _ = _; rw [HE.out, h1, h2]; rfl
      rw [HR.out]
      clear HR HE
      go_enter Tryd.func45, Tryd.ntmps45
      go_wp2_with fail
      go_ret
      exact ⟨rfl, HB.out _⟩

set_option maxRecDepth 100000 in
set_option maxHeartbeats 8000000 in
theorem number_ok13 (nf : Nat) (kid : Nat → Fu) (i : Nat) (hi : i < nf) (c n m : Int) (w : World) (b o cl : Nat) (pu : Option Addr) (cu : Nat) (hF : FunsAt w nf kid i b o cl pu cu) :
    Calls Tryd.prog 50 #[.agg #[.slice (some ⟨b, o, none⟩) nf cl, .int .i64 i], .agg #[.int .i64 c, .int .i64 n, .int .i64 m]] w fun e w' => e = .returned (.bool (nOkF nf kid i c n)) ∧ Below w.heap.size w w' := by
  obtain ⟨W, hW⟩ : ∃ W, W = (w.alloc (.cells #[.slice (some ⟨b, o, none⟩) nf cl, .int .i64 i] 65)).alloc (.cells #[.int .i64 c, .int .i64 n, .int .i64 m] 47) := ⟨_, rfl⟩
  obtain ⟨K, hK⟩ : ∃ K, K = w.heap.size := ⟨_, rfl⟩
  have nb1 : Below w.heap.size w W := by rw [hW]; exact (newb w _).trans ((newb _ _).mono (by simp))
  have HBL : Hid (Below w.heap.size w W) := nb1
  have hbx : W.heap[K]? = some (.cells #[.slice (some ⟨b, o, none⟩) nf cl, .int .i64 i] 65 (0, 0)) := by
    rw [hW, hK, Below.heap_alloc _ _ _ (by simp)]; exact heap_alloc_new w _
  have hby : W.heap[K + 1]? = some (.cells #[.int .i64 c, .int .i64 n, .int .i64 m] 47 (0, 0)) := by
    rw [hW, hK]
    have := heap_alloc_new (w.alloc (.cells #[.slice (some ⟨b, o, none⟩) nf cl, .int .i64 i] 65)) (.cells #[.int .i64 c, .int .i64 n, .int .i64 m] 47)
    simpa using this
  have k0 : W.cell? ⟨K, 0, none⟩ = some (.slice (some ⟨b, o, none⟩) nf cl) := cell_of_row W K 0 _ _ _ hbx
  have k1 : W.cell? ⟨K, 1, none⟩ = some (.int .i64 i) := cell_of_row W K 1 _ _ _ hbx
  have q0 : W.cell? ⟨K + 1, 0, none⟩ = some (.int .i64 c) := cell_of_row W (K + 1) 0 _ _ _ hby
  have q1 : W.cell? ⟨K + 1, 1, none⟩ = some (.int .i64 n) := cell_of_row W (K + 1) 1 _ _ _ hby
  have q2 : W.cell? ⟨K + 1, 2, none⟩ = some (.int .i64 m) := cell_of_row W (K + 1) 2 _ _ _ hby
  have HF : Hid (FunsAt W nf kid i b o cl pu cu) := hF.below nb1
  have hi' : (i : Int) < nf := by omega
  have hln := hF.ln
  have HWW : Hid (W = (w.alloc (.cells #[.slice (some ⟨b, o, none⟩) nf cl, .int .i64 i] 65)).alloc (.cells #[.int .i64 c, .int .i64 n, .int .i64 m] 47) ∧ K = w.heap.size) := ⟨hW, hK⟩
  unfold maxLen at hln
  clear hW hK hbx hby nb1 hF
  obtain ⟨R, hR⟩ : ∃ R, nOkF nf kid i c n = R := ⟨_, rfl⟩
  rw [hR]
  have HR : Hid (R = nOkF nf kid i c n) := hR.symm
  clear hR
  by_cases h1 : c = 1
  · subst h1
    have HW : Hid (∀ w, Calls Tryd.prog 52 #[.int .i64 n] w fun e w' => e = .returned (.bool R) ∧ w' = w) := fun w => by have := impl_wordOk n w; rw [show wokB n = R from HR.out.symm] at this; exact this
    clear HR HF
    go_enter Tryd.func50, Tryd.ntmps50
    go_upto_region 1 with fail
    rw [← HWW.out.1, ← HWW.out.2]
    go_wp2_with (go_at_call 52; refine (HW.out _).mono ?_; rintro e w1 ⟨rfl, rfl⟩)
    go_ret
    exact ⟨rfl, HBL.out⟩
  by_cases h11 : c = 11
  · subst h11
    have HW : Hid (∀ w, Calls Tryd.prog 52 #[.int .i64 n] w fun e w' => e = .returned (.bool R) ∧ w' = w) := fun w => by have := impl_wordOk n w; rw [show wokB n = R from HR.out.symm] at this; exact this
    clear HR HF
    go_enter Tryd.func50, Tryd.ntmps50
    go_upto_region 1 with fail
    rw [← HWW.out.1, ← HWW.out.2]
    go_wp2_with (go_at_call 52; refine (HW.out _).mono ?_; rintro e w1 ⟨rfl, rfl⟩)
    go_ret
    exact ⟨rfl, HBL.out⟩
  by_cases h2 : c = 2
  · subst h2
    have HI : Hid (∀ w, Calls Tryd.prog 35 #[.int .i64 n, .int .i64 3000] w fun e w' => e = .returned (.bool R) ∧ w' = w) := fun w => is_below n 3000 R HR.out w
    clear HR HF
    go_enter Tryd.func50, Tryd.ntmps50
    go_upto_region 1 with fail
    rw [← HWW.out.1, ← HWW.out.2]
    go_wp2_with (go_at_call 35; refine (HI.out _).mono ?_; rintro e w1 ⟨rfl, rfl⟩)
    go_ret
    exact ⟨rfl, HBL.out⟩
  by_cases h3 : c = 3
  · subst h3
    have HI : Hid (∀ w, Calls Tryd.prog 35 #[.int .i64 n, .int .i64 (kid i).fr] w fun e w' => e = .returned (.bool R) ∧ w' = w) := fun w => is_below n (kid i).fr R HR.out w
    have f0 := HF.out.fr i hi
    clear HR HF
    generalize (kid i).fr = F at *
    have hone := Later.one W
    have y0 := fun x : Later W => x.cell k0
    have y1 := fun x : Later W => x.cell k1
    have y2 := fun x : Later W => x.cell q0
    have y3 := fun x : Later W => x.cell q1
    have y4 := fun x : Later W => x.cell q2
    have y5 := fun x : Later W => x.cell f0
    go_enter Tryd.func50, Tryd.ntmps50
    go_upto_region 1 with fail
    rw [← HWW.out.1, ← HWW.out.2]
    go_upto_region 8 with fail
    clear k0 k1 q0 q1 q2 f0
    refine wp_region_later (by kernel_rfl) (by kernel_rfl) ?_
    repeat (go_big_quiet_step ((go_at_call 35; refine calls_later_same (HI.out _))))
    refine wpQuiet_nil ?_
    rintro _ ⟨x, rfl⟩
    go_wp2_with fail
    go_ret
    exact ⟨rfl, HBL.out.trans (x.le.mono HBL.out.size)⟩
  by_cases h4 : c = 4
  · subst h4
    have HR1 : Hid (R = ((n == 0) && !((i : Int) == 0))) := HR.out
    cases hb : (n == 0) with
    | true =>
      rw [hb, Bool.true_and] at HR1
      have HR2 : Hid (R = ((i : Int) != 0)) := HR1.out
      clear HR1
      clear HR HF
      go_enter Tryd.func50, Tryd.ntmps50
      go_upto_region 1 with fail
      rw [← HWW.out.1, ← HWW.out.2]
      go_wp2_with fail
      go_ret
      exact ⟨by rw [HR2.out]; rfl, HBL.out⟩
    | false =>
      rw [hb, Bool.false_and] at HR1
      have HR2 : Hid (R = false) := HR1.out
      have hb2 : (n != 0) = true := by rw [bne, hb]; rfl
      clear HR1
      clear HR HF
      go_enter Tryd.func50, Tryd.ntmps50
      go_upto_region 1 with fail
      rw [← HWW.out.1, ← HWW.out.2]
      go_wp2_with fail
      go_ret
      exact ⟨by rw [HR2.out]; rfl, HBL.out⟩
  by_cases h5 : c = 5
  · subst h5
    have HR1 : Hid (R = (!(n == 0) && belB n nf)) := HR.out
    cases hb : (n == 0) with
    | true =>
      rw [hb] at HR1
      have HR2 : Hid (R = false) := HR1.out
      have hb2 : (n != 0) = false := by rw [bne, hb]; rfl
      clear HR1
      clear HR HF
      go_enter Tryd.func50, Tryd.ntmps50
      go_upto_region 1 with fail
      rw [← HWW.out.1, ← HWW.out.2]
      go_wp2_with fail
      go_ret
      exact ⟨by rw [HR2.out]; rfl, HBL.out⟩
    | false =>
      rw [hb] at HR1
      have HR2 : Hid (R = belB n nf) := HR1.out
      have hb2 : (n != 0) = true := by rw [bne, hb]; rfl
      have HI : Hid (∀ w, Calls Tryd.prog 35 #[.int .i64 n, .int .i64 (nf : Int)] w fun e w' => e = .returned (.bool R) ∧ w' = w) := fun w => is_below n nf R HR2.out w
      clear HR1
      clear HR HF
      go_enter Tryd.func50, Tryd.ntmps50
      go_upto_region 1 with fail
      rw [← HWW.out.1, ← HWW.out.2]
      go_wp2_with (go_at_call 35; refine (HI.out _).mono ?_; rintro e w1 ⟨rfl, rfl⟩)
      go_ret
      exact ⟨rfl, HBL.out⟩
  by_cases h8 : c = 8
  · subst h8
    have HI : Hid (∀ w, Calls Tryd.prog 35 #[.int .i64 n, .int .i64 20] w fun e w' => e = .returned (.bool R) ∧ w' = w) := fun w => is_below n 20 R HR.out w
    clear HR HF
    go_enter Tryd.func50, Tryd.ntmps50
    go_upto_region 1 with fail
    rw [← HWW.out.1, ← HWW.out.2]
    go_wp2_with (go_at_call 35; refine (HI.out _).mono ?_; rintro e w1 ⟨rfl, rfl⟩)
    go_ret
    exact ⟨rfl, HBL.out⟩
  by_cases h9 : c = 9
  · subst h9
    have HI : Hid (∀ w, Calls Tryd.prog 35 #[.int .i64 n, .int .i64 20] w fun e w' => e = .returned (.bool R) ∧ w' = w) := fun w => is_below n 20 R HR.out w
    clear HR HF
    go_enter Tryd.func50, Tryd.ntmps50
    go_upto_region 1 with fail
    rw [← HWW.out.1, ← HWW.out.2]
    go_wp2_with (go_at_call 35; refine (HI.out _).mono ?_; rintro e w1 ⟨rfl, rfl⟩)
    go_ret
    exact ⟨rfl, HBL.out⟩
  by_cases h10 : c = 10
  · subst h10
    have HI : Hid (∀ w, Calls Tryd.prog 35 #[.int .i64 n, .int .i64 20] w fun e w' => e = .returned (.bool R) ∧ w' = w) := fun w => is_below n 20 R HR.out w
    clear HR HF
    go_enter Tryd.func50, Tryd.ntmps50
    go_upto_region 1 with fail
    rw [← HWW.out.1, ← HWW.out.2]
    go_wp2_with (go_at_call 35; refine (HI.out _).mono ?_; rintro e w1 ⟨rfl, rfl⟩)
    go_ret
    exact ⟨rfl, HBL.out⟩
  by_cases h18 : c = 18
  · subst h18
    have HP : Hid (Calls Tryd.prog 53 #[.agg #[.slice (some ⟨b, o, none⟩) nf cl, .int .i64 i], .int .i64 n] W fun e w' => e = .returned (.bool R) ∧ Below W.heap.size W w') := by rw [HR.out]; exact is_place nf kid i hi n W b o cl pu cu HF.out
    clear HR HF
    go_enter Tryd.func50, Tryd.ntmps50
    go_upto_region 1 with fail
    rw [← HWW.out.1, ← HWW.out.2]
    go_wp2_with fail
    refine HP.out.mono ?_
    rintro e w1 ⟨rfl, hb1⟩
    have HB1 : Hid (Below w.heap.size w w1) := HBL.out.trans (hb1.mono HBL.out.size)
    clear hb1
    go_wp2_with fail
    go_ret
    exact ⟨rfl, HB1.out⟩
  by_cases h19 : c = 19
  · subst h19
    have HP : Hid (Calls Tryd.prog 53 #[.agg #[.slice (some ⟨b, o, none⟩) nf cl, .int .i64 i], .int .i64 n] W fun e w' => e = .returned (.bool R) ∧ Below W.heap.size W w') := by rw [HR.out]; exact is_place nf kid i hi n W b o cl pu cu HF.out
    clear HR HF
    go_enter Tryd.func50, Tryd.ntmps50
    go_upto_region 1 with fail
    rw [← HWW.out.1, ← HWW.out.2]
    go_wp2_with fail
    refine HP.out.mono ?_
    rintro e w1 ⟨rfl, hb1⟩
    have HB1 : Hid (Below w.heap.size w w1) := HBL.out.trans (hb1.mono HBL.out.size)
    clear hb1
    go_wp2_with fail
    go_ret
    exact ⟨rfl, HB1.out⟩
  have HR2 : Hid (R = (n == 0)) := HR.out.trans (by unfold nOkF; rw [if_neg (by omega), if_neg h2, if_neg h3, if_neg h4, if_neg h5, if_neg (by omega), if_neg (by omega)])
  have g1 : (c == 1) = false := by simpa using h1
  have g2 : (c == 2) = false := by simpa using h2
  have g3 : (c == 3) = false := by simpa using h3
  have g4 : (c == 4) = false := by simpa using h4
  have g5 : (c == 5) = false := by simpa using h5
  have g8 : (c == 8) = false := by simpa using h8
  have g9 : (c == 9) = false := by simpa using h9
  have g10 : (c == 10) = false := by simpa using h10
  have g11 : (c == 11) = false := by simpa using h11
  have g18 : (c == 18) = false := by simpa using h18
  have g19 : (c == 19) = false := by simpa using h19
  clear h1 h2 h3 h4 h5 h8 h9 h10 h11 h18 h19
  clear HR HF
  go_enter Tryd.func50, Tryd.ntmps50
  go_upto_region 1 with fail
  rw [← HWW.out.1, ← HWW.out.2]
  go_wp2_with fail
  go_ret
  exact ⟨by rw [HR2.out]; rfl, HBL.out⟩

set_option maxRecDepth 100000 in
set_option maxHeartbeats 8000000 in
theorem second_ok13 (nf : Nat) (kid : Nat → Fu) (i : Nat) (hi : i < nf) (c n m : Int) (h5n : c = 5 → 0 ≤ n ∧ n < nf) (w : World) (b o cl : Nat) (pu : Option Addr) (cu : Nat) (hF : FunsAt w nf kid i b o cl pu cu) :
    Calls Tryd.prog 51 #[.agg #[.slice (some ⟨b, o, none⟩) nf cl, .int .i64 i], .agg #[.int .i64 c, .int .i64 n, .int .i64 m]] w fun e w' => e = .returned (.bool (mOkF kid i c n m)) ∧ Below w.heap.size w w' := by
  obtain ⟨W, hW⟩ : ∃ W, W = (w.alloc (.cells #[.slice (some ⟨b, o, none⟩) nf cl, .int .i64 i] 65)).alloc (.cells #[.int .i64 c, .int .i64 n, .int .i64 m] 47) := ⟨_, rfl⟩
  obtain ⟨K, hK⟩ : ∃ K, K = w.heap.size := ⟨_, rfl⟩
  have nb1 : Below w.heap.size w W := by rw [hW]; exact (newb w _).trans ((newb _ _).mono (by simp))
  have HBL : Hid (Below w.heap.size w W) := nb1
  have hbx : W.heap[K]? = some (.cells #[.slice (some ⟨b, o, none⟩) nf cl, .int .i64 i] 65 (0, 0)) := by
    rw [hW, hK, Below.heap_alloc _ _ _ (by simp)]; exact heap_alloc_new w _
  have hby : W.heap[K + 1]? = some (.cells #[.int .i64 c, .int .i64 n, .int .i64 m] 47 (0, 0)) := by
    rw [hW, hK]
    have := heap_alloc_new (w.alloc (.cells #[.slice (some ⟨b, o, none⟩) nf cl, .int .i64 i] 65)) (.cells #[.int .i64 c, .int .i64 n, .int .i64 m] 47)
    simpa using this
  have k0 : W.cell? ⟨K, 0, none⟩ = some (.slice (some ⟨b, o, none⟩) nf cl) := cell_of_row W K 0 _ _ _ hbx
  have k1 : W.cell? ⟨K, 1, none⟩ = some (.int .i64 i) := cell_of_row W K 1 _ _ _ hbx
  have q0 : W.cell? ⟨K + 1, 0, none⟩ = some (.int .i64 c) := cell_of_row W (K + 1) 0 _ _ _ hby
  have q1 : W.cell? ⟨K + 1, 1, none⟩ = some (.int .i64 n) := cell_of_row W (K + 1) 1 _ _ _ hby
  have q2 : W.cell? ⟨K + 1, 2, none⟩ = some (.int .i64 m) := cell_of_row W (K + 1) 2 _ _ _ hby
  have HF : Hid (FunsAt W nf kid i b o cl pu cu) := hF.below nb1
  have hi' : (i : Int) < nf := by omega
  have hln := hF.ln
  have HWW : Hid (W = (w.alloc (.cells #[.slice (some ⟨b, o, none⟩) nf cl, .int .i64 i] 65)).alloc (.cells #[.int .i64 c, .int .i64 n, .int .i64 m] 47) ∧ K = w.heap.size) := ⟨hW, hK⟩
  unfold maxLen at hln
  clear hW hK hbx hby nb1 hF
  obtain ⟨R, hR⟩ : ∃ R, mOkF kid i c n m = R := ⟨_, rfl⟩
  rw [hR]
  have HR : Hid (R = mOkF kid i c n m) := hR.symm
  clear hR
  by_cases h5 : c = 5
  · have h5m := h5n h5
    clear h5n
    subst h5
    obtain ⟨n0, n1⟩ := h5m
    obtain ⟨j, rfl⟩ : ∃ j : Nat, n = j := ⟨n.toNat, by omega⟩
    have HR2 : Hid (R = (m == (kid j).fr)) := HR.out
    have g0 := HF.out.fr j (by omega)
    clear HR HF
    generalize (kid j).fr = F at *
    have hone := Later.one W
    have y0 := fun x : Later W => x.cell k0
    have y1 := fun x : Later W => x.cell k1
    have y2 := fun x : Later W => x.cell q0
    have y3 := fun x : Later W => x.cell q1
    have y4 := fun x : Later W => x.cell q2
    have y5 := fun x : Later W => x.cell g0
    go_enter Tryd.func51, Tryd.ntmps51
    go_upto_region 1 with fail
    rw [← HWW.out.1, ← HWW.out.2]
    go_upto_region 3 with fail
    clear k0 k1 q0 q1 q2 g0
    refine wp_region_later (by kernel_rfl) (by kernel_rfl) ?_
    repeat (go_big_quiet_step (fail))
    refine wpQuiet_nil ?_
    rintro _ ⟨x, rfl⟩
    go_wp2_with fail
    go_ret
    exact ⟨by rw [HR2.out]; rfl, HBL.out.trans (x.le.mono HBL.out.size)⟩
  clear h5n
  by_cases h8 : c = 8
  · subst h8
    have HI : Hid (∀ w, Calls Tryd.prog 35 #[.int .i64 m, .int .i64 21] w fun e w' => e = .returned (.bool R) ∧ w' = w) := fun w => is_below m 21 R HR.out w
    clear HR HF
    go_enter Tryd.func51, Tryd.ntmps51
    go_upto_region 1 with fail
    rw [← HWW.out.1, ← HWW.out.2]
    go_wp2_with (go_at_call 35; refine (HI.out _).mono ?_; rintro e w1 ⟨rfl, rfl⟩)
    go_ret
    exact ⟨rfl, HBL.out⟩
  by_cases h10 : c = 10
  · subst h10
    have HP : Hid (Calls Tryd.prog 53 #[.agg #[.slice (some ⟨b, o, none⟩) nf cl, .int .i64 i], .int .i64 m] W fun e w' => e = .returned (.bool R) ∧ Below W.heap.size W w') := by rw [HR.out]; exact is_place nf kid i hi m W b o cl pu cu HF.out
    clear HR HF
    go_enter Tryd.func51, Tryd.ntmps51
    go_upto_region 1 with fail
    rw [← HWW.out.1, ← HWW.out.2]
    go_wp2_with fail
    refine HP.out.mono ?_
    rintro e w1 ⟨rfl, hb1⟩
    have HB1 : Hid (Below w.heap.size w w1) := HBL.out.trans (hb1.mono HBL.out.size)
    clear hb1
    go_wp2_with fail
    go_ret
    exact ⟨rfl, HB1.out⟩
  by_cases h11 : c = 11
  · subst h11
    have HP : Hid (Calls Tryd.prog 53 #[.agg #[.slice (some ⟨b, o, none⟩) nf cl, .int .i64 i], .int .i64 m] W fun e w' => e = .returned (.bool R) ∧ Below W.heap.size W w') := by rw [HR.out]; exact is_place nf kid i hi m W b o cl pu cu HF.out
    clear HR HF
    go_enter Tryd.func51, Tryd.ntmps51
    go_upto_region 1 with fail
    rw [← HWW.out.1, ← HWW.out.2]
    go_wp2_with fail
    refine HP.out.mono ?_
    rintro e w1 ⟨rfl, hb1⟩
    have HB1 : Hid (Below w.heap.size w w1) := HBL.out.trans (hb1.mono HBL.out.size)
    clear hb1
    go_wp2_with fail
    go_ret
    exact ⟨rfl, HB1.out⟩
  have HR2 : Hid (R = (m == 0)) := HR.out.trans (by unfold mOkF; rw [if_neg h5, if_neg h8, if_neg (by omega)])
  have g5 : (c == 5) = false := by simpa using h5
  have g8 : (c == 8) = false := by simpa using h8
  have g10 : (c == 10) = false := by simpa using h10
  have g11 : (c == 11) = false := by simpa using h11
  clear h5 h8 h10 h11
  clear HR HF
  go_enter Tryd.func51, Tryd.ntmps51
  go_upto_region 1 with fail
  rw [← HWW.out.1, ← HWW.out.2]
  go_wp2_with fail
  go_ret
  exact ⟨by rw [HR2.out]; rfl, HBL.out⟩

theorem five_place {nf : Nat} {kid : Nat → Fu} {i : Nat} {c n : Int} (h : nOkF nf kid i c n = true) (h5 : c = 5) : 0 ≤ n ∧ n < nf := by
  subst h5
  have h1 : (!(n == 0) && belB n nf) = true := h
  unfold belB at h1
  simp only [Bool.and_eq_true, decide_eq_true_eq] at h1
  exact h1.2

set_option maxRecDepth 100000 in
set_option maxHeartbeats 8000000 in
theorem op_ok13 (nf : Nat) (kid : Nat → Fu) (i : Nat) (hi : i < nf) (c n m : Int) (w : World) (b o cl : Nat) (pu : Option Addr) (cu : Nat) (hF : FunsAt w nf kid i b o cl pu cu) (ht : NameTab w) :
    Calls Tryd.prog 46 #[.agg #[.slice (some ⟨b, o, none⟩) nf cl, .int .i64 i], .agg #[.int .i64 c, .int .i64 n, .int .i64 m]] w fun e w' => e = .returned (.bool (opOkF nf kid i ⟨c, n, m⟩)) ∧ Below w.heap.size w w' := by
  obtain ⟨W, hW⟩ : ∃ W, W = (w.alloc (.cells #[.slice (some ⟨b, o, none⟩) nf cl, .int .i64 i] 65)).alloc (.cells #[.int .i64 c, .int .i64 n, .int .i64 m] 47) := ⟨_, rfl⟩
  obtain ⟨K, hK⟩ : ∃ K, K = w.heap.size := ⟨_, rfl⟩
  have nb1 : Below w.heap.size w W := by rw [hW]; exact (newb w _).trans ((newb _ _).mono (by simp))
  have HBL : Hid (Below w.heap.size w W) := nb1
  have hbx : W.heap[K]? = some (.cells #[.slice (some ⟨b, o, none⟩) nf cl, .int .i64 i] 65 (0, 0)) := by
    rw [hW, hK, Below.heap_alloc _ _ _ (by simp)]; exact heap_alloc_new w _
  have hby : W.heap[K + 1]? = some (.cells #[.int .i64 c, .int .i64 n, .int .i64 m] 47 (0, 0)) := by
    rw [hW, hK]
    have := heap_alloc_new (w.alloc (.cells #[.slice (some ⟨b, o, none⟩) nf cl, .int .i64 i] 65)) (.cells #[.int .i64 c, .int .i64 n, .int .i64 m] 47)
    simpa using this
  have k0 : W.cell? ⟨K, 0, none⟩ = some (.slice (some ⟨b, o, none⟩) nf cl) := cell_of_row W K 0 _ _ _ hbx
  have k1 : W.cell? ⟨K, 1, none⟩ = some (.int .i64 i) := cell_of_row W K 1 _ _ _ hbx
  have q0 : W.cell? ⟨K + 1, 0, none⟩ = some (.int .i64 c) := cell_of_row W (K + 1) 0 _ _ _ hby
  have q1 : W.cell? ⟨K + 1, 1, none⟩ = some (.int .i64 n) := cell_of_row W (K + 1) 1 _ _ _ hby
  have q2 : W.cell? ⟨K + 1, 2, none⟩ = some (.int .i64 m) := cell_of_row W (K + 1) 2 _ _ _ hby
  have HF : Hid (FunsAt W nf kid i b o cl pu cu) := hF.below nb1
  have hi' : (i : Int) < nf := by omega
  have hln := hF.ln
  have HWW : Hid (W = (w.alloc (.cells #[.slice (some ⟨b, o, none⟩) nf cl, .int .i64 i] 65)).alloc (.cells #[.int .i64 c, .int .i64 n, .int .i64 m] 47) ∧ K = w.heap.size) := ⟨hW, hK⟩
  unfold maxLen at hln
  clear hW hK hbx hby nb1 hF
  have HCL : Hid (∀ wx, Below W.heap.size W wx → wx.cell? ⟨K, 0, none⟩ = some (.slice (some ⟨b, o, none⟩) nf cl) ∧ wx.cell? ⟨K, 1, none⟩ = some (.int .i64 i) ∧ wx.cell? ⟨K + 1, 0, none⟩ = some (.int .i64 c) ∧ wx.cell? ⟨K + 1, 1, none⟩ = some (.int .i64 n) ∧ wx.cell? ⟨K + 1, 2, none⟩ = some (.int .i64 m)) :=
    fun wx h => ⟨keeps h _ _ k0, keeps h _ _ k1, keeps h _ _ q0, keeps h _ _ q1, keeps h _ _ q2⟩
  have HNT : Hid (NameTab W) := ht.below HBL.out
  have HE : Hid (∀ wq, Calls Tryd.prog 49 #[nameV (nameL c)] wq fun e w' => e = .returned (.bool (!(codeB c))) ∧ Below wq.heap.size wq w') := fun wq => is_empty (nameL c) _ (empty_code c).symm wq
  obtain ⟨R, hR⟩ : ∃ R, opOkF nf kid i ⟨c, n, m⟩ = R := ⟨_, rfl⟩
  rw [hR]
  have HR : Hid (R = ((codeB c && nOkF nf kid i c n) && mOkF kid i c n m)) := hR.symm
  clear hR ht
  go_enter Tryd.func46, Tryd.ntmps46
  go_upto_region 1 with fail
  rw [← HWW.out.1, ← HWW.out.2]
  go_wp2_with fail
  refine (name_of_code c _ HNT.out).mono ?_
  rintro e w1 ⟨rfl, hb1⟩
  clear k0 k1 q0 q1 q2
  have B1 : Hid (Below W.heap.size W w1) := hb1
  clear hb1
  unfold nameV
  go_wp2_with fail
  refine (HE.out _).mono ?_
  rintro e w2 ⟨rfl, hb2⟩
  have B2 : Hid (Below W.heap.size W w2) := B1.out.trans (hb2.mono B1.out.size)
  clear hb2 B1
  obtain ⟨k0, k1, q0, q1, q2⟩ := HCL.out w2 B2.out
  have HE2 : Hid (Below w.heap.size w w2) := HBL.out.trans (B2.out.mono HBL.out.size)
  cases hcb : codeB c with
  | false =>
    have HR2 : Hid (R = false) := by show _ = _; rw [HR.out, hcb]; rfl
    go_wp2_with fail
    go_ret
    exact ⟨by rw [HR2.out]; rfl, HE2.out⟩
  | true =>
    have HN : Hid (Calls Tryd.prog 50 #[.agg #[.slice (some ⟨b, o, none⟩) nf cl, .int .i64 i], .agg #[.int .i64 c, .int .i64 n, .int .i64 m]] w2 fun e w' => e = .returned (.bool (nOkF nf kid i c n)) ∧ Below w2.heap.size w2 w') := number_ok13 nf kid i hi c n m w2 b o cl pu cu (HF.out.below B2.out)
    go_wp2_with fail
    refine HN.out.mono ?_
    rintro e w3 ⟨rfl, hb3⟩
    have B3 : Hid (Below W.heap.size W w3) := B2.out.trans (hb3.mono B2.out.size)
    clear hb3 k0 k1 q0 q1 q2 HN
    obtain ⟨k0, k1, q0, q1, q2⟩ := HCL.out w3 B3.out
    have HE3 : Hid (Below w.heap.size w w3) := HBL.out.trans (B3.out.mono HBL.out.size)
    cases hnb : nOkF nf kid i c n with
    | false =>
      have HR2 : Hid (R = false) := by show _ = _; rw [HR.out, hnb]; simp
      go_wp2_with fail
      go_ret
      exact ⟨by rw [HR2.out]; rfl, HE3.out⟩
    | true =>
      have HR2 : Hid (R = mOkF kid i c n m) := by show _ = _; rw [HR.out, hcb, hnb]; rfl
      have HM : Hid (Calls Tryd.prog 51 #[.agg #[.slice (some ⟨b, o, none⟩) nf cl, .int .i64 i], .agg #[.int .i64 c, .int .i64 n, .int .i64 m]] w3 fun e w' => e = .returned (.bool R) ∧ Below w3.heap.size w3 w') := by
        rw [HR2.out]
        exact second_ok13 nf kid i hi c n m (five_place hnb) w3 b o cl pu cu (HF.out.below B3.out)
      go_wp2_with fail
      refine HM.out.mono ?_
      rintro e w4 ⟨rfl, hb4⟩
      have HE4 : Hid (Below w.heap.size w w4) := HE3.out.trans (hb4.mono HE3.out.size)
      clear hb4
      go_wp2_with fail
      go_ret
      exact ⟨rfl, HE4.out⟩
end Go.Proofs.YtocdpgogoadfnaaDoor
