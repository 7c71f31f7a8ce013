/- impl.blockHead's methods, impl.headOf: what a header tells. Conditions: a word of 64 bits. -/
import Derived.Test.YtgcegjgjegkahabHeapOkP
import Derived.Deep.QuietTactic
import Derived.BigQuiet
namespace Go.Proofs.Ytgcegjgjegkahab
open Go.ChangeShapes Go.WideShapes Go.ChangeAt Go.RowKit

abbrev bhV (f : Bool) (t k : Int) : Value := .agg #[.bool f, .int .i64 t, .int .i64 k]
def bhOk (t k : Int) : Bool := (decide (0 ≤ t) && decide (t < 3001)) && (decide (0 ≤ k) && decide (k < 21))

theorem impl_bhok (f : Bool) (t k : Int) (w : World) : Calls Try.prog 64 #[bhV f t k] w fun e w' => e = .returned (.bool (bhOk t k)) ∧ Below w.heap.size w w' := by
  have H1 : Hid (∀ w, Calls Try.prog 77 #[.int .i64 t, .int .i64 3001] w fun r w' => r = .returned (.bool (decide (0 ≤ t) && decide (t < 3001))) ∧ w' = w) := fun w => below17 t 3001 _ rfl w
  have H2 : Hid (∀ w, Calls Try.prog 77 #[.int .i64 k, .int .i64 21] w fun r w' => r = .returned (.bool (decide (0 ≤ k) && decide (k < 21))) ∧ w' = w) := fun w => below17 k 21 _ rfl w
  have HO : Hid (bhOk t k = ((decide (0 ≤ t) && decide (t < 3001)) && (decide (0 ≤ k) && decide (k < 21)))) := rfl
  cases h1 : (decide (0 ≤ t) && decide (t < 3001)) with
  | false =>
    rw [h1] at H1 HO
    clear h1
    go_enter Try.func64, Try.ntmps64
    go_wp2_with fail
    refine (H1.out _).mono ?_
    rintro e w1 ⟨rfl, rfl⟩
    go_wp2_with fail
    go_ret
    exact ⟨by rw [HO.out]; rfl, new_below _ _⟩
  | true =>
    rw [h1] at H1 HO
    clear h1
    go_enter Try.func64, Try.ntmps64
    go_wp2_with fail
    refine (H1.out _).mono ?_
    rintro e w1 ⟨rfl, rfl⟩
    go_wp2_with fail
    refine (H2.out _).mono ?_
    rintro e w1 ⟨rfl, rfl⟩
    go_wp2_with fail
    go_ret
    exact ⟨by rw [HO.out]; rfl, new_below _ _⟩

theorem impl_bhsize (f : Bool) (t k : Int) (w : World) (h0 : 0 ≤ k) (h1 : k ≤ 4194304) : Calls Try.prog 85 #[bhV f t k] w fun e w' => e = .returned (.int .i64 (1 + k)) ∧ Below w.heap.size w w' := by
  go_enter Try.func85, Try.ntmps85
  go_wp2
  go_ret
  exact ⟨rfl, new_below _ _⟩

theorem head_ok (x : Int) : (!evenW x && bhOk ((x / 2 / 2).tdiv 64) ((x / 2 / 2).tmod 64)) = headB x := by
  by_cases h0 : 0 ≤ x
  · have e1 : (x / 2 / 2).tdiv 64 = tagW x := Int.tdiv_eq_ediv_of_nonneg (by omega)
    have e2 : (x / 2 / 2).tmod 64 = manyW x := Int.tmod_eq_emod_of_nonneg (by omega)
    have := tag_nonneg h0
    have := many_nonneg x
    rw [e1, e2, headB, bhOk, Bool.eq_iff_iff]
    simp only [Bool.and_eq_true, decide_eq_true_eq, Bool.not_eq_true']
    constructor
    · rintro ⟨a1, ⟨_, a2⟩, _, a3⟩; exact ⟨h0, a1, by omega, by omega⟩
    · rintro ⟨_, a1, a2, a3⟩; exact ⟨a1, ⟨by omega, by omega⟩, by omega, by omega⟩
  · have hb : headB x = false := by
      cases hh : headB x with
      | true => exact absurd (head_iff.1 hh).1 h0
      | false => rfl
    rw [hb]
    obtain ⟨z, hz⟩ : ∃ z, x / 2 / 2 = -z := ⟨-(x / 2 / 2), by omega⟩
    have hz1 : 1 ≤ z := by omega
    have e1 : (x / 2 / 2).tdiv 64 = -(z / 64) := by rw [hz, Int.neg_tdiv, Int.tdiv_eq_ediv_of_nonneg (by omega)]
    have e2 : (x / 2 / 2).tmod 64 = -(z % 64) := by rw [hz, Int.neg_tmod, Int.tmod_eq_emod_of_nonneg (by omega)]
    rw [e1, e2, Bool.and_eq_false_iff]
    right
    unfold bhOk
    simp only [Bool.and_eq_false_iff, decide_eq_false_iff_not]
    omega

/-- What headOf answers. -/
def HeadRet (B : Nat) (w : World) (x : Int) (e : Ending) (w' : World) : Prop :=
  ∃ f t k, e = .returned (.tuple #[bhV f t k, .bool (headB x)]) ∧ Below B w w' ∧ (headB x = true → f = funW x ∧ t = tagW x ∧ k = manyW x)

set_option maxRecDepth 100000 in
set_option maxHeartbeats 1000000 in
theorem impl_headof (x : Int) (w : World) (h0 : -9223372036854775808 ≤ x) (h1 : x ≤ 9223372036854775807) :
    Calls Try.prog 59 #[.int .i64 x] w (HeadRet w.heap.size w x) := by
  have H1 : Hid (∀ w, Calls Try.prog 44 #[.int .i64 x] w fun e w' => e = .returned (.int .i64 (x / 2)) ∧ w' = w) := fun w => impl_wordInt x w
  have H2 : Hid (∀ w, Calls Try.prog 79 #[.int .i64 (x / 2)] w fun e w' => e = .returned (.int .i64 (x / 2 / 2)) ∧ w' = w) := fun w => impl_half (x / 2) w
  have H3 : Hid (∀ w, Calls Try.prog 48 #[.int .i64 x] w fun e w' => e = .returned (.bool (evenW x)) ∧ w' = w) := fun w => impl_isRef x w
  obtain ⟨nb, hnb⟩ : ∃ b : Bool, b = ((x / 2).tmod 2 != 0) := ⟨_, rfl⟩
  obtain ⟨t, ht⟩ : ∃ t, t = (x / 2 / 2).tdiv 64 := ⟨_, rfl⟩
  obtain ⟨k, hk⟩ : ∃ k, k = (x / 2 / 2).tmod 64 := ⟨_, rfl⟩
  have HV : Hid (headB x = true → nb = funW x ∧ t = tagW x ∧ k = manyW x) := fun hh => by
    have hx := (head_iff.1 hh).1
    refine ⟨?_, by rw [ht]; exact Int.tdiv_eq_ediv_of_nonneg (by omega), by rw [hk]; exact Int.tmod_eq_emod_of_nonneg (by omega)⟩
    rw [hnb, funW, Int.tmod_eq_emod_of_nonneg (by omega), Bool.eq_iff_iff, bne_iff_ne, beq_iff_eq]
    omega
  have HH : Hid (headB x = (!evenW x && bhOk t k)) := by show _ = _; rw [ht, hk, head_ok]
  have HOK : Hid (∀ w, Calls Try.prog 64 #[bhV nb t k] w fun e w' => e = .returned (.bool (bhOk t k)) ∧ Below w.heap.size w w') := fun w => impl_bhok nb t k w
  obtain ⟨A, hA⟩ : ∃ A, A = (w.alloc (.cells #[.bool false, .int .i64 0, .int .i64 0] 61)).alloc (.cells #[.bool nb, .int .i64 t, .int .i64 k] 61) := ⟨_, rfl⟩
  have HA : Hid (Below w.heap.size w A ∧ A.heap.size = w.heap.size + 2 ∧ A.heap[w.heap.size]? = some (.cells #[.bool false, .int .i64 0, .int .i64 0] 61 (0, 0)) ∧ A.heap[w.heap.size + 1]? = some (.cells #[.bool nb, .int .i64 t, .int .i64 k] 61 (0, 0))) := by
    show _ ∧ _ ∧ _ ∧ _
    rw [hA]
    refine ⟨((Below.refl _ _).alloc (Nat.le_refl _) _).alloc (by simp) _, by simp, (Below.heap_alloc _ _ _ (by simp)).trans (heap_alloc_last _ _), ?_⟩
    have := heap_alloc_last (w.alloc (.cells #[.bool false, .int .i64 0, .int .i64 0] 61)) (.cells #[.bool nb, .int .i64 t, .int .i64 k] 61)
    simpa using this
  have a0 := cell_of_row A _ 0 _ _ _ HA.out.2.2.1
  have a1 := cell_of_row A _ 1 _ _ _ HA.out.2.2.1
  have a2 := cell_of_row A _ 2 _ _ _ HA.out.2.2.1
  have f0 := frozen_of_row A _ 0 _ _ HA.out.2.2.1
  have f1 := frozen_of_row A _ 1 _ _ HA.out.2.2.1
  have f2 := frozen_of_row A _ 2 _ _ HA.out.2.2.1
  have b0 := cell_of_row A _ 0 _ _ _ HA.out.2.2.2
  have b1 := cell_of_row A _ 1 _ _ _ HA.out.2.2.2
  have b2 := cell_of_row A _ 2 _ _ _ HA.out.2.2.2
  go_enter Try.func59, Try.ntmps59
  go_wp2_with fail
  refine (H1.out _).mono ?_
  rintro e w1 ⟨rfl, rfl⟩
  go_wp2_with fail
  refine (H2.out _).mono ?_
  rintro e w1 ⟨rfl, rfl⟩
  go_wp2_with fail
  refine (H2.out _).mono ?_
  rintro e w1 ⟨rfl, rfl⟩
  go_wp2_with fail
  rw [← hnb, ← ht, ← hk]
  rw [← hA]
  clear hA hnb ht hk
  have HPOST : Hid (∀ wq b, Below w.heap.size w wq → b = headB x → HeadRet w.heap.size w x (.returned (.tuple #[bhV nb t k, .bool b])) wq) := fun wq b hq hb =>
    ⟨nb, t, k, by rw [hb], hq, HV.out⟩
  clear HV
  cases hev : evenW x with
  | true =>
    rw [hev] at H3 HH
    go_region_with (go_at_call 48; refine (H3.out _).mono ?_; rintro e wz ⟨rfl, hwz⟩; subst wz)
    all_goals
      go_wp2_with fail
      refine bodyPost_ret (v := .tuple #[bhV nb t k, .bool false]) (by rw [results_cell_tmpH (p := 2) (q := 3) (ty := 61) (by kernel_rfl)]; simp [go_sem, a0, a1, a2]) rfl ?_
      exact HPOST.out _ _ ((((HA.out.1.setCell (Nat.le_refl _) _).setCell (Nat.le_refl _) _).setCell (Nat.le_refl _) _).drew) (by rw [HH.out]; rfl)
  | false =>
    rw [hev] at H3 HH
    have HOK2 : Hid (∀ wq, Below A.heap.size A wq → Calls Try.prog 64 #[bhV nb t k] wq fun e w' => e = .returned (.bool (bhOk t k)) ∧ Below A.heap.size A w') := fun wq hq => (HOK.out wq).mono (fun e w' h => ⟨h.1, hq.trans (h.2.mono hq.size)⟩)
    go_region_with (first | (go_at_call 48; refine (H3.out _).mono ?_; rintro e wz ⟨rfl, hwz⟩; subst wz) | (go_at_call 64; refine (HOK2.out _ (Below.refl _ _).drew).mono ?_; rintro e wz ⟨rfl, hwz⟩; have r1 := (hwz.block _ (by have := HA.out.2.1; omega)).trans HA.out.2.2.1; have z0 := cell_of_row wz _ 0 _ _ _ r1; have z1 := cell_of_row wz _ 1 _ _ _ r1; have z2 := cell_of_row wz _ 2 _ _ _ r1; have r2 := (hwz.block _ (by have := HA.out.2.1; omega)).trans HA.out.2.2.2; have y0 := cell_of_row wz _ 0 _ _ _ r2; have y1 := cell_of_row wz _ 1 _ _ _ r2; have y2 := cell_of_row wz _ 2 _ _ _ r2; have g0 := frozen_of_row wz _ 0 _ _ r1; have g1 := frozen_of_row wz _ 1 _ _ r1; have g2 := frozen_of_row wz _ 2 _ _ r1; have HWZ : Hid (Below w.heap.size w wz) := HA.out.1.trans (hwz.mono HA.out.1.size); clear hwz r1 r2))
    all_goals
      go_wp2_with fail
      refine bodyPost_ret (v := .tuple #[bhV nb t k, .bool (bhOk t k)]) (by rw [results_cell_tmpH (p := 2) (q := 3) (ty := 61) (by kernel_rfl)]; simp [go_sem, z0, z1, z2]) rfl ?_
      exact HPOST.out _ _ (((HWZ.out.setCell (Nat.le_refl _) _).setCell (Nat.le_refl _) _).setCell (Nat.le_refl _) _) (by rw [HH.out]; rfl)
end Go.Proofs.Ytgcegjgjegkahab
