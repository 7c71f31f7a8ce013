/- impl.kidsAt, impl.areHeld. Conditions: a block that is right; at most 2^22 words; ints of 64 bits; places that are ascending. -/
import Derived.Test.YtgcegjgjegkahabHeadOf17
import Derived.Test.YtgcegjgjegkahabAmong17
namespace Go.Proofs.Ytgcegjgjegkahab
open Go.ChangeShapes Go.WideShapes Go.ChangeAt Go.RowKit

set_option maxRecDepth 100000 in
set_option maxHeartbeats 1000000 in
theorem impl_kidsat (ws : List Int) (v : Value) (p n : Nat) (w : World) (hv : Rd w v ws) (hb : blockB ws p n = true) (hn : n ≤ ws.length) (hl : ws.length ≤ 6000) (hx0 : -9223372036854775808 ≤ ws.getD p 0) (hx1 : ws.getD p 0 ≤ 9223372036854775807) :
    Calls Try.prog 61 #[v, .int .i64 p] w fun e w' => ∃ u, e = .returned u ∧ Rd w' u (kidsW ws p) ∧ Below w.heap.size w w' := by
  obtain ⟨hkl, hpn⟩ := kids_len hb hn
  have hkat : ∀ k, k < (manyW (ws.getD p 0)).toNat → (kidsW ws p).getD k 0 = ws.getD (p + 1 + k) 0 := fun k hk => kids_at hb hn hk
  have hhb : headB (ws.getD p 0) = true := by unfold blockB at hb; rw [Bool.and_eq_true] at hb; exact hb.1
  rcases hv with ⟨rfl, rfl⟩ | ⟨b, off, cap, rfl, hcap, hc⟩
  · simp at hn; omega
  have hpl : p < ws.length := by omega
  have hcell := hc p hpl
  have hmb := many_lt (ws.getD p 0)
  have hm0 := many_nonneg (ws.getD p 0)
  generalize hx : ws.getD p 0 = x at *
  obtain ⟨mn, hmn⟩ : ∃ t : Nat, (t : Int) = manyW x := ⟨(manyW x).toNat, by omega⟩
  rw [← hmn, Int.toNat_natCast] at hkl hpn hkat
  have hm64 : mn < 64 := by omega
  have HH : Hid (∀ w, Calls Try.prog 59 #[.int .i64 x] w (HeadRet w.heap.size w x)) := fun w => impl_headof x w hx0 hx1
  have HHB : Hid (headB x = true) := hhb
  have HMN : Hid ((mn : Int) = manyW x) := hmn
  have HSZ : Hid (∀ f t w, Calls Try.prog 85 #[bhV f t (mn : Int)] w fun e w' => e = .returned (.int .i64 (1 + (mn : Int))) ∧ Below w.heap.size w w') := fun f t w => impl_bhsize f t mn w (by omega) (by omega)
  have HEND : Hid (∀ w', Below w.heap.size w w' → Rd w' (.slice (some ⟨b, off + (p + 1), none⟩) mn (cap - (p + 1))) (kidsW ws p)) := fun w' hw => by
    refine .inr ⟨b, off + (p + 1), cap - (p + 1), by rw [hkl], by omega, fun j hj => ?_⟩
    have h1 := hc (p + 1 + j) (by omega)
    rw [hkat j (by omega), show off + (p + 1) + j = off + (p + 1 + j) by omega]
    exact cell_later hw h1
  have HKL : Hid ((kidsW ws p).length = mn) := hkl
  clear hmb hm0 hx hhb hb hkl hkat hmn hc hx0 hx1
  go_enter Try.func61, Try.ntmps61
  go_wp2_with fail
  refine (HH.out _).mono ?_
  rintro e w1 ⟨f, t, k, rfl, hb1, hval⟩
  obtain ⟨rfl, rfl, rfl⟩ := hval HHB.out
  have HB1 : Hid (Below w.heap.size w w1) := hb1
  rw [HHB.out, ← HMN.out]
  clear hb1 hval
  obtain ⟨A, hA⟩ : ∃ A, A = w1.alloc (.cells #[.bool (funW x), .int .i64 (tagW x), .int .i64 (mn : Int)] 61) := ⟨_, rfl⟩
  have HA : Hid (Below w.heap.size w A) := by show Below _ _ _; rw [hA]; exact HB1.out.alloc HB1.out.size _
  go_wp2_with fail
  rw [← hA]
  refine (HSZ.out _ _ _).mono ?_
  rintro e w2 ⟨rfl, hb2⟩
  have HB2 : Hid (Below w.heap.size w w2) := HA.out.trans (hb2.mono HA.out.size)
  clear hb2 hA
  have hsub : p + (1 + mn) - (p + 1) = mn := by omega
  go_wp2_with fail
  · go_ret
    refine ⟨_, rfl, ?_, HB2.out⟩
    have h0 : mn = 0 := by omega
    have hnil : kidsW ws p = [] := List.eq_nil_of_length_eq_zero (by rw [HKL.out, h0])
    show Rd w2 (.slice (some ⟨b, off, none⟩) mn 0) (kidsW ws p)
    rw [h0, hnil]
    exact .inr ⟨b, off, 0, rfl, by simp, fun j hj => by simp at hj⟩
  · go_ret
    refine ⟨_, rfl, ?_, HB2.out⟩
    show Rd w2 (.slice (some ⟨b, off + (p + 1), none⟩) mn (cap - (p + 1))) (kidsW ws p)
    exact HEND.out w2 HB2.out

set_option maxRecDepth 100000 in
set_option maxHeartbeats 1000000 in
theorem impl_areheld (L xs : List Int) (v u : Value) (w : World) (hv : Rd w v L) (hu : Rd w u xs) (hl : L.length ≤ 4194304) (hl2 : xs.length ≤ 4194304) (hs : L.Pairwise (· < ·)) :
    Calls Try.prog 65 #[v, u] w fun e w' => e = .returned (.bool (allB L xs)) ∧ Below w.heap.size w w' := by
  obtain ⟨p, cap, rfl, hc⟩ := hu.shape
  have HV : Hid (Rd w v L) := hv
  have HC : Hid (∀ j, j < xs.length → ∃ b off, p = some ⟨b, off, none⟩ ∧ w.cell? ⟨b, off + j, none⟩ = some (.int .i64 (xs.getD j 0))) := hc
  have HAM : Hid (∀ x wq, Below w.heap.size w wq → Calls Try.prog 58 #[v, .int .i64 x] wq fun e w' => e = .returned (.bool (hasB L x)) ∧ Below w.heap.size w w') := fun x wq hq =>
    (impl_among L v x wq (hv.below hq) hl hs).mono (fun e w' h => by obtain ⟨h1, q, rfl⟩ := h; exact ⟨h1, belowDrew hq q⟩)
  clear hc hv hu
  go_enter Try.func65, Try.ntmps65
  go_wp2_with fail
  go_loopw [9] (fun i wr => ∃ k : Nat, i = .int .i64 k ∧ k ≤ xs.length ∧ Below w.heap.size w wr ∧ ∀ j, j < k → thereB L (xs.getD j 0) = true) (fun i _ => xs.length - (intOf i).toNat)
  case atStart => exact ⟨0, rfl, by omega, Below.refl _ _, fun j hj => by omega⟩
  case round =>
    obtain ⟨k, rfl, hk, hbel, hall⟩ := hrel
    have HB : Hid (Below w.heap.size w wr) := hbel
    have HALL : Hid (∀ j, j < k → thereB L (xs.getD j 0) = true) := hall
    clear hbel hall
    by_cases hlt : (k : Int) < xs.length
    case neg =>
      go_wp2_with fail
      go_ret
      exact ⟨by rw [allB_yes (fun i hi => HALL.out i (by omega))]; rfl, HB.out⟩
    have hk' : k < xs.length := by omega
    obtain ⟨b, off, rfl, hcell⟩ := HC.out k hk'
    have hcell1 := cell_later HB.out hcell
    generalize hx : xs.getD k 0 = x at hcell hcell1
    have HX : Hid (xs.getD k 0 = x) := hx
    have H1 : Hid (∀ w, Calls Try.prog 48 #[.int .i64 x] w fun e w' => e = .returned (.bool (evenW x)) ∧ w' = w) := fun w => impl_isRef x w
    have H2 : Hid (∀ w, Calls Try.prog 46 #[.int .i64 x] w fun e w' => e = .returned (.int .i64 (x / 2)) ∧ w' = w) := fun w => impl_wordRef x w
    have H3 : Hid (∀ w, Calls Try.prog 44 #[.int .i64 x] w fun e w' => e = .returned (.int .i64 (x / 2)) ∧ w' = w) := fun w => impl_wordInt x w
    have H4 : Hid (∀ w, Calls Try.prog 50 #[.int .i64 (x / 2)] w fun e w' => e = .returned (.bool (wokB (x / 2))) ∧ w' = w) := fun w => impl_wordOk (x / 2) w
    have HT : Hid (thereB L x = if evenW x then hasB L (x / 2) else wokB (x / 2)) := rfl
    have HNO : Hid (thereB L x = false → allB L xs = false) := fun h => allB_no k hk' (by rw [HX.out]; exact h)
    clear hcell hx
    cases hev : evenW x with
    | true =>
      rw [hev] at H1 HT
      cases hh : hasB L (x / 2) with
      | true =>
        rw [hh] at HT
        go_wp2_with fail
        refine (H1.out _).mono ?_
        rintro e wz ⟨rfl, hwz⟩
        subst wz
        go_wp2_with fail
        refine (H2.out _).mono ?_
        rintro e wz ⟨rfl, hwz⟩
        subst wz
        go_wp2_with fail
        refine (HAM.out _ _ HB.out).mono ?_
        rintro e w2 ⟨rfl, hb2⟩
        rw [hh]
        have HB2 : Hid (Below w.heap.size w w2) := hb2
        clear hb2
        go_wp2_with fail
        refine (H1.out _).mono ?_
        rintro e wz ⟨rfl, hwz⟩
        subst wz
        go_wp2_with fail
        go_roundw
        case rel =>
          refine ⟨k + 1, by go_num, by omega, HB2.out, fun j hj => ?_⟩
          by_cases hjk : j = k
          · subst hjk; rw [HX.out, HT.out]; rfl
          · exact HALL.out j (by omega)
        case measure => simp [intOf]; omega
      | false =>
        rw [hh] at HT
        go_wp2_with fail
        refine (H1.out _).mono ?_
        rintro e wz ⟨rfl, hwz⟩
        subst wz
        go_wp2_with fail
        refine (H2.out _).mono ?_
        rintro e wz ⟨rfl, hwz⟩
        subst wz
        go_wp2_with fail
        refine (HAM.out _ _ HB.out).mono ?_
        rintro e w2 ⟨rfl, hb2⟩
        rw [hh]
        have HB2 : Hid (Below w.heap.size w w2) := hb2
        clear hb2
        go_wp2_with fail
        go_ret
        exact ⟨by rw [HNO.out (by rw [HT.out]; rfl)]; rfl, HB2.out⟩
    | false =>
      rw [hev] at H1 HT
      cases hh : wokB (x / 2) with
      | true =>
        rw [hh] at HT H4
        go_wp2_with fail
        refine (H1.out _).mono ?_
        rintro e wz ⟨rfl, hwz⟩
        subst wz
        go_wp2_with fail
        refine (H1.out _).mono ?_
        rintro e wz ⟨rfl, hwz⟩
        subst wz
        go_wp2_with fail
        refine (H3.out _).mono ?_
        rintro e wz ⟨rfl, hwz⟩
        subst wz
        go_wp2_with fail
        refine (H4.out _).mono ?_
        rintro e wz ⟨rfl, hwz⟩
        subst wz
        go_wp2_with fail
        go_roundw
        case rel =>
          refine ⟨k + 1, by go_num, by omega, HB.out, fun j hj => ?_⟩
          by_cases hjk : j = k
          · subst hjk; rw [HX.out, HT.out]; rfl
          · exact HALL.out j (by omega)
        case measure => simp [intOf]; omega
      | false =>
        rw [hh] at HT H4
        go_wp2_with fail
        refine (H1.out _).mono ?_
        rintro e wz ⟨rfl, hwz⟩
        subst wz
        go_wp2_with fail
        refine (H1.out _).mono ?_
        rintro e wz ⟨rfl, hwz⟩
        subst wz
        go_wp2_with fail
        refine (H3.out _).mono ?_
        rintro e wz ⟨rfl, hwz⟩
        subst wz
        go_wp2_with fail
        refine (H4.out _).mono ?_
        rintro e wz ⟨rfl, hwz⟩
        subst wz
        go_wp2_with fail
        go_ret
        exact ⟨by rw [HNO.out (by rw [HT.out]; rfl)]; rfl, HB.out⟩
end Go.Proofs.Ytgcegjgjegkahab
