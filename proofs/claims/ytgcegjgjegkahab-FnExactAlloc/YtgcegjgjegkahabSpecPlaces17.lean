/- spec.l17Of, spec.l7In, spec.l17There, spec.l17Places. Conditions: at most 2^20 words; the places are within the words. -/
import Derived.Test.YtgcegjgjegkahabHeapOkP
import Derived.Test.YtgcegjgjegkahabIntsSpec
namespace Go.Proofs.Ytgcegjgjegkahab
open Go.ChangeShapes Go.WideShapes Go.ChangeAt Go.RowKit

theorem spec_of17 (n : Int) (w : World) (h0 : 0 ≤ n) (h1 : n ≤ 9223372036854775807) :
    Calls Try.prog 54 #[.int .i64 n] w fun e w' => e = .returned (.tuple #[.bool (funW n), .int .i64 (tagW n), .int .i64 (manyW n)]) ∧ w' = w := by
  go_enter Try.func54, Try.ntmps54
  have he : (n / 2 / 2).tdiv 64 = n / 2 / 2 / 64 := Int.tdiv_eq_ediv_of_nonneg (by omega)
  have hb : 0 ≤ n / 2 / 2 / 64 ∧ n / 2 / 2 / 64 ≤ 9223372036854775807 := by omega
  go_wp2
  go_ret3
  refine ⟨?_, rfl⟩
  have hw : wrap64 ((n / 2 / 2).tdiv 64) = n / 2 / 2 / 64 := by rw [he]; exact Go.IntWalk.wrap64_in _ ⟨by omega, hb.2⟩
  rw [funW, tagW, manyW, ← and_1, ← and_63, ← hw]; rfl
theorem spec_of17_any (n : Int) (w : World) :
    Calls Try.prog 54 #[.int .i64 n] w fun e w' => ∃ b x y, e = .returned (.tuple #[.bool b, .int .i64 x, .int .i64 y]) ∧ w' = w := by
  go_enter Try.func54, Try.ntmps54
  go_wp2
  go_ret3
  exact ⟨_, _, _, rfl, rfl⟩

theorem spec_in7 (xs : List Int) (v : Value) (n : Int) (w : World) (hv : Rd w v xs) (hl : xs.length ≤ 4194304) :
    Calls Try.prog 57 #[v, .int .i64 n] w fun e w' => e = .returned (.bool (hasB xs n)) ∧ w' = w := by
  have HS : Hid (∀ w', w' = w → Calls Try.prog 83 #[v, .int .i64 n] w' fun e w' => e = .returned (.bool (hasB xs n)) ∧ w' = w) := fun w' h => by subst h; exact spec_has xs v n w' hv hl
  clear hv
  go_enter Try.func57, Try.ntmps57
  go_wp2_with fail
  refine (HS.out _ rfl).mono ?_
  rintro e w1 ⟨rfl, rfl⟩
  go_wp2_with fail
  go_ret
  exact ⟨rfl, rfl⟩

theorem spec_there (L : List Int) (v : Value) (n : Int) (w : World) (hv : Rd w v L) (hl : L.length ≤ 4194304) :
    Calls Try.prog 55 #[v, .int .i64 n] w fun e w' => e = .returned (.bool (thereB L n)) ∧ w' = w := by
  have H1 : Hid (∀ w', Calls Try.prog 49 #[.int .i64 n] w' fun e w'' => e = .returned (.bool (evenW n)) ∧ w'' = w') := fun w' => spec_isRef n w'
  have H2 : Hid (∀ w', Calls Try.prog 47 #[.int .i64 n] w' fun e w'' => e = .returned (.int .i64 (n / 2)) ∧ w'' = w') := fun w' => spec_wordRef n w'
  have H3 : Hid (∀ w', Calls Try.prog 45 #[.int .i64 n] w' fun e w'' => e = .returned (.int .i64 (n / 2)) ∧ w'' = w') := fun w' => spec_wordInt n w'
  have H4 : Hid (∀ w', Calls Try.prog 78 #[.int .i64 (n / 2)] w' fun e w'' => e = .returned (.bool (wokB (n / 2))) ∧ w'' = w') := fun w' => spec_wordOk (n / 2) w'
  have H5 : Hid (∀ w', w' = w → Calls Try.prog 57 #[v, .int .i64 (n / 2)] w' fun e w'' => e = .returned (.bool (hasB L (n / 2))) ∧ w'' = w') := fun w' h => by subst h; exact spec_in7 L v (n / 2) w' hv hl
  have HT : Hid (thereB L n = if evenW n then hasB L (n / 2) else wokB (n / 2)) := rfl
  clear hv
  cases hb : evenW n with
  | true =>
    rw [hb] at HT H1
    go_enter Try.func55, Try.ntmps55
    go_wp2_with fail
    refine (H1.out _).mono ?_
    rintro e w1 ⟨rfl, rfl⟩
    go_wp2_with fail
    refine (H2.out _).mono ?_
    rintro e w1 ⟨rfl, rfl⟩
    go_wp2_with fail
    refine (H5.out _ rfl).mono ?_
    rintro e w1 ⟨rfl, rfl⟩
    go_wp2_with fail
    go_ret
    exact ⟨by rw [HT.out]; rfl, rfl⟩
  | false =>
    rw [hb] at HT H1
    go_enter Try.func55, Try.ntmps55
    go_wp2_with fail
    refine (H1.out _).mono ?_
    rintro e w1 ⟨rfl, rfl⟩
    go_wp2_with fail
    refine (H3.out _).mono ?_
    rintro e w1 ⟨rfl, rfl⟩
    go_wp2_with fail
    refine (H4.out _).mono ?_
    rintro e w1 ⟨rfl, rfl⟩
    go_wp2_with fail
    go_ret
    exact ⟨by rw [HT.out]; rfl, rfl⟩

/-- What l17Places answers. -/
def PlacesRet (B : Nat) (w : World) (R : Option (List Int)) (e : Ending) (w' : World) : Prop :=
  ∃ u L b, e = .returned (.tuple #[u, .bool b]) ∧ Own w' B u L ∧ Below B w w' ∧ L.length ≤ 6000 ∧ (b = true → R = some L) ∧ (b = false → R = none)

set_option maxRecDepth 100000 in
set_option maxHeartbeats 1000000 in
theorem spec_places17 (ws : List Int) (half : Int) (b0 n0 : Nat) (v : Value) (w : World) (hv : Rd w v ws) (hw : ws.length ≤ 6000) (hn : n0 ≤ ws.length) (hbn : b0 ≤ n0) (hbig : ∀ j, ws.getD j 0 ≤ 9223372036854775807) :
    Calls Try.prog 53 #[heapV v ⟨ws, half, b0, n0⟩] w (PlacesRet w.heap.size w (placesL ws b0 n0)) := by
  obtain ⟨p, cap, rfl, hc⟩ := hv.shape
  have HBIG : Hid (∀ j, ws.getD j 0 ≤ 9223372036854775807) := hbig
  clear hbig
  obtain ⟨POST, hPOST⟩ : ∃ P, P = PlacesRet w.heap.size w (placesL ws b0 n0) := ⟨_, rfl⟩
  rw [← hPOST]
  have HP : Hid (POST = PlacesRet w.heap.size w (placesL ws b0 n0)) := hPOST
  clear hPOST
  have HC : Hid (∀ j, j < ws.length → ∃ b off, p = some ⟨b, off, none⟩ ∧ w.cell? ⟨b, off + j, none⟩ = some (.int .i64 (ws.getD j 0))) := hc
  clear hc hv
  obtain ⟨i0, hi, hz0, hz1, hz2⟩ := info_parts int_info
  obtain ⟨A, hA⟩ : ∃ A, A = w.alloc (hpO (.slice p ws.length cap) ⟨ws, half, b0, n0⟩) := ⟨_, rfl⟩
  obtain ⟨sA, bA, rA⟩ := box_new w (.slice p ws.length cap) ⟨ws, half, b0, n0⟩ hA
  have HA : Hid (A.heap.size = w.heap.size + 1 ∧ Below w.heap.size w A ∧ BoxAt A w.heap.size (.slice p ws.length cap) ⟨ws, half, b0, n0⟩) := ⟨sA, bA, rA⟩
  clear sA bA rA
  go_enter Try.func53, Try.ntmps53
  go_wp2_with fail
  rw [← hA]
  clear hA
  go_loopw [4, 5] (fun r i wr => ∃ (a : Nat) (r0 : Value) (M : List Int), r0 = r ∧ i = .int .i64 a ∧ a ≤ n0 ∧ M.length ≤ a ∧ Own wr (w.heap.size + 1) r0 M ∧ Below w.heap.size w wr ∧ BoxAt wr w.heap.size (.slice p ws.length cap) ⟨ws, half, b0, n0⟩ ∧ placesL ws b0 n0 = (placesL ws a n0).map (M ++ ·)) (fun _ i _ => n0 - (intOf i).toNat)
  case atStart =>
    refine ⟨b0, _, [], rfl, rfl, hbn, by simp, (by have := own_lit A (w.heap.size + 1) (by have := HA.out.1; omega); rw [HA.out.1] at this; exact this), HA.out.2.1.alloc (by have := HA.out.1; omega) _, HA.out.2.2.below (new_below _ _) HA.out.2.2.lt, ?_⟩
    cases placesL ws b0 n0 <;> simp
  case round =>
    obtain ⟨a, r0, M, rfl, rfl, han, hML, hown, hbel, hbox, hpl⟩ := hrel
    have HOW : Hid (Own wr (w.heap.size + 1) r0 M) := hown
    have HB : Hid (Below w.heap.size w wr) := hbel
    have HX : Hid (BoxAt wr w.heap.size (.slice p ws.length cap) ⟨ws, half, b0, n0⟩) := hbox
    have HPL : Hid (placesL ws b0 n0 = (placesL ws a n0).map (M ++ ·)) := hpl
    have HSZ : Hid (w.heap.size + 1 ≤ wr.heap.size) := hbox.lt
    obtain ⟨c0, c1, c2, c3⟩ := hbox.cells
    clear hown hbel hbox hpl
    have HRET : Hid (∀ b, (b = true → placesL ws b0 n0 = some M) → (b = false → placesL ws b0 n0 = none) → POST (.returned (.tuple #[r0, .bool b])) wr) := fun b h1 h2 => by
      rw [HP.out]
      exact ⟨_, M, b, rfl, HOW.out.mono (Nat.le_succ _), HB.out, by omega, h1, h2⟩
    by_cases hlt : (a : Int) < n0
    case neg =>
      have HE : Hid (POST (.returned (.tuple #[r0, .bool true])) wr) := HRET.out true (fun _ => by rw [HPL.out, places_end (by omega)]; simp) (fun h => by cases h)
      go_wp2_with fail
      exact HE.out
    have hlt' : a < n0 := by omega
    obtain ⟨b, off, rfl, hcell⟩ := HC.out a (by omega)
    have hcell1 := cell_later HB.out hcell
    have HBB : Hid (blockB ws a n0 = (headB (ws.getD a 0) && decide (manyW (ws.getD a 0) < (n0 : Int) - (a : Int)))) := rfl
    have HNX : Hid (nextA ws a = a + 1 + (manyW (ws.getD a 0)).toNat) := rfl
    clear hcell
    generalize hxx : ws.getD a 0 = x at hcell1 HBB HNX
    have HIR : Hid (∀ wq, Calls Try.prog 49 #[.int .i64 x] wq fun e w'' => e = .returned (.bool (evenW x)) ∧ w'' = wq) := fun wq => spec_isRef x wq
    have HBAD : Hid (blockB ws a n0 = false → POST (.returned (.tuple #[r0, .bool false])) wr) := fun hb => HRET.out false (fun h => by cases h) (fun _ => by rw [HPL.out, places_bad hlt' hb]; rfl)
    clear HRET
    by_cases h0 : x < 0
    · clear hxx
      have HE : Hid (POST (.returned (.tuple #[r0, .bool false])) wr) := HBAD.out (by
        rw [HBB.out]
        cases hh : headB x with
        | true => have := (head_iff.1 hh).1; omega
        | false => rfl)
      have HOF : Hid (∀ wq, Calls Try.prog 54 #[.int .i64 x] wq fun e w' => ∃ b x y, e = .returned (.tuple #[.bool b, .int .i64 x, .int .i64 y]) ∧ w' = wq) := fun wq => spec_of17_any x wq
      go_wp2_with (first | (go_at_call 54; refine (HOF.out _).mono ?_; rintro e wz ⟨bz, xz, yz, rfl, rfl⟩) | (go_at_call 49; refine (HIR.out _).mono ?_; rintro e wz ⟨rfl, rfl⟩))
      exact HE.out
    have h0' : 0 ≤ x := by omega
    have hx64 : x ≤ 9223372036854775807 := by rw [← hxx]; exact HBIG.out a
    clear hxx
    have HOF : Hid (∀ wq, Calls Try.prog 54 #[.int .i64 x] wq fun e w' => e = .returned (.tuple #[.bool (funW x), .int .i64 (tagW x), .int .i64 (manyW x)]) ∧ w' = wq) := fun wq => spec_of17 x wq h0' hx64
    have HM0 : Hid (0 ≤ manyW x ∧ manyW x < 64 ∧ 0 ≤ tagW x) := ⟨many_nonneg x, many_lt x, tag_nonneg h0'⟩
    cases hev : evenW x with
    | true =>
      have HE : Hid (POST (.returned (.tuple #[r0, .bool false])) wr) := HBAD.out (by rw [HBB.out, headB, hev]; simp)
      rw [hev] at HIR
      go_wp2_with (first | (go_at_call 54; refine (HOF.out _).mono ?_; rintro e wz ⟨rfl, rfl⟩) | (go_at_call 49; refine (HIR.out _).mono ?_; rintro e wz ⟨rfl, rfl⟩))
      exact HE.out
    | false =>
      rw [hev] at HIR
      have HD : Hid (headB x = (decide (tagW x ≤ 3000) && decide (manyW x ≤ 20))) := by
        show _ = _
        rw [headB, hev, decide_eq_true h0']; rfl
      obtain ⟨tg, htg⟩ : ∃ t, t = tagW x := ⟨_, rfl⟩
      obtain ⟨mn, hmn⟩ : ∃ t : Nat, (t : Int) = manyW x := ⟨(manyW x).toNat, by have := many_nonneg x; omega⟩
      rw [← htg, ← hmn] at HD HOF
      rw [← hmn] at HBB HNX HM0
      rw [← htg] at HM0
      have hm64 : mn < 64 := by have := HM0.out.2.1; omega
      have ht0 : 0 ≤ tg := HM0.out.2.2
      clear htg hmn
      by_cases ht : 3000 < tg
      · have HE : Hid (POST (.returned (.tuple #[r0, .bool false])) wr) := HBAD.out (by rw [HBB.out, HD.out, decide_eq_false (by omega)]; simp)
        go_wp2_with (first | (go_at_call 54; refine (HOF.out _).mono ?_; rintro e wz ⟨rfl, rfl⟩) | (go_at_call 49; refine (HIR.out _).mono ?_; rintro e wz ⟨rfl, rfl⟩))
        exact HE.out
      by_cases hm : 20 < mn
      · have HE : Hid (POST (.returned (.tuple #[r0, .bool false])) wr) := HBAD.out (by rw [HBB.out, HD.out, decide_eq_false (show ¬ (mn : Int) ≤ 20 by omega)]; simp)
        go_wp2_with (first | (go_at_call 54; refine (HOF.out _).mono ?_; rintro e wz ⟨rfl, rfl⟩) | (go_at_call 49; refine (HIR.out _).mono ?_; rintro e wz ⟨rfl, rfl⟩))
        exact HE.out
      by_cases hr : (n0 : Int) - a ≤ mn
      · have HE : Hid (POST (.returned (.tuple #[r0, .bool false])) wr) := HBAD.out (by rw [HBB.out, decide_eq_false (show ¬ (mn : Int) < (n0 : Int) - a by omega), Bool.and_false])
        go_wp2_with (first | (go_at_call 54; refine (HOF.out _).mono ?_; rintro e wz ⟨rfl, rfl⟩) | (go_at_call 49; refine (HIR.out _).mono ?_; rintro e wz ⟨rfl, rfl⟩))
        exact HE.out
      have HYES : Hid (blockB ws a n0 = true) := by show _ = _; rw [HBB.out, HD.out, decide_eq_true (show tg ≤ 3000 by omega), decide_eq_true (show (mn : Int) ≤ 20 by omega), decide_eq_true (show (mn : Int) < (n0 : Int) - a by omega)]; rfl
      have HNX2 : Hid (nextA ws a = a + 1 + mn) := by show _ = _; rw [HNX.out]; omega
      have hml : M.length ≤ 6000 := by omega
      go_wp2_with (first | (go_at_call 54; refine (HOF.out _).mono ?_; rintro e wz ⟨rfl, hwz⟩; subst wz) | (go_at_call 49; refine (HIR.out _).mono ?_; rintro e wz ⟨rfl, hwz⟩; subst wz) | (at_builtin; refine wpList_append_any _ rfl (.tmp 51) (.tmp 53) 22 rfl (w.heap.size + 1) 3 i0 (.int .i64 0) 1 8 Try.underlying22 hi hz0 hz1 hz2 rfl (by decide) r0 M.length (M.map (Value.int .i64)) rfl (World.ownsRow.alloc HOW.out _) (some ⟨wr.heap.size, 0, none⟩) 1 1 [.int .i64 (a : Int)] rfl rfl (by simp) (one_new wr _ _) (by simp [Value.oneCell']) (by unfold maxLen; omega) (by omega) (by have := HSZ.out; simp; omega) ?_; intro v' w2 hown2 hg2; have R := own_push HOW.out (Below.refl (w.heap.size + 1) wr) HSZ.out hown2.out hg2.out; have HR : Hid (Own w2 (w.heap.size + 1) v' (M ++ [(a : Int)]) ∧ Below (w.heap.size + 1) wr w2) := R; obtain ⟨c0, c1, c2, c3⟩ := (BoxAt.cells (w := w2) ((HR.out.2.block _ (by omega)).trans HX.out)); clear R hown2 hg2))
      go_roundw
      case rel =>
        refine ⟨a + 1 + mn, _, _, rfl, by go_num, by omega, by rw [List.length_append]; simp; omega, HR.out.1, HB.out.trans (HR.out.2.mono (by omega)), (HR.out.2.block _ (by omega)).trans HX.out, ?_⟩
        rw [HPL.out, places_more hlt' HYES.out, HNX2.out]
        cases placesL ws (a + 1 + mn) n0 <;> simp
      case measure => simp [intOf]; omega
end Go.Proofs.Ytgcegjgjegkahab
