/- impl.blocksInUse. Conditions: ints of 64 bits; at most 6000 words; the places are within the words. -/
import Derived.Test.YtgcegjgjegkahabBlocks17
import Derived.Test.YtgcegjgjegkahabIntsSpec
import Derived.Deep.Cut
namespace Go.Proofs.Ytgcegjgjegkahab
open Go.ChangeShapes Go.WideShapes Go.ChangeAt Go.RowKit

set_option maxRecDepth 100000 in
set_option maxHeartbeats 1000000 in
theorem impl_inuse (ws : List Int) (half : Int) (b0 n0 : Nat) (v : Value) (w : World) (hv : Rd w v ws) (hw : ws.length ≤ 6000) (hn : n0 ≤ ws.length) (hbn : b0 ≤ n0) (hlo : ∀ j, -9223372036854775808 ≤ ws.getD j 0) (hbig : ∀ j, ws.getD j 0 ≤ 9223372036854775807) :
    Calls Try.prog 82 #[heapV v ⟨ws, half, b0, n0⟩] w (PlacesRet w.heap.size w (placesL ws b0 n0)) := by
  obtain ⟨p, cap, rfl, hc⟩ := hv.shape
  have HBIG : Hid (∀ j, -9223372036854775808 ≤ ws.getD j 0 ∧ ws.getD j 0 ≤ 9223372036854775807) := fun j => ⟨hlo j, hbig j⟩
  clear hbig hlo
  obtain ⟨POST, hPOST⟩ : ∃ P, P = PlacesRet w.heap.size w (placesL ws b0 n0) := ⟨_, rfl⟩
  rw [← hPOST]
  have HP : Hid (POST = PlacesRet w.heap.size w (placesL ws b0 n0)) := hPOST
  clear hPOST
  have HC : Hid (∀ j, j < ws.length → ∃ b off, p = some ⟨b, off, none⟩ ∧ w.cell? ⟨b, off + j, none⟩ = some (.int .i64 (ws.getD j 0))) := hc
  clear hc hv
  obtain ⟨i0, hi, hz0, hz1, hz2⟩ := info_parts int_info
  obtain ⟨A, hA⟩ : ∃ A, A = w.alloc (hpO (.slice p ws.length cap) ⟨ws, half, b0, n0⟩) := ⟨_, rfl⟩
  obtain ⟨sA, bA, rA⟩ := box_new w (.slice p ws.length cap) ⟨ws, half, b0, n0⟩ hA
  have HA : Hid (A.heap.size = w.heap.size + 1 ∧ Below w.heap.size w A ∧ BoxAt A w.heap.size (.slice p ws.length cap) ⟨ws, half, b0, n0⟩) := ⟨sA, bA, rA⟩
  clear sA bA rA
  go_enter Try.func82, Try.ntmps82
  go_wp2_with fail
  rw [← hA]
  clear hA
  go_loopw [4, 5] (fun r i wr => ∃ (a : Nat) (r0 : Value) (M : List Int), r0 = r ∧ i = .int .i64 a ∧ a ≤ 6100 ∧ M.length ≤ a ∧ M.length ≤ 6000 ∧ Own wr (w.heap.size + 1) r0 M ∧ Below w.heap.size w wr ∧ BoxAt wr w.heap.size (.slice p ws.length cap) ⟨ws, half, b0, n0⟩ ∧ (a ≤ n0 ∧ placesL ws b0 n0 = (placesL ws a n0).map (M ++ ·) ∨ n0 < a ∧ placesL ws b0 n0 = none)) (fun _ i _ => 6100 - (intOf i).toNat)
  case atStart =>
    refine ⟨b0, _, [], rfl, rfl, by omega, by simp, by simp, World.ownsRow_nil _ _ _ _, HA.out.2.1, HA.out.2.2, .inl ⟨hbn, ?_⟩⟩
    cases placesL ws b0 n0 <;> simp
  case round =>
    obtain ⟨a, r0, M, rfl, rfl, ha6, hML, hM6, hown, hbel, hbox, hpl⟩ := hrel
    have HOW : Hid (Own wr (w.heap.size + 1) r0 M) := hown
    have HB : Hid (Below w.heap.size w wr) := hbel
    have HX : Hid (BoxAt wr w.heap.size (.slice p ws.length cap) ⟨ws, half, b0, n0⟩) := hbox
    have HPL : Hid (a ≤ n0 ∧ placesL ws b0 n0 = (placesL ws a n0).map (M ++ ·) ∨ n0 < a ∧ placesL ws b0 n0 = none) := hpl
    have HSZ : Hid (w.heap.size + 1 ≤ wr.heap.size) := hbox.lt
    obtain ⟨c0, c1, c2, c3⟩ := hbox.cells
    clear hown hbel hbox hpl
    by_cases hlt : (a : Int) < n0
    case neg =>
      obtain ⟨be, hbe⟩ : ∃ be : Bool, be = ((a : Int) == (n0 : Int)) := ⟨_, rfl⟩
      have HE : Hid (∀ n, POST (.returned (.tuple #[r0, .bool be])) (wr.drewN n)) := fun n => by
        rw [HP.out]
        refine ⟨r0, M, be, rfl, (HOW.out.mono (Nat.le_succ _)).below (belowDrew (Below.refl _ _) n), belowDrew HB.out n, hM6, fun hb => ?_, fun hb => ?_⟩
        · rw [hbe, beq_iff_eq] at hb
          rcases HPL.out with ⟨h1, h2⟩ | ⟨h1, h2⟩
          · rw [h2, places_end (by omega)]; simp
          · omega
        · rw [hbe, beq_eq_false_iff_ne] at hb
          rcases HPL.out with ⟨h1, h2⟩ | ⟨h1, h2⟩
          · omega
          · exact h2
      go_wp2_with fail
      go_quiet (fail)
      go_wp2_with fail
      rw [← hbe]
      exact HE.out _
    have hlt' : a < n0 := by omega
    obtain ⟨b, off, rfl, hcell⟩ := HC.out a (by omega)
    have hcell1 := cell_later HB.out hcell
    have HBB : Hid (blockB ws a n0 = (headB (ws.getD a 0) && decide (manyW (ws.getD a 0) < (n0 : Int) - (a : Int)))) := rfl
    have HNX : Hid (nextA ws a = a + 1 + (manyW (ws.getD a 0)).toNat) := rfl
    have hx0 := (HBIG.out a).1
    have hx1 := (HBIG.out a).2
    clear hcell
    generalize hxx : ws.getD a 0 = x at hcell1 HBB HNX hx0 hx1
    have HH : Hid (∀ w, Calls Try.prog 59 #[.int .i64 x] w (HeadRet w.heap.size w x)) := fun w => impl_headof x w hx0 hx1
    clear hx0 hx1 hxx
    have HPL2 : Hid (placesL ws b0 n0 = (placesL ws a n0).map (M ++ ·)) := by
      rcases HPL.out with ⟨h1, h2⟩ | ⟨h1, h2⟩
      · exact h2
      · omega
    go_wp2_with fail
    refine (HH.out _).mono ?_
    rintro e w1 ⟨f, t, k, rfl, hb1, hval⟩
    obtain ⟨C, hC⟩ : ∃ C, C = w1.alloc (.cells #[.bool f, .int .i64 t, .int .i64 k] 61) := ⟨_, rfl⟩
    have HVAL : Hid (headB x = true → f = funW x ∧ t = tagW x ∧ k = manyW x) := hval
    have HC1 : Hid (Below wr.heap.size wr C ∧ C.heap[w1.heap.size]? = some (.cells #[.bool f, .int .i64 t, .int .i64 k] 61 (0, 0)) ∧ C.heap.size = w1.heap.size + 1 ∧ wr.heap.size ≤ w1.heap.size) := by
      refine ⟨?_, ?_, ?_, hb1.size⟩
      · rw [hC]; exact hb1.alloc hb1.size _
      · rw [hC]; exact heap_alloc_last _ _
      · rw [hC]; simp
    clear hb1 hval
    cases hh : headB x with
    | false =>
      have HE : Hid (∀ wq, Below wr.heap.size wr wq → POST (.returned (.tuple #[.slice none 0 0, .bool false])) wq) := fun wq hq => by
        rw [HP.out]
        exact ⟨_, [], false, rfl, World.ownsRow_nil _ _ _ _, HB.out.trans (hq.mono HB.out.size), by simp, (fun h => by cases h), fun _ => by rw [HPL2.out, places_bad hlt' (by rw [HBB.out, hh]; rfl)]; rfl⟩
      go_wp2_with fail
      rw [← hC]
      exact HE.out C HC1.out.1
    | true =>
      obtain ⟨rfl, rfl, rfl⟩ := HVAL.out hh
      have hm0 := many_nonneg x
      have hm64 := many_lt x
      obtain ⟨mn, hmn⟩ : ∃ t : Nat, (t : Int) = manyW x := ⟨(manyW x).toNat, by omega⟩
      rw [← hmn] at HBB HNX HC1 hC hm64 ⊢
      have HS : Hid (∀ w, Calls Try.prog 85 #[bhV (funW x) (tagW x) (mn : Int)] w fun e w' => e = .returned (.int .i64 (1 + (mn : Int))) ∧ Below w.heap.size w w') := fun w => impl_bhsize _ _ mn w (by omega) (by omega)
      have HNX2 : Hid (nextA ws a = a + 1 + mn) := by show _ = _; rw [HNX.out]; omega
      have HBX : Hid (BoxAt C w.heap.size (.slice (some ⟨b, off, none⟩) ws.length cap) ⟨ws, half, b0, n0⟩) := HX.out.below HC1.out.1 HX.out.lt
      have HOC : Hid (Own C (w.heap.size + 1) r0 M) := HOW.out.below HC1.out.1
      have HSC : Hid (w.heap.size + 1 ≤ C.heap.size) := Nat.le_trans HSZ.out HC1.out.1.size
      have HN1 : Hid (some w1.heap.size ≠ r0.ownBlock) := fun h => by have := (HOW.out.lt _ h.symm).2; have := HC1.out.2.2.2; omega
      clear hmn hm0 HVAL HNX
      go_upto_region 7 with fail
      rw [← hC]
      clear hC
      go_wp2_with (at_builtin; refine wpList_append_any _ rfl (.tmp 25) (.tmp 27) 22 rfl (w.heap.size + 1) 3 i0 (.int .i64 0) 1 8 Try.underlying22 hi hz0 hz1 hz2 rfl (by decide) r0 M.length (M.map (Value.int .i64)) rfl (World.ownsRow.alloc HOC.out _) (some ⟨C.heap.size, 0, none⟩) 1 1 [.int .i64 (a : Int)] rfl rfl (by simp) (one_new C _ _) (by simp [Value.oneCell']) (by unfold maxLen; omega) (by omega) (by have := HSC.out; simp; omega) ?_; intro v' w2 hown2 hg2; have R := own_push HOC.out (Below.refl (w.heap.size + 1) C) HSC.out hown2.out hg2.out; have HR : Hid (Own w2 (w.heap.size + 1) v' (M ++ [(a : Int)]) ∧ Below (w.heap.size + 1) C w2) := R; have rT := (hg2.out.block _ (by have := HC1.out.2.2.1; simp; omega) HN1.out).trans ((Below.heap_alloc _ _ _ (by have := HC1.out.2.2.1; omega)).trans HC1.out.2.1); have t0 := cell_of_row w2 _ 0 _ _ _ rT; have t1 := cell_of_row w2 _ 1 _ _ _ rT; have t2 := cell_of_row w2 _ 2 _ _ _ rT; clear R hown2 hg2 rT)
      refine (HS.out w2).mono ?_
      rintro e w3 ⟨rfl, hb3⟩
      have HR3 : Hid (Own w3 (w.heap.size + 1) v' (M ++ [(a : Int)]) ∧ Below w.heap.size w w3 ∧ BoxAt w3 w.heap.size (.slice (some ⟨b, off, none⟩) ws.length cap) ⟨ws, half, b0, n0⟩) := by
        have hB2 : Below w.heap.size w w2 := (HB.out.trans (HC1.out.1.mono HB.out.size)).trans (HR.out.2.mono (by omega))
        have hX2 : BoxAt w2 w.heap.size (.slice (some ⟨b, off, none⟩) ws.length cap) ⟨ws, half, b0, n0⟩ := (HR.out.2.block _ (by omega)).trans HBX.out
        exact ⟨HR.out.1.below hb3, hB2.trans (hb3.mono hB2.size), hX2.below hb3 hX2.lt⟩
      clear hb3 t0 t1 t2
      go_wp2_with fail
      go_roundw
      case rel =>
        refine ⟨a + 1 + mn, _, _, rfl, by go_num, by omega, by rw [List.length_append]; simp; omega, by rw [List.length_append]; simp; omega, HR3.out.1, HR3.out.2.1, HR3.out.2.2, ?_⟩
        by_cases hk : (mn : Int) < (n0 : Int) - a
        · refine .inl ⟨by omega, ?_⟩
          rw [HPL2.out, places_more hlt' (by rw [HBB.out, hh, decide_eq_true hk]; rfl), HNX2.out]
          cases placesL ws (a + 1 + mn) n0 <;> simp
        · refine .inr ⟨by omega, ?_⟩
          rw [HPL2.out, places_bad hlt' (by rw [HBB.out, decide_eq_false hk, Bool.and_false])]
          rfl
      case measure => simp [intOf]; omega
end Go.Proofs.Ytgcegjgjegkahab
