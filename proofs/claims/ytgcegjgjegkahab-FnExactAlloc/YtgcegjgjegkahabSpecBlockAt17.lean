/- spec.BlockAt. Conditions: ints of 64 bits; at most 2^22 words. -/
import Derived.Test.YtgcegjgjegkahabBlockAt17
namespace Go.Proofs.Ytgcegjgjegkahab
open Go.ChangeShapes Go.WideShapes Go.ChangeAt Go.RowKit

theorem owns_len {w : World} {b : Nat} {e : TypeId} {v : Value} {n m : Nat} {xs : List Value} (h : w.ownsRow b e 1 v n xs) (hm : xs.length = m) : w.ownsRow b e 1 v m xs := by
  have h1 := h.1
  have h2 : n = m := by omega
  rw [← h2]; exact h
theorem ok_some {h : Hp} (hh : hpOkB h = true) : ∃ L, blocksB h = some L := by
  unfold hpOkB at hh
  cases hb : blocksB h with
  | none => rw [hb] at hh; cases hh
  | some L => exact ⟨L, rfl⟩
theorem ok_none {h : Hp} (hh : hpOkB h = false) : blocksB h = none := by
  unfold hpOkB at hh
  cases hb : blocksB h with
  | none => rfl
  | some L => rw [hb] at hh; cases hh
theorem blocks_places {h : Hp} {L : List Int} (hb : blocksB h = some L) : ∃ b n : Nat, h.base = b ∧ h.next = n ∧ b ≤ n ∧ n ≤ h.ws.length ∧ h.ws.length ≤ 6000 ∧ placesL h.ws b n = some L := by
  have hh : halvesB h = true := by
    cases h1 : halvesB h with
    | true => rfl
    | false => rw [blocks_nohalf h1] at hb; cases hb
  obtain ⟨b, n, hb0, hn0, hbn, hnl, hl6, _⟩ := halves_nat hh
  rw [blocks_half hh hb0 hn0] at hb
  cases hp2 : placesL h.ws b n with
  | none => rw [hp2] at hb; cases hb
  | some M =>
    rw [hp2] at hb
    have hML : M = L := by
      cases hc : M.all (fun p => allB M (kidsW h.ws p.toNat)) with
      | true => simp only [hc, if_true] at hb; injection hb
      | false => simp [hc] at hb
    subst hML
    exact ⟨b, n, hb0, hn0, hbn, hnl, hl6, hp2⟩

set_option maxRecDepth 100000 in
set_option maxHeartbeats 2000000 in
theorem spec_blockat (h : Hp) (p : Int) (v : Value) (w : World) (hv : Rd w v h.ws) (hl : h.ws.length ≤ 4194304) (hbig : Small64 h.ws) :
    Calls Try.prog 14 #[heapV v h, .int .i64 p] w (BARet w.heap.size w (blockAtH h p)) := by
  have HHO : Hid (∀ wq, Below w.heap.size w wq → Calls Try.prog 10 #[heapV v h] wq fun e w' => e = .returned (.bool (hpOkB h)) ∧ Below wq.heap.size wq w') := fun wq hq => spec_heapok h v wq (hv.below hq) hl (fun j => (hbig j).2)
  have HV : Hid (Rd w v h.ws) := hv
  have HBIG : Hid (Small64 h.ws) := hbig
  have HTH : Hid (∀ L p, blocksB h = some L → hasB L p = true → ∃ (q b n : Nat), p = q ∧ h.base = b ∧ h.next = n ∧ b ≤ q ∧ q < n ∧ n ≤ h.ws.length ∧ h.ws.length ≤ 6000 ∧ blockB h.ws q n = true ∧ placesL h.ws b n = some L) := fun L p h1 h2 => block_there h1 h2
  have HDEF : Hid (blockAtH h p = match blocksB h with | none => noBA | some L => if hasB L p then yesBA h.ws p.toNat else noBA) := rfl
  have HSM : Hid (hpOkB h = true → ∃ L, blocksB h = some L) := fun hh => ok_some hh
  have HNN : Hid (hpOkB h = false → blocksB h = none) := fun hh => ok_none hh
  have HPLC : Hid (∀ L, blocksB h = some L → ∃ b n : Nat, h.base = b ∧ h.next = n ∧ b ≤ n ∧ n ≤ h.ws.length ∧ h.ws.length ≤ 6000 ∧ placesL h.ws b n = some L) := fun L hL => blocks_places hL
  obtain ⟨POST, hPOST⟩ : ∃ P, P = BARet w.heap.size w (blockAtH h p) := ⟨_, rfl⟩
  rw [← hPOST]
  have HP : Hid (POST = BARet w.heap.size w (blockAtH h p)) := hPOST
  clear hPOST hbig hl
  obtain ⟨ws, half, base, next⟩ := h
  obtain ⟨pv, cap, rfl, -⟩ := hv.shape
  clear hv
  obtain ⟨A, hA⟩ : ∃ A, A = w.alloc (hpO (.slice pv ws.length cap) ⟨ws, half, base, next⟩) := ⟨_, rfl⟩
  obtain ⟨sA, bA, rA⟩ := box_new w (.slice pv ws.length cap) ⟨ws, half, base, next⟩ hA
  have HA : Hid (A.heap.size = w.heap.size + 1 ∧ Below w.heap.size w A ∧ BoxAt A w.heap.size (.slice pv ws.length cap) ⟨ws, half, base, next⟩) := ⟨sA, bA, rA⟩
  clear sA bA rA
  have HNO : Hid (∀ wq, Below w.heap.size w wq → blockAtH ⟨ws, half, base, next⟩ p = noBA → POST (.returned (.tuple #[.bool false, .int .i64 0, .slice (some ⟨wq.heap.size, 0, none⟩) 0 0, .bool false])) (wq.alloc (.cells #[] 3))) := fun wq hq hn => by
    rw [HP.out, hn]; exact ⟨_, rfl, own_lit wq _ hq.size, hq.alloc hq.size _⟩
  cases hok : hpOkB ⟨ws, half, base, next⟩ with
  | false =>
    rw [hok] at HHO
    have HE : Hid (∀ wq, Below w.heap.size w wq → POST (.returned (.tuple #[.bool false, .int .i64 0, .slice (some ⟨wq.heap.size, 0, none⟩) 0 0, .bool false])) (wq.alloc (.cells #[] 3))) := fun wq hq => HNO.out wq hq (by rw [HDEF.out, HNN.out hok])
    clear HNO
    go_enter Try.func14, Try.ntmps14
    go_wp2_with fail
    rw [← hA]
    clear hA
    refine (HHO.out A HA.out.2.1).mono ?_
    rintro e w1 ⟨rfl, hb⟩
    have HB1 : Hid (Below w.heap.size w w1) := HA.out.2.1.trans (hb.mono HA.out.2.1.size)
    clear hb
    go_wp2_with fail
    refine bodyPost_ret (results_tmp4 rfl _ _ _) rfl ?_
    exact HE.out w1 HB1.out
  | true =>
    rw [hok] at HHO
    obtain ⟨L, hbl⟩ := HSM.out hok
    obtain ⟨b0, n0, hb0, hn0, hbn, hnl, hl6, hpl⟩ := HPLC.out L hbl
    have hb0 : base = (b0 : Int) := hb0
    have hn0 : next = (n0 : Int) := hn0
    subst hb0
    subst hn0
    have hnl : n0 ≤ ws.length := hnl
    have hl6 : ws.length ≤ 6000 := hl6
    have HBL : Hid (blocksB ⟨ws, half, b0, n0⟩ = some L) := hbl
    have HPL : Hid (placesL ws b0 n0 = some L) := hpl
    clear hbl hpl hok
    go_enter Try.func14, Try.ntmps14
    go_wp2_with fail
    rw [← hA]
    clear hA
    refine (HHO.out A HA.out.2.1).mono ?_
    rintro e w1 ⟨rfl, hb⟩
    have HB1 : Hid (Below w.heap.size w w1 ∧ BoxAt w1 w.heap.size (.slice pv ws.length cap) ⟨ws, half, b0, n0⟩) := ⟨HA.out.2.1.trans (hb.mono HA.out.2.1.size), HA.out.2.2.below hb HA.out.2.2.lt⟩
    clear hb
    obtain ⟨c0, c1, c2, c3⟩ := HB1.out.2.cells
    go_wp2_with fail
    refine (spec_places17 ws half b0 n0 (.slice pv ws.length cap) w1 (HV.out.below HB1.out.1) hl6 hnl hbn (fun j => (HBIG.out j).2)).mono ?_
    rintro e w2 ⟨u, L', b, rfl, ho, hb2, hL6, hT, hF⟩
    cases b with
    | false => exact absurd (hF rfl) (by rw [HPL.out]; simp)
    | true =>
    have hLL : L' = L := by have := hT rfl; rw [HPL.out] at this; injection this with this; exact this.symm
    subst hLL
    have HB2 : Hid (Below w.heap.size w w2 ∧ BoxAt w2 w.heap.size (.slice pv ws.length cap) ⟨ws, half, b0, n0⟩ ∧ Rd w2 u L') := ⟨HB1.out.1.trans (hb2.mono HB1.out.1.size), HB1.out.2.below hb2 HB1.out.2.lt, ho.rd⟩
    have HIN7 : Hid (∀ wq, wq = w2 → Calls Try.prog 57 #[u, .int .i64 p] wq fun e w' => e = .returned (.bool (hasB L' p)) ∧ w' = w2) := fun wq hq => by subst hq; exact spec_in7 L' u p wq HB2.out.2.2 (by omega)
    clear hT hF ho hb2 c0 c1 c2 c3
    cases hh : hasB L' p with
    | false =>
      rw [hh] at HIN7
      have HE : Hid (∀ wq, Below w.heap.size w wq → POST (.returned (.tuple #[.bool false, .int .i64 0, .slice (some ⟨wq.heap.size, 0, none⟩) 0 0, .bool false])) (wq.alloc (.cells #[] 3))) := fun wq hq => HNO.out wq hq (by rw [HDEF.out, HBL.out]; exact if_neg (by rw [hh]; decide))
      clear HNO
      go_wp2_with fail
      refine (HIN7.out _ rfl).mono ?_
      rintro e w3 ⟨rfl, hw3⟩
      subst w3
      go_wp2_with fail
      refine bodyPost_ret (results_tmp4 rfl _ _ _) rfl ?_
      exact HE.out w2 HB2.out.1
    | true =>
      rw [hh] at HIN7
      obtain ⟨q, b1, n1, rfl, hb1, hn1, hbq, hqn, _, _, hbk, _⟩ := HTH.out L' p HBL.out hh
      have hb1 : b0 = b1 := Int.ofNat_inj.1 hb1
      have hn1 : n0 = n1 := Int.ofNat_inj.1 hn1
      subst hb1
      subst hn1
      have HBK : Hid (blockB ws q n0 = true) := hbk
      have HRES : Hid (blockAtH ⟨ws, half, b0, n0⟩ q = yesBA ws q) := by
        show _ = _
        rw [HDEF.out, HBL.out]
        show (if hasB L' q then _ else _) = _
        rw [if_pos hh, Int.toNat_natCast]
      have hql : q < ws.length := by omega
      have hkl := kids_len HBK.out hnl
      have hka : ∀ k, k < (manyW (ws.getD q 0)).toNat → (kidsW ws q).getD k 0 = ws.getD (q + 1 + k) 0 := fun k hk => kids_at HBK.out hnl hk
      have hhd : headB (ws.getD q 0) = true := by
        have := HBK.out
        unfold blockB at this
        rw [Bool.and_eq_true] at this
        exact this.1
      have hx0 := (head_iff.1 hhd).1
      have hx1 := (HBIG.out q).2
      have HYB : Hid (yesBA ws q = ⟨funW (ws.getD q 0), tagW (ws.getD q 0), kidsW ws q, true⟩) := rfl
      have hmm := many_lt (ws.getD q 0)
      have hm0 := many_nonneg (ws.getD q 0)
      rcases HV.out with ⟨e1, e2⟩ | ⟨wb, wo, cap', e1, hcap, hc⟩
      · rw [e2] at hql; simp at hql
      injection e1 with e1 _ e3
      subst e1
      subst e3
      have hcell := hc q hql
      generalize hx : ws.getD q 0 = x at *
      obtain ⟨mn, hmn⟩ : ∃ t : Nat, (t : Int) = manyW x := ⟨(manyW x).toNat, by omega⟩
      rw [← hmn, Int.toNat_natCast] at hkl hka
      have hmn64 : mn < 64 := by omega
      have HOF : Hid (∀ wq, Calls Try.prog 54 #[.int .i64 x] wq fun e w' => e = .returned (.tuple #[.bool (funW x), .int .i64 (tagW x), .int .i64 (mn : Int)]) ∧ w' = wq) := fun wq => by have := spec_of17 x wq hx0 hx1; rw [← hmn] at this; exact this
      have HSRC : Hid (∀ wq, Below w.heap.size w wq → ∀ j u, ((kidsW ws q).map (Value.int .i64))[j]? = some u → wq.cell? ((⟨wb, wo + (q + 1), none⟩ : Addr).add j) = some u) := fun wq hq j u hu => by
        rw [List.getElem?_map] at hu
        have hj : j < (kidsW ws q).length := by
          rcases Nat.lt_or_ge j (kidsW ws q).length with h1 | h1
          · exact h1
          · rw [List.getElem?_eq_none h1] at hu; cases hu
        rw [List.getElem?_eq_getElem hj] at hu
        injection hu with hu
        have h2 := hc (q + 1 + j) (by omega)
        rw [← hu, ← getD_int _ j hj, hka j (by omega)]
        have h3 := cell_later hq h2
        rw [show wo + (q + 1 + j) = wo + (q + 1) + j by omega] at h3
        rw [Go.WideShapes.add_plain]
        exact h3
      have HEND : Hid (∀ u wq, Below w.heap.size w wq → Own wq w.heap.size u (kidsW ws q) → POST (.returned (.tuple #[.bool (funW x), .int .i64 (tagW x), u, .bool true])) wq) := fun u wq hq2 ho => by
        rw [HP.out, HRES.out, HYB.out]
        exact ⟨u, rfl, ho, hq2⟩
      have HKL : Hid ((kidsW ws q).length = mn) := hkl.1
      have hpm := hkl.2
      obtain ⟨c0, c1, c2, c3⟩ := HB2.out.2.1.cells
      have d1 := cell_later HB2.out.1 hcell
      obtain ⟨i0, hi, hz0, hz1, hz2⟩ := info_parts int_info
      have HSZ2 : Hid (w.heap.size ≤ w2.heap.size) := HB2.out.1.size
      have HB2A : Hid (Below w.heap.size w (w2.alloc (.cells #[] 3))) := HB2.out.1.alloc HB2.out.1.size _
      have HX2A := (HB2.out.2.1.below (new_below w2 (.cells #[] 3)) HB2.out.2.1.lt).cells
      obtain ⟨g0, g1, g2, g3⟩ := HX2A
      have hsub : q + 1 + mn - (q + 1) = mn := by omega
      have HKM : Hid (((kidsW ws q).map (Value.int .i64)).length = mn * 1) := by show _ = _; rw [List.length_map, HKL.out]; omega
      have HKN : Hid (((kidsW ws q).map (Value.int .i64)).length = mn) := by show _ = _; rw [List.length_map, HKL.out]
      clear hkl hka hhd hx0 hx1 hmm hm0 hx hmn hcell hc hbk
      by_cases hcq : cap = q + 1
      · have hm0 : mn = 0 := by omega
        have hks : kidsW ws q = [] := List.eq_nil_of_length_eq_zero (by rw [HKL.out, hm0])
        have HSR2 : Hid (∀ ad, some (⟨wb, wo, none⟩ : Addr) = some ad → ∀ j u, ((kidsW ws q).map (Value.int .i64))[j]? = some u → (w2.alloc (.cells #[] 3)).cell? (ad.add j) = some u) := fun ad _ j u hu => by rw [hks] at hu; simp at hu
        clear hks
        go_wp2_with fail
        refine (HIN7.out _ rfl).mono ?_
        rintro e w3 ⟨rfl, hw3⟩
        subst w3
        go_wp2_with fail
        refine (HOF.out _).mono ?_
        rintro e w3 ⟨rfl, hw3⟩
        subst w3
        go_wp2_with (at_builtin; refine wpList_append_any _ rfl (.tmp 39) (.tmp 48) 22 rfl w2.heap.size 3 i0 (.int .i64 0) 1 8 Try.underlying22 hi hz0 hz1 hz2 rfl (by decide) (.slice (some ⟨w2.heap.size, 0, none⟩) 0 0) 0 [] rfl (own_lit w2 w2.heap.size (Nat.le_refl _)) _ _ _ ((kidsW ws q).map (Value.int .i64)) rfl (by rw [HKN.out]; omega) (fun h => by cases h) HSR2.out (ints_cells (kidsW ws q)) (by unfold maxLen; omega) (by omega) (by simp) ?_; intro v' w5 hown2 hg2; have R := own_join (M := kidsW ws q) (own_lit w2 w2.heap.size (Nat.le_refl _)) (new_below w2 _) (by simp) (owns_len hown2.out (by simp)) hg2.out; have HR : Hid (Own w5 w.heap.size v' ([] ++ kidsW ws q) ∧ Below w.heap.size w w5) := ⟨R.1.mono HSZ2.out, HB2.out.1.trans (R.2.mono HSZ2.out)⟩; clear R hown2 hg2)
        refine bodyPost_ret (results_tmp4 rfl _ _ _) rfl ?_
        exact HEND.out v' _ HR.out.2 HR.out.1
      · have hcq2 : q + 1 < cap := by omega
        have HSR2 : Hid (∀ ad, some (⟨wb, wo + (q + 1), none⟩ : Addr) = some ad → ∀ j u, ((kidsW ws q).map (Value.int .i64))[j]? = some u → (w2.alloc (.cells #[] 3)).cell? (ad.add j) = some u) := fun ad hh2 j u hu => by
          injection hh2 with hh2; subst hh2; exact HSRC.out _ HB2A.out j u hu
        go_wp2_with fail
        refine (HIN7.out _ rfl).mono ?_
        rintro e w3 ⟨rfl, hw3⟩
        subst w3
        go_wp2_with fail
        refine (HOF.out _).mono ?_
        rintro e w3 ⟨rfl, hw3⟩
        subst w3
        go_wp2_with (at_builtin; refine wpList_append_any _ rfl (.tmp 39) (.tmp 48) 22 rfl w2.heap.size 3 i0 (.int .i64 0) 1 8 Try.underlying22 hi hz0 hz1 hz2 rfl (by decide) (.slice (some ⟨w2.heap.size, 0, none⟩) 0 0) 0 [] rfl (own_lit w2 w2.heap.size (Nat.le_refl _)) _ _ _ ((kidsW ws q).map (Value.int .i64)) rfl (by rw [HKN.out]; omega) (fun h => by cases h) HSR2.out (ints_cells (kidsW ws q)) (by unfold maxLen; omega) (by omega) (by simp) ?_; intro v' w5 hown2 hg2; have R := own_join (M := kidsW ws q) (own_lit w2 w2.heap.size (Nat.le_refl _)) (new_below w2 _) (by simp) (owns_len hown2.out (by simp)) hg2.out; have HR : Hid (Own w5 w.heap.size v' ([] ++ kidsW ws q) ∧ Below w.heap.size w w5) := ⟨R.1.mono HSZ2.out, HB2.out.1.trans (R.2.mono HSZ2.out)⟩; clear R hown2 hg2)
        refine bodyPost_ret (results_tmp4 rfl _ _ _) rfl ?_
        exact HEND.out v' _ HR.out.2 HR.out.1
end Go.Proofs.Ytgcegjgjegkahab
