/- spec.FunsBytes at every list of functions. Condition: they lie in memory. -/
import Derived.Test.YtocdpgogoadfnaaDoorImplFunsBytes
import Derived.Test.YtocdpgogoadfnaaDoorSpecFunsOk
import Derived.Deep.Cut
namespace Go.Proofs.YtocdpgogoadfnaaDoor
open Go.ChangeShapes Go.WideShapes Go.ChangeAt Go.RowKit

/-- PutNum at an int in its bounds: a row that is not empty, as a source. -/
theorem put_src (z : Int) (h0 : 0 ≤ z) (h1 : z ≤ 2147483647) (w : World) :
    Calls Tryd.prog 20 #[.int .i64 z] w fun e w' => ∃ ad c, e = .returned (.slice (some ad) (putN z.toNat).length c) ∧ OwnY w' w.heap.size (.slice (some ad) (putN z.toNat).length c) (putN z.toNat) ∧ (∀ j x, ((putN z.toNat).map byV)[j]? = some x → w'.cell? (ad.add j) = some x) ∧ Below w.heap.size w w' := by
  refine (spec_put z w (by omega)).mono ?_
  rintro e w' ⟨u, rfl, ho, hb⟩
  rw [putI, if_pos ⟨h0, h1⟩] at ho
  obtain ⟨ad, c, rfl, hc⟩ := ho.src (putN_pos _)
  exact ⟨ad, c, rfl, ho, hc, hb⟩
theorem put_bounds (z : Int) (h1 : z ≤ 2147483647) : (putN z.toNat).length ≤ 5 ∧ 0 < (putN z.toNat).length := ⟨putN_len5 (by omega), putN_pos _⟩

set_option maxRecDepth 100000 in
set_option maxHeartbeats 8000000 in
theorem spec_funs_bytes (nf : Nat) (kid : Nat → Fu) (w : World) (v : Value) (hv : Fl w nf kid v) :
    Calls Tryd.prog 6 #[v] w (BytesPost nf kid w) := by
  obtain ⟨i0, hi, hz0, hz1, hz2⟩ := info_parts by_info
  obtain ⟨R, hR⟩ : ∃ R : Bool, R = true ↔ FunsP nf kid := by
    by_cases h : FunsP nf kid
    · exact ⟨true, by simp [h]⟩
    · exact ⟨false, by simp [h]⟩
  have HK : Hid (Calls Tryd.prog 19 #[v] w fun e w' => e = .returned (.bool R) ∧ Below w.heap.size w w') := spec_funs_ok nf kid w v hv R hR
  obtain ⟨p, cap, ev⟩ := hv.shape
  obtain ⟨POST, hPOST⟩ : ∃ POST, POST = BytesPost nf kid w := ⟨_, rfl⟩
  rw [← hPOST]
  have HPOST : Hid (∀ u L w', FunsY nf kid L → OwnY w' w.heap.size u L → Below w.heap.size w w' → POST (.returned u) w') := fun u L w' h1 h2 h3 => by rw [hPOST]; exact ⟨u, L, rfl, h1, h2, h3⟩
  clear hPOST
  cases R with
  | false =>
    have hno : ¬ FunsP nf kid := fun h => by have := hR.2 h; cases this
    have HN : Hid (FunsY nf kid []) := .inr ⟨hno, rfl⟩
    subst ev
    clear hv hR hno
    go_enter Tryd.func6, Tryd.ntmps6
    go_wp2_with fail
    refine HK.out.mono ?_
    rintro e w1 ⟨rfl, hb⟩
    have HB : Hid (Below w.heap.size w w1) := hb
    have HSZ : Hid (w.heap.size ≤ w1.heap.size) := hb.size
    clear hb
    go_wp2_with fail
    exact HPOST.out _ [] _ HN.out (own_litY w1 w.heap.size HSZ.out) (HB.out.trans ((new_belowY w1 _).mono HSZ.out))
  | true =>
    have hok : FunsP nf kid := hR.1 rfl
    obtain ⟨h60, h1, hnums⟩ := nums_fun hok
    have HNU : Hid (∀ i, i < nf → NumsF (kid i)) := hnums
    have HPRE : Hid (∀ k, k ≤ nf → (putN nf ++ funsY kid k).length ≤ 2760005) := fun k hk => pre_len hok hk
    have HDONE : Hid (FunsY nf kid (putN nf ++ funsY kid nf)) := .inl ⟨hok, rfl⟩
    have HC : Hid (∀ w1, Below w.heap.size w w1 → ∀ i, i < nf → ∃ b o u, p = some ⟨b, o, none⟩ ∧ HeadF w1 b (o + i * 2) (kid i) u ∧ (kid i).In w1 u) := fun w1 hb => by
      obtain ⟨p1, c1, e1, _, h⟩ := (hv.below hb).at
      rw [ev] at e1
      injection e1 with e1 _ _
      subst e1
      exact h
    have HT0 : Hid (funsY kid 0 = []) := rfl
    have HTS : Hid (∀ k, funsY kid (k + 1) = funsY kid k ++ (putN (kid k).fr.toNat ++ (putN (kid k).len ++ opsY (kid k).op (kid k).len))) := fun k => rfl
    have HA0 : Hid (∀ w1, Calls Tryd.prog 20 #[.int .i64 (nf : Int)] w1 fun e w' => ∃ u, e = .returned u ∧ OwnY w' w1.heap.size u (putN nf) ∧ Below w1.heap.size w1 w') := fun w1 => by
      refine (spec_put nf w1 (by omega)).mono ?_
      rintro e w' ⟨u, he, ho, hb⟩
      rw [putI, if_pos (by omega), Int.toNat_natCast] at ho
      exact ⟨u, he, ho, hb⟩
    obtain ⟨B, hB⟩ : ∃ B, B = w.heap.size := ⟨_, rfl⟩
    rw [← hB] at HK HPOST HC
    have HBW : Hid (B = w.heap.size) := hB
    subst ev
    clear hv hR hok hnums hB
    go_enter Tryd.func6, Tryd.ntmps6
    go_wp2_with fail
    refine HK.out.mono ?_
    rintro e w1 ⟨rfl, hb⟩
    have HB : Hid (Below B w w1 ∧ B ≤ w1.heap.size) := ⟨hb, by rw [HBW.out]; exact hb.size⟩
    clear hb HK
    go_wp2_with fail
    refine (HA0.out w1).mono ?_
    rintro e w2 ⟨u, rfl, ho, hb⟩
    have HB2 : Hid (Below B w w2 ∧ OwnY w2 B u (putN nf)) := ⟨HB.out.1.trans (hb.mono HB.out.2), ho.mono HB.out.2⟩
    clear ho hb HA0 HB
    go_wp2_with fail
    go_loopw [3, 4] (fun r i wr => ∃ (k : Nat) (r0 : Value), r0 = r ∧ i = .int .i64 k ∧ k ≤ nf ∧ OwnY wr B r0 (putN nf ++ funsY kid k) ∧ Below B w wr) (fun _ i _ => nf - (intOf i).toNat)
    case atStart => exact ⟨0, _, rfl, rfl, Nat.zero_le _, by rw [HT0.out, List.append_nil]; exact HB2.out.2, HB2.out.1⟩
    case round =>
      obtain ⟨k, r0, rfl, rfl, hk, hown, hbel⟩ := hrel
      have HOW : Hid (OwnY wr B r0 (putN nf ++ funsY kid k)) := hown
      have HB : Hid (Below B w wr) := hbel
      have HSZ : Hid (B ≤ wr.heap.size) := by have := hbel.size; rw [HBW.out]; exact this
      clear hown hbel HB2
      by_cases hlt : (k : Int) < nf
      · have hlt' : k < nf := by omega
        obtain ⟨b, o, u, rfl, ⟨c0, c1⟩, hin⟩ := HC.out wr HB.out k hlt'
        obtain ⟨pu, cu, eu, -, hops⟩ := hin.sl.at
        subst eu
        have HF1 : Hid (∀ w2, Below B wr w2 → w2.cell? ⟨b, o + k * 2 + 1, none⟩ = some (.slice pu (kid k).len cu) ∧ ∀ i, i < (kid k).len → ∃ b o, pu = some ⟨b, o, none⟩ ∧ HeadO w2 b (o + i * 3) ((kid k).op i)) := fun w2 hb => by
          obtain ⟨b2, o2, u2, e2, hd2, hin2⟩ := HC.out w2 (HB.out.trans hb) k hlt'
          injection e2 with e2
          injection e2 with e3 e4 _
          subst e3 e4
          obtain ⟨b3, o3, u3, e3, hd3, hin3⟩ := HC.out w (Below.refl _ _) k hlt'
          injection e3 with e3
          injection e3 with e5 e6 _
          subst e5 e6
          have hbw : Below w.heap.size w wr := by rw [← HBW.out]; exact HB.out
          have hbw2 : Below w.heap.size w w2 := by rw [← HBW.out]; exact HB.out.trans hb
          have q1 := (hd3.below hbw).c1
          have q2 := (hd3.below hbw2).c1
          rw [c1] at q1
          injection q1 with q1
          subst q1
          refine ⟨q2, fun i hi => ?_⟩
          rw [hd2.c1] at q2
          injection q2 with q2
          subst q2
          obtain ⟨p3, c3, e3, _, h3⟩ := hin2.sl.at
          injection e3 with e3 _ _
          subst e3
          obtain ⟨x1, x2, x3, x4, _⟩ := h3 i hi
          exact ⟨x1, x2, x3, x4⟩
        have HNF : Hid (NumsF (kid k)) := HNU.out k hlt'
        have hfr := HNF.out.1
        have hln := HNF.out.2.1
        have hML := HPRE.out k (by omega)
        have HOPL : Hid (∀ j, j ≤ (kid k).len → (opsY (kid k).op j).length ≤ 15 * j) := opsY_len2 HNF.out
        have HNO : Hid (∀ j, j < (kid k).len → NumsO ((kid k).op j)) := HNF.out.2.2
        have HES : Hid (putN nf ++ funsY kid (k + 1) = putN nf ++ funsY kid k ++ putN (kid k).fr.toNat ++ putN (kid k).len ++ opsY (kid k).op (kid k).len) := by
          show _ = _
          rw [HTS.out]
          simp only [List.append_assoc]
        have HOT0 : Hid (opsY (kid k).op 0 = []) := rfl
        have HOTS : Hid (∀ j, opsY (kid k).op (j + 1) = opsY (kid k).op j ++ opY ((kid k).op j)) := fun j => rfl
        clear hin hops HNF
        generalize (kid k).fr = F at *
        generalize (kid k).op = op at *
        generalize hLen : (kid k).len = N at *
        clear hLen
        obtain ⟨M, hM⟩ : ∃ M, M = putN nf ++ funsY kid k := ⟨_, rfl⟩
        rw [← hM] at HOW HES hML
        clear hM
        have hpb := put_bounds F (by omega)
        have hpn : (putN N).length ≤ 5 ∧ 0 < (putN N).length := ⟨putN_len5 (by omega), putN_pos _⟩
        go_wp2_with fail
        refine (put_src F (by omega) (by omega) wr).mono ?_
        rintro e w2 ⟨ad, c, rfl, ho, hsrc, hb⟩
        have HO2 : Hid (OwnY w2 B r0 M) := HOW.out.below hb
        have HS2 : Hid (∀ j x, ((putN F.toNat).map byV)[j]? = some x → w2.cell? (ad.add j) = some x) := hsrc
        have HB2 : Hid (Below B wr w2 ∧ B ≤ w2.heap.size) := ⟨hb.mono HSZ.out, Nat.le_trans HSZ.out hb.size⟩
        clear ho hsrc hb HOW
        go_wp2_with (
          at_builtin
          refine wpList_append_1 _ rfl (.tmp 20) (.tmp 26) 24 rfl B 5 i0 (.int .u8 0) 1 1 Tryd.underlying24 hi hz0 hz1 hz2 rfl (by decide) r0 M.length (M.map byV) rfl HO2.out ad (putN F.toNat).length c ((putN F.toNat).map byV) rfl (by rw [List.length_map]; omega) HS2.out (one_cellsY _) (by unfold maxLen; omega) (by omega) HB2.out.2 (by omega) ?_
          intro v' w3 hown3 hg3 _
          have HO3 : Hid (OwnY w3 B v' (M ++ putN F.toNat)) := by
            show OwnY _ _ _ _
            unfold OwnY
            rw [List.length_append, List.map_append]
            exact hown3
          have hb3 : Below B wr w3 := HB2.out.1.grown hg3 HB2.out.2 (fun k hk => (HO2.out.lt k hk).1)
          have HB3 : Hid (Below B wr w3 ∧ B ≤ w3.heap.size) := ⟨hb3, Nat.le_trans HSZ.out hb3.size⟩
          have g1 := (HF1.out w3 hb3).1
          have hM3 : (M ++ putN F.toNat).length ≤ 2760010 := by rw [List.length_append]; omega
          clear hown3 hg3 hb3 HO2 HS2 HB2 c0 c1)
        generalize M ++ putN F.toNat = M3 at *
        have HPN : Hid (∀ w, Calls Tryd.prog 20 #[.int .i64 (N : Int)] w fun e w' => ∃ ad c, e = .returned (.slice (some ad) (putN N).length c) ∧ OwnY w' w.heap.size (.slice (some ad) (putN N).length c) (putN N) ∧ (∀ j x, ((putN N).map byV)[j]? = some x → w'.cell? (ad.add j) = some x) ∧ Below w.heap.size w w') := fun w => by
          have := put_src (N : Int) (by omega) (by omega) w
          rwa [Int.toNat_natCast] at this
        go_wp2_with fail
        refine (HPN.out w3).mono ?_
        rintro e w4 ⟨ad4, cc4, rfl, ho, hsrc, hb⟩
        have HO4 : Hid (OwnY w4 B v' M3) := HO3.out.below hb
        have HS4 : Hid (∀ j x, ((putN N).map byV)[j]? = some x → w4.cell? (ad4.add j) = some x) := hsrc
        have HB4 : Hid (Below B wr w4 ∧ B ≤ w4.heap.size) := ⟨HB3.out.1.trans (hb.mono HB3.out.2), Nat.le_trans HB3.out.2 hb.size⟩
        clear ho hsrc hb HO3 HB3 g1 HPN
        go_wp2_with (
          at_builtin
          refine wpList_append_1 _ rfl (.tmp 28) (.tmp 35) 24 rfl B 5 i0 (.int .u8 0) 1 1 Tryd.underlying24 hi hz0 hz1 hz2 rfl (by decide) v' M3.length (M3.map byV) rfl HO4.out ad4 (putN N).length cc4 ((putN N).map byV) rfl (by rw [List.length_map]; omega) HS4.out (one_cellsY _) (by unfold maxLen; omega) (by omega) HB4.out.2 (by omega) ?_
          intro v5 w5 hown5 hg5 _
          have HO5 : Hid (OwnY w5 B v5 (M3 ++ putN N)) := by
            show OwnY _ _ _ _
            unfold OwnY
            rw [List.length_append, List.map_append]
            exact hown5
          have hb5 : Below B wr w5 := HB4.out.1.grown hg5 HB4.out.2 (fun k hk => (HO4.out.lt k hk).1)
          have HB5 : Hid (Below B wr w5) := hb5
          have hM5 : (M3 ++ putN N).length ≤ 2760015 := by rw [List.length_append]; omega
          clear hown5 hg5 hb5 HO4 HS4 HB4)
        generalize M3 ++ putN N = M5 at *
        obtain ⟨wf, rfl⟩ : ∃ x, x = wr := ⟨_, rfl⟩
        go_wp2_with fail
        go_loopw [3, 5, 6] (fun r i _ wr => ∃ (j : Nat) (r0 : Value), r0 = r ∧ i = .int .i64 j ∧ j ≤ N ∧ OwnY wr B r0 (M5 ++ opsY op j) ∧ Below B wf wr) (fun _ i _ _ => N - (intOf i).toNat)
        case atStart => exact ⟨0, _, rfl, rfl, Nat.zero_le _, by rw [HOT0.out, List.append_nil]; exact HO5.out, HB5.out⟩
        case round =>
          obtain ⟨j, r0, rfl, rfl, hj, hown, hbel⟩ := hrel
          have HOW : Hid (OwnY wr B r0 (M5 ++ opsY op j)) := hown
          have HBI : Hid (Below B wf wr) := hbel
          have HSI : Hid (B ≤ wr.heap.size) := Nat.le_trans HSZ.out hbel.size
          have g1 := (HF1.out wr hbel).1
          have HEND : Hid (Below B w wr) := HB.out.trans hbel
          have hopl := HOPL.out j hj
          have hMI : (M5 ++ opsY op j).length ≤ 2805015 := by rw [List.length_append]; omega
          by_cases hjl : (j : Int) < N
          · have hjl' : j < N := by omega
            obtain ⟨bo, oo, rfl, ⟨d0, d1, d2⟩⟩ := (HF1.out wr hbel).2 j hjl'
            obtain ⟨⟨n1, n2⟩, ⟨n3, n4⟩, n5, n6⟩ := HNO.out j hjl'
            have HEO : Hid (M5 ++ opsY op (j + 1) = M5 ++ opsY op j ++ putN (op j).c.toNat ++ putN ((op j).n + 1073741824).toNat ++ putN (op j).m.toNat) := by
              show _ = _
              rw [HOTS.out]
              simp only [opY, List.append_assoc]
            clear hown hbel hopl HO5 HB5
            generalize (op j).c = zc at *
            generalize (op j).n = zn at *
            generalize (op j).m = zm at *
            obtain ⟨MI, hMIe⟩ : ∃ MI, MI = M5 ++ opsY op j := ⟨_, rfl⟩
            rw [← hMIe] at HOW HEO hMI
            clear hMIe
            have pc := put_bounds zc (by omega)
            have pn := put_bounds (zn + 1073741824) (by omega)
            have pm := put_bounds zm (by omega)
            obtain ⟨K, hK⟩ : ∃ K, K = wr.heap.size := ⟨_, rfl⟩
            obtain ⟨W, hW⟩ : ∃ W, W = wr.alloc (.cells #[.int .i64 zc, .int .i64 zn, .int .i64 zm] 47) := ⟨_, rfl⟩
            have HWW : Hid (wr.alloc (.cells #[.int .i64 zc, .int .i64 zn, .int .i64 zm] 47) = W) := hW.symm
            have HKK : Hid (wr.heap.size = K) := hK.symm
            have hrow : W.heap[K]? = some (.cells #[.int .i64 zc, .int .i64 zn, .int .i64 zm] 47 (0, 0)) := by rw [hW, hK]; exact heap_alloc_new wr _
            have k0 : W.cell? ⟨K, 0, none⟩ = some (.int .i64 zc) := cell_of_row _ _ 0 _ _ _ hrow
            have HK1 : Hid (W.cell? ⟨K, 1, none⟩ = some (.int .i64 zn)) := cell_of_row _ _ 1 _ _ _ hrow
            have HK2 : Hid (W.cell? ⟨K, 2, none⟩ = some (.int .i64 zm)) := cell_of_row _ _ 2 _ _ _ hrow
            have HAY : Hid (AY K B W r0 MI) := by rw [hW, hK]; exact AY.new HOW.out HSI.out _
            have HBA : Hid (Below B wf W) := by rw [hW]; exact HBI.out.trans ((newb wr _).mono HSI.out)
            clear hW hK hrow HOW HSI HBI HEND
            go_wp2_with (rw [HWW.out, HKK.out])
            refine (put_src zc (by omega) (by omega) W).mono ?_
            rintro e w2 ⟨ad, c, rfl, ho, hsrc, hb⟩
            have HSR : Hid (∀ j x, ((putN zc.toNat).map byV)[j]? = some x → w2.cell? (ad.add j) = some x) := hsrc
            have HBB : Hid (Below W.heap.size W w2) := hb
            have HOX : Hid (OwnY w2 B r0 MI ∧ B ≤ w2.heap.size) := ⟨HAY.out.own.below hb, Nat.le_trans HAY.out.le hb.size⟩
            clear ho hsrc hb
            go_wp2_with (
              at_builtin
              refine wpList_append_1 _ rfl (.tmp 55) (.tmp 58) 24 rfl B 5 i0 (.int .u8 0) 1 1 Tryd.underlying24 hi hz0 hz1 hz2 rfl (by decide) r0 MI.length (MI.map byV) rfl HOX.out.1 ad (putN zc.toNat).length c ((putN zc.toNat).map byV) rfl (by rw [List.length_map]; omega) HSR.out (one_cellsY _) (by unfold maxLen; omega) (by omega) HOX.out.2 (by omega) ?_
              intro r1 w3 hown3 hg3 hw3
              have A3 := HAY.out.put HBB.out hown3 hg3 hw3
              have HA3 : Hid (AY K B w3 r1 (MI ++ putN zc.toNat)) := A3.1
              have HS3 : Hid (SY K B W w3) := A3.2
              have k1 := A3.2.cell HK1.out
              have hM3 : (MI ++ putN zc.toNat).length ≤ 2805020 := by rw [List.length_append]; omega
              clear hown3 hg3 hw3 A3 HAY HSR HBB HOX k0)
            obtain ⟨M3, hM3e⟩ : ∃ M3, M3 = MI ++ putN zc.toNat := ⟨_, rfl⟩
            rw [← hM3e] at HA3 HEO hM3
            clear hM3e
            go_wp2_with fail
            refine (put_src (zn + 1073741824) (by omega) (by omega) w3).mono ?_
            rintro e w4 ⟨ad, c, rfl, ho, hsrc, hb⟩
            have HSR : Hid (∀ j x, ((putN (zn + 1073741824).toNat).map byV)[j]? = some x → w4.cell? (ad.add j) = some x) := hsrc
            have HBB : Hid (Below w3.heap.size w3 w4) := hb
            have HOX : Hid (OwnY w4 B r1 M3 ∧ B ≤ w4.heap.size) := ⟨HA3.out.own.below hb, Nat.le_trans HA3.out.le hb.size⟩
            clear ho hsrc hb
            go_wp2_with (
              at_builtin
              refine wpList_append_1 _ rfl (.tmp 60) (.tmp 64) 24 rfl B 5 i0 (.int .u8 0) 1 1 Tryd.underlying24 hi hz0 hz1 hz2 rfl (by decide) r1 M3.length (M3.map byV) rfl HOX.out.1 ad (putN (zn + 1073741824).toNat).length c ((putN (zn + 1073741824).toNat).map byV) rfl (by rw [List.length_map]; omega) HSR.out (one_cellsY _) (by unfold maxLen; omega) (by omega) HOX.out.2 (by omega) ?_
              intro r2 w5 hown3 hg3 hw3
              have A5 := HA3.out.put HBB.out hown3 hg3 hw3
              have HA5 : Hid (AY K B w5 r2 (M3 ++ putN (zn + 1073741824).toNat)) := A5.1
              have HS5 : Hid (SY K B W w5) := HS3.out.trans A5.2
              have k2 := HS5.out.cell HK2.out
              have hM5 : (M3 ++ putN (zn + 1073741824).toNat).length ≤ 2805025 := by rw [List.length_append]; omega
              clear hown3 hg3 hw3 A5 HA3 HSR HBB HOX k1 HS3)
            obtain ⟨M4, hM4e⟩ : ∃ M4, M4 = M3 ++ putN (zn + 1073741824).toNat := ⟨_, rfl⟩
            rw [← hM4e] at HA5 HEO hM5
            clear hM4e
            go_wp2_with fail
            refine (put_src zm (by omega) (by omega) w5).mono ?_
            rintro e w6 ⟨ad, c, rfl, ho, hsrc, hb⟩
            have HSR : Hid (∀ j x, ((putN zm.toNat).map byV)[j]? = some x → w6.cell? (ad.add j) = some x) := hsrc
            have HBB : Hid (Below w5.heap.size w5 w6) := hb
            have HOX : Hid (OwnY w6 B r2 M4 ∧ B ≤ w6.heap.size) := ⟨HA5.out.own.below hb, Nat.le_trans HA5.out.le hb.size⟩
            clear ho hsrc hb
            go_wp2_with (
              at_builtin
              refine wpList_append_1 _ rfl (.tmp 66) (.tmp 69) 24 rfl B 5 i0 (.int .u8 0) 1 1 Tryd.underlying24 hi hz0 hz1 hz2 rfl (by decide) r2 M4.length (M4.map byV) rfl HOX.out.1 ad (putN zm.toNat).length c ((putN zm.toNat).map byV) rfl (by rw [List.length_map]; omega) HSR.out (one_cellsY _) (by unfold maxLen; omega) (by omega) HOX.out.2 (by omega) ?_
              intro r3 w7 hown3 hg3 hw3
              have A7 := HA5.out.put HBB.out hown3 hg3 hw3
              have HO7 : Hid (OwnY w7 B r3 (M4 ++ putN zm.toNat)) := A7.1.own
              have HB7 : Hid (Below B wf w7) := HBA.out.trans (HS5.out.trans A7.2).below
              clear hown3 hg3 hw3 A7 HA5 HSR HBB HOX k2 HS5)
            go_wp2_with fail
            go_roundw
            case rel => exact ⟨j + 1, _, rfl, by go_num, by omega, by rw [HEO.out]; exact HO7.out, HB7.out⟩
            case measure => simp [intOf]; omega
          · have hje : j = N := by omega
            subst hje
            have HOF : Hid (OwnY wr B r0 (putN nf ++ funsY kid (k + 1))) := by show OwnY _ _ _ _; rw [HES.out]; exact HOW.out
            clear hown hbel hopl HO5 HB5 HES
            go_wp2_with fail
            go_roundw
            case rel => exact ⟨k + 1, _, rfl, by go_num, by omega, HOF.out, HEND.out⟩
            case measure => simp [intOf]; omega
      · have hke : k = nf := by omega
        subst hke
        go_wp2_with fail
        exact HPOST.out _ _ _ HDONE.out HOW.out HB.out
end Go.Proofs.YtocdpgogoadfnaaDoor
