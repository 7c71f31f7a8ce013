/- impl.appendPlaces, impl.FunsBytes: the bytes of functions. Conditions: the functions lie in memory. -/
import Derived.Test.YtocdpgogoadfnaaDoorAppNum16
import Derived.Test.YtocdpgogoadfnaaDoorFunsY16
import Derived.Test.YtocdpgogoadfnaaDoorImplFunsOk2
import Derived.Test.YtocdpgogoadfnaaDoorFunsRow
import Derived.Deep.Cut
namespace Go.Proofs.YtocdpgogoadfnaaDoor
open Go.ChangeShapes Go.WideShapes Go.ChangeAt Go.RowKit

/-- appendNum at an int that is not below 0. -/
theorem app_at (z : Int) (h0 : 0 ≤ z) (h1 : z ≤ 9223372036854775807) (B : Nat) (v : Value) (L : List Nat) (w : World) (hown : OwnY w B v L) (hB : B ≤ w.heap.size) (hL : L.length ≤ 1099511627776) :
    Calls Tryd.prog 23 #[v, .int .i64 z] w fun e w' => ∃ u, e = .returned u ∧ OwnY w' B u (L ++ putN z.toNat) ∧ w.grownBy w' v.ownBlock ∧ WhereY w v u := by
  obtain ⟨n, rfl⟩ : ∃ n : Nat, z = n := ⟨z.toNat, by omega⟩
  rw [Int.toNat_natCast]
  exact append_num2 n B v L w hown hB hL (by omega)

theorem put_num_len (z : Int) (h1 : z ≤ 2147483647) : (putN z.toNat).length ≤ 5 := putN_len5 (by omega)

set_option maxRecDepth 100000 in
set_option maxHeartbeats 2000000 in
theorem impl_places16 (t : Fu) (ht : NumsF t) (B : Nat) (v sv : Value) (L : List Nat) (w : World) (hown : OwnY w B v L) (hB : B ≤ w.heap.size) (hL : L.length ≤ 3000000) (hs : ∀ w1, Below B w w1 → Ol w1 t.len t.op sv) :
    Calls Tryd.prog 24 #[v, sv] w fun e w' => ∃ u, e = .returned u ∧ OwnY w' B u (L ++ (putN t.len ++ opsY t.op t.len)) ∧ Below B w w' := by
  obtain ⟨p, cap, rfl, hlen, hat⟩ := (hs w (Below.refl _ _)).at
  have HOL : Hid (∀ w1, Below B w w1 → ∀ i, i < t.len → ∃ b o, p = some ⟨b, o, none⟩ ∧ HeadO w1 b (o + i * 3) (t.op i) ∧ (t.op i).Ok) := fun w1 hb => by
    obtain ⟨p1, c1, e1, _, h⟩ := (hs w1 hb).at
    injection e1 with e1 _ _
    subst e1
    exact h
  have HN : Hid (∀ k, k < t.len → NumsO (t.op k)) := ht.2.2
  have HPL : Hid (∀ k, k ≤ t.len → (opsY t.op k).length ≤ 15 * k) := opsY_len2 ht
  have hm := ht.2.1
  have HO : Hid (OwnY w B v L) := hown
  have HT0 : Hid (opsY t.op 0 = []) := rfl
  have HTS : Hid (∀ k, opsY t.op (k + 1) = opsY t.op k ++ opY (t.op k)) := fun k => rfl
  have HP5 : Hid ((putN t.len).length ≤ 5) := putN_len5 (by omega)
  have HA0 := app_at (t.len : Int) (by omega) (by omega) B v L w hown hB (by omega)
  rw [Int.toNat_natCast] at HA0
  have HA : Hid (Calls Tryd.prog 23 #[v, .int .i64 (t.len : Int)] w fun e w' => ∃ u, e = .returned u ∧ OwnY w' B u (L ++ putN t.len) ∧ w.grownBy w' v.ownBlock ∧ WhereY w v u) := HA0
  have HGB : Hid (∀ w', w.grownBy w' v.ownBlock → Below B w w') := fun w' hg => (Below.refl B w).grown hg hB (fun k hk => (hown.lt k hk).1)
  clear hs hat hown ht HA0
  generalize t.op = op at *
  generalize hN : t.len = N at *
  clear hN
  go_enter Tryd.func24, Tryd.ntmps24
  go_wp2_with fail
  refine HA.out.mono ?_
  rintro e w1 ⟨u, rfl, ho1, hg1, hw1⟩
  have H1 : Hid (OwnY w1 B u (L ++ putN N) ∧ Below B w w1) := ⟨ho1, HGB.out _ hg1⟩
  clear ho1 hg1 hw1 HA
  go_wp2_with fail
  go_loopw [0, 13] (fun r i wr => ∃ (k : Nat) (r0 : Value), r0 = r ∧ i = .int .i64 k ∧ k ≤ N ∧ OwnY wr B r0 (L ++ (putN N ++ opsY op k)) ∧ Below B w wr) (fun _ i _ => N - (intOf i).toNat)
  case atStart => exact ⟨0, _, rfl, rfl, Nat.zero_le _, by rw [HT0.out, List.append_nil]; exact H1.out.1, H1.out.2⟩
  case round =>
    obtain ⟨k, r0, rfl, rfl, hk, hown, hbel⟩ := hrel
    have HOW : Hid (OwnY wr B r0 (L ++ (putN N ++ opsY op k))) := hown
    have HB : Hid (Below B w wr) := hbel
    clear hown hbel H1 HO
    by_cases hlt : (k : Int) < N
    · have hlt' : k < N := by omega
      obtain ⟨b, o, rfl, ⟨c0, c1, c2⟩, -⟩ := HOL.out wr HB.out k hlt'
      obtain ⟨⟨n1, n2⟩, ⟨n3, n4⟩, n5, n6⟩ := HN.out k hlt'
      have hML : (L ++ (putN N ++ opsY op k)).length ≤ 3045005 := by
        have := HPL.out k (by omega)
        have := HP5.out
        rw [List.length_append, List.length_append]; omega
      have HES : Hid (L ++ (putN N ++ opsY op (k + 1)) = L ++ (putN N ++ opsY op k) ++ putN (op k).c.toNat ++ putN ((op k).n + 1073741824).toNat ++ putN (op k).m.toNat) := by
        show _ = _
        rw [HTS.out]
        simp only [opY, List.append_assoc]
      have HBR : Hid (B ≤ wr.heap.size) := Nat.le_trans hB HB.out.size
      generalize (op k).c = zc at *
      generalize (op k).n = zn at *
      generalize (op k).m = zm at *
      obtain ⟨M, hM⟩ : ∃ M, M = L ++ (putN N ++ opsY op k) := ⟨_, rfl⟩
      rw [← hM] at HOW HES hML
      clear hM
      obtain ⟨K, hK⟩ : ∃ K, K = wr.heap.size := ⟨_, rfl⟩
      obtain ⟨W, hW⟩ : ∃ W, W = wr.alloc (.cells #[.int .i64 zc, .int .i64 zn, .int .i64 zm] 47) := ⟨_, rfl⟩
      have HWW : Hid (wr.alloc (.cells #[.int .i64 zc, .int .i64 zn, .int .i64 zm] 47) = W) := hW.symm
      have HKK : Hid (wr.heap.size = K) := hK.symm
      have hrow : W.heap[K]? = some (.cells #[.int .i64 zc, .int .i64 zn, .int .i64 zm] 47 (0, 0)) := by rw [hW, hK]; exact heap_alloc_new wr _
      have k0 : W.cell? ⟨K, 0, none⟩ = some (.int .i64 zc) := cell_of_row _ _ 0 _ _ _ hrow
      have k1 : W.cell? ⟨K, 1, none⟩ = some (.int .i64 zn) := cell_of_row _ _ 1 _ _ _ hrow
      have k2 : W.cell? ⟨K, 2, none⟩ = some (.int .i64 zm) := cell_of_row _ _ 2 _ _ _ hrow
      have HAY : Hid (AY K B W r0 M) := by rw [hW, hK]; exact AY.new HOW.out HBR.out _
      have HK1 : Hid (W.cell? ⟨K, 1, none⟩ = some (.int .i64 zn)) := k1
      have HK2 : Hid (W.cell? ⟨K, 2, none⟩ = some (.int .i64 zm)) := k2
      have HBW : Hid (Below B w W) := by rw [hW]; exact HB.out.trans ((newb wr _).mono HBR.out)
      clear hW hK hrow HB HOW HBR
      go_wp2_with (rw [HWW.out, HKK.out])
      refine (app_at zc (by omega) (by omega) B r0 M W HAY.out.own HAY.out.le (by omega)).mono ?_
      rintro e w2 ⟨r1, rfl, ho, hg, hw⟩
      have A2 := HAY.out.app ho hg hw
      have HA2 : Hid (AY K B w2 r1 (M ++ putN zc.toNat)) := A2.1
      have HS2 : Hid (SY K B W w2) := A2.2
      have k1 := A2.2.cell HK1.out
      have hM2 : (M ++ putN zc.toNat).length ≤ 3045010 := by have := put_num_len zc (by omega); rw [List.length_append]; omega
      clear ho hg hw A2 HAY k0
      go_wp2_with fail
      refine (app_at (zn + 1073741824) (by omega) (by omega) B r1 _ w2 HA2.out.own HA2.out.le (by omega)).mono ?_
      rintro e w3 ⟨r2, rfl, ho, hg, hw⟩
      have A3 := HA2.out.app ho hg hw
      have HA3 : Hid (AY K B w3 r2 (M ++ putN zc.toNat ++ putN (zn + 1073741824).toNat)) := A3.1
      have HS3 : Hid (SY K B W w3) := HS2.out.trans A3.2
      have k2 := HS3.out.cell HK2.out
      have hM3 : (M ++ putN zc.toNat ++ putN (zn + 1073741824).toNat).length ≤ 3045015 := by have := put_num_len (zn + 1073741824) (by omega); rw [List.length_append]; omega
      clear ho hg hw A3 HA2 k1 HS2
      go_wp2_with fail
      refine (app_at zm (by omega) (by omega) B r2 _ w3 HA3.out.own HA3.out.le (by omega)).mono ?_
      rintro e w4 ⟨r3, rfl, ho, hg, hw⟩
      have A4 := HA3.out.app ho hg hw
      have HO4 : Hid (OwnY w4 B r3 (M ++ putN zc.toNat ++ putN (zn + 1073741824).toNat ++ putN zm.toNat)) := ho
      have HS4 : Hid (Below B w w4) := HBW.out.trans (HS3.out.trans A4.2).below
      clear ho hg hw A4 HA3 k2 HS3
      go_wp2_with fail
      go_roundw
      case rel => exact ⟨k + 1, _, rfl, by go_num, by omega, by rw [HES.out]; exact HO4.out, HS4.out⟩
      case measure => simp [intOf]; omega
    · have hke : k = N := by omega
      subst hke
      go_wp2_with fail
      go_ret
      exact ⟨_, rfl, HOW.out, HB.out⟩
end Go.Proofs.YtocdpgogoadfnaaDoor
