/- What the draws of chapter 3 answer: data in memory of the call's own, and a text. Condition: the code's bytes can be read. -/
import Derived.Test.YtgbfflpdpfgnbaaGreatZG22CopyDat
import Derived.Test.YtgbfflpdpfgnbaaGreatZG9DrawX0
import Derived.Test.YtgbfflpdpfgnbaaGreatZG10DatOwn
import Derived.Deep.RegionWith
namespace Go.Proofs.YtgbfflpdpfgnbaaGreat
open Go.ChangeShapes Go.WideShapes Go.ChangeAt Go.RowKit

abbrev zeroObj : Obj := .cells #[.int .i64 0, .int .i64 0, .int .i64 0, .string ⟨#[]⟩, .slice none 0 0] 26

/-- A datum that is a draw's, kept where block c alone turns. -/
theorem D.InB.ext {B c : Nat} {w w' : World} {t : D} {v : Value} (h : t.InB B w v) (he : Ext c w w') (hc : c < B) : t.InB B w' v :=
  D.InB.kept (fun a u ha hx => (World.cell?_of_block (he.block a.block (World.block_lt_of_cell? w a hx) (by omega))).trans hx) t h
theorem SlB.ext {B c : Nat} {w w' : World} {n : Nat} {kid : Nat → D} {v : Value} (h : SlB B w n kid v) (he : Ext c w w') (hc : c < B) : SlB B w' n kid v :=
  SlB.kept (fun a u ha hx => (World.cell?_of_block (he.block a.block (World.block_lt_of_cell? w a hx) (by omega))).trans hx) h

theorem five_same (w : World) (R : Nat) (v0 v1 v2 v3 v4 : Value) (x : Nat) (h : x ≠ R) : (((((w.setCell ⟨R, 0, none⟩ v0).setCell ⟨R, 1, none⟩ v1).setCell ⟨R, 2, none⟩ v2).setCell ⟨R, 3, none⟩ v3).setCell ⟨R, 4, none⟩ v4).heap[x]? = w.heap[x]? := by
  rw [Below.heap_setCell _ _ _ _ h, Below.heap_setCell _ _ _ _ h, Below.heap_setCell _ _ _ _ h, Below.heap_setCell _ _ _ _ h, Below.heap_setCell _ _ _ _ h]
/-- Five stores into a new block. -/
theorem five_below (w : World) (B R : Nat) (hR : B ≤ R) (v0 v1 v2 v3 v4 : Value) : Below B w (((((w.setCell ⟨R, 0, none⟩ v0).setCell ⟨R, 1, none⟩ v1).setCell ⟨R, 2, none⟩ v2).setCell ⟨R, 3, none⟩ v3).setCell ⟨R, 4, none⟩ v4) :=
  (((((Below.refl B w).setCell (by exact hR) v0).setCell (by exact hR) v1).setCell (by exact hR) v2).setCell (by exact hR) v3).setCell (by exact hR) v4
theorem five_ext {c : Nat} {w w1 : World} (h : Ext c w w1) (R : Nat) (hR : w.heap.size ≤ R) (v0 v1 v2 v3 v4 : Value) : Ext c w (((((w1.setCell ⟨R, 0, none⟩ v0).setCell ⟨R, 1, none⟩ v1).setCell ⟨R, 2, none⟩ v2).setCell ⟨R, 3, none⟩ v3).setCell ⟨R, 4, none⟩ v4) :=
  h.transB (five_below w1 w.heap.size R hR v0 v1 v2 v3 v4)

theorem row5 {w : World} {R : Nat} {v0 v1 v2 v3 v4 : Value} (h : w.heap[R]? = some (.cells #[v0, v1, v2, v3, v4] 26 (0, 0))) :
    w.cell? ⟨R, 0, none⟩ = some v0 ∧ w.cell? ⟨R, 1, none⟩ = some v1 ∧ w.cell? ⟨R, 2, none⟩ = some v2 ∧ w.cell? ⟨R, 3, none⟩ = some v3 ∧ w.cell? ⟨R, 4, none⟩ = some v4 :=
  ⟨cell_of_row w _ 0 _ _ _ h, cell_of_row w _ 1 _ _ _ h, cell_of_row w _ 2 _ _ _ h, cell_of_row w _ 3 _ _ _ h, cell_of_row w _ 4 _ _ _ h⟩
theorem frz5 {w : World} {R : Nat} {v0 v1 v2 v3 v4 : Value} (h : w.heap[R]? = some (.cells #[v0, v1, v2, v3, v4] 26 (0, 0))) :
    w.frozen? ⟨R, 0, none⟩ = false ∧ w.frozen? ⟨R, 1, none⟩ = false ∧ w.frozen? ⟨R, 2, none⟩ = false ∧ w.frozen? ⟨R, 3, none⟩ = false ∧ w.frozen? ⟨R, 4, none⟩ = false :=
  ⟨frozen_of_row w _ 0 _ _ h, frozen_of_row w _ 1 _ _ h, frozen_of_row w _ 2 _ _ h, frozen_of_row w _ 3 _ _ h, frozen_of_row w _ 4 _ _ h⟩

set_option maxRecDepth 100000 in
set_option maxHeartbeats 4000000 in
theorem drawDat_any (c : Nat) (a : Option Addr) (len cap : Nat) (w : World) (hc : CurAt c a len cap w) :
    Calls Tryz.prog 25 #[.pointer (some ⟨c, 0, none⟩)] w fun e w' => ∃ (t : D) (v : Value), e = .returned (.agg #[.int .i64 t.op, .int .i64 t.at_, .int .i64 t.n, .string t.s, v]) ∧ t.InB w.heap.size w' v ∧ t.weight ≤ 60000 ∧ Ext c w w' ∧ CurAt c a len cap w' := by
  have HCW : Hid (c < w.heap.size) := hc.lt
  obtain ⟨R, hR⟩ : ∃ R, R = w.heap.size := ⟨_, rfl⟩
  go_enter Tryz.func25, Tryz.ntmps25
  go_wp2_with fail
  refine (draw3_any c a len cap _ (hc.alloc _)).mono ?_
  rintro e w2 ⟨v, rfl, hd⟩
  obtain ⟨n, kid, hsl, hwt⟩ := hd.ex
  have hcur2 := hd.cur
  have HE2 : Hid (Ext c (w.alloc zeroObj) w2) := hd.ext
  have hsz : (w.alloc zeroObj).heap.size = w.heap.size + 1 := by simp
  rw [hsz] at hsl
  have HRR : Hid (R = w.heap.size) := hR
  have HR2 : Hid (w2.heap[R]? = some (.cells #[.int .i64 0, .int .i64 0, .int .i64 0, .string ⟨#[]⟩, .slice none 0 0] 26 (0, 0))) := by
    show _ = _
    rw [hR]
    exact (HE2.out.block _ (by simp) (by have := HCW.out; omega)).trans (heap_alloc_new w _)
  have HEW : Hid (Ext c w w2) := ((Ext.refl c w).alloc _).trans HE2.out
  have HSL : Hid (SlB (w.heap.size + 1) w2 n kid v ∧ kidsWeight n kid ≤ 60000) := ⟨hsl, hwt⟩
  obtain ⟨p, q, hv⟩ := hsl.shape
  have hn6 : n ≤ 60000 := by unfold kidsWeight at hwt; omega
  clear hd hsl hwt hsz hc HE2
  rw [← hR]
  clear hR
  subst hv
  by_cases h0 : n = 0
  · subst h0
    obtain ⟨r0, r1, r2, r3, r4⟩ := row5 HR2.out
    obtain ⟨f0, f1, f2, f3, f4⟩ := frz5 HR2.out
    go_wp2_with fail
    refine bodyPost_ret (v := .agg #[.int .i64 0, .int .i64 0, .int .i64 0, .string ⟨#[]⟩, .slice none 0 0]) (by rw [results_cell1 (p := 2) (ty := 26) (by kernel_rfl)]; simp [go_sem, r0, r1, r2, r3, r4]) rfl ?_
    refine ⟨.mk 0 0 0 ⟨#[]⟩ 0 (fun _ => .no), .slice none 0 0, rfl, D.InB.mk' (by unfold maxLen; exact Nat.zero_le _) ⟨by omega, by omega⟩ (.inl ⟨rfl, _, _, rfl⟩), by decide, ?_, ?_⟩
    · exact five_ext HEW.out R (by rw [HRR.out]; exact Nat.le_refl _) _ _ _ _ _
    · exact hcur2.keepC fun k hk => five_same w2 R _ _ _ _ _ k (by have := HCW.out; have := HRR.out; omega)
  · have hne : ((n : Int) == 0) = false := by simp; omega
    go_wp2_with fail
    refine (l1Below_any c a len cap (n : Int) (by omega) _ hcur2).mono ?_
    rintro e w3 ⟨⟨z, z0, _, z1, rfl⟩, hx3, hcur3⟩
    have hzn := z1 (by omega)
    obtain ⟨zn, rfl⟩ : ∃ k : Nat, z = k := ⟨z.toNat, by omega⟩
    have HE3 : Hid (Ext c w w3) := HEW.out.trans hx3
    have HR3 : Hid (w3.heap[R]? = some (.cells #[.int .i64 0, .int .i64 0, .int .i64 0, .string ⟨#[]⟩, .slice none 0 0] 26 (0, 0))) :=
      (hx3.block R (Array.getElem?_eq_some_iff.1 HR2.out).1 (by have := HCW.out; have := HRR.out; omega)).trans HR2.out
    have HS3 : Hid (SlB (w.heap.size + 1) w3 n kid (.slice p n q)) := HSL.out.1.ext hx3 (by have := HCW.out; omega)
    rcases HS3.out with ⟨h, _⟩ | ⟨b, o, cp, V, hv, hBb, hlc, hcm, hall⟩
    · omega
    simp only [Value.slice.injEq, true_and] at hv
    obtain ⟨rfl, rfl⟩ := hv
    obtain ⟨⟨k0, k1, k2, k3, k4⟩, hin⟩ := hall zn (by omega)
    have HT : Hid ((kid zn).InB (w.heap.size + 1) w3 (V zn) ∧ (kid zn).weight ≤ 60000) := ⟨hin, by
      have h1 := sumTo_at (fun i => (kid i).weight) zn n (by omega)
      have h2 := HSL.out.2
      unfold kidsWeight at h2
      omega⟩
    obtain ⟨pk, ck, hvk⟩ := hin.sl.shape
    obtain ⟨r0, r1, r2, r3, r4⟩ := row5 HR3.out
    obtain ⟨f0, f1, f2, f3, f4⟩ := frz5 HR3.out
    have hbR : ¬ b = R := by have := HRR.out; omega
    have hRb : ¬ R = b := by omega
    clear hall hin z1 hx3 hcur2 HEW HR2 HSL
    rw [hvk] at k4 HT
    generalize kid zn = t at *
    clear HS3
    go_wp2_with fail
    refine bodyPost_ret (v := .agg #[.int .i64 t.op, .int .i64 t.at_, .int .i64 t.n, .string t.s, .slice pk t.len ck]) (by rw [results_cell1 (p := 2) (ty := 26) (by kernel_rfl)]; simp [go_sem, r0, r1, r2, r3, r4]) rfl ?_
    refine ⟨t, _, rfl, ?_, HT.out.2, five_ext HE3.out R (by rw [HRR.out]; exact Nat.le_refl _) _ _ _ _ _, ?_⟩
    · refine D.InB.mono (Nat.le_succ _) _ (D.InB.kept (w := w3) (fun ad u ha hx => ?_) t HT.out.1)
      exact (World.cell?_of_block (five_same w3 R _ _ _ _ _ ad.block (by have := HRR.out; omega))).trans hx
    · exact hcur3.keepC fun k hk => five_same w3 R _ _ _ _ _ k (by have := HCW.out; have := HRR.out; omega)
end Go.Proofs.YtgbfflpdpfgnbaaGreat

/- spec.l5Draw: some node, from the call's own blocks on. No conditions. -/
namespace Go.Proofs.YtgbfflpdpfgnbaaGreat
open Go.ChangeShapes Go.WideShapes Go.ChangeAt Go.RowKit

theorem stxD_heads (xs : List Int) (t : D) : (stxD xs t).op = t.op ∧ (stxD xs t).at_ = t.at_ ∧ (stxD xs t).n = t.n ∧ (stxD xs t).s = t.s := by cases t <;> exact ⟨rfl, rfl, rfl, rfl⟩
set_option maxRecDepth 100000 in
set_option maxHeartbeats 2000000 in
theorem l5Draw_any (c : Nat) (a : Option Addr) (len cap : Nat) (w : World) (hc : CurAt c a len cap w) :
    Calls Tryz.prog 32 #[.pointer (some ⟨c, 0, none⟩)] w fun e w' => ∃ (t : X) (su u : Value) (S : List Nat), e = .returned (.agg #[.int .i64 t.op, .int .i64 t.at_, .int .i64 t.n, .string t.s, su, u]) ∧ (Ext c w w' ∧ CurAt c a len cap w') ∧ XOwn w' t su u S ∧ S.Nodup ∧ (∀ x ∈ S, w.heap.size ≤ x) ∧ (datX t).weight ≤ 60000 ∧ t.SetsLe 8 := by
  have HCW : Hid (c < w.heap.size) := hc.lt
  obtain ⟨w0, hw0⟩ : ∃ w0, w0 = w.alloc (.cells #[.int .i64 0, .int .i64 0, .int .i64 0, .string ⟨#[]⟩, .slice none 0 0, .slice none 0 0] 32) := ⟨_, rfl⟩
  have hs0 : w0.heap.size = w.heap.size + 1 := by rw [hw0]; simp
  have h60 : Six w0 w.heap.size 0 0 0 ⟨#[]⟩ (.slice none 0 0) (.slice none 0 0) 32 := by rw [hw0]; exact heap_alloc_new w _
  have hx0 : Ext c w w0 := by rw [hw0]; exact (Ext.refl c w).alloc _
  have hc0 : CurAt c a len cap w0 := by rw [hw0]; exact hc.alloc' _
  have HC0 : Hid (CurAt c a len cap w0) := hc0
  have H0 : Hid (w0.heap.size = w.heap.size + 1 ∧ Six w0 w.heap.size 0 0 0 ⟨#[]⟩ (.slice none 0 0) (.slice none 0 0) 32 ∧ Ext c w w0) := ⟨hs0, h60, hx0⟩
  clear hs0 h60 hx0 hc0 hc
  go_enter Tryz.func32, Tryz.ntmps32
  go_wp2_with fail
  rw [← hw0]
  clear hw0
  refine (drawDat_any c a len cap _ HC0.out).mono ?_
  rintro e w1 ⟨t, v, rfl, hin, hwt, hx1, hc1⟩
  have H1 : Hid (t.InB w0.heap.size w1 v ∧ t.weight ≤ 60000 ∧ Ext c w0 w1 ∧ CurAt c a len cap w1) := ⟨hin, hwt, hx1, hc1⟩
  clear hin hwt hx1 hc1
  go_wp2_with fail
  refine (drawSet_any c a len cap _ H1.out.2.2.2).mono ?_
  rintro e w2 ⟨us, xs, rfl, hxs, hown, hx2, hc2⟩
  have H2 : Hid (xs.length ≤ 8 ∧ Own w2 w1.heap.size us xs ∧ Ext c w1 w2 ∧ CurAt c a len cap w2) := ⟨hxs, hown, hx2, hc2⟩
  clear hxs hown hx2 hc2
  go_wp2_with fail
  have HI2 : Hid (t.In w2 v) := (H1.out.1.ext H2.out.2.2.1 (by have := H0.out.1; have := HCW.out; omega)).mono (Nat.zero_le _)
  refine (spec_stx_of xs (by have := H2.out.1; omega) t w2 v us HI2.out (H2.out.2.1.setB (Nat.zero_le _)).rd (by have := H1.out.2.1; omega)).mono ?_
  rintro e w3 ⟨su, u, S, rfl, hb3, hX3, hn3, hS3⟩
  have H3 : Hid (Below w2.heap.size w2 w3 ∧ XOwn w3 (stxD xs t) su u S ∧ ∀ x ∈ S, w2.heap.size ≤ x) := ⟨hb3, hX3, hS3⟩
  clear hb3 hX3 hn3 hS3
  go_wp2_with fail
  have hle : (stxD xs t).SetsLe 8 := X.SetsLe.mono H2.out.1 _ (stxD_setsLe xs t)
  have hwd : (stxD xs t).weight ≤ 1048576 := by
    have h1 := X.weight_sets (m := 8) _ hle
    rw [datX_stxD] at h1
    have := H1.out.2.1
    omega
  have hm := mix_all c a len cap (stxD xs t) w3 su u (H2.out.2.2.2.below' H3.out.1) (H3.out.2.1.at' _ (fun x hx => by have := H3.out.2.2 x hx; have := H0.out.1; have := HCW.out; have := H0.out.2.2.size; have := H1.out.2.2.1.size; have := H2.out.2.2.1.size; omega)) hwd hle
  obtain ⟨e0, e1, e2, e3⟩ := stxD_heads xs t
  rw [e0, e1, e2, e3] at hm
  refine hm.mono ?_
  rintro e w4 ⟨t', su', u', S', rfl, ⟨hx4, hc4⟩, hX4, hn4, hS4, hd4, hs4⟩
  have hcw := HCW.out
  have hq1 := H1.out.2.2.1
  have hq2 := H2.out.2.2.1
  have hq3 := H3.out.1
  have z0 : ZeroXAt w0 w.heap.size := H0.out.2.1
  have z1 : ZeroXAt w1 w.heap.size := (hq1.block _ z0.lt (by omega)).trans z0
  have z2 : ZeroXAt w2 w.heap.size := (hq2.block _ z1.lt (by omega)).trans z1
  have z3 : ZeroXAt w3 w.heap.size := z2.below hq3
  have z4 : ZeroXAt w4 w.heap.size := (hx4.block _ z3.lt (by omega)).trans z3
  have hsz : w.heap.size < w3.heap.size := z3.lt
  have hxw : Ext c w w4 := (((H0.out.2.2.trans hq1).trans hq2).trans (Ext.of_below hq3 (Nat.le_refl _))).trans hx4
  obtain ⟨pv, cv, hv'⟩ := hX4.at0.xs.shape
  obtain ⟨pw, cw, hw'⟩ := hX4.at0.sets.shape
  subst hv' hw'
  obtain ⟨f0, f1, f2, f3⟩ := datX_head hd4
  have hwt4 : (datX t').weight ≤ 60000 := by rw [hd4, datX_stxD]; exact H1.out.2.1
  obtain ⟨R, hR⟩ : ∃ R, R = w.heap.size := ⟨_, rfl⟩
  rw [← hR] at z4
  have hE := hxw.put6 (R := R) (by omega) t.op t.at_ t.n t.s (.slice pw t'.set.length cw) (.slice pv t'.len cv)
  have hCu := hc4.put6 (R := R) (by omega) t.op t.at_ t.n t.s (.slice pw t'.set.length cw) (.slice pv t'.len cv)
  have hXX := hX4.put6 (R := R) (fun x hx => by have := hS4 x hx; omega) t.op t.at_ t.n t.s (.slice pw t'.set.length cw) (.slice pv t'.len cv)
  have HS : Hid ((Ext c w (put6 w4 R t.op t.at_ t.n t.s (.slice pw t'.set.length cw) (.slice pv t'.len cv)) ∧ CurAt c a len cap (put6 w4 R t.op t.at_ t.n t.s (.slice pw t'.set.length cw) (.slice pv t'.len cv))) ∧ XOwn (put6 w4 R t.op t.at_ t.n t.s (.slice pw t'.set.length cw) (.slice pv t'.len cv)) t' (.slice pw t'.set.length cw) (.slice pv t'.len cv) S' ∧ S'.Nodup ∧ (∀ x ∈ S', w.heap.size ≤ x) ∧ (datX t').weight ≤ 60000 ∧ t'.SetsLe 8) :=
    ⟨⟨hE, hCu⟩, hXX, hn4, fun g hg => by have := hS4 g hg; omega, hwt4, hs4⟩
  have HE : Hid (t'.op = t.op ∧ t'.at_ = t.at_ ∧ t'.n = t.n ∧ t'.s = t.s) := ⟨f0.trans e0, f1.trans e1, f2.trans e2, f3.trans e3⟩
  clear hE hCu hXX hq1 hq2 hq3 hcw z0 z1 z2 z3 f0 f1 f2 f3 e0 e1 e2 e3 hxw hsz hx4 hc4 hX4 hn4 hS4 hd4 hs4 hm hle hwd hwt4
  clear H0 H1 H2 H3 HCW HC0 HI2
  obtain ⟨r0, r1, r2, r3, r4, r5⟩ := z4.cells
  have rf := z4.fr
  clear z4
  rw [← hR]
  clear hR
  go_wp2_with fail
  refine bodyPost_ret (v := .agg #[.int .i64 t.op, .int .i64 t.at_, .int .i64 t.n, .string t.s, .slice pw t'.set.length cw, .slice pv t'.len cv]) (by rw [results_cellX (p := 2) (ty := 32) (by kernel_rfl)]; simp [go_sem, r0, r1, r2, r3, r4, r5]) rfl ⟨t', _, _, S', by rw [HE.out.1, HE.out.2.1, HE.out.2.2.1, HE.out.2.2.2], HS.out⟩
end Go.Proofs.YtgbfflpdpfgnbaaGreat

/- What spec.DrawDatOf, spec.DrawFlipAll and spec.DrawWithAll answer: some node in memory of the call's own, and some number below 6. Condition: the code's bytes can be read. -/
namespace Go.Proofs.YtgbfflpdpfgnbaaGreat
open Go.ChangeShapes Go.WideShapes Go.ChangeAt Go.RowKit

set_option maxRecDepth 100000 in
set_option maxHeartbeats 2000000 in
theorem drawDatOf_any (a : Option Addr) (len cap : Nat) (w : World) (hc : CodeOk a len w.heap.size w) :
    Calls Tryz.prog 10 #[.slice a len cap] w fun e w' => ∃ (t : X) (su u : Value), e = .returned (.agg #[.int .i64 t.op, .int .i64 t.at_, .int .i64 t.n, .string t.s, su, u]) ∧ GotX w w' t su u := by
  have hc1 := code_below5 hc (newx w zeroX)
  have hs0 : (w.alloc zeroX).heap.size = w.heap.size + 1 := by simp
  obtain ⟨R, hR⟩ : ∃ R, R = w.heap.size := ⟨_, rfl⟩
  go_enter Tryz.func10, Tryz.ntmps10
  go_wp2_with fail
  refine (l1New_any a len cap _ hc1).mono ?_
  rintro e w1 ⟨rfl, hb, hcur, hs1⟩
  have HR1 : Hid (ZeroXAt w1 R ∧ Below w.heap.size w w1 ∧ w1.heap.size = w.heap.size + 2) := by
    refine ⟨?_, (newx w zeroX).trans (hb.mono (by simp)), by rw [hs1, hs0]⟩
    rw [hR]
    exact (hb.block _ (by simp)).trans (heap_alloc_new w _)
  rw [hs0] at hcur ⊢
  clear hb hs1 hc1 hc hs0
  go_wp2_with fail
  refine (l5Draw_any (w.heap.size + 1) a len cap w1 hcur).mono ?_
  rintro e w2 ⟨t, su, u, S, rfl, ⟨hext, hcur2⟩, hX, -, hS, hwt, hsl⟩
  obtain ⟨pv, cv, hv⟩ := hX.at0.xs.shape
  obtain ⟨pw, cw, hw⟩ := hX.at0.sets.shape
  subst hv hw
  have h6 : ZeroXAt w2 R := (hext.block R HR1.out.1.lt (by omega)).trans HR1.out.1
  have HD : Hid (GotX w (put6 w2 R t.op t.at_ t.n t.s (.slice pw t.set.length cw) (.slice pv t.len cv)) t (.slice pw t.set.length cw) (.slice pv t.len cv)) :=
    GotX.put (B := w.heap.size + 2) (by omega) (by omega) (hX.at' _ (fun x hx => by have := hS x hx; have := HR1.out.2.2; omega)) hwt (X.SetsLe.mono (by omega) _ hsl) (hext.belowX HR1.out.2.1 (by omega)) _ _ _ _ _ _
  clear hX hS hwt hsl hext hcur hcur2 HR1
  rw [← hR]
  clear hR
  obtain ⟨r0, r1, r2, r3, r4, r5⟩ := h6.cells
  have rf := h6.fr
  clear h6
  go_wp2_with fail
  refine bodyPost_ret (v := .agg #[.int .i64 t.op, .int .i64 t.at_, .int .i64 t.n, .string t.s, .slice pw t.set.length cw, .slice pv t.len cv]) (by rw [results_cellX (p := 2) (ty := 32) (by kernel_rfl)]; simp [go_sem, r0, r1, r2, r3, r4, r5]) rfl ?_
  exact ⟨t, _, _, rfl, HD.out⟩

set_option maxRecDepth 100000 in
set_option maxHeartbeats 4000000 in
theorem drawFlipAll_any (a : Option Addr) (len cap : Nat) (w : World) (hc : CodeOk a len w.heap.size w) :
    Calls Tryz.prog 7 #[.slice a len cap] w fun e w' => ∃ (t : X) (su u : Value) (n : Int), e = .returned (.tuple #[.agg #[.int .i64 t.op, .int .i64 t.at_, .int .i64 t.n, .string t.s, su, u], .int .i64 n]) ∧ GotX w w' t su u := by
  have HC0 : Hid (CodeOk a len w.heap.size w) := hc
  have hc1 := code_below5 hc (newx w zeroX)
  have hs0 : (w.alloc zeroX).heap.size = w.heap.size + 1 := by simp
  obtain ⟨R, hR⟩ : ∃ R, R = w.heap.size := ⟨_, rfl⟩
  go_enter Tryz.func7, Tryz.ntmps7
  go_wp2_with fail
  refine (l1New_any a len cap _ hc1).mono ?_
  rintro e w1 ⟨rfl, hb, hcur, hs1⟩
  have HR1 : Hid (ZeroXAt w1 R ∧ Below w.heap.size w w1 ∧ w1.heap.size = w.heap.size + 2) := by
    refine ⟨?_, (newx w zeroX).trans (hb.mono (by simp)), by rw [hs1, hs0]⟩
    rw [hR]
    exact (hb.block _ (by simp)).trans (heap_alloc_new w _)
  rw [hs0] at hcur ⊢
  clear hb hs1 hc1 hc hs0
  go_wp2_with fail
  refine (l5Draw_any (w.heap.size + 1) a len cap w1 hcur).mono ?_
  rintro e w2 ⟨t, su, u, S, rfl, ⟨hext, hcur2⟩, hX, -, hS, hwt, hsl⟩
  obtain ⟨pv, cv, hv⟩ := hX.at0.xs.shape
  obtain ⟨pw, cw, hw⟩ := hX.at0.sets.shape
  subst hv hw
  obtain ⟨A, hA⟩ : ∃ A, A = w2.heap.size := ⟨_, rfl⟩
  obtain ⟨C, hC⟩ : ∃ C, C = w.heap.size + 1 := ⟨_, rfl⟩
  obtain ⟨w3, hw3⟩ : ∃ w3, w3 = w2.alloc (nodeX t (.slice pw t.set.length cw) (.slice pv t.len cv)) := ⟨_, rfl⟩
  have nb : Below w2.heap.size w2 w3 := by rw [hw3]; exact newx w2 _
  have H3 : Hid (ZeroXAt w3 R ∧ NodeXAt w3 A t (.slice pw t.set.length cw) (.slice pv t.len cv) ∧ Below w.heap.size w w3 ∧ t.At (w.heap.size + 2) w3 (.slice pw t.set.length cw) (.slice pv t.len cv) ∧ (datX t).weight ≤ 60000 ∧ t.SetsLe 8) := by
    have h6 : ZeroXAt w2 R := (hext.block R HR1.out.1.lt (by omega)).trans HR1.out.1
    have hb2 := hext.belowX HR1.out.2.1 (by omega)
    refine ⟨h6.below nb, ?_, hb2.trans (nb.mono hb2.size), (hX.at' _ (fun x hx => by have := hS x hx; have := HR1.out.2.2; omega)).below nb, hwt, hsl⟩
    rw [hA, hw3]
    exact heap_alloc_new w2 _
  have hcur3 : CurAt C a len cap w3 := by rw [hC]; exact hcur2.below' nb
  have HQ : Hid (R = w.heap.size ∧ C = w.heap.size + 1 ∧ w.heap.size + 2 ≤ A) := ⟨hR, hC, by rw [hA]; have := hext.size; have := HR1.out.2.2; omega⟩
  clear hX hS hwt hsl hext hcur hcur2 HR1
  go_wp2_with fail
  rw [← hw3, ← hC, ← hR, ← hA]
  clear hw3 nb hA hC hR
  obtain ⟨x0, x1, x2, x3, x4, x5⟩ := H3.out.1.cells
  have xf := H3.out.1.fr
  obtain ⟨y0, y1, y2, y3, y4, y5⟩ := H3.out.2.1.cells
  have nRA : ¬ R = A := by have := HQ.out; omega
  have nAR : ¬ A = R := by have := HQ.out; omega
  have HC1 : Hid (CurAt C a len cap w3.drew) := hcur3
  have HC2 : Hid (CurAt C a len cap (put6 w3 R t.op t.at_ t.n t.s (.slice pw t.set.length cw) (.slice pv t.len cv)).drew) := by
    exact CurAt.drewX (cur_putX (W := (put6 w3 R t.op t.at_ t.n t.s (.slice pw t.set.length cw) (.slice pv t.len cv))) HC0.out hcur3 (put6_below H3.out.2.2.1 R (by have := HQ.out; omega) _ _ _ _ _ _) (put6_other w3 R _ _ _ _ _ _ C (by have := HQ.out; omega)) (by have := HQ.out; omega))
  clear hcur3
  go_region_with (first
    | (go_at_call 33; refine (l1Below_any C a len cap 6 (by omega) w3.drew HC1.out).mono ?_; rintro e w4 ⟨⟨z, z0, _, z1, rfl⟩, hx4, hc4⟩; have hw4 : Ext C w3 w4 := hx4.undrew; have q6 : ZeroXAt w4 R := (hw4.block R H3.out.1.lt (by have := HQ.out; omega)).trans H3.out.1; have q7 : NodeXAt w4 A t _ _ := (hw4.block A H3.out.2.1.lt (by have := HQ.out; omega)).trans H3.out.2.1; obtain ⟨b0, b1, b2, b3, b4, b5⟩ := q6.cells; have bf := q6.fr; obtain ⟨c0, c1, c2, c3, c4, c5⟩ := q7.cells; have HEND : Hid (GotX w (put6 w4 R t.op t.at_ t.n t.s (.slice pw t.set.length cw) (.slice pv t.len cv)) t (.slice pw t.set.length cw) (.slice pv t.len cv)) := GotX.put (B := w.heap.size + 2) (by have := HQ.out; omega) (by have := HQ.out; omega) (H3.out.2.2.2.1.ext hw4 (by have := HQ.out; omega)) H3.out.2.2.2.2.1 (X.SetsLe.mono (by omega) _ H3.out.2.2.2.2.2) (hw4.belowX H3.out.2.2.1 (by have := HQ.out; omega)) _ _ _ _ _ _; clear hx4 hc4 hw4 q6 q7 z1)
    | (go_at_call 33; refine (l1Below_any C a len cap 6 (by omega) _ HC2.out).mono ?_; rintro e w4 ⟨⟨z, z0, _, z1, rfl⟩, hx4, hc4⟩; have hw4 : Ext C (put6 w3 R t.op t.at_ t.n t.s (.slice pw t.set.length cw) (.slice pv t.len cv)) w4 := hx4.undrew; have hp := put6_size w3 R t.op t.at_ t.n t.s (.slice pw t.set.length cw) (.slice pv t.len cv); have q6 : NodeXAt w4 R t _ _ := (hw4.block R (by have := H3.out.1.lt; omega) (by have := HQ.out; omega)).trans (put6_here H3.out.1 _ _ _ _ _ _); obtain ⟨b0, b1, b2, b3, b4, b5⟩ := q6.cells; have HEND : Hid (GotX w w4 t (.slice pw t.set.length cw) (.slice pv t.len cv)) := ⟨((At_put6 H3.out.2.2.2.1 (by have := HQ.out; omega) _ _ _ _ _ _).ext hw4 (by have := HQ.out; omega)).mono (by omega), H3.out.2.2.2.2.1, X.SetsLe.mono (by omega) _ H3.out.2.2.2.2.2, hw4.belowX (put6_below H3.out.2.2.1 R (by have := HQ.out; omega) _ _ _ _ _ _) (by have := HQ.out; omega)⟩; clear hx4 hc4 hw4 q6 z1 hp))
  all_goals
    go_wp2_with fail
    refine bodyPost_ret (v := .tuple #[.agg #[.int .i64 t.op, .int .i64 t.at_, .int .i64 t.n, .string t.s, .slice pw t.set.length cw, .slice pv t.len cv], .int .i64 z]) (by rw [results_cellT (p := 2) (q := 3) (ty := 32) (by kernel_rfl)]; simp [go_sem, b0, b1, b2, b3, b4, b5]) rfl ?_
    exact ⟨t, _, _, z, rfl, HEND.out⟩

set_option maxRecDepth 100000 in
set_option maxHeartbeats 4000000 in
theorem drawWithAll_any (a : Option Addr) (len cap : Nat) (w : World) (hc : CodeOk a len w.heap.size w) :
    Calls Tryz.prog 8 #[.slice a len cap] w fun e w' => ∃ (t : X) (su u : Value) (n : Int), e = .returned (.tuple #[.agg #[.int .i64 t.op, .int .i64 t.at_, .int .i64 t.n, .string t.s, su, u], .int .i64 n]) ∧ GotX w w' t su u := by
  have hc1 := code_below5 hc (newx w zeroX)
  have hs0 : (w.alloc zeroX).heap.size = w.heap.size + 1 := by simp
  obtain ⟨R, hR⟩ : ∃ R, R = w.heap.size := ⟨_, rfl⟩
  go_enter Tryz.func8, Tryz.ntmps8
  go_wp2_with fail
  refine (drawFlipAll_any a len cap _ hc1).mono ?_
  rintro e w2 ⟨t, su, u, z, rfl, hG⟩
  obtain ⟨pv, cv, hv⟩ := hG.inn.xs.shape
  obtain ⟨pw, cw, hw⟩ := hG.inn.sets.shape
  subst hv hw
  obtain ⟨A, hA⟩ : ∃ A, A = w2.heap.size := ⟨_, rfl⟩
  obtain ⟨w3, hw3⟩ : ∃ w3, w3 = w2.alloc (nodeX t (.slice pw t.set.length cw) (.slice pv t.len cv)) := ⟨_, rfl⟩
  have nb : Below w2.heap.size w2 w3 := by rw [hw3]; exact newx w2 _
  have hbb : Below w.heap.size w w2 := (newx w zeroX).trans (hG.bel.mono (by simp))
  have hRs : R < w2.heap.size := by have := hG.bel.size; rw [hs0] at this; omega
  have x6 : ZeroXAt w3 R := by
    rw [hR]
    exact Six.below ((hG.bel.block _ (by simp)).trans (heap_alloc_new w _)) nb
  have y6 : NodeXAt w3 A t (.slice pw t.set.length cw) (.slice pv t.len cv) := by
    rw [hA, hw3]
    exact heap_alloc_new w2 _
  have HEND : Hid (GotX w (put6 w3 R t.op t.at_ t.n t.s (.slice pw t.set.length cw) (.slice pv t.len cv)) t (.slice pw t.set.length cw) (.slice pv t.len cv)) :=
    GotX.put (B := w.heap.size + 1) (by omega) (by omega) ((hG.inn.mono (by rw [hs0]; exact Nat.le_refl _)).below nb) hG.wt hG.sets (hbb.trans (nb.mono hbb.size)) _ _ _ _ _ _
  obtain ⟨x0, x1, x2, x3, x4, x5⟩ := x6.cells
  have xf := x6.fr
  obtain ⟨y0, y1, y2, y3, y4, y5⟩ := y6.cells
  have nRA : ¬ R = A := by omega
  have nAR : ¬ A = R := by omega
  clear x6 y6 hbb hRs hG nb hs0 hc1 hc
  go_upto_region 2 with fail
  rw [← hw3, ← hR, ← hA]
  clear hw3 hA hR
  go_wp2_with fail
  refine bodyPost_ret (v := .tuple #[.agg #[.int .i64 t.op, .int .i64 t.at_, .int .i64 t.n, .string t.s, .slice pw t.set.length cw, .slice pv t.len cv], .int .i64 z]) (by rw [results_cellT (p := 2) (q := 3) (ty := 32) (by kernel_rfl)]; simp [go_sem, x0, x1, x2, x3, x4, x5]) rfl ?_
  exact ⟨t, _, _, z, rfl, HEND.out⟩
end Go.Proofs.YtgbfflpdpfgnbaaGreat
