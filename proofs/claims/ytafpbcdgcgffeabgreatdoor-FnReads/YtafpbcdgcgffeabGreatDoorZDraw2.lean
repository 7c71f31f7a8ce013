/- What the draws of chapter 3 answer: data in memory of the call's own, and a text. Condition: the code's bytes can be read. -/
import Derived.Test.YtafpbcdgcgffeabGreatDoorZDrawDat3
import Derived.Test.YtafpbcdgcgffeabGreatDoorZCopyDat
import Derived.Test.YtafpbcdgcgffeabGreatDoorZReadAllImpl
import Derived.Deep.RegionWith
namespace Go.Proofs.YtafpbcdgcgffeabGreatDoor
open Go.ChangeShapes Go.WideShapes Go.ChangeAt Go.RowKit

abbrev zeroObj : Obj := .cells #[.int .i64 0, .int .i64 0, .int .i64 0, .string ⟨#[]⟩, .slice none 0 0] 30

/-- A datum that is a draw's, kept where block c alone turns. -/
theorem D.InB.ext {B c : Nat} {w w' : World} {t : D} {v : Value} (h : t.InB B w v) (he : Ext c w w') (hc : c < B) : t.InB B w' v :=
  D.InB.kept (fun a u ha hx => (World.cell?_of_block (he.block a.block (World.block_lt_of_cell? w a hx) (by omega))).trans hx) t h
theorem SlB.ext {B c : Nat} {w w' : World} {n : Nat} {kid : Nat → D} {v : Value} (h : SlB B w n kid v) (he : Ext c w w') (hc : c < B) : SlB B w' n kid v :=
  SlB.kept (fun a u ha hx => (World.cell?_of_block (he.block a.block (World.block_lt_of_cell? w a hx) (by omega))).trans hx) h

theorem five_same (w : World) (R : Nat) (v0 v1 v2 v3 v4 : Value) (x : Nat) (h : x ≠ R) : (((((w.setCell ⟨R, 0, none⟩ v0).setCell ⟨R, 1, none⟩ v1).setCell ⟨R, 2, none⟩ v2).setCell ⟨R, 3, none⟩ v3).setCell ⟨R, 4, none⟩ v4).heap[x]? = w.heap[x]? := by
  rw [Below.heap_setCell _ _ _ _ h, Below.heap_setCell _ _ _ _ h, Below.heap_setCell _ _ _ _ h, Below.heap_setCell _ _ _ _ h, Below.heap_setCell _ _ _ _ h]
/-- Five stores into a new block. -/
theorem five_below (w : World) (B R : Nat) (hR : B ≤ R) (v0 v1 v2 v3 v4 : Value) : Below B w (((((w.setCell ⟨R, 0, none⟩ v0).setCell ⟨R, 1, none⟩ v1).setCell ⟨R, 2, none⟩ v2).setCell ⟨R, 3, none⟩ v3).setCell ⟨R, 4, none⟩ v4) :=
  (((((Below.refl B w).setCell (by exact hR) v0).setCell (by exact hR) v1).setCell (by exact hR) v2).setCell (by exact hR) v3).setCell (by exact hR) v4
theorem five_ext {c : Nat} {w w1 : World} (h : Ext c w w1) (R : Nat) (hR : w.heap.size ≤ R) (v0 v1 v2 v3 v4 : Value) : Ext c w (((((w1.setCell ⟨R, 0, none⟩ v0).setCell ⟨R, 1, none⟩ v1).setCell ⟨R, 2, none⟩ v2).setCell ⟨R, 3, none⟩ v3).setCell ⟨R, 4, none⟩ v4) :=
  h.transB (five_below w1 w.heap.size R hR v0 v1 v2 v3 v4)

theorem row5 {w : World} {R : Nat} {v0 v1 v2 v3 v4 : Value} (h : w.heap[R]? = some (.cells #[v0, v1, v2, v3, v4] 30 (0, 0))) :
    w.cell? ⟨R, 0, none⟩ = some v0 ∧ w.cell? ⟨R, 1, none⟩ = some v1 ∧ w.cell? ⟨R, 2, none⟩ = some v2 ∧ w.cell? ⟨R, 3, none⟩ = some v3 ∧ w.cell? ⟨R, 4, none⟩ = some v4 :=
  ⟨cell_of_row w _ 0 _ _ _ h, cell_of_row w _ 1 _ _ _ h, cell_of_row w _ 2 _ _ _ h, cell_of_row w _ 3 _ _ _ h, cell_of_row w _ 4 _ _ _ h⟩
theorem frz5 {w : World} {R : Nat} {v0 v1 v2 v3 v4 : Value} (h : w.heap[R]? = some (.cells #[v0, v1, v2, v3, v4] 30 (0, 0))) :
    w.frozen? ⟨R, 0, none⟩ = false ∧ w.frozen? ⟨R, 1, none⟩ = false ∧ w.frozen? ⟨R, 2, none⟩ = false ∧ w.frozen? ⟨R, 3, none⟩ = false ∧ w.frozen? ⟨R, 4, none⟩ = false :=
  ⟨frozen_of_row w _ 0 _ _ h, frozen_of_row w _ 1 _ _ h, frozen_of_row w _ 2 _ _ h, frozen_of_row w _ 3 _ _ h, frozen_of_row w _ 4 _ _ h⟩

set_option maxRecDepth 100000 in
set_option maxHeartbeats 4000000 in
theorem drawDat_any (c : Nat) (a : Option Addr) (len cap : Nat) (w : World) (hc : CurAt c a len cap w) :
    Calls Tryz.prog 25 #[.pointer (some ⟨c, 0, none⟩)] w fun e w' => ∃ (t : D) (v : Value), e = .returned (.agg #[.int .i64 t.op, .int .i64 t.at_, .int .i64 t.n, .string t.s, v]) ∧ t.InB w.heap.size w' v ∧ t.weight ≤ 60000 ∧ Ext c w w' ∧ CurAt c a len cap w' := by
  have HCW : Hid (c < w.heap.size) := hc.lt
  obtain ⟨R, hR⟩ : ∃ R, R = w.heap.size := ⟨_, rfl⟩
  go_enter Tryz.func25, Tryz.ntmps25
  go_wp2_with fail
  refine (draw3_any c a len cap _ (hc.alloc _)).mono ?_
  rintro e w2 ⟨v, rfl, hd⟩
  obtain ⟨n, kid, hsl, hwt⟩ := hd.ex
  have hcur2 := hd.cur
  have HE2 : Hid (Ext c (w.alloc zeroObj) w2) := hd.ext
  have hsz : (w.alloc zeroObj).heap.size = w.heap.size + 1 := by simp
  rw [hsz] at hsl
  have HRR : Hid (R = w.heap.size) := hR
  have HR2 : Hid (w2.heap[R]? = some (.cells #[.int .i64 0, .int .i64 0, .int .i64 0, .string ⟨#[]⟩, .slice none 0 0] 30 (0, 0))) := by
    show _ = _
    rw [hR]
    exact (HE2.out.block _ (by simp) (by have := HCW.out; omega)).trans (heap_alloc_new w _)
  have HEW : Hid (Ext c w w2) := ((Ext.refl c w).alloc _).trans HE2.out
  have HSL : Hid (SlB (w.heap.size + 1) w2 n kid v ∧ kidsWeight n kid ≤ 60000) := ⟨hsl, hwt⟩
  obtain ⟨p, q, hv⟩ := hsl.shape
  have hn6 : n ≤ 60000 := by unfold kidsWeight at hwt; omega
  clear hd hsl hwt hsz hc HE2
  rw [← hR]
  clear hR
  subst hv
  by_cases h0 : n = 0
  · subst h0
    obtain ⟨r0, r1, r2, r3, r4⟩ := row5 HR2.out
    obtain ⟨f0, f1, f2, f3, f4⟩ := frz5 HR2.out
    go_wp2_with fail
    refine bodyPost_ret (v := .agg #[.int .i64 0, .int .i64 0, .int .i64 0, .string ⟨#[]⟩, .slice none 0 0]) (by rw [results_cell1 (p := 2) (ty := 30) (by kernel_rfl)]; simp [go_sem, r0, r1, r2, r3, r4]) rfl ?_
    refine ⟨.mk 0 0 0 ⟨#[]⟩ 0 (fun _ => .no), .slice none 0 0, rfl, D.InB.mk' (by unfold maxLen; exact Nat.zero_le _) ⟨by omega, by omega⟩ (.inl ⟨rfl, _, _, rfl⟩), by decide, ?_, ?_⟩
    · exact five_ext HEW.out R (by rw [HRR.out]; exact Nat.le_refl _) _ _ _ _ _
    · exact hcur2.keepC fun k hk => five_same w2 R _ _ _ _ _ k (by have := HCW.out; have := HRR.out; omega)
  · have hne : ((n : Int) == 0) = false := by simp; omega
    go_wp2_with fail
    refine (l1Below_any c a len cap (n : Int) (by omega) _ hcur2).mono ?_
    rintro e w3 ⟨⟨z, z0, _, z1, rfl⟩, hx3, hcur3⟩
    have hzn := z1 (by omega)
    obtain ⟨zn, rfl⟩ : ∃ k : Nat, z = k := ⟨z.toNat, by omega⟩
    have HE3 : Hid (Ext c w w3) := HEW.out.trans hx3
    have HR3 : Hid (w3.heap[R]? = some (.cells #[.int .i64 0, .int .i64 0, .int .i64 0, .string ⟨#[]⟩, .slice none 0 0] 30 (0, 0))) :=
      (hx3.block R (Array.getElem?_eq_some_iff.1 HR2.out).1 (by have := HCW.out; have := HRR.out; omega)).trans HR2.out
    have HS3 : Hid (SlB (w.heap.size + 1) w3 n kid (.slice p n q)) := HSL.out.1.ext hx3 (by have := HCW.out; omega)
    rcases HS3.out with ⟨h, _⟩ | ⟨b, o, cp, V, hv, hBb, hlc, hcm, hall⟩
    · omega
    simp only [Value.slice.injEq, true_and] at hv
    obtain ⟨rfl, rfl⟩ := hv
    obtain ⟨⟨k0, k1, k2, k3, k4⟩, hin⟩ := hall zn (by omega)
    have HT : Hid ((kid zn).InB (w.heap.size + 1) w3 (V zn) ∧ (kid zn).weight ≤ 60000) := ⟨hin, by
      have h1 := sumTo_at (fun i => (kid i).weight) zn n (by omega)
      have h2 := HSL.out.2
      unfold kidsWeight at h2
      omega⟩
    obtain ⟨pk, ck, hvk⟩ := hin.sl.shape
    obtain ⟨r0, r1, r2, r3, r4⟩ := row5 HR3.out
    obtain ⟨f0, f1, f2, f3, f4⟩ := frz5 HR3.out
    have hbR : ¬ b = R := by have := HRR.out; omega
    have hRb : ¬ R = b := by omega
    clear hall hin z1 hx3 hcur2 HEW HR2 HSL
    rw [hvk] at k4 HT
    generalize kid zn = t at *
    clear HS3
    go_wp2_with fail
    refine bodyPost_ret (v := .agg #[.int .i64 t.op, .int .i64 t.at_, .int .i64 t.n, .string t.s, .slice pk t.len ck]) (by rw [results_cell1 (p := 2) (ty := 30) (by kernel_rfl)]; simp [go_sem, r0, r1, r2, r3, r4]) rfl ?_
    refine ⟨t, _, rfl, ?_, HT.out.2, five_ext HE3.out R (by rw [HRR.out]; exact Nat.le_refl _) _ _ _ _ _, ?_⟩
    · refine D.InB.mono (Nat.le_succ _) _ (D.InB.kept (w := w3) (fun ad u ha hx => ?_) t HT.out.1)
      exact (World.cell?_of_block (five_same w3 R _ _ _ _ _ ad.block (by have := HRR.out; omega))).trans hx
    · exact hcur3.keepC fun k hk => five_same w3 R _ _ _ _ _ k (by have := HCW.out; have := HRR.out; omega)
end Go.Proofs.YtafpbcdgcgffeabGreatDoor

/- What the draws of chapter 3 answer, called with a code. Condition: the code's bytes can be read. -/
namespace Go.Proofs.YtafpbcdgcgffeabGreatDoor
open Go.ChangeShapes Go.WideShapes Go.ChangeAt Go.RowKit

theorem code_below3 {a : Option Addr} {len : Nat} {w w' : World} (h : CodeOk a len w.heap.size w) (hb : Below w.heap.size w w') : CodeOk a len w'.heap.size w' := by
  have := h.keep (w' := w') fun k hk _ => hb.block k hk
  obtain ⟨h1, h2 | ⟨b, off, e, hlt, hz⟩⟩ := this
  · exact ⟨h1, .inl h2⟩
  · exact ⟨h1, .inr ⟨b, off, e, Nat.lt_of_lt_of_le hlt hb.size, hz⟩⟩

set_option maxHeartbeats 2000000 in
theorem drawReadAll_any (a : Option Addr) (len cap : Nat) (w : World) (hc : CodeOk a len w.heap.size w) :
    Calls Tryz.prog 5 #[.slice a len cap] w fun e w' => (∃ s : ByteArray, s.size ≤ 700 ∧ e = .returned (.string s)) ∧ Below w.heap.size w w' := by
  go_enter Tryz.func5, Tryz.ntmps5
  go_wp2_with fail
  refine (l1New_any a len cap w hc).mono ?_
  rintro e w1 ⟨rfl, hb, hcur, -⟩
  go_wp2_with fail
  refine (l10DrawSource_any w.heap.size a len cap _ hcur).mono ?_
  rintro e w3 ⟨⟨s, hs, rfl⟩, hx3, hcur3⟩
  go_wp2_with fail
  refine (l3Dent_any w.heap.size a len cap s hs _ hcur3).mono ?_
  rintro e w4 ⟨⟨t, ht, rfl⟩, hx4, hcur4⟩
  go_wp2
  go_ret
  exact ⟨⟨t, ht, rfl⟩, hb.trans ((hx3.trans hx4).below (Nat.le_refl _) hb.size)⟩

set_option maxHeartbeats 2000000 in
theorem drawDatsOk_any (a : Option Addr) (len cap : Nat) (w : World) (hc : CodeOk a len w.heap.size w) :
    Calls Tryz.prog 8 #[.slice a len cap] w fun e w' => ∃ (v : Value) (n : Nat) (kid : Nat → D), e = .returned v ∧ Sl w' n kid v ∧ kidsWeight n kid ≤ 60000 ∧ Below w.heap.size w w' := by
  go_enter Tryz.func8, Tryz.ntmps8
  go_wp2_with fail
  refine (l1New_any a len cap w hc).mono ?_
  rintro e w1 ⟨rfl, hb, hcur, -⟩
  go_wp2_with fail
  refine (draw3_any w.heap.size a len cap w1 hcur).mono ?_
  rintro e w2 ⟨v, rfl, hd⟩
  obtain ⟨n, kid, h1, h2⟩ := hd.ex
  have HD : Hid (Sl w2 n kid v ∧ kidsWeight n kid ≤ 60000 ∧ Below w.heap.size w w2) := ⟨h1.all, h2, hb.trans (hd.ext.below (Nat.le_refl _) hb.size)⟩
  clear hd h1 h2 hcur hb hc
  go_wp2
  go_ret
  exact ⟨_, n, kid, rfl, HD.out⟩

set_option maxRecDepth 100000 in
set_option maxHeartbeats 2000000 in
theorem drawDatText_any (a : Option Addr) (len cap : Nat) (w : World) (hc : CodeOk a len w.heap.size w) :
    Calls Tryz.prog 9 #[.slice a len cap] w fun e w' => ∃ (t : D) (v : Value), e = .returned (.agg #[.int .i64 t.op, .int .i64 t.at_, .int .i64 t.n, .string t.s, v]) ∧ t.In w' v ∧ t.weight ≤ 60000 ∧ Below w.heap.size w w' := by
  have hc1 := code_below3 hc (newb w zeroObj)
  have hs0 : (w.alloc zeroObj).heap.size = w.heap.size + 1 := by simp
  obtain ⟨R, hR⟩ : ∃ R, R = w.heap.size := ⟨_, rfl⟩
  go_enter Tryz.func9, Tryz.ntmps9
  go_wp2_with fail
  refine (l1New_any a len cap _ hc1).mono ?_
  rintro e w1 ⟨rfl, hb, hcur, hs1⟩
  have HR1 : Hid (w1.heap[R]? = some (.cells #[.int .i64 0, .int .i64 0, .int .i64 0, .string ⟨#[]⟩, .slice none 0 0] 30 (0, 0))) := by
    show _ = _
    rw [hR]
    exact (hb.block _ (by simp)).trans (heap_alloc_new w _)
  have HB1 : Hid (Below w.heap.size w w1 ∧ w1.heap.size = w.heap.size + 2) := ⟨(newb w zeroObj).trans (hb.mono (by simp)), by rw [hs1, hs0]⟩
  have hCe : (w.alloc zeroObj).heap.size = w.heap.size + 1 := hs0
  rw [hCe] at hcur ⊢
  clear hb hs1 hc1 hc hCe hs0
  go_wp2_with fail
  refine (drawDat_any (w.heap.size + 1) a len cap w1 hcur).mono ?_
  rintro e w2 ⟨t, v, rfl, hin, hwt, hext, hcur2⟩
  obtain ⟨pv, cv, hv⟩ := hin.sl.shape
  subst hv
  have HR2 : Hid (w2.heap[R]? = some (.cells #[.int .i64 0, .int .i64 0, .int .i64 0, .string ⟨#[]⟩, .slice none 0 0] 30 (0, 0))) := (hext.block R (Array.getElem?_eq_some_iff.1 HR1.out).1 (by omega)).trans HR1.out
  have HD : Hid (t.InB (w.heap.size + 2) w2 (.slice pv t.len cv) ∧ t.weight ≤ 60000 ∧ Below w.heap.size w w2 ∧ R = w.heap.size) := ⟨by rw [← HB1.out.2]; exact hin, hwt, HB1.out.1.trans (hext.below (by omega) (by have := HB1.out.2; omega)), hR⟩
  clear hin hwt hext hcur hcur2 HR1 HB1
  rw [← hR]
  clear hR
  obtain ⟨r0, r1, r2, r3, r4⟩ := row5 HR2.out
  obtain ⟨f0, f1, f2, f3, f4⟩ := frz5 HR2.out
  go_wp2_with fail
  refine bodyPost_ret (v := .agg #[.int .i64 t.op, .int .i64 t.at_, .int .i64 t.n, .string t.s, .slice pv t.len cv]) (by rw [results_cell1 (p := 2) (ty := 30) (by kernel_rfl)]; simp [go_sem, r0, r1, r2, r3, r4]) rfl ?_
  obtain ⟨h1, h2, h3, h4⟩ := HD.out
  refine ⟨t, _, rfl, ?_, h2, h3.trans (five_below w2 w.heap.size R (by omega) _ _ _ _ _)⟩
  refine D.InB.all (D.InB.kept (w := w2) (fun ad u ha hx => ?_) t h1)
  exact (World.cell?_of_block (five_same w2 R _ _ _ _ _ ad.block (by omega))).trans hx
end Go.Proofs.YtafpbcdgcgffeabGreatDoor

/- spec.DrawSameDat: two data in memory of the call's own. Condition: the code's bytes can be read. -/
namespace Go.Proofs.YtafpbcdgcgffeabGreatDoor
open Go.ChangeShapes Go.WideShapes Go.ChangeAt Go.RowKit

/-- A datum's five cells. -/
abbrev datObj (t : D) (v : Value) : Obj := .cells #[.int .i64 t.op, .int .i64 t.at_, .int .i64 t.n, .string t.s, v] 30
abbrev datBlk (w : World) (R : Nat) (t : D) (v : Value) : Prop := w.heap[R]? = some (.cells #[.int .i64 t.op, .int .i64 t.at_, .int .i64 t.n, .string t.s, v] 30 (0, 0))
abbrev zeroBlk (w : World) (R : Nat) : Prop := w.heap[R]? = some (.cells #[.int .i64 0, .int .i64 0, .int .i64 0, .string ⟨#[]⟩, .slice none 0 0] 30 (0, 0))
abbrev put5 (w : World) (R : Nat) (t : D) (v : Value) : World := ((((w.setCell ⟨R, 0, none⟩ (.int .i64 t.op)).setCell ⟨R, 1, none⟩ (.int .i64 t.at_)).setCell ⟨R, 2, none⟩ (.int .i64 t.n)).setCell ⟨R, 3, none⟩ (.string t.s)).setCell ⟨R, 4, none⟩ v

theorem put5_blk {w : World} {R : Nat} {a0 a1 a2 a3 a4 : Value} (h : w.heap[R]? = some (.cells #[a0, a1, a2, a3, a4] 30 (0, 0))) (t : D) (v : Value) : datBlk (put5 w R t v) R t v := by
  have h0 := heap_setCell_same w R 0 _ _ (.int .i64 t.op) h
  have h1 := heap_setCell_same _ R 1 _ _ (.int .i64 t.at_) h0
  have h2 := heap_setCell_same _ R 2 _ _ (.int .i64 t.n) h1
  have h3 := heap_setCell_same _ R 3 _ _ (.string t.s) h2
  exact heap_setCell_same _ R 4 _ _ v h3

theorem put5_same (w : World) (R : Nat) (t : D) (v : Value) (x : Nat) (h : x ≠ R) : (put5 w R t v).heap[x]? = w.heap[x]? := five_same w R _ _ _ _ _ x h
theorem put5_b (w : World) (R : Nat) (t : D) (v : Value) : Below 0 w (put5 w R t v) := five_below w 0 R (Nat.zero_le _) _ _ _ _ _

/-- What the walk knows ahead of the last region. -/
structure Same3 (w w3 : World) (R2 R3 A : Nat) (t : D) (v : Value) : Prop where
  bel : Below w.heap.size w w3
  e2 : R2 = w.heap.size
  e3 : R3 = w.heap.size + 1
  aw : w.heap.size + 3 ≤ A
  z2 : zeroBlk w3 R2
  z3 : zeroBlk w3 R3
  a : datBlk w3 A t v
  inn : t.InB (w.heap.size + 3) w3 v
  wt : t.weight ≤ 60000

theorem InB_high {B : Nat} {w w' : World} {t : D} {v : Value} (h : t.InB B w v) (hs : ∀ x, B ≤ x → x < w.heap.size → w'.heap[x]? = w.heap[x]?) : t.InB B w' v :=
  D.InB.kept (fun ad _ ha hx => (World.cell?_of_block (hs ad.block ha (World.block_lt_of_cell? w ad hx))).trans hx) t h

/-- The last region's end: in whatever order the two were stored. -/
theorem same_end {w w3 w4 : World} {R2 R3 A : Nat} {t t' : D} {v v' : Value} (h : Same3 w w3 R2 R3 A t v) (hlow : ∀ x, x < w.heap.size → w4.heap[x]? = w3.heap[x]?) (hhigh : ∀ x, w.heap.size + 3 ≤ x → x < w3.heap.size → w4.heap[x]? = w3.heap[x]?) (hsz : w3.heap.size ≤ w4.heap.size) (ho : w4.os = w3.os ∧ w4.tape = w3.tape ∧ w4.output = w3.output) (hin : t'.InB (w.heap.size + 3) w4 v') :
    (∀ W, (∀ x, x ≠ R2 → x ≠ R3 → W.heap[x]? = w4.heap[x]?) → w4.heap.size ≤ W.heap.size → W.os = w4.os → W.tape = w4.tape → W.output = w4.output → t.In W v ∧ t'.In W v' ∧ Below w.heap.size w W) := by
  intro W hW hs h1 h2 h3
  have e2 := h.e2
  have e3 := h.e3
  have k : ∀ x, w.heap.size + 3 ≤ x → W.heap[x]? = w4.heap[x]? := fun x hx => hW x (by omega) (by omega)
  refine ⟨D.InB.all (InB_high h.inn (fun x hx hl => (k x hx).trans (hhigh x hx hl))), D.InB.all (InB_high hin (fun x hx _ => k x hx)), ?_⟩
  exact ⟨h1.trans (ho.1.trans h.bel.os), h2.trans (ho.2.1.trans h.bel.tape), h3.trans (ho.2.2.trans h.bel.output), by have := h.bel.size; omega, fun x hx => (hW x (by omega) (by omega)).trans ((hlow x hx).trans (h.bel.block x hx))⟩

theorem own_high {w w3 w4 : World} {R2 R3 A : Nat} {t t' : D} {v v' : Value} {T : List Nat} (h : Same3 w w3 R2 R3 A t v) (hd : DOwn w4 t' v' T) (hT : ∀ x ∈ T, w3.heap.size ≤ x) : t'.InB (w.heap.size + 3) w4 v' :=
  hd.inB _ (fun b hb => by have := hT b hb; have := h.aw; have := (Array.getElem?_eq_some_iff.1 h.a).1; omega)

theorem end_plain {w w3 w4 : World} {R2 R3 A : Nat} {t t' : D} {v v' : Value} {T : List Nat} (h : Same3 w w3 R2 R3 A t v) (hb : Below w3.heap.size w3 w4) (hd : DOwn w4 t' v' T) (hT : ∀ x ∈ T, w3.heap.size ≤ x) :
    t.In (put5 (put5 w4 R2 t v) R3 t' v') v ∧ t'.In (put5 (put5 w4 R2 t v) R3 t' v') v' ∧ Below w.heap.size w (put5 (put5 w4 R2 t v) R3 t' v') :=
  same_end h (fun x hx => hb.block x (by have := h.bel.size; omega)) (fun x _ hl => hb.block x hl) hb.size ⟨hb.os, hb.tape, hb.output⟩ (own_high h hd hT) _ (fun x h2 h3 => (put5_same (put5 w4 R2 t v) R3 t' v' x h3).trans (put5_same w4 R2 t v x h2)) ((put5_b w4 R2 t v).trans (put5_b _ R3 t' v')).size ((put5_b w4 R2 t v).trans (put5_b _ R3 t' v')).os ((put5_b w4 R2 t v).trans (put5_b _ R3 t' v')).tape ((put5_b w4 R2 t v).trans (put5_b _ R3 t' v')).output

theorem end_plain' {w w3 w4 : World} {R2 R3 A : Nat} {t t' : D} {v v' : Value} {T : List Nat} (h : Same3 w w3 R2 R3 A t v) (hb : Below w3.heap.size w3 w4) (hd : DOwn w4 t' v' T) (hT : ∀ x ∈ T, w3.heap.size ≤ x) :
    t.In (put5 (put5 w4 R3 t' v') R2 t v) v ∧ t'.In (put5 (put5 w4 R3 t' v') R2 t v) v' ∧ Below w.heap.size w (put5 (put5 w4 R3 t' v') R2 t v) :=
  same_end h (fun x hx => hb.block x (by have := h.bel.size; omega)) (fun x _ hl => hb.block x hl) hb.size ⟨hb.os, hb.tape, hb.output⟩ (own_high h hd hT) _ (fun x h2 h3 => (put5_same (put5 w4 R3 t' v') R2 t v x h2).trans (put5_same w4 R3 t' v' x h3)) ((put5_b w4 R3 t' v').trans (put5_b _ R2 t v)).size ((put5_b w4 R3 t' v').trans (put5_b _ R2 t v)).os ((put5_b w4 R3 t' v').trans (put5_b _ R2 t v)).tape ((put5_b w4 R3 t' v').trans (put5_b _ R2 t v)).output

theorem end_after {w w3 w4 : World} {R2 R3 A : Nat} {t t' : D} {v v' : Value} {T : List Nat} (h : Same3 w w3 R2 R3 A t v) (hb : Below (put5 w3 R2 t v).heap.size (put5 w3 R2 t v) w4) (hd : DOwn w4 t' v' T) (hT : ∀ x ∈ T, w3.heap.size ≤ x) :
    t.In (put5 w4 R3 t' v') v ∧ t'.In (put5 w4 R3 t' v') v' ∧ Below w.heap.size w (put5 w4 R3 t' v') := by
  have e2 := h.e2
  have hz := (put5_b w3 R2 t v).size
  have k : ∀ x, x ≠ R2 → x < w3.heap.size → w4.heap[x]? = w3.heap[x]? := fun x hx hl => (hb.block x (by omega)).trans (put5_same w3 R2 t v x hx)
  exact same_end h (fun x hx => k x (by omega) (by have := h.bel.size; omega)) (fun x hx hl => k x (by omega) hl) (by have := hb.size; omega) ⟨hb.os.trans (put5_b w3 R2 t v).os, hb.tape.trans (put5_b w3 R2 t v).tape, hb.output.trans (put5_b w3 R2 t v).output⟩ (own_high h hd hT) _ (fun x h2 h3 => put5_same w4 R3 t' v' x h3) (put5_b w4 R3 t' v').size (put5_b w4 R3 t' v').os (put5_b w4 R3 t' v').tape (put5_b w4 R3 t' v').output

theorem endE_plain {w w3 w4 : World} {R2 R3 A C : Nat} {t t' : D} {v v' : Value} (h : Same3 w w3 R2 R3 A t v) (hC : C = w.heap.size + 2) (hb : Ext C w3 w4) (hin : t'.InB w3.heap.size w4 v') :
    t.In (put5 (put5 w4 R2 t v) R3 t' v') v ∧ t'.In (put5 (put5 w4 R2 t v) R3 t' v') v' ∧ Below w.heap.size w (put5 (put5 w4 R2 t v) R3 t' v') :=
  same_end h (fun x hx => hb.block x (by have := h.bel.size; omega) (by omega)) (fun x hx hl => hb.block x hl (by omega)) hb.size ⟨hb.os, hb.tape, hb.output⟩ (hin.mono (by have := h.aw; have := (Array.getElem?_eq_some_iff.1 h.a).1; omega)) _ (fun x h2 h3 => (put5_same (put5 w4 R2 t v) R3 t' v' x h3).trans (put5_same w4 R2 t v x h2)) ((put5_b w4 R2 t v).trans (put5_b _ R3 t' v')).size ((put5_b w4 R2 t v).trans (put5_b _ R3 t' v')).os ((put5_b w4 R2 t v).trans (put5_b _ R3 t' v')).tape ((put5_b w4 R2 t v).trans (put5_b _ R3 t' v')).output

theorem endE_plain' {w w3 w4 : World} {R2 R3 A C : Nat} {t t' : D} {v v' : Value} (h : Same3 w w3 R2 R3 A t v) (hC : C = w.heap.size + 2) (hb : Ext C w3 w4) (hin : t'.InB w3.heap.size w4 v') :
    t.In (put5 (put5 w4 R3 t' v') R2 t v) v ∧ t'.In (put5 (put5 w4 R3 t' v') R2 t v) v' ∧ Below w.heap.size w (put5 (put5 w4 R3 t' v') R2 t v) :=
  same_end h (fun x hx => hb.block x (by have := h.bel.size; omega) (by omega)) (fun x hx hl => hb.block x hl (by omega)) hb.size ⟨hb.os, hb.tape, hb.output⟩ (hin.mono (by have := h.aw; have := (Array.getElem?_eq_some_iff.1 h.a).1; omega)) _ (fun x h2 h3 => (put5_same (put5 w4 R3 t' v') R2 t v x h2).trans (put5_same w4 R3 t' v' x h3)) ((put5_b w4 R3 t' v').trans (put5_b _ R2 t v)).size ((put5_b w4 R3 t' v').trans (put5_b _ R2 t v)).os ((put5_b w4 R3 t' v').trans (put5_b _ R2 t v)).tape ((put5_b w4 R3 t' v').trans (put5_b _ R2 t v)).output

theorem endE_after {w w3 w4 : World} {R2 R3 A C : Nat} {t t' : D} {v v' : Value} (h : Same3 w w3 R2 R3 A t v) (hC : C = w.heap.size + 2) (hb : Ext C (put5 w3 R2 t v) w4) (hin : t'.InB w3.heap.size w4 v') :
    t.In (put5 w4 R3 t' v') v ∧ t'.In (put5 w4 R3 t' v') v' ∧ Below w.heap.size w (put5 w4 R3 t' v') := by
  have e2 := h.e2
  have hz := (put5_b w3 R2 t v).size
  have k : ∀ x, x ≠ R2 → x ≠ C → x < w3.heap.size → w4.heap[x]? = w3.heap[x]? := fun x hx hc hl => (hb.block x (by omega) hc).trans (put5_same w3 R2 t v x hx)
  exact same_end h (fun x hx => k x (by omega) (by omega) (by have := h.bel.size; omega)) (fun x hx hl => k x (by omega) (by omega) hl) (by have := hb.size; omega) ⟨hb.os.trans (put5_b w3 R2 t v).os, hb.tape.trans (put5_b w3 R2 t v).tape, hb.output.trans (put5_b w3 R2 t v).output⟩ (hin.mono (by have := h.aw; have := (Array.getElem?_eq_some_iff.1 h.a).1; omega)) _ (fun x h2 h3 => put5_same w4 R3 t' v' x h3) (put5_b w4 R3 t' v').size (put5_b w4 R3 t' v').os (put5_b w4 R3 t' v').tape (put5_b w4 R3 t' v').output

/-- The cursor stays where its own block and the code's are kept. -/
theorem cur_put {w w3 W : World} {C len cap : Nat} {a : Option Addr} (hc : CodeOk a len w.heap.size w) (hcu : CurAt C a len cap w3) (hb : Below w.heap.size w W) (hC : W.heap[C]? = w3.heap[C]?) (hCw : w.heap.size ≤ C) : CurAt C a len cap W := by
  obtain ⟨_, i, hh, h0, hk⟩ := hcu
  have := hc.keep (w' := W) fun k hk _ => hb.block k hk
  refine ⟨?_, i, hh, h0, hC.trans hk⟩
  obtain ⟨h1, h2 | ⟨b, off, e, hlt, hz⟩⟩ := this
  · exact ⟨h1, .inl h2⟩
  · exact ⟨h1, .inr ⟨b, off, e, Nat.lt_of_lt_of_le hlt hCw, hz⟩⟩
end Go.Proofs.YtafpbcdgcgffeabGreatDoor

/- spec.DrawSameDat: two data in memory of the call's own. Condition: the code's bytes can be read. -/
namespace Go.Proofs.YtafpbcdgcgffeabGreatDoor
open Go.ChangeShapes Go.WideShapes Go.ChangeAt Go.RowKit

set_option maxRecDepth 100000 in
set_option maxHeartbeats 4000000 in
theorem drawSameDat_any (a : Option Addr) (len cap : Nat) (w : World) (hc : CodeOk a len w.heap.size w) :
    Calls Tryz.prog 10 #[.slice a len cap] w fun e w' => ∃ (t : D) (v : Value) (t' : D) (v' : Value), e = .returned (.tuple #[.agg #[.int .i64 t.op, .int .i64 t.at_, .int .i64 t.n, .string t.s, v], .agg #[.int .i64 t'.op, .int .i64 t'.at_, .int .i64 t'.n, .string t'.s, v']]) ∧ (t.In w' v ∧ t'.In w' v' ∧ Below w.heap.size w w') ∧ t.weight ≤ 60000 ∧ t'.weight ≤ 60000 := by
  have hs0 : ((w.alloc zeroObj).alloc zeroObj).heap.size = w.heap.size + 2 := by simp
  have hc1 := code_below3 (code_below3 hc (newb w zeroObj)) (newb (w.alloc zeroObj) zeroObj)
  obtain ⟨R2, hR2⟩ : ∃ R, R = w.heap.size := ⟨_, rfl⟩
  obtain ⟨R3, hR3⟩ : ∃ R, R = w.heap.size + 1 := ⟨_, rfl⟩
  go_enter Tryz.func10, Tryz.ntmps10
  go_wp2_with fail
  refine (l1New_any a len cap _ hc1).mono ?_
  rintro e w1 ⟨rfl, hb, hcur, hs1⟩
  have HZ1 : Hid (zeroBlk w1 R2 ∧ zeroBlk w1 R3 ∧ Below w.heap.size w w1 ∧ w1.heap.size = w.heap.size + 3) := by
    refine ⟨?_, ?_, ?_, by rw [hs1, hs0]⟩
    · show _ = _
      rw [hR2]
      exact (hb.block _ (by simp; omega)).trans ((Below.heap_alloc _ _ _ (by simp)).trans (heap_alloc_new w _))
    · show _ = _
      rw [hR3]
      have := heap_alloc_new (w.alloc zeroObj) zeroObj
      rw [show (w.alloc zeroObj).heap.size = w.heap.size + 1 by simp] at this
      exact (hb.block _ (by simp)).trans this
    · exact (newb w zeroObj).trans (((newb _ zeroObj).mono (by simp)).trans (hb.mono (by simp; omega)))
  rw [hs0] at hcur ⊢
  have HC0 : Hid (CodeOk a len w.heap.size w) := hc
  clear hb hs1 hc1 hc hs0
  go_wp2_with fail
  refine (drawDat_any (w.heap.size + 2) a len cap w1 hcur).mono ?_
  rintro e w2 ⟨t, v, rfl, hin, hwt, hext, hcur2⟩
  obtain ⟨pv, cv, hv⟩ := hin.sl.shape
  subst hv
  have HZ2 : Hid (zeroBlk w2 R2 ∧ zeroBlk w2 R3 ∧ Below w.heap.size w w2 ∧ w.heap.size + 3 ≤ w2.heap.size ∧ t.InB (w.heap.size + 3) w2 (.slice pv t.len cv) ∧ t.weight ≤ 60000) :=
    ⟨(hext.block R2 (Array.getElem?_eq_some_iff.1 HZ1.out.1).1 (by omega)).trans HZ1.out.1, (hext.block R3 (Array.getElem?_eq_some_iff.1 HZ1.out.2.1).1 (by omega)).trans HZ1.out.2.1, HZ1.out.2.2.1.trans (hext.below (by omega) (by have := HZ1.out.2.2.2; omega)), by have := hext.size; have := HZ1.out.2.2.2; omega, by rw [← HZ1.out.2.2.2]; exact hin, hwt⟩
  clear hin hwt hext hcur HZ1
  go_wp2_with fail
  refine (l1Once_any (w.heap.size + 2) a len cap 2 (by omega) _ (hcur2.alloc _)).mono ?_
  rintro e w3 ⟨⟨bb, rfl⟩, hx3, hcur3⟩
  obtain ⟨A, hA⟩ : ∃ A, A = w2.heap.size := ⟨_, rfl⟩
  have HS3 : Hid (Same3 w w3 R2 R3 A t (.slice pv t.len cv)) := by
    obtain ⟨h1, h2, h3, h4, h5, h6⟩ := HZ2.out
    have nb := newb w2 (datObj t (.slice pv t.len cv))
    have l2 := (Array.getElem?_eq_some_iff.1 h1).1
    have l3 := (Array.getElem?_eq_some_iff.1 h2).1
    refine ⟨(h3.trans (nb.mono (by omega))).trans (hx3.below (by omega) (by simp; omega)), hR2, hR3, by omega, ?_, ?_, ?_, ?_, h6⟩
    · exact (hx3.block R2 (by simp; omega) (by omega)).trans ((nb.block R2 l2).trans h1)
    · exact (hx3.block R3 (by simp; omega) (by omega)).trans ((nb.block R3 l3).trans h2)
    · rw [hA]
      exact (hx3.block _ (by simp) (by omega)).trans (heap_alloc_new w2 _)
    · exact (h5.below nb).ext hx3 (by omega)
  obtain ⟨C, hC⟩ : ∃ C, C = w.heap.size + 2 := ⟨_, rfl⟩
  rw [← hC] at hcur3 ⊢
  rw [← hR3, ← hR2, ← hA]
  have HSC : Hid (R2 = w.heap.size ∧ R3 = w.heap.size + 1 ∧ w.heap.size + 3 ≤ A ∧ C = w.heap.size + 2) := ⟨hR2, hR3, HS3.out.aw, hC⟩
  have n23 : ¬ R2 = R3 := by omega
  have n32 : ¬ R3 = R2 := by omega
  have n2A : ¬ R2 = A := by have := HS3.out.aw; omega
  have nA2 : ¬ A = R2 := by have := HS3.out.aw; omega
  have n3A : ¬ R3 = A := by have := HS3.out.aw; omega
  have nA3 : ¬ A = R3 := by have := HS3.out.aw; omega
  have l2 := (Array.getElem?_eq_some_iff.1 HS3.out.z2).1
  have l3 := (Array.getElem?_eq_some_iff.1 HS3.out.z3).1
  have lA := (Array.getElem?_eq_some_iff.1 HS3.out.a).1
  clear hA hR2 hR3 hC hcur2 hx3 HZ2
  obtain ⟨x0, x1, x2, x3, x4⟩ := row5 HS3.out.z2
  obtain ⟨fx0, fx1, fx2, fx3, fx4⟩ := frz5 HS3.out.z2
  obtain ⟨y0, y1, y2, y3, y4⟩ := row5 HS3.out.z3
  obtain ⟨fy0, fy1, fy2, fy3, fy4⟩ := frz5 HS3.out.z3
  obtain ⟨a0, a1, a2, a3, a4⟩ := row5 HS3.out.a
  cases bb
  · have HC1 : Hid (CurAt C a len cap w3.drew) := hcur3
    have HC2 : Hid (CurAt C a len cap (put5 w3 R2 t (.slice pv t.len cv)).drew) := cur_put (W := (put5 w3 R2 t (.slice pv t.len cv)).drew) HC0.out hcur3 (HS3.out.bel.trans (five_below w3 w.heap.size R2 (by have := HSC.out.1; omega) _ _ _ _ _).drew) (put5_same w3 R2 t _ C (by have := HSC.out; omega)) (by have := HSC.out; omega)
    have nC2 : ¬ R2 = C := by have := HSC.out; omega
    have nC3 : ¬ R3 = C := by have := HSC.out; omega
    have nCA : ¬ A = C := by have := HSC.out; omega
    clear hcur3
    go_wp2_with fail
    go_region_with (first
      | (go_at_call 25; refine (drawDat_any C a len cap w3.drew HC1.out).mono ?_; rintro e w4 ⟨t4, v4, rfl, hin4, hwt4, hx4, hcur4⟩; have hw4 : Ext C w3 w4 := ⟨hx4.os, hx4.tape, hx4.output, hx4.size, hx4.block⟩; have HP4 : Hid (Ext C w3 w4 ∧ t4.InB w3.heap.size w4 v4 ∧ t4.weight ≤ 60000) := ⟨hw4, hin4, hwt4⟩; obtain ⟨p4, q4, hv4⟩ := hin4.sl.shape; subst hv4; obtain ⟨b0, b1, b2, b3, b4⟩ := row5 ((hw4.block R2 l2 nC2).trans HS3.out.z2); obtain ⟨g0, g1, g2, g3, g4⟩ := frz5 ((hw4.block R2 l2 nC2).trans HS3.out.z2); obtain ⟨c0, c1, c2, c3, c4⟩ := row5 ((hw4.block R3 l3 nC3).trans HS3.out.z3); obtain ⟨h0, h1, h2, h3, h4⟩ := frz5 ((hw4.block R3 l3 nC3).trans HS3.out.z3); obtain ⟨d0, d1, d2, d3, d4⟩ := row5 ((hw4.block A lA nCA).trans HS3.out.a); clear hin4 hwt4 hx4 hcur4 hw4)
      | (go_at_call 25; refine (drawDat_any C a len cap _ HC2.out).mono ?_; rintro e w4 ⟨t4, v4, rfl, hin4, hwt4, hx4, hcur4⟩; have hw4 : Ext C (put5 w3 R2 t (.slice pv t.len cv)) w4 := ⟨hx4.os, hx4.tape, hx4.output, hx4.size, hx4.block⟩; have HP5 : Hid (Ext C (put5 w3 R2 t (.slice pv t.len cv)) w4 ∧ t4.InB w3.heap.size w4 v4 ∧ t4.weight ≤ 60000) := ⟨hw4, hin4.mono (put5_b w3 R2 t (.slice pv t.len cv)).size, hwt4⟩; obtain ⟨p4, q4, hv4⟩ := hin4.sl.shape; subst hv4; have k2 : datBlk w4 R2 t (.slice pv t.len cv) := (hw4.block R2 (Nat.lt_of_lt_of_le l2 (put5_b w3 R2 t (.slice pv t.len cv)).size) nC2).trans (put5_blk HS3.out.z2 t _); obtain ⟨b0, b1, b2, b3, b4⟩ := row5 k2; have k3 : zeroBlk w4 R3 := (hw4.block R3 (Nat.lt_of_lt_of_le l3 (put5_b w3 R2 t (.slice pv t.len cv)).size) nC3).trans ((put5_same w3 R2 t _ R3 n32).trans HS3.out.z3); obtain ⟨c0, c1, c2, c3, c4⟩ := row5 k3; obtain ⟨h0, h1, h2, h3, h4⟩ := frz5 k3; clear hin4 hwt4 hx4 hcur4 hw4))
    all_goals
      go_wp2_with fail
      refine bodyPost_ret (v := .tuple #[.agg #[.int .i64 t.op, .int .i64 t.at_, .int .i64 t.n, .string t.s, .slice pv t.len cv], .agg #[.int .i64 t4.op, .int .i64 t4.at_, .int .i64 t4.n, .string t4.s, .slice p4 t4.len q4]]) (by rw [results_cells2 (p := 2) (q := 3) (ty := 30) (tz := 30) (by kernel_rfl)]; first | (simp [go_sem, b0, b1, b2, b3, b4, c0, c1, c2, c3, c4]; done) | (simp [go_sem, b0, b1, b2, b3, b4, c0, c1, c2, c3, c4, n23]; done) | (simp [go_sem, b0, b1, b2, b3, b4, c0, c1, c2, c3, c4, n32]; done)) rfl ?_
      first
        | exact ⟨t, _, t4, _, rfl, endE_plain HS3.out HSC.out.2.2.2 HP4.out.1 HP4.out.2.1, HS3.out.wt, HP4.out.2.2⟩
        | exact ⟨t, _, t4, _, rfl, endE_plain' HS3.out HSC.out.2.2.2 HP4.out.1 HP4.out.2.1, HS3.out.wt, HP4.out.2.2⟩
        | exact ⟨t, _, t4, _, rfl, endE_after HS3.out HSC.out.2.2.2 HP5.out.1 HP5.out.2.1, HS3.out.wt, HP5.out.2.2⟩
  · have HC1 : Hid (Calls Tryz.prog 27 #[.agg #[.int .i64 t.op, .int .i64 t.at_, .int .i64 t.n, .string t.s, .slice pv t.len cv]] w3.drew _) := copy_all t w3.drew _ (HS3.out.inn.all.below (Below.refl _ w3).drew) (by have := HS3.out.wt; omega)
    have HC2 : Hid (Calls Tryz.prog 27 #[.agg #[.int .i64 t.op, .int .i64 t.at_, .int .i64 t.n, .string t.s, .slice pv t.len cv]] (put5 w3 R2 t (.slice pv t.len cv)).drew _) := copy_all t (put5 w3 R2 t (.slice pv t.len cv)).drew _ ((InB_high (w' := put5 w3 R2 t (.slice pv t.len cv)) HS3.out.inn (fun x hx _ => five_same w3 R2 _ _ _ _ _ x (by have := HSC.out.1; omega))).all.below (Below.refl _ _).drew) (by have := HS3.out.wt; omega)
    go_wp2_with fail
    go_region_with (first
      | (go_at_call 27; refine HC1.out.mono ?_; rintro e w4 ⟨v4, T4, rfl, hb4, hd4, hn4, hT4⟩; have hw4 : Below w3.heap.size w3 w4 := ⟨hb4.os, hb4.tape, hb4.output, hb4.size, hb4.block⟩; have HP4 : Hid (Below w3.heap.size w3 w4 ∧ DOwn w4 t v4 T4 ∧ (∀ x ∈ T4, w3.heap.size ≤ x)) := ⟨hw4, hd4, hT4⟩; obtain ⟨p4, q4, hv4⟩ := hd4.in'.sl.shape; subst hv4; obtain ⟨b0, b1, b2, b3, b4⟩ := row5 ((hw4.block R2 l2).trans HS3.out.z2); obtain ⟨g0, g1, g2, g3, g4⟩ := frz5 ((hw4.block R2 l2).trans HS3.out.z2); obtain ⟨c0, c1, c2, c3, c4⟩ := row5 ((hw4.block R3 l3).trans HS3.out.z3); obtain ⟨h0, h1, h2, h3, h4⟩ := frz5 ((hw4.block R3 l3).trans HS3.out.z3); obtain ⟨d0, d1, d2, d3, d4⟩ := row5 ((hw4.block A lA).trans HS3.out.a); clear hb4 hd4 hn4 hT4 hw4)
      | (go_at_call 27; refine HC2.out.mono ?_; rintro e w4 ⟨v4, T4, rfl, hb4, hd4, hn4, hT4⟩; have hw4 : Below (put5 w3 R2 t (.slice pv t.len cv)).heap.size (put5 w3 R2 t (.slice pv t.len cv)) w4 := ⟨hb4.os, hb4.tape, hb4.output, hb4.size, hb4.block⟩; have HP5 : Hid (Below (put5 w3 R2 t (.slice pv t.len cv)).heap.size (put5 w3 R2 t (.slice pv t.len cv)) w4 ∧ DOwn w4 t v4 T4 ∧ (∀ x ∈ T4, w3.heap.size ≤ x)) := ⟨hw4, hd4, fun x hx => by have := hT4 x hx; simpa using this⟩; obtain ⟨p4, q4, hv4⟩ := hd4.in'.sl.shape; subst hv4; have k2 : datBlk w4 R2 t (.slice pv t.len cv) := (hw4.block R2 (by simpa using l2)).trans (put5_blk HS3.out.z2 t _); obtain ⟨b0, b1, b2, b3, b4⟩ := row5 k2; have k3 : zeroBlk w4 R3 := (hw4.block R3 (by simpa using l3)).trans ((five_same w3 R2 _ _ _ _ _ R3 n32).trans HS3.out.z3); obtain ⟨c0, c1, c2, c3, c4⟩ := row5 k3; obtain ⟨h0, h1, h2, h3, h4⟩ := frz5 k3; clear hb4 hd4 hn4 hT4 hw4))
    all_goals
      go_wp2_with fail
      refine bodyPost_ret (v := .tuple #[.agg #[.int .i64 t.op, .int .i64 t.at_, .int .i64 t.n, .string t.s, .slice pv t.len cv], .agg #[.int .i64 t.op, .int .i64 t.at_, .int .i64 t.n, .string t.s, .slice p4 t.len q4]]) (by rw [results_cells2 (p := 2) (q := 3) (ty := 30) (tz := 30) (by kernel_rfl)]; first | (simp [go_sem, b0, b1, b2, b3, b4, c0, c1, c2, c3, c4]; done) | (simp [go_sem, b0, b1, b2, b3, b4, c0, c1, c2, c3, c4, n23]; done) | (simp [go_sem, b0, b1, b2, b3, b4, c0, c1, c2, c3, c4, n32]; done)) rfl ?_
      refine ⟨t, _, t, _, rfl, ?_, HS3.out.wt, HS3.out.wt⟩
      first
        | exact end_plain HS3.out HP4.out.1 HP4.out.2.1 HP4.out.2.2
        | exact end_plain' HS3.out HP4.out.1 HP4.out.2.1 HP4.out.2.2
        | exact end_after HS3.out HP5.out.1 HP5.out.2.1 HP5.out.2.2
end Go.Proofs.YtafpbcdgcgffeabGreatDoor
