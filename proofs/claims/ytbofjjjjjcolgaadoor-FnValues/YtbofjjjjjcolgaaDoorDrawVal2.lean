/- spec.l11DrawValue: a value is drawn, at most d within each other. Condition: d at most 3. -/
import Derived.Test.YtbofjjjjjcolgaaDoorRows
import Derived.Test.YtbofjjjjjcolgaaDoorDrawVal1
import Derived.Test.YtbofjjjjjcolgaaDoorDrawOnce
import Derived.WalkKit
import Derived.ProofKit
import Derived.Deep.Cut
namespace Go.Proofs.YtbofjjjjjcolgaaDoor
open Go.ChangeShapes Go.WideShapes Go.ChangeAt Go.RowKit

def DrawVAt (d : Nat) : Prop := ∀ (c : Nat) (a : Option Addr) (len cap : Nat) (w : World), CurAt c a len cap w →
  Calls Tryd.prog 21 #[.pointer (some ⟨c, 0, none⟩), .int .i64 d] w fun e w' => (∃ (op n : Int) (m : Nat) (kid : Nat → Vt) (v : Value), e = .returned (.agg #[.int .i64 op, .int .i64 n, v]) ∧ DV w w' c (.mk op n m kid) v ∧ (Vt.mk op n m kid).weight ≤ Wd d ∧ (-9223372036854775808 ≤ n ∧ n ≤ 9223372036854775807)) ∧ CurAt c a len cap w'

/-- What the leaves are, behind the tests. -/
structure DL (w w1 : World) (c : Nat) (a : Option Addr) (len cap R : Nat) : Prop where
  ext : Ext c w w1
  cur : CurAt c a len cap w1
  blk : w1.heap[R]? = some (.cells #[.int .i64 0, .int .i64 0, .slice none 0 0] 26 (0, 0))
theorem DL.next {w w1 w2 : World} {c : Nat} {a : Option Addr} {len cap R : Nat} (h : DL w w1 c a len cap R) (he : Ext c w1 w2) (hc : CurAt c a len cap w2) (hR : c ≠ R) : DL w w2 c a len cap R :=
  ⟨h.ext.trans he, hc, (he.block R (Array.getElem?_eq_some_iff.1 h.blk).1 (Ne.symm hR)).trans h.blk⟩
theorem DL.cells {w w1 : World} {c : Nat} {a : Option Addr} {len cap R : Nat} (h : DL w w1 c a len cap R) : w1.cell? ⟨R, 0, none⟩ = some (.int .i64 0) ∧ w1.cell? ⟨R, 1, none⟩ = some (.int .i64 0) ∧ w1.cell? ⟨R, 2, none⟩ = some (.slice none 0 0) ∧ ∀ j, w1.frozen? ⟨R, j, none⟩ = false :=
  ⟨cell_of_row w1 _ 0 _ _ _ h.blk, cell_of_row w1 _ 1 _ _ _ h.blk, cell_of_row w1 _ 2 _ _ _ h.blk, fun j => frozen_of_row w1 _ j _ _ h.blk⟩
theorem DL.leaf {w w1 : World} {c : Nat} {a : Option Addr} {len cap R : Nat} (h : DL w w1 c a len cap R) (hR : R = w.heap.size) (hc : c < w.heap.size) (op n : Int) (x y z : Value) : DV w (put3 w1 R x y z) c (.mk op n 0 (fun _ => .no)) (.slice none 0 0) ∧ CurAt c a len cap (put3 w1 R x y z) :=
  ⟨DV.leaf (h.ext.over (put3_ext w1 R x y z) (by omega)) op n, h.cur.keep (put3_ext w1 R x y z) (by omega)⟩

/-- The answer that is stored. -/
theorem DL.answer {w w1 : World} {c : Nat} {a : Option Addr} {len cap R d : Nat} (h : DL w w1 c a len cap R) (hR : R = w.heap.size) (hc : c < w.heap.size) (op n : Int) (hn : -9223372036854775808 ≤ n ∧ n ≤ 9223372036854775807) (x y z : Value) {e : Ending} (he : e = .returned (.agg #[.int .i64 op, .int .i64 n, .slice none 0 0])) :
    (∃ (op n : Int) (m : Nat) (kid : Nat → Vt) (v : Value), e = .returned (.agg #[.int .i64 op, .int .i64 n, v]) ∧ DV w (put3 w1 R x y z) c (.mk op n m kid) v ∧ (Vt.mk op n m kid).weight ≤ Wd d ∧ (-9223372036854775808 ≤ n ∧ n ≤ 9223372036854775807)) ∧ CurAt c a len cap (put3 w1 R x y z) :=
  ⟨⟨op, n, 0, fun _ => .no, _, he, (h.leaf hR hc op n x y z).1, by simp [Vt.weight, sumTo], hn⟩, (h.leaf hR hc op n x y z).2⟩

theorem intsAt_litV (w : World) (zs : List Int) (cs : Array Value) (t : TypeId) (h : cs = (zs.map (Value.int .i64)).toArray) : IntsAt w.heap.size zs (w.alloc (.cells cs t)) := by
  intro j hj
  rw [h, World.cell?_alloc_mark]
  simp [List.getElem?_map, List.getElem?_eq_getElem hj, List.getD_eq_getElem?_getD]
theorem CurAt.allocV {c : Nat} {a : Option Addr} {len cap : Nat} {w : World} (h : CurAt c a len cap w) (o : Obj) : CurAt c a len cap (w.alloc o) :=
  h.keep (d := w.heap.size) ((Ext.refl _ w).alloc o) h.lt
theorem hid_ofDV {p : Prop} (h : p) : Hid p := h

set_option maxRecDepth 100000 in
set_option maxHeartbeats 4000000 in
theorem draw_value : ∀ d : Nat, d ≤ 3 → DrawVAt d := by
  intro d
  induction d with
  | zero =>
    intro _ c a len cap w hc
    have hlt := hc.lt
    obtain ⟨R, hR⟩ : ∃ R, R = w.heap.size := ⟨_, rfl⟩
    obtain ⟨wA, hwA⟩ : ∃ wA, wA = w.alloc (.cells #[.int .i64 0, .int .i64 0, .slice none 0 0] 26) := ⟨_, rfl⟩
    have HL : Hid (DL w wA c a len cap R) := by
      rw [hwA, hR]
      exact ⟨(Ext.refl c w).alloc _, hc.allocV _, heap_alloc_new w _⟩
    have HR := hid_ofDV hR
    have WE := hid_ofDV hwA
    clear hc hR hwA
    go_enter Tryd.func21, Tryd.ntmps21
    go_wp2_with fail
    rw [← WE.out, ← HR.out]
    refine (l1Once_b c a len cap 4 (by omega) _ HL.out.cur).mono ?_
    rintro e w5 ⟨⟨b5, rfl⟩, hx5, hc5⟩
    have HL5 : Hid (DL w w5 c a len cap R) := HL.out.next hx5 hc5 (by have := HR.out; omega)
    clear hx5 hc5
    cases b5 with
    | true =>
      obtain ⟨r0, r1, r2, rf⟩ := HL5.out.cells
      go_wp2_with fail
      refine bodyPost_ret (v := .agg #[.int .i64 2, .int .i64 0, .slice none 0 0]) (by rw [results_cell1 (p := 4) (ty := 26) (by kernel_rfl)]; simp [go_sem, r0, r1, r2]) rfl ?_
      exact HL5.out.answer HR.out hlt 2 0 (by omega) _ _ _ rfl
    | false =>
      go_wp2_with fail
      refine (l1Once_b c a len cap 8 (by omega) _ HL5.out.cur).mono ?_
      rintro e w6 ⟨⟨b6, rfl⟩, hx6, hc6⟩
      have HL6 : Hid (DL w w6 c a len cap R) := HL5.out.next hx6 hc6 (by have := HR.out; omega)
      clear hx6 hc6
      cases b6 with
      | true =>
        obtain ⟨r0, r1, r2, rf⟩ := HL6.out.cells
        go_wp2_with fail
        refine bodyPost_ret (v := .agg #[.int .i64 4, .int .i64 0, .slice none 0 0]) (by rw [results_cell1 (p := 4) (ty := 26) (by kernel_rfl)]; simp [go_sem, r0, r1, r2]) rfl ?_
        exact HL6.out.answer HR.out hlt 4 0 (by omega) _ _ _ rfl
      | false =>
        have hc6l := HL6.out.cur.lt
        go_wp2_with fail
        refine (l1PickInt_any c a len cap _ [0, 7, -3] _ (HL6.out.cur.allocV _) (by omega) 3 rfl (by omega) (by omega) (intsAt_litV _ [0, 7, -3] _ _ rfl)).mono ?_
        rintro e w7 ⟨⟨z, hz, rfl⟩, hx7, hc7⟩
        have HL7 : Hid (DL w w7 c a len cap R) := HL6.out.next (((Ext.refl c w6).alloc _).trans hx7) hc7 (by have := HR.out; omega)
        have hz2 : -9223372036854775808 ≤ z ∧ z ≤ 9223372036854775807 := by
          simp only [List.mem_cons, List.not_mem_nil, or_false] at hz
          omega
        clear hx7 hc7 hz
        obtain ⟨r0, r1, r2, rf⟩ := HL7.out.cells
        go_wp2_with fail
        refine bodyPost_ret (v := .agg #[.int .i64 1, .int .i64 z, .slice none 0 0]) (by rw [results_cell1 (p := 4) (ty := 26) (by kernel_rfl)]; simp [go_sem, r0, r1, r2]) rfl ?_
        exact HL7.out.answer HR.out hlt 1 z hz2 _ _ _ rfl
  | succ d ih =>
    intro hd c a len cap w hc
    have IH := hid_ofDV (ih (by omega))
    clear ih
    have hlt := hc.lt
    obtain ⟨R, hR⟩ : ∃ R, R = w.heap.size := ⟨_, rfl⟩
    obtain ⟨wA, hwA⟩ : ∃ wA, wA = w.alloc (.cells #[.int .i64 0, .int .i64 0, .slice none 0 0] 26) := ⟨_, rfl⟩
    have HL : Hid (DL w wA c a len cap R) := by
      rw [hwA, hR]
      exact ⟨(Ext.refl c w).alloc _, hc.allocV _, heap_alloc_new w _⟩
    have HR := hid_ofDV hR
    have WE := hid_ofDV hwA
    clear hc hR hwA
    rw [show (((d + 1 : Nat) : Int)) = (d : Int) + 1 from by omega]
    go_enter Tryd.func21, Tryd.ntmps21
    go_wp2_with fail
    rw [← WE.out, ← HR.out]
    refine (l1Once_b c a len cap 2 (by omega) _ HL.out.cur).mono ?_
    rintro e w1 ⟨⟨b1, rfl⟩, hx1, hc1⟩
    have HL1 : Hid (DL w w1 c a len cap R) := HL.out.next hx1 hc1 (by have := HR.out; omega)
    clear hx1 hc1
    cases b1 with
    | true =>
      have hc1l := HL1.out.cur.lt
      go_wp2_with fail
      refine (IH.out c a len cap w1 HL1.out.cur).mono ?_
      rintro e w2 ⟨⟨oA, nA, mA, kA, vA, rfl, hdA, hwA, hnA⟩, hcA⟩
      obtain ⟨pA, cA, eA⟩ := hdA.all.shape
      simp only [Vt.len] at eA
      subst eA
      obtain ⟨wB, hwB⟩ : ∃ wB, wB = w2.alloc (.cells #[.int .i64 oA, .int .i64 nA, .slice pA mA cA] 26) := ⟨_, rfl⟩
      obtain ⟨NA, hNA⟩ : ∃ NA, NA = w2.heap.size := ⟨_, rfl⟩
      have HL2 : Hid (DL w wB c a len cap R ∧ wB.heap[NA]? = some (.cells #[.int .i64 oA, .int .i64 nA, .slice pA mA cA] 26 (0, 0))) := by
        rw [hwB, hNA]
        exact ⟨HL1.out.next (hdA.1.trans ((Ext.refl c w2).alloc _)) (hcA.allocV _) (by have := HR.out; omega), heap_alloc_new w2 _⟩
      have hNc : c < NA := by rw [hNA]; exact hcA.lt
      have HA : Hid ((Vt.mk oA nA mA kA).InP (R + 1) wB (.slice pA mA cA) ∧ (Vt.mk oA nA mA kA).weight ≤ Wd d) := by
        have hr := (Array.getElem?_eq_some_iff.1 HL1.out.blk).1
        refine ⟨?_, hwA⟩
        rw [hwB]
        exact (Vt.InP.mk' hnA (hdA.all.mono (by omega))).below (newb w2 _)
      have WB := hid_ofDV hwB
      have NE := hid_ofDV hNA
      clear hdA hwA hcA hwB hNA hc1l
      go_upto_region 3 with fail
      rw [← WB.out, ← NE.out]
      go_wp2_with fail
      refine (IH.out c a len cap wB HL2.out.1.cur).mono ?_
      rintro e w3 ⟨⟨oB, nB, mB, kB, vB, rfl, hdB, hwBw, hnB⟩, hcB⟩
      obtain ⟨pB, cB, eB⟩ := hdB.all.shape
      simp only [Vt.len] at eB
      subst eB
      obtain ⟨wC, hwC⟩ : ∃ wC, wC = w3.alloc (.cells #[.int .i64 oB, .int .i64 nB, .slice pB mB cB] 26) := ⟨_, rfl⟩
      obtain ⟨NB, hNB⟩ : ∃ NB, NB = w3.heap.size := ⟨_, rfl⟩
      have hext : Ext c wB wC := by rw [hwC]; exact hdB.1.trans ((Ext.refl c w3).alloc _)
      have HL3 : Hid (DL w wC c a len cap R ∧ wC.heap[NA]? = some (.cells #[.int .i64 oA, .int .i64 nA, .slice pA mA cA] 26 (0, 0)) ∧ wC.heap[NB]? = some (.cells #[.int .i64 oB, .int .i64 nB, .slice pB mB cB] 26 (0, 0))) := by
        refine ⟨HL2.out.1.next hext (by rw [hwC]; exact hcB.allocV _) (by have := HR.out; omega), (hext.block NA (Array.getElem?_eq_some_iff.1 HL2.out.2).1 (by omega)).trans HL2.out.2, ?_⟩
        rw [hwC, hNB]; exact heap_alloc_new w3 _
      have HB : Hid ((Vt.mk oA nA mA kA).InP (R + 1) wC (.slice pA mA cA) ∧ (Vt.mk oB nB mB kB).InP (R + 1) wC (.slice pB mB cB) ∧ (Vt.mk oB nB mB kB).weight ≤ Wd d) := by
        have hr := (Array.getElem?_eq_some_iff.1 HL2.out.1.blk).1
        refine ⟨HA.out.1.ext hext (by have := HR.out; omega), ?_, hwBw⟩
        rw [hwC]
        exact (Vt.InP.mk' hnB (hdB.all.mono (by omega))).below (newb w3 _)
      have WC := hid_ofDV hwC
      have NE2 := hid_ofDV hNB
      clear hdB hwBw hcB hwC hNB hext
      go_upto_region 4 with fail
      rw [← WC.out, ← NE2.out]
      have a0 : wC.cell? ⟨NA, 0, none⟩ = some (.int .i64 oA) := cell_of_row wC _ 0 _ _ _ HL3.out.2.1
      have a1 : wC.cell? ⟨NA, 1, none⟩ = some (.int .i64 nA) := cell_of_row wC _ 1 _ _ _ HL3.out.2.1
      have a2 : wC.cell? ⟨NA, 2, none⟩ = some (.slice pA mA cA) := cell_of_row wC _ 2 _ _ _ HL3.out.2.1
      have d0 : wC.cell? ⟨NB, 0, none⟩ = some (.int .i64 oB) := cell_of_row wC _ 0 _ _ _ HL3.out.2.2
      have d1 : wC.cell? ⟨NB, 1, none⟩ = some (.int .i64 nB) := cell_of_row wC _ 1 _ _ _ HL3.out.2.2
      have d2 : wC.cell? ⟨NB, 2, none⟩ = some (.slice pB mB cB) := cell_of_row wC _ 2 _ _ _ HL3.out.2.2
      have hRl := (Array.getElem?_eq_some_iff.1 HL3.out.1.blk).1
      obtain ⟨r0, r1, r2, rf⟩ := HL3.out.1.cells
      obtain ⟨G, hG⟩ : ∃ G, G = wC.heap.size := ⟨_, rfl⟩
      have GE := hid_ofDV hG
      clear hG
      go_wp2_with fail
      rw [← GE.out]
      have hps : (put3 wC R (.int .i64 3) (.int .i64 0) (.slice (some ⟨G, 0, none⟩) 2 2)).heap.size = G := by rw [GE.out]; simp
      have hpe := put3_ext wC R (.int .i64 3) (.int .i64 0) (.slice (some ⟨G, 0, none⟩) 2 2)
      obtain ⟨wP, hwP⟩ : ∃ wP, wP = ((wC.setCell ⟨R, 0, none⟩ (.int .i64 3)).setCell ⟨R, 1, none⟩ (.int .i64 0)).setCell ⟨R, 2, none⟩ (.slice (some ⟨G, 0, none⟩) 2 2) := ⟨_, rfl⟩
      have q0 : wP.cell? ⟨R, 0, none⟩ = some (.int .i64 3) := by rw [hwP]; simp [go_sem, r0]
      have q1 : wP.cell? ⟨R, 1, none⟩ = some (.int .i64 0) := by rw [hwP]; simp [go_sem, r1]
      have q2 : wP.cell? ⟨R, 2, none⟩ = some (.slice (some ⟨G, 0, none⟩) 2 2) := by rw [hwP]; simp [go_sem, r2]
      unfold put3 at hps hpe
      rw [← hwP] at hps hpe ⊢
      have t0 := keeps (newb wP (.cells #[.int .i64 oA, .int .i64 nA, .slice pA mA cA, .int .i64 oB, .int .i64 nB, .slice pB mB cB] 26)) _ _ q0
      have t1 := keeps (newb wP (.cells #[.int .i64 oA, .int .i64 nA, .slice pA mA cA, .int .i64 oB, .int .i64 nB, .slice pB mB cB] 26)) _ _ q1
      have t2 := keeps (newb wP (.cells #[.int .i64 oA, .int .i64 nA, .slice pA mA cA, .int .i64 oB, .int .i64 nB, .slice pB mB cB] 26)) _ _ q2
      refine bodyPost_ret (v := .agg #[.int .i64 3, .int .i64 0, .slice (some ⟨G, 0, none⟩) 2 2]) (by rw [results_cell1 (p := 4) (ty := 26) (by kernel_rfl)]; simp [go_sem, t0, t1, t2]) rfl ?_
      refine ⟨⟨3, 0, 2, _, _, rfl, DV.pair (w3 := wC) (R := R) (G := G) HL3.out.1.ext HB.out.1 HB.out.2.1 (by have := HR.out; omega) hRl GE.out ?_ ?_ ?_ 3 0, ?_, by omega⟩, (HL3.out.1.cur.keep hpe (by have := HR.out; omega)).allocV _⟩
      · intro k hk hne
        exact (Below.heap_alloc _ _ _ (by have := GE.out; omega)).trans (hpe.block k hk hne)
      · rw [← hps]; exact heap_alloc_new wP _
      · exact ⟨hpe.os, hpe.tape, hpe.output, by have := hpe.size; simp; omega⟩
      · have h1 := HA.out.2
        have h2 := HB.out.2.2
        show 2 + sumTo (fun i => (if i = 0 then Vt.mk oA nA mA kA else Vt.mk oB nB mB kB).weight) 2 ≤ 2 + 2 * Wd d
        simp only [sumTo]
        simp
        omega
    | false =>
      go_wp2_with fail
      refine (l1Once_b c a len cap 4 (by omega) _ HL1.out.cur).mono ?_
      rintro e w5 ⟨⟨b5, rfl⟩, hx5, hc5⟩
      have HL5 : Hid (DL w w5 c a len cap R) := HL1.out.next hx5 hc5 (by have := HR.out; omega)
      clear hx5 hc5
      cases b5 with
      | true =>
        obtain ⟨r0, r1, r2, rf⟩ := HL5.out.cells
        go_wp2_with fail
        refine bodyPost_ret (v := .agg #[.int .i64 2, .int .i64 0, .slice none 0 0]) (by rw [results_cell1 (p := 4) (ty := 26) (by kernel_rfl)]; simp [go_sem, r0, r1, r2]) rfl ?_
        exact HL5.out.answer HR.out hlt 2 0 (by omega) _ _ _ rfl
      | false =>
        go_wp2_with fail
        refine (l1Once_b c a len cap 8 (by omega) _ HL5.out.cur).mono ?_
        rintro e w6 ⟨⟨b6, rfl⟩, hx6, hc6⟩
        have HL6 : Hid (DL w w6 c a len cap R) := HL5.out.next hx6 hc6 (by have := HR.out; omega)
        clear hx6 hc6
        cases b6 with
        | true =>
          obtain ⟨r0, r1, r2, rf⟩ := HL6.out.cells
          go_wp2_with fail
          refine bodyPost_ret (v := .agg #[.int .i64 4, .int .i64 0, .slice none 0 0]) (by rw [results_cell1 (p := 4) (ty := 26) (by kernel_rfl)]; simp [go_sem, r0, r1, r2]) rfl ?_
          exact HL6.out.answer HR.out hlt 4 0 (by omega) _ _ _ rfl
        | false =>
          have hc6l := HL6.out.cur.lt
          go_wp2_with fail
          refine (l1PickInt_any c a len cap _ [0, 7, -3] _ (HL6.out.cur.allocV _) (by omega) 3 rfl (by omega) (by omega) (intsAt_litV _ [0, 7, -3] _ _ rfl)).mono ?_
          rintro e w7 ⟨⟨z, hz, rfl⟩, hx7, hc7⟩
          have HL7 : Hid (DL w w7 c a len cap R) := HL6.out.next (((Ext.refl c w6).alloc _).trans hx7) hc7 (by have := HR.out; omega)
          have hz2 : -9223372036854775808 ≤ z ∧ z ≤ 9223372036854775807 := by
            simp only [List.mem_cons, List.not_mem_nil, or_false] at hz
            omega
          clear hx7 hc7 hz
          obtain ⟨r0, r1, r2, rf⟩ := HL7.out.cells
          go_wp2_with fail
          refine bodyPost_ret (v := .agg #[.int .i64 1, .int .i64 z, .slice none 0 0]) (by rw [results_cell1 (p := 4) (ty := 26) (by kernel_rfl)]; simp [go_sem, r0, r1, r2]) rfl ?_
          exact HL7.out.answer HR.out hlt 1 z hz2 _ _ _ rfl
end Go.Proofs.YtbofjjjjjcolgaaDoor
