/- spec.l11Draw, spec.DrawValueText and spec.DrawValueOk: a value is drawn. Condition: the code's bytes can be read. -/
import Derived.Test.YtbofjjjjjcolgaaDoorDrawVal2
import Derived.OwnWalk
import Derived.Laws.OwnMore
import Derived.Deep.AppendLies
import Derived.Maps.AppendAt
namespace Go.Proofs.YtbofjjjjjcolgaaDoor
open Go.ChangeShapes Go.WideShapes Go.ChangeAt Go.RowKit

theorem VlP.high {B : Nat} {w w' : World} {len : Nat} {kid : Nat → Vt} {v : Value} (h : VlP B w len kid v) (hs : ∀ x, B ≤ x → x < w.heap.size → w'.heap[x]? = w.heap[x]?) : VlP B w' len kid v :=
  VlP.kept (fun a u ha hu => (World.cell?_of_block (hs _ ha (World.block_lt_of_cell? w a hu))).trans hu) (fun b hb hP => by
    obtain ⟨cs, ty, hq⟩ := hP
    exact ⟨cs, ty, (hs b hb (Array.getElem?_eq_some_iff.1 hq).1).trans hq⟩) h

/-- What stands behind the first draw: the answer's block R, the value's block V. -/
structure DB (w wA w2 w3 : World) (c : Nat) (a : Option Addr) (len cap R V : Nat) (op n : Int) (m : Nat) (kid : Nat → Vt) (v : Value) : Prop where
  dv : DV wA w2 c (.mk op n m kid) v
  ext : Ext c w w3
  cur : CurAt c a len cap w3
  blkR : w3.heap[R]? = some (.cells #[.int .i64 0, .int .i64 0, .slice none 0 0] 26 (0, 0))
  blkV : w3.heap[V]? = some (.cells #[.int .i64 op, .int .i64 n, v] 26 (0, 0))
  same : ∀ k, k < w2.heap.size → k ≠ c → w3.heap[k]? = w2.heap[k]?
  hR : R = w.heap.size ∧ wA.heap.size = R + 1 ∧ V = w2.heap.size ∧ c < R
theorem DB.next {w wA w2 w3 w4 : World} {c : Nat} {a : Option Addr} {len cap R V : Nat} {op n : Int} {m : Nat} {kid : Nat → Vt} {v : Value} (h : DB w wA w2 w3 c a len cap R V op n m kid v) (he : Ext c w3 w4) (hc : CurAt c a len cap w4) : DB w wA w2 w4 c a len cap R V op n m kid v := by
  have h1 := h.hR
  have h2 := h.dv.1.size
  have hs : w2.heap.size ≤ w3.heap.size := by have := (Array.getElem?_eq_some_iff.1 h.blkV).1; omega
  exact ⟨h.dv, h.ext.trans he, hc, (he.block R (Array.getElem?_eq_some_iff.1 h.blkR).1 (by omega)).trans h.blkR, (he.block V (Array.getElem?_eq_some_iff.1 h.blkV).1 (by omega)).trans h.blkV, fun k hk hne => (he.block k (by omega) hne).trans (h.same k hk hne), h.hR⟩
theorem DB.cells {w wA w2 w3 : World} {c : Nat} {a : Option Addr} {len cap R V : Nat} {op n : Int} {m : Nat} {kid : Nat → Vt} {v : Value} (h : DB w wA w2 w3 c a len cap R V op n m kid v) :
    (w3.cell? ⟨R, 0, none⟩ = some (.int .i64 0) ∧ w3.cell? ⟨R, 1, none⟩ = some (.int .i64 0) ∧ w3.cell? ⟨R, 2, none⟩ = some (.slice none 0 0) ∧ ∀ j, w3.frozen? ⟨R, j, none⟩ = false) ∧ (w3.cell? ⟨V, 0, none⟩ = some (.int .i64 op) ∧ w3.cell? ⟨V, 1, none⟩ = some (.int .i64 n) ∧ w3.cell? ⟨V, 2, none⟩ = some v ∧ ∀ j, w3.frozen? ⟨V, j, none⟩ = false) :=
  ⟨⟨cell_of_row w3 _ 0 _ _ _ h.blkR, cell_of_row w3 _ 1 _ _ _ h.blkR, cell_of_row w3 _ 2 _ _ _ h.blkR, fun j => frozen_of_row w3 _ j _ _ h.blkR⟩, cell_of_row w3 _ 0 _ _ _ h.blkV, cell_of_row w3 _ 1 _ _ _ h.blkV, cell_of_row w3 _ 2 _ _ _ h.blkV, fun j => frozen_of_row w3 _ j _ _ h.blkV⟩
theorem valp_infoD : (Tryd.prog.info? 26).map (fun i => (i.zero, i.size, i.bytes)) = some (some (.agg #[.int .i64 0, .int .i64 0, .slice none 0 0]), 3, 40) := by kernel_rfl
/-- What is drawn. -/
def DGot (w w' : World) (c : Nat) (a : Option Addr) (len cap : Nat) (e : Ending) : Prop := (∃ (t : Vt) (v : Value), e = .returned (.agg #[.int .i64 t.op, .int .i64 t.n, v]) ∧ t.InP w.heap.size w' v ∧ t.weight ≤ 100) ∧ Ext c w w' ∧ CurAt c a len cap w'
/-- Behind stores into R and V alone. -/
theorem DB.got {w wA w2 w3 w4 w5 : World} {c : Nat} {a : Option Addr} {len cap R V : Nat} {op n : Int} {m : Nat} {kid : Nat → Vt} {v : Value} (h : DB w wA w2 w3 c a len cap R V op n m kid v) (hw : (Vt.mk op n m kid).weight ≤ Wd 3) (h4 : Ext V w3 w4) (h5 : Ext R w4 w5) (op' n' : Int) (hn : -9223372036854775808 ≤ n' ∧ n' ≤ 9223372036854775807) {e : Ending} (he : e = .returned (.agg #[.int .i64 op', .int .i64 n', v])) : DGot w w5 c a len cap e := by
  have h1 := h.hR
  have h2 := h.dv.1.size
  have hs : w2.heap.size ≤ w3.heap.size := by have := (Array.getElem?_eq_some_iff.1 h.blkV).1; omega
  refine ⟨⟨.mk op' n' m kid, v, he, Vt.InP.mk' hn ((h.dv.all.high (fun k k1 k2 => ?_)).mono (by omega)), ?_⟩, (h.ext.over h4 (by omega)).over h5 (by omega), (h.cur.keep h4 (by omega)).keep h5 (by omega)⟩
  · exact (h5.block k (by have := h4.size; omega) (by omega)).trans ((h4.block k (by omega) (by omega)).trans (h.same k k2 (by omega)))
  · have : (Vt.mk op' n' m kid).weight = (Vt.mk op n m kid).weight := rfl
    have h9 : Wd 3 = 14 := rfl
    omega

/-- The row of what was drawn, and what is beside it. -/
theorem DB.row {w wA w2 w3 : World} {c : Nat} {a : Option Addr} {len cap R V : Nat} {op n : Int} {m : Nat} {kid : Nat → Vt} {v : Value} (h : DB w wA w2 w3 c a len cap R V op n m kid v) : ∃ l : List (Vt × Value), w3.ownsRow wA.heap.size 26 3 v m (vrows l) ∧ l.length = m ∧ VKs kid l ∧
    (∀ w'' : World, (∀ k, wA.heap.size ≤ k → k < w2.heap.size → v.ownBlock ≠ some k → w''.heap[k]? = w3.heap[k]?) → ∀ q ∈ l, q.1.InP wA.heap.size w'' q.2) ∧ ∀ g, v.ownBlock = some g → wA.heap.size ≤ g ∧ g < w2.heap.size := by
  obtain ⟨h1, l, h2, h3, h4, h5⟩ := h.dv
  have hr := h.hR
  have hg : ∀ g, v.ownBlock = some g → wA.heap.size ≤ g ∧ g < w2.heap.size := by
    intro g e
    rcases h2.2 with ⟨e2, _⟩ | ⟨g', cap', cur, e2, hbg, hgg, _⟩
    · rw [e2] at e; cases e
    · rw [e2] at e
      simp only [Value.ownBlock, Option.some.injEq] at e
      subst e
      exact ⟨hbg, (Array.getElem?_eq_some_iff.1 hgg).1⟩
  refine ⟨l, ⟨h2.1, ?_⟩, h3, h4, fun wq hq => h5 wq (fun k k1 k2 k3 => (hq k k1 k2 k3).trans (h.same k k2 (by omega))), hg⟩
  rcases h2.2 with hn | ⟨g', cap', cur, e2, hbg, hgg, rest⟩
  · exact .inl hn
  · exact .inr ⟨g', cap', cur, e2, hbg, (h.same g' (Array.getElem?_eq_some_iff.1 hgg).1 (by omega)).trans hgg, rest⟩
theorem own_other {w w' : World} {base e size n : Nat} {v : Value} {xs : List Value} (h : w.ownsRow base e size v n xs) (hs : ∀ g, v.ownBlock = some g → w'.heap[g]? = w.heap[g]?) : w'.ownsRow base e size v n xs := by
  refine ⟨h.1, ?_⟩
  rcases h.2 with hn | ⟨g, cap, cur, e1, hbg, hgg, rest⟩
  · exact .inl hn
  · exact .inr ⟨g, cap, cur, e1, hbg, (hs g (by rw [e1]; rfl)).trans hgg, rest⟩
/-- One kid more. -/
def moreV (m : Nat) (kid : Nat → Vt) : Nat → Vt := fun i => if i = m then .mk 2 0 0 (fun _ => .no) else kid i
theorem moreV_ks {m : Nat} {kid : Nat → Vt} {l : List (Vt × Value)} (h : VKs kid l) (hl : l.length = m) (u : Value) : VKs (moreV m kid) (l ++ [(.mk 2 0 0 (fun _ => .no), u)]) := by
  intro i q hq
  rcases Nat.lt_trichotomy i l.length with hi | hi | hi
  · rw [List.getElem?_append_left hi] at hq
    rw [h i q hq]
    unfold moreV
    rw [if_neg (by omega)]
  · subst hi
    simp at hq
    subst hq
    unfold moreV
    rw [if_pos hl]
  · rw [List.getElem?_eq_none (by simp; omega)] at hq; cases hq
theorem moreV_weight (op n : Int) (m : Nat) (kid : Nat → Vt) : (Vt.mk op n (m + 1) (moreV m kid)).weight = (Vt.mk op n m kid).weight + 1 := by
  have key : ∀ k, k ≤ m → sumTo (fun i => (moreV m kid i).weight) k = sumTo (fun i => (kid i).weight) k := by
    intro k
    induction k with
    | zero => intro _; rfl
    | succ k ih =>
      intro hk
      simp only [sumTo]
      rw [ih (by omega)]
      unfold moreV
      rw [if_neg (by omega)]
  have h1 := key m (Nat.le_refl _)
  show (m + 1) + sumTo (fun i => (moreV m kid i).weight) (m + 1) = m + sumTo (fun i => (kid i).weight) m + 1
  simp only [sumTo]
  rw [h1]
  have h2 : (moreV m kid m).weight = 0 := by unfold moreV; rw [if_pos rfl]; rfl
  omega
theorem DB.more {w wA w2 w3 w31 w6 w7 w8 : World} {c : Nat} {a : Option Addr} {len cap R V : Nat} {op n : Int} {m : Nat} {kid : Nat → Vt} {v v6 : Value} (h : DB w wA w2 w3 c a len cap R V op n m kid v) (hw : (Vt.mk op n m kid).weight ≤ Wd 3) (hn : -9223372036854775808 ≤ n ∧ n ≤ 9223372036854775807)
    {l : List (Vt × Value)} (hl : l.length = m) (hks : VKs kid l) (hfr : ∀ w'' : World, (∀ k, wA.heap.size ≤ k → k < w2.heap.size → v.ownBlock ≠ some k → w''.heap[k]? = w3.heap[k]?) → ∀ q ∈ l, q.1.InP wA.heap.size w'' q.2) (hg : ∀ g, v.ownBlock = some g → wA.heap.size ≤ g ∧ g < w2.heap.size)
    (hb : Below w3.heap.size w3 w31) (hs31 : w3.heap.size < w31.heap.size) (h6 : w6.ownsRow wA.heap.size 26 3 v6 (m + 1) (vrows l ++ [.int .i64 2, .int .i64 0, .slice none 0 0])) (hgr : w31.grownBy w6 v.ownBlock) (hloc : v6.ownBlock = v.ownBlock ∨ v6.ownBlock = some w31.heap.size)
    (h7 : Ext V w6 w7) (h8 : Ext R w7 w8) {e : Ending} (he : e = .returned (.agg #[.int .i64 op, .int .i64 n, v6])) : DGot w w8 c a len cap e := by
  have hr := h.hR
  have hd := h.dv.1.size
  have hV3 : V < w3.heap.size := (Array.getElem?_eq_some_iff.1 h.blkV).1
  have b6 : ∀ k, k < w3.heap.size → v.ownBlock ≠ some k → w6.heap[k]? = w3.heap[k]? := fun k k1 k2 => (hgr.block k (by have := hb.size; omega) (fun q => k2 q.symm)).trans (hb.block k k1)
  have s6 : w3.heap.size ≤ w6.heap.size := Nat.le_trans hb.size hgr.size
  have e36 : Ext c w w6 := ⟨hgr.os.trans (hb.os.trans h.ext.os), hgr.tape.trans (hb.tape.trans h.ext.tape), hgr.output.trans (hb.output.trans h.ext.output), Nat.le_trans h.ext.size s6, fun k k1 k2 => (b6 k (by have := h.ext.size; omega) (fun q => by have := hg k q; omega)).trans (h.ext.block k k1 k2)⟩
  obtain ⟨d, hd1, hd2⟩ : ∃ d, c < d ∧ ∀ k, k ≠ d → v.ownBlock ≠ some k := by
    cases hv : v.ownBlock with
    | none => exact ⟨c + 1, by omega, fun k _ q => by cases q⟩
    | some g => exact ⟨g, by have := hg g hv; omega, fun k k1 q => by injection q with q; exact k1 q.symm⟩
  have c6 : CurAt c a len cap w6 := h.cur.keep (d := d) ⟨hgr.os.trans hb.os, hgr.tape.trans hb.tape, hgr.output.trans hb.output, s6, fun k k1 k2 => b6 k k1 (hd2 k k2)⟩ hd1
  · have hgv : ∀ g, v6.ownBlock = some g → g ≠ V ∧ g ≠ R ∧ g < w6.heap.size := by
      intro g q
      have hlt : g < w6.heap.size := by
        rcases h6.2 with ⟨e2, _⟩ | ⟨g', cap', cur, e2, hbg, hgg, _⟩
        · rw [e2] at q; cases q
        · rw [e2] at q
          simp only [Value.ownBlock, Option.some.injEq] at q
          subst q
          exact (Array.getElem?_eq_some_iff.1 hgg).1
      rcases hloc with h0 | h0
      · rw [h0] at q
        have := hg g q
        exact ⟨by omega, by omega, hlt⟩
      · rw [h0] at q
        injection q with q
        exact ⟨by omega, by omega, hlt⟩
    have h68 : ∀ k, k < w6.heap.size → k ≠ V → k ≠ R → w8.heap[k]? = w6.heap[k]? := fun k k1 k2 k3 => (h8.block k (by have := h7.size; omega) k3).trans (h7.block k k1 k2)
    have hrow8 : w8.ownsRow wA.heap.size 26 3 v6 (m + 1) (vrows (l ++ [(.mk 2 0 0 (fun _ => .no), .slice none 0 0)])) := by
      rw [vrows_append]
      exact own_other h6 (fun g q => h68 g (hgv g q).2.2 (hgv g q).1 (hgv g q).2.1)
    have hkid : ∀ q ∈ l ++ [((.mk 2 0 0 (fun _ => .no) : Vt), (.slice none 0 0 : Value))], q.1.InP wA.heap.size w8 q.2 := by
      intro q hq
      rcases List.mem_append.1 hq with hq | hq
      · exact hfr w8 (fun k k1 k2 k3 => (h68 k (by omega) (by omega) (by omega)).trans (b6 k (by omega) k3)) q hq
      · simp only [List.mem_singleton] at hq
        subst hq
        exact Vt.InP.mk' (by omega) (.inl ⟨rfl, _, _, rfl⟩)
    refine ⟨⟨.mk op n (m + 1) (moreV m kid), v6, he, Vt.InP.mk' hn ((VlP.of_own hrow8 (by rw [List.length_append]; simp; omega) (Nat.le_refl _) (moreV_ks hks hl _) hkid).mono (by omega)), ?_⟩, (e36.over h7 (by omega)).over h8 (by omega), (c6.keep h7 (by omega)).keep h8 (by omega)⟩
    rw [moreV_weight]
    have h9 : Wd 3 = 14 := rfl
    omega

set_option maxRecDepth 100000 in
set_option maxHeartbeats 4000000 in
theorem draw_l11 (c : Nat) (a : Option Addr) (len cap : Nat) (w : World) (hc : CurAt c a len cap w) :
    Calls Tryd.prog 11 #[.pointer (some ⟨c, 0, none⟩)] w fun e w' => DGot w w' c a len cap e := by
  have hlt := hc.lt
  obtain ⟨R, hR⟩ : ∃ R, R = w.heap.size := ⟨_, rfl⟩
  obtain ⟨wA, hwA⟩ : ∃ wA, wA = w.alloc (.cells #[.int .i64 0, .int .i64 0, .slice none 0 0] 26) := ⟨_, rfl⟩
  have HL : Hid (DL w wA c a len cap R ∧ wA.heap.size = R + 1) := by
    rw [hwA, hR]
    exact ⟨⟨(Ext.refl c w).alloc _, hc.allocV _, heap_alloc_new w _⟩, by simp⟩
  have HR := hid_ofDV hR
  have WE := hid_ofDV hwA
  clear hc hR hwA
  go_enter Tryd.func11, Tryd.ntmps11
  go_wp2_with fail
  rw [← WE.out, ← HR.out]
  refine (draw_value 3 (by omega) c a len cap wA HL.out.1.cur).mono ?_
  rintro e w2 ⟨⟨op, n, m, kid, v, rfl, hd, hwt, hn⟩, hc2⟩
  obtain ⟨pv, cv, ev⟩ := hd.all.shape
  simp only [Vt.len] at ev
  subst ev
  obtain ⟨wB, hwB⟩ : ∃ wB, wB = w2.alloc (.cells #[.int .i64 op, .int .i64 n, .slice pv m cv] 26) := ⟨_, rfl⟩
  obtain ⟨V, hV⟩ : ∃ V, V = w2.heap.size := ⟨_, rfl⟩
  have HB : Hid (DB w wA w2 wB c a len cap R V op n m kid (.slice pv m cv)) := by
    have hn2 := HL.out.1.next (hd.1.trans ((Ext.refl c w2).alloc (.cells #[.int .i64 op, .int .i64 n, .slice pv m cv] 26))) (hc2.allocV _) (by have := HR.out; omega)
    rw [hwB, hV]
    exact ⟨hd, hn2.ext, hn2.cur, hn2.blk, heap_alloc_new w2 _, fun k hk _ => Below.heap_alloc _ _ _ hk, HR.out, HL.out.2, rfl, by have := HR.out; omega⟩
  have HW : Hid ((Vt.mk op n m kid).weight ≤ Wd 3) := hwt
  have WB := hid_ofDV hwB
  have VE := hid_ofDV hV
  clear hd hwt hc2 hwB hV HL
  go_upto_region 2 with fail
  rw [← WB.out, ← VE.out]
  go_wp2_with fail
  refine (l1Below_any c a len cap 8 (by omega) _ HB.out.cur).mono ?_
  rintro e w3 ⟨⟨x, x0, _, x1, rfl⟩, hx3, hc3⟩
  have HB3 := hid_ofDV (HB.out.next hx3 hc3)
  clear hx3 hc3 x1 HB
  have hRV : R ≠ V := by have h1 := HB3.out.hR; have h2 := HB3.out.dv.1.size; omega
  by_cases e0 : x = 0
  · subst e0
    go_wp2_with fail
    refine (l1Below_any c a len cap 7 (by omega) _ HB3.out.cur).mono ?_
    rintro e w4 ⟨⟨y, y0, _, y1, rfl⟩, hx4, hc4⟩
    have hy := y1 (by omega)
    have HB4 := hid_ofDV (HB3.out.next hx4 hc4)
    clear hx4 hc4 y1
    obtain ⟨⟨r0, r1, r2, rf⟩, ⟨v0, v1, v2, vf⟩⟩ := HB4.out.cells
    go_wp2_with fail
    refine bodyPost_ret (v := .agg #[.int .i64 (y - 1), .int .i64 n, .slice pv m cv]) (by rw [results_cell1 (p := 2) (ty := 26) (by kernel_rfl)]; simp [go_sem, r0, r1, r2]) rfl ?_
    exact HB4.out.got HW.out ((Ext.refl V w4).set 0 _) (put3_ext _ R _ _ _) (y - 1) n hn rfl
  have g0 : (x == 0) = false := by simpa using e0
  by_cases e1 : x = 1
  · subst e1
    have hc3l := HB3.out.cur.lt
    go_wp2_with fail
    refine (l1PickInt_any c a len cap _ [1, 1073741824] _ (HB3.out.cur.allocV _) (by omega) 2 rfl (by omega) (by omega) (intsAt_litV _ [1, 1073741824] _ _ rfl)).mono ?_
    rintro e w4 ⟨⟨z, hz, rfl⟩, hx4, hc4⟩
    have hz2 : -9223372036854775808 ≤ z ∧ z ≤ 9223372036854775807 := by
      simp only [List.mem_cons, List.not_mem_nil, or_false] at hz
      omega
    have HB4 := hid_ofDV (HB3.out.next (((Ext.refl c w3).alloc _).trans hx4) hc4)
    clear hx4 hc4 hz
    obtain ⟨⟨r0, r1, r2, rf⟩, ⟨v0, v1, v2, vf⟩⟩ := HB4.out.cells
    go_wp2_with fail
    refine bodyPost_ret (v := .agg #[.int .i64 op, .int .i64 z, .slice pv m cv]) (by rw [results_cell1 (p := 2) (ty := 26) (by kernel_rfl)]; simp [go_sem, r0, r1, r2]) rfl ?_
    exact HB4.out.got HW.out ((Ext.refl V w4).set 1 _) (put3_ext _ R _ _ _) op z hz2 rfl
  have g1 : (x == 1) = false := by simpa using e1
  by_cases e2 : x = 2
  · subst e2
    obtain ⟨l, hrow, hl, hks, hfr, hg⟩ := HB3.out.row
    have HRW := hid_ofDV hrow
    have HFF : Hid (VKs kid l ∧ (∀ w'' : World, (∀ k, wA.heap.size ≤ k → k < w2.heap.size → (Value.slice pv m cv).ownBlock ≠ some k → w''.heap[k]? = w3.heap[k]?) → ∀ q ∈ l, q.1.InP wA.heap.size w'' q.2) ∧ ∀ g, (Value.slice pv m cv).ownBlock = some g → wA.heap.size ≤ g ∧ g < w2.heap.size) := ⟨hks, hfr, hg⟩
    have HLL := hid_ofDV hl
    have hmw : m ≤ 100 := by
      have h1 := HW.out
      have h2 : (Vt.mk op n m kid).weight = m + sumTo (fun i => (kid i).weight) m := rfl
      have h9 : Wd 3 = 14 := rfl
      omega
    have hV3 : V < w3.heap.size := (Array.getElem?_eq_some_iff.1 HB3.out.blkV).1
    have hA3 : wA.heap.size ≤ w3.heap.size := by have h1 := HB3.out.hR; have h2 := HB3.out.dv.1.size; omega
    obtain ⟨i0, hi, hz0, hz1, hz2⟩ := info_parts valp_infoD
    clear hrow hks hfr hg hl
    obtain ⟨⟨r0, r1, r2, rf⟩, ⟨v0, v1, v2, vf⟩⟩ := HB3.out.cells
    go_wp2_with (first
      | (at_builtin; refine wpList_append_own_at _ rfl _ _ 24 rfl wA.heap.size 26 i0 (.agg #[.int .i64 0, .int .i64 0, .slice none 0 0]) 3 40 Tryd.underlying24 hi hz0 hz1 hz2 rfl (by decide) _ _ _ rfl (HRW.out.alloc _) ⟨w3.heap.size, 0, none⟩ 1 1 [.int .i64 2, .int .i64 0, .slice none 0 0] rfl rfl ?c1 ?c2 ?c3 ?c4 ?c5 ?_)
      | go_in)
    case c1 => exact World.news_of_block (cs := #[.int .i64 2, .int .i64 0, .slice none 0 0]) (t := 26) (fr := (0, 0)) (heap_alloc_new w3 _)
    case c2 => intro q hq; simp only [List.mem_cons, List.not_mem_nil, or_false] at hq; rcases hq with rfl | rfl | rfl <;> rfl
    case c3 => unfold maxLen; omega
    case c4 => omega
    case c5 => simp; omega
    intro v6 w6 hown6 hgrow6 _ hloc6
    obtain ⟨p6, c6, e6⟩ : ∃ p6 c6, v6 = .slice p6 (m + 1 : Nat) c6 := by
      rcases hown6.2 with ⟨_, h0⟩ | ⟨g, cp, cur, q, _⟩
      · omega
      · exact ⟨_, _, q⟩
    have hb31 := newb w3 (.cells #[.int .i64 2, .int .i64 0, .slice none 0 0] 26)
    have hk6 : ∀ k, k < w3.heap.size → (Value.slice pv m cv).ownBlock ≠ some k → w6.heap[k]? = w3.heap[k]? := fun k k1 k2 => (hgrow6.block k (by have := hb31.size; omega) (fun q => k2 q.symm)).trans (hb31.block k k1)
    have hnR : (Value.slice pv m cv).ownBlock ≠ some R := fun q => by have h1 := HFF.out.2.2 R q; have h2 := HB3.out.hR; omega
    have hnV : (Value.slice pv m cv).ownBlock ≠ some V := fun q => by have h1 := HFF.out.2.2 V q; have h2 := HB3.out.hR; omega
    have bR := (hk6 R (Array.getElem?_eq_some_iff.1 HB3.out.blkR).1 hnR).trans HB3.out.blkR
    have bV := (hk6 V hV3 hnV).trans HB3.out.blkV
    have s0 : w6.cell? ⟨R, 0, none⟩ = some (.int .i64 0) := cell_of_row w6 _ 0 _ _ _ bR
    have s1 : w6.cell? ⟨R, 1, none⟩ = some (.int .i64 0) := cell_of_row w6 _ 1 _ _ _ bR
    have s2 : w6.cell? ⟨R, 2, none⟩ = some (.slice none 0 0) := cell_of_row w6 _ 2 _ _ _ bR
    have sf : ∀ j, w6.frozen? ⟨R, j, none⟩ = false := fun j => frozen_of_row w6 _ j _ _ bR
    have t0 : w6.cell? ⟨V, 0, none⟩ = some (.int .i64 op) := cell_of_row w6 _ 0 _ _ _ bV
    have t1 : w6.cell? ⟨V, 1, none⟩ = some (.int .i64 n) := cell_of_row w6 _ 1 _ _ _ bV
    have t2 : w6.cell? ⟨V, 2, none⟩ = some (.slice pv m cv) := cell_of_row w6 _ 2 _ _ _ bV
    have tf : ∀ j, w6.frozen? ⟨V, j, none⟩ = false := fun j => frozen_of_row w6 _ j _ _ bV
    have HM : Hid (∀ w7 w8 : World, Ext V w6 w7 → Ext R w7 w8 → DGot w w8 c a len cap (.returned (.agg #[.int .i64 op, .int .i64 n, v6]))) := fun w7 w8 h7 h8 => HB3.out.more HW.out hn HLL.out HFF.out.1 HFF.out.2.1 HFF.out.2.2 hb31 (by simp) hown6 hgrow6 (by rw [World.size_alloc]; exact hloc6) h7 h8 rfl
    clear hown6 hgrow6 hloc6 hb31 hk6 bR bV r0 r1 r2 rf v0 v1 v2 vf
    subst e6
    go_wp2_with fail
    refine bodyPost_ret (v := .agg #[.int .i64 op, .int .i64 n, .slice p6 (m + 1 : Nat) c6]) (by rw [results_cell1 (p := 2) (ty := 26) (by kernel_rfl)]; simp [go_sem, s0, s1, s2]) rfl ?_
    exact HM.out _ _ ((Ext.refl V w6).set 2 _) (put3_ext _ R _ _ _)
  have g2 : (x == 2) = false := by simpa using e2
  obtain ⟨⟨r0, r1, r2, rf⟩, ⟨v0, v1, v2, vf⟩⟩ := HB3.out.cells
  go_wp2_with fail
  refine bodyPost_ret (v := .agg #[.int .i64 op, .int .i64 n, .slice pv m cv]) (by rw [results_cell1 (p := 2) (ty := 26) (by kernel_rfl)]; simp [go_sem, r0, r1, r2]) rfl ?_
  exact HB3.out.got HW.out (Ext.refl V w3) (put3_ext _ R _ _ _) op n hn rfl

/-- What a draw with a code answers. -/
def VGot (w w' : World) (e : Ending) : Prop := (∃ (t : Vt) (v : Value), e = .returned (.agg #[.int .i64 t.op, .int .i64 t.n, v]) ∧ t.InP w.heap.size w' v ∧ t.weight ≤ 100) ∧ Below w.heap.size w w'

set_option maxRecDepth 100000 in
set_option maxHeartbeats 2000000 in
theorem drawValueText_any (a : Option Addr) (len cap : Nat) (w : World) (hc : CodeOk a len w.heap.size w) :
    Calls Tryd.prog 5 #[.slice a len cap] w fun e w' => VGot w w' e := by
  obtain ⟨R, hR⟩ : ∃ R, R = w.heap.size := ⟨_, rfl⟩
  obtain ⟨wA, hwA⟩ : ∃ wA, wA = w.alloc (.cells #[.int .i64 0, .int .i64 0, .slice none 0 0] 26) := ⟨_, rfl⟩
  have HL : Hid (CodeOk a len wA.heap.size wA ∧ wA.heap[R]? = some (.cells #[.int .i64 0, .int .i64 0, .slice none 0 0] 26 (0, 0)) ∧ Below w.heap.size w wA ∧ wA.heap.size = R + 1) := by
    rw [hwA, hR]
    refine ⟨?_, heap_alloc_new w _, newb w _, by simp⟩
    obtain ⟨h1, h2⟩ := hc.keep (w' := w.alloc (.cells #[.int .i64 0, .int .i64 0, .slice none 0 0] 26)) (fun k hk _ => Below.heap_alloc _ _ _ hk)
    refine ⟨h1, ?_⟩
    rcases h2 with h2 | ⟨b, off, e, hb, hz⟩
    · exact .inl h2
    · exact .inr ⟨b, off, e, by simp; omega, hz⟩
  have HR := hid_ofDV hR
  have WE := hid_ofDV hwA
  clear hc hR hwA
  go_enter Tryd.func5, Tryd.ntmps5
  go_wp2_with fail
  rw [← WE.out, ← HR.out]
  refine (l1New_any a len cap wA HL.out.1).mono ?_
  rintro e w1 ⟨rfl, hb1, hc1, hs1⟩
  have HC1 : Hid (CurAt wA.heap.size a len cap w1 ∧ w1.heap[R]? = some (.cells #[.int .i64 0, .int .i64 0, .slice none 0 0] 26 (0, 0)) ∧ Below w.heap.size w w1 ∧ w1.heap.size = wA.heap.size + 1) := ⟨hc1, (hb1.block R (Array.getElem?_eq_some_iff.1 HL.out.2.1).1).trans HL.out.2.1, HL.out.2.2.1.trans (hb1.mono HL.out.2.2.1.size), hs1⟩
  clear hb1 hc1 hs1
  obtain ⟨C, hC⟩ : ∃ C, C = wA.heap.size := ⟨_, rfl⟩
  rw [← hC] at HC1 ⊢
  have CE := hid_ofDV hC
  clear hC
  go_wp2_with fail
  refine (draw_l11 C a len cap w1 HC1.out.1).mono ?_
  rintro e w2 ⟨⟨t, v, rfl, hin, hwt⟩, hx, _⟩
  obtain ⟨pv, cv, ev⟩ := hin.sl.shape
  subst ev
  have bR := (hx.block R (Array.getElem?_eq_some_iff.1 HC1.out.2.1).1 (by have h1 := CE.out; have h2 := HL.out.2.2.2; omega)).trans HC1.out.2.1
  have r0 : w2.cell? ⟨R, 0, none⟩ = some (.int .i64 0) := cell_of_row w2 _ 0 _ _ _ bR
  have r1 : w2.cell? ⟨R, 1, none⟩ = some (.int .i64 0) := cell_of_row w2 _ 1 _ _ _ bR
  have r2 : w2.cell? ⟨R, 2, none⟩ = some (.slice none 0 0) := cell_of_row w2 _ 2 _ _ _ bR
  have rf : ∀ j, w2.frozen? ⟨R, j, none⟩ = false := fun j => frozen_of_row w2 _ j _ _ bR
  have HF : Hid (∀ w3, Ext R w2 w3 → VGot w w3 (.returned (.agg #[.int .i64 t.op, .int .i64 t.n, .slice pv t.len cv]))) := by
    intro w3 h3
    have h1 := CE.out
    have h2 := HL.out.2.2.2
    have h4 := HC1.out.2.2.2
    have h5 := HR.out
    refine ⟨⟨t, _, rfl, (hin.ext h3 (by omega)).mono (by omega), hwt⟩, ?_⟩
    have hb := HC1.out.2.2.1
    exact ⟨h3.os.trans (hx.os.trans hb.os), h3.tape.trans (hx.tape.trans hb.tape), h3.output.trans (hx.output.trans hb.output), Nat.le_trans hb.size (Nat.le_trans hx.size h3.size), fun k hk => (h3.block k (by have := hb.size; have := hx.size; omega) (by omega)).trans ((hx.block k (by have := hb.size; omega) (by omega)).trans (hb.block k hk))⟩
  clear hin hx hwt bR
  go_wp2_with fail
  refine bodyPost_ret (v := .agg #[.int .i64 t.op, .int .i64 t.n, .slice pv t.len cv]) (by rw [results_cell1 (p := 2) (ty := 26) (by kernel_rfl)]; simp [go_sem, r0, r1, r2]) rfl ?_
  exact HF.out _ (put3_ext _ R _ _ _)

set_option maxRecDepth 100000 in
set_option maxHeartbeats 2000000 in
theorem drawValueOk_any (a : Option Addr) (len cap : Nat) (w : World) (hc : CodeOk a len w.heap.size w) :
    Calls Tryd.prog 6 #[.slice a len cap] w fun e w' => VGot w w' e := by
  obtain ⟨R, hR⟩ : ∃ R, R = w.heap.size := ⟨_, rfl⟩
  obtain ⟨wA, hwA⟩ : ∃ wA, wA = w.alloc (.cells #[.int .i64 0, .int .i64 0, .slice none 0 0] 26) := ⟨_, rfl⟩
  have HL : Hid (CodeOk a len wA.heap.size wA ∧ wA.heap[R]? = some (.cells #[.int .i64 0, .int .i64 0, .slice none 0 0] 26 (0, 0)) ∧ Below w.heap.size w wA ∧ wA.heap.size = R + 1) := by
    rw [hwA, hR]
    refine ⟨?_, heap_alloc_new w _, newb w _, by simp⟩
    obtain ⟨h1, h2⟩ := hc.keep (w' := w.alloc (.cells #[.int .i64 0, .int .i64 0, .slice none 0 0] 26)) (fun k hk _ => Below.heap_alloc _ _ _ hk)
    refine ⟨h1, ?_⟩
    rcases h2 with h2 | ⟨b, off, e, hb, hz⟩
    · exact .inl h2
    · exact .inr ⟨b, off, e, by simp; omega, hz⟩
  have HR := hid_ofDV hR
  have WE := hid_ofDV hwA
  clear hc hR hwA
  go_enter Tryd.func6, Tryd.ntmps6
  go_wp2_with fail
  rw [← WE.out, ← HR.out]
  refine (l1New_any a len cap wA HL.out.1).mono ?_
  rintro e w1 ⟨rfl, hb1, hc1, hs1⟩
  have HC1 : Hid (CurAt wA.heap.size a len cap w1 ∧ w1.heap[R]? = some (.cells #[.int .i64 0, .int .i64 0, .slice none 0 0] 26 (0, 0)) ∧ Below w.heap.size w w1 ∧ w1.heap.size = wA.heap.size + 1) := ⟨hc1, (hb1.block R (Array.getElem?_eq_some_iff.1 HL.out.2.1).1).trans HL.out.2.1, HL.out.2.2.1.trans (hb1.mono HL.out.2.2.1.size), hs1⟩
  clear hb1 hc1 hs1
  obtain ⟨C, hC⟩ : ∃ C, C = wA.heap.size := ⟨_, rfl⟩
  rw [← hC] at HC1 ⊢
  have CE := hid_ofDV hC
  clear hC
  go_wp2_with fail
  refine (draw_l11 C a len cap w1 HC1.out.1).mono ?_
  rintro e w2 ⟨⟨t, v, rfl, hin, hwt⟩, hx, _⟩
  obtain ⟨pv, cv, ev⟩ := hin.sl.shape
  subst ev
  have bR := (hx.block R (Array.getElem?_eq_some_iff.1 HC1.out.2.1).1 (by have h1 := CE.out; have h2 := HL.out.2.2.2; omega)).trans HC1.out.2.1
  have r0 : w2.cell? ⟨R, 0, none⟩ = some (.int .i64 0) := cell_of_row w2 _ 0 _ _ _ bR
  have r1 : w2.cell? ⟨R, 1, none⟩ = some (.int .i64 0) := cell_of_row w2 _ 1 _ _ _ bR
  have r2 : w2.cell? ⟨R, 2, none⟩ = some (.slice none 0 0) := cell_of_row w2 _ 2 _ _ _ bR
  have rf : ∀ j, w2.frozen? ⟨R, j, none⟩ = false := fun j => frozen_of_row w2 _ j _ _ bR
  have HF : Hid (∀ w3, Ext R w2 w3 → VGot w w3 (.returned (.agg #[.int .i64 t.op, .int .i64 t.n, .slice pv t.len cv]))) := by
    intro w3 h3
    have h1 := CE.out
    have h2 := HL.out.2.2.2
    have h4 := HC1.out.2.2.2
    have h5 := HR.out
    refine ⟨⟨t, _, rfl, (hin.ext h3 (by omega)).mono (by omega), hwt⟩, ?_⟩
    have hb := HC1.out.2.2.1
    exact ⟨h3.os.trans (hx.os.trans hb.os), h3.tape.trans (hx.tape.trans hb.tape), h3.output.trans (hx.output.trans hb.output), Nat.le_trans hb.size (Nat.le_trans hx.size h3.size), fun k hk => (h3.block k (by have := hb.size; have := hx.size; omega) (by omega)).trans ((hx.block k (by have := hb.size; omega) (by omega)).trans (hb.block k hk))⟩
  clear hin hx hwt bR
  go_wp2_with fail
  refine bodyPost_ret (v := .agg #[.int .i64 t.op, .int .i64 t.n, .slice pv t.len cv]) (by rw [results_cell1 (p := 2) (ty := 26) (by kernel_rfl)]; simp [go_sem, r0, r1, r2]) rfl ?_
  exact HF.out _ (put3_ext _ R _ _ _)
end Go.Proofs.YtbofjjjjjcolgaaDoor
