/- impl.valueKidPiece, impl.valuePieces and impl.ValueText. Conditions: at most 2^20 in all; those of impl.Digits. -/
import Derived.Test.YtbofjjjjjcolgaaDoorValTold
import Derived.Test.YtbofjjjjjcolgaaDoorImplDigits
import Derived.Deep.RegionHeld3
namespace Go.Proofs.YtbofjjjjjcolgaaDoor
open Go.ChangeShapes Go.WideShapes Go.ChangeAt Go.RowKit

set_option maxRecDepth 100000 in
set_option maxHeartbeats 2000000 in
theorem kid_piece (op n : Int) (len cap i : Nat) (p : Option Addr) (kid : Nat → Vt) (V : Nat → Value) (b o : Nat) (hp : i < len → p = some ⟨b, o, none⟩) (w : World) :
    Calls Tryd.prog 28 #[.agg #[.int .i64 op, .int .i64 n, .slice p len cap], .int .i64 i] w fun e w' => e = .returned (.agg #[.string (kidPcV len kid V b o i).tx, .pointer (kidPcV len kid V b o i).adr]) ∧ Below w.heap.size w w' := by
  by_cases hlt : (i : Int) < len
  · have hlt' : i < len := by omega
    rw [kidPcV_yes hlt']
    obtain rfl := hp hlt'
    clear hp
    go_enter Tryd.func28, Tryd.ntmps28
    go_wp2_with fail
    refine bodyPost_ret (v := .agg #[.string ⟨#[]⟩, .pointer (some ⟨b, o + i * 3, none⟩)]) (by rw [results_cell1 (p := 4) (ty := 51) (by kernel_rfl)]; simp [go_sem]) rfl ⟨rfl, ?_⟩
    exact (newb w _).trans ((newb _ _).mono (by simp))
  · have hlt' : ¬ i < len := by omega
    rw [kidPcV_no hlt']
    clear hp
    go_enter Tryd.func28, Tryd.ntmps28
    go_wp2_with fail
    refine bodyPost_ret (v := .agg #[.string ⟨#[63]⟩, .pointer none]) (by rw [results_cell1 (p := 4) (ty := 51) (by kernel_rfl)]; simp [go_sem]) rfl ⟨rfl, ?_⟩
    exact (newb w _).trans ((newb _ _).mono (by simp))

set_option maxRecDepth 100000 in
set_option maxHeartbeats 2000000 in
theorem value_pieces (w : World) (ht : PowTab w) : PiecesAtV w := by
  intro w1 W t v hb0 hb1 hin hw
  obtain ⟨pv, cv, V, ev, hlen, hat⟩ := hin.sl.fn
  have hno : t ≠ .no := fun e => by subst e; exact hin.elim
  have hn := hin.num
  have HP : Hid (∀ W', Below W.heap.size W W' → PowTab W') := fun W' h => (ht.below (hb0.trans (hb1.mono hb0.size))).below h
  have HNB : Hid (∀ o, Below W.heap.size W (W.alloc o)) := fun o => newb W o
  by_cases c1 : t.op = 1
  · have HT : Hid (t.text = Lib.itoa t.n) := t.text_num c1
    rw [c1]
    clear hin hb0 hb1 ht hat
    subst ev
    go_enter Tryd.func14, Tryd.ntmps14
    go_wp2_with fail
    refine (impl_digits t.n hn.1 hn.2 _ (HP.out _ (HNB.out _))).mono ?_
    rintro e w2 ⟨rfl, hb2⟩
    have HB2 : Hid (Below W.heap.size W w2) := (HNB.out _).trans (hb2.mono (HNB.out _).size)
    clear hb2
    go_wp2_with fail
    go_ret
    refine ⟨w2.heap.size, 1, [PcV.of ⟨(Lib.itoa t.n).toArray⟩], rfl, own_new rfl rfl HB2.out.size rfl rfl (by unfold maxLen; omega), HB2.out.trans ((newb _ _).mono HB2.out.size), PcsOfV.one (by rw [HT.out])⟩
  by_cases c2 : t.op = 2
  · have HT : Hid (t.text = [40, 41]) := t.text_nil c2
    rw [c2]
    clear hin hb0 hb1 ht hat
    subst ev
    go_enter Tryd.func14, Tryd.ntmps14
    go_wp2_with fail
    go_ret
    refine ⟨W.heap.size + 1, 1, [PcV.of ⟨#[40, 41]⟩], by simp, own_new rfl (by simp) (by omega) rfl rfl (by unfold maxLen; omega), (HNB.out _).trans ((newb _ _).mono (by simp)), PcsOfV.one (by rw [HT.out])⟩
  by_cases c3 : t.op = 3
  · have hw1 : ∀ i, i < t.len → (t.kid i).weight ≤ 1048576 := fun i hi => by
      have e := t.weight_eq
      have h2 := sumTo_at (fun i => (t.kid i).weight) i t.len hi
      unfold kidsWeightV at e
      omega
    obtain ⟨b, o, hbo, hh⟩ : ∃ b o : Nat, (∀ i, i < t.len → pv = some ⟨b, o, none⟩) ∧ ∀ i, i < t.len → HeadV w1 b (o + i * 3) (t.kid i) (V i) ∧ (t.kid i).In w1 (V i) ∧ (t.kid i).weight ≤ 1048576 := by
      by_cases h0 : 0 < t.len
      · obtain ⟨b, o, hp, -⟩ := hat 0 h0
        refine ⟨b, o, fun _ _ => hp, fun i hi => ?_⟩
        obtain ⟨b2, o2, hp2, h1, h2⟩ := hat i hi
        rw [hp] at hp2
        have e := Option.some.inj hp2
        simp only [Addr.mk.injEq, and_true] at e
        obtain ⟨rfl, rfl⟩ := e
        exact ⟨h1, h2, hw1 i hi⟩
      · exact ⟨0, 0, fun i hi => absurd hi (by omega), fun i hi => absurd hi (by omega)⟩
    have HOF : Hid (PcsOfV w1 t (pairPcs t.len t.kid V b o)) := ⟨by rw [pairPcs_told, t.text_pair c3], by rw [t.steps_eq hno]; exact pairPcs_goes _ _ _ _ _, pairPcs_in hh⟩
    have HK0 : Hid (∀ w, Calls Tryd.prog 28 #[.agg #[.int .i64 t.op, .int .i64 t.n, .slice pv t.len cv], .int .i64 0] w fun e w' => e = .returned (.agg #[.string (kidPcV t.len t.kid V b o 0).tx, .pointer (kidPcV t.len t.kid V b o 0).adr]) ∧ Below w.heap.size w w') := fun w => kid_piece t.op t.n t.len cv 0 pv t.kid V b o (fun h => hbo 0 h) w
    have HK1 : Hid (∀ w, Calls Tryd.prog 28 #[.agg #[.int .i64 t.op, .int .i64 t.n, .slice pv t.len cv], .int .i64 1] w fun e w' => e = .returned (.agg #[.string (kidPcV t.len t.kid V b o 1).tx, .pointer (kidPcV t.len t.kid V b o 1).adr]) ∧ Below w.heap.size w w') := fun w => kid_piece t.op t.n t.len cv 1 pv t.kid V b o (fun h => hbo 1 h) w
    have HPP : Hid (pairPcs t.len t.kid V b o = [PcV.of ⟨#[40]⟩, kidPcV t.len t.kid V b o 0, PcV.of ⟨#[32, 46, 32]⟩, kidPcV t.len t.kid V b o 1, PcV.of ⟨#[41]⟩]) := rfl
    generalize pairPcs t.len t.kid V b o = L at *
    generalize kidPcV t.len t.kid V b o 0 = q0 at *
    generalize kidPcV t.len t.kid V b o 1 = q1 at *
    clear hin hb0 hb1 ht hat hbo hh hw1
    rw [c3] at HK0 HK1 ⊢
    subst ev
    obtain ⟨wA, hwA⟩ : ∃ wA, wA = W.alloc (.cells #[.int .i64 3, .int .i64 t.n, .slice pv t.len cv] 26) := ⟨_, rfl⟩
    have HWA : Hid (wA.heap[W.heap.size]? = some (.cells #[.int .i64 3, .int .i64 t.n, .slice pv t.len cv] 26 (0, 0)) ∧ Below W.heap.size W wA) := by rw [hwA]; exact ⟨heap_alloc_new W _, newb W _⟩
    have m0 : wA.cell? ⟨W.heap.size, 0, none⟩ = some (.int .i64 3) := cell_of_row wA _ 0 _ _ _ HWA.out.1
    have m1 : wA.cell? ⟨W.heap.size, 1, none⟩ = some (.int .i64 t.n) := cell_of_row wA _ 1 _ _ _ HWA.out.1
    have m2 : wA.cell? ⟨W.heap.size, 2, none⟩ = some (.slice pv t.len cv) := cell_of_row wA _ 2 _ _ _ HWA.out.1
    have WAE := hid_ofPV hwA
    clear hwA
    go_enter Tryd.func14, Tryd.ntmps14
    go_upto_region 1 with fail
    rw [← WAE.out]
    go_wp2_with fail
    have B0 : Hid (Below wA.heap.size wA wA.drew) := (Below.refl _ wA).drew
    obtain ⟨K, hK⟩ : ∃ K, K = W.heap.size := ⟨_, rfl⟩
    have HKS : Hid (∀ wq, Below wA.heap.size wA wq → wq.cell? ⟨K, 0, none⟩ = some (.int .i64 3) ∧ wq.cell? ⟨K, 1, none⟩ = some (.int .i64 t.n) ∧ wq.cell? ⟨K, 2, none⟩ = some (.slice pv t.len cv)) := by
      intro wq hq
      rw [hK]
      exact ⟨keeps hq _ _ m0, keeps hq _ _ m1, keeps hq _ _ m2⟩
    rw [← hK]
    have hS0 := HKS.out _ B0.out
    have tok0 : True := trivial
    clear m0 m1 m2 hK
    go_region_held3 (fun w' => w'.cell? ⟨K, 0, none⟩ = some (.int .i64 3) ∧ w'.cell? ⟨K, 1, none⟩ = some (.int .i64 t.n) ∧ w'.cell? ⟨K, 2, none⟩ = some (.slice pv t.len cv)) (first | (with_reducible assumption) | exact (HKS.out _ (B2.out.trans ((newb _ _).mono B2.out.size))).1 | exact (HKS.out _ (B2.out.trans ((newb _ _).mono B2.out.size))).2.1 | exact (HKS.out _ (B2.out.trans ((newb _ _).mono B2.out.size))).2.2 | exact HKS.out _ (B2.out.trans ((newb _ _).mono B2.out.size))) (first
      | (go_at_call 28; have _t := tok0; clear _t tok0; refine (HK0.out _).mono ?_; rintro e w5 ⟨rfl, hb⟩; have B1 : Hid (Below wA.heap.size wA w5) := B0.out.trans (hb.mono B0.out.size); have hS1 := HKS.out _ B1.out; clear hb hS0 B0; have tok1 : True := trivial)
      | (go_at_call 28; have _t := tok1; clear _t tok1; refine (HK1.out _).mono ?_; rintro e w6 ⟨rfl, hb⟩; have B2 : Hid (Below wA.heap.size wA w6) := B1.out.trans (hb.mono B1.out.size); have hS2 := HKS.out _ B2.out; clear hb hS1 B1; have tok2 : True := trivial))
    all_goals
      have HBW : Hid (Below W.heap.size W w6) := HWA.out.2.trans (B2.out.mono HWA.out.2.size)
      go_wp2_with fail
      go_ret
      refine ⟨w6.heap.size, 5, L, by rw [HPP.out]; rfl, ?_, HBW.out.trans ((newb _ _).mono HBW.out.size), HOF.out⟩
      rw [HPP.out]
      exact own_new rfl rfl HBW.out.size rfl rfl (by unfold maxLen; omega)
  · have HT : Hid (t.text = [102, 117, 110]) := t.text_else c1 c2 c3
    have g1 : (t.op == 1) = false := by simpa using c1
    have g2 : (t.op == 2) = false := by simpa using c2
    have g3 : (t.op == 3) = false := by simpa using c3
    clear hin hb0 hb1 ht hat
    subst ev
    go_enter Tryd.func14, Tryd.ntmps14
    go_wp2_with fail
    go_ret
    refine ⟨W.heap.size + 1, 1, [PcV.of ⟨#[102, 117, 110]⟩], by simp, own_new rfl (by simp) (by omega) rfl rfl (by unfold maxLen; omega), (HNB.out _).trans ((newb _ _).mono (by simp)), PcsOfV.one (by rw [HT.out])⟩

set_option maxRecDepth 100000 in
set_option maxHeartbeats 2000000 in
theorem impl_vtext (x : Vt) (w : World) (v : Value) (hin : x.In w v) (hw : x.weight ≤ 1048576) (ht : PowTab w) :
    Calls Tryd.prog 7 #[.agg #[.int .i64 x.op, .int .i64 x.n, v]] w fun e w' => e = .returned (.string ⟨x.text.toArray⟩) ∧ Below w.heap.size w w' := by
  obtain ⟨pv, cv, ev⟩ := hin.sl.shape
  have HC : Hid (∀ o, Calls Tryd.prog 13 #[.agg #[.int .i64 x.op, .int .i64 x.n, v], .func (.func 14) #[] #[]] (w.alloc o) fun e w' => e = .returned (.string ⟨x.text.toArray⟩) ∧ Below w.heap.size w w') :=
    fun o => (told_textV x _ v (hin.below (newb w o)) hw (value_pieces _ (ht.below (newb w o)))).mono (fun e w' h => ⟨h.1, (newb w o).trans (h.2.mono (newb w o).size)⟩)
  clear hin hw ht
  subst ev
  generalize x.text = T at *
  go_enter Tryd.func7, Tryd.ntmps7
  go_wp2_with fail
  refine (HC.out _).mono ?_
  rintro e w1 ⟨rfl, hb1⟩
  have HB1 : Hid (Below w.heap.size w w1) := hb1
  clear hb1
  go_wp2_with fail
  go_ret
  exact ⟨rfl, HB1.out⟩
end Go.Proofs.YtbofjjjjjcolgaaDoor
