/- At every heap and block impl.Alloc answers as spec.Alloc, its answer owns its memory, and it writes into no argument: laws.FnExactAlloc returns true, and the argument reads as before. No conditions. -/
import Derived.Test.YtgcegjgjegkahabAllocSt17
import Derived.OpenShut
import Derived.ChangeOld
import Derived.Below
namespace Go.Proofs.Ytgcegjgjegkahab.fnExactAlloc
open Go.ChangeShapes Go.WideShapes Go.ChangeAt Go.RowKit
set_option linter.unusedVariables false

theorem hid_h17 {P : Prop} (h : P) : Hid P := h
theorem toheap_enter (vs : Array Value) (w : World) : (callFunc 11 vs).run Try.prog w = .ok (.enter 11 vs) w := by kernel_rfl
theorem eqheap_enter (vs : Array Value) (w : World) : (callFunc 13 vs).run Try.prog w = .ok (.enter 13 vs) w := by kernel_rfl
theorem own : ownKnob Try.prog.godebug = none := by kernel_rfl
theorem laidOut : laidOutB Try.prog = true := by kernel_rfl
theorem types : HeapT Try.prog 24 3 22 where
  ex := ⟨_, Try.underlying24, rfl, ⟨_, rfl, rfl, rfl⟩, ⟨_, rfl, rfl, rfl⟩, ⟨_, rfl, rfl, rfl⟩, ⟨_, rfl, rfl, rfl⟩⟩
  i := Try.underlying3
  z := Try.underlying22
  ci := by kernel_rfl
  cz := by kernel_rfl
  cd := by kernel_rfl

set_option maxRecDepth 100000 in
theorem opened {H : Type} {enc : TypeId × Value → H} {W : World} {r : Reach} {base : Nat} {v : Value} {d : DataW H} {ps : List MemPlace} (hv : Value.okWide Try.prog W r base 24 v) (h : DataW.Trod enc Try.prog W 0 (fun _ => true) true 24 v d ps) :
    ∃ (a : Option Addr) (len cap : Nat) (zs : List Int) (half b n : Int), v = .agg #[.slice a len cap, .int .i64 half, .int .i64 b, .int .i64 n] ∧ IsRow W a len cap zs := by
  obtain ⟨cs, rfl⟩ := okAgg Try.underlying24 hv
  obtain ⟨fuel, h⟩ := h
  obtain ⟨a, len, cap, zs, half, b, n, e, hr⟩ := open_heap types fuel _ _ h
  have e' : cs.toList = _ := e
  refine ⟨a, len, cap, zs, half, b, n, ?_, hr⟩
  congr 1
  exact Array.toList_inj.1 e'

set_option maxRecDepth 100000 in
set_option maxHeartbeats 16000000 in
theorem walk_in (h : Hp) (f : Bool) (t : Int) (ks : List Int) (v u : Value) (w : World) (hv : Rs w v h.ws) (hu : Rs w u ks) (hl : h.ws.length ≤ 1048576) (hlk : ks.length ≤ 1048576) (hbig : Small64 h.ws) (hkb : Small64 ks) :
    Calls Try.prog 5 #[heapV v h, .bool f, .int .i64 t, u] w fun e w' => e = .returned (.bool true) ∧ Below w.heap.size w w' := by
  have HL : Hid (h.ws.length ≤ 4194304) := by show _ ≤ _; omega
  have HK4 : Hid (ks.length ≤ 4194304) := by show _ ≤ _; omega
  have hlen := alloc_len h f t ks
  obtain ⟨r, hr⟩ : ∃ r, r = allocHp h f t ks := ⟨_, rfl⟩
  obtain ⟨pt, hpt⟩ : ∃ pt, pt = allocAt h t ks := ⟨_, rfl⟩
  obtain ⟨dn, hdn⟩ : ∃ dn, dn = doneB h t ks := ⟨_, rfl⟩
  have HRET : Hid (∀ w1 e w', AllocRet w1 h f t ks e w' → ∃ u, e = .returned (.tuple #[heapV u r, .int .i64 pt, .bool dn]) ∧ Own w' w1.heap.size u r.ws ∧ Below w1.heap.size w1 w') := fun w1 e w' hh => by rw [hr, hpt, hdn]; exact hh
  have HS : Hid (∀ (u u2 : Value) (w1 : World), Rd w1 u h.ws → Rd w1 u2 ks → Calls Try.prog 20 #[heapV u h, .bool f, .int .i64 t, u2] w1 fun e w' => ∃ u, e = .returned (.tuple #[heapV u r, .int .i64 pt, .bool dn]) ∧ Own w' w1.heap.size u r.ws ∧ Below w1.heap.size w1 w') := fun u u2 w1 hr1 hr2 => (spec_alloc h f t ks u u2 w1 hr1 hr2 hbig hkb HL.out HK4.out).mono (HRET.out w1)
  have HI : Hid (∀ (u u2 : Value) (w1 : World), Rd w1 u h.ws → Rd w1 u2 ks → Calls Try.prog 22 #[heapV u h, .bool f, .int .i64 t, u2] w1 fun e w' => ∃ u, e = .returned (.tuple #[heapV u r, .int .i64 pt, .bool dn]) ∧ Own w' w1.heap.size u r.ws ∧ Below w1.heap.size w1 w') := fun u u2 w1 hr1 hr2 => (impl_alloc h f t ks u u2 w1 hr1 hr2 hbig HL.out HK4.out).mono (HRET.out w1)
  rw [← hr] at hlen
  have HRL : Hid (r.ws.length ≤ 4194304) := by have := HL.out; show _ ≤ _; omega
  clear hr hpt hdn hlen hbig hkb HRET
  obtain ⟨a, cap, ev, -⟩ := id hv
  obtain ⟨au, cu, eu, -⟩ := id hu
  have HTO : Hid (∀ w1, Below w.heap.size w w1 → Calls Try.prog 11 #[heapV v h] w1 fun e w' => ∃ u, e = .returned (heapV u h) ∧ Below w1.heap.size w1 w' ∧ Own w' w1.heap.size u h.ws) := fun w1 hq => to_heap h v w1 (hv.below hq) HL.out
  have HTK : Hid (∀ w1, Below w.heap.size w w1 → Calls Try.prog 21 #[u] w1 fun e w' => ∃ u, e = .returned u ∧ Below w1.heap.size w1 w' ∧ Own w' w1.heap.size u ks) := fun w1 hq => to_ints ks u w1 (hu.below hq) HK4.out
  have HSZ : Hid (∀ w1, Calls Try.prog 9 #[heapV v h, .int .i64 1048576] w1 fun e w' => e = .returned (.int .i64 (1048576 - (h.ws.length : Int))) ∧ Below w1.heap.size w1 w') := fun w1 => by rw [ev]; exact sz_heap a h.ws.length cap h.half h.base h.next w1 hl
  subst ev
  subst eu
  clear hv hu
  obtain ⟨A, hA⟩ : ∃ A, A = w.alloc (.cells #[.slice a h.ws.length cap, .int .i64 h.half, .int .i64 h.base, .int .i64 h.next] 24) := ⟨_, rfl⟩
  have HA : Hid (Below w.heap.size w A ∧ A.heap[w.heap.size]? = some (.cells #[.slice a h.ws.length cap, .int .i64 h.half, .int .i64 h.base, .int .i64 h.next] 24 (0, 0)) ∧ w.heap.size < A.heap.size) := by
    show _ ∧ _ ∧ _
    rw [hA]
    exact ⟨new_below _ _, heap_alloc_last _ _, by simp⟩
  have HCE : Hid (∀ wq, Below A.heap.size A wq → wq.cell? ⟨w.heap.size, 0, none⟩ = some (.slice a h.ws.length cap) ∧ wq.cell? ⟨w.heap.size, 1, none⟩ = some (.int .i64 h.half) ∧ wq.cell? ⟨w.heap.size, 2, none⟩ = some (.int .i64 h.base) ∧ wq.cell? ⟨w.heap.size, 3, none⟩ = some (.int .i64 h.next)) := fun wq hq => by
    have r := (hq.block _ HA.out.2.2).trans HA.out.2.1
    exact ⟨cell_of_row wq _ 0 _ _ _ r, cell_of_row wq _ 1 _ _ _ r, cell_of_row wq _ 2 _ _ _ r, cell_of_row wq _ 3 _ _ _ r⟩
  have HBW : Hid (∀ wq, Below A.heap.size A wq → Below w.heap.size w wq) := fun wq hq => HA.out.1.trans (hq.mono HA.out.1.size)
  have hk0 : ¬ (1048576 : Int) < (ks.length : Nat) := by omega
  have hl0 : ¬ ((1048576 : Int) - h.ws.length < 0) := by omega
  go_enter Try.func5, Try.ntmps5
  go_upto_region 1 with fail
  rw [← hA]
  clear hA
  obtain ⟨c0, c1, c2, c3⟩ := HCE.out A (Below.refl _ _)
  go_wp2_with fail
  clear c0 c1 c2 c3
  refine (HSZ.out A).mono ?_
  rintro e w1 ⟨rfl, b1⟩
  have B1 : Hid (Below A.heap.size A w1) := b1
  clear b1
  obtain ⟨c0, c1, c2, c3⟩ := HCE.out w1 B1.out
  go_wp2_with fail
  clear c0 c1 c2 c3 hk0 hl0 hl hlk
  refine (HTO.out w1 (HBW.out w1 B1.out)).mono ?_
  rintro e w2 ⟨u1, rfl, b2, o2⟩
  have H2 : Hid (Below A.heap.size A w2 ∧ Own w2 w1.heap.size u1 h.ws) := ⟨B1.out.trans (b2.mono B1.out.size), o2⟩
  clear b2 o2
  go_wp2_with fail
  refine (HTK.out w2 (HBW.out w2 H2.out.1)).mono ?_
  rintro e w3 ⟨u2, rfl, b3, o3⟩
  have H3 : Hid (Below A.heap.size A w3 ∧ Own w3 w1.heap.size u1 h.ws ∧ Own w3 w2.heap.size u2 ks) := ⟨H2.out.1.trans (b3.mono H2.out.1.size), H2.out.2.below b3, o3⟩
  clear b3 o3 H2
  go_wp2_with fail
  refine (HS.out u1 u2 w3 H3.out.2.1.rd H3.out.2.2.rd).mono ?_
  rintro e w4 ⟨s0, rfl, o4, b4⟩
  obtain ⟨p0, k0, rfl, -⟩ := o4.rd.shape
  have H4 : Hid (Below A.heap.size A w4 ∧ Own w4 w3.heap.size (.slice p0 r.ws.length k0) r.ws ∧ A.heap.size ≤ w3.heap.size ∧ w3.heap.size ≤ w4.heap.size) := ⟨H3.out.1.trans (b4.mono H3.out.1.size), o4, H3.out.1.size, b4.size⟩
  clear b4 o4 H3
  obtain ⟨E0, hE0⟩ : ∃ E0, E0 = w4.alloc (hpO (.slice p0 r.ws.length k0) r) := ⟨_, rfl⟩
  obtain ⟨sD, bD, rD⟩ := box_new w4 (.slice p0 r.ws.length k0) r hE0
  have G0 : Hid (Below A.heap.size A E0 ∧ BoxAt E0 w4.heap.size (.slice p0 r.ws.length k0) r ∧ Own E0 w3.heap.size (.slice p0 r.ws.length k0) r.ws ∧ E0.heap.size = w4.heap.size + 1) := ⟨H4.out.1.trans (bD.mono H4.out.1.size), rD, H4.out.2.1.below bD, sD⟩
  have N0 : Hid (∀ k, (Value.slice p0 r.ws.length k0).ownBlock = some k → k < w4.heap.size) := fun k hk => (H4.out.2.1.lt k hk).2
  clear sD bD rD
  obtain ⟨c0, c1, c2, c3⟩ := HCE.out E0 G0.out.1
  have c0' := c0
  rw [hE0] at c0 c1 c2 c3
  go_wp2_with fail
  rw [← hE0]
  clear c0 c1 c2 c3 c0' hE0
  refine (HTO.out E0 (HBW.out E0 G0.out.1)).mono ?_
  rintro e w5 ⟨x, rfl, b5, o5⟩
  obtain ⟨px, kx, rfl, -⟩ := o5.rd.shape
  obtain ⟨E1, hE1⟩ : ∃ E1, E1 = w5.alloc (hpO (.slice px h.ws.length kx) h) := ⟨_, rfl⟩
  obtain ⟨sD, bD, rD⟩ := box_new w5 (.slice px h.ws.length kx) h hE1
  have hb5 : Below E0.heap.size E0 E1 := b5.trans (bD.mono b5.size)
  have G1 : Hid (Below A.heap.size A E1 ∧ BoxAt E1 w4.heap.size (.slice p0 r.ws.length k0) r ∧ Own E1 w3.heap.size (.slice p0 r.ws.length k0) r.ws ∧ BoxAt E1 w5.heap.size (.slice px h.ws.length kx) h ∧ Own E1 E0.heap.size (.slice px h.ws.length kx) h.ws ∧ E1.heap.size = w5.heap.size + 1 ∧ E0.heap.size ≤ w5.heap.size) :=
    ⟨G0.out.1.trans (hb5.mono G0.out.1.size), G0.out.2.1.below hb5 G0.out.2.1.lt, G0.out.2.2.1.below hb5, rD, o5.below bD, sD, b5.size⟩
  have NX : Hid (∀ k, (Value.slice px h.ws.length kx).ownBlock = some k → E0.heap.size ≤ k ∧ k < w5.heap.size) := fun k hk => o5.lt k hk
  clear sD bD rD b5 o5 hb5
  go_wp2_with fail
  rw [← hE1]
  clear hE1
  refine (HTK.out E1 (HBW.out E1 G1.out.1)).mono ?_
  rintro e w6 ⟨u3, rfl, b6, o6⟩
  have G6 : Hid (Below A.heap.size A w6 ∧ BoxAt w6 w4.heap.size (.slice p0 r.ws.length k0) r ∧ Own w6 w3.heap.size (.slice p0 r.ws.length k0) r.ws ∧ BoxAt w6 w5.heap.size (.slice px h.ws.length kx) h ∧ Own w6 E0.heap.size (.slice px h.ws.length kx) h.ws ∧ Own w6 E1.heap.size u3 ks ∧ E1.heap.size ≤ w6.heap.size) :=
    ⟨G1.out.1.trans (b6.mono G1.out.1.size), G1.out.2.1.below b6 G1.out.2.1.lt, G1.out.2.2.1.below b6, G1.out.2.2.2.1.below b6 G1.out.2.2.2.1.lt, G1.out.2.2.2.2.1.below b6, o6, b6.size⟩
  have N3 : Hid (∀ k, u3.ownBlock = some k → E1.heap.size ≤ k ∧ k < w6.heap.size) := fun k hk => o6.lt k hk
  clear b6 o6
  obtain ⟨d0, d1, d2, d3⟩ := G6.out.2.2.2.1.cells
  go_wp2_with fail
  clear d0 d1 d2 d3
  refine (HI.out _ u3 w6 G6.out.2.2.2.2.1.rd G6.out.2.2.2.2.2.1.rd).mono ?_
  rintro e w7 ⟨s1, rfl, o7, b7⟩
  obtain ⟨p1, k1, rfl, -⟩ := o7.rd.shape
  obtain ⟨E2, hE2⟩ : ∃ E2, E2 = w7.alloc (hpO (.slice p1 r.ws.length k1) r) := ⟨_, rfl⟩
  obtain ⟨sD, bD, rD⟩ := box_new w7 (.slice p1 r.ws.length k1) r hE2
  have hb7 : Below w6.heap.size w6 E2 := b7.trans (bD.mono b7.size)
  have N1 : Hid (∀ k, (Value.slice p1 r.ws.length k1).ownBlock = some k → w6.heap.size ≤ k ∧ k < w7.heap.size) := fun k hk => o7.lt k hk
  have hm0 : A.heap.size ≤ w3.heap.size := H4.out.2.2.1
  have hm1 : w3.heap.size ≤ w4.heap.size := H4.out.2.2.2
  have hm2 := G0.out.2.2.2
  have hm3 := G1.out.2.2.2.2.2
  have hm4 := G6.out.2.2.2.2.2.2
  have hm5 := b7.size
  have H7 : Hid (LS A E2 w4.heap.size w5.heap.size w7.heap.size (.slice p0 r.ws.length k0) (.slice px h.ws.length kx) u3 (.slice p1 r.ws.length k1) r h h.ws ks r.ws) := ⟨G6.out.1.trans (hb7.mono G6.out.1.size), G6.out.2.1.below hb7 G6.out.2.1.lt, (G6.out.2.2.1.below hb7).mono hm0, G6.out.2.2.2.1.below hb7 G6.out.2.2.2.1.lt, (G6.out.2.2.2.2.1.below hb7).mono (by omega), (G6.out.2.2.2.2.2.1.below hb7).mono (by omega), rD, (o7.below bD).mono (by omega)⟩
  have HSEP : Hid (Sep17 A.heap.size w4.heap.size w5.heap.size w7.heap.size (.slice p0 r.ws.length k0) (.slice px h.ws.length kx) u3 (.slice p1 r.ws.length k1)) :=
    sep_of (wq := w3) hm0 N0.out NX.out N3.out N1.out hm1 rfl (by omega) (by omega) rfl (by omega) (by omega) (Nat.le_refl _) hm5 rfl
  clear hm0 hm1 hm2 hm3 hm4 hm5 sD bD rD b7 o7 hb7 G6 G1 G0 H4 N0 NX N3 N1
  have HEH : Hid (∀ (ua ub : Value) (wq : World), Own wq A.heap.size ua r.ws → Own wq A.heap.size ub r.ws → Calls Try.prog 13 #[heapV ua r, heapV ub r] wq fun e w' => e = .returned (.bool true) ∧ Below wq.heap.size wq w') := fun ua ub wq h1 h2 => eq_heap r ua ub wq h1.rd h2.rd HRL.out
  obtain ⟨e0, e1, e2, e3⟩ := H7.out.k0.cells
  obtain ⟨g0, g1, g2, g3⟩ := H7.out.k2.cells
  rw [hE2] at e0 e1 e2 e3 g0 g1 g2 g3
  go_wp2_with fail
  rw [← hE2]
  clear e0 e1 e2 e3 g0 g1 g2 g3 hE2
  refine (HEH.out _ _ E2 H7.out.o2 H7.out.o0).mono ?_
  rintro e w8 ⟨rfl, b8⟩
  have H8 := hid_h17 (H7.out.below b8)
  clear b8 H7
  have HT6 : Hid (∀ wq, Below w8.heap.size w8 wq → Calls Try.prog 11 #[heapV (.slice a h.ws.length cap) h] wq fun e w' => ∃ u, e = .returned (heapV u h) ∧ Below w8.heap.size w8 w' ∧ Own w' w8.heap.size u h.ws) := fun wq hq =>
    (HTO.out wq (HBW.out wq (H8.out.b.trans (hq.mono H8.out.b.size)))).mono (fun e w' hr => by
      obtain ⟨u, h1, h2, h3⟩ := hr
      exact ⟨u, h1, hq.trans (h2.mono hq.size), h3.mono hq.size⟩)
  have HCS : Hid (∀ wq, Below w8.heap.size w8 wq → (fun wq : World => (wq.cell? ⟨w.heap.size, 0, none⟩ = some (.slice a h.ws.length cap) ∧ wq.cell? ⟨w.heap.size, 1, none⟩ = some (.int .i64 h.half) ∧ wq.cell? ⟨w.heap.size, 2, none⟩ = some (.int .i64 h.base) ∧ wq.cell? ⟨w.heap.size, 3, none⟩ = some (.int .i64 h.next)) ∧ (wq.cell? ⟨w5.heap.size, 0, none⟩ = some (.slice px h.ws.length kx) ∧ wq.cell? ⟨w5.heap.size, 1, none⟩ = some (.int .i64 h.half) ∧ wq.cell? ⟨w5.heap.size, 2, none⟩ = some (.int .i64 h.base) ∧ wq.cell? ⟨w5.heap.size, 3, none⟩ = some (.int .i64 h.next))) wq) := fun wq hq => ⟨HCE.out wq (H8.out.b.trans (hq.mono H8.out.b.size)), (H8.out.k1.below hq H8.out.k1.lt).cells⟩
  go_upto_region 13 with fail
  refine wp_region_held_drew (S := fun wq => (wq.cell? ⟨w.heap.size, 0, none⟩ = some (.slice a h.ws.length cap) ∧ wq.cell? ⟨w.heap.size, 1, none⟩ = some (.int .i64 h.half) ∧ wq.cell? ⟨w.heap.size, 2, none⟩ = some (.int .i64 h.base) ∧ wq.cell? ⟨w.heap.size, 3, none⟩ = some (.int .i64 h.next)) ∧ (wq.cell? ⟨w5.heap.size, 0, none⟩ = some (.slice px h.ws.length kx) ∧ wq.cell? ⟨w5.heap.size, 1, none⟩ = some (.int .i64 h.half) ∧ wq.cell? ⟨w5.heap.size, 2, none⟩ = some (.int .i64 h.base) ∧ wq.cell? ⟨w5.heap.size, 3, none⟩ = some (.int .i64 h.next))) (by kernel_rfl) (show (fun wq : World => (wq.cell? ⟨w.heap.size, 0, none⟩ = some (.slice a h.ws.length cap) ∧ wq.cell? ⟨w.heap.size, 1, none⟩ = some (.int .i64 h.half) ∧ wq.cell? ⟨w.heap.size, 2, none⟩ = some (.int .i64 h.base) ∧ wq.cell? ⟨w.heap.size, 3, none⟩ = some (.int .i64 h.next)) ∧ (wq.cell? ⟨w5.heap.size, 0, none⟩ = some (.slice px h.ws.length kx) ∧ wq.cell? ⟨w5.heap.size, 1, none⟩ = some (.int .i64 h.half) ∧ wq.cell? ⟨w5.heap.size, 2, none⟩ = some (.int .i64 h.base) ∧ wq.cell? ⟨w5.heap.size, 3, none⟩ = some (.int .i64 h.next))) w8.drew from HCS.out w8.drew (Below.refl _ _).drew) (fun HS0 => ?_)
  refine wpAnyH_take (i := 0) (oi := { dst := some 70, op := Op.load 27 (Operand.tmp 13), type := 27, pos := "exact.go:3865", after := #[], guard := none }) (v := (heapV (.slice px h.ws.length kx) h)) rfl (by kernel_rfl) (by kernel_rfl) (by kernel_rfl) (fun _ _ _ h => h) (Or.inl ⟨by rfl, ?_⟩) HS0 ?_
  · intro wq hSq
    obtain ⟨d0, d1, d2, d3⟩ := hSq.2
    clear hSq
    go_simp
  try simp only [Act.put, List.setIfInBounds_toArray, List.set_cons_zero, List.set_cons_succ]
  refine wpAnyH_take (i := 1) (oi := { dst := some 71, op := Op.load 24 (Operand.tmp 4), type := 24, pos := "exact.go:3865", after := #[], guard := none }) (v := (heapV (.slice a h.ws.length cap) h)) rfl (by kernel_rfl) (by kernel_rfl) (by kernel_rfl) (fun _ _ _ h => h) (Or.inl ⟨by rfl, ?_⟩) HS0 ?_
  · intro wq hSq
    obtain ⟨c0, c1, c2, c3⟩ := hSq.1
    clear hSq
    go_simp
  try simp only [Act.put, List.setIfInBounds_toArray, List.set_cons_zero, List.set_cons_succ]
  refine wpAnyH_ready (rs := [2]) (by kernel_rfl) (by simp) ?_
  refine AllReadyH.cons (o := { dst := some 72, op := Op.call { callee := Callee.value (Operand.func 11), args := #[Operand.tmp 71], argTypes := #[24] }, type := 27, pos := "exact.go:3865", after := #[{ on := 1, ground := Ground.data }], guard := none }) rfl (fun KK hK => ?rg1) AllReadyH.nil
  refine step_call1 rfl 11 _ _ rfl toheap_enter (heapV (.slice a h.ws.length cap) h) rfl _ (HT6.out w8.drew (Below.refl _ _).drew) ?_
  rintro e w9 ⟨u7, rfl, b7, o7⟩
  refine ⟨_, rfl, ?_⟩
  have hs7 : (fun wq : World => (wq.cell? ⟨w.heap.size, 0, none⟩ = some (.slice a h.ws.length cap) ∧ wq.cell? ⟨w.heap.size, 1, none⟩ = some (.int .i64 h.half) ∧ wq.cell? ⟨w.heap.size, 2, none⟩ = some (.int .i64 h.base) ∧ wq.cell? ⟨w.heap.size, 3, none⟩ = some (.int .i64 h.next)) ∧ (wq.cell? ⟨w5.heap.size, 0, none⟩ = some (.slice px h.ws.length kx) ∧ wq.cell? ⟨w5.heap.size, 1, none⟩ = some (.int .i64 h.half) ∧ wq.cell? ⟨w5.heap.size, 2, none⟩ = some (.int .i64 h.base) ∧ wq.cell? ⟨w5.heap.size, 3, none⟩ = some (.int .i64 h.next))) w9 := HCS.out w9 b7
  refine hK.out _ _ hs7 (fun _ => ?_)
  clear hK KK
  try simp only [Act.put, List.setIfInBounds_toArray, List.set_cons_zero, List.set_cons_succ]
  refine wpAnyH_ready (rs := [3]) (by kernel_rfl) (by simp) ?_
  refine AllReadyH.cons (o := { dst := some 73, op := Op.call { callee := Callee.value (Operand.func 13), args := #[Operand.tmp 70, Operand.tmp 72], argTypes := #[27, 27] }, type := 4, pos := "exact.go:3865", after := #[{ on := 0, ground := Ground.data }, { on := 2, ground := Ground.data }, { on := 2, ground := Ground.chain }], guard := none }) rfl (fun KK hK => ?rg2) AllReadyH.nil
  refine step_call2 rfl 13 _ _ _ _ rfl eqheap_enter (heapV (.slice px h.ws.length kx) h) (heapV u7 h) rfl rfl _ (eq_heap h _ u7 w9 (H8.out.o1.below b7).rd o7.rd HL.out) ?_
  rintro e w10 ⟨rfl, b8⟩
  refine ⟨_, rfl, ?_⟩
  have B10 := hid_h17 (b7.trans (b8.mono b7.size))
  have hs8 : (fun wq : World => (wq.cell? ⟨w.heap.size, 0, none⟩ = some (.slice a h.ws.length cap) ∧ wq.cell? ⟨w.heap.size, 1, none⟩ = some (.int .i64 h.half) ∧ wq.cell? ⟨w.heap.size, 2, none⟩ = some (.int .i64 h.base) ∧ wq.cell? ⟨w.heap.size, 3, none⟩ = some (.int .i64 h.next)) ∧ (wq.cell? ⟨w5.heap.size, 0, none⟩ = some (.slice px h.ws.length kx) ∧ wq.cell? ⟨w5.heap.size, 1, none⟩ = some (.int .i64 h.half) ∧ wq.cell? ⟨w5.heap.size, 2, none⟩ = some (.int .i64 h.base) ∧ wq.cell? ⟨w5.heap.size, 3, none⟩ = some (.int .i64 h.next))) w10 := HCS.out w10 B10.out
  refine hK.out _ _ hs8 (fun _ => ?_)
  clear hK KK
  try simp only [Act.put, List.setIfInBounds_toArray, List.set_cons_zero, List.set_cons_succ]
  refine wpAnyH_take (i := 4) (oi := { dst := some 74, op := Op.unOp UnOp.not 4 (Operand.tmp 73), type := 4, pos := "exact.go:3865", after := #[{ on := 3, ground := Ground.data }], guard := none }) (v := (.bool false)) rfl (by kernel_rfl) (by kernel_rfl) (by kernel_rfl) (fun _ _ _ h => h) (Or.inl ⟨by rfl, ?_⟩) hs8 ?_
  · intro wq hSq
    clear hSq
    go_simp
  try simp only [Act.put, List.setIfInBounds_toArray, List.set_cons_zero, List.set_cons_succ]
  refine wpAnyH_done (by kernel_rfl) ?_ _
  clear hs7 hs8 b7 o7 b8
  have H10 := hid_h17 (H8.out.below B10.out)
  clear B10 HCS HT6 H8
  go_wp2_with fail
  refine (HTK.out w10 (HBW.out w10 H10.out.b)).mono ?_
  rintro e w11 ⟨u11, rfl, b11, o11⟩
  have H11 := hid_h17 (And.intro (H10.out.below b11) o11)
  clear b11 o11 H10
  have HEK := hid_h17 (eq_ints ks ks u3 u11 w11 H11.out.1.o3.rd H11.out.2.rd HK4.out HK4.out)
  rw [same_self] at HEK
  go_wp2_with fail
  refine HEK.out.mono ?_
  rintro e w12 ⟨rfl, b12⟩
  have H12 := hid_h17 (H11.out.1.below b12)
  clear b12 H11 HEK
  obtain ⟨d0, d1, d2, d3⟩ := H12.out.k1.cells
  go_wp2_with fail
  clear d0 d1 d2 d3
  refine (mark_heap h (.slice px h.ws.length kx) A.heap.size 1 w12 H12.out.o1 HL.out (by omega)).mono ?_
  rintro e w13 ⟨rfl, o13, g13⟩
  have H13 := hid_h17 (H12.out.mark1 HSEP.out g13 o13)
  clear o13 g13 H12
  have HMK := hid_h17 (mark_ints u3 A.heap.size ks (1 + h.ws.length) w13 H13.out.o3 HK4.out (by have := HL.out; omega))
  obtain ⟨z1, hz1⟩ : ∃ z1 : Int, z1 = ((1 + h.ws.length : Nat) : Int) := ⟨_, rfl⟩
  have hk14 : ¬ (((1 + h.ws.length + ks.length : Nat) : Int) < 0) := by omega
  obtain ⟨z2, hz2⟩ : ∃ z2 : Int, z2 = ((1 + h.ws.length + ks.length : Nat) : Int) := ⟨_, rfl⟩
  rw [← hz2] at hk14 HMK
  rw [← hz1] at HMK ⊢
  clear hz1 hz2
  go_wp2_with fail
  refine HMK.out.mono ?_
  rintro e w14 ⟨rfl, o14, g14⟩
  have H14 := hid_h17 (H13.out.mark3 HSEP.out g14 o14)
  clear o14 g14 H13 HMK
  obtain ⟨e0, e1, e2, e3⟩ := H14.out.k0.cells
  obtain ⟨g0, g1, g2, g3⟩ := H14.out.k2.cells
  go_wp2_with fail
  clear e0 e1 e2 e3 g0 g1 g2 g3
  refine (HEH.out _ _ w14 H14.out.o2 H14.out.o0).mono ?_
  rintro e w15 ⟨rfl, b15⟩
  have H15 := hid_h17 (H14.out.below b15)
  clear b15 H14
  obtain ⟨g0, g1, g2, g3⟩ := H15.out.k2.cells
  go_wp2_with fail
  clear g0 g1 g2 g3
  refine (mark_heap r (.slice p1 r.ws.length k1) A.heap.size 1 w15 H15.out.o2 HRL.out (by omega)).mono ?_
  rintro e w16 ⟨rfl, o16, g16⟩
  have H16 := hid_h17 (H15.out.mark2 HSEP.out g16 o16)
  clear o16 g16 H15 hk14
  have HQ : Hid (∀ w1, Rd w1 (.slice p1 r.ws.length k1) (marksI 1 r.ws.length) → Calls Try.prog 23 #[heapV (.slice p1 r.ws.length k1) r, .int .i64 1] w1 fun e w' => e = .returned (.int .i64 ((1 + r.ws.length : Nat) : Int)) ∧ Below w1.heap.size w1 w') := fun w1 hr => held_heap r.ws.length r (.slice p1 r.ws.length k1) 1 w1 hr HRL.out (by omega)
  have hk17 : ¬ (((1 + r.ws.length : Nat) : Int) < 0) := by omega
  obtain ⟨z3, hz3⟩ : ∃ z3 : Int, z3 = ((1 + r.ws.length : Nat) : Int) := ⟨_, rfl⟩
  rw [← hz3] at hk17 HQ ⊢
  clear hz3
  obtain ⟨g0, g1, g2, g3⟩ := H16.out.k2.cells
  go_wp2_with fail
  clear g0 g1 g2 g3
  refine (HQ.out w16 H16.out.o2.rd).mono ?_
  rintro e w17 ⟨rfl, b17⟩
  have H17 := hid_h17 (H16.out.below b17)
  clear b17 H16
  obtain ⟨c0, c1, c2, c3⟩ := HCE.out w17 H17.out.b
  go_wp2_with fail
  clear c0 c1 c2 c3
  refine (HTO.out w17 (HBW.out w17 H17.out.b)).mono ?_
  rintro e w18 ⟨u18, rfl, b18, o18⟩
  have H18 := hid_h17 (And.intro (H17.out.below b18) o18)
  clear b18 o18 H17
  go_wp2_with fail
  refine (HTK.out w18 (HBW.out w18 H18.out.1.b)).mono ?_
  rintro e w19 ⟨u19, rfl, b19, o19⟩
  have H19 := hid_h17 (And.intro (H18.out.1.below b19) (And.intro (H18.out.2.below b19) o19))
  clear b19 o19 H18
  go_wp2_with fail
  refine (HI.out u18 u19 w19 H19.out.2.1.rd H19.out.2.2.rd).mono ?_
  rintro e w20 ⟨s2, rfl, o20, b20⟩
  obtain ⟨p2, k2, rfl, -⟩ := o20.rd.shape
  obtain ⟨E3, hE3⟩ : ∃ E3, E3 = w20.alloc (hpO (.slice p2 r.ws.length k2) r) := ⟨_, rfl⟩
  obtain ⟨sD, bD, rD⟩ := box_new w20 (.slice p2 r.ws.length k2) r hE3
  have H20 := hid_h17 (And.intro ((H19.out.1.below b20).below bD) (And.intro rD ((o20.below bD).mono H19.out.1.b.size)))
  clear sD bD rD b20 o20 H19
  obtain ⟨e0, e1, e2, e3⟩ := H20.out.1.k0.cells
  obtain ⟨g0, g1, g2, g3⟩ := H20.out.2.1.cells
  rw [hE3] at e0 e1 e2 e3 g0 g1 g2 g3
  go_wp2_with fail
  rw [← hE3]
  clear e0 e1 e2 e3 g0 g1 g2 g3 hE3
  refine (HEH.out _ _ E3 H20.out.2.2 H20.out.1.o0).mono ?_
  rintro e w21 ⟨rfl, b21⟩
  have H21 := hid_h17 (H20.out.1.below b21)
  clear b21 H20
  obtain ⟨g0, g1, g2, g3⟩ := H21.out.k2.cells
  go_wp2_with fail
  clear g0 g1 g2 g3
  refine (HQ.out w21 H21.out.o2.rd).mono ?_
  rintro e w22 ⟨rfl, b22⟩
  have H22 := hid_h17 (H21.out.below b22)
  clear b22 H21
  go_wp2_with fail
  go_ret
  exact ⟨rfl, HBW.out _ H22.out.b⟩

set_option maxHeartbeats 1000000 in
theorem walk_out (a : Option Addr) (len cap : Nat) (x y z : Int) (f : Bool) (t : Int) (au : Option Addr) (lu cu : Nat) (w : World) (hl : ¬ len ≤ 1048576) (hm : len ≤ maxLen) (hu : lu ≤ 1048576) :
    Calls Try.prog 5 #[.agg #[.slice a len cap, .int .i64 x, .int .i64 y, .int .i64 z], .bool f, .int .i64 t, .slice au lu cu] w fun e w' => e = .returned (.bool true) ∧ Below w.heap.size w w' := by
  have HSZ : Hid (∀ w1, Calls Try.prog 9 #[.agg #[.slice a len cap, .int .i64 x, .int .i64 y, .int .i64 z], .int .i64 1048576] w1 fun e w' => e = .returned (.int .i64 (-1)) ∧ Below w1.heap.size w1 w') := fun w1 => sz_heap_no a len cap x y z w1 hl hm
  have hk0 : ¬ (1048576 : Int) < (lu : Nat) := by omega
  clear hm hl hu
  obtain ⟨A, hA⟩ : ∃ A, A = w.alloc (.cells #[.slice a len cap, .int .i64 x, .int .i64 y, .int .i64 z] 24) := ⟨_, rfl⟩
  have HA : Hid (Below w.heap.size w A) := by show Below _ _ _; rw [hA]; exact new_below _ _
  go_enter Try.func5, Try.ntmps5
  go_wp2_with fail
  rw [← hA]
  clear hA
  refine (HSZ.out A).mono ?_
  rintro e w1 ⟨rfl, b1⟩
  have B1 : Hid (Below w.heap.size w w1) := HA.out.trans (b1.mono HA.out.size)
  clear b1
  go_wp2_with fail
  go_ret
  exact ⟨rfl, B1.out⟩
set_option maxHeartbeats 1000000 in
theorem walk_long (a : Option Addr) (len cap : Nat) (x y z : Int) (f : Bool) (t : Int) (au : Option Addr) (lu cu : Nat) (w : World) (hu : ¬ lu ≤ 1048576) :
    Calls Try.prog 5 #[.agg #[.slice a len cap, .int .i64 x, .int .i64 y, .int .i64 z], .bool f, .int .i64 t, .slice au lu cu] w fun e w' => e = .returned (.bool true) ∧ Below w.heap.size w w' := by
  have hk0 : (1048576 : Int) < (lu : Nat) := by omega
  clear hu
  go_enter Try.func5, Try.ntmps5
  go_wp2_with fail
  go_ret
  exact ⟨rfl, new_below _ _⟩

theorem walk (a0 : Option Addr) (len0 cap0 : Nat) (z0 : List Int) (x y z : Int) (f : Bool) (t : Int) (au : Option Addr) (lu cu : Nat) (zu : List Int) (w : World) (w0 : IsRow w a0 len0 cap0 z0) (wu : IsRow w au lu cu zu) :
    Calls Try.prog 5 #[.agg #[.slice a0 len0 cap0, .int .i64 x, .int .i64 y, .int .i64 z], .bool f, .int .i64 t, .slice au lu cu] w fun e w' => e = .returned (.bool true) ∧ Below w.heap.size w w' := by
  by_cases hk : lu ≤ 1048576
  · by_cases hl : len0 ≤ 1048576
    · obtain ⟨xs, hx, hr, hs⟩ := w0.rs64
      obtain ⟨ys, hy, hr2, hs2⟩ := wu.rs64
      exact walk_in ⟨xs, x, y, z⟩ f t ys _ _ w hr hr2 (by simp only; omega) (by omega) hs hs2
    · refine walk_out a0 len0 cap0 x y z f t au lu cu w hl ?_ hk
      rcases w0 with ⟨_, h, _⟩ | ⟨_, _, h1, h2, _⟩
      · omega
      · omega
  · exact walk_long a0 len0 cap0 x y z f t au lu cu w hk

set_option maxRecDepth 100000 in
theorem lifted (os : Os) (started : os.Started) (H : Type) (enc : TypeId × Value → H) :
    ReturnsInHanded {} Try.checked os 5 .any (Rows.fnExactAllocSpec.pre6 enc Try.prog Try.f5 Rows.fnExactAllocRow.domain false) (Rows.fnExactAllocSpec.post enc Try.prog Try.f5 false true false false) := by
  refine returnsInHanded_of_change (C := Try.checked) own started (by kernel_rfl) Try.func5
    (ChangeSpec.witness6 (enc := enc) (C := Try.checked) false ⟨#[], #[.agg #[.slice none 0 0, .int .i64 0, .int .i64 0, .int .i64 0], .bool false, .int .i64 0, .slice none 0 0], []⟩ 8 (by kernel_rfl) (by kernel_rfl) (by kernel_rfl) (by kernel_rfl)) ?_
  intro W base args ds gs before hval0 hW _ _
  have hval : ∀ (j : Nat) t v, Try.f5.params[j]? = some t → args[j]? = some v → Value.okWide Try.prog W .any base t v := hval0
  have hW' := hW
  obtain ⟨p, q, hA0, hV, rfl, hfz, hnd⟩ := hW
  have hA : DataW.TrodAll enc Try.prog W 0 (fun _ => true) true Try.f5.params.toList args.toList ds p := hA0
  rw [Try.params5] at hA hval
  obtain ⟨v0, vs0, d0, ds0, p0, q0, hargs, rfl, rfl, h0, r0⟩ := trodAll_cons hA
  obtain ⟨v1, vs1, d1, ds1, p1, q1, rfl, rfl, rfl, h1, r1⟩ := trodAll_cons r0
  obtain ⟨v2, vs2, d2, ds2, p2, q2, rfl, rfl, rfl, h2, r2⟩ := trodAll_cons r1
  obtain ⟨v3, vs3, d3, ds3, p3, q3, rfl, rfl, rfl, h3, r3⟩ := trodAll_cons r2
  obtain ⟨rfl, rfl, rfl⟩ := trodAll_nil r3
  obtain rfl : args = #[v0, v1, v2, v3] := by cases args; simp_all
  obtain ⟨rfl, rfl⟩ := trodVars_none hV
  obtain ⟨bb, rfl, rfl, rfl⟩ := open_bool Try.underlying4 (hval 1 4 v1 rfl rfl) h1
  obtain ⟨pp, rfl, rfl, rfl, wp⟩ := open_int Try.underlying3 (hval 2 3 v2 rfl rfl) h2
  obtain ⟨a3, len3, cap3, rfl⟩ := okWide_slice Try.underlying22 (hval 3 22 v3 rfl rfl)
  have k3 := h3
  have lt3 : ∀ x ∈ p3, x.block < W.heap.size := by obtain ⟨m, hm⟩ := k3; exact DataW.trod_lt m _ _ _ hm
  obtain ⟨z3, w3⟩ : ∃ zs, IsRow W a3 len3 cap3 zs := by
    obtain ⟨fuel, hf⟩ := h3
    rcases open_ints Try.underlying22 Try.underlying3 (by kernel_rfl) hf with ⟨hcs, _⟩ | ⟨x, l, c, zs, hcs, _, hl, hm, hz, _, hcell, hwz⟩
    · simp [Value.cells] at hcs
      obtain ⟨rfl, rfl, rfl⟩ := hcs
      exact ⟨[], .inl ⟨rfl, rfl, rfl, rfl⟩⟩
    · simp [Value.cells] at hcs
      obtain ⟨rfl, rfl, rfl⟩ := hcs
      exact ⟨zs, .inr ⟨_, rfl, hl, hm, by simpa using hz, hcell, hwz⟩⟩
  obtain ⟨a, len, cap, zs, x, y, z, rfl, hr⟩ := opened (hval 0 24 v0 rfl rfl) h0
  have lt0 : ∀ x ∈ p0, x.block < W.heap.size := by have k0 := h0; obtain ⟨m, hm⟩ := k0; exact DataW.trod_lt m _ _ _ hm
  clear hA0 hval0
  refine (walk a len cap zs x y z bb pp a3 len3 cap3 z3 W hr w3).mono fun e W' ⟨he, bel⟩ => ?_
  subst he
  exact ⟨_, rfl, _, _, _, [], _, [], hW', trodAll_mk1 (shut_bool Try.underlying4 _), trodAll_cons_mk (Below.trod laidOut (by kernel_rfl) (of_decide_eq_true (by kernel_rfl)) h0 bel lt0) (trodAll_cons_mk (shut_bool Try.underlying4 _) (trodAll_cons_mk (shut_int Try.underlying3 wp) (trodAll_cons_mk (Below.trod laidOut (by kernel_rfl) (of_decide_eq_true (by kernel_rfl)) k3 bel lt3) trodAll_mk0))), rfl, bel.frame _, fun h => by cases h⟩

theorem over : Rows.fnExactAllocRow.holds Try.pinned (OpenSpec.ofChange Rows.fnExactAllocSpec) :=
  OpenClaim.holds_of_wide 5 Try.f5 rfl rfl rfl rfl rfl rfl rfl ⟨rfl, rfl, rfl, rfl, rfl⟩ rfl rfl rfl rfl rfl (by kernel_rfl) Try.func5 (by kernel_rfl)
    (of_decide_eq_true (by kernel_rfl)) (by unfold Func.isWrapper; first | (rw [if_pos (by decide +kernel)]; kernel_rfl) | (rw [if_neg (by decide +kernel)]; exact ⟨rfl, rfl⟩))
    (fun os started H enc _ => lifted os started H enc)

/-- The statement. -/
theorem proved : Rows.FnExactAllocSaid := over
#print axioms proved
end Go.Proofs.Ytgcegjgjegkahab.fnExactAlloc
