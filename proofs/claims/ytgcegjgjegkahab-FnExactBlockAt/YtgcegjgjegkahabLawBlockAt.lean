/- At every heap and place impl.BlockAt answers as spec.BlockAt, its answer owns its memory, and it writes into no argument: laws.FnExactBlockAt returns true, and the argument reads as before. No conditions. -/
import Derived.Test.YtgcegjgjegkahabSpecBlockAt17
import Derived.OpenShut
import Derived.ChangeOld
import Derived.Below
namespace Go.Proofs.Ytgcegjgjegkahab.fnExactBlockAt
open Go.ChangeShapes Go.WideShapes Go.ChangeAt Go.RowKit
set_option linter.unusedVariables false

theorem hid_h17 {P : Prop} (h : P) : Hid P := h
theorem toheap_enter (vs : Array Value) (w : World) : (callFunc 11 vs).run Try.prog w = .ok (.enter 11 vs) w := by kernel_rfl
theorem eqheap_enter (vs : Array Value) (w : World) : (callFunc 13 vs).run Try.prog w = .ok (.enter 13 vs) w := by kernel_rfl
theorem ba_len (h : Hp) (p : Int) : (blockAtH h p).ks.length ≤ 64 := by
  unfold blockAtH
  cases blocksB h with
  | none => simp [noBA]
  | some L =>
    show (if hasB L p then yesBA h.ws p.toNat else noBA).ks.length ≤ 64
    cases hasB L p with
    | true =>
      show (kidsW h.ws p.toNat).length ≤ 64
      unfold kidsW
      rw [List.length_take]
      have := many_lt (h.ws.getD p.toNat 0)
      omega
    | false => simp [noBA]

theorem own : ownKnob Try.prog.godebug = none := by kernel_rfl
theorem laidOut : laidOutB Try.prog = true := by kernel_rfl
theorem types : HeapT Try.prog 24 3 22 where
  ex := ⟨_, Try.underlying24, rfl, ⟨_, rfl, rfl, rfl⟩, ⟨_, rfl, rfl, rfl⟩, ⟨_, rfl, rfl, rfl⟩, ⟨_, rfl, rfl, rfl⟩⟩
  i := Try.underlying3
  z := Try.underlying22
  ci := by kernel_rfl
  cz := by kernel_rfl
  cd := by kernel_rfl

set_option maxRecDepth 100000 in
theorem opened {H : Type} {enc : TypeId × Value → H} {W : World} {r : Reach} {base : Nat} {v : Value} {d : DataW H} {ps : List MemPlace} (hv : Value.okWide Try.prog W r base 24 v) (h : DataW.Trod enc Try.prog W 0 (fun _ => true) true 24 v d ps) :
    ∃ (a : Option Addr) (len cap : Nat) (zs : List Int) (half b n : Int), v = .agg #[.slice a len cap, .int .i64 half, .int .i64 b, .int .i64 n] ∧ IsRow W a len cap zs := by
  obtain ⟨cs, rfl⟩ := okAgg Try.underlying24 hv
  obtain ⟨fuel, h⟩ := h
  obtain ⟨a, len, cap, zs, half, b, n, e, hr⟩ := open_heap types fuel _ _ h
  have e' : cs.toList = _ := e
  refine ⟨a, len, cap, zs, half, b, n, ?_, hr⟩
  congr 1
  exact Array.toList_inj.1 e'

set_option maxRecDepth 100000 in
set_option maxHeartbeats 8000000 in
theorem walk_in (h : Hp) (p : Int) (v : Value) (w : World) (hv : Rs w v h.ws) (hl : h.ws.length ≤ 1048576) (hbig : Small64 h.ws) :
    Calls Try.prog 4 #[heapV v h, .int .i64 p] w fun e w' => e = .returned (.bool true) ∧ Below w.heap.size w w' := by
  have HL : Hid (h.ws.length ≤ 4194304) := by show _ ≤ _; omega
  have hlen := ba_len h p
  obtain ⟨r, hr⟩ : ∃ r, r = blockAtH h p := ⟨_, rfl⟩
  rw [← hr] at hlen
  have HKL : Hid (r.ks.length ≤ 64) := hlen
  have HK4 : Hid (r.ks.length ≤ 4194304) := by show _ ≤ _; omega
  have HS : Hid (∀ (u : Value) (w1 : World), Rd w1 u h.ws → Calls Try.prog 14 #[heapV u h, .int .i64 p] w1 (BARet w1.heap.size w1 r)) := fun u w1 hr2 => by rw [hr]; exact spec_blockat h p u w1 hr2 HL.out hbig
  have HI : Hid (∀ (u : Value) (w1 : World), Rd w1 u h.ws → Calls Try.prog 15 #[heapV u h, .int .i64 p] w1 (BARet w1.heap.size w1 r)) := fun u w1 hr2 => by rw [hr]; exact impl_blockat h p u w1 hr2 hbig
  clear hr hbig
  obtain ⟨a, cap, ev, -⟩ := id hv
  have HTO : Hid (∀ w1, Below w.heap.size w w1 → Calls Try.prog 11 #[heapV v h] w1 fun e w' => ∃ u, e = .returned (heapV u h) ∧ Below w1.heap.size w1 w' ∧ Own w' w1.heap.size u h.ws) := fun w1 hq => to_heap h v w1 (hv.below hq) HL.out
  have HSZ : Hid (∀ w1, Calls Try.prog 9 #[heapV v h, .int .i64 1048576] w1 fun e w' => e = .returned (.int .i64 (1048576 - (h.ws.length : Int))) ∧ Below w1.heap.size w1 w') := fun w1 => by rw [ev]; exact sz_heap a h.ws.length cap h.half h.base h.next w1 hl
  subst ev
  clear hv
  obtain ⟨A, hA⟩ : ∃ A, A = w.alloc (.cells #[.slice a h.ws.length cap, .int .i64 h.half, .int .i64 h.base, .int .i64 h.next] 24) := ⟨_, rfl⟩
  have HA : Hid (Below w.heap.size w A ∧ A.heap[w.heap.size]? = some (.cells #[.slice a h.ws.length cap, .int .i64 h.half, .int .i64 h.base, .int .i64 h.next] 24 (0, 0)) ∧ w.heap.size < A.heap.size) := by
    show _ ∧ _ ∧ _
    rw [hA]
    exact ⟨new_below _ _, heap_alloc_last _ _, by simp⟩
  have HCE : Hid (∀ wq, Below A.heap.size A wq → wq.cell? ⟨w.heap.size, 0, none⟩ = some (.slice a h.ws.length cap) ∧ wq.cell? ⟨w.heap.size, 1, none⟩ = some (.int .i64 h.half) ∧ wq.cell? ⟨w.heap.size, 2, none⟩ = some (.int .i64 h.base) ∧ wq.cell? ⟨w.heap.size, 3, none⟩ = some (.int .i64 h.next)) := fun wq hq => by
    have r := (hq.block _ HA.out.2.2).trans HA.out.2.1
    exact ⟨cell_of_row wq _ 0 _ _ _ r, cell_of_row wq _ 1 _ _ _ r, cell_of_row wq _ 2 _ _ _ r, cell_of_row wq _ 3 _ _ _ r⟩
  go_enter Try.func4, Try.ntmps4
  go_wp2_with fail
  rw [← hA]
  clear hA
  refine (HSZ.out A).mono ?_
  rintro e w1 ⟨rfl, b1⟩
  have B1 : Hid (Below A.heap.size A w1) := b1
  clear b1
  have hl0 : ¬ ((1048576 : Int) - h.ws.length < 0) := by omega
  obtain ⟨c0, c1, c2, c3⟩ := HCE.out w1 B1.out
  go_wp2_with fail
  clear c0 c1 c2 c3
  refine (HTO.out w1 (HA.out.1.trans (B1.out.mono HA.out.1.size))).mono ?_
  rintro e w2 ⟨u1, rfl, b2, o2⟩
  have H2 : Hid (Below A.heap.size A w2 ∧ Own w2 w1.heap.size u1 h.ws) := ⟨B1.out.trans (b2.mono B1.out.size), o2⟩
  clear b2 o2
  go_wp2_with fail
  refine (HS.out u1 w2 H2.out.2.rd).mono ?_
  rintro e w3 ⟨ub0, rfl, ob0, b3⟩
  have H3 : Hid (Below A.heap.size A w3 ∧ Own w3 A.heap.size ub0 r.ks) := ⟨H2.out.1.trans (b3.mono H2.out.1.size), ob0.mono H2.out.1.size⟩
  clear b3 ob0 H2
  obtain ⟨c0, c1, c2, c3⟩ := HCE.out w3 H3.out.1
  go_wp2_with fail
  clear c0 c1 c2 c3
  refine (HTO.out w3 (HA.out.1.trans (H3.out.1.mono HA.out.1.size))).mono ?_
  rintro e w4 ⟨x, rfl, b4, o4⟩
  obtain ⟨px, kx, rfl, -⟩ := o4.rd.shape
  obtain ⟨D, hD⟩ : ∃ D, D = w4.alloc (hpO (.slice px h.ws.length kx) h) := ⟨_, rfl⟩
  obtain ⟨sD, bD, rD⟩ := box_new w4 (.slice px h.ws.length kx) h hD
  have hb4 : Below A.heap.size A w4 := H3.out.1.trans (b4.mono H3.out.1.size)
  have HD : Hid (Below A.heap.size A D ∧ Own D A.heap.size ub0 r.ks ∧ Own D A.heap.size (.slice px h.ws.length kx) h.ws ∧ BoxAt D w4.heap.size (.slice px h.ws.length kx) h ∧ A.heap.size ≤ w4.heap.size) := ⟨hb4.trans (bD.mono hb4.size), (H3.out.2.below b4).below bD, (o4.mono H3.out.1.size).below bD, rD, hb4.size⟩
  have N0 : Hid (∀ k, ub0.ownBlock = some k → A.heap.size ≤ k ∧ k < w3.heap.size) := fun k hk => H3.out.2.lt k hk
  have NX : Hid (∀ k, (Value.slice px h.ws.length kx).ownBlock = some k → w3.heap.size ≤ k ∧ k < w4.heap.size) := fun k hk => o4.lt k hk
  have NW : Hid (A.heap.size ≤ w3.heap.size ∧ w4.heap.size < D.heap.size ∧ w3.heap.size ≤ w4.heap.size) := ⟨H3.out.1.size, by omega, b4.size⟩
  clear b4 o4 sD bD rD hb4 H3
  go_wp2_with fail
  rw [← hD]
  clear hD
  refine (HI.out _ D HD.out.2.2.1.rd).mono ?_
  rintro e w5 ⟨ub1, rfl, ob1, b5⟩
  have H5 : Hid (Below A.heap.size A w5 ∧ Own w5 A.heap.size ub0 r.ks ∧ Own w5 A.heap.size ub1 r.ks ∧ BoxAt w5 w4.heap.size (.slice px h.ws.length kx) h ∧ Own w5 A.heap.size (.slice px h.ws.length kx) h.ws) := ⟨HD.out.1.trans (b5.mono HD.out.1.size), HD.out.2.1.below b5, ob1.mono HD.out.1.size, HD.out.2.2.2.1.below b5 HD.out.2.2.2.1.lt, HD.out.2.2.1.below b5⟩
  have N1 : Hid (∀ k, ub1.ownBlock = some k → D.heap.size ≤ k) := fun k hk => (ob1.lt k hk).1
  have NA : Hid (A.heap.size ≤ w4.heap.size) := HD.out.2.2.2.2
  clear b5 ob1 HD
  have HEQ : Hid (∀ (ua ub : Value) (wq : World), Own wq A.heap.size ua r.ks → Own wq A.heap.size ub r.ks → Calls Try.prog 16 #[ua, ub] wq fun e w' => e = .returned (.bool true) ∧ Below wq.heap.size wq w') := fun ua ub wq h1 h2 => by
    have := eq_ints r.ks r.ks ua ub wq h1.rd h2.rd HK4.out HK4.out
    rw [same_self] at this
    exact this
  go_wp2_with fail
  refine (HEQ.out ub1 ub0 w5 H5.out.2.2.1 H5.out.2.1).mono ?_
  rintro e w6 ⟨rfl, b6⟩
  have H6 : Hid (Below A.heap.size A w6 ∧ Own w6 A.heap.size ub0 r.ks ∧ Own w6 A.heap.size ub1 r.ks ∧ BoxAt w6 w4.heap.size (.slice px h.ws.length kx) h ∧ Own w6 A.heap.size (.slice px h.ws.length kx) h.ws) := ⟨H5.out.1.trans (b6.mono H5.out.1.size), H5.out.2.1.below b6, H5.out.2.2.1.below b6, H5.out.2.2.2.1.below b6 H5.out.2.2.2.1.lt, H5.out.2.2.2.2.below b6⟩
  clear b6 H5
  have HT6 : Hid (∀ wq, Below w6.heap.size w6 wq → Calls Try.prog 11 #[heapV (.slice a h.ws.length cap) h] wq fun e w' => ∃ u, e = .returned (heapV u h) ∧ Below w6.heap.size w6 w' ∧ Own w' w6.heap.size u h.ws) := fun wq hq =>
    (HTO.out wq ((HA.out.1.trans (H6.out.1.mono HA.out.1.size)).trans (hq.mono (Nat.le_trans HA.out.1.size H6.out.1.size)))).mono (fun e w' hr => by
      obtain ⟨u, h1, h2, h3⟩ := hr
      exact ⟨u, h1, hq.trans (h2.mono hq.size), h3.mono hq.size⟩)
  have HCS : Hid (∀ wq, Below w6.heap.size w6 wq → (fun wq : World => (wq.cell? ⟨w.heap.size, 0, none⟩ = some (.slice a h.ws.length cap) ∧ wq.cell? ⟨w.heap.size, 1, none⟩ = some (.int .i64 h.half) ∧ wq.cell? ⟨w.heap.size, 2, none⟩ = some (.int .i64 h.base) ∧ wq.cell? ⟨w.heap.size, 3, none⟩ = some (.int .i64 h.next)) ∧ (wq.cell? ⟨w4.heap.size, 0, none⟩ = some (.slice px h.ws.length kx) ∧ wq.cell? ⟨w4.heap.size, 1, none⟩ = some (.int .i64 h.half) ∧ wq.cell? ⟨w4.heap.size, 2, none⟩ = some (.int .i64 h.base) ∧ wq.cell? ⟨w4.heap.size, 3, none⟩ = some (.int .i64 h.next))) wq) := fun wq hq => ⟨HCE.out wq (H6.out.1.trans (hq.mono H6.out.1.size)), (H6.out.2.2.2.1.below hq H6.out.2.2.2.1.lt).cells⟩
  go_upto_region 10 with fail
  refine wp_region_held_drew (S := fun wq => (wq.cell? ⟨w.heap.size, 0, none⟩ = some (.slice a h.ws.length cap) ∧ wq.cell? ⟨w.heap.size, 1, none⟩ = some (.int .i64 h.half) ∧ wq.cell? ⟨w.heap.size, 2, none⟩ = some (.int .i64 h.base) ∧ wq.cell? ⟨w.heap.size, 3, none⟩ = some (.int .i64 h.next)) ∧ (wq.cell? ⟨w4.heap.size, 0, none⟩ = some (.slice px h.ws.length kx) ∧ wq.cell? ⟨w4.heap.size, 1, none⟩ = some (.int .i64 h.half) ∧ wq.cell? ⟨w4.heap.size, 2, none⟩ = some (.int .i64 h.base) ∧ wq.cell? ⟨w4.heap.size, 3, none⟩ = some (.int .i64 h.next))) (by kernel_rfl) (show (fun wq : World => (wq.cell? ⟨w.heap.size, 0, none⟩ = some (.slice a h.ws.length cap) ∧ wq.cell? ⟨w.heap.size, 1, none⟩ = some (.int .i64 h.half) ∧ wq.cell? ⟨w.heap.size, 2, none⟩ = some (.int .i64 h.base) ∧ wq.cell? ⟨w.heap.size, 3, none⟩ = some (.int .i64 h.next)) ∧ (wq.cell? ⟨w4.heap.size, 0, none⟩ = some (.slice px h.ws.length kx) ∧ wq.cell? ⟨w4.heap.size, 1, none⟩ = some (.int .i64 h.half) ∧ wq.cell? ⟨w4.heap.size, 2, none⟩ = some (.int .i64 h.base) ∧ wq.cell? ⟨w4.heap.size, 3, none⟩ = some (.int .i64 h.next))) w6.drew from HCS.out w6.drew (Below.refl _ _).drew) (fun HS0 => ?_)
  refine wpAnyH_take (i := 0) (oi := { dst := some 65, op := Op.load 27 (Operand.tmp 10), type := 27, pos := "exact.go:3815", after := #[], guard := none }) (v := (heapV (.slice px h.ws.length kx) h)) rfl (by kernel_rfl) (by kernel_rfl) (by kernel_rfl) (fun _ _ _ h => h) (Or.inl ⟨by rfl, ?_⟩) HS0 ?_
  · intro wq hSq
    obtain ⟨d0, d1, d2, d3⟩ := hSq.2
    clear hSq
    go_simp
  try simp only [Act.put, List.setIfInBounds_toArray, List.set_cons_zero, List.set_cons_succ]
  refine wpAnyH_take (i := 1) (oi := { dst := some 66, op := Op.load 24 (Operand.tmp 2), type := 24, pos := "exact.go:3815", after := #[], guard := none }) (v := (heapV (.slice a h.ws.length cap) h)) rfl (by kernel_rfl) (by kernel_rfl) (by kernel_rfl) (fun _ _ _ h => h) (Or.inl ⟨by rfl, ?_⟩) HS0 ?_
  · intro wq hSq
    obtain ⟨c0, c1, c2, c3⟩ := hSq.1
    clear hSq
    go_simp
  try simp only [Act.put, List.setIfInBounds_toArray, List.set_cons_zero, List.set_cons_succ]
  refine wpAnyH_ready (rs := [2]) (by kernel_rfl) (by simp) ?_
  refine AllReadyH.cons (o := { dst := some 67, op := Op.call { callee := Callee.value (Operand.func 11), args := #[Operand.tmp 66], argTypes := #[24] }, type := 27, pos := "exact.go:3815", after := #[{ on := 1, ground := Ground.data }], guard := none }) rfl (fun KK hK => ?rg1) AllReadyH.nil
  refine step_call1 rfl 11 _ _ rfl toheap_enter (heapV (.slice a h.ws.length cap) h) rfl _ (HT6.out w6.drew (Below.refl _ _).drew) ?_
  rintro e w7 ⟨u7, rfl, b7, o7⟩
  refine ⟨_, rfl, ?_⟩
  have hs7 : (fun wq : World => (wq.cell? ⟨w.heap.size, 0, none⟩ = some (.slice a h.ws.length cap) ∧ wq.cell? ⟨w.heap.size, 1, none⟩ = some (.int .i64 h.half) ∧ wq.cell? ⟨w.heap.size, 2, none⟩ = some (.int .i64 h.base) ∧ wq.cell? ⟨w.heap.size, 3, none⟩ = some (.int .i64 h.next)) ∧ (wq.cell? ⟨w4.heap.size, 0, none⟩ = some (.slice px h.ws.length kx) ∧ wq.cell? ⟨w4.heap.size, 1, none⟩ = some (.int .i64 h.half) ∧ wq.cell? ⟨w4.heap.size, 2, none⟩ = some (.int .i64 h.base) ∧ wq.cell? ⟨w4.heap.size, 3, none⟩ = some (.int .i64 h.next))) w7 := HCS.out w7 b7
  refine hK.out _ _ hs7 (fun _ => ?_)
  clear hK KK
  try simp only [Act.put, List.setIfInBounds_toArray, List.set_cons_zero, List.set_cons_succ]
  refine wpAnyH_ready (rs := [3]) (by kernel_rfl) (by simp) ?_
  refine AllReadyH.cons (o := { dst := some 68, op := Op.call { callee := Callee.value (Operand.func 13), args := #[Operand.tmp 65, Operand.tmp 67], argTypes := #[27, 27] }, type := 4, pos := "exact.go:3815", after := #[{ on := 0, ground := Ground.data }, { on := 2, ground := Ground.data }, { on := 2, ground := Ground.chain }], guard := none }) rfl (fun KK hK => ?rg2) AllReadyH.nil
  refine step_call2 rfl 13 _ _ _ _ rfl eqheap_enter (heapV (.slice px h.ws.length kx) h) (heapV u7 h) rfl rfl _ (eq_heap h _ u7 w7 (H6.out.2.2.2.2.below b7).rd o7.rd HL.out) ?_
  rintro e w8 ⟨rfl, b8⟩
  refine ⟨_, rfl, ?_⟩
  have B8 := hid_h17 (b7.trans (b8.mono b7.size))
  have hs8 : (fun wq : World => (wq.cell? ⟨w.heap.size, 0, none⟩ = some (.slice a h.ws.length cap) ∧ wq.cell? ⟨w.heap.size, 1, none⟩ = some (.int .i64 h.half) ∧ wq.cell? ⟨w.heap.size, 2, none⟩ = some (.int .i64 h.base) ∧ wq.cell? ⟨w.heap.size, 3, none⟩ = some (.int .i64 h.next)) ∧ (wq.cell? ⟨w4.heap.size, 0, none⟩ = some (.slice px h.ws.length kx) ∧ wq.cell? ⟨w4.heap.size, 1, none⟩ = some (.int .i64 h.half) ∧ wq.cell? ⟨w4.heap.size, 2, none⟩ = some (.int .i64 h.base) ∧ wq.cell? ⟨w4.heap.size, 3, none⟩ = some (.int .i64 h.next))) w8 := HCS.out w8 B8.out
  refine hK.out _ _ hs8 (fun _ => ?_)
  clear hK KK
  try simp only [Act.put, List.setIfInBounds_toArray, List.set_cons_zero, List.set_cons_succ]
  refine wpAnyH_take (i := 4) (oi := { dst := some 69, op := Op.unOp UnOp.not 4 (Operand.tmp 68), type := 4, pos := "exact.go:3815", after := #[{ on := 3, ground := Ground.data }], guard := none }) (v := (.bool false)) rfl (by kernel_rfl) (by kernel_rfl) (by kernel_rfl) (fun _ _ _ h => h) (Or.inl ⟨by rfl, ?_⟩) hs8 ?_
  · intro wq hSq
    clear hSq
    go_simp
  try simp only [Act.put, List.setIfInBounds_toArray, List.set_cons_zero, List.set_cons_succ]
  refine wpAnyH_done (by kernel_rfl) ?_ _
  clear hs7 hs8 b7 o7 b8
  have H8 : Hid (Below A.heap.size A w8 ∧ Own w8 A.heap.size ub0 r.ks ∧ Own w8 A.heap.size ub1 r.ks ∧ BoxAt w8 w4.heap.size (.slice px h.ws.length kx) h ∧ Own w8 A.heap.size (.slice px h.ws.length kx) h.ws) := ⟨H6.out.1.trans (B8.out.mono H6.out.1.size), H6.out.2.1.below B8.out, H6.out.2.2.1.below B8.out, H6.out.2.2.2.1.below B8.out H6.out.2.2.2.1.lt, H6.out.2.2.2.2.below B8.out⟩
  clear B8 HCS HT6 H6
  obtain ⟨d0, d1, d2, d3⟩ := H8.out.2.2.2.1.cells
  go_wp2_with fail
  clear d0 d1 d2 d3
  refine (mark_heap h (.slice px h.ws.length kx) A.heap.size 1 w8 H8.out.2.2.2.2 HL.out (by omega)).mono ?_
  rintro e w9 ⟨rfl, o9, g9⟩
  have nb : some w4.heap.size ≠ (Value.slice px h.ws.length kx).ownBlock := fun hh => by have := NX.out _ hh.symm; omega
  have H9 : Hid (Below A.heap.size A w9 ∧ Own w9 A.heap.size ub0 r.ks ∧ Own w9 A.heap.size ub1 r.ks) := ⟨H8.out.1.grown g9 H8.out.1.size (fun k hk => by have := (NX.out k hk).1; have := NW.out.1; omega), H8.out.2.1.kept g9 (fun k h1 h2 => by have := (N0.out k h1).2; have := (NX.out k h2).1; omega), H8.out.2.2.1.kept g9 (fun k h1 h2 => by have := N1.out k h1; have := (NX.out k h2).2; have := NW.out.2; omega)⟩
  have hk9 : ¬ (((1 + h.ws.length : Nat) : Int) < 0) := by omega
  have hkk : ∃ z : Int, ((1 + h.ws.length : Nat) : Int) = z ∧ ¬ z < 0 := ⟨_, rfl, hk9⟩
  obtain ⟨z9, hz9, hz0⟩ := hkk
  rw [hz9]
  clear o9 g9 nb hk9 hz9 H8
  go_wp2_with fail
  refine (HEQ.out ub1 ub0 w9 H9.out.2.2 H9.out.2.1).mono ?_
  rintro e w10 ⟨rfl, b10⟩
  have H10 : Hid (Below A.heap.size A w10 ∧ Own w10 A.heap.size ub0 r.ks ∧ Own w10 A.heap.size ub1 r.ks) := ⟨H9.out.1.trans (b10.mono H9.out.1.size), H9.out.2.1.below b10, H9.out.2.2.below b10⟩
  clear b10 H9
  go_wp2_with fail
  refine (mark_ints ub1 A.heap.size r.ks 1 w10 H10.out.2.2 HK4.out (by omega)).mono ?_
  rintro e w11 ⟨rfl, o11, g11⟩
  have H11 : Hid (Below A.heap.size A w11 ∧ Own w11 A.heap.size ub0 r.ks ∧ Own w11 A.heap.size ub1 (marksI 1 r.ks.length)) := ⟨H10.out.1.grown g11 H10.out.1.size (fun k hk => by have := N1.out k hk; have := NW.out.2; have := NA.out; omega), H10.out.2.1.kept g11 (fun k h1 h2 => by have := (N0.out k h1).2; have := N1.out k h2; have := NW.out.2; omega), o11⟩
  have hm10 : ((1 + r.ks.length : Nat) : Int) = 1 + (r.ks.length : Int) := by omega
  have HQ : Hid (∀ w1, Rd w1 ub1 (marksI 1 r.ks.length) → Calls Try.prog 19 #[ub1, .int .i64 1] w1 fun e w' => e = .returned (.int .i64 (1 + (r.ks.length : Int))) ∧ w' = w1) := fun w1 hr => by
    have := held_ints r.ks.length ub1 1 w1 hr HK4.out (by omega)
    rw [hm10] at this
    exact this
  rw [hm10]
  have hL0 : r.ks.length ≤ 64 := HKL.out
  clear o11 g11 hm10 H10
  obtain ⟨q, hq⟩ : ∃ q, q = r.ks.length := ⟨_, rfl⟩
  rw [← hq] at HQ H11 hL0 ⊢
  clear hq
  go_wp2_with fail
  refine (HQ.out w11 H11.out.2.2.rd).mono ?_
  rintro e w12 ⟨rfl, hw12⟩
  subst w12
  obtain ⟨c0, c1, c2, c3⟩ := HCE.out w11 H11.out.1
  go_wp2_with fail
  clear c0 c1 c2 c3
  refine (HTO.out w11 (HA.out.1.trans (H11.out.1.mono HA.out.1.size))).mono ?_
  rintro e w13 ⟨u13, rfl, b13, o13⟩
  have H13 : Hid (Below A.heap.size A w13 ∧ Own w13 A.heap.size ub0 r.ks ∧ Own w13 A.heap.size ub1 (marksI 1 q) ∧ Own w13 w11.heap.size u13 h.ws) := ⟨H11.out.1.trans (b13.mono H11.out.1.size), H11.out.2.1.below b13, H11.out.2.2.below b13, o13⟩
  clear b13 o13 H11
  go_wp2_with fail
  refine (HI.out u13 w13 H13.out.2.2.2.rd).mono ?_
  rintro e w14 ⟨ub2, rfl, ob2, b14⟩
  have H14 : Hid (Below A.heap.size A w14 ∧ Own w14 A.heap.size ub0 r.ks ∧ Own w14 A.heap.size ub1 (marksI 1 q) ∧ Own w14 A.heap.size ub2 r.ks) := ⟨H13.out.1.trans (b14.mono H13.out.1.size), H13.out.2.1.below b14, H13.out.2.2.1.below b14, ob2.mono H13.out.1.size⟩
  clear b14 ob2 H13
  go_wp2_with fail
  refine (HEQ.out ub2 ub0 w14 H14.out.2.2.2 H14.out.2.1).mono ?_
  rintro e w15 ⟨rfl, b15⟩
  have H15 : Hid (Below w.heap.size w w15 ∧ Own w15 A.heap.size ub1 (marksI 1 q)) := ⟨(HA.out.1.trans (H14.out.1.mono HA.out.1.size)).trans (b15.mono (Nat.le_trans HA.out.1.size H14.out.1.size)), H14.out.2.2.1.below b15⟩
  clear b15 H14
  go_wp2_with fail
  refine (HQ.out w15 H15.out.2.rd).mono ?_
  rintro e w16 ⟨rfl, hw16⟩
  subst w16
  go_wp2_with fail
  go_ret
  exact ⟨rfl, H15.out.1⟩

set_option maxHeartbeats 1000000 in
theorem walk_out (a : Option Addr) (len cap : Nat) (x y z p : Int) (w : World) (hl : ¬ len ≤ 1048576) (hm : len ≤ maxLen) :
    Calls Try.prog 4 #[.agg #[.slice a len cap, .int .i64 x, .int .i64 y, .int .i64 z], .int .i64 p] w fun e w' => e = .returned (.bool true) ∧ Below w.heap.size w w' := by
  have HSZ : Hid (∀ w1, Calls Try.prog 9 #[.agg #[.slice a len cap, .int .i64 x, .int .i64 y, .int .i64 z], .int .i64 1048576] w1 fun e w' => e = .returned (.int .i64 (-1)) ∧ Below w1.heap.size w1 w') := fun w1 => sz_heap_no a len cap x y z w1 hl hm
  clear hm hl
  obtain ⟨A, hA⟩ : ∃ A, A = w.alloc (.cells #[.slice a len cap, .int .i64 x, .int .i64 y, .int .i64 z] 24) := ⟨_, rfl⟩
  have HA : Hid (Below w.heap.size w A) := by show Below _ _ _; rw [hA]; exact new_below _ _
  go_enter Try.func4, Try.ntmps4
  go_wp2_with fail
  rw [← hA]
  clear hA
  refine (HSZ.out A).mono ?_
  rintro e w1 ⟨rfl, b1⟩
  have B1 : Hid (Below w.heap.size w w1) := HA.out.trans (b1.mono HA.out.size)
  clear b1
  go_wp2_with fail
  go_ret
  exact ⟨rfl, B1.out⟩

theorem walk (a0 : Option Addr) (len0 cap0 : Nat) (z0 : List Int) (x y z p : Int) (w : World) (w0 : IsRow w a0 len0 cap0 z0) :
    Calls Try.prog 4 #[.agg #[.slice a0 len0 cap0, .int .i64 x, .int .i64 y, .int .i64 z], .int .i64 p] w fun e w' => e = .returned (.bool true) ∧ Below w.heap.size w w' := by
  by_cases hl : len0 ≤ 1048576
  · obtain ⟨xs, hx, hr, hs⟩ := w0.rs64
    exact walk_in ⟨xs, x, y, z⟩ p _ w hr (by simp only; omega) hs
  · refine walk_out a0 len0 cap0 x y z p w hl ?_
    rcases w0 with ⟨_, h, _⟩ | ⟨_, _, h1, h2, _⟩
    · omega
    · omega

set_option maxRecDepth 100000 in
theorem lifted (os : Os) (started : os.Started) (H : Type) (enc : TypeId × Value → H) :
    ReturnsInHanded {} Try.checked os 4 .any (Rows.fnExactBlockAtSpec.pre6 enc Try.prog Try.f4 Rows.fnExactBlockAtRow.domain false) (Rows.fnExactBlockAtSpec.post enc Try.prog Try.f4 false true false false) := by
  refine returnsInHanded_of_change (C := Try.checked) own started (by kernel_rfl) Try.func4
    (ChangeSpec.witness6 (enc := enc) (C := Try.checked) false ⟨#[], #[.agg #[.slice none 0 0, .int .i64 0, .int .i64 0, .int .i64 0], .int .i64 0], []⟩ 8 (by kernel_rfl) (by kernel_rfl) (by kernel_rfl) (by kernel_rfl)) ?_
  intro W base args ds gs before hval0 hW _ _
  have hval : ∀ (j : Nat) t v, Try.f4.params[j]? = some t → args[j]? = some v → Value.okWide Try.prog W .any base t v := hval0
  have hW' := hW
  have hlt := fun x hx => DataW.Whole.lt hW x hx
  obtain ⟨p, q, hA0, hV, rfl, hfz, hnd⟩ := hW
  have hA : DataW.TrodAll enc Try.prog W 0 (fun _ => true) true Try.f4.params.toList args.toList ds p := hA0
  rw [Try.params4] at hA hval
  obtain ⟨v0, vs0, d0, ds0, p0, q0, hargs, rfl, rfl, h0, r0⟩ := trodAll_cons hA
  obtain ⟨v1, vs1, d1, ds1, p1, q1, rfl, rfl, rfl, h1, r1⟩ := trodAll_cons r0
  obtain ⟨rfl, rfl, rfl⟩ := trodAll_nil r1
  obtain rfl : args = #[v0, v1] := by cases args; simp_all
  obtain ⟨rfl, rfl⟩ := trodVars_none hV
  obtain ⟨pp, rfl, rfl, rfl, wp⟩ := open_int Try.underlying3 (hval 1 3 v1 rfl rfl) h1
  obtain ⟨a, len, cap, zs, x, y, z, rfl, hr⟩ := opened (hval 0 24 v0 rfl rfl) h0
  clear hA0 hval0
  simp only [List.append_nil] at hW' hlt
  refine (walk a len cap zs x y z pp W hr).mono fun e W' ⟨he, bel⟩ => ?_
  subst he
  have kk := fun (sp' : Nat → Bool) (hsp : ∀ x ∈ p0, sp' x.block = true) => Go.WideElems.Trod_stays laidOut (by kernel_rfl) (of_decide_eq_true (by kernel_rfl)) h0 (fun x hx => bel.same (hlt x hx)) hsp
  refine ⟨_, rfl, _, _, _, [], p0, [], hW', trodAll_mk1 (shut_bool Try.underlying4 _), ?_, rfl, bel.frame _, fun h => by cases h⟩
  have hk := trodAll_cons_mk (kk (fun b => decide (b < W.heap.size)) (fun x hx => decide_eq_true (hlt x hx))) (trodAll_cons_mk (shut_int Try.underlying3 wp) trodAll_mk0)
  simp only [List.append_nil] at hk
  exact hk

theorem over : Rows.fnExactBlockAtRow.holds Try.pinned (OpenSpec.ofChange Rows.fnExactBlockAtSpec) :=
  OpenClaim.holds_of_wide 4 Try.f4 rfl rfl rfl rfl rfl rfl rfl ⟨rfl, rfl, rfl, rfl, rfl⟩ rfl rfl rfl rfl rfl (by kernel_rfl) Try.func4 (by kernel_rfl)
    (of_decide_eq_true (by kernel_rfl)) (by unfold Func.isWrapper; first | (rw [if_pos (by decide +kernel)]; kernel_rfl) | (rw [if_neg (by decide +kernel)]; exact ⟨rfl, rfl⟩))
    (fun os started H enc _ => lifted os started H enc)

/-- The statement. -/
theorem proved : Rows.FnExactBlockAtSaid := over
#print axioms proved
end Go.Proofs.Ytgcegjgjegkahab.fnExactBlockAt
