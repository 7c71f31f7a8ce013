/- impl.copyHeap, impl.newHeapWork. Conditions: at most 2^22 words; the heap's halves are right. -/
import Derived.Test.YtgcegjgjegkahabWork17
namespace Go.Proofs.Ytgcegjgjegkahab
open Go.ChangeShapes Go.WideShapes Go.ChangeAt Go.RowKit

theorem results_cell17 {fn : Func} {p : Tmp} {ty : TypeId} (h : fn.results = #[.cell p ty]) (tmps : Array Value) (P : Program) (w : World) :
    (results fn tmps).run P w = ((asAddr (tmps.getD p undef)).run P w).andThen fun a w₁ => (loadVar ty a).run P w₁ := by
  simp only [results, h]
  simp [Sem.run_bind, Result.andThen]

/-- What answers a heap of its own gives. -/
def HeapRet (B : Nat) (w : World) (h : Hp) (e : Ending) (w' : World) : Prop := ∃ u, e = .returned (heapV u h) ∧ Own w' B u h.ws ∧ Below B w w'

set_option maxRecDepth 100000 in
set_option maxHeartbeats 1000000 in
theorem impl_copyheap (h : Hp) (v : Value) (w : World) (hv : Rd w v h.ws) (hl : h.ws.length ≤ 4194304) :
    Calls Try.prog 66 #[heapV v h] w (HeapRet w.heap.size w h) := by
  obtain ⟨ws, half, base, next⟩ := h
  have HC : Hid (∀ wq, Below w.heap.size w wq → Calls Try.prog 60 #[v] wq fun e w' => ∃ u, e = .returned u ∧ Own w' wq.heap.size u ws ∧ Below wq.heap.size wq w') := fun wq hq => clone17 ws v wq (hv.below hq) hl
  obtain ⟨p, cap, rfl, -⟩ := hv.shape
  clear hv hl
  obtain ⟨POST, hPO⟩ : ∃ P, P = HeapRet w.heap.size w ⟨ws, half, base, next⟩ := ⟨_, rfl⟩
  rw [← hPO]
  have HP : Hid (POST = HeapRet w.heap.size w ⟨ws, half, base, next⟩) := hPO
  clear hPO
  obtain ⟨A, hA⟩ : ∃ A, A = (w.alloc (hpO (.slice p ws.length cap) ⟨ws, half, base, next⟩)).alloc (.cells #[.slice none 0 0, .int .i64 0, .int .i64 0, .int .i64 0] 27) := ⟨_, rfl⟩
  have HA : Hid (Below w.heap.size w A ∧ A.heap.size = w.heap.size + 2 ∧ BoxAt A w.heap.size (.slice p ws.length cap) ⟨ws, half, base, next⟩ ∧ A.heap[w.heap.size + 1]? = some (.cells #[.slice none 0 0, .int .i64 0, .int .i64 0, .int .i64 0] 27 (0, 0))) := by
    show _ ∧ _ ∧ _ ∧ _
    rw [hA]
    refine ⟨((Below.refl _ _).alloc (Nat.le_refl _) _).alloc (by simp) _, by simp, (Below.heap_alloc _ _ _ (by simp)).trans (heap_alloc_last _ _), ?_⟩
    have := heap_alloc_last (w.alloc (hpO (.slice p ws.length cap) ⟨ws, half, base, next⟩)) (.cells #[.slice none 0 0, .int .i64 0, .int .i64 0, .int .i64 0] 27)
    simpa using this
  have HSA : Hid (w.heap.size ≤ A.heap.size) := HA.out.1.size
  go_enter Try.func66, Try.ntmps66
  go_wp2_with fail
  rw [← hA]
  clear hA
  refine (HC.out A HA.out.1).mono ?_
  rintro e w1 ⟨u, rfl, ho, hb⟩
  obtain ⟨pu, cu, rfl, -⟩ := ho.rd.shape
  have r0 := (hb.block _ (by have := HA.out.2.1; omega)).trans HA.out.2.2.1
  have r1 := (hb.block _ (by have := HA.out.2.1; omega)).trans HA.out.2.2.2
  obtain ⟨a0, a1, a2, a3⟩ := BoxAt.cells (w := w1) r0
  have f0 := frozen_of_row w1 _ 0 _ _ r0
  have b0 := cell_of_row w1 _ 0 _ _ _ r1
  have b1 := cell_of_row w1 _ 1 _ _ _ r1
  have b2 := cell_of_row w1 _ 2 _ _ _ r1
  have b3 := cell_of_row w1 _ 3 _ _ _ r1
  have g0 := frozen_of_row w1 _ 0 _ _ r1
  have g1 := frozen_of_row w1 _ 1 _ _ r1
  have g2 := frozen_of_row w1 _ 2 _ _ r1
  have g3 := frozen_of_row w1 _ 3 _ _ r1
  have HO : Hid (Own w1 w.heap.size (.slice pu ws.length cu) ws) := ho.mono HSA.out
  have HB : Hid (Below w.heap.size w w1) := HA.out.1.trans (hb.mono HSA.out)
  have HN0 : Hid ((Value.slice pu ws.length cu).ownBlock ≠ some w.heap.size) := fun hh => by have := (ho.lt _ hh).1; have := HA.out.2.1; omega
  have HN1 : Hid ((Value.slice pu ws.length cu).ownBlock ≠ some (w.heap.size + 1)) := fun hh => by have := (ho.lt _ hh).1; have := HA.out.2.1; omega
  clear ho hb r0 r1
  go_wp2_with fail
  refine bodyPost_ret (v := heapV (.slice pu ws.length cu) ⟨ws, half, base, next⟩) (by rw [results_cell17 (p := 2) (ty := 27) (by kernel_rfl)]; simp [go_sem, b0, b1, b2, b3]) rfl ?_
  rw [HP.out]
  refine ⟨_, rfl, ?_, ?_⟩
  · exact ownsRow_setCell_other (ownsRow_setCell_other (ownsRow_setCell_other (ownsRow_setCell_other (ownsRow_setCell_other HO.out HN0.out _) HN1.out _) HN1.out _) HN1.out _) HN1.out _
  · have h1 : w.heap.size ≤ w.heap.size + 1 := by omega
    exact ((((HB.out.setCell (Nat.le_refl _) _).setCell h1 _).setCell h1 _).setCell h1 _).setCell h1 _
/-- What newHeapWork answers. -/
def WorkRet (w : World) (h : Hp) (e : Ending) (w' : World) : Prop :=
  ∃ H u, e = .returned (.pointer (some ⟨H, 0, none⟩)) ∧ w.heap.size ≤ H ∧ WorkAt w' H 0 (if h.base = 0 then 0 else 1) u h.half (h.next - h.base) ∧ Own w' w.heap.size u h.ws ∧ u.ownBlock ≠ some H ∧ Below w.heap.size w w'
theorem hid17 {P : Prop} (h : P) : Hid P := h
theorem work_set2 {w : World} {H : Nat} {g m : Int} {v : Value} {half used x : Int} (h : WorkAt w H g m v half used) : WorkAt (w.setCell ⟨H, 2, none⟩ (.int .i64 x)) H g x v half used := by
  exact heap_setCell_same w H 2 _ _ _ h

set_option maxRecDepth 100000 in
set_option maxHeartbeats 2000000 in
theorem impl_newwork (h : Hp) (v : Value) (w : World) (hv : Rd w v h.ws) (hl : h.ws.length ≤ 4194304) (hbs : h.base = 0 ∨ h.base ≠ 0 ∧ True) (hnx : -1000000 ≤ h.next ∧ h.next ≤ 1000000 ∧ -1000000 ≤ h.base ∧ h.base ≤ 1000000) :
    Calls Try.prog 67 #[heapV v h] w (WorkRet w h) := by
  obtain ⟨ws, half, base, next⟩ := h
  obtain ⟨p, cap, rfl, -⟩ := id hv.shape
  obtain ⟨POST, hPO⟩ : ∃ P, P = WorkRet w ⟨ws, half, base, next⟩ := ⟨_, rfl⟩
  rw [← hPO]
  have HP : Hid (POST = WorkRet w ⟨ws, half, base, next⟩) := hPO
  clear hPO
  simp only at hbs hnx
  obtain ⟨n1, n2, n3, n4⟩ := hnx
  obtain ⟨A, hA⟩ : ∃ A, A = w.alloc (hpO (.slice p ws.length cap) ⟨ws, half, base, next⟩) := ⟨_, rfl⟩
  obtain ⟨sA, bA, rA⟩ := box_new w (.slice p ws.length cap) ⟨ws, half, base, next⟩ hA
  have HA : Hid (A.heap.size = w.heap.size + 1 ∧ Below w.heap.size w A) := ⟨sA, bA⟩
  have HX : Hid (∀ wq, Below A.heap.size A wq → BoxAt wq w.heap.size (.slice p ws.length cap) ⟨ws, half, base, next⟩) := fun wq hq => rA.below hq rA.lt
  have HC : Hid (∀ wq, Below A.heap.size A wq → Calls Try.prog 60 #[.slice p ws.length cap] wq fun e w' => ∃ u, e = .returned u ∧ Own w' A.heap.size u ws ∧ Below A.heap.size A w') := fun wq hq =>
    (clone17 ws (.slice p ws.length cap) wq (hv.below (bA.trans (hq.mono bA.size))) hl).mono (fun e w' hr => by
      obtain ⟨u, h1, h2, h3⟩ := hr
      exact ⟨u, h1, h2.mono hq.size, hq.trans (h3.mono hq.size)⟩)
  clear sA bA rA hv hl
  go_enter Try.func67, Try.ntmps67
  go_upto_region 1 with fail
  rw [← hA]
  clear hA
  refine wp_region_held_drew (S := fun wq => Below A.heap.size A wq) (by kernel_rfl) (show Below A.heap.size A A.drew from (Below.refl _ _).drew) (fun HS0 => ?_)
  refine wpAnyH_take (i := 0) (oi := { dst := some 4, op := Op.fieldAddr 27 (Operand.tmp 1) 0, type := 0, pos := "l17_heap.go:144", after := #[], guard := none }) (v := (.pointer (some ⟨w.heap.size, 0, none⟩))) rfl (by kernel_rfl) (by kernel_rfl) (by kernel_rfl) (fun _ _ _ h => h) (Or.inl ⟨by rfl, ?_⟩) HS0 ?_
  · intro wq hSq
    clear hSq
    go_simp
  try simp only [Act.put, List.setIfInBounds_toArray, List.set_cons_zero, List.set_cons_succ]
  refine wpAnyH_take (i := 1) (oi := { dst := some 5, op := Op.load 22 (Operand.tmp 4), type := 22, pos := "l17_heap.go:144", after := #[{ on := 0, ground := Ground.data }], guard := none }) (v := (.slice p ws.length cap)) rfl (by kernel_rfl) (by kernel_rfl) (by kernel_rfl) (fun _ _ _ h => h) (Or.inl ⟨by rfl, ?_⟩) HS0 ?_
  · intro wq hSq
    obtain ⟨c0, c1, c2, c3⟩ := (HX.out wq hSq).cells
    clear hSq
    go_simp
  try simp only [Act.put, List.setIfInBounds_toArray, List.set_cons_zero, List.set_cons_succ]
  refine wpAnyH_take (i := 3) (oi := { dst := some 7, op := Op.fieldAddr 27 (Operand.tmp 1) 1, type := 0, pos := "l17_heap.go:144", after := #[], guard := none }) (v := (.pointer (some ⟨w.heap.size, 1, none⟩))) rfl (by kernel_rfl) (by kernel_rfl) (by kernel_rfl) (fun _ _ _ h => h) (Or.inl ⟨by rfl, ?_⟩) HS0 ?_
  · intro wq hSq
    clear hSq
    go_simp
  try simp only [Act.put, List.setIfInBounds_toArray, List.set_cons_zero, List.set_cons_succ]
  refine wpAnyH_take (i := 4) (oi := { dst := some 8, op := Op.load 3 (Operand.tmp 7), type := 3, pos := "l17_heap.go:144", after := #[{ on := 3, ground := Ground.data }], guard := none }) (v := (.int .i64 half)) rfl (by kernel_rfl) (by kernel_rfl) (by kernel_rfl) (fun _ _ _ h => h) (Or.inl ⟨by rfl, ?_⟩) HS0 ?_
  · intro wq hSq
    obtain ⟨c0, c1, c2, c3⟩ := (HX.out wq hSq).cells
    clear hSq
    go_simp
  try simp only [Act.put, List.setIfInBounds_toArray, List.set_cons_zero, List.set_cons_succ]
  refine wpAnyH_take (i := 5) (oi := { dst := some 9, op := Op.fieldAddr 27 (Operand.tmp 1) 3, type := 0, pos := "l17_heap.go:144", after := #[], guard := none }) (v := (.pointer (some ⟨w.heap.size, 3, none⟩))) rfl (by kernel_rfl) (by kernel_rfl) (by kernel_rfl) (fun _ _ _ h => h) (Or.inl ⟨by rfl, ?_⟩) HS0 ?_
  · intro wq hSq
    clear hSq
    go_simp
  try simp only [Act.put, List.setIfInBounds_toArray, List.set_cons_zero, List.set_cons_succ]
  refine wpAnyH_take (i := 6) (oi := { dst := some 10, op := Op.load 3 (Operand.tmp 9), type := 3, pos := "l17_heap.go:144", after := #[{ on := 5, ground := Ground.data }], guard := none }) (v := (.int .i64 next)) rfl (by kernel_rfl) (by kernel_rfl) (by kernel_rfl) (fun _ _ _ h => h) (Or.inl ⟨by rfl, ?_⟩) HS0 ?_
  · intro wq hSq
    obtain ⟨c0, c1, c2, c3⟩ := (HX.out wq hSq).cells
    clear hSq
    go_simp
  try simp only [Act.put, List.setIfInBounds_toArray, List.set_cons_zero, List.set_cons_succ]
  refine wpAnyH_take (i := 7) (oi := { dst := some 11, op := Op.fieldAddr 27 (Operand.tmp 1) 2, type := 0, pos := "l17_heap.go:144", after := #[], guard := none }) (v := (.pointer (some ⟨w.heap.size, 2, none⟩))) rfl (by kernel_rfl) (by kernel_rfl) (by kernel_rfl) (fun _ _ _ h => h) (Or.inl ⟨by rfl, ?_⟩) HS0 ?_
  · intro wq hSq
    clear hSq
    go_simp
  try simp only [Act.put, List.setIfInBounds_toArray, List.set_cons_zero, List.set_cons_succ]
  refine wpAnyH_take (i := 8) (oi := { dst := some 12, op := Op.load 3 (Operand.tmp 11), type := 3, pos := "l17_heap.go:144", after := #[{ on := 7, ground := Ground.data }], guard := none }) (v := (.int .i64 base)) rfl (by kernel_rfl) (by kernel_rfl) (by kernel_rfl) (fun _ _ _ h => h) (Or.inl ⟨by rfl, ?_⟩) HS0 ?_
  · intro wq hSq
    obtain ⟨c0, c1, c2, c3⟩ := (HX.out wq hSq).cells
    clear hSq
    go_simp
  try simp only [Act.put, List.setIfInBounds_toArray, List.set_cons_zero, List.set_cons_succ]
  refine wpAnyH_take (i := 9) (oi := { dst := some 13, op := Op.binOp BinOp.sub 3 (Operand.tmp 10) (Operand.tmp 12) 3, type := 3, pos := "l17_heap.go:144", after := #[{ on := 6, ground := Ground.data }, { on := 8, ground := Ground.data }], guard := none }) (v := (.int .i64 (next - base))) rfl (by kernel_rfl) (by kernel_rfl) (by kernel_rfl) (fun _ _ _ h => h) (Or.inl ⟨by rfl, ?_⟩) HS0 ?_
  · intro wq hSq
    clear hSq
    go_simp; rw [IntKind.wrap_i64]; omega
  try simp only [Act.put, List.setIfInBounds_toArray, List.set_cons_zero, List.set_cons_succ]
  refine wpAnyH_ready (rs := [2]) (by kernel_rfl) (by simp) ?_
  refine AllReadyH.cons (o := { dst := some 6, op := Op.call { callee := Callee.value (Operand.func 60), args := #[Operand.tmp 5], argTypes := #[22] }, type := 22, pos := "l17_heap.go:144", after := #[{ on := 1, ground := Ground.data }], guard := none }) rfl (fun KK hK => ?rg1) AllReadyH.nil
  refine step_call1 rfl 60 _ _ rfl clone17_enter (.slice p ws.length cap) rfl _ (HC.out _ HS0) ?_
  rintro e w5 ⟨u5, rfl, ho5, hb5⟩
  obtain ⟨pu, cu, eu, -⟩ := ho5.rd.shape
  refine ⟨_, rfl, ?_⟩
  subst eu
  refine hK.out _ _ hb5 (fun _ => ?_)
  clear hK KK
  try simp only [Act.put, List.setIfInBounds_toArray, List.set_cons_zero, List.set_cons_succ]
  refine wpAnyH_take (i := 10) (oi := { dst := some 14, op := Op.build 98 #[(2, Operand.tmp 6), (3, Operand.tmp 8), (4, Operand.tmp 13)], type := 98, pos := "l17_heap.go:144", after := #[{ on := 2, ground := Ground.data }, { on := 4, ground := Ground.data }, { on := 9, ground := Ground.data }], guard := none }) (v := (.agg #[.int .i32 0, .int .u32 0, .int .i64 0, .slice pu ws.length cu, .int .i64 half, .int .i64 (next - base)])) rfl (by kernel_rfl) (by kernel_rfl) (by kernel_rfl) (fun _ _ _ h => h) (Or.inl ⟨by rfl, ?_⟩) hb5 ?_
  · intro wq hSq
    clear hSq
    go_simp
  try simp only [Act.put, List.setIfInBounds_toArray, List.set_cons_zero, List.set_cons_succ]
  refine wpAnyH_ready (rs := [11]) (by kernel_rfl) (by simp) ?_
  refine AllReadyH.cons (o := { dst := some 15, op := Op.box 98 (Operand.tmp 14), type := 67, pos := "l17_heap.go:144", after := #[{ on := 10, ground := Ground.data }], guard := none }) rfl (fun KK hK => ?rg2) AllReadyH.nil
  go_simp
  have hb6 : Below A.heap.size A (w5.alloc (workO 0 0 (.slice pu ws.length cu) half (next - base))) := hb5.alloc hb5.size _
  refine hK.out _ _ hb6 (fun _ => ?_)
  clear hK KK
  try simp only [Act.put, List.setIfInBounds_toArray, List.set_cons_zero, List.set_cons_succ]
  refine wpAnyH_take (i := 12) (oi := { dst := some 3, op := Op.assign (Operand.tmp 15), type := 67, pos := "l17_heap.go:144", after := #[{ on := 11, ground := Ground.data }, { on := 2, ground := Ground.chain }, { on := 0, ground := Ground.phase }, { on := 1, ground := Ground.phase }, { on := 2, ground := Ground.phase }, { on := 3, ground := Ground.phase }, { on := 4, ground := Ground.phase }, { on := 5, ground := Ground.phase }, { on := 6, ground := Ground.phase }, { on := 7, ground := Ground.phase }, { on := 8, ground := Ground.phase }, { on := 9, ground := Ground.phase }, { on := 10, ground := Ground.phase }, { on := 11, ground := Ground.phase }], guard := none }) (v := (.pointer (some ⟨w5.heap.size, 0, none⟩))) rfl (by kernel_rfl) (by kernel_rfl) (by kernel_rfl) (fun _ _ _ h => h) (Or.inl ⟨by rfl, ?_⟩) hb6 ?_
  · intro wq hSq
    clear hSq
    go_simp
  try simp only [Act.put, List.setIfInBounds_toArray, List.set_cons_zero, List.set_cons_succ]
  refine wpAnyH_done (by kernel_rfl) ?_ _
  have W6 := heap_alloc_last w5 (workO 0 0 (.slice pu ws.length cu) half (next - base))
  have HO6 := hid17 (ho5.below (new_below w5 (workO 0 0 (.slice pu ws.length cu) half (next - base))))
  obtain ⟨V, hV⟩ : ∃ V, V = w5.alloc (workO 0 0 (.slice pu ws.length cu) half (next - base)) := ⟨_, rfl⟩
  have HV6 := hid17 (show WorkAt V w5.heap.size 0 0 (.slice pu ws.length cu) half (next - base) from by rw [hV]; exact W6)
  rw [← hV] at hb6 HO6 ⊢
  have HB6 := hid17 hb6
  have HN5 := hid17 (show ∀ k, (Value.slice pu ws.length cu).ownBlock = some k → k < w5.heap.size from fun k hk => (ho5.lt k hk).2)
  have HG5 := hid17 (show A.heap.size ≤ w5.heap.size from hb5.size)
  clear hV W6 hb5 hb6 ho5
  obtain ⟨c0, c1, c2, c3⟩ := (HX.out V HB6.out).cells
  obtain ⟨⟨q0, q1, q2, q3, q4, q5⟩, qf⟩ := HV6.out.cells
  have qf2 := qf 2
  clear qf
  rcases hbs with rfl | ⟨hb1, hb2⟩
  · go_wp2_with fail
    rw [HP.out]
    refine ⟨w5.heap.size, _, rfl, by have := HG5.out; have := HA.out.1; omega, by rw [if_pos rfl]; exact HV6.out, (HO6.out.mono (by have := HA.out.1; omega)), (fun hh => by have := HN5.out _ hh; omega), HA.out.2.trans (HB6.out.mono HA.out.2.size)⟩
  · have hd : (base != 0) = true := by rw [bne_iff_ne]; exact hb1
    have hd2 : (base == 0) = false := by rw [beq_eq_false_iff_ne]; exact hb1
    go_wp2_with fail
    refine (impl_add64 w5.heap.size 2 V q2 qf2).mono ?_
    rintro e w7 ⟨rfl, rfl⟩
    have HV7 : Hid (WorkAt (V.setCell ⟨w5.heap.size, 2, none⟩ (.int .i64 1)) w5.heap.size 0 1 (.slice pu ws.length cu) half (next - base)) := work_set2 HV6.out
    have HO7 : Hid (Own (V.setCell ⟨w5.heap.size, 2, none⟩ (.int .i64 1)) A.heap.size (.slice pu ws.length cu) ws) := ownsRow_setCell_other HO6.out (fun hh => by have h9 : w5.heap.size < w5.heap.size := HN5.out _ hh; omega) _
    go_wp2_with fail
    rw [HP.out]
    refine ⟨w5.heap.size, _, rfl, by have := HG5.out; have := HA.out.1; omega, by rw [if_neg hb1]; exact HV7.out, (HO7.out.mono (by have := HA.out.1; omega)), (fun hh => by have := HN5.out _ hh; omega), (HA.out.2.trans (HB6.out.mono HA.out.2.size)).setCell (by have := HG5.out; have := HA.out.1; simp only; omega) _⟩
end Go.Proofs.Ytgcegjgjegkahab
