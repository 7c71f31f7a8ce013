/- (*impl.heapWork).done: the heap that was at work. Conditions: the lock is free; the half is right. Written by wip/tools/mkdone17.py. -/
import Derived.Test.YtgcegjgjegkahabPut17
namespace Go.Proofs.Ytgcegjgjegkahab
open Go.ChangeShapes Go.WideShapes Go.ChangeAt Go.RowKit

set_option maxRecDepth 100000 in
set_option maxHeartbeats 16000000 in
theorem impl_done17 (H g cap : Nat) (m half used : Int) (ws : List Int) (w0 w : World) (hb0 : Below w0.heap.size w0 w) (hH : w0.heap.size ≤ H)
    (hW : WorkAt w H 0 m (.slice (some ⟨g, 0, none⟩) ws.length cap) half used) (hO : Own w w0.heap.size (.slice (some ⟨g, 0, none⟩) ws.length cap) ws) (hgH : g ≠ H)
    (hm : m = 0 ∨ m = 1) (hh0 : 1 ≤ half) (hh1 : half ≤ 3000) (hu0 : 0 ≤ used) (hu1 : used ≤ half) :
    Calls Try.prog 69 #[.pointer (some ⟨H, 0, none⟩)] w fun e w' => e = .returned (heapV (.slice (some ⟨g, 0, none⟩) ws.length cap) ⟨ws, half, m * half, m * half + used⟩) ∧ Own w' w0.heap.size (.slice (some ⟨g, 0, none⟩) ws.length cap) ws ∧ Below w0.heap.size w0 w' := by
  have hmh : 0 ≤ m * half ∧ m * half ≤ half := by rcases hm with rfl | rfl <;> omega
  obtain ⟨POST, hPO⟩ : ∃ P : Ending → World → Prop, P = fun e w' => e = .returned (heapV (.slice (some ⟨g, 0, none⟩) ws.length cap) ⟨ws, half, m * half, m * half + used⟩) ∧ Own w' w0.heap.size (.slice (some ⟨g, 0, none⟩) ws.length cap) ws ∧ Below w0.heap.size w0 w' := ⟨_, rfl⟩
  rw [← hPO]
  have HP := hid17 hPO
  clear hPO
  have HM := hid17 hm
  have HH0 := hid17 hH
  obtain ⟨K, hK⟩ : ∃ K, K = w.heap.size := ⟨_, rfl⟩
  obtain ⟨A, hA⟩ : ∃ A, A = w.alloc (.cells #[.slice none 0 0, .int .i64 0, .int .i64 0, .int .i64 0] 27) := ⟨_, rfl⟩
  have hAB : Below w.heap.size w A := by rw [hA]; exact new_below _ _
  have hAW : WorkAt A H 0 m (.slice (some ⟨g, 0, none⟩) ws.length cap) half used := hW.below hAB
  have hHK : H < K := by rw [hK]; exact hW.lt
  have HHK := hid17 (show H ≠ K by omega)
  have hgK : g ≠ K := by rw [hK]; have := (hO.lt g rfl).2; omega
  have hAK : A.heap[K]? = some (.cells #[.slice none 0 0, .int .i64 0, .int .i64 0, .int .i64 0] 27 (0, 0)) := by rw [hA, hK]; exact heap_alloc_last _ _
  obtain ⟨W3, hW3⟩ : ∃ W3, W3 = A.setCell ⟨H, 0, none⟩ (.int .i32 1) := ⟨_, rfl⟩
  have HW3 := hid17 (show WorkAt W3 H 1 m (.slice (some ⟨g, 0, none⟩) ws.length cap) half used by rw [hW3]; exact work_set0 hAW)
  have HK3 := hid17 (show W3.heap[K]? = some (.cells #[.slice none 0 0, .int .i64 0, .int .i64 0, .int .i64 0] 27 (0, 0)) by rw [hW3]; exact (heap_setCell_other A ⟨H, 0, none⟩ K _ (by simp only; omega)).trans hAK)
  have HKL := hid17 (show K < W3.heap.size from (Array.getElem?_eq_some_iff.1 HK3.out).1)
  have HO3 := hid17 (show Own W3 w0.heap.size (.slice (some ⟨g, 0, none⟩) ws.length cap) ws by rw [hW3]; exact ownsRow_setCell_other (hO.below hAB) (fun h => by injection h with h; exact hgH h) _)
  have HB3 := hid17 (show Below w0.heap.size w0 W3 by rw [hW3]; exact (hb0.trans (hAB.mono hb0.size)).setCell hH _)
  have HK0 := hid17 (show w0.heap.size ≤ K by rw [hK]; exact hb0.size)
  have HGK := hid17 hgK
  have HGH := hid17 hgH
  obtain ⟨⟨a0, _, _, _, _, _⟩, af⟩ := hAW.cells
  have af0 := af 0
  have HBASE : Hid (∀ wq, Below W3.heap.size W3 wq → Calls Try.prog 90 #[.pointer (some ⟨H, 0, none⟩)] wq fun e w' => e = .returned (.int .i64 (m * half)) ∧ Below W3.heap.size W3 w') := fun wq hq =>
    (impl_base17 H 1 m _ half used wq (HW3.out.below hq) HM.out ⟨by omega, hh1⟩).mono (fun e w' hr => by
      obtain ⟨h1, q, h2⟩ := hr
      exact ⟨h1, by rw [h2]; exact belowDrew hq q⟩)
  have hmh0 := hmh.1
  have hmh1 := hmh.2
  clear hW hO hb0 hAB hAW hAK hm hgH af hmh hgK
  generalize hmm : m * half = mh at *
  have HMM := hid17 hmm
  clear hmm
  go_enter_defers Try.func69, Try.ntmps69
  go_wp2_with fail
  rw [← hA]
  clear hA
  refine (Go.MuLone.lock_free Try.muLib ⟨H, 0, none⟩ A a0 af0).mono ?_
  rintro e w1 ⟨rfl, hw1⟩
  rw [← hW3] at hw1
  clear hW3 a0 af0
  subst w1
  go_upto_region 3 with fail
  rw [← hK]
  clear hK
  refine wp_calm17 ?_
  refine wp_region_held_drew (S := fun wq => ∀ j, j < W3.heap.size → j ≠ K → wq.heap[j]? = W3.heap[j]?) (by kernel_rfl) (show (fun wq => ∀ j, j < W3.heap.size → j ≠ K → wq.heap[j]? = W3.heap[j]?) W3.drew from fun _ _ _ => rfl) (fun HS0 => ?_)
  refine wpAnyH_take (i := 0) (oi := { dst := some 10, op := Op.move (Operand.tmp 0), type := 67, pos := "l17_heap.go:173", after := #[{ on := 17, ground := Ground.gcOnly Departure.literalInPlace }], guard := none }) (v := (.pointer (some ⟨H, 0, none⟩))) rfl (by kernel_rfl) (by kernel_rfl) (by kernel_rfl) (fun _ _ _ h => h) (Or.inl ⟨by rfl, ?_⟩) HS0 ?_
  · intro wq hSq
    clear hSq
    go_simp
  try simp only [Act.put, List.setIfInBounds_toArray, List.set_cons_zero, List.set_cons_succ]
  refine wpAnyH_take (i := 1) (oi := { dst := some 11, op := Op.nilCheck (Operand.tmp 10), type := 0, pos := "l17_heap.go:173", after := #[{ on := 0, ground := Ground.data }, { on := 17, ground := Ground.gcOnly Departure.literalInPlace }], guard := none }) (v := (.pointer (some ⟨H, 0, none⟩))) rfl (by kernel_rfl) (by kernel_rfl) (by kernel_rfl) (fun _ _ _ h => h) (Or.inl ⟨by rfl, ?_⟩) HS0 ?_
  · intro wq hSq
    clear hSq
    go_simp
  try simp only [Act.put, List.setIfInBounds_toArray, List.set_cons_zero, List.set_cons_succ]
  refine wpAnyH_take (i := 2) (oi := { dst := some 12, op := Op.fieldAddr 98 (Operand.tmp 11) 2, type := 0, pos := "l17_heap.go:173", after := #[{ on := 1, ground := Ground.data }, { on := 17, ground := Ground.gcOnly Departure.literalInPlace }], guard := none }) (v := (.pointer (some ⟨H, 3, none⟩))) rfl (by kernel_rfl) (by kernel_rfl) (by kernel_rfl) (fun _ _ _ h => h) (Or.inl ⟨by rfl, ?_⟩) HS0 ?_
  · intro wq hSq
    clear hSq
    go_simp
  try simp only [Act.put, List.setIfInBounds_toArray, List.set_cons_zero, List.set_cons_succ]
  refine wpAnyH_take (i := 3) (oi := { dst := some 13, op := Op.load 22 (Operand.tmp 12), type := 22, pos := "l17_heap.go:173", after := #[{ on := 2, ground := Ground.data }, { on := 17, ground := Ground.gcOnly Departure.literalInPlace }], guard := none }) (v := (.slice (some ⟨g, 0, none⟩) ws.length cap)) rfl (by kernel_rfl) (by kernel_rfl) (by kernel_rfl) (fun _ _ _ h => h) (Or.inl ⟨by rfl, ?_⟩) HS0 ?_
  · intro wq hSq
    obtain ⟨⟨c0, c1, c2, c3, c4, c5⟩, cf⟩ := WorkAt.cells (w := wq) ((hSq H HW3.out.lt HHK.out).trans HW3.out)
    clear hSq
    go_simp
  try simp only [Act.put, List.setIfInBounds_toArray, List.set_cons_zero, List.set_cons_succ]
  refine wpAnyH_take (i := 4) (oi := { dst := some 14, op := Op.move (Operand.tmp 0), type := 67, pos := "l17_heap.go:173", after := #[{ on := 19, ground := Ground.gcOnly Departure.literalInPlace }], guard := none }) (v := (.pointer (some ⟨H, 0, none⟩))) rfl (by kernel_rfl) (by kernel_rfl) (by kernel_rfl) (fun _ _ _ h => h) (Or.inl ⟨by rfl, ?_⟩) HS0 ?_
  · intro wq hSq
    clear hSq
    go_simp
  try simp only [Act.put, List.setIfInBounds_toArray, List.set_cons_zero, List.set_cons_succ]
  refine wpAnyH_take (i := 5) (oi := { dst := some 15, op := Op.nilCheck (Operand.tmp 14), type := 0, pos := "l17_heap.go:173", after := #[{ on := 4, ground := Ground.data }, { on := 19, ground := Ground.gcOnly Departure.literalInPlace }], guard := none }) (v := (.pointer (some ⟨H, 0, none⟩))) rfl (by kernel_rfl) (by kernel_rfl) (by kernel_rfl) (fun _ _ _ h => h) (Or.inl ⟨by rfl, ?_⟩) HS0 ?_
  · intro wq hSq
    clear hSq
    go_simp
  try simp only [Act.put, List.setIfInBounds_toArray, List.set_cons_zero, List.set_cons_succ]
  refine wpAnyH_take (i := 6) (oi := { dst := some 16, op := Op.fieldAddr 98 (Operand.tmp 15) 3, type := 0, pos := "l17_heap.go:173", after := #[{ on := 5, ground := Ground.data }, { on := 19, ground := Ground.gcOnly Departure.literalInPlace }], guard := none }) (v := (.pointer (some ⟨H, 4, none⟩))) rfl (by kernel_rfl) (by kernel_rfl) (by kernel_rfl) (fun _ _ _ h => h) (Or.inl ⟨by rfl, ?_⟩) HS0 ?_
  · intro wq hSq
    clear hSq
    go_simp
  try simp only [Act.put, List.setIfInBounds_toArray, List.set_cons_zero, List.set_cons_succ]
  refine wpAnyH_take (i := 7) (oi := { dst := some 17, op := Op.load 3 (Operand.tmp 16), type := 3, pos := "l17_heap.go:173", after := #[{ on := 6, ground := Ground.data }, { on := 19, ground := Ground.gcOnly Departure.literalInPlace }], guard := none }) (v := (.int .i64 half)) rfl (by kernel_rfl) (by kernel_rfl) (by kernel_rfl) (fun _ _ _ h => h) (Or.inl ⟨by rfl, ?_⟩) HS0 ?_
  · intro wq hSq
    obtain ⟨⟨c0, c1, c2, c3, c4, c5⟩, cf⟩ := WorkAt.cells (w := wq) ((hSq H HW3.out.lt HHK.out).trans HW3.out)
    clear hSq
    go_simp
  try simp only [Act.put, List.setIfInBounds_toArray, List.set_cons_zero, List.set_cons_succ]
  refine wpAnyH_take (i := 8) (oi := { dst := some 18, op := Op.move (Operand.tmp 0), type := 67, pos := "l17_heap.go:173", after := #[], guard := none }) (v := (.pointer (some ⟨H, 0, none⟩))) rfl (by kernel_rfl) (by kernel_rfl) (by kernel_rfl) (fun _ _ _ h => h) (Or.inl ⟨by rfl, ?_⟩) HS0 ?_
  · intro wq hSq
    clear hSq
    go_simp
  try simp only [Act.put, List.setIfInBounds_toArray, List.set_cons_zero, List.set_cons_succ]
  refine wpAnyH_take (i := 10) (oi := { dst := some 20, op := Op.move (Operand.tmp 0), type := 67, pos := "l17_heap.go:173", after := #[], guard := none }) (v := (.pointer (some ⟨H, 0, none⟩))) rfl (by kernel_rfl) (by kernel_rfl) (by kernel_rfl) (fun _ _ _ h => h) (Or.inl ⟨by rfl, ?_⟩) HS0 ?_
  · intro wq hSq
    clear hSq
    go_simp
  try simp only [Act.put, List.setIfInBounds_toArray, List.set_cons_zero, List.set_cons_succ]
  refine wpAnyH_take (i := 12) (oi := { dst := some 22, op := Op.move (Operand.tmp 0), type := 67, pos := "l17_heap.go:173", after := #[{ on := 23, ground := Ground.gcOnly Departure.literalInPlace }], guard := none }) (v := (.pointer (some ⟨H, 0, none⟩))) rfl (by kernel_rfl) (by kernel_rfl) (by kernel_rfl) (fun _ _ _ h => h) (Or.inl ⟨by rfl, ?_⟩) HS0 ?_
  · intro wq hSq
    clear hSq
    go_simp
  try simp only [Act.put, List.setIfInBounds_toArray, List.set_cons_zero, List.set_cons_succ]
  refine wpAnyH_take (i := 13) (oi := { dst := some 23, op := Op.nilCheck (Operand.tmp 22), type := 0, pos := "l17_heap.go:173", after := #[{ on := 12, ground := Ground.data }, { on := 23, ground := Ground.gcOnly Departure.literalInPlace }], guard := none }) (v := (.pointer (some ⟨H, 0, none⟩))) rfl (by kernel_rfl) (by kernel_rfl) (by kernel_rfl) (fun _ _ _ h => h) (Or.inl ⟨by rfl, ?_⟩) HS0 ?_
  · intro wq hSq
    clear hSq
    go_simp
  try simp only [Act.put, List.setIfInBounds_toArray, List.set_cons_zero, List.set_cons_succ]
  refine wpAnyH_take (i := 14) (oi := { dst := some 24, op := Op.fieldAddr 98 (Operand.tmp 23) 4, type := 0, pos := "l17_heap.go:173", after := #[{ on := 13, ground := Ground.data }, { on := 23, ground := Ground.gcOnly Departure.literalInPlace }], guard := none }) (v := (.pointer (some ⟨H, 5, none⟩))) rfl (by kernel_rfl) (by kernel_rfl) (by kernel_rfl) (fun _ _ _ h => h) (Or.inl ⟨by rfl, ?_⟩) HS0 ?_
  · intro wq hSq
    clear hSq
    go_simp
  try simp only [Act.put, List.setIfInBounds_toArray, List.set_cons_zero, List.set_cons_succ]
  refine wpAnyH_take (i := 15) (oi := { dst := some 25, op := Op.load 3 (Operand.tmp 24), type := 3, pos := "l17_heap.go:173", after := #[{ on := 14, ground := Ground.data }, { on := 23, ground := Ground.gcOnly Departure.literalInPlace }], guard := none }) (v := (.int .i64 used)) rfl (by kernel_rfl) (by kernel_rfl) (by kernel_rfl) (fun _ _ _ h => h) (Or.inl ⟨by rfl, ?_⟩) HS0 ?_
  · intro wq hSq
    obtain ⟨⟨c0, c1, c2, c3, c4, c5⟩, cf⟩ := WorkAt.cells (w := wq) ((hSq H HW3.out.lt HHK.out).trans HW3.out)
    clear hSq
    go_simp
  try simp only [Act.put, List.setIfInBounds_toArray, List.set_cons_zero, List.set_cons_succ]
  refine wpAnyH_ready (rs := [9]) (by kernel_rfl) (by simp) ?_
  refine AllReadyH.cons (o := { dst := some 19, op := Op.call { callee := Callee.value (Operand.func 90), args := #[Operand.tmp 18], argTypes := #[67] }, type := 3, pos := "l17_heap.go:173", after := #[{ on := 8, ground := Ground.data }], guard := none }) rfl (fun KK hK => ?rf1) AllReadyH.nil
  refine step_call1 rfl 90 _ _ rfl base17_enter (.pointer (some ⟨H, 0, none⟩)) rfl _ (HBASE.out _ (show Below W3.heap.size W3 W3.drew from (Below.refl _ _).drew)) ?_
  rintro e w4 ⟨rfl, Bw4⟩
  refine ⟨_, rfl, ?_⟩
  have hsw4 : (fun wq => ∀ j, j < W3.heap.size → j ≠ K → wq.heap[j]? = W3.heap[j]?) w4 := fun j hj _ => Bw4.block j hj
  refine hK.out _ _ hsw4 (fun _ => ?_)
  clear hK KK
  try simp only [Act.put, List.setIfInBounds_toArray, List.set_cons_zero, List.set_cons_succ]
  refine wpAnyH_ready (rs := [11]) (by kernel_rfl) (by simp) ?_
  refine AllReadyH.cons (o := { dst := some 21, op := Op.call { callee := Callee.value (Operand.func 90), args := #[Operand.tmp 20], argTypes := #[67] }, type := 3, pos := "l17_heap.go:173", after := #[{ on := 10, ground := Ground.data }, { on := 9, ground := Ground.chain }], guard := none }) rfl (fun KK hK => ?rf2) AllReadyH.nil
  refine step_call1 rfl 90 _ _ rfl base17_enter (.pointer (some ⟨H, 0, none⟩)) rfl _ (HBASE.out _ Bw4) ?_
  rintro e w5 ⟨rfl, Bw5⟩
  refine ⟨_, rfl, ?_⟩
  have hsw5 : (fun wq => ∀ j, j < W3.heap.size → j ≠ K → wq.heap[j]? = W3.heap[j]?) w5 := fun j hj _ => Bw5.block j hj
  refine hK.out _ _ hsw5 (fun _ => ?_)
  clear hK KK
  try simp only [Act.put, List.setIfInBounds_toArray, List.set_cons_zero, List.set_cons_succ]
  refine wpAnyH_take (i := 16) (oi := { dst := some 26, op := Op.binOp BinOp.add 3 (Operand.tmp 21) (Operand.tmp 25) 3, type := 3, pos := "l17_heap.go:173", after := #[{ on := 11, ground := Ground.data }, { on := 15, ground := Ground.data }, { on := 23, ground := Ground.gcOnly Departure.literalInPlace }], guard := none }) (v := (.int .i64 (mh + used))) rfl (by kernel_rfl) (by kernel_rfl) (by kernel_rfl) (fun _ _ _ h => h) (Or.inl ⟨by rfl, ?_⟩) hsw5 ?_
  · intro wq hSq
    clear hSq
    go_simp; rw [IntKind.wrap_i64]; omega
  try simp only [Act.put, List.setIfInBounds_toArray, List.set_cons_zero, List.set_cons_succ]
  refine wpAnyH_ready (rs := [17]) (by kernel_rfl) (by simp) ?_
  refine AllReadyH.cons (o := { dst := none, op := Op.store 27 (Operand.tmp 2) (Operand.const (Value.agg #[Value.slice none 0 0, Value.int IntKind.i64 0, Value.int IntKind.i64 0, Value.int IntKind.i64 0])), type := 0, pos := "l17_heap.go:173", after := #[{ on := 11, ground := Ground.chain }, { on := 0, ground := Ground.textOnly Departure.literalInPlace }, { on := 1, ground := Ground.textOnly Departure.literalInPlace }, { on := 2, ground := Ground.textOnly Departure.literalInPlace }, { on := 3, ground := Ground.textOnly Departure.literalInPlace }, { on := 4, ground := Ground.textOnly Departure.literalInPlace }, { on := 5, ground := Ground.textOnly Departure.literalInPlace }, { on := 6, ground := Ground.textOnly Departure.literalInPlace }, { on := 7, ground := Ground.textOnly Departure.literalInPlace }, { on := 8, ground := Ground.textOnly Departure.literalInPlace }, { on := 9, ground := Ground.textOnly Departure.literalInPlace }, { on := 10, ground := Ground.textOnly Departure.literalInPlace }, { on := 11, ground := Ground.textOnly Departure.literalInPlace }, { on := 12, ground := Ground.textOnly Departure.literalInPlace }, { on := 13, ground := Ground.textOnly Departure.literalInPlace }, { on := 14, ground := Ground.textOnly Departure.literalInPlace }, { on := 15, ground := Ground.textOnly Departure.literalInPlace }, { on := 16, ground := Ground.textOnly Departure.literalInPlace }], guard := none }) rfl (fun KK hK => ?rf3) AllReadyH.nil
  have rK := (Bw5.block K HKL.out).trans HK3.out
  have k0 := cell_of_row w5 K 0 _ _ _ rK
  have kf0 := frozen_of_row w5 K 0 _ _ rK
  have k1 := cell_of_row w5 K 1 _ _ _ rK
  have kf1 := frozen_of_row w5 K 1 _ _ rK
  have k2 := cell_of_row w5 K 2 _ _ _ rK
  have kf2 := frozen_of_row w5 K 2 _ _ rK
  have k3 := cell_of_row w5 K 3 _ _ _ rK
  have kf3 := frozen_of_row w5 K 3 _ _ rK
  clear rK
  go_simp
  have hsa : (fun wq => ∀ j, j < W3.heap.size → j ≠ K → wq.heap[j]? = W3.heap[j]?) ((((w5.setCell ⟨K, 0, none⟩ (.slice none 0 0)).setCell ⟨K, 1, none⟩ (.int .i64 0)).setCell ⟨K, 2, none⟩ (.int .i64 0)).setCell ⟨K, 3, none⟩ (.int .i64 0)) := by
    intro j hj hne
    have e := hsw5 j hj hne
    simp only [heap_setCell_other _ _ j _ (show j ≠ (⟨K, 0, none⟩ : Addr).block from hne), heap_setCell_other _ _ j _ (show j ≠ (⟨K, 1, none⟩ : Addr).block from hne), heap_setCell_other _ _ j _ (show j ≠ (⟨K, 2, none⟩ : Addr).block from hne), heap_setCell_other _ _ j _ (show j ≠ (⟨K, 3, none⟩ : Addr).block from hne)]
    exact e
  refine hK.out _ _ hsa (fun _ => ?_)
  clear hK KK
  try simp only [Act.put, List.setIfInBounds_toArray, List.set_cons_zero, List.set_cons_succ]
  refine wpAnyH_take (i := 18) (oi := { dst := some 27, op := Op.fieldAddr 27 (Operand.tmp 2) 0, type := 0, pos := "l17_heap.go:173", after := #[{ on := 0, ground := Ground.phase }, { on := 1, ground := Ground.phase }, { on := 2, ground := Ground.phase }, { on := 3, ground := Ground.phase }, { on := 4, ground := Ground.textOnly Departure.literalInPlace }, { on := 5, ground := Ground.textOnly Departure.literalInPlace }, { on := 6, ground := Ground.textOnly Departure.literalInPlace }, { on := 7, ground := Ground.textOnly Departure.literalInPlace }, { on := 8, ground := Ground.textOnly Departure.literalInPlace }, { on := 9, ground := Ground.textOnly Departure.literalInPlace }, { on := 10, ground := Ground.textOnly Departure.literalInPlace }, { on := 11, ground := Ground.textOnly Departure.literalInPlace }, { on := 12, ground := Ground.textOnly Departure.literalInPlace }, { on := 13, ground := Ground.textOnly Departure.literalInPlace }, { on := 14, ground := Ground.textOnly Departure.literalInPlace }, { on := 15, ground := Ground.textOnly Departure.literalInPlace }, { on := 16, ground := Ground.textOnly Departure.literalInPlace }, { on := 17, ground := Ground.phase }], guard := none }) (v := (.pointer (some ⟨K, 0, none⟩))) rfl (by kernel_rfl) (by kernel_rfl) (by kernel_rfl) (fun _ _ _ h => h) (Or.inl ⟨by rfl, ?_⟩) hsa ?_
  · intro wq hSq
    clear hSq
    go_simp
  try simp only [Act.put, List.setIfInBounds_toArray, List.set_cons_zero, List.set_cons_succ]
  refine wpAnyH_ready (rs := [19]) (by kernel_rfl) (by simp) ?_
  refine AllReadyH.cons (o := { dst := none, op := Op.store 22 (Operand.tmp 27) (Operand.tmp 13), type := 0, pos := "l17_heap.go:173", after := #[{ on := 18, ground := Ground.data }, { on := 3, ground := Ground.data }, { on := 17, ground := Ground.chain }, { on := 0, ground := Ground.phase }, { on := 1, ground := Ground.phase }, { on := 2, ground := Ground.phase }, { on := 3, ground := Ground.phase }, { on := 4, ground := Ground.textOnly Departure.literalInPlace }, { on := 5, ground := Ground.textOnly Departure.literalInPlace }, { on := 6, ground := Ground.textOnly Departure.literalInPlace }, { on := 7, ground := Ground.textOnly Departure.literalInPlace }, { on := 8, ground := Ground.textOnly Departure.literalInPlace }, { on := 9, ground := Ground.textOnly Departure.literalInPlace }, { on := 10, ground := Ground.textOnly Departure.literalInPlace }, { on := 11, ground := Ground.textOnly Departure.literalInPlace }, { on := 12, ground := Ground.textOnly Departure.literalInPlace }, { on := 13, ground := Ground.textOnly Departure.literalInPlace }, { on := 14, ground := Ground.textOnly Departure.literalInPlace }, { on := 15, ground := Ground.textOnly Departure.literalInPlace }, { on := 16, ground := Ground.textOnly Departure.literalInPlace }, { on := 17, ground := Ground.phase }], guard := none }) rfl (fun KK hK => ?rf4) AllReadyH.nil
  go_simp
  have hsb : (fun wq => ∀ j, j < W3.heap.size → j ≠ K → wq.heap[j]? = W3.heap[j]?) (((((w5.setCell ⟨K, 0, none⟩ (.slice none 0 0)).setCell ⟨K, 1, none⟩ (.int .i64 0)).setCell ⟨K, 2, none⟩ (.int .i64 0)).setCell ⟨K, 3, none⟩ (.int .i64 0)).setCell ⟨K, 0, none⟩ (.slice (some ⟨g, 0, none⟩) ws.length cap)) := by
    intro j hj hne
    have e := hsw5 j hj hne
    simp only [heap_setCell_other _ _ j _ (show j ≠ (⟨K, 0, none⟩ : Addr).block from hne), heap_setCell_other _ _ j _ (show j ≠ (⟨K, 1, none⟩ : Addr).block from hne), heap_setCell_other _ _ j _ (show j ≠ (⟨K, 2, none⟩ : Addr).block from hne), heap_setCell_other _ _ j _ (show j ≠ (⟨K, 3, none⟩ : Addr).block from hne)]
    exact e
  refine hK.out _ _ hsb (fun _ => ?_)
  clear hK KK
  try simp only [Act.put, List.setIfInBounds_toArray, List.set_cons_zero, List.set_cons_succ]
  refine wpAnyH_take (i := 20) (oi := { dst := some 28, op := Op.fieldAddr 27 (Operand.tmp 2) 1, type := 0, pos := "l17_heap.go:173", after := #[{ on := 0, ground := Ground.phase }, { on := 1, ground := Ground.phase }, { on := 2, ground := Ground.phase }, { on := 3, ground := Ground.phase }, { on := 4, ground := Ground.phase }, { on := 5, ground := Ground.phase }, { on := 6, ground := Ground.phase }, { on := 7, ground := Ground.phase }, { on := 8, ground := Ground.textOnly Departure.literalInPlace }, { on := 9, ground := Ground.textOnly Departure.literalInPlace }, { on := 10, ground := Ground.textOnly Departure.literalInPlace }, { on := 11, ground := Ground.textOnly Departure.literalInPlace }, { on := 12, ground := Ground.textOnly Departure.literalInPlace }, { on := 13, ground := Ground.textOnly Departure.literalInPlace }, { on := 14, ground := Ground.textOnly Departure.literalInPlace }, { on := 15, ground := Ground.textOnly Departure.literalInPlace }, { on := 16, ground := Ground.textOnly Departure.literalInPlace }, { on := 17, ground := Ground.phase }, { on := 18, ground := Ground.phase }, { on := 19, ground := Ground.phase }], guard := none }) (v := (.pointer (some ⟨K, 1, none⟩))) rfl (by kernel_rfl) (by kernel_rfl) (by kernel_rfl) (fun _ _ _ h => h) (Or.inl ⟨by rfl, ?_⟩) hsb ?_
  · intro wq hSq
    clear hSq
    go_simp
  try simp only [Act.put, List.setIfInBounds_toArray, List.set_cons_zero, List.set_cons_succ]
  refine wpAnyH_ready (rs := [21]) (by kernel_rfl) (by simp) ?_
  refine AllReadyH.cons (o := { dst := none, op := Op.store 3 (Operand.tmp 28) (Operand.tmp 17), type := 0, pos := "l17_heap.go:173", after := #[{ on := 20, ground := Ground.data }, { on := 7, ground := Ground.data }, { on := 19, ground := Ground.chain }, { on := 0, ground := Ground.phase }, { on := 1, ground := Ground.phase }, { on := 2, ground := Ground.phase }, { on := 3, ground := Ground.phase }, { on := 4, ground := Ground.phase }, { on := 5, ground := Ground.phase }, { on := 6, ground := Ground.phase }, { on := 7, ground := Ground.phase }, { on := 8, ground := Ground.textOnly Departure.literalInPlace }, { on := 9, ground := Ground.textOnly Departure.literalInPlace }, { on := 10, ground := Ground.textOnly Departure.literalInPlace }, { on := 11, ground := Ground.textOnly Departure.literalInPlace }, { on := 12, ground := Ground.textOnly Departure.literalInPlace }, { on := 13, ground := Ground.textOnly Departure.literalInPlace }, { on := 14, ground := Ground.textOnly Departure.literalInPlace }, { on := 15, ground := Ground.textOnly Departure.literalInPlace }, { on := 16, ground := Ground.textOnly Departure.literalInPlace }, { on := 17, ground := Ground.phase }, { on := 18, ground := Ground.phase }, { on := 19, ground := Ground.phase }], guard := none }) rfl (fun KK hK => ?rf5) AllReadyH.nil
  go_simp
  have hsc : (fun wq => ∀ j, j < W3.heap.size → j ≠ K → wq.heap[j]? = W3.heap[j]?) ((((((w5.setCell ⟨K, 0, none⟩ (.slice none 0 0)).setCell ⟨K, 1, none⟩ (.int .i64 0)).setCell ⟨K, 2, none⟩ (.int .i64 0)).setCell ⟨K, 3, none⟩ (.int .i64 0)).setCell ⟨K, 0, none⟩ (.slice (some ⟨g, 0, none⟩) ws.length cap)).setCell ⟨K, 1, none⟩ (.int .i64 half)) := by
    intro j hj hne
    have e := hsw5 j hj hne
    simp only [heap_setCell_other _ _ j _ (show j ≠ (⟨K, 0, none⟩ : Addr).block from hne), heap_setCell_other _ _ j _ (show j ≠ (⟨K, 1, none⟩ : Addr).block from hne), heap_setCell_other _ _ j _ (show j ≠ (⟨K, 2, none⟩ : Addr).block from hne), heap_setCell_other _ _ j _ (show j ≠ (⟨K, 3, none⟩ : Addr).block from hne)]
    exact e
  refine hK.out _ _ hsc (fun _ => ?_)
  clear hK KK
  try simp only [Act.put, List.setIfInBounds_toArray, List.set_cons_zero, List.set_cons_succ]
  refine wpAnyH_take (i := 22) (oi := { dst := some 29, op := Op.fieldAddr 27 (Operand.tmp 2) 2, type := 0, pos := "l17_heap.go:173", after := #[{ on := 0, ground := Ground.phase }, { on := 1, ground := Ground.phase }, { on := 2, ground := Ground.phase }, { on := 3, ground := Ground.phase }, { on := 4, ground := Ground.phase }, { on := 5, ground := Ground.phase }, { on := 6, ground := Ground.phase }, { on := 7, ground := Ground.phase }, { on := 8, ground := Ground.phase }, { on := 9, ground := Ground.phase }, { on := 10, ground := Ground.textOnly Departure.literalInPlace }, { on := 11, ground := Ground.textOnly Departure.literalInPlace }, { on := 12, ground := Ground.textOnly Departure.literalInPlace }, { on := 13, ground := Ground.textOnly Departure.literalInPlace }, { on := 14, ground := Ground.textOnly Departure.literalInPlace }, { on := 15, ground := Ground.textOnly Departure.literalInPlace }, { on := 16, ground := Ground.textOnly Departure.literalInPlace }, { on := 17, ground := Ground.phase }, { on := 18, ground := Ground.phase }, { on := 19, ground := Ground.phase }, { on := 20, ground := Ground.phase }, { on := 21, ground := Ground.phase }], guard := none }) (v := (.pointer (some ⟨K, 2, none⟩))) rfl (by kernel_rfl) (by kernel_rfl) (by kernel_rfl) (fun _ _ _ h => h) (Or.inl ⟨by rfl, ?_⟩) hsc ?_
  · intro wq hSq
    clear hSq
    go_simp
  try simp only [Act.put, List.setIfInBounds_toArray, List.set_cons_zero, List.set_cons_succ]
  refine wpAnyH_ready (rs := [23]) (by kernel_rfl) (by simp) ?_
  refine AllReadyH.cons (o := { dst := none, op := Op.store 3 (Operand.tmp 29) (Operand.tmp 19), type := 0, pos := "l17_heap.go:173", after := #[{ on := 22, ground := Ground.data }, { on := 9, ground := Ground.data }, { on := 21, ground := Ground.chain }, { on := 0, ground := Ground.phase }, { on := 1, ground := Ground.phase }, { on := 2, ground := Ground.phase }, { on := 3, ground := Ground.phase }, { on := 4, ground := Ground.phase }, { on := 5, ground := Ground.phase }, { on := 6, ground := Ground.phase }, { on := 7, ground := Ground.phase }, { on := 8, ground := Ground.phase }, { on := 9, ground := Ground.phase }, { on := 10, ground := Ground.textOnly Departure.literalInPlace }, { on := 11, ground := Ground.textOnly Departure.literalInPlace }, { on := 12, ground := Ground.textOnly Departure.literalInPlace }, { on := 13, ground := Ground.textOnly Departure.literalInPlace }, { on := 14, ground := Ground.textOnly Departure.literalInPlace }, { on := 15, ground := Ground.textOnly Departure.literalInPlace }, { on := 16, ground := Ground.textOnly Departure.literalInPlace }, { on := 17, ground := Ground.phase }, { on := 18, ground := Ground.phase }, { on := 19, ground := Ground.phase }, { on := 20, ground := Ground.phase }, { on := 21, ground := Ground.phase }], guard := none }) rfl (fun KK hK => ?rf6) AllReadyH.nil
  go_simp
  have hsd : (fun wq => ∀ j, j < W3.heap.size → j ≠ K → wq.heap[j]? = W3.heap[j]?) (((((((w5.setCell ⟨K, 0, none⟩ (.slice none 0 0)).setCell ⟨K, 1, none⟩ (.int .i64 0)).setCell ⟨K, 2, none⟩ (.int .i64 0)).setCell ⟨K, 3, none⟩ (.int .i64 0)).setCell ⟨K, 0, none⟩ (.slice (some ⟨g, 0, none⟩) ws.length cap)).setCell ⟨K, 1, none⟩ (.int .i64 half)).setCell ⟨K, 2, none⟩ (.int .i64 mh)) := by
    intro j hj hne
    have e := hsw5 j hj hne
    simp only [heap_setCell_other _ _ j _ (show j ≠ (⟨K, 0, none⟩ : Addr).block from hne), heap_setCell_other _ _ j _ (show j ≠ (⟨K, 1, none⟩ : Addr).block from hne), heap_setCell_other _ _ j _ (show j ≠ (⟨K, 2, none⟩ : Addr).block from hne), heap_setCell_other _ _ j _ (show j ≠ (⟨K, 3, none⟩ : Addr).block from hne)]
    exact e
  refine hK.out _ _ hsd (fun _ => ?_)
  clear hK KK
  try simp only [Act.put, List.setIfInBounds_toArray, List.set_cons_zero, List.set_cons_succ]
  refine wpAnyH_take (i := 24) (oi := { dst := some 30, op := Op.fieldAddr 27 (Operand.tmp 2) 3, type := 0, pos := "l17_heap.go:173", after := #[{ on := 0, ground := Ground.phase }, { on := 1, ground := Ground.phase }, { on := 2, ground := Ground.phase }, { on := 3, ground := Ground.phase }, { on := 4, ground := Ground.phase }, { on := 5, ground := Ground.phase }, { on := 6, ground := Ground.phase }, { on := 7, ground := Ground.phase }, { on := 8, ground := Ground.phase }, { on := 9, ground := Ground.phase }, { on := 10, ground := Ground.phase }, { on := 11, ground := Ground.phase }, { on := 12, ground := Ground.phase }, { on := 13, ground := Ground.phase }, { on := 14, ground := Ground.phase }, { on := 15, ground := Ground.phase }, { on := 16, ground := Ground.phase }, { on := 17, ground := Ground.phase }, { on := 18, ground := Ground.phase }, { on := 19, ground := Ground.phase }, { on := 20, ground := Ground.phase }, { on := 21, ground := Ground.phase }, { on := 22, ground := Ground.phase }, { on := 23, ground := Ground.phase }], guard := none }) (v := (.pointer (some ⟨K, 3, none⟩))) rfl (by kernel_rfl) (by kernel_rfl) (by kernel_rfl) (fun _ _ _ h => h) (Or.inl ⟨by rfl, ?_⟩) hsd ?_
  · intro wq hSq
    clear hSq
    go_simp
  try simp only [Act.put, List.setIfInBounds_toArray, List.set_cons_zero, List.set_cons_succ]
  refine wpAnyH_ready (rs := [25]) (by kernel_rfl) (by simp) ?_
  refine AllReadyH.cons (o := { dst := none, op := Op.store 3 (Operand.tmp 30) (Operand.tmp 26), type := 0, pos := "l17_heap.go:173", after := #[{ on := 24, ground := Ground.data }, { on := 16, ground := Ground.data }, { on := 23, ground := Ground.chain }, { on := 0, ground := Ground.phase }, { on := 1, ground := Ground.phase }, { on := 2, ground := Ground.phase }, { on := 3, ground := Ground.phase }, { on := 4, ground := Ground.phase }, { on := 5, ground := Ground.phase }, { on := 6, ground := Ground.phase }, { on := 7, ground := Ground.phase }, { on := 8, ground := Ground.phase }, { on := 9, ground := Ground.phase }, { on := 10, ground := Ground.phase }, { on := 11, ground := Ground.phase }, { on := 12, ground := Ground.phase }, { on := 13, ground := Ground.phase }, { on := 14, ground := Ground.phase }, { on := 15, ground := Ground.phase }, { on := 16, ground := Ground.phase }, { on := 17, ground := Ground.phase }, { on := 18, ground := Ground.phase }, { on := 19, ground := Ground.phase }, { on := 20, ground := Ground.phase }, { on := 21, ground := Ground.phase }, { on := 22, ground := Ground.phase }, { on := 23, ground := Ground.phase }], guard := none }) rfl (fun KK hK => ?rf7) AllReadyH.nil
  go_simp
  have hse : (fun wq => ∀ j, j < W3.heap.size → j ≠ K → wq.heap[j]? = W3.heap[j]?) ((((((((w5.setCell ⟨K, 0, none⟩ (.slice none 0 0)).setCell ⟨K, 1, none⟩ (.int .i64 0)).setCell ⟨K, 2, none⟩ (.int .i64 0)).setCell ⟨K, 3, none⟩ (.int .i64 0)).setCell ⟨K, 0, none⟩ (.slice (some ⟨g, 0, none⟩) ws.length cap)).setCell ⟨K, 1, none⟩ (.int .i64 half)).setCell ⟨K, 2, none⟩ (.int .i64 mh)).setCell ⟨K, 3, none⟩ (.int .i64 (mh + used))) := by
    intro j hj hne
    have e := hsw5 j hj hne
    simp only [heap_setCell_other _ _ j _ (show j ≠ (⟨K, 0, none⟩ : Addr).block from hne), heap_setCell_other _ _ j _ (show j ≠ (⟨K, 1, none⟩ : Addr).block from hne), heap_setCell_other _ _ j _ (show j ≠ (⟨K, 2, none⟩ : Addr).block from hne), heap_setCell_other _ _ j _ (show j ≠ (⟨K, 3, none⟩ : Addr).block from hne)]
    exact e
  refine hK.out _ _ hse (fun _ => ?_)
  clear hK KK
  try simp only [Act.put, List.setIfInBounds_toArray, List.set_cons_zero, List.set_cons_succ]
  refine wpAnyH_done (by kernel_rfl) ?_ _
  refine calm_out ?_
  obtain ⟨WF, hWF⟩ : ∃ W, W = ((((((((w5.setCell ⟨K, 0, none⟩ (.slice none 0 0)).setCell ⟨K, 1, none⟩ (.int .i64 0)).setCell ⟨K, 2, none⟩ (.int .i64 0)).setCell ⟨K, 3, none⟩ (.int .i64 0)).setCell ⟨K, 0, none⟩ (.slice (some ⟨g, 0, none⟩) ws.length cap)).setCell ⟨K, 1, none⟩ (.int .i64 half)).setCell ⟨K, 2, none⟩ (.int .i64 mh)).setCell ⟨K, 3, none⟩ (.int .i64 (mh + used))) := ⟨_, rfl⟩
  have HWF := hid17 (show WorkAt WF H 1 m (.slice (some ⟨g, 0, none⟩) ws.length cap) half used from by rw [hWF]; exact (hse H HW3.out.lt HHK.out).trans HW3.out)
  have HOF := hid17 (show Own WF w0.heap.size (.slice (some ⟨g, 0, none⟩) ws.length cap) ws from by
    rw [hWF]
    have ho5 := HO3.out.below Bw5
    have hn : ∀ j, (Value.slice (some (⟨g, 0, none⟩ : Addr)) ws.length cap).ownBlock ≠ some (⟨K, j, none⟩ : Addr).block := fun j h => by injection h with h; exact HGK.out h
    exact ownsRow_setCell_other (ownsRow_setCell_other (ownsRow_setCell_other (ownsRow_setCell_other (ownsRow_setCell_other (ownsRow_setCell_other (ownsRow_setCell_other (ownsRow_setCell_other ho5 (hn 0) _) (hn 1) _) (hn 2) _) (hn 3) _) (hn 0) _) (hn 1) _) (hn 2) _) (hn 3) _)
  have HBF := hid17 (show Below w0.heap.size w0 WF from by
    rw [hWF]
    have hb5 := HB3.out.trans (Bw5.mono HB3.out.size)
    exact (((((((hb5.setCell HK0.out _).setCell HK0.out _).setCell HK0.out _).setCell HK0.out _).setCell HK0.out _).setCell HK0.out _).setCell HK0.out _).setCell HK0.out _)
  have HKF := hid17 (show WF.heap[K]? = some (.cells #[.slice (some ⟨g, 0, none⟩) ws.length cap, .int .i64 half, .int .i64 mh, .int .i64 (mh + used)] 27 (0, 0)) from by
    rw [hWF]
    have r0 := (Bw5.block K HKL.out).trans HK3.out
    have r1 := heap_setCell_same _ K 0 _ _ (.slice none 0 0) r0
    have r2 := heap_setCell_same _ K 1 _ _ (.int .i64 0) r1
    have r3 := heap_setCell_same _ K 2 _ _ (.int .i64 0) r2
    have r4 := heap_setCell_same _ K 3 _ _ (.int .i64 0) r3
    have r5 := heap_setCell_same _ K 0 _ _ (.slice (some ⟨g, 0, none⟩) ws.length cap) r4
    have r6 := heap_setCell_same _ K 1 _ _ (.int .i64 half) r5
    have r7 := heap_setCell_same _ K 2 _ _ (.int .i64 mh) r6
    have r8 := heap_setCell_same _ K 3 _ _ (.int .i64 (mh + used)) r7
    exact r8)
  rw [← hWF]
  clear hWF hsa hsb hsc hsd hse hsw4 hsw5 Bw4 Bw5 k0 k1 k2 k3 kf0 kf1 kf2 kf3
  obtain ⟨⟨z0, z1, z2, z3, z4, z5⟩, zf⟩ := HWF.out.cells
  have zf0 := zf 0
  clear z1 z2 z3 z4 z5 zf
  have HE : Hid (POST (.returned (heapV (.slice (some ⟨g, 0, none⟩) ws.length cap) ⟨ws, half, mh, mh + used⟩)) (WF.setCell ⟨H, 0, none⟩ (.int .i32 0))) := by
    show POST _ _
    rw [HP.out]
    refine ⟨rfl, ownsRow_setCell_other HOF.out (fun h => by injection h with h; exact HGH.out h) _, HBF.out.setCell HH0.out _⟩
  have hKG : (WF.setCell ⟨H, 0, none⟩ (.int .i32 0)).heap[K]? = some (.cells #[.slice (some ⟨g, 0, none⟩) ws.length cap, .int .i64 half, .int .i64 mh, .int .i64 (mh + used)] 27 (0, 0)) := (heap_setCell_other WF ⟨H, 0, none⟩ K _ (fun h => HHK.out h.symm)).trans HKF.out
  have y0 := cell_of_row _ K 0 _ _ _ hKG
  have y1 := cell_of_row _ K 1 _ _ _ hKG
  have y2 := cell_of_row _ K 2 _ _ _ hKG
  have y3 := cell_of_row _ K 3 _ _ _ hKG
  have HY := hid17 (And.intro y0 (And.intro y1 (And.intro y2 y3)))
  clear hKG y0 y1 y2 y3
  go_wp2_with fail
  refine leaves_cons (f := 89) (args := #[.pointer (some ⟨H, 0, none⟩)]) (by simp) (by simp [go_sem]) ?_
  refine (Go.MuLone.unlock_deferred Try.muLib ⟨H, 0, none⟩ .returning WF z0 zf0).mono ?_
  rintro e u' w'' ⟨rfl, rfl, hw2⟩
  subst w''
  obtain ⟨y0, y1, y2, y3⟩ := HY.out
  refine ⟨heapV (.slice (some ⟨g, 0, none⟩) ws.length cap) ⟨ws, half, mh, mh + used⟩, ?_, ?_⟩
  · rw [results_cell17 (p := 2) (ty := 27) (by kernel_rfl)]
    simp [go_sem, y0, y1, y2, y3]
  · exact HE.out
end Go.Proofs.Ytgcegjgjegkahab
