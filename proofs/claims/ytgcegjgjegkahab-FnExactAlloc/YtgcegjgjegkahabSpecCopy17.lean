/- spec.l17Copy. Conditions: at most 2^22 words. Written by wip/tools/mkspeccopy17.py. -/
import Derived.Test.YtgcegjgjegkahabAllocP17
import Derived.Test.YtgcegjgjegkahabStepAny
namespace Go.Proofs.Ytgcegjgjegkahab
open Go.ChangeShapes Go.WideShapes Go.ChangeAt Go.RowKit

set_option maxRecDepth 100000 in
set_option maxHeartbeats 2000000 in
theorem spec_copy17 (h : Hp) (v : Value) (w : World) (hv : Rd w v h.ws) (hl : h.ws.length ≤ 4194304) :
    Calls Try.prog 62 #[heapV v h] w (HeapRet w.heap.size w h) := by
  obtain ⟨ws, half, base, next⟩ := h
  have HL := hid17 (show ws.length ≤ 4194304 from hl)
  have HV := hid17 (show Rd w v ws from hv)
  obtain ⟨p, cap, rfl, -⟩ := hv.shape
  clear hv hl
  have HNO : Hid (p = none → ws.length = 0 ∧ cap = 0) := fun hp => by
    rcases HV.out with ⟨e1, e2⟩ | ⟨b, o, c, e1, _, _⟩
    · injection e1 with _ e3 e4; exact ⟨e3, e4⟩
    · injection e1 with e5 _ _; rw [hp] at e5; cases e5
  have HSRC : Hid (∀ wq, Below w.heap.size w wq → ∀ ad, p = some ad → ∀ j u, (ws.map (Value.int .i64))[j]? = some u → wq.cell? (ad.add j) = some u) := fun wq hq ad hp j u hu => by
    rcases HV.out with ⟨e1, e2⟩ | ⟨b, o, c, e1, _, hc⟩
    · rw [e2] at hu; simp at hu
    · injection e1 with e5 _ _
      rw [hp] at e5
      injection e5 with e5
      subst e5
      rw [List.getElem?_map] at hu
      have hj : j < ws.length := by
        rcases Nat.lt_or_ge j ws.length with h1 | h1
        · exact h1
        · rw [List.getElem?_eq_none h1] at hu; cases hu
      rw [List.getElem?_eq_getElem hj] at hu
      injection hu with hu
      rw [← hu, ← getD_int _ j hj, Go.WideShapes.add_plain]
      exact cell_later hq (hc j hj)
  obtain ⟨POST, hPO⟩ : ∃ P, P = HeapRet w.heap.size w ⟨ws, half, base, next⟩ := ⟨_, rfl⟩
  rw [← hPO]
  have HP : Hid (POST = HeapRet w.heap.size w ⟨ws, half, base, next⟩) := hPO
  clear hPO
  obtain ⟨i0, hi, hz0, hz1, hz2⟩ := info_parts int_info
  obtain ⟨A, hA⟩ : ∃ A, A = (w.alloc (hpO (.slice p ws.length cap) ⟨ws, half, base, next⟩)).alloc (.cells #[.slice none 0 0, .int .i64 0, .int .i64 0, .int .i64 0] 27) := ⟨_, rfl⟩
  have HA : Hid (Below w.heap.size w A ∧ A.heap.size = w.heap.size + 2 ∧ BoxAt A w.heap.size (.slice p ws.length cap) ⟨ws, half, base, next⟩ ∧ A.heap[w.heap.size + 1]? = some (.cells #[.slice none 0 0, .int .i64 0, .int .i64 0, .int .i64 0] 27 (0, 0))) := by
    show _ ∧ _ ∧ _ ∧ _
    rw [hA]
    refine ⟨((Below.refl _ _).alloc (Nat.le_refl _) _).alloc (by simp) _, by simp, (Below.heap_alloc _ _ _ (by simp)).trans (heap_alloc_last _ _), ?_⟩
    have := heap_alloc_last (w.alloc (hpO (.slice p ws.length cap) ⟨ws, half, base, next⟩)) (.cells #[.slice none 0 0, .int .i64 0, .int .i64 0, .int .i64 0] 27)
    simpa using this
  have HX := hid17 HA.out.2.2.1
  have HY := hid17 HA.out.2.2.2
  have HNA : Hid (w.heap.size < A.heap.size) := by have := HA.out.2.1; show _ < _; omega
  have HNB : Hid (w.heap.size + 1 < A.heap.size) := by have := HA.out.2.1; show _ < _; omega
  have HNE : Hid (w.heap.size ≠ w.heap.size + 1) := by show _ ≠ _; omega
  go_enter Try.func62, Try.ntmps62
  go_upto_region 1 with fail
  rw [← hA]
  clear hA
  refine wp_region_held_drew (S := fun wq => ∀ j, j < A.heap.size → j ≠ w.heap.size + 1 → wq.heap[j]? = A.heap[j]?) (by kernel_rfl) (show (fun wq => ∀ j, j < A.heap.size → j ≠ w.heap.size + 1 → wq.heap[j]? = A.heap[j]?) A.drew from fun _ _ _ => rfl) (fun HS0 => ?_)
  refine wpAnyH_take (i := 1) (oi := { dst := some 4, op := Op.fieldAddr 27 (Operand.tmp 1) 0, type := 0, pos := "l17_heap.go:85", after := #[], guard := none }) (v := (.pointer (some ⟨w.heap.size, 0, none⟩))) rfl (by kernel_rfl) (by kernel_rfl) (by kernel_rfl) (fun _ _ _ h => h) (Or.inl ⟨by rfl, ?_⟩) HS0 ?_
  · intro wq hSq
    clear hSq
    go_simp
  try simp only [Act.put, List.setIfInBounds_toArray, List.set_cons_zero, List.set_cons_succ]
  refine wpAnyH_take (i := 2) (oi := { dst := some 5, op := Op.load 22 (Operand.tmp 4), type := 22, pos := "l17_heap.go:85", after := #[{ on := 1, ground := Ground.data }], guard := none }) (v := (.slice p ws.length cap)) rfl (by kernel_rfl) (by kernel_rfl) (by kernel_rfl) (fun _ _ _ h => h) (Or.inl ⟨by rfl, ?_⟩) HS0 ?_
  · intro wq hSq
    obtain ⟨c0, c1, c2, c3⟩ := BoxAt.cells (w := wq) ((hSq _ HNA.out HNE.out).trans HX.out)
    clear hSq
    go_simp
  try simp only [Act.put, List.setIfInBounds_toArray, List.set_cons_zero, List.set_cons_succ]
  refine wpAnyH_take (i := 4) (oi := { dst := some 7, op := Op.fieldAddr 27 (Operand.tmp 1) 1, type := 0, pos := "l17_heap.go:85", after := #[], guard := none }) (v := (.pointer (some ⟨w.heap.size, 1, none⟩))) rfl (by kernel_rfl) (by kernel_rfl) (by kernel_rfl) (fun _ _ _ h => h) (Or.inl ⟨by rfl, ?_⟩) HS0 ?_
  · intro wq hSq
    clear hSq
    go_simp
  try simp only [Act.put, List.setIfInBounds_toArray, List.set_cons_zero, List.set_cons_succ]
  refine wpAnyH_take (i := 5) (oi := { dst := some 8, op := Op.load 3 (Operand.tmp 7), type := 3, pos := "l17_heap.go:85", after := #[{ on := 4, ground := Ground.data }], guard := none }) (v := (.int .i64 half)) rfl (by kernel_rfl) (by kernel_rfl) (by kernel_rfl) (fun _ _ _ h => h) (Or.inl ⟨by rfl, ?_⟩) HS0 ?_
  · intro wq hSq
    obtain ⟨c0, c1, c2, c3⟩ := BoxAt.cells (w := wq) ((hSq _ HNA.out HNE.out).trans HX.out)
    clear hSq
    go_simp
  try simp only [Act.put, List.setIfInBounds_toArray, List.set_cons_zero, List.set_cons_succ]
  refine wpAnyH_take (i := 6) (oi := { dst := some 9, op := Op.fieldAddr 27 (Operand.tmp 1) 2, type := 0, pos := "l17_heap.go:85", after := #[], guard := none }) (v := (.pointer (some ⟨w.heap.size, 2, none⟩))) rfl (by kernel_rfl) (by kernel_rfl) (by kernel_rfl) (fun _ _ _ h => h) (Or.inl ⟨by rfl, ?_⟩) HS0 ?_
  · intro wq hSq
    clear hSq
    go_simp
  try simp only [Act.put, List.setIfInBounds_toArray, List.set_cons_zero, List.set_cons_succ]
  refine wpAnyH_take (i := 7) (oi := { dst := some 10, op := Op.load 3 (Operand.tmp 9), type := 3, pos := "l17_heap.go:85", after := #[{ on := 6, ground := Ground.data }], guard := none }) (v := (.int .i64 base)) rfl (by kernel_rfl) (by kernel_rfl) (by kernel_rfl) (fun _ _ _ h => h) (Or.inl ⟨by rfl, ?_⟩) HS0 ?_
  · intro wq hSq
    obtain ⟨c0, c1, c2, c3⟩ := BoxAt.cells (w := wq) ((hSq _ HNA.out HNE.out).trans HX.out)
    clear hSq
    go_simp
  try simp only [Act.put, List.setIfInBounds_toArray, List.set_cons_zero, List.set_cons_succ]
  refine wpAnyH_take (i := 8) (oi := { dst := some 11, op := Op.fieldAddr 27 (Operand.tmp 1) 3, type := 0, pos := "l17_heap.go:85", after := #[], guard := none }) (v := (.pointer (some ⟨w.heap.size, 3, none⟩))) rfl (by kernel_rfl) (by kernel_rfl) (by kernel_rfl) (fun _ _ _ h => h) (Or.inl ⟨by rfl, ?_⟩) HS0 ?_
  · intro wq hSq
    clear hSq
    go_simp
  try simp only [Act.put, List.setIfInBounds_toArray, List.set_cons_zero, List.set_cons_succ]
  refine wpAnyH_take (i := 9) (oi := { dst := some 12, op := Op.load 3 (Operand.tmp 11), type := 3, pos := "l17_heap.go:85", after := #[{ on := 8, ground := Ground.data }], guard := none }) (v := (.int .i64 next)) rfl (by kernel_rfl) (by kernel_rfl) (by kernel_rfl) (fun _ _ _ h => h) (Or.inl ⟨by rfl, ?_⟩) HS0 ?_
  · intro wq hSq
    obtain ⟨c0, c1, c2, c3⟩ := BoxAt.cells (w := wq) ((hSq _ HNA.out HNE.out).trans HX.out)
    clear hSq
    go_simp
  try simp only [Act.put, List.setIfInBounds_toArray, List.set_cons_zero, List.set_cons_succ]
  refine wpAnyH_ready (rs := [0]) (by kernel_rfl) (by simp) ?_
  refine AllReadyH.cons (o := { dst := some 3, op := Op.buildSlice 22 0 #[], type := 22, pos := "l17_heap.go:85", after := #[], guard := none }) rfl (fun KK hK => ?rg1) AllReadyH.nil
  go_simp
  obtain ⟨V, hV⟩ : ∃ V, V = (A.alloc (.cells #[] 3)).drew := ⟨_, rfl⟩
  rw [← hV]
  have HVV : Hid (Below A.heap.size A V ∧ A.heap.size ≤ V.heap.size ∧ Own V A.heap.size (.slice (some ⟨A.heap.size, 0, none⟩) 0 0) []) := by rw [hV]; exact ⟨((Below.refl _ _).alloc (Nat.le_refl _) _).drew, by simp, (own_lit A A.heap.size (Nat.le_refl _)).drew⟩
  clear hV
  have hs0 : (fun wq => ∀ j, j < A.heap.size → j ≠ w.heap.size + 1 → wq.heap[j]? = A.heap[j]?) V := fun j hj _ => HVV.out.1.block j hj
  refine hK.out _ _ hs0 (fun _ => ?_)
  clear hK KK
  try simp only [Act.put, List.setIfInBounds_toArray, List.set_cons_zero, List.set_cons_succ]
  refine wpAnyH_ready (rs := [3]) (by kernel_rfl) (by simp) ?_
  refine AllReadyH.cons (o := { dst := some 6, op := Op.call { callee := Callee.builtin Builtin.append, args := #[Operand.tmp 3, Operand.tmp 5], argTypes := #[22, 22] }, type := 22, pos := "l17_heap.go:85", after := #[{ on := 0, ground := Ground.data }, { on := 2, ground := Ground.data }], guard := none }) rfl (fun KK hK => ?rg2) AllReadyH.nil
  refine step_append_any rfl (.tmp 3) (.tmp 5) 22 rfl A.heap.size 3 i0 (.int .i64 0) 1 8 Try.underlying22 hi hz0 hz1 hz2 rfl (by decide) (.slice (some ⟨A.heap.size, 0, none⟩) 0 0) 0 [] rfl HVV.out.2.2 p ws.length cap (ws.map (Value.int .i64)) rfl (by simp) HNO.out (HSRC.out V (HA.out.1.trans (HVV.out.1.mono HA.out.1.size))) (ints_cells ws) (by have := HL.out; unfold maxLen; omega) (by have := HL.out; omega) HVV.out.2.1 ?_
  intro v4 w4 hown4 hg4
  have R := own_join (M := ws) HVV.out.2.2 HVV.out.1 HVV.out.2.1 (owns_len hown4.out (by simp)) hg4.out
  have HR : Hid (Own w4 A.heap.size v4 ws ∧ Below A.heap.size A w4) := R
  clear R hown4 hg4
  obtain ⟨pu, cu, rfl, -⟩ := HR.out.1.rd.shape
  have hs4 : (fun wq => ∀ j, j < A.heap.size → j ≠ w.heap.size + 1 → wq.heap[j]? = A.heap[j]?) w4 := fun j hj _ => HR.out.2.block j hj
  refine hK.out _ _ hs4 (fun _ => ?_)
  clear hK KK
  try simp only [Act.put, List.setIfInBounds_toArray, List.set_cons_zero, List.set_cons_succ]
  refine wpAnyH_take (i := 10) (oi := { dst := some 13, op := Op.build 27 #[(0, Operand.tmp 6), (1, Operand.tmp 8), (2, Operand.tmp 10), (3, Operand.tmp 12)], type := 27, pos := "l17_heap.go:85", after := #[{ on := 3, ground := Ground.data }, { on := 5, ground := Ground.data }, { on := 7, ground := Ground.data }, { on := 9, ground := Ground.data }], guard := none }) (v := (.agg #[.slice pu ws.length cu, .int .i64 half, .int .i64 base, .int .i64 next])) rfl (by kernel_rfl) (by kernel_rfl) (by kernel_rfl) (fun _ _ _ h => h) (Or.inl ⟨by rfl, ?_⟩) hs4 ?_
  · intro wq hSq
    clear hSq
    go_simp
  try simp only [Act.put, List.setIfInBounds_toArray, List.set_cons_zero, List.set_cons_succ]
  refine wpAnyH_ready (rs := [11]) (by kernel_rfl) (by simp) ?_
  refine AllReadyH.cons (o := { dst := none, op := Op.store 27 (Operand.tmp 2) (Operand.tmp 13), type := 0, pos := "l17_heap.go:85", after := #[{ on := 10, ground := Ground.data }, { on := 3, ground := Ground.chain }, { on := 0, ground := Ground.phase }, { on := 1, ground := Ground.phase }, { on := 2, ground := Ground.phase }, { on := 3, ground := Ground.phase }, { on := 4, ground := Ground.phase }, { on := 5, ground := Ground.phase }, { on := 6, ground := Ground.phase }, { on := 7, ground := Ground.phase }, { on := 8, ground := Ground.phase }, { on := 9, ground := Ground.phase }, { on := 10, ground := Ground.phase }], guard := none }) rfl (fun KK hK => ?rg3) AllReadyH.nil
  have r1 := (HR.out.2.block _ HNB.out).trans HY.out
  have b0 := cell_of_row w4 _ 0 _ _ _ r1
  have g0 := frozen_of_row w4 _ 0 _ _ r1
  have b1 := cell_of_row w4 _ 1 _ _ _ r1
  have g1 := frozen_of_row w4 _ 1 _ _ r1
  have b2 := cell_of_row w4 _ 2 _ _ _ r1
  have g2 := frozen_of_row w4 _ 2 _ _ r1
  have b3 := cell_of_row w4 _ 3 _ _ _ r1
  have g3 := frozen_of_row w4 _ 3 _ _ r1
  clear r1
  go_simp
  have hs5 : (fun wq => ∀ j, j < A.heap.size → j ≠ w.heap.size + 1 → wq.heap[j]? = A.heap[j]?) ((((w4.setCell ⟨w.heap.size + 1, 0, none⟩ (.slice pu ws.length cu)).setCell ⟨w.heap.size + 1, 1, none⟩ (.int .i64 half)).setCell ⟨w.heap.size + 1, 2, none⟩ (.int .i64 base)).setCell ⟨w.heap.size + 1, 3, none⟩ (.int .i64 next)) := fun j hj hne => (((heap_setCell_other _ _ j _ hne).trans (heap_setCell_other _ _ j _ hne)).trans (heap_setCell_other _ _ j _ hne)).trans ((heap_setCell_other _ _ j _ hne).trans (HR.out.2.block j hj))
  refine hK.out _ _ hs5 (fun _ => ?_)
  clear hK KK
  try simp only [Act.put, List.setIfInBounds_toArray, List.set_cons_zero, List.set_cons_succ]
  refine wpAnyH_done (by kernel_rfl) ?_ _
  go_wp2_with fail
  refine bodyPost_ret (v := heapV (.slice pu ws.length cu) ⟨ws, half, base, next⟩) (by rw [results_cell17 (p := 2) (ty := 27) (by kernel_rfl)]; simp [go_sem, b0, b1, b2, b3]) rfl ?_
  rw [HP.out]
  have HN1 : (Value.slice pu ws.length cu).ownBlock ≠ some (w.heap.size + 1) := fun hh => by have := (HR.out.1.lt _ hh).1; have := HA.out.2.1; omega
  refine ⟨_, rfl, ?_, ?_⟩
  · exact ownsRow_setCell_other (ownsRow_setCell_other (ownsRow_setCell_other (ownsRow_setCell_other (HR.out.1.mono HA.out.1.size) HN1 _) HN1 _) HN1 _) HN1 _
  · have h1 : w.heap.size ≤ w.heap.size + 1 := by omega
    exact (((((HA.out.1.trans (HR.out.2.mono HA.out.1.size)).setCell h1 _).setCell h1 _).setCell h1 _).setCell h1 _)
end Go.Proofs.Ytgcegjgjegkahab
