/- A heap that came in: opened, weighed, copied. Condition: at most 2^20 words. -/
import Derived.Test.YtgcegjgjegkahabHeapLaw
import Derived.Test.YtgcegjgjegkahabHeapOkP
import Derived.OpenShut
namespace Go.Proofs.Ytgcegjgjegkahab
open Go.ChangeShapes Go.WideShapes Go.ChangeAt Go.RowKit

/-- The words are of 64 bits. -/
def Small64 (ws : List Int) : Prop := ∀ j, -9223372036854775808 ≤ ws.getD j 0 ∧ ws.getD j 0 ≤ 9223372036854775807

theorem IsRow.rs64 {w : World} {a : Option Addr} {len cap : Nat} {zs : List Int} (h : IsRow w a len cap zs) : ∃ xs, xs.length = len ∧ Rs w (.slice a len cap) xs ∧ Small64 xs := by
  rcases h with ⟨rfl, rfl, rfl, rfl⟩ | ⟨x, rfl, hl, _, hz, hc, hw⟩
  · exact ⟨[], rfl, ⟨none, 0, rfl, fun j hj => by simp at hj⟩, fun j => by simp⟩
  · have hlen : (zs.take len).length = len := by rw [List.length_take]; omega
    refine ⟨zs.take len, hlen, ⟨some x, cap, by rw [hlen], fun j hj => ?_⟩, fun j => ?_⟩
    · rw [hlen] at hj
      obtain ⟨b, off, rfl, hc'⟩ := ints_at hc (by omega)
      refine ⟨b, off, rfl, ?_⟩
      rw [hc' j (by omega)]
      simp [List.getD_eq_getElem?_getD, hj]
    · by_cases hj : j < len
      · have h1 : (zs.take len).getD j 0 = zs.getD j 0 := by simp [List.getD_eq_getElem?_getD, hj]
        have h2 := bounds_i64 (hw (zs.getD j 0) (by rw [getD_int zs j (by omega)]; exact List.getElem_mem _))
        rw [h1]; omega
      · rw [List.getD_eq_getElem?_getD, List.getElem?_eq_none (by omega)]; simp

/-- The types of a heap. -/
structure HeapT (P : Program) (tD tI tZ : TypeId) : Prop where
  ex : ∃ fs : Array Field, P.underlying tD = some (.struct fs) ∧ fs.size = 4 ∧ (∃ f, fs[0]? = some f ∧ f.type = tZ ∧ f.offset = 0) ∧
    (∃ f, fs[1]? = some f ∧ f.type = tI ∧ f.offset = 1) ∧ (∃ f, fs[2]? = some f ∧ f.type = tI ∧ f.offset = 2) ∧ (∃ f, fs[3]? = some f ∧ f.type = tI ∧ f.offset = 3)
  i : P.underlying tI = some (.int .i64)
  z : P.underlying tZ = some (.slice tI)
  ci : P.cellsOf tI = 1
  cz : P.cellsOf tZ = 1
  cd : P.cellsOf tD = 4

section
variable {H : Type} {enc : TypeId × Value → H} {P : Program} {w : World} {base : Nat} {tD tI tZ : TypeId}
theorem row_of (hz : P.underlying tZ = some (.slice tI)) (hi : P.underlying tI = some (.int .i64)) (hci : P.cellsOf tI = 1) {m : Nat} {c : Value} {y : DataW H × List MemPlace} (h : DataW.trod enc P w base (fun _ => true) true m tZ [c] = some y) :
    ∃ (a : Option Addr) (len cap : Nat) (zs : List Int), c = .slice a len cap ∧ IsRow w a len cap zs := by
  rcases open_ints hz hi hci h with ⟨hcs, _⟩ | ⟨x, l, c', zs, hcs, _, hl, hm, hz, _, hcell, hwz⟩
  · simp at hcs
    exact ⟨none, 0, 0, [], hcs, .inl ⟨rfl, rfl, rfl, rfl⟩⟩
  · simp at hcs
    exact ⟨some x, l, c', zs, hcs, .inr ⟨_, rfl, hl, hm, by simpa using hz, hcell, hwz⟩⟩
theorem open_heap (T : HeapT P tD tI tZ) (fuel : Nat) (cs : List Value) (x : DataW H × List MemPlace) (h : DataW.trod enc P w base (fun _ => true) true fuel tD cs = some x) :
    ∃ (a : Option Addr) (len cap : Nat) (zs : List Int) (half b n : Int), cs = [.slice a len cap, .int .i64 half, .int .i64 b, .int .i64 n] ∧ IsRow w a len cap zs := by
  obtain ⟨fs, hu, hfs, ⟨f0, h0, ht0, ho0⟩, ⟨f1, h1, ht1, ho1⟩, ⟨f2, h2, ht2, ho2⟩, ⟨f3, h3, ht3, ho3⟩⟩ := T.ex
  obtain ⟨xs, n, rfl, _, hlen, hxl, hf⟩ := DataW.trod_struct hu h
  rw [T.cd] at hlen
  have g0 := hf 0 f0 h0
  have g1 := hf 1 f1 h1
  have g2 := hf 2 f2 h2
  have g3 := hf 3 f3 h3
  rw [hfs] at hxl
  rw [ht0, ho0, T.cz, List.getElem?_eq_getElem (by omega)] at g0
  rw [ht1, ho1, T.ci, List.getElem?_eq_getElem (by omega)] at g1
  rw [ht2, ho2, T.ci, List.getElem?_eq_getElem (by omega)] at g2
  rw [ht3, ho3, T.ci, List.getElem?_eq_getElem (by omega)] at g3
  match cs, hlen with
  | [c0, c1, c2, c3], _ =>
    simp only [List.drop_zero, List.drop_succ_cons, List.take_succ_cons, List.take_zero] at g0 g1 g2 g3
    obtain ⟨a, len, cap, zs, e0, hr⟩ := row_of T.z T.i T.ci g0
    obtain ⟨z1, e1, -, -⟩ := DataW.trod_int T.i g1
    obtain ⟨z2, e2, -, -⟩ := DataW.trod_int T.i g2
    obtain ⟨z3, e3, -, -⟩ := DataW.trod_int T.i g3
    simp only [List.cons.injEq, and_true] at e1 e2 e3
    subst e0 e1 e2 e3
    exact ⟨a, len, cap, zs, z1, z2, z3, rfl, hr⟩
end

theorem okAgg {P : Program} {W : World} {r : Reach} {base : Nat} {t : TypeId} {v : Value} {fs : Array Field} (hu : P.underlying t = some (.struct fs)) (h : Value.okWide P W r base t v) : ∃ cs, v = .agg cs := by
  unfold Value.okWide at h
  rw [hu] at h
  obtain ⟨cs, h, _⟩ := h
  exact ⟨cs, h⟩

set_option maxRecDepth 100000 in
theorem sz_ints17 (a : Option Addr) (len cap : Nat) (w : World) (hlen : len ≤ 1048576) :
    Calls Try.prog 51 #[.slice a len cap, .int .i64 1048576] w fun e w' => e = .returned (.int .i64 (1048576 - (len : Int))) ∧ w' = w := by
  go_enter Try.func51, Try.ntmps51
  go_wp2_with fail
  go_ret
  exact ⟨rfl, rfl⟩
set_option maxRecDepth 100000 in
theorem sz_ints17_no (a : Option Addr) (len cap : Nat) (w : World) (hlen : ¬ len ≤ 1048576) (hm : len ≤ maxLen) :
    Calls Try.prog 51 #[.slice a len cap, .int .i64 1048576] w fun e w' => e = .returned (.int .i64 (-1)) ∧ w' = w := by
  unfold maxLen at hm
  have h0 : (1048576 : Int) - len < 0 := by omega
  go_enter Try.func51, Try.ntmps51
  go_wp2_with fail
  go_ret
  exact ⟨rfl, rfl⟩
theorem sz_heap (a : Option Addr) (len cap : Nat) (x y z : Int) (w : World) (hlen : len ≤ 1048576) :
    Calls Try.prog 9 #[.agg #[.slice a len cap, .int .i64 x, .int .i64 y, .int .i64 z], .int .i64 1048576] w fun e w' => e = .returned (.int .i64 (1048576 - (len : Int))) ∧ Below w.heap.size w w' := by
  have HS : Hid (∀ w, Calls Try.prog 51 #[.slice a len cap, .int .i64 1048576] w fun e w' => e = .returned (.int .i64 (1048576 - (len : Int))) ∧ w' = w) := fun w => sz_ints17 a len cap w hlen
  go_enter Try.func9, Try.ntmps9
  go_wp2_with fail
  refine (HS.out _).mono ?_
  rintro e w1 ⟨rfl, rfl⟩
  go_wp2_with fail
  go_ret
  exact ⟨rfl, new_below _ _⟩
theorem sz_heap_no (a : Option Addr) (len cap : Nat) (x y z : Int) (w : World) (hlen : ¬ len ≤ 1048576) (hm : len ≤ maxLen) :
    Calls Try.prog 9 #[.agg #[.slice a len cap, .int .i64 x, .int .i64 y, .int .i64 z], .int .i64 1048576] w fun e w' => e = .returned (.int .i64 (-1)) ∧ Below w.heap.size w w' := by
  have HS : Hid (∀ w, Calls Try.prog 51 #[.slice a len cap, .int .i64 1048576] w fun e w' => e = .returned (.int .i64 (-1)) ∧ w' = w) := fun w => sz_ints17_no a len cap w hlen hm
  clear hm hlen
  go_enter Try.func9, Try.ntmps9
  go_wp2_with fail
  refine (HS.out _).mono ?_
  rintro e w1 ⟨rfl, rfl⟩
  go_wp2_with fail
  go_ret
  exact ⟨rfl, new_below _ _⟩
theorem results_cellH {fn : Func} {p : Tmp} {ty : TypeId} (h : fn.results = #[.cell p ty]) (tmps : Array Value) (P : Program) (w : World) :
    (results fn tmps).run P w = ((asAddr (tmps.getD p undef)).run P w).andThen fun a w₁ => (loadVar ty a).run P w₁ := by
  simp only [results, h]
  simp [Sem.run_bind, Result.andThen]

set_option maxRecDepth 100000 in
set_option maxHeartbeats 1000000 in
theorem to_heap (h : Hp) (v : Value) (w : World) (hv : Rs w v h.ws) (hl : h.ws.length ≤ 4194304) :
    Calls Try.prog 11 #[heapV v h] w fun e w' => ∃ u, e = .returned (heapV u h) ∧ Below w.heap.size w w' ∧ Own w' w.heap.size u h.ws := by
  obtain ⟨ws, half, base, next⟩ := h
  have HT : Hid (∀ wq, Below w.heap.size w wq → Calls Try.prog 21 #[v] wq fun e w' => ∃ u, e = .returned u ∧ Below wq.heap.size wq w' ∧ Own w' wq.heap.size u ws) := fun wq hq => to_ints ws v wq (hv.below hq) hl
  obtain ⟨p, cap, rfl, -⟩ := hv
  clear hl
  obtain ⟨A, hA⟩ : ∃ A, A = ((w.alloc (.cells #[.slice p ws.length cap, .int .i64 half, .int .i64 base, .int .i64 next] 24)).alloc (.cells #[.slice none 0 0, .int .i64 0, .int .i64 0, .int .i64 0] 27)).alloc (.cells #[.slice none 0 0, .int .i64 0, .int .i64 0, .int .i64 0] 27) := ⟨_, rfl⟩
  have HA : Hid (Below w.heap.size w A ∧ A.heap.size = w.heap.size + 3 ∧ A.heap[w.heap.size]? = some (.cells #[.slice p ws.length cap, .int .i64 half, .int .i64 base, .int .i64 next] 24 (0, 0)) ∧ A.heap[w.heap.size + 1]? = some (.cells #[.slice none 0 0, .int .i64 0, .int .i64 0, .int .i64 0] 27 (0, 0)) ∧ A.heap[w.heap.size + 2]? = some (.cells #[.slice none 0 0, .int .i64 0, .int .i64 0, .int .i64 0] 27 (0, 0))) := by
    show _ ∧ _ ∧ _ ∧ _ ∧ _
    rw [hA]
    refine ⟨(((Below.refl _ _).alloc (Nat.le_refl _) _).alloc (by simp) _).alloc (by simp; omega) _, by simp, ?_, ?_, ?_⟩
    · exact (Below.heap_alloc _ _ _ (by simp; omega)).trans ((Below.heap_alloc _ _ _ (by simp)).trans (heap_alloc_last _ _))
    · refine (Below.heap_alloc _ _ _ (by simp)).trans ?_
      have := heap_alloc_last (w.alloc (.cells #[.slice p ws.length cap, .int .i64 half, .int .i64 base, .int .i64 next] 24)) (.cells #[.slice none 0 0, .int .i64 0, .int .i64 0, .int .i64 0] 27)
      simpa using this
    · have := heap_alloc_last ((w.alloc (.cells #[.slice p ws.length cap, .int .i64 half, .int .i64 base, .int .i64 next] 24)).alloc (.cells #[.slice none 0 0, .int .i64 0, .int .i64 0, .int .i64 0] 27)) (.cells #[.slice none 0 0, .int .i64 0, .int .i64 0, .int .i64 0] 27)
      simpa using this
  go_enter Try.func11, Try.ntmps11
  go_wp2_with fail
  rw [← hA]
  clear hA
  refine (HT.out A HA.out.1).mono ?_
  rintro e w1 ⟨u, rfl, hb, ho⟩
  obtain ⟨pu, cu, rfl, -⟩ := ho.rd.shape
  have r0 := (hb.block _ (by have := HA.out.2.1; omega)).trans HA.out.2.2.1
  have r1 := (hb.block _ (by have := HA.out.2.1; omega)).trans HA.out.2.2.2.1
  have r2 := (hb.block _ (by have := HA.out.2.1; omega)).trans HA.out.2.2.2.2
  have a1 := cell_of_row w1 _ 1 _ _ _ r0
  have a2 := cell_of_row w1 _ 2 _ _ _ r0
  have a3 := cell_of_row w1 _ 3 _ _ _ r0
  have b0 := cell_of_row w1 _ 0 _ _ _ r1
  have b1 := cell_of_row w1 _ 1 _ _ _ r1
  have b2 := cell_of_row w1 _ 2 _ _ _ r1
  have b3 := cell_of_row w1 _ 3 _ _ _ r1
  have c0 := cell_of_row w1 _ 0 _ _ _ r2
  have c1 := cell_of_row w1 _ 1 _ _ _ r2
  have c2 := cell_of_row w1 _ 2 _ _ _ r2
  have c3 := cell_of_row w1 _ 3 _ _ _ r2
  have f0 := frozen_of_row w1 _ 0 _ _ r1
  have f1 := frozen_of_row w1 _ 1 _ _ r1
  have f2 := frozen_of_row w1 _ 2 _ _ r1
  have f3 := frozen_of_row w1 _ 3 _ _ r1
  have g0 := frozen_of_row w1 _ 0 _ _ r2
  have g1 := frozen_of_row w1 _ 1 _ _ r2
  have g2 := frozen_of_row w1 _ 2 _ _ r2
  have g3 := frozen_of_row w1 _ 3 _ _ r2
  have HO : Hid (Own w1 w.heap.size (.slice pu ws.length cu) ws) := ho.mono HA.out.1.size
  have HN : Hid (∀ j, (Value.slice pu ws.length cu).ownBlock ≠ some (⟨w.heap.size + 1, j, none⟩ : Addr).block ∧ (Value.slice pu ws.length cu).ownBlock ≠ some (⟨w.heap.size + 2, j, none⟩ : Addr).block) := fun j =>
    ⟨fun h => by have e1 : A.heap.size ≤ w.heap.size + 1 := (ho.lt _ h).1; have e2 := HA.out.2.1; omega, fun h => by have e1 : A.heap.size ≤ w.heap.size + 2 := (ho.lt _ h).1; have e2 := HA.out.2.1; omega⟩
  have HB : Hid (Below w.heap.size w w1) := HA.out.1.trans (hb.mono HA.out.1.size)
  clear hb ho r0 r1 r2
  go_wp2_with fail
  refine bodyPost_ret (v := heapV (.slice pu ws.length cu) ⟨ws, half, base, next⟩) (by rw [results_cellH (p := 2) (ty := 27) (by kernel_rfl)]; simp [go_sem, b0, b1, b2, b3]) rfl ?_
  refine ⟨_, rfl, ?_, ?_⟩
  · have h1 : w.heap.size ≤ w.heap.size + 1 := by omega
    have h2 : w.heap.size ≤ w.heap.size + 2 := by omega
    exact (((((((HB.out.setCell h2 _).setCell h2 _).setCell h2 _).setCell h2 _).setCell h1 _).setCell h1 _).setCell h1 _).setCell h1 _
  · exact ownsRow_setCell_other (ownsRow_setCell_other (ownsRow_setCell_other (ownsRow_setCell_other (ownsRow_setCell_other (ownsRow_setCell_other (ownsRow_setCell_other (ownsRow_setCell_other HO.out (HN.out 0).2 _) (HN.out 0).2 _) (HN.out 0).2 _) (HN.out 0).2 _) (HN.out 0).1 _) (HN.out 0).1 _) (HN.out 0).1 _) (HN.out 0).1 _
end Go.Proofs.Ytgcegjgjegkahab
