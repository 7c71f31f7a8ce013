/- impl.newCoreWalk; the walk while another map turns. No conditions. -/
import Derived.Test.YtefjnhkaampmcaaDoorZCorOrder
namespace Go.Proofs.YtefjnhkaampmcaaDoor
open Go.ChangeShapes Go.WideShapes Go.ChangeAt Go.RowKit Go.Shelf Go.MapKept Go.ChangeMaps
open Go.Maps (Keyed IsMap)
attribute [local go_sem] Oper.semAt_some

/-- A map below has turned. -/
theorem CW.turn {w0 : World} {K B bs n m M : Nat} {w w' : World} {lv : Value} {st : List St} {env : List (List UInt8)} {es : Array MapEntry} {ck : Nat} (h : CW w0 K B bs n m w lv st env) (hM : M < w0.heap.size) (hm : w.heap[M]? = some (.map es ck)) (hg : w.grownBy w' (some M)) :
    ∃ w0' : World, w0'.heap.size = w0.heap.size ∧ CW w0' K B bs n m w' lv st env := by
  have hX : ∀ cs ty fr, w.heap[M]? ≠ some (.cells cs ty fr) := fun cs ty fr e => by rw [hm] at e; cases e
  have hB : M ≠ B := by have := h.lo.2.1; omega
  have hm0 : w0.heap[M]? = some (.map es ck) := (h.bel.block M hM).symm.trans hm
  obtain ⟨ob, hob⟩ : ∃ ob, w'.heap[M]? = some ob := ⟨_, Array.getElem?_eq_getElem (Nat.lt_of_lt_of_le (Array.getElem?_eq_some_iff.1 hm).1 hg.size)⟩
  have hs0 : (setBlock w0 M ob).heap.size = w0.heap.size := by simp [setBlock]
  have hkeep : ∀ a u, w0.cell? a = some u → (setBlock w0 M ob).cell? a = some u := fun a u hu => by
    by_cases e : a.block = M
    · exfalso
      unfold World.cell? at hu
      rw [e, hm0] at hu
      simp at hu
    · have : (setBlock w0 M ob).heap[a.block]? = w0.heap[a.block]? := heap_setBlock_other hm0 _ e
      unfold World.cell? at hu ⊢
      rw [this]
      exact hu
  refine ⟨setBlock w0 M ob, hs0, ⟨at_other hg hX h.blk, ?_, h.bnd.other hg hB hX, fun x hx => ?_, ?_, by rw [hs0]; exact h.lo⟩⟩
  · refine ⟨h.own.1, ?_⟩
    rcases h.own.2 with hn | ⟨g, cap, cur, rfl, hbg, hgg, rest⟩
    · exact .inl hn
    · exact .inr ⟨g, cap, cur, rfl, hbg, at_other hg hX hgg, rest⟩
  · obtain ⟨a1, a2, a3⟩ := h.ok x hx
    refine ⟨fun q hq => ?_, ?_, a3⟩
    · obtain ⟨b1, b2, b3⟩ := a1 q hq
      exact ⟨C.InB.kept (fun a u _ => hkeep a u) _ b1, b2.kept (fun a u _ => hkeep a u), b3⟩
    · rcases a2 with a2 | ⟨g, e1, e2⟩
      · exact .inl a2
      · exact .inr ⟨g, e1, at_other hg hX e2⟩
  · rw [hs0]
    refine ⟨hg.os.trans h.bel.os, hg.tape.trans h.bel.tape, hg.output.trans h.bel.output, Nat.le_trans (by rw [hs0]; exact h.bel.size) hg.size, fun g hg' => ?_⟩
    by_cases e : g = M
    · subst e
      rw [hob]
      exact (heap_setBlock_same hm0 _).symm
    · rw [hg.block g (by have := h.bel.size; omega) (by intro e1; injection e1 with e1; exact e e1), h.bel.block g hg']
      exact (heap_setBlock_other hm0 _ e).symm
theorem Nums.fr {K B bs : Nat} {w w' : World} {M n : Nat} {D : DataW Unit} (h : Nums w M n D) (hf : WFr K B bs w w') (hK : M ≠ K) (hB : M ≠ B) : Nums w' M n D := by
  obtain ⟨⟨es, clock, hb, rest⟩, h2⟩ := h
  refine ⟨⟨es, clock, (hf.block M (Array.getElem?_eq_some_iff.1 hb).1 hK hB (.inr (fun cs fr e => by rw [hb] at e; cases e)) (.inr (fun cs fr e => by rw [hb] at e; cases e))).trans hb, rest⟩, h2⟩
theorem Nums.kept {w w' : World} {row : Option Nat} {M n : Nat} {D : DataW Unit} (h : Nums w M n D) (hg : w.grownBy w' row) (hne : some M ≠ row) : Nums w' M n D := ⟨h.1.kept hg hne, h.2⟩
theorem Nums.below {w w' : World} {M n : Nat} {D : DataW Unit} (h : Nums w M n D) (hb : Below w.heap.size w w') : Nums w' M n D := h.kept (row := none) ⟨hb.os, hb.tape, hb.output, hb.size, fun g hg _ => hb.block g hg⟩ (by simp)

set_option maxRecDepth 100000 in
set_option maxHeartbeats 4000000 in
theorem new_walk (t : C) (v : Value) (w : World) (hin : t.In w v) : Calls Tryd.prog 28 #[aggC t v] w fun e w' => ∃ (S Bm : Nat), e = .returned (.agg #[.slice (some ⟨S, 0, none⟩) 1 1, .map (some Bm), .int .i64 0]) ∧ Below (w.heap.size + 1) (w.alloc (.cells #[.int .i64 t.op, .int .i64 t.n, .string t.s, .string t.t2, v] 29)) w' ∧ w.heap.size + 1 ≤ S ∧ w.heap.size + 1 ≤ Bm ∧ w'.heap[S]? = some (.cells #[.pointer (some ⟨w.heap.size, 0, none⟩), .slice none 0 0] 70 (0, 0)) ∧ w'.heap[Bm]? = some (.map #[] 0) := by
  obtain ⟨pv, cv, ev⟩ := hin.sl.shape
  subst ev
  obtain ⟨W, hW⟩ : ∃ W, W = w.alloc (.cells #[.int .i64 t.op, .int .i64 t.n, .string t.s, .string t.t2, .slice pv t.len cv] 29) := ⟨_, rfl⟩
  have hmk : ∀ wx : World, (Instr.makeMap 56 none).run Tryd.prog wx = .ok (.map (some wx.heap.size)) (wx.alloc (.map #[] 0)) := fun wx => rfl
  unfold aggC
  go_enter Tryd.func28, Tryd.ntmps28
  go_wp2_with fail
  clear hmk
  rw [← hW]
  have hWs : W.heap.size = w.heap.size + 1 := by rw [hW]; simp
  generalize hA2 : W.alloc (.cells #[.slice (some ⟨w.heap.size + 1 + 1, 0, none⟩) 1 1, .map (some (w.heap.size + 1 + 1 + 1)), .int .i64 0] 58) = A2
  have h2 : A2.heap[w.heap.size + 1]? = some (.cells #[.slice (some ⟨w.heap.size + 1 + 1, 0, none⟩) 1 1, .map (some (w.heap.size + 1 + 1 + 1)), .int .i64 0] 58 (0, 0)) := by rw [← hA2, ← hWs]; exact heap_alloc_new W _
  have b2 : Below W.heap.size W A2 := by rw [← hA2]; exact newb W _
  have hA2s : A2.heap.size = w.heap.size + 1 + 1 := by rw [← hA2]; simp [hWs]
  generalize hA3 : A2.alloc (.cells #[.pointer (some ⟨w.heap.size, 0, none⟩), .slice none 0 0] 70) = A3
  have h3 : A3.heap[w.heap.size + 1 + 1]? = some (.cells #[.pointer (some ⟨w.heap.size, 0, none⟩), .slice none 0 0] 70 (0, 0)) := by rw [← hA3, ← hA2s]; exact heap_alloc_new A2 _
  have b3 : Below A2.heap.size A2 A3 := by rw [← hA3]; exact newb A2 _
  have hA3s : A3.heap.size = w.heap.size + 1 + 1 + 1 := by rw [← hA3]; simp [hA2s]
  generalize hA4 : A3.alloc (.map #[] 0) = A4
  have h4 : A4.heap[w.heap.size + 1 + 1 + 1]? = some (.map #[] 0) := by rw [← hA4, ← hA3s]; exact (MapKept.heap_alloc A3 _).1
  have b4 : Below A3.heap.size A3 A4 := by rw [← hA4]; exact newb A3 _
  have h24 : A4.heap[w.heap.size + 1]? = some (.cells #[.slice (some ⟨w.heap.size + 1 + 1, 0, none⟩) 1 1, .map (some (w.heap.size + 1 + 1 + 1)), .int .i64 0] 58 (0, 0)) := by rw [b4.block _ (by omega), b3.block _ (by omega)]; exact h2
  have r0 := cell_of_row A4 (w.heap.size + 1) 0 _ _ _ h24
  have r1 := cell_of_row A4 (w.heap.size + 1) 1 _ _ _ h24
  have r2 := cell_of_row A4 (w.heap.size + 1) 2 _ _ _ h24
  simp at r0 r1 r2
  refine bodyPost_ret (v := .agg #[.slice (some ⟨w.heap.size + 1 + 1, 0, none⟩) 1 1, .map (some (w.heap.size + 1 + 1 + 1)), .int .i64 0]) (by rw [results_cell1 (p := 2) (ty := 58) (by kernel_rfl)]; simp [go_sem, r0, r1, r2]) rfl ?_
  exact ⟨_, _, rfl, (by rw [← hWs]; exact b2.trans ((b3.trans (b4.mono (by omega))).mono (by omega))), by omega, by omega, (b4.block _ (by omega)).trans h3, h4⟩
end Go.Proofs.YtefjnhkaampmcaaDoor
