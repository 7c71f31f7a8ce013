/- A row of ints in a block of its own that is written one by one; words with a block put in, kid by kid; a call of three arguments as one step of a drawn region. No conditions. -/
import Derived.Test.YtgcegjgjegkahabAllocP17
import Derived.Test.YtgcegjgjegkahabStepAny
namespace Go.Proofs.Ytgcegjgjegkahab
open Go.ChangeShapes Go.WideShapes Go.ChangeAt Go.RowKit

/-- A row of ints at the head of block g. -/
def WR (w : World) (g cap : Nat) (ws : List Int) : Prop := ∃ cur : List Value, w.heap[g]? = some (.cells cur.toArray 3 (0, 0)) ∧ ws.length ≤ cap ∧ cap ≤ maxLen ∧ cur.length = cap ∧ cur.take ws.length = ws.map (Value.int .i64)
theorem wr_of_own {w : World} {B g cap : Nat} {ws : List Int} (h : Own w B (.slice (some ⟨g, 0, none⟩) ws.length cap) ws) : B ≤ g ∧ WR w g cap ws := by
  rcases h.2 with ⟨h1, _⟩ | ⟨g', cap', cur, h1, h2, h3, h4, h5, h6, h7⟩
  · cases h1
  · injection h1 with e1 _ e3
    injection e1 with e1
    injection e1 with e1
    subst e1
    subst e3
    exact ⟨h2, cur.toList, by simpa using h3, h4, h5, by simpa using h6, by simpa using h7⟩
theorem WR.own {w : World} {B g cap : Nat} {ws : List Int} (h : WR w g cap ws) (hB : B ≤ g) : Own w B (.slice (some ⟨g, 0, none⟩) ws.length cap) ws := by
  obtain ⟨cur, h1, h2, h3, h4, h5⟩ := h
  refine ⟨by simp, .inr ⟨g, cap, cur.toArray, rfl, hB, h1, h2, h3, by simpa using h4, by simpa using h5⟩⟩
theorem WR.set {w : World} {g cap : Nat} {ws : List Int} (h : WR w g cap ws) (j : Nat) (x : Int) : WR (w.setCell ⟨g, j, none⟩ (.int .i64 x)) g cap (ws.set j x) := by
  obtain ⟨cur, h1, h2, h3, h4, h5⟩ := h
  refine ⟨cur.set j (.int .i64 x), ?_, by rw [List.length_set]; exact h2, h3, by rw [List.length_set]; exact h4, ?_⟩
  · rw [heap_setCell_same w g j _ _ _ h1, List.setIfInBounds_toArray]
  · rw [List.length_set, List.take_set, h5, List.map_set]
theorem WR.cell {w : World} {g cap : Nat} {ws : List Int} (h : WR w g cap ws) (j : Nat) (hj : j < ws.length) : (∃ x, w.cell? ⟨g, j, none⟩ = some x) ∧ w.frozen? ⟨g, j, none⟩ = false := by
  obtain ⟨cur, h1, h2, h3, h4, h5⟩ := h
  refine ⟨⟨cur[j]'(by omega), ?_⟩, frozen_of_row w g j _ _ h1⟩
  rw [cell_of_row w g j _ _ _ h1, List.getElem?_toArray, List.getElem?_eq_getElem (by omega)]
theorem WR.stay {w w' : World} {g cap : Nat} {ws : List Int} (h : WR w g cap ws) (hs : w'.heap[g]? = w.heap[g]?) : WR w' g cap ws := by
  obtain ⟨cur, h1, h2⟩ := h
  exact ⟨cur, hs.trans h1, h2⟩
theorem WR.lt {w : World} {g cap : Nat} {ws : List Int} (h : WR w g cap ws) : g < w.heap.size := by
  obtain ⟨cur, h1, _⟩ := h
  rcases Nat.lt_or_ge g w.heap.size with h2 | h2
  · exact h2
  · rw [Array.getElem?_eq_none h2] at h1; cases h1

theorem splice_nil {α : Type} (L : List α) (o : Nat) : splice L o [] = L := by simp [splice]
theorem splice_step {α : Type} (L : List α) (o : Nat) (cs : List α) (y : α) (h : o + cs.length < L.length) : (splice L o cs).set (o + cs.length) y = splice L o (cs ++ [y]) := by
  unfold splice
  have h1 : (L.take o).length = o := by rw [List.length_take]; omega
  rw [List.set_append_right _ _ (by omega), h1, List.set_append_right _ _ (by omega), List.drop_eq_getElem_cons h]
  have h2 : o + cs.length - o - cs.length = 0 := by omega
  rw [h2, List.set_cons_zero, List.append_assoc, List.singleton_append, List.length_append, List.length_singleton]
  rfl
theorem putW_nil (ws : List Int) (p : Nat) (x : Int) (ks : List Int) : putW ws p x (ks.take 0) = ws.set p x := by
  unfold putW; rw [List.take_zero, splice_nil]
theorem putW_step (ws : List Int) (p : Nat) (x : Int) (ks : List Int) (i : Nat) (hi : i < ks.length) (h : p + 1 + ks.length ≤ ws.length) :
    (putW ws p x (ks.take i)).set (p + 1 + i) (ks.getD i 0) = putW ws p x (ks.take (i + 1)) := by
  unfold putW
  have hl : (ks.take i).length = i := by rw [List.length_take]; omega
  have := splice_step (ws.set p x) (p + 1) (ks.take i) (ks.getD i 0) (by rw [List.length_set, hl]; omega)
  rw [hl] at this
  rw [this, getD_int _ i hi, List.take_add_one, List.getElem?_eq_getElem hi]
  rfl
theorem putW_all (ws : List Int) (p : Nat) (x : Int) (ks : List Int) : putW ws p x (ks.take ks.length) = putW ws p x ks := by rw [List.take_length]
theorem putW_take_len (ws : List Int) (p : Nat) (x : Int) (ks : List Int) (i : Nat) (hi : i ≤ ks.length) (h : p + 1 + ks.length ≤ ws.length) : (putW ws p x (ks.take i)).length = ws.length :=
  putW_len (by rw [List.length_take]; omega)
theorem cell17_lt {w : World} {b o : Nat} {x : Value} (h : w.cell? ⟨b, o, none⟩ = some x) : b < w.heap.size := by
  rcases Nat.lt_or_ge b w.heap.size with h1 | h1
  · exact h1
  · simp [World.cell?, Array.getElem?_eq_none h1] at h

theorem step_call17 {P : Program} {ops : Array Oper} {o : Oper} {a : Act} {w : World} {K : Act → World → Prop} {Q : Exit → Act → World → Prop} {E : Prop} (hgd : o.guard = none) (f : FuncId) (x y z : Operand) (t u s : TypeId)
    (ho : o.op = .call { callee := .value (.func f), args := #[x, y, z], argTypes := #[t, u, s] }) (hcf : ∀ (vs : Array Value) (w : World), (callFunc f vs).run P w = .ok (.enter f vs) w) (vx vy vz : Value) (hx : a.eval x = vx) (hy : a.eval y = vy) (hz : a.eval z = vz) (R : Ending → World → Prop) (hc : Calls P f #[vx, vy, vz] w R)
    (h : ∀ e w', R e w' → ∃ v, e = .returned v ∧ K (a.put o.dst v) w') : if Region.wanted o (yielded ops a.tmps) = true then Oper.wp P o a w K Q else E := by
  have hw : Region.wanted o (yielded ops a.tmps) = true := by simp [Region.wanted, hgd]
  rw [if_pos hw]
  have hrun : (execOp a.eval o).run P w = .ok (.enter f #[vx, vy, vz]) w := by
    have e : execOp a.eval o = callFunc f (#[] ++ #[x, y, z].map a.eval ++ #[]) := by
      obtain ⟨dst, op, ty, pos, after, guard⟩ := o
      simp only at ho
      subst ho
      rfl
    rw [e, hcf]
    simp [hx, hy, hz]
  unfold Oper.wp
  rw [hrun, Oper.upon_enter]
  refine hc.mono fun e w' hr => ?_
  obtain ⟨v, rfl, hk⟩ := h e w' hr
  exact hk
end Go.Proofs.Ytgcegjgjegkahab
