/- Rows of cores that a call owns. No conditions. -/
import Derived.Test.YtefjnhkaampmcaaDoorZCor
import Derived.Test.YtefjnhkaampmcaaDoorZDatRows
import Derived.OwnWalk
import Derived.Laws.OwnMore
import Derived.Laws.ResultCell
namespace Go.Proofs.YtefjnhkaampmcaaDoor
open Go.ChangeShapes Go.WideShapes Go.ChangeAt Go.RowKit

def ccells (q : C × Value) : List Value := [.int .i64 q.1.op, .int .i64 q.1.n, .string q.1.s, .string q.1.t2, q.2]
def corows (l : List (C × Value)) : List Value := l.flatMap ccells
theorem corows_append (a b : List (C × Value)) : corows (a ++ b) = corows a ++ corows b := by simp [corows]
theorem corows_length (l : List (C × Value)) : (corows l).length = l.length * 5 := by
  induction l with
  | nil => rfl
  | cons t r ih => simp only [corows, List.flatMap_cons, List.length_append, List.length_cons] at ih ⊢; rw [ih]; simp [ccells]; omega

/-- The list's data are those of the indices. -/
def CKs (kid : Nat → C) (l : List (C × Value)) : Prop := ∀ i q, l[i]? = some q → q.1 = kid i
theorem CKs.nil (kid : Nat → C) : CKs kid [] := fun i q h => by simp at h
theorem CKs.snoc {kid : Nat → C} {l : List (C × Value)} (h : CKs kid l) (v : Value) : CKs kid (l ++ [(kid l.length, v)]) := by
  intro i q hq
  rcases Nat.lt_trichotomy i l.length with hi | hi | hi
  · rw [List.getElem?_append_left hi] at hq; exact h i q hq
  · subst hi; simp at hq; subst hq; rfl
  · rw [List.getElem?_eq_none (by simp; omega)] at hq; cases hq

theorem corows_at (l : List (C × Value)) (junk : List Value) : ∀ (i : Nat) (q : C × Value), l[i]? = some q → ∀ j, j < 5 → (corows l ++ junk)[i * 5 + j]? = (ccells q)[j]? := by
  induction l with
  | nil => intro i q h; simp at h
  | cons x r ih =>
    intro i q h j hj
    have e : corows (x :: r) ++ junk = ccells x ++ (corows r ++ junk) := by simp [corows]
    have hl : (ccells x).length = 5 := rfl
    rw [e]
    cases i with
    | zero =>
      simp at h; subst h
      rw [List.getElem?_append_left (by omega)]; congr 1; omega
    | succ i =>
      simp at h
      rw [List.getElem?_append_right (by omega), hl]
      have := ih i q h j hj
      rw [← this]; congr 1; omega

/-- Five stores behind the rows. -/
theorem setC5 (l : List (C × Value)) (junk : List Value) (hj : 5 ≤ junk.length) (t : C) (v : Value) :
    (((((corows l ++ junk).set (l.length * 5) (.int .i64 t.op)).set (l.length * 5 + 1) (.int .i64 t.n)).set (l.length * 5 + 2) (.string t.s)).set (l.length * 5 + 3) (.string t.t2)).set (l.length * 5 + 4) v = corows (l ++ [(t, v)]) ++ junk.drop 5 := by
  have hl := corows_length l
  have s : ∀ (c : List Value) (j : Nat) (x : Value), (corows l ++ c).set (l.length * 5 + j) x = corows l ++ c.set j x := by
    intro c j x
    rw [List.set_append_right _ _ (by omega), hl]
    congr 2; omega
  have s0 := s junk 0 (.int .i64 t.op)
  rw [Nat.add_zero] at s0
  rw [s0, s, s, s, s, corows_append]
  match junk, hj with
  | a :: b :: c :: d :: e :: r, _ => simp [corows, ccells]

/-- What a call owns lies in memory. -/
theorem ClB.of_own {w : World} {base e B n : Nat} {v : Value} {kid : Nat → C} {l : List (C × Value)} (h : w.ownsRow base e 5 v n (corows l)) (hl : l.length = n) (hB : B ≤ base) (hk : CKs kid l) (hin : ∀ q ∈ l, q.1.InB B w q.2) : ClB B w n kid v := by
  rcases h.2 with ⟨rfl, rfl⟩ | ⟨g, cap, cur, rfl, hbg, hgg, hc, hm, hs, ht⟩
  · exact .inl ⟨rfl, _, _, rfl⟩
  · refine .inr ⟨g, 0, cap, fun i => ((l[i]?).getD (.no, .bool false)).2, rfl, by omega, hc, hm, fun i hi => ?_⟩
    have hi' : i < l.length := by omega
    have hq : l[i]? = some l[i] := List.getElem?_eq_getElem hi'
    have hkid := hk i _ hq
    have cell : ∀ j, j < 5 → w.cell? ⟨g, 0 + i * 5 + j, none⟩ = (ccells l[i])[j]? := by
      intro j hj
      have := h.cellAt (i * 5 + j) (by omega)
      rw [Nat.zero_add, this]
      have := corows_at l [] i _ hq j hj
      simpa using this
    simp only [hq, Option.getD_some]
    rw [← hkid]
    exact ⟨⟨cell 0 (by omega), cell 1 (by omega), cell 2 (by omega), cell 3 (by omega), cell 4 (by omega)⟩, hin _ (List.getElem_mem hi')⟩

/-- Five stores, from cell p of block g on. -/
abbrev stC5 (w : World) (g p : Nat) (t : C) (v : Value) : World :=
  ((((w.setCell ⟨g, p, none⟩ (.int .i64 t.op)).setCell ⟨g, p + 1, none⟩ (.int .i64 t.n)).setCell ⟨g, p + 2, none⟩ (.string t.s)).setCell ⟨g, p + 3, none⟩ (.string t.t2)).setCell ⟨g, p + 4, none⟩ v

theorem storedC5 {w : World} {base e g cap n : Nat} {l : List (C × Value)} {junk : List Value} (h : w.ownsRow base e 5 (.slice (some ⟨g, 0, none⟩) n cap) n (corows l ++ junk)) (hj : 5 ≤ junk.length) (t : C) (v : Value) :
    (stC5 w g (l.length * 5) t v).ownsRow base e 5 (.slice (some ⟨g, 0, none⟩) n cap) n (corows (l ++ [(t, v)]) ++ junk.drop 5) ∧ w.grownBy (stC5 w g (l.length * 5) t v) (some g) := by
  obtain ⟨q1, g1⟩ := h.stored (l.length * 5) (.int .i64 t.op)
  obtain ⟨q2, g2⟩ := q1.stored (l.length * 5 + 1) (.int .i64 t.n)
  obtain ⟨q3, g3⟩ := q2.stored (l.length * 5 + 2) (.string t.s)
  obtain ⟨q4, g4⟩ := q3.stored (l.length * 5 + 3) (.string t.t2)
  obtain ⟨q5, g5⟩ := q4.stored (l.length * 5 + 4) v
  rw [setC5 l junk hj t v] at q5
  exact ⟨q5, grownb (grownb (grownb (grownb g1 g2) g3) g4) g5⟩

/-- A row goes on by one datum. -/
theorem row_stepC {w wr w2 : World} {e n cap : Nat} {l : List (C × Value)} {junk : List Value} {kid : Nat → C} {v : Value}
    (hown : wr.ownsRow w.heap.size e 5 (.slice (some ⟨w.heap.size, 0, none⟩) n cap) n (corows l ++ junk)) (hj : 5 ≤ junk.length) (hks : CKs kid l) (hin : ∀ q ∈ l, q.1.InB (w.heap.size + 1) wr q.2)
    (hbel : Below w.heap.size w wr) (hsz : w.heap.size < wr.heap.size) (hb : Below wr.heap.size wr w2) (hv : (kid l.length).InB wr.heap.size w2 v) :
    (stC5 w2 w.heap.size (l.length * 5) (kid l.length) v).ownsRow w.heap.size e 5 (.slice (some ⟨w.heap.size, 0, none⟩) n cap) n (corows (l ++ [(kid l.length, v)]) ++ junk.drop 5) ∧ CKs kid (l ++ [(kid l.length, v)]) ∧
    (∀ q ∈ l ++ [(kid l.length, v)], q.1.InB (w.heap.size + 1) (stC5 w2 w.heap.size (l.length * 5) (kid l.length) v) q.2) ∧ Below w.heap.size w (stC5 w2 w.heap.size (l.length * 5) (kid l.length) v) ∧ w.heap.size < (stC5 w2 w.heap.size (l.length * 5) (kid l.length) v).heap.size := by
  obtain ⟨q, g⟩ := storedC5 (own_below5 hown hb) hj (kid l.length) v
  have hk : ∀ a u, w.heap.size + 1 ≤ a.block → w2.cell? a = some u → (stC5 w2 w.heap.size (l.length * 5) (kid l.length) v).cell? a = some u := fun a u ha hc => keepg g a u (by omega) hc
  have hb2 : Below w.heap.size w w2 := hbel.trans (hb.mono (by omega))
  refine ⟨q, hks.snoc v, ?_, hb2.trans ⟨g.os, g.tape, g.output, g.size, fun k hk => g.block k (by have := hb2.size; omega) (by intro e; injection e with e; omega)⟩, Nat.lt_of_lt_of_le hsz (Nat.le_trans hb.size g.size)⟩
  intro x hx
  rcases List.mem_append.1 hx with hx | hx
  · exact C.InB.kept hk _ ((hin x hx).below hb)
  · simp only [List.mem_singleton] at hx
    subst hx
    exact C.InB.kept hk _ (hv.mono (by omega))

end Go.Proofs.YtefjnhkaampmcaaDoor
