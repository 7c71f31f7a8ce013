/- Rows of functions that a call owns. No conditions. -/
import Derived.Test.YtocdpgogoadfnaaDoorFun
import Derived.Test.YtocdpgogoadfnaaDoorDatRows
import Derived.OwnWalk
import Derived.Laws.OwnMore
import Derived.Laws.ResultCell
namespace Go.Proofs.YtocdpgogoadfnaaDoor
open Go.ChangeShapes Go.WideShapes Go.ChangeAt Go.RowKit

def fcells (q : Fu × Value) : List Value := [.int .i64 q.1.fr, q.2]
def frows (l : List (Fu × Value)) : List Value := l.flatMap fcells
theorem frows_append (a b : List (Fu × Value)) : frows (a ++ b) = frows a ++ frows b := by simp [frows]
theorem frows_length (l : List (Fu × Value)) : (frows l).length = l.length * 2 := by
  induction l with
  | nil => rfl
  | cons t r ih => simp only [frows, List.flatMap_cons, List.length_append, List.length_cons] at ih ⊢; rw [ih]; simp [fcells]; omega

/-- The list's data are those of the indices. -/
def FKs (kid : Nat → Fu) (l : List (Fu × Value)) : Prop := ∀ i q, l[i]? = some q → q.1 = kid i
theorem FKs.nil (kid : Nat → Fu) : FKs kid [] := fun i q h => by simp at h
theorem FKs.snoc {kid : Nat → Fu} {l : List (Fu × Value)} (h : FKs kid l) (v : Value) : FKs kid (l ++ [(kid l.length, v)]) := by
  intro i q hq
  rcases Nat.lt_trichotomy i l.length with hi | hi | hi
  · rw [List.getElem?_append_left hi] at hq; exact h i q hq
  · subst hi; simp at hq; subst hq; rfl
  · rw [List.getElem?_eq_none (by simp; omega)] at hq; cases hq

theorem frows_at (l : List (Fu × Value)) (junk : List Value) : ∀ (i : Nat) (q : Fu × Value), l[i]? = some q → ∀ j, j < 2 → (frows l ++ junk)[i * 2 + j]? = (fcells q)[j]? := by
  induction l with
  | nil => intro i q h; simp at h
  | cons x r ih =>
    intro i q h j hj
    have e : frows (x :: r) ++ junk = fcells x ++ (frows r ++ junk) := by simp [frows]
    have hl : (fcells x).length = 2 := rfl
    rw [e]
    cases i with
    | zero =>
      simp at h; subst h
      rw [List.getElem?_append_left (by omega)]; congr 1; omega
    | succ i =>
      simp at h
      rw [List.getElem?_append_right (by omega), hl]
      have := ih i q h j hj
      rw [← this]; congr 1; omega

/-- Two stores behind the rows. -/
theorem setF2 (l : List (Fu × Value)) (junk : List Value) (hj : 2 ≤ junk.length) (t : Fu) (v : Value) :
    ((frows l ++ junk).set (l.length * 2) (.int .i64 t.fr)).set (l.length * 2 + 1) v = frows (l ++ [(t, v)]) ++ junk.drop 2 := by
  have hl := frows_length l
  have s : ∀ (c : List Value) (j : Nat) (x : Value), (frows l ++ c).set (l.length * 2 + j) x = frows l ++ c.set j x := by
    intro c j x
    rw [List.set_append_right _ _ (by omega), hl]
    congr 2; omega
  have s0 := s junk 0 (.int .i64 t.fr)
  rw [Nat.add_zero] at s0
  rw [s0, s, frows_append]
  match junk, hj with
  | a :: b :: r, _ => simp [frows, fcells]

/-- What a call owns lies in memory. -/
theorem FlB.of_own {w : World} {base e B n : Nat} {v : Value} {kid : Nat → Fu} {l : List (Fu × Value)} (h : w.ownsRow base e 2 v n (frows l)) (hl : l.length = n) (hB : B ≤ base) (hk : FKs kid l) (hin : ∀ q ∈ l, q.1.InB B w q.2) : FlB B w n kid v := by
  rcases h.2 with ⟨rfl, rfl⟩ | ⟨g, cap, cur, rfl, hbg, hgg, hc, hm, hs, ht⟩
  · exact .inl ⟨rfl, _, _, rfl⟩
  · refine .inr ⟨g, 0, cap, fun i => ((l[i]?).getD (default, .bool false)).2, rfl, by omega, hc, hm, fun i hi => ?_⟩
    have hi' : i < l.length := by omega
    have hq : l[i]? = some l[i] := List.getElem?_eq_getElem hi'
    have hkid := hk i _ hq
    have cell : ∀ j, j < 2 → w.cell? ⟨g, 0 + i * 2 + j, none⟩ = (fcells l[i])[j]? := by
      intro j hj
      have := h.cellAt (i * 2 + j) (by omega)
      rw [Nat.zero_add, this]
      have := frows_at l [] i _ hq j hj
      simpa using this
    simp only [hq, Option.getD_some]
    rw [← hkid]
    exact ⟨⟨cell 0 (by omega), cell 1 (by omega)⟩, hin _ (List.getElem_mem hi')⟩

/-- Two stores, from cell p of block g on. -/
abbrev stF2 (w : World) (g p : Nat) (t : Fu) (v : Value) : World :=
  (w.setCell ⟨g, p, none⟩ (.int .i64 t.fr)).setCell ⟨g, p + 1, none⟩ v

theorem storedF2 {w : World} {base e g cap n : Nat} {l : List (Fu × Value)} {junk : List Value} (h : w.ownsRow base e 2 (.slice (some ⟨g, 0, none⟩) n cap) n (frows l ++ junk)) (hj : 2 ≤ junk.length) (t : Fu) (v : Value) :
    (stF2 w g (l.length * 2) t v).ownsRow base e 2 (.slice (some ⟨g, 0, none⟩) n cap) n (frows (l ++ [(t, v)]) ++ junk.drop 2) ∧ w.grownBy (stF2 w g (l.length * 2) t v) (some g) := by
  obtain ⟨q1, g1⟩ := h.stored (l.length * 2) (.int .i64 t.fr)
  obtain ⟨q2, g2⟩ := q1.stored (l.length * 2 + 1) v
  rw [setF2 l junk hj t v] at q2
  exact ⟨q2, grownb g1 g2⟩

/-- A row goes on by one datum. -/
theorem row_stepF {w wr w2 : World} {e n cap : Nat} {l : List (Fu × Value)} {junk : List Value} {kid : Nat → Fu} {v : Value}
    (hown : wr.ownsRow w.heap.size e 2 (.slice (some ⟨w.heap.size, 0, none⟩) n cap) n (frows l ++ junk)) (hj : 2 ≤ junk.length) (hks : FKs kid l) (hin : ∀ q ∈ l, q.1.InB (w.heap.size + 1) wr q.2)
    (hbel : Below w.heap.size w wr) (hsz : w.heap.size < wr.heap.size) (hb : Below wr.heap.size wr w2) (hv : (kid l.length).InB wr.heap.size w2 v) :
    (stF2 w2 w.heap.size (l.length * 2) (kid l.length) v).ownsRow w.heap.size e 2 (.slice (some ⟨w.heap.size, 0, none⟩) n cap) n (frows (l ++ [(kid l.length, v)]) ++ junk.drop 2) ∧ FKs kid (l ++ [(kid l.length, v)]) ∧
    (∀ q ∈ l ++ [(kid l.length, v)], q.1.InB (w.heap.size + 1) (stF2 w2 w.heap.size (l.length * 2) (kid l.length) v) q.2) ∧ Below w.heap.size w (stF2 w2 w.heap.size (l.length * 2) (kid l.length) v) ∧ w.heap.size < (stF2 w2 w.heap.size (l.length * 2) (kid l.length) v).heap.size := by
  obtain ⟨q, g⟩ := storedF2 (own_below5 hown hb) hj (kid l.length) v
  have hk : ∀ a u, w.heap.size + 1 ≤ a.block → w2.cell? a = some u → (stF2 w2 w.heap.size (l.length * 2) (kid l.length) v).cell? a = some u := fun a u ha hc => keepg g a u (by omega) hc
  have hb2 : Below w.heap.size w w2 := hbel.trans (hb.mono (by omega))
  refine ⟨q, hks.snoc v, ?_, hb2.trans ⟨g.os, g.tape, g.output, g.size, fun k hk => g.block k (by have := hb2.size; omega) (by intro e; injection e with e; omega)⟩, Nat.lt_of_lt_of_le hsz (Nat.le_trans hb.size g.size)⟩
  intro x hx
  rcases List.mem_append.1 hx with hx | hx
  · exact Fu.InB.kept hk _ ((hin x hx).below hb)
  · simp only [List.mem_singleton] at hx
    subst hx
    exact Fu.InB.kept hk _ (hv.mono (by omega))

end Go.Proofs.YtocdpgogoadfnaaDoor
