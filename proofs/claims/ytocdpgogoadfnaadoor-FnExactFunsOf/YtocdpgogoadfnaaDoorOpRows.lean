/- Rows of ops that a call owns. No conditions. -/
import Derived.Test.YtocdpgogoadfnaaDoorFun
import Derived.Test.YtocdpgogoadfnaaDoorDatRows
import Derived.OwnWalk
import Derived.Laws.OwnMore
import Derived.Laws.ResultCell
namespace Go.Proofs.YtocdpgogoadfnaaDoor
open Go.ChangeShapes Go.WideShapes Go.ChangeAt Go.RowKit

def ocells (q : O3) : List Value := [.int .i64 q.c, .int .i64 q.n, .int .i64 q.m]
def orows (l : List O3) : List Value := l.flatMap ocells
theorem orows_append (a b : List O3) : orows (a ++ b) = orows a ++ orows b := by simp [orows]
theorem orows_length (l : List O3) : (orows l).length = l.length * 3 := by
  induction l with
  | nil => rfl
  | cons t r ih => simp only [orows, List.flatMap_cons, List.length_append, List.length_cons] at ih ⊢; rw [ih]; simp [ocells]; omega

/-- The list's ops are those of the indices. -/
def OKs (op : Nat → O3) (l : List O3) : Prop := ∀ i q, l[i]? = some q → q = op i
theorem OKs.nil (op : Nat → O3) : OKs op [] := fun i q h => by simp at h
theorem OKs.snoc {op : Nat → O3} {l : List O3} (h : OKs op l) : OKs op (l ++ [op l.length]) := by
  intro i q hq
  rcases Nat.lt_trichotomy i l.length with hi | hi | hi
  · rw [List.getElem?_append_left hi] at hq; exact h i q hq
  · subst hi; simp at hq; subst hq; rfl
  · rw [List.getElem?_eq_none (by simp; omega)] at hq; cases hq

theorem orows_at (l : List O3) (junk : List Value) : ∀ (i : Nat) (q : O3), l[i]? = some q → ∀ j, j < 3 → (orows l ++ junk)[i * 3 + j]? = (ocells q)[j]? := by
  induction l with
  | nil => intro i q h; simp at h
  | cons x r ih =>
    intro i q h j hj
    have e : orows (x :: r) ++ junk = ocells x ++ (orows r ++ junk) := by simp [orows]
    have hl : (ocells x).length = 3 := rfl
    rw [e]
    cases i with
    | zero =>
      simp at h; subst h
      rw [List.getElem?_append_left (by omega)]; congr 1; omega
    | succ i =>
      simp at h
      rw [List.getElem?_append_right (by omega), hl]
      have := ih i q h j hj
      rw [← this]; congr 1; omega

/-- Three stores behind the rows. -/
theorem setO3 (l : List O3) (junk : List Value) (hj : 3 ≤ junk.length) (t : O3) :
    (((orows l ++ junk).set (l.length * 3) (.int .i64 t.c)).set (l.length * 3 + 1) (.int .i64 t.n)).set (l.length * 3 + 2) (.int .i64 t.m) = orows (l ++ [t]) ++ junk.drop 3 := by
  have hl := orows_length l
  have s : ∀ (c : List Value) (j : Nat) (x : Value), (orows l ++ c).set (l.length * 3 + j) x = orows l ++ c.set j x := by
    intro c j x
    rw [List.set_append_right _ _ (by omega), hl]
    congr 2; omega
  have s0 := s junk 0 (.int .i64 t.c)
  rw [Nat.add_zero] at s0
  rw [s0, s, s, orows_append]
  match junk, hj with
  | a :: b :: c :: r, _ => simp [orows, ocells]

/-- What a call owns lies in memory. -/
theorem OlB.of_own {w : World} {base e B n : Nat} {v : Value} {op : Nat → O3} {l : List O3} (h : w.ownsRow base e 3 v n (orows l)) (hl : l.length = n) (hB : B ≤ base) (hk : OKs op l) (hok : ∀ i, i < n → (op i).Ok) : OlB B w n op v := by
  rcases h.2 with ⟨rfl, rfl⟩ | ⟨g, cap, cur, rfl, hbg, hgg, hc, hm, hs, ht⟩
  · exact .inl ⟨rfl, _, _, rfl⟩
  · refine .inr ⟨g, 0, cap, rfl, by omega, hc, hm, fun i hi => ⟨?_, hok i hi⟩⟩
    have hi' : i < l.length := by omega
    have hq : l[i]? = some l[i] := List.getElem?_eq_getElem hi'
    have hkid := hk i _ hq
    have cell : ∀ j, j < 3 → w.cell? ⟨g, 0 + i * 3 + j, none⟩ = (ocells l[i])[j]? := by
      intro j hj
      have := h.cellAt (i * 3 + j) (by omega)
      rw [Nat.zero_add, this]
      have := orows_at l [] i _ hq j hj
      simpa using this
    rw [← hkid]
    exact ⟨cell 0 (by omega), cell 1 (by omega), cell 2 (by omega)⟩

/-- Three stores, from cell p of block g on. -/
abbrev stO3 (w : World) (g p : Nat) (t : O3) : World :=
  ((w.setCell ⟨g, p, none⟩ (.int .i64 t.c)).setCell ⟨g, p + 1, none⟩ (.int .i64 t.n)).setCell ⟨g, p + 2, none⟩ (.int .i64 t.m)

theorem storedO3 {w : World} {base e g cap n : Nat} {l : List O3} {junk : List Value} (h : w.ownsRow base e 3 (.slice (some ⟨g, 0, none⟩) n cap) n (orows l ++ junk)) (hj : 3 ≤ junk.length) (t : O3) :
    (stO3 w g (l.length * 3) t).ownsRow base e 3 (.slice (some ⟨g, 0, none⟩) n cap) n (orows (l ++ [t]) ++ junk.drop 3) ∧ w.grownBy (stO3 w g (l.length * 3) t) (some g) := by
  obtain ⟨q1, g1⟩ := h.stored (l.length * 3) (.int .i64 t.c)
  obtain ⟨q2, g2⟩ := q1.stored (l.length * 3 + 1) (.int .i64 t.n)
  obtain ⟨q3, g3⟩ := q2.stored (l.length * 3 + 2) (.int .i64 t.m)
  rw [setO3 l junk hj t] at q3
  exact ⟨q3, grownb (grownb g1 g2) g3⟩

/-- A row goes on by one op. -/
theorem row_stepO {w wr w2 : World} {e n cap : Nat} {l : List O3} {junk : List Value} {op : Nat → O3}
    (hown : wr.ownsRow w.heap.size e 3 (.slice (some ⟨w.heap.size, 0, none⟩) n cap) n (orows l ++ junk)) (hj : 3 ≤ junk.length) (hks : OKs op l)
    (hbel : Below w.heap.size w wr) (hsz : w.heap.size < wr.heap.size) (hb : Below wr.heap.size wr w2) :
    (stO3 w2 w.heap.size (l.length * 3) (op l.length)).ownsRow w.heap.size e 3 (.slice (some ⟨w.heap.size, 0, none⟩) n cap) n (orows (l ++ [op l.length]) ++ junk.drop 3) ∧ OKs op (l ++ [op l.length]) ∧
    Below w.heap.size w (stO3 w2 w.heap.size (l.length * 3) (op l.length)) ∧ w.heap.size < (stO3 w2 w.heap.size (l.length * 3) (op l.length)).heap.size := by
  obtain ⟨q, g⟩ := storedO3 (own_below5 hown hb) hj (op l.length)
  have hb2 : Below w.heap.size w w2 := hbel.trans (hb.mono (by omega))
  exact ⟨q, hks.snoc, hb2.trans ⟨g.os, g.tape, g.output, g.size, fun k hk => g.block k (by have := hb2.size; omega) (by intro e; injection e with e; omega)⟩, Nat.lt_of_lt_of_le hsz (Nat.le_trans hb.size g.size)⟩
end Go.Proofs.YtocdpgogoadfnaaDoor
