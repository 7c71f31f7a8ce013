/- Rows of blocks that a call owns. No conditions. -/
import Derived.Test.YtmobpjokmngdgaaDoorBlk
import Derived.Test.YtmobpjokmngdgaaDoorIrRows
import Derived.OwnWalk
import Derived.Laws.OwnMore
import Derived.Laws.ResultCell
namespace Go.Proofs.YtmobpjokmngdgaaDoor
open Go.ChangeShapes Go.WideShapes Go.ChangeAt Go.RowKit

def kcells (q : Kb × Value) : List Value := [.int .i64 q.1.fr, .int .i64 q.1.bd.op, .int .i64 q.1.bd.n, q.2]
def krows (l : List (Kb × Value)) : List Value := l.flatMap kcells
theorem krows_append (a b : List (Kb × Value)) : krows (a ++ b) = krows a ++ krows b := by simp [krows]
theorem krows_length (l : List (Kb × Value)) : (krows l).length = l.length * 4 := by
  induction l with
  | nil => rfl
  | cons t r ih => simp only [krows, List.flatMap_cons, List.length_append, List.length_cons] at ih ⊢; rw [ih]; simp [kcells]; omega

/-- The list's data are those of the indices. -/
def KKs (kid : Nat → Kb) (l : List (Kb × Value)) : Prop := ∀ i q, l[i]? = some q → q.1 = kid i
theorem KKs.nil (kid : Nat → Kb) : KKs kid [] := fun i q h => by simp at h
theorem KKs.snoc {kid : Nat → Kb} {l : List (Kb × Value)} (h : KKs kid l) (v : Value) : KKs kid (l ++ [(kid l.length, v)]) := by
  intro i q hq
  rcases Nat.lt_trichotomy i l.length with hi | hi | hi
  · rw [List.getElem?_append_left hi] at hq; exact h i q hq
  · subst hi; simp at hq; subst hq; rfl
  · rw [List.getElem?_eq_none (by simp; omega)] at hq; cases hq

theorem krows_at (l : List (Kb × Value)) (junk : List Value) : ∀ (i : Nat) (q : Kb × Value), l[i]? = some q → ∀ j, j < 4 → (krows l ++ junk)[i * 4 + j]? = (kcells q)[j]? := by
  induction l with
  | nil => intro i q h; simp at h
  | cons x r ih =>
    intro i q h j hj
    have e : krows (x :: r) ++ junk = kcells x ++ (krows r ++ junk) := by simp [krows]
    have hl : (kcells x).length = 4 := rfl
    rw [e]
    cases i with
    | zero =>
      simp at h; subst h
      rw [List.getElem?_append_left (by omega)]; congr 1; omega
    | succ i =>
      simp at h
      rw [List.getElem?_append_right (by omega), hl]
      have := ih i q h j hj
      rw [← this]; congr 1; omega

/-- Three stores behind the rows. -/
theorem setK4 (l : List (Kb × Value)) (junk : List Value) (hj : 4 ≤ junk.length) (t : Kb) (v : Value) :
    ((((krows l ++ junk).set (l.length * 4) (.int .i64 t.fr)).set (l.length * 4 + 1) (.int .i64 t.bd.op)).set (l.length * 4 + 2) (.int .i64 t.bd.n)).set (l.length * 4 + 3) v = krows (l ++ [(t, v)]) ++ junk.drop 4 := by
  have hl := krows_length l
  have s : ∀ (c : List Value) (j : Nat) (x : Value), (krows l ++ c).set (l.length * 4 + j) x = krows l ++ c.set j x := by
    intro c j x
    rw [List.set_append_right _ _ (by omega), hl]
    congr 2; omega
  have s0 := s junk 0 (.int .i64 t.fr)
  rw [Nat.add_zero] at s0
  rw [s0, s, s, s, krows_append]
  match junk, hj with
  | a :: b :: c :: d :: r, _ => simp [krows, kcells]

/-- What a call owns lies in memory. -/
theorem KlB.of_own {w : World} {base e B n : Nat} {v : Value} {kid : Nat → Kb} {l : List (Kb × Value)} (h : w.ownsRow base e 4 v n (krows l)) (hl : l.length = n) (hB : B ≤ base) (hk : KKs kid l) (hin : ∀ q ∈ l, q.1.InB B w q.2) : KlB B w n kid v := by
  rcases h.2 with ⟨rfl, rfl⟩ | ⟨g, cap, cur, rfl, hbg, hgg, hc, hm, hs, ht⟩
  · exact .inl ⟨rfl, _, _, rfl⟩
  · refine .inr ⟨g, 0, cap, fun i => ((l[i]?).getD (default, .bool false)).2, rfl, by omega, hc, hm, fun i hi => ?_⟩
    have hi' : i < l.length := by omega
    have hq : l[i]? = some l[i] := List.getElem?_eq_getElem hi'
    have hkid := hk i _ hq
    have cell : ∀ j, j < 4 → w.cell? ⟨g, 0 + i * 4 + j, none⟩ = (kcells l[i])[j]? := by
      intro j hj
      have := h.cellAt (i * 4 + j) (by omega)
      rw [Nat.zero_add, this]
      have := krows_at l [] i _ hq j hj
      simpa using this
    simp only [hq, Option.getD_some]
    rw [← hkid]
    exact ⟨⟨cell 0 (by omega), cell 1 (by omega), cell 2 (by omega), cell 3 (by omega)⟩, hin _ (List.getElem_mem hi')⟩

/-- Three stores, from cell p of block g on. -/
abbrev stK4 (w : World) (g p : Nat) (t : Kb) (v : Value) : World :=
  (((w.setCell ⟨g, p, none⟩ (.int .i64 t.fr)).setCell ⟨g, p + 1, none⟩ (.int .i64 t.bd.op)).setCell ⟨g, p + 2, none⟩ (.int .i64 t.bd.n)).setCell ⟨g, p + 3, none⟩ v

theorem storedK4 {w : World} {base e g cap n : Nat} {l : List (Kb × Value)} {junk : List Value} (h : w.ownsRow base e 4 (.slice (some ⟨g, 0, none⟩) n cap) n (krows l ++ junk)) (hj : 4 ≤ junk.length) (t : Kb) (v : Value) :
    (stK4 w g (l.length * 4) t v).ownsRow base e 4 (.slice (some ⟨g, 0, none⟩) n cap) n (krows (l ++ [(t, v)]) ++ junk.drop 4) ∧ w.grownBy (stK4 w g (l.length * 4) t v) (some g) := by
  obtain ⟨q1, g1⟩ := h.stored (l.length * 4) (.int .i64 t.fr)
  obtain ⟨q2, g2⟩ := q1.stored (l.length * 4 + 1) (.int .i64 t.bd.op)
  obtain ⟨q3, g3⟩ := q2.stored (l.length * 4 + 2) (.int .i64 t.bd.n)
  obtain ⟨q4, g4⟩ := q3.stored (l.length * 4 + 3) v
  rw [setK4 l junk hj t v] at q4
  exact ⟨q4, grownb (grownb (grownb g1 g2) g3) g4⟩

/-- A row goes on by one datum. -/
theorem row_stepK {w wr w2 : World} {e n cap : Nat} {l : List (Kb × Value)} {junk : List Value} {kid : Nat → Kb} {v : Value}
    (hown : wr.ownsRow w.heap.size e 4 (.slice (some ⟨w.heap.size, 0, none⟩) n cap) n (krows l ++ junk)) (hj : 4 ≤ junk.length) (hks : KKs kid l) (hin : ∀ q ∈ l, q.1.InB (w.heap.size + 1) wr q.2)
    (hbel : Below w.heap.size w wr) (hsz : w.heap.size < wr.heap.size) (hb : Below wr.heap.size wr w2) (hv : (kid l.length).InB wr.heap.size w2 v) :
    (stK4 w2 w.heap.size (l.length * 4) (kid l.length) v).ownsRow w.heap.size e 4 (.slice (some ⟨w.heap.size, 0, none⟩) n cap) n (krows (l ++ [(kid l.length, v)]) ++ junk.drop 4) ∧ KKs kid (l ++ [(kid l.length, v)]) ∧
    (∀ q ∈ l ++ [(kid l.length, v)], q.1.InB (w.heap.size + 1) (stK4 w2 w.heap.size (l.length * 4) (kid l.length) v) q.2) ∧ Below w.heap.size w (stK4 w2 w.heap.size (l.length * 4) (kid l.length) v) ∧ w.heap.size < (stK4 w2 w.heap.size (l.length * 4) (kid l.length) v).heap.size := by
  obtain ⟨q, g⟩ := storedK4 (own_below5 hown hb) hj (kid l.length) v
  have hk : ∀ a u, w.heap.size + 1 ≤ a.block → w2.cell? a = some u → (stK4 w2 w.heap.size (l.length * 4) (kid l.length) v).cell? a = some u := fun a u ha hc => keepg g a u (by omega) hc
  have hb2 : Below w.heap.size w w2 := hbel.trans (hb.mono (by omega))
  refine ⟨q, hks.snoc v, ?_, hb2.trans ⟨g.os, g.tape, g.output, g.size, fun k hk => g.block k (by have := hb2.size; omega) (by intro e; injection e with e; omega)⟩, Nat.lt_of_lt_of_le hsz (Nat.le_trans hb.size g.size)⟩
  intro x hx
  rcases List.mem_append.1 hx with hx | hx
  · exact Kb.InB.kept hk _ ((hin x hx).below hb)
  · simp only [List.mem_singleton] at hx
    subst hx
    exact Kb.InB.kept hk _ (hv.mono (by omega))

end Go.Proofs.YtmobpjokmngdgaaDoor
