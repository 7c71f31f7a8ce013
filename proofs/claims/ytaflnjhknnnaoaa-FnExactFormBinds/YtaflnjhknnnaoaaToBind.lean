/- laws.toBind and laws.toBindS: binds, laid anew, in memory of the call's own. Condition: at most 2^20 of them. -/
import Derived.Test.YtaflnjhknnnaoaaBindP
import Derived.Test.YtaflnjhknnnaoaaStxRows
import Derived.Test.YtaflnjhknnnaoaaIntsLaw
namespace Go.Proofs.Ytaflnjhknnnaoaa
open Go.ChangeShapes Go.WideShapes Go.ChangeAt Go.RowKit

/-- A row of a slice of binds: the bind and its set's slice. -/
abbrev BR : Type := Bd × Value
def bcells (q : BR) : List Value := [.string q.1.name, q.2, .int .i64 q.1.kind, .int .i64 q.1.n, .int .i64 q.1.at_]
def brows (l : List BR) : List Value := l.flatMap bcells
theorem brows_append (a b : List BR) : brows (a ++ b) = brows a ++ brows b := by simp [brows]
theorem brows_length (l : List BR) : (brows l).length = l.length * 5 := by
  induction l with
  | nil => rfl
  | cons t r ih => simp only [brows, List.flatMap_cons, List.length_append, List.length_cons] at ih ⊢; rw [ih]; simp [bcells]; omega
def BKs (bd : Nat → Bd) (l : List BR) : Prop := ∀ i q, l[i]? = some q → q.1 = bd i
theorem BKs.nil (bd : Nat → Bd) : BKs bd [] := fun i q h => by simp at h
theorem BKs.snoc {bd : Nat → Bd} {l : List BR} (h : BKs bd l) (v : Value) : BKs bd (l ++ [(bd l.length, v)]) := by
  intro i q hq
  rcases Nat.lt_trichotomy i l.length with hi | hi | hi
  · rw [List.getElem?_append_left hi] at hq; exact h i q hq
  · subst hi; simp at hq; subst hq; rfl
  · rw [List.getElem?_eq_none (by simp; omega)] at hq; cases hq
theorem brows_at (l : List BR) (junk : List Value) : ∀ (i : Nat) (q : BR), l[i]? = some q → ∀ j, j < 5 → (brows l ++ junk)[i * 5 + j]? = (bcells q)[j]? := by
  induction l with
  | nil => intro i q h; simp at h
  | cons x r ih =>
    intro i q h j hj
    have e : brows (x :: r) ++ junk = bcells x ++ (brows r ++ junk) := by simp [brows]
    have hl : (bcells x).length = 5 := rfl
    rw [e]
    cases i with
    | zero =>
      simp at h; subst h
      rw [List.getElem?_append_left (by omega)]; congr 1; omega
    | succ i =>
      simp at h
      rw [List.getElem?_append_right (by omega), hl]
      have := ih i q h j hj
      rw [← this]; congr 1; omega
theorem setB5 (l : List BR) (junk : List Value) (hj : 5 ≤ junk.length) (t : Bd) (sv : Value) :
    (((((brows l ++ junk).set (l.length * 5) (.string t.name)).set (l.length * 5 + 1) sv).set (l.length * 5 + 2) (.int .i64 t.kind)).set (l.length * 5 + 3) (.int .i64 t.n)).set (l.length * 5 + 4) (.int .i64 t.at_) = brows (l ++ [(t, sv)]) ++ junk.drop 5 := by
  have hl := brows_length l
  have s : ∀ (c : List Value) (j : Nat) (x : Value), (brows l ++ c).set (l.length * 5 + j) x = brows l ++ c.set j x := by
    intro c j x
    rw [List.set_append_right _ _ (by omega), hl]
    congr 2; omega
  have s0 := s junk 0 (.string t.name)
  rw [Nat.add_zero] at s0
  rw [s0, s, s, s, s, brows_append]
  match junk, hj with
  | a :: b :: c :: d :: e :: r, _ => simp [brows, bcells]
theorem BsB.of_own {R : World → Value → List Int → Prop} {w : World} {base e B n : Nat} {v : Value} {bd : Nat → Bd} {l : List BR} (h : w.ownsRow base e 5 v n (brows l)) (hl : l.length = n) (hB : B ≤ base) (hk : BKs bd l) (hin : ∀ q ∈ l, R w q.2 q.1.set ∧ q.1.Fits) : BsB R B w n bd v := by
  rcases h.2 with ⟨rfl, rfl⟩ | ⟨g, cap, cur, rfl, hbg, hgg, hc, hm, hs, ht⟩
  · exact .inl ⟨rfl, _, _, rfl⟩
  · refine .inr ⟨g, 0, cap, fun i => ((l[i]?).getD (default, .bool false)).2, rfl, by omega, hc, hm, fun i hi => ?_⟩
    have hi' : i < l.length := by omega
    have hq : l[i]? = some l[i] := List.getElem?_eq_getElem hi'
    have hkid := hk i _ hq
    have cell : ∀ j, j < 5 → w.cell? ⟨g, 0 + i * 5 + j, none⟩ = (bcells l[i])[j]? := by
      intro j hj
      have := h.cellAt (i * 5 + j) (by omega)
      rw [Nat.zero_add, this]
      have := brows_at l [] i _ hq j hj
      simpa using this
    simp only [hq, Option.getD_some]
    rw [← hkid]
    exact ⟨⟨cell 0 (by omega), cell 1 (by omega), cell 2 (by omega), cell 3 (by omega), cell 4 (by omega)⟩, hin _ (List.getElem_mem hi')⟩
abbrev stB5 (w : World) (g p : Nat) (t : Bd) (sv : Value) : World :=
  ((((w.setCell ⟨g, p, none⟩ (.string t.name)).setCell ⟨g, p + 1, none⟩ sv).setCell ⟨g, p + 2, none⟩ (.int .i64 t.kind)).setCell ⟨g, p + 3, none⟩ (.int .i64 t.n)).setCell ⟨g, p + 4, none⟩ (.int .i64 t.at_)
theorem storedB5 {w : World} {base e g cap n : Nat} {l : List BR} {junk : List Value} (h : w.ownsRow base e 5 (.slice (some ⟨g, 0, none⟩) n cap) n (brows l ++ junk)) (hj : 5 ≤ junk.length) (t : Bd) (sv : Value) :
    (stB5 w g (l.length * 5) t sv).ownsRow base e 5 (.slice (some ⟨g, 0, none⟩) n cap) n (brows (l ++ [(t, sv)]) ++ junk.drop 5) ∧ w.grownBy (stB5 w g (l.length * 5) t sv) (some g) := by
  obtain ⟨q1, g1⟩ := h.stored (l.length * 5) (.string t.name)
  obtain ⟨q2, g2⟩ := q1.stored (l.length * 5 + 1) sv
  obtain ⟨q3, g3⟩ := q2.stored (l.length * 5 + 2) (.int .i64 t.kind)
  obtain ⟨q4, g4⟩ := q3.stored (l.length * 5 + 3) (.int .i64 t.n)
  obtain ⟨q5, g5⟩ := q4.stored (l.length * 5 + 4) (.int .i64 t.at_)
  rw [setB5 l junk hj t sv] at q5
  exact ⟨q5, grownX (grownX (grownX (grownX g1 g2) g3) g4) g5⟩
theorem row_stepB {w wr w2 : World} {e n cap : Nat} {l : List BR} {junk : List Value} {bd : Nat → Bd} {sv : Value}
    (hown : wr.ownsRow w.heap.size e 5 (.slice (some ⟨w.heap.size, 0, none⟩) n cap) n (brows l ++ junk)) (hj : 5 ≤ junk.length) (hks : BKs bd l) (hin : ∀ q ∈ l, SetB (w.heap.size + 1) wr q.2 q.1.set ∧ q.1.Fits)
    (hbel : Below w.heap.size w wr) (hsz : w.heap.size < wr.heap.size) (hb : Below wr.heap.size wr w2) (hv : SetB wr.heap.size w2 sv (bd l.length).set ∧ (bd l.length).Fits) :
    (stB5 w2 w.heap.size (l.length * 5) (bd l.length) sv).ownsRow w.heap.size e 5 (.slice (some ⟨w.heap.size, 0, none⟩) n cap) n (brows (l ++ [(bd l.length, sv)]) ++ junk.drop 5) ∧ BKs bd (l ++ [(bd l.length, sv)]) ∧
    (∀ q ∈ l ++ [(bd l.length, sv)], SetB (w.heap.size + 1) (stB5 w2 w.heap.size (l.length * 5) (bd l.length) sv) q.2 q.1.set ∧ q.1.Fits) ∧ Below w.heap.size w (stB5 w2 w.heap.size (l.length * 5) (bd l.length) sv) ∧ w.heap.size < (stB5 w2 w.heap.size (l.length * 5) (bd l.length) sv).heap.size := by
  obtain ⟨q, g⟩ := storedB5 (own_belowX hown hb) hj (bd l.length) sv
  have hk : ∀ a u, w.heap.size + 1 ≤ a.block → w2.cell? a = some u → (stB5 w2 w.heap.size (l.length * 5) (bd l.length) sv).cell? a = some u := fun a u ha hc => keepX g a u (by omega) hc
  have hb2 : Below w.heap.size w w2 := hbel.trans (hb.mono (by omega))
  refine ⟨q, hks.snoc sv, ?_, hb2.trans ⟨g.os, g.tape, g.output, g.size, fun k hk => g.block k (by have := hb2.size; omega) (by intro e; injection e with e; omega)⟩, Nat.lt_of_lt_of_le hsz (Nat.le_trans hb.size g.size)⟩
  intro x hx
  rcases List.mem_append.1 hx with hx | hx
  · exact ⟨(hin x hx).1.kept (Nat.le_refl _) (fun a u ha hc => hk a u ha (keepsX hb a u hc)), (hin x hx).2⟩
  · simp only [List.mem_singleton] at hx
    subst hx
    exact ⟨hv.1.kept (by omega) (fun a u ha hc => hk a u (by omega) hc), hv.2⟩

theorem bind_info : (Try.prog.info? 42).map (fun i => (i.zero, i.size, i.bytes)) = some (some (.agg #[.string ⟨#[]⟩, .slice none 0 0, .int .i64 0, .int .i64 0, .int .i64 0]), 5, 64) := by kernel_rfl

end Go.Proofs.Ytaflnjhknnnaoaa
