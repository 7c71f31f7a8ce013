/- laws.markFunS: functions of one's own are marked by numbers one behind the other. Condition: at most 2^40. -/
import Derived.Test.YtocdpgogoadfnaaDoorMarkOp
import Derived.Test.YtocdpgogoadfnaaDoorFunRows
namespace Go.Proofs.YtocdpgogoadfnaaDoor
open Go.ChangeShapes Go.WideShapes Go.ChangeAt Go.RowKit

/-- A function of one's own: its Free, its ops, and the slice of these. -/
structure Fe where
  fr : Int
  ol : List O3
  u : Value
def fecells (e : Fe) : List Value := [.int .i64 e.fr, e.u]
def ferows (l : List Fe) : List Value := l.flatMap fecells
theorem ferows_length (l : List Fe) : (ferows l).length = l.length * 2 := by
  induction l with
  | nil => rfl
  | cons t r ih => simp only [ferows, List.flatMap_cons, List.length_append, List.length_cons] at ih ⊢; rw [ih]; simp [fecells]; omega
theorem ferows_at (l : List Fe) : ∀ (i : Nat) (q : Fe), l[i]? = some q → ∀ j, j < 2 → (ferows l)[i * 2 + j]? = (fecells q)[j]? := by
  induction l with
  | nil => intro i q h; simp at h
  | cons x r ih =>
    intro i q h j hj
    have e : ferows (x :: r) = fecells x ++ ferows r := by simp [ferows]
    have hl : (fecells x).length = 2 := rfl
    rw [e]
    cases i with
    | zero =>
      simp at h; subst h
      rw [List.getElem?_append_left (by omega)]; congr 1; omega
    | succ i =>
      simp at h
      rw [List.getElem?_append_right (by omega), hl]
      have := ih i q h j hj
      rw [← this]; congr 1; omega
theorem ferows_set {l : List Fe} {a : Nat} {q : Fe} {z : Int} (hq : l[a]? = some q) : (ferows l).set (a * 2) (.int .i64 z) = ferows (l.set a ⟨z, q.ol, q.u⟩) := by
  induction l generalizing a with
  | nil => simp at hq
  | cons x r ih =>
    have e : ferows (x :: r) = fecells x ++ ferows r := by simp [ferows]
    cases a with
    | zero => simp at hq; subst hq; rw [e]; simp [ferows, fecells]
    | succ a =>
      have h1 := ih (a := a) (by simpa using hq)
      have hx : (fecells x).length = 2 := rfl
      rw [e, List.set_append_right _ _ (by omega), hx, show (a + 1) * 2 - 2 = a * 2 by omega, h1]
      simp [ferows]
theorem ferows_ops {l : List Fe} {a : Nat} {q : Fe} {ol : List O3} (hq : l[a]? = some q) : ferows (l.set a ⟨q.fr, ol, q.u⟩) = ferows l := by
  induction l generalizing a with
  | nil => simp at hq
  | cons x r ih =>
    cases a with
    | zero => simp at hq; subst hq; simp [ferows, fecells]
    | succ a => have h1 := ih (a := a) (by simpa using hq); simp only [ferows, List.set_cons_succ, List.flatMap_cons] at h1 ⊢; rw [h1]

/-- A list of functions that is owned, all its blocks apart. -/
structure FOwn (B : Nat) (w : World) (vo : Value) (le : List Fe) : Prop where
  row : w.ownsRow B 45 2 vo le.length (ferows le)
  el : ∀ (i : Nat) (e : Fe), le[i]? = some e → w.ownsRow B 47 3 e.u e.ol.length (orows e.ol)
  apart : ∀ (i j : Nat) (ei ej : Fe), le[i]? = some ei → le[j]? = some ej → i ≠ j → ∀ g, ei.u.ownBlock = some g → ej.u.ownBlock ≠ some g
  ne : ∀ (i : Nat) (e : Fe), le[i]? = some e → ∀ g, e.u.ownBlock = some g → vo.ownBlock ≠ some g
/-- Only the blocks of the list turned. -/
def FKeep (vo : Value) (le : List Fe) (w w' : World) : Prop := w'.os = w.os ∧ w'.tape = w.tape ∧ w'.output = w.output ∧ w.heap.size ≤ w'.heap.size ∧ ∀ k, k < w.heap.size → vo.ownBlock ≠ some k → (∀ (i : Nat) (e : Fe), le[i]? = some e → e.u.ownBlock ≠ some k) → w'.heap[k]? = w.heap[k]?

theorem own_grown {w w' : World} {B e sz n : Nat} {v : Value} {xs : List Value} {row : Option Nat} (h : w.ownsRow B e sz v n xs) (hg : w.grownBy w' row) (hn : ∀ g, v.ownBlock = some g → row ≠ some g) : w'.ownsRow B e sz v n xs := by
  refine ⟨h.1, ?_⟩
  rcases h.2 with h0 | ⟨g, cap, cur, e1, h2, h3, h4⟩
  · exact .inl h0
  · exact .inr ⟨g, cap, cur, e1, h2, (hg.block g (Array.getElem?_eq_some_iff.1 h3).1 (fun e2 => hn g (by rw [e1]; rfl) e2.symm)).trans h3, h4⟩
/-- The Free of one is stored anew. -/
theorem FOwn.free {B : Nat} {w w' : World} {vo : Value} {le : List Fe} {a : Nat} {q : Fe} {z : Int} (h : FOwn B w vo le) (hq : le[a]? = some q) (hrow : w'.ownsRow B 45 2 vo le.length (ferows (le.set a ⟨z, q.ol, q.u⟩))) (hg : w.grownBy w' vo.ownBlock) : FOwn B w' vo (le.set a ⟨z, q.ol, q.u⟩) := by
  have key : ∀ (i : Nat) (e : Fe), (le.set a ⟨z, q.ol, q.u⟩)[i]? = some e → ∃ e', le[i]? = some e' ∧ e.ol = e'.ol ∧ e.u = e'.u := fun i e hi => by
    by_cases hia : i = a
    · subst hia
      have hlt := (List.getElem?_eq_some_iff.1 hq).1
      rw [List.getElem?_set_self hlt] at hi
      injection hi with hi
      subst hi
      exact ⟨q, hq, rfl, rfl⟩
    · rw [List.getElem?_set_ne (Ne.symm hia)] at hi
      exact ⟨e, hi, rfl, rfl⟩
  refine ⟨by rw [List.length_set]; exact hrow, fun i e hi => ?_, fun i j ei ej hi hj hij g hg1 => ?_, fun i e hi g hg1 => ?_⟩
  · obtain ⟨e', h1, h2, h3⟩ := key i e hi
    rw [h2, h3]
    exact own_grown (h.el i e' h1) hg (fun g hg1 => h.ne i e' h1 g hg1)
  · obtain ⟨ei', a1, _, a3⟩ := key i ei hi
    obtain ⟨ej', b1, _, b3⟩ := key j ej hj
    rw [b3]
    exact h.apart i j ei' ej' a1 b1 hij g (a3 ▸ hg1)
  · obtain ⟨e', h1, _, h3⟩ := key i e hi
    exact h.ne i e' h1 g (h3 ▸ hg1)
/-- The ops of one are marked. -/
theorem FOwn.ops {B : Nat} {w w' : World} {vo : Value} {le : List Fe} {a : Nat} {q : Fe} {ol : List O3} (h : FOwn B w vo le) (hq : le[a]? = some q) (hol : ol.length = q.ol.length) (hrow : w'.ownsRow B 47 3 q.u q.ol.length (orows ol)) (hg : w.grownBy w' q.u.ownBlock) : FOwn B w' vo (le.set a ⟨q.fr, ol, q.u⟩) := by
  have hlt := (List.getElem?_eq_some_iff.1 hq).1
  have key : ∀ (i : Nat) (e : Fe), (le.set a ⟨q.fr, ol, q.u⟩)[i]? = some e → ∃ e', le[i]? = some e' ∧ e.u = e'.u ∧ (i ≠ a → e = e') ∧ (i = a → e = ⟨q.fr, ol, q.u⟩) := fun i e hi => by
    by_cases hia : i = a
    · subst hia
      rw [List.getElem?_set_self hlt] at hi
      injection hi with hi
      subst hi
      exact ⟨q, hq, rfl, fun h => absurd rfl h, fun _ => rfl⟩
    · rw [List.getElem?_set_ne (Ne.symm hia)] at hi
      exact ⟨e, hi, rfl, fun _ => rfl, fun h => absurd h hia⟩
  refine ⟨?_, fun i e hi => ?_, fun i j ei ej hi hj hij g hg1 => ?_, fun i e hi g hg1 => ?_⟩
  · rw [List.length_set, ferows_ops hq]
    exact own_grown h.row hg (fun g hg1 e => h.ne a q hq g e hg1)
  · obtain ⟨e', h1, h2, h3, h4⟩ := key i e hi
    by_cases hia : i = a
    · have := h4 hia
      subst this
      rw [hol]
      exact hrow
    · have := h3 hia
      subst this
      exact own_grown (h.el i e h1) hg (fun g hg1 e2 => h.apart i a e q h1 hq hia g hg1 e2)
  · obtain ⟨ei', a1, a3, _, _⟩ := key i ei hi
    obtain ⟨ej', b1, b3, _, _⟩ := key j ej hj
    rw [b3]
    exact h.apart i j ei' ej' a1 b1 hij g (a3 ▸ hg1)
  · obtain ⟨e', h1, h3, _, _⟩ := key i e hi
    exact h.ne i e' h1 g (h3 ▸ hg1)
end Go.Proofs.YtocdpgogoadfnaaDoor
