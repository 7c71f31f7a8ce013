/- laws.markOpS and laws.heldOpS: a row of ops of one's own is marked by numbers one behind the other, and holds them. Condition: at most 2^40. -/
import Derived.Test.YthnhdmanmmdoiaaDoorRows
import Derived.Test.YthnhdmanmmdoiaaDoorZG13AppendAt
import Derived.Test.YthnhdmanmmdoiaaDoorZG19SpecBlk0
import Derived.WalkKit
import Derived.ProofKit
namespace Go.Proofs.YthnhdmanmmdoiaaDoor
open Go.ChangeShapes Go.WideShapes Go.ChangeAt Go.RowKit

/-- The marks of the op number i, from c on. -/
def mkO (c i : Nat) : O3 := ⟨(c + i * 3 : Nat), (c + i * 3 + 1 : Nat), (c + i * 3 + 2 : Nat)⟩
/-- The first k are marked. -/
def markO (c : Nat) (l : List O3) (k : Nat) : List O3 := (List.range k).map (mkO c) ++ l.drop k
theorem markO_zero (c : Nat) (l : List O3) : markO c l 0 = l := by simp [markO]
theorem markO_len (c : Nat) (l : List O3) (k : Nat) (hk : k ≤ l.length) : (markO c l k).length = l.length := by simp [markO]; omega
theorem markO_step (c : Nat) (l : List O3) (k : Nat) (hk : k < l.length) : (markO c l k).set k (mkO c k) = markO c l (k + 1) := by
  unfold markO
  have hl : ((List.range k).map (mkO c)).length = k := by simp
  rw [List.set_append_right _ _ (by omega), hl, Nat.sub_self, List.range_succ, List.map_append, List.append_assoc]
  congr 1
  show (l.drop k).set 0 (mkO c k) = mkO c k :: l.drop (k + 1)
  rw [List.drop_eq_getElem_cons hk, List.set_cons_zero]
theorem markO_at (c : Nat) (l : List O3) (k : Nat) (hk : k < l.length) : ∃ q, (markO c l k)[k]? = some q := ⟨_, List.getElem?_eq_getElem (by rw [markO_len c l k (by omega)]; exact hk)⟩

theorem orows_set3 {l : List O3} {a : Nat} {q : O3} (ha : a < l.length) : (((orows l).set (a * 3) (.int .i64 q.c)).set (a * 3 + 1) (.int .i64 q.n)).set (a * 3 + 2) (.int .i64 q.m) = orows (l.set a q) := by
  induction l generalizing a with
  | nil => exact absurd ha (Nat.not_lt_zero _)
  | cons x r ih =>
    have e : orows (x :: r) = ocells x ++ orows r := by simp [orows]
    cases a with
    | zero => rw [e]; simp [orows, ocells]
    | succ a =>
      have h1 := ih (a := a) (by simp at ha; omega)
      have hx : (ocells x).length = 3 := rfl
      have s : ∀ (y : List Value) (j : Nat) (u : Value), (ocells x ++ y).set ((a + 1) * 3 + j) u = ocells x ++ y.set (a * 3 + j) u := fun y j u => by
        rw [List.set_append_right _ _ (by omega), hx]; congr 2; omega
      have s0 : ∀ (y : List Value) (u : Value), (ocells x ++ y).set ((a + 1) * 3) u = ocells x ++ y.set (a * 3) u := fun y u => s y 0 u
      rw [e, s0, s, s, h1]
      simp [orows]

set_option maxRecDepth 100000 in
set_option maxHeartbeats 4000000 in
theorem mark_ops (B : Nat) (l : List O3) (w : World) (v : Value) (c : Nat) (h : w.ownsRow B 68 3 v l.length (orows l)) (hc : c + l.length * 3 ≤ 1099511627776) :
    Calls Tryd.prog 25 #[v, .int .i64 c] w fun e w' => e = .returned (.int .i64 (c + l.length * 3 : Nat)) ∧ w'.ownsRow B 68 3 v l.length (orows (markO c l l.length)) ∧ w.grownBy w' v.ownBlock := by
  rcases h.2 with ⟨e, h0⟩ | ⟨g, cap, cur, e, hrest⟩
  · have hl : l = [] := List.eq_nil_of_length_eq_zero h0
    subst hl e
    have HH : Hid (w.ownsRow B 68 3 (.slice none 0 0) 0 (orows [])) := h
    clear h h0
    go_enter Tryd.func25, Tryd.ntmps25
    go_wp2_with fail
    go_loopw [1, 5] (fun x i wr => x = .int .i64 c ∧ i = .int .i64 0 ∧ wr = w) (fun _ _ _ => 0)
    case atStart => exact ⟨rfl, rfl, rfl⟩
    case round =>
      obtain ⟨rfl, rfl, rfl⟩ := hrel
      go_wp2_with fail
      go_ret
      exact ⟨by simp, by simpa [markO] using HH.out, World.grownBy.refl _ _⟩
  · subst e
    have HH : Hid (w.ownsRow B 68 3 (.slice (some ⟨g, 0, none⟩) l.length cap) l.length (orows l)) := h
    have hlm : l.length ≤ 366503875925 := by omega
    clear h hrest
    go_enter Tryd.func25, Tryd.ntmps25
    go_wp2_with fail
    go_loopw [1, 5] (fun x i wr => ∃ k : Nat, x = .int .i64 (c + k * 3 : Nat) ∧ i = .int .i64 k ∧ k ≤ l.length ∧ wr.ownsRow B 68 3 (.slice (some ⟨g, 0, none⟩) l.length cap) l.length (orows (markO c l k)) ∧ w.grownBy wr (some g)) (fun _ i _ => l.length - (intOf i).toNat)
    case atStart => exact ⟨0, by simp, rfl, Nat.zero_le _, by rw [markO_zero]; exact HH.out, World.grownBy.refl _ _⟩
    case round =>
      obtain ⟨k, rfl, rfl, hk, hown, hg⟩ := hrel
      have HOW : Hid (wr.ownsRow B 68 3 (.slice (some ⟨g, 0, none⟩) l.length cap) l.length (orows (markO c l k))) := hown
      have HG : Hid (w.grownBy wr (some g)) := hg
      clear hown hg HH
      by_cases hlt : (k : Int) < l.length
      · have hlt' : k < l.length := by omega
        have hml := markO_len c l k hk
        have hf : ∀ j, wr.frozen? ⟨g, j, none⟩ = false := fun j => HOW.out.frozenAt j
        have hcl : ∀ j, j < 3 → ∃ u, wr.cell? ⟨g, k * 3 + j, none⟩ = some u := fun j hj => by
          have hl2 : k * 3 + j < (orows (markO c l k)).length := by rw [orows_length, hml]; omega
          exact ⟨_, (HOW.out.cellAt (k * 3 + j) (by omega)).trans (List.getElem?_eq_getElem hl2)⟩
        obtain ⟨u0, hu0⟩ := hcl 0 (by omega)
        obtain ⟨u1, hu1⟩ := hcl 1 (by omega)
        obtain ⟨u2, hu2⟩ := hcl 2 (by omega)
        rw [Nat.add_zero] at hu0
        obtain ⟨X, hX⟩ : ∃ X, X = c + k * 3 := ⟨_, rfl⟩
        have hX40 : X + 3 ≤ 1099511627776 := by omega
        have HX : Hid (X = c + k * 3) := hX
        obtain ⟨q1, g1⟩ := HOW.out.stored (k * 3) (.int .i64 (X : Int))
        obtain ⟨q2, g2⟩ := q1.stored (k * 3 + 1) (.int .i64 ((X : Int) + 1))
        obtain ⟨q3, g3⟩ := q2.stored (k * 3 + 2) (.int .i64 ((X : Int) + 1 + 1))
        have e3 := orows_set3 (l := markO c l k) (a := k) (q := mkO c k) (by rw [hml]; exact hlt')
        rw [markO_step c l k hlt'] at e3
        have em : mkO c k = ⟨(X : Int), (X : Int) + 1, (X : Int) + 1 + 1⟩ := by
          rw [hX]
          unfold mkO
          congr 1
        rw [em] at e3
        have HN : Hid ((((wr.setCell ⟨g, k * 3, none⟩ (.int .i64 (X : Int))).setCell ⟨g, k * 3 + 1, none⟩ (.int .i64 ((X : Int) + 1))).setCell ⟨g, k * 3 + 2, none⟩ (.int .i64 ((X : Int) + 1 + 1))).ownsRow B 68 3 (.slice (some ⟨g, 0, none⟩) l.length cap) l.length (orows (markO c l (k + 1))) ∧
            w.grownBy (((wr.setCell ⟨g, k * 3, none⟩ (.int .i64 (X : Int))).setCell ⟨g, k * 3 + 1, none⟩ (.int .i64 ((X : Int) + 1))).setCell ⟨g, k * 3 + 2, none⟩ (.int .i64 ((X : Int) + 1 + 1))) (some g)) := ⟨by rw [← e3]; exact q3, grownb HG.out (grownb (grownb g1 g2) g3)⟩
        rw [← hX]
        clear q1 q2 q3 g1 g2 g3 e3 hcl hml em hX
        go_wp2_with fail
        go_roundw
        case rel => exact ⟨k + 1, by have := HX.out; congr 1; omega, by go_num, by omega, HN.out.1, HN.out.2⟩
        case measure => simp [intOf]; omega
      · have hke : k = l.length := by omega
        subst hke
        go_wp2_with fail
        go_ret
        exact ⟨rfl, HOW.out, HG.out⟩
end Go.Proofs.YthnhdmanmmdoiaaDoor

/- laws.markFunS: functions of one's own are marked by numbers one behind the other. Condition: at most 2^40. -/
namespace Go.Proofs.YthnhdmanmmdoiaaDoor
open Go.ChangeShapes Go.WideShapes Go.ChangeAt Go.RowKit

/-- A function of one's own: its Free, its ops, and the slice of these. -/
structure Fe where
  fr : Int
  ol : List O3
  u : Value
def fecells (e : Fe) : List Value := [.int .i64 e.fr, e.u]
def ferows (l : List Fe) : List Value := l.flatMap fecells
theorem ferows_length (l : List Fe) : (ferows l).length = l.length * 2 := by
  induction l with
  | nil => rfl
  | cons t r ih => simp only [ferows, List.flatMap_cons, List.length_append, List.length_cons] at ih ⊢; rw [ih]; simp [fecells]; omega
theorem ferows_at (l : List Fe) : ∀ (i : Nat) (q : Fe), l[i]? = some q → ∀ j, j < 2 → (ferows l)[i * 2 + j]? = (fecells q)[j]? := by
  induction l with
  | nil => intro i q h; simp at h
  | cons x r ih =>
    intro i q h j hj
    have e : ferows (x :: r) = fecells x ++ ferows r := by simp [ferows]
    have hl : (fecells x).length = 2 := rfl
    rw [e]
    cases i with
    | zero =>
      simp at h; subst h
      rw [List.getElem?_append_left (by omega)]; congr 1; omega
    | succ i =>
      simp at h
      rw [List.getElem?_append_right (by omega), hl]
      have := ih i q h j hj
      rw [← this]; congr 1; omega
theorem ferows_set {l : List Fe} {a : Nat} {q : Fe} {z : Int} (hq : l[a]? = some q) : (ferows l).set (a * 2) (.int .i64 z) = ferows (l.set a ⟨z, q.ol, q.u⟩) := by
  induction l generalizing a with
  | nil => simp at hq
  | cons x r ih =>
    have e : ferows (x :: r) = fecells x ++ ferows r := by simp [ferows]
    cases a with
    | zero => simp at hq; subst hq; rw [e]; simp [ferows, fecells]
    | succ a =>
      have h1 := ih (a := a) (by simpa using hq)
      have hx : (fecells x).length = 2 := rfl
      rw [e, List.set_append_right _ _ (by omega), hx, show (a + 1) * 2 - 2 = a * 2 by omega, h1]
      simp [ferows]
theorem ferows_ops {l : List Fe} {a : Nat} {q : Fe} {ol : List O3} (hq : l[a]? = some q) : ferows (l.set a ⟨q.fr, ol, q.u⟩) = ferows l := by
  induction l generalizing a with
  | nil => simp at hq
  | cons x r ih =>
    cases a with
    | zero => simp at hq; subst hq; simp [ferows, fecells]
    | succ a => have h1 := ih (a := a) (by simpa using hq); simp only [ferows, List.set_cons_succ, List.flatMap_cons] at h1 ⊢; rw [h1]

/-- A list of functions that is owned, all its blocks apart. -/
structure FOwn (B : Nat) (w : World) (vo : Value) (le : List Fe) : Prop where
  row : w.ownsRow B 54 2 vo le.length (ferows le)
  el : ∀ (i : Nat) (e : Fe), le[i]? = some e → w.ownsRow B 68 3 e.u e.ol.length (orows e.ol)
  apart : ∀ (i j : Nat) (ei ej : Fe), le[i]? = some ei → le[j]? = some ej → i ≠ j → ∀ g, ei.u.ownBlock = some g → ej.u.ownBlock ≠ some g
  ne : ∀ (i : Nat) (e : Fe), le[i]? = some e → ∀ g, e.u.ownBlock = some g → vo.ownBlock ≠ some g
/-- Only the blocks of the list turned. -/
def FKeep (vo : Value) (le : List Fe) (w w' : World) : Prop := w'.os = w.os ∧ w'.tape = w.tape ∧ w'.output = w.output ∧ w.heap.size ≤ w'.heap.size ∧ ∀ k, k < w.heap.size → vo.ownBlock ≠ some k → (∀ (i : Nat) (e : Fe), le[i]? = some e → e.u.ownBlock ≠ some k) → w'.heap[k]? = w.heap[k]?

theorem own_grown {w w' : World} {B e sz n : Nat} {v : Value} {xs : List Value} {row : Option Nat} (h : w.ownsRow B e sz v n xs) (hg : w.grownBy w' row) (hn : ∀ g, v.ownBlock = some g → row ≠ some g) : w'.ownsRow B e sz v n xs := by
  refine ⟨h.1, ?_⟩
  rcases h.2 with h0 | ⟨g, cap, cur, e1, h2, h3, h4⟩
  · exact .inl h0
  · exact .inr ⟨g, cap, cur, e1, h2, (hg.block g (Array.getElem?_eq_some_iff.1 h3).1 (fun e2 => hn g (by rw [e1]; rfl) e2.symm)).trans h3, h4⟩
/-- The Free of one is stored anew. -/
theorem FOwn.free {B : Nat} {w w' : World} {vo : Value} {le : List Fe} {a : Nat} {q : Fe} {z : Int} (h : FOwn B w vo le) (hq : le[a]? = some q) (hrow : w'.ownsRow B 54 2 vo le.length (ferows (le.set a ⟨z, q.ol, q.u⟩))) (hg : w.grownBy w' vo.ownBlock) : FOwn B w' vo (le.set a ⟨z, q.ol, q.u⟩) := by
  have key : ∀ (i : Nat) (e : Fe), (le.set a ⟨z, q.ol, q.u⟩)[i]? = some e → ∃ e', le[i]? = some e' ∧ e.ol = e'.ol ∧ e.u = e'.u := fun i e hi => by
    by_cases hia : i = a
    · subst hia
      have hlt := (List.getElem?_eq_some_iff.1 hq).1
      rw [List.getElem?_set_self hlt] at hi
      injection hi with hi
      subst hi
      exact ⟨q, hq, rfl, rfl⟩
    · rw [List.getElem?_set_ne (Ne.symm hia)] at hi
      exact ⟨e, hi, rfl, rfl⟩
  refine ⟨by rw [List.length_set]; exact hrow, fun i e hi => ?_, fun i j ei ej hi hj hij g hg1 => ?_, fun i e hi g hg1 => ?_⟩
  · obtain ⟨e', h1, h2, h3⟩ := key i e hi
    rw [h2, h3]
    exact own_grown (h.el i e' h1) hg (fun g hg1 => h.ne i e' h1 g hg1)
  · obtain ⟨ei', a1, _, a3⟩ := key i ei hi
    obtain ⟨ej', b1, _, b3⟩ := key j ej hj
    rw [b3]
    exact h.apart i j ei' ej' a1 b1 hij g (a3 ▸ hg1)
  · obtain ⟨e', h1, _, h3⟩ := key i e hi
    exact h.ne i e' h1 g (h3 ▸ hg1)
/-- The ops of one are marked. -/
theorem FOwn.ops {B : Nat} {w w' : World} {vo : Value} {le : List Fe} {a : Nat} {q : Fe} {ol : List O3} (h : FOwn B w vo le) (hq : le[a]? = some q) (hol : ol.length = q.ol.length) (hrow : w'.ownsRow B 68 3 q.u q.ol.length (orows ol)) (hg : w.grownBy w' q.u.ownBlock) : FOwn B w' vo (le.set a ⟨q.fr, ol, q.u⟩) := by
  have hlt := (List.getElem?_eq_some_iff.1 hq).1
  have key : ∀ (i : Nat) (e : Fe), (le.set a ⟨q.fr, ol, q.u⟩)[i]? = some e → ∃ e', le[i]? = some e' ∧ e.u = e'.u ∧ (i ≠ a → e = e') ∧ (i = a → e = ⟨q.fr, ol, q.u⟩) := fun i e hi => by
    by_cases hia : i = a
    · subst hia
      rw [List.getElem?_set_self hlt] at hi
      injection hi with hi
      subst hi
      exact ⟨q, hq, rfl, fun h => absurd rfl h, fun _ => rfl⟩
    · rw [List.getElem?_set_ne (Ne.symm hia)] at hi
      exact ⟨e, hi, rfl, fun _ => rfl, fun h => absurd h hia⟩
  refine ⟨?_, fun i e hi => ?_, fun i j ei ej hi hj hij g hg1 => ?_, fun i e hi g hg1 => ?_⟩
  · rw [List.length_set, ferows_ops hq]
    exact own_grown h.row hg (fun g hg1 e => h.ne a q hq g e hg1)
  · obtain ⟨e', h1, h2, h3, h4⟩ := key i e hi
    by_cases hia : i = a
    · have := h4 hia
      subst this
      rw [hol]
      exact hrow
    · have := h3 hia
      subst this
      exact own_grown (h.el i e h1) hg (fun g hg1 e2 => h.apart i a e q h1 hq hia g hg1 e2)
  · obtain ⟨ei', a1, a3, _, _⟩ := key i ei hi
    obtain ⟨ej', b1, b3, _, _⟩ := key j ej hj
    rw [b3]
    exact h.apart i j ei' ej' a1 b1 hij g (a3 ▸ hg1)
  · obtain ⟨e', h1, h3, _, _⟩ := key i e hi
    exact h.ne i e' h1 g (h3 ▸ hg1)
end Go.Proofs.YthnhdmanmmdoiaaDoor
