/- Rows of blocks that a call owns. No conditions. -/
import Derived.Test.YthnhdmanmmdoiaaDoorZG2SzBlk
import Derived.Test.YthnhdmanmmdoiaaDoorZG3IrRows
import Derived.Test.YthnhdmanmmdoiaaDoorRows
import Derived.OwnWalk
import Derived.Laws.OwnMore
import Derived.Laws.ResultCell
import Derived.HandedShaped
namespace Go.Proofs.YthnhdmanmmdoiaaDoor
open Go.ChangeShapes Go.WideShapes Go.ChangeAt Go.RowKit

def kcells (q : Kb × Value) : List Value := [.int .i64 q.1.fr, .int .i64 q.1.bd.op, .int .i64 q.1.bd.n, q.2]
def krows (l : List (Kb × Value)) : List Value := l.flatMap kcells
theorem krows_append (a b : List (Kb × Value)) : krows (a ++ b) = krows a ++ krows b := by simp [krows]
theorem krows_length (l : List (Kb × Value)) : (krows l).length = l.length * 4 := by
  induction l with
  | nil => rfl
  | cons t r ih => simp only [krows, List.flatMap_cons, List.length_append, List.length_cons] at ih ⊢; rw [ih]; simp [kcells]; omega

/-- The list's data are those of the indices. -/
def KKs (kid : Nat → Kb) (l : List (Kb × Value)) : Prop := ∀ i q, l[i]? = some q → q.1 = kid i
theorem KKs.nil (kid : Nat → Kb) : KKs kid [] := fun i q h => by simp at h
theorem KKs.snoc {kid : Nat → Kb} {l : List (Kb × Value)} (h : KKs kid l) (v : Value) : KKs kid (l ++ [(kid l.length, v)]) := by
  intro i q hq
  rcases Nat.lt_trichotomy i l.length with hi | hi | hi
  · rw [List.getElem?_append_left hi] at hq; exact h i q hq
  · subst hi; simp at hq; subst hq; rfl
  · rw [List.getElem?_eq_none (by simp; omega)] at hq; cases hq

theorem krows_at (l : List (Kb × Value)) (junk : List Value) : ∀ (i : Nat) (q : Kb × Value), l[i]? = some q → ∀ j, j < 4 → (krows l ++ junk)[i * 4 + j]? = (kcells q)[j]? := by
  induction l with
  | nil => intro i q h; simp at h
  | cons x r ih =>
    intro i q h j hj
    have e : krows (x :: r) ++ junk = kcells x ++ (krows r ++ junk) := by simp [krows]
    have hl : (kcells x).length = 4 := rfl
    rw [e]
    cases i with
    | zero =>
      simp at h; subst h
      rw [List.getElem?_append_left (by omega)]; congr 1; omega
    | succ i =>
      simp at h
      rw [List.getElem?_append_right (by omega), hl]
      have := ih i q h j hj
      rw [← this]; congr 1; omega

/-- Three stores behind the rows. -/
theorem setK4 (l : List (Kb × Value)) (junk : List Value) (hj : 4 ≤ junk.length) (t : Kb) (v : Value) :
    ((((krows l ++ junk).set (l.length * 4) (.int .i64 t.fr)).set (l.length * 4 + 1) (.int .i64 t.bd.op)).set (l.length * 4 + 2) (.int .i64 t.bd.n)).set (l.length * 4 + 3) v = krows (l ++ [(t, v)]) ++ junk.drop 4 := by
  have hl := krows_length l
  have s : ∀ (c : List Value) (j : Nat) (x : Value), (krows l ++ c).set (l.length * 4 + j) x = krows l ++ c.set j x := by
    intro c j x
    rw [List.set_append_right _ _ (by omega), hl]
    congr 2; omega
  have s0 := s junk 0 (.int .i64 t.fr)
  rw [Nat.add_zero] at s0
  rw [s0, s, s, s, krows_append]
  match junk, hj with
  | a :: b :: c :: d :: r, _ => simp [krows, kcells]

/-- What a call owns lies in memory. -/
theorem KlB.of_own {w : World} {base e B n : Nat} {v : Value} {kid : Nat → Kb} {l : List (Kb × Value)} (h : w.ownsRow base e 4 v n (krows l)) (hl : l.length = n) (hB : B ≤ base) (hk : KKs kid l) (hin : ∀ q ∈ l, q.1.InB B w q.2) : KlB B w n kid v := by
  rcases h.2 with ⟨rfl, rfl⟩ | ⟨g, cap, cur, rfl, hbg, hgg, hc, hm, hs, ht⟩
  · exact .inl ⟨rfl, _, _, rfl⟩
  · refine .inr ⟨g, 0, cap, fun i => ((l[i]?).getD (default, .bool false)).2, rfl, by omega, hc, hm, fun i hi => ?_⟩
    have hi' : i < l.length := by omega
    have hq : l[i]? = some l[i] := List.getElem?_eq_getElem hi'
    have hkid := hk i _ hq
    have cell : ∀ j, j < 4 → w.cell? ⟨g, 0 + i * 4 + j, none⟩ = (kcells l[i])[j]? := by
      intro j hj
      have := h.cellAt (i * 4 + j) (by omega)
      rw [Nat.zero_add, this]
      have := krows_at l [] i _ hq j hj
      simpa using this
    simp only [hq, Option.getD_some]
    rw [← hkid]
    exact ⟨⟨cell 0 (by omega), cell 1 (by omega), cell 2 (by omega), cell 3 (by omega)⟩, hin _ (List.getElem_mem hi')⟩

/-- Three stores, from cell p of block g on. -/
abbrev stK4 (w : World) (g p : Nat) (t : Kb) (v : Value) : World :=
  (((w.setCell ⟨g, p, none⟩ (.int .i64 t.fr)).setCell ⟨g, p + 1, none⟩ (.int .i64 t.bd.op)).setCell ⟨g, p + 2, none⟩ (.int .i64 t.bd.n)).setCell ⟨g, p + 3, none⟩ v

theorem storedK4 {w : World} {base e g cap n : Nat} {l : List (Kb × Value)} {junk : List Value} (h : w.ownsRow base e 4 (.slice (some ⟨g, 0, none⟩) n cap) n (krows l ++ junk)) (hj : 4 ≤ junk.length) (t : Kb) (v : Value) :
    (stK4 w g (l.length * 4) t v).ownsRow base e 4 (.slice (some ⟨g, 0, none⟩) n cap) n (krows (l ++ [(t, v)]) ++ junk.drop 4) ∧ w.grownBy (stK4 w g (l.length * 4) t v) (some g) := by
  obtain ⟨q1, g1⟩ := h.stored (l.length * 4) (.int .i64 t.fr)
  obtain ⟨q2, g2⟩ := q1.stored (l.length * 4 + 1) (.int .i64 t.bd.op)
  obtain ⟨q3, g3⟩ := q2.stored (l.length * 4 + 2) (.int .i64 t.bd.n)
  obtain ⟨q4, g4⟩ := q3.stored (l.length * 4 + 3) v
  rw [setK4 l junk hj t v] at q4
  exact ⟨q4, grownb (grownb (grownb g1 g2) g3) g4⟩

/-- A row goes on by one datum. -/
theorem row_stepK {w wr w2 : World} {e n cap : Nat} {l : List (Kb × Value)} {junk : List Value} {kid : Nat → Kb} {v : Value}
    (hown : wr.ownsRow w.heap.size e 4 (.slice (some ⟨w.heap.size, 0, none⟩) n cap) n (krows l ++ junk)) (hj : 4 ≤ junk.length) (hks : KKs kid l) (hin : ∀ q ∈ l, q.1.InB (w.heap.size + 1) wr q.2)
    (hbel : Below w.heap.size w wr) (hsz : w.heap.size < wr.heap.size) (hb : Below wr.heap.size wr w2) (hv : (kid l.length).InB wr.heap.size w2 v) :
    (stK4 w2 w.heap.size (l.length * 4) (kid l.length) v).ownsRow w.heap.size e 4 (.slice (some ⟨w.heap.size, 0, none⟩) n cap) n (krows (l ++ [(kid l.length, v)]) ++ junk.drop 4) ∧ KKs kid (l ++ [(kid l.length, v)]) ∧
    (∀ q ∈ l ++ [(kid l.length, v)], q.1.InB (w.heap.size + 1) (stK4 w2 w.heap.size (l.length * 4) (kid l.length) v) q.2) ∧ Below w.heap.size w (stK4 w2 w.heap.size (l.length * 4) (kid l.length) v) ∧ w.heap.size < (stK4 w2 w.heap.size (l.length * 4) (kid l.length) v).heap.size := by
  obtain ⟨q, g⟩ := storedK4 (own_below5 hown hb) hj (kid l.length) v
  have hk : ∀ a u, w.heap.size + 1 ≤ a.block → w2.cell? a = some u → (stK4 w2 w.heap.size (l.length * 4) (kid l.length) v).cell? a = some u := fun a u ha hc => keepg g a u (by omega) hc
  have hb2 : Below w.heap.size w w2 := hbel.trans (hb.mono (by omega))
  refine ⟨q, hks.snoc v, ?_, hb2.trans ⟨g.os, g.tape, g.output, g.size, fun k hk => g.block k (by have := hb2.size; omega) (by intro e; injection e with e; omega)⟩, Nat.lt_of_lt_of_le hsz (Nat.le_trans hb.size g.size)⟩
  intro x hx
  rcases List.mem_append.1 hx with hx | hx
  · exact Kb.InB.kept hk _ ((hin x hx).below hb)
  · simp only [List.mem_singleton] at hx
    subst hx
    exact Kb.InB.kept hk _ (hv.mono (by omega))

end Go.Proofs.YthnhdmanmmdoiaaDoor

/- Trees of Ir that lie in blocks of one's own, whose numbers may turn: what marking keeps. No conditions. -/
namespace Go.Proofs.YthnhdmanmmdoiaaDoor
open Go.ChangeShapes Go.WideShapes Go.ChangeAt Go.RowKit

/-- Only ints of the blocks from B up to C turned. -/
structure MK (B C : Nat) (w w' : World) : Prop where
  os : w'.os = w.os
  tape : w'.tape = w.tape
  output : w'.output = w.output
  size : w.heap.size ≤ w'.heap.size
  block : ∀ k, k < w.heap.size → (k < B ∨ C ≤ k) → w'.heap[k]? = w.heap[k]?
  sl : ∀ g j p n c, w.cell? ⟨g, j, none⟩ = some (.slice p n c) → w'.cell? ⟨g, j, none⟩ = some (.slice p n c)
  int : ∀ g j, (∃ a, w.cell? ⟨g, j, none⟩ = some (.int .i64 a)) → ∃ a, w'.cell? ⟨g, j, none⟩ = some (.int .i64 a)
  fz : ∀ g j, g < C → w'.frozen? ⟨g, j, none⟩ = w.frozen? ⟨g, j, none⟩
theorem MK.refl (B C : Nat) (w : World) : MK B C w w := ⟨rfl, rfl, rfl, Nat.le_refl _, fun _ _ _ => rfl, fun _ _ _ _ _ h => h, fun _ _ h => h, fun _ _ _ => rfl⟩
theorem MK.trans {B C : Nat} {w w1 w2 : World} (h : MK B C w w1) (k : MK B C w1 w2) : MK B C w w2 :=
  ⟨k.os.trans h.os, k.tape.trans h.tape, k.output.trans h.output, Nat.le_trans h.size k.size, fun j hj hn => (k.block j (Nat.lt_of_lt_of_le hj h.size) hn).trans (h.block j hj hn), fun g j p n c e => k.sl g j p n c (h.sl g j p n c e), fun g j e => k.int g j (h.int g j e), fun g j hg => (k.fz g j hg).trans (h.fz g j hg)⟩
theorem MK.below {B C : Nat} {w w' : World} (h : Below w.heap.size w w') (hC : C ≤ w.heap.size) : MK B C w w' :=
  ⟨h.os, h.tape, h.output, h.size, fun k hk _ => h.block k hk, fun _ _ _ _ _ e => keeps h _ _ e, fun _ _ ⟨a, e⟩ => ⟨a, keeps h _ _ e⟩, fun g j hg => World.frozen?_of_block (w := w) (h.block g (by show g < _; omega))⟩
/-- An int is stored where one was. -/
theorem MK.store {B C g j : Nat} {w : World} {a : Int} (hB : B ≤ g) (hC : g < C) (h : w.cell? ⟨g, j, none⟩ = some (.int .i64 a)) (z : Int) : MK B C w (w.setCell ⟨g, j, none⟩ (.int .i64 z)) :=
  ⟨rfl, rfl, rfl, by simp, fun k _ hn => Below.heap_setCell w ⟨g, j, none⟩ _ k (by show k ≠ g; omega), fun g' j' p n c e => (World.cell?_setCell_other _ _ _ _ (fun e2 => by rw [e2, e] at h; cases h)).trans e,
    fun g' j' e => someInt_setCell e _ _, fun g' j' _ => by simp⟩

/-- v is the slice of a body's kids; all rows lie in blocks from B up to C that may be written. -/
def MIr (B C : Nat) (w : World) : It → Value → Prop
  | .no, _ => False
  | .mk _ _ len kid, v => (len = 0 ∧ ∃ p cap, v = .slice p 0 cap) ∨
     ∃ (b o cap : Nat) (V : Nat → Value), v = .slice (some ⟨b, o, none⟩) len cap ∧ (B ≤ b ∧ b < C) ∧ len ≤ maxLen ∧ (∀ j, w.frozen? ⟨b, j, none⟩ = false) ∧
       ∀ i, i < len → ((∃ a, w.cell? ⟨b, o + i * 3, none⟩ = some (.int .i64 a)) ∧ (∃ a, w.cell? ⟨b, o + i * 3 + 1, none⟩ = some (.int .i64 a)) ∧ w.cell? ⟨b, o + i * 3 + 2, none⟩ = some (V i)) ∧ MIr B C w (kid i) (V i)
def MSl (B C : Nat) (w : World) (len : Nat) (kid : Nat → It) (v : Value) : Prop := (len = 0 ∧ ∃ p cap, v = .slice p 0 cap) ∨
     ∃ (b o cap : Nat) (V : Nat → Value), v = .slice (some ⟨b, o, none⟩) len cap ∧ (B ≤ b ∧ b < C) ∧ len ≤ maxLen ∧ (∀ j, w.frozen? ⟨b, j, none⟩ = false) ∧
       ∀ i, i < len → ((∃ a, w.cell? ⟨b, o + i * 3, none⟩ = some (.int .i64 a)) ∧ (∃ a, w.cell? ⟨b, o + i * 3 + 1, none⟩ = some (.int .i64 a)) ∧ w.cell? ⟨b, o + i * 3 + 2, none⟩ = some (V i)) ∧ MIr B C w (kid i) (V i)
theorem MIr.sl {B C : Nat} {w : World} {t : It} {v : Value} (h : MIr B C w t v) : MSl B C w t.len t.kid v := by
  cases t <;> unfold MIr at h <;> first | exact h.elim | exact h
theorem MSl.ir {B C : Nat} {w : World} {op n : Int} {len : Nat} {kid : Nat → It} {v : Value} (h : MSl B C w len kid v) : MIr B C w (.mk op n len kid) v := by unfold MIr; exact h
theorem MSl.shape {B C : Nat} {w : World} {len : Nat} {kid : Nat → It} {v : Value} (h : MSl B C w len kid v) : ∃ p cap, v = .slice p len cap := by
  rcases h with ⟨rfl, p, cap, rfl⟩ | ⟨b, o, cap, V, rfl, _⟩
  · exact ⟨_, _, rfl⟩
  · exact ⟨_, _, rfl⟩
theorem MIr.shape {B C : Nat} {w : World} {t : It} {v : Value} (h : MIr B C w t v) : ∃ p cap, v = .slice p t.len cap := h.sl.shape
theorem MIr.keep {B C : Nat} {w w' : World} (k : MK B C w w') (t : It) : ∀ {v : Value}, MIr B C w t v → MIr B C w' t v := by
  induction t with
  | no => intro v h; exact h.elim
  | mk op n len kid ih =>
    intro v h
    unfold MIr at h ⊢
    rcases h with h0 | ⟨b, o, cap, V, h1, h2, h3, h4, h5⟩
    · exact .inl h0
    · refine .inr ⟨b, o, cap, V, h1, h2, h3, fun j => (k.fz b j h2.2).trans (h4 j), fun i hi => ?_⟩
      obtain ⟨⟨a1, a2, a3⟩, a4⟩ := h5 i hi
      obtain ⟨p, c, e⟩ := a4.shape
      refine ⟨⟨k.int _ _ a1, k.int _ _ a2, ?_⟩, ih i a4⟩
      rw [e] at a3 ⊢
      exact k.sl _ _ _ _ _ a3
theorem MSl.keep {B C : Nat} {w w' : World} (k : MK B C w w') {len : Nat} {kid : Nat → It} {v : Value} (h : MSl B C w len kid v) : MSl B C w' len kid v := by
  have : MIr B C w (.mk 0 0 len kid) v := h.ir
  exact (this.keep k).sl
theorem MIr.mono {B C B' C' : Nat} (hB : B' ≤ B) (hC : C ≤ C') {w : World} (t : It) : ∀ {v : Value}, MIr B C w t v → MIr B' C' w t v := by
  induction t with
  | no => intro v h; exact h.elim
  | mk op n len kid ih =>
    intro v h
    unfold MIr at h ⊢
    rcases h with h0 | ⟨b, o, cap, V, h1, h2, h3, h4, h5⟩
    · exact .inl h0
    · exact .inr ⟨b, o, cap, V, h1, ⟨by omega, by omega⟩, h3, h4, fun i hi => ⟨(h5 i hi).1, ih i (h5 i hi).2⟩⟩
/-- Blocks from B on are as they were. -/
theorem MIr.same {B C : Nat} {w w' : World} (hk : ∀ k, B ≤ k → k < C → w'.heap[k]? = w.heap[k]?) (t : It) : ∀ {v : Value}, MIr B C w t v → MIr B C w' t v := by
  induction t with
  | no => intro v h; exact h.elim
  | mk op n len kid ih =>
    intro v h
    unfold MIr at h ⊢
    rcases h with h0 | ⟨b, o, cap, V, h1, h2, h3, h4, h5⟩
    · exact .inl h0
    · have hb := hk b h2.1 h2.2
      have hc : ∀ j u, w.cell? ⟨b, j, none⟩ = some u → w'.cell? ⟨b, j, none⟩ = some u := fun j u e => (World.cell?_of_block (w := w) hb).trans e
      refine .inr ⟨b, o, cap, V, h1, h2, h3, fun j => (World.frozen?_of_block (w := w) hb).trans (h4 j), fun i hi => ?_⟩
      obtain ⟨⟨⟨a1, e1⟩, ⟨a2, e2⟩, a3⟩, a4⟩ := h5 i hi
      exact ⟨⟨⟨a1, hc _ _ e1⟩, ⟨a2, hc _ _ e2⟩, hc _ _ a3⟩, ih i a4⟩

/-- A body that lies in memory, and may be written. -/
def It.OB (B : Nat) (w : World) (t : It) (v : Value) : Prop := t.InB B w v ∧ MIr B w.heap.size w t v
def IlO (B : Nat) (w : World) (len : Nat) (kid : Nat → It) (v : Value) : Prop := IlB B w len kid v ∧ MSl B w.heap.size w len kid v
theorem It.OB.below {B : Nat} {w w' : World} (hb : Below w.heap.size w w') {t : It} {v : Value} (h : t.OB B w v) : t.OB B w' v := ⟨h.1.below hb, MIr.mono (Nat.le_refl _) hb.size _ (h.2.same (fun k _ hk => hb.block k hk))⟩
theorem It.OB.mono {B B' : Nat} (hB : B' ≤ B) {w : World} {t : It} {v : Value} (h : t.OB B w v) : t.OB B' w v := ⟨h.1.mono hB, h.2.mono hB (Nat.le_refl _)⟩
theorem It.OB.same {B : Nat} {w w' : World} (hs : w.heap.size ≤ w'.heap.size) (hk : ∀ k, B ≤ k → k < w.heap.size → w'.heap[k]? = w.heap[k]?) {t : It} {v : Value} (h : t.OB B w v) : t.OB B w' v :=
  ⟨It.InB.kept (fun a _ ha hc => (World.cell?_of_block (w := w) (hk a.block ha (World.block_lt_of_cell? w _ hc))).trans hc) _ h.1, MIr.mono (Nat.le_refl _) hs _ (h.2.same hk)⟩
theorem It.OB.sl {B : Nat} {w : World} {t : It} {v : Value} (h : t.OB B w v) : IlO B w t.len t.kid v := ⟨h.1.sl, h.2.sl⟩
theorem It.OB.num {B : Nat} {w : World} {t : It} {v : Value} (h : t.OB B w v) : -9223372036854775808 ≤ t.n ∧ t.n ≤ 9223372036854775807 := h.1.num
theorem It.OB.mk' {B : Nat} {w : World} {op n : Int} {len : Nat} {kid : Nat → It} {v : Value} (h1 : -9223372036854775808 ≤ n ∧ n ≤ 9223372036854775807) (h : IlO B w len kid v) : (It.mk op n len kid).OB B w v := ⟨It.InB.mk' h1 h.1, h.2.ir⟩
theorem IlO.shape {B : Nat} {w : World} {len : Nat} {kid : Nat → It} {v : Value} (h : IlO B w len kid v) : ∃ p cap, v = .slice p len cap := h.1.shape
theorem IlO.ob {B : Nat} {w : World} {len : Nat} {kid : Nat → It} {v : Value} (h : IlO B w len kid v) : (It.mk 0 0 len kid).OB B w v := It.OB.mk' (by omega) h
theorem IlO.mono {B B' : Nat} (hB : B' ≤ B) {w : World} {len : Nat} {kid : Nat → It} {v : Value} (h : IlO B w len kid v) : IlO B' w len kid v := (h.ob.mono hB).sl
theorem IlO.below {B : Nat} {w w' : World} (hb : Below w.heap.size w w') {len : Nat} {kid : Nat → It} {v : Value} (h : IlO B w len kid v) : IlO B w' len kid v := (h.ob.below hb).sl
theorem IlO.same {B : Nat} {w w' : World} (hs : w.heap.size ≤ w'.heap.size) (hk : ∀ k, B ≤ k → k < w.heap.size → w'.heap[k]? = w.heap[k]?) {len : Nat} {kid : Nat → It} {v : Value} (h : IlO B w len kid v) : IlO B w' len kid v := (h.ob.same hs hk).sl
/-- What a call owns lies in memory, and may be written. -/
theorem IlO.of_own {w : World} {base e B n : Nat} {v : Value} {kid : Nat → It} {l : List (It × Value)} (h : w.ownsRow base e 3 v n (irows l)) (hl : l.length = n) (hB : B ≤ base) (hk : IKs kid l) (hin : ∀ q ∈ l, q.1.OB B w q.2) : IlO B w n kid v := by
  refine ⟨IlB.of_own h hl hB hk (fun q hq => (hin q hq).1), ?_⟩
  have h' := h
  rcases h.2 with ⟨rfl, rfl⟩ | ⟨g, cap, cur, rfl, hbg, hgg, hc, hm, hs, ht⟩
  · exact .inl ⟨rfl, _, _, rfl⟩
  · refine .inr ⟨g, 0, cap, fun i => ((l[i]?).getD (.no, .bool false)).2, rfl, ⟨by omega, (Array.getElem?_eq_some_iff.1 hgg).1⟩, Nat.le_trans hc hm, fun j => h'.frozenAt j, fun i hi => ?_⟩
    have hi' : i < l.length := by omega
    have hq : l[i]? = some l[i] := List.getElem?_eq_getElem hi'
    have hkid := hk i _ hq
    have cell : ∀ j, j < 3 → w.cell? ⟨g, 0 + i * 3 + j, none⟩ = (icells l[i])[j]? := by
      intro j hj
      have := h.cellAt (i * 3 + j) (by omega)
      rw [Nat.zero_add, this]
      have := irows_at l [] i _ hq j hj
      simpa using this
    simp only [hq, Option.getD_some]
    rw [← hkid]
    exact ⟨⟨⟨_, cell 0 (by omega)⟩, ⟨_, cell 1 (by omega)⟩, cell 2 (by omega)⟩, (hin _ (List.getElem_mem hi')).2⟩
/-- A row goes on by one datum. -/
theorem row_stepIO {w wr w2 : World} {e n cap : Nat} {l : List (It × Value)} {junk : List Value} {kid : Nat → It} {v : Value}
    (hown : wr.ownsRow w.heap.size e 3 (.slice (some ⟨w.heap.size, 0, none⟩) n cap) n (irows l ++ junk)) (hj : 3 ≤ junk.length) (hks : IKs kid l) (hin : ∀ q ∈ l, q.1.OB (w.heap.size + 1) wr q.2)
    (hbel : Below w.heap.size w wr) (hsz : w.heap.size < wr.heap.size) (hb : Below wr.heap.size wr w2) (hv : (kid l.length).OB wr.heap.size w2 v) :
    (stI3 w2 w.heap.size (l.length * 3) (kid l.length) v).ownsRow w.heap.size e 3 (.slice (some ⟨w.heap.size, 0, none⟩) n cap) n (irows (l ++ [(kid l.length, v)]) ++ junk.drop 3) ∧ IKs kid (l ++ [(kid l.length, v)]) ∧
    (∀ q ∈ l ++ [(kid l.length, v)], q.1.OB (w.heap.size + 1) (stI3 w2 w.heap.size (l.length * 3) (kid l.length) v) q.2) ∧ Below w.heap.size w (stI3 w2 w.heap.size (l.length * 3) (kid l.length) v) ∧ w.heap.size < (stI3 w2 w.heap.size (l.length * 3) (kid l.length) v).heap.size := by
  obtain ⟨q, g⟩ := storedI3 (own_below5 hown hb) hj (kid l.length) v
  have hk : ∀ k, w.heap.size + 1 ≤ k → k < w2.heap.size → (stI3 w2 w.heap.size (l.length * 3) (kid l.length) v).heap[k]? = w2.heap[k]? := fun k h1 h2 => g.block k h2 (by intro e; injection e with e; omega)
  have hb2 : Below w.heap.size w w2 := hbel.trans (hb.mono (by omega))
  refine ⟨q, hks.snoc v, ?_, hb2.trans ⟨g.os, g.tape, g.output, g.size, fun k hk => g.block k (by have := hb2.size; omega) (by intro e; injection e with e; omega)⟩, Nat.lt_of_lt_of_le hsz (Nat.le_trans hb.size g.size)⟩
  intro x hx
  rcases List.mem_append.1 hx with hx | hx
  · exact It.OB.same g.size hk ((hin x hx).below hb)
  · simp only [List.mem_singleton] at hx
    subst hx
    exact It.OB.same g.size hk (hv.mono (by omega))
end Go.Proofs.YthnhdmanmmdoiaaDoor
