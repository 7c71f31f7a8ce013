/- Rows of functions of one's own whose numbers may turn. No conditions. -/
import Derived.Test.YtocdpgogoadfnaaDoorMarkK
import Derived.Test.YtocdpgogoadfnaaDoorFunRows
import Derived.Test.YtocdpgogoadfnaaDoorOpRows
namespace Go.Proofs.YtocdpgogoadfnaaDoor
open Go.ChangeShapes Go.WideShapes Go.ChangeAt Go.RowKit

/-- v is a row of ops, in blocks from B up to C that may be written. -/
def MOl (B C : Nat) (w : World) (len : Nat) (v : Value) : Prop := (len = 0 ∧ ∃ p cap, v = .slice p 0 cap) ∨
     ∃ (b o cap : Nat), v = .slice (some ⟨b, o, none⟩) len cap ∧ (B ≤ b ∧ b < C) ∧ len ≤ maxLen ∧ (∀ j, w.frozen? ⟨b, j, none⟩ = false) ∧
       ∀ i, i < len → (∃ a, w.cell? ⟨b, o + i * 3, none⟩ = some (.int .i64 a)) ∧ (∃ a, w.cell? ⟨b, o + i * 3 + 1, none⟩ = some (.int .i64 a)) ∧ (∃ a, w.cell? ⟨b, o + i * 3 + 2, none⟩ = some (.int .i64 a))
theorem MOl.shape {B C : Nat} {w : World} {len : Nat} {v : Value} (h : MOl B C w len v) : ∃ p cap, v = .slice p len cap := by
  rcases h with ⟨rfl, p, cap, rfl⟩ | ⟨b, o, cap, rfl, _⟩
  · exact ⟨_, _, rfl⟩
  · exact ⟨_, _, rfl⟩
theorem MOl.keep {B C : Nat} {w w' : World} (k : MK B C w w') {len : Nat} {v : Value} (h : MOl B C w len v) : MOl B C w' len v := by
  rcases h with h0 | ⟨b, o, cap, h1, h2, h3, h4, h5⟩
  · exact .inl h0
  · exact .inr ⟨b, o, cap, h1, h2, h3, fun j => (k.fz b j h2.2).trans (h4 j), fun i hi => ⟨k.int _ _ (h5 i hi).1, k.int _ _ (h5 i hi).2.1, k.int _ _ (h5 i hi).2.2⟩⟩
theorem MOl.mono {B C B' C' : Nat} (hB : B' ≤ B) (hC : C ≤ C') {w : World} {len : Nat} {v : Value} (h : MOl B C w len v) : MOl B' C' w len v := by
  rcases h with h0 | ⟨b, o, cap, h1, h2, h3, h4, h5⟩
  · exact .inl h0
  · exact .inr ⟨b, o, cap, h1, ⟨by omega, by omega⟩, h3, h4, h5⟩
theorem MOl.same {B C : Nat} {w w' : World} (hk : ∀ k, B ≤ k → k < C → w'.heap[k]? = w.heap[k]?) {len : Nat} {v : Value} (h : MOl B C w len v) : MOl B C w' len v := by
  rcases h with h0 | ⟨b, o, cap, h1, h2, h3, h4, h5⟩
  · exact .inl h0
  · have hb := hk b h2.1 h2.2
    have hc : ∀ j u, w.cell? ⟨b, j, none⟩ = some u → w'.cell? ⟨b, j, none⟩ = some u := fun j u e => (World.cell?_of_block (w := w) hb).trans e
    refine .inr ⟨b, o, cap, h1, h2, h3, fun j => (World.frozen?_of_block (w := w) hb).trans (h4 j), fun i hi => ?_⟩
    obtain ⟨⟨a1, e1⟩, ⟨a2, e2⟩, ⟨a3, e3⟩⟩ := h5 i hi
    exact ⟨⟨a1, hc _ _ e1⟩, ⟨a2, hc _ _ e2⟩, ⟨a3, hc _ _ e3⟩⟩
/-- v is a row of functions, in blocks from B up to C that may be written. -/
def MFl (B C : Nat) (w : World) (len : Nat) (kid : Nat → Fu) (v : Value) : Prop := (len = 0 ∧ ∃ p cap, v = .slice p 0 cap) ∨
     ∃ (b o cap : Nat) (V : Nat → Value), v = .slice (some ⟨b, o, none⟩) len cap ∧ (B ≤ b ∧ b < C) ∧ len ≤ maxLen ∧ (∀ j, w.frozen? ⟨b, j, none⟩ = false) ∧
       ∀ i, i < len → ((∃ a, w.cell? ⟨b, o + i * 2, none⟩ = some (.int .i64 a)) ∧ w.cell? ⟨b, o + i * 2 + 1, none⟩ = some (V i)) ∧ MOl B C w (kid i).len (V i)
theorem MFl.shape {B C : Nat} {w : World} {len : Nat} {kid : Nat → Fu} {v : Value} (h : MFl B C w len kid v) : ∃ p cap, v = .slice p len cap := by
  rcases h with ⟨rfl, p, cap, rfl⟩ | ⟨b, o, cap, V, rfl, _⟩
  · exact ⟨_, _, rfl⟩
  · exact ⟨_, _, rfl⟩
theorem MFl.keep {B C : Nat} {w w' : World} (k : MK B C w w') {len : Nat} {kid : Nat → Fu} {v : Value} (h : MFl B C w len kid v) : MFl B C w' len kid v := by
  rcases h with h0 | ⟨b, o, cap, V, h1, h2, h3, h4, h5⟩
  · exact .inl h0
  · refine .inr ⟨b, o, cap, V, h1, h2, h3, fun j => (k.fz b j h2.2).trans (h4 j), fun i hi => ?_⟩
    obtain ⟨⟨a1, a2⟩, a3⟩ := h5 i hi
    obtain ⟨p, c, e⟩ := a3.shape
    refine ⟨⟨k.int _ _ a1, ?_⟩, a3.keep k⟩
    rw [e] at a2 ⊢
    exact k.sl _ _ _ _ _ a2

def OlO (B : Nat) (w : World) (len : Nat) (op : Nat → O3) (v : Value) : Prop := OlB B w len op v ∧ MOl B w.heap.size w len v
theorem OlO.below {B : Nat} {w w' : World} (hb : Below w.heap.size w w') {len : Nat} {op : Nat → O3} {v : Value} (h : OlO B w len op v) : OlO B w' len op v := ⟨h.1.below hb, MOl.mono (Nat.le_refl _) hb.size (h.2.same (fun k _ hk => hb.block k hk))⟩
theorem OlO.mono {B B' : Nat} (hB : B' ≤ B) {w : World} {len : Nat} {op : Nat → O3} {v : Value} (h : OlO B w len op v) : OlO B' w len op v := ⟨h.1.mono hB, h.2.mono hB (Nat.le_refl _)⟩
theorem OlO.same {B : Nat} {w w' : World} (hs : w.heap.size ≤ w'.heap.size) (hk : ∀ k, B ≤ k → k < w.heap.size → w'.heap[k]? = w.heap[k]?) {len : Nat} {op : Nat → O3} {v : Value} (h : OlO B w len op v) : OlO B w' len op v :=
  ⟨OlB.kept (fun a _ ha hc => (World.cell?_of_block (w := w) (hk a.block ha (World.block_lt_of_cell? w _ hc))).trans hc) h.1, MOl.mono (Nat.le_refl _) hs (h.2.same hk)⟩
theorem OlO.of_own {w : World} {base e B n : Nat} {v : Value} {op : Nat → O3} {l : List O3} (h : w.ownsRow base e 3 v n (orows l)) (hl : l.length = n) (hB : B ≤ base) (hk : OKs op l) (hok : ∀ i, i < n → (op i).Ok) : OlO B w n op v := by
  refine ⟨OlB.of_own h hl hB hk hok, ?_⟩
  have h' := h
  rcases h.2 with ⟨rfl, rfl⟩ | ⟨g, cap, cur, rfl, hbg, hgg, hc, hm, hs, ht⟩
  · exact .inl ⟨rfl, _, _, rfl⟩
  · refine .inr ⟨g, 0, cap, rfl, ⟨by omega, (Array.getElem?_eq_some_iff.1 hgg).1⟩, Nat.le_trans hc hm, fun j => h'.frozenAt j, fun i hi => ?_⟩
    have hi' : i < l.length := by omega
    have hq : l[i]? = some l[i] := List.getElem?_eq_getElem hi'
    have cell : ∀ j, j < 3 → w.cell? ⟨g, 0 + i * 3 + j, none⟩ = (ocells l[i])[j]? := by
      intro j hj
      have := h.cellAt (i * 3 + j) (by omega)
      rw [Nat.zero_add, this]
      have := orows_at l [] i _ hq j hj
      simpa using this
    exact ⟨⟨_, cell 0 (by omega)⟩, ⟨_, cell 1 (by omega)⟩, ⟨_, cell 2 (by omega)⟩⟩
def Fu.OB (B : Nat) (w : World) (t : Fu) (v : Value) : Prop := I64 t.fr ∧ OlO B w t.len t.op v
theorem Fu.OB.in {B : Nat} {w : World} {t : Fu} {v : Value} (h : t.OB B w v) : t.InB B w v := ⟨h.1, h.2.1⟩
theorem Fu.OB.below {B : Nat} {w w' : World} (hb : Below w.heap.size w w') {t : Fu} {v : Value} (h : t.OB B w v) : t.OB B w' v := ⟨h.1, h.2.below hb⟩
theorem Fu.OB.mono {B B' : Nat} (hB : B' ≤ B) {w : World} {t : Fu} {v : Value} (h : t.OB B w v) : t.OB B' w v := ⟨h.1, h.2.mono hB⟩
theorem Fu.OB.same {B : Nat} {w w' : World} (hs : w.heap.size ≤ w'.heap.size) (hk : ∀ k, B ≤ k → k < w.heap.size → w'.heap[k]? = w.heap[k]?) {t : Fu} {v : Value} (h : t.OB B w v) : t.OB B w' v := ⟨h.1, h.2.same hs hk⟩
def FlO (B : Nat) (w : World) (len : Nat) (kid : Nat → Fu) (v : Value) : Prop := FlB B w len kid v ∧ MFl B w.heap.size w len kid v
theorem FlO.of_own {w : World} {base e B n : Nat} {v : Value} {kid : Nat → Fu} {l : List (Fu × Value)} (h : w.ownsRow base e 2 v n (frows l)) (hl : l.length = n) (hB : B ≤ base) (hk : FKs kid l) (hin : ∀ q ∈ l, q.1.OB B w q.2) : FlO B w n kid v := by
  refine ⟨FlB.of_own h hl hB hk (fun q hq => (hin q hq).in), ?_⟩
  have h' := h
  rcases h.2 with ⟨rfl, rfl⟩ | ⟨g, cap, cur, rfl, hbg, hgg, hc, hm, hs, ht⟩
  · exact .inl ⟨rfl, _, _, rfl⟩
  · refine .inr ⟨g, 0, cap, fun i => ((l[i]?).getD (default, .bool false)).2, rfl, ⟨by omega, (Array.getElem?_eq_some_iff.1 hgg).1⟩, Nat.le_trans hc hm, fun j => h'.frozenAt j, fun i hi => ?_⟩
    have hi' : i < l.length := by omega
    have hq : l[i]? = some l[i] := List.getElem?_eq_getElem hi'
    have hkid := hk i _ hq
    have cell : ∀ j, j < 2 → w.cell? ⟨g, 0 + i * 2 + j, none⟩ = (fcells l[i])[j]? := by
      intro j hj
      have := h.cellAt (i * 2 + j) (by omega)
      rw [Nat.zero_add, this]
      have := frows_at l [] i _ hq j hj
      simpa using this
    simp only [hq, Option.getD_some]
    rw [← hkid]
    exact ⟨⟨⟨_, cell 0 (by omega)⟩, cell 1 (by omega)⟩, (hin _ (List.getElem_mem hi')).2.2⟩
/-- A row goes on by one function. -/
theorem row_stepFO {w wr w2 : World} {e n cap : Nat} {l : List (Fu × Value)} {junk : List Value} {kid : Nat → Fu} {v : Value}
    (hown : wr.ownsRow w.heap.size e 2 (.slice (some ⟨w.heap.size, 0, none⟩) n cap) n (frows l ++ junk)) (hj : 2 ≤ junk.length) (hks : FKs kid l) (hin : ∀ q ∈ l, q.1.OB (w.heap.size + 1) wr q.2)
    (hbel : Below w.heap.size w wr) (hsz : w.heap.size < wr.heap.size) (hb : Below wr.heap.size wr w2) (hv : (kid l.length).OB wr.heap.size w2 v) :
    (stF2 w2 w.heap.size (l.length * 2) (kid l.length) v).ownsRow w.heap.size e 2 (.slice (some ⟨w.heap.size, 0, none⟩) n cap) n (frows (l ++ [(kid l.length, v)]) ++ junk.drop 2) ∧ FKs kid (l ++ [(kid l.length, v)]) ∧
    (∀ q ∈ l ++ [(kid l.length, v)], q.1.OB (w.heap.size + 1) (stF2 w2 w.heap.size (l.length * 2) (kid l.length) v) q.2) ∧ Below w.heap.size w (stF2 w2 w.heap.size (l.length * 2) (kid l.length) v) ∧ w.heap.size < (stF2 w2 w.heap.size (l.length * 2) (kid l.length) v).heap.size := by
  obtain ⟨q, g⟩ := storedF2 (own_below5 hown hb) hj (kid l.length) v
  have hk : ∀ k, w.heap.size + 1 ≤ k → k < w2.heap.size → (stF2 w2 w.heap.size (l.length * 2) (kid l.length) v).heap[k]? = w2.heap[k]? := fun k h1 h2 => g.block k h2 (by intro e; injection e with e; omega)
  have hb2 : Below w.heap.size w w2 := hbel.trans (hb.mono (by omega))
  refine ⟨q, hks.snoc v, ?_, hb2.trans ⟨g.os, g.tape, g.output, g.size, fun k hk => g.block k (by have := hb2.size; omega) (by intro e; injection e with e; omega)⟩, Nat.lt_of_lt_of_le hsz (Nat.le_trans hb.size g.size)⟩
  intro x hx
  rcases List.mem_append.1 hx with hx | hx
  · exact Fu.OB.same g.size hk ((hin x hx).below hb)
  · simp only [List.mem_singleton] at hx
    subst hx
    exact Fu.OB.same g.size hk (hv.mono (by omega))
end Go.Proofs.YtocdpgogoadfnaaDoor
