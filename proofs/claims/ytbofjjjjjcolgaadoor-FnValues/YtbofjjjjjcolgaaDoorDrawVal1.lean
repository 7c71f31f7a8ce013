/- Drawn values: what is drawn lies in plain blocks of the call's own, but that the cursor turns. No conditions. -/
import Derived.Test.YtbofjjjjjcolgaaDoorValP
import Derived.Test.YtbofjjjjjcolgaaDoorCur2
namespace Go.Proofs.YtbofjjjjjcolgaaDoor
open Go.ChangeShapes Go.WideShapes Go.ChangeAt Go.RowKit

/-- The most that is drawn. -/
def Wd : Nat → Nat
  | 0 => 0
  | d + 1 => 2 + 2 * Wd d

theorem Vt.InP.ext {B c : Nat} {w w' : World} {t : Vt} {v : Value} (h : t.InP B w v) (he : Ext c w w') (hc : c < B) : t.InP B w' v :=
  Vt.InP.kept (fun a u ha hu => by
    have hl := World.block_lt_of_cell? w a hu
    exact (World.cell?_of_block (he.block _ hl (by omega))).trans hu) (fun b hb hP => by
    obtain ⟨cs, ty, hq⟩ := hP
    exact ⟨cs, ty, (he.block b (Array.getElem?_eq_some_iff.1 hq).1 (by omega)).trans hq⟩) t h
theorem own_ext {c base e size n : Nat} {w w' : World} {v : Value} {xs : List Value} (h : w.ownsRow base e size v n xs) (he : Ext c w w') (hc : c < base) : w'.ownsRow base e size v n xs := by
  refine ⟨h.1, ?_⟩
  rcases h.2 with hn | ⟨g, cap, cur, rfl, hbg, hgg, rest⟩
  · exact .inl hn
  · exact .inr ⟨g, cap, cur, rfl, hbg, (he.block g (Array.getElem?_eq_some_iff.1 hgg).1 (by omega)).trans hgg, rest⟩

/-- What is drawn: a row that is owned; its kids lie beside the row. -/
def DV (w w' : World) (c : Nat) (t : Vt) (v : Value) : Prop := Ext c w w' ∧ ∃ l : List (Vt × Value), w'.ownsRow w.heap.size 26 3 v t.len (vrows l) ∧ l.length = t.len ∧ VKs t.kid l ∧
  ∀ w'' : World, (∀ k, w.heap.size ≤ k → k < w'.heap.size → v.ownBlock ≠ some k → w''.heap[k]? = w'.heap[k]?) → ∀ q ∈ l, q.1.InP w.heap.size w'' q.2
theorem DV.ext {w w' w'' : World} {c : Nat} {t : Vt} {v : Value} (h : DV w w' c t v) (he : Ext c w' w'') (hc : c < w.heap.size) : DV w w'' c t v := by
  obtain ⟨h1, l, h3, h4, h5, h6⟩ := h
  exact ⟨h1.trans he, l, own_ext h3 he hc, h4, h5, fun wq hq => h6 wq (fun k k1 k2 k3 => (hq k k1 (Nat.lt_of_lt_of_le k2 he.size) k3).trans (he.block k k2 (by omega)))⟩
theorem DV.below {w w' w'' : World} {c : Nat} {t : Vt} {v : Value} (h : DV w w' c t v) (hb : Below w'.heap.size w' w'') (hc : c < w.heap.size) : DV w w'' c t v := h.ext (Ext.of_below hb (Nat.le_refl _)) hc
theorem DV.all {w w' : World} {c : Nat} {t : Vt} {v : Value} (h : DV w w' c t v) : VlP w.heap.size w' t.len t.kid v := by
  obtain ⟨h1, l, h3, h4, h5, h6⟩ := h
  exact VlP.of_own h3 h4 (Nat.le_refl _) h5 (h6 w' (fun _ _ _ _ => rfl))
theorem DV.leaf {w w' : World} {c : Nat} (he : Ext c w w') (op n : Int) : DV w w' c (.mk op n 0 (fun _ => .no)) (.slice none 0 0) :=
  ⟨he, [], ⟨rfl, .inl ⟨rfl, rfl⟩⟩, rfl, VKs.nil _, fun _ _ q hq => by simp at hq⟩
theorem DV.head {w w' : World} {c : Nat} {op n : Int} {len : Nat} {kid : Nat → Vt} {v : Value} (h : DV w w' c (.mk op n len kid) v) (op' n' : Int) : DV w w' c (.mk op' n' len kid) v := h
theorem DV.older {w0 w w' : World} {c : Nat} {t : Vt} {v : Value} (h : DV w w' c t v) (he : Ext c w0 w) : DV w0 w' c t v := by
  obtain ⟨h1, l, h3, h4, h5, h6⟩ := h
  refine ⟨he.trans h1, l, ?_, h4, h5, fun wq hq q hqm => (h6 wq (fun k k1 k2 k3 => hq k (Nat.le_trans he.size k1) k2 k3) q hqm).mono he.size⟩
  refine ⟨h3.1, ?_⟩
  rcases h3.2 with hn | ⟨g, cap, cur, e, hbg, rest⟩
  · exact .inl hn
  · exact .inr ⟨g, cap, cur, e, Nat.le_trans he.size hbg, rest⟩
/-- Two that are drawn, and a pair of them: in a new row, the answer's block R written. -/
theorem DV.pair {w w3 w5 : World} {c R G : Nat} {ta tb : Vt} {va vb : Value} (he : Ext c w w3) (ha : ta.InP (R + 1) w3 va) (hb : tb.InP (R + 1) w3 vb) (hR : w.heap.size ≤ R) (hRl : R < w3.heap.size) (hG : G = w3.heap.size) (h5 : ∀ k, k < w3.heap.size → k ≠ R → w5.heap[k]? = w3.heap[k]?)
    (hrow : w5.heap[G]? = some (.cells (vrows [(ta, va), (tb, vb)]).toArray 26 (0, 0))) (hos : w5.os = w3.os ∧ w5.tape = w3.tape ∧ w5.output = w3.output ∧ w3.heap.size ≤ w5.heap.size) (op n : Int) :
    DV w w5 c (.mk op n 2 (fun i => if i = 0 then ta else tb)) (.slice (some ⟨G, 0, none⟩) 2 2) := by
  have hw := he.size
  refine ⟨⟨hos.1.trans he.os, hos.2.1.trans he.tape, hos.2.2.1.trans he.output, Nat.le_trans he.size hos.2.2.2, fun k hk hne => (h5 k (by omega) (by omega)).trans (he.block k hk hne)⟩, [(ta, va), (tb, vb)], ?_, rfl, ?_, ?_⟩
  · refine ⟨by rw [vrows_length]; rfl, .inr ⟨G, 2, _, rfl, by omega, hrow, Nat.le_refl _, by unfold maxLen; omega, ?_, ?_⟩⟩
    · rw [List.size_toArray, vrows_length]; rfl
    · rw [List.take_of_length_le (by rw [vrows_length]; exact Nat.le_refl _)]
  · intro i q hq
    match i, hq with
    | 0, hq => simp at hq; subst hq; rfl
    | 1, hq => simp at hq; subst hq; rfl
    | i + 2, hq => simp at hq
  · intro wq hq
    have key : ∀ b, R + 1 ≤ b → b < w3.heap.size → wq.heap[b]? = w3.heap[b]? := fun b h1 h2 => (hq b (by omega) (by have := hos.2.2.2; omega) (by simp only [Value.ownBlock]; intro e; injection e with e; omega)).trans (h5 b h2 (by omega))
    have kept : ∀ {t : Vt} {v : Value}, t.InP (R + 1) w3 v → t.InP w.heap.size wq v := fun {t v} h => (Vt.InP.kept (fun a u h1 h2 => by
      have hl := World.block_lt_of_cell? w3 a h2
      exact (World.cell?_of_block (key _ h1 hl)).trans h2) (fun b h1 h2 => by
      obtain ⟨cs, ty, h3⟩ := h2
      exact ⟨cs, ty, (key b h1 (Array.getElem?_eq_some_iff.1 h3).1).trans h3⟩) t h).mono (by omega)
    intro q hqm
    simp only [List.mem_cons, List.not_mem_nil, or_false] at hqm
    rcases hqm with rfl | rfl
    · exact kept ha
    · exact kept hb

/-- Three stores. -/
abbrev put3 (w : World) (R : Nat) (x y z : Value) : World := ((w.setCell ⟨R, 0, none⟩ x).setCell ⟨R, 1, none⟩ y).setCell ⟨R, 2, none⟩ z
theorem put3_ext (w : World) (R : Nat) (x y z : Value) : Ext R w (put3 w R x y z) := (((Ext.refl R w).set 0 x).set 1 y).set 2 z
theorem Ext.over {c R : Nat} {w w1 w2 : World} (h : Ext c w w1) (g : Ext R w1 w2) (hR : w.heap.size ≤ R) : Ext c w w2 :=
  ⟨g.os.trans h.os, g.tape.trans h.tape, g.output.trans h.output, Nat.le_trans h.size g.size, fun k hk hne => (g.block k (Nat.lt_of_lt_of_le hk h.size) (by omega)).trans (h.block k hk hne)⟩
end Go.Proofs.YtbofjjjjjcolgaaDoor
