/- A value whose kids lie in plain blocks. No conditions. -/
import Derived.Test.YtbofjjjjjcolgaaDoorValRows
namespace Go.Proofs.YtbofjjjjjcolgaaDoor
open Go.ChangeShapes Go.WideShapes Go.ChangeAt Go.RowKit

/-- A block of cells that may be written. -/
def PlainB (w : World) (b : Nat) : Prop := ∃ cs ty, w.heap[b]? = some (.cells cs ty (0, 0))
theorem PlainB.below {w w' : World} {b : Nat} (h : PlainB w b) (hb : Below w.heap.size w w') : PlainB w' b := by
  obtain ⟨cs, ty, h⟩ := h
  exact ⟨cs, ty, (hb.block b (Array.getElem?_eq_some_iff.1 h).1).trans h⟩

/-- v is the slice of a datum's kids, which lie in w, from block B on. -/
def Vt.InP (B : Nat) (w : World) : Vt → Value → Prop
  | .no, _ => False
  | .mk _ n len kid, v => (-9223372036854775808 ≤ n ∧ n ≤ 9223372036854775807) ∧
    ((len = 0 ∧ ∃ p cap, v = .slice p 0 cap) ∨
     ∃ (b o cap : Nat) (V : Nat → Value), v = .slice (some ⟨b, o, none⟩) len cap ∧ B ≤ b ∧ PlainB w b ∧ len ≤ cap ∧ cap ≤ maxLen ∧
       ∀ i, i < len → HeadV w b (o + i * 3) (kid i) (V i) ∧ (kid i).InP B w (V i))

/-- A slice of data that lie in w, from block B on. -/
def VlP (B : Nat) (w : World) (len : Nat) (kid : Nat → Vt) (v : Value) : Prop :=
  (len = 0 ∧ ∃ p cap, v = .slice p 0 cap) ∨
   ∃ (b o cap : Nat) (V : Nat → Value), v = .slice (some ⟨b, o, none⟩) len cap ∧ B ≤ b ∧ PlainB w b ∧ len ≤ cap ∧ cap ≤ maxLen ∧
     ∀ i, i < len → HeadV w b (o + i * 3) (kid i) (V i) ∧ (kid i).InP B w (V i)

theorem Vt.InP.sl {B : Nat} {w : World} {t : Vt} {v : Value} (h : t.InP B w v) : VlP B w t.len t.kid v := by
  cases t <;> unfold Vt.InP at h <;> first | exact h.elim | exact h.2
theorem Vt.InP.mk' {B : Nat} {w : World} {op n : Int} {len : Nat} {kid : Nat → Vt} {v : Value} (h1 : -9223372036854775808 ≤ n ∧ n ≤ 9223372036854775807) (h : VlP B w len kid v) : (Vt.mk op n len kid).InP B w v := by
  unfold Vt.InP; exact ⟨h1, h⟩

theorem VlP.shape {B : Nat} {w : World} {len : Nat} {kid : Nat → Vt} {v : Value} (h : VlP B w len kid v) : ∃ p cap, v = .slice p len cap := by
  rcases h with ⟨rfl, p, cap, rfl⟩ | ⟨b, o, cap, V, rfl, _⟩
  · exact ⟨_, _, rfl⟩
  · exact ⟨_, _, rfl⟩

theorem Vt.InP.kept {B : Nat} {w w' : World} (hk : ∀ a u, B ≤ a.block → w.cell? a = some u → w'.cell? a = some u) (hp : ∀ b, B ≤ b → PlainB w b → PlainB w' b) (t : Vt) : ∀ {v : Value}, t.InP B w v → t.InP B w' v := by
  induction t with
  | no => intro v h; exact h.elim
  | mk op n len kid ih =>
    intro v h
    unfold Vt.InP at h ⊢
    refine ⟨h.1, ?_⟩
    rcases h.2 with h0 | ⟨b, o, cap, V, h1, hB, hP, h2, h3, h4⟩
    · exact .inl h0
    · exact .inr ⟨b, o, cap, V, h1, hB, hp b hB hP, h2, h3, fun i hi => ⟨(h4 i hi).1.kept (fun a u ha => hk a u (by omega)), ih i (h4 i hi).2⟩⟩

theorem VlP.kept {B : Nat} {w w' : World} (hk : ∀ a u, B ≤ a.block → w.cell? a = some u → w'.cell? a = some u) (hp : ∀ b, B ≤ b → PlainB w b → PlainB w' b) {len : Nat} {kid : Nat → Vt} {v : Value} (h : VlP B w len kid v) : VlP B w' len kid v := by
  rcases h with h0 | ⟨b, o, cap, V, h1, hB, hP, h2, h3, h4⟩
  · exact .inl h0
  · exact .inr ⟨b, o, cap, V, h1, hB, hp b hB hP, h2, h3, fun i hi => ⟨(h4 i hi).1.kept (fun a u ha => hk a u (by omega)), Vt.InP.kept hk hp _ (h4 i hi).2⟩⟩

theorem Vt.InP.mono {B B' : Nat} (hB : B' ≤ B) {w : World} (t : Vt) : ∀ {v : Value}, t.InP B w v → t.InP B' w v := by
  induction t with
  | no => intro v h; exact h.elim
  | mk op n len kid ih =>
    intro v h
    unfold Vt.InP at h ⊢
    refine ⟨h.1, ?_⟩
    rcases h.2 with h0 | ⟨b, o, cap, V, h1, hb, hP, h2, h3, h4⟩
    · exact .inl h0
    · exact .inr ⟨b, o, cap, V, h1, by omega, hP, h2, h3, fun i hi => ⟨(h4 i hi).1, ih i (h4 i hi).2⟩⟩
theorem VlP.mono {B B' : Nat} (hB : B' ≤ B) {w : World} {len : Nat} {kid : Nat → Vt} {v : Value} (h : VlP B w len kid v) : VlP B' w len kid v := by
  rcases h with h0 | ⟨b, o, cap, V, h1, hb, hP, h2, h3, h4⟩
  · exact .inl h0
  · exact .inr ⟨b, o, cap, V, h1, by omega, hP, h2, h3, fun i hi => ⟨(h4 i hi).1, (h4 i hi).2.mono hB⟩⟩
theorem Vt.InP.below {B : Nat} {w w' : World} (hb : Below w.heap.size w w') {t : Vt} {v : Value} (h : t.InP B w v) : t.InP B w' v := Vt.InP.kept (fun a u _ => keeps hb a u) (fun _ _ h => h.below hb) t h
theorem VlP.below {B : Nat} {w w' : World} (hb : Below w.heap.size w w') {len : Nat} {kid : Nat → Vt} {v : Value} (h : VlP B w len kid v) : VlP B w' len kid v := VlP.kept (fun a u _ => keeps hb a u) (fun _ _ h => h.below hb) h
/-- So it lies in memory. -/
theorem Vt.InP.inB {B : Nat} {w : World} (t : Vt) : ∀ {v : Value}, t.InP B w v → t.InB B w v := by
  induction t with
  | no => intro v h; exact h.elim
  | mk op n len kid ih =>
    intro v h
    unfold Vt.InP at h
    unfold Vt.InB
    refine ⟨h.1, ?_⟩
    rcases h.2 with h0 | ⟨b, o, cap, V, h1, hB, _, h2, h3, h4⟩
    · exact .inl h0
    · exact .inr ⟨b, o, cap, V, h1, hB, h2, h3, fun i hi => ⟨(h4 i hi).1, ih i (h4 i hi).2⟩⟩
theorem VlP.vlB {B : Nat} {w : World} {len : Nat} {kid : Nat → Vt} {v : Value} (h : VlP B w len kid v) : VlB B w len kid v := by
  rcases h with h0 | ⟨b, o, cap, V, h1, hB, _, h2, h3, h4⟩
  · exact .inl h0
  · exact .inr ⟨b, o, cap, V, h1, hB, h2, h3, fun i hi => ⟨(h4 i hi).1, (h4 i hi).2.inB⟩⟩

/-- What a call owns lies in memory. -/
theorem VlP.of_own {w : World} {base e B n : Nat} {v : Value} {kid : Nat → Vt} {l : List (Vt × Value)} (h : w.ownsRow base e 3 v n (vrows l)) (hl : l.length = n) (hB : B ≤ base) (hk : VKs kid l) (hin : ∀ q ∈ l, q.1.InP B w q.2) : VlP B w n kid v := by
  rcases h.2 with ⟨rfl, rfl⟩ | ⟨g, cap, cur, rfl, hbg, hgg, hc, hm, hs, ht⟩
  · exact .inl ⟨rfl, _, _, rfl⟩
  · refine .inr ⟨g, 0, cap, fun i => ((l[i]?).getD (.no, .bool false)).2, rfl, by omega, ⟨_, _, hgg⟩, hc, hm, fun i hi => ?_⟩
    have hi' : i < l.length := by omega
    have hq : l[i]? = some l[i] := List.getElem?_eq_getElem hi'
    have hkid := hk i _ hq
    have cell : ∀ j, j < 3 → w.cell? ⟨g, 0 + i * 3 + j, none⟩ = (vcells l[i])[j]? := by
      intro j hj
      have := h.cellAt (i * 3 + j) (by omega)
      rw [Nat.zero_add, this]
      have := vrows_at l [] i _ hq j hj
      simpa using this
    simp only [hq, Option.getD_some]
    rw [← hkid]
    exact ⟨⟨cell 0 (by omega), cell 1 (by omega), cell 2 (by omega)⟩, hin _ (List.getElem_mem hi')⟩

/-- A row goes on by one datum. -/
theorem row_stepP {w wr w2 : World} {e n cap : Nat} {l : List (Vt × Value)} {junk : List Value} {kid : Nat → Vt} {v : Value}
    (hown : wr.ownsRow w.heap.size e 3 (.slice (some ⟨w.heap.size, 0, none⟩) n cap) n (vrows l ++ junk)) (hj : 3 ≤ junk.length) (hks : VKs kid l) (hin : ∀ q ∈ l, q.1.InP (w.heap.size + 1) wr q.2)
    (hbel : Below w.heap.size w wr) (hsz : w.heap.size < wr.heap.size) (hb : Below wr.heap.size wr w2) (hv : (kid l.length).InP wr.heap.size w2 v) :
    (stV3 w2 w.heap.size (l.length * 3) (kid l.length) v).ownsRow w.heap.size e 3 (.slice (some ⟨w.heap.size, 0, none⟩) n cap) n (vrows (l ++ [(kid l.length, v)]) ++ junk.drop 3) ∧ VKs kid (l ++ [(kid l.length, v)]) ∧
    (∀ q ∈ l ++ [(kid l.length, v)], q.1.InP (w.heap.size + 1) (stV3 w2 w.heap.size (l.length * 3) (kid l.length) v) q.2) ∧ Below w.heap.size w (stV3 w2 w.heap.size (l.length * 3) (kid l.length) v) ∧ w.heap.size < (stV3 w2 w.heap.size (l.length * 3) (kid l.length) v).heap.size := by
  obtain ⟨q, g⟩ := storedV3 (own_below5 hown hb) hj (kid l.length) v
  have hk : ∀ a u, w.heap.size + 1 ≤ a.block → w2.cell? a = some u → (stV3 w2 w.heap.size (l.length * 3) (kid l.length) v).cell? a = some u := fun a u ha hc => keepg g a u (by omega) hc
  have hpl : ∀ b, w.heap.size + 1 ≤ b → PlainB w2 b → PlainB (stV3 w2 w.heap.size (l.length * 3) (kid l.length) v) b := fun b hb hP => by
    obtain ⟨cs, ty, hc⟩ := hP
    exact ⟨cs, ty, (g.block b (Array.getElem?_eq_some_iff.1 hc).1 (by intro e; injection e with e; omega)).trans hc⟩
  have hb2 : Below w.heap.size w w2 := hbel.trans (hb.mono (by omega))
  refine ⟨q, hks.snoc v, ?_, hb2.trans ⟨g.os, g.tape, g.output, g.size, fun k hk => g.block k (by have := hb2.size; omega) (by intro e; injection e with e; omega)⟩, Nat.lt_of_lt_of_le hsz (Nat.le_trans hb.size g.size)⟩
  intro x hx
  rcases List.mem_append.1 hx with hx | hx
  · exact Vt.InP.kept hk hpl _ ((hin x hx).below hb)
  · simp only [List.mem_singleton] at hx
    subst hx
    exact Vt.InP.kept hk hpl _ (hv.mono (by omega))

end Go.Proofs.YtbofjjjjjcolgaaDoor
