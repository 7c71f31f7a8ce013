/- The state of impl.coreWalk. No conditions. -/
import Derived.Test.YtefjnhkaampmcaaDoorZBoundMap
import Derived.Test.YtefjnhkaampmcaaDoorZCorBound
import Derived.Test.YtefjnhkaampmcaaDoorZOwnCut
namespace Go.Proofs.YtefjnhkaampmcaaDoor
open Go.ChangeShapes Go.WideShapes Go.ChangeAt Go.RowKit

/-- A step is as it says: its part lies in w0, its names in w. -/
def StOk (w0 w : World) (st : St) : Prop := (∀ q, st.part = some q → q.1.In w0 q.2.1 ∧ HeadC w0 q.2.2.1 q.2.2.2 q.1 q.2.1 ∧ q.1.weight ≤ 1048576) ∧ NamesV w st.nv st.names ∧ st.names.length ≤ 2 ∧ ∀ x ∈ st.names, x.size ≤ 1048576
/-- What stays of a world while one walks: all but the walk itself, the map, its rows, and the rows of steps. -/
structure WFr (K B bs : Nat) (w w' : World) : Prop where
  os : w'.os = w.os
  tape : w'.tape = w.tape
  output : w'.output = w.output
  size : w.heap.size ≤ w'.heap.size
  block : ∀ g, g < w.heap.size → g ≠ K → g ≠ B → (g ≤ B ∨ ∀ cs fr, w.heap[g]? ≠ some (.cells cs 3 fr)) → (g < bs ∨ ∀ cs fr, w.heap[g]? ≠ some (.cells cs 70 fr)) → w'.heap[g]? = w.heap[g]?
theorem WFr.refl (K B bs : Nat) (w : World) : WFr K B bs w w := ⟨rfl, rfl, rfl, Nat.le_refl _, fun _ _ _ _ _ _ => rfl⟩
theorem WFr.trans {K B bs : Nat} {w w1 w2 : World} (h : WFr K B bs w w1) (h2 : WFr K B bs w1 w2) : WFr K B bs w w2 :=
  ⟨h2.os.trans h.os, h2.tape.trans h.tape, h2.output.trans h.output, Nat.le_trans h.size h2.size, fun g a b c d e => (h2.block g (Nat.lt_of_lt_of_le a h.size) b c (d.imp id (fun h3 cs fr => by rw [h.block g a b c d e]; exact h3 cs fr)) (e.imp id (fun h3 cs fr => by rw [h.block g a b c d e]; exact h3 cs fr))).trans (h.block g a b c d e)⟩
theorem WFr.of_below {K B bs : Nat} {w w' : World} (h : Below w.heap.size w w') : WFr K B bs w w' := ⟨h.os, h.tape, h.output, h.size, fun g a _ _ _ _ => h.block g a⟩
theorem WFr.of_map {K B bs : Nat} {w w' : World} (h : MFr B (B + 1) w w') : WFr K B bs w w' := ⟨h.os, h.tape, h.output, h.size, fun g a _ c d _ => h.block g a c (d.imp (fun h => by omega) id)⟩
theorem WFr.of_walk {K B bs j : Nat} {w : World} {v : Value} : WFr K B bs w (w.setCell ⟨K, j, none⟩ v) := ⟨rfl, rfl, rfl, by simp, fun g _ b _ _ _ => Below.heap_setCell w ⟨K, j, none⟩ v g b⟩
theorem WFr.of_row {K B bs n : Nat} {w w' : World} {v : Value} {xs : List Value} (ho : w.ownsRow bs 70 2 v n xs) (h : w.grownBy w' v.ownBlock) : WFr K B bs w w' := by
  refine ⟨h.os, h.tape, h.output, h.size, fun g a _ _ _ c => h.block g a (fun e => ?_)⟩
  rcases ho.2 with ⟨rfl, _⟩ | ⟨g', cap, cur, rfl, hbg, hgg, _⟩
  · cases e
  · simp only [Value.ownBlock, Option.some.injEq] at e
    subst e
    rcases c with c | c
    · omega
    · exact c _ _ hgg
theorem WFr.at {K B bs : Nat} {w w' : World} (h : WFr K B bs w w') {g : Nat} {cs : Array Value} {ty : TypeId} {fr : Nat × Nat} (hg : w.heap[g]? = some (.cells cs ty fr)) (hK : g ≠ K) (hB : g ≠ B) (h1 : ty ≠ 3) (h2 : ty ≠ 70) : w'.heap[g]? = some (.cells cs ty fr) :=
  (h.block g (Array.getElem?_eq_some_iff.1 hg).1 hK hB (.inr (fun cs' fr' e => by rw [hg] at e; injection e with e; injection e with _ e; exact h1 e)) (.inr (fun cs' fr' e => by rw [hg] at e; injection e with e; injection e with _ e; exact h2 e))).trans hg
theorem WFr.below {K B bs N : Nat} {w w' : World} (h : WFr K B bs w w') (hK : N ≤ K) (hB : N ≤ B) (hb : N ≤ bs) (hs : N ≤ w.heap.size) : Below N w w' := ⟨h.os, h.tape, h.output, h.size, fun g hg => h.block g (by omega) (by omega) (by omega) (.inl (by omega)) (.inl (by omega))⟩
theorem NamesV.fr {K B bs : Nat} {w w' : World} {nv : Value} {xs : List ByteArray} (h : NamesV w nv xs) (hf : WFr K B bs w w') (hK : w.heap[K]? ≠ none → ∀ cs fr, w.heap[K]? ≠ some (.cells cs 9 fr)) (hB : ∀ cs fr, w.heap[B]? ≠ some (.cells cs 9 fr)) : NamesV w' nv xs := by
  rcases h with h | ⟨g, h1, h2⟩
  · exact .inl h
  · refine .inr ⟨g, h1, hf.at h2 (fun e => ?_) (fun e => ?_) (by decide) (by decide)⟩
    · subst e; exact hK (by rw [h2]; simp) _ _ h2
    · subst e; exact hB _ _ h2

/-- The walk: block K; what is left; the names that are bound. -/
structure CW (w0 : World) (K B bs n m : Nat) (w : World) (lv : Value) (st : List St) (env : List (List UInt8)) : Prop where
  blk : w.heap[K]? = some (.cells #[lv, .map (some B), .int .i64 m] 58 (0, 0))
  own : w.ownsRow bs 70 2 lv st.length (strows st)
  bnd : Bnd w B (B + 1) n env
  ok : ∀ x ∈ st, StOk w0 w x
  bel : Below w0.heap.size w0 w
  lo : w0.heap.size ≤ bs ∧ w0.heap.size ≤ B ∧ w0.heap.size ≤ K
theorem CW.noStr {w0 : World} {K B bs n m : Nat} {w : World} {lv : Value} {st : List St} {env : List (List UInt8)} (h : CW w0 K B bs n m w lv st env) : (∀ cs fr, w.heap[K]? ≠ some (.cells cs 9 fr)) ∧ (∀ cs fr, w.heap[B]? ≠ some (.cells cs 9 fr)) := by
  refine ⟨fun cs fr e => ?_, fun cs fr e => ?_⟩
  · rw [h.blk] at e; injection e with e; injection e with _ e; exact absurd e (by decide)
  · obtain ⟨D, ⟨es, ck, h1, _⟩, _⟩ := h.bnd
    rw [h1] at e; cases e
theorem StOk.fr {w0 w w' : World} {K B bs : Nat} {x : St} (h : StOk w0 w x) (hf : WFr K B bs w w') (hK : ∀ cs fr, w.heap[K]? ≠ some (.cells cs 9 fr)) (hB : ∀ cs fr, w.heap[B]? ≠ some (.cells cs 9 fr)) : StOk w0 w' x := ⟨h.1, h.2.1.fr hf (fun _ => hK) hB, h.2.2⟩
theorem Bnd.walk {w : World} {B n K j : Nat} {env : List (List UInt8)} {cs : Array Value} (h : Bnd w B (B + 1) n env) (hk : w.heap[K]? = some (.cells cs 58 (0, 0))) (v : Value) : Bnd (w.setCell ⟨K, j, none⟩ v) B (B + 1) n env := by
  obtain ⟨D, h1, h2⟩ := h
  refine ⟨D, ?_, h2⟩
  obtain ⟨es, ck, hb, F, hs, hD, hlt, hlen, hap⟩ := h1
  have hKB : K ≠ B := fun e => by rw [e, hb] at hk; cases hk
  have hg : w.grownBy (w.setCell ⟨K, j, none⟩ v) (some K) := ⟨rfl, rfl, rfl, by simp, fun g _ hi => Below.heap_setCell w ⟨K, j, none⟩ v g (fun e => hi (by rw [e]))⟩
  rcases Nat.lt_or_ge K (B + 1) with hl | hl
  · exact groups_grow ⟨es, ck, hb, F, hs, hD, hlt, hlen, hap⟩ hg hl hKB
  · have ne : ∀ {u : Value} {ys : List Int}, w.ownsInts (B + 1) 3 .i64 u ys → u.ownBlock = none ∨ u.ownBlock ≠ some K := fun {u ys} ho => by
      rcases ho.1.2 with ⟨rfl, _⟩ | ⟨g, cap, cur, rfl, _, hgg, _⟩
      · exact Or.inl rfl
      · refine Or.inr (fun e1 => ?_)
        simp only [Value.ownBlock, Option.some.injEq] at e1
        subst e1
        rw [hk] at hgg
        injection hgg with h9
        injection h9 with _ h9
        exact absurd h9 (by decide)
    have hs2 : ∀ x ∈ es.toList, ∀ z, rowElem (H := Unit) w (B + 1) 3 .i64 x.val = some z → rowElem (w.setCell ⟨K, j, none⟩ v) (B + 1) 3 .i64 x.val = some z := by
      intro x _ z hz
      obtain ⟨ys, ho, rfl⟩ := rowElem_inv hz
      exact rowElem_mk (ho.kept hg (ne ho))
    obtain ⟨F2, hmap2, _⟩ := F.stay hs2
    refine ⟨es, ck, (hg.block B (Array.getElem?_eq_some_iff.1 hb).1 (by intro e1; injection e1 with e1; exact hKB e1.symm)).trans hb, F2, hs, by rw [hD, hmap2], hlt, ?_, hap⟩
    intro x hx ys ho
    obtain ⟨y, hy⟩ := F.reads x hx
    obtain ⟨z, hz, _⟩ := Go.WideElems.rd_val hy
    obtain ⟨ys', ho', _⟩ := rowElem_inv hz
    rw [ho.unique (ho'.kept hg (ne ho'))]
    exact hlen x hx ys' ho'
theorem Bnd.row {w w' : World} {B bs n k : Nat} {env : List (List UInt8)} {lv : Value} {xs : List Value} (h : Bnd w B (B + 1) n env) (ho : w.ownsRow bs 70 2 lv k xs) (hg : w.grownBy w' lv.ownBlock) : Bnd w' B (B + 1) n env := by
  obtain ⟨D, ⟨es, ck, hb, F, hs, hD, hlt, hlen, hap⟩, h2⟩ := h
  have hB : lv.ownBlock ≠ some B := fun e => by
    rcases ho.2 with ⟨rfl, _⟩ | ⟨g, cap, cur, rfl, _, hgg, _⟩
    · cases e
    · simp only [Value.ownBlock, Option.some.injEq] at e
      subst e
      rw [hb] at hgg
      cases hgg
  have ne : ∀ {u : Value} {ys : List Int}, w.ownsInts (B + 1) 3 .i64 u ys → u.ownBlock = none ∨ u.ownBlock ≠ lv.ownBlock := fun {u ys} hu => by
    rcases hu.1.2 with ⟨rfl, _⟩ | ⟨g, cap, cur, rfl, _, hgg, _⟩
    · exact Or.inl rfl
    · refine Or.inr (fun e1 => ?_)
      rcases ho.2 with ⟨rfl, _⟩ | ⟨g2, cap2, cur2, rfl, _, hgg2, _⟩
      · cases e1
      · simp only [Value.ownBlock, Option.some.injEq] at e1
        subst e1
        rw [hgg] at hgg2
        injection hgg2 with h9
        injection h9 with _ h9
        exact absurd h9 (by decide)
  have hs2 : ∀ x ∈ es.toList, ∀ z, rowElem (H := Unit) w (B + 1) 3 .i64 x.val = some z → rowElem w' (B + 1) 3 .i64 x.val = some z := by
    intro x _ z hz
    obtain ⟨ys, hu, rfl⟩ := rowElem_inv hz
    exact rowElem_mk (hu.kept hg (ne hu))
  obtain ⟨F2, hmap2, _⟩ := F.stay hs2
  refine ⟨D, ⟨es, ck, (hg.block B (Array.getElem?_eq_some_iff.1 hb).1 (fun e => hB e.symm)).trans hb, F2, hs, by rw [hD, hmap2], hlt, ?_, hap⟩, h2⟩
  intro x hx ys hu
  obtain ⟨y, hy⟩ := F.reads x hx
  obtain ⟨z, hz, _⟩ := Go.WideElems.rd_val hy
  obtain ⟨ys', hu', _⟩ := rowElem_inv hz
  rw [hu.unique (hu'.kept hg (ne hu'))]
  exact hlen x hx ys' hu'
end Go.Proofs.YtefjnhkaampmcaaDoor
