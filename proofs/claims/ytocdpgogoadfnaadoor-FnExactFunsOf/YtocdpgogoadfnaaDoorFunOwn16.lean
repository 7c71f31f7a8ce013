/- A list of functions of one's own grows beside a block that turns. No conditions. -/
import Derived.Test.YtocdpgogoadfnaaDoorFunsG16
import Derived.Test.YtocdpgogoadfnaaDoorFunRows
import Derived.Test.YtocdpgogoadfnaaDoorOpRows
namespace Go.Proofs.YtocdpgogoadfnaaDoor
open Go.ChangeShapes Go.WideShapes Go.ChangeAt Go.RowKit

theorem own_keepZ {w w' : World} {B e k n : Nat} {v : Value} {xs : List Value} (h : w.ownsRow B e k v n xs) (hb : ∀ g, v.ownBlock = some g → w'.heap[g]? = w.heap[g]?) : w'.ownsRow B e k v n xs := by
  refine ⟨h.1, ?_⟩
  rcases h.2 with hn | ⟨g, cap, cur, rfl, hbg, hgg, rest⟩
  · exact .inl hn
  · exact .inr ⟨g, cap, cur, rfl, hbg, (hb g rfl).trans hgg, rest⟩
theorem own_betweenZ {w : World} {B e k n : Nat} {v : Value} {xs : List Value} (h : w.ownsRow B e k v n xs) {g : Nat} (hg : v.ownBlock = some g) : B ≤ g ∧ g < w.heap.size := by
  rcases h.2 with ⟨e, _⟩ | ⟨g', cap, cur, e, hb, hh, _⟩
  · rw [e] at hg; cases hg
  · rw [e] at hg
    injection hg with hg
    have hg' : g' = g := hg
    subst hg'
    exact ⟨hb, (Array.getElem?_eq_some_iff.1 hh).1⟩
theorem ferows_appendZ (a b : List Fe) : ferows (a ++ b) = ferows a ++ ferows b := by simp [ferows]
theorem own_baseZ {w : World} {base base' e size n : Nat} {v : Value} {xs : List Value} (h : w.ownsRow base e size v n xs) (hb : base' ≤ base) : w.ownsRow base' e size v n xs := by
  refine ⟨h.1, ?_⟩
  rcases h.2 with hn | ⟨g, cap, cur, rfl, hbg, rest⟩
  · exact .inl hn
  · exact .inr ⟨g, cap, cur, rfl, Nat.le_trans hb hbg, rest⟩
/-- One function more, whose ops lie in a block that is new. -/
theorem FOwn.pushedZ {B : Nat} {w1 w2 w3 w5 : World} {vo vo' u : Value} {le : List Fe} {fr : Int} {ol : List O3} (h : FOwn B w1 vo le) (hB : B ≤ w1.heap.size) (hs2 : w1.heap.size ≤ w2.heap.size) (hb2 : ∀ k, B ≤ k → k < w1.heap.size → w2.heap[k]? = w1.heap[k]?) (hu : w2.ownsRow w1.heap.size 47 3 u ol.length (orows ol)) (hb3 : Below w2.heap.size w2 w3)
    (hrow : w5.ownsRow B 45 2 vo' (le.length + 1) (ferows le ++ [.int .i64 fr, u])) (hg : w3.grownBy w5 vo.ownBlock) (hat : vo'.ownBlock = vo.ownBlock ∨ vo'.ownBlock = some w3.heap.size) : FOwn B w5 vo' (le ++ [⟨fr, ol, u⟩]) := by
  have hs3 := hb3.size
  have hvo : ∀ g, vo.ownBlock = some g → g < w1.heap.size := fun g e => (own_betweenZ h.row e).2
  have hub : ∀ g, u.ownBlock = some g → w1.heap.size ≤ g ∧ g < w2.heap.size := fun g e => own_betweenZ hu e
  have hle : ∀ (i : Nat) (e : Fe), le[i]? = some e → ∀ g, e.u.ownBlock = some g → B ≤ g ∧ g < w1.heap.size := fun i e hi g hg => own_betweenZ (h.el i e hi) hg
  have key : ∀ (i : Nat) (e : Fe), (le ++ [⟨fr, ol, u⟩])[i]? = some e → (i < le.length ∧ le[i]? = some e) ∨ (i = le.length ∧ e = ⟨fr, ol, u⟩) := fun i e hi => by
    rcases Nat.lt_trichotomy i le.length with h1 | h1 | h1
    · rw [List.getElem?_append_left h1] at hi; exact .inl ⟨h1, hi⟩
    · subst h1; simp at hi; exact .inr ⟨rfl, hi.symm⟩
    · rw [List.getElem?_eq_none (by simp; omega)] at hi; cases hi
  have hvo' : ∀ g, vo'.ownBlock = some g → vo.ownBlock = some g ∨ w3.heap.size ≤ g := fun g e => by
    rcases hat with h1 | h1
    · exact .inl (h1 ▸ e)
    · rw [h1] at e; injection e with e; exact .inr (by omega)
  refine ⟨?_, fun i e hi => ?_, fun i j ei ej hi hj hij g hg1 hg2 => ?_, fun i e hi g hg1 hg2 => ?_⟩
  · have e1 : (le ++ [(⟨fr, ol, u⟩ : Fe)]).length = le.length + 1 := by simp
    have e2 : ferows (le ++ [⟨fr, ol, u⟩]) = ferows le ++ [.int .i64 fr, u] := by simp [ferows, fecells]
    rw [e1, e2]; exact hrow
  · rcases key i e hi with ⟨_, h1⟩ | ⟨_, rfl⟩
    · refine own_keepZ (h.el i e h1) (fun g hg1 => ?_)
      have h2 := hle i e h1 g hg1
      rw [hg.block g (by omega) (fun e2 => h.ne i e h1 g hg1 e2.symm), hb3.block g (by omega), hb2 g h2.1 h2.2]
    · refine own_baseZ (own_keepZ hu (fun g hg1 => ?_)) hB
      have h2 := hub g hg1
      rw [hg.block g (by omega) (fun e2 => by have := hvo g e2.symm; omega), hb3.block g (by omega)]
  · rcases key i ei hi with ⟨h0, h1⟩ | ⟨h0, rfl⟩ <;> rcases key j ej hj with ⟨k0, k1⟩ | ⟨k0, rfl⟩
    · exact h.apart i j ei ej h1 k1 hij g hg1 hg2
    · have := (hle i ei h1 g hg1).2; have := (hub g hg2).1; omega
    · have := (hle j ej k1 g hg2).2; have := (hub g hg1).1; omega
    · omega
  · rcases key i e hi with ⟨h0, h1⟩ | ⟨h0, rfl⟩
    · rcases hvo' g hg2 with h2 | h2
      · exact h.ne i e h1 g hg1 h2
      · have := (hle i e h1 g hg1).2; omega
    · have h3 := hub g hg1
      rcases hvo' g hg2 with h2 | h2
      · have := hvo g h2; omega
      · omega

theorem kidL_at {le : List Fe} {i : Nat} (hi : i < le.length) : kidL (strip le) i = fuL ((le[i]).fr, (le[i]).ol) := by
  unfold kidL strip
  rw [List.getD_eq_getElem?_getD, List.getElem?_map, List.getElem?_eq_getElem hi]
  rfl
theorem FOwn.flZ {B : Nat} {w : World} {vo : Value} {le : List Fe} (h : FOwn B w vo le) (hn : ∀ e ∈ strip le, FOk e) : FlB B w le.length (kidL (strip le)) vo := by
  rcases h.row.2 with ⟨e, h0⟩ | ⟨g, cap, cur, e, hbg, hh, hc, hm, _⟩
  · rw [h0]; exact .inl ⟨rfl, none, 0, e⟩
  · refine .inr ⟨g, 0, cap, fun i => ((le[i]?).map Fe.u).getD (.bool false), e, hbg, hc, hm, fun i hi => ?_⟩
    have hq : le[i]? = some le[i] := List.getElem?_eq_getElem hi
    have hr := h.row
    rw [e] at hr
    have cell : ∀ j, j < 2 → w.cell? ⟨g, 0 + i * 2 + j, none⟩ = (fecells le[i])[j]? := by
      intro j hj
      rw [Nat.zero_add, hr.cellAt (i * 2 + j) (by omega)]
      exact ferows_at le i _ hq j hj
    have c0 := cell 0 (by omega)
    have c1 := cell 1 (by omega)
    rw [Nat.add_zero] at c0
    simp only [fecells, List.getElem?_cons_zero, List.getElem?_cons_succ] at c0 c1
    simp only [hq, Option.map_some, Option.getD_some]
    have hel := h.el i _ hq
    rw [kidL_at hi]
    have hok : FOk ((le[i]).fr, (le[i]).ol) := hn _ (List.mem_map.2 ⟨le[i], List.getElem_mem hi, rfl⟩)
    refine ⟨⟨c0, c1⟩, hok.1, ?_⟩
    exact OlB.of_own hel rfl (Nat.le_refl _) (fun j q hj => by show q = ((le[i]).ol).getD j default; rw [List.getD_eq_getElem?_getD, hj]; rfl) (fun j hj => by
      have hj' : j < (le[i]).ol.length := hj
      refine hok.2.1 _ ?_
      show ((le[i]).ol).getD j default ∈ _
      rw [List.getD_eq_getElem?_getD, List.getElem?_eq_getElem hj']
      exact List.getElem_mem hj')
theorem FOwn.keptZ {B : Nat} {w w' : World} {vo : Value} {le : List Fe} (h : FOwn B w vo le) (hk : ∀ k, B ≤ k → k < w.heap.size → w'.heap[k]? = w.heap[k]?) : FOwn B w' vo le :=
  ⟨own_keepZ h.row (fun g e => hk g (own_betweenZ h.row e).1 (own_betweenZ h.row e).2), fun i e hi => own_keepZ (h.el i e hi) (fun g eg => hk g (own_betweenZ (h.el i e hi) eg).1 (own_betweenZ (h.el i e hi) eg).2), h.apart, h.ne⟩
theorem FOwn.stay {B B' : Nat} {w w' : World} {vo : Value} {le : List Fe} (h : FOwn B w vo le) (hB : B' ≤ B) (hb : Below w.heap.size w w') : FOwn B' w' vo le := by
  have h2 := h.keptZ (w' := w') (fun k _ h3 => hb.block k h3)
  exact ⟨own_baseZ h2.row hB, fun i e hi => own_baseZ (h2.el i e hi) hB, h2.apart, h2.ne⟩
end Go.Proofs.YtocdpgogoadfnaaDoor
