/- What is written that is being made, row by row. No conditions. -/
import Derived.Test.YtoifhaakieigcaaHoles
import Derived.Test.YtoifhaakieigcaaStxOwn
namespace Go.Proofs.Ytoifhaakieigcaa
open Go.ChangeShapes Go.WideShapes Go.ChangeAt Go.RowKit

/-- The first rows of one that is being filled. -/
def RowsX (kid : Nat → X) (l : List XR) (w : World) (S : List Nat) : Prop :=
  ∃ SS : List (List Nat), SS.length = l.length ∧ S = SS.flatten ∧ ∀ i, i < l.length → ∃ su u T, l[i]? = some (kid i, su, u) ∧ SS[i]? = some T ∧ XOwn w (kid i) su u T

theorem RowsX.nil (kid : Nat → X) (w : World) : RowsX kid [] w [] := ⟨[], rfl, rfl, fun i hi => by simp at hi⟩
theorem RowsX.snoc {kid : Nat → X} {l : List XR} {w : World} {S : List Nat} (h : RowsX kid l w S) {su u : Value} {T : List Nat} (hv : XOwn w (kid l.length) su u T) : RowsX kid (l ++ [(kid l.length, su, u)]) w (S ++ T) := by
  obtain ⟨SS, hl, rfl, he⟩ := h
  refine ⟨SS ++ [T], by simp [hl], by simp, fun i hi => ?_⟩
  rcases Nat.lt_or_ge i l.length with h1 | h1
  · obtain ⟨su', u', T', k1, k2, k3⟩ := he i h1
    exact ⟨su', u', T', by rw [List.getElem?_append_left h1]; exact k1, by rw [List.getElem?_append_left (by rw [hl]; exact h1)]; exact k2, k3⟩
  · have hi' : i = l.length := by simp at hi; omega
    subst hi'
    exact ⟨su, u, T, by simp, by rw [← hl]; simp, hv⟩
theorem RowsX.own {kid : Nat → X} {l : List XR} {w : World} {S : List Nat} {g n cap : Nat} (h : RowsX kid l w S) (hk : XKs kid l) (hl : l.length = n) (hown : w.ownsRow 0 29 6 (.slice (some ⟨g, 0, none⟩) n cap) n (xrows l)) : XsOwn w n kid (.slice (some ⟨g, 0, none⟩) n cap) (g :: S) := by
  obtain ⟨SS, h1, rfl, he⟩ := h
  exact .inr ⟨g, cap, l, SS, rfl, hown, hl, by omega, hk, rfl, fun i hi => he i (by omega)⟩

/-- The target's rows that are to be filled. -/
abbrev WandX (w : World) (R : List Nat) (es : List (Ent X)) (P : World → List Nat → Prop) : Prop := Wand XsOwn w R es P

theorem WandX.leaf {w : World} {R : List Nat} {es : List (Ent X)} {kid : Nat → X} {l : List XR} {sv : Value} (h : WandX w R es (RowsX kid l)) (hne : kid l.length ≠ .no) (hpl : (kid l.length).s.size ≤ maxLen ∧ (-9223372036854775808 ≤ (kid l.length).n ∧ (kid l.length).n ≤ 9223372036854775807) ∧ (kid l.length).set.length ≤ maxLen)
    (hs : Own w 0 sv (kid l.length).set) (h0 : (kid l.length).len = 0) : WandX w (R ++ sv.ownBlock.toList) (es ++ []) (RowsX kid (l ++ [(kid l.length, sv, .slice none 0 0)])) := by
  refine Wand.more h (fun w' S SS hx hP hF => ?_)
  cases SS with
  | cons x xs => exact hF.elim
  | nil =>
    have hs' : Own w' 0 sv (kid l.length).set := hs.sameX (fun g hg => hx g (mem_own hg))
    refine hP.snoc ?_
    generalize kid l.length = t at *
    cases t with
    | no => exact absurd rfl hne
    | mk op a n s set len kd => exact XOwn.mk' hpl hs' (.inl ⟨h0, rfl, rfl⟩)
theorem WandX.node {w : World} {R : List Nat} {es : List (Ent X)} {kid : Nat → X} {l : List XR} {sv v : Value} (h : WandX w R es (RowsX kid l)) (hne : kid l.length ≠ .no) (hpl : (kid l.length).s.size ≤ maxLen ∧ (-9223372036854775808 ≤ (kid l.length).n ∧ (kid l.length).n ≤ 9223372036854775807) ∧ (kid l.length).set.length ≤ maxLen)
    (hs : Own w 0 sv (kid l.length).set) : WandX w (R ++ sv.ownBlock.toList) (es ++ [⟨(kid l.length).len, (kid l.length).kid, v⟩]) (RowsX kid (l ++ [(kid l.length, sv, v)])) := by
  refine Wand.more h (fun w' S SS hx hP hF => ?_)
  cases SS with
  | nil => exact hF.elim
  | cons T TS => cases TS with
    | cons y ys => exact hF.2.elim
    | nil =>
      have hs' : Own w' 0 sv (kid l.length).set := hs.sameX (fun g hg => hx g (mem_own hg))
      have hT := hF.1
      refine hP.snoc ?_
      simp only [List.flatten_cons, List.flatten_nil, List.append_nil]
      generalize kid l.length = t at *
      cases t with
      | no => exact absurd rfl hne
      | mk op a n s set len kd => exact XOwn.mk' hpl hs' hT
theorem WandX.filled {w : World} {R Ri : List Nat} {es en : List (Ent X)} {n g cap : Nat} {kid : Nat → X} {l : List XR} {P : World → List Nat → Prop} (h : WandX w R (es ++ [⟨n, kid, .slice (some ⟨g, 0, none⟩) n cap⟩]) P) (hi : WandX w Ri en (RowsX kid l)) (hk : XKs kid l) (hl : l.length = n) (hown : w.ownsRow 0 29 6 (.slice (some ⟨g, 0, none⟩) n cap) n (xrows l)) :
    WandX w (R ++ g :: Ri) (es ++ en) P :=
  Wand.next h hi (fun w' S hg hP => hP.own hk hl (own_sameX hown (fun x hx => by simp only [Value.ownBlock, Option.some.injEq] at hx; subst hx; exact hg)))

/-- A row of one. -/
theorem row_oneX {W : World} {f : X} {g : Nat} {S : List Nat} (h : XsOwn W 1 (fun _ => f) (.slice (some ⟨g, 0, none⟩) 1 1) S) (hn : S.Nodup) :
    ∃ su u T, (W.cell? ⟨g, 0, none⟩ = some (.int .i64 f.op) ∧ W.cell? ⟨g, 1, none⟩ = some (.int .i64 f.at_) ∧ W.cell? ⟨g, 2, none⟩ = some (.int .i64 f.n) ∧ W.cell? ⟨g, 3, none⟩ = some (.string f.s) ∧ W.cell? ⟨g, 4, none⟩ = some su ∧ W.cell? ⟨g, 5, none⟩ = some u) ∧ XOwn W f su u T ∧ T.Nodup ∧ ∀ x ∈ T, x ∈ S := by
  rcases h with ⟨h0, _⟩ | ⟨g', cap', l, SS, he, hown, hl, hSl, hks, hSe, heach⟩
  · cases h0
  injection he with h1 _ h2
  injection h1 with h1
  injection h1 with h1
  subst h1 h2
  obtain ⟨su, u, T, k1, k2, k3⟩ := heach 0 (by omega)
  have hl1 : l = [(f, su, u)] := by
    match l, hl, k1 with
    | [q], _, k1 => simp at k1; rw [k1]
  subst hl1
  have hc : ∀ j, j < 6 → W.cell? ⟨g, j, none⟩ = (xcells (f, su, u))[j]? := by
    intro j hj
    have := hown.cellAt j (by omega)
    rw [this]
    simp [xrows]
  have hT : ∀ x ∈ T, x ∈ S := fun x hx => by rw [hSe]; exact List.mem_cons_of_mem _ (mem_flatX k2 hx)
  refine ⟨su, u, T, ⟨hc 0 (by omega), hc 1 (by omega), hc 2 (by omega), hc 3 (by omega), hc 4 (by omega), hc 5 (by omega)⟩, k3, ?_, hT⟩
  have hSS : SS = [T] := by
    match SS, hSl, k2 with
    | [q], _, k2 => simp at k2; rw [k2]
  rw [hSe, hSS] at hn
  simp at hn
  exact hn.2
end Go.Proofs.Ytoifhaakieigcaa
