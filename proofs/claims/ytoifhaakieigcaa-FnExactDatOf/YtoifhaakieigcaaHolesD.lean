/- Data that are being made, row by row. No conditions. -/
import Derived.Test.YtoifhaakieigcaaHoles
import Derived.Test.YtoifhaakieigcaaDatOwn
namespace Go.Proofs.Ytoifhaakieigcaa
open Go.ChangeShapes Go.WideShapes Go.ChangeAt Go.RowKit

/-- The first rows of one that is being filled. -/
def RowsD (kid : Nat → D) (l : List (D × Value)) (w : World) (S : List Nat) : Prop :=
  ∃ SS : List (List Nat), SS.length = l.length ∧ S = SS.flatten ∧ ∀ i, i < l.length → ∃ u T, l[i]? = some (kid i, u) ∧ SS[i]? = some T ∧ DOwn w (kid i) u T

theorem RowsD.nil (kid : Nat → D) (w : World) : RowsD kid [] w [] := ⟨[], rfl, rfl, fun i hi => by simp at hi⟩
theorem RowsD.snoc {kid : Nat → D} {l : List (D × Value)} {w : World} {S : List Nat} (h : RowsD kid l w S) {u : Value} {T : List Nat} (hv : DOwn w (kid l.length) u T) : RowsD kid (l ++ [(kid l.length, u)]) w (S ++ T) := by
  obtain ⟨SS, hl, rfl, he⟩ := h
  refine ⟨SS ++ [T], by simp [hl], by simp, fun i hi => ?_⟩
  rcases Nat.lt_or_ge i l.length with h1 | h1
  · obtain ⟨u', T', k1, k2, k3⟩ := he i h1
    exact ⟨u', T', by rw [List.getElem?_append_left h1]; exact k1, by rw [List.getElem?_append_left (by rw [hl]; exact h1)]; exact k2, k3⟩
  · have hi' : i = l.length := by simp at hi; omega
    subst hi'
    exact ⟨u, T, by simp, by rw [← hl]; simp, hv⟩
theorem RowsD.own {kid : Nat → D} {l : List (D × Value)} {w : World} {S : List Nat} {g n cap : Nat} (h : RowsD kid l w S) (hk : Ks kid l) (hl : l.length = n) (hown : w.ownsRow 0 33 5 (.slice (some ⟨g, 0, none⟩) n cap) n (drows l)) : SOwn w n kid (.slice (some ⟨g, 0, none⟩) n cap) (g :: S) := by
  obtain ⟨SS, h1, rfl, he⟩ := h
  exact .inr ⟨g, cap, l, SS, rfl, hown, hl, by omega, hk, rfl, fun i hi => he i (by omega)⟩

/-- The target's rows that are to be filled. -/
abbrev WandD (w : World) (R : List Nat) (es : List (Ent D)) (P : World → List Nat → Prop) : Prop := Wand SOwn w R es P

theorem WandD.leaf {w : World} {R : List Nat} {es : List (Ent D)} {kid : Nat → D} {l : List (D × Value)} (h : WandD w R es (RowsD kid l)) (hne : kid l.length ≠ .no) (hpl : (kid l.length).s.size ≤ maxLen ∧ (-9223372036854775808 ≤ (kid l.length).n ∧ (kid l.length).n ≤ 9223372036854775807))
    (h0 : (kid l.length).len = 0) : WandD w (R ++ []) (es ++ []) (RowsD kid (l ++ [(kid l.length, .slice none 0 0)])) := by
  refine Wand.more h (fun w' S SS hx hP hF => ?_)
  cases SS with
  | cons x xs => exact hF.elim
  | nil =>
    refine hP.snoc ?_
    generalize kid l.length = t at *
    cases t with
    | no => exact absurd rfl hne
    | mk op a n s len kd => exact ⟨hpl, .inl ⟨h0, rfl, rfl⟩⟩
theorem WandD.node {w : World} {R : List Nat} {es : List (Ent D)} {kid : Nat → D} {l : List (D × Value)} {v : Value} (h : WandD w R es (RowsD kid l)) (hne : kid l.length ≠ .no) (hpl : (kid l.length).s.size ≤ maxLen ∧ (-9223372036854775808 ≤ (kid l.length).n ∧ (kid l.length).n ≤ 9223372036854775807)) :
    WandD w (R ++ []) (es ++ [⟨(kid l.length).len, (kid l.length).kid, v⟩]) (RowsD kid (l ++ [(kid l.length, v)])) := by
  refine Wand.more h (fun w' S SS hx hP hF => ?_)
  cases SS with
  | nil => exact hF.elim
  | cons T TS => cases TS with
    | cons y ys => exact hF.2.elim
    | nil =>
      have hT := hF.1
      refine hP.snoc ?_
      simp only [List.flatten_cons, List.flatten_nil, List.append_nil, List.nil_append]
      generalize kid l.length = t at *
      cases t with
      | no => exact absurd rfl hne
      | mk op a n s len kd => exact ⟨hpl, hT⟩
theorem WandD.filled {w : World} {R Ri : List Nat} {es en : List (Ent D)} {n g cap : Nat} {kid : Nat → D} {l : List (D × Value)} {P : World → List Nat → Prop} (h : WandD w R (es ++ [⟨n, kid, .slice (some ⟨g, 0, none⟩) n cap⟩]) P) (hi : WandD w Ri en (RowsD kid l)) (hk : Ks kid l) (hl : l.length = n) (hown : w.ownsRow 0 33 5 (.slice (some ⟨g, 0, none⟩) n cap) n (drows l)) :
    WandD w (R ++ g :: Ri) (es ++ en) P :=
  Wand.next h hi (fun w' S hg hP => hP.own hk hl (own_same hown (fun x hx => by simp only [Value.ownBlock, Option.some.injEq] at hx; subst hx; exact hg)))

/-- A row of one. -/
theorem row_oneD {W : World} {f : D} {g : Nat} {S : List Nat} (h : SOwn W 1 (fun _ => f) (.slice (some ⟨g, 0, none⟩) 1 1) S) (hn : S.Nodup) :
    ∃ u T, (W.cell? ⟨g, 0, none⟩ = some (.int .i64 f.op) ∧ W.cell? ⟨g, 1, none⟩ = some (.int .i64 f.at_) ∧ W.cell? ⟨g, 2, none⟩ = some (.int .i64 f.n) ∧ W.cell? ⟨g, 3, none⟩ = some (.string f.s) ∧ W.cell? ⟨g, 4, none⟩ = some u) ∧ DOwn W f u T ∧ T.Nodup ∧ ∀ x ∈ T, x ∈ S := by
  rcases h with ⟨h0, _⟩ | ⟨g', cap', l, SS, he, hown, hl, hSl, hks, hSe, heach⟩
  · cases h0
  injection he with h1 _ h2
  injection h1 with h1
  injection h1 with h1
  subst h1 h2
  obtain ⟨u, T, k1, k2, k3⟩ := heach 0 (by omega)
  have hl1 : l = [(f, u)] := by
    match l, hl, k1 with
    | [q], _, k1 => simp at k1; rw [k1]
  subst hl1
  have hc : ∀ j, j < 5 → W.cell? ⟨g, j, none⟩ = (dcells (f, u))[j]? := by
    intro j hj
    have := hown.cellAt j (by omega)
    rw [this]
    simp [drows]
  have hT : ∀ x ∈ T, x ∈ S := fun x hx => by rw [hSe]; exact List.mem_cons_of_mem _ (mem_flat k2 hx)
  refine ⟨u, T, ⟨hc 0 (by omega), hc 1 (by omega), hc 2 (by omega), hc 3 (by omega), hc 4 (by omega)⟩, k3, ?_, hT⟩
  have hSS : SS = [T] := by
    match SS, hSl, k2 with
    | [q], _, k2 => simp at k2; rw [k2]
  rw [hSe, hSS] at hn
  simp at hn
  exact hn.2
end Go.Proofs.Ytoifhaakieigcaa
