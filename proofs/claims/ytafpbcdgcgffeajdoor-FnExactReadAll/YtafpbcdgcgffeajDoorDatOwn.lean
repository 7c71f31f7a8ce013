/- Data whose rows are a call's own, each in a block of its own. No conditions. -/
import Derived.Test.YtafpbcdgcgffeajDoorRows
import Derived.Test.YtafpbcdgcgffeajDoorDatRows
namespace Go.Proofs.YtafpbcdgcgffeajDoor
open Go.ChangeShapes Go.WideShapes Go.ChangeAt Go.RowKit

/-- A datum's rows are owned; their blocks are S. -/
def DOwn (w : World) : D → Value → List Nat → Prop
  | .no, _, _ => False
  | .mk _ _ n s len kid, v, S => (s.size ≤ maxLen ∧ -9223372036854775808 ≤ n ∧ n ≤ 9223372036854775807) ∧
    ((len = 0 ∧ v = .slice none 0 0 ∧ S = []) ∨
     ∃ (g cap : Nat) (l : List (D × Value)) (SS : List (List Nat)), v = .slice (some ⟨g, 0, none⟩) len cap ∧ w.ownsRow 0 39 5 (.slice (some ⟨g, 0, none⟩) len cap) len (drows l) ∧ l.length = len ∧ SS.length = len ∧ Ks kid l ∧ S = g :: SS.flatten ∧
       ∀ i, i < len → ∃ u T, l[i]? = some (kid i, u) ∧ SS[i]? = some T ∧ DOwn w (kid i) u T)

/-- A row of data, owned. -/
def SOwn (w : World) (len : Nat) (kid : Nat → D) (v : Value) (S : List Nat) : Prop :=
    (len = 0 ∧ v = .slice none 0 0 ∧ S = []) ∨
     ∃ (g cap : Nat) (l : List (D × Value)) (SS : List (List Nat)), v = .slice (some ⟨g, 0, none⟩) len cap ∧ w.ownsRow 0 39 5 (.slice (some ⟨g, 0, none⟩) len cap) len (drows l) ∧ l.length = len ∧ SS.length = len ∧ Ks kid l ∧ S = g :: SS.flatten ∧
       ∀ i, i < len → ∃ u T, l[i]? = some (kid i, u) ∧ SS[i]? = some T ∧ DOwn w (kid i) u T

theorem DOwn.sown {w : World} {t : D} {v : Value} {S : List Nat} (h : DOwn w t v S) : SOwn w t.len t.kid v S := by
  cases t <;> unfold DOwn at h <;> first | exact h.elim | exact h.2
theorem DOwn.plain {w : World} {t : D} {v : Value} {S : List Nat} (h : DOwn w t v S) : t.s.size ≤ maxLen ∧ -9223372036854775808 ≤ t.n ∧ t.n ≤ 9223372036854775807 := by
  cases t <;> unfold DOwn at h <;> first | exact h.elim | exact h.1

theorem own_same {w w' : World} {base e size n : Nat} {v : Value} {xs : List Value} (h : w.ownsRow base e size v n xs) (hb : ∀ g, v.ownBlock = some g → w'.heap[g]? = w.heap[g]?) : w'.ownsRow base e size v n xs := by
  refine ⟨h.1, ?_⟩
  rcases h.2 with hn | ⟨g, cap, cur, rfl, hbg, hgg, rest⟩
  · exact .inl hn
  · exact .inr ⟨g, cap, cur, rfl, hbg, (hb g rfl).trans hgg, rest⟩

theorem mem_flat {SS : List (List Nat)} {i : Nat} {T : List Nat} (h : SS[i]? = some T) {g : Nat} (hg : g ∈ T) : g ∈ SS.flatten := List.mem_flatten.2 ⟨T, List.mem_of_getElem? h, hg⟩

theorem DOwn.same {w w' : World} (t : D) : ∀ {v : Value} {S : List Nat}, DOwn w t v S → (∀ g ∈ S, w'.heap[g]? = w.heap[g]?) → DOwn w' t v S := by
  induction t with
  | no => intro v S h; exact h.elim
  | mk op a n s len kid ih =>
    intro v S h hs
    unfold DOwn at h ⊢
    refine ⟨h.1, ?_⟩
    rcases h.2 with h0 | ⟨g, cap, l, SS, h1, h2, h3, h4, h5, h6, h7⟩
    · exact .inl h0
    · refine .inr ⟨g, cap, l, SS, h1, own_same h2 (fun g' hg' => ?_), h3, h4, h5, h6, fun i hi => ?_⟩
      · simp only [Value.ownBlock, Option.some.injEq] at hg'
        subst hg'
        exact hs g (by rw [h6]; simp)
      · obtain ⟨u, T, k1, k2, k3⟩ := h7 i hi
        exact ⟨u, T, k1, k2, ih i k3 (fun g' hg' => hs g' (by rw [h6]; exact List.mem_cons_of_mem _ (mem_flat k2 hg')))⟩

theorem SOwn.same {w w' : World} {len : Nat} {kid : Nat → D} {v : Value} {S : List Nat} (h : SOwn w len kid v S) (hs : ∀ g ∈ S, w'.heap[g]? = w.heap[g]?) : SOwn w' len kid v S := by
  rcases h with h0 | ⟨g, cap, l, SS, h1, h2, h3, h4, h5, h6, h7⟩
  · exact .inl h0
  · refine .inr ⟨g, cap, l, SS, h1, own_same h2 (fun g' hg' => ?_), h3, h4, h5, h6, fun i hi => ?_⟩
    · simp only [Value.ownBlock, Option.some.injEq] at hg'
      subst hg'
      exact hs g (by rw [h6]; simp)
    · obtain ⟨u, T, k1, k2, k3⟩ := h7 i hi
      exact ⟨u, T, k1, k2, k3.same _ (fun g' hg' => hs g' (by rw [h6]; exact List.mem_cons_of_mem _ (mem_flat k2 hg')))⟩

/-- What is owned lies in memory. -/
theorem DOwn.in' {w : World} (t : D) : ∀ {v : Value} {S : List Nat}, DOwn w t v S → t.In w v := by
  induction t with
  | no => intro v S h; exact h.elim
  | mk op a n s len kid ih =>
    intro v S h
    unfold DOwn at h
    refine D.InB.mk' h.1.1 h.1.2 ?_
    rcases h.2 with ⟨rfl, rfl, _⟩ | ⟨g, cap, l, SS, rfl, h2, h3, h4, h5, h6, h7⟩
    · exact .inl ⟨rfl, _, _, rfl⟩
    · refine SlB.of_own h2 h3 (Nat.le_refl _) h5 (fun q hq => ?_)
      obtain ⟨i, hi, rfl⟩ := List.mem_iff_getElem.1 hq
      obtain ⟨u, T, k1, k2, k3⟩ := h7 i (by omega)
      rw [List.getElem?_eq_getElem hi] at k1
      injection k1 with k1
      rw [k1]
      exact ih i k3

theorem SOwn.sl {w : World} {len : Nat} {kid : Nat → D} {v : Value} {S : List Nat} (h : SOwn w len kid v S) : Sl w len kid v := by
  rcases h with ⟨rfl, rfl, _⟩ | ⟨g, cap, l, SS, rfl, h2, h3, h4, h5, h6, h7⟩
  · exact .inl ⟨rfl, _, _, rfl⟩
  · refine SlB.of_own h2 h3 (Nat.le_refl _) h5 (fun q hq => ?_)
    obtain ⟨i, hi, rfl⟩ := List.mem_iff_getElem.1 hq
    obtain ⟨u, T, k1, k2, k3⟩ := h7 i (by omega)
    rw [List.getElem?_eq_getElem hi] at k1
    injection k1 with k1
    rw [k1]
    exact k3.in'

/-- The blocks are there. -/
theorem SOwn.there {w : World} {len : Nat} {kid : Nat → D} {v : Value} {S : List Nat} (h : SOwn w len kid v S) (hd : ∀ i, i < len → ∀ u T, DOwn w (kid i) u T → ∀ g ∈ T, g < w.heap.size) : ∀ g ∈ S, g < w.heap.size := by
  rcases h with ⟨_, _, rfl⟩ | ⟨g, cap, l, SS, rfl, h2, h3, h4, h5, rfl, h7⟩
  · intro g hg; simp at hg
  · intro g' hg'
    rcases List.mem_cons.1 hg' with rfl | hg'
    · exact (h2.lt _ rfl).2
    · obtain ⟨T, hT, hgT⟩ := List.mem_flatten.1 hg'
      obtain ⟨i, hi, rfl⟩ := List.mem_iff_getElem.1 hT
      obtain ⟨u, T', k1, k2, k3⟩ := h7 i (by omega)
      rw [List.getElem?_eq_getElem hi] at k2
      injection k2 with k2
      exact hd i (by omega) u T' k3 g' (by rw [← k2]; exact hgT)

theorem DOwn.there {w : World} (t : D) : ∀ {v : Value} {S : List Nat}, DOwn w t v S → ∀ g ∈ S, g < w.heap.size := by
  induction t with
  | no => intro v S h; exact h.elim
  | mk op a n s len kid ih =>
    intro v S h
    exact (show SOwn w len kid v S from h.sown).there (fun i _ u T k => ih i k)
theorem SOwn.lt {w : World} {len : Nat} {kid : Nat → D} {v : Value} {S : List Nat} (h : SOwn w len kid v S) : ∀ g ∈ S, g < w.heap.size := h.there (fun _ _ _ _ k => k.there)
end Go.Proofs.YtafpbcdgcgffeajDoor
