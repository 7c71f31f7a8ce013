/- What is written whose rows and sets are a call's own, each in a block of its own. No conditions. -/
import Derived.Test.YtgbfflpdpfgnbaaRows
import Derived.Test.YtgbfflpdpfgnbaaStxRows
import Derived.Test.YtgbfflpdpfgnbaaIntsOwn
namespace Go.Proofs.Ytgbfflpdpfgnbaa
open Go.ChangeShapes Go.WideShapes Go.ChangeAt Go.RowKit

/-- A node's rows and its set are owned; their blocks are S. -/
def XOwn (w : World) : X → Value → Value → List Nat → Prop
  | .no, _, _, _ => False
  | .mk _ _ n s set len kid, sv, v, S => (s.size ≤ maxLen ∧ (-9223372036854775808 ≤ n ∧ n ≤ 9223372036854775807) ∧ set.length ≤ maxLen) ∧ Own w 0 sv set ∧ ∃ S2, S = sv.ownBlock.toList ++ S2 ∧
    ((len = 0 ∧ v = .slice none 0 0 ∧ S2 = []) ∨
     ∃ (g cap : Nat) (l : List XR) (SS : List (List Nat)), v = .slice (some ⟨g, 0, none⟩) len cap ∧ w.ownsRow 0 40 6 (.slice (some ⟨g, 0, none⟩) len cap) len (xrows l) ∧ l.length = len ∧ SS.length = len ∧ XKs kid l ∧ S2 = g :: SS.flatten ∧
       ∀ i, i < len → ∃ su u T, l[i]? = some (kid i, su, u) ∧ SS[i]? = some T ∧ XOwn w (kid i) su u T)

/-- A row of them, owned. -/
def XsOwn (w : World) (len : Nat) (kid : Nat → X) (v : Value) (S : List Nat) : Prop :=
    (len = 0 ∧ v = .slice none 0 0 ∧ S = []) ∨
     ∃ (g cap : Nat) (l : List XR) (SS : List (List Nat)), v = .slice (some ⟨g, 0, none⟩) len cap ∧ w.ownsRow 0 40 6 (.slice (some ⟨g, 0, none⟩) len cap) len (xrows l) ∧ l.length = len ∧ SS.length = len ∧ XKs kid l ∧ S = g :: SS.flatten ∧
       ∀ i, i < len → ∃ su u T, l[i]? = some (kid i, su, u) ∧ SS[i]? = some T ∧ XOwn w (kid i) su u T

theorem XOwn.parts {w : World} {t : X} {sv v : Value} {S : List Nat} (h : XOwn w t sv v S) : Own w 0 sv t.set ∧ ∃ S2, S = sv.ownBlock.toList ++ S2 ∧ XsOwn w t.len t.kid v S2 := by
  cases t <;> unfold XOwn at h <;> first | exact h.elim | exact h.2
theorem XOwn.plain {w : World} {t : X} {sv v : Value} {S : List Nat} (h : XOwn w t sv v S) : t.s.size ≤ maxLen ∧ (-9223372036854775808 ≤ t.n ∧ t.n ≤ 9223372036854775807) ∧ t.set.length ≤ maxLen := by
  cases t <;> unfold XOwn at h <;> first | exact h.elim | exact h.1
theorem XOwn.mk' {w : World} {op a n : Int} {s : ByteArray} {set : List Int} {len : Nat} {kid : Nat → X} {sv v : Value} {S2 : List Nat} (h0 : s.size ≤ maxLen ∧ (-9223372036854775808 ≤ n ∧ n ≤ 9223372036854775807) ∧ set.length ≤ maxLen) (hs : Own w 0 sv set) (h : XsOwn w len kid v S2) : XOwn w (X.mk op a n s set len kid) sv v (sv.ownBlock.toList ++ S2) := by
  unfold XOwn; exact ⟨h0, hs, S2, rfl, h⟩
theorem XOwn.ne {w : World} {t : X} {sv v : Value} {S : List Nat} (h : XOwn w t sv v S) : t ≠ .no := by
  rintro rfl; exact h.elim

theorem own_sameX {w w' : World} {base e size n : Nat} {v : Value} {xs : List Value} (h : w.ownsRow base e size v n xs) (hb : ∀ g, v.ownBlock = some g → w'.heap[g]? = w.heap[g]?) : w'.ownsRow base e size v n xs := by
  refine ⟨h.1, ?_⟩
  rcases h.2 with hn | ⟨g, cap, cur, rfl, hbg, hgg, rest⟩
  · exact .inl hn
  · exact .inr ⟨g, cap, cur, rfl, hbg, (hb g rfl).trans hgg, rest⟩
theorem Own.sameX {w w' : World} {base : Nat} {v : Value} {xs : List Int} (h : Own w base v xs) (hb : ∀ g, v.ownBlock = some g → w'.heap[g]? = w.heap[g]?) : Own w' base v xs := own_sameX h hb

theorem mem_flatX {SS : List (List Nat)} {i : Nat} {T : List Nat} (h : SS[i]? = some T) {g : Nat} (hg : g ∈ T) : g ∈ SS.flatten := List.mem_flatten.2 ⟨T, List.mem_of_getElem? h, hg⟩
theorem mem_own {v : Value} {g : Nat} (h : v.ownBlock = some g) : g ∈ v.ownBlock.toList := by rw [h]; simp

theorem XOwn.same {w w' : World} (t : X) : ∀ {sv v : Value} {S : List Nat}, XOwn w t sv v S → (∀ g ∈ S, w'.heap[g]? = w.heap[g]?) → XOwn w' t sv v S := by
  induction t with
  | no => intro sv v S h; exact h.elim
  | mk op a n s set len kid ih =>
    intro sv v S h hs
    unfold XOwn at h ⊢
    obtain ⟨h0, hset, S2, rfl, hr⟩ := h
    refine ⟨h0, hset.sameX (fun g hg => hs g (List.mem_append_left _ (mem_own hg))), S2, rfl, ?_⟩
    rcases hr with h0 | ⟨g, cap, l, SS, h1, h2, h3, h4, h5, h6, h7⟩
    · exact .inl h0
    · refine .inr ⟨g, cap, l, SS, h1, own_sameX h2 (fun g' hg' => ?_), h3, h4, h5, h6, fun i hi => ?_⟩
      · simp only [Value.ownBlock, Option.some.injEq] at hg'
        subst hg'
        exact hs g (by rw [h6]; simp)
      · obtain ⟨su, u, T, k1, k2, k3⟩ := h7 i hi
        exact ⟨su, u, T, k1, k2, ih i k3 (fun g' hg' => hs g' (by rw [h6]; exact List.mem_append_right _ (List.mem_cons_of_mem _ (mem_flatX k2 hg'))))⟩

theorem XsOwn.same {w w' : World} {len : Nat} {kid : Nat → X} {v : Value} {S : List Nat} (h : XsOwn w len kid v S) (hs : ∀ g ∈ S, w'.heap[g]? = w.heap[g]?) : XsOwn w' len kid v S := by
  rcases h with h0 | ⟨g, cap, l, SS, h1, h2, h3, h4, h5, h6, h7⟩
  · exact .inl h0
  · refine .inr ⟨g, cap, l, SS, h1, own_sameX h2 (fun g' hg' => ?_), h3, h4, h5, h6, fun i hi => ?_⟩
    · simp only [Value.ownBlock, Option.some.injEq] at hg'
      subst hg'
      exact hs g (by rw [h6]; simp)
    · obtain ⟨su, u, T, k1, k2, k3⟩ := h7 i hi
      exact ⟨su, u, T, k1, k2, k3.same _ (fun g' hg' => hs g' (by rw [h6]; exact List.mem_cons_of_mem _ (mem_flatX k2 hg')))⟩

/-- A set of the call's own, from block B on, lies so. -/
theorem Own.setB' {w : World} {base B : Nat} {v : Value} {xs : List Int} (h : Own w base v xs) (hB : ∀ g, v.ownBlock = some g → B ≤ g) : SetB B w v xs := by
  have h' := h
  rcases h.2 with ⟨rfl, hn⟩ | ⟨g, cap, cur, rfl, hbg, hg, hnc, _⟩
  · exact .inl ⟨rfl, List.eq_nil_of_length_eq_zero hn⟩
  · refine .inr ⟨g, 0, cap, rfl, hB g rfl, hnc, fun j hj => ?_⟩
    rw [Nat.zero_add, World.ownsRow.cellAt h' j (by omega)]
    simp [List.getElem?_eq_getElem hj]

theorem own_base {w : World} {base B e size n : Nat} {v : Value} {xs : List Value} (h : w.ownsRow base e size v n xs) (hB : ∀ g, v.ownBlock = some g → B ≤ g) : w.ownsRow B e size v n xs := by
  refine ⟨h.1, ?_⟩
  rcases h.2 with hn | ⟨g, cap, cur, rfl, hbg, rest⟩
  · exact .inl hn
  · exact .inr ⟨g, cap, cur, rfl, hB g rfl, rest⟩

/-- What is owned lies in memory, from block B on. -/
theorem XOwn.at' {w : World} {B : Nat} (t : X) : ∀ {sv v : Value} {S : List Nat}, XOwn w t sv v S → (∀ g ∈ S, B ≤ g) → t.At B w sv v := by
  induction t with
  | no => intro sv v S h; exact h.elim
  | mk op a n s set len kid ih =>
    intro sv v S h hB
    unfold XOwn at h
    obtain ⟨h0, hset, S2, rfl, hr⟩ := h
    refine X.InB.mk' h0.1 h0.2.1 h0.2.2 (hset.setB' (fun g hg => hB g (List.mem_append_left _ (mem_own hg)))) ?_
    rcases hr with ⟨rfl, rfl, _⟩ | ⟨g, cap, l, SS, rfl, h2, h3, h4, h5, h6, h7⟩
    · exact .inl ⟨rfl, _, _, rfl⟩
    · refine XsB.of_own (own_base (B := B) h2 (fun g' hg' => ?_)) h3 (Nat.le_refl _) h5 (fun q hq => ?_)
      · simp only [Value.ownBlock, Option.some.injEq] at hg'
        subst hg'
        exact hB g (by rw [h6]; simp)
      obtain ⟨i, hi, rfl⟩ := List.mem_iff_getElem.1 hq
      obtain ⟨su, u, T, k1, k2, k3⟩ := h7 i (by omega)
      rw [List.getElem?_eq_getElem hi] at k1
      injection k1 with k1
      rw [k1]
      exact ih i k3 (fun g' hg' => hB g' (by rw [h6]; exact List.mem_append_right _ (List.mem_cons_of_mem _ (mem_flatX k2 hg'))))
theorem XOwn.at0 {w : World} {t : X} {sv v : Value} {S : List Nat} (h : XOwn w t sv v S) : t.At 0 w sv v := h.at' _ (fun _ _ => Nat.zero_le _)

theorem XsOwn.at' {w : World} {B : Nat} {len : Nat} {kid : Nat → X} {v : Value} {S : List Nat} (h : XsOwn w len kid v S) (hB : ∀ g ∈ S, B ≤ g) : XsAt B w len kid v := by
  rcases h with ⟨rfl, rfl, _⟩ | ⟨g, cap, l, SS, rfl, h2, h3, h4, h5, h6, h7⟩
  · exact .inl ⟨rfl, _, _, rfl⟩
  · refine XsB.of_own (own_base (B := B) h2 (fun g' hg' => ?_)) h3 (Nat.le_refl _) h5 (fun q hq => ?_)
    · simp only [Value.ownBlock, Option.some.injEq] at hg'
      subst hg'
      exact hB g (by rw [h6]; simp)
    obtain ⟨i, hi, rfl⟩ := List.mem_iff_getElem.1 hq
    obtain ⟨su, u, T, k1, k2, k3⟩ := h7 i (by omega)
    rw [List.getElem?_eq_getElem hi] at k1
    injection k1 with k1
    rw [k1]
    exact k3.at' _ (fun g' hg' => hB g' (by rw [h6]; exact List.mem_cons_of_mem _ (mem_flatX k2 hg')))
theorem XsOwn.at0 {w : World} {len : Nat} {kid : Nat → X} {v : Value} {S : List Nat} (h : XsOwn w len kid v S) : XsAt 0 w len kid v := h.at' (fun _ _ => Nat.zero_le _)

/-- The blocks are there. -/
theorem XsOwn.there {w : World} {len : Nat} {kid : Nat → X} {v : Value} {S : List Nat} (h : XsOwn w len kid v S) (hd : ∀ i, i < len → ∀ su u T, XOwn w (kid i) su u T → ∀ g ∈ T, g < w.heap.size) : ∀ g ∈ S, g < w.heap.size := by
  rcases h with ⟨_, _, rfl⟩ | ⟨g, cap, l, SS, rfl, h2, h3, h4, h5, rfl, h7⟩
  · intro g hg; simp at hg
  · intro g' hg'
    rcases List.mem_cons.1 hg' with rfl | hg'
    · exact (h2.lt _ rfl).2
    · obtain ⟨T, hT, hgT⟩ := List.mem_flatten.1 hg'
      obtain ⟨i, hi, rfl⟩ := List.mem_iff_getElem.1 hT
      obtain ⟨su, u, T', k1, k2, k3⟩ := h7 i (by omega)
      rw [List.getElem?_eq_getElem hi] at k2
      injection k2 with k2
      exact hd i (by omega) su u T' k3 g' (by rw [← k2]; exact hgT)
theorem XOwn.there {w : World} (t : X) : ∀ {sv v : Value} {S : List Nat}, XOwn w t sv v S → ∀ g ∈ S, g < w.heap.size := by
  induction t with
  | no => intro sv v S h; exact h.elim
  | mk op a n s set len kid ih =>
    intro sv v S h g hg
    obtain ⟨hset, S2, rfl, hr⟩ := h.parts
    rcases List.mem_append.1 hg with hg | hg
    · simp only [Option.mem_toList] at hg
      exact (World.ownsRow.lt hset g hg).2
    · exact (show XsOwn w len kid v S2 from hr).there (fun i _ su u T k => ih i k) g hg
theorem XsOwn.lt {w : World} {len : Nat} {kid : Nat → X} {v : Value} {S : List Nat} (h : XsOwn w len kid v S) : ∀ g ∈ S, g < w.heap.size := h.there (fun _ _ _ _ _ k => k.there)

theorem XsOwn.congr {w : World} {len : Nat} {kid kid' : Nat → X} {v : Value} {S : List Nat} (h : XsOwn w len kid v S) (he : ∀ i, i < len → kid i = kid' i) : XsOwn w len kid' v S := by
  rcases h with h0 | ⟨g, cap, l, SS, h1, h2, h3, h4, h5, h6, h7⟩
  · exact .inl h0
  · refine .inr ⟨g, cap, l, SS, h1, h2, h3, h4, fun i q hq => ?_, h6, fun i hi => ?_⟩
    · have hi : i < len := by have := (List.getElem?_eq_some_iff.1 hq).1; omega
      rw [h5 i q hq, he i hi]
    · obtain ⟨su, u, T, k1, k2, k3⟩ := h7 i hi
      exact ⟨su, u, T, by rw [k1, he i hi], k2, by rw [← he i hi]; exact k3⟩
end Go.Proofs.Ytgbfflpdpfgnbaa
