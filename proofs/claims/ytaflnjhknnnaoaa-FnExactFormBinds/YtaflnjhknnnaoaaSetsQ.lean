/- Plain facts on sets of numbers: flipped twice a set is as it was; with a number it has it, without it not. No conditions but that the list is a set. -/
import Derived.Test.YtaflnjhknnnaoaaSetsP
namespace Go.Proofs.Ytaflnjhknnnaoaa

/-- The same by recursion: each is above what went ahead of it. -/
def ascL : Int → List Int → Prop
  | _, [] => True
  | m, x :: r => m < x ∧ ascL x r

theorem asc_mono {m k : Int} {xs : List Int} (h : ascL m xs) (hk : k ≤ m) : ascL k xs := by
  cases xs with
  | nil => trivial
  | cons x r => exact ⟨by have := h.1; omega, h.2⟩
theorem asc_mem {m : Int} {xs : List Int} (h : ascL m xs) : ∀ x ∈ xs, m < x := by
  induction xs generalizing m with
  | nil => intro x hx; cases hx
  | cons y r ih =>
    intro x hx
    rcases List.mem_cons.1 hx with rfl | hx
    · exact h.1
    · have := ih h.2 x hx; have := h.1; omega

theorem asc_of (xs : List Int) (m : Int) (h : ∀ i, i < xs.length → m < xs.getD i 0 ∧ (0 < i → xs.getD (i - 1) 0 < xs.getD i 0)) : ascL m xs := by
  induction xs generalizing m with
  | nil => trivial
  | cons x r ih =>
    refine ⟨by simpa using (h 0 (by simp)).1, ih x fun i hi => ?_⟩
    have h1 := h (i + 1) (by simpa using hi)
    have h2 := h1.2 (by omega)
    simp only [Nat.add_sub_cancel, List.getD_cons_succ] at h2
    refine ⟨?_, fun h0 => ?_⟩
    · have : ∀ j, j ≤ i → j < r.length → x < r.getD j 0 := by
        intro j
        induction j with
        | zero =>
          intro _ hj
          have := (h 1 (by simp; omega)).2 (by omega)
          simpa using this
        | succ j ihj =>
          intro hj hl
          have a := ihj (by omega) (by omega)
          have b := (h (j + 2) (by simp; omega)).2 (by omega)
          simp only [Nat.add_one_sub_one, List.getD_cons_succ] at b
          omega
      exact this i (Nat.le_refl _) hi
    · obtain ⟨k, rfl⟩ : ∃ k, i = k + 1 := ⟨i - 1, by omega⟩
      simpa using h2

theorem asc_to (xs : List Int) (m : Int) (h : ascL m xs) : ∀ i, i < xs.length → m < xs.getD i 0 ∧ (0 < i → xs.getD (i - 1) 0 < xs.getD i 0) := by
  induction xs generalizing m with
  | nil => intro i hi; simp at hi
  | cons x r ih =>
    intro i hi
    match i with
    | 0 => exact ⟨by simpa using h.1, fun h0 => by omega⟩
    | i + 1 =>
      have hi' : i < r.length := by simpa using hi
      have := ih x h.2 i hi'
      have h1 := h.1
      refine ⟨by simp only [List.getD_cons_succ]; omega, fun _ => ?_⟩
      match i with
      | 0 => simpa using this.1
      | i + 1 => simpa using this.2 (by omega)

theorem set_asc (xs : List Int) : setB xs = true ↔ ascL (-1) xs := by
  constructor
  · intro h
    refine asc_of xs (-1) fun i hi => ?_
    have := set_at h i hi
    unfold standsB at this
    simp only [Bool.and_eq_true, Bool.or_eq_true, decide_eq_true_eq] at this
    exact ⟨by omega, fun h0 => this.2.resolve_left (by omega)⟩
  · intro h
    refine set_yes fun i hi => ?_
    have := asc_to xs (-1) h i hi
    unfold standsB
    simp only [Bool.and_eq_true, Bool.or_eq_true, decide_eq_true_eq]
    refine ⟨by omega, ?_⟩
    by_cases h0 : i = 0
    · exact .inl h0
    · exact .inr (this.2 (by omega))

/-- n put in where it belongs. -/
def insL : List Int → Int → List Int
  | [], n => [n]
  | x :: r, n => if x < n then x :: insL r n else n :: x :: r
theorem ins_place (xs : List Int) (n : Int) : xs.take (placeL xs n) ++ n :: xs.drop (placeL xs n) = insL xs n := by
  induction xs with
  | nil => rfl
  | cons x r ih =>
    unfold placeL insL
    split
    · simp [ih]
    · simp
theorem ins_mem (xs : List Int) (n : Int) : n ∈ insL xs n := by
  induction xs with
  | nil => simp [insL]
  | cons x r ih => unfold insL; split <;> simp [ih]
theorem ins_sub (xs : List Int) (n : Int) : ∀ x ∈ xs, x ∈ insL xs n := by
  induction xs with
  | nil => intro x hx; cases hx
  | cons y r ih =>
    intro x hx
    unfold insL
    split
    · rcases List.mem_cons.1 hx with rfl | hx
      · simp
      · exact List.mem_cons_of_mem _ (ih x hx)
    · exact List.mem_cons_of_mem _ hx
theorem ins_asc {m : Int} {xs : List Int} {n : Int} (h : ascL m xs) (hm : m < n) (hn : n ∉ xs) : ascL m (insL xs n) := by
  induction xs generalizing m with
  | nil => exact ⟨hm, trivial⟩
  | cons x r ih =>
    unfold insL
    have hx : n ≠ x := fun e => hn (by simp [e])
    split
    · rename_i hlt
      exact ⟨h.1, ih h.2 hlt (fun hr => hn (List.mem_cons_of_mem _ hr))⟩
    · exact ⟨hm, by omega, h.2⟩
theorem without_same (ys : List Int) (n : Int) (hy : n ∉ ys) : withoutL ys n = ys := by
  unfold withoutL
  rw [List.filter_eq_self]
  intro x hx
  have : x ≠ n := fun e => hy (by rw [← e]; exact hx)
  simpa using this
theorem without_cons (x n : Int) (r : List Int) (h : x ≠ n) : withoutL (x :: r) n = x :: withoutL r n := by
  unfold withoutL
  rw [List.filter_cons, if_pos (by simpa using h)]
theorem without_head (n : Int) (r : List Int) : withoutL (n :: r) n = withoutL r n := by
  unfold withoutL
  rw [List.filter_cons, if_neg (by simp)]
theorem without_ins {xs : List Int} {n : Int} (hn : n ∉ xs) : withoutL (insL xs n) n = xs := by
  induction xs with
  | nil => simp [insL, withoutL]
  | cons x r ih =>
    have hx : x ≠ n := fun e => hn (by simp [e])
    have hr : n ∉ r := fun hr => hn (List.mem_cons_of_mem _ hr)
    unfold insL
    split
    · rw [without_cons x n _ hx, ih hr]
    · rw [without_head, without_same _ _ hn]
theorem without_mem (xs : List Int) (n x : Int) : x ∈ withoutL xs n ↔ x ∈ xs ∧ x ≠ n := by
  unfold withoutL
  rw [List.mem_filter]
  simp
theorem without_asc {m : Int} {xs : List Int} (n : Int) (h : ascL m xs) : ascL m (withoutL xs n) := by
  induction xs generalizing m with
  | nil => trivial
  | cons x r ih =>
    by_cases hx : x = n
    · subst hx
      rw [without_head]
      exact asc_mono (ih h.2) (by have := h.1; omega)
    · rw [without_cons x n r hx]
      exact ⟨h.1, ih h.2⟩
theorem ins_without {m : Int} {xs : List Int} {n : Int} (h : ascL m xs) (hn : n ∈ xs) : insL (withoutL xs n) n = xs := by
  induction xs generalizing m with
  | nil => cases hn
  | cons x r ih =>
    by_cases hx : x = n
    · subst hx
      have hnr : x ∉ r := fun hr => by have := asc_mem h.2 x hr; omega
      rw [without_head, without_same _ _ hnr]
      cases r with
      | nil => rfl
      | cons y t =>
        unfold insL
        rw [if_neg (by have := h.2.1; omega)]
    · have hr : n ∈ r := by
        rcases List.mem_cons.1 hn with e | hr
        · exact absurd e.symm hx
        · exact hr
      have hlt := asc_mem h.2 n hr
      rw [without_cons x n r hx]
      unfold insL
      rw [if_pos hlt, ih h.2 hr]

theorem with_ins {xs : List Int} {n : Int} (h : hasB xs n = false) : withL xs n = insL xs n := by rw [with_no h, ins_place]
theorem has_not {xs : List Int} {n : Int} (h : hasB xs n = false) : n ∉ xs := fun e => by rw [(has_iff xs n).2 e] at h; cases h
theorem not_has {xs : List Int} {n : Int} (h : n ∉ xs) : hasB xs n = false := by
  cases e : hasB xs n with
  | false => rfl
  | true => exact absurd ((has_iff xs n).1 e) h

theorem flip_set {s : List Int} {n : Int} (h : setB s = true) (hn : 0 ≤ n) : setB (flipL s n) = true := by
  rw [set_asc] at h ⊢
  cases e : hasB s n with
  | true => rw [flip_yes e]; exact without_asc n h
  | false => rw [flip_no e, with_ins e]; exact ins_asc h (by omega) (has_not e)
theorem flip_flip {s : List Int} {n : Int} (h : setB s = true) : flipL (flipL s n) n = s := by
  rw [set_asc] at h
  cases e : hasB s n with
  | true =>
    have e2 : hasB (withoutL s n) n = false := not_has fun hm => ((without_mem s n n).1 hm).2 rfl
    rw [flip_yes e, flip_no e2, with_ins e2, ins_without h ((has_iff s n).1 e)]
  | false =>
    have e2 : hasB (insL s n) n = true := (has_iff _ _).2 (ins_mem s n)
    rw [flip_no e, with_ins e, flip_yes e2, without_ins (has_not e)]
theorem with_has (s : List Int) (n : Int) : withinB [n] (withL s n) = true := by
  have : hasB (withL s n) n = true := by
    cases e : hasB s n with
    | true => rw [with_yes e]; exact e
    | false => rw [with_ins e]; exact (has_iff _ _).2 (ins_mem s n)
  simp [withinB, this]
theorem without_has (s : List Int) (n : Int) : withinB [n] (withoutL s n) = false := by
  have : hasB (withoutL s n) n = false := not_has fun hm => ((without_mem s n n).1 hm).2 rfl
  simp [withinB, this]
theorem without_within (s : List Int) (n : Int) : withinB (withoutL s n) s = true := by
  unfold withinB
  rw [List.all_eq_true]
  intro x hx
  exact (has_iff _ _).2 ((without_mem s n x).1 hx).1
theorem within_with (s : List Int) (n : Int) : withinB s (withL s n) = true := by
  unfold withinB
  rw [List.all_eq_true]
  intro x hx
  cases e : hasB s n with
  | true => rw [with_yes e]; exact (has_iff _ _).2 hx
  | false => rw [with_ins e]; exact (has_iff _ _).2 (ins_sub s n x hx)
end Go.Proofs.Ytaflnjhknnnaoaa
