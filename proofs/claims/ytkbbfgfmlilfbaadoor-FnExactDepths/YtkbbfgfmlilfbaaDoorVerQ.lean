/- How the work of depths begins, goes on and gets smaller, plainly. No conditions. -/
import Derived.Test.YtkbbfgfmlilfbaaDoorVerP
import Derived.Test.YtkbbfgfmlilfbaaDoorFunOkP
namespace Go.Proofs.YtkbbfgfmlilfbaaDoor
open Go.ChangeShapes Go.WideShapes Go.ChangeAt Go.RowKit

/-- What is left: each place that is not told counts twice. -/
def muL (D T : List Int) : Nat := 2 * D.countP (fun d => decide (d < 0)) + T.length
theorem goL_mu {s d : Int} (hd : 0 ≤ d) (D T : List Int) (ok : Bool) : muL (goL s d (D, T, ok)).1 (goL s d (D, T, ok)).2.1 ≤ muL D T := by
  unfold goL
  split
  · exact Nat.le_refl _
  split
  · rename_i hx h1
    simp only at hx h1 ⊢
    by_cases hl : s.toNat < D.length
    · have hg : D.getD s.toNat 0 = D[s.toNat] := by rw [List.getD_eq_getElem?_getD, List.getElem?_eq_getElem hl]; rfl
      rw [hg] at h1
      have hc := List.countP_set (p := fun d => decide (d < 0)) (l := D) (i := s.toNat) (a := d) hl
      have hpos : 0 < D.countP (fun d => decide (d < 0)) := List.countP_pos_iff.2 ⟨D[s.toNat], List.getElem_mem hl, by simpa using h1⟩
      unfold muL
      rw [hc, if_pos (by simpa using h1), if_neg (by simpa using hd), List.length_append]
      simp only [List.length_cons, List.length_nil]
      omega
    · exfalso
      rw [List.getD_eq_getElem?_getD, List.getElem?_eq_none (by omega)] at h1
      simp at h1
  split
  · exact Nat.le_refl _
  · exact Nat.le_refl _
/-- What a right function's numbers are. -/
theorem ops_right {nf : Nat} {kid : Nat → Fu} (h : FunsP nf kid) {i : Nat} (hi : i < nf) : (1 ≤ (kid i).len ∧ (kid i).len ≤ 3000) ∧ ∀ k, k < (kid i).len → 0 ≤ takesO ((kid i).op k) ∧ ∀ s ∈ succO ((kid i).op k) k, 0 ≤ s := by
  obtain ⟨h1, h2, h3⟩ := (h.2.2 i hi).2
  refine ⟨h1, fun k hk => ?_⟩
  have ho := h3 k hk
  generalize hq : (kid i).op k = q at ho ⊢
  unfold opOkF at ho
  simp only [Bool.and_eq_true] at ho
  obtain ⟨⟨_, hn⟩, hm⟩ := ho
  have bel : ∀ z e, belB z e = true → 0 ≤ z := fun z e hb => by unfold belB at hb; simp only [Bool.and_eq_true, decide_eq_true_eq] at hb; exact hb.1
  refine ⟨?_, ?_⟩
  · unfold takesO
    split
    · rename_i hc
      unfold mOkF at hm
      rcases hc with hc | hc
      · rw [if_pos hc] at hm
        unfold nOkF at hn
        rw [hc] at hn
        simp only [show ¬ ((5 : Int) = 1 ∨ (5 : Int) = 11) from by omega, show ¬ ((5 : Int) = 2) from by omega, show ¬ ((5 : Int) = 3) from by omega, show ¬ ((5 : Int) = 4) from by omega, if_false, if_true, Bool.and_eq_true] at hn
        have hb := hn.2
        unfold belB at hb
        simp only [Bool.and_eq_true, decide_eq_true_eq] at hb
        have h4 := (h.2.2 q.n.toNat (by omega)).1
        have := bel _ _ h4
        simp only [beq_iff_eq] at hm
        omega
      · rw [if_neg (by omega), if_pos hc] at hm
        exact bel _ _ hm
    · split
      · omega
      · split <;> omega
  · intro s hs
    unfold succO at hs
    split at hs
    · simp at hs
    · split at hs
      · rename_i _ hc
        simp only [List.mem_singleton] at hs
        unfold nOkF at hn
        rw [if_neg (by omega), if_neg (by omega), if_neg (by omega), if_neg (by omega), if_neg (by omega), if_neg (by omega), if_pos (.inr hc)] at hn
        rw [hs]; exact bel _ _ hn
      · split at hs
        · rename_i _ _ hc
          simp only [List.mem_cons, List.not_mem_nil, or_false] at hs
          rcases hs with hs | hs
          · unfold nOkF at hn
            rw [if_neg (by omega), if_neg (by omega), if_neg (by omega), if_neg (by omega), if_neg (by omega), if_neg (by omega), if_pos (.inl hc)] at hn
            rw [hs]; exact bel _ _ hn
          · omega
        · split at hs
          · rename_i _ _ _ hc
            simp only [List.mem_cons, List.not_mem_nil, or_false] at hs
            rcases hs with hs | hs
            · unfold mOkF at hm
              rw [if_neg (by omega), if_neg (by omega), if_pos hc] at hm
              rw [hs]; exact bel _ _ hm
            · omega
          · simp only [List.mem_singleton] at hs
            omega
/-- A work at its begin. -/
theorem wl_none (f : Fu) : WL f (List.replicate f.len (-1)) [] true :=
  ⟨List.length_replicate, fun k d h => .inl (by have := List.getElem?_eq_some_iff.1 h; obtain ⟨_, e⟩ := this; rw [List.getElem_replicate] at e; exact e.symm), fun t ht => by simp at ht, fun e => by cases e⟩
theorem go_first {f : Fu} (h1 : 1 ≤ f.len) : goL 0 1 (List.replicate f.len (-1), [], true) = ((List.replicate f.len (-1)).set 0 1, [0], true) := by
  unfold goL
  rw [if_neg (by simp; omega), if_pos (by
    show (List.replicate f.len (-1 : Int)).getD 0 0 < 0
    rw [List.getD_eq_getElem?_getD, List.getElem?_replicate, if_pos (by omega)]
    decide)]
  rfl
/-- What stands between rounds. -/
def Rnd (f : Fu) (D T : List Int) (ok : Bool) : Prop := WL f D T ok ∧ (ok = true → D[0]? = some 1 ∧ Done f D T (fun _ => False))
theorem rnd_first {f : Fu} (h1 : 1 ≤ f.len) : Rnd f ((List.replicate f.len (-1)).set 0 1) [0] true := by
  have h := goL_wl (wl_none f) (s := 0) (d := 1) Rch.base (by omega) (by omega)
  rw [go_first h1] at h
  obtain ⟨a1, a2, a3, a4, a5⟩ := h
  refine ⟨a1, fun _ => ⟨(a3 rfl).2, fun k d hk h0 hn _ => ?_⟩⟩
  rcases a5 k d hk h0 with h2 | h2
  · rw [List.getElem?_replicate] at h2
    split at h2
    · injection h2 with h2; omega
    · cases h2
  · exact absurd h2 hn
theorem fold_wl {f : Fu} {k : Nat} {d : Int} (hr : Rch f k d) (hk : k < f.len) (hd : d ≤ 60) (hb : badO d (f.op k) = false) : ∀ (S : List Int), (∀ s ∈ S, s ∈ succO (f.op k) k ∧ 0 ≤ s) → ∀ (D T : List Int) (ok : Bool), WL f D T ok →
    WL f (S.foldl (fun st s => goL s (nextO d (f.op k)) st) (D, T, ok)).1 (S.foldl (fun st s => goL s (nextO d (f.op k)) st) (D, T, ok)).2.1 (S.foldl (fun st s => goL s (nextO d (f.op k)) st) (D, T, ok)).2.2 ∧
    More D (S.foldl (fun st s => goL s (nextO d (f.op k)) st) (D, T, ok)).1 ∧
    ((S.foldl (fun st s => goL s (nextO d (f.op k)) st) (D, T, ok)).2.2 = true → ok = true ∧ ∀ s ∈ S, (S.foldl (fun st s => goL s (nextO d (f.op k)) st) (D, T, ok)).1[s.toNat]? = some (nextO d (f.op k))) ∧
    (∀ t ∈ T, t ∈ (S.foldl (fun st s => goL s (nextO d (f.op k)) st) (D, T, ok)).2.1) ∧
    (∀ (j : Nat) (x : Int), (S.foldl (fun st s => goL s (nextO d (f.op k)) st) (D, T, ok)).1[j]? = some x → 0 ≤ x → D[j]? = some x ∨ (j : Int) ∈ (S.foldl (fun st s => goL s (nextO d (f.op k)) st) (D, T, ok)).2.1) ∧
    muL (S.foldl (fun st s => goL s (nextO d (f.op k)) st) (D, T, ok)).1 (S.foldl (fun st s => goL s (nextO d (f.op k)) st) (D, T, ok)).2.1 ≤ muL D T := by
  intro S
  induction S with
  | nil => intro _ D T ok h; exact ⟨h, More.refl _, fun e => ⟨e, fun s hs => by simp at hs⟩, fun t ht => ht, fun j x hj _ => .inl hj, Nat.le_refl _⟩
  | cons s S ih =>
    intro hS D T ok h
    have hs := hS s (by simp)
    have hrs : Rch f s (nextO d (f.op k)) := by
      have := Rch.step hr (by omega) (by omega) hd (by rw [Int.toNat_natCast]; exact hb) (s := s) (by rw [Int.toNat_natCast]; exact hs.1)
      rwa [Int.toNat_natCast] at this
    obtain ⟨a1, a2, a3, a4, a5⟩ := goL_wl h hrs hs.2 (next_pos hb)
    have a6 := goL_mu (s := s) (next_pos hb) D T ok
    simp only [List.foldl_cons]
    generalize goL s (nextO d (f.op k)) (D, T, ok) = st at *
    obtain ⟨D1, T1, ok1⟩ := st
    simp only at a1 a2 a3 a4 a5 a6
    obtain ⟨b1, b2, b3, b4, b5, b6⟩ := ih (fun s' hs' => hS s' (by simp [hs'])) D1 T1 ok1 a1
    refine ⟨b1, a2.trans b2, fun e => ?_, fun t ht => b4 t (a4 t ht), fun j x hj h0 => ?_, Nat.le_trans b6 a6⟩
    · obtain ⟨c1, c2⟩ := b3 e
      obtain ⟨c3, c4⟩ := a3 c1
      refine ⟨c3, fun s' hs' => ?_⟩
      rcases List.mem_cons.1 hs' with rfl | hs'
      · exact b2.2 _ _ c4 (next_pos hb)
      · exact c2 s' hs'
    · rcases b5 j x hj h0 with c1 | c1
      · rcases a5 j x c1 h0 with c2 | c2
        · exact .inl c2
        · exact .inr (b4 _ c2)
      · exact .inr c1
/-- A work goes on from a place. -/
def oneL (q : O3) (k d : Int) (st : List Int × List Int × Bool) : List Int × List Int × Bool :=
  if badO d q = true then (st.1, st.2.1, false) else (succO q k).foldl (fun st s => goL s (nextO d q) st) st
/-- A round: the last one of what is left to do is gone on from. -/
theorem rnd_round {f : Fu} {D T : List Int} {t : Int} (h : Rnd f D (T ++ [t]) true) (hp : ∀ k, k < f.len → ∀ s ∈ succO (f.op k) k, 0 ≤ s) :
    ∃ (k : Nat) (d : Int), t = k ∧ k < f.len ∧ D[k]? = some d ∧ 0 ≤ d ∧ d ≤ 60 ∧ Rnd f (oneL (f.op k) k d (D, T, true)).1 (oneL (f.op k) k d (D, T, true)).2.1 (oneL (f.op k) k d (D, T, true)).2.2 ∧ muL (oneL (f.op k) k d (D, T, true)).1 (oneL (f.op k) k d (D, T, true)).2.1 < muL D (T ++ [t]) := by
  obtain ⟨hw, hd⟩ := h
  obtain ⟨h0, hdn⟩ := hd rfl
  obtain ⟨k, d, e, hk, hd0⟩ := hw.todo t (by simp)
  have hkl : k < f.len := by have := (List.getElem?_eq_some_iff.1 hk).1; rw [hw.len] at this; exact this
  obtain ⟨hd60, hr⟩ : d ≤ 60 ∧ Rch f k d := by
    rcases hw.val k d hk with h1 | ⟨_, h1, h2⟩
    · omega
    · exact ⟨h1, h2⟩
  have hw' : WL f D T true := ⟨hw.len, hw.val, fun t ht => hw.todo t (by simp [ht]), hw.bad⟩
  have hmu : muL D T < muL D (T ++ [t]) := by unfold muL; rw [List.length_append]; simp
  refine ⟨k, d, e, hkl, hk, hd0, hd60, ?_⟩
  unfold oneL
  cases hb : badO d (f.op k) with
  | true =>
    rw [if_pos rfl]
    exact ⟨⟨⟨hw.len, hw.val, hw'.todo, fun _ => WL.wrong hr hb⟩, fun e => by cases e⟩, hmu⟩
  | false =>
    rw [if_neg (by simp)]
    obtain ⟨b1, b2, b3, b4, b5, b6⟩ := fold_wl hr hkl hd60 hb (succO (f.op k) k) (fun s hs => ⟨hs, hp k hkl s hs⟩) D T true hw'
    generalize (succO (f.op k) k).foldl (fun st s => goL s (nextO d (f.op k)) st) (D, T, true) = st at *
    obtain ⟨D1, T1, ok1⟩ := st
    simp only at b1 b2 b3 b4 b5 b6 ⊢
    refine ⟨⟨b1, fun e1 => ⟨b2.2 0 1 h0 (by omega), fun j x hj hx0 hn _ => ?_⟩⟩, Nat.lt_of_le_of_lt b6 hmu⟩
    obtain ⟨_, b3'⟩ := b3 e1
    by_cases hjk : j = k
    · subst hjk
      have hxd : x = d := by
        have := b2.2 j d hk hd0
        rw [hj] at this
        injection this
      subst hxd
      refine ⟨hb, fun s hs => ?_⟩
      have hs0 := hp j hkl s hs
      exact ⟨s.toNat, by omega, b3' s hs⟩
    · rcases b5 j x hj hx0 with h1 | h1
      · have hda := hdn j x h1 hx0 (fun hm => by
          rcases List.mem_append.1 hm with hm | hm
          · exact hn (b4 _ hm)
          · simp only [List.mem_singleton] at hm
            rw [e] at hm
            omega) (fun h => h)
        exact hda.more b2 (next_pos hda.1)
      · exact absurd h1 hn
/-- At the end. -/
theorem rnd_end {f : Fu} {D T : List Int} {ok : Bool} (h : Rnd f D T ok) (he : ok = false ∨ T = []) : (ok = true ∧ DepOk f ∧ DepL f D) ∨ (ok = false ∧ ¬ DepOk f) := by
  cases ok with
  | false => exact .inr ⟨rfl, h.1.bad rfl⟩
  | true =>
    have hT : T = [] := by
      rcases he with e | e
      · cases e
      · exact e
    subst hT
    obtain ⟨a, b⟩ := h.2 rfl
    exact .inl ⟨rfl, h.1.end a b⟩
end Go.Proofs.YtkbbfgfmlilfbaaDoor
