/- How many values there are at each place of a function, plainly, whatever the order in which places are come to. No conditions. -/
import Derived.Test.YtkbbfgfmlilfbaaDoorFun
namespace Go.Proofs.YtkbbfgfmlilfbaaDoor
open Go.ChangeShapes Go.WideShapes Go.ChangeAt Go.RowKit

/-- How many values a place takes. -/
def takesO (q : O3) : Int :=
  if q.c = 5 ∨ q.c = 8 then q.m
  else if q.c = 7 ∨ q.c = 10 ∨ q.c = 11 ∨ q.c = 18 ∨ q.c = 9 ∨ q.c = 17 then 1
  else if q.c = 6 ∨ (12 ≤ q.c ∧ q.c ≤ 16) ∨ q.c = 20 then 2 else 0
/-- How many values a place puts. -/
def putsO (q : O3) : Int :=
  if (1 ≤ q.c ∧ q.c ≤ 6) ∨ q.c = 8 ∨ q.c = 9 ∨ (12 ≤ q.c ∧ q.c ≤ 17) ∨ q.c = 20 then 1 else 0
/-- What may not be of a place with d values. -/
def badO (d : Int) (q : O3) : Bool := decide (d - 1 < takesO q) || (decide (q.c = 2) && decide (d ≤ q.n)) || (decide (q.c = 7) && !decide (d = 2))
/-- How many values there are behind a place. -/
def nextO (d : Int) (q : O3) : Int := d - takesO q + putsO q
/-- The places that come behind a place. -/
def succO (q : O3) (k : Int) : List Int :=
  if q.c = 7 ∨ q.c = 21 then [] else if q.c = 19 then [q.n] else if q.c = 18 then [q.n, k + 1] else if q.c = 10 ∨ q.c = 11 then [q.m, k + 1] else [k + 1]
/-- A place is come to with so many values. -/
inductive Rch (f : Fu) : Int → Int → Prop
  | base : Rch f 0 1
  | step {k d s : Int} : Rch f k d → 0 ≤ k → k < f.len → d ≤ 60 → badO d (f.op k.toNat) = false → s ∈ succO (f.op k.toNat) k → Rch f s (nextO d (f.op k.toNat))
/-- All places that are come to are right. -/
def DepOk (f : Fu) : Prop := ∀ k d, Rch f k d → (0 ≤ k ∧ k < f.len ∧ d ≤ 60 ∧ badO d (f.op k.toNat) = false) ∧ ∀ d', Rch f k d' → d' = d
/-- The list of how many values there are. -/
def DepL (f : Fu) (D : List Int) : Prop := D.length = f.len ∧ ∀ k : Nat, k < f.len → (∃ d, Rch f k d ∧ D[k]? = some d) ∨ ((∀ d, ¬ Rch f k d) ∧ D[k]? = some (-1))
theorem DepL.same {f : Fu} {D D' : List Int} (hk : DepOk f) (h : DepL f D) (h' : DepL f D') : D = D' := by
  apply List.ext_getElem?
  intro k
  by_cases hl : k < f.len
  · rcases h.2 k hl with ⟨d, a1, a2⟩ | ⟨a1, a2⟩ <;> rcases h'.2 k hl with ⟨d', b1, b2⟩ | ⟨b1, b2⟩
    · rw [a2, b2, (hk k d a1).2 d' b1]
    · exact absurd a1 (b1 d)
    · exact absurd b1 (a1 d')
    · rw [a2, b2]
  · rw [List.getElem?_eq_none (by rw [h.1]; omega), List.getElem?_eq_none (by rw [h'.1]; omega)]

/-- What a work that comes to places holds: D how many values, T what is left to do, ok. -/
structure WL (f : Fu) (D T : List Int) (ok : Bool) : Prop where
  len : D.length = f.len
  val : ∀ (k : Nat) (d : Int), D[k]? = some d → d = -1 ∨ (0 ≤ d ∧ d ≤ 60 ∧ Rch f k d)
  todo : ∀ t ∈ T, ∃ (k : Nat) (d : Int), t = k ∧ D[k]? = some d ∧ 0 ≤ d
  bad : ok = false → ¬ DepOk f
/-- A place is done: what comes behind it is told. -/
def DoneAt (f : Fu) (D : List Int) (k : Nat) (d : Int) : Prop := badO d (f.op k) = false ∧ ∀ s ∈ succO (f.op k) k, ∃ j : Nat, s = j ∧ D[j]? = some (nextO d (f.op k))
/-- All that is told and is not left to do is done, but for those of E. -/
def Done (f : Fu) (D T : List Int) (E : Nat → Prop) : Prop := ∀ (k : Nat) (d : Int), D[k]? = some d → 0 ≤ d → (k : Int) ∉ T → ¬ E k → DoneAt f D k d
/-- A place is come to with so many values. -/
def goL (s d : Int) (st : List Int × List Int × Bool) : List Int × List Int × Bool :=
  if (st.1.length : Int) ≤ s ∨ 60 < d then (st.1, st.2.1, false)
  else if st.1.getD s.toNat 0 < 0 then (st.1.set s.toNat d, st.2.1 ++ [s], st.2.2)
  else if st.1.getD s.toNat 0 ≠ d then (st.1, st.2.1, false)
  else st
/-- What is told stays. -/
def More (D D' : List Int) : Prop := D'.length = D.length ∧ ∀ (k : Nat) (d : Int), D[k]? = some d → 0 ≤ d → D'[k]? = some d
theorem More.refl (D : List Int) : More D D := ⟨rfl, fun _ _ h _ => h⟩
theorem More.trans {D D1 D2 : List Int} (h : More D D1) (k : More D1 D2) : More D D2 := ⟨k.1.trans h.1, fun j d hj h0 => k.2 j d (h.2 j d hj h0) h0⟩
theorem DoneAt.more {f : Fu} {D D' : List Int} {k : Nat} {d : Int} (h : DoneAt f D k d) (hm : More D D') (h0 : 0 ≤ nextO d (f.op k)) : DoneAt f D' k d :=
  ⟨h.1, fun s hs => by obtain ⟨j, e, hj⟩ := h.2 s hs; exact ⟨j, e, hm.2 j _ hj h0⟩⟩
/-- A place that is right has no less than one value behind it. -/
theorem next_pos {d : Int} {q : O3} (h : badO d q = false) : 0 ≤ nextO d q := by
  unfold badO at h
  simp only [Bool.or_eq_false_iff, decide_eq_false_iff_not] at h
  have h1 := h.1.1
  have h2 : 0 ≤ putsO q := by unfold putsO; split <;> omega
  unfold nextO
  omega
/-- What coming to a place does. -/
theorem goL_wl {f : Fu} {D T : List Int} {ok : Bool} (h : WL f D T ok) {s d : Int} (hr : Rch f s d) (hs : 0 ≤ s) (hd : 0 ≤ d) :
    WL f (goL s d (D, T, ok)).1 (goL s d (D, T, ok)).2.1 (goL s d (D, T, ok)).2.2 ∧ More D (goL s d (D, T, ok)).1 ∧ ((goL s d (D, T, ok)).2.2 = true → ok = true ∧ (goL s d (D, T, ok)).1[s.toNat]? = some d) ∧
      (∀ t ∈ T, t ∈ (goL s d (D, T, ok)).2.1) ∧ (∀ (k : Nat) (x : Int), (goL s d (D, T, ok)).1[k]? = some x → 0 ≤ x → D[k]? = some x ∨ (k : Int) ∈ (goL s d (D, T, ok)).2.1) := by
  obtain ⟨n, rfl⟩ : ∃ n : Nat, s = n := ⟨s.toNat, by omega⟩
  unfold goL
  simp only [Int.toNat_natCast]
  split
  · rename_i hx
    refine ⟨⟨h.len, h.val, h.todo, fun _ hk => ?_⟩, More.refl _, (fun e => by cases e), fun t ht => ht, fun k x hk _ => .inl hk⟩
    have := (hk n d hr).1
    rw [h.len] at hx
    omega
  · rename_i hx
    have hn : n < D.length := by omega
    have hg : D[n]? = some D[n] := List.getElem?_eq_getElem hn
    have hgd : D.getD n 0 = D[n] := by rw [List.getD_eq_getElem?_getD, hg]; rfl
    split
    · rename_i h1
      rw [hgd] at h1
      have hset : ∀ (k : Nat) (x : Int), (D.set n d)[k]? = some x → (k = n ∧ x = d) ∨ (k ≠ n ∧ D[k]? = some x) := fun k x hk => by
        by_cases e : k = n
        · subst e
          rw [List.getElem?_set_self hn] at hk
          injection hk with hk
          exact .inl ⟨rfl, hk.symm⟩
        · rw [List.getElem?_set_ne (fun e2 => e e2.symm)] at hk
          exact .inr ⟨e, hk⟩
      have hmore : More D (D.set n d) := ⟨by simp, fun k x hk h0 => by
        by_cases e : k = n
        · subst e
          rw [hg] at hk
          injection hk with hk
          omega
        · rw [List.getElem?_set_ne (fun e2 => e e2.symm)]; exact hk⟩
      refine ⟨⟨by rw [List.length_set]; exact h.len, fun k x hk => ?_, fun t ht => ?_, h.bad⟩, hmore, fun e => ⟨e, List.getElem?_set_self hn⟩, fun t ht => List.mem_append_left _ ht, fun k x hk h0 => ?_⟩
      · rcases hset k x hk with ⟨rfl, rfl⟩ | ⟨_, hk'⟩
        · exact .inr ⟨hd, by omega, hr⟩
        · exact h.val k x hk'
      · rcases List.mem_append.1 ht with ht | ht
        · obtain ⟨k, x, e, hk, h0⟩ := h.todo t ht
          exact ⟨k, x, e, hmore.2 k x hk h0, h0⟩
        · simp only [List.mem_singleton] at ht
          exact ⟨n, d, ht, List.getElem?_set_self hn, hd⟩
      · rcases hset k x hk with ⟨rfl, rfl⟩ | ⟨_, hk'⟩
        · exact .inr (List.mem_append_right _ (by simp))
        · exact .inl hk'
    · rename_i h1
      rw [hgd] at h1
      split
      · rename_i h2
        rw [hgd] at h2
        refine ⟨⟨h.len, h.val, h.todo, fun _ hk => ?_⟩, More.refl _, (fun e => by cases e), fun t ht => ht, fun k x hk _ => .inl hk⟩
        rcases h.val n _ hg with h3 | ⟨_, _, h3⟩
        · omega
        · exact h2 ((hk n d hr).2 _ h3)
      · rename_i h2
        rw [hgd] at h2
        have h2' : D[n] = d := Decidable.not_not.1 h2
        exact ⟨h, More.refl _, fun e => ⟨e, by rw [hg, h2']⟩, fun t ht => ht, fun k x hk _ => .inl hk⟩
/-- When nothing is left to do all is right, and D is the list. -/
theorem WL.end {f : Fu} {D : List Int} (h : WL f D [] true) (h0 : D[0]? = some 1) (hd : Done f D [] (fun _ => False)) : DepOk f ∧ DepL f D := by
  have key : ∀ k d, Rch f k d → ∃ n : Nat, k = n ∧ D[n]? = some d ∧ 0 ≤ d := by
    intro k d hr
    induction hr with
    | base => exact ⟨0, rfl, h0, by omega⟩
    | @step k d s hr _ _ _ hb hs ih =>
      obtain ⟨n, rfl, hn, hp⟩ := ih
      have hda := hd n d hn hp (by simp) (fun h => h)
      rw [Int.toNat_natCast] at hb hs ⊢
      obtain ⟨j, e, hj⟩ := hda.2 s hs
      exact ⟨j, e, hj, next_pos hda.1⟩
  refine ⟨fun k d hr => ?_, h.len, fun k hk => ?_⟩
  · obtain ⟨n, rfl, hn, hp⟩ := key k d hr
    have hnl := (List.getElem?_eq_some_iff.1 hn).1
    rw [h.len] at hnl
    have hda := hd n d hn hp (by simp) (fun h => h)
    refine ⟨⟨by omega, by omega, ?_, by rw [Int.toNat_natCast]; exact hda.1⟩, fun d' hr' => ?_⟩
    · rcases h.val n d hn with h1 | ⟨_, h1, _⟩ <;> omega
    · obtain ⟨n', e, hn', _⟩ := key _ d' hr'
      have : n = n' := by omega
      subst this
      rw [hn] at hn'
      injection hn' with hn'
      exact hn'.symm
  · have hkl : k < D.length := by rw [h.len]; exact hk
    have hg : D[k]? = some D[k] := List.getElem?_eq_getElem hkl
    rcases h.val k _ hg with h1 | ⟨h1, _, h2⟩
    · refine .inr ⟨fun d hr => ?_, by rw [hg, h1]⟩
      obtain ⟨n, e, hn, hp⟩ := key _ d hr
      have : n = k := by omega
      subst this
      rw [hg] at hn
      injection hn with hn
      omega
    · exact .inl ⟨_, h2, hg⟩
/-- A place that is wrong is come to. -/
theorem WL.wrong {f : Fu} {k : Nat} {d : Int} (hr : Rch f k d) (hb : badO d (f.op k) = true) : ¬ DepOk f := fun h => by
  have := (h k d hr).1.2.2.2
  rw [Int.toNat_natCast, hb] at this
  cases this
end Go.Proofs.YtkbbfgfmlilfbaaDoor
