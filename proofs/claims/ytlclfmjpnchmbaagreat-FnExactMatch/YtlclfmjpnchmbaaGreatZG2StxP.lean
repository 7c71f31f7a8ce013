/- Rows of what is written that are being built, each owned. No conditions. -/
import Derived.Test.YtlclfmjpnchmbaaGreatZG1StxOwn
import Derived.Test.YtlclfmjpnchmbaaGreatZG0Stx
import Derived.Deep.AppendLies
namespace Go.Proofs.YtlclfmjpnchmbaaGreat
open Go.ChangeShapes Go.WideShapes Go.ChangeAt Go.RowKit

/-- The rows so far: each is owned, in blocks from B on. -/
structure XAcc (B : Nat) (w : World) (kid : Nat → X) (l : List XR) (SS : List (List Nat)) : Prop where
  len : SS.length = l.length
  ks : XKs kid l
  each : ∀ i, i < l.length → ∃ su u T, l[i]? = some (kid i, su, u) ∧ SS[i]? = some T ∧ XOwn w (kid i) su u T
  nd : SS.flatten.Nodup
  ge : ∀ x ∈ SS.flatten, B ≤ x
theorem XAcc.nil (B : Nat) (w : World) (kid : Nat → X) : XAcc B w kid [] [] := ⟨rfl, XKs.nil _, fun i hi => by simp at hi, by simp, by simp⟩
theorem XAcc.lt {B : Nat} {w : World} {kid : Nat → X} {l : List XR} {SS : List (List Nat)} (h : XAcc B w kid l SS) : ∀ x ∈ SS.flatten, x < w.heap.size := by
  intro x hx
  obtain ⟨T, hT, hxT⟩ := List.mem_flatten.1 hx
  obtain ⟨i, hi, rfl⟩ := List.mem_iff_getElem.1 hT
  obtain ⟨su, u, T', k1, k2, k3⟩ := h.each i (by rw [← h.len]; exact hi)
  rw [List.getElem?_eq_getElem hi] at k2
  injection k2 with k2
  exact k3.there _ x (by rw [← k2]; exact hxT)
theorem XAcc.same {B : Nat} {w w' : World} {kid : Nat → X} {l : List XR} {SS : List (List Nat)} (h : XAcc B w kid l SS) (hs : ∀ x, B ≤ x → x < w.heap.size → w'.heap[x]? = w.heap[x]?) : XAcc B w' kid l SS :=
  ⟨h.len, h.ks, fun i hi => by
    obtain ⟨su, u, T, k1, k2, k3⟩ := h.each i hi
    exact ⟨su, u, T, k1, k2, k3.same _ (fun x hx => hs x (h.ge x (mem_flatX k2 hx)) (h.lt x (mem_flatX k2 hx)))⟩, h.nd, h.ge⟩
theorem XAcc.snoc {B : Nat} {w : World} {kid : Nat → X} {l : List XR} {SS : List (List Nat)} (h : XAcc B w kid l SS) {su u : Value} {T : List Nat} (hv : XOwn w (kid l.length) su u T) (hn : T.Nodup) (hge : ∀ x ∈ T, B ≤ x) (hd : ∀ x ∈ T, x ∉ SS.flatten) : XAcc B w kid (l ++ [(kid l.length, su, u)]) (SS ++ [T]) := by
  refine ⟨by simp [h.len], h.ks.snoc (su, u), fun i hi => ?_, ?_, ?_⟩
  · rcases Nat.lt_or_ge i l.length with h1 | h1
    · obtain ⟨su', u', T', k1, k2, k3⟩ := h.each i h1
      exact ⟨su', u', T', by rw [List.getElem?_append_left h1]; exact k1, by rw [List.getElem?_append_left (by rw [h.len]; exact h1)]; exact k2, k3⟩
    · have hi' : i = l.length := by simp at hi; omega
      subst hi'
      exact ⟨su, u, T, by simp, by rw [← h.len]; simp, hv⟩
  · rw [List.flatten_append]
    simp only [List.flatten_cons, List.flatten_nil, List.append_nil]
    exact List.nodup_append.2 ⟨h.nd, hn, fun a ha b hb e => hd b hb (e ▸ ha)⟩
  · intro x hx
    rw [List.flatten_append] at hx
    simp only [List.flatten_cons, List.flatten_nil, List.append_nil] at hx
    rcases List.mem_append.1 hx with hx | hx
    · exact h.ge x hx
    · exact hge x hx

/-- A row goes on by one node that is owned. -/
theorem row_stepO {w wr w2 : World} {e n cap : Nat} {l : List XR} {junk : List Value} {kid : Nat → X} {sv v : Value} {SS : List (List Nat)} {T : List Nat}
    (hown : wr.ownsRow w.heap.size e 6 (.slice (some ⟨w.heap.size, 0, none⟩) n cap) n (xrows l ++ junk)) (hj : 6 ≤ junk.length) (hacc : XAcc (w.heap.size + 1) wr kid l SS)
    (hbel : Below w.heap.size w wr) (hsz : w.heap.size < wr.heap.size) (hb : Below wr.heap.size wr w2) (hv : XOwn w2 (kid l.length) sv v T) (hn : T.Nodup) (hT : ∀ x ∈ T, wr.heap.size ≤ x) :
    (st6 w2 w.heap.size (l.length * 6) (kid l.length) sv v).ownsRow w.heap.size e 6 (.slice (some ⟨w.heap.size, 0, none⟩) n cap) n (xrows (l ++ [(kid l.length, sv, v)]) ++ junk.drop 6) ∧
    XAcc (w.heap.size + 1) (st6 w2 w.heap.size (l.length * 6) (kid l.length) sv v) kid (l ++ [(kid l.length, sv, v)]) (SS ++ [T]) ∧ Below w.heap.size w (st6 w2 w.heap.size (l.length * 6) (kid l.length) sv v) ∧ w.heap.size < (st6 w2 w.heap.size (l.length * 6) (kid l.length) sv v).heap.size := by
  obtain ⟨q, g⟩ := stored6 (own_belowX hown hb) hj (kid l.length) sv v
  have hb2 : Below w.heap.size w w2 := hbel.trans (hb.mono (by omega))
  have hlt := hacc.lt
  have a2 : XAcc (w.heap.size + 1) w2 kid l SS := hacc.same (fun x _ hx => hb.block x hx)
  have a3 := a2.snoc hv hn (fun x hx => by have := hT x hx; omega) (fun x hx hx' => by have := hT x hx; have := hlt x hx'; omega)
  refine ⟨q, a3.same (fun x hx hx' => g.block x hx' (by intro e; injection e with e; omega)), hb2.trans ⟨g.os, g.tape, g.output, g.size, fun k hk => g.block k (by have := hb2.size; omega) (by intro e; injection e with e; omega)⟩, Nat.lt_of_lt_of_le hsz (Nat.le_trans hb.size g.size)⟩

/-- Rows that are done. -/
theorem XAcc.done {w : World} {base g cap n B : Nat} {kid : Nat → X} {l : List XR} {SS : List (List Nat)} (h : XAcc B w kid l SS) (hown : w.ownsRow base 32 6 (.slice (some ⟨g, 0, none⟩) n cap) n (xrows l)) (hl : l.length = n) (hg : g < B) :
    XsOwn w n kid (.slice (some ⟨g, 0, none⟩) n cap) (g :: SS.flatten) ∧ (g :: SS.flatten).Nodup ∧ ∀ x ∈ g :: SS.flatten, g ≤ x := by
  refine ⟨.inr ⟨g, cap, l, SS, rfl, own_base hown (fun _ _ => Nat.zero_le _), hl, by rw [h.len]; exact hl, h.ks, rfl, fun i hi => h.each i (by omega)⟩, List.nodup_cons.2 ⟨fun hx => by have := h.ge g hx; omega, h.nd⟩, fun x hx => ?_⟩
  rcases List.mem_cons.1 hx with rfl | hx
  · exact Nat.le_refl _
  · have := h.ge x hx; omega

/-- The list so far, k long, at the value lv; its elements' blocks. -/
structure XBuild (B : Nat) (w : World) (kid : Nat → X) (k : Nat) (lv : Value) (la : List XR) (SS : List (List Nat)) : Prop where
  own : w.ownsRow 0 32 6 lv k (xrows la)
  num : la.length = k
  rows : XAcc B w kid la SS
  out : ∀ g, lv.ownBlock = some g → g ∉ SS.flatten ∧ B ≤ g
theorem XBuild.nil (B : Nat) (w : World) (kid : Nat → X) : XBuild B w kid 0 (.slice none 0 0) [] [] :=
  ⟨⟨rfl, .inl ⟨rfl, rfl⟩⟩, rfl, XAcc.nil _ _ _, fun g h => by simp [Value.ownBlock] at h⟩
theorem XBuild.same {B : Nat} {w w' : World} {kid : Nat → X} {k : Nat} {lv : Value} {la : List XR} {SS : List (List Nat)} (h : XBuild B w kid k lv la SS) (hs : ∀ x, B ≤ x → x < w.heap.size → w'.heap[x]? = w.heap[x]?) : XBuild B w' kid k lv la SS :=
  ⟨own_sameX h.own (fun g hg => hs g (h.out g hg).2 (h.own.lt g hg).2), h.num, h.rows.same hs, h.out⟩
/-- One more. -/
theorem XBuild.app {B : Nat} {w w3 : World} {kid : Nat → X} {k : Nat} {lv su v : Value} {la : List XR} {SS : List (List Nat)} {T : List Nat} {o : Obj} {g cap : Nat} (h : XBuild B w kid k lv la SS) (hd : XOwn w (kid k) su v T) (hT : T.Nodup) (hTS : ∀ x ∈ T, x ∉ SS.flatten) (hTl : ∀ x ∈ T, lv.ownBlock ≠ some x) (hTB : ∀ x ∈ T, B ≤ x) (hB : B ≤ w.heap.size)
    (hown : w3.ownsRow 0 32 6 (.slice (some ⟨g, 0, none⟩) (k + 1) cap) (k + 1) (xrows la ++ xcells (kid k, su, v))) (hg : (w.alloc o).grownBy w3 lv.ownBlock) (hat : lv.ownBlock = some g ∨ g = w.heap.size + 1) :
    XBuild B w3 kid (k + 1) (.slice (some ⟨g, 0, none⟩) (k + 1) cap) (la ++ [(kid k, su, v)]) (SS ++ [T]) := by
  have hlt := h.rows.lt
  have hTt := hd.there
  have hsz : (w.alloc o).heap.size = w.heap.size + 1 := by simp
  have keep : ∀ x, x < w.heap.size → lv.ownBlock ≠ some x → w3.heap[x]? = w.heap[x]? := fun x hx hne =>
    (hg.block x (by omega) (fun e => hne e.symm)).trans (Below.heap_alloc w o x hx)
  have hfl : (SS ++ [T]).flatten = SS.flatten ++ T := by simp
  have hd' : XOwn w (kid la.length) su v T := by rw [h.num]; exact hd
  have a1 := h.rows.snoc hd' hT hTB hTS
  rw [h.num] at a1
  refine ⟨by rw [xrows_append]; exact hown, by simp [h.num], ⟨a1.len, a1.ks, fun i hi => ?_, a1.nd, a1.ge⟩, ?_⟩
  · obtain ⟨su', u', T', k1, k2, k3⟩ := a1.each i hi
    refine ⟨su', u', T', k1, k2, k3.same _ (fun x hx => keep x (k3.there _ x hx) (fun e => ?_))⟩
    have hx' := mem_flatX k2 hx
    rw [hfl, List.mem_append] at hx'
    exact hx'.elim (h.out x e).1 (fun hx => hTl x hx e)
  · intro x hx
    simp only [Value.ownBlock, Option.some.injEq] at hx
    subst hx
    rw [hfl, List.mem_append]
    rcases hat with hat | hat
    · exact ⟨fun hx => hx.elim (h.out g hat).1 (fun hx => hTl g hx hat), (h.out g hat).2⟩
    · refine ⟨fun hx => ?_, by omega⟩
      rcases hx with hx | hx
      · have := hlt g hx; omega
      · have := hTt g hx; omega
/-- The list as it stands. -/
theorem XBuild.xsown {B : Nat} {w : World} {kid : Nat → X} {k : Nat} {lv : Value} {la : List XR} {SS : List (List Nat)} (h : XBuild B w kid k lv la SS) : ∃ S, XsOwn w k kid lv S ∧ S.Nodup ∧ ∀ x ∈ S, B ≤ x := by
  rcases h.own.2 with ⟨h1, h2⟩ | ⟨g, cap, cur, h1, hb, hg, hc, hm, hs, ht⟩
  · exact ⟨[], .inl ⟨h2, h1, rfl⟩, by simp, fun x hx => by simp at hx⟩
  · subst h1
    refine ⟨g :: SS.flatten, .inr ⟨g, cap, la, SS, rfl, h.own, h.num, by rw [h.rows.len]; exact h.num, h.rows.ks, rfl, fun i hi => h.rows.each i (by rw [h.num]; exact hi)⟩, List.nodup_cons.2 ⟨(h.out g rfl).1, h.rows.nd⟩, fun x hx => ?_⟩
    rcases List.mem_cons.1 hx with rfl | hx
    · exact (h.out x rfl).2
    · exact h.rows.ge x hx
end Go.Proofs.YtlclfmjpnchmbaaGreat

/- Plain facts on sets of numbers: flipped twice a set is as it was; with a number it has it, without it not. No conditions but that the list is a set. -/
namespace Go.Proofs.YtlclfmjpnchmbaaGreat

/-- The same by recursion: each is above what went ahead of it. -/
def ascL : Int → List Int → Prop
  | _, [] => True
  | m, x :: r => m < x ∧ ascL x r

theorem asc_mono {m k : Int} {xs : List Int} (h : ascL m xs) (hk : k ≤ m) : ascL k xs := by
  cases xs with
  | nil => trivial
  | cons x r => exact ⟨by have := h.1; omega, h.2⟩
theorem asc_mem {m : Int} {xs : List Int} (h : ascL m xs) : ∀ x ∈ xs, m < x := by
  induction xs generalizing m with
  | nil => intro x hx; cases hx
  | cons y r ih =>
    intro x hx
    rcases List.mem_cons.1 hx with rfl | hx
    · exact h.1
    · have := ih h.2 x hx; have := h.1; omega

theorem asc_of (xs : List Int) (m : Int) (h : ∀ i, i < xs.length → m < xs.getD i 0 ∧ (0 < i → xs.getD (i - 1) 0 < xs.getD i 0)) : ascL m xs := by
  induction xs generalizing m with
  | nil => trivial
  | cons x r ih =>
    refine ⟨by simpa using (h 0 (by simp)).1, ih x fun i hi => ?_⟩
    have h1 := h (i + 1) (by simpa using hi)
    have h2 := h1.2 (by omega)
    simp only [Nat.add_sub_cancel, List.getD_cons_succ] at h2
    refine ⟨?_, fun h0 => ?_⟩
    · have : ∀ j, j ≤ i → j < r.length → x < r.getD j 0 := by
        intro j
        induction j with
        | zero =>
          intro _ hj
          have := (h 1 (by simp; omega)).2 (by omega)
          simpa using this
        | succ j ihj =>
          intro hj hl
          have a := ihj (by omega) (by omega)
          have b := (h (j + 2) (by simp; omega)).2 (by omega)
          simp only [Nat.add_one_sub_one, List.getD_cons_succ] at b
          omega
      exact this i (Nat.le_refl _) hi
    · obtain ⟨k, rfl⟩ : ∃ k, i = k + 1 := ⟨i - 1, by omega⟩
      simpa using h2

theorem asc_to (xs : List Int) (m : Int) (h : ascL m xs) : ∀ i, i < xs.length → m < xs.getD i 0 ∧ (0 < i → xs.getD (i - 1) 0 < xs.getD i 0) := by
  induction xs generalizing m with
  | nil => intro i hi; simp at hi
  | cons x r ih =>
    intro i hi
    match i with
    | 0 => exact ⟨by simpa using h.1, fun h0 => by omega⟩
    | i + 1 =>
      have hi' : i < r.length := by simpa using hi
      have := ih x h.2 i hi'
      have h1 := h.1
      refine ⟨by simp only [List.getD_cons_succ]; omega, fun _ => ?_⟩
      match i with
      | 0 => simpa using this.1
      | i + 1 => simpa using this.2 (by omega)

theorem set_asc (xs : List Int) : setB xs = true ↔ ascL (-1) xs := by
  constructor
  · intro h
    refine asc_of xs (-1) fun i hi => ?_
    have := set_at h i hi
    unfold standsB at this
    simp only [Bool.and_eq_true, Bool.or_eq_true, decide_eq_true_eq] at this
    exact ⟨by omega, fun h0 => this.2.resolve_left (by omega)⟩
  · intro h
    refine set_yes fun i hi => ?_
    have := asc_to xs (-1) h i hi
    unfold standsB
    simp only [Bool.and_eq_true, Bool.or_eq_true, decide_eq_true_eq]
    refine ⟨by omega, ?_⟩
    by_cases h0 : i = 0
    · exact .inl h0
    · exact .inr (this.2 (by omega))

/-- n put in where it belongs. -/
def insL : List Int → Int → List Int
  | [], n => [n]
  | x :: r, n => if x < n then x :: insL r n else n :: x :: r
theorem ins_place (xs : List Int) (n : Int) : xs.take (placeL xs n) ++ n :: xs.drop (placeL xs n) = insL xs n := by
  induction xs with
  | nil => rfl
  | cons x r ih =>
    unfold placeL insL
    split
    · simp [ih]
    · simp
theorem ins_mem (xs : List Int) (n : Int) : n ∈ insL xs n := by
  induction xs with
  | nil => simp [insL]
  | cons x r ih => unfold insL; split <;> simp [ih]
theorem ins_sub (xs : List Int) (n : Int) : ∀ x ∈ xs, x ∈ insL xs n := by
  induction xs with
  | nil => intro x hx; cases hx
  | cons y r ih =>
    intro x hx
    unfold insL
    split
    · rcases List.mem_cons.1 hx with rfl | hx
      · simp
      · exact List.mem_cons_of_mem _ (ih x hx)
    · exact List.mem_cons_of_mem _ hx
theorem ins_asc {m : Int} {xs : List Int} {n : Int} (h : ascL m xs) (hm : m < n) (hn : n ∉ xs) : ascL m (insL xs n) := by
  induction xs generalizing m with
  | nil => exact ⟨hm, trivial⟩
  | cons x r ih =>
    unfold insL
    have hx : n ≠ x := fun e => hn (by simp [e])
    split
    · rename_i hlt
      exact ⟨h.1, ih h.2 hlt (fun hr => hn (List.mem_cons_of_mem _ hr))⟩
    · exact ⟨hm, by omega, h.2⟩
theorem without_same (ys : List Int) (n : Int) (hy : n ∉ ys) : withoutL ys n = ys := by
  unfold withoutL
  rw [List.filter_eq_self]
  intro x hx
  have : x ≠ n := fun e => hy (by rw [← e]; exact hx)
  simpa using this
theorem without_cons (x n : Int) (r : List Int) (h : x ≠ n) : withoutL (x :: r) n = x :: withoutL r n := by
  unfold withoutL
  rw [List.filter_cons, if_pos (by simpa using h)]
theorem without_head (n : Int) (r : List Int) : withoutL (n :: r) n = withoutL r n := by
  unfold withoutL
  rw [List.filter_cons, if_neg (by simp)]
theorem without_ins {xs : List Int} {n : Int} (hn : n ∉ xs) : withoutL (insL xs n) n = xs := by
  induction xs with
  | nil => simp [insL, withoutL]
  | cons x r ih =>
    have hx : x ≠ n := fun e => hn (by simp [e])
    have hr : n ∉ r := fun hr => hn (List.mem_cons_of_mem _ hr)
    unfold insL
    split
    · rw [without_cons x n _ hx, ih hr]
    · rw [without_head, without_same _ _ hn]
theorem without_mem (xs : List Int) (n x : Int) : x ∈ withoutL xs n ↔ x ∈ xs ∧ x ≠ n := by
  unfold withoutL
  rw [List.mem_filter]
  simp
theorem without_asc {m : Int} {xs : List Int} (n : Int) (h : ascL m xs) : ascL m (withoutL xs n) := by
  induction xs generalizing m with
  | nil => trivial
  | cons x r ih =>
    by_cases hx : x = n
    · subst hx
      rw [without_head]
      exact asc_mono (ih h.2) (by have := h.1; omega)
    · rw [without_cons x n r hx]
      exact ⟨h.1, ih h.2⟩
theorem ins_without {m : Int} {xs : List Int} {n : Int} (h : ascL m xs) (hn : n ∈ xs) : insL (withoutL xs n) n = xs := by
  induction xs generalizing m with
  | nil => cases hn
  | cons x r ih =>
    by_cases hx : x = n
    · subst hx
      have hnr : x ∉ r := fun hr => by have := asc_mem h.2 x hr; omega
      rw [without_head, without_same _ _ hnr]
      cases r with
      | nil => rfl
      | cons y t =>
        unfold insL
        rw [if_neg (by have := h.2.1; omega)]
    · have hr : n ∈ r := by
        rcases List.mem_cons.1 hn with e | hr
        · exact absurd e.symm hx
        · exact hr
      have hlt := asc_mem h.2 n hr
      rw [without_cons x n r hx]
      unfold insL
      rw [if_pos hlt, ih h.2 hr]

theorem with_ins {xs : List Int} {n : Int} (h : hasB xs n = false) : withL xs n = insL xs n := by rw [with_no h, ins_place]
theorem has_not {xs : List Int} {n : Int} (h : hasB xs n = false) : n ∉ xs := fun e => by rw [(has_iff xs n).2 e] at h; cases h
theorem not_has {xs : List Int} {n : Int} (h : n ∉ xs) : hasB xs n = false := by
  cases e : hasB xs n with
  | false => rfl
  | true => exact absurd ((has_iff xs n).1 e) h

theorem flip_set {s : List Int} {n : Int} (h : setB s = true) (hn : 0 ≤ n) : setB (flipL s n) = true := by
  rw [set_asc] at h ⊢
  cases e : hasB s n with
  | true => rw [flip_yes e]; exact without_asc n h
  | false => rw [flip_no e, with_ins e]; exact ins_asc h (by omega) (has_not e)
theorem flip_flip {s : List Int} {n : Int} (h : setB s = true) : flipL (flipL s n) n = s := by
  rw [set_asc] at h
  cases e : hasB s n with
  | true =>
    have e2 : hasB (withoutL s n) n = false := not_has fun hm => ((without_mem s n n).1 hm).2 rfl
    rw [flip_yes e, flip_no e2, with_ins e2, ins_without h ((has_iff s n).1 e)]
  | false =>
    have e2 : hasB (insL s n) n = true := (has_iff _ _).2 (ins_mem s n)
    rw [flip_no e, with_ins e, flip_yes e2, without_ins (has_not e)]
theorem with_has (s : List Int) (n : Int) : withinB [n] (withL s n) = true := by
  have : hasB (withL s n) n = true := by
    cases e : hasB s n with
    | true => rw [with_yes e]; exact e
    | false => rw [with_ins e]; exact (has_iff _ _).2 (ins_mem s n)
  simp [withinB, this]
theorem without_has (s : List Int) (n : Int) : withinB [n] (withoutL s n) = false := by
  have : hasB (withoutL s n) n = false := not_has fun hm => ((without_mem s n n).1 hm).2 rfl
  simp [withinB, this]
theorem without_within (s : List Int) (n : Int) : withinB (withoutL s n) s = true := by
  unfold withinB
  rw [List.all_eq_true]
  intro x hx
  exact (has_iff _ _).2 ((without_mem s n x).1 hx).1
theorem within_with (s : List Int) (n : Int) : withinB s (withL s n) = true := by
  unfold withinB
  rw [List.all_eq_true]
  intro x hx
  cases e : hasB s n with
  | true => rw [with_yes e]; exact (has_iff _ _).2 hx
  | false => rw [with_ins e]; exact (has_iff _ _).2 (ins_sub s n x hx)
end Go.Proofs.YtlclfmjpnchmbaaGreat

/- Plain facts on what is written: the same but for places; its sets turned; how great it is. No conditions. -/
namespace Go.Proofs.YtlclfmjpnchmbaaGreat
open Go.ChangeShapes Go.WideShapes Go.ChangeAt Go.RowKit

/-- No set of more than 2^22. -/
def X.Small : X → Prop
  | .no => True
  | .mk _ _ _ _ set len kid => set.length ≤ 4194304 ∧ ∀ i, i < len → (kid i).Small
theorem X.small_of_weight (t : X) : t.weight ≤ 4194304 → t.Small := by
  induction t with
  | no => intro _; trivial
  | mk op a n s set len kid ih =>
    intro h
    have e : (X.mk op a n s set len kid).weight = s.size + (set.length + (len + sumX (fun i => (kid i).weight) len)) := rfl
    refine ⟨by omega, fun i hi => ih i ?_⟩
    have := sumX_at (fun i => (kid i).weight) i len hi
    omega

/-- All of the first k. -/
def allX (p : Nat → Bool) : Nat → Bool
  | 0 => true
  | k + 1 => allX p k && p k
theorem allX_true {p : Nat → Bool} {k : Nat} : allX p k = true ↔ ∀ i, i < k → p i = true := by
  induction k with
  | zero => simp [allX]
  | succ k ih =>
    simp only [allX, Bool.and_eq_true, ih]
    constructor
    · rintro ⟨h1, h2⟩ i hi
      rcases Nat.lt_or_ge i k with h | h
      · exact h1 i h
      · obtain rfl : i = k := by omega
        exact h2
    · intro h
      exact ⟨fun i hi => h i (by omega), h k (by omega)⟩
theorem allX_false {p : Nat → Bool} {n k : Nat} (hk : k < n) (h : p k = false) : allX p n = false := by
  cases e : allX p n with
  | false => rfl
  | true => rw [allX_true] at e; rw [e k hk] at h; cases h

/-- The same op, number, text, set and number of kids. -/
def headX (a b : X) : Bool := (a.op == b.op) && ((a.n == b.n) && ((a.s.toList == b.s.toList) && (sameB a.set b.set && (a.len == b.len))))
/-- The same but for places. -/
def sameX : X → X → Bool
  | .no, b => headX .no b
  | .mk op a n s set len kid, b => headX (.mk op a n s set len kid) b && allX (fun i => sameX (kid i) (b.kid i)) len
theorem sameX_eq (a b : X) : sameX a b = (headX a b && allX (fun i => sameX (a.kid i) (b.kid i)) a.len) := by
  cases a with
  | no => simp [sameX, X.len, allX]
  | mk op a n s set len kid => rfl

theorem bytes_injX {a b : ByteArray} (h : a.toList = b.toList) : a = b := by
  rw [ByteArray.toList_eq, ByteArray.toList_eq] at h
  cases a; cases b; simp only at h; congr; exact Array.toList_inj.1 h

/-- The tests ahead, one by one. -/
theorem headX_cases (a b : X) : (headX a b = true ∧ a.op = b.op ∧ a.n = b.n ∧ a.s = b.s ∧ sameB a.set b.set = true ∧ a.len = b.len) ∨
    (headX a b = false ∧ (a.op ≠ b.op ∨ (a.op = b.op ∧ (a.n ≠ b.n ∨ (a.n = b.n ∧ ((a.s.toList == b.s.toList) = false ∨ (a.s = b.s ∧ (sameB a.set b.set = false ∨ (sameB a.set b.set = true ∧ a.len ≠ b.len))))))))) := by
  unfold headX
  by_cases h1 : a.op = b.op
  · by_cases h2 : a.n = b.n
    · by_cases h3 : a.s.toList = b.s.toList
      · have h3' : a.s = b.s := bytes_injX h3
        cases h5 : sameB a.set b.set with
        | false => exact .inr (by simp [h1, h2, h3'])
        | true =>
          by_cases h4 : a.len = b.len
          · exact .inl (by simp [h1, h2, h3', h4])
          · exact .inr (by simp [h1, h2, h3', h4])
      · exact .inr (by simp [h1, h2, h3])
    · exact .inr (by simp [h1, h2])
  · exact .inr (by simp [h1])

theorem sameX_self (t : X) : sameX t t = true := by
  induction t with
  | no => simp [sameX, headX, same_self]
  | mk op a n s set len kid ih =>
    rw [sameX_eq]
    have h1 : headX (.mk op a n s set len kid) (.mk op a n s set len kid) = true := by simp [headX, same_self]
    rw [h1, Bool.true_and, allX_true]
    exact fun i _ => ih i

/-- Sets turned at symbols. -/
def X.turn (f : List Int → List Int) : X → X
  | .no => .no
  | .mk op a n s set len kid => .mk op a n s (if op = 2 then f set else set) len (fun i => (kid i).turn f)
def X.flip (t : X) (n : Int) : X := t.turn fun s => flipL s n
def X.withAll (t : X) (n : Int) : X := t.turn fun s => withL s n
theorem X.turn_mk (f : List Int → List Int) (op a n : Int) (s : ByteArray) (set : List Int) (len : Nat) (kid : Nat → X) : (X.mk op a n s set len kid).turn f = .mk op a n s (if op = 2 then f set else set) len (fun i => (kid i).turn f) := rfl
theorem X.turn_ne (f : List Int → List Int) (t : X) (h : t ≠ .no) : t.turn f ≠ .no := by
  cases t with
  | no => exact absurd rfl h
  | mk op a n s set len kid => intro e; cases e
theorem X.turn_count (f : List Int → List Int) (t : X) : (t.turn f).count = t.count := by
  induction t with
  | no => rfl
  | mk op a n s set len kid ih => rw [turn_mk]; unfold count; simp only [ih]

/-- All sets are right: at symbols sets, elsewhere none. -/
def X.setsB : X → Bool
  | .no => true
  | .mk op _ _ _ set len kid => allX (fun i => (kid i).setsB) len && ((decide (op = 2) && setB set) || decide (set.length = 0))
theorem X.setsB_mk (op a n : Int) (s : ByteArray) (set : List Int) (len : Nat) (kid : Nat → X) : (X.mk op a n s set len kid).setsB = (allX (fun i => (kid i).setsB) len && ((decide (op = 2) && setB set) || decide (set.length = 0))) := rfl

theorem setB_nil : setB [] = true := by simp [setB]
/-- Flipped twice it is as it was. -/
theorem X.flip_flip (t : X) (m : Int) : t.setsB = true → sameX ((t.flip m).flip m) t = true := by
  induction t with
  | no => intro _; exact sameX_self .no
  | mk op a n s set len kid ih =>
    intro h
    rw [setsB_mk, Bool.and_eq_true, allX_true] at h
    obtain ⟨hk, hs⟩ := h
    have hset : (if op = 2 then flipL (if op = 2 then flipL set m else set) m else (if op = 2 then flipL set m else set)) = set := by
      by_cases h2 : op = 2
      · simp only [if_pos h2]
        rcases Bool.or_eq_true _ _ ▸ hs with h3 | h3
        · rw [Bool.and_eq_true] at h3; exact Go.Proofs.YtlclfmjpnchmbaaGreat.flip_flip h3.2
        · have h0 : set = [] := List.eq_nil_of_length_eq_zero (of_decide_eq_true h3)
          subst h0
          exact Go.Proofs.YtlclfmjpnchmbaaGreat.flip_flip setB_nil
      · simp only [if_neg h2]
    have e : ((X.mk op a n s set len kid).flip m).flip m = .mk op a n s set len (fun i => ((kid i).flip m).flip m) := by
      unfold X.flip
      rw [turn_mk, turn_mk, hset]
    rw [e, sameX_eq]
    have h1 : headX (.mk op a n s set len (fun i => ((kid i).flip m).flip m)) (.mk op a n s set len kid) = true := by simp [headX, same_self, X.op, X.n, X.s, X.set, X.len]
    rw [h1, Bool.true_and, allX_true]
    exact fun i hi => ih i (hk i hi)

/-- How many numbers its sets have, in all. -/
def X.nums : X → Nat | .no => 0 | .mk _ _ _ _ set len kid => set.length + sumX (fun i => (kid i).nums) len
theorem sumX_le2 {f g : Nat → Nat} (h : ∀ i, f i ≤ g i) (k : Nat) : sumX f k ≤ sumX g k := by
  induction k with
  | zero => exact Nat.le_refl _
  | succ k ih => simp only [sumX]; have := h k; omega
theorem sumX_add (f g : Nat → Nat) (k : Nat) : sumX (fun i => f i + g i) k = sumX f k + sumX g k := by
  induction k with
  | zero => rfl
  | succ k ih => simp only [sumX, ih]; omega
theorem sumX_mul (c : Nat) (f : Nat → Nat) (k : Nat) : sumX (fun i => c * f i) k = c * sumX f k := by
  induction k with
  | zero => rfl
  | succ k ih => simp only [sumX, ih, Nat.mul_add]
theorem X.nums_weight (t : X) : t.nums ≤ t.weight := by
  induction t with
  | no => exact Nat.le_refl _
  | mk op a n s set len kid ih =>
    unfold nums weight
    have := sumX_le2 ih len
    omega
theorem X.turn_nums (f : List Int → List Int) (hf : ∀ s, (f s).length ≤ s.length + 1) (t : X) : (t.turn f).nums ≤ t.nums + t.count := by
  induction t with
  | no => simp [turn, nums]
  | mk op a n s set len kid ih =>
    rw [turn_mk]
    unfold nums count
    have h1 := sumX_le2 ih len
    rw [sumX_add] at h1
    have h2 := hf set
    by_cases h : op = 2
    · simp only [if_pos h]; omega
    · simp only [if_neg h]; omega
/-- No set of more than m. -/
def X.SetsLe (m : Nat) : X → Prop
  | .no => True
  | .mk _ _ _ _ set len kid => set.length ≤ m ∧ ∀ i, i < len → (kid i).SetsLe m
theorem X.setsLe_weight {m : Nat} (t : X) : t.weight ≤ m → t.SetsLe m := by
  induction t with
  | no => intro _; trivial
  | mk op a n s set len kid ih =>
    intro h
    have e : (X.mk op a n s set len kid).weight = s.size + (set.length + (len + sumX (fun i => (kid i).weight) len)) := rfl
    refine ⟨by omega, fun i hi => ih i ?_⟩
    have := sumX_at (fun i => (kid i).weight) i len hi
    omega
theorem X.SetsLe.small {m : Nat} (hm : m ≤ 4194304) (t : X) : t.SetsLe m → t.Small := by
  induction t with
  | no => intro _; trivial
  | mk op a n s set len kid ih => intro h; exact ⟨Nat.le_trans h.1 hm, fun i hi => ih i (h.2 i hi)⟩
theorem X.SetsLe.turn {m : Nat} {f : List Int → List Int} (hf : ∀ s, (f s).length ≤ s.length + 1) (t : X) : t.SetsLe m → (t.turn f).SetsLe (m + 1) := by
  induction t with
  | no => intro _; trivial
  | mk op a n s set len kid ih =>
    intro h
    refine ⟨?_, fun i hi => ih i (h.2 i hi)⟩
    have h1 := h.1
    have h2 := hf set
    by_cases h3 : op = 2
    · simp only [if_pos h3]; omega
    · simp only [if_neg h3]; omega
theorem X.turn_small {f : List Int → List Int} (hf : ∀ s, (f s).length ≤ s.length + 1) (t : X) (h : t.weight ≤ 1048576) : (t.turn f).Small := X.SetsLe.small (m := 1048577) (by omega) _ ((X.setsLe_weight t h).turn hf)
end Go.Proofs.YtlclfmjpnchmbaaGreat
