/- What is written that is being made, row by row. No conditions. -/
import Derived.Test.YtlclfmjpnchmbaaGreatZG23Jobs
import Derived.Test.YtlclfmjpnchmbaaGreatZG1StxOwn
import Derived.Test.YtlclfmjpnchmbaaGreatZG14ImplNames
import Derived.Test.YtlclfmjpnchmbaaGreatZG11ImplDots
import Derived.Test.YtlclfmjpnchmbaaGreatZG6SzStx
import Derived.Test.YtlclfmjpnchmbaaGreatZG19PatSpec
namespace Go.Proofs.YtlclfmjpnchmbaaGreat
open Go.ChangeShapes Go.WideShapes Go.ChangeAt Go.RowKit

/-- The first rows of one that is being filled. -/
def RowsX (kid : Nat → X) (l : List XR) (w : World) (S : List Nat) : Prop :=
  ∃ SS : List (List Nat), SS.length = l.length ∧ S = SS.flatten ∧ ∀ i, i < l.length → ∃ su u T, l[i]? = some (kid i, su, u) ∧ SS[i]? = some T ∧ XOwn w (kid i) su u T

theorem RowsX.nil (kid : Nat → X) (w : World) : RowsX kid [] w [] := ⟨[], rfl, rfl, fun i hi => by simp at hi⟩
theorem RowsX.snoc {kid : Nat → X} {l : List XR} {w : World} {S : List Nat} (h : RowsX kid l w S) {su u : Value} {T : List Nat} (hv : XOwn w (kid l.length) su u T) : RowsX kid (l ++ [(kid l.length, su, u)]) w (S ++ T) := by
  obtain ⟨SS, hl, rfl, he⟩ := h
  refine ⟨SS ++ [T], by simp [hl], by simp, fun i hi => ?_⟩
  rcases Nat.lt_or_ge i l.length with h1 | h1
  · obtain ⟨su', u', T', k1, k2, k3⟩ := he i h1
    exact ⟨su', u', T', by rw [List.getElem?_append_left h1]; exact k1, by rw [List.getElem?_append_left (by rw [hl]; exact h1)]; exact k2, k3⟩
  · have hi' : i = l.length := by simp at hi; omega
    subst hi'
    exact ⟨su, u, T, by simp, by rw [← hl]; simp, hv⟩
theorem RowsX.own {kid : Nat → X} {l : List XR} {w : World} {S : List Nat} {g n cap : Nat} (h : RowsX kid l w S) (hk : XKs kid l) (hl : l.length = n) (hown : w.ownsRow 0 32 6 (.slice (some ⟨g, 0, none⟩) n cap) n (xrows l)) : XsOwn w n kid (.slice (some ⟨g, 0, none⟩) n cap) (g :: S) := by
  obtain ⟨SS, h1, rfl, he⟩ := h
  exact .inr ⟨g, cap, l, SS, rfl, hown, hl, by omega, hk, rfl, fun i hi => he i (by omega)⟩

/-- The target's rows that are to be filled. -/
abbrev WandX (w : World) (R : List Nat) (es : List (Ent X)) (P : World → List Nat → Prop) : Prop := Wand XsOwn w R es P

theorem WandX.leaf {w : World} {R : List Nat} {es : List (Ent X)} {kid : Nat → X} {l : List XR} {sv : Value} (h : WandX w R es (RowsX kid l)) (hne : kid l.length ≠ .no) (hpl : (kid l.length).s.size ≤ maxLen ∧ (-9223372036854775808 ≤ (kid l.length).n ∧ (kid l.length).n ≤ 9223372036854775807) ∧ (kid l.length).set.length ≤ maxLen)
    (hs : Own w 0 sv (kid l.length).set) (h0 : (kid l.length).len = 0) : WandX w (R ++ sv.ownBlock.toList) (es ++ []) (RowsX kid (l ++ [(kid l.length, sv, .slice none 0 0)])) := by
  refine Wand.more h (fun w' S SS hx hP hF => ?_)
  cases SS with
  | cons x xs => exact hF.elim
  | nil =>
    have hs' : Own w' 0 sv (kid l.length).set := hs.sameX (fun g hg => hx g (mem_own hg))
    refine hP.snoc ?_
    generalize kid l.length = t at *
    cases t with
    | no => exact absurd rfl hne
    | mk op a n s set len kd => exact XOwn.mk' hpl hs' (.inl ⟨h0, rfl, rfl⟩)
theorem WandX.node {w : World} {R : List Nat} {es : List (Ent X)} {kid : Nat → X} {l : List XR} {sv v : Value} (h : WandX w R es (RowsX kid l)) (hne : kid l.length ≠ .no) (hpl : (kid l.length).s.size ≤ maxLen ∧ (-9223372036854775808 ≤ (kid l.length).n ∧ (kid l.length).n ≤ 9223372036854775807) ∧ (kid l.length).set.length ≤ maxLen)
    (hs : Own w 0 sv (kid l.length).set) : WandX w (R ++ sv.ownBlock.toList) (es ++ [⟨(kid l.length).len, (kid l.length).kid, v⟩]) (RowsX kid (l ++ [(kid l.length, sv, v)])) := by
  refine Wand.more h (fun w' S SS hx hP hF => ?_)
  cases SS with
  | nil => exact hF.elim
  | cons T TS => cases TS with
    | cons y ys => exact hF.2.elim
    | nil =>
      have hs' : Own w' 0 sv (kid l.length).set := hs.sameX (fun g hg => hx g (mem_own hg))
      have hT := hF.1
      refine hP.snoc ?_
      simp only [List.flatten_cons, List.flatten_nil, List.append_nil]
      generalize kid l.length = t at *
      cases t with
      | no => exact absurd rfl hne
      | mk op a n s set len kd => exact XOwn.mk' hpl hs' hT
theorem WandX.filled {w : World} {R Ri : List Nat} {es en : List (Ent X)} {n g cap : Nat} {kid : Nat → X} {l : List XR} {P : World → List Nat → Prop} (h : WandX w R (es ++ [⟨n, kid, .slice (some ⟨g, 0, none⟩) n cap⟩]) P) (hi : WandX w Ri en (RowsX kid l)) (hk : XKs kid l) (hl : l.length = n) (hown : w.ownsRow 0 32 6 (.slice (some ⟨g, 0, none⟩) n cap) n (xrows l)) :
    WandX w (R ++ g :: Ri) (es ++ en) P :=
  Wand.next h hi (fun w' S hg hP => hP.own hk hl (own_sameX hown (fun x hx => by simp only [Value.ownBlock, Option.some.injEq] at hx; subst hx; exact hg)))

/-- A row of one. -/
theorem row_oneX {W : World} {f : X} {g : Nat} {S : List Nat} (h : XsOwn W 1 (fun _ => f) (.slice (some ⟨g, 0, none⟩) 1 1) S) (hn : S.Nodup) :
    ∃ su u T, (W.cell? ⟨g, 0, none⟩ = some (.int .i64 f.op) ∧ W.cell? ⟨g, 1, none⟩ = some (.int .i64 f.at_) ∧ W.cell? ⟨g, 2, none⟩ = some (.int .i64 f.n) ∧ W.cell? ⟨g, 3, none⟩ = some (.string f.s) ∧ W.cell? ⟨g, 4, none⟩ = some su ∧ W.cell? ⟨g, 5, none⟩ = some u) ∧ XOwn W f su u T ∧ T.Nodup ∧ ∀ x ∈ T, x ∈ S := by
  rcases h with ⟨h0, _⟩ | ⟨g', cap', l, SS, he, hown, hl, hSl, hks, hSe, heach⟩
  · cases h0
  injection he with h1 _ h2
  injection h1 with h1
  injection h1 with h1
  subst h1 h2
  obtain ⟨su, u, T, k1, k2, k3⟩ := heach 0 (by omega)
  have hl1 : l = [(f, su, u)] := by
    match l, hl, k1 with
    | [q], _, k1 => simp at k1; rw [k1]
  subst hl1
  have hc : ∀ j, j < 6 → W.cell? ⟨g, j, none⟩ = (xcells (f, su, u))[j]? := by
    intro j hj
    have := hown.cellAt j (by omega)
    rw [this]
    simp [xrows]
  have hT : ∀ x ∈ T, x ∈ S := fun x hx => by rw [hSe]; exact List.mem_cons_of_mem _ (mem_flatX k2 hx)
  refine ⟨su, u, T, ⟨hc 0 (by omega), hc 1 (by omega), hc 2 (by omega), hc 3 (by omega), hc 4 (by omega), hc 5 (by omega)⟩, k3, ?_, hT⟩
  have hSS : SS = [T] := by
    match SS, hSl, k2 with
    | [q], _, k2 => simp at k2; rw [k2]
  rw [hSe, hSS] at hn
  simp at hn
  exact hn.2
end Go.Proofs.YtlclfmjpnchmbaaGreat

/- What is written that is being made of another tree, row by row: the state between the rounds. No conditions. -/
namespace Go.Proofs.YtlclfmjpnchmbaaGreat
open Go.ChangeShapes Go.WideShapes Go.ChangeAt Go.RowKit

/-- A row that is there, not yet filled. -/
def HoleX {A : Type} (W : World) (e : Job A) : Prop := ∃ junk : List Value, junk.length = e.len * 6 ∧ W.ownsRow 0 32 6 e.tv e.len junk
theorem HoleX.same {A : Type} {W W' : World} {e : Job A} (h : HoleX W e) (hs : W'.heap[e.g]? = W.heap[e.g]?) : HoleX W' e := by
  obtain ⟨junk, h1, h2⟩ := h
  exact ⟨junk, h1, own_sameG h2 hs⟩

/-- Between two rows. -/
structure RemX {A : Type} (fT : A → X) (tL : TypeId) (Src : Job A → Prop) (Kp : World → Prop) (New : Nat → Prop) (P : World → List Nat → Prop) (W : World) (R : List Nat) (st : List (Job A)) (gL cap : Nat) : Prop where
  keep : Kp W
  wand : WandX W R (st.map (Job.ent fT)) P
  nd : (R ++ st.map Job.g).Nodup
  new : ∀ x ∈ R ++ st.map Job.g, New x ∧ x ≠ gL ∧ x < W.heap.size
  left : New gL
  holes : ∀ e ∈ st, HoleX W e
  src : ∀ e ∈ st, Src e ∧ 0 < e.len
  own : W.ownsRow 0 tL 2 (.slice (some ⟨gL, 0, none⟩) st.length cap) st.length (jrows st)

/-- Within a row: its first l are filled. -/
structure InnX {A : Type} (fT : A → X) (count : A → Nat) (tL tJ : TypeId) (Src : Job A → Prop) (Kp : World → Prop) (New : Nat → Prop) (P : World → List Nat → Prop) (W : World) (R Ri : List Nat) (rest en ex : List (Job A)) (e : Job A) (l : List XR) (junk : List Value) (gL cap NB : Nat) : Prop where
  keep : Kp W
  nb : W.heap[NB]? = some (.cells #[e.fv, e.tv] tJ (0, 0))
  nbn : New NB ∧ NB ≠ gL
  wand : WandX W R ((rest ++ [e]).map (Job.ent fT)) P
  wandi : WandX W Ri (en.map (Job.ent fT)) (RowsX (fun i => fT (e.kid i)) l)
  ks : XKs (fun i => fT (e.kid i)) l
  nd : (R ++ (Ri ++ (e.g :: (rest ++ (en ++ ex)).map Job.g))).Nodup
  new : ∀ x ∈ R ++ (Ri ++ (e.g :: (rest ++ (en ++ ex)).map Job.g)), New x ∧ x ≠ gL ∧ x ≠ NB ∧ x < W.heap.size
  left : New gL
  holes : ∀ e' ∈ rest ++ (en ++ ex), HoleX W e'
  src : ∀ e' ∈ rest ++ (en ++ ex), Src e' ∧ 0 < e'.len
  row : W.ownsRow 0 32 6 e.tv e.len (xrows l ++ junk)
  rowl : l.length * 6 + junk.length = e.len * 6
  own : W.ownsRow 0 tL 2 (.slice (some ⟨gL, 0, none⟩) (rest ++ (en ++ ex)).length cap) (rest ++ (en ++ ex)).length (jrows (rest ++ (en ++ ex)))
  tot : totalJ count en + l.length = sumJ (fun i => count (e.kid i)) l.length

variable {A : Type} {fT : A → X} {count : A → Nat} {tL tJ : TypeId} {Src : Job A → Prop} {Kp : World → Prop} {New : Nat → Prop} {P : World → List Nat → Prop}

/-- A row is taken. -/
theorem RemX.pop {W : World} {R : List Nat} {rest : List (Job A)} {e : Job A} {gL cap : Nat} (hE : Env Kp New) (h : RemX fT tL Src Kp New P W R (rest ++ [e]) gL cap) :
    ∃ junk, InnX fT count tL tJ Src Kp New P (W.alloc (.cells #[e.fv, e.tv] tJ)) R [] rest [] [] e [] junk gL cap W.heap.size := by
  have hf : Below W.heap.size W (W.alloc (.cells #[e.fv, e.tv] tJ)) := (Below.refl _ _).alloc (Nat.le_refl _) _
  have hmem : ∀ x, x ∈ R ++ ([] ++ (e.g :: (rest ++ ([] ++ [])).map Job.g)) → x ∈ R ++ (rest ++ [e]).map Job.g := by
    intro x hx
    simp only [List.nil_append, List.append_nil, List.mem_append, List.mem_cons, List.map_append, List.map_cons, List.map_nil, List.not_mem_nil, or_false] at hx ⊢
    rcases hx with h | h | h
    · exact .inl h
    · exact .inr (.inr h)
    · exact .inr (.inl h)
  have hsz : (W.alloc (.cells #[e.fv, e.tv] tJ)).heap.size = W.heap.size + 1 := by simp
  obtain ⟨junk, hj1, hj2⟩ := h.holes e (by simp)
  have hgl : gL < W.heap.size := (h.own.lt _ rfl).2
  refine ⟨junk, hE.fr h.keep (Fr.below hf []) (fun x hx => by simp at hx), heap_alloc_new W _, ⟨hE.new h.keep (Nat.le_refl _), by omega⟩, h.wand.same (fun x hx => hf.block x (h.new x (by simp [hx])).2.2), ?_, XKs.nil _, ?_, ?_, h.left, ?_, ?_, ?_, by simpa using hj1, ?_, by simp [totalJ, sumJ]⟩
  · intro w' SS _ hF
    cases SS with
    | nil => exact ⟨[], RowsX.nil _ _, by simp⟩
    | cons x xs => exact hF.elim
  · have hp : (R ++ ([] ++ (e.g :: (rest ++ ([] ++ [])).map Job.g))).Perm (R ++ (rest ++ [e]).map Job.g) := by
      simp only [List.nil_append, List.append_nil, List.map_append, List.map_cons, List.map_nil]
      exact List.Perm.append_left R (List.perm_append_singleton e.g (rest.map Job.g)).symm
    exact hp.nodup_iff.2 h.nd
  · intro x hx
    obtain ⟨h1, h2, h3⟩ := h.new x (hmem x hx)
    exact ⟨h1, h2, by omega, by omega⟩
  · intro e' he'
    simp only [List.append_nil] at he'
    exact (h.holes e' (by simp [he'])).same (hf.block _ (h.new e'.g (List.mem_append_right _ (List.mem_map_of_mem (by simp [he'])))).2.2)
  · intro e' he'
    simp only [List.append_nil] at he'
    exact h.src e' (by simp [he'])
  · exact own_sameG hj2 (hf.block _ (h.new e.g (List.mem_append_right _ (List.mem_map_of_mem (by simp)))).2.2)
  · have hown := h.own
    rw [jrows_append] at hown
    have := own_cut (n := rest.length) hown (by rw [jrows_length]) (by simp)
    simp only [List.append_nil]
    exact own_sameG this (hf.block _ hgl)

theorem InnX.lt {W : World} {R Ri : List Nat} {rest en ex : List (Job A)} {e : Job A} {l : List XR} {junk : List Value} {gL cap NB : Nat} (h : InnX fT count tL tJ Src Kp New P W R Ri rest en ex e l junk gL cap NB) : gL < W.heap.size ∧ NB < W.heap.size :=
  ⟨(h.own.lt _ rfl).2, (Array.getElem?_eq_some_iff.1 h.nb).1⟩

theorem InnX.gOf {W : World} {R Ri : List Nat} {rest en ex : List (Job A)} {e : Job A} {l : List XR} {junk : List Value} {gL cap NB : Nat} (h : InnX fT count tL tJ Src Kp New P W R Ri rest en ex e l junk gL cap NB) : New e.g ∧ e.g ≠ gL ∧ e.g ≠ NB ∧ e.g < W.heap.size := h.new e.g (by simp)
theorem InnX.gIn {W : World} {R Ri : List Nat} {rest en ex : List (Job A)} {e e' : Job A} {l : List XR} {junk : List Value} {gL cap NB : Nat} (h : InnX fT count tL tJ Src Kp New P W R Ri rest en ex e l junk gL cap NB) (he : e' ∈ rest ++ (en ++ ex)) : New e'.g ∧ e'.g ≠ gL ∧ e'.g ≠ NB ∧ e'.g < W.heap.size ∧ e'.g ≠ e.g := by
  obtain ⟨a, b, c, d⟩ := h.new e'.g (List.mem_append_right _ (List.mem_append_right _ (List.mem_cons_of_mem _ (List.mem_map_of_mem he))))
  refine ⟨a, b, c, d, fun heq => ?_⟩
  have h1 := (List.nodup_append.1 h.nd).2.1
  have h2 := (List.nodup_append.1 h1).2.1
  rw [List.nodup_cons] at h2
  exact h2.1 (heq ▸ List.mem_map_of_mem he)

/-- The next node's six cells are there. -/
theorem InnX.room {W : World} {R Ri : List Nat} {rest en ex : List (Job A)} {n g k : Nat} {kid : Nat → A} {fv : Value} {l : List XR} {junk : List Value} {gL cap NB : Nat} (h : InnX fT count tL tJ Src Kp New P W R Ri rest en ex ⟨n, kid, fv, g⟩ l junk gL cap NB) (hk : l.length = k) (hlt : k < n) :
    (∀ j, W.frozen? ⟨g, j, none⟩ = false) ∧ (∃ u, W.cell? ⟨g, k * 6, none⟩ = some u) ∧ (∃ u, W.cell? ⟨g, k * 6 + 1, none⟩ = some u) ∧ (∃ u, W.cell? ⟨g, k * 6 + 2, none⟩ = some u) ∧ (∃ u, W.cell? ⟨g, k * 6 + 3, none⟩ = some u) ∧ (∃ u, W.cell? ⟨g, k * 6 + 4, none⟩ = some u) ∧ (∃ u, W.cell? ⟨g, k * 6 + 5, none⟩ = some u) := by
  have hr : W.ownsRow 0 32 6 (.slice (some ⟨g, 0, none⟩) n n) n (xrows l ++ junk) := h.row
  have hcl : ∀ j, j < 6 → ∃ u, W.cell? ⟨g, k * 6 + j, none⟩ = some u := by
    intro j hj
    have h2 := h.rowl
    simp only at h2
    have hl : k * 6 + j < (xrows l ++ junk).length := by rw [List.length_append, xrows_length, hk]; omega
    exact ⟨_, (hr.cellAt (k * 6 + j) (by omega)).trans (List.getElem?_eq_getElem hl)⟩
  exact ⟨fun j => hr.frozenAt j, hcl 0 (by omega), hcl 1 (by omega), hcl 2 (by omega), hcl 3 (by omega), hcl 4 (by omega), hcl 5 (by omega)⟩

/-- What leaves all that is there. -/
theorem InnX.below {W W' : World} {R Ri : List Nat} {rest en ex : List (Job A)} {e : Job A} {l : List XR} {junk : List Value} {gL cap NB : Nat} (hE : Env Kp New) (h : InnX fT count tL tJ Src Kp New P W R Ri rest en ex e l junk gL cap NB) (hb : Below W.heap.size W W') : InnX fT count tL tJ Src Kp New P W' R Ri rest en ex e l junk gL cap NB :=
  ⟨hE.fr h.keep (Fr.below hb []) (fun x hx => by simp at hx), (hb.block _ h.lt.2).trans h.nb, h.nbn, h.wand.same (fun x hx => hb.block x (h.new x (by simp [hx])).2.2.2), h.wandi.same (fun x hx => hb.block x (h.new x (by simp [hx])).2.2.2), h.ks, h.nd,
    fun x hx => ⟨(h.new x hx).1, (h.new x hx).2.1, (h.new x hx).2.2.1, Nat.lt_of_lt_of_le (h.new x hx).2.2.2 hb.size⟩, h.left, fun e' he' => (h.holes e' he').same (hb.block _ (h.gIn he').2.2.2.1), h.src, own_sameG h.row (hb.block _ h.gOf.2.2.2), h.rowl, own_sameG h.own (hb.block _ h.lt.1), h.tot⟩

/-- A row more is left. -/
theorem InnX.push {W W1 W3 : World} {R Ri : List Nat} {rest en : List (Job A)} {e : Job A} {l : List XR} {junk zs : List Value} {gL cap cap' gg NB n : Nat} {kd : Nat → A} {fv : Value} {o : Obj} (hE : Env Kp New) (h : InnX fT count tL tJ Src Kp New P W R Ri rest en [] e l junk gL cap NB)
    (h1 : W.grownBy W1 none) (hh : W1.ownsRow 0 32 6 (.slice (some ⟨W.heap.size, 0, none⟩) n n) n zs) (hz : zs.length = n * 6) (h3 : (W1.alloc o).grownBy W3 (some gL)) (hat : gL = gg ∨ gg = W1.heap.size + 1)
    (hown : W3.ownsRow 0 tL 2 (.slice (some ⟨gg, 0, none⟩) ((rest ++ (en ++ [])).length + 1) cap') ((rest ++ (en ++ [])).length + 1) (jrows (rest ++ (en ++ [])) ++ [fv, .slice (some ⟨W.heap.size, 0, none⟩) n n]))
    (hs : Src ⟨n, kd, fv, W.heap.size⟩) (hn : 0 < n) : InnX fT count tL tJ Src Kp New P W3 R Ri rest en [⟨n, kd, fv, W.heap.size⟩] e l junk gg cap' NB := by
  have hl := h.lt
  have hgW1 : W.heap.size < W1.heap.size := (hh.lt _ rfl).2
  have hsz : (W1.alloc o).heap.size = W1.heap.size + 1 := by simp
  have hs3 := h3.size
  have keep : ∀ x, x < W1.heap.size → x ≠ gL → W3.heap[x]? = W1.heap[x]? := fun x hx hne => (h3.block x (by omega) (by intro e; injection e with e; exact hne e)).trans (Below.heap_alloc W1 o x hx)
  have keep0 : ∀ x, x < W.heap.size → x ≠ gL → W3.heap[x]? = W.heap[x]? := fun x hx hne => (keep x (by omega) hne).trans (h1.block x hx (by simp))
  have hfr : Fr [gL] W W3 := (Fr.grown h1 (by simp)).trans ((Fr.below ((Below.refl _ _).alloc (Nat.le_refl _) o) _).trans (Fr.grown h3 (by simp)))
  have hgg : New gg ∧ gg ≠ W.heap.size ∧ (gg = gL ∨ W1.heap.size ≤ gg) ∧ gg ≠ NB := by
    rcases hat with rfl | rfl
    · exact ⟨h.left, by omega, .inl rfl, fun e => h.nbn.2 e.symm⟩
    · exact ⟨hE.new h.keep (by omega), by omega, .inr (by omega), by omega⟩
  have hne : ∀ x, x < W.heap.size → x ≠ gL → x ≠ gg := by
    intro x hx hx2
    rcases hgg.2.2.1 with e | e
    · rw [e]; exact hx2
    · omega
  have hp : (R ++ (Ri ++ (e.g :: (rest ++ (en ++ [(⟨n, kd, fv, W.heap.size⟩ : Job A)])).map Job.g))).Perm (W.heap.size :: (R ++ (Ri ++ (e.g :: (rest ++ (en ++ [])).map Job.g)))) := by
    rw [List.perm_iff_count]
    intro x
    simp only [List.map_append, List.map_cons, List.map_nil, List.append_nil, List.count_append, List.count_cons, List.count_nil]
    omega
  refine ⟨hE.fr h.keep hfr (fun x hx => by simp only [List.mem_singleton] at hx; subst hx; exact h.left), (keep0 _ hl.2 h.nbn.2).trans h.nb, ⟨h.nbn.1, fun e => hgg.2.2.2 e.symm⟩, h.wand.same (fun x hx => ?_), h.wandi.same (fun x hx => ?_), h.ks, ?_, ?_, hgg.1, ?_, ?_, ?_, h.rowl, ?_, h.tot⟩
  · have := h.new x (by simp [hx]); exact keep0 x this.2.2.2 this.2.1
  · have := h.new x (by simp [hx]); exact keep0 x this.2.2.2 this.2.1
  · rw [hp.nodup_iff, List.nodup_cons]
    exact ⟨fun hx => by have := (h.new _ hx).2.2.2; omega, h.nd⟩
  · intro x hx
    have hx' : x = W.heap.size ∨ x ∈ R ++ (Ri ++ (e.g :: (rest ++ (en ++ [])).map Job.g)) := List.mem_cons.1 (hp.mem_iff.1 hx)
    rcases hx' with rfl | hx'
    · exact ⟨hE.new h.keep (Nat.le_refl _), fun e => hgg.2.1 e.symm, by omega, by omega⟩
    · obtain ⟨a, b, c, d⟩ := h.new x hx'
      exact ⟨a, hne x d b, c, by omega⟩
  · intro e' he'
    have he2 : e' = ⟨n, kd, fv, W.heap.size⟩ ∨ e' ∈ rest ++ (en ++ []) := by
      simp only [List.mem_append, List.mem_singleton, List.append_nil] at he' ⊢
      rcases he' with h | h | h
      · exact .inr (.inl h)
      · exact .inr (.inr h)
      · exact .inl h
    rcases he2 with rfl | he2
    · exact ⟨zs, hz, own_sameG hh (keep W.heap.size hgW1 (by omega))⟩
    · exact (h.holes e' he2).same (keep0 _ (h.gIn he2).2.2.2.1 (h.gIn he2).2.1)
  · intro e' he'
    have he2 : e' = ⟨n, kd, fv, W.heap.size⟩ ∨ e' ∈ rest ++ (en ++ []) := by
      simp only [List.mem_append, List.mem_singleton, List.append_nil] at he' ⊢
      rcases he' with h | h | h
      · exact .inr (.inl h)
      · exact .inr (.inr h)
      · exact .inl h
    rcases he2 with rfl | he2
    · exact ⟨hs, hn⟩
    · exact h.src e' he2
  · exact own_sameG h.row (keep0 _ h.gOf.2.2.2 h.gOf.2.1)
  · have e1 : (rest ++ (en ++ [(⟨n, kd, fv, W.heap.size⟩ : Job A)])).length = (rest ++ (en ++ [])).length + 1 := by simp; omega
    have e2 : jrows (rest ++ (en ++ [(⟨n, kd, fv, W.heap.size⟩ : Job A)])) = jrows (rest ++ (en ++ [])) ++ [fv, .slice (some ⟨W.heap.size, 0, none⟩) n n] := by
      simp [jrows, Job.cells, Job.tv]
    rw [e1, e2]
    exact hown

/-- A node is stored. -/
theorem InnX.store {Wm W : World} {R Ri : List Nat} {rest en ex : List (Job A)} {e : Job A} {l : List XR} {junk : List Value} {gL cap NB : Nat} {sv v : Value} {set : List Int} (hE : Env Kp New) (h : InnX fT count tL tJ Src Kp New P Wm R Ri rest en ex e l junk gL cap NB) (hb : Below Wm.heap.size Wm W) (hs : Own W Wm.heap.size sv set) (hlt : l.length < e.len)
    (hw : WandX W (Ri ++ sv.ownBlock.toList) ((en ++ ex).map (Job.ent fT)) (RowsX (fun i => fT (e.kid i)) (l ++ [(fT (e.kid l.length), sv, v)]))) (hc : totalJ count ex + 1 = count (e.kid l.length)) :
    InnX fT count tL tJ Src Kp New P (st6 W e.g (l.length * 6) (fT (e.kid l.length)) sv v) R (Ri ++ sv.ownBlock.toList) rest (en ++ ex) [] e (l ++ [(fT (e.kid l.length), sv, v)]) (junk.drop 6) gL cap NB := by
  have hbs := hb.size
  have h' := h.below hE hb
  obtain ⟨q, g⟩ := stored6 h'.row (by have := h.rowl; omega) (fT (e.kid l.length)) sv v
  have hblk : ∀ x, x < W.heap.size → x ≠ e.g → (st6 W e.g (l.length * 6) (fT (e.kid l.length)) sv v).heap[x]? = W.heap[x]? := fun x hx hne => g.block x hx (by intro e; injection e with e; exact hne e)
  have hsv : ∀ x ∈ sv.ownBlock.toList, Wm.heap.size ≤ x ∧ x < W.heap.size := fun x hx => World.ownsRow.lt hs x (by simpa using hx)
  have hnd := h.nd
  have hneg : ∀ x ∈ R ++ Ri, x ≠ e.g := by
    intro x hx heq
    subst heq
    have h1 := List.nodup_append.1 hnd
    have h2 := List.nodup_append.1 h1.2.1
    rcases List.mem_append.1 hx with hx | hx
    · exact h1.2.2 _ hx _ (by simp) rfl
    · exact h2.2.2 _ hx _ (by simp) rfl
  have hp : (R ++ ((Ri ++ sv.ownBlock.toList) ++ (e.g :: (rest ++ ((en ++ ex) ++ [])).map Job.g))).Perm (sv.ownBlock.toList ++ (R ++ (Ri ++ (e.g :: (rest ++ (en ++ ex)).map Job.g)))) := by
    rw [List.perm_iff_count]
    intro x
    simp only [List.append_nil, List.count_append, List.count_cons]
    omega
  refine ⟨hE.fr h'.keep (Fr.grown (C := [e.g]) g (by simp)) (fun x hx => by simp only [List.mem_singleton] at hx; subst hx; exact h.gOf.1), (hblk _ h'.lt.2 (fun e => h.gOf.2.2.1 e.symm)).trans h'.nb, h.nbn, h'.wand.same (fun x hx => hblk x (h'.new x (by simp [hx])).2.2.2 (hneg x (by simp [hx]))), hw.same (fun x hx => ?_), ?_, ?_, ?_, h.left, ?_, ?_, q, ?_, ?_, ?_⟩
  · rcases List.mem_append.1 hx with hx | hx
    · exact hblk x (h'.new x (by simp [hx])).2.2.2 (hneg x (by simp [hx]))
    · exact hblk x (hsv x hx).2 (fun e => by have := (hsv x hx).1; have := h.gOf.2.2.2; omega)
  · exact h.ks.snoc (sv, v)
  · rw [hp.nodup_iff, List.nodup_append]
    refine ⟨?_, hnd, fun a ha b hb heq => ?_⟩
    · cases sv.ownBlock <;> simp
    · have := (hsv a ha).1
      have := (h.new b hb).2.2.2
      omega
  · intro x hx
    have hx' : x ∈ sv.ownBlock.toList ∨ x ∈ R ++ (Ri ++ (e.g :: (rest ++ (en ++ ex)).map Job.g)) := List.mem_append.1 (hp.mem_iff.1 hx)
    have hg2 := g.size
    rcases hx' with hx' | hx'
    · have h1 := hsv x hx'
      have h2 := h.lt
      exact ⟨hE.new h.keep h1.1, by omega, by omega, by omega⟩
    · obtain ⟨a, b, c, d⟩ := h'.new x hx'
      exact ⟨a, b, c, by omega⟩
  · intro e' he'
    have he2 : e' ∈ rest ++ (en ++ ex) := by simpa using he'
    exact (h'.holes e' he2).same (hblk _ (h'.gIn he2).2.2.2.1 (h'.gIn he2).2.2.2.2)
  · intro e' he'
    exact h.src e' (by simpa using he')
  · rw [List.length_append, List.length_drop]; have := h.rowl; simp; omega
  · simp only [List.append_nil]
    exact own_sameG h'.own (hblk _ h'.lt.1 (fun e => h.gOf.2.1 e.symm))
  · rw [totalJ_append, List.length_append]
    have := h.tot
    simp only [List.length_cons, List.length_nil, sumJ]
    omega

/-- The row is filled. -/
theorem InnX.done {W : World} {R Ri : List Nat} {rest en : List (Job A)} {e : Job A} {l : List XR} {junk : List Value} {gL cap NB : Nat} (h : InnX fT count tL tJ Src Kp New P W R Ri rest en [] e l junk gL cap NB) (hl : l.length = e.len) :
    RemX fT tL Src Kp New P W (R ++ e.g :: Ri) (rest ++ en) gL cap ∧ totalJ count (rest ++ en) + e.len = totalJ count (rest ++ [e]) := by
  have hj : junk = [] := List.eq_nil_of_length_eq_zero (by have := h.rowl; omega)
  have hrow := h.row
  rw [hj, List.append_nil] at hrow
  have hw := h.wand
  rw [List.map_append] at hw
  have h2 := WandX.filled (g := e.g) (cap := e.len) (n := e.len) (kid := fun i => fT (e.kid i)) (l := l) hw h.wandi h.ks hl hrow
  rw [← List.map_append] at h2
  have hp : ((R ++ e.g :: Ri) ++ (rest ++ en).map Job.g).Perm (R ++ (Ri ++ (e.g :: (rest ++ (en ++ [])).map Job.g))) := by
    rw [List.perm_iff_count]
    intro x
    simp only [List.append_nil, List.count_append, List.count_cons]
    omega
  refine ⟨⟨h.keep, h2, ?_, ?_, h.left, ?_, ?_, ?_⟩, ?_⟩
  · exact hp.nodup_iff.2 h.nd
  · intro x hx
    have hx' : x ∈ R ++ (Ri ++ (e.g :: (rest ++ (en ++ [])).map Job.g)) := hp.mem_iff.1 hx
    obtain ⟨a, b, c, d⟩ := h.new x hx'
    exact ⟨a, b, d⟩
  · intro e' he'
    exact h.holes e' (by simpa using he')
  · intro e' he'
    exact h.src e' (by simpa using he')
  · have := h.own
    simpa using this
  · rw [totalJ_append, totalJ_append, totalJ_one]
    have h1 := h.tot
    rw [hl] at h1
    unfold Job.total
    omega

/-- The first row, of one. -/
theorem RemX.start {W : World} {e : Job A} {gL cap : Nat} (hk : Kp W) (hn : New e.g ∧ e.g ≠ gL ∧ e.g < W.heap.size) (hg : New gL) (hh : HoleX W e) (hs : Src e ∧ 0 < e.len) (hown : W.ownsRow 0 tL 2 (.slice (some ⟨gL, 0, none⟩) 1 cap) 1 e.cells) :
    RemX fT tL Src Kp New (fun w' S => XsOwn w' e.len (fun i => fT (e.kid i)) e.tv S) W [] [e] gL cap :=
  ⟨hk, Wand.start XsOwn W (e.ent fT), by simp, fun x hx => by simp at hx; subst hx; exact hn, hg, fun e' he => by simp at he; subst he; exact hh, fun e' he => by simp at he; subst he; exact hs, by simpa [jrows] using hown⟩
theorem RemX.end {W : World} {R : List Nat} {gL cap : Nat} (h : RemX fT tL Src Kp New P W R [] gL cap) : ∃ S, P W S ∧ S.Nodup ∧ ∀ x ∈ S, New x := by
  obtain ⟨S, h1, h2⟩ := Wand.done h.wand
  have hnd := h.nd
  simp only [List.map_nil, List.append_nil] at hnd
  exact ⟨S, h1, h2.nodup_iff.2 hnd, fun x hx => (h.new x (by simp [h2.mem_iff.1 hx])).1⟩
end Go.Proofs.YtlclfmjpnchmbaaGreat

/- impl.setTurned, and the closure of impl.turnAll: one node, its set turned. Condition: a set of at most 2^22. -/
namespace Go.Proofs.YtlclfmjpnchmbaaGreat
open Go.ChangeShapes Go.WideShapes Go.ChangeAt Go.RowKit

end Go.Proofs.YtlclfmjpnchmbaaGreat
