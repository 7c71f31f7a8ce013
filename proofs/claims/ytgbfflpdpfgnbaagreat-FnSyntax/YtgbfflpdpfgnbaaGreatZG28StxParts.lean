/- Rows that are owned: the last elements left off; their room; a row that is new. No conditions. -/
import Derived.Test.YtgbfflpdpfgnbaaGreatRows
import Derived.Test.YtgbfflpdpfgnbaaGreatZG3SpecStart
import Derived.Test.YtgbfflpdpfgnbaaGreatZG27HolesX
import Derived.Test.YtgbfflpdpfgnbaaGreatZG1StxOwn
import Derived.WalkKit
import Derived.ProofKit
import Derived.OwnWalk
import Derived.Laws.OwnMore
import Derived.Laws.ResultCell
namespace Go.Proofs.YtgbfflpdpfgnbaaGreat
open Go.ChangeShapes Go.WideShapes Go.ChangeAt Go.RowKit

/-- A row of which the last elements are left off. -/
theorem own_cut {w : World} {base e size g n m cap : Nat} {xs ys : List Value} (h : w.ownsRow base e size (.slice (some ⟨g, 0, none⟩) m cap) m (xs ++ ys)) (hx : xs.length = n * size) (hm : n ≤ m) :
    w.ownsRow base e size (.slice (some ⟨g, 0, none⟩) n cap) n xs := by
  refine ⟨hx, ?_⟩
  rcases h.2 with ⟨h0, _⟩ | ⟨g', cap', cur, he, hbg, hgg, hc, hmx, hs, ht⟩
  · cases h0
  · injection he with h1 h2 h3
    injection h1 with h1
    injection h1 with h1
    subst h1 h3
    refine .inr ⟨_, _, cur, rfl, hbg, hgg, by omega, hmx, hs, ?_⟩
    have h9 := congrArg (List.take (n * size)) ht
    rw [List.take_take, Nat.min_eq_left (Nat.mul_le_mul_right _ hm), List.take_append_of_le_length (by omega)] at h9
    rw [h9, List.take_of_length_le (by omega)]

theorem own_room {w : World} {base e size g n cap : Nat} {xs : List Value} (h : w.ownsRow base e size (.slice (some ⟨g, 0, none⟩) n cap) n xs) : n ≤ cap ∧ cap ≤ maxLen ∧ base ≤ g ∧ g < w.heap.size := by
  rcases h.2 with ⟨h0, _⟩ | ⟨g', cap', cur, he, hbg, hgg, hc, hmx, hs, ht⟩
  · cases h0
  · injection he with h1 h2 h3
    injection h1 with h1
    injection h1 with h1
    subst h1 h3
    exact ⟨hc, hmx, hbg, (Array.getElem?_eq_some_iff.1 hgg).1⟩

/-- A row that is one block. -/
theorem own_new {w : World} {base e size cap g n : Nat} {cs : Array Value} {xs : List Value} (hcs : cs.toList = xs) (hg : w.heap.size = g) (hb : base ≤ g) (hl : xs.length = n * size) (hc : n = cap) (hm : cap ≤ maxLen) :
    (w.alloc (.cells cs e)).ownsRow base e size (.slice (some ⟨g, 0, none⟩) n cap) n xs := by
  subst hc hg hcs
  exact ⟨hl, .inr ⟨w.heap.size, n, cs, rfl, hb, heap_alloc_new w _, Nat.le_refl _, hm, by simpa using hl, by rw [← hl]; exact List.take_length⟩⟩
end Go.Proofs.YtgbfflpdpfgnbaaGreat

/- What is written that is being made of another tree, row by row: the state between the rounds. No conditions. -/
namespace Go.Proofs.YtgbfflpdpfgnbaaGreat
open Go.ChangeShapes Go.WideShapes Go.ChangeAt Go.RowKit

/-- A row that is there, not yet filled. -/
def HoleX {A : Type} (W : World) (e : Job A) : Prop := ∃ junk : List Value, junk.length = e.len * 6 ∧ W.ownsRow 0 32 6 e.tv e.len junk
theorem HoleX.same {A : Type} {W W' : World} {e : Job A} (h : HoleX W e) (hs : W'.heap[e.g]? = W.heap[e.g]?) : HoleX W' e := by
  obtain ⟨junk, h1, h2⟩ := h
  exact ⟨junk, h1, own_sameG h2 hs⟩

/-- Between two rows. -/
structure RemX {A : Type} (fT : A → X) (tL : TypeId) (Src : Job A → Prop) (Kp : World → Prop) (New : Nat → Prop) (P : World → List Nat → Prop) (W : World) (R : List Nat) (st : List (Job A)) (gL cap : Nat) : Prop where
  keep : Kp W
  wand : WandX W R (st.map (Job.ent fT)) P
  nd : (R ++ st.map Job.g).Nodup
  new : ∀ x ∈ R ++ st.map Job.g, New x ∧ x ≠ gL ∧ x < W.heap.size
  left : New gL
  holes : ∀ e ∈ st, HoleX W e
  src : ∀ e ∈ st, Src e ∧ 0 < e.len
  own : W.ownsRow 0 tL 2 (.slice (some ⟨gL, 0, none⟩) st.length cap) st.length (jrows st)

/-- Within a row: its first l are filled. -/
structure InnX {A : Type} (fT : A → X) (count : A → Nat) (tL tJ : TypeId) (Src : Job A → Prop) (Kp : World → Prop) (New : Nat → Prop) (P : World → List Nat → Prop) (W : World) (R Ri : List Nat) (rest en ex : List (Job A)) (e : Job A) (l : List XR) (junk : List Value) (gL cap NB : Nat) : Prop where
  keep : Kp W
  nb : W.heap[NB]? = some (.cells #[e.fv, e.tv] tJ (0, 0))
  nbn : New NB ∧ NB ≠ gL
  wand : WandX W R ((rest ++ [e]).map (Job.ent fT)) P
  wandi : WandX W Ri (en.map (Job.ent fT)) (RowsX (fun i => fT (e.kid i)) l)
  ks : XKs (fun i => fT (e.kid i)) l
  nd : (R ++ (Ri ++ (e.g :: (rest ++ (en ++ ex)).map Job.g))).Nodup
  new : ∀ x ∈ R ++ (Ri ++ (e.g :: (rest ++ (en ++ ex)).map Job.g)), New x ∧ x ≠ gL ∧ x ≠ NB ∧ x < W.heap.size
  left : New gL
  holes : ∀ e' ∈ rest ++ (en ++ ex), HoleX W e'
  src : ∀ e' ∈ rest ++ (en ++ ex), Src e' ∧ 0 < e'.len
  row : W.ownsRow 0 32 6 e.tv e.len (xrows l ++ junk)
  rowl : l.length * 6 + junk.length = e.len * 6
  own : W.ownsRow 0 tL 2 (.slice (some ⟨gL, 0, none⟩) (rest ++ (en ++ ex)).length cap) (rest ++ (en ++ ex)).length (jrows (rest ++ (en ++ ex)))
  tot : totalJ count en + l.length = sumJ (fun i => count (e.kid i)) l.length

variable {A : Type} {fT : A → X} {count : A → Nat} {tL tJ : TypeId} {Src : Job A → Prop} {Kp : World → Prop} {New : Nat → Prop} {P : World → List Nat → Prop}

/-- A row is taken. -/
theorem RemX.pop {W : World} {R : List Nat} {rest : List (Job A)} {e : Job A} {gL cap : Nat} (hE : Env Kp New) (h : RemX fT tL Src Kp New P W R (rest ++ [e]) gL cap) :
    ∃ junk, InnX fT count tL tJ Src Kp New P (W.alloc (.cells #[e.fv, e.tv] tJ)) R [] rest [] [] e [] junk gL cap W.heap.size := by
  have hf : Below W.heap.size W (W.alloc (.cells #[e.fv, e.tv] tJ)) := (Below.refl _ _).alloc (Nat.le_refl _) _
  have hmem : ∀ x, x ∈ R ++ ([] ++ (e.g :: (rest ++ ([] ++ [])).map Job.g)) → x ∈ R ++ (rest ++ [e]).map Job.g := by
    intro x hx
    simp only [List.nil_append, List.append_nil, List.mem_append, List.mem_cons, List.map_append, List.map_cons, List.map_nil, List.not_mem_nil, or_false] at hx ⊢
    rcases hx with h | h | h
    · exact .inl h
    · exact .inr (.inr h)
    · exact .inr (.inl h)
  have hsz : (W.alloc (.cells #[e.fv, e.tv] tJ)).heap.size = W.heap.size + 1 := by simp
  obtain ⟨junk, hj1, hj2⟩ := h.holes e (by simp)
  have hgl : gL < W.heap.size := (h.own.lt _ rfl).2
  refine ⟨junk, hE.fr h.keep (Fr.below hf []) (fun x hx => by simp at hx), heap_alloc_new W _, ⟨hE.new h.keep (Nat.le_refl _), by omega⟩, h.wand.same (fun x hx => hf.block x (h.new x (by simp [hx])).2.2), ?_, XKs.nil _, ?_, ?_, h.left, ?_, ?_, ?_, by simpa using hj1, ?_, by simp [totalJ, sumJ]⟩
  · intro w' SS _ hF
    cases SS with
    | nil => exact ⟨[], RowsX.nil _ _, by simp⟩
    | cons x xs => exact hF.elim
  · have hp : (R ++ ([] ++ (e.g :: (rest ++ ([] ++ [])).map Job.g))).Perm (R ++ (rest ++ [e]).map Job.g) := by
      simp only [List.nil_append, List.append_nil, List.map_append, List.map_cons, List.map_nil]
      exact List.Perm.append_left R (List.perm_append_singleton e.g (rest.map Job.g)).symm
    exact hp.nodup_iff.2 h.nd
  · intro x hx
    obtain ⟨h1, h2, h3⟩ := h.new x (hmem x hx)
    exact ⟨h1, h2, by omega, by omega⟩
  · intro e' he'
    simp only [List.append_nil] at he'
    exact (h.holes e' (by simp [he'])).same (hf.block _ (h.new e'.g (List.mem_append_right _ (List.mem_map_of_mem (by simp [he'])))).2.2)
  · intro e' he'
    simp only [List.append_nil] at he'
    exact h.src e' (by simp [he'])
  · exact own_sameG hj2 (hf.block _ (h.new e.g (List.mem_append_right _ (List.mem_map_of_mem (by simp)))).2.2)
  · have hown := h.own
    rw [jrows_append] at hown
    have := own_cut (n := rest.length) hown (by rw [jrows_length]) (by simp)
    simp only [List.append_nil]
    exact own_sameG this (hf.block _ hgl)

theorem InnX.lt {W : World} {R Ri : List Nat} {rest en ex : List (Job A)} {e : Job A} {l : List XR} {junk : List Value} {gL cap NB : Nat} (h : InnX fT count tL tJ Src Kp New P W R Ri rest en ex e l junk gL cap NB) : gL < W.heap.size ∧ NB < W.heap.size :=
  ⟨(h.own.lt _ rfl).2, (Array.getElem?_eq_some_iff.1 h.nb).1⟩

theorem InnX.gOf {W : World} {R Ri : List Nat} {rest en ex : List (Job A)} {e : Job A} {l : List XR} {junk : List Value} {gL cap NB : Nat} (h : InnX fT count tL tJ Src Kp New P W R Ri rest en ex e l junk gL cap NB) : New e.g ∧ e.g ≠ gL ∧ e.g ≠ NB ∧ e.g < W.heap.size := h.new e.g (by simp)
theorem InnX.gIn {W : World} {R Ri : List Nat} {rest en ex : List (Job A)} {e e' : Job A} {l : List XR} {junk : List Value} {gL cap NB : Nat} (h : InnX fT count tL tJ Src Kp New P W R Ri rest en ex e l junk gL cap NB) (he : e' ∈ rest ++ (en ++ ex)) : New e'.g ∧ e'.g ≠ gL ∧ e'.g ≠ NB ∧ e'.g < W.heap.size ∧ e'.g ≠ e.g := by
  obtain ⟨a, b, c, d⟩ := h.new e'.g (List.mem_append_right _ (List.mem_append_right _ (List.mem_cons_of_mem _ (List.mem_map_of_mem he))))
  refine ⟨a, b, c, d, fun heq => ?_⟩
  have h1 := (List.nodup_append.1 h.nd).2.1
  have h2 := (List.nodup_append.1 h1).2.1
  rw [List.nodup_cons] at h2
  exact h2.1 (heq ▸ List.mem_map_of_mem he)

/-- The next node's six cells are there. -/
theorem InnX.room {W : World} {R Ri : List Nat} {rest en ex : List (Job A)} {n g k : Nat} {kid : Nat → A} {fv : Value} {l : List XR} {junk : List Value} {gL cap NB : Nat} (h : InnX fT count tL tJ Src Kp New P W R Ri rest en ex ⟨n, kid, fv, g⟩ l junk gL cap NB) (hk : l.length = k) (hlt : k < n) :
    (∀ j, W.frozen? ⟨g, j, none⟩ = false) ∧ (∃ u, W.cell? ⟨g, k * 6, none⟩ = some u) ∧ (∃ u, W.cell? ⟨g, k * 6 + 1, none⟩ = some u) ∧ (∃ u, W.cell? ⟨g, k * 6 + 2, none⟩ = some u) ∧ (∃ u, W.cell? ⟨g, k * 6 + 3, none⟩ = some u) ∧ (∃ u, W.cell? ⟨g, k * 6 + 4, none⟩ = some u) ∧ (∃ u, W.cell? ⟨g, k * 6 + 5, none⟩ = some u) := by
  have hr : W.ownsRow 0 32 6 (.slice (some ⟨g, 0, none⟩) n n) n (xrows l ++ junk) := h.row
  have hcl : ∀ j, j < 6 → ∃ u, W.cell? ⟨g, k * 6 + j, none⟩ = some u := by
    intro j hj
    have h2 := h.rowl
    simp only at h2
    have hl : k * 6 + j < (xrows l ++ junk).length := by rw [List.length_append, xrows_length, hk]; omega
    exact ⟨_, (hr.cellAt (k * 6 + j) (by omega)).trans (List.getElem?_eq_getElem hl)⟩
  exact ⟨fun j => hr.frozenAt j, hcl 0 (by omega), hcl 1 (by omega), hcl 2 (by omega), hcl 3 (by omega), hcl 4 (by omega), hcl 5 (by omega)⟩

/-- What leaves all that is there. -/
theorem InnX.below {W W' : World} {R Ri : List Nat} {rest en ex : List (Job A)} {e : Job A} {l : List XR} {junk : List Value} {gL cap NB : Nat} (hE : Env Kp New) (h : InnX fT count tL tJ Src Kp New P W R Ri rest en ex e l junk gL cap NB) (hb : Below W.heap.size W W') : InnX fT count tL tJ Src Kp New P W' R Ri rest en ex e l junk gL cap NB :=
  ⟨hE.fr h.keep (Fr.below hb []) (fun x hx => by simp at hx), (hb.block _ h.lt.2).trans h.nb, h.nbn, h.wand.same (fun x hx => hb.block x (h.new x (by simp [hx])).2.2.2), h.wandi.same (fun x hx => hb.block x (h.new x (by simp [hx])).2.2.2), h.ks, h.nd,
    fun x hx => ⟨(h.new x hx).1, (h.new x hx).2.1, (h.new x hx).2.2.1, Nat.lt_of_lt_of_le (h.new x hx).2.2.2 hb.size⟩, h.left, fun e' he' => (h.holes e' he').same (hb.block _ (h.gIn he').2.2.2.1), h.src, own_sameG h.row (hb.block _ h.gOf.2.2.2), h.rowl, own_sameG h.own (hb.block _ h.lt.1), h.tot⟩

/-- A row more is left. -/
theorem InnX.push {W W1 W3 : World} {R Ri : List Nat} {rest en : List (Job A)} {e : Job A} {l : List XR} {junk zs : List Value} {gL cap cap' gg NB n : Nat} {kd : Nat → A} {fv : Value} {o : Obj} (hE : Env Kp New) (h : InnX fT count tL tJ Src Kp New P W R Ri rest en [] e l junk gL cap NB)
    (h1 : W.grownBy W1 none) (hh : W1.ownsRow 0 32 6 (.slice (some ⟨W.heap.size, 0, none⟩) n n) n zs) (hz : zs.length = n * 6) (h3 : (W1.alloc o).grownBy W3 (some gL)) (hat : gL = gg ∨ gg = W1.heap.size + 1)
    (hown : W3.ownsRow 0 tL 2 (.slice (some ⟨gg, 0, none⟩) ((rest ++ (en ++ [])).length + 1) cap') ((rest ++ (en ++ [])).length + 1) (jrows (rest ++ (en ++ [])) ++ [fv, .slice (some ⟨W.heap.size, 0, none⟩) n n]))
    (hs : Src ⟨n, kd, fv, W.heap.size⟩) (hn : 0 < n) : InnX fT count tL tJ Src Kp New P W3 R Ri rest en [⟨n, kd, fv, W.heap.size⟩] e l junk gg cap' NB := by
  have hl := h.lt
  have hgW1 : W.heap.size < W1.heap.size := (hh.lt _ rfl).2
  have hsz : (W1.alloc o).heap.size = W1.heap.size + 1 := by simp
  have hs3 := h3.size
  have keep : ∀ x, x < W1.heap.size → x ≠ gL → W3.heap[x]? = W1.heap[x]? := fun x hx hne => (h3.block x (by omega) (by intro e; injection e with e; exact hne e)).trans (Below.heap_alloc W1 o x hx)
  have keep0 : ∀ x, x < W.heap.size → x ≠ gL → W3.heap[x]? = W.heap[x]? := fun x hx hne => (keep x (by omega) hne).trans (h1.block x hx (by simp))
  have hfr : Fr [gL] W W3 := (Fr.grown h1 (by simp)).trans ((Fr.below ((Below.refl _ _).alloc (Nat.le_refl _) o) _).trans (Fr.grown h3 (by simp)))
  have hgg : New gg ∧ gg ≠ W.heap.size ∧ (gg = gL ∨ W1.heap.size ≤ gg) ∧ gg ≠ NB := by
    rcases hat with rfl | rfl
    · exact ⟨h.left, by omega, .inl rfl, fun e => h.nbn.2 e.symm⟩
    · exact ⟨hE.new h.keep (by omega), by omega, .inr (by omega), by omega⟩
  have hne : ∀ x, x < W.heap.size → x ≠ gL → x ≠ gg := by
    intro x hx hx2
    rcases hgg.2.2.1 with e | e
    · rw [e]; exact hx2
    · omega
  have hp : (R ++ (Ri ++ (e.g :: (rest ++ (en ++ [(⟨n, kd, fv, W.heap.size⟩ : Job A)])).map Job.g))).Perm (W.heap.size :: (R ++ (Ri ++ (e.g :: (rest ++ (en ++ [])).map Job.g)))) := by
    rw [List.perm_iff_count]
    intro x
    simp only [List.map_append, List.map_cons, List.map_nil, List.append_nil, List.count_append, List.count_cons, List.count_nil]
    omega
  refine ⟨hE.fr h.keep hfr (fun x hx => by simp only [List.mem_singleton] at hx; subst hx; exact h.left), (keep0 _ hl.2 h.nbn.2).trans h.nb, ⟨h.nbn.1, fun e => hgg.2.2.2 e.symm⟩, h.wand.same (fun x hx => ?_), h.wandi.same (fun x hx => ?_), h.ks, ?_, ?_, hgg.1, ?_, ?_, ?_, h.rowl, ?_, h.tot⟩
  · have := h.new x (by simp [hx]); exact keep0 x this.2.2.2 this.2.1
  · have := h.new x (by simp [hx]); exact keep0 x this.2.2.2 this.2.1
  · rw [hp.nodup_iff, List.nodup_cons]
    exact ⟨fun hx => by have := (h.new _ hx).2.2.2; omega, h.nd⟩
  · intro x hx
    have hx' : x = W.heap.size ∨ x ∈ R ++ (Ri ++ (e.g :: (rest ++ (en ++ [])).map Job.g)) := List.mem_cons.1 (hp.mem_iff.1 hx)
    rcases hx' with rfl | hx'
    · exact ⟨hE.new h.keep (Nat.le_refl _), fun e => hgg.2.1 e.symm, by omega, by omega⟩
    · obtain ⟨a, b, c, d⟩ := h.new x hx'
      exact ⟨a, hne x d b, c, by omega⟩
  · intro e' he'
    have he2 : e' = ⟨n, kd, fv, W.heap.size⟩ ∨ e' ∈ rest ++ (en ++ []) := by
      simp only [List.mem_append, List.mem_singleton, List.append_nil] at he' ⊢
      rcases he' with h | h | h
      · exact .inr (.inl h)
      · exact .inr (.inr h)
      · exact .inl h
    rcases he2 with rfl | he2
    · exact ⟨zs, hz, own_sameG hh (keep W.heap.size hgW1 (by omega))⟩
    · exact (h.holes e' he2).same (keep0 _ (h.gIn he2).2.2.2.1 (h.gIn he2).2.1)
  · intro e' he'
    have he2 : e' = ⟨n, kd, fv, W.heap.size⟩ ∨ e' ∈ rest ++ (en ++ []) := by
      simp only [List.mem_append, List.mem_singleton, List.append_nil] at he' ⊢
      rcases he' with h | h | h
      · exact .inr (.inl h)
      · exact .inr (.inr h)
      · exact .inl h
    rcases he2 with rfl | he2
    · exact ⟨hs, hn⟩
    · exact h.src e' he2
  · exact own_sameG h.row (keep0 _ h.gOf.2.2.2 h.gOf.2.1)
  · have e1 : (rest ++ (en ++ [(⟨n, kd, fv, W.heap.size⟩ : Job A)])).length = (rest ++ (en ++ [])).length + 1 := by simp; omega
    have e2 : jrows (rest ++ (en ++ [(⟨n, kd, fv, W.heap.size⟩ : Job A)])) = jrows (rest ++ (en ++ [])) ++ [fv, .slice (some ⟨W.heap.size, 0, none⟩) n n] := by
      simp [jrows, Job.cells, Job.tv]
    rw [e1, e2]
    exact hown

/-- A node is stored. -/
theorem InnX.store {Wm W : World} {R Ri : List Nat} {rest en ex : List (Job A)} {e : Job A} {l : List XR} {junk : List Value} {gL cap NB : Nat} {sv v : Value} {set : List Int} (hE : Env Kp New) (h : InnX fT count tL tJ Src Kp New P Wm R Ri rest en ex e l junk gL cap NB) (hb : Below Wm.heap.size Wm W) (hs : Own W Wm.heap.size sv set) (hlt : l.length < e.len)
    (hw : WandX W (Ri ++ sv.ownBlock.toList) ((en ++ ex).map (Job.ent fT)) (RowsX (fun i => fT (e.kid i)) (l ++ [(fT (e.kid l.length), sv, v)]))) (hc : totalJ count ex + 1 = count (e.kid l.length)) :
    InnX fT count tL tJ Src Kp New P (st6 W e.g (l.length * 6) (fT (e.kid l.length)) sv v) R (Ri ++ sv.ownBlock.toList) rest (en ++ ex) [] e (l ++ [(fT (e.kid l.length), sv, v)]) (junk.drop 6) gL cap NB := by
  have hbs := hb.size
  have h' := h.below hE hb
  obtain ⟨q, g⟩ := stored6 h'.row (by have := h.rowl; omega) (fT (e.kid l.length)) sv v
  have hblk : ∀ x, x < W.heap.size → x ≠ e.g → (st6 W e.g (l.length * 6) (fT (e.kid l.length)) sv v).heap[x]? = W.heap[x]? := fun x hx hne => g.block x hx (by intro e; injection e with e; exact hne e)
  have hsv : ∀ x ∈ sv.ownBlock.toList, Wm.heap.size ≤ x ∧ x < W.heap.size := fun x hx => World.ownsRow.lt hs x (by simpa using hx)
  have hnd := h.nd
  have hneg : ∀ x ∈ R ++ Ri, x ≠ e.g := by
    intro x hx heq
    subst heq
    have h1 := List.nodup_append.1 hnd
    have h2 := List.nodup_append.1 h1.2.1
    rcases List.mem_append.1 hx with hx | hx
    · exact h1.2.2 _ hx _ (by simp) rfl
    · exact h2.2.2 _ hx _ (by simp) rfl
  have hp : (R ++ ((Ri ++ sv.ownBlock.toList) ++ (e.g :: (rest ++ ((en ++ ex) ++ [])).map Job.g))).Perm (sv.ownBlock.toList ++ (R ++ (Ri ++ (e.g :: (rest ++ (en ++ ex)).map Job.g)))) := by
    rw [List.perm_iff_count]
    intro x
    simp only [List.append_nil, List.count_append, List.count_cons]
    omega
  refine ⟨hE.fr h'.keep (Fr.grown (C := [e.g]) g (by simp)) (fun x hx => by simp only [List.mem_singleton] at hx; subst hx; exact h.gOf.1), (hblk _ h'.lt.2 (fun e => h.gOf.2.2.1 e.symm)).trans h'.nb, h.nbn, h'.wand.same (fun x hx => hblk x (h'.new x (by simp [hx])).2.2.2 (hneg x (by simp [hx]))), hw.same (fun x hx => ?_), ?_, ?_, ?_, h.left, ?_, ?_, q, ?_, ?_, ?_⟩
  · rcases List.mem_append.1 hx with hx | hx
    · exact hblk x (h'.new x (by simp [hx])).2.2.2 (hneg x (by simp [hx]))
    · exact hblk x (hsv x hx).2 (fun e => by have := (hsv x hx).1; have := h.gOf.2.2.2; omega)
  · exact h.ks.snoc (sv, v)
  · rw [hp.nodup_iff, List.nodup_append]
    refine ⟨?_, hnd, fun a ha b hb heq => ?_⟩
    · cases sv.ownBlock <;> simp
    · have := (hsv a ha).1
      have := (h.new b hb).2.2.2
      omega
  · intro x hx
    have hx' : x ∈ sv.ownBlock.toList ∨ x ∈ R ++ (Ri ++ (e.g :: (rest ++ (en ++ ex)).map Job.g)) := List.mem_append.1 (hp.mem_iff.1 hx)
    have hg2 := g.size
    rcases hx' with hx' | hx'
    · have h1 := hsv x hx'
      have h2 := h.lt
      exact ⟨hE.new h.keep h1.1, by omega, by omega, by omega⟩
    · obtain ⟨a, b, c, d⟩ := h'.new x hx'
      exact ⟨a, b, c, by omega⟩
  · intro e' he'
    have he2 : e' ∈ rest ++ (en ++ ex) := by simpa using he'
    exact (h'.holes e' he2).same (hblk _ (h'.gIn he2).2.2.2.1 (h'.gIn he2).2.2.2.2)
  · intro e' he'
    exact h.src e' (by simpa using he')
  · rw [List.length_append, List.length_drop]; have := h.rowl; simp; omega
  · simp only [List.append_nil]
    exact own_sameG h'.own (hblk _ h'.lt.1 (fun e => h.gOf.2.1 e.symm))
  · rw [totalJ_append, List.length_append]
    have := h.tot
    simp only [List.length_cons, List.length_nil, sumJ]
    omega

/-- The row is filled. -/
theorem InnX.done {W : World} {R Ri : List Nat} {rest en : List (Job A)} {e : Job A} {l : List XR} {junk : List Value} {gL cap NB : Nat} (h : InnX fT count tL tJ Src Kp New P W R Ri rest en [] e l junk gL cap NB) (hl : l.length = e.len) :
    RemX fT tL Src Kp New P W (R ++ e.g :: Ri) (rest ++ en) gL cap ∧ totalJ count (rest ++ en) + e.len = totalJ count (rest ++ [e]) := by
  have hj : junk = [] := List.eq_nil_of_length_eq_zero (by have := h.rowl; omega)
  have hrow := h.row
  rw [hj, List.append_nil] at hrow
  have hw := h.wand
  rw [List.map_append] at hw
  have h2 := WandX.filled (g := e.g) (cap := e.len) (n := e.len) (kid := fun i => fT (e.kid i)) (l := l) hw h.wandi h.ks hl hrow
  rw [← List.map_append] at h2
  have hp : ((R ++ e.g :: Ri) ++ (rest ++ en).map Job.g).Perm (R ++ (Ri ++ (e.g :: (rest ++ (en ++ [])).map Job.g))) := by
    rw [List.perm_iff_count]
    intro x
    simp only [List.append_nil, List.count_append, List.count_cons]
    omega
  refine ⟨⟨h.keep, h2, ?_, ?_, h.left, ?_, ?_, ?_⟩, ?_⟩
  · exact hp.nodup_iff.2 h.nd
  · intro x hx
    have hx' : x ∈ R ++ (Ri ++ (e.g :: (rest ++ (en ++ [])).map Job.g)) := hp.mem_iff.1 hx
    obtain ⟨a, b, c, d⟩ := h.new x hx'
    exact ⟨a, b, d⟩
  · intro e' he'
    exact h.holes e' (by simpa using he')
  · intro e' he'
    exact h.src e' (by simpa using he')
  · have := h.own
    simpa using this
  · rw [totalJ_append, totalJ_append, totalJ_one]
    have h1 := h.tot
    rw [hl] at h1
    unfold Job.total
    omega

/-- The first row, of one. -/
theorem RemX.start {W : World} {e : Job A} {gL cap : Nat} (hk : Kp W) (hn : New e.g ∧ e.g ≠ gL ∧ e.g < W.heap.size) (hg : New gL) (hh : HoleX W e) (hs : Src e ∧ 0 < e.len) (hown : W.ownsRow 0 tL 2 (.slice (some ⟨gL, 0, none⟩) 1 cap) 1 e.cells) :
    RemX fT tL Src Kp New (fun w' S => XsOwn w' e.len (fun i => fT (e.kid i)) e.tv S) W [] [e] gL cap :=
  ⟨hk, Wand.start XsOwn W (e.ent fT), by simp, fun x hx => by simp at hx; subst hx; exact hn, hg, fun e' he => by simp at he; subst he; exact hh, fun e' he => by simp at he; subst he; exact hs, by simpa [jrows] using hown⟩
theorem RemX.end {W : World} {R : List Nat} {gL cap : Nat} (h : RemX fT tL Src Kp New P W R [] gL cap) : ∃ S, P W S ∧ S.Nodup ∧ ∀ x ∈ S, New x := by
  obtain ⟨S, h1, h2⟩ := Wand.done h.wand
  have hnd := h.nd
  simp only [List.map_nil, List.append_nil] at hnd
  exact ⟨S, h1, h2.nodup_iff.2 hnd, fun x hx => (h.new x (by simp [h2.mem_iff.1 hx])).1⟩
end Go.Proofs.YtgbfflpdpfgnbaaGreat

/- impl.partOf, impl.isSym, impl.datKids, impl.stxKids. No conditions. -/
namespace Go.Proofs.YtgbfflpdpfgnbaaGreat
open Go.ChangeShapes Go.WideShapes Go.ChangeAt Go.RowKit

/-- The type of a kind's part. -/
def PartT (op : Int) (T : TypeId) : Prop := (op = 1 ∧ T = 93) ∨ (op = 2 ∧ T = 95) ∨ (op = 3 ∧ T = 98) ∨ ((op ≠ 1 ∧ op ≠ 2 ∧ op ≠ 3) ∧ T = 111)

set_option maxRecDepth 100000 in
set_option maxHeartbeats 1000000 in
theorem part_of (op a n : Int) (s : ByteArray) (sv v : Value) (w : World) :
    Calls Tryz.prog 55 #[.agg #[.int .i64 op, .int .i64 a, .int .i64 n, .string s, sv, v]] w fun e w' => ∃ T, e = .returned (.iface T (.agg #[.int .i64 op, .int .i64 a, .int .i64 n, .string s, sv, v])) ∧ Below w.heap.size w w' ∧ PartT op T := by
  have HB : Hid (∀ o1, Below w.heap.size w (w.alloc o1)) := fun o1 => newx w _
  by_cases h1 : op = 1
  · subst h1
    go_enter Tryz.func55, Tryz.ntmps55
    go_wp2_with fail
    go_ret
    exact ⟨_, rfl, HB.out _, .inl ⟨rfl, rfl⟩⟩
  by_cases h2 : op = 2
  · subst h2
    go_enter Tryz.func55, Tryz.ntmps55
    go_wp2_with fail
    go_ret
    exact ⟨_, rfl, HB.out _, .inr (.inl ⟨rfl, rfl⟩)⟩
  by_cases h3 : op = 3
  · subst h3
    go_enter Tryz.func55, Tryz.ntmps55
    go_wp2_with fail
    go_ret
    exact ⟨_, rfl, HB.out _, .inr (.inr (.inl ⟨rfl, rfl⟩))⟩
  · have d1 : (op == 1) = false := by simpa using h1
    have d2 : (op == 2) = false := by simpa using h2
    have d3 : (op == 3) = false := by simpa using h3
    have HO : Hid (op ≠ 1 ∧ op ≠ 2 ∧ op ≠ 3) := ⟨h1, h2, h3⟩
    clear h1 h2 h3
    go_enter Tryz.func55, Tryz.ntmps55
    go_wp2_with fail
    go_ret
    exact ⟨_, rfl, HB.out _, .inr (.inr (.inr ⟨HO.out, rfl⟩))⟩

/-- A part is of the type asked for. -/
theorem assert_yes {P : Program} {t : TypeId} {fs : Array Field} (hu : P.underlying t = some (.struct fs)) (v : Value) (xT : TypeId) (w : World) : (Instr.typeAssert (.iface t v) xT t true).run P w = .ok (.tuple #[v, .bool true]) w := by
  simp [Instr.typeAssert, run_underlying hu, go_sem, Result.andThen]
/-- .. or of another. -/
theorem assert_no {P : Program} {t ty : TypeId} {fs : Array Field} {z : Value} (hu : P.underlying t = some (.struct fs)) (hz : (P.info? t).map (·.zero) = some (some z)) (hne : ty ≠ t) (v : Value) (xT : TypeId) (w : World) : (Instr.typeAssert (.iface ty v) xT t true).run P w = .ok (.tuple #[z, .bool false]) w := by
  obtain ⟨j, hj, hz'⟩ := Option.map_eq_some_iff.1 hz
  simp [Instr.typeAssert, run_underlying hu, hne, zeroValue, typeInfo, hj, hz']
/-- A part's zero. -/
abbrev zero6 : Value := .agg #[.int .i64 0, .int .i64 0, .int .i64 0, .string ⟨#[]⟩, .slice none 0 0, .slice none 0 0]
theorem is_numPart (v : Value) (w : World) : (Instr.typeAssert (.iface 93 v) 83 93 true).run Tryz.prog w = .ok (.tuple #[v, .bool true]) w := assert_yes Tryz.underlying93 v _ w
theorem no_numPart {ty : TypeId} (hne : ty ≠ 93) (v : Value) (w : World) : (Instr.typeAssert (.iface ty v) 83 93 true).run Tryz.prog w = .ok (.tuple #[zero6, .bool false]) w := assert_no Tryz.underlying93 (by kernel_rfl) hne v _ w
theorem is_symPart (v : Value) (w : World) : (Instr.typeAssert (.iface 95 v) 83 95 true).run Tryz.prog w = .ok (.tuple #[v, .bool true]) w := assert_yes Tryz.underlying95 v _ w
theorem no_symPart {ty : TypeId} (hne : ty ≠ 95) (v : Value) (w : World) : (Instr.typeAssert (.iface ty v) 83 95 true).run Tryz.prog w = .ok (.tuple #[zero6, .bool false]) w := assert_no Tryz.underlying95 (by kernel_rfl) hne v _ w
theorem is_listPart (v : Value) (w : World) : (Instr.typeAssert (.iface 98 v) 83 98 true).run Tryz.prog w = .ok (.tuple #[v, .bool true]) w := assert_yes Tryz.underlying98 v _ w
theorem no_listPart {ty : TypeId} (hne : ty ≠ 98) (v : Value) (w : World) : (Instr.typeAssert (.iface ty v) 83 98 true).run Tryz.prog w = .ok (.tuple #[zero6, .bool false]) w := assert_no Tryz.underlying98 (by kernel_rfl) hne v _ w

set_option maxRecDepth 100000 in
theorem kind_numPart (op a n : Int) (s : ByteArray) (sv v : Value) (w : World) :
    Calls Tryz.prog 125 #[.agg #[.int .i64 op, .int .i64 a, .int .i64 n, .string s, sv, v]] w fun e w' => e = .returned (.int .i64 1) ∧ Below w.heap.size w w' := by
  go_enter Tryz.func125, Tryz.ntmps125
  go_wp2_with fail
  go_ret
  exact ⟨rfl, newx _ _⟩
set_option maxRecDepth 100000 in
theorem kind_symPart (op a n : Int) (s : ByteArray) (sv v : Value) (w : World) :
    Calls Tryz.prog 126 #[.agg #[.int .i64 op, .int .i64 a, .int .i64 n, .string s, sv, v]] w fun e w' => e = .returned (.int .i64 2) ∧ Below w.heap.size w w' := by
  go_enter Tryz.func126, Tryz.ntmps126
  go_wp2_with fail
  go_ret
  exact ⟨rfl, newx _ _⟩
set_option maxRecDepth 100000 in
theorem kind_listPart (op a n : Int) (s : ByteArray) (sv v : Value) (w : World) :
    Calls Tryz.prog 127 #[.agg #[.int .i64 op, .int .i64 a, .int .i64 n, .string s, sv, v]] w fun e w' => e = .returned (.int .i64 3) ∧ Below w.heap.size w w' := by
  go_enter Tryz.func127, Tryz.ntmps127
  go_wp2_with fail
  go_ret
  exact ⟨rfl, newx _ _⟩
set_option maxRecDepth 100000 in
theorem kind_nonePart (op a n : Int) (s : ByteArray) (sv v : Value) (w : World) :
    Calls Tryz.prog 128 #[.agg #[.int .i64 op, .int .i64 a, .int .i64 n, .string s, sv, v]] w fun e w' => e = .returned (.int .i64 0) ∧ Below w.heap.size w w' := by
  go_enter Tryz.func128, Tryz.ntmps128
  go_wp2_with fail
  go_ret
  exact ⟨rfl, newx _ _⟩
set_option maxRecDepth 100000 in
set_option maxHeartbeats 1000000 in
theorem is_sym (op a n : Int) (s : ByteArray) (sv v : Value) (w : World) :
    Calls Tryz.prog 30 #[.agg #[.int .i64 op, .int .i64 a, .int .i64 n, .string s, sv, v]] w fun e w' => e = .returned (.bool (decide (op = 2))) ∧ Below w.heap.size w w' := by
  go_enter Tryz.func30, Tryz.ntmps30
  go_wp2_with fail
  refine (part_of op a n s sv v _).mono ?_
  rintro e w1 ⟨T, rfl, hb1, hT⟩
  have HB1 : Hid (Below w.heap.size w w1) := (newx w _).trans (hb1.mono (by simp))
  clear hb1
  rcases hT with ⟨h, rfl⟩ | ⟨h, rfl⟩ | ⟨h, rfl⟩ | ⟨⟨h1, h2, h3⟩, rfl⟩
  · have HR : Hid (decide (op = 2) = false) := decide_eq_false (by omega)
    clear h
    go_wp2_with fail
    refine (kind_numPart op a n s sv v _).mono ?_
    rintro e w2 ⟨rfl, hb2⟩
    have HB2 : Hid (Below w.heap.size w w2) := HB1.out.trans (hb2.mono HB1.out.size)
    clear hb2
    go_wp2_with fail
    go_ret
    exact ⟨by rw [HR.out]; rfl, HB2.out⟩
  · have HR : Hid (decide (op = 2) = true) := decide_eq_true h
    clear h
    go_wp2_with fail
    refine (kind_symPart op a n s sv v _).mono ?_
    rintro e w2 ⟨rfl, hb2⟩
    have HB2 : Hid (Below w.heap.size w w2) := HB1.out.trans (hb2.mono HB1.out.size)
    clear hb2
    go_wp2_with fail
    go_ret
    exact ⟨by rw [HR.out]; rfl, HB2.out⟩
  · have HR : Hid (decide (op = 2) = false) := decide_eq_false (by omega)
    clear h
    go_wp2_with fail
    refine (kind_listPart op a n s sv v _).mono ?_
    rintro e w2 ⟨rfl, hb2⟩
    have HB2 : Hid (Below w.heap.size w w2) := HB1.out.trans (hb2.mono HB1.out.size)
    clear hb2
    go_wp2_with fail
    go_ret
    exact ⟨by rw [HR.out]; rfl, HB2.out⟩
  · have HR : Hid (decide (op = 2) = false) := decide_eq_false h2
    clear h1 h2 h3
    go_wp2_with fail
    refine (kind_nonePart op a n s sv v _).mono ?_
    rintro e w2 ⟨rfl, hb2⟩
    have HB2 : Hid (Below w.heap.size w w2) := HB1.out.trans (hb2.mono HB1.out.size)
    clear hb2
    go_wp2_with fail
    go_ret
    exact ⟨by rw [HR.out]; rfl, HB2.out⟩
theorem is_symB (op a n : Int) (s : ByteArray) (sv v : Value) (b : Bool) (hb : decide (op = 2) = b) (w : World) :
    Calls Tryz.prog 30 #[.agg #[.int .i64 op, .int .i64 a, .int .i64 n, .string s, sv, v]] w fun e w' => e = .returned (.bool b) ∧ Below w.heap.size w w' := by
  subst hb
  exact is_sym op a n s sv v w

set_option maxRecDepth 100000 in
theorem stx_kids (op a n : Int) (s : ByteArray) (sv v : Value) (w : World) :
    Calls Tryz.prog 45 #[.agg #[.int .i64 op, .int .i64 a, .int .i64 n, .string s, sv, v]] w fun e w' => e = .returned v ∧ Below w.heap.size w w' := by
  go_enter Tryz.func45, Tryz.ntmps45
  go_wp2_with fail
  go_ret
  exact ⟨rfl, newx _ _⟩

set_option maxRecDepth 100000 in
theorem dat_kids (op a n : Int) (s : ByteArray) (v : Value) (w : World) :
    Calls Tryz.prog 28 #[.agg #[.int .i64 op, .int .i64 a, .int .i64 n, .string s, v]] w fun e w' => e = .returned v ∧ Below w.heap.size w w' := by
  go_enter Tryz.func28, Tryz.ntmps28
  go_wp2_with fail
  go_ret
  exact ⟨rfl, newx _ _⟩
end Go.Proofs.YtgbfflpdpfgnbaaGreat
