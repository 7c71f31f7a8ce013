/- The maker of a function's places: the row of places that grows, and where locals stand. No conditions. -/
import Derived.Test.YthnhdmanmmdoiaaDoorRows
import Derived.Test.YthnhdmanmmdoiaaDoorZG12GenP
import Derived.Test.YthnhdmanmmdoiaaDoorZG14SpecPut14
import Derived.Test.YthnhdmanmmdoiaaDoorZG15SetsP
import Derived.Test.YthnhdmanmmdoiaaDoorZG26OwnCut
import Derived.Test.YthnhdmanmmdoiaaDoorZG0Dat
import Derived.Deep.CutRange
import Derived.Deep.RegionWith
namespace Go.Proofs.YthnhdmanmmdoiaaDoor
open Go.ChangeShapes Go.WideShapes Go.ChangeAt Go.RowKit

/-- Block Q is a maker whose row of places is l, and locals stand at sl; all of it from block B on. -/
structure HSt (B Q : Nat) (v sv : Value) (l : List O3) (sl : List Int) (w : World) : Prop where
  box : w.heap[Q]? = some (.cells #[v, sv] 75 (0, 0))
  row : w.ownsRow B 68 3 v l.length (orows l)
  ints : w.ownsRow B 3 1 sv sl.length (sl.map (Value.int .i64))
  nv : v.ownBlock ≠ some Q
  ns : sv.ownBlock ≠ some Q
  ne : ∀ g, v.ownBlock = some g → sv.ownBlock ≠ some g
  le : B ≤ Q
/-- Only the maker and its two rows turned. -/
structure HK (Q : Nat) (v sv : Value) (w : World) (v' sv' : Value) (w' : World) : Prop where
  os : w'.os = w.os
  tape : w'.tape = w.tape
  output : w'.output = w.output
  size : w.heap.size ≤ w'.heap.size
  block : ∀ k, k < w.heap.size → k ≠ Q → v.ownBlock ≠ some k → sv.ownBlock ≠ some k → w'.heap[k]? = w.heap[k]?
  own : ∀ g, v'.ownBlock = some g → v.ownBlock = some g ∨ w.heap.size ≤ g
  ownS : ∀ g, sv'.ownBlock = some g → sv.ownBlock = some g ∨ w.heap.size ≤ g
theorem HK.refl (Q : Nat) (v sv : Value) (w : World) : HK Q v sv w v sv w := ⟨rfl, rfl, rfl, Nat.le_refl _, fun _ _ _ _ _ => rfl, fun _ h => .inl h, fun _ h => .inl h⟩
theorem HK.trans {Q : Nat} {v sv v1 sv1 v2 sv2 : Value} {w w1 w2 : World} (h : HK Q v sv w v1 sv1 w1) (k : HK Q v1 sv1 w1 v2 sv2 w2) : HK Q v sv w v2 sv2 w2 where
  os := k.os.trans h.os
  tape := k.tape.trans h.tape
  output := k.output.trans h.output
  size := Nat.le_trans h.size k.size
  block := fun j hj hQ hv hs => (k.block j (Nat.lt_of_lt_of_le hj h.size) hQ (fun e => by
    rcases h.own j e with h1 | h1
    · exact hv h1
    · omega) (fun e => by
    rcases h.ownS j e with h1 | h1
    · exact hs h1
    · omega)).trans (h.block j hj hQ hv hs)
  own := fun g hg => by
    rcases k.own g hg with h1 | h1
    · exact h.own g h1
    · exact .inr (Nat.le_trans h.size h1)
  ownS := fun g hg => by
    rcases k.ownS g hg with h1 | h1
    · exact h.ownS g h1
    · exact .inr (Nat.le_trans h.size h1)
theorem HK.of_below {Q : Nat} {v sv : Value} {w w' : World} (h : Below w.heap.size w w') : HK Q v sv w v sv w' := ⟨h.os, h.tape, h.output, h.size, fun k hk _ _ _ => h.block k hk, fun _ h => .inl h, fun _ h => .inl h⟩
theorem HSt.lt {B Q : Nat} {v sv : Value} {l : List O3} {sl : List Int} {w : World} (h : HSt B Q v sv l sl w) : Q < w.heap.size := (Array.getElem?_eq_some_iff.1 h.box).1
theorem HSt.below {B Q : Nat} {v sv : Value} {l : List O3} {sl : List Int} {w w' : World} (h : HSt B Q v sv l sl w) (hb : Below w.heap.size w w') : HSt B Q v sv l sl w' :=
  ⟨(hb.block _ h.lt).trans h.box, own_below5 h.row hb, own_below5 h.ints hb, h.nv, h.ns, h.ne, h.le⟩
theorem own_between {w : World} {B e k n : Nat} {v : Value} {xs : List Value} (h : w.ownsRow B e k v n xs) {g : Nat} (hg : v.ownBlock = some g) : B ≤ g ∧ g < w.heap.size := by
  rcases h.2 with ⟨e, _⟩ | ⟨g', cap, cur, e, hb, hh, _⟩
  · rw [e] at hg; cases hg
  · rw [e] at hg
    injection hg with hg
    have hg' : g' = g := hg
    subst hg'
    exact ⟨hb, (Array.getElem?_eq_some_iff.1 hh).1⟩
/-- What lay before the maker is as it was. -/
theorem HK.old {Q : Nat} {v sv v' sv' : Value} {l : List O3} {sl : List Int} {w0 w w' : World} (h : HK Q v sv w v' sv' w') (hs : HSt w0.heap.size Q v sv l sl w) (hb : Below w0.heap.size w0 w) : Below w0.heap.size w0 w' :=
  ⟨h.os.trans hb.os, h.tape.trans hb.tape, h.output.trans hb.output, Nat.le_trans hb.size h.size, fun k hk => (h.block k (Nat.lt_of_lt_of_le hk hb.size) (by have := hs.le; omega)
    (fun e => by have := (own_between hs.row e).1; omega) (fun e => by have := (own_between hs.ints e).1; omega)).trans (hb.block k hk)⟩
/-- A block that is none of the maker's. -/
def HFree (Q : Nat) (v sv : Value) (w : World) (F : Nat) : Prop := F < w.heap.size ∧ F ≠ Q ∧ v.ownBlock ≠ some F ∧ sv.ownBlock ≠ some F
theorem HFree.keep {Q : Nat} {v sv v' sv' : Value} {w w' : World} {F : Nat} (h : HFree Q v sv w F) (k : HK Q v sv w v' sv' w') : HFree Q v' sv' w' F :=
  ⟨Nat.lt_of_lt_of_le h.1 k.size, h.2.1, fun e => by
    rcases k.own F e with h1 | h1
    · exact h.2.2.1 h1
    · have := h.1; omega, fun e => by
    rcases k.ownS F e with h1 | h1
    · exact h.2.2.2 h1
    · have := h.1; omega⟩
theorem HSt.cell {B Q : Nat} {v sv : Value} {l : List O3} {sl : List Int} {w : World} (h : HSt B Q v sv l sl w) : w.cell? ⟨Q, 0, none⟩ = some v ∧ w.cell? ⟨Q, 1, none⟩ = some sv ∧ w.frozen? ⟨Q, 0, none⟩ = false ∧ w.frozen? ⟨Q, 1, none⟩ = false :=
  ⟨cell_of_row w Q 0 _ _ _ h.box, cell_of_row w Q 1 _ _ _ h.box, frozen_of_row w Q 0 _ _ h.box, frozen_of_row w Q 1 _ _ h.box⟩
theorem own_keep {w w' : World} {B e k n : Nat} {v : Value} {xs : List Value} (h : w.ownsRow B e k v n xs) (hb : ∀ g, v.ownBlock = some g → w'.heap[g]? = w.heap[g]?) : w'.ownsRow B e k v n xs := by
  refine ⟨h.1, ?_⟩
  rcases h.2 with hn | ⟨g, cap, cur, rfl, hbg, hgg, rest⟩
  · exact .inl hn
  · exact .inr ⟨g, cap, cur, rfl, hbg, (hb g rfl).trans hgg, rest⟩

/-- An append of one op to the row, and the store of the slice into the maker. -/
theorem HSt.pushed {B Q : Nat} {v sv v' : Value} {l : List O3} {sl : List Int} {q : O3} {w w1 w2 : World} (h : HSt B Q v sv l sl w) (hb : Below w.heap.size w w1) (hrow : w2.ownsRow B 68 3 v' (l.length + 1) (orows l ++ ocells q)) (hg : w1.grownBy w2 v.ownBlock)
    (hat : v'.ownBlock = v.ownBlock ∨ v'.ownBlock = some w1.heap.size) : HSt B Q v' sv (l ++ [q]) sl (w2.setCell ⟨Q, 0, none⟩ v') ∧ HK Q v sv w v' sv (w2.setCell ⟨Q, 0, none⟩ v') := by
  have hQ1 : Q < w1.heap.size := Nat.lt_of_lt_of_le h.lt hb.size
  have hbox2 : w2.heap[Q]? = some (.cells #[v, sv] 75 (0, 0)) := (hg.block Q hQ1 (fun e => h.nv e.symm)).trans ((hb.block Q h.lt).trans h.box)
  have hne : v'.ownBlock ≠ some Q := by
    rcases hat with e | e
    · rw [e]; exact h.nv
    · rw [e]; intro e2; injection e2 with e2; omega
  have hnew : (w2.setCell ⟨Q, 0, none⟩ v').heap[Q]? = some (.cells #[v', sv] 75 (0, 0)) := by
    have := heap_setCell_same w2 Q 0 _ _ v' hbox2
    simpa using this
  have hsame : ∀ k, k ≠ Q → (w2.setCell ⟨Q, 0, none⟩ v').heap[k]? = w2.heap[k]? := fun k hk => Below.heap_setCell w2 ⟨Q, 0, none⟩ v' k hk
  have hsz : (w2.setCell ⟨Q, 0, none⟩ v').heap.size = w2.heap.size := by simp
  have hsv : ∀ g, sv.ownBlock = some g → g < w.heap.size ∧ w2.heap[g]? = w.heap[g]? := fun g e => by
    have h1 := (own_between h.ints e).2
    exact ⟨h1, (hg.block g (Nat.lt_of_lt_of_le h1 hb.size) (fun e2 => h.ne g e2.symm e)).trans (hb.block g h1)⟩
  refine ⟨⟨hnew, ?_, ?_, hne, h.ns, fun g e1 e2 => ?_, h.le⟩, ⟨?_, ?_, ?_, ?_, ?_, ?_, fun g e => .inl e⟩⟩
  · have e1 : (l ++ [q]).length = l.length + 1 := by simp
    have e2 : orows (l ++ [q]) = orows l ++ ocells q := by simp [orows]
    rw [e1, e2]
    exact own_keep hrow (fun g e => hsame g (fun eg => hne (by rw [e, eg])))
  · exact own_keep h.ints (fun g e => (hsame g (fun eg => h.ns (by rw [e, eg]))).trans (hsv g e).2)
  · rcases hat with e | e
    · exact h.ne g (e ▸ e1) e2
    · rw [e] at e1
      injection e1 with e1
      have := (hsv g e2).1
      have := hb.size
      omega
  · exact hg.os.trans hb.os
  · exact hg.tape.trans hb.tape
  · exact hg.output.trans hb.output
  · rw [hsz]; exact Nat.le_trans hb.size hg.size
  · intro k hk hkQ hkv _
    rw [hsame k hkQ, hg.block k (Nat.lt_of_lt_of_le hk hb.size) (fun e => hkv e.symm), hb.block k hk]
  · intro g hgg
    rcases hat with e | e
    · exact .inl (e ▸ hgg)
    · rw [e] at hgg
      injection hgg with hgg
      exact .inr (by have := hb.size; omega)
/-- An append of one int to where locals stand, and the store of the slice into the maker. -/
theorem HSt.stood {B Q : Nat} {v sv sv' : Value} {l : List O3} {sl : List Int} {z : Int} {w w1 w2 : World} (h : HSt B Q v sv l sl w) (hb : Below w.heap.size w w1) (hrow : w2.ownsRow B 3 1 sv' (sl.length + 1) (sl.map (Value.int .i64) ++ [.int .i64 z])) (hg : w1.grownBy w2 sv.ownBlock)
    (hat : sv'.ownBlock = sv.ownBlock ∨ sv'.ownBlock = some w1.heap.size) : HSt B Q v sv' l (sl ++ [z]) (w2.setCell ⟨Q, 1, none⟩ sv') ∧ HK Q v sv w v sv' (w2.setCell ⟨Q, 1, none⟩ sv') := by
  have hQ1 : Q < w1.heap.size := Nat.lt_of_lt_of_le h.lt hb.size
  have hbox2 : w2.heap[Q]? = some (.cells #[v, sv] 75 (0, 0)) := (hg.block Q hQ1 (fun e => h.ns e.symm)).trans ((hb.block Q h.lt).trans h.box)
  have hne : sv'.ownBlock ≠ some Q := by
    rcases hat with e | e
    · rw [e]; exact h.ns
    · rw [e]; intro e2; injection e2 with e2; omega
  have hnew : (w2.setCell ⟨Q, 1, none⟩ sv').heap[Q]? = some (.cells #[v, sv'] 75 (0, 0)) := by
    have := heap_setCell_same w2 Q 1 _ _ sv' hbox2
    simpa using this
  have hsame : ∀ k, k ≠ Q → (w2.setCell ⟨Q, 1, none⟩ sv').heap[k]? = w2.heap[k]? := fun k hk => Below.heap_setCell w2 ⟨Q, 1, none⟩ sv' k hk
  have hsz : (w2.setCell ⟨Q, 1, none⟩ sv').heap.size = w2.heap.size := by simp
  have hvv : ∀ g, v.ownBlock = some g → g < w.heap.size ∧ w2.heap[g]? = w.heap[g]? := fun g e => by
    have h1 := (own_between h.row e).2
    exact ⟨h1, (hg.block g (Nat.lt_of_lt_of_le h1 hb.size) (fun e2 => h.ne g e e2.symm)).trans (hb.block g h1)⟩
  refine ⟨⟨hnew, ?_, ?_, h.nv, hne, fun g e1 e2 => ?_, h.le⟩, ⟨?_, ?_, ?_, ?_, ?_, fun g e => .inl e, ?_⟩⟩
  · exact own_keep h.row (fun g e => (hsame g (fun eg => h.nv (by rw [e, eg]))).trans (hvv g e).2)
  · have e1 : (sl ++ [z]).length = sl.length + 1 := by simp
    have e2 : (sl ++ [z]).map (Value.int .i64) = sl.map (Value.int .i64) ++ [.int .i64 z] := by simp
    rw [e1, e2]
    exact own_keep hrow (fun g e => hsame g (fun eg => hne (by rw [e, eg])))
  · rcases hat with e | e
    · exact h.ne g e1 (e ▸ e2)
    · rw [e] at e2
      injection e2 with e2
      have := (hvv g e1).1
      have := hb.size
      omega
  · exact hg.os.trans hb.os
  · exact hg.tape.trans hb.tape
  · exact hg.output.trans hb.output
  · rw [hsz]; exact Nat.le_trans hb.size hg.size
  · intro k hk hkQ _ hks
    rw [hsame k hkQ, hg.block k (Nat.lt_of_lt_of_le hk hb.size) (fun e => hks e.symm), hb.block k hk]
  · intro g hgg
    rcases hat with e | e
    · exact .inl (e ▸ hgg)
    · rw [e] at hgg
      injection hgg with hgg
      exact .inr (by have := hb.size; omega)
/-- The last place at which a local stands is left away. -/
theorem HSt.left {B Q g cap : Nat} {v : Value} {l : List O3} {sl : List Int} {z : Int} {w : World} (h : HSt B Q v (.slice (some ⟨g, 0, none⟩) (sl.length + 1) cap) l (sl ++ [z]) w) :
    HSt B Q v (.slice (some ⟨g, 0, none⟩) sl.length cap) l sl (w.setCell ⟨Q, 1, none⟩ (.slice (some ⟨g, 0, none⟩) sl.length cap)) ∧
    HK Q v (.slice (some ⟨g, 0, none⟩) (sl.length + 1) cap) w v (.slice (some ⟨g, 0, none⟩) sl.length cap) (w.setCell ⟨Q, 1, none⟩ (.slice (some ⟨g, 0, none⟩) sl.length cap)) := by
  have hsame : ∀ k, k ≠ Q → (w.setCell ⟨Q, 1, none⟩ (.slice (some ⟨g, 0, none⟩) sl.length cap)).heap[k]? = w.heap[k]? := fun k hk => Below.heap_setCell w ⟨Q, 1, none⟩ _ k hk
  have hsz : (w.setCell ⟨Q, 1, none⟩ (.slice (some ⟨g, 0, none⟩) sl.length cap)).heap.size = w.heap.size := by simp
  have hnew : (w.setCell ⟨Q, 1, none⟩ (.slice (some ⟨g, 0, none⟩) sl.length cap)).heap[Q]? = some (.cells #[v, .slice (some ⟨g, 0, none⟩) sl.length cap] 75 (0, 0)) := by
    have := heap_setCell_same w Q 1 _ _ (.slice (some ⟨g, 0, none⟩) sl.length cap) h.box
    simpa using this
  have hi := h.ints
  rw [show (sl ++ [z]).length = sl.length + 1 by simp, show (sl ++ [z]).map (Value.int .i64) = sl.map (Value.int .i64) ++ [.int .i64 z] by simp] at hi
  have hcut := own_cut (n := sl.length) hi (by simp) (by omega)
  refine ⟨⟨hnew, own_keep h.row (fun g' e => hsame g' (fun eg => h.nv (by rw [e, eg]))), own_keep hcut (fun g' e => hsame g' (fun eg => h.ns (by rw [← eg]; exact e))), h.nv, h.ns, h.ne, h.le⟩,
    ⟨rfl, rfl, rfl, by rw [hsz]; exact Nat.le_refl _, fun k _ hkQ _ _ => hsame k hkQ, fun g e => .inl e, fun g e => .inl e⟩⟩
/-- A cell of a place is stored anew. -/
theorem HSt.stored {B Q : Nat} {v sv : Value} {l : List O3} {sl : List Int} {w : World} (h : HSt B Q v sv l sl w) {j : Nat} {u : Value} {l' : List O3} (hl : l'.length = l.length) (he : (orows l).set j u = orows l') {g : Nat} (hv : v.ownBlock = some g) :
    HSt B Q v sv l' sl (w.setCell ⟨g, j, none⟩ u) ∧ HK Q v sv w v sv (w.setCell ⟨g, j, none⟩ u) := by
  have hgQ : g ≠ Q := fun e => h.nv (by rw [hv, e])
  obtain ⟨cap, ev⟩ : ∃ cap, v = .slice (some ⟨g, 0, none⟩) l.length cap := by
    rcases h.row.2 with ⟨e, _⟩ | ⟨g', cap, cur, e, _⟩
    · rw [e] at hv; cases hv
    · rw [e] at hv
      injection hv with hv
      have : g' = g := hv
      subst this
      exact ⟨cap, e⟩
  have r1 := h.row
  rw [ev] at r1
  obtain ⟨q1, g1⟩ := r1.stored j u
  rw [he] at q1
  refine ⟨⟨?_, ?_, own_keep h.ints (fun g' e => Below.heap_setCell w ⟨g, j, none⟩ u g' (fun eg => h.ne g hv (by have e3 : g' = g := eg; rw [← e3]; exact e))), h.nv, h.ns, h.ne, h.le⟩,
    ⟨g1.os, g1.tape, g1.output, g1.size, fun k hk hkQ hkv _ => ?_, fun g hg => .inl hg, fun g hg => .inl hg⟩⟩
  · exact (Below.heap_setCell w ⟨g, j, none⟩ u Q (Ne.symm hgQ)).trans h.box
  · rw [hl, ev]; exact q1
  · exact Below.heap_setCell w ⟨g, j, none⟩ u k (fun e => hkv (by rw [hv, e]))
/-- The row of places is there. -/
theorem HSt.some_row {B Q : Nat} {v sv : Value} {l : List O3} {sl : List Int} {w : World} (h : HSt B Q v sv l sl w) (hl : 0 < l.length) : ∃ g c, v = .slice (some ⟨g, 0, none⟩) l.length c ∧ g ≠ Q ∧ v.ownBlock = some g ∧ (∀ j, w.frozen? ⟨g, j, none⟩ = false) ∧ ∀ j, j < l.length * 3 → w.cell? ⟨g, j, none⟩ = (orows l)[j]? := by
  rcases h.row.2 with ⟨e, h0⟩ | ⟨g, cap, cur, e, _⟩
  · omega
  · subst e
    exact ⟨g, cap, rfl, fun e => h.nv (by rw [e]; rfl), rfl, fun j => h.row.frozenAt j, fun j hj => h.row.cellAt j (by omega)⟩
theorem HSt.some_ints {B Q : Nat} {v sv : Value} {l : List O3} {sl : List Int} {w : World} (h : HSt B Q v sv l sl w) (hl : 0 < sl.length) : ∃ g c, sv = .slice (some ⟨g, 0, none⟩) sl.length c ∧ sl.length ≤ c ∧ c ≤ maxLen ∧ ∀ j z, sl[j]? = some z → w.cell? ⟨g, j, none⟩ = some (.int .i64 z) := by
  rcases h.ints.2 with ⟨e, h0⟩ | ⟨g, cap, cur, e, hb, hh, hc, hm, _⟩
  · omega
  · subst e
    refine ⟨g, cap, rfl, hc, hm, fun j z hz => ?_⟩
    have hj := (List.getElem?_eq_some_iff.1 hz).1
    have := h.ints.cellAt j (by omega)
    rw [List.getElem?_map, hz] at this
    exact this
theorem HSt.row_shape {B Q : Nat} {v sv : Value} {l : List O3} {sl : List Int} {w : World} (h : HSt B Q v sv l sl w) : ∃ p c, v = .slice p l.length c := own_shape3 h.row

theorem HSt.drewn {B Q : Nat} {v sv : Value} {l : List O3} {sl : List Int} {w : World} (h : HSt B Q v sv l sl w) : HSt B Q v sv l sl w.drew := ⟨h.box, h.row, h.ints, h.nv, h.ns, h.ne, h.le⟩
theorem HK.drewn {Q : Nat} {v sv v' sv' : Value} {w w' : World} (h : HK Q v sv w v' sv' w') : HK Q v sv w v' sv' w'.drew := ⟨h.os, h.tape, h.output, h.size, h.block, h.own, h.ownS⟩

/-- How a body may come to the maker. -/
structure HIn (w0 w : World) (Q : Nat) (v sv : Value) (l : List O3) (sl : List Int) : Prop where
  bel : Below w0.heap.size w0 w
  st : HSt w0.heap.size Q v sv l sl w
theorem HIn.keep {w0 w w' : World} {Q : Nat} {v sv v' sv' : Value} {l l' : List O3} {sl sl' : List Int} (h : HIn w0 w Q v sv l sl) (hs : HSt w0.heap.size Q v' sv' l' sl' w') (k : HK Q v sv w v' sv' w') : HIn w0 w' Q v' sv' l' sl' :=
  ⟨k.old h.st h.bel, hs⟩
theorem HIn.below {w0 w w' : World} {Q : Nat} {v sv : Value} {l : List O3} {sl : List Int} (h : HIn w0 w Q v sv l sl) (hb : Below w.heap.size w w') : HIn w0 w' Q v sv l sl := h.keep (h.st.below hb) (HK.of_below hb)
/-- What the maker does. -/
def HPost (B Q : Nat) (v sv : Value) (l : List O3) (sl : List Int) (w : World) (e : Ending) (w' : World) : Prop := e = .returned (.tuple #[]) ∧ ∃ v' sv', HSt B Q v' sv' l sl w' ∧ HK Q v sv w v' sv' w'
end Go.Proofs.YthnhdmanmmdoiaaDoor

/- (*funGen).put of one place, (*funGen).lead, (*funGen).headOp. Conditions: at most 2^30 places; the table of codes reads as its text lays it. -/
namespace Go.Proofs.YthnhdmanmmdoiaaDoor
open Go.ChangeShapes Go.WideShapes Go.ChangeAt Go.RowKit

/-- What put answers. -/
def HPut (B Q : Nat) (v sv : Value) (l : List O3) (q : O3) (sl : List Int) (w : World) (e : Ending) (w' : World) : Prop :=
  e = .returned (.int .i64 (l.length : Nat)) ∧ ∃ v', HSt B Q v' sv (l ++ [q]) sl w' ∧ HK Q v sv w v' sv w'

set_option maxRecDepth 100000 in
set_option maxHeartbeats 4000000 in
theorem impl_put14 (B Q : Nat) (v sv : Value) (l : List O3) (sl : List Int) (q : O3) (w : World) (h : HSt B Q v sv l sl w) (hl : l.length ≤ 1073741824) (N : Nat) (hN : ∀ j u, (ocells q)[j]? = some u → w.cell? ⟨N, j, none⟩ = some u) :
    Calls Tryd.prog 36 #[.pointer (some ⟨Q, 0, none⟩), .slice (some ⟨N, 0, none⟩) 1 1] w (HPut B Q v sv l q sl w) := by
  obtain ⟨i0, hi0, hz0, hz1, hz2⟩ := info_parts op_info14
  obtain ⟨p, cp, ev⟩ := h.row_shape
  obtain ⟨k0, -, kf, -⟩ := h.cell
  have HS : Hid (HSt B Q v sv l sl w) := h
  have HROW : Hid (w.ownsRow B 68 3 v l.length (orows l)) := h.row
  have HNEW : Hid (∀ j u, (ocells q)[j]? = some u → w.cell? ((⟨N, 0, none⟩ : Addr).add j) = some u) := fun j u hj => by
    have e : (⟨N, 0, none⟩ : Addr).add j = ⟨N, j, none⟩ := by cases j <;> simp [Addr.add]
    rw [e]; exact hN j u hj
  have HBN : Hid (B ≤ w.heap.size) := Nat.le_trans h.le (Nat.le_of_lt h.lt)
  have HOUT : Hid (∀ v' w', w'.ownsRow B 68 3 v' (l.length + 1) (orows l ++ ocells q) → w.grownBy w' v.ownBlock → (v'.ownBlock = v.ownBlock ∨ v'.ownBlock = some w.heap.size) →
      HSt B Q v' sv (l ++ [q]) sl (w'.setCell ⟨Q, 0, none⟩ v') ∧ HK Q v sv w v' sv (w'.setCell ⟨Q, 0, none⟩ v')) := fun v' w' h1 h2 h3 => h.pushed (Below.refl _ _) h1 h2 h3
  have HQK : Hid (∀ w', w.grownBy w' v.ownBlock → w'.cell? ⟨Q, 0, none⟩ = some v ∧ w'.frozen? ⟨Q, 0, none⟩ = false) := fun w' hg => by
    have hb : w'.heap[Q]? = w.heap[Q]? := hg.block Q h.lt (fun e => h.nv e.symm)
    exact ⟨(World.cell?_of_block (w := w) hb).trans h.cell.1, (World.frozen?_of_block (w := w) hb).trans h.cell.2.2.1⟩
  clear h hN
  subst ev
  go_enter Tryd.func36, Tryd.ntmps36
  go_wp2_with (at_builtin; refine wpList_append_1 _ rfl (.tmp 15) (.tmp 16) 42 rfl B 68 i0 _ 3 24 Tryd.underlying42 hi0 hz0 hz1 hz2 rfl (by omega) (.slice p l.length cp) l.length (orows l) rfl HROW.out ⟨N, 0, none⟩ 1 1 (ocells q) rfl rfl HNEW.out (ocells_single _) (by unfold maxLen; omega) (by omega) HBN.out (by omega) ?_; intro v' w' hown2 hg2 hat2; (obtain ⟨k1, kf1⟩ := HQK.out _ hg2.out); (obtain ⟨p2, c2, e2⟩ := own_shape3 hown2.out); subst e2)
  go_ret
  exact ⟨rfl, _, HOUT.out _ _ hown2.out hg2.out hat2.out⟩
end Go.Proofs.YthnhdmanmmdoiaaDoor
