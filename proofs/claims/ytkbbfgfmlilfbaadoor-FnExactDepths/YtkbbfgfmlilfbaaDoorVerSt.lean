/- A work of two rows of ints and a flag: how many values there are at places, and what is left to do. No conditions. -/
import Derived.Test.YtkbbfgfmlilfbaaDoorRows
import Derived.Test.YtkbbfgfmlilfbaaDoorVerP
import Derived.Test.YtkbbfgfmlilfbaaDoorInts
import Derived.Test.YtkbbfgfmlilfbaaDoorAppendAt
import Derived.Test.YtkbbfgfmlilfbaaDoorOwnCut
import Derived.OwnWalk
namespace Go.Proofs.YtkbbfgfmlilfbaaDoor
open Go.ChangeShapes Go.WideShapes Go.ChangeAt Go.RowKit

/-- Block Q is a work (of type ty): D, T in rows of its own, and ok; all of it from block B on. -/
structure VSt (ty : TypeId) (B Q : Nat) (vd vt : Value) (D T : List Int) (ok : Bool) (w : World) : Prop where
  box : w.heap[Q]? = some (.cells #[vd, vt, .bool ok] ty (0, 0))
  deps : w.ownsRow B 3 1 vd D.length (D.map (Value.int .i64))
  todo : w.ownsRow B 3 1 vt T.length (T.map (Value.int .i64))
  nd : vd.ownBlock ≠ some Q
  nt : vt.ownBlock ≠ some Q
  ne : ∀ g, vd.ownBlock = some g → vt.ownBlock ≠ some g
  le : B ≤ Q
/-- Only the work and its two rows turned. -/
structure VK (Q : Nat) (v sv : Value) (w : World) (v' sv' : Value) (w' : World) : Prop where
  os : w'.os = w.os
  tape : w'.tape = w.tape
  output : w'.output = w.output
  size : w.heap.size ≤ w'.heap.size
  block : ∀ k, k < w.heap.size → k ≠ Q → v.ownBlock ≠ some k → sv.ownBlock ≠ some k → w'.heap[k]? = w.heap[k]?
  own : ∀ g, v'.ownBlock = some g → v.ownBlock = some g ∨ w.heap.size ≤ g
  ownS : ∀ g, sv'.ownBlock = some g → sv.ownBlock = some g ∨ w.heap.size ≤ g
theorem VK.refl (Q : Nat) (v sv : Value) (w : World) : VK Q v sv w v sv w := ⟨rfl, rfl, rfl, Nat.le_refl _, fun _ _ _ _ _ => rfl, fun _ h => .inl h, fun _ h => .inl h⟩
theorem VK.trans {Q : Nat} {v sv v1 sv1 v2 sv2 : Value} {w w1 w2 : World} (h : VK Q v sv w v1 sv1 w1) (k : VK Q v1 sv1 w1 v2 sv2 w2) : VK Q v sv w v2 sv2 w2 where
  os := k.os.trans h.os
  tape := k.tape.trans h.tape
  output := k.output.trans h.output
  size := Nat.le_trans h.size k.size
  block := fun j hj hQ hv hs => (k.block j (Nat.lt_of_lt_of_le hj h.size) hQ (fun e => by
    rcases h.own j e with h1 | h1
    · exact hv h1
    · omega) (fun e => by
    rcases h.ownS j e with h1 | h1
    · exact hs h1
    · omega)).trans (h.block j hj hQ hv hs)
  own := fun g hg => by
    rcases k.own g hg with h1 | h1
    · exact h.own g h1
    · exact .inr (Nat.le_trans h.size h1)
  ownS := fun g hg => by
    rcases k.ownS g hg with h1 | h1
    · exact h.ownS g h1
    · exact .inr (Nat.le_trans h.size h1)
theorem VK.of_below {Q : Nat} {v sv : Value} {w w' : World} (h : Below w.heap.size w w') : VK Q v sv w v sv w' := ⟨h.os, h.tape, h.output, h.size, fun k hk _ _ _ => h.block k hk, fun _ h => .inl h, fun _ h => .inl h⟩
theorem VSt.lt {ty : TypeId} {B Q : Nat} {vd vt : Value} {D T : List Int} {ok : Bool} {w : World} (h : VSt ty B Q vd vt D T ok w) : Q < w.heap.size := (Array.getElem?_eq_some_iff.1 h.box).1
theorem own_belowV {w w' : World} {base e size n : Nat} {v : Value} {xs : List Value} (h : w.ownsRow base e size v n xs) (hb : Below w.heap.size w w') : w'.ownsRow base e size v n xs := by
  refine ⟨h.1, ?_⟩
  rcases h.2 with hn | ⟨g, cap, cur, rfl, hbg, hgg, rest⟩
  · exact .inl hn
  · exact .inr ⟨g, cap, cur, rfl, hbg, (hb.block g (Array.getElem?_eq_some_iff.1 hgg).1).trans hgg, rest⟩
theorem own_keepV {w w' : World} {B e k n : Nat} {v : Value} {xs : List Value} (h : w.ownsRow B e k v n xs) (hb : ∀ g, v.ownBlock = some g → w'.heap[g]? = w.heap[g]?) : w'.ownsRow B e k v n xs := by
  refine ⟨h.1, ?_⟩
  rcases h.2 with hn | ⟨g, cap, cur, rfl, hbg, hgg, rest⟩
  · exact .inl hn
  · exact .inr ⟨g, cap, cur, rfl, hbg, (hb g rfl).trans hgg, rest⟩
theorem own_betweenV {w : World} {B e k n : Nat} {v : Value} {xs : List Value} (h : w.ownsRow B e k v n xs) {g : Nat} (hg : v.ownBlock = some g) : B ≤ g ∧ g < w.heap.size := by
  rcases h.2 with ⟨e, _⟩ | ⟨g', cap, cur, e, hb, hh, _⟩
  · rw [e] at hg; cases hg
  · rw [e] at hg
    injection hg with hg
    have hg' : g' = g := hg
    subst hg'
    exact ⟨hb, (Array.getElem?_eq_some_iff.1 hh).1⟩
theorem own_shapeV {w : World} {B e k n : Nat} {v : Value} {xs : List Value} (h : w.ownsRow B e k v n xs) : ∃ p c, v = .slice p n c := by
  rcases h.2 with ⟨e, h0⟩ | ⟨g, cap, cur, e, _⟩
  · exact ⟨none, 0, by rw [e, h0]⟩
  · exact ⟨_, cap, e⟩
theorem VSt.below {ty : TypeId} {B Q : Nat} {vd vt : Value} {D T : List Int} {ok : Bool} {w w' : World} (h : VSt ty B Q vd vt D T ok w) (hb : Below w.heap.size w w') : VSt ty B Q vd vt D T ok w' :=
  ⟨(hb.block _ h.lt).trans h.box, own_belowV h.deps hb, own_belowV h.todo hb, h.nd, h.nt, h.ne, h.le⟩
/-- What lay before the work is as it was. -/
theorem VK.old {ty : TypeId} {Q : Nat} {v sv v' sv' : Value} {D T : List Int} {ok : Bool} {w0 w w' : World} (h : VK Q v sv w v' sv' w') (hs : VSt ty w0.heap.size Q v sv D T ok w) (hb : Below w0.heap.size w0 w) : Below w0.heap.size w0 w' :=
  ⟨h.os.trans hb.os, h.tape.trans hb.tape, h.output.trans hb.output, Nat.le_trans hb.size h.size, fun k hk => (h.block k (Nat.lt_of_lt_of_le hk hb.size) (by have := hs.le; omega)
    (fun e => by have := (own_betweenV hs.deps e).1; omega) (fun e => by have := (own_betweenV hs.todo e).1; omega)).trans (hb.block k hk)⟩
theorem VSt.cell {ty : TypeId} {B Q : Nat} {vd vt : Value} {D T : List Int} {ok : Bool} {w : World} (h : VSt ty B Q vd vt D T ok w) :
    (w.cell? ⟨Q, 0, none⟩ = some vd ∧ w.cell? ⟨Q, 1, none⟩ = some vt ∧ w.cell? ⟨Q, 2, none⟩ = some (.bool ok)) ∧ ∀ j, w.frozen? ⟨Q, j, none⟩ = false :=
  ⟨⟨cell_of_row w Q 0 _ _ _ h.box, cell_of_row w Q 1 _ _ _ h.box, cell_of_row w Q 2 _ _ _ h.box⟩, fun j => frozen_of_row w Q j _ _ h.box⟩
theorem VSt.drewn {ty : TypeId} {B Q : Nat} {vd vt : Value} {D T : List Int} {ok : Bool} {w : World} (h : VSt ty B Q vd vt D T ok w) : VSt ty B Q vd vt D T ok w.drew := ⟨h.box, h.deps, h.todo, h.nd, h.nt, h.ne, h.le⟩
theorem VK.drewn {Q : Nat} {v sv v' sv' : Value} {w w' : World} (h : VK Q v sv w v' sv' w') : VK Q v sv w v' sv' w'.drew := ⟨h.os, h.tape, h.output, h.size, h.block, h.own, h.ownS⟩
/-- The flag is stored anew. -/
theorem VSt.flag {ty : TypeId} {B Q : Nat} {vd vt : Value} {D T : List Int} {ok : Bool} {w : World} (h : VSt ty B Q vd vt D T ok w) (ok' : Bool) :
    VSt ty B Q vd vt D T ok' (w.setCell ⟨Q, 2, none⟩ (.bool ok')) ∧ VK Q vd vt w vd vt (w.setCell ⟨Q, 2, none⟩ (.bool ok')) := by
  have hsame : ∀ k, k ≠ Q → (w.setCell ⟨Q, 2, none⟩ (.bool ok')).heap[k]? = w.heap[k]? := fun k hk => Below.heap_setCell w ⟨Q, 2, none⟩ _ k hk
  have hnew : (w.setCell ⟨Q, 2, none⟩ (.bool ok')).heap[Q]? = some (.cells #[vd, vt, .bool ok'] ty (0, 0)) := by
    have := heap_setCell_same w Q 2 _ _ (.bool ok') h.box
    simpa using this
  refine ⟨⟨hnew, own_keepV h.deps (fun g e => hsame g (fun e2 => h.nd (by rw [e, e2]))), own_keepV h.todo (fun g e => hsame g (fun e2 => h.nt (by rw [e, e2]))), h.nd, h.nt, h.ne, h.le⟩,
    ⟨rfl, rfl, rfl, by simp, fun k _ hk _ _ => hsame k hk, fun g e => .inl e, fun g e => .inl e⟩⟩
/-- How many values there are at a place is stored. -/
theorem VSt.told {ty : TypeId} {B Q : Nat} {vd vt : Value} {D T : List Int} {ok : Bool} {w : World} (h : VSt ty B Q vd vt D T ok w) (n : Nat) (d : Int) {g : Nat} (hg : vd.ownBlock = some g) :
    VSt ty B Q vd vt (D.set n d) T ok (w.setCell ⟨g, n, none⟩ (.int .i64 d)) ∧ VK Q vd vt w vd vt (w.setCell ⟨g, n, none⟩ (.int .i64 d)) := by
  have hgQ : g ≠ Q := fun e => h.nd (by rw [hg, e])
  obtain ⟨cap, ev⟩ : ∃ cap, vd = .slice (some ⟨g, 0, none⟩) D.length cap := by
    rcases h.deps.2 with ⟨e, _⟩ | ⟨g', cap, cur, e, _⟩
    · rw [e] at hg; cases hg
    · rw [e] at hg
      injection hg with hg
      have : g' = g := hg
      subst this
      exact ⟨cap, e⟩
  have r1 := h.deps
  rw [ev] at r1
  obtain ⟨q1, g1⟩ := r1.stored n (.int .i64 d)
  rw [← List.map_set] at q1
  refine ⟨⟨(Below.heap_setCell w ⟨g, n, none⟩ _ Q (Ne.symm hgQ)).trans h.box, ?_, own_keepV h.todo (fun g' e => Below.heap_setCell w ⟨g, n, none⟩ _ g' (fun eg => h.ne g hg (by have e3 : g' = g := eg; rw [← e3]; exact e))), h.nd, h.nt, h.ne, h.le⟩,
    ⟨g1.os, g1.tape, g1.output, g1.size, fun k _ _ hkv _ => Below.heap_setCell w ⟨g, n, none⟩ _ k (fun e => hkv (by rw [hg, e])), fun g hg => .inl hg, fun g hg => .inl hg⟩⟩
  rw [List.length_set, ev]; exact q1
/-- A row of ints takes the place of what was left to do. -/
theorem VSt.todoNew {ty : TypeId} {B Q : Nat} {vd vt vt' : Value} {D T T' : List Int} {ok : Bool} {w w1 w2 : World} (h : VSt ty B Q vd vt D T ok w) (hb : Below w.heap.size w w1) (hrow : w2.ownsRow B 3 1 vt' T'.length (T'.map (Value.int .i64)))
    (hg : ∀ k, k < w1.heap.size → vt.ownBlock ≠ some k → w2.heap[k]? = w1.heap[k]?) (ho : w2.os = w1.os ∧ w2.tape = w1.tape ∧ w2.output = w1.output ∧ w1.heap.size ≤ w2.heap.size)
    (hat : ∀ g, vt'.ownBlock = some g → vt.ownBlock = some g ∨ w.heap.size ≤ g) : VSt ty B Q vd vt' D T' ok (w2.setCell ⟨Q, 1, none⟩ vt') ∧ VK Q vd vt w vd vt' (w2.setCell ⟨Q, 1, none⟩ vt') := by
  have hQ1 : Q < w1.heap.size := Nat.lt_of_lt_of_le h.lt hb.size
  have hbox2 : w2.heap[Q]? = some (.cells #[vd, vt, .bool ok] ty (0, 0)) := (hg Q hQ1 h.nt).trans ((hb.block Q h.lt).trans h.box)
  have hne : vt'.ownBlock ≠ some Q := fun e => by
    rcases hat Q e with h1 | h1
    · exact h.nt h1
    · have := h.lt; omega
  have hnew : (w2.setCell ⟨Q, 1, none⟩ vt').heap[Q]? = some (.cells #[vd, vt', .bool ok] ty (0, 0)) := by
    have := heap_setCell_same w2 Q 1 _ _ vt' hbox2
    simpa using this
  have hsame : ∀ k, k ≠ Q → (w2.setCell ⟨Q, 1, none⟩ vt').heap[k]? = w2.heap[k]? := fun k hk => Below.heap_setCell w2 ⟨Q, 1, none⟩ vt' k hk
  have hsz : (w2.setCell ⟨Q, 1, none⟩ vt').heap.size = w2.heap.size := by simp
  have hvd : ∀ g, vd.ownBlock = some g → g < w.heap.size ∧ w2.heap[g]? = w.heap[g]? := fun g e => by
    have h1 := (own_betweenV h.deps e).2
    exact ⟨h1, (hg g (Nat.lt_of_lt_of_le h1 hb.size) (h.ne g e)).trans (hb.block g h1)⟩
  refine ⟨⟨hnew, own_keepV h.deps (fun g e => (hsame g (fun eg => h.nd (by rw [e, eg]))).trans (hvd g e).2), own_keepV hrow (fun g e => hsame g (fun eg => hne (by rw [e, eg]))), h.nd, hne, fun g e1 e2 => ?_, h.le⟩,
    ⟨ho.1.trans hb.os, ho.2.1.trans hb.tape, ho.2.2.1.trans hb.output, by rw [hsz]; exact Nat.le_trans hb.size ho.2.2.2, fun k hk hkQ _ hks => ?_, fun g e => .inl e, hat⟩⟩
  · rcases hat g e2 with h1 | h1
    · exact h.ne g e1 h1
    · have := (hvd g e1).1; omega
  · rw [hsame k hkQ, hg k (Nat.lt_of_lt_of_le hk hb.size) hks, hb.block k hk]
/-- A row of ints takes the place of how many values there are. -/
theorem VSt.depsNew {ty : TypeId} {B Q : Nat} {vd vt vd' : Value} {D T D' : List Int} {ok : Bool} {w w1 w2 : World} (h : VSt ty B Q vd vt D T ok w) (hb : Below w.heap.size w w1) (hrow : w2.ownsRow B 3 1 vd' D'.length (D'.map (Value.int .i64)))
    (hg : w1.grownBy w2 vd.ownBlock) (hat : vd'.ownBlock = vd.ownBlock ∨ vd'.ownBlock = some w1.heap.size) : VSt ty B Q vd' vt D' T ok (w2.setCell ⟨Q, 0, none⟩ vd') ∧ VK Q vd vt w vd' vt (w2.setCell ⟨Q, 0, none⟩ vd') := by
  have hQ1 : Q < w1.heap.size := Nat.lt_of_lt_of_le h.lt hb.size
  have hbox2 : w2.heap[Q]? = some (.cells #[vd, vt, .bool ok] ty (0, 0)) := (hg.block Q hQ1 (fun e => h.nd e.symm)).trans ((hb.block Q h.lt).trans h.box)
  have hat' : ∀ g, vd'.ownBlock = some g → vd.ownBlock = some g ∨ w.heap.size ≤ g := fun g e => by
    rcases hat with e1 | e1
    · exact .inl (e1 ▸ e)
    · rw [e1] at e; injection e with e; have := hb.size; exact .inr (by omega)
  have hne : vd'.ownBlock ≠ some Q := fun e => by
    rcases hat' Q e with h1 | h1
    · exact h.nd h1
    · have := h.lt; omega
  have hnew : (w2.setCell ⟨Q, 0, none⟩ vd').heap[Q]? = some (.cells #[vd', vt, .bool ok] ty (0, 0)) := by
    have := heap_setCell_same w2 Q 0 _ _ vd' hbox2
    simpa using this
  have hsame : ∀ k, k ≠ Q → (w2.setCell ⟨Q, 0, none⟩ vd').heap[k]? = w2.heap[k]? := fun k hk => Below.heap_setCell w2 ⟨Q, 0, none⟩ vd' k hk
  have hsz : (w2.setCell ⟨Q, 0, none⟩ vd').heap.size = w2.heap.size := by simp
  have hvt : ∀ g, vt.ownBlock = some g → g < w.heap.size ∧ w2.heap[g]? = w.heap[g]? := fun g e => by
    have h1 := (own_betweenV h.todo e).2
    exact ⟨h1, (hg.block g (Nat.lt_of_lt_of_le h1 hb.size) (fun e2 => h.ne g e2.symm e)).trans (hb.block g h1)⟩
  refine ⟨⟨hnew, own_keepV hrow (fun g e => hsame g (fun eg => hne (by rw [e, eg]))), own_keepV h.todo (fun g e => (hsame g (fun eg => h.nt (by rw [e, eg]))).trans (hvt g e).2), hne, h.nt, fun g e1 e2 => ?_, h.le⟩,
    ⟨hg.os.trans hb.os, hg.tape.trans hb.tape, hg.output.trans hb.output, by rw [hsz]; exact Nat.le_trans hb.size hg.size, fun k hk hkQ hkv _ => ?_, hat', fun g e => .inl e⟩⟩
  · rcases hat' g e1 with h1 | h1
    · exact h.ne g h1 e2
    · have := (hvt g e2).1; omega
  · rw [hsame k hkQ, hg.block k (Nat.lt_of_lt_of_le hk hb.size) (fun e => hkv e.symm), hb.block k hk]
/-- The cells of a row that holds something. -/
theorem own_cells {w : World} {B : Nat} {v : Value} {xs : List Int} (h : w.ownsRow B 3 1 v xs.length (xs.map (Value.int .i64))) (h0 : 0 < xs.length) : ∃ g c, v = .slice (some ⟨g, 0, none⟩) xs.length c ∧ v.ownBlock = some g ∧ xs.length ≤ c ∧ c ≤ maxLen ∧ (∀ j, w.frozen? ⟨g, j, none⟩ = false) ∧ ∀ (j : Nat) (z : Int), xs[j]? = some z → w.cell? ⟨g, j, none⟩ = some (.int .i64 z) := by
  rcases h.2 with ⟨e, h1⟩ | ⟨g, cap, cur, e, hb, hh, hc, hm, _⟩
  · omega
  · subst e
    refine ⟨g, cap, rfl, rfl, hc, hm, fun j => h.frozenAt j, fun j z hz => ?_⟩
    have hj := (List.getElem?_eq_some_iff.1 hz).1
    have := h.cellAt j (by omega)
    rw [List.getElem?_map, hz] at this
    exact this
end Go.Proofs.YtkbbfgfmlilfbaaDoor
