/- The row of places that grows in a work of its own. No conditions. -/
import Derived.Test.YthnhdmanmmdoiaaDoorZG13AppendAt
import Derived.Test.YthnhdmanmmdoiaaDoorRows
import Derived.OwnWalk
import Derived.WalkKit
import Derived.ProofKit
import Derived.Laws.OwnMore
namespace Go.Proofs.YthnhdmanmmdoiaaDoor
open Go.ChangeShapes Go.WideShapes Go.ChangeAt Go.RowKit

/-- Block Q is a work (of type ty) whose row of places is l; all of it from block B on. -/
structure GSt (ty : TypeId) (B Q : Nat) (v : Value) (l : List O3) (w : World) : Prop where
  box : w.heap[Q]? = some (.cells #[v] ty (0, 0))
  row : w.ownsRow B 68 3 v l.length (orows l)
  ne : v.ownBlock ≠ some Q
  le : B ≤ Q
/-- Only the work and its row turned. -/
structure GK (Q : Nat) (v : Value) (w : World) (v' : Value) (w' : World) : Prop where
  os : w'.os = w.os
  tape : w'.tape = w.tape
  output : w'.output = w.output
  size : w.heap.size ≤ w'.heap.size
  block : ∀ k, k < w.heap.size → k ≠ Q → v.ownBlock ≠ some k → w'.heap[k]? = w.heap[k]?
  own : ∀ g, v'.ownBlock = some g → v.ownBlock = some g ∨ w.heap.size ≤ g
theorem GK.refl (Q : Nat) (v : Value) (w : World) : GK Q v w v w := ⟨rfl, rfl, rfl, Nat.le_refl _, fun _ _ _ _ => rfl, fun _ h => .inl h⟩
theorem GK.trans {Q : Nat} {v v1 v2 : Value} {w w1 w2 : World} (h : GK Q v w v1 w1) (k : GK Q v1 w1 v2 w2) : GK Q v w v2 w2 where
  os := k.os.trans h.os
  tape := k.tape.trans h.tape
  output := k.output.trans h.output
  size := Nat.le_trans h.size k.size
  block := fun j hj hQ hv => (k.block j (Nat.lt_of_lt_of_le hj h.size) hQ (fun e => by
    rcases h.own j e with h1 | h1
    · exact hv h1
    · omega)).trans (h.block j hj hQ hv)
  own := fun g hg => by
    rcases k.own g hg with h1 | h1
    · exact h.own g h1
    · exact .inr (Nat.le_trans h.size h1)
theorem GK.of_below {Q : Nat} {v : Value} {w w' : World} (h : Below w.heap.size w w') : GK Q v w v w' := ⟨h.os, h.tape, h.output, h.size, fun k hk _ _ => h.block k hk, fun _ h => .inl h⟩
theorem GSt.lt {ty : TypeId} {B Q : Nat} {v : Value} {l : List O3} {w : World} (h : GSt ty B Q v l w) : Q < w.heap.size := (Array.getElem?_eq_some_iff.1 h.box).1
theorem GSt.below {ty : TypeId} {B Q : Nat} {v : Value} {l : List O3} {w w' : World} (h : GSt ty B Q v l w) (hb : Below w.heap.size w w') : GSt ty B Q v l w' :=
  ⟨(hb.block _ h.lt).trans h.box, own_below5 h.row hb, h.ne, h.le⟩
theorem GSt.own_ge {ty : TypeId} {B Q : Nat} {v : Value} {l : List O3} {w : World} (h : GSt ty B Q v l w) {g : Nat} (hg : v.ownBlock = some g) : B ≤ g ∧ g < w.heap.size := by
  rcases h.row.2 with ⟨e, _⟩ | ⟨g', cap, cur, e, hb, hh, _⟩
  · rw [e] at hg; cases hg
  · rw [e] at hg
    injection hg with hg
    have hg' : g' = g := hg
    subst hg'
    exact ⟨hb, (Array.getElem?_eq_some_iff.1 hh).1⟩
/-- What lay before the work is as it was. -/
theorem GK.old {ty : TypeId} {Q : Nat} {v v' : Value} {l : List O3} {w0 w w' : World} (h : GK Q v w v' w') (hs : GSt ty w0.heap.size Q v l w) (hb : Below w0.heap.size w0 w) : Below w0.heap.size w0 w' :=
  ⟨h.os.trans hb.os, h.tape.trans hb.tape, h.output.trans hb.output, Nat.le_trans hb.size h.size, fun k hk => (h.block k (Nat.lt_of_lt_of_le hk hb.size) (by have := hs.le; omega) (fun e => by have := (hs.own_ge e).1; omega)).trans (hb.block k hk)⟩

/-- A row of ints that lies in block F. -/
def SlAt (w : World) (F : Nat) (sl : List Int) : Prop := ∀ j (z : Int), sl[j]? = some z → w.cell? ⟨F, j, none⟩ = some (.int .i64 z)
/-- A block that is not the work's. -/
def Free (Q : Nat) (v : Value) (w : World) (F : Nat) : Prop := F < w.heap.size ∧ F ≠ Q ∧ v.ownBlock ≠ some F
theorem Free.keep {Q : Nat} {v v' : Value} {w w' : World} {F : Nat} (h : Free Q v w F) (k : GK Q v w v' w') : Free Q v' w' F :=
  ⟨Nat.lt_of_lt_of_le h.1 k.size, h.2.1, fun e => by
    rcases k.own F e with h1 | h1
    · exact h.2.2 h1
    · have := h.1; omega⟩
theorem SlAt.keep {Q : Nat} {v v' : Value} {w w' : World} {F : Nat} {sl : List Int} (h : SlAt w F sl) (hf : Free Q v w F) (k : GK Q v w v' w') : SlAt w' F sl := fun j z hz =>
  (World.cell?_of_block (w := w) (k.block F hf.1 hf.2.1 hf.2.2)).trans (h j z hz)

theorem ocells_single (q : O3) : ∀ u ∈ ocells q, u.oneCell' = true := by
  intro u hu
  simp only [ocells, List.mem_cons, List.not_mem_nil, or_false] at hu
  rcases hu with rfl | rfl | rfl <;> rfl
/-- An append of one op to the row, and the store of the slice into the work. -/
theorem GSt.pushed {ty : TypeId} {B Q : Nat} {v v' : Value} {l : List O3} {q : O3} {w w1 w2 : World} (h : GSt ty B Q v l w) (hb : Below w.heap.size w w1) (hrow : w2.ownsRow B 68 3 v' (l.length + 1) (orows l ++ ocells q)) (hg : w1.grownBy w2 v.ownBlock)
    (hat : v'.ownBlock = v.ownBlock ∨ v'.ownBlock = some w1.heap.size) : GSt ty B Q v' (l ++ [q]) (w2.setCell ⟨Q, 0, none⟩ v') ∧ GK Q v w v' (w2.setCell ⟨Q, 0, none⟩ v') := by
  have hQ1 : Q < w1.heap.size := Nat.lt_of_lt_of_le h.lt hb.size
  have hbox2 : w2.heap[Q]? = some (.cells #[v] ty (0, 0)) := (hg.block Q hQ1 (fun e => h.ne e.symm)).trans ((hb.block Q h.lt).trans h.box)
  have hne : v'.ownBlock ≠ some Q := by
    rcases hat with e | e
    · rw [e]; exact h.ne
    · rw [e]; intro e2; injection e2 with e2; omega
  have hnew : (w2.setCell ⟨Q, 0, none⟩ v').heap[Q]? = some (.cells #[v'] ty (0, 0)) := by
    have := heap_setCell_same w2 Q 0 _ _ v' hbox2
    simpa using this
  have hsame : ∀ k, k ≠ Q → (w2.setCell ⟨Q, 0, none⟩ v').heap[k]? = w2.heap[k]? := fun k hk => Below.heap_setCell w2 ⟨Q, 0, none⟩ v' k hk
  have hsz : (w2.setCell ⟨Q, 0, none⟩ v').heap.size = w2.heap.size := by simp
  refine ⟨⟨hnew, ?_, hne, h.le⟩, ⟨?_, ?_, ?_, ?_, ?_, ?_⟩⟩
  · have e1 : (l ++ [q]).length = l.length + 1 := by simp
    have e2 : orows (l ++ [q]) = orows l ++ ocells q := by simp [orows]
    rw [e1, e2]
    refine ⟨hrow.1, ?_⟩
    rcases hrow.2 with h1 | ⟨g, cap, cur, e, h2, h3, h4⟩
    · exact .inl h1
    · refine .inr ⟨g, cap, cur, e, h2, (hsame g (fun eg => hne (by rw [e, ← eg]; rfl))).trans h3, h4⟩
  · exact hg.os.trans hb.os
  · exact hg.tape.trans hb.tape
  · exact hg.output.trans hb.output
  · rw [hsz]; exact Nat.le_trans hb.size hg.size
  · intro k hk hkQ hkv
    rw [hsame k hkQ, hg.block k (Nat.lt_of_lt_of_le hk hb.size) (fun e => hkv e.symm), hb.block k hk]
  · intro g hgg
    rcases hat with e | e
    · exact .inl (e ▸ hgg)
    · rw [e] at hgg
      injection hgg with hgg
      exact .inr (by have := hb.size; omega)
/-- A cell of a place is stored anew. -/
theorem GSt.stored {ty : TypeId} {B Q : Nat} {v : Value} {l : List O3} {w w1 : World} (h : GSt ty B Q v l w) (hb : Below w.heap.size w w1) {j : Nat} {u : Value} {l' : List O3} (hl : l'.length = l.length) (he : (orows l).set j u = orows l') {g : Nat} (hv : v.ownBlock = some g) :
    GSt ty B Q v l' (w1.setCell ⟨g, j, none⟩ u) ∧ GK Q v w v (w1.setCell ⟨g, j, none⟩ u) := by
  have hgQ : g ≠ Q := fun e => h.ne (by rw [hv, e])
  have h1 := h.below hb
  obtain ⟨cap, cur, ev⟩ : ∃ cap cur, v = .slice (some ⟨g, 0, none⟩) l.length cap ∧ w1.heap[g]? = some (.cells cur 68 (0, 0)) := by
    rcases h1.row.2 with ⟨e, _⟩ | ⟨g', cap, cur, e, _, hh, _⟩
    · rw [e] at hv; cases hv
    · rw [e] at hv
      injection hv with hv
      have : g' = g := hv
      subst this
      exact ⟨cap, cur, e, hh⟩
  have r1 := h1.row
  rw [ev.1] at r1
  obtain ⟨q1, g1⟩ := r1.stored j u
  rw [he] at q1
  refine ⟨⟨?_, ?_, h.ne, h.le⟩, ⟨g1.os.trans hb.os, g1.tape.trans hb.tape, g1.output.trans hb.output, Nat.le_trans hb.size g1.size, fun k hk hkQ hkv => ?_, fun g hg => .inl hg⟩⟩
  · exact (Below.heap_setCell w1 ⟨g, j, none⟩ u Q (Ne.symm hgQ)).trans h1.box
  · rw [hl, ev.1]; exact q1
  · exact (Below.heap_setCell w1 ⟨g, j, none⟩ u k (fun e => hkv (by rw [hv, e]))).trans (hb.block k hk)
end Go.Proofs.YthnhdmanmmdoiaaDoor

/- spec.l14Put: one place more in the row of a work. Condition: at most 2^30 of them. -/
namespace Go.Proofs.YthnhdmanmmdoiaaDoor
open Go.ChangeShapes Go.WideShapes Go.ChangeAt Go.RowKit

theorem wpList_append_1 {P : Program} (w : World) {ops : Array Oper} {rest : List Oper} {o : Oper} {a : Act} {Q : Exit → Act → World → Prop} (hgd : o.guard = .none) (s x : Operand) (t : TypeId)
    (ho : o.op = .call { callee := .builtin .append, args := #[s, x], argTypes := #[t, t] })
    (base : Nat) (e : TypeId) (i : TypeInfo) (z : Value) (size bytes : Nat) (ht : P.underlying t = some (.slice e)) (hi : P.info? e = some i) (hz : i.zero = some z)
    (hsize : i.size = size) (hby : i.bytes = bytes) (hzs : z.cells.size = size) (hsz : 0 < size)
    (v : Value) (n : Nat) (xs : List Value) (hs : a.eval s = v) (hown : w.ownsRow base e size v n xs)
    (ad : Addr) (m c : Nat) (news : List Value) (hx : a.eval x = .slice (some ad) m c) (hl : news.length = m * size) (hnews : ∀ j u, news[j]? = some u → w.cell? (ad.add j) = some u) (h1 : ∀ u ∈ news, u.oneCell' = true)
    (h63 : n + m ≤ maxLen) (hbytes : (n + m) * bytes ≤ 140737488355328) (hbase : base ≤ w.heap.size) (hm : 0 < m)
    (h : ∀ v' w', Hid (w'.ownsRow base e size v' (n + m) (xs ++ news)) → Hid (w.grownBy w' v.ownBlock) → Hid (v'.ownBlock = v.ownBlock ∨ v'.ownBlock = some w.heap.size) → wpList P ops Q rest (a.put o.dst v') w') : wpList P ops Q (o :: rest) a w := by
  obtain ⟨v', w', hr, h2, h3, _⟩ := run_append_own (P := P) w base t o.type e i z size bytes ht hi hz hsize hby hzs hsz v n xs hown ad m c news hl hnews h1 h63 hbytes hbase
  have r4 := append_where (P := P) w base t o.type e i z size bytes ht hi hz hsize hby v n xs hown ad m c news hl hnews h1 h63 hbytes hm v' w' hr
  refine wpList_plain hgd fun K hK => ?_
  unfold Oper.wp execOp
  simp only [ho, resolve, invoke, builtin, Sem.run_bind, Sem.run_pure, Result.andThen_ok, List.map_toArray, List.map_cons, List.map_nil, hs, hx, hr]
  exact hK _ _ (h v' w' h2 h3 r4)

theorem op_info14 : (Tryd.prog.info? 68).map (fun i => (i.zero, i.size, i.bytes)) = some (some (.agg #[.int .i64 0, .int .i64 0, .int .i64 0]), 3, 24) := by kernel_rfl
theorem row_shape {ty : TypeId} {B Q : Nat} {v : Value} {l : List O3} {w : World} (h : GSt ty B Q v l w) : ∃ p c, v = .slice p l.length c := by
  rcases h.row.2 with ⟨e, h0⟩ | ⟨g, cap, cur, e, _⟩
  · exact ⟨none, 0, by rw [e, h0]⟩
  · exact ⟨_, cap, e⟩
theorem GSt.cell {ty : TypeId} {B Q : Nat} {v : Value} {l : List O3} {w : World} (h : GSt ty B Q v l w) : w.cell? ⟨Q, 0, none⟩ = some v ∧ w.frozen? ⟨Q, 0, none⟩ = false :=
  ⟨cell_of_row w Q 0 _ _ _ h.box, frozen_of_row w Q 0 _ _ h.box⟩

theorem own_shape3 {w : World} {B e k n : Nat} {v : Value} {xs : List Value} (h : w.ownsRow B e k v n xs) : ∃ p c, v = .slice p n c := by
  rcases h.2 with ⟨e, h0⟩ | ⟨g, cap, cur, e, _⟩
  · exact ⟨none, 0, by rw [e, h0]⟩
  · exact ⟨_, cap, e⟩
/-- What l14Put does. -/
def PutPost (ty : TypeId) (B Q : Nat) (v : Value) (l : List O3) (q : O3) (w : World) (e : Ending) (w' : World) : Prop :=
  e = .returned (.int .i64 (l.length : Nat)) ∧ ∃ v', GSt ty B Q v' (l ++ [q]) w' ∧ GK Q v w v' w'

set_option maxRecDepth 100000 in
set_option maxHeartbeats 4000000 in
theorem spec_put14 (B Q : Nat) (v : Value) (l : List O3) (c n m : Int) (w : World) (h : GSt 44 B Q v l w) (hl : l.length ≤ 1073741824) :
    Calls Tryd.prog 16 #[.pointer (some ⟨Q, 0, none⟩), .int .i64 c, .int .i64 n, .int .i64 m] w (PutPost 44 B Q v l ⟨c, n, m⟩ w) := by
  obtain ⟨i0, hi0, hz0, hz1, hz2⟩ := info_parts op_info14
  obtain ⟨p, cp, ev⟩ := row_shape h
  obtain ⟨k0, kf⟩ := h.cell
  have HS : Hid (GSt 44 B Q v l w) := h
  obtain ⟨W, hW⟩ : ∃ W, W = w.alloc (.cells #[.int .i64 c, .int .i64 n, .int .i64 m] 68) := ⟨_, rfl⟩
  obtain ⟨N, hN⟩ : ∃ N, N = w.heap.size := ⟨_, rfl⟩
  have bW : Below w.heap.size w W := by rw [hW]; exact newb w _
  have hbx : W.heap[N]? = some (.cells #[.int .i64 c, .int .i64 n, .int .i64 m] 68 (0, 0)) := by rw [hW, hN]; exact heap_alloc_new w _
  have HBW : Hid (Below w.heap.size w W) := bW
  have HWW : Hid (W = w.alloc (.cells #[.int .i64 c, .int .i64 n, .int .i64 m] 68) ∧ N = w.heap.size) := ⟨hW, hN⟩
  have HROW : Hid (W.ownsRow B 68 3 v l.length (orows l)) := own_below5 h.row bW
  have HNEW : Hid (∀ j u, (ocells ⟨c, n, m⟩)[j]? = some u → W.cell? ((⟨N, 0, none⟩ : Addr).add j) = some u) := fun j u hj => by
    have hlt : j < 3 := by
      have := (List.getElem?_eq_some_iff.1 hj).1
      simpa [ocells] using this
    have e : (⟨N, 0, none⟩ : Addr).add j = ⟨N, j, none⟩ := by cases j <;> simp [Addr.add]
    rw [e, cell_of_row W N j _ _ _ hbx]
    match j, hlt with
    | 0, _ => exact hj
    | 1, _ => exact hj
    | 2, _ => exact hj
  have HBN : Hid (B ≤ W.heap.size) := Nat.le_trans h.le (Nat.le_of_lt (Nat.lt_of_lt_of_le h.lt bW.size))
  have HOUT : Hid (∀ v' w', w'.ownsRow B 68 3 v' (l.length + 1) (orows l ++ ocells ⟨c, n, m⟩) → W.grownBy w' v.ownBlock → (v'.ownBlock = v.ownBlock ∨ v'.ownBlock = some W.heap.size) →
      GSt 44 B Q v' (l ++ [⟨c, n, m⟩]) (w'.setCell ⟨Q, 0, none⟩ v') ∧ GK Q v w v' (w'.setCell ⟨Q, 0, none⟩ v')) := fun v' w' h1 h2 h3 => h.pushed bW h1 h2 h3
  have HQK : Hid (∀ w', W.grownBy w' v.ownBlock → w'.cell? ⟨Q, 0, none⟩ = some v ∧ w'.frozen? ⟨Q, 0, none⟩ = false) := fun w' hg => by
    have hb : w'.heap[Q]? = w.heap[Q]? := (hg.block Q (Nat.lt_of_lt_of_le h.lt bW.size) (fun e => h.ne e.symm)).trans (bW.block Q h.lt)
    exact ⟨(World.cell?_of_block (w := w) hb).trans h.cell.1, (World.frozen?_of_block (w := w) hb).trans h.cell.2⟩
  clear hW hN bW hbx h
  subst ev
  go_enter Tryd.func16, Tryd.ntmps16
  go_wp2_with (at_builtin; (rw [← HWW.out.1, ← HWW.out.2]); refine wpList_append_1 _ rfl (.tmp 13) (.tmp 18) 42 rfl B 68 i0 _ 3 24 Tryd.underlying42 hi0 hz0 hz1 hz2 rfl (by omega) (.slice p l.length cp) l.length (orows l) rfl HROW.out ⟨N, 0, none⟩ 1 1 (ocells ⟨c, n, m⟩) rfl rfl HNEW.out (ocells_single _) (by unfold maxLen; omega) (by omega) HBN.out (by omega) ?_; intro v' w' hown2 hg2 hat2; obtain ⟨kq, kqf⟩ := HQK.out w' hg2.out; obtain ⟨pv, cv, epv⟩ := own_shape3 hown2.out; subst epv)
  go_ret
  exact ⟨rfl, _, HOUT.out _ _ hown2.out hg2.out hat2.out⟩
end Go.Proofs.YthnhdmanmmdoiaaDoor
