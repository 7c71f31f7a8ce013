/- The program's work of verifying: a struct of three slices (the list of places; how many values there are; what is left to do). No conditions. -/
import Derived.Test.YtkbbfgfmlilfbaaDoorRows
import Derived.Test.YtkbbfgfmlilfbaaDoorVerSt
import Derived.Test.YtkbbfgfmlilfbaaDoorVerQ
namespace Go.Proofs.YtkbbfgfmlilfbaaDoor
open Go.ChangeShapes Go.WideShapes Go.ChangeAt Go.RowKit

/-- Block Q is a work: vl the list, D, T in rows of its own; all of it from block B on. -/
structure DSt (B Q : Nat) (vl vd vt : Value) (D T : List Int) (w : World) : Prop where
  box : w.heap[Q]? = some (.cells #[vl, vd, vt] 75 (0, 0))
  deps : w.ownsRow B 3 1 vd D.length (D.map (Value.int .i64))
  todo : w.ownsRow B 3 1 vt T.length (T.map (Value.int .i64))
  nd : vd.ownBlock ≠ some Q
  nt : vt.ownBlock ≠ some Q
  ne : ∀ g, vd.ownBlock = some g → vt.ownBlock ≠ some g
  le : B ≤ Q
theorem DSt.lt {B Q : Nat} {vl vd vt : Value} {D T : List Int} {w : World} (h : DSt B Q vl vd vt D T w) : Q < w.heap.size := (Array.getElem?_eq_some_iff.1 h.box).1
theorem DSt.below {B Q : Nat} {vl vd vt : Value} {D T : List Int} {w w' : World} (h : DSt B Q vl vd vt D T w) (hb : Below w.heap.size w w') : DSt B Q vl vd vt D T w' :=
  ⟨(hb.block _ h.lt).trans h.box, own_belowV h.deps hb, own_belowV h.todo hb, h.nd, h.nt, h.ne, h.le⟩
/-- What lay before the work is as it was. -/
theorem VK.oldD {Q : Nat} {vl v sv v' sv' : Value} {D T : List Int} {w0 w w' : World} (h : VK Q v sv w v' sv' w') (hs : DSt w0.heap.size Q vl v sv D T w) (hb : Below w0.heap.size w0 w) : Below w0.heap.size w0 w' :=
  ⟨h.os.trans hb.os, h.tape.trans hb.tape, h.output.trans hb.output, Nat.le_trans hb.size h.size, fun k hk => (h.block k (Nat.lt_of_lt_of_le hk hb.size) (by have := hs.le; omega)
    (fun e => by have := (own_betweenV hs.deps e).1; omega) (fun e => by have := (own_betweenV hs.todo e).1; omega)).trans (hb.block k hk)⟩
theorem DSt.cell {B Q : Nat} {vl vd vt : Value} {D T : List Int} {w : World} (h : DSt B Q vl vd vt D T w) :
    (w.cell? ⟨Q, 0, none⟩ = some vl ∧ w.cell? ⟨Q, 1, none⟩ = some vd ∧ w.cell? ⟨Q, 2, none⟩ = some vt) ∧ ∀ j, w.frozen? ⟨Q, j, none⟩ = false :=
  ⟨⟨cell_of_row w Q 0 _ _ _ h.box, cell_of_row w Q 1 _ _ _ h.box, cell_of_row w Q 2 _ _ _ h.box⟩, fun j => frozen_of_row w Q j _ _ h.box⟩
theorem DSt.drewn {B Q : Nat} {vl vd vt : Value} {D T : List Int} {w : World} (h : DSt B Q vl vd vt D T w) : DSt B Q vl vd vt D T w.drew := ⟨h.box, h.deps, h.todo, h.nd, h.nt, h.ne, h.le⟩
/-- How many values there are at a place is stored. -/
theorem DSt.told {B Q : Nat} {vl vd vt : Value} {D T : List Int} {w : World} (h : DSt B Q vl vd vt D T w) (n : Nat) (d : Int) {g : Nat} (hg : vd.ownBlock = some g) :
    DSt B Q vl vd vt (D.set n d) T (w.setCell ⟨g, n, none⟩ (.int .i64 d)) ∧ VK Q vd vt w vd vt (w.setCell ⟨g, n, none⟩ (.int .i64 d)) := by
  have hgQ : g ≠ Q := fun e => h.nd (by rw [hg, e])
  obtain ⟨cap, ev⟩ : ∃ cap, vd = .slice (some ⟨g, 0, none⟩) D.length cap := by
    rcases h.deps.2 with ⟨e, _⟩ | ⟨g', cap, cur, e, _⟩
    · rw [e] at hg; cases hg
    · rw [e] at hg
      injection hg with hg
      have : g' = g := hg
      subst this
      exact ⟨cap, e⟩
  have r1 := h.deps
  rw [ev] at r1
  obtain ⟨q1, g1⟩ := r1.stored n (.int .i64 d)
  rw [← List.map_set] at q1
  refine ⟨⟨(Below.heap_setCell w ⟨g, n, none⟩ _ Q (Ne.symm hgQ)).trans h.box, ?_, own_keepV h.todo (fun g' e => Below.heap_setCell w ⟨g, n, none⟩ _ g' (fun eg => h.ne g hg (by have e3 : g' = g := eg; rw [← e3]; exact e))), h.nd, h.nt, h.ne, h.le⟩,
    ⟨g1.os, g1.tape, g1.output, g1.size, fun k _ _ hkv _ => Below.heap_setCell w ⟨g, n, none⟩ _ k (fun e => hkv (by rw [hg, e])), fun g hg => .inl hg, fun g hg => .inl hg⟩⟩
  rw [List.length_set, ev]; exact q1
/-- A row of ints takes the place of what was left to do. -/
theorem DSt.todoNew {B Q : Nat} {vl vd vt vt' : Value} {D T T' : List Int} {w w1 w2 : World} (h : DSt B Q vl vd vt D T w) (hb : Below w.heap.size w w1) (hrow : w2.ownsRow B 3 1 vt' T'.length (T'.map (Value.int .i64)))
    (hg : ∀ k, k < w1.heap.size → vt.ownBlock ≠ some k → w2.heap[k]? = w1.heap[k]?) (ho : w2.os = w1.os ∧ w2.tape = w1.tape ∧ w2.output = w1.output ∧ w1.heap.size ≤ w2.heap.size)
    (hat : ∀ g, vt'.ownBlock = some g → vt.ownBlock = some g ∨ w.heap.size ≤ g) : DSt B Q vl vd vt' D T' (w2.setCell ⟨Q, 2, none⟩ vt') ∧ VK Q vd vt w vd vt' (w2.setCell ⟨Q, 2, none⟩ vt') := by
  have hQ1 : Q < w1.heap.size := Nat.lt_of_lt_of_le h.lt hb.size
  have hbox2 : w2.heap[Q]? = some (.cells #[vl, vd, vt] 75 (0, 0)) := (hg Q hQ1 h.nt).trans ((hb.block Q h.lt).trans h.box)
  have hne : vt'.ownBlock ≠ some Q := fun e => by
    rcases hat Q e with h1 | h1
    · exact h.nt h1
    · have := h.lt; omega
  have hnew : (w2.setCell ⟨Q, 2, none⟩ vt').heap[Q]? = some (.cells #[vl, vd, vt'] 75 (0, 0)) := by
    have := heap_setCell_same w2 Q 2 _ _ vt' hbox2
    simpa using this
  have hsame : ∀ k, k ≠ Q → (w2.setCell ⟨Q, 2, none⟩ vt').heap[k]? = w2.heap[k]? := fun k hk => Below.heap_setCell w2 ⟨Q, 2, none⟩ vt' k hk
  have hsz : (w2.setCell ⟨Q, 2, none⟩ vt').heap.size = w2.heap.size := by simp
  have hvd : ∀ g, vd.ownBlock = some g → g < w.heap.size ∧ w2.heap[g]? = w.heap[g]? := fun g e => by
    have h1 := (own_betweenV h.deps e).2
    exact ⟨h1, (hg g (Nat.lt_of_lt_of_le h1 hb.size) (h.ne g e)).trans (hb.block g h1)⟩
  refine ⟨⟨hnew, own_keepV h.deps (fun g e => (hsame g (fun eg => h.nd (by rw [e, eg]))).trans (hvd g e).2), own_keepV hrow (fun g e => hsame g (fun eg => hne (by rw [e, eg]))), h.nd, hne, fun g e1 e2 => ?_, h.le⟩,
    ⟨ho.1.trans hb.os, ho.2.1.trans hb.tape, ho.2.2.1.trans hb.output, by rw [hsz]; exact Nat.le_trans hb.size ho.2.2.2, fun k hk hkQ _ hks => ?_, fun g e => .inl e, hat⟩⟩
  · rcases hat g e2 with h1 | h1
    · exact h.ne g e1 h1
    · have := (hvd g e1).1; omega
  · rw [hsame k hkQ, hg k (Nat.lt_of_lt_of_le hk hb.size) hks, hb.block k hk]
/-- The last of what is left to do is taken off. -/
theorem DSt.popped {B Q : Nat} {vl vd : Value} {g c : Nat} {D T : List Int} {t : Int} {w : World} (h : DSt B Q vl vd (.slice (some ⟨g, 0, none⟩) (T ++ [t]).length c) D (T ++ [t]) w) :
    DSt B Q vl vd (.slice (some ⟨g, 0, none⟩) T.length c) D T (w.setCell ⟨Q, 2, none⟩ (.slice (some ⟨g, 0, none⟩) T.length c)) ∧ VK Q vd (.slice (some ⟨g, 0, none⟩) (T ++ [t]).length c) w vd (.slice (some ⟨g, 0, none⟩) T.length c) (w.setCell ⟨Q, 2, none⟩ (.slice (some ⟨g, 0, none⟩) T.length c)) := by
  have hr : w.ownsRow B 3 1 (.slice (some ⟨g, 0, none⟩) T.length c) T.length (T.map (Value.int .i64)) := by
    have := h.todo
    rw [List.map_append] at this
    exact own_cut this (by simp) (by simp)
  exact h.todoNew (Below.refl _ _) hr (fun _ _ _ => rfl) ⟨rfl, rfl, rfl, Nat.le_refl _⟩ (fun g' e => .inl e)

/-- Each place is come to with at least one value. -/
theorem Rch.pos {f : Fu} {k d : Int} (h : Rch f k d) : 1 ≤ d := by
  induction h with
  | base => omega
  | step _ _ _ _ hb _ ih =>
    unfold badO at hb
    simp only [Bool.or_eq_false_iff, decide_eq_false_iff_not] at hb
    have h1 := hb.1.1
    unfold nextO putsO
    split <;> omega
/-- The places behind one, as the program comes to them. -/
def succI (q : O3) (k : Int) : List Int :=
  if q.c = 7 ∨ q.c = 21 then [] else if q.c = 19 then [q.n] else if q.c = 18 then [k + 1, q.n] else if q.c = 10 ∨ q.c = 11 then [q.m, k + 1] else [k + 1]
theorem succI_mem (q : O3) (k s : Int) : s ∈ succI q k ↔ s ∈ succO q k := by
  unfold succI succO
  split
  · exact Iff.rfl
  split
  · exact Iff.rfl
  split
  · simp only [List.mem_cons, List.not_mem_nil, or_false]
    exact Or.comm
  · exact Iff.rfl
/-- The flag that is down stays so. -/
theorem goL_down {s d : Int} (D T : List Int) : (goL s d (D, T, false)).2.2 = false := by
  unfold goL
  split
  · rfl
  split
  · rfl
  split
  · rfl
  · rfl
theorem fold_down {d : Int} (S : List Int) : ∀ st : List Int × List Int × Bool, st.2.2 = false → (S.foldl (fun st s => goL s d st) st).2.2 = false := by
  induction S with
  | nil => intro st h; exact h
  | cons s S ih =>
    intro st h
    obtain ⟨D, T, ok⟩ := st
    simp only at h
    subst h
    exact ih _ (goL_down D T)
/-- A round, whatever the order of the places behind one. -/
theorem rnd_roundI {f : Fu} {D T : List Int} {k : Nat} {d : Int} (h : Rnd f D (T ++ [(k : Int)]) true) (hk : D[k]? = some d) (hp : ∀ k, k < f.len → ∀ s ∈ succO (f.op k) k, 0 ≤ s) (S : List Int) (hS : ∀ s, s ∈ S ↔ s ∈ succO (f.op k) k) (hb : badO d (f.op k) = false) :
    Rnd f (S.foldl (fun st s => goL s (nextO d (f.op k)) st) (D, T, true)).1 (S.foldl (fun st s => goL s (nextO d (f.op k)) st) (D, T, true)).2.1 (S.foldl (fun st s => goL s (nextO d (f.op k)) st) (D, T, true)).2.2 ∧
    muL (S.foldl (fun st s => goL s (nextO d (f.op k)) st) (D, T, true)).1 (S.foldl (fun st s => goL s (nextO d (f.op k)) st) (D, T, true)).2.1 < muL D (T ++ [(k : Int)]) := by
  obtain ⟨hw, hd⟩ := h
  obtain ⟨h0, hdn⟩ := hd rfl
  obtain ⟨k', d', e, hk', hd0⟩ := hw.todo k (by simp)
  obtain rfl : k' = k := by omega
  rw [hk] at hk'
  injection hk' with hk'
  subst hk'
  have hkl : k' < f.len := by have := (List.getElem?_eq_some_iff.1 hk).1; rw [hw.len] at this; exact this
  obtain ⟨hd60, hr⟩ : d ≤ 60 ∧ Rch f k' d := by
    rcases hw.val k' d hk with h1 | ⟨_, h1, h2⟩
    · omega
    · exact ⟨h1, h2⟩
  have hw' : WL f D T true := ⟨hw.len, hw.val, fun t ht => hw.todo t (by simp [ht]), hw.bad⟩
  have hmu : muL D T < muL D (T ++ [(k' : Int)]) := by unfold muL; rw [List.length_append]; simp
  obtain ⟨b1, b2, b3, b4, b5, b6⟩ := fold_wl hr hkl hd60 hb S (fun s hs => ⟨(hS s).1 hs, hp k' hkl s ((hS s).1 hs)⟩) D T true hw'
  generalize S.foldl (fun st s => goL s (nextO d (f.op k')) st) (D, T, true) = st at *
  obtain ⟨D1, T1, ok1⟩ := st
  simp only at b1 b2 b3 b4 b5 b6 ⊢
  refine ⟨⟨b1, fun e1 => ⟨b2.2 0 1 h0 (by omega), fun j x hj hx0 hn _ => ?_⟩⟩, Nat.lt_of_le_of_lt b6 hmu⟩
  obtain ⟨_, b3'⟩ := b3 e1
  by_cases hjk : j = k'
  · subst hjk
    have hxd : x = d := by
      have := b2.2 j d hk hd0
      rw [hj] at this
      injection this
    subst hxd
    refine ⟨hb, fun s hs => ?_⟩
    have hs0 := hp j hkl s hs
    exact ⟨s.toNat, by omega, b3' s ((hS s).2 hs)⟩
  · rcases b5 j x hj hx0 with h1 | h1
    · have hda := hdn j x h1 hx0 (fun hm => by
        rcases List.mem_append.1 hm with hm | hm
        · exact hn (b4 _ hm)
        · simp only [List.mem_singleton] at hm
          omega) (fun h => h)
      exact hda.more b2 (next_pos hda.1)
    · exact absurd h1 hn
/-- What is left to do is of places that are told. -/
theorem rnd_last {f : Fu} {D T : List Int} {t : Int} (h : Rnd f D (T ++ [t]) true) : ∃ (k : Nat) (d : Int), t = k ∧ k < f.len ∧ D[k]? = some d ∧ 1 ≤ d ∧ d ≤ 60 ∧ Rch f k d := by
  obtain ⟨hw, hd⟩ := h
  obtain ⟨k, d, e, hk, hd0⟩ := hw.todo t (by simp)
  have hkl : k < f.len := by have := (List.getElem?_eq_some_iff.1 hk).1; rw [hw.len] at this; exact this
  rcases hw.val k d hk with h1 | ⟨_, h1, h2⟩
  · omega
  · exact ⟨k, d, e, hkl, hk, h2.pos, h1, h2⟩
/-- Where a place is wrong, or what is behind one is, the list is none. -/
theorem rnd_bad {f : Fu} {k : Nat} {d : Int} (hr : Rch f k d) (hb : badO d (f.op k) = true) : ¬ DepOk f := WL.wrong hr hb
end Go.Proofs.YtkbbfgfmlilfbaaDoor
