/- Rows that are left to be filled, as a list of work; what a step leaves alone. No conditions. -/
import Derived.Test.YtgbfflpdpfgnbaaGreatZG2Holes
import Derived.Test.YtgbfflpdpfgnbaaGreatZG1StxOwn
namespace Go.Proofs.YtgbfflpdpfgnbaaGreat
open Go.ChangeShapes Go.WideShapes Go.ChangeAt Go.RowKit

/-- A row that is left: what it is made of, where that lies, and the row's block. -/
structure Job (A : Type) where
  len : Nat
  kid : Nat → A
  fv : Value
  g : Nat

def Job.tv {A : Type} (e : Job A) : Value := .slice (some ⟨e.g, 0, none⟩) e.len e.len
def Job.cells {A : Type} (e : Job A) : List Value := [e.fv, e.tv]
def Job.ent {A T : Type} (f : A → T) (e : Job A) : Ent T := ⟨e.len, fun i => f (e.kid i), e.tv⟩
def jrows {A : Type} (st : List (Job A)) : List Value := st.flatMap Job.cells
theorem jrows_append {A : Type} (a b : List (Job A)) : jrows (a ++ b) = jrows a ++ jrows b := by simp [jrows]
theorem jrows_length {A : Type} (st : List (Job A)) : (jrows st).length = st.length * 2 := by
  induction st with
  | nil => rfl
  | cons t r ih => simp only [jrows, List.flatMap_cons, List.length_append, List.length_cons] at ih ⊢; rw [ih]; simp [Job.cells]; omega

/-- The sum of the first k. -/
def sumJ (f : Nat → Nat) : Nat → Nat
  | 0 => 0
  | k + 1 => sumJ f k + f k
def Job.total {A : Type} (count : A → Nat) (e : Job A) : Nat := sumJ (fun i => count (e.kid i)) e.len
def totalJ {A : Type} (count : A → Nat) (st : List (Job A)) : Nat := (st.map (Job.total count)).sum
theorem totalJ_append {A : Type} (count : A → Nat) (a b : List (Job A)) : totalJ count (a ++ b) = totalJ count a + totalJ count b := by simp [totalJ]
theorem totalJ_one {A : Type} (count : A → Nat) (e : Job A) : totalJ count [e] = e.total count := by simp [totalJ]
theorem sumJ_len (f : Nat → Nat) (hf : ∀ i, 1 ≤ f i) (k : Nat) : k ≤ sumJ f k := by
  induction k with
  | zero => exact Nat.le_refl _
  | succ k ih => simp only [sumJ]; have := hf k; omega
theorem sumJ_le (f : Nat → Nat) (j k : Nat) (h : j ≤ k) : sumJ f j ≤ sumJ f k := by
  induction k with
  | zero => simp at h; subst h; exact Nat.le_refl _
  | succ k ih =>
    rcases Nat.lt_or_ge j (k + 1) with h1 | h1
    · have := ih (by omega); simp only [sumJ]; omega
    · have : j = k + 1 := by omega
      subst this; exact Nat.le_refl _
theorem sumJ_at (f : Nat → Nat) (j k : Nat) (h : j < k) : f j ≤ sumJ f k := by
  induction k with
  | zero => omega
  | succ k ih =>
    simp only [sumJ]
    rcases Nat.lt_or_ge j k with h1 | h1
    · have := ih h1; omega
    · obtain rfl : j = k := by omega
      omega
theorem totalJ_len {A : Type} (count : A → Nat) (hc : ∀ a, 1 ≤ count a) (st : List (Job A)) (h : ∀ e ∈ st, 0 < e.len) : st.length ≤ totalJ count st := by
  induction st with
  | nil => simp
  | cons e r ih =>
    have h1 := ih (fun x hx => h x (List.mem_cons_of_mem _ hx))
    have h2 := sumJ_len (fun i => count (e.kid i)) (fun i => hc _) e.len
    have h3 := h e (List.mem_cons_self ..)
    simp only [totalJ, List.map_cons, List.sum_cons, List.length_cons, Job.total] at h1 ⊢
    omega

/-- The blocks C alone have turned. -/
structure Fr (C : List Nat) (w w' : World) : Prop where
  os : w'.os = w.os
  tape : w'.tape = w.tape
  output : w'.output = w.output
  size : w.heap.size ≤ w'.heap.size
  block : ∀ g, g < w.heap.size → g ∉ C → w'.heap[g]? = w.heap[g]?
theorem Fr.refl (C : List Nat) (w : World) : Fr C w w := ⟨rfl, rfl, rfl, Nat.le_refl _, fun _ _ _ => rfl⟩
theorem Fr.trans {C : List Nat} {w w1 w2 : World} (h : Fr C w w1) (h2 : Fr C w1 w2) : Fr C w w2 :=
  ⟨h2.os.trans h.os, h2.tape.trans h.tape, h2.output.trans h.output, Nat.le_trans h.size h2.size, fun g a b => (h2.block g (Nat.lt_of_lt_of_le a h.size) b).trans (h.block g a b)⟩
theorem Fr.below {w w' : World} (h : Below w.heap.size w w') (C : List Nat) : Fr C w w' := ⟨h.os, h.tape, h.output, h.size, fun g a _ => h.block g a⟩
theorem Fr.grown {w w' : World} {r : Option Nat} {C : List Nat} (h : w.grownBy w' r) (hg : ∀ g ∈ r.toList, g ∈ C) : Fr C w w' := ⟨h.os, h.tape, h.output, h.size, fun k a b => h.block k a (fun e => b (hg k (by rw [← e]; simp)))⟩

/-- What is kept of the world, and which blocks may turn. -/
structure Env (Kp : World → Prop) (New : Nat → Prop) : Prop where
  fr : ∀ {C : List Nat} {W W' : World}, Kp W → Fr C W W' → (∀ x ∈ C, New x) → Kp W'
  new : ∀ {W : World} {x : Nat}, Kp W → W.heap.size ≤ x → New x

/-- What was there when a call began, and two blocks of its own. -/
structure Kept (w : World) (R0 TB : Nat) (oR oT : Obj) (W : World) : Prop where
  bel : Below w.heap.size w W
  res : W.heap[R0]? = some oR
  top : W.heap[TB]? = some oT
def NewB (w : World) (R0 TB : Nat) (x : Nat) : Prop := w.heap.size ≤ x ∧ x ≠ R0 ∧ x ≠ TB
theorem Kept.env (w : World) (R0 TB : Nat) (oR oT : Obj) : Env (Kept w R0 TB oR oT) (NewB w R0 TB) where
  fr := fun {C W W'} h f hC => ⟨⟨f.os.trans h.bel.os, f.tape.trans h.bel.tape, f.output.trans h.bel.output, Nat.le_trans h.bel.size f.size, fun x hx => (f.block x (Nat.lt_of_lt_of_le hx h.bel.size) (fun hc => by have := (hC x hc).1; omega)).trans (h.bel.block x hx)⟩,
    (f.block R0 (Array.getElem?_eq_some_iff.1 h.res).1 (fun hc => (hC _ hc).2.1 rfl)).trans h.res, (f.block TB (Array.getElem?_eq_some_iff.1 h.top).1 (fun hc => (hC _ hc).2.2 rfl)).trans h.top⟩
  new := fun {W x} h hx => ⟨Nat.le_trans h.bel.size hx, fun e => by have := (Array.getElem?_eq_some_iff.1 h.res).1; omega, fun e => by have := (Array.getElem?_eq_some_iff.1 h.top).1; omega⟩

theorem own_sameJ {w w' : World} {base e size n : Nat} {v : Value} {xs : List Value} (h : w.ownsRow base e size v n xs) (hb : ∀ g, v.ownBlock = some g → w'.heap[g]? = w.heap[g]?) : w'.ownsRow base e size v n xs := by
  refine ⟨h.1, ?_⟩
  rcases h.2 with hn | ⟨g, cap, cur, rfl, hbg, hgg, rest⟩
  · exact .inl hn
  · exact .inr ⟨g, cap, cur, rfl, hbg, (hb g rfl).trans hgg, rest⟩
theorem own_sameG {w w' : World} {base e size n g m cap : Nat} {xs : List Value} (h : w.ownsRow base e size (.slice (some ⟨g, 0, none⟩) m cap) n xs) (hb : w'.heap[g]? = w.heap[g]?) : w'.ownsRow base e size (.slice (some ⟨g, 0, none⟩) m cap) n xs :=
  own_sameJ h (fun x hx => by simp only [Value.ownBlock, Option.some.injEq] at hx; subst hx; exact hb)
theorem left_cells {A : Type} {W : World} {tL : TypeId} {gL cap : Nat} {r : List (Job A)} {e : Job A} (h : W.ownsRow 0 tL 2 (.slice (some ⟨gL, 0, none⟩) (r ++ [e]).length cap) (r ++ [e]).length (jrows (r ++ [e]))) :
    W.cell? ⟨gL, r.length * 2, none⟩ = some e.fv ∧ W.cell? ⟨gL, r.length * 2 + 1, none⟩ = some e.tv := by
  have hc : ∀ j, j < 2 → W.cell? ⟨gL, r.length * 2 + j, none⟩ = (e.cells)[j]? := by
    intro j hj
    have h1 := h.cellAt (r.length * 2 + j) (by simp; omega)
    rw [h1, jrows_append, List.getElem?_append_right (by rw [jrows_length]; omega), jrows_length]
    simp [jrows]
  exact ⟨hc 0 (by omega), hc 1 (by omega)⟩
end Go.Proofs.YtgbfflpdpfgnbaaGreat

/- A node whose kids are appended one by one: what the loop keeps. No conditions. -/
namespace Go.Proofs.YtgbfflpdpfgnbaaGreat
open Go.ChangeShapes Go.WideShapes Go.ChangeAt Go.RowKit

theorem Fr.toBelow {w w' : World} (h : Fr [] w w') : Below w.heap.size w w' := ⟨h.os, h.tape, h.output, h.size, fun x hx => h.block x hx (by simp)⟩
theorem Fr.setCell {cs : List Nat} {w w' : World} (h : Fr cs w w') (a : Addr) (v : Value) (ha : w.heap.size ≤ a.block) : Fr cs w (w'.setCell a v) :=
  ⟨h.os, h.tape, h.output, by have := h.size; simp; omega, fun x hx hc => (Below.heap_setCell w' a v x (by omega)).trans (h.block x hx hc)⟩

/-- What the loop keeps: the argument's block C, the result's R, the node's own O; its set; the kids so far, all from block B on. -/
structure XLoop (cs : List Nat) (w wr : World) (B C R O : Nat) (oA : Obj) (op a n : Int) (s : ByteArray) (set : List Int) (sv : Value) (kid : Nat → X) (k : Nat) (lv : Value) (la : List XR) (SS : List (List Nat)) : Prop where
  bel : Fr cs w wr
  size : B ≤ wr.heap.size
  ord : (∀ x ∈ cs, x < w.heap.size) ∧ w.heap.size ≤ C ∧ w.heap.size ≤ R ∧ w.heap.size ≤ O ∧ C < B ∧ R < B ∧ O < B ∧ C ≠ O ∧ R ≠ O
  arg : wr.heap[C]? = some oA
  res : Six wr R 0 0 0 ⟨#[]⟩ (.slice none 0 0) (.slice none 0 0) 32
  out : Six wr O op a n s sv lv 32
  sets : Own wr 0 sv set ∧ ∀ g, sv.ownBlock = some g → w.heap.size ≤ g ∧ g < B ∧ g ≠ O ∧ g ≠ R
  rows : XBuild B wr kid k lv la SS

theorem XLoop.next {cs : List Nat} {w wr w1 w3 : World} {B C R O : Nat} {oA : Obj} {op a n : Int} {s : ByteArray} {set : List Int} {sv : Value} {kid : Nat → X} {k : Nat} {lv : Value} {la : List XR} {SS : List (List Nat)}
    (hL : XLoop cs w wr B C R O oA op a n s set sv kid k lv la SS) {su v' : Value} {T : List Nat} (hb : Fr cs wr w1) (hd : XOwn w1 (kid k) su v' T) (hn : T.Nodup) (hT : ∀ x ∈ T, wr.heap.size ≤ x) {o : Obj} {g cap : Nat}
    (hown : w3.ownsRow 0 32 6 (.slice (some ⟨g, 0, none⟩) (k + 1) cap) (k + 1) (xrows la ++ xcells (kid k, su, v'))) (hg : (w1.alloc o).grownBy w3 lv.ownBlock) (hat : lv.ownBlock = some g ∨ g = w1.heap.size + 1) :
    (w3.heap[O]? = wr.heap[O]?) ∧ XLoop cs w (w3.setCell ⟨O, 5, none⟩ (.slice (some ⟨g, 0, none⟩) (k + 1) cap)) B C R O oA op a n s set sv kid (k + 1) (.slice (some ⟨g, 0, none⟩) (k + 1) cap) (la ++ [(kid k, su, v')]) (SS ++ [T]) := by
  obtain ⟨o0, o1, o2, o3, o4, o5, o6, o7, o8⟩ := hL.ord
  have hs := hL.size
  have hbs := hb.size
  have hcs : ∀ x, w.heap.size ≤ x → x ∉ cs := fun x hx hc => by have := o0 x hc; omega
  have hws := hL.bel.size
  have hA1 : XBuild B w1 kid k lv la SS := hL.rows.same (fun x hx hx' => hb.block x hx' (hcs x (by omega)))
  have hlt := hL.rows.rows.lt
  have hlv : ∀ x, lv.ownBlock = some x → B ≤ x ∧ x < wr.heap.size := fun x hx => ⟨(hL.rows.out x hx).2, (hL.rows.own.lt x hx).2⟩
  have hA3 := hA1.app (o := o) (g := g) (cap := cap) hd hn (fun x hx hx' => by have := hT x hx; have := hlt x hx'; omega) (fun x hx e => by have := hT x hx; have := (hlv x e).2; omega) (fun x hx => by have := hT x hx; omega) (by omega) hown hg hat
  have hs1 : (w1.alloc o).heap.size = w1.heap.size + 1 := by simp
  have low : ∀ x, w.heap.size ≤ x → x < B → w3.heap[x]? = wr.heap[x]? := fun x hw hx =>
    (hg.block x (by omega) (fun e => by have := (hlv x e.symm).1; omega)).trans ((Below.heap_alloc w1 o x (by omega)).trans (hb.block x (by omega) (hcs x hw)))
  have hset : ∀ x, x ≠ O → (w3.setCell ⟨O, 5, none⟩ (.slice (some ⟨g, 0, none⟩) (k + 1) cap)).heap[x]? = w3.heap[x]? := fun x hx => Below.heap_setCell w3 ⟨O, 5, none⟩ _ x hx
  have hgs := hg.size
  have hO3 := low O o3 o6
  have e : (w3.setCell ⟨O, 5, none⟩ (.slice (some ⟨g, 0, none⟩) (k + 1) cap)).heap.size = w3.heap.size := by simp
  have hfr : Fr cs w w3 := ⟨hg.os.trans (hb.os.trans hL.bel.os), hg.tape.trans (hb.tape.trans hL.bel.tape), hg.output.trans (hb.output.trans hL.bel.output), by omega, fun x hx hc => (hg.block x (by omega) (fun e => by have := (hlv x e.symm).1; omega)).trans ((Below.heap_alloc w1 o x (by omega)).trans ((hb.block x (by omega) hc).trans (hL.bel.block x hx hc)))⟩
  refine ⟨hO3, hfr.setCell _ _ (by exact o3), by omega, hL.ord, (hset C o7).trans ((low C o1 o4).trans hL.arg), (hset R o8).trans ((low R o2 o5).trans hL.res), ?_, ⟨hL.sets.1.sameX (fun x hx => ?_), hL.sets.2⟩, hA3.same (fun x hx _ => hset x (by omega))⟩
  · have h1 : Six w3 O op a n s sv lv 32 := hO3.trans hL.out
    exact h1.set5 _
  · obtain ⟨q1, q2, q3, q4⟩ := hL.sets.2 x hx
    exact (hset x q3).trans (low x q1 q2)

theorem XLoop.done {cs : List Nat} {w wr : World} {B C R O : Nat} {oA : Obj} {op a n : Int} {s : ByteArray} {set : List Int} {sv : Value} {kid : Nat → X} {k : Nat} {lv : Value} {la : List XR} {SS : List (List Nat)}
    (hL : XLoop cs w wr B C R O oA op a n s set sv kid k lv la SS) (hp : s.size ≤ maxLen ∧ (-9223372036854775808 ≤ n ∧ n ≤ 9223372036854775807) ∧ set.length ≤ maxLen) :
    Fr cs w (put6 wr R op a n s sv lv) ∧ ∃ S, XOwn (put6 wr R op a n s sv lv) (.mk op a n s set k kid) sv lv S ∧ S.Nodup ∧ ∀ x ∈ S, w.heap.size ≤ x := by
  obtain ⟨o0, o1, o2, o3, o4, o5, o6, o7, o8⟩ := hL.ord
  have hoth := put6_other wr R op a n s sv lv
  obtain ⟨S, h1, h2, h3⟩ := hL.rows.xsown
  have hwB : w.heap.size ≤ B := by omega
  refine ⟨(((((hL.bel.setCell _ _ (by exact o2)).setCell _ _ (by exact o2)).setCell _ _ (by exact o2)).setCell _ _ (by exact o2)).setCell _ _ (by exact o2)).setCell _ _ (by exact o2), sv.ownBlock.toList ++ S, XOwn.mk' hp (hL.sets.1.sameX (fun x hx => hoth x (hL.sets.2 x hx).2.2.2)) (h1.same (fun x hx => hoth x (by have := h3 x hx; omega))), ?_, ?_⟩
  · refine List.nodup_append.2 ⟨by cases sv.ownBlock <;> simp, h2, fun x hx y hy e => ?_⟩
    subst e
    simp only [Option.mem_toList] at hx
    have := (hL.sets.2 x hx).2.1
    have := h3 x hy
    omega
  · intro x hx
    rcases List.mem_append.1 hx with hx | hx
    · simp only [Option.mem_toList] at hx
      exact (hL.sets.2 x hx).1
    · have := h3 x hx; omega
end Go.Proofs.YtgbfflpdpfgnbaaGreat

/- A node whose kids are appended: how the loop begins. No conditions. -/
namespace Go.Proofs.YtgbfflpdpfgnbaaGreat
open Go.ChangeShapes Go.WideShapes Go.ChangeAt Go.RowKit

/-- The three blocks when the loop begins, the set's none. -/
theorem stx_start (w : World) (oA : Obj) (op a n : Int) (s : ByteArray) (kid : Nat → X) :
    XLoop [] w (((w.alloc oA).alloc (.cells #[.int .i64 0, .int .i64 0, .int .i64 0, .string ⟨#[]⟩, .slice none 0 0, .slice none 0 0] 32)).alloc (.cells #[.int .i64 op, .int .i64 a, .int .i64 n, .string s, .slice none 0 0, .slice none 0 0] 32)) (w.heap.size + 3) w.heap.size (w.heap.size + 1) (w.heap.size + 1 + 1) oA op a n s [] (.slice none 0 0) kid 0 (.slice none 0 0) [] [] := by
  obtain ⟨h1, h2, h3, h4, h5⟩ := threeX (Below.refl (((w.alloc oA).alloc (.cells #[.int .i64 0, .int .i64 0, .int .i64 0, .string ⟨#[]⟩, .slice none 0 0, .slice none 0 0] 32)).alloc (.cells #[.int .i64 op, .int .i64 a, .int .i64 n, .string s, .slice none 0 0, .slice none 0 0] 32)).heap.size _)
  exact ⟨Fr.below h5 _, h4, ⟨by simp, by omega, by omega, by omega, by omega, by omega, by omega, by omega, by omega⟩, h1, h2, h3, ⟨⟨rfl, .inl ⟨rfl, rfl⟩⟩, fun g h => by simp [Value.ownBlock] at h⟩, XBuild.nil _ _ _⟩

/-- .. and where the set was made. -/
theorem XLoop.setIn {w W w2 : World} {C R O : Nat} {oA : Obj} {op a n : Int} {s : ByteArray} {kid : Nat → X} {sv : Value} {xs : List Int} (h : XLoop [] w W W.heap.size C R O oA op a n s [] (.slice none 0 0) kid 0 (.slice none 0 0) [] []) (hb : Below W.heap.size W w2) (hs : Own w2 W.heap.size sv xs) :
    XLoop [] w (w2.setCell ⟨O, 4, none⟩ sv) w2.heap.size C R O oA op a n s xs sv kid 0 (.slice none 0 0) [] [] := by
  obtain ⟨o0, o1, o2, o3, o4, o5, o6, o7, o8⟩ := h.ord
  have hbs := hb.size
  have hws := h.bel.size
  have hset : ∀ x, x ≠ O → (w2.setCell ⟨O, 4, none⟩ sv).heap[x]? = w2.heap[x]? := fun x hx => Below.heap_setCell w2 ⟨O, 4, none⟩ _ x hx
  refine ⟨(h.bel.trans (Fr.below hb [])).setCell _ _ (by exact o3), by simp, ⟨o0, o1, o2, o3, by omega, by omega, by omega, o7, o8⟩, (hset C o7).trans ((hb.block C o4).trans h.arg), (hset R o8).trans ((hb.block R o5).trans h.res), (h.out.below hb).set4 sv, ⟨(hs.mono (Nat.zero_le _)).sameX (fun x hx => hset x ?_), fun g hg => ?_⟩, XBuild.nil _ _ _⟩
  · have := (World.ownsRow.lt hs x hx).1; omega
  · have := World.ownsRow.lt hs g hg; omega
theorem XLoop.from {cs : List Nat} {w wr : World} {B B' C R O : Nat} {oA : Obj} {op a n : Int} {s : ByteArray} {set : List Int} {sv : Value} {kid : Nat → X} (h : XLoop cs w wr B C R O oA op a n s set sv kid 0 (.slice none 0 0) [] []) (hB : B ≤ B') (hs : B' ≤ wr.heap.size) : XLoop cs w wr B' C R O oA op a n s set sv kid 0 (.slice none 0 0) [] [] :=
  ⟨h.bel, hs, ⟨h.ord.1, h.ord.2.1, h.ord.2.2.1, h.ord.2.2.2.1, by have := h.ord.2.2.2.2.1; omega, by have := h.ord.2.2.2.2.2.1; omega, by have := h.ord.2.2.2.2.2.2.1; omega, h.ord.2.2.2.2.2.2.2⟩, h.arg, h.res, h.out, ⟨h.sets.1, fun g hg => by have := h.sets.2 g hg; omega⟩, XBuild.nil _ _ _⟩

/-- The set is made anew. -/
theorem XLoop.turnIn {w W w2 : World} {C R O : Nat} {oA : Obj} {op a n : Int} {s : ByteArray} {kid : Nat → X} {sv sv' : Value} {xs ys : List Int} (h : XLoop [] w W W.heap.size C R O oA op a n s xs sv kid 0 (.slice none 0 0) [] []) (hb : Below W.heap.size W w2) (hs : Own w2 W.heap.size sv' ys) :
    XLoop [] w (w2.setCell ⟨O, 4, none⟩ sv') w2.heap.size C R O oA op a n s ys sv' kid 0 (.slice none 0 0) [] [] := by
  obtain ⟨o0, o1, o2, o3, o4, o5, o6, o7, o8⟩ := h.ord
  have hbs := hb.size
  have hws := h.bel.size
  have hset : ∀ x, x ≠ O → (w2.setCell ⟨O, 4, none⟩ sv').heap[x]? = w2.heap[x]? := fun x hx => Below.heap_setCell w2 ⟨O, 4, none⟩ _ x hx
  refine ⟨(h.bel.trans (Fr.below hb [])).setCell _ _ (by exact o3), by simp, ⟨o0, o1, o2, o3, by omega, by omega, by omega, o7, o8⟩, (hset C o7).trans ((hb.block C o4).trans h.arg), (hset R o8).trans ((hb.block R o5).trans h.res), (h.out.below hb).set4 sv', ⟨(hs.mono (Nat.zero_le _)).sameX (fun x hx => hset x ?_), fun g hg => ?_⟩, XBuild.nil _ _ _⟩
  · have := (World.ownsRow.lt hs x hx).1; omega
  · have := World.ownsRow.lt hs g hg; omega

theorem own_shape {w : World} {base : Nat} {v : Value} {xs : List Int} (h : Own w base v xs) : ∃ p c, v = .slice p xs.length c := (h.setB (Nat.zero_le _)).shape

/-- The set is appended to an empty list. -/
theorem set_grown {w W w2 : World} {C R O gS : Nat} {oA : Obj} {op a n : Int} {s : ByteArray} {kid : Nat → X} {v : Value} {xs : List Int} (h : XLoop [] w W (w.heap.size + 3) C R O oA op a n s [] (.slice none 0 0) kid 0 (.slice none 0 0) [] []) (hW : W.heap.size = w.heap.size + 3) (hS : gS = w.heap.size + 1 + 1 + 1)
    (hown : w2.ownsRow (w.heap.size + 3) 3 1 v (0 + xs.length) ([] ++ xs.map (Value.int .i64))) (hg : (W.alloc (.cells #[] 3)).grownBy w2 (Value.slice (some ⟨gS, 0, none⟩) 0 0).ownBlock) :
    XLoop [] w (w2.setCell ⟨O, 4, none⟩ v) w2.heap.size C R O oA op a n s xs v kid 0 (.slice none 0 0) [] [] ∧ Six w2 O op a n s (.slice none 0 0) (.slice none 0 0) 32 ∧ ∃ p c, v = .slice p xs.length c := by
  have ho : Own w2 (w.heap.size + 3) v xs := by
    have h1 := hown
    rw [Nat.zero_add, List.nil_append] at h1
    exact h1
  have hb : Below W.heap.size W w2 := by
    have h1 := hg.size
    have h2 : (W.alloc (.cells #[] 3)).heap.size = W.heap.size + 1 := by simp
    exact (newx W (.cells #[] 3)).trans ⟨hg.os, hg.tape, hg.output, by omega, fun x hx => hg.block x (by omega) (by simp only [Value.ownBlock]; intro e; injection e with e; omega)⟩
  have h0 : XLoop [] w W W.heap.size C R O oA op a n s [] (.slice none 0 0) kid 0 (.slice none 0 0) [] [] := h.from (by omega) (by omega)
  exact ⟨h0.setIn hb (by rw [hW]; exact ho), h.out.below hb, own_shape ho⟩

/-- The node's block is laid behind its set. -/
theorem start_alloc {w w3 : World} {oA : Obj} {op a n : Int} {s : ByteArray} {sv : Value} {xs : List Int} (kid : Nat → X) (hb : Below ((w.alloc oA).alloc (.cells #[.int .i64 0, .int .i64 0, .int .i64 0, .string ⟨#[]⟩, .slice none 0 0, .slice none 0 0] 32)).heap.size ((w.alloc oA).alloc (.cells #[.int .i64 0, .int .i64 0, .int .i64 0, .string ⟨#[]⟩, .slice none 0 0, .slice none 0 0] 32)) w3) (hs : Own w3 (w.heap.size + 2) sv xs) :
    XLoop [] w (w3.alloc (.cells #[.int .i64 op, .int .i64 a, .int .i64 n, .string s, sv, .slice none 0 0] 32)) (w3.heap.size + 1) w.heap.size (w.heap.size + 1) w3.heap.size oA op a n s xs sv kid 0 (.slice none 0 0) [] [] := by
  obtain ⟨h1, h2, h4, h5⟩ := twoX hb
  have hn := newx w3 (.cells #[.int .i64 op, .int .i64 a, .int .i64 n, .string s, sv, .slice none 0 0] 32)
  refine ⟨(Fr.below h5 _).trans (Fr.below hn _), by simp, ⟨by simp, by omega, by omega, by omega, by omega, by omega, by omega, by omega, by omega⟩, (hn.block _ (by omega)).trans h1, (hn.block _ (by omega)).trans h2, heap_alloc_new w3 _, ⟨(hs.mono (Nat.zero_le _)).sameX (fun g hg => hn.block g (World.ownsRow.lt hs g hg).2), fun g hg => by have := World.ownsRow.lt hs g hg; omega⟩, XBuild.nil _ _ _⟩
/-- The node's block was laid ahead. -/
theorem start_put {w w3 : World} {O : Nat} {oA : Obj} {op a n : Int} {s : ByteArray} {sv : Value} {xs : List Int} (kid : Nat → X) (hb : Below ((w.alloc oA).alloc (.cells #[.int .i64 0, .int .i64 0, .int .i64 0, .string ⟨#[]⟩, .slice none 0 0, .slice none 0 0] 32)).heap.size ((w.alloc oA).alloc (.cells #[.int .i64 0, .int .i64 0, .int .i64 0, .string ⟨#[]⟩, .slice none 0 0, .slice none 0 0] 32)) w3) (hs : Own w3 (w.heap.size + 2) sv xs) (hO : w.heap.size + 2 ≤ O) (hz : Six w3 O 0 0 0 ⟨#[]⟩ (.slice none 0 0) (.slice none 0 0) 32) (hne : sv.ownBlock ≠ some O) :
    XLoop [] w (put6 w3 O op a n s sv (.slice none 0 0)) w3.heap.size w.heap.size (w.heap.size + 1) O oA op a n s xs sv kid 0 (.slice none 0 0) [] [] := by
  obtain ⟨h1, h2, h4, h5⟩ := twoX hb
  have hlt := hz.lt
  have hoth := put6_other w3 O op a n s sv (.slice none 0 0)
  refine ⟨(((((((Fr.below h5 []).setCell _ _ (by show _ ≤ O; omega)).setCell _ _ (by show _ ≤ O; omega)).setCell _ _ (by show _ ≤ O; omega)).setCell _ _ (by show _ ≤ O; omega)).setCell _ _ (by show _ ≤ O; omega)).setCell _ _ (by show _ ≤ O; omega)), by simp, ⟨by simp, by omega, by omega, by omega, by omega, by omega, by omega, by omega, by omega⟩, (hoth _ (by omega)).trans h1, (hoth _ (by omega)).trans h2, ?_, ⟨(hs.mono (Nat.zero_le _)).sameX (fun g hg => hoth g (fun e => hne (by rw [hg, e]))), fun g hg => ?_⟩, XBuild.nil _ _ _⟩
  · have z1 := heap_setCell_same w3 O 0 _ _ (.int .i64 op) hz
    have z2 := heap_setCell_same _ O 1 _ _ (.int .i64 a) z1
    have z3 := heap_setCell_same _ O 2 _ _ (.int .i64 n) z2
    have z4 := heap_setCell_same _ O 3 _ _ (.string s) z3
    have z5 := heap_setCell_same _ O 4 _ _ sv z4
    have z6 := heap_setCell_same _ O 5 _ _ (.slice none 0 0) z5
    exact z6
  · have := World.ownsRow.lt hs g hg
    have h9 : g ≠ O := fun e => hne (by rw [hg, e])
    omega

/-- An empty list that was just laid. -/
theorem own_empty {W : World} {B g : Nat} (h : W.heap[g]? = some (.cells #[] 3 (0, 0))) (hB : B ≤ g) : Own W B (.slice (some ⟨g, 0, none⟩) 0 0) [] :=
  ⟨rfl, .inr ⟨g, 0, #[], rfl, hB, h, Nat.le_refl _, Nat.zero_le _, rfl, rfl⟩⟩
/-- .. and grown by a set. -/
theorem own_grown {W0 W w4 : World} {B g : Nat} {v : Value} {xs : List Int} (hb : Below W0.heap.size W0 W) (hB : W0.heap.size ≤ g) (hown : w4.ownsRow B 3 1 v (0 + xs.length) ([] ++ xs.map (Value.int .i64))) (hg : W.grownBy w4 (Value.slice (some ⟨g, 0, none⟩) 0 0).ownBlock) : Own w4 B v xs ∧ Below W0.heap.size W0 w4 := by
  refine ⟨?_, hb.trans ⟨hg.os, hg.tape, hg.output, hg.size, fun x hx => ?_⟩⟩
  · rw [Nat.zero_add, List.nil_append] at hown
    exact hown
  · exact hg.block x (Nat.lt_of_lt_of_le hx hb.size) (by simp only [Value.ownBlock]; intro e; injection e with e; omega)
/-- A list of ints is no node's block. -/
theorem own_ne6 {w : World} {B O : Nat} {sv : Value} {xs : List Int} {a b c : Int} {s : ByteArray} {u v : Value} (h : Own w B sv xs) (h6 : Six w O a b c s u v 32) : sv.ownBlock ≠ some O := by
  intro e
  rcases h.2 with ⟨h0, _⟩ | ⟨g, cap, cur, h0, _, hg, _⟩
  · rw [h0] at e; simp [Value.ownBlock] at e
  · rw [h0] at e
    simp only [Value.ownBlock, Option.some.injEq] at e
    subst e
    have h7 : w.heap[g]? = _ := h6
    rw [hg] at h7
    injection h7 with h7
    injection h7 with _ h7
    exact absurd h7 (by decide)
theorem Six.grown {W w4 : World} {O g : Nat} {a b c : Int} {s : ByteArray} {u v : Value} {ty : TypeId} (h : Six W O a b c s u v ty) (hg : W.grownBy w4 (Value.slice (some ⟨g, 0, none⟩) 0 0).ownBlock) (hne : O ≠ g) : Six w4 O a b c s u v ty :=
  (hg.block _ h.lt (by simp only [Value.ownBlock]; intro e; injection e with e; exact hne e)).trans h
theorem pt_ex {w wx : World} {O B C R : Nat} {oA : Obj} {op a n : Int} {s : ByteArray} {set : List Int} {sv : Value} {kid : Nat → X} (h : XLoop [] w wx B C R O oA op a n s set sv kid 0 (.slice none 0 0) [] []) :
    ∃ (O' B' : Nat) (sv' : Value), Value.pointer (some ⟨O, 0, none⟩) = .pointer (some ⟨O', 0, none⟩) ∧ XLoop [] w wx B' C R O' oA op a n s set sv' kid 0 (.slice none 0 0) [] [] := ⟨_, _, _, rfl, h⟩
theorem six_put {w : World} {o g : Nat} {a b c : Int} {s : ByteArray} {u v : Value} {ty : TypeId} (h : Six w o a b c s u v ty) (a' b' c' : Int) (s' : ByteArray) (u' v' : Value) (hne : o ≠ g) : Six (put6 w g a' b' c' s' u' v') o a b c s u v ty := (put6_other w g a' b' c' s' u' v' o hne).trans h
theorem five_of {w : World} {g : Nat} {a b c : Int} {s : ByteArray} {u v : Value} {ty : TypeId} (h : Six w g a b c s u v ty) :
    w.cell? ⟨g, 0, none⟩ = some (.int .i64 a) ∧ w.cell? ⟨g, 1, none⟩ = some (.int .i64 b) ∧ w.cell? ⟨g, 2, none⟩ = some (.int .i64 c) ∧ w.cell? ⟨g, 3, none⟩ = some (.string s) ∧ w.cell? ⟨g, 4, none⟩ = some u :=
  ⟨h.cells.1, h.cells.2.1, h.cells.2.2.1, h.cells.2.2.2.1, h.cells.2.2.2.2.1⟩
end Go.Proofs.YtgbfflpdpfgnbaaGreat
