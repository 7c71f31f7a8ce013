/- A node whose kids are appended: how the loop begins. No conditions. -/
import Derived.Test.YtoifhaakieigcaaSpecLoop
import Derived.Test.YtoifhaakieigcaaIntsOwn
namespace Go.Proofs.Ytoifhaakieigcaa
open Go.ChangeShapes Go.WideShapes Go.ChangeAt Go.RowKit

/-- The three blocks when the loop begins, the set's none. -/
theorem stx_start (w : World) (oA : Obj) (op a n : Int) (s : ByteArray) (kid : Nat → X) :
    XLoop [] w (((w.alloc oA).alloc (.cells #[.int .i64 0, .int .i64 0, .int .i64 0, .string ⟨#[]⟩, .slice none 0 0, .slice none 0 0] 29)).alloc (.cells #[.int .i64 op, .int .i64 a, .int .i64 n, .string s, .slice none 0 0, .slice none 0 0] 29)) (w.heap.size + 3) w.heap.size (w.heap.size + 1) (w.heap.size + 1 + 1) oA op a n s [] (.slice none 0 0) kid 0 (.slice none 0 0) [] [] := by
  obtain ⟨h1, h2, h3, h4, h5⟩ := threeX (Below.refl (((w.alloc oA).alloc (.cells #[.int .i64 0, .int .i64 0, .int .i64 0, .string ⟨#[]⟩, .slice none 0 0, .slice none 0 0] 29)).alloc (.cells #[.int .i64 op, .int .i64 a, .int .i64 n, .string s, .slice none 0 0, .slice none 0 0] 29)).heap.size _)
  exact ⟨Fr.below h5 _, h4, ⟨by simp, by omega, by omega, by omega, by omega, by omega, by omega, by omega, by omega⟩, h1, h2, h3, ⟨⟨rfl, .inl ⟨rfl, rfl⟩⟩, fun g h => by simp [Value.ownBlock] at h⟩, XBuild.nil _ _ _⟩

/-- .. and where the set was made. -/
theorem XLoop.setIn {w W w2 : World} {C R O : Nat} {oA : Obj} {op a n : Int} {s : ByteArray} {kid : Nat → X} {sv : Value} {xs : List Int} (h : XLoop [] w W W.heap.size C R O oA op a n s [] (.slice none 0 0) kid 0 (.slice none 0 0) [] []) (hb : Below W.heap.size W w2) (hs : Own w2 W.heap.size sv xs) :
    XLoop [] w (w2.setCell ⟨O, 4, none⟩ sv) w2.heap.size C R O oA op a n s xs sv kid 0 (.slice none 0 0) [] [] := by
  obtain ⟨o0, o1, o2, o3, o4, o5, o6, o7, o8⟩ := h.ord
  have hbs := hb.size
  have hws := h.bel.size
  have hset : ∀ x, x ≠ O → (w2.setCell ⟨O, 4, none⟩ sv).heap[x]? = w2.heap[x]? := fun x hx => Below.heap_setCell w2 ⟨O, 4, none⟩ _ x hx
  refine ⟨(h.bel.trans (Fr.below hb [])).setCell _ _ (by exact o3), by simp, ⟨o0, o1, o2, o3, by omega, by omega, by omega, o7, o8⟩, (hset C o7).trans ((hb.block C o4).trans h.arg), (hset R o8).trans ((hb.block R o5).trans h.res), (h.out.below hb).set4 sv, ⟨(hs.mono (Nat.zero_le _)).sameX (fun x hx => hset x ?_), fun g hg => ?_⟩, XBuild.nil _ _ _⟩
  · have := (World.ownsRow.lt hs x hx).1; omega
  · have := World.ownsRow.lt hs g hg; omega
theorem XLoop.from {cs : List Nat} {w wr : World} {B B' C R O : Nat} {oA : Obj} {op a n : Int} {s : ByteArray} {set : List Int} {sv : Value} {kid : Nat → X} (h : XLoop cs w wr B C R O oA op a n s set sv kid 0 (.slice none 0 0) [] []) (hB : B ≤ B') (hs : B' ≤ wr.heap.size) : XLoop cs w wr B' C R O oA op a n s set sv kid 0 (.slice none 0 0) [] [] :=
  ⟨h.bel, hs, ⟨h.ord.1, h.ord.2.1, h.ord.2.2.1, h.ord.2.2.2.1, by have := h.ord.2.2.2.2.1; omega, by have := h.ord.2.2.2.2.2.1; omega, by have := h.ord.2.2.2.2.2.2.1; omega, h.ord.2.2.2.2.2.2.2⟩, h.arg, h.res, h.out, ⟨h.sets.1, fun g hg => by have := h.sets.2 g hg; omega⟩, XBuild.nil _ _ _⟩

/-- The set is made anew. -/
theorem XLoop.turnIn {w W w2 : World} {C R O : Nat} {oA : Obj} {op a n : Int} {s : ByteArray} {kid : Nat → X} {sv sv' : Value} {xs ys : List Int} (h : XLoop [] w W W.heap.size C R O oA op a n s xs sv kid 0 (.slice none 0 0) [] []) (hb : Below W.heap.size W w2) (hs : Own w2 W.heap.size sv' ys) :
    XLoop [] w (w2.setCell ⟨O, 4, none⟩ sv') w2.heap.size C R O oA op a n s ys sv' kid 0 (.slice none 0 0) [] [] := by
  obtain ⟨o0, o1, o2, o3, o4, o5, o6, o7, o8⟩ := h.ord
  have hbs := hb.size
  have hws := h.bel.size
  have hset : ∀ x, x ≠ O → (w2.setCell ⟨O, 4, none⟩ sv').heap[x]? = w2.heap[x]? := fun x hx => Below.heap_setCell w2 ⟨O, 4, none⟩ _ x hx
  refine ⟨(h.bel.trans (Fr.below hb [])).setCell _ _ (by exact o3), by simp, ⟨o0, o1, o2, o3, by omega, by omega, by omega, o7, o8⟩, (hset C o7).trans ((hb.block C o4).trans h.arg), (hset R o8).trans ((hb.block R o5).trans h.res), (h.out.below hb).set4 sv', ⟨(hs.mono (Nat.zero_le _)).sameX (fun x hx => hset x ?_), fun g hg => ?_⟩, XBuild.nil _ _ _⟩
  · have := (World.ownsRow.lt hs x hx).1; omega
  · have := World.ownsRow.lt hs g hg; omega

theorem own_shape {w : World} {base : Nat} {v : Value} {xs : List Int} (h : Own w base v xs) : ∃ p c, v = .slice p xs.length c := (h.setB (Nat.zero_le _)).shape

/-- The set is appended to an empty list. -/
theorem set_grown {w W w2 : World} {C R O gS : Nat} {oA : Obj} {op a n : Int} {s : ByteArray} {kid : Nat → X} {v : Value} {xs : List Int} (h : XLoop [] w W (w.heap.size + 3) C R O oA op a n s [] (.slice none 0 0) kid 0 (.slice none 0 0) [] []) (hW : W.heap.size = w.heap.size + 3) (hS : gS = w.heap.size + 1 + 1 + 1)
    (hown : w2.ownsRow (w.heap.size + 3) 3 1 v (0 + xs.length) ([] ++ xs.map (Value.int .i64))) (hg : (W.alloc (.cells #[] 3)).grownBy w2 (Value.slice (some ⟨gS, 0, none⟩) 0 0).ownBlock) :
    XLoop [] w (w2.setCell ⟨O, 4, none⟩ v) w2.heap.size C R O oA op a n s xs v kid 0 (.slice none 0 0) [] [] ∧ Six w2 O op a n s (.slice none 0 0) (.slice none 0 0) 29 ∧ ∃ p c, v = .slice p xs.length c := by
  have ho : Own w2 (w.heap.size + 3) v xs := by
    have h1 := hown
    rw [Nat.zero_add, List.nil_append] at h1
    exact h1
  have hb : Below W.heap.size W w2 := by
    have h1 := hg.size
    have h2 : (W.alloc (.cells #[] 3)).heap.size = W.heap.size + 1 := by simp
    exact (newx W (.cells #[] 3)).trans ⟨hg.os, hg.tape, hg.output, by omega, fun x hx => hg.block x (by omega) (by simp only [Value.ownBlock]; intro e; injection e with e; omega)⟩
  have h0 : XLoop [] w W W.heap.size C R O oA op a n s [] (.slice none 0 0) kid 0 (.slice none 0 0) [] [] := h.from (by omega) (by omega)
  exact ⟨h0.setIn hb (by rw [hW]; exact ho), h.out.below hb, own_shape ho⟩

/-- The node's block is laid behind its set. -/
theorem start_alloc {w w3 : World} {oA : Obj} {op a n : Int} {s : ByteArray} {sv : Value} {xs : List Int} (kid : Nat → X) (hb : Below ((w.alloc oA).alloc (.cells #[.int .i64 0, .int .i64 0, .int .i64 0, .string ⟨#[]⟩, .slice none 0 0, .slice none 0 0] 29)).heap.size ((w.alloc oA).alloc (.cells #[.int .i64 0, .int .i64 0, .int .i64 0, .string ⟨#[]⟩, .slice none 0 0, .slice none 0 0] 29)) w3) (hs : Own w3 (w.heap.size + 2) sv xs) :
    XLoop [] w (w3.alloc (.cells #[.int .i64 op, .int .i64 a, .int .i64 n, .string s, sv, .slice none 0 0] 29)) (w3.heap.size + 1) w.heap.size (w.heap.size + 1) w3.heap.size oA op a n s xs sv kid 0 (.slice none 0 0) [] [] := by
  obtain ⟨h1, h2, h4, h5⟩ := twoX hb
  have hn := newx w3 (.cells #[.int .i64 op, .int .i64 a, .int .i64 n, .string s, sv, .slice none 0 0] 29)
  refine ⟨(Fr.below h5 _).trans (Fr.below hn _), by simp, ⟨by simp, by omega, by omega, by omega, by omega, by omega, by omega, by omega, by omega⟩, (hn.block _ (by omega)).trans h1, (hn.block _ (by omega)).trans h2, heap_alloc_new w3 _, ⟨(hs.mono (Nat.zero_le _)).sameX (fun g hg => hn.block g (World.ownsRow.lt hs g hg).2), fun g hg => by have := World.ownsRow.lt hs g hg; omega⟩, XBuild.nil _ _ _⟩
/-- The node's block was laid ahead. -/
theorem start_put {w w3 : World} {O : Nat} {oA : Obj} {op a n : Int} {s : ByteArray} {sv : Value} {xs : List Int} (kid : Nat → X) (hb : Below ((w.alloc oA).alloc (.cells #[.int .i64 0, .int .i64 0, .int .i64 0, .string ⟨#[]⟩, .slice none 0 0, .slice none 0 0] 29)).heap.size ((w.alloc oA).alloc (.cells #[.int .i64 0, .int .i64 0, .int .i64 0, .string ⟨#[]⟩, .slice none 0 0, .slice none 0 0] 29)) w3) (hs : Own w3 (w.heap.size + 2) sv xs) (hO : w.heap.size + 2 ≤ O) (hz : Six w3 O 0 0 0 ⟨#[]⟩ (.slice none 0 0) (.slice none 0 0) 29) (hne : sv.ownBlock ≠ some O) :
    XLoop [] w (put6 w3 O op a n s sv (.slice none 0 0)) w3.heap.size w.heap.size (w.heap.size + 1) O oA op a n s xs sv kid 0 (.slice none 0 0) [] [] := by
  obtain ⟨h1, h2, h4, h5⟩ := twoX hb
  have hlt := hz.lt
  have hoth := put6_other w3 O op a n s sv (.slice none 0 0)
  refine ⟨(((((((Fr.below h5 []).setCell _ _ (by show _ ≤ O; omega)).setCell _ _ (by show _ ≤ O; omega)).setCell _ _ (by show _ ≤ O; omega)).setCell _ _ (by show _ ≤ O; omega)).setCell _ _ (by show _ ≤ O; omega)).setCell _ _ (by show _ ≤ O; omega)), by simp, ⟨by simp, by omega, by omega, by omega, by omega, by omega, by omega, by omega, by omega⟩, (hoth _ (by omega)).trans h1, (hoth _ (by omega)).trans h2, ?_, ⟨(hs.mono (Nat.zero_le _)).sameX (fun g hg => hoth g (fun e => hne (by rw [hg, e]))), fun g hg => ?_⟩, XBuild.nil _ _ _⟩
  · have z1 := heap_setCell_same w3 O 0 _ _ (.int .i64 op) hz
    have z2 := heap_setCell_same _ O 1 _ _ (.int .i64 a) z1
    have z3 := heap_setCell_same _ O 2 _ _ (.int .i64 n) z2
    have z4 := heap_setCell_same _ O 3 _ _ (.string s) z3
    have z5 := heap_setCell_same _ O 4 _ _ sv z4
    have z6 := heap_setCell_same _ O 5 _ _ (.slice none 0 0) z5
    exact z6
  · have := World.ownsRow.lt hs g hg
    have h9 : g ≠ O := fun e => hne (by rw [hg, e])
    omega

/-- An empty list that was just laid. -/
theorem own_empty {W : World} {B g : Nat} (h : W.heap[g]? = some (.cells #[] 3 (0, 0))) (hB : B ≤ g) : Own W B (.slice (some ⟨g, 0, none⟩) 0 0) [] :=
  ⟨rfl, .inr ⟨g, 0, #[], rfl, hB, h, Nat.le_refl _, Nat.zero_le _, rfl, rfl⟩⟩
/-- .. and grown by a set. -/
theorem own_grown {W0 W w4 : World} {B g : Nat} {v : Value} {xs : List Int} (hb : Below W0.heap.size W0 W) (hB : W0.heap.size ≤ g) (hown : w4.ownsRow B 3 1 v (0 + xs.length) ([] ++ xs.map (Value.int .i64))) (hg : W.grownBy w4 (Value.slice (some ⟨g, 0, none⟩) 0 0).ownBlock) : Own w4 B v xs ∧ Below W0.heap.size W0 w4 := by
  refine ⟨?_, hb.trans ⟨hg.os, hg.tape, hg.output, hg.size, fun x hx => ?_⟩⟩
  · rw [Nat.zero_add, List.nil_append] at hown
    exact hown
  · exact hg.block x (Nat.lt_of_lt_of_le hx hb.size) (by simp only [Value.ownBlock]; intro e; injection e with e; omega)
/-- A list of ints is no node's block. -/
theorem own_ne6 {w : World} {B O : Nat} {sv : Value} {xs : List Int} {a b c : Int} {s : ByteArray} {u v : Value} (h : Own w B sv xs) (h6 : Six w O a b c s u v 29) : sv.ownBlock ≠ some O := by
  intro e
  rcases h.2 with ⟨h0, _⟩ | ⟨g, cap, cur, h0, _, hg, _⟩
  · rw [h0] at e; simp [Value.ownBlock] at e
  · rw [h0] at e
    simp only [Value.ownBlock, Option.some.injEq] at e
    subst e
    have h7 : w.heap[g]? = _ := h6
    rw [hg] at h7
    injection h7 with h7
    injection h7 with _ h7
    exact absurd h7 (by decide)
theorem Six.grown {W w4 : World} {O g : Nat} {a b c : Int} {s : ByteArray} {u v : Value} {ty : TypeId} (h : Six W O a b c s u v ty) (hg : W.grownBy w4 (Value.slice (some ⟨g, 0, none⟩) 0 0).ownBlock) (hne : O ≠ g) : Six w4 O a b c s u v ty :=
  (hg.block _ h.lt (by simp only [Value.ownBlock]; intro e; injection e with e; exact hne e)).trans h
theorem pt_ex {w wx : World} {O B C R : Nat} {oA : Obj} {op a n : Int} {s : ByteArray} {set : List Int} {sv : Value} {kid : Nat → X} (h : XLoop [] w wx B C R O oA op a n s set sv kid 0 (.slice none 0 0) [] []) :
    ∃ (O' B' : Nat) (sv' : Value), Value.pointer (some ⟨O, 0, none⟩) = .pointer (some ⟨O', 0, none⟩) ∧ XLoop [] w wx B' C R O' oA op a n s set sv' kid 0 (.slice none 0 0) [] [] := ⟨_, _, _, rfl, h⟩
theorem six_put {w : World} {o g : Nat} {a b c : Int} {s : ByteArray} {u v : Value} {ty : TypeId} (h : Six w o a b c s u v ty) (a' b' c' : Int) (s' : ByteArray) (u' v' : Value) (hne : o ≠ g) : Six (put6 w g a' b' c' s' u' v') o a b c s u v ty := (put6_other w g a' b' c' s' u' v' o hne).trans h
theorem five_of {w : World} {g : Nat} {a b c : Int} {s : ByteArray} {u v : Value} {ty : TypeId} (h : Six w g a b c s u v ty) :
    w.cell? ⟨g, 0, none⟩ = some (.int .i64 a) ∧ w.cell? ⟨g, 1, none⟩ = some (.int .i64 b) ∧ w.cell? ⟨g, 2, none⟩ = some (.int .i64 c) ∧ w.cell? ⟨g, 3, none⟩ = some (.string s) ∧ w.cell? ⟨g, 4, none⟩ = some u :=
  ⟨h.cells.1, h.cells.2.1, h.cells.2.2.1, h.cells.2.2.2.1, h.cells.2.2.2.2.1⟩
end Go.Proofs.Ytoifhaakieigcaa
