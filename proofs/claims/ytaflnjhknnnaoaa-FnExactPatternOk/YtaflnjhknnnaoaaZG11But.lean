/- Rows of impl.inDots: parts that are left, each with how deep it stands. No conditions. -/
import Derived.Test.YtaflnjhknnnaoaaZG7StxParts
import Derived.Test.YtaflnjhknnnaoaaZG8StxOwn
import Derived.Test.YtaflnjhknnnaoaaRows
import Derived.RangeFuncNested
import Derived.Below
namespace Go.Proofs.Ytaflnjhknnnaoaa
open Go.ChangeShapes Go.WideShapes Go.ChangeAt Go.RowKit

/-- A part: the node, its set's slice and its kids', how deep. -/
structure DR where
  t : X
  su : Value
  u : Value
  d : Int
def qcells (q : DR) : List Value := [.int .i64 q.t.op, .int .i64 q.t.at_, .int .i64 q.t.n, .string q.t.s, q.su, q.u, .int .i64 q.d]
def qrows (l : List DR) : List Value := l.flatMap qcells
theorem qrows_append (a b : List DR) : qrows (a ++ b) = qrows a ++ qrows b := by simp [qrows]
theorem qrows_snoc (l : List DR) (q : DR) : qrows (l ++ [q]) = qrows l ++ qcells q := by rw [qrows_append]; simp [qrows]
theorem qrows_length (l : List DR) : (qrows l).length = l.length * 7 := by
  induction l with
  | nil => rfl
  | cons t r ih => simp only [qrows, List.flatMap_cons, List.length_append, List.length_cons] at ih ⊢; rw [ih]; simp [qcells]; omega
theorem qrows_at (l : List DR) (junk : List Value) : ∀ (i : Nat) (q : DR), l[i]? = some q → ∀ j, j < 7 → (qrows l ++ junk)[i * 7 + j]? = (qcells q)[j]? := by
  induction l with
  | nil => intro i q h; simp at h
  | cons x r ih =>
    intro i q h j hj
    have e : qrows (x :: r) ++ junk = qcells x ++ (qrows r ++ junk) := by simp [qrows]
    have hl : (qcells x).length = 7 := rfl
    rw [e]
    cases i with
    | zero =>
      simp at h; subst h
      rw [List.getElem?_append_left (by omega)]; congr 1; omega
    | succ i =>
      simp at h
      rw [List.getElem?_append_right (by omega), hl]
      have := ih i q h j hj
      rw [← this]; congr 1; omega
theorem qcells_one (q : DR) (h1 : q.su.oneCell' = true) (h2 : q.u.oneCell' = true) : ∀ x ∈ qcells q, x.oneCell' = true := by
  intro x hx
  simp only [qcells, List.mem_cons, List.not_mem_nil, or_false] at hx
  rcases hx with rfl | rfl | rfl | rfl | rfl | rfl | rfl
  · rfl
  · rfl
  · rfl
  · rfl
  · exact h1
  · exact h2
  · rfl

/-- A row of parts of the call's own. -/
def OwnD (w : World) (base : Nat) (v : Value) (l : List DR) : Prop := w.ownsRow base 82 7 v l.length (qrows l)
theorem OwnD.below {w w' : World} {base : Nat} {v : Value} {l : List DR} (h : OwnD w base v l) (hb : Below w.heap.size w w') : OwnD w' base v l := own_belowX h hb
/-- What is no row of parts stays as it is. -/
def isD : Obj → Bool
  | .cells _ t _ => t == 82
  | _ => false
def NonD (w w' : World) : Prop := ∀ (g : Nat) (o : Obj), w.heap[g]? = some o → isD o = false → w'.heap[g]? = some o
theorem NonD.refl (w : World) : NonD w w := fun _ _ h _ => h
theorem NonD.trans {w w1 w2 : World} (h : NonD w w1) (h2 : NonD w1 w2) : NonD w w2 := fun g o hg hn => h2 g o (h g o hg hn) hn
theorem NonD.below {w w' : World} (hb : Below w.heap.size w w') : NonD w w' := fun g _ hg _ => (hb.block g (Array.getElem?_eq_some_iff.1 hg).1).trans hg
/-- The row's own block is one of parts. -/
theorem OwnD.block {w : World} {base : Nat} {v : Value} {l : List DR} (h : OwnD w base v l) {g : Nat} (e : v.ownBlock = some g) : base ≤ g ∧ ∃ o, w.heap[g]? = some o ∧ isD o = true := by
  rcases h.2 with ⟨rfl, _⟩ | ⟨g1, cap, cur, rfl, hbg, hgg, _⟩
  · simp [Value.ownBlock] at e
  · have e1 : g1 = g := by simpa [Value.ownBlock] using e
    subst e1
    exact ⟨hbg, _, hgg, by simp [isD]⟩
theorem NonD.grown {w w' : World} {B : Nat} {v : Value} {l : List DR} (ho : OwnD w B v l) (hg : w.grownBy w' v.ownBlock) : NonD w w' := fun g o h hn => by
  refine (hg.block g (Array.getElem?_eq_some_iff.1 h).1 ?_).trans h
  intro e
  obtain ⟨_, o', ho', hi⟩ := ho.block e.symm
  rw [h] at ho'
  injection ho' with ho'
  rw [ho', hi] at hn
  cases hn
theorem OwnD.below_grown {w w' : World} {B : Nat} {v : Value} {l : List DR} (ho : OwnD w B v l) (hB : B ≤ w.heap.size) (hg : w.grownBy w' v.ownBlock) : Below B w w' :=
  (Below.refl B w).grown hg hB (fun _ hk => (ho.block hk).1)
theorem indots_info : (Try.prog.info? 82).map (fun i => (i.zero, i.size, i.bytes)) = some (some (.agg #[.int .i64 0, .int .i64 0, .int .i64 0, .string ⟨#[]⟩, .slice none 0 0, .slice none 0 0, .int .i64 0]), 7, 96) := by kernel_rfl
theorem qnew (w : World) (q : DR) (t : TypeId) : ∀ ad, some (⟨w.heap.size, 0, none⟩ : Addr) = some ad → ∀ j x, (qcells q)[j]? = some x → (w.alloc (.cells #[.int .i64 q.t.op, .int .i64 q.t.at_, .int .i64 q.t.n, .string q.t.s, q.su, q.u, .int .i64 q.d] t)).cell? (ad.add j) = some x := by
  intro ad h j x hu
  obtain rfl := Option.some.inj h
  rw [Addr.add_lit, Nat.zero_add, cell_of_row _ _ _ _ _ _ (heap_alloc_new w (.cells #[.int .i64 q.t.op, .int .i64 q.t.at_, .int .i64 q.t.n, .string q.t.s, q.su, q.u, .int .i64 q.d] t))]
  match j, hu with
  | 0, hu => simpa [qcells] using hu
  | 1, hu => simpa [qcells] using hu
  | 2, hu => simpa [qcells] using hu
  | 3, hu => simpa [qcells] using hu
  | 4, hu => simpa [qcells] using hu
  | 5, hu => simpa [qcells] using hu
  | 6, hu => simpa [qcells] using hu
  | (j + 7), hu => simp [qcells] at hu
end Go.Proofs.Ytaflnjhknnnaoaa

/- What lay stays as it was, but for some blocks. No conditions. -/
namespace Go.Proofs.Ytaflnjhknnnaoaa
open Go.RowKit

/-- The world w' is as w was, but for the blocks of which X is told, and for new ones. -/
structure But (X : Nat → Prop) (w w' : World) : Prop where
  os : w'.os = w.os
  tape : w'.tape = w.tape
  output : w'.output = w.output
  size : w.heap.size ≤ w'.heap.size
  block : ∀ k, k < w.heap.size → ¬ X k → w'.heap[k]? = w.heap[k]?

variable {X Y : Nat → Prop} {a b c w w' : World}
theorem But.refl (X : Nat → Prop) (w : World) : But X w w := ⟨rfl, rfl, rfl, Nat.le_refl _, fun _ _ _ => rfl⟩
theorem But.trans (h : But X a b) (k : But X b c) : But X a c :=
  ⟨k.os.trans h.os, k.tape.trans h.tape, k.output.trans h.output, Nat.le_trans h.size k.size, fun i hi hx => (k.block i (Nat.lt_of_lt_of_le hi h.size) hx).trans (h.block i hi hx)⟩
theorem But.mono (h : But X a b) (hx : ∀ k, k < a.heap.size → X k → Y k) : But Y a b := ⟨h.os, h.tape, h.output, h.size, fun k hk hy => h.block k hk (fun x => hy (hx k hk x))⟩
theorem But.of_below {B : Nat} (h : Below B a b) (hx : ∀ k, k < a.heap.size → B ≤ k → X k) : But X a b := ⟨h.os, h.tape, h.output, h.size, fun k hk hn => h.block k (by rcases Nat.lt_or_ge k B with h1 | h1; exact h1; exact absurd (hx k hk h1) hn)⟩
theorem But.of_all (h : Below a.heap.size a b) : But X a b := But.of_below h (fun k hk hB => absurd hk (by omega))
theorem But.below (h : But X a b) {B : Nat} (hB : B ≤ a.heap.size) (hx : ∀ k, X k → B ≤ k) : Below B a b := ⟨h.os, h.tape, h.output, h.size, fun k hk => h.block k (by omega) (fun x => by have := hx k x; omega)⟩
theorem But.alloc (h : But X a b) (o : Obj) : But X a (b.alloc o) :=
  h.trans ⟨rfl, rfl, rfl, by simp, fun k hk _ => Below.heap_alloc _ _ _ hk⟩
theorem But.setCell (h : But X a b) {p : Addr} (hp : a.heap.size ≤ p.block ∨ X p.block) (u : Value) : But X a (b.setCell p u) :=
  ⟨h.os, h.tape, h.output, by have := h.size; simpa [World.setCell] using this, fun k hk hx => (Below.heap_setCell _ _ _ _ (by rintro rfl; rcases hp with h1 | h1; omega; exact hx h1)).trans (h.block k hk hx)⟩
theorem But.putObj (h : But X a b) {r : Nat} (hp : a.heap.size ≤ r ∨ X r) (o : Obj) : But X a (b.putObj r o) :=
  ⟨h.os, h.tape, h.output, by have := h.size; simpa using this, fun k hk hx => (World.putObj_heap_other (by rintro rfl; rcases hp with h1 | h1; omega; exact hx h1)).trans (h.block k hk hx)⟩
theorem But.grown {row : Option Nat} (h : But X a b) (hg : b.grownBy c row) (hr : ∀ k, row = some k → a.heap.size ≤ k ∨ X k) : But X a c :=
  ⟨hg.os.trans h.os, hg.tape.trans h.tape, hg.output.trans h.output, Nat.le_trans h.size hg.size, fun k hk hx => (hg.block k (Nat.lt_of_lt_of_le hk h.size) (by intro e; rcases hr k e.symm with h1 | h1; omega; exact hx h1)).trans (h.block k hk hx)⟩
theorem But.drew (h : But X a b) : But X a b.drew := ⟨h.os, h.tape, h.output, h.size, h.block⟩
theorem But.cell (h : But X a b) {p : Addr} (hp : p.block < a.heap.size) (hx : ¬ X p.block) : b.cell? p = a.cell? p := World.cell?_of_block (w := a) (h.block p.block hp hx)
theorem But.at (h : But X a b) {k : Nat} {o : Obj} (hk : a.heap[k]? = some o) (hx : ¬ X k) : b.heap[k]? = some o := (h.block k (Array.getElem?_eq_some_iff.1 hk).1 hx).trans hk
/-- Two steps, the second one's blocks being new to the first. -/
theorem But.step (h : But X a b) (k : But Y b c) (hy : ∀ j, j < a.heap.size → Y j → X j) : But X a c :=
  ⟨k.os.trans h.os, k.tape.trans h.tape, k.output.trans h.output, Nat.le_trans h.size k.size, fun i hi hx => (k.block i (Nat.lt_of_lt_of_le hi h.size) (fun y => hx (hy i hi y))).trans (h.block i hi hx)⟩
theorem But.toGrown {g : Nat} (h : But (fun k => k = g) a b) : a.grownBy b (some g) := ⟨h.os, h.tape, h.output, h.size, fun k hk hne => h.block k hk (fun e => hne (by rw [e]))⟩
theorem But.owns (h : But X a b) {base e size n : Nat} {v : Value} {xs : List Value} (ho : a.ownsRow base e size v n xs) (hx : ∀ g, v.ownBlock = some g → ¬ X g) : b.ownsRow base e size v n xs := by
  refine ⟨ho.1, ?_⟩
  rcases ho.2 with hn | ⟨g, cap, cur, rfl, hbg, hgg, rest⟩
  · exact .inl hn
  · exact .inr ⟨g, cap, cur, rfl, hbg, h.at hgg (hx g rfl), rest⟩
end Go.Proofs.Ytaflnjhknnnaoaa
