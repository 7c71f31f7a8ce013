/- A tree that is being made: rows that are still to be filled, and what is owned once they are. No conditions. -/
import Derived.Test.YtefjnhkaampmcaaDoorRows
import Derived.WalkKit
import Derived.ProofKit
import Derived.OwnWalk
import Derived.Laws.OwnMore
import Derived.Laws.ResultCell
namespace Go.Proofs.YtefjnhkaampmcaaDoor
open Go.ChangeShapes Go.WideShapes Go.ChangeAt Go.RowKit

/-- A row that is to hold these. -/
structure Ent (T : Type) where
  len : Nat
  kid : Nat → T
  v : Value

/-- How rows of a kind are owned. -/
abbrev RowQ (T : Type) : Type := World → Nat → (Nat → T) → Value → List Nat → Prop

def Filled {T : Type} (Q : RowQ T) (w : World) : List (Ent T) → List (List Nat) → Prop
  | [], [] => True
  | e :: es, S :: SS => Q w e.len e.kid e.v S ∧ Filled Q w es SS
  | _, _ => False

theorem Filled.append {T : Type} {Q : RowQ T} {w : World} {a b : List (Ent T)} {A B : List (List Nat)} (h1 : Filled Q w a A) (h2 : Filled Q w b B) : Filled Q w (a ++ b) (A ++ B) := by
  induction a generalizing A with
  | nil => cases A with
    | nil => exact h2
    | cons x xs => exact h1.elim
  | cons e es ih => cases A with
    | nil => exact h1.elim
    | cons x xs => exact ⟨h1.1, ih h1.2⟩
theorem Filled.parts {T : Type} {Q : RowQ T} {w : World} {a b : List (Ent T)} {SS : List (List Nat)} (h : Filled Q w (a ++ b) SS) : ∃ A B, SS = A ++ B ∧ Filled Q w a A ∧ Filled Q w b B := by
  induction a generalizing SS with
  | nil => exact ⟨[], SS, rfl, trivial, h⟩
  | cons e es ih => cases SS with
    | nil => exact h.elim
    | cons x xs =>
      obtain ⟨A, B, rfl, h1, h2⟩ := ih h.2
      exact ⟨x :: A, B, rfl, ⟨h.1, h1⟩, h2⟩

/-- Once the rows es are filled, and the blocks R as they are, P holds; its blocks are R and theirs. -/
def Wand {T : Type} (Q : RowQ T) (w : World) (R : List Nat) (es : List (Ent T)) (P : World → List Nat → Prop) : Prop :=
  ∀ (w' : World) (SS : List (List Nat)), (∀ x ∈ R, w'.heap[x]? = w.heap[x]?) → Filled Q w' es SS → ∃ S, P w' S ∧ S.Perm (R ++ SS.flatten)

theorem Wand.same {T : Type} {Q : RowQ T} {w w1 : World} {R : List Nat} {es : List (Ent T)} {P : World → List Nat → Prop} (h : Wand Q w R es P) (hs : ∀ x ∈ R, w1.heap[x]? = w.heap[x]?) : Wand Q w1 R es P :=
  fun w' SS h1 h2 => h w' SS (fun x hx => (h1 x hx).trans (hs x hx)) h2

theorem Wand.start {T : Type} (Q : RowQ T) (w : World) (e : Ent T) : Wand Q w [] [e] (fun w' S => Q w' e.len e.kid e.v S) := by
  intro w' SS _ h2
  cases SS with
  | nil => exact h2.elim
  | cons x xs => cases xs with
    | nil => exact ⟨x, h2.1, by simp⟩
    | cons y ys => exact h2.2.elim
theorem Wand.done {T : Type} {Q : RowQ T} {w : World} {R : List Nat} {P : World → List Nat → Prop} (h : Wand Q w R [] P) : ∃ S, P w S ∧ S.Perm R := by
  obtain ⟨S, h1, h2⟩ := h w [] (fun _ _ => rfl) trivial
  exact ⟨S, h1, by simpa using h2⟩

/-- One row is filled: its own rows are to be filled now. -/
theorem Wand.next {T : Type} {Q : RowQ T} {w : World} {R Ri : List Nat} {es en : List (Ent T)} {e : Ent T} {g : Nat} {P Pi : World → List Nat → Prop} (h : Wand Q w R (es ++ [e]) P) (hi : Wand Q w Ri en Pi)
    (hQ : ∀ w' S, w'.heap[g]? = w.heap[g]? → Pi w' S → Q w' e.len e.kid e.v (g :: S)) : Wand Q w (R ++ g :: Ri) (es ++ en) P := by
  intro w' SS h1 h2
  obtain ⟨A, B, rfl, hA, hB⟩ := h2.parts
  obtain ⟨Si, hPi, hSi⟩ := hi w' B (fun x hx => h1 x (by simp [hx])) hB
  obtain ⟨S, hP, hS⟩ := h w' (A ++ [g :: Si]) (fun x hx => h1 x (by simp [hx])) (hA.append (b := [e]) (B := [g :: Si]) ⟨hQ w' Si (h1 g (by simp)) hPi, trivial⟩)
  refine ⟨S, hP, hS.trans ?_⟩
  rw [List.perm_iff_count] at hSi ⊢
  intro x
  have := hSi x
  simp only [List.flatten_append, List.flatten_cons, List.flatten_nil, List.append_nil, List.count_append, List.count_cons] at this ⊢
  omega

/-- A node more, its own blocks Rn. -/
theorem Wand.more {T : Type} {Q : RowQ T} {w : World} {R Rn : List Nat} {es en : List (Ent T)} {P P' : World → List Nat → Prop} (h : Wand Q w R es P) (hn : ∀ w' S SS, (∀ x ∈ Rn, w'.heap[x]? = w.heap[x]?) → P w' S → Filled Q w' en SS → P' w' (S ++ (Rn ++ SS.flatten))) : Wand Q w (R ++ Rn) (es ++ en) P' := by
  intro w' SS h1 h2
  obtain ⟨A, B, rfl, hA, hB⟩ := h2.parts
  obtain ⟨S, hP, hS⟩ := h w' A (fun x hx => h1 x (by simp [hx])) hA
  refine ⟨_, hn w' S B (fun x hx => h1 x (by simp [hx])) hP hB, ?_⟩
  rw [List.perm_iff_count] at hS ⊢
  intro x
  have := hS x
  simp only [List.flatten_append, List.count_append] at this ⊢
  omega
end Go.Proofs.YtefjnhkaampmcaaDoor

/- Rows that are left to be filled, as a list of work; what a step leaves alone. No conditions. -/
namespace Go.Proofs.YtefjnhkaampmcaaDoor
open Go.ChangeShapes Go.WideShapes Go.ChangeAt Go.RowKit

/-- A row that is left: what it is made of, where that lies, and the row's block. -/
structure Job (A : Type) where
  len : Nat
  kid : Nat → A
  fv : Value
  g : Nat

def Job.tv {A : Type} (e : Job A) : Value := .slice (some ⟨e.g, 0, none⟩) e.len e.len
def Job.cells {A : Type} (e : Job A) : List Value := [e.fv, e.tv]
def Job.ent {A T : Type} (f : A → T) (e : Job A) : Ent T := ⟨e.len, fun i => f (e.kid i), e.tv⟩
def jrows {A : Type} (st : List (Job A)) : List Value := st.flatMap Job.cells
theorem jrows_append {A : Type} (a b : List (Job A)) : jrows (a ++ b) = jrows a ++ jrows b := by simp [jrows]
theorem jrows_length {A : Type} (st : List (Job A)) : (jrows st).length = st.length * 2 := by
  induction st with
  | nil => rfl
  | cons t r ih => simp only [jrows, List.flatMap_cons, List.length_append, List.length_cons] at ih ⊢; rw [ih]; simp [Job.cells]; omega

/-- The sum of the first k. -/
def sumJ (f : Nat → Nat) : Nat → Nat
  | 0 => 0
  | k + 1 => sumJ f k + f k
def Job.total {A : Type} (count : A → Nat) (e : Job A) : Nat := sumJ (fun i => count (e.kid i)) e.len
def totalJ {A : Type} (count : A → Nat) (st : List (Job A)) : Nat := (st.map (Job.total count)).sum
theorem totalJ_append {A : Type} (count : A → Nat) (a b : List (Job A)) : totalJ count (a ++ b) = totalJ count a + totalJ count b := by simp [totalJ]
theorem totalJ_one {A : Type} (count : A → Nat) (e : Job A) : totalJ count [e] = e.total count := by simp [totalJ]
theorem sumJ_len (f : Nat → Nat) (hf : ∀ i, 1 ≤ f i) (k : Nat) : k ≤ sumJ f k := by
  induction k with
  | zero => exact Nat.le_refl _
  | succ k ih => simp only [sumJ]; have := hf k; omega
theorem sumJ_le (f : Nat → Nat) (j k : Nat) (h : j ≤ k) : sumJ f j ≤ sumJ f k := by
  induction k with
  | zero => simp at h; subst h; exact Nat.le_refl _
  | succ k ih =>
    rcases Nat.lt_or_ge j (k + 1) with h1 | h1
    · have := ih (by omega); simp only [sumJ]; omega
    · have : j = k + 1 := by omega
      subst this; exact Nat.le_refl _
theorem sumJ_at (f : Nat → Nat) (j k : Nat) (h : j < k) : f j ≤ sumJ f k := by
  induction k with
  | zero => omega
  | succ k ih =>
    simp only [sumJ]
    rcases Nat.lt_or_ge j k with h1 | h1
    · have := ih h1; omega
    · obtain rfl : j = k := by omega
      omega
theorem totalJ_len {A : Type} (count : A → Nat) (hc : ∀ a, 1 ≤ count a) (st : List (Job A)) (h : ∀ e ∈ st, 0 < e.len) : st.length ≤ totalJ count st := by
  induction st with
  | nil => simp
  | cons e r ih =>
    have h1 := ih (fun x hx => h x (List.mem_cons_of_mem _ hx))
    have h2 := sumJ_len (fun i => count (e.kid i)) (fun i => hc _) e.len
    have h3 := h e (List.mem_cons_self ..)
    simp only [totalJ, List.map_cons, List.sum_cons, List.length_cons, Job.total] at h1 ⊢
    omega

/-- The blocks C alone have turned. -/
structure Fr (C : List Nat) (w w' : World) : Prop where
  os : w'.os = w.os
  tape : w'.tape = w.tape
  output : w'.output = w.output
  size : w.heap.size ≤ w'.heap.size
  block : ∀ g, g < w.heap.size → g ∉ C → w'.heap[g]? = w.heap[g]?
theorem Fr.refl (C : List Nat) (w : World) : Fr C w w := ⟨rfl, rfl, rfl, Nat.le_refl _, fun _ _ _ => rfl⟩
theorem Fr.trans {C : List Nat} {w w1 w2 : World} (h : Fr C w w1) (h2 : Fr C w1 w2) : Fr C w w2 :=
  ⟨h2.os.trans h.os, h2.tape.trans h.tape, h2.output.trans h.output, Nat.le_trans h.size h2.size, fun g a b => (h2.block g (Nat.lt_of_lt_of_le a h.size) b).trans (h.block g a b)⟩
theorem Fr.below {w w' : World} (h : Below w.heap.size w w') (C : List Nat) : Fr C w w' := ⟨h.os, h.tape, h.output, h.size, fun g a _ => h.block g a⟩
theorem Fr.grown {w w' : World} {r : Option Nat} {C : List Nat} (h : w.grownBy w' r) (hg : ∀ g ∈ r.toList, g ∈ C) : Fr C w w' := ⟨h.os, h.tape, h.output, h.size, fun k a b => h.block k a (fun e => b (hg k (by rw [← e]; simp)))⟩

/-- What is kept of the world, and which blocks may turn. -/
structure Env (Kp : World → Prop) (New : Nat → Prop) : Prop where
  fr : ∀ {C : List Nat} {W W' : World}, Kp W → Fr C W W' → (∀ x ∈ C, New x) → Kp W'
  new : ∀ {W : World} {x : Nat}, Kp W → W.heap.size ≤ x → New x

/-- What was there when a call began, and two blocks of its own. -/
structure Kept (w : World) (R0 TB : Nat) (oR oT : Obj) (W : World) : Prop where
  bel : Below w.heap.size w W
  res : W.heap[R0]? = some oR
  top : W.heap[TB]? = some oT
def NewB (w : World) (R0 TB : Nat) (x : Nat) : Prop := w.heap.size ≤ x ∧ x ≠ R0 ∧ x ≠ TB
theorem Kept.env (w : World) (R0 TB : Nat) (oR oT : Obj) : Env (Kept w R0 TB oR oT) (NewB w R0 TB) where
  fr := fun {C W W'} h f hC => ⟨⟨f.os.trans h.bel.os, f.tape.trans h.bel.tape, f.output.trans h.bel.output, Nat.le_trans h.bel.size f.size, fun x hx => (f.block x (Nat.lt_of_lt_of_le hx h.bel.size) (fun hc => by have := (hC x hc).1; omega)).trans (h.bel.block x hx)⟩,
    (f.block R0 (Array.getElem?_eq_some_iff.1 h.res).1 (fun hc => (hC _ hc).2.1 rfl)).trans h.res, (f.block TB (Array.getElem?_eq_some_iff.1 h.top).1 (fun hc => (hC _ hc).2.2 rfl)).trans h.top⟩
  new := fun {W x} h hx => ⟨Nat.le_trans h.bel.size hx, fun e => by have := (Array.getElem?_eq_some_iff.1 h.res).1; omega, fun e => by have := (Array.getElem?_eq_some_iff.1 h.top).1; omega⟩

theorem own_sameJ {w w' : World} {base e size n : Nat} {v : Value} {xs : List Value} (h : w.ownsRow base e size v n xs) (hb : ∀ g, v.ownBlock = some g → w'.heap[g]? = w.heap[g]?) : w'.ownsRow base e size v n xs := by
  refine ⟨h.1, ?_⟩
  rcases h.2 with hn | ⟨g, cap, cur, rfl, hbg, hgg, rest⟩
  · exact .inl hn
  · exact .inr ⟨g, cap, cur, rfl, hbg, (hb g rfl).trans hgg, rest⟩
theorem own_sameG {w w' : World} {base e size n g m cap : Nat} {xs : List Value} (h : w.ownsRow base e size (.slice (some ⟨g, 0, none⟩) m cap) n xs) (hb : w'.heap[g]? = w.heap[g]?) : w'.ownsRow base e size (.slice (some ⟨g, 0, none⟩) m cap) n xs :=
  own_sameJ h (fun x hx => by simp only [Value.ownBlock, Option.some.injEq] at hx; subst hx; exact hb)
theorem left_cells {A : Type} {W : World} {tL : TypeId} {gL cap : Nat} {r : List (Job A)} {e : Job A} (h : W.ownsRow 0 tL 2 (.slice (some ⟨gL, 0, none⟩) (r ++ [e]).length cap) (r ++ [e]).length (jrows (r ++ [e]))) :
    W.cell? ⟨gL, r.length * 2, none⟩ = some e.fv ∧ W.cell? ⟨gL, r.length * 2 + 1, none⟩ = some e.tv := by
  have hc : ∀ j, j < 2 → W.cell? ⟨gL, r.length * 2 + j, none⟩ = (e.cells)[j]? := by
    intro j hj
    have h1 := h.cellAt (r.length * 2 + j) (by simp; omega)
    rw [h1, jrows_append, List.getElem?_append_right (by rw [jrows_length]; omega), jrows_length]
    simp [jrows]
  exact ⟨hc 0 (by omega), hc 1 (by omega)⟩
end Go.Proofs.YtefjnhkaampmcaaDoor
