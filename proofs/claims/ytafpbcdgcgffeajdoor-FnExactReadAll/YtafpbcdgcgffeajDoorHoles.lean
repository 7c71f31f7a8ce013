/- A tree that is being made: rows that are still to be filled, and what is owned once they are. No conditions. -/
import Derived.Test.YtafpbcdgcgffeajDoorRows
import Derived.WalkKit
import Derived.ProofKit
import Derived.OwnWalk
import Derived.Laws.OwnMore
import Derived.Laws.ResultCell
namespace Go.Proofs.YtafpbcdgcgffeajDoor
open Go.ChangeShapes Go.WideShapes Go.ChangeAt Go.RowKit

/-- A row that is to hold these. -/
structure Ent (T : Type) where
  len : Nat
  kid : Nat → T
  v : Value

/-- How rows of a kind are owned. -/
abbrev RowQ (T : Type) : Type := World → Nat → (Nat → T) → Value → List Nat → Prop

def Filled {T : Type} (Q : RowQ T) (w : World) : List (Ent T) → List (List Nat) → Prop
  | [], [] => True
  | e :: es, S :: SS => Q w e.len e.kid e.v S ∧ Filled Q w es SS
  | _, _ => False

theorem Filled.append {T : Type} {Q : RowQ T} {w : World} {a b : List (Ent T)} {A B : List (List Nat)} (h1 : Filled Q w a A) (h2 : Filled Q w b B) : Filled Q w (a ++ b) (A ++ B) := by
  induction a generalizing A with
  | nil => cases A with
    | nil => exact h2
    | cons x xs => exact h1.elim
  | cons e es ih => cases A with
    | nil => exact h1.elim
    | cons x xs => exact ⟨h1.1, ih h1.2⟩
theorem Filled.parts {T : Type} {Q : RowQ T} {w : World} {a b : List (Ent T)} {SS : List (List Nat)} (h : Filled Q w (a ++ b) SS) : ∃ A B, SS = A ++ B ∧ Filled Q w a A ∧ Filled Q w b B := by
  induction a generalizing SS with
  | nil => exact ⟨[], SS, rfl, trivial, h⟩
  | cons e es ih => cases SS with
    | nil => exact h.elim
    | cons x xs =>
      obtain ⟨A, B, rfl, h1, h2⟩ := ih h.2
      exact ⟨x :: A, B, rfl, ⟨h.1, h1⟩, h2⟩

/-- Once the rows es are filled, and the blocks R as they are, P holds; its blocks are R and theirs. -/
def Wand {T : Type} (Q : RowQ T) (w : World) (R : List Nat) (es : List (Ent T)) (P : World → List Nat → Prop) : Prop :=
  ∀ (w' : World) (SS : List (List Nat)), (∀ x ∈ R, w'.heap[x]? = w.heap[x]?) → Filled Q w' es SS → ∃ S, P w' S ∧ S.Perm (R ++ SS.flatten)

theorem Wand.same {T : Type} {Q : RowQ T} {w w1 : World} {R : List Nat} {es : List (Ent T)} {P : World → List Nat → Prop} (h : Wand Q w R es P) (hs : ∀ x ∈ R, w1.heap[x]? = w.heap[x]?) : Wand Q w1 R es P :=
  fun w' SS h1 h2 => h w' SS (fun x hx => (h1 x hx).trans (hs x hx)) h2

theorem Wand.start {T : Type} (Q : RowQ T) (w : World) (e : Ent T) : Wand Q w [] [e] (fun w' S => Q w' e.len e.kid e.v S) := by
  intro w' SS _ h2
  cases SS with
  | nil => exact h2.elim
  | cons x xs => cases xs with
    | nil => exact ⟨x, h2.1, by simp⟩
    | cons y ys => exact h2.2.elim
theorem Wand.done {T : Type} {Q : RowQ T} {w : World} {R : List Nat} {P : World → List Nat → Prop} (h : Wand Q w R [] P) : ∃ S, P w S ∧ S.Perm R := by
  obtain ⟨S, h1, h2⟩ := h w [] (fun _ _ => rfl) trivial
  exact ⟨S, h1, by simpa using h2⟩

/-- One row is filled: its own rows are to be filled now. -/
theorem Wand.next {T : Type} {Q : RowQ T} {w : World} {R Ri : List Nat} {es en : List (Ent T)} {e : Ent T} {g : Nat} {P Pi : World → List Nat → Prop} (h : Wand Q w R (es ++ [e]) P) (hi : Wand Q w Ri en Pi)
    (hQ : ∀ w' S, w'.heap[g]? = w.heap[g]? → Pi w' S → Q w' e.len e.kid e.v (g :: S)) : Wand Q w (R ++ g :: Ri) (es ++ en) P := by
  intro w' SS h1 h2
  obtain ⟨A, B, rfl, hA, hB⟩ := h2.parts
  obtain ⟨Si, hPi, hSi⟩ := hi w' B (fun x hx => h1 x (by simp [hx])) hB
  obtain ⟨S, hP, hS⟩ := h w' (A ++ [g :: Si]) (fun x hx => h1 x (by simp [hx])) (hA.append (b := [e]) (B := [g :: Si]) ⟨hQ w' Si (h1 g (by simp)) hPi, trivial⟩)
  refine ⟨S, hP, hS.trans ?_⟩
  rw [List.perm_iff_count] at hSi ⊢
  intro x
  have := hSi x
  simp only [List.flatten_append, List.flatten_cons, List.flatten_nil, List.append_nil, List.count_append, List.count_cons] at this ⊢
  omega

/-- A node more, its own blocks Rn. -/
theorem Wand.more {T : Type} {Q : RowQ T} {w : World} {R Rn : List Nat} {es en : List (Ent T)} {P P' : World → List Nat → Prop} (h : Wand Q w R es P) (hn : ∀ w' S SS, (∀ x ∈ Rn, w'.heap[x]? = w.heap[x]?) → P w' S → Filled Q w' en SS → P' w' (S ++ (Rn ++ SS.flatten))) : Wand Q w (R ++ Rn) (es ++ en) P' := by
  intro w' SS h1 h2
  obtain ⟨A, B, rfl, hA, hB⟩ := h2.parts
  obtain ⟨S, hP, hS⟩ := h w' A (fun x hx => h1 x (by simp [hx])) hA
  refine ⟨_, hn w' S B (fun x hx => h1 x (by simp [hx])) hP hB, ?_⟩
  rw [List.perm_iff_count] at hS ⊢
  intro x
  have := hS x
  simp only [List.flatten_append, List.count_append] at this ⊢
  omega
end Go.Proofs.YtafpbcdgcgffeajDoor
