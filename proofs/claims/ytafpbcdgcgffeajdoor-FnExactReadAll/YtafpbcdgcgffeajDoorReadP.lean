/- Plain facts on reading data from tokens. No conditions. -/
import Derived.Test.YtafpbcdgcgffeajDoorDat
import Derived.Test.YtafpbcdgcgffeajDoorTok
namespace Go.Proofs.YtafpbcdgcgffeajDoor
open Go.ChangeShapes Go.WideShapes Go.ChangeAt Go.RowKit

/-- What is read: something and what is left, or the place of what does not fit. -/
inductive Rdr (α : Type) where
  | bad (p : Int)
  | ok (a : α) (r : List Tok)

def dNum (t : Tok) : D := .mk 1 t.at_ t.n ⟨#[]⟩ 0 (fun _ => .no)
def dSym (t : Tok) : D := .mk 2 t.at_ 0 t.text 0 (fun _ => .no)
def kidsOf (ds : List D) : Nat → D := fun i => ds.getD i .no
def dList (t : Tok) (ds : List D) : D := .mk 3 t.at_ 0 ⟨#[]⟩ ds.length (kidsOf ds)

/-- Kids up to a bracket that closes. -/
def kidsL (E : Int) (one : List Tok → Rdr D) : Nat → List D → List Tok → Rdr (List D)
  | 0, _, _ => .bad E
  | _ + 1, _, [] => .bad E
  | m + 1, acc, t :: r => if t.kind = 2 then .ok acc r else match one (t :: r) with
    | .bad p => .bad p
    | .ok d r1 => kidsL E one m (acc ++ [d]) r1

def one (E : Int) : Nat → List Tok → Rdr D
  | 0, _ => .bad E
  | _ + 1, [] => .bad E
  | f + 1, t :: r =>
    if t.kind = 3 then .ok (dNum t) r else if t.kind = 4 then .ok (dSym t) r else if t.kind = 2 then .bad t.at_
    else match kidsL E (one E f) (r.length + 1) [] r with
      | .bad p => .bad p
      | .ok ds r1 => .ok (dList t ds) r1

/-- All that is left. -/
def restL (one : List Tok → Rdr D) : Nat → List D → List Tok → Rdr (List D)
  | 0, acc, _ => .ok acc []
  | _ + 1, acc, [] => .ok acc []
  | m + 1, acc, t :: r => match one (t :: r) with
    | .bad p => .bad p
    | .ok d r1 => restL one m (acc ++ [d]) r1

/-- What is left is less. -/
def Less (one : List Tok → Rdr D) : Prop := ∀ l d r, one l = .ok d r → r.length < l.length ∧ ∃ a, l = a ++ r

theorem kidsL_less {E : Int} {o : List Tok → Rdr D} (ho : Less o) : ∀ (m : Nat) (acc : List D) (l : List Tok) (ds : List D) (r : List Tok), kidsL E o m acc l = .ok ds r → r.length < l.length ∧ ∃ a, l = a ++ r := by
  intro m
  induction m with
  | zero => intro acc l ds r h; simp [kidsL] at h
  | succ m ih =>
    intro acc l ds r h
    cases l with
    | nil => simp [kidsL] at h
    | cons t l =>
      unfold kidsL at h
      split at h
      · injection h with h1 h2
        subst h2
        exact ⟨by simp, [t], rfl⟩
      · cases e : o (t :: l) with
        | bad p => rw [e] at h; simp at h
        | ok d r1 =>
          rw [e] at h
          obtain ⟨h1, a, ha⟩ := ho _ _ _ e
          obtain ⟨h2, b, hb⟩ := ih _ _ _ _ h
          exact ⟨by omega, a ++ b, by rw [ha, hb]; simp⟩

theorem one_less (E : Int) : ∀ f, Less (one E f) := by
  intro f
  induction f with
  | zero => intro l d r h; simp [one] at h
  | succ f ih =>
    intro l d r h
    cases l with
    | nil => simp [one] at h
    | cons t l =>
      unfold one at h
      split at h
      · injection h with h1 h2; subst h2; exact ⟨by simp, [t], rfl⟩
      · split at h
        · injection h with h1 h2; subst h2; exact ⟨by simp, [t], rfl⟩
        · split at h
          · simp at h
          · cases e : kidsL E (one E f) (l.length + 1) [] l with
            | bad p => rw [e] at h; simp at h
            | ok ds r1 =>
              rw [e] at h
              simp only at h
              injection h with h1 h2
              subst h2
              obtain ⟨h3, a, ha⟩ := kidsL_less ih _ _ _ _ _ e
              exact ⟨by simp; omega, t :: a, by rw [ha]; rfl⟩

/-- The data of a text's tokens, or the place of what does not fit. -/
def readL (E : Int) (ts : List Tok) : Rdr (List D) := restL (one E (ts.length + 1)) (ts.length + 1) [] ts

/-- How many a datum has of tokens at the most. -/
theorem sumTo_kids (ds : List D) (f : D → Nat) : ∀ k, k ≤ ds.length → sumTo (fun i => f (kidsOf ds i)) k = ((ds.take k).map f).sum := by
  intro k
  induction k with
  | zero => intro _; simp [sumTo]
  | succ k ih =>
    intro h
    have hk : k < ds.length := by omega
    simp only [sumTo]
    rw [ih (by omega), List.take_succ_eq_append_getElem hk, List.map_append, List.sum_append]
    congr 1
    simp [kidsOf, List.getD, List.getElem?_eq_getElem hk]
theorem sumTo_all (ds : List D) (f : D → Nat) : sumTo (fun i => f (kidsOf ds i)) ds.length = (ds.map f).sum := by
  have := sumTo_kids ds f ds.length (Nat.le_refl _)
  rw [List.take_length] at this
  exact this
end Go.Proofs.YtafpbcdgcgffeajDoor
