/- What a right op and right functions are, as plain tests. No conditions. -/
import Derived.Test.YtocdpgogoadfnaaDoorFun
import Derived.Test.YtocdpgogoadfnaaDoorOpOk
import Derived.Test.YtocdpgogoadfnaaDoorWordsOk
namespace Go.Proofs.YtocdpgogoadfnaaDoor
open Go.ChangeShapes Go.WideShapes Go.ChangeAt Go.RowKit

def belB (z e : Int) : Bool := decide (0 ≤ z) && decide (z < e)
theorem in_bel (z e : Int) : (decide (0 ≤ z) && decide (z ≤ e - 1)) = belB z e := by
  unfold belB
  congr 1
  exact decide_eq_decide.2 (by omega)
/-- Whether N is right. -/
def nOkF (nf : Nat) (kid : Nat → Fu) (i : Nat) (c n : Int) : Bool :=
  if c = 1 ∨ c = 11 then wokB n
  else if c = 2 then belB n 3000
  else if c = 3 then belB n (kid i).fr
  else if c = 4 then (n == 0) && !((i : Int) == 0)
  else if c = 5 then !(n == 0) && belB n nf
  else if c = 8 ∨ c = 9 ∨ c = 10 then belB n 20
  else if c = 18 ∨ c = 19 then belB n (kid i).len
  else (n == 0)
/-- Whether M is right. -/
def mOkF (kid : Nat → Fu) (i : Nat) (c n m : Int) : Bool :=
  if c = 5 then (m == (kid n.toNat).fr)
  else if c = 8 then belB m 21
  else if c = 10 ∨ c = 11 then belB m (kid i).len
  else (m == 0)
def opOkF (nf : Nat) (kid : Nat → Fu) (i : Nat) (t : O3) : Bool := (codeB t.c && nOkF nf kid i t.c t.n) && mOkF kid i t.c t.n t.m
/-- Whether a code ends a function. -/
def endB (c : Int) : Bool := ((c == 7) || (c == 19)) || (c == 21)
def PlacesP (nf : Nat) (kid : Nat → Fu) (i : Nat) : Prop := (1 ≤ (kid i).len ∧ (kid i).len ≤ 3000) ∧ endB ((kid i).op ((kid i).len - 1)).c = true ∧ ∀ k, k < (kid i).len → opOkF nf kid i ((kid i).op k) = true
def FunsP (nf : Nat) (kid : Nat → Fu) : Prop := (1 ≤ nf ∧ nf ≤ 60) ∧ (kid 0).fr = 0 ∧ ∀ i, i < nf → belB (kid i).fr 21 = true ∧ PlacesP nf kid i

theorem empty_code (c : Int) : (five (nameL c) == [0, 0, 0, 0, 0]) = !(codeB c) := by
  cases h : codeB c with
  | true =>
    obtain ⟨i, rfl, h1, h2⟩ := code_cases h
    rw [nameL_at h2, name_full (name_ok i h1 h2)]; rfl
  | false =>
    have e : nameL c = [] := by unfold nameL; rw [h]; rfl
    rw [e]; rfl
end Go.Proofs.YtocdpgogoadfnaaDoor
