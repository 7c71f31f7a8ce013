/- The program's table of kids, (*blockLook).numberOk and .kidCountOk. Conditions: the table reads as its text lays it; the block is one of the list. -/
import Derived.Test.YtmobpjokmngdgaaDoorRows
import Derived.Test.YtmobpjokmngdgaaDoorBlkOkP
import Derived.Test.YtmobpjokmngdgaaDoorLaid
import Derived.Test.YtmobpjokmngdgaaDoorLater
import Derived.Test.YtmobpjokmngdgaaDoorIrRows
import Derived.Deep.Cut
import Derived.Deep.CutRange
namespace Go.Proofs.YtmobpjokmngdgaaDoor
open Go.ChangeShapes Go.WideShapes Go.ChangeAt Go.RowKit

def kidTab : List Int := [0, 0, 0, 0, 0, 0, 2, 2, 3, 2, 2, 2, 2, 2, 0, 1, 1, 3, 3, 0]
/-- The table lies as its text has it. -/
def KidTab (w : World) : Prop := ∀ i : Nat, i < 20 → w.cell? ⟨0, i, none⟩ = some (.int .i64 (kidTab.getD i 0))
theorem KidTab.below {w w' : World} (h : KidTab w) (hb : Below w.heap.size w w') : KidTab w' := fun i hi => keeps hb _ _ (h i hi)
theorem gKid : Tryd.prog.globalNamed "loop.example/g00396/impl.irKidCounts" = some 0 := by kernel_rfl
theorem kidTab_of_head {W : World} {rest : List (String × DataW Unit)} (h : laidMet Tryd.prog (("loop.example/g00396/impl.irKidCounts", Lib.tabData .i64 kidTab) :: rest) W) : KidTab W := fun i hi =>
  (Lib.tabIs_of_head (zs := kidTab) gKid (t := 58) (e := 3) (n := 20) (by kernel_rfl) (by kernel_rfl) (by kernel_rfl) (by kernel_rfl) (by kernel_rfl) h).cell gKid i hi

/-- What numberOk asks. -/
def numJ (nb : Nat) (kb : Nat → Kb) (at_ : Nat) (op n : Int) (deep : Nat) : Bool :=
  if op = 1 ∨ op = 18 then wokB n
  else if op = 2 then decide (0 ≤ n) && decide (n < (deep : Int))
  else if op = 3 then decide (0 ≤ n) && decide (n < (kb at_).fr)
  else if op = 4 then (n == 0) && !((at_ : Int) == 0)
  else if op = 5 then decide (1 ≤ n) && decide (n < (nb : Int))
  else if op = 14 ∨ op = 16 ∨ op = 17 then decide (0 ≤ n) && wokB n
  else (n == 0)
/-- What kidCountOk asks. -/
def kidJ (kb : Nat → Kb) (op n : Int) (len : Nat) : Bool :=
  if op = 14 then true else if op = 5 then ((len : Int) == (kb n.toNat).fr) else ((len : Int) == kidTab.getD op.toNat 0)

theorem op_cases {op : Int} (h : opB op = true) : ∃ i : Nat, op = i ∧ 1 ≤ i ∧ i ≤ 19 := by
  unfold opB at h
  simp only [Bool.and_eq_true, decide_eq_true_eq] at h
  exact ⟨op.toNat, by omega, by omega, by omega⟩
theorem tab_kids : ∀ i : Nat, 1 ≤ i → i ≤ 19 → i ≠ 5 → i ≠ 14 → kidTab.getD i 0 = kidsI i ∧ 0 ≤ kidsI i
  | 1, _, _, _, _ => by decide
  | 2, _, _, _, _ => by decide
  | 3, _, _, _, _ => by decide
  | 4, _, _, _, _ => by decide
  | 6, _, _, _, _ => by decide
  | 7, _, _, _, _ => by decide
  | 8, _, _, _, _ => by decide
  | 9, _, _, _, _ => by decide
  | 10, _, _, _, _ => by decide
  | 11, _, _, _, _ => by decide
  | 12, _, _, _, _ => by decide
  | 13, _, _, _, _ => by decide
  | 15, _, _, _, _ => by decide
  | 16, _, _, _, _ => by decide
  | 17, _, _, _, _ => by decide
  | 18, _, _, _, _ => by decide
  | 19, _, _, _, _ => by decide
  | 0, h, _, _, _ => absurd h (by omega)
  | 5, _, _, h, _ => absurd rfl h
  | 14, _, _, _, h => absurd rfl h
  | n + 20, _, h, _, _ => absurd h (by omega)

/-- Both ask the same. -/
theorem num_kid {nb : Nat} {kb : Nat → Kb} {at_ : Nat} {op n : Int} {len deep : Nat} (h : opB op = true) : (cntB op len && numI nb kb at_ op n len deep) = (numJ nb kb at_ op n deep && kidJ kb op n len) := by
  obtain ⟨i, rfl, h1, h2⟩ := op_cases h
  have hc : (i : Int) ≠ 5 → (i : Int) ≠ 14 → cntB i len = kidJ kb i n len := by
    intro h5 h14
    obtain ⟨e1, e2⟩ := tab_kids i h1 h2 (by omega) (by omega)
    unfold cntB kidJ
    rw [if_neg h14, if_neg h5, decide_eq_true e2, Int.toNat_natCast, e1]; rfl
  by_cases h5 : (i : Int) = 5
  · rw [h5]
    have e : cntB 5 len = true := rfl
    have e2 : numJ nb kb at_ 5 n deep = (decide (1 ≤ n) && decide (n < (nb : Int))) := rfl
    have e3 : kidJ kb 5 n len = ((len : Int) == (kb n.toNat).fr) := rfl
    rw [e, num_clos, e2, e3, Bool.true_and]
    congr 2
    exact decide_eq_decide.2 (by omega)
  by_cases h14 : (i : Int) = 14
  · rw [h14]
    have e : cntB 14 len = true := rfl
    have e2 : numJ nb kb at_ 14 n deep = (decide (0 ≤ n) && wokB n) := rfl
    have e3 : kidJ kb 14 n len = true := rfl
    rw [e, num_con (by omega), e2, e3, Bool.true_and, Bool.and_true]
    unfold wokB
    rw [Bool.eq_iff_iff]
    simp only [Bool.and_eq_true, decide_eq_true_eq]
    omega
  rw [hc h5 h14, Bool.and_comm]
  congr 1
  unfold numI numJ
  by_cases c1 : (i : Int) = 1 ∨ (i : Int) = 18
  · rw [if_pos c1, if_pos c1]
  rw [if_neg c1, if_neg c1]
  by_cases c2 : (i : Int) = 2
  · rw [if_pos c2, if_pos c2]; congr 1; exact decide_eq_decide.2 (by omega)
  rw [if_neg c2, if_neg c2]
  by_cases c3 : (i : Int) = 3
  · rw [if_pos c3, if_pos c3]; congr 1; exact decide_eq_decide.2 (by omega)
  rw [if_neg c3, if_neg c3]
  by_cases c4 : (i : Int) = 4
  · rw [if_pos c4, if_pos c4]; congr 1
    by_cases ha : at_ = 0
    · subst ha; rfl
    · rw [decide_eq_true (by omega)]
      have : ((at_ : Int) == 0) = false := by simp; omega
      rw [this]; rfl
  rw [if_neg c4, if_neg c4, if_neg h5, if_neg h5]
  by_cases c6 : (i : Int) = 14 ∨ (i : Int) = 16 ∨ (i : Int) = 17
  · rw [if_pos c6, if_pos c6]
    unfold wokB
    rw [Bool.eq_iff_iff]
    simp only [Bool.and_eq_true, decide_eq_true_eq]
    omega
  rw [if_neg c6, if_neg c6]
end Go.Proofs.YtmobpjokmngdgaaDoor
