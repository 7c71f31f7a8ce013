/- Which blocks are right, plainly. No conditions. -/
import Derived.Test.YthnhdmanmmdoiaaDoorZG2SzBlk
import Derived.Test.YthnhdmanmmdoiaaDoorZG11WordsOk
import Derived.Test.YthnhdmanmmdoiaaDoorZG8Fun
namespace Go.Proofs.YthnhdmanmmdoiaaDoor
open Go.ChangeShapes Go.WideShapes Go.ChangeAt Go.RowKit

/-- How many kids an op has; -1: any. -/
def kidsI (op : Int) : Int :=
  if op = 1 ∨ op = 2 ∨ op = 3 ∨ op = 4 ∨ op = 19 then 0 else if op = 15 ∨ op = 16 then 1 else if op = 8 ∨ op = 17 ∨ op = 18 then 3 else if op = 5 ∨ op = 14 then -1 else 2
def opB (op : Int) : Bool := decide (1 ≤ op) && decide (op ≤ 19)
def cntB (op : Int) (len : Nat) : Bool := !(decide (0 ≤ kidsI op)) || ((len : Int) == kidsI op)
def bitI (op : Int) (i : Nat) : Nat := if op = 7 ∧ i = 1 then 1 else 0
/-- Whether the number is right. -/
def numI (nb : Nat) (kb : Nat → Kb) (at_ : Nat) (op n : Int) (len deep : Nat) : Bool :=
  if op = 1 ∨ op = 18 then wokB n
  else if op = 2 then decide (0 ≤ n) && decide (n ≤ (deep : Int) - 1)
  else if op = 3 then decide (0 ≤ n) && decide (n ≤ (kb at_).fr - 1)
  else if op = 4 then (n == 0) && decide (0 < at_)
  else if op = 5 then (decide (1 ≤ n) && decide (n ≤ (nb : Int) - 1)) && ((len : Int) == (kb n.toNat).fr)
  else if op = 14 ∨ op = 16 ∨ op = 17 then decide (0 ≤ n) && decide (n ≤ 1073741823)
  else (n == 0)
def rightI (nb : Nat) (kb : Nat → Kb) (at_ : Nat) : It → Nat → Bool
  | .no, _ => false
  | .mk op n len kid, deep => (opB op && cntB op len) && (allTo (fun i => rightI nb kb at_ (kid i) (deep + bitI op i)) len && numI nb kb at_ op n len deep)
/-- A body that is right, of no more parts than may come. -/
def okI (nb : Nat) (kb : Nat → Kb) (at_ : Nat) (t : It) (deep left : Nat) : Bool := decide (t.count ≤ left) && rightI nb kb at_ t deep
/-- A block that is right. -/
def blkI (nb : Nat) (kb : Nat → Kb) (i : Nat) : Bool := decide (0 ≤ (kb i).fr) && okI nb kb i (kb i).bd 1 4000
def blksB (nb : Nat) (kb : Nat → Kb) : Bool := allTo (blkI nb kb) nb && ((decide (1 ≤ nb) && decide (nb ≤ 60)) && ((kb 0).fr == 0))

theorem It.count_pos (t : It) : 1 ≤ t.count := by rw [It.count_eq]; omega
theorem bit_no1 {op : Int} (i : Nat) (h : (op == 7) = false) : bitI op i = 0 := by
  unfold bitI; rw [if_neg]; rintro ⟨h1, _⟩; subst h1; simp at h
theorem bit_no2 {op : Int} {i : Nat} (h : ((i : Int) == 1) = false) : bitI op i = 0 := by
  unfold bitI; rw [if_neg]; rintro ⟨_, h1⟩; subst h1; simp at h
theorem bit_yes {op : Int} {i : Nat} (h1 : (op == 7) = true) (h2 : ((i : Int) == 1) = true) : bitI op i = 1 := by
  unfold bitI; rw [if_pos]; simp at h1 h2; exact ⟨h1, by omega⟩

variable {nb : Nat} {kb : Nat → Kb} {at_ : Nat} {op n : Int} {len deep : Nat}
theorem num_word (h : op = 1 ∨ op = 18) : numI nb kb at_ op n len deep = wokB n := by unfold numI; rw [if_pos h]
theorem num_local : numI nb kb at_ 2 n len deep = (decide (0 ≤ n) && decide (n ≤ (deep : Int) - 1)) := rfl
theorem num_free : numI nb kb at_ 3 n len deep = (decide (0 ≤ n) && decide (n ≤ (kb at_).fr - 1)) := rfl
theorem num_self : numI nb kb at_ 4 n len deep = ((n == 0) && decide (0 < at_)) := rfl
theorem num_clos : numI nb kb at_ 5 n len deep = ((decide (1 ≤ n) && decide (n ≤ (nb : Int) - 1)) && ((len : Int) == (kb n.toNat).fr)) := rfl
theorem num_con (h : op = 14 ∨ op = 16 ∨ op = 17) : numI nb kb at_ op n len deep = (decide (0 ≤ n) && decide (n ≤ 1073741823)) := by unfold numI; rw [if_neg (by omega), if_neg (by omega), if_neg (by omega), if_neg (by omega), if_neg (by omega), if_pos h]
theorem num_else (h1 : op ≠ 1) (h18 : op ≠ 18) (h2 : op ≠ 2) (h3 : op ≠ 3) (h4 : op ≠ 4) (h5 : op ≠ 5) (h14 : op ≠ 14) (h16 : op ≠ 16) (h17 : op ≠ 17) : numI nb kb at_ op n len deep = (n == 0) := by
  unfold numI; rw [if_neg (by omega), if_neg (by omega), if_neg (by omega), if_neg (by omega), if_neg (by omega), if_neg (by omega)]
end Go.Proofs.YthnhdmanmmdoiaaDoor

/- What places are made of a body, plainly. No conditions. -/
namespace Go.Proofs.YthnhdmanmmdoiaaDoor
open Go.ChangeShapes Go.WideShapes Go.ChangeAt Go.RowKit

/-- The place of a node whose kids are made. -/
def oneG (op n : Int) (sl : List Int) (len : Nat) : O3 :=
  if op = 1 ∨ op = 3 ∨ op = 4 then ⟨op, n, 0⟩
  else if op = 2 then ⟨2, sl.getD n.toNat 0, 0⟩
  else if op = 5 then ⟨5, n, len⟩
  else if op = 6 then ⟨6, 0, 0⟩
  else if op = 14 then ⟨8, n, len⟩
  else if op = 15 then ⟨17, 0, 0⟩
  else if op = 16 then ⟨9, n, 0⟩
  else if op = 19 then ⟨21, 0, 0⟩
  else ⟨op + 3, 0, 0⟩
/-- Whether a node has two ways. -/
def twoB (op : Int) : Bool := decide (op = 8 ∨ op = 17 ∨ op = 18)
/-- The place that tells the ways of a node: the second one begins at s. -/
def testG (op n : Int) (s : Nat) : O3 := if op = 8 then ⟨18, s, 0⟩ else ⟨op - 7, n, s⟩
/-- Kids one behind the other, of which f makes places from a place on. -/
def kidsG (f : Nat → Nat → List O3) : Nat → Nat → List O3
  | 0, _ => []
  | k + 1, s => kidsG f k s ++ f k (s + (kidsG f k s).length)
/-- The places of a body, from place s on, where locals stand at sl, and d values are there. -/
def genI : It → List Int → Nat → Nat → List O3
  | .no, _, _, _ => []
  | .mk op n len kid, sl, d, s =>
    if twoB op = true then
      let A := genI (kid 0) sl d s
      let B := genI (kid 1) sl d (s + A.length + 1)
      let s2 := s + A.length + 1 + B.length + 1
      let C := genI (kid 2) sl d s2
      A ++ [testG op n s2] ++ B ++ [⟨19, (s2 + C.length : Nat), 0⟩] ++ C
    else if op = 7 then
      let A := genI (kid 0) sl d s
      A ++ genI (kid 1) (sl ++ [(d : Int)]) (d + 1) (s + A.length) ++ [⟨20, 0, 0⟩]
    else kidsG (fun i s => genI (kid i) sl (d + i) s) len s ++ [oneG op n sl len]

theorem genI_two {t : It} {sl : List Int} {d s : Nat} (h : twoB t.op = true) : genI t sl d s =
    genI (t.kid 0) sl d s ++ [testG t.op t.n (s + (genI (t.kid 0) sl d s).length + 1 + (genI (t.kid 1) sl d (s + (genI (t.kid 0) sl d s).length + 1)).length + 1)] ++ genI (t.kid 1) sl d (s + (genI (t.kid 0) sl d s).length + 1) ++
    [⟨19, (s + (genI (t.kid 0) sl d s).length + 1 + (genI (t.kid 1) sl d (s + (genI (t.kid 0) sl d s).length + 1)).length + 1 + (genI (t.kid 2) sl d (s + (genI (t.kid 0) sl d s).length + 1 + (genI (t.kid 1) sl d (s + (genI (t.kid 0) sl d s).length + 1)).length + 1)).length : Nat), 0⟩] ++
    genI (t.kid 2) sl d (s + (genI (t.kid 0) sl d s).length + 1 + (genI (t.kid 1) sl d (s + (genI (t.kid 0) sl d s).length + 1)).length + 1) := by
  cases t with
  | no => simp [It.op, twoB] at h
  | mk op n len kid => have h' : twoB op = true := h; simp only [genI, h', if_true, It.kid, It.op, It.n]
theorem genI_let {t : It} {sl : List Int} {d s : Nat} (h : t.op = 7) : genI t sl d s =
    genI (t.kid 0) sl d s ++ genI (t.kid 1) (sl ++ [(d : Int)]) (d + 1) (s + (genI (t.kid 0) sl d s).length) ++ [⟨20, 0, 0⟩] := by
  cases t with
  | no => simp [It.op] at h
  | mk op n len kid =>
    have h' : op = 7 := h
    subst h'
    have h2 : twoB 7 = false := rfl
    simp only [genI, h2, It.kid]
    rfl
theorem genI_other {t : It} {sl : List Int} {d s : Nat} (h : twoB t.op = false) (h7 : t.op ≠ 7) (h0 : t.op ≠ 0) : genI t sl d s =
    kidsG (fun i s => genI (t.kid i) sl (d + i) s) t.len s ++ [oneG t.op t.n sl t.len] := by
  cases t with
  | no => exact absurd rfl h0
  | mk op n len kid =>
    have h' : twoB op = false := h
    have h7' : op ≠ 7 := h7
    simp only [genI, h', It.kid, It.op, It.n, It.len]
    rw [if_neg (by simp), if_neg h7']

theorem sum3 (c : Nat → Nat) : sumTo c 3 = c 0 + c 1 + c 2 := by simp [sumTo]
theorem sum2 (c : Nat → Nat) : sumTo c 2 = c 0 + c 1 := by simp [sumTo]
/-- What is right of a node. -/
theorem right_node {nb : Nat} {kb : Nat → Kb} {at_ : Nat} {t : It} {deep : Nat} (h : rightI nb kb at_ t deep = true) :
    opB t.op = true ∧ cntB t.op t.len = true ∧ (∀ i, i < t.len → rightI nb kb at_ (t.kid i) (deep + bitI t.op i) = true) ∧ numI nb kb at_ t.op t.n t.len deep = true := by
  cases t with
  | no => simp [rightI] at h
  | mk op n len kid =>
    simp only [rightI, Bool.and_eq_true] at h
    exact ⟨h.1.1, h.1.2, allTo_true.1 h.2.1, h.2.2⟩
theorem right_two {nb : Nat} {kb : Nat → Kb} {at_ : Nat} {t : It} {deep : Nat} (h : rightI nb kb at_ t deep = true) (h2 : twoB t.op = true) : t.len = 3 := by
  obtain ⟨_, h3, _, _⟩ := right_node h
  unfold twoB at h2
  simp only [decide_eq_true_eq] at h2
  have hk : kidsI t.op = 3 := by
    unfold kidsI
    rw [if_neg (by omega), if_neg (by omega), if_pos (by omega)]
  unfold cntB at h3
  rw [hk] at h3
  simp at h3
  omega
theorem right_let {nb : Nat} {kb : Nat → Kb} {at_ : Nat} {t : It} {deep : Nat} (h : rightI nb kb at_ t deep = true) (h2 : t.op = 7) : t.len = 2 := by
  obtain ⟨_, h3, _, _⟩ := right_node h
  unfold cntB at h3
  rw [h2] at h3
  simp [kidsI] at h3
  omega
/-- There are at most two places for a node. -/
theorem genI_len {nb : Nat} {kb : Nat → Kb} {at_ : Nat} (t : It) : ∀ (sl : List Int) (d s deep : Nat), rightI nb kb at_ t deep = true → (genI t sl d s).length ≤ 2 * t.count := by
  induction t with
  | no => intro sl d s deep h; simp [rightI] at h
  | mk op n len kid ih =>
    intro sl d s deep h
    obtain ⟨_, _, hk, _⟩ := right_node h
    have hk' : ∀ i, i < len → rightI nb kb at_ (kid i) (deep + bitI op i) = true := hk
    have hc : (It.mk op n len kid).count = 1 + sumTo (fun i => (kid i).count) len := rfl
    cases h2 : twoB op with
    | true =>
      have hl : len = 3 := right_two (t := .mk op n len kid) h h2
      subst hl
      rw [genI_two (t := .mk op n 3 kid) h2, hc, sum3]
      simp only [List.length_append, List.length_cons, List.length_nil, It.kid]
      have i0 := ih 0 sl d s _ (hk' 0 (by omega))
      have i1 := ih 1 sl d (s + (genI (kid 0) sl d s).length + 1) _ (hk' 1 (by omega))
      have i2 := ih 2 sl d (s + (genI (kid 0) sl d s).length + 1 + (genI (kid 1) sl d (s + (genI (kid 0) sl d s).length + 1)).length + 1) _ (hk' 2 (by omega))
      omega
    | false =>
      by_cases h7 : op = 7
      · have hl : len = 2 := right_let (t := .mk op n len kid) h h7
        subst hl
        rw [genI_let (t := .mk op n 2 kid) h7, hc, sum2]
        simp only [List.length_append, List.length_cons, List.length_nil, It.kid]
        have i0 := ih 0 sl d s _ (hk' 0 (by omega))
        have i1 := ih 1 (sl ++ [(d : Int)]) (d + 1) (s + (genI (kid 0) sl d s).length) _ (hk' 1 (by omega))
        omega
      · have h0 : op ≠ 0 := by
          intro e
          obtain ⟨ho, _⟩ := right_node h
          have ho' : opB op = true := ho
          rw [e] at ho'
          simp [opB] at ho'
        rw [genI_other (t := .mk op n len kid) h2 h7 h0, hc]
        simp only [List.length_append, List.length_cons, List.length_nil, It.kid, It.len]
        have key : ∀ k s, k ≤ len → (kidsG (fun i s => genI (kid i) sl (d + i) s) k s).length ≤ 2 * sumTo (fun i => (kid i).count) k := by
          intro k
          induction k with
          | zero => intro s _; exact Nat.zero_le _
          | succ k ihk =>
            intro s hkl
            have a1 := ihk s (by omega)
            have a2 := ih k sl (d + k) (s + (kidsG (fun i s => genI (kid i) sl (d + i) s) k s).length) _ (hk' k (by omega))
            simp only [kidsG, List.length_append, sumTo]
            omega
        have := key len s (Nat.le_refl _)
        omega
end Go.Proofs.YthnhdmanmmdoiaaDoor
