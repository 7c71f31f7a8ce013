/- Plain facts on the text of a value. No conditions. -/
import Derived.Test.YtbofjjjjjcolgaaDoorVal
import Derived.Test.YtbofjjjjjcolgaaDoorDatTell
namespace Go.Proofs.YtbofjjjjjcolgaaDoor
open Go.ChangeShapes Go.WideShapes Go.ChangeAt Go.RowKit

/-- The text of a value. -/
def Vt.text : Vt → List UInt8
  | .no => [102, 117, 110]
  | .mk op n len kid => if op = 1 then Lib.itoa n else if op = 2 then [40, 41] else if op = 3 then 40 :: ((if 0 < len then (kid 0).text else [63]) ++ ([32, 46, 32] ++ ((if 1 < len then (kid 1).text else [63]) ++ [41]))) else [102, 117, 110]
/-- The text of a kid that may not be there. -/
def kidTx (len : Nat) (kid : Nat → Vt) (i : Nat) : List UInt8 := if i < len then (kid i).text else [63]
def pairTx (len : Nat) (kid : Nat → Vt) : List UInt8 := 40 :: (kidTx len kid 0 ++ ([32, 46, 32] ++ (kidTx len kid 1 ++ [41])))
theorem Vt.text_num (t : Vt) (h : t.op = 1) : t.text = Lib.itoa t.n := by
  cases t with
  | no => simp [Vt.op] at h
  | mk op n len kid => simp only [Vt.op] at h; unfold text; rw [if_pos h]; rfl
theorem Vt.text_nil (t : Vt) (h : t.op = 2) : t.text = [40, 41] := by
  cases t with
  | no => simp [Vt.op] at h
  | mk op n len kid => simp only [Vt.op] at h; unfold text; rw [if_neg (by omega), if_pos h]
theorem Vt.text_pair (t : Vt) (h : t.op = 3) : t.text = pairTx t.len t.kid := by
  cases t with
  | no => simp [Vt.op] at h
  | mk op n len kid => simp only [Vt.op] at h; unfold text; rw [if_neg (by omega), if_neg (by omega), if_pos h]; rfl
theorem Vt.text_else (t : Vt) (h1 : t.op ≠ 1) (h2 : t.op ≠ 2) (h3 : t.op ≠ 3) : t.text = [102, 117, 110] := by
  cases t with
  | no => rfl
  | mk op n len kid => simp only [Vt.op] at h1 h2 h3; unfold text; rw [if_neg h1, if_neg h2, if_neg h3]

theorem Vt.text_len (w : World) (t : Vt) : ∀ v, t.In w v → t.text.length + 1 ≤ 24 * t.count := by
  induction t with
  | no => intro v h; exact h.elim
  | mk op n len kid ih =>
    intro v hin
    have hn := hin.num
    have hsl := hin.sl
    have hi := itoa_len n hn
    have hk : ∀ i, i < len → (kid i).text.length + 1 ≤ 24 * (kid i).count := by
      intro i hlt
      rcases hsl with ⟨h0, _⟩ | ⟨b, o, cap, V, _, _, _, _, h4⟩
      · have h0' : len = 0 := h0
        omega
      · exact ih i _ (h4 i hlt).2
    unfold text count
    split
    · omega
    split
    · simp only [List.length_cons, List.length_nil]; omega
    split
    · by_cases h1 : 1 < len
      · have a0 := hk 0 (by omega)
        have a1 := hk 1 h1
        have a2 := sumTo_le (fun i => (kid i).count) 2 len (by omega)
        simp only [sumTo] at a2
        rw [if_pos (by omega), if_pos h1]
        simp only [List.length_cons, List.length_append, List.length_nil]
        omega
      · by_cases h0 : 0 < len
        · have a0 := hk 0 h0
          have a2 := sumTo_le (fun i => (kid i).count) 1 len (by omega)
          simp only [sumTo] at a2
          rw [if_pos h0, if_neg h1]
          simp only [List.length_cons, List.length_append, List.length_nil]
          omega
        · rw [if_neg h0, if_neg h1]
          simp only [List.length_cons, List.length_append, List.length_nil]
          omega
    · simp only [List.length_cons, List.length_nil]; omega
theorem Vt.text_few (w : World) (t : Vt) (v : Value) (h : t.In w v) (hw : t.weight ≤ 1048576) : t.text.length ≤ 33554432 := by
  have h1 := t.text_len w v h
  have h2 := t.count_weight
  omega
end Go.Proofs.YtbofjjjjjcolgaaDoor
