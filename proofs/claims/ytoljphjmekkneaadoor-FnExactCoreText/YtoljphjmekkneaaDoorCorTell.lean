/- Plain facts on the text of a core. No conditions. -/
import Derived.Test.YtoljphjmekkneaaDoorCor
import Derived.Test.YtoljphjmekkneaaDoorDatTell
namespace Go.Proofs.YtoljphjmekkneaaDoor
open Go.ChangeShapes Go.WideShapes Go.ChangeAt Go.RowKit

/-- The word of an op. -/
def wordC (op : Int) : ByteArray :=
  if op = 3 then ⟨#[102, 117, 110]⟩ else if op = 4 then ⟨#[97, 112, 112]⟩ else if op = 5 then ⟨#[108, 101, 116]⟩ else if op = 6 then ⟨#[114, 101, 99]⟩ else
  if op = 7 then ⟨#[105, 102]⟩ else if op = 8 then ⟨#[43]⟩ else if op = 9 then ⟨#[45]⟩ else if op = 10 then ⟨#[42]⟩ else if op = 11 then ⟨#[60]⟩ else if op = 12 then ⟨#[61]⟩ else
  if op = 14 then ⟨#[99, 111, 110, 115]⟩ else if op = 15 then ⟨#[99, 97, 114]⟩ else if op = 16 then ⟨#[99, 100, 114]⟩ else if op = 17 then ⟨#[112, 97, 105, 114, 63]⟩ else if op = 18 then ⟨#[112, 117, 116]⟩ else ⟨#[63]⟩
theorem ite_len (p : Prop) [Decidable p] (a b : ByteArray) (ha : a.data.toList.length ≤ 5) (hb : b.data.toList.length ≤ 5) : (if p then a else b).data.toList.length ≤ 5 := by
  split
  · exact ha
  · exact hb
theorem wordC_size (op : Int) : (wordC op).data.toList.length ≤ 5 := by
  unfold wordC
  repeat refine ite_len _ _ _ (by decide) ?_
  decide

/-- A name behind a blank, if there is one. -/
def nameC (s : ByteArray) : List UInt8 := if s.size = 0 then [] else 32 :: s.data.toList
theorem nameC_len (s : ByteArray) : (nameC s).length ≤ 1 + s.size := by
  unfold nameC
  split
  · simp
  · have : s.data.toList.length = s.size := by simp
    simp only [List.length_cons]; omega
def kidsTo (f : Nat → List UInt8) : Nat → List UInt8
  | 0 => []
  | k + 1 => kidsTo f k ++ (32 :: f k)

/-- The text of a core. -/
def C.text : C → List UInt8
  | .no => [63]
  | .mk op n s t2 len kid => if op = 1 then Lib.itoa n else if op = 2 then s.data.toList else if op = 13 then [40, 41] else 40 :: ((wordC op).data.toList ++ (nameC s ++ (nameC t2 ++ (kidsTo (fun i => (kid i).text) len ++ [41]))))
theorem C.text_mk (op n : Int) (s t2 : ByteArray) (len : Nat) (kid : Nat → C) : (C.mk op n s t2 len kid).text = if op = 1 then Lib.itoa n else if op = 2 then s.data.toList else if op = 13 then [40, 41] else 40 :: ((wordC op).data.toList ++ (nameC s ++ (nameC t2 ++ (kidsTo (fun i => (kid i).text) len ++ [41])))) := rfl
theorem C.text_num (t : C) (h : t.op = 1) : t.text = Lib.itoa t.n := by
  cases t with
  | no => simp [C.op] at h
  | mk op n s t2 len kid => simp only [C.op] at h; unfold text; rw [if_pos h]; rfl
theorem C.text_var (t : C) (h : t.op = 2) : t.text = t.s.data.toList := by
  cases t with
  | no => simp [C.op] at h
  | mk op n s t2 len kid => simp only [C.op] at h; unfold text; rw [if_neg (by omega), if_pos h]; rfl
theorem C.text_nil (t : C) (h : t.op = 13) : t.text = [40, 41] := by
  cases t with
  | no => simp [C.op] at h
  | mk op n s t2 len kid => simp only [C.op] at h; rw [C.text_mk, if_neg (by omega), if_neg (by omega), if_pos h]
theorem C.text_else (t : C) (h0 : t ≠ .no) (h1 : t.op ≠ 1) (h2 : t.op ≠ 2) (h3 : t.op ≠ 13) : t.text = 40 :: ((wordC t.op).data.toList ++ (nameC t.s ++ (nameC t.t2 ++ (kidsTo (fun i => (t.kid i).text) t.len ++ [41])))) := by
  cases t with
  | no => exact absurd rfl h0
  | mk op n s t2 len kid => simp only [C.op] at h1 h2 h3; rw [C.text_mk, if_neg h1, if_neg h2, if_neg h3]; rfl

theorem C.text_len (w : World) (t : C) : ∀ v, t.In w v → t.text.length + 1 ≤ 22 * t.count + t.weight := by
  induction t with
  | no => intro v h; exact h.elim
  | mk op n s t2 len kid ih =>
    intro v hin
    have hn := hin.num
    have hsl := hin.sl
    have key : ∀ k, k ≤ len → (kidsTo (fun i => (kid i).text) k).length ≤ 22 * sumTo (fun i => (kid i).count) k + sumTo (fun i => (kid i).weight) k := by
      intro k
      induction k with
      | zero => intro _; simp [kidsTo]
      | succ k ihk =>
        intro hk
        have h1 := ihk (by omega)
        have h2 : (kid k).text.length + 1 ≤ 22 * (kid k).count + (kid k).weight := by
          rcases hsl with ⟨h0, _⟩ | ⟨b, o, cap, V, _, _, _, _, h4⟩
          · have h0' : len = 0 := h0
            omega
          · exact ih k _ (h4 k (by show k < len; omega)).2
        simp only [kidsTo, sumTo, List.length_append, List.length_cons]
        omega
    have hk := key len (Nat.le_refl _)
    have hi := itoa_len n hn
    have hw := wordC_size op
    have ha := nameC_len s
    have hb := nameC_len t2
    unfold text count weight
    split
    · omega
    split
    · have : s.data.toList.length = s.size := by simp
      omega
    split
    · simp only [List.length_cons, List.length_nil]; omega
    · simp only [List.length_cons, List.length_append, List.length_nil]; omega
theorem C.text_few (w : World) (t : C) (v : Value) (h : t.In w v) (hw : t.weight ≤ 1048576) : t.text.length ≤ 33554432 := by
  have h1 := t.text_len w v h
  have h2 := t.count_weight
  omega
end Go.Proofs.YtoljphjmekkneaaDoor
