/- Plain facts on the text of a datum; also by a list of open lists that are told on. No conditions. -/
import Derived.Test.YtbofjjjjjcolgaaDoorDat
import Derived.Test.YtbofjjjjjcolgaaDoorPlain
namespace Go.Proofs.YtbofjjjjjcolgaaDoor
open Go.ChangeShapes Go.WideShapes Go.ChangeAt Go.RowKit

/-- A blank parts what is not first. -/
def sep (k : Nat) : List UInt8 := if k = 0 then [] else [32]
def joinTo (f : Nat → List UInt8) : Nat → List UInt8
  | 0 => []
  | k + 1 => joinTo f k ++ (sep k ++ f k)
def joinFrom (f : Nat → List UInt8) : Nat → Nat → List UInt8
  | _, 0 => []
  | k, m + 1 => sep k ++ (f k ++ joinFrom f (k + 1) m)

theorem join_split (f : Nat → List UInt8) (m : Nat) : ∀ k, joinTo f (k + m) = joinTo f k ++ joinFrom f k m := by
  induction m with
  | zero => intro k; simp [joinFrom]
  | succ m ih =>
    intro k
    rw [show k + (m + 1) = (k + 1) + m from by omega, ih (k + 1)]
    simp [joinTo, joinFrom]
theorem join_all (f : Nat → List UInt8) (m : Nat) : joinTo f m = joinFrom f 0 m := by
  have := join_split f m 0
  simpa [joinTo] using this

/-- The text of a datum. -/
def D.text : D → List UInt8
  | .no => [63]
  | .mk op _ n s len kid => if op = 1 then Lib.itoa n else if op = 2 then s.data.toList else if op = 3 then 40 :: (joinTo (fun i => (kid i).text) len ++ [41]) else [63]

theorem D.text_mk (op a n : Int) (s : ByteArray) (len : Nat) (kid : Nat → D) : (D.mk op a n s len kid).text = if op = 1 then Lib.itoa n else if op = 2 then s.data.toList else if op = 3 then 40 :: (joinTo (fun i => (kid i).text) len ++ [41]) else [63] := rfl
theorem D.text_num (t : D) (h : t.op = 1) : t.text = Lib.itoa t.n := by
  cases t with
  | no => simp [D.op] at h
  | mk op a n s len kid => simp only [D.op] at h; unfold text; rw [if_pos h]; rfl
theorem D.text_sym (t : D) (h : t.op = 2) : t.text = t.s.data.toList := by
  cases t with
  | no => simp [D.op] at h
  | mk op a n s len kid => simp only [D.op] at h; unfold text; rw [if_neg (by omega), if_pos h]; rfl
theorem D.text_list (t : D) (h : t.op = 3) : t.text = 40 :: (joinTo (fun i => (t.kid i).text) t.len ++ [41]) := by
  cases t with
  | no => simp [D.op] at h
  | mk op a n s len kid => simp only [D.op] at h; rw [D.text_mk, if_neg (by omega), if_neg (by omega), if_pos h]; rfl
theorem D.text_none (t : D) (h1 : t.op ≠ 1) (h2 : t.op ≠ 2) (h3 : t.op ≠ 3) : t.text = [63] := by
  cases t with
  | no => rfl
  | mk op a n s len kid => simp only [D.op] at h1 h2 h3; unfold text; rw [if_neg h1, if_neg h2, if_neg h3]

theorem sep_len (k : Nat) : (sep k).length ≤ 1 := by unfold sep; split <;> simp

theorem itoa_len (n : Int) (h : -9223372036854775808 ≤ n ∧ n ≤ 9223372036854775807) : (Lib.itoa n).length ≤ 21 := by
  unfold Lib.itoa
  have : ∀ k : Nat, k < 18446744073709551616 → (Lib.decDigits k).length ≤ 20 := fun k hk => by rw [Lib.decDigits_length]; exact Lib.nDigits_le20 k hk
  split
  · have := this n.natAbs (by omega)
    simp only [List.length_cons]; omega
  · have := this n.toNat (by omega)
    omega

theorem D.text_len (w : World) (t : D) : ∀ v, t.In w v → t.text.length + 1 ≤ 22 * t.count + t.weight := by
  induction t with
  | no => intro v h; exact h.elim
  | mk op a n s len kid ih =>
    intro v hin
    have hn := hin.num
    have hsl := hin.sl
    have key : ∀ k, k ≤ len → (joinTo (fun i => (kid i).text) k).length ≤ 22 * sumTo (fun i => (kid i).count) k + sumTo (fun i => (kid i).weight) k := by
      intro k
      induction k with
      | zero => intro _; simp [joinTo]
      | succ k ihk =>
        intro hk
        have h1 := ihk (by omega)
        have h2 : (kid k).text.length + 1 ≤ 22 * (kid k).count + (kid k).weight := by
          rcases hsl with ⟨h0, _⟩ | ⟨b, o, cap, V, _, _, _, _, h4⟩
          · have h0' : len = 0 := h0
            omega
          · exact ih k _ (h4 k (by show k < len; omega)).2
        have h3 := sep_len k
        simp only [joinTo, sumTo, List.length_append]
        omega
    have hk := key len (Nat.le_refl _)
    have hi := itoa_len n hn
    unfold text count weight
    split
    · omega
    split
    · have : s.data.toList.length = s.size := by simp
      omega
    split
    · simp only [List.length_cons, List.length_append, List.length_nil]; omega
    · simp only [List.length_cons, List.length_nil]; omega

/-- Rounds that a datum takes behind its beginning. -/
def D.goes : D → Nat
  | .no => 0
  | .mk op _ _ _ len kid => if op = 3 then 1 + sumTo (fun i => 1 + (kid i).goes) len else 0
theorem D.goes_mk (op a n : Int) (s : ByteArray) (len : Nat) (kid : Nat → D) : (D.mk op a n s len kid).goes = if op = 3 then 1 + sumTo (fun i => 1 + (kid i).goes) len else 0 := rfl
theorem D.goes_list (t : D) (h : t.op = 3) : t.goes = 1 + sumTo (fun i => 1 + (t.kid i).goes) t.len := by
  cases t with
  | no => simp [D.op] at h
  | mk op a n s len kid => simp only [D.op] at h; rw [D.goes_mk, if_pos h]; rfl
theorem D.goes_else (t : D) (h : t.op ≠ 3) : t.goes = 0 := by
  cases t with
  | no => rfl
  | mk op a n s len kid => simp only [D.op] at h; unfold goes; rw [if_neg h]
theorem D.goes_count (t : D) : t.goes + 1 ≤ 2 * t.count := by
  induction t with
  | no => simp [goes, count]
  | mk op a n s len kid ih =>
    unfold goes count
    have : ∀ k, sumTo (fun i => 1 + (kid i).goes) k ≤ 2 * sumTo (fun i => (kid i).count) k := by
      intro k
      induction k with
      | zero => simp [sumTo]
      | succ k ihk => simp only [sumTo]; have := ih k; omega
    have := this len
    split <;> omega

def sumFrom (f : Nat → Nat) : Nat → Nat → Nat
  | _, 0 => 0
  | k, m + 1 => f k + sumFrom f (k + 1) m
theorem sum_split (f : Nat → Nat) (m : Nat) : ∀ k, sumTo f (k + m) = sumTo f k + sumFrom f k m := by
  induction m with
  | zero => intro k; simp [sumFrom]
  | succ m ih =>
    intro k
    rw [show k + (m + 1) = (k + 1) + m from by omega, ih (k + 1)]
    simp [sumTo, sumFrom]; omega
theorem sum_all (f : Nat → Nat) (m : Nat) : sumTo f m = sumFrom f 0 m := by
  have := sum_split f m 0
  simpa [sumTo] using this

/-- An open list: the datum, the slice of its kids, the next of them. -/
structure Op where
  t : D
  v : Value
  k : Nat

def Op.cells (q : Op) : List Value := [q.v, .int .i64 q.k]
def orows (st : List Op) : List Value := st.flatMap Op.cells
theorem orows_append (a b : List Op) : orows (a ++ b) = orows a ++ orows b := by simp [orows]
theorem orows_length (st : List Op) : (orows st).length = st.length * 2 := by
  induction st with
  | nil => rfl
  | cons t r ih => simp only [orows, List.flatMap_cons, List.length_append, List.length_cons] at ih ⊢; rw [ih]; simp [Op.cells]; omega

/-- What is still told of an open list. -/
def Op.left (q : Op) : List UInt8 := joinFrom (fun i => (q.t.kid i).text) q.k (q.t.len - q.k) ++ [41]
def Op.goes (q : Op) : Nat := 1 + sumFrom (fun i => 1 + (q.t.kid i).goes) q.k (q.t.len - q.k)
/-- What is still told, the innermost first; it stands last. -/
def leftAll (st : List Op) : List UInt8 := (st.reverse.map Op.left).flatten
def goesAll (st : List Op) : Nat := (st.map Op.goes).sum

theorem leftAll_snoc (r : List Op) (q : Op) : leftAll (r ++ [q]) = q.left ++ leftAll r := by simp [leftAll]
theorem goesAll_snoc (r : List Op) (q : Op) : goesAll (r ++ [q]) = goesAll r + q.goes := by simp [goesAll]
theorem goesAll_len (st : List Op) : st.length ≤ goesAll st := by
  induction st with
  | nil => simp
  | cons q r ih =>
    simp only [goesAll, List.map_cons, List.sum_cons, List.length_cons] at ih ⊢
    have : 1 ≤ q.goes := by unfold Op.goes; omega
    omega

theorem Op.left_end (q : Op) (h : q.k = q.t.len) : q.left = [41] := by unfold Op.left; rw [h]; simp [joinFrom]
theorem Op.goes_end (q : Op) (h : q.k = q.t.len) : q.goes = 1 := by unfold Op.goes; rw [h]; simp [sumFrom]
theorem Op.left_next (t : D) (v : Value) (k : Nat) (h : k < t.len) : (Op.mk t v k).left = sep k ++ ((t.kid k).text ++ (Op.mk t v (k + 1)).left) := by
  unfold Op.left
  simp only
  rw [show t.len - k = (t.len - (k + 1)) + 1 from by omega]
  simp [joinFrom]
theorem Op.goes_next (t : D) (v : Value) (k : Nat) (h : k < t.len) : (Op.mk t v k).goes = (1 + (t.kid k).goes) + (Op.mk t v (k + 1)).goes := by
  unfold Op.goes
  simp only
  rw [show t.len - k = (t.len - (k + 1)) + 1 from by omega]
  simp only [sumFrom]; omega
theorem Op.left_new (t : D) (v : Value) (h : t.op = 3) : 40 :: (Op.mk t v 0).left = t.text := by
  rw [t.text_list h, join_all]; rfl
theorem Op.goes_new (t : D) (v : Value) (h : t.op = 3) : (Op.mk t v 0).goes = t.goes := by
  rw [t.goes_list h, sum_all]; rfl

/-- The open lists lie in w. -/
def OpsIn (w : World) (st : List Op) : Prop := ∀ q ∈ st, q.t.In w q.v ∧ q.k ≤ q.t.len
theorem OpsIn.below {w w' : World} {st : List Op} (h : OpsIn w st) (hb : Below w.heap.size w w') : OpsIn w' st := fun q hq => ⟨(h q hq).1.below hb, (h q hq).2⟩
end Go.Proofs.YtbofjjjjjcolgaaDoor
