/- Pieces of text and values that are still to be told; plain facts. No conditions. -/
import Derived.Test.YtbofjjjjjcolgaaDoorValTell
import Derived.Test.YtbofjjjjjcolgaaDoorValRows
namespace Go.Proofs.YtbofjjjjjcolgaaDoor
open Go.ChangeShapes Go.WideShapes Go.ChangeAt Go.RowKit

/-- How many pieces come of a datum, at most. -/
def Vt.steps : Vt → Nat | .no => 1 | .mk _ _ len kid => 5 + sumTo (fun i => 2 + (kid i).steps) len
theorem Vt.steps_eq (t : Vt) (h : t ≠ .no) : t.steps = 5 + sumTo (fun i => 2 + (t.kid i).steps) t.len := by cases t <;> first | rfl | exact absurd rfl h
theorem Vt.steps_count (t : Vt) : t.steps + 2 ≤ 7 * t.count := by
  induction t with
  | no => simp [steps, count]
  | mk op n len kid ih =>
    unfold steps count
    have : ∀ k, sumTo (fun i => 2 + (kid i).steps) k ≤ 7 * sumTo (fun i => (kid i).count) k := by
      intro k
      induction k with
      | zero => simp [sumTo]
      | succ k ihk => simp only [sumTo]; have := ih k; omega
    have := this len
    omega

/-- A piece: a text, and a datum (with the slice of its kids) where it lies, or none. -/
structure PcV where
  tx : ByteArray
  tr : Option (Vt × Value × Nat × Nat)
def PcV.adr (p : PcV) : Option Addr := p.tr.map fun q => ⟨q.2.2.1, q.2.2.2, none⟩
def PcV.cells (p : PcV) : List Value := [.string p.tx, .pointer p.adr]
def pcrowsV (l : List PcV) : List Value := l.flatMap PcV.cells
theorem pcrowsV_append (a b : List PcV) : pcrowsV (a ++ b) = pcrowsV a ++ pcrowsV b := by simp [pcrowsV]
theorem pcrowsV_length (l : List PcV) : (pcrowsV l).length = l.length * 2 := by
  induction l with
  | nil => rfl
  | cons t r ih => simp only [pcrowsV, List.flatMap_cons, List.length_append, List.length_cons] at ih ⊢; rw [ih]; simp [PcV.cells]; omega

def PcV.of (s : ByteArray) : PcV := ⟨s, none⟩
def PcV.tree (t : Vt) (v : Value) (b o : Nat) : PcV := ⟨⟨#[]⟩, some (t, v, b, o)⟩
def PcV.told (p : PcV) : List UInt8 := p.tx.data.toList ++ (match p.tr with | none => [] | some q => q.1.text)
def PcV.goes (p : PcV) : Nat := 1 + (match p.tr with | none => 0 | some q => q.1.steps)
def toldAllV (l : List PcV) : List UInt8 := (l.map PcV.told).flatten
def goesPV (l : List PcV) : Nat := (l.map PcV.goes).sum
theorem toldAllV_append (a b : List PcV) : toldAllV (a ++ b) = toldAllV a ++ toldAllV b := by simp [toldAllV]
theorem goesPV_append (a b : List PcV) : goesPV (a ++ b) = goesPV a + goesPV b := by simp [goesPV]
theorem goesPV_reverse (a : List PcV) : goesPV a.reverse = goesPV a := by
  induction a with
  | nil => rfl
  | cons x r ih => rw [List.reverse_cons, goesPV_append, ih]; simp [goesPV]; omega
theorem goesPV_len (l : List PcV) : l.length ≤ goesPV l := by
  induction l with
  | nil => simp
  | cons q r ih =>
    simp only [goesPV, List.map_cons, List.sum_cons, List.length_cons] at ih ⊢
    have : 1 ≤ q.goes := by unfold PcV.goes; omega
    omega
/-- What is still told; the next one stands last. -/
def leftPV (st : List PcV) : List UInt8 := toldAllV st.reverse
theorem leftPV_snoc (r : List PcV) (q : PcV) : leftPV (r ++ [q]) = q.told ++ leftPV r := by simp [leftPV, toldAllV]
theorem leftPV_pushed (r ps : List PcV) : leftPV (r ++ ps.reverse) = toldAllV ps ++ leftPV r := by simp [leftPV, toldAllV]

/-- The data of the pieces lie in w. -/
def PcsInV (w : World) (l : List PcV) : Prop := ∀ p ∈ l, ∀ q, p.tr = some q → q.1.In w q.2.1 ∧ HeadV w q.2.2.1 q.2.2.2 q.1 q.2.1 ∧ q.1.weight ≤ 1048576
theorem PcsInV.below {w w' : World} {l : List PcV} (h : PcsInV w l) (hb : Below w.heap.size w w') : PcsInV w' l := fun p hp q hq => ⟨(h p hp q hq).1.below hb, (h p hp q hq).2.1.below hb, (h p hp q hq).2.2⟩
theorem PcsInV.append {w : World} {a b : List PcV} (ha : PcsInV w a) (hb : PcsInV w b) : PcsInV w (a ++ b) := fun p hp => (List.mem_append.1 hp).elim (ha p) (hb p)
theorem PcsInV.left {w : World} {a b : List PcV} (h : PcsInV w (a ++ b)) : PcsInV w a := fun p hp => h p (List.mem_append_left _ hp)
theorem PcsInV.rev {w : World} {a : List PcV} (h : PcsInV w a) : PcsInV w a.reverse := fun p hp => h p (List.mem_reverse.1 hp)
theorem PcsInV.text {w : World} (s : ByteArray) : PcsInV w [PcV.of s] := fun p hp q hq => by simp only [List.mem_singleton] at hp; subst hp; cases hq
theorem PcsInV.one {w : World} {t : Vt} {v : Value} {b o : Nat} (h : t.In w v) (hd : HeadV w b o t v) (hw : t.weight ≤ 1048576) : PcsInV w [PcV.tree t v b o] := fun p hp q hq => by
  simp only [List.mem_singleton] at hp; subst hp
  have : (t, v, b, o) = q := Option.some.inj hq
  subst this
  exact ⟨h, hd, hw⟩

/-- The piece of a kid that may not be there. -/
def kidPcV (len : Nat) (kid : Nat → Vt) (V : Nat → Value) (b o i : Nat) : PcV := if i < len then PcV.tree (kid i) (V i) b (o + i * 3) else PcV.of ⟨#[63]⟩
theorem kidPcV_yes {len : Nat} {kid : Nat → Vt} {V : Nat → Value} {b o i : Nat} (h : i < len) : kidPcV len kid V b o i = PcV.tree (kid i) (V i) b (o + i * 3) := if_pos h
theorem kidPcV_no {len : Nat} {kid : Nat → Vt} {V : Nat → Value} {b o i : Nat} (h : ¬ i < len) : kidPcV len kid V b o i = PcV.of ⟨#[63]⟩ := if_neg h
theorem kidPcV_told (len : Nat) (kid : Nat → Vt) (V : Nat → Value) (b o i : Nat) : (kidPcV len kid V b o i).told = kidTx len kid i := by
  unfold kidPcV kidTx
  split <;> simp [PcV.told, PcV.tree, PcV.of]
def pairPcs (len : Nat) (kid : Nat → Vt) (V : Nat → Value) (b o : Nat) : List PcV := [PcV.of ⟨#[40]⟩, kidPcV len kid V b o 0, PcV.of ⟨#[32, 46, 32]⟩, kidPcV len kid V b o 1, PcV.of ⟨#[41]⟩]
theorem pairPcs_told (len : Nat) (kid : Nat → Vt) (V : Nat → Value) (b o : Nat) : toldAllV (pairPcs len kid V b o) = pairTx len kid := by
  unfold pairPcs pairTx toldAllV
  simp only [List.map_cons, List.map_nil, kidPcV_told]
  simp [PcV.told, PcV.of]
theorem kidPcV_goes (len : Nat) (kid : Nat → Vt) (V : Nat → Value) (b o i : Nat) : (kidPcV len kid V b o i).goes = 1 + (if i < len then (kid i).steps else 0) := by
  unfold kidPcV
  split <;> simp [PcV.goes, PcV.tree, PcV.of]
theorem pairPcs_goes (len : Nat) (kid : Nat → Vt) (V : Nat → Value) (b o : Nat) : goesPV (pairPcs len kid V b o) ≤ 5 + sumTo (fun i => 2 + (kid i).steps) len := by
  unfold pairPcs goesPV
  simp only [List.map_cons, List.map_nil, List.sum_cons, List.sum_nil, kidPcV_goes]
  have e1 : ∀ s, (PcV.of s).goes = 1 := fun s => rfl
  rw [e1, e1, e1]
  by_cases h1 : 1 < len
  · have a2 := sumTo_le (fun i => 2 + (kid i).steps) 2 len (by omega)
    simp only [sumTo] at a2
    rw [if_pos (by omega), if_pos h1]; omega
  · by_cases h0 : 0 < len
    · have a2 := sumTo_le (fun i => 2 + (kid i).steps) 1 len (by omega)
      simp only [sumTo] at a2
      rw [if_pos h0, if_neg h1]; omega
    · rw [if_neg h0, if_neg h1]; omega
theorem kidPcV_in {w : World} {len : Nat} {kid : Nat → Vt} {V : Nat → Value} {b o i : Nat} (h : i < len → HeadV w b (o + i * 3) (kid i) (V i) ∧ (kid i).In w (V i) ∧ (kid i).weight ≤ 1048576) : PcsInV w [kidPcV len kid V b o i] := by
  unfold kidPcV
  split
  · rename_i hi
    exact PcsInV.one (h hi).2.1 (h hi).1 (h hi).2.2
  · exact PcsInV.text _
theorem pairPcs_in {w : World} {len : Nat} {kid : Nat → Vt} {V : Nat → Value} {b o : Nat} (h : ∀ i, i < len → HeadV w b (o + i * 3) (kid i) (V i) ∧ (kid i).In w (V i) ∧ (kid i).weight ≤ 1048576) : PcsInV w (pairPcs len kid V b o) :=
  (PcsInV.text _).append ((kidPcV_in (h 0)).append ((PcsInV.text _).append ((kidPcV_in (h 1)).append (PcsInV.text _))))

/-- What a datum's pieces are. -/
structure PcsOfV (w : World) (t : Vt) (ps : List PcV) : Prop where
  told : toldAllV ps = t.text
  goes : goesPV ps ≤ t.steps
  ins : PcsInV w ps
theorem PcsOfV.one {w : World} {t : Vt} {s : ByteArray} (h : s.data.toList = t.text) : PcsOfV w t [PcV.of s] :=
  ⟨by simp [toldAllV, PcV.told, PcV.of, h], by simp [goesPV, PcV.goes, PcV.of]; cases t <;> unfold Vt.steps <;> omega, PcsInV.text s⟩
end Go.Proofs.YtbofjjjjjcolgaaDoor
