/- Pieces of text and cores that are still to be told; plain facts. No conditions. -/
import Derived.Test.YtoljphjmekkneaaDoorCorTell
import Derived.Test.YtoljphjmekkneaaDoorCorRows
namespace Go.Proofs.YtoljphjmekkneaaDoor
open Go.ChangeShapes Go.WideShapes Go.ChangeAt Go.RowKit

/-- How many pieces come of a datum, at most. -/
def C.steps : C → Nat | .no => 1 | .mk _ _ _ _ len kid => 7 + sumTo (fun i => 2 + (kid i).steps) len
theorem C.steps_eq (t : C) (h : t ≠ .no) : t.steps = 7 + sumTo (fun i => 2 + (t.kid i).steps) t.len := by cases t <;> first | rfl | exact absurd rfl h
theorem C.steps_count (t : C) : t.steps + 2 ≤ 9 * t.count := by
  induction t with
  | no => simp [steps, count]
  | mk op n s t2 len kid ih =>
    unfold steps count
    have : ∀ k, sumTo (fun i => 2 + (kid i).steps) k ≤ 9 * sumTo (fun i => (kid i).count) k := by
      intro k
      induction k with
      | zero => simp [sumTo]
      | succ k ihk => simp only [sumTo]; have := ih k; omega
    have := this len
    omega

/-- A piece: a text, and a datum (with the slice of its kids) where it lies, or none. -/
structure PcC where
  tx : ByteArray
  tr : Option (C × Value × Nat × Nat)
def PcC.adr (p : PcC) : Option Addr := p.tr.map fun q => ⟨q.2.2.1, q.2.2.2, none⟩
def PcC.cells (p : PcC) : List Value := [.string p.tx, .pointer p.adr]
def pcrowsC (l : List PcC) : List Value := l.flatMap PcC.cells
theorem pcrowsC_append (a b : List PcC) : pcrowsC (a ++ b) = pcrowsC a ++ pcrowsC b := by simp [pcrowsC]
theorem pcrowsC_length (l : List PcC) : (pcrowsC l).length = l.length * 2 := by
  induction l with
  | nil => rfl
  | cons t r ih => simp only [pcrowsC, List.flatMap_cons, List.length_append, List.length_cons] at ih ⊢; rw [ih]; simp [PcC.cells]; omega

def PcC.of (s : ByteArray) : PcC := ⟨s, none⟩
def PcC.tree (t : C) (v : Value) (b o : Nat) : PcC := ⟨⟨#[]⟩, some (t, v, b, o)⟩
def PcC.told (p : PcC) : List UInt8 := p.tx.data.toList ++ (match p.tr with | none => [] | some q => q.1.text)
def PcC.goes (p : PcC) : Nat := 1 + (match p.tr with | none => 0 | some q => q.1.steps)
def toldAllC (l : List PcC) : List UInt8 := (l.map PcC.told).flatten
def goesPC (l : List PcC) : Nat := (l.map PcC.goes).sum
theorem toldAllC_append (a b : List PcC) : toldAllC (a ++ b) = toldAllC a ++ toldAllC b := by simp [toldAllC]
theorem goesPC_append (a b : List PcC) : goesPC (a ++ b) = goesPC a + goesPC b := by simp [goesPC]
theorem goesPC_reverse (a : List PcC) : goesPC a.reverse = goesPC a := by
  induction a with
  | nil => rfl
  | cons x r ih => rw [List.reverse_cons, goesPC_append, ih]; simp [goesPC]; omega
theorem goesPC_len (l : List PcC) : l.length ≤ goesPC l := by
  induction l with
  | nil => simp
  | cons q r ih =>
    simp only [goesPC, List.map_cons, List.sum_cons, List.length_cons] at ih ⊢
    have : 1 ≤ q.goes := by unfold PcC.goes; omega
    omega
/-- What is still told; the next one stands last. -/
def leftPC (st : List PcC) : List UInt8 := toldAllC st.reverse
theorem leftPC_snoc (r : List PcC) (q : PcC) : leftPC (r ++ [q]) = q.told ++ leftPC r := by simp [leftPC, toldAllC]
theorem leftPC_pushed (r ps : List PcC) : leftPC (r ++ ps.reverse) = toldAllC ps ++ leftPC r := by simp [leftPC, toldAllC]

/-- The data of the pieces lie in w. -/
def PcsInC (w : World) (l : List PcC) : Prop := ∀ p ∈ l, ∀ q, p.tr = some q → q.1.In w q.2.1 ∧ HeadC w q.2.2.1 q.2.2.2 q.1 q.2.1 ∧ q.1.weight ≤ 1048576
theorem PcsInC.below {w w' : World} {l : List PcC} (h : PcsInC w l) (hb : Below w.heap.size w w') : PcsInC w' l := fun p hp q hq => ⟨(h p hp q hq).1.below hb, (h p hp q hq).2.1.below hb, (h p hp q hq).2.2⟩
theorem PcsInC.append {w : World} {a b : List PcC} (ha : PcsInC w a) (hb : PcsInC w b) : PcsInC w (a ++ b) := fun p hp => (List.mem_append.1 hp).elim (ha p) (hb p)
theorem PcsInC.left {w : World} {a b : List PcC} (h : PcsInC w (a ++ b)) : PcsInC w a := fun p hp => h p (List.mem_append_left _ hp)
theorem PcsInC.rev {w : World} {a : List PcC} (h : PcsInC w a) : PcsInC w a.reverse := fun p hp => h p (List.mem_reverse.1 hp)
theorem PcsInC.text {w : World} (s : ByteArray) : PcsInC w [PcC.of s] := fun p hp q hq => by simp only [List.mem_singleton] at hp; subst hp; cases hq
theorem PcsInC.one {w : World} {t : C} {v : Value} {b o : Nat} (h : t.In w v) (hd : HeadC w b o t v) (hw : t.weight ≤ 1048576) : PcsInC w [PcC.tree t v b o] := fun p hp q hq => by
  simp only [List.mem_singleton] at hp; subst hp
  have : (t, v, b, o) = q := Option.some.inj hq
  subst this
  exact ⟨h, hd, hw⟩

/-- The pieces of the first k kids. -/
def kidPcsC (kid : Nat → C) (V : Nat → Value) (b o : Nat) : Nat → List PcC
  | 0 => []
  | k + 1 => kidPcsC kid V b o k ++ [PcC.of ⟨#[32]⟩, PcC.tree (kid k) (V k) b (o + k * 5)]
theorem kidPcsC_told (kid : Nat → C) (V : Nat → Value) (b o : Nat) : ∀ k, toldAllC (kidPcsC kid V b o k) = kidsTo (fun i => (kid i).text) k
  | 0 => rfl
  | k + 1 => by
    unfold kidPcsC kidsTo
    rw [toldAllC_append, kidPcsC_told kid V b o k]
    simp [toldAllC, PcC.told, PcC.tree, PcC.of]
theorem kidPcsC_goes (kid : Nat → C) (V : Nat → Value) (b o : Nat) : ∀ k, goesPC (kidPcsC kid V b o k) ≤ sumTo (fun i => 2 + (kid i).steps) k
  | 0 => Nat.le_refl _
  | k + 1 => by
    have ih := kidPcsC_goes kid V b o k
    unfold kidPcsC
    rw [goesPC_append]
    simp only [sumTo]
    simp [goesPC, PcC.goes, PcC.tree, PcC.of] at ih ⊢; omega
theorem kidPcsC_len (kid : Nat → C) (V : Nat → Value) (b o : Nat) : ∀ k, (kidPcsC kid V b o k).length = 2 * k
  | 0 => rfl
  | k + 1 => by unfold kidPcsC; rw [List.length_append, kidPcsC_len kid V b o k]; simp; omega
theorem PcsInC.two {w : World} {a b : PcC} (ha : PcsInC w [a]) (hb : PcsInC w [b]) : PcsInC w [a, b] := PcsInC.append ha hb
theorem kidPcsC_in {w : World} {kid : Nat → C} {V : Nat → Value} {b o : Nat} : ∀ k, (∀ i, i < k → HeadC w b (o + i * 5) (kid i) (V i) ∧ (kid i).In w (V i) ∧ (kid i).weight ≤ 1048576) → PcsInC w (kidPcsC kid V b o k)
  | 0, _ => fun p hp => by simp [kidPcsC] at hp
  | k + 1, h => by
    have h1 := h k (by omega)
    exact (kidPcsC_in k (fun i hi => h i (by omega))).append (PcsInC.two (PcsInC.text _) (PcsInC.one h1.2.1 h1.1 h1.2.2))

/-- The pieces of a name. -/
def namePcs (s : ByteArray) : List PcC := if s.size = 0 then [] else [PcC.of ⟨#[32]⟩, PcC.of s]
theorem namePcs_told (s : ByteArray) : toldAllC (namePcs s) = nameC s := by
  unfold namePcs nameC
  split <;> simp [toldAllC, PcC.told, PcC.of]
theorem namePcs_goes (s : ByteArray) : goesPC (namePcs s) ≤ 2 := by
  unfold namePcs
  split <;> simp [goesPC, PcC.goes, PcC.of]
theorem namePcs_len (s : ByteArray) : (namePcs s).length ≤ 2 := by
  unfold namePcs
  split <;> simp
theorem namePcs_in {w : World} (s : ByteArray) : PcsInC w (namePcs s) := by
  unfold namePcs
  split
  · exact fun p hp => by simp at hp
  · exact PcsInC.two (PcsInC.text _) (PcsInC.text _)

/-- The pieces of what stands in brackets: ahead of the kids; all. -/
def headPcs (op : Int) (s t2 : ByteArray) : List PcC := [PcC.of ⟨#[40]⟩, PcC.of (wordC op)] ++ (namePcs s ++ namePcs t2)
def brPcs (op : Int) (s t2 : ByteArray) (kid : Nat → C) (V : Nat → Value) (b o len : Nat) : List PcC := (headPcs op s t2 ++ kidPcsC kid V b o len) ++ [PcC.of ⟨#[41]⟩]
theorem brPcs_told (op : Int) (s t2 : ByteArray) (kid : Nat → C) (V : Nat → Value) (b o len : Nat) : toldAllC (brPcs op s t2 kid V b o len) = 40 :: ((wordC op).data.toList ++ (nameC s ++ (nameC t2 ++ (kidsTo (fun i => (kid i).text) len ++ [41])))) := by
  unfold brPcs headPcs
  rw [toldAllC_append, toldAllC_append, toldAllC_append, toldAllC_append, kidPcsC_told, namePcs_told, namePcs_told]
  simp [toldAllC, PcC.told, PcC.of]
theorem brPcs_goes (op : Int) (s t2 : ByteArray) (kid : Nat → C) (V : Nat → Value) (b o len : Nat) : goesPC (brPcs op s t2 kid V b o len) ≤ 7 + sumTo (fun i => 2 + (kid i).steps) len := by
  have h1 := kidPcsC_goes kid V b o len
  have h2 := namePcs_goes s
  have h3 := namePcs_goes t2
  unfold brPcs headPcs
  rw [goesPC_append, goesPC_append, goesPC_append, goesPC_append]
  have h4 : goesPC [PcC.of ⟨#[40]⟩, PcC.of (wordC op)] = 2 := by simp [goesPC, PcC.goes, PcC.of]
  have h5 : goesPC [PcC.of ⟨#[41]⟩] = 1 := by simp [goesPC, PcC.goes, PcC.of]
  omega
theorem brPcs_in {w : World} {op : Int} {s t2 : ByteArray} {kid : Nat → C} {V : Nat → Value} {b o len : Nat} (h : ∀ i, i < len → HeadC w b (o + i * 5) (kid i) (V i) ∧ (kid i).In w (V i) ∧ (kid i).weight ≤ 1048576) : PcsInC w (brPcs op s t2 kid V b o len) :=
  PcsInC.append (PcsInC.append ((PcsInC.two (PcsInC.text _) (PcsInC.text _)).append ((namePcs_in s).append (namePcs_in t2))) (kidPcsC_in len h)) (PcsInC.text _)

/-- What a datum's pieces are. -/
structure PcsOfC (w : World) (t : C) (ps : List PcC) : Prop where
  told : toldAllC ps = t.text
  goes : goesPC ps ≤ t.steps
  ins : PcsInC w ps
theorem PcsOfC.one {w : World} {t : C} {s : ByteArray} (h : s.data.toList = t.text) : PcsOfC w t [PcC.of s] :=
  ⟨by simp [toldAllC, PcC.told, PcC.of, h], by simp [goesPC, PcC.goes, PcC.of]; cases t <;> unfold C.steps <;> omega, PcsInC.text s⟩
end Go.Proofs.YtoljphjmekkneaaDoor
