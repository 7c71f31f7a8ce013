/- Plain facts that laws.FnReads leans on: a datum is like itself; how long what is told is; where it does not fit is no place below 0. No conditions. -/
import Derived.Test.YtoljphjmekkneabGreatDoorZG37ToldToks
import Derived.Test.YtoljphjmekkneabGreatDoorZG36DatTell
import Derived.Test.YtoljphjmekkneabGreatDoorZG1DatOwn
namespace Go.Proofs.YtoljphjmekkneabGreatDoor

theorem sameD_self (t : D) : sameD t t = true := by
  induction t with
  | no => simp [sameD, headB]
  | mk op a n s len kid ih =>
    rw [sameD_eq, Bool.and_eq_true]
    exact ⟨by simp [headB], allTo_true.2 fun i _ => ih i⟩

theorem told_snoc (kid : Nat → D) : ∀ (m k : Nat), toldText kid k (m + 1) = toldText kid k m ++ ((kid (k + m)).text ++ [10]) := by
  intro m
  induction m with
  | zero => intro k; simp [toldText]
  | succ m ih =>
    intro k
    have e : toldText kid k (m + 1 + 1) = (kid k).text ++ 10 :: toldText kid (k + 1) (m + 1) := rfl
    rw [e, ih (k + 1)]
    have e2 : toldText kid k (m + 1) = (kid k).text ++ 10 :: toldText kid (k + 1) m := rfl
    rw [e2, show k + 1 + m = k + (m + 1) from by omega]
    simp

theorem told_len (kid : Nat → D) (w : World) (n : Nat) (h : ∀ i, i < n → ∃ v, (kid i).In w v) : ∀ m, m ≤ n → (toldText kid 0 m).length ≤ 22 * sumTo (fun i => (kid i).count) m + sumTo (fun i => (kid i).weight) m := by
  intro m
  induction m with
  | zero => intro _; simp [toldText]
  | succ m ih =>
    intro hm
    have h1 := ih (by omega)
    obtain ⟨v, hv⟩ := h m (by omega)
    have h2 := D.text_len w (kid m) v hv
    rw [told_snoc]
    simp only [Nat.zero_add, List.length_append, List.length_singleton, sumTo]
    omega

def BadUp (o : List Tok → Rdr D) : Prop := ∀ l p, o l = .bad p → 0 ≤ p
theorem kidsL_up {E : Int} (hE : 0 ≤ E) {o : List Tok → Rdr D} (ho : BadUp o) : ∀ (m : Nat) (acc : List D) (l : List Tok) (p : Int), kidsL E o m acc l = .bad p → 0 ≤ p := by
  intro m
  induction m with
  | zero => intro acc l p h; simp only [kidsL] at h; injection h with h; omega
  | succ m ih =>
    intro acc l p h
    cases l with
    | nil => simp only [kidsL] at h; injection h with h; omega
    | cons t r =>
      unfold kidsL at h
      split at h
      · cases h
      · cases hr : o (t :: r) with
        | bad q => rw [hr] at h; injection h with h; rw [← h]; exact ho _ _ hr
        | ok d r1 => rw [hr] at h; exact ih _ _ _ h
theorem one_up {E : Int} (hE : 0 ≤ E) : ∀ f, BadUp (one E f) := by
  intro f
  induction f with
  | zero => intro l p h; simp only [one] at h; injection h with h; omega
  | succ f ih =>
    intro l p h
    cases l with
    | nil => simp only [one] at h; injection h with h; omega
    | cons t r =>
      unfold one at h
      split at h
      · cases h
      · split at h
        · cases h
        · split at h
          · injection h with h; omega
          · cases hk : kidsL E (one E f) (r.length + 1) [] r with
            | bad q => rw [hk] at h; injection h with h; rw [← h]; exact kidsL_up hE ih _ _ _ _ hk
            | ok ds r1 => rw [hk] at h; cases h
theorem restL_up {o : List Tok → Rdr D} (ho : BadUp o) : ∀ (m : Nat) (acc : List D) (l : List Tok) (p : Int), restL o m acc l = .bad p → 0 ≤ p := by
  intro m
  induction m with
  | zero => intro acc l p h; simp only [restL] at h; cases h
  | succ m ih =>
    intro acc l p h
    cases l with
    | nil => simp only [restL] at h; cases h
    | cons t r =>
      unfold restL at h
      cases hr : o (t :: r) with
      | bad q => rw [hr] at h; injection h with h; rw [← h]; exact ho _ _ hr
      | ok d r1 => rw [hr] at h; exact ih _ _ _ h

theorem readP_up (s : ByteArray) (p : Int) (h : readP s = .bad p) : 0 ≤ p := by
  unfold readP at h
  split at h
  · cases hr : readL s.size (toks s).1 with
    | bad q =>
      rw [hr] at h
      injection h with h
      rw [← h]
      exact restL_up (one_up (by omega) _) _ _ _ _ hr
    | ok ds r =>
      rw [hr] at h
      simp only at h
      split at h
      · cases h
      · injection h with h; omega
  · rename_i hne
    injection h with h
    rcases (toks_good s).2.2 with h1 | h1
    · exact absurd h1 hne
    · omega

theorem readP_right (s : ByteArray) (ds : List D) (r : List Tok) (h : readP s = .ok ds r) : datsB ds.length (kidsOf ds) = true := by
  unfold readP at h
  split at h
  · cases hr : readL s.size (toks s).1 with
    | bad p => rw [hr] at h; cases h
    | ok ds' r' =>
      rw [hr] at h
      simp only at h
      split at h
      · rename_i hd
        injection h with h1 _
        subst h1
        exact hd
      · cases h
  · cases h

theorem right_count {n : Nat} {kid : Nat → D} (h : datsB n kid = true) : sumTo (fun i => (kid i).count) n ≤ 1500 := by
  unfold datsB at h
  rw [Bool.and_eq_true] at h
  simpa using h.2
end Go.Proofs.YtoljphjmekkneabGreatDoor

/- Pieces of text and data that are still to be told; plain facts. No conditions. -/
namespace Go.Proofs.YtoljphjmekkneabGreatDoor
open Go.ChangeShapes Go.WideShapes Go.ChangeAt Go.RowKit

/-- How many pieces come of a datum, at most. -/
def D.steps : D → Nat | .no => 1 | .mk _ _ _ _ len kid => 2 + sumTo (fun i => 2 + (kid i).steps) len
theorem D.steps_eq (t : D) (h : t ≠ .no) : t.steps = 2 + sumTo (fun i => 2 + (t.kid i).steps) t.len := by cases t <;> first | rfl | exact absurd rfl h
theorem D.steps_count (t : D) : t.steps + 2 ≤ 4 * t.count := by
  induction t with
  | no => simp [steps, count]
  | mk op a n s len kid ih =>
    unfold steps count
    have : ∀ k, sumTo (fun i => 2 + (kid i).steps) k ≤ 4 * sumTo (fun i => (kid i).count) k := by
      intro k
      induction k with
      | zero => simp [sumTo]
      | succ k ihk => simp only [sumTo]; have := ih k; omega
    have := this len
    omega

/-- A piece: a text, and a datum (with the slice of its kids) where it lies, or none. -/
structure Pc where
  tx : ByteArray
  tr : Option (D × Value × Nat × Nat)
def Pc.adr (p : Pc) : Option Addr := p.tr.map fun q => ⟨q.2.2.1, q.2.2.2, none⟩
def Pc.cells (p : Pc) : List Value := [.string p.tx, .pointer p.adr]
def pcrows (l : List Pc) : List Value := l.flatMap Pc.cells
theorem pcrows_append (a b : List Pc) : pcrows (a ++ b) = pcrows a ++ pcrows b := by simp [pcrows]
theorem pcrows_length (l : List Pc) : (pcrows l).length = l.length * 2 := by
  induction l with
  | nil => rfl
  | cons t r ih => simp only [pcrows, List.flatMap_cons, List.length_append, List.length_cons] at ih ⊢; rw [ih]; simp [Pc.cells]; omega

def Pc.of (s : ByteArray) : Pc := ⟨s, none⟩
def Pc.tree (t : D) (v : Value) (b o : Nat) : Pc := ⟨⟨#[]⟩, some (t, v, b, o)⟩
def Pc.told (p : Pc) : List UInt8 := p.tx.data.toList ++ (match p.tr with | none => [] | some q => q.1.text)
def Pc.goes (p : Pc) : Nat := 1 + (match p.tr with | none => 0 | some q => q.1.steps)
def toldAll (l : List Pc) : List UInt8 := (l.map Pc.told).flatten
def goesP (l : List Pc) : Nat := (l.map Pc.goes).sum
theorem toldAll_append (a b : List Pc) : toldAll (a ++ b) = toldAll a ++ toldAll b := by simp [toldAll]
theorem goesP_append (a b : List Pc) : goesP (a ++ b) = goesP a + goesP b := by simp [goesP]
theorem goesP_reverse (a : List Pc) : goesP a.reverse = goesP a := by
  induction a with
  | nil => rfl
  | cons x r ih => rw [List.reverse_cons, goesP_append, ih]; simp [goesP]; omega
theorem goesP_len (l : List Pc) : l.length ≤ goesP l := by
  induction l with
  | nil => simp
  | cons q r ih =>
    simp only [goesP, List.map_cons, List.sum_cons, List.length_cons] at ih ⊢
    have : 1 ≤ q.goes := by unfold Pc.goes; omega
    omega
/-- What is still told; the next one stands last. -/
def leftP (st : List Pc) : List UInt8 := toldAll st.reverse
theorem leftP_snoc (r : List Pc) (q : Pc) : leftP (r ++ [q]) = q.told ++ leftP r := by simp [leftP, toldAll]
theorem leftP_pushed (r ps : List Pc) : leftP (r ++ ps.reverse) = toldAll ps ++ leftP r := by simp [leftP, toldAll]

/-- The data of the pieces lie in w. -/
def PcsIn (w : World) (l : List Pc) : Prop := ∀ p ∈ l, ∀ q, p.tr = some q → q.1.In w q.2.1 ∧ Head w q.2.2.1 q.2.2.2 q.1 q.2.1 ∧ q.1.weight ≤ 1048576
theorem PcsIn.below {w w' : World} {l : List Pc} (h : PcsIn w l) (hb : Below w.heap.size w w') : PcsIn w' l := fun p hp q hq => ⟨(h p hp q hq).1.below hb, (h p hp q hq).2.1.below hb, (h p hp q hq).2.2⟩
theorem PcsIn.append {w : World} {a b : List Pc} (ha : PcsIn w a) (hb : PcsIn w b) : PcsIn w (a ++ b) := fun p hp => (List.mem_append.1 hp).elim (ha p) (hb p)
theorem PcsIn.left {w : World} {a b : List Pc} (h : PcsIn w (a ++ b)) : PcsIn w a := fun p hp => h p (List.mem_append_left _ hp)
theorem PcsIn.rev {w : World} {a : List Pc} (h : PcsIn w a) : PcsIn w a.reverse := fun p hp => h p (List.mem_reverse.1 hp)
theorem PcsIn.text {w : World} (s : ByteArray) : PcsIn w [Pc.of s] := fun p hp q hq => by simp only [List.mem_singleton] at hp; subst hp; cases hq
theorem PcsIn.one {w : World} {t : D} {v : Value} {b o : Nat} (h : t.In w v) (hd : Head w b o t v) (hw : t.weight ≤ 1048576) : PcsIn w [Pc.tree t v b o] := fun p hp q hq => by
  simp only [List.mem_singleton] at hp; subst hp
  have : (t, v, b, o) = q := Option.some.inj hq
  subst this
  exact ⟨h, hd, hw⟩

/-- The pieces of the first k kids. -/
def kidPcs (kid : Nat → D) (V : Nat → Value) (b o : Nat) : Nat → List Pc
  | 0 => []
  | k + 1 => kidPcs kid V b o k ++ ((if k = 0 then [] else [Pc.of ⟨#[32]⟩]) ++ [Pc.tree (kid k) (V k) b (o + k * 5)])
theorem kidPcs_told (kid : Nat → D) (V : Nat → Value) (b o : Nat) : ∀ k, toldAll (kidPcs kid V b o k) = joinTo (fun i => (kid i).text) k
  | 0 => rfl
  | k + 1 => by
    unfold kidPcs joinTo sep
    rw [toldAll_append, kidPcs_told kid V b o k, toldAll_append]
    by_cases h : k = 0
    · simp [h, toldAll, Pc.told, Pc.tree]
    · simp [h, toldAll, Pc.told, Pc.tree, Pc.of]
theorem kidPcs_goes (kid : Nat → D) (V : Nat → Value) (b o : Nat) : ∀ k, goesP (kidPcs kid V b o k) ≤ sumTo (fun i => 2 + (kid i).steps) k
  | 0 => Nat.le_refl _
  | k + 1 => by
    have ih := kidPcs_goes kid V b o k
    unfold kidPcs
    rw [goesP_append, goesP_append]
    simp only [sumTo]
    by_cases h : k = 0
    · simp [h, goesP, Pc.goes, Pc.tree] at ih ⊢; omega
    · simp [h, goesP, Pc.goes, Pc.tree, Pc.of] at ih ⊢; omega
theorem kidPcs_in {w : World} {kid : Nat → D} {V : Nat → Value} {b o : Nat} : ∀ k, (∀ i, i < k → Head w b (o + i * 5) (kid i) (V i) ∧ (kid i).In w (V i) ∧ (kid i).weight ≤ 1048576) → PcsIn w (kidPcs kid V b o k)
  | 0, _ => fun p hp => by simp [kidPcs] at hp
  | k + 1, h => by
    have h1 := h k (by omega)
    refine (kidPcs_in k (fun i hi => h i (by omega))).append (PcsIn.append ?_ (PcsIn.one h1.2.1 h1.1 h1.2.2))
    by_cases hk : k = 0
    · rw [if_pos hk]; exact fun p hp => by simp at hp
    · rw [if_neg hk]; exact PcsIn.text _

/-- The pieces of a list. -/
def listPcs (kid : Nat → D) (V : Nat → Value) (b o len : Nat) : List Pc := ([Pc.of ⟨#[40]⟩] ++ kidPcs kid V b o len) ++ [Pc.of ⟨#[41]⟩]
theorem listPcs_told (kid : Nat → D) (V : Nat → Value) (b o len : Nat) : toldAll (listPcs kid V b o len) = 40 :: (joinTo (fun i => (kid i).text) len ++ [41]) := by
  unfold listPcs
  rw [toldAll_append, toldAll_append, kidPcs_told]
  simp [toldAll, Pc.told, Pc.of]
theorem listPcs_goes (kid : Nat → D) (V : Nat → Value) (b o len : Nat) : goesP (listPcs kid V b o len) ≤ 2 + sumTo (fun i => 2 + (kid i).steps) len := by
  have := kidPcs_goes kid V b o len
  unfold listPcs
  rw [goesP_append, goesP_append]
  simp [goesP, Pc.goes, Pc.of] at this ⊢
  omega
theorem listPcs_in {w : World} {kid : Nat → D} {V : Nat → Value} {b o len : Nat} (h : ∀ i, i < len → Head w b (o + i * 5) (kid i) (V i) ∧ (kid i).In w (V i) ∧ (kid i).weight ≤ 1048576) : PcsIn w (listPcs kid V b o len) :=
  PcsIn.append ((PcsIn.text _).append (kidPcs_in len h)) (PcsIn.text _)

/-- What a datum's pieces are. -/
structure PcsOf (w : World) (t : D) (ps : List Pc) : Prop where
  told : toldAll ps = t.text
  goes : goesP ps ≤ t.steps
  ins : PcsIn w ps
theorem PcsOf.one {w : World} {t : D} {s : ByteArray} (h : s.data.toList = t.text) : PcsOf w t [Pc.of s] :=
  ⟨by simp [toldAll, Pc.told, Pc.of, h], by simp [goesP, Pc.goes, Pc.of]; cases t <;> unfold D.steps <;> omega, PcsIn.text s⟩
end Go.Proofs.YtoljphjmekkneabGreatDoor
