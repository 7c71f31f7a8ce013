/- Plain facts on data that are the same but for their places; also by a list of pairs that are left. No conditions. -/
import Derived.Test.YtgbfflpdpfgnbaaGreatZG7Cur
import Derived.Test.YtgbfflpdpfgnbaaGreatZG12TokGood
namespace Go.Proofs.YtgbfflpdpfgnbaaGreat
open Go.ChangeShapes Go.WideShapes Go.ChangeAt Go.RowKit

/-- All of the first k. -/
def allTo (p : Nat → Bool) : Nat → Bool
  | 0 => true
  | k + 1 => allTo p k && p k

theorem allTo_true {p : Nat → Bool} {k : Nat} : allTo p k = true ↔ ∀ i, i < k → p i = true := by
  induction k with
  | zero => simp [allTo]
  | succ k ih =>
    simp only [allTo, Bool.and_eq_true, ih]
    constructor
    · rintro ⟨h1, h2⟩ i hi
      rcases Nat.lt_or_ge i k with h | h
      · exact h1 i h
      · obtain rfl : i = k := by omega
        exact h2
    · intro h
      exact ⟨fun i hi => h i (by omega), h k (by omega)⟩

theorem allTo_false {p : Nat → Bool} {n k : Nat} (hk : k < n) (h : p k = false) : allTo p n = false := by
  cases e : allTo p n with
  | false => rfl
  | true => rw [allTo_true] at e; rw [e k hk] at h; cases h

/-- The same op, number, text and number of kids. -/
def headB (a b : D) : Bool := (a.op == b.op) && ((a.n == b.n) && ((a.s.toList == b.s.toList) && (a.len == b.len)))

/-- The same but for places. -/
def sameD : D → D → Bool
  | .no, b => headB .no b
  | .mk op a n s len kid, b => headB (.mk op a n s len kid) b && allTo (fun i => sameD (kid i) (b.kid i)) len

theorem sameD_eq (a b : D) : sameD a b = (headB a b && allTo (fun i => sameD (a.kid i) (b.kid i)) a.len) := by
  cases a with
  | no => simp [sameD, D.len, allTo]
  | mk op a n s len kid => rfl

/-- Pairs that are left. -/
abbrev Pr := D × D × Value × Value

def Pr.cells (q : Pr) : List Value := [.int .i64 q.1.op, .int .i64 q.1.at_, .int .i64 q.1.n, .string q.1.s, q.2.2.1, .int .i64 q.2.1.op, .int .i64 q.2.1.at_, .int .i64 q.2.1.n, .string q.2.1.s, q.2.2.2]
def prows (st : List Pr) : List Value := st.flatMap Pr.cells
theorem prows_append (a b : List Pr) : prows (a ++ b) = prows a ++ prows b := by simp [prows]
theorem prows_length (st : List Pr) : (prows st).length = st.length * 10 := by
  induction st with
  | nil => rfl
  | cons t r ih => simp only [prows, List.flatMap_cons, List.length_append, List.length_cons] at ih ⊢; rw [ih]; simp [Pr.cells]; omega

def allSame (st : List Pr) : Bool := st.all fun q => sameD q.1 q.2.1
def total (st : List Pr) : Nat := (st.map fun q => q.1.count).sum

theorem total_append (a b : List Pr) : total (a ++ b) = total a + total b := by simp [total]
theorem total_len (st : List Pr) : st.length ≤ total st := by
  induction st with
  | nil => simp
  | cons q r ih =>
    simp only [total, List.map_cons, List.sum_cons, List.length_cons] at ih ⊢
    have : 1 ≤ q.1.count := by rw [D.count_eq]; omega
    omega

/-- The first k pairs of kids. -/
def pushed (x y : D) (U V : Nat → Value) (k : Nat) : List Pr := (List.range k).map fun i => (x.kid i, y.kid i, U i, V i)
theorem pushed_succ (x y : D) (U V : Nat → Value) (k : Nat) : pushed x y U V (k + 1) = pushed x y U V k ++ [(x.kid k, y.kid k, U k, V k)] := by simp [pushed, List.range_succ]
theorem pushed_len (x y : D) (U V : Nat → Value) (k : Nat) : (pushed x y U V k).length = k := by simp [pushed]
theorem pushed_total (x y : D) (U V : Nat → Value) (k : Nat) : total (pushed x y U V k) = sumTo (fun i => (x.kid i).count) k := by
  induction k with
  | zero => rfl
  | succ k ih => rw [pushed_succ, total_append, ih]; simp [total, sumTo]
theorem pushed_same (x y : D) (U V : Nat → Value) (k : Nat) : allSame (pushed x y U V k) = allTo (fun i => sameD (x.kid i) (y.kid i)) k := by
  induction k with
  | zero => rfl
  | succ k ih => rw [pushed_succ]; simp only [allSame, List.all_append] at ih ⊢; rw [ih]; simp [allTo]

theorem pop_same (r : List Pr) (x y : D) (u v : Value) (U V : Nat → Value) (h : headB x y = true) : allSame (r ++ [(x, y, u, v)]) = allSame (r ++ pushed x y U V x.len) := by
  have h1 := pushed_same x y U V x.len
  simp only [allSame, List.all_append] at h1 ⊢
  rw [h1, ← Bool.true_and (allTo _ _), ← h, ← sameD_eq]
  simp
theorem pop_no (r : List Pr) (x y : D) (u v : Value) (h : headB x y = false) : allSame (r ++ [(x, y, u, v)]) = false := by
  simp only [allSame, List.all_append]
  simp [sameD_eq x y, h]
theorem pop_total (r : List Pr) (x y : D) (u v : Value) (U V : Nat → Value) : total (r ++ pushed x y U V x.len) + 1 = total (r ++ [(x, y, u, v)]) := by
  rw [total_append, total_append, pushed_total]
  simp only [total, List.map_cons, List.map_nil, List.sum_cons, List.sum_nil]
  rw [D.count_eq x]; omega

/-- The pairs lie in w. -/
def PrsIn (w : World) (st : List Pr) : Prop := ∀ q ∈ st, q.1.In w q.2.2.1 ∧ q.2.1.In w q.2.2.2
theorem PrsIn.below {w w' : World} {st : List Pr} (h : PrsIn w st) (hb : Below w.heap.size w w') : PrsIn w' st := fun q hq => ⟨(h q hq).1.below hb, (h q hq).2.below hb⟩
end Go.Proofs.YtgbfflpdpfgnbaaGreat

/- Plain facts on data that are right: of a list all of it, and by a count of what may still come. No conditions. -/
namespace Go.Proofs.YtgbfflpdpfgnbaaGreat
open Go.ChangeShapes Go.WideShapes Go.ChangeAt Go.RowKit

/-- What is told of a datum but for its kids, by its tests. -/
def fB (a op : Int) (wb sb e n0 l0 : Bool) : Bool :=
  decide (0 ≤ a) && (if op = 1 then wb && (e && l0) else if op = 2 then sb && (n0 && l0) else if op = 3 then n0 && e else false)

def fieldsB (t : D) : Bool := fB t.at_ t.op (decide (-1073741824 ≤ t.n ∧ t.n ≤ 1073741823)) (symB t.s.data.toList) (t.s.toList == []) (t.n == 0) ((t.len : Int) == 0)

def rightB : D → Bool
  | .no => fieldsB .no
  | .mk op a n s len kid => allTo (fun i => rightB (kid i)) len && fieldsB (.mk op a n s len kid)
theorem rightB_eq (t : D) : rightB t = (allTo (fun i => rightB (t.kid i)) t.len && fieldsB t) := by
  cases t with
  | no => simp [rightB, D.len, allTo]
  | mk op a n s len kid => rfl

def maxTo (f : Nat → Nat) : Nat → Nat
  | 0 => 0
  | k + 1 => max (maxTo f k) (f k)
theorem maxTo_le {f : Nat → Nat} {k m : Nat} : maxTo f k ≤ m ↔ ∀ i, i < k → f i ≤ m := by
  induction k with
  | zero => simp [maxTo]
  | succ k ih =>
    simp only [maxTo, Nat.max_le, ih]
    constructor
    · rintro ⟨h1, h2⟩ i hi
      rcases Nat.lt_or_ge i k with h | h
      · exact h1 i h
      · obtain rfl : i = k := by omega
        exact h2
    · intro h
      exact ⟨fun i hi => h i (by omega), h k (by omega)⟩

def D.deep : D → Nat
  | .no => 1
  | .mk _ _ _ _ len kid => maxTo (fun i => (kid i).deep) len + 1
theorem D.deep_eq (t : D) : t.deep = maxTo (fun i => (t.kid i).deep) t.len + 1 := by cases t <;> rfl
theorem D.deep_count (t : D) : t.deep ≤ t.count := by
  induction t with
  | no => simp [deep, count]
  | mk op a n s len kid ih =>
    unfold deep count
    have : maxTo (fun i => (kid i).deep) len ≤ sumTo (fun i => (kid i).count) len := by
      rw [maxTo_le]
      intro i hi
      have := sumTo_at (fun i => (kid i).count) i len hi
      have := ih i
      omega
    omega

/-- All of a list is right. -/
def datsB (len : Nat) (kid : Nat → D) : Bool :=
  allTo (fun i => decide ((kid i).deep ≤ 20) && rightB (kid i)) len && decide (sumTo (fun i => (kid i).count) len ≤ 1500)

/-- One after the other: what is left behind the first k. -/
def foldTo (g : D → Nat → Option Nat) (kid : Nat → D) (left : Nat) : Nat → Option Nat
  | 0 => some left
  | k + 1 => (foldTo g kid left k).bind (g (kid k))

theorem fold_none {g : D → Nat → Option Nat} {kid : Nat → D} {left k n : Nat} (h : foldTo g kid left k = none) (hk : k ≤ n) : foldTo g kid left n = none := by
  induction n with
  | zero => obtain rfl : k = 0 := by omega
            exact h
  | succ n ih =>
    rcases Nat.lt_or_ge n k with h1 | h1
    · obtain rfl : k = n + 1 := by omega
      exact h
    · simp [foldTo, ih h1]

/-- How many may come behind a list, if it is right and no deeper than nest. -/
def look : Nat → Nat → Nat → (Nat → D) → Option Nat
  | 0, left, len, _ => if len = 0 then some left else none
  | nest + 1, left, len, kid => if left < len then none else foldTo (fun d l => if fieldsB d = true then look nest l d.len d.kid else none) kid (left - len) len

theorem look_eq (nest : Nat) : ∀ left len kid, look nest left len kid = if (∀ i, i < len → rightB (kid i) = true ∧ (kid i).deep ≤ nest) ∧ sumTo (fun i => (kid i).count) len ≤ left then some (left - sumTo (fun i => (kid i).count) len) else none := by
  induction nest with
  | zero =>
    intro left len kid
    unfold look
    by_cases h : len = 0
    · subst h; simp [sumTo]
    · rw [if_neg h, if_neg]
      rintro ⟨h1, _⟩
      have := (h1 0 (by omega)).2
      rw [D.deep_eq] at this
      omega
  | succ nest ih =>
    intro left len kid
    have hone : ∀ d l, (if fieldsB d = true then look nest l d.len d.kid else none) = if (rightB d = true ∧ d.deep ≤ nest + 1) ∧ d.count - 1 ≤ l then some (l - (d.count - 1)) else none := by
      intro d l
      rw [ih, D.count_eq d, D.deep_eq d, rightB_eq d]
      have e : 1 + sumTo (fun i => (d.kid i).count) d.len - 1 = sumTo (fun i => (d.kid i).count) d.len := by omega
      rw [e]
      have hd : maxTo (fun i => (d.kid i).deep) d.len + 1 ≤ nest + 1 ↔ ∀ i, i < d.len → (d.kid i).deep ≤ nest := by
        rw [← maxTo_le (f := fun i => (d.kid i).deep)]; omega
      by_cases hf : fieldsB d = true
      · rw [if_pos hf]
        by_cases hc : (∀ i, i < d.len → rightB (d.kid i) = true ∧ (d.kid i).deep ≤ nest) ∧ sumTo (fun i => (d.kid i).count) d.len ≤ l
        · rw [if_pos hc, if_pos]
          refine ⟨⟨?_, hd.2 fun i hi => (hc.1 i hi).2⟩, hc.2⟩
          rw [Bool.and_eq_true, allTo_true]
          exact ⟨fun i hi => (hc.1 i hi).1, hf⟩
        · rw [if_neg hc, if_neg]
          rintro ⟨⟨h1, h3⟩, h2⟩
          rw [Bool.and_eq_true, allTo_true] at h1
          exact hc ⟨fun i hi => ⟨h1.1 i hi, hd.1 h3 i hi⟩, h2⟩
      · rw [if_neg hf, if_neg]
        rintro ⟨⟨h1, _⟩, _⟩
        rw [Bool.and_eq_true] at h1
        exact hf h1.2
    have hpos : ∀ d : D, 1 ≤ d.count := fun d => by rw [D.count_eq]; omega
    have hfold : ∀ l k, foldTo (fun d l => if fieldsB d = true then look nest l d.len d.kid else none) kid l k = if (∀ i, i < k → rightB (kid i) = true ∧ (kid i).deep ≤ nest + 1) ∧ sumTo (fun i => (kid i).count) k ≤ l + k then some (l + k - sumTo (fun i => (kid i).count) k) else none := by
      intro l k
      induction k with
      | zero => simp [foldTo, sumTo]
      | succ k ihk =>
        unfold foldTo
        rw [ihk]
        have hp := hpos (kid k)
        by_cases h1 : (∀ i, i < k → rightB (kid i) = true ∧ (kid i).deep ≤ nest + 1) ∧ sumTo (fun i => (kid i).count) k ≤ l + k
        · rw [if_pos h1, Option.bind_some, hone]
          have h2 := h1.2
          by_cases h3 : (rightB (kid k) = true ∧ (kid k).deep ≤ nest + 1) ∧ (kid k).count - 1 ≤ l + k - sumTo (fun i => (kid i).count) k
          · rw [if_pos h3, if_pos]
            · simp only [sumTo]; congr 1; have := h3.2; omega
            · refine ⟨fun i hi => ?_, ?_⟩
              · rcases Nat.lt_or_ge i k with h | h
                · exact h1.1 i h
                · obtain rfl : i = k := by omega
                  exact h3.1
              · simp only [sumTo]; have := h3.2; omega
          · rw [if_neg h3, if_neg]
            rintro ⟨h4, h5⟩
            apply h3
            refine ⟨h4 k (by omega), ?_⟩
            simp only [sumTo] at h5; omega
        · rw [if_neg h1, if_neg]
          · rfl
          · rintro ⟨h4, h5⟩
            apply h1
            refine ⟨fun i hi => h4 i (by omega), ?_⟩
            simp only [sumTo] at h5; omega
    unfold look
    have hlen : len ≤ sumTo (fun i => (kid i).count) len := by
      clear hfold hone
      induction len with
      | zero => simp
      | succ k ihk => simp only [sumTo]; have := hpos (kid k); omega
    by_cases hl : left < len
    · rw [if_pos hl, if_neg]
      rintro ⟨_, h⟩; omega
    · rw [if_neg hl, hfold, show left - len + len = left from by omega]

theorem look_datsB (len : Nat) (kid : Nat → D) : datsB len kid = (look 20 1500 len kid).isSome := by
  rw [look_eq]
  unfold datsB
  by_cases h : (∀ i, i < len → rightB (kid i) = true ∧ (kid i).deep ≤ 20) ∧ sumTo (fun i => (kid i).count) len ≤ 1500
  · rw [if_pos h, Option.isSome_some, Bool.and_eq_true, allTo_true]
    exact ⟨fun i hi => by rw [Bool.and_eq_true]; exact ⟨decide_eq_true (h.1 i hi).2, (h.1 i hi).1⟩, decide_eq_true h.2⟩
  · rw [if_neg h, Option.isSome_none, Bool.eq_false_iff, Ne, Bool.and_eq_true, allTo_true]
    rintro ⟨h1, h2⟩
    apply h
    refine ⟨fun i hi => ?_, of_decide_eq_true h2⟩
    have := h1 i hi
    rw [Bool.and_eq_true] at this
    exact ⟨this.2, of_decide_eq_true this.1⟩
end Go.Proofs.YtgbfflpdpfgnbaaGreat

/- Plain facts on what is read: how much it is. No conditions. -/
namespace Go.Proofs.YtgbfflpdpfgnbaaGreat
open Go.ChangeShapes Go.WideShapes Go.ChangeAt Go.RowKit

def TokW (l : List Tok) : Prop := ∀ t ∈ l, t.kind = 4 → t.text.size ≤ 12
def wsum (ds : List D) : Nat := (ds.map fun d => d.weight + 1).sum
theorem wsum_snoc (ds : List D) (d : D) : wsum (ds ++ [d]) = wsum ds + (d.weight + 1) := by simp [wsum]
def Wt (o : List Tok → Rdr D) : Prop := ∀ l d r, TokW l → o l = .ok d r → d.weight + 1 + 13 * r.length ≤ 13 * l.length

theorem TokW.suffix {a r : List Tok} (h : TokW (a ++ r)) : TokW r := fun t ht => h t (List.mem_append_right _ ht)

theorem kidsL_w {E : Int} {o : List Tok → Rdr D} (ho : Wt o) (hl : Less o) : ∀ (m : Nat) (acc : List D) (l : List Tok) (ds : List D) (r : List Tok), TokW l → kidsL E o m acc l = .ok ds r → wsum ds + 13 * r.length + 13 ≤ wsum acc + 13 * l.length := by
  intro m
  induction m with
  | zero => intro acc l ds r _ h; simp [kidsL] at h
  | succ m ih =>
    intro acc l ds r hw h
    cases l with
    | nil => simp [kidsL] at h
    | cons t l =>
      unfold kidsL at h
      split at h
      · injection h with h1 h2
        subst h1 h2
        simp; omega
      · cases e : o (t :: l) with
        | bad p => rw [e] at h; simp at h
        | ok d r1 =>
          rw [e] at h
          have h1 := ho _ _ _ hw e
          obtain ⟨_, a, ha⟩ := hl _ _ _ e
          have h2 := ih _ _ _ _ (by rw [ha] at hw; exact hw.suffix) h
          rw [wsum_snoc] at h2
          omega

theorem wsum_eq (ds : List D) : ds.length + (ds.map D.weight).sum = wsum ds := by
  unfold wsum
  induction ds with
  | nil => rfl
  | cons d ds ih => simp only [List.map_cons, List.sum_cons, List.length_cons] at ih ⊢; omega

theorem dlist_weight (t : Tok) (ds : List D) : (dList t ds).weight = wsum ds := by
  have e : (dList t ds).weight = 0 + (ds.length + sumTo (fun i => (kidsOf ds i).weight) ds.length) := rfl
  rw [e, sumTo_all ds D.weight, Nat.zero_add, wsum_eq]

theorem one_w (E : Int) : ∀ f, Wt (one E f) := by
  intro f
  induction f with
  | zero => intro l d r _ h; simp [one] at h
  | succ f ih =>
    intro l d r hw h
    cases l with
    | nil => simp [one] at h
    | cons t l =>
      have ht := hw t (by simp)
      unfold one at h
      split at h
      · injection h with h1 h2; subst h1 h2
        have : (dNum t).weight = 0 := rfl
        simp; omega
      · split at h
        · rename_i hk
          injection h with h1 h2; subst h1 h2
          have e : (dSym t).weight = t.text.size + 0 := rfl
          have := ht hk
          simp; omega
        · split at h
          · simp at h
          · cases e : kidsL E (one E f) (l.length + 1) [] l with
            | bad p => rw [e] at h; simp at h
            | ok ds r1 =>
              rw [e] at h
              simp only at h
              injection h with h1 h2
              subst h1 h2
              have h3 := kidsL_w ih (one_less E f) _ _ _ _ _ (fun t' ht' => hw t' (by simp [ht'])) e
              rw [dlist_weight]
              simp [wsum] at h3 ⊢
              omega

theorem restL_w {o : List Tok → Rdr D} (ho : Wt o) (hl : Less o) : ∀ (m : Nat) (acc : List D) (l : List Tok) (ds : List D) (r : List Tok), TokW l → restL o m acc l = .ok ds r → wsum ds ≤ wsum acc + 13 * l.length := by
  intro m
  induction m with
  | zero => intro acc l ds r _ h; simp [restL] at h; rw [h.1]; omega
  | succ m ih =>
    intro acc l ds r hw h
    cases l with
    | nil => simp [restL] at h; rw [h.1]; omega
    | cons t l =>
      unfold restL at h
      cases e : o (t :: l) with
      | bad p => rw [e] at h; simp at h
      | ok d r1 =>
        rw [e] at h
        have h1 := ho _ _ _ hw e
        obtain ⟨_, a, ha⟩ := hl _ _ _ e
        have h2 := ih _ _ _ _ (by rw [ha] at hw; exact hw.suffix) h
        rw [wsum_snoc] at h2
        omega

theorem kids_weight (ds : List D) : kidsWeight ds.length (kidsOf ds) = wsum ds := by
  unfold kidsWeight
  rw [sumTo_all ds D.weight, wsum_eq]

theorem readL_w (E : Int) (ts : List Tok) (ds : List D) (r : List Tok) (hw : TokW ts) (hl : ts.length ≤ 4000) (h : readL E ts = .ok ds r) : kidsWeight ds.length (kidsOf ds) ≤ 52000 := by
  rw [kids_weight]
  have := restL_w (one_w E (ts.length + 1)) (one_less E (ts.length + 1)) _ _ _ _ _ hw h
  simp [wsum] at this ⊢
  omega

theorem toks_w (s : ByteArray) : TokW (toks s).1 := by
  intro t ht hk
  obtain ⟨i, hi, rfl⟩ := List.mem_iff_getElem.1 ht
  have := ((toks_good s).1 i _ (List.getElem?_eq_getElem hi)).2.sym hk
  unfold symB at this
  simp only [Bool.and_eq_true, decide_eq_true_eq] at this
  have h2 := this.1.1.2
  simpa using h2

/-- What ReadAll answers. -/
def readP (s : ByteArray) : Rdr (List D) :=
  if (toks s).2 = -1 then match readL s.size (toks s).1 with
    | .bad p => .bad p
    | .ok ds _ => if datsB ds.length (kidsOf ds) = true then .ok ds [] else .bad 0
  else .bad (toks s).2
end Go.Proofs.YtgbfflpdpfgnbaaGreat
