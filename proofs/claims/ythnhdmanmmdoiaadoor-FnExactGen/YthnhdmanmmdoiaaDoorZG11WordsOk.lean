/- Plain facts on data that are the same but for their places; also by a list of pairs that are left. No conditions. -/
import Derived.Test.YthnhdmanmmdoiaaDoorZG0Dat
import Derived.Test.YthnhdmanmmdoiaaDoorRows
import Derived.WalkKit
import Derived.ProofKit
import Derived.Below
namespace Go.Proofs.YthnhdmanmmdoiaaDoor
open Go.ChangeShapes Go.WideShapes Go.ChangeAt Go.RowKit

/-- All of the first k. -/
def allTo (p : Nat → Bool) : Nat → Bool
  | 0 => true
  | k + 1 => allTo p k && p k

theorem allTo_true {p : Nat → Bool} {k : Nat} : allTo p k = true ↔ ∀ i, i < k → p i = true := by
  induction k with
  | zero => simp [allTo]
  | succ k ih =>
    simp only [allTo, Bool.and_eq_true, ih]
    constructor
    · rintro ⟨h1, h2⟩ i hi
      rcases Nat.lt_or_ge i k with h | h
      · exact h1 i h
      · obtain rfl : i = k := by omega
        exact h2
    · intro h
      exact ⟨fun i hi => h i (by omega), h k (by omega)⟩

theorem allTo_false {p : Nat → Bool} {n k : Nat} (hk : k < n) (h : p k = false) : allTo p n = false := by
  cases e : allTo p n with
  | false => rfl
  | true => rw [allTo_true] at e; rw [e k hk] at h; cases h

/-- The same op, number, text and number of kids. -/
def headB (a b : D) : Bool := (a.op == b.op) && ((a.n == b.n) && ((a.s.toList == b.s.toList) && (a.len == b.len)))

/-- The same but for places. -/
def sameD : D → D → Bool
  | .no, b => headB .no b
  | .mk op a n s len kid, b => headB (.mk op a n s len kid) b && allTo (fun i => sameD (kid i) (b.kid i)) len

theorem sameD_eq (a b : D) : sameD a b = (headB a b && allTo (fun i => sameD (a.kid i) (b.kid i)) a.len) := by
  cases a with
  | no => simp [sameD, D.len, allTo]
  | mk op a n s len kid => rfl

/-- Pairs that are left. -/
abbrev Pr := D × D × Value × Value

def Pr.cells (q : Pr) : List Value := [.int .i64 q.1.op, .int .i64 q.1.at_, .int .i64 q.1.n, .string q.1.s, q.2.2.1, .int .i64 q.2.1.op, .int .i64 q.2.1.at_, .int .i64 q.2.1.n, .string q.2.1.s, q.2.2.2]
def prows (st : List Pr) : List Value := st.flatMap Pr.cells
theorem prows_append (a b : List Pr) : prows (a ++ b) = prows a ++ prows b := by simp [prows]
theorem prows_length (st : List Pr) : (prows st).length = st.length * 10 := by
  induction st with
  | nil => rfl
  | cons t r ih => simp only [prows, List.flatMap_cons, List.length_append, List.length_cons] at ih ⊢; rw [ih]; simp [Pr.cells]; omega

def allSame (st : List Pr) : Bool := st.all fun q => sameD q.1 q.2.1
def total (st : List Pr) : Nat := (st.map fun q => q.1.count).sum

theorem total_append (a b : List Pr) : total (a ++ b) = total a + total b := by simp [total]
theorem total_len (st : List Pr) : st.length ≤ total st := by
  induction st with
  | nil => simp
  | cons q r ih =>
    simp only [total, List.map_cons, List.sum_cons, List.length_cons] at ih ⊢
    have : 1 ≤ q.1.count := by rw [D.count_eq]; omega
    omega

/-- The first k pairs of kids. -/
def pushed (x y : D) (U V : Nat → Value) (k : Nat) : List Pr := (List.range k).map fun i => (x.kid i, y.kid i, U i, V i)
theorem pushed_succ (x y : D) (U V : Nat → Value) (k : Nat) : pushed x y U V (k + 1) = pushed x y U V k ++ [(x.kid k, y.kid k, U k, V k)] := by simp [pushed, List.range_succ]
theorem pushed_len (x y : D) (U V : Nat → Value) (k : Nat) : (pushed x y U V k).length = k := by simp [pushed]
theorem pushed_total (x y : D) (U V : Nat → Value) (k : Nat) : total (pushed x y U V k) = sumTo (fun i => (x.kid i).count) k := by
  induction k with
  | zero => rfl
  | succ k ih => rw [pushed_succ, total_append, ih]; simp [total, sumTo]
theorem pushed_same (x y : D) (U V : Nat → Value) (k : Nat) : allSame (pushed x y U V k) = allTo (fun i => sameD (x.kid i) (y.kid i)) k := by
  induction k with
  | zero => rfl
  | succ k ih => rw [pushed_succ]; simp only [allSame, List.all_append] at ih ⊢; rw [ih]; simp [allTo]

theorem pop_same (r : List Pr) (x y : D) (u v : Value) (U V : Nat → Value) (h : headB x y = true) : allSame (r ++ [(x, y, u, v)]) = allSame (r ++ pushed x y U V x.len) := by
  have h1 := pushed_same x y U V x.len
  simp only [allSame, List.all_append] at h1 ⊢
  rw [h1, ← Bool.true_and (allTo _ _), ← h, ← sameD_eq]
  simp
theorem pop_no (r : List Pr) (x y : D) (u v : Value) (h : headB x y = false) : allSame (r ++ [(x, y, u, v)]) = false := by
  simp only [allSame, List.all_append]
  simp [sameD_eq x y, h]
theorem pop_total (r : List Pr) (x y : D) (u v : Value) (U V : Nat → Value) : total (r ++ pushed x y U V x.len) + 1 = total (r ++ [(x, y, u, v)]) := by
  rw [total_append, total_append, pushed_total]
  simp only [total, List.map_cons, List.map_nil, List.sum_cons, List.sum_nil]
  rw [D.count_eq x]; omega

/-- The pairs lie in w. -/
def PrsIn (w : World) (st : List Pr) : Prop := ∀ q ∈ st, q.1.In w q.2.2.1 ∧ q.2.1.In w q.2.2.2
theorem PrsIn.below {w w' : World} {st : List Pr} (h : PrsIn w st) (hb : Below w.heap.size w w') : PrsIn w' st := fun q hq => ⟨(h q hq).1.below hb, (h q hq).2.below hb⟩
end Go.Proofs.YthnhdmanmmdoiaaDoor

/- WordOk of both packages at every int: the same answers, the world as it was. No conditions. -/
namespace Go.Proofs.YthnhdmanmmdoiaaDoor
open Go.ChangeShapes Go.WideShapes Go.ChangeAt Go.RowKit

def wokB (n : Int) : Bool := decide (-1073741824 ≤ n ∧ n ≤ 1073741823)

theorem wokB_yes {n : Int} (h0 : -1073741824 ≤ n) (h1 : n ≤ 1073741823) : wokB n = true := by simp [wokB, h0, h1]
theorem wokB_lo {n : Int} (h : ¬ -1073741824 ≤ n) : wokB n = false := by unfold wokB; rw [decide_eq_false_iff_not]; omega
theorem wokB_hi {n : Int} (h : ¬ n ≤ 1073741823) : wokB n = false := by unfold wokB; rw [decide_eq_false_iff_not]; omega
theorem ret_int {k : IntKind} {a b : Int} (h : a = b) : Ending.returned (.int k a) = .returned (.int k b) := by rw [h]
theorem ret_bool {a b : Bool} (h : a = b) : Ending.returned (.bool a) = .returned (.bool b) := by rw [h]

theorem spec_wordOk (n : Int) (w : World) : Calls Tryd.prog 44 #[.int .i64 n] w fun e w' => e = .returned (.bool (wokB n)) ∧ w' = w := by
  by_cases c1 : -1073741824 ≤ n
  · by_cases c2 : n ≤ 1073741823
    · have H : Hid (wokB n = true) := wokB_yes c1 c2
      go_enter Tryd.func44, Tryd.ntmps44
      go_wp2
      go_ret
      exact ⟨ret_bool (by rw [H.out]), rfl⟩
    · have H : Hid (wokB n = false) := wokB_hi c2
      go_enter Tryd.func44, Tryd.ntmps44
      go_wp2
      go_ret
      exact ⟨ret_bool (by rw [H.out]), rfl⟩
  · have H : Hid (wokB n = false) := wokB_lo c1
    go_enter Tryd.func44, Tryd.ntmps44
    go_wp2
    go_ret
    exact ⟨ret_bool (by rw [H.out]), rfl⟩

theorem impl_wordOk (n : Int) (w : World) : Calls Tryd.prog 56 #[.int .i64 n] w fun e w' => e = .returned (.bool (wokB n)) ∧ w' = w := by
  by_cases c1 : -1073741824 ≤ n
  · by_cases c2 : n ≤ 1073741823
    · have H : Hid (wokB n = true) := wokB_yes c1 c2
      go_enter Tryd.func56, Tryd.ntmps56
      go_wp2
      go_ret
      exact ⟨ret_bool (by rw [H.out]), rfl⟩
    · have H : Hid (wokB n = false) := wokB_hi c2
      go_enter Tryd.func56, Tryd.ntmps56
      go_wp2
      go_ret
      exact ⟨ret_bool (by rw [H.out]), rfl⟩
  · have H : Hid (wokB n = false) := wokB_lo c1
    go_enter Tryd.func56, Tryd.ntmps56
    go_wp2
    go_ret
    exact ⟨ret_bool (by rw [H.out]), rfl⟩

end Go.Proofs.YthnhdmanmmdoiaaDoor
