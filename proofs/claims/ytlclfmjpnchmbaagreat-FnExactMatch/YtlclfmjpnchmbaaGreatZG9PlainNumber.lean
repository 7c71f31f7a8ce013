/- What is written of a datum, and the datum of what is written. No conditions. -/
import Derived.Test.YtlclfmjpnchmbaaGreatZG2StxP
import Derived.Test.YtlclfmjpnchmbaaGreatZG8Dat
import Derived.Test.YtlclfmjpnchmbaaGreatZG4OneByte
import Derived.Lib.AtoiAll
namespace Go.Proofs.YtlclfmjpnchmbaaGreat
open Go.ChangeShapes Go.WideShapes Go.ChangeAt Go.RowKit

/-- What is written of a datum: each symbol has the set. -/
def stxD (set : List Int) : D → X
  | .no => .no
  | .mk op a n s len kid => .mk op a n s (if op = 2 then set else []) len (fun i => stxD set (kid i))
/-- The datum of what is written. -/
def datX : X → D
  | .no => .no
  | .mk op a n s _ len kid => .mk op a n s len (fun i => datX (kid i))
theorem datX_stxD (set : List Int) (d : D) : datX (stxD set d) = d := by
  induction d with
  | no => rfl
  | mk op a n s len kid ih =>
    show D.mk op a n s len (fun i => datX (stxD set (kid i))) = _
    congr 1
    funext i
    exact ih i
theorem datX_turn (f : List Int → List Int) (t : X) : datX (t.turn f) = datX t := by
  induction t with
  | no => rfl
  | mk op a n s set len kid ih =>
    show D.mk op a n s len (fun i => datX ((kid i).turn f)) = D.mk op a n s len (fun i => datX (kid i))
    congr 1
    funext i
    exact ih i
theorem datX_flip (t : X) (n : Int) : datX (t.flip n) = datX t := datX_turn _ t
theorem sumX_eq (f : Nat → Nat) (k : Nat) : sumX f k = sumTo f k := by
  induction k with
  | zero => rfl
  | succ k ih => simp only [sumX, sumTo, ih]
theorem sumTo_le2 {f g : Nat → Nat} (h : ∀ i, f i ≤ g i) (k : Nat) : sumTo f k ≤ sumTo g k := by
  rw [← sumX_eq, ← sumX_eq]; exact sumX_le2 h k
theorem datX_weight (t : X) : (datX t).weight ≤ t.weight := by
  induction t with
  | no => exact Nat.le_refl _
  | mk op a n s set len kid ih =>
    have e1 : (datX (.mk op a n s set len kid)).weight = s.size + (len + sumTo (fun i => (datX (kid i)).weight) len) := rfl
    have e2 : (X.mk op a n s set len kid).weight = s.size + (set.length + (len + sumX (fun i => (kid i).weight) len)) := rfl
    have h := sumTo_le2 ih len
    rw [← sumX_eq (fun i => (kid i).weight)] at h
    omega
theorem datX_count (t : X) : (datX t).count = t.count := by
  induction t with
  | no => rfl
  | mk op a n s set len kid ih =>
    have e1 : (datX (.mk op a n s set len kid)).count = 1 + sumTo (fun i => (datX (kid i)).count) len := rfl
    have e2 : (X.mk op a n s set len kid).count = 1 + sumX (fun i => (kid i).count) len := rfl
    rw [e1, e2, sumX_eq]
    simp only [ih]
theorem stxD_count (set : List Int) (d : D) : (stxD set d).count = d.count := by rw [← datX_count, datX_stxD]
theorem stxD_setsLe (set : List Int) (d : D) : (stxD set d).SetsLe set.length := by
  induction d with
  | no => trivial
  | mk op a n s len kid ih =>
    refine ⟨?_, fun i _ => ih i⟩
    by_cases h : op = 2
    · simp only [if_pos h]; exact Nat.le_refl _
    · simp only [if_neg h]; exact Nat.zero_le _
theorem stxD_nums (set : List Int) (d : D) : (stxD set d).nums ≤ d.count * set.length := by
  induction d with
  | no => simp [stxD, X.nums]
  | mk op a n s len kid ih =>
    have e1 : (stxD set (.mk op a n s len kid)).nums = (if op = 2 then set else []).length + sumX (fun i => (stxD set (kid i)).nums) len := rfl
    have e2 : (D.mk op a n s len kid).count = 1 + sumTo (fun i => (kid i).count) len := rfl
    have h := sumX_le2 ih len
    have h2 : sumX (fun i => (kid i).count * set.length) len = sumTo (fun i => (kid i).count) len * set.length := by
      have : (fun i => (kid i).count * set.length) = fun i => set.length * (kid i).count := by funext i; exact Nat.mul_comm _ _
      rw [this, sumX_mul, sumX_eq, Nat.mul_comm]
    rw [h2] at h
    have h3 : (if op = 2 then set else []).length ≤ set.length := by
      by_cases h : op = 2
      · simp only [if_pos h]; exact Nat.le_refl _
      · simp only [if_neg h]; exact Nat.zero_le _
    rw [e1, e2, Nat.add_mul, Nat.one_mul]
    omega
theorem stxD_setsB (set : List Int) (hs : setB set = true) (d : D) : (stxD set d).setsB = true := by
  induction d with
  | no => rfl
  | mk op a n s len kid ih =>
    show (allX (fun i => (stxD set (kid i)).setsB) len && ((decide (op = 2) && setB (if op = 2 then set else [])) || decide ((if op = 2 then set else []).length = 0))) = true
    rw [Bool.and_eq_true, allX_true]
    refine ⟨fun i _ => ih i, ?_⟩
    by_cases h : op = 2
    · simp [h, hs]
    · simp [h]
end Go.Proofs.YtlclfmjpnchmbaaGreat

/- Plain facts on data that are the same but for their places; also by a list of pairs that are left. No conditions. -/
namespace Go.Proofs.YtlclfmjpnchmbaaGreat
open Go.ChangeShapes Go.WideShapes Go.ChangeAt Go.RowKit

/-- All of the first k. -/
def allTo (p : Nat → Bool) : Nat → Bool
  | 0 => true
  | k + 1 => allTo p k && p k

theorem allTo_true {p : Nat → Bool} {k : Nat} : allTo p k = true ↔ ∀ i, i < k → p i = true := by
  induction k with
  | zero => simp [allTo]
  | succ k ih =>
    simp only [allTo, Bool.and_eq_true, ih]
    constructor
    · rintro ⟨h1, h2⟩ i hi
      rcases Nat.lt_or_ge i k with h | h
      · exact h1 i h
      · obtain rfl : i = k := by omega
        exact h2
    · intro h
      exact ⟨fun i hi => h i (by omega), h k (by omega)⟩

theorem allTo_false {p : Nat → Bool} {n k : Nat} (hk : k < n) (h : p k = false) : allTo p n = false := by
  cases e : allTo p n with
  | false => rfl
  | true => rw [allTo_true] at e; rw [e k hk] at h; cases h

/-- The same op, number, text and number of kids. -/
def headB (a b : D) : Bool := (a.op == b.op) && ((a.n == b.n) && ((a.s.toList == b.s.toList) && (a.len == b.len)))

/-- The same but for places. -/
def sameD : D → D → Bool
  | .no, b => headB .no b
  | .mk op a n s len kid, b => headB (.mk op a n s len kid) b && allTo (fun i => sameD (kid i) (b.kid i)) len

theorem sameD_eq (a b : D) : sameD a b = (headB a b && allTo (fun i => sameD (a.kid i) (b.kid i)) a.len) := by
  cases a with
  | no => simp [sameD, D.len, allTo]
  | mk op a n s len kid => rfl

/-- Pairs that are left. -/
abbrev Pr := D × D × Value × Value

def Pr.cells (q : Pr) : List Value := [.int .i64 q.1.op, .int .i64 q.1.at_, .int .i64 q.1.n, .string q.1.s, q.2.2.1, .int .i64 q.2.1.op, .int .i64 q.2.1.at_, .int .i64 q.2.1.n, .string q.2.1.s, q.2.2.2]
def prows (st : List Pr) : List Value := st.flatMap Pr.cells
theorem prows_append (a b : List Pr) : prows (a ++ b) = prows a ++ prows b := by simp [prows]
theorem prows_length (st : List Pr) : (prows st).length = st.length * 10 := by
  induction st with
  | nil => rfl
  | cons t r ih => simp only [prows, List.flatMap_cons, List.length_append, List.length_cons] at ih ⊢; rw [ih]; simp [Pr.cells]; omega

def allSame (st : List Pr) : Bool := st.all fun q => sameD q.1 q.2.1
def total (st : List Pr) : Nat := (st.map fun q => q.1.count).sum

theorem total_append (a b : List Pr) : total (a ++ b) = total a + total b := by simp [total]
theorem total_len (st : List Pr) : st.length ≤ total st := by
  induction st with
  | nil => simp
  | cons q r ih =>
    simp only [total, List.map_cons, List.sum_cons, List.length_cons] at ih ⊢
    have : 1 ≤ q.1.count := by rw [D.count_eq]; omega
    omega

/-- The first k pairs of kids. -/
def pushed (x y : D) (U V : Nat → Value) (k : Nat) : List Pr := (List.range k).map fun i => (x.kid i, y.kid i, U i, V i)
theorem pushed_succ (x y : D) (U V : Nat → Value) (k : Nat) : pushed x y U V (k + 1) = pushed x y U V k ++ [(x.kid k, y.kid k, U k, V k)] := by simp [pushed, List.range_succ]
theorem pushed_len (x y : D) (U V : Nat → Value) (k : Nat) : (pushed x y U V k).length = k := by simp [pushed]
theorem pushed_total (x y : D) (U V : Nat → Value) (k : Nat) : total (pushed x y U V k) = sumTo (fun i => (x.kid i).count) k := by
  induction k with
  | zero => rfl
  | succ k ih => rw [pushed_succ, total_append, ih]; simp [total, sumTo]
theorem pushed_same (x y : D) (U V : Nat → Value) (k : Nat) : allSame (pushed x y U V k) = allTo (fun i => sameD (x.kid i) (y.kid i)) k := by
  induction k with
  | zero => rfl
  | succ k ih => rw [pushed_succ]; simp only [allSame, List.all_append] at ih ⊢; rw [ih]; simp [allTo]

theorem pop_same (r : List Pr) (x y : D) (u v : Value) (U V : Nat → Value) (h : headB x y = true) : allSame (r ++ [(x, y, u, v)]) = allSame (r ++ pushed x y U V x.len) := by
  have h1 := pushed_same x y U V x.len
  simp only [allSame, List.all_append] at h1 ⊢
  rw [h1, ← Bool.true_and (allTo _ _), ← h, ← sameD_eq]
  simp
theorem pop_no (r : List Pr) (x y : D) (u v : Value) (h : headB x y = false) : allSame (r ++ [(x, y, u, v)]) = false := by
  simp only [allSame, List.all_append]
  simp [sameD_eq x y, h]
theorem pop_total (r : List Pr) (x y : D) (u v : Value) (U V : Nat → Value) : total (r ++ pushed x y U V x.len) + 1 = total (r ++ [(x, y, u, v)]) := by
  rw [total_append, total_append, pushed_total]
  simp only [total, List.map_cons, List.map_nil, List.sum_cons, List.sum_nil]
  rw [D.count_eq x]; omega

/-- The pairs lie in w. -/
def PrsIn (w : World) (st : List Pr) : Prop := ∀ q ∈ st, q.1.In w q.2.2.1 ∧ q.2.1.In w q.2.2.2
theorem PrsIn.below {w w' : World} {st : List Pr} (h : PrsIn w st) (hb : Below w.heap.size w w') : PrsIn w' st := fun q hq => ⟨(h q hq).1.below hb, (h q hq).2.below hb⟩
end Go.Proofs.YtlclfmjpnchmbaaGreat

/- Plain facts on numerals: the digits of v, read as a number, are v; a text is the digits of at most one number. No conditions. -/
namespace Go.Proofs.YtlclfmjpnchmbaaGreat

/-- The number that digits spell. -/
def valFrom (a : Nat) : List UInt8 → Nat
  | [] => a
  | c :: r => valFrom (a * 10 + (c.toNat - 48)) r
def val (l : List UInt8) : Nat := valFrom 0 l

def isDig (c : UInt8) : Prop := 48 ≤ c.toNat ∧ c.toNat ≤ 57

theorem valFrom_append (l : List UInt8) (c : UInt8) : ∀ a, valFrom a (l ++ [c]) = valFrom a l * 10 + (c.toNat - 48) := by
  induction l with
  | nil => intro a; rfl
  | cons d r ih => intro a; exact ih _

theorem val_append (l : List UInt8) (c : UInt8) : val (l ++ [c]) = val l * 10 + (c.toNat - 48) := valFrom_append l c 0

theorem dig_nat (u : Nat) (h : u < 10) : (UInt8.ofNat (48 + u)).toNat = 48 + u := by
  rw [UInt8.toNat_ofNat']; omega

theorem val_decDigits (v : Nat) : val (Lib.decDigits v) = v := by
  induction v using Nat.strongRecOn with
  | _ v ih =>
    by_cases h : v < 10
    · rw [Lib.decDigits_one h]
      show 0 * 10 + ((UInt8.ofNat (48 + v)).toNat - 48) = v
      rw [dig_nat v h]; omega
    · rw [Lib.decDigits, dif_neg h, val_append, ih (v / 10) (by omega), dig_nat _ (by omega)]
      omega

theorem dig_decDigits (v : Nat) : ∀ c ∈ Lib.decDigits v, isDig c := by
  induction v using Nat.strongRecOn with
  | _ v ih =>
    intro c hc
    by_cases h : v < 10
    · rw [Lib.decDigits_one h] at hc
      simp only [List.mem_singleton] at hc
      subst hc
      unfold isDig
      rw [dig_nat v h]; omega
    · rw [Lib.decDigits, dif_neg h] at hc
      rcases List.mem_append.1 hc with hc | hc
      · exact ih (v / 10) (by omega) c hc
      · simp only [List.mem_singleton] at hc
        subst hc
        unfold isDig
        rw [dig_nat _ (by omega)]; omega

theorem len_decDigits (k : Nat) : ∀ v, v < 10 ^ (k + 1) → (Lib.decDigits v).length ≤ k + 1 := by
  induction k with
  | zero =>
    intro v hv
    rw [Lib.decDigits_one (by omega)]; simp
  | succ k ih =>
    intro v hv
    by_cases h : v < 10
    · rw [Lib.decDigits_one h]; simp
    · rw [Lib.decDigits, dif_neg h, List.length_append]
      have := ih (v / 10) (by rw [Nat.pow_succ] at hv; omega)
      simp; omega

theorem len_pos_decDigits (v : Nat) : 1 ≤ (Lib.decDigits v).length := by
  by_cases h : v < 10
  · rw [Lib.decDigits_one h]; simp
  · rw [Lib.decDigits, dif_neg h, List.length_append]; simp

/-- The text is the digits of a word that is not below 0. -/
def numB (l : List UInt8) : Bool := decide (val l ≤ 1073741823 ∧ Lib.decDigits (val l) = l)

theorem numB_mk (v : Nat) (h : v ≤ 1073741823) : numB (Lib.decDigits v) = true := by
  unfold numB
  rw [val_decDigits]
  simp [h]

theorem numB_iff {l : List UInt8} : numB l = true ↔ val l ≤ 1073741823 ∧ Lib.decDigits (val l) = l := by
  unfold numB; exact decide_eq_true_iff

theorem numB_len {l : List UInt8} (h : numB l = true) : 1 ≤ l.length ∧ l.length ≤ 10 := by
  obtain ⟨h1, h2⟩ := numB_iff.1 h
  rw [← h2]
  exact ⟨len_pos_decDigits _, len_decDigits 9 _ (by omega)⟩

theorem numB_dig {l : List UInt8} (h : numB l = true) : ∀ c ∈ l, isDig c := by
  obtain ⟨_, h2⟩ := numB_iff.1 h
  rw [← h2]
  exact dig_decDigits _

theorem no_of_len {l : List UInt8} (h : l.length < 1 ∨ 10 < l.length) : numB l = false := by
  cases e : numB l with
  | false => rfl
  | true => have := numB_len e; omega

theorem no_of_byte {l : List UInt8} (c : UInt8) (hc : c ∈ l) (h : ¬ isDig c) : numB l = false := by
  cases e : numB l with
  | false => rfl
  | true => exact absurd (numB_dig e c hc) h

theorem no_of_big {l : List UInt8} (h : ¬ val l ≤ 1073741823) : numB l = false := by
  cases e : numB l with
  | false => rfl
  | true => exact absurd (numB_iff.1 e).1 h

theorem no_of_other {l : List UInt8} (h : ¬ Lib.decDigits (val l) = l) : numB l = false := by
  cases e : numB l with
  | false => rfl
  | true => exact absurd (numB_iff.1 e).2 h

theorem parse_digits (l : List UInt8) : ∀ a k, a < 10 ^ k → k + l.length ≤ 18 → (∀ c ∈ l, isDig c) → Lib.parseUint10 a l = .ok (valFrom a l) := by
  induction l with
  | nil => intro a k _ _ _; rfl
  | cons c r ih =>
    intro a k ha hk hd
    have hc := hd c List.mem_cons_self
    unfold isDig at hc
    simp only [List.length_cons] at hk
    have hp : 10 ^ k ≤ 10 ^ 17 := Nat.pow_le_pow_right (by omega) (by omega)
    simp only [Lib.parseUint10]
    rw [if_pos hc, if_neg (by omega), if_neg (by omega)]
    exact ih _ (k + 1) (by rw [Nat.pow_succ]; omega) (by omega) (fun d h => hd d (List.mem_cons_of_mem _ h))

theorem atoi_num {l : List UInt8} (h : numB l = true) : Lib.atoiAll l = .ok (val l : Int) := by
  have hl := numB_len h
  have hd := numB_dig h
  have hv := (numB_iff.1 h).1
  clear h
  cases l with
  | nil => simp at hl
  | cons c r =>
    have hc := hd c List.mem_cons_self
    unfold isDig at hc
    have hp := parse_digits (c :: r) 0 0 (by omega) (by omega) hd
    have hm : Lib.parseMag (c :: r) = .ok (val (c :: r)) := by
      unfold Lib.parseMag
      rw [if_neg (by simp)]
      exact hp
    unfold Lib.atoiAll
    simp only
    rw [if_neg (by omega), hm]
    simp only
    rw [if_neg (by omega), if_neg (by omega)]
    rw [if_neg (by omega)]

theorem itoa_val (n : Int) (h0 : 0 ≤ n) : Lib.itoa n = Lib.decDigits n.toNat := by
  unfold Lib.itoa
  rw [if_neg (by omega)]
end Go.Proofs.YtlclfmjpnchmbaaGreat
