/- Plain facts on the words of a text: which text is a word's digits, which is a name, and the tokens of a text, byte by byte. No conditions. -/
import Derived.Test.YtlclfmjpnchmbaaGreatZG9PlainNumber
import Derived.Laws.RangeAny
import Derived.Lib.Strings
namespace Go.Proofs.YtlclfmjpnchmbaaGreat

/-- The number that a text spells, with a minus ahead or without. -/
def sval (l : List UInt8) : Int := if l.head? = some 45 then -(val l.tail : Int) else val l

/-- The word of which the text is the digits. -/
def wordV (l : List UInt8) : Option Int :=
  if -1073741824 ≤ sval l ∧ sval l ≤ 1073741823 ∧ Lib.itoa (sval l) = l then some (sval l) else none

theorem itoa_neg (n : Int) (h : n < 0) : Lib.itoa n = 45 :: Lib.decDigits n.natAbs := by
  unfold Lib.itoa
  rw [if_pos h]

theorem head_decDigits (v : Nat) : (Lib.decDigits v).head? ≠ some 45 := by
  intro h
  have hm : (45 : UInt8) ∈ Lib.decDigits v := List.mem_of_mem_head? h
  have := dig_decDigits v 45 hm
  unfold isDig at this
  simp at this

theorem sval_itoa (v : Int) : sval (Lib.itoa v) = v := by
  unfold sval
  by_cases h : v < 0
  · rw [itoa_neg v h]
    simp only [List.head?_cons, if_true, List.tail_cons, val_decDigits]
    omega
  · rw [itoa_val v (by omega), if_neg (head_decDigits _), val_decDigits]
    omega

theorem wordV_of {l : List UInt8} {v : Int} (h0 : -1073741824 ≤ v) (h1 : v ≤ 1073741823) (h : Lib.itoa v = l) : wordV l = some v := by
  have e : sval l = v := by rw [← h, sval_itoa]
  unfold wordV
  rw [e, if_pos ⟨h0, h1, h⟩]

theorem wordV_some {l : List UInt8} {v : Int} (h : wordV l = some v) : -1073741824 ≤ v ∧ v ≤ 1073741823 ∧ Lib.itoa v = l := by
  unfold wordV at h
  split at h
  · rename_i hc
    injection h with h
    rw [← h]; exact hc
  · cases h

theorem wordV_none {l : List UInt8} (h : ∀ v, -1073741824 ≤ v → v ≤ 1073741823 → Lib.itoa v ≠ l) : wordV l = none := by
  cases e : wordV l with
  | none => rfl
  | some v => obtain ⟨h0, h1, h2⟩ := wordV_some e; exact absurd h2 (h v h0 h1)

theorem atoi_itoa (v : Int) (h0 : -1073741824 ≤ v) (h1 : v ≤ 1073741823) : Lib.atoiAll (Lib.itoa v) = .ok v := by
  by_cases h : v < 0
  · rw [itoa_neg v h]
    have hl := len_decDigits 9 v.natAbs (by omega)
    have hp0 := len_pos_decDigits v.natAbs
    have hd := dig_decDigits v.natAbs
    have hv := val_decDigits v.natAbs
    generalize Lib.decDigits v.natAbs = r at *
    have hp := parse_digits r 0 0 (by omega) (by omega) hd
    have hm : Lib.parseMag r = .ok v.natAbs := by
      unfold Lib.parseMag
      rw [if_neg (by intro e; rw [e] at hp0; simp at hp0), hp]
      exact congrArg _ hv
    unfold Lib.atoiAll
    simp only
    rw [if_pos (by decide), hm]
    simp only
    rw [if_neg (by simp), if_neg (by omega), if_pos (by decide)]
    congr 1; omega
  · rw [itoa_val v (by omega)]
    have := atoi_num (numB_mk v.toNat (by omega))
    rw [this, val_decDigits]
    congr 1; omega

theorem numB_wordV (l : List UInt8) : (numB l = true ↔ ∃ v, wordV l = some v ∧ 0 ≤ v) ∧ (∀ v, wordV l = some v → 0 ≤ v → (val l : Int) = v) := by
  constructor
  · constructor
    · intro h
      obtain ⟨h1, h2⟩ := numB_iff.1 h
      exact ⟨val l, wordV_of (by omega) (by omega) (by rw [itoa_val _ (by omega), Int.toNat_natCast, h2]), by omega⟩
    · rintro ⟨v, h, hv⟩
      obtain ⟨h0, h1, h2⟩ := wordV_some h
      rw [itoa_val v hv] at h2
      rw [← h2]; exact numB_mk _ (by omega)
  · intro v h hv
    obtain ⟨h0, h1, h2⟩ := wordV_some h
    rw [itoa_val v hv] at h2
    rw [← h2, val_decDigits]; omega

/-- A sign of a name. -/
def nameB (c : UInt8) : Bool := (97 ≤ c.toNat && c.toNat ≤ 122) || (48 ≤ c.toNat && c.toNat ≤ 57) || ([43, 45, 42, 60, 61, 63, 46, 95] : List UInt8).contains c
def digB (c : UInt8) : Bool := 48 ≤ c.toNat && c.toNat ≤ 57

/-- What begins so is a number or nothing. -/
def begNum : List UInt8 → Bool
  | [] => false
  | c :: r => digB c || (c == 45 && (match r with | [] => false | d :: _ => digB d))

def symB (l : List UInt8) : Bool := decide (1 ≤ l.length) && decide (l.length ≤ 12) && !begNum l && l.all nameB

/-- A sign that parts words: blank, new line, brackets. -/
def partB (c : UInt8) : Bool := c == 32 || c == 10 || c == 40 || c == 41

structure Tok where
  kind : Int
  at_ : Nat
  n : Int
  text : ByteArray

def Tok.cells (t : Tok) : List Value := [.int .i64 t.kind, .int .i64 t.at_, .int .i64 t.n, .string t.text]
def rows (ts : List Tok) : List Value := ts.flatMap Tok.cells

theorem rows_append (a b : List Tok) : rows (a ++ b) = rows a ++ rows b := by simp [rows]
theorem rows_length (ts : List Tok) : (rows ts).length = ts.length * 4 := by
  induction ts with
  | nil => rfl
  | cons t r ih => simp only [rows, List.flatMap_cons, List.length_append, List.length_cons] at ih ⊢; rw [ih]; simp [Tok.cells]; omega

/-- The token of a word that begins at b. -/
def tokOf (x : ByteArray) (b : Nat) : Option Tok :=
  match wordV x.data.toList with
  | some v => some ⟨3, b, v, x⟩
  | none => if symB x.data.toList then some ⟨4, b, 0, x⟩ else none

/-- The token of a bracket. -/
def brack (c : UInt8) (p : Nat) : List Tok := if c == 40 then [⟨1, p, 0, ⟨#[40]⟩⟩] else if c == 41 then [⟨2, p, 0, ⟨#[41]⟩⟩] else []

/-- n bytes are left, from p on; a word has begun at b, if b is not p. -/
def scan (s : ByteArray) : Nat → List Tok → Nat → Nat → List Tok × Int
  | 0, acc, b, p => if b = p then (acc, -1) else match tokOf (s.extract b p) b with | none => ([], b) | some t => (acc ++ [t], -1)
  | n + 1, acc, b, p =>
    if partB (s.get! p) then
      (if b = p then scan s n (acc ++ brack (s.get! p) p) (p + 1) (p + 1)
       else match tokOf (s.extract b p) b with | none => ([], b) | some t => scan s n (acc ++ [t] ++ brack (s.get! p) p) (p + 1) (p + 1))
    else scan s n acc b (p + 1)

def toks (s : ByteArray) : List Tok × Int := if s.size ≤ 4000 then scan s s.size [] 0 0 else ([], 0)

/-- What is left of the scan at p. -/
def rest (s : ByteArray) (acc : List Tok) (b p : Nat) : List Tok × Int := scan s (s.size - p) acc b p

theorem get_bang (s : ByteArray) (p : Nat) (h : p < s.size) : s.get! p = s[p]'h := get_at s p h

theorem rest_start (s : ByteArray) (h : s.size ≤ 4000) : toks s = rest s [] 0 0 := by
  unfold toks rest
  rw [if_pos h]; rfl

theorem rest_part (s : ByteArray) (acc : List Tok) (p : Nat) (h : p < s.size) (hp : partB (s[p]'h) = true) :
    rest s acc p p = rest s (acc ++ brack (s[p]'h) p) (p + 1) (p + 1) := by
  unfold rest
  have e : s.size - p = (s.size - (p + 1)) + 1 := by omega
  rw [e]
  conv => lhs; unfold scan
  rw [get_bang s p h, if_pos hp, if_pos rfl]

theorem rest_other (s : ByteArray) (acc : List Tok) (b p : Nat) (h : p < s.size) (hp : partB (s[p]'h) = false) :
    rest s acc b p = rest s acc b (p + 1) := by
  unfold rest
  have e : s.size - p = (s.size - (p + 1)) + 1 := by omega
  rw [e]
  conv => lhs; unfold scan
  rw [get_bang s p h, if_neg (by simp [hp])]

theorem rest_others (s : ByteArray) (acc : List Tok) (b p k : Nat) (h : p + k ≤ s.size) (hp : ∀ j (hj : j < k), partB (s[p + j]'(by omega)) = false) :
    rest s acc b p = rest s acc b (p + k) := by
  induction k with
  | zero => rfl
  | succ k ih =>
    rw [ih (by omega) (fun j hj => hp j (by omega)), rest_other s acc b (p + k) (by omega) (hp k (by omega))]
    rfl

theorem rest_end (s : ByteArray) (acc : List Tok) (b p : Nat) (hb : b < p) (hp : ∀ h : p < s.size, partB (s[p]'h) = true) :
    rest s acc b p = match tokOf (s.extract b p) b with | none => ([], (b : Int)) | some t => rest s (acc ++ [t]) p p := by
  unfold rest
  by_cases h : p < s.size
  · have e : s.size - p = (s.size - (p + 1)) + 1 := by omega
    rw [e]
    conv => lhs; unfold scan
    rw [get_bang s p h, if_pos (hp h), if_neg (by omega)]
    cases tokOf (s.extract b p) b with
    | none => rfl
    | some t =>
      simp only
      conv => rhs; unfold scan
      rw [get_bang s p h, if_pos (hp h), if_pos rfl]
  · have e : s.size - p = 0 := by omega
    rw [e]
    conv => lhs; unfold scan
    rw [if_neg (by omega)]
    cases tokOf (s.extract b p) b with
    | none => rfl
    | some t =>
      simp only
      conv => rhs; unfold scan
      rw [if_pos rfl]

theorem rest_done (s : ByteArray) (acc : List Tok) : rest s acc s.size s.size = (acc, -1) := by
  unfold rest
  have e : s.size - s.size = 0 := by omega
  rw [e]
  unfold scan
  rw [if_pos rfl]

/-- A sign that is not of one byte is of bytes none of which parts words. -/
theorem decode_wide (s : ByteArray) (p : Nat) (h : p < s.size) (ha : 128 ≤ (s[p]'h).toNat) :
    p + (Utf8.decode s p).2 ≤ s.size ∧ ∀ j, j < (Utf8.decode s p).2 → ∀ (hs : p + j < s.size), 128 ≤ (s[p + j]'hs).toNat := by
  have hn : ¬ (s[p]'h).toNat < 128 := by omega
  have hj0 : ∀ j, j < 1 → ∀ hs : p + j < s.size, 128 ≤ (s[p + j]'hs).toNat := by
    intro j hj hs
    have : j = 0 := by omega
    subst this; exact ha
  have hc : ∀ k (hk : p + k < s.size), ((s.get! (p + k)).toNat / 64 == 2) = true → 128 ≤ (s[p + k]'hk).toNat := by
    intro k hk hx
    rw [get_bang s (p + k) hk] at hx
    simp at hx
    omega
  simp only [Utf8.decode, get_at s p h, hn, if_false]
  repeat' split
  all_goals simp_all only [Bool.and_eq_true, decide_eq_true_eq]
  all_goals refine ⟨by omega, ?_⟩
  all_goals
    intro j hj hs
    first
      | trivial
      | exact hj0 j (by omega) hs
      | (rcases Nat.lt_or_ge j 1 with h1 | h1
         · exact hj0 j (by omega) hs
         · rcases Nat.lt_or_ge j 2 with h2 | h2
           · have : j = 1 := by omega
             subst this; exact hc 1 hs (by simp_all)
           · rcases Nat.lt_or_ge j 3 with h3 | h3
             · have : j = 2 := by omega
               subst this; exact hc 2 hs (by simp_all)
             · have : j = 3 := by omega
               subst this; exact hc 3 hs (by simp_all))

theorem part_high (c : UInt8) (h : 128 ≤ c.toNat) : partB c = false := by
  unfold partB
  have : ∀ d : UInt8, d.toNat < 128 → (c == d) = false := by
    intro d hd
    rw [beq_eq_false_iff_ne]
    rintro rfl; omega
  rw [this 32 (by decide), this 10 (by decide), this 40 (by decide), this 41 (by decide)]; rfl

theorem name_high (c : UInt8) (h : 128 ≤ c.toNat) : nameB c = false := by
  unfold nameB
  have : ∀ d : UInt8, d.toNat < 128 → (c == d) = false := by
    intro d hd
    rw [beq_eq_false_iff_ne]
    rintro rfl; omega
  simp only [List.contains_cons, List.contains_nil]
  rw [this 43 (by decide), this 45 (by decide), this 42 (by decide), this 60 (by decide), this 61 (by decide), this 63 (by decide), this 46 (by decide), this 95 (by decide)]
  simp; omega

theorem rest_rune (s : ByteArray) (acc : List Tok) (b p : Nat) (h : p < s.size) (ha : 128 ≤ (s[p]'h).toNat) :
    rest s acc b p = rest s acc b (p + (Utf8.decode s p).2) := by
  obtain ⟨h1, h2⟩ := decode_wide s p h ha
  exact rest_others s acc b p _ h1 (fun j hj => part_high _ (h2 j hj (by omega)))
end Go.Proofs.YtlclfmjpnchmbaaGreat

/- Plain facts on data that are right: of a list all of it, and by a count of what may still come. No conditions. -/
namespace Go.Proofs.YtlclfmjpnchmbaaGreat
open Go.ChangeShapes Go.WideShapes Go.ChangeAt Go.RowKit

/-- What is told of a datum but for its kids, by its tests. -/
def fB (a op : Int) (wb sb e n0 l0 : Bool) : Bool :=
  decide (0 ≤ a) && (if op = 1 then wb && (e && l0) else if op = 2 then sb && (n0 && l0) else if op = 3 then n0 && e else false)

def fieldsB (t : D) : Bool := fB t.at_ t.op (decide (-1073741824 ≤ t.n ∧ t.n ≤ 1073741823)) (symB t.s.data.toList) (t.s.toList == []) (t.n == 0) ((t.len : Int) == 0)

def rightB : D → Bool
  | .no => fieldsB .no
  | .mk op a n s len kid => allTo (fun i => rightB (kid i)) len && fieldsB (.mk op a n s len kid)
theorem rightB_eq (t : D) : rightB t = (allTo (fun i => rightB (t.kid i)) t.len && fieldsB t) := by
  cases t with
  | no => simp [rightB, D.len, allTo]
  | mk op a n s len kid => rfl

def maxTo (f : Nat → Nat) : Nat → Nat
  | 0 => 0
  | k + 1 => max (maxTo f k) (f k)
theorem maxTo_le {f : Nat → Nat} {k m : Nat} : maxTo f k ≤ m ↔ ∀ i, i < k → f i ≤ m := by
  induction k with
  | zero => simp [maxTo]
  | succ k ih =>
    simp only [maxTo, Nat.max_le, ih]
    constructor
    · rintro ⟨h1, h2⟩ i hi
      rcases Nat.lt_or_ge i k with h | h
      · exact h1 i h
      · obtain rfl : i = k := by omega
        exact h2
    · intro h
      exact ⟨fun i hi => h i (by omega), h k (by omega)⟩

def D.deep : D → Nat
  | .no => 1
  | .mk _ _ _ _ len kid => maxTo (fun i => (kid i).deep) len + 1
theorem D.deep_eq (t : D) : t.deep = maxTo (fun i => (t.kid i).deep) t.len + 1 := by cases t <;> rfl
theorem D.deep_count (t : D) : t.deep ≤ t.count := by
  induction t with
  | no => simp [deep, count]
  | mk op a n s len kid ih =>
    unfold deep count
    have : maxTo (fun i => (kid i).deep) len ≤ sumTo (fun i => (kid i).count) len := by
      rw [maxTo_le]
      intro i hi
      have := sumTo_at (fun i => (kid i).count) i len hi
      have := ih i
      omega
    omega

/-- All of a list is right. -/
def datsB (len : Nat) (kid : Nat → D) : Bool :=
  allTo (fun i => decide ((kid i).deep ≤ 20) && rightB (kid i)) len && decide (sumTo (fun i => (kid i).count) len ≤ 1500)

/-- One after the other: what is left behind the first k. -/
def foldTo (g : D → Nat → Option Nat) (kid : Nat → D) (left : Nat) : Nat → Option Nat
  | 0 => some left
  | k + 1 => (foldTo g kid left k).bind (g (kid k))

theorem fold_none {g : D → Nat → Option Nat} {kid : Nat → D} {left k n : Nat} (h : foldTo g kid left k = none) (hk : k ≤ n) : foldTo g kid left n = none := by
  induction n with
  | zero => obtain rfl : k = 0 := by omega
            exact h
  | succ n ih =>
    rcases Nat.lt_or_ge n k with h1 | h1
    · obtain rfl : k = n + 1 := by omega
      exact h
    · simp [foldTo, ih h1]

/-- How many may come behind a list, if it is right and no deeper than nest. -/
def look : Nat → Nat → Nat → (Nat → D) → Option Nat
  | 0, left, len, _ => if len = 0 then some left else none
  | nest + 1, left, len, kid => if left < len then none else foldTo (fun d l => if fieldsB d = true then look nest l d.len d.kid else none) kid (left - len) len

theorem look_eq (nest : Nat) : ∀ left len kid, look nest left len kid = if (∀ i, i < len → rightB (kid i) = true ∧ (kid i).deep ≤ nest) ∧ sumTo (fun i => (kid i).count) len ≤ left then some (left - sumTo (fun i => (kid i).count) len) else none := by
  induction nest with
  | zero =>
    intro left len kid
    unfold look
    by_cases h : len = 0
    · subst h; simp [sumTo]
    · rw [if_neg h, if_neg]
      rintro ⟨h1, _⟩
      have := (h1 0 (by omega)).2
      rw [D.deep_eq] at this
      omega
  | succ nest ih =>
    intro left len kid
    have hone : ∀ d l, (if fieldsB d = true then look nest l d.len d.kid else none) = if (rightB d = true ∧ d.deep ≤ nest + 1) ∧ d.count - 1 ≤ l then some (l - (d.count - 1)) else none := by
      intro d l
      rw [ih, D.count_eq d, D.deep_eq d, rightB_eq d]
      have e : 1 + sumTo (fun i => (d.kid i).count) d.len - 1 = sumTo (fun i => (d.kid i).count) d.len := by omega
      rw [e]
      have hd : maxTo (fun i => (d.kid i).deep) d.len + 1 ≤ nest + 1 ↔ ∀ i, i < d.len → (d.kid i).deep ≤ nest := by
        rw [← maxTo_le (f := fun i => (d.kid i).deep)]; omega
      by_cases hf : fieldsB d = true
      · rw [if_pos hf]
        by_cases hc : (∀ i, i < d.len → rightB (d.kid i) = true ∧ (d.kid i).deep ≤ nest) ∧ sumTo (fun i => (d.kid i).count) d.len ≤ l
        · rw [if_pos hc, if_pos]
          refine ⟨⟨?_, hd.2 fun i hi => (hc.1 i hi).2⟩, hc.2⟩
          rw [Bool.and_eq_true, allTo_true]
          exact ⟨fun i hi => (hc.1 i hi).1, hf⟩
        · rw [if_neg hc, if_neg]
          rintro ⟨⟨h1, h3⟩, h2⟩
          rw [Bool.and_eq_true, allTo_true] at h1
          exact hc ⟨fun i hi => ⟨h1.1 i hi, hd.1 h3 i hi⟩, h2⟩
      · rw [if_neg hf, if_neg]
        rintro ⟨⟨h1, _⟩, _⟩
        rw [Bool.and_eq_true] at h1
        exact hf h1.2
    have hpos : ∀ d : D, 1 ≤ d.count := fun d => by rw [D.count_eq]; omega
    have hfold : ∀ l k, foldTo (fun d l => if fieldsB d = true then look nest l d.len d.kid else none) kid l k = if (∀ i, i < k → rightB (kid i) = true ∧ (kid i).deep ≤ nest + 1) ∧ sumTo (fun i => (kid i).count) k ≤ l + k then some (l + k - sumTo (fun i => (kid i).count) k) else none := by
      intro l k
      induction k with
      | zero => simp [foldTo, sumTo]
      | succ k ihk =>
        unfold foldTo
        rw [ihk]
        have hp := hpos (kid k)
        by_cases h1 : (∀ i, i < k → rightB (kid i) = true ∧ (kid i).deep ≤ nest + 1) ∧ sumTo (fun i => (kid i).count) k ≤ l + k
        · rw [if_pos h1, Option.bind_some, hone]
          have h2 := h1.2
          by_cases h3 : (rightB (kid k) = true ∧ (kid k).deep ≤ nest + 1) ∧ (kid k).count - 1 ≤ l + k - sumTo (fun i => (kid i).count) k
          · rw [if_pos h3, if_pos]
            · simp only [sumTo]; congr 1; have := h3.2; omega
            · refine ⟨fun i hi => ?_, ?_⟩
              · rcases Nat.lt_or_ge i k with h | h
                · exact h1.1 i h
                · obtain rfl : i = k := by omega
                  exact h3.1
              · simp only [sumTo]; have := h3.2; omega
          · rw [if_neg h3, if_neg]
            rintro ⟨h4, h5⟩
            apply h3
            refine ⟨h4 k (by omega), ?_⟩
            simp only [sumTo] at h5; omega
        · rw [if_neg h1, if_neg]
          · rfl
          · rintro ⟨h4, h5⟩
            apply h1
            refine ⟨fun i hi => h4 i (by omega), ?_⟩
            simp only [sumTo] at h5; omega
    unfold look
    have hlen : len ≤ sumTo (fun i => (kid i).count) len := by
      clear hfold hone
      induction len with
      | zero => simp
      | succ k ihk => simp only [sumTo]; have := hpos (kid k); omega
    by_cases hl : left < len
    · rw [if_pos hl, if_neg]
      rintro ⟨_, h⟩; omega
    · rw [if_neg hl, hfold, show left - len + len = left from by omega]

theorem look_datsB (len : Nat) (kid : Nat → D) : datsB len kid = (look 20 1500 len kid).isSome := by
  rw [look_eq]
  unfold datsB
  by_cases h : (∀ i, i < len → rightB (kid i) = true ∧ (kid i).deep ≤ 20) ∧ sumTo (fun i => (kid i).count) len ≤ 1500
  · rw [if_pos h, Option.isSome_some, Bool.and_eq_true, allTo_true]
    exact ⟨fun i hi => by rw [Bool.and_eq_true]; exact ⟨decide_eq_true (h.1 i hi).2, (h.1 i hi).1⟩, decide_eq_true h.2⟩
  · rw [if_neg h, Option.isSome_none, Bool.eq_false_iff, Ne, Bool.and_eq_true, allTo_true]
    rintro ⟨h1, h2⟩
    apply h
    refine ⟨fun i hi => ?_, of_decide_eq_true h2⟩
    have := h1 i hi
    rw [Bool.and_eq_true] at this
    exact ⟨this.2, of_decide_eq_true this.1⟩
end Go.Proofs.YtlclfmjpnchmbaaGreat

/- Plain facts on what is right as it is written: by a count of what may still come. No conditions. -/
namespace Go.Proofs.YtlclfmjpnchmbaaGreat
open Go.ChangeShapes Go.WideShapes Go.ChangeAt Go.RowKit

/-- What is told of one but for its kids, by its tests. -/
def gB (a op : Int) (wb sb e n0 l0 z0 st : Bool) : Bool :=
  decide (0 ≤ a) && (if op = 1 then wb && (e && (z0 && l0)) else if op = 2 then sb && (n0 && (st && l0)) else if op = 3 then n0 && (e && z0) else false)
def nodeB (t : X) : Bool := (decide (t.op = 2) && setB t.set) || decide (t.set.length = 0)
def fieldsXB (t : X) : Bool := fieldsB (datX t) && nodeB t

theorem datX_parts (t : X) : (datX t).op = t.op ∧ (datX t).at_ = t.at_ ∧ (datX t).n = t.n ∧ (datX t).s = t.s ∧ (datX t).len = t.len := by cases t <;> exact ⟨rfl, rfl, rfl, rfl, rfl⟩
theorem datX_kid (t : X) (i : Nat) : (datX t).kid i = datX (t.kid i) := by cases t <;> rfl

theorem fieldsXB_eq (t : X) : fieldsXB t = gB t.at_ t.op (decide (-1073741824 ≤ t.n ∧ t.n ≤ 1073741823)) (symB t.s.data.toList) (t.s.toList == []) (t.n == 0) ((t.len : Int) == 0) ((t.set.length : Int) == 0) (setB t.set) := by
  obtain ⟨h1, h2, h3, h4, h5⟩ := datX_parts t
  unfold fieldsXB fieldsB nodeB
  rw [h1, h2, h3, h4, h5]
  have hz : (((t.set.length : Nat) : Int) == 0) = decide (t.set.length = 0) := by
    by_cases h : t.set.length = 0
    · simp [h]
    · rw [decide_eq_false h, beq_eq_false_iff_ne]; omega
  have hst : t.set.length = 0 → setB t.set = true := fun h => by rw [List.eq_nil_of_length_eq_zero h]; exact setB_nil
  rw [hz]
  generalize decide (-1073741824 ≤ t.n ∧ t.n ≤ 1073741823) = wb
  generalize symB t.s.data.toList = sb
  generalize (t.s.toList == []) = e
  generalize (t.n == 0) = n0
  generalize ((t.len : Int) == 0) = l0
  generalize setB t.set = st at *
  unfold fB gB
  by_cases hz0 : t.set.length = 0
  · rw [hst hz0, decide_eq_true hz0]
    by_cases h1 : t.op = 1
    · simp [h1]
    · by_cases h2 : t.op = 2
      · simp [h2]
      · by_cases h3 : t.op = 3
        · simp [h3]
        · simp [h1, h2, h3]
  · rw [decide_eq_false hz0]
    by_cases h1 : t.op = 1
    · simp [h1]
    · by_cases h2 : t.op = 2
      · simp only [h2, decide_true, Bool.true_and, Bool.or_false]
        cases decide (0 ≤ t.at_) <;> cases sb <;> cases n0 <;> cases st <;> cases l0 <;> rfl
      · by_cases h3 : t.op = 3
        · simp [h3]
        · simp [h1, h2, h3]

def foldX (g : X → Nat → Option Nat) (kid : Nat → X) (left : Nat) : Nat → Option Nat
  | 0 => some left
  | k + 1 => (foldX g kid left k).bind (g (kid k))
theorem foldX_none {g : X → Nat → Option Nat} {kid : Nat → X} {left k n : Nat} (h : foldX g kid left k = none) (hk : k ≤ n) : foldX g kid left n = none := by
  induction n with
  | zero => obtain rfl : k = 0 := by omega
            exact h
  | succ n ih =>
    rcases Nat.lt_or_ge n k with h1 | h1
    · obtain rfl : k = n + 1 := by omega
      exact h
    · simp [foldX, ih h1]
/-- How many may come behind a list, if it is right and no deeper than nest. -/
def lookX : Nat → Nat → Nat → (Nat → X) → Option Nat
  | 0, left, len, _ => if len = 0 then some left else none
  | nest + 1, left, len, kid => if left < len then none else foldX (fun d l => if fieldsXB d = true then lookX nest l d.len d.kid else none) kid (left - len) len

theorem setsB_node (t : X) : t.setsB = (allX (fun i => (t.kid i).setsB) t.len && nodeB t) := by
  cases t with
  | no => rfl
  | mk op a n s set len kid => rfl

theorem lookX_eq (nest : Nat) : ∀ left len kid, lookX nest left len kid = if allX (fun i => (kid i).setsB) len = true then look nest left len (fun i => datX (kid i)) else none := by
  induction nest with
  | zero =>
    intro left len kid
    unfold lookX look
    by_cases h : len = 0
    · subst h; simp [allX]
    · rw [if_neg h]; simp
  | succ nest ih =>
    intro left len kid
    have hone : ∀ (d : X) (l : Nat), (if fieldsXB d = true then lookX nest l d.len d.kid else none) = if d.setsB = true then (if fieldsB (datX d) = true then look nest l (datX d).len (datX d).kid else none) else none := by
      intro d l
      have hk : (datX d).kid = fun i => datX (d.kid i) := by funext i; exact datX_kid d i
      rw [ih, setsB_node d, (datX_parts d).2.2.2.2, hk]
      unfold fieldsXB
      cases fieldsB (datX d) <;> cases nodeB d <;> cases allX (fun i => (d.kid i).setsB) d.len <;> simp
    have hf : ∀ k, foldX (fun d l => if fieldsXB d = true then lookX nest l d.len d.kid else none) kid (left - len) k = if allX (fun i => (kid i).setsB) k = true then foldTo (fun d l => if fieldsB d = true then look nest l d.len d.kid else none) (fun i => datX (kid i)) (left - len) k else none := by
      intro k
      induction k with
      | zero => simp [foldX, foldTo, allX]
      | succ k ihk =>
        unfold foldX foldTo
        rw [ihk, show allX (fun i => (kid i).setsB) (k + 1) = (allX (fun i => (kid i).setsB) k && (kid k).setsB) from rfl]
        by_cases ha : allX (fun i => (kid i).setsB) k = true
        · rw [if_pos ha, ha, Bool.true_and]
          generalize foldTo (fun d l => if fieldsB d = true then look nest l d.len d.kid else none) (fun i => datX (kid i)) (left - len) k = o
          cases o with
          | none => simp
          | some l => exact hone (kid k) l
        · have hb : allX (fun i => (kid i).setsB) k = false := by simpa using ha
          rw [if_neg ha, hb]
          simp
    unfold lookX look
    by_cases h : left < len
    · rw [if_pos h, if_pos h]; simp
    · rw [if_neg h, if_neg h]
      exact hf len

/-- All is right. -/
def stxOkB (t : X) : Bool := t.setsB && datsB 1 (fun _ => datX t)
theorem stxOk_look (t : X) : stxOkB t = (lookX 20 1500 1 (fun _ => t)).isSome := by
  unfold stxOkB
  rw [lookX_eq, look_datsB]
  simp only [allX, Bool.true_and]
  cases t.setsB <;> simp
end Go.Proofs.YtlclfmjpnchmbaaGreat
