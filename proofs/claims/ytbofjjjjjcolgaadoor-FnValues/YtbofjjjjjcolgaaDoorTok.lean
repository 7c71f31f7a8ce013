/- Plain facts on the words of a text: which text is a word's digits, which is a name, and the tokens of a text, byte by byte. No conditions. -/
import Derived.Test.YtbofjjjjjcolgaaDoorPlainNumber
import Derived.Laws.RangeAny
import Derived.Lib.Strings
namespace Go.Proofs.YtbofjjjjjcolgaaDoor

/-- The number that a text spells, with a minus ahead or without. -/
def sval (l : List UInt8) : Int := if l.head? = some 45 then -(val l.tail : Int) else val l

/-- The word of which the text is the digits. -/
def wordV (l : List UInt8) : Option Int :=
  if -1073741824 ≤ sval l ∧ sval l ≤ 1073741823 ∧ Lib.itoa (sval l) = l then some (sval l) else none

theorem itoa_neg (n : Int) (h : n < 0) : Lib.itoa n = 45 :: Lib.decDigits n.natAbs := by
  unfold Lib.itoa
  rw [if_pos h]

theorem head_decDigits (v : Nat) : (Lib.decDigits v).head? ≠ some 45 := by
  intro h
  have hm : (45 : UInt8) ∈ Lib.decDigits v := List.mem_of_mem_head? h
  have := dig_decDigits v 45 hm
  unfold isDig at this
  simp at this

theorem sval_itoa (v : Int) : sval (Lib.itoa v) = v := by
  unfold sval
  by_cases h : v < 0
  · rw [itoa_neg v h]
    simp only [List.head?_cons, if_true, List.tail_cons, val_decDigits]
    omega
  · rw [itoa_val v (by omega), if_neg (head_decDigits _), val_decDigits]
    omega

theorem wordV_of {l : List UInt8} {v : Int} (h0 : -1073741824 ≤ v) (h1 : v ≤ 1073741823) (h : Lib.itoa v = l) : wordV l = some v := by
  have e : sval l = v := by rw [← h, sval_itoa]
  unfold wordV
  rw [e, if_pos ⟨h0, h1, h⟩]

theorem wordV_some {l : List UInt8} {v : Int} (h : wordV l = some v) : -1073741824 ≤ v ∧ v ≤ 1073741823 ∧ Lib.itoa v = l := by
  unfold wordV at h
  split at h
  · rename_i hc
    injection h with h
    rw [← h]; exact hc
  · cases h

theorem wordV_none {l : List UInt8} (h : ∀ v, -1073741824 ≤ v → v ≤ 1073741823 → Lib.itoa v ≠ l) : wordV l = none := by
  cases e : wordV l with
  | none => rfl
  | some v => obtain ⟨h0, h1, h2⟩ := wordV_some e; exact absurd h2 (h v h0 h1)

theorem atoi_itoa (v : Int) (h0 : -1073741824 ≤ v) (h1 : v ≤ 1073741823) : Lib.atoiAll (Lib.itoa v) = .ok v := by
  by_cases h : v < 0
  · rw [itoa_neg v h]
    have hl := len_decDigits 9 v.natAbs (by omega)
    have hp0 := len_pos_decDigits v.natAbs
    have hd := dig_decDigits v.natAbs
    have hv := val_decDigits v.natAbs
    generalize Lib.decDigits v.natAbs = r at *
    have hp := parse_digits r 0 0 (by omega) (by omega) hd
    have hm : Lib.parseMag r = .ok v.natAbs := by
      unfold Lib.parseMag
      rw [if_neg (by intro e; rw [e] at hp0; simp at hp0), hp]
      exact congrArg _ hv
    unfold Lib.atoiAll
    simp only
    rw [if_pos (by decide), hm]
    simp only
    rw [if_neg (by simp), if_neg (by omega), if_pos (by decide)]
    congr 1; omega
  · rw [itoa_val v (by omega)]
    have := atoi_num (numB_mk v.toNat (by omega))
    rw [this, val_decDigits]
    congr 1; omega

theorem numB_wordV (l : List UInt8) : (numB l = true ↔ ∃ v, wordV l = some v ∧ 0 ≤ v) ∧ (∀ v, wordV l = some v → 0 ≤ v → (val l : Int) = v) := by
  constructor
  · constructor
    · intro h
      obtain ⟨h1, h2⟩ := numB_iff.1 h
      exact ⟨val l, wordV_of (by omega) (by omega) (by rw [itoa_val _ (by omega), Int.toNat_natCast, h2]), by omega⟩
    · rintro ⟨v, h, hv⟩
      obtain ⟨h0, h1, h2⟩ := wordV_some h
      rw [itoa_val v hv] at h2
      rw [← h2]; exact numB_mk _ (by omega)
  · intro v h hv
    obtain ⟨h0, h1, h2⟩ := wordV_some h
    rw [itoa_val v hv] at h2
    rw [← h2, val_decDigits]; omega

/-- A sign of a name. -/
def nameB (c : UInt8) : Bool := (97 ≤ c.toNat && c.toNat ≤ 122) || (48 ≤ c.toNat && c.toNat ≤ 57) || ([43, 45, 42, 60, 61, 63, 46, 95] : List UInt8).contains c
def digB (c : UInt8) : Bool := 48 ≤ c.toNat && c.toNat ≤ 57

/-- What begins so is a number or nothing. -/
def begNum : List UInt8 → Bool
  | [] => false
  | c :: r => digB c || (c == 45 && (match r with | [] => false | d :: _ => digB d))

def symB (l : List UInt8) : Bool := decide (1 ≤ l.length) && decide (l.length ≤ 12) && !begNum l && l.all nameB

/-- A sign that parts words: blank, new line, brackets. -/
def partB (c : UInt8) : Bool := c == 32 || c == 10 || c == 40 || c == 41

structure Tok where
  kind : Int
  at_ : Nat
  n : Int
  text : ByteArray

def Tok.cells (t : Tok) : List Value := [.int .i64 t.kind, .int .i64 t.at_, .int .i64 t.n, .string t.text]
def rows (ts : List Tok) : List Value := ts.flatMap Tok.cells

theorem rows_append (a b : List Tok) : rows (a ++ b) = rows a ++ rows b := by simp [rows]
theorem rows_length (ts : List Tok) : (rows ts).length = ts.length * 4 := by
  induction ts with
  | nil => rfl
  | cons t r ih => simp only [rows, List.flatMap_cons, List.length_append, List.length_cons] at ih ⊢; rw [ih]; simp [Tok.cells]; omega

/-- The token of a word that begins at b. -/
def tokOf (x : ByteArray) (b : Nat) : Option Tok :=
  match wordV x.data.toList with
  | some v => some ⟨3, b, v, x⟩
  | none => if symB x.data.toList then some ⟨4, b, 0, x⟩ else none

/-- The token of a bracket. -/
def brack (c : UInt8) (p : Nat) : List Tok := if c == 40 then [⟨1, p, 0, ⟨#[40]⟩⟩] else if c == 41 then [⟨2, p, 0, ⟨#[41]⟩⟩] else []

/-- n bytes are left, from p on; a word has begun at b, if b is not p. -/
def scan (s : ByteArray) : Nat → List Tok → Nat → Nat → List Tok × Int
  | 0, acc, b, p => if b = p then (acc, -1) else match tokOf (s.extract b p) b with | none => ([], b) | some t => (acc ++ [t], -1)
  | n + 1, acc, b, p =>
    if partB (s.get! p) then
      (if b = p then scan s n (acc ++ brack (s.get! p) p) (p + 1) (p + 1)
       else match tokOf (s.extract b p) b with | none => ([], b) | some t => scan s n (acc ++ [t] ++ brack (s.get! p) p) (p + 1) (p + 1))
    else scan s n acc b (p + 1)

def toks (s : ByteArray) : List Tok × Int := if s.size ≤ 4000 then scan s s.size [] 0 0 else ([], 0)

/-- What is left of the scan at p. -/
def rest (s : ByteArray) (acc : List Tok) (b p : Nat) : List Tok × Int := scan s (s.size - p) acc b p

theorem get_bang (s : ByteArray) (p : Nat) (h : p < s.size) : s.get! p = s[p]'h := get_at s p h

theorem rest_start (s : ByteArray) (h : s.size ≤ 4000) : toks s = rest s [] 0 0 := by
  unfold toks rest
  rw [if_pos h]; rfl

theorem rest_part (s : ByteArray) (acc : List Tok) (p : Nat) (h : p < s.size) (hp : partB (s[p]'h) = true) :
    rest s acc p p = rest s (acc ++ brack (s[p]'h) p) (p + 1) (p + 1) := by
  unfold rest
  have e : s.size - p = (s.size - (p + 1)) + 1 := by omega
  rw [e]
  conv => lhs; unfold scan
  rw [get_bang s p h, if_pos hp, if_pos rfl]

theorem rest_other (s : ByteArray) (acc : List Tok) (b p : Nat) (h : p < s.size) (hp : partB (s[p]'h) = false) :
    rest s acc b p = rest s acc b (p + 1) := by
  unfold rest
  have e : s.size - p = (s.size - (p + 1)) + 1 := by omega
  rw [e]
  conv => lhs; unfold scan
  rw [get_bang s p h, if_neg (by simp [hp])]

theorem rest_others (s : ByteArray) (acc : List Tok) (b p k : Nat) (h : p + k ≤ s.size) (hp : ∀ j (hj : j < k), partB (s[p + j]'(by omega)) = false) :
    rest s acc b p = rest s acc b (p + k) := by
  induction k with
  | zero => rfl
  | succ k ih =>
    rw [ih (by omega) (fun j hj => hp j (by omega)), rest_other s acc b (p + k) (by omega) (hp k (by omega))]
    rfl

theorem rest_end (s : ByteArray) (acc : List Tok) (b p : Nat) (hb : b < p) (hp : ∀ h : p < s.size, partB (s[p]'h) = true) :
    rest s acc b p = match tokOf (s.extract b p) b with | none => ([], (b : Int)) | some t => rest s (acc ++ [t]) p p := by
  unfold rest
  by_cases h : p < s.size
  · have e : s.size - p = (s.size - (p + 1)) + 1 := by omega
    rw [e]
    conv => lhs; unfold scan
    rw [get_bang s p h, if_pos (hp h), if_neg (by omega)]
    cases tokOf (s.extract b p) b with
    | none => rfl
    | some t =>
      simp only
      conv => rhs; unfold scan
      rw [get_bang s p h, if_pos (hp h), if_pos rfl]
  · have e : s.size - p = 0 := by omega
    rw [e]
    conv => lhs; unfold scan
    rw [if_neg (by omega)]
    cases tokOf (s.extract b p) b with
    | none => rfl
    | some t =>
      simp only
      conv => rhs; unfold scan
      rw [if_pos rfl]

theorem rest_done (s : ByteArray) (acc : List Tok) : rest s acc s.size s.size = (acc, -1) := by
  unfold rest
  have e : s.size - s.size = 0 := by omega
  rw [e]
  unfold scan
  rw [if_pos rfl]

/-- A sign that is not of one byte is of bytes none of which parts words. -/
theorem decode_wide (s : ByteArray) (p : Nat) (h : p < s.size) (ha : 128 ≤ (s[p]'h).toNat) :
    p + (Utf8.decode s p).2 ≤ s.size ∧ ∀ j, j < (Utf8.decode s p).2 → ∀ (hs : p + j < s.size), 128 ≤ (s[p + j]'hs).toNat := by
  have hn : ¬ (s[p]'h).toNat < 128 := by omega
  have hj0 : ∀ j, j < 1 → ∀ hs : p + j < s.size, 128 ≤ (s[p + j]'hs).toNat := by
    intro j hj hs
    have : j = 0 := by omega
    subst this; exact ha
  have hc : ∀ k (hk : p + k < s.size), ((s.get! (p + k)).toNat / 64 == 2) = true → 128 ≤ (s[p + k]'hk).toNat := by
    intro k hk hx
    rw [get_bang s (p + k) hk] at hx
    simp at hx
    omega
  simp only [Utf8.decode, get_at s p h, hn, if_false]
  repeat' split
  all_goals simp_all only [Bool.and_eq_true, decide_eq_true_eq]
  all_goals refine ⟨by omega, ?_⟩
  all_goals
    intro j hj hs
    first
      | trivial
      | exact hj0 j (by omega) hs
      | (rcases Nat.lt_or_ge j 1 with h1 | h1
         · exact hj0 j (by omega) hs
         · rcases Nat.lt_or_ge j 2 with h2 | h2
           · have : j = 1 := by omega
             subst this; exact hc 1 hs (by simp_all)
           · rcases Nat.lt_or_ge j 3 with h3 | h3
             · have : j = 2 := by omega
               subst this; exact hc 2 hs (by simp_all)
             · have : j = 3 := by omega
               subst this; exact hc 3 hs (by simp_all))

theorem part_high (c : UInt8) (h : 128 ≤ c.toNat) : partB c = false := by
  unfold partB
  have : ∀ d : UInt8, d.toNat < 128 → (c == d) = false := by
    intro d hd
    rw [beq_eq_false_iff_ne]
    rintro rfl; omega
  rw [this 32 (by decide), this 10 (by decide), this 40 (by decide), this 41 (by decide)]; rfl

theorem name_high (c : UInt8) (h : 128 ≤ c.toNat) : nameB c = false := by
  unfold nameB
  have : ∀ d : UInt8, d.toNat < 128 → (c == d) = false := by
    intro d hd
    rw [beq_eq_false_iff_ne]
    rintro rfl; omega
  simp only [List.contains_cons, List.contains_nil]
  rw [this 43 (by decide), this 45 (by decide), this 42 (by decide), this 60 (by decide), this 61 (by decide), this 63 (by decide), this 46 (by decide), this 95 (by decide)]
  simp; omega

theorem rest_rune (s : ByteArray) (acc : List Tok) (b p : Nat) (h : p < s.size) (ha : 128 ≤ (s[p]'h).toNat) :
    rest s acc b p = rest s acc b (p + (Utf8.decode s p).2) := by
  obtain ⟨h1, h2⟩ := decode_wide s p h ha
  exact rest_others s acc b p _ h1 (fun j hj => part_high _ (h2 j hj (by omega)))
end Go.Proofs.YtbofjjjjjcolgaaDoor
