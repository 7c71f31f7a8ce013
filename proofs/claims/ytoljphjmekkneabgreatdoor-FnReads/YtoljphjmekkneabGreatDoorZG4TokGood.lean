/- Plain facts on reading data from tokens. No conditions. -/
import Derived.Test.YtoljphjmekkneabGreatDoorZG0Dat
import Derived.Test.YtoljphjmekkneabGreatDoorZG3Tok
namespace Go.Proofs.YtoljphjmekkneabGreatDoor
open Go.ChangeShapes Go.WideShapes Go.ChangeAt Go.RowKit

/-- What is read: something and what is left, or the place of what does not fit. -/
inductive Rdr (α : Type) where
  | bad (p : Int)
  | ok (a : α) (r : List Tok)

def dNum (t : Tok) : D := .mk 1 t.at_ t.n ⟨#[]⟩ 0 (fun _ => .no)
def dSym (t : Tok) : D := .mk 2 t.at_ 0 t.text 0 (fun _ => .no)
def kidsOf (ds : List D) : Nat → D := fun i => ds.getD i .no
def dList (t : Tok) (ds : List D) : D := .mk 3 t.at_ 0 ⟨#[]⟩ ds.length (kidsOf ds)

/-- Kids up to a bracket that closes. -/
def kidsL (E : Int) (one : List Tok → Rdr D) : Nat → List D → List Tok → Rdr (List D)
  | 0, _, _ => .bad E
  | _ + 1, _, [] => .bad E
  | m + 1, acc, t :: r => if t.kind = 2 then .ok acc r else match one (t :: r) with
    | .bad p => .bad p
    | .ok d r1 => kidsL E one m (acc ++ [d]) r1

def one (E : Int) : Nat → List Tok → Rdr D
  | 0, _ => .bad E
  | _ + 1, [] => .bad E
  | f + 1, t :: r =>
    if t.kind = 3 then .ok (dNum t) r else if t.kind = 4 then .ok (dSym t) r else if t.kind = 2 then .bad t.at_
    else match kidsL E (one E f) (r.length + 1) [] r with
      | .bad p => .bad p
      | .ok ds r1 => .ok (dList t ds) r1

/-- All that is left. -/
def restL (one : List Tok → Rdr D) : Nat → List D → List Tok → Rdr (List D)
  | 0, acc, _ => .ok acc []
  | _ + 1, acc, [] => .ok acc []
  | m + 1, acc, t :: r => match one (t :: r) with
    | .bad p => .bad p
    | .ok d r1 => restL one m (acc ++ [d]) r1

/-- What is left is less. -/
def Less (one : List Tok → Rdr D) : Prop := ∀ l d r, one l = .ok d r → r.length < l.length ∧ ∃ a, l = a ++ r

theorem kidsL_less {E : Int} {o : List Tok → Rdr D} (ho : Less o) : ∀ (m : Nat) (acc : List D) (l : List Tok) (ds : List D) (r : List Tok), kidsL E o m acc l = .ok ds r → r.length < l.length ∧ ∃ a, l = a ++ r := by
  intro m
  induction m with
  | zero => intro acc l ds r h; simp [kidsL] at h
  | succ m ih =>
    intro acc l ds r h
    cases l with
    | nil => simp [kidsL] at h
    | cons t l =>
      unfold kidsL at h
      split at h
      · injection h with h1 h2
        subst h2
        exact ⟨by simp, [t], rfl⟩
      · cases e : o (t :: l) with
        | bad p => rw [e] at h; simp at h
        | ok d r1 =>
          rw [e] at h
          obtain ⟨h1, a, ha⟩ := ho _ _ _ e
          obtain ⟨h2, b, hb⟩ := ih _ _ _ _ h
          exact ⟨by omega, a ++ b, by rw [ha, hb]; simp⟩

theorem one_less (E : Int) : ∀ f, Less (one E f) := by
  intro f
  induction f with
  | zero => intro l d r h; simp [one] at h
  | succ f ih =>
    intro l d r h
    cases l with
    | nil => simp [one] at h
    | cons t l =>
      unfold one at h
      split at h
      · injection h with h1 h2; subst h2; exact ⟨by simp, [t], rfl⟩
      · split at h
        · injection h with h1 h2; subst h2; exact ⟨by simp, [t], rfl⟩
        · split at h
          · simp at h
          · cases e : kidsL E (one E f) (l.length + 1) [] l with
            | bad p => rw [e] at h; simp at h
            | ok ds r1 =>
              rw [e] at h
              simp only at h
              injection h with h1 h2
              subst h2
              obtain ⟨h3, a, ha⟩ := kidsL_less ih _ _ _ _ _ e
              exact ⟨by simp; omega, t :: a, by rw [ha]; rfl⟩

/-- The data of a text's tokens, or the place of what does not fit. -/
def readL (E : Int) (ts : List Tok) : Rdr (List D) := restL (one E (ts.length + 1)) (ts.length + 1) [] ts

/-- How many a datum has of tokens at the most. -/
theorem sumTo_kids (ds : List D) (f : D → Nat) : ∀ k, k ≤ ds.length → sumTo (fun i => f (kidsOf ds i)) k = ((ds.take k).map f).sum := by
  intro k
  induction k with
  | zero => intro _; simp [sumTo]
  | succ k ih =>
    intro h
    have hk : k < ds.length := by omega
    simp only [sumTo]
    rw [ih (by omega), List.take_succ_eq_append_getElem hk, List.map_append, List.sum_append]
    congr 1
    simp [kidsOf, List.getD, List.getElem?_eq_getElem hk]
theorem sumTo_all (ds : List D) (f : D → Nat) : sumTo (fun i => f (kidsOf ds i)) ds.length = (ds.map f).sum := by
  have := sumTo_kids ds f ds.length (Nat.le_refl _)
  rw [List.take_length] at this
  exact this
end Go.Proofs.YtoljphjmekkneabGreatDoor

/- Plain facts on the tokens of a text: each stands where it is told, one behind the other; a name is a name, a number's text its digits. No conditions. -/
namespace Go.Proofs.YtoljphjmekkneabGreatDoor

/-- A token stands where it is told. -/
structure Stands (s : ByteArray) (t : Tok) : Prop where
  fit : t.at_ + t.text.size ≤ s.size
  pos : 1 ≤ t.text.size
  text : s.extract t.at_ (t.at_ + t.text.size) = t.text
  sym : t.kind = 4 → symB t.text.data.toList = true
  num : t.kind = 3 → -1073741824 ≤ t.n ∧ t.n ≤ 1073741823 ∧ Lib.itoa t.n = t.text.data.toList
  n : -1073741824 ≤ t.n ∧ t.n ≤ 1073741823
  kind : 1 ≤ t.kind ∧ t.kind ≤ 4

/-- Where the tokens ahead of number i end. -/
def endAt (ts : List Tok) (i : Nat) : Nat := if i = 0 then 0 else match ts[i - 1]? with | some t => t.at_ + t.text.size | none => 0

def Chain (s : ByteArray) (ts : List Tok) : Prop := ∀ i t, ts[i]? = some t → endAt ts i ≤ t.at_ ∧ Stands s t

theorem endAt_append (ts r : List Tok) (i : Nat) (h : i ≤ ts.length) : endAt (ts ++ r) i = endAt ts i := by
  unfold endAt
  split
  · rfl
  · rw [List.getElem?_append_left (by omega)]

theorem endAt_snoc (ts : List Tok) (t : Tok) : endAt (ts ++ [t]) (ts ++ [t]).length = t.at_ + t.text.size := by
  unfold endAt
  rw [if_neg (by simp)]
  simp

theorem Chain.snoc {s : ByteArray} {ts : List Tok} (h : Chain s ts) {t : Tok} (he : endAt ts ts.length ≤ t.at_) (ht : Stands s t) : Chain s (ts ++ [t]) := by
  intro i u hu
  rcases Nat.lt_trichotomy i ts.length with hi | hi | hi
  · rw [List.getElem?_append_left hi] at hu
    rw [endAt_append _ _ _ (by omega)]
    exact h i u hu
  · subst hi
    simp at hu
    subst hu
    rw [endAt_append _ _ _ (by omega)]
    exact ⟨he, ht⟩
  · rw [List.getElem?_eq_none (by simp; omega)] at hu
    cases hu

theorem size_extract' (s : ByteArray) (b p : Nat) (hb : b ≤ p) (hp : p ≤ s.size) : (s.extract b p).size = p - b := by
  simp; omega

theorem stands_word {s : ByteArray} {b p : Nat} (hb : b < p) (hp : p ≤ s.size) {t : Tok} (h : tokOf (s.extract b p) b = some t) : Stands s t ∧ t.at_ = b ∧ t.at_ + t.text.size = p := by
  have hsz := size_extract' s b p (by omega) hp
  unfold tokOf at h
  cases e : wordV (s.extract b p).data.toList with
  | some v =>
    rw [e] at h
    simp only [Option.some.injEq] at h
    subst h
    obtain ⟨h0, h1, h2⟩ := wordV_some e
    refine ⟨⟨by simp only [hsz]; omega, by simp only [hsz]; omega, ?_, by simp, fun _ => ⟨h0, h1, h2⟩, ⟨h0, h1⟩, by simp⟩, rfl, by simp only [hsz]; omega⟩
    simp only [hsz]
    congr 1; omega
  | none =>
    rw [e] at h
    simp only at h
    split at h
    · rename_i hs
      simp only [Option.some.injEq] at h
      subst h
      refine ⟨⟨by simp only [hsz]; omega, by simp only [hsz]; omega, ?_, fun _ => hs, by simp, by simp, by simp⟩, rfl, by simp only [hsz]; omega⟩
      simp only [hsz]
      congr 1; omega
    · cases h

theorem extract_one (s : ByteArray) (p : Nat) (h : p < s.size) : s.extract p (p + 1) = ⟨#[s[p]'h]⟩ := by
  apply ByteArray.ext
  rw [ByteArray.data_extract]
  apply Array.ext
  · simp; have : s.size = s.data.size := rfl; omega
  · intro i h1 h2
    have : i = 0 := by simp at h2; omega
    subst this
    simp
    rfl

theorem chain_brack {s : ByteArray} {ts : List Tok} (h : Chain s ts) {p : Nat} (hp : p < s.size) (he : endAt ts ts.length ≤ p) :
    Chain s (ts ++ brack (s[p]'hp) p) ∧ endAt (ts ++ brack (s[p]'hp) p) (ts ++ brack (s[p]'hp) p).length ≤ p + 1 ∧ (ts ++ brack (s[p]'hp) p).length ≤ ts.length + 1 := by
  unfold brack
  split
  · rename_i hc
    have hc : s[p]'hp = 40 := by simpa using hc
    refine ⟨h.snoc he ⟨?_, ?_, ?_, by simp, by simp, by simp, by simp⟩, by rw [endAt_snoc]; exact Nat.le_refl _, by simp⟩
    · show p + 1 ≤ s.size; omega
    · exact Nat.le_refl _
    · show s.extract p (p + 1) = _
      rw [extract_one s p hp, hc]
  · split
    · rename_i hc
      have hc : s[p]'hp = 41 := by simpa using hc
      refine ⟨h.snoc he ⟨?_, ?_, ?_, by simp, by simp, by simp, by simp⟩, by rw [endAt_snoc]; exact Nat.le_refl _, by simp⟩
      · show p + 1 ≤ s.size; omega
      · exact Nat.le_refl _
      · show s.extract p (p + 1) = _
        rw [extract_one s p hp, hc]
    · simp only [List.append_nil]
      exact ⟨h, by omega, by omega⟩

theorem scan_good (s : ByteArray) (n : Nat) : ∀ (acc : List Tok) (b p : Nat), n = s.size - p → b ≤ p → p ≤ s.size → endAt acc acc.length ≤ b → acc.length ≤ b → Chain s acc →
    Chain s (scan s n acc b p).1 ∧ (scan s n acc b p).1.length ≤ s.size ∧ ((scan s n acc b p).2 = -1 ∨ ((scan s n acc b p).1 = [] ∧ 0 ≤ (scan s n acc b p).2 ∧ (scan s n acc b p).2 ≤ s.size)) := by
  induction n with
  | zero =>
    intro acc b p hn hb hp he hl hc
    unfold scan
    split
    · exact ⟨hc, by simp only []; omega, .inl rfl⟩
    · cases e : tokOf (s.extract b p) b with
      | none => exact ⟨by intro i t h; simp at h, by simp, .inr ⟨rfl, by simp only []; omega, by simp only []; omega⟩⟩
      | some t =>
        obtain ⟨h1, h2, h3⟩ := stands_word (by omega) hp e
        refine ⟨hc.snoc (by omega) h1, by simp only [List.length_append, List.length_singleton]; omega, .inl rfl⟩
  | succ n ih =>
    intro acc b p hn hb hp he hl hc
    have hlt : p < s.size := by omega
    unfold scan
    rw [get_bang s p hlt]
    split
    · split
      · obtain ⟨h1, h2, h3⟩ := chain_brack hc hlt (by omega)
        exact ih _ _ _ (by omega) (by omega) (by omega) (by omega) (by omega) h1
      · cases e : tokOf (s.extract b p) b with
        | none => exact ⟨by intro i t h; simp at h, by simp, .inr ⟨rfl, by simp only []; omega, by simp only []; omega⟩⟩
        | some t =>
          obtain ⟨h1, h2, h3⟩ := stands_word (by omega) hp e
          have hc2 := hc.snoc (by omega) h1
          have he2 := endAt_snoc acc t
          have hl2 : (acc ++ [t]).length = acc.length + 1 := by simp
          obtain ⟨h4, h5, h6⟩ := chain_brack hc2 hlt (by omega)
          exact ih _ _ _ (by omega) (by omega) (by omega) (by omega) (by omega) h4
    · exact ih _ _ _ (by omega) (by omega) (by omega) he hl hc

theorem toks_good (s : ByteArray) : Chain s (toks s).1 ∧ (toks s).1.length ≤ 4000 ∧ ((toks s).2 = -1 ∨ ((toks s).1 = [] ∧ 0 ≤ (toks s).2 ∧ (toks s).2 ≤ 4000)) := by
  unfold toks
  split
  · obtain ⟨h1, h2, h3⟩ := scan_good s s.size [] 0 0 (by omega) (by omega) (by omega) (by simp [endAt]) (by simp) (by intro i t h; simp at h)
    refine ⟨h1, by omega, ?_⟩
    rcases h3 with h3 | ⟨h3, h4, h5⟩
    · exact .inl h3
    · exact .inr ⟨h3, h4, by omega⟩
  · exact ⟨by intro i t h; simp at h, by simp, .inr ⟨rfl, by simp, by simp⟩⟩

theorem part_cases {c : UInt8} (h : partB c = true) : c.toNat = 32 ∨ c.toNat = 10 ∨ c = 40 ∨ c = 41 := by
  unfold partB at h
  simp only [Bool.or_eq_true, beq_iff_eq] at h
  rcases h with ((h | h) | h) | h
  · left; rw [h]; rfl
  · right; left; rw [h]; rfl
  · right; right; left; exact h
  · right; right; right; exact h

theorem part_no {c : UInt8} (h : partB c = false) : c.toNat ≠ 32 ∧ c.toNat ≠ 10 ∧ c.toNat ≠ 40 ∧ c.toNat ≠ 41 := by
  have key : ∀ d : UInt8, partB d = true → c.toNat ≠ d.toNat := by
    intro d hd e
    have : c = d := UInt8.toNat_inj.1 e
    subst this
    rw [hd] at h; cases h
  exact ⟨key 32 (by decide), key 10 (by decide), key 40 (by decide), key 41 (by decide)⟩

theorem brack_blank {c : UInt8} (h : c.toNat = 32 ∨ c.toNat = 10) (p : Nat) : brack c p = [] := by
  unfold brack
  have key : ∀ d : UInt8, d.toNat ≠ 32 → d.toNat ≠ 10 → (c == d) = false := by
    intro d h1 h2
    rw [beq_eq_false_iff_ne]
    rintro rfl; omega
  rw [key 40 (by decide) (by decide), key 41 (by decide) (by decide)]; rfl
end Go.Proofs.YtoljphjmekkneabGreatDoor
