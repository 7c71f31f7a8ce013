/- What is written, as a tree, and how it lies in memory. No conditions. -/
import Derived.Test.YtaflnjhknnnaoaaZG0Ints
import Derived.Deep.Slices
import Derived.Laws.ResultCell
namespace Go.Proofs.Ytaflnjhknnnaoaa
open Go.ChangeShapes Go.WideShapes Go.ChangeAt Go.RowKit

/-- Syntax: its op, place, number and text, its set, and its kids by their index. -/
inductive X where
  | no
  | mk (op at_ n : Int) (s : ByteArray) (set : List Int) (len : Nat) (kid : Nat → X)

namespace X
def op : X → Int | .no => 0 | .mk x _ _ _ _ _ _ => x
def at_ : X → Int | .no => 0 | .mk _ x _ _ _ _ _ => x
def n : X → Int | .no => 0 | .mk _ _ x _ _ _ _ => x
def s : X → ByteArray | .no => ⟨#[]⟩ | .mk _ _ _ x _ _ _ => x
def set : X → List Int | .no => [] | .mk _ _ _ _ x _ _ => x
def len : X → Nat | .no => 0 | .mk _ _ _ _ _ x _ => x
def kid : X → Nat → X | .no => fun _ => .no | .mk _ _ _ _ _ _ x => x
end X
instance : Inhabited X := ⟨.no⟩

/-- The sum of the first k. -/
def sumX (f : Nat → Nat) : Nat → Nat
  | 0 => 0
  | k + 1 => sumX f k + f k
theorem sumX_le (f : Nat → Nat) (j k : Nat) (h : j ≤ k) : sumX f j ≤ sumX f k := by
  induction k with
  | zero => simp at h; subst h; exact Nat.le_refl _
  | succ k ih =>
    rcases Nat.lt_or_ge j (k + 1) with h1 | h1
    · have := ih (by omega); simp only [sumX]; omega
    · have : j = k + 1 := by omega
      subst this; exact Nat.le_refl _
theorem sumX_at (f : Nat → Nat) (j k : Nat) (h : j < k) : sumX f j + f j ≤ sumX f k := sumX_le f (j + 1) k h

/-- How much of it there is, itself among it. -/
def X.count : X → Nat | .no => 1 | .mk _ _ _ _ _ len kid => 1 + sumX (fun i => (kid i).count) len
/-- What is reckoned of it: the text's bytes, the set's numbers and how many kids there are, all through. -/
def X.weight : X → Nat | .no => 0 | .mk _ _ _ s set len kid => s.size + (set.length + (len + sumX (fun i => (kid i).weight) len))
def kidsWeightX (len : Nat) (kid : Nat → X) : Nat := len + sumX (fun i => (kid i).weight) len
theorem X.weight_eq (t : X) : t.weight = t.s.size + (t.set.length + kidsWeightX t.len t.kid) := by cases t <;> rfl
theorem X.count_eq (t : X) : t.count = 1 + sumX (fun i => (t.kid i).count) t.len := by cases t <;> rfl
theorem X.count_weight (t : X) : t.count ≤ 1 + t.weight := by
  induction t with
  | no => simp [count]
  | mk op a n s set len kid ih =>
    unfold count weight
    have : ∀ k, sumX (fun i => (kid i).count) k ≤ k + sumX (fun i => (kid i).weight) k := by
      intro k
      induction k with
      | zero => simp [sumX]
      | succ k ihk => simp only [sumX]; have := ih k; omega
    have := this len
    omega

/-- Six cells from p on. -/
structure Head6 (w : World) (b p : Nat) (t : X) (sv v : Value) : Prop where
  c0 : w.cell? ⟨b, p, none⟩ = some (.int .i64 t.op)
  c1 : w.cell? ⟨b, p + 1, none⟩ = some (.int .i64 t.at_)
  c2 : w.cell? ⟨b, p + 2, none⟩ = some (.int .i64 t.n)
  c3 : w.cell? ⟨b, p + 3, none⟩ = some (.string t.s)
  c4 : w.cell? ⟨b, p + 4, none⟩ = some sv
  c5 : w.cell? ⟨b, p + 5, none⟩ = some v

/-- sv and v are the slices of its set (as R says) and of its kids, which lie in w, from block B on. -/
def X.InB (R : World → Value → List Int → Prop) (B : Nat) (w : World) : X → Value → Value → Prop
  | .no, _, _ => False
  | .mk _ _ n s set len kid, sv, v => (s.size ≤ maxLen ∧ (-9223372036854775808 ≤ n ∧ n ≤ 9223372036854775807) ∧ set.length ≤ maxLen) ∧ R w sv set ∧
    ((len = 0 ∧ ∃ p cap, v = .slice p 0 cap) ∨
     ∃ (b o cap : Nat) (U V : Nat → Value), v = .slice (some ⟨b, o, none⟩) len cap ∧ B ≤ b ∧ len ≤ cap ∧ cap ≤ maxLen ∧
       ∀ i, i < len → Head6 w b (o + i * 6) (kid i) (U i) (V i) ∧ (kid i).InB R B w (U i) (V i))

/-- A slice of syntax that lies in w, from block B on. -/
def XsB (R : World → Value → List Int → Prop) (B : Nat) (w : World) (len : Nat) (kid : Nat → X) (v : Value) : Prop :=
  (len = 0 ∧ ∃ p cap, v = .slice p 0 cap) ∨
   ∃ (b o cap : Nat) (U V : Nat → Value), v = .slice (some ⟨b, o, none⟩) len cap ∧ B ≤ b ∧ len ≤ cap ∧ cap ≤ maxLen ∧
     ∀ i, i < len → Head6 w b (o + i * 6) (kid i) (U i) (V i) ∧ (kid i).InB R B w (U i) (V i)

theorem X.InB.xs {R : World → Value → List Int → Prop} {B : Nat} {w : World} {t : X} {sv v : Value} (h : t.InB R B w sv v) : XsB R B w t.len t.kid v := by
  cases t <;> unfold X.InB at h <;> first | exact h.elim | exact h.2.2
theorem X.InB.sets {R : World → Value → List Int → Prop} {B : Nat} {w : World} {t : X} {sv v : Value} (h : t.InB R B w sv v) : R w sv t.set := by
  cases t <;> unfold X.InB at h <;> first | exact h.elim | exact h.2.1
theorem X.InB.size {R : World → Value → List Int → Prop} {B : Nat} {w : World} {t : X} {sv v : Value} (h : t.InB R B w sv v) : t.s.size ≤ maxLen := by
  cases t <;> unfold X.InB at h <;> first | exact h.elim | exact h.1.1
theorem X.InB.num {R : World → Value → List Int → Prop} {B : Nat} {w : World} {t : X} {sv v : Value} (h : t.InB R B w sv v) : -9223372036854775808 ≤ t.n ∧ t.n ≤ 9223372036854775807 := by
  cases t <;> unfold X.InB at h <;> first | exact h.elim | exact h.1.2.1
theorem X.InB.setLen {R : World → Value → List Int → Prop} {B : Nat} {w : World} {t : X} {sv v : Value} (h : t.InB R B w sv v) : t.set.length ≤ maxLen := by
  cases t <;> unfold X.InB at h <;> first | exact h.elim | exact h.1.2.2
theorem X.InB.mk' {R : World → Value → List Int → Prop} {B : Nat} {w : World} {op a n : Int} {s : ByteArray} {set : List Int} {len : Nat} {kid : Nat → X} {sv v : Value} (h0 : s.size ≤ maxLen) (h1 : -9223372036854775808 ≤ n ∧ n ≤ 9223372036854775807) (h2 : set.length ≤ maxLen) (hs : R w sv set) (h : XsB R B w len kid v) : (X.mk op a n s set len kid).InB R B w sv v := by
  unfold X.InB; exact ⟨⟨h0, h1, h2⟩, hs, h⟩

theorem XsB.shape {R : World → Value → List Int → Prop} {B : Nat} {w : World} {len : Nat} {kid : Nat → X} {v : Value} (h : XsB R B w len kid v) : ∃ p cap, v = .slice p len cap := by
  rcases h with ⟨rfl, p, cap, rfl⟩ | ⟨b, o, cap, U, V, rfl, _⟩
  · exact ⟨_, _, rfl⟩
  · exact ⟨_, _, rfl⟩

/-- Memory that is kept keeps what lies in it. -/
theorem Head6.kept {w w' : World} {b p : Nat} {t : X} {sv v : Value} (h : Head6 w b p t sv v) (hk : ∀ a u, a.block = b → w.cell? a = some u → w'.cell? a = some u) : Head6 w' b p t sv v :=
  ⟨hk _ _ rfl h.c0, hk _ _ rfl h.c1, hk _ _ rfl h.c2, hk _ _ rfl h.c3, hk _ _ rfl h.c4, hk _ _ rfl h.c5⟩

theorem X.InB.kept {R R' : World → Value → List Int → Prop} {B B' : Nat} {w w' : World} (hB : B' ≤ B) (hk : ∀ a u, B ≤ a.block → w.cell? a = some u → w'.cell? a = some u) (hR : ∀ v xs, R w v xs → R' w' v xs) (t : X) : ∀ {sv v : Value}, t.InB R B w sv v → t.InB R' B' w' sv v := by
  induction t with
  | no => intro sv v h; exact h.elim
  | mk op a n s set len kid ih =>
    intro sv v h
    unfold X.InB at h ⊢
    refine ⟨h.1, hR _ _ h.2.1, ?_⟩
    rcases h.2.2 with h0 | ⟨b, o, cap, U, V, h1, hb, h2, h3, h4⟩
    · exact .inl h0
    · exact .inr ⟨b, o, cap, U, V, h1, by omega, h2, h3, fun i hi => ⟨(h4 i hi).1.kept (fun a u ha => hk a u (by omega)), ih i (h4 i hi).2⟩⟩
theorem XsB.kept {R R' : World → Value → List Int → Prop} {B B' : Nat} {w w' : World} (hB : B' ≤ B) (hk : ∀ a u, B ≤ a.block → w.cell? a = some u → w'.cell? a = some u) (hR : ∀ v xs, R w v xs → R' w' v xs) {len : Nat} {kid : Nat → X} {v : Value} (h : XsB R B w len kid v) : XsB R' B' w' len kid v := by
  rcases h with h0 | ⟨b, o, cap, U, V, h1, hb, h2, h3, h4⟩
  · exact .inl h0
  · exact .inr ⟨b, o, cap, U, V, h1, by omega, h2, h3, fun i hi => ⟨(h4 i hi).1.kept (fun a u ha => hk a u (by omega)), X.InB.kept hB hk hR _ (h4 i hi).2⟩⟩

theorem keepsX {w w' : World} (hb : Below w.heap.size w w') (a : Addr) (u : Value) (h : w.cell? a = some u) : w'.cell? a = some u :=
  (hb.cell (World.block_lt_of_cell? w a h)).trans h
theorem Head6.below {w w' : World} (hb : Below w.heap.size w w') {b p : Nat} {t : X} {sv v : Value} (h : Head6 w b p t sv v) : Head6 w' b p t sv v := h.kept (fun a u _ => keepsX hb a u)

/-- How a set lies: to be read, its first cells alone known. -/
def SetR (w : World) (v : Value) (xs : List Int) : Prop :=
  ∃ a cap, v = .slice a xs.length cap ∧ ∀ j, j < xs.length → ∃ b off, a = some ⟨b, off, none⟩ ∧ w.cell? ⟨b, off + j, none⟩ = some (.int .i64 (xs.getD j 0))
/-- .. in a row from block B on. -/
def SetB (B : Nat) (w : World) (v : Value) (xs : List Int) : Prop :=
  (v = .slice none 0 0 ∧ xs = []) ∨ ∃ b off cap, v = .slice (some ⟨b, off, none⟩) xs.length cap ∧ B ≤ b ∧ xs.length ≤ cap ∧ ∀ j, j < xs.length → w.cell? ⟨b, off + j, none⟩ = some (.int .i64 (xs.getD j 0))

theorem SetB.rd {B : Nat} {w : World} {v : Value} {xs : List Int} (h : SetB B w v xs) : Rd w v xs := by
  rcases h with h | ⟨b, off, cap, h1, _, h2, h3⟩
  · exact .inl h
  · exact .inr ⟨b, off, cap, h1, h2, h3⟩
theorem SetB.r {B : Nat} {w : World} {v : Value} {xs : List Int} (h : SetB B w v xs) : SetR w v xs := h.rd.shape
theorem SetB.kept {B B' : Nat} {w w' : World} (hB : B' ≤ B) (hk : ∀ a u, B ≤ a.block → w.cell? a = some u → w'.cell? a = some u) {v : Value} {xs : List Int} (h : SetB B w v xs) : SetB B' w' v xs := by
  rcases h with h | ⟨b, off, cap, h1, hb, h2, h3⟩
  · exact .inl h
  · exact .inr ⟨b, off, cap, h1, by omega, h2, fun j hj => hk _ _ (by exact hb) (h3 j hj)⟩
theorem SetR.below {w w' : World} (hb : Below w.heap.size w w') {v : Value} {xs : List Int} (h : SetR w v xs) : SetR w' v xs := by
  obtain ⟨a, cap, rfl, hc⟩ := h
  refine ⟨a, cap, rfl, fun j hj => ?_⟩
  obtain ⟨b, off, e, h⟩ := hc j hj
  exact ⟨b, off, e, keepsX hb _ _ h⟩
theorem SetR.shape {w : World} {v : Value} {xs : List Int} (h : SetR w v xs) : ∃ p cap, v = .slice p xs.length cap := by
  obtain ⟨a, cap, e, _⟩ := h
  exact ⟨a, cap, e⟩
theorem SetB.shape {B : Nat} {w : World} {v : Value} {xs : List Int} (h : SetB B w v xs) : ∃ p cap, v = .slice p xs.length cap := h.r.shape
theorem Own.setB {w : World} {base B : Nat} {v : Value} {xs : List Int} (h : Own w base v xs) (hB : B ≤ base) : SetB B w v xs := by
  have h' := h
  rcases h.2 with ⟨rfl, hn⟩ | ⟨g, cap, cur, rfl, hbg, hg, hnc, _⟩
  · exact .inl ⟨rfl, List.eq_nil_of_length_eq_zero hn⟩
  · refine .inr ⟨g, 0, cap, rfl, by omega, hnc, fun j hj => ?_⟩
    rw [Nat.zero_add, World.ownsRow.cellAt h' j (by omega)]
    simp [List.getElem?_eq_getElem hj]

/-- Syntax that came in; syntax whose sets lie as rows do, from block B on; and slices of them. -/
abbrev X.Of (w : World) (t : X) (sv v : Value) : Prop := t.InB SetR 0 w sv v
abbrev X.At (B : Nat) (w : World) (t : X) (sv v : Value) : Prop := t.InB (SetB B) B w sv v
abbrev XsOf (w : World) (len : Nat) (kid : Nat → X) (v : Value) : Prop := XsB SetR 0 w len kid v
abbrev XsAt (B : Nat) (w : World) (len : Nat) (kid : Nat → X) (v : Value) : Prop := XsB (SetB B) B w len kid v

theorem X.Of.below {w w' : World} (hb : Below w.heap.size w w') {t : X} {sv v : Value} (h : t.Of w sv v) : t.Of w' sv v := X.InB.kept (Nat.le_refl _) (fun a u _ => keepsX hb a u) (fun _ _ h => h.below hb) t h
theorem XsOf.below {w w' : World} (hb : Below w.heap.size w w') {len : Nat} {kid : Nat → X} {v : Value} (h : XsOf w len kid v) : XsOf w' len kid v := XsB.kept (Nat.le_refl _) (fun a u _ => keepsX hb a u) (fun _ _ h => h.below hb) h
theorem X.At.kept {B B' : Nat} {w w' : World} (hB : B' ≤ B) (hk : ∀ a u, B ≤ a.block → w.cell? a = some u → w'.cell? a = some u) {t : X} {sv v : Value} (h : t.At B w sv v) : t.At B' w' sv v := X.InB.kept hB hk (fun _ _ h => h.kept hB hk) t h
theorem XsAt.kept {B B' : Nat} {w w' : World} (hB : B' ≤ B) (hk : ∀ a u, B ≤ a.block → w.cell? a = some u → w'.cell? a = some u) {len : Nat} {kid : Nat → X} {v : Value} (h : XsAt B w len kid v) : XsAt B' w' len kid v := XsB.kept hB hk (fun _ _ h => h.kept hB hk) h
theorem X.At.below {B : Nat} {w w' : World} (hb : Below w.heap.size w w') {t : X} {sv v : Value} (h : t.At B w sv v) : t.At B w' sv v := X.At.kept (Nat.le_refl _) (fun a u _ => keepsX hb a u) h
theorem XsAt.below {B : Nat} {w w' : World} (hb : Below w.heap.size w w') {len : Nat} {kid : Nat → X} {v : Value} (h : XsAt B w len kid v) : XsAt B w' len kid v := XsAt.kept (Nat.le_refl _) (fun a u _ => keepsX hb a u) h
theorem X.At.mono {B B' : Nat} {w : World} (hB : B' ≤ B) {t : X} {sv v : Value} (h : t.At B w sv v) : t.At B' w sv v := X.At.kept hB (fun _ _ _ h => h) h
theorem XsAt.mono {B B' : Nat} {w : World} (hB : B' ≤ B) {len : Nat} {kid : Nat → X} {v : Value} (h : XsAt B w len kid v) : XsAt B' w len kid v := XsAt.kept hB (fun _ _ _ h => h) h
theorem X.At.of {B : Nat} {w : World} {t : X} {sv v : Value} (h : t.At B w sv v) : t.Of w sv v := X.InB.kept (Nat.zero_le _) (fun _ _ _ h => h) (fun _ _ h => h.r) t h
theorem XsAt.of {B : Nat} {w : World} {len : Nat} {kid : Nat → X} {v : Value} (h : XsAt B w len kid v) : XsOf w len kid v := XsB.kept (Nat.zero_le _) (fun _ _ _ h => h) (fun _ _ h => h.r) h

/-- What is told of a slice of syntax, by index. -/
theorem XsB.at {R : World → Value → List Int → Prop} {B : Nat} {w : World} {len : Nat} {kid : Nat → X} {v : Value} (h : XsB R B w len kid v) : ∃ p cap, v = .slice p len cap ∧ len ≤ maxLen ∧
    ∀ i, i < len → ∃ b o sv u, p = some ⟨b, o, none⟩ ∧ Head6 w b (o + i * 6) (kid i) sv u ∧ (kid i).InB R B w sv u := by
  rcases h with ⟨rfl, p, cap, rfl⟩ | ⟨b, o, cap, U, V, rfl, hB, h1, h2, h3⟩
  · exact ⟨p, cap, rfl, Nat.zero_le _, fun i hi => by omega⟩
  · exact ⟨_, cap, rfl, Nat.le_trans h1 h2, fun i hi => ⟨b, o, U i, V i, rfl, h3 i hi⟩⟩
end Go.Proofs.Ytaflnjhknnnaoaa

/- Plain facts on sets of numbers: flipped twice a set is as it was; with a number it has it, without it not. No conditions but that the list is a set. -/
namespace Go.Proofs.Ytaflnjhknnnaoaa

/-- The same by recursion: each is above what went ahead of it. -/
def ascL : Int → List Int → Prop
  | _, [] => True
  | m, x :: r => m < x ∧ ascL x r

theorem asc_mono {m k : Int} {xs : List Int} (h : ascL m xs) (hk : k ≤ m) : ascL k xs := by
  cases xs with
  | nil => trivial
  | cons x r => exact ⟨by have := h.1; omega, h.2⟩
theorem asc_mem {m : Int} {xs : List Int} (h : ascL m xs) : ∀ x ∈ xs, m < x := by
  induction xs generalizing m with
  | nil => intro x hx; cases hx
  | cons y r ih =>
    intro x hx
    rcases List.mem_cons.1 hx with rfl | hx
    · exact h.1
    · have := ih h.2 x hx; have := h.1; omega

theorem asc_of (xs : List Int) (m : Int) (h : ∀ i, i < xs.length → m < xs.getD i 0 ∧ (0 < i → xs.getD (i - 1) 0 < xs.getD i 0)) : ascL m xs := by
  induction xs generalizing m with
  | nil => trivial
  | cons x r ih =>
    refine ⟨by simpa using (h 0 (by simp)).1, ih x fun i hi => ?_⟩
    have h1 := h (i + 1) (by simpa using hi)
    have h2 := h1.2 (by omega)
    simp only [Nat.add_sub_cancel, List.getD_cons_succ] at h2
    refine ⟨?_, fun h0 => ?_⟩
    · have : ∀ j, j ≤ i → j < r.length → x < r.getD j 0 := by
        intro j
        induction j with
        | zero =>
          intro _ hj
          have := (h 1 (by simp; omega)).2 (by omega)
          simpa using this
        | succ j ihj =>
          intro hj hl
          have a := ihj (by omega) (by omega)
          have b := (h (j + 2) (by simp; omega)).2 (by omega)
          simp only [Nat.add_one_sub_one, List.getD_cons_succ] at b
          omega
      exact this i (Nat.le_refl _) hi
    · obtain ⟨k, rfl⟩ : ∃ k, i = k + 1 := ⟨i - 1, by omega⟩
      simpa using h2

theorem asc_to (xs : List Int) (m : Int) (h : ascL m xs) : ∀ i, i < xs.length → m < xs.getD i 0 ∧ (0 < i → xs.getD (i - 1) 0 < xs.getD i 0) := by
  induction xs generalizing m with
  | nil => intro i hi; simp at hi
  | cons x r ih =>
    intro i hi
    match i with
    | 0 => exact ⟨by simpa using h.1, fun h0 => by omega⟩
    | i + 1 =>
      have hi' : i < r.length := by simpa using hi
      have := ih x h.2 i hi'
      have h1 := h.1
      refine ⟨by simp only [List.getD_cons_succ]; omega, fun _ => ?_⟩
      match i with
      | 0 => simpa using this.1
      | i + 1 => simpa using this.2 (by omega)

theorem set_asc (xs : List Int) : setB xs = true ↔ ascL (-1) xs := by
  constructor
  · intro h
    refine asc_of xs (-1) fun i hi => ?_
    have := set_at h i hi
    unfold standsB at this
    simp only [Bool.and_eq_true, Bool.or_eq_true, decide_eq_true_eq] at this
    exact ⟨by omega, fun h0 => this.2.resolve_left (by omega)⟩
  · intro h
    refine set_yes fun i hi => ?_
    have := asc_to xs (-1) h i hi
    unfold standsB
    simp only [Bool.and_eq_true, Bool.or_eq_true, decide_eq_true_eq]
    refine ⟨by omega, ?_⟩
    by_cases h0 : i = 0
    · exact .inl h0
    · exact .inr (this.2 (by omega))

/-- n put in where it belongs. -/
def insL : List Int → Int → List Int
  | [], n => [n]
  | x :: r, n => if x < n then x :: insL r n else n :: x :: r
theorem ins_place (xs : List Int) (n : Int) : xs.take (placeL xs n) ++ n :: xs.drop (placeL xs n) = insL xs n := by
  induction xs with
  | nil => rfl
  | cons x r ih =>
    unfold placeL insL
    split
    · simp [ih]
    · simp
theorem ins_mem (xs : List Int) (n : Int) : n ∈ insL xs n := by
  induction xs with
  | nil => simp [insL]
  | cons x r ih => unfold insL; split <;> simp [ih]
theorem ins_sub (xs : List Int) (n : Int) : ∀ x ∈ xs, x ∈ insL xs n := by
  induction xs with
  | nil => intro x hx; cases hx
  | cons y r ih =>
    intro x hx
    unfold insL
    split
    · rcases List.mem_cons.1 hx with rfl | hx
      · simp
      · exact List.mem_cons_of_mem _ (ih x hx)
    · exact List.mem_cons_of_mem _ hx
theorem ins_asc {m : Int} {xs : List Int} {n : Int} (h : ascL m xs) (hm : m < n) (hn : n ∉ xs) : ascL m (insL xs n) := by
  induction xs generalizing m with
  | nil => exact ⟨hm, trivial⟩
  | cons x r ih =>
    unfold insL
    have hx : n ≠ x := fun e => hn (by simp [e])
    split
    · rename_i hlt
      exact ⟨h.1, ih h.2 hlt (fun hr => hn (List.mem_cons_of_mem _ hr))⟩
    · exact ⟨hm, by omega, h.2⟩
theorem without_same (ys : List Int) (n : Int) (hy : n ∉ ys) : withoutL ys n = ys := by
  unfold withoutL
  rw [List.filter_eq_self]
  intro x hx
  have : x ≠ n := fun e => hy (by rw [← e]; exact hx)
  simpa using this
theorem without_cons (x n : Int) (r : List Int) (h : x ≠ n) : withoutL (x :: r) n = x :: withoutL r n := by
  unfold withoutL
  rw [List.filter_cons, if_pos (by simpa using h)]
theorem without_head (n : Int) (r : List Int) : withoutL (n :: r) n = withoutL r n := by
  unfold withoutL
  rw [List.filter_cons, if_neg (by simp)]
theorem without_ins {xs : List Int} {n : Int} (hn : n ∉ xs) : withoutL (insL xs n) n = xs := by
  induction xs with
  | nil => simp [insL, withoutL]
  | cons x r ih =>
    have hx : x ≠ n := fun e => hn (by simp [e])
    have hr : n ∉ r := fun hr => hn (List.mem_cons_of_mem _ hr)
    unfold insL
    split
    · rw [without_cons x n _ hx, ih hr]
    · rw [without_head, without_same _ _ hn]
theorem without_mem (xs : List Int) (n x : Int) : x ∈ withoutL xs n ↔ x ∈ xs ∧ x ≠ n := by
  unfold withoutL
  rw [List.mem_filter]
  simp
theorem without_asc {m : Int} {xs : List Int} (n : Int) (h : ascL m xs) : ascL m (withoutL xs n) := by
  induction xs generalizing m with
  | nil => trivial
  | cons x r ih =>
    by_cases hx : x = n
    · subst hx
      rw [without_head]
      exact asc_mono (ih h.2) (by have := h.1; omega)
    · rw [without_cons x n r hx]
      exact ⟨h.1, ih h.2⟩
theorem ins_without {m : Int} {xs : List Int} {n : Int} (h : ascL m xs) (hn : n ∈ xs) : insL (withoutL xs n) n = xs := by
  induction xs generalizing m with
  | nil => cases hn
  | cons x r ih =>
    by_cases hx : x = n
    · subst hx
      have hnr : x ∉ r := fun hr => by have := asc_mem h.2 x hr; omega
      rw [without_head, without_same _ _ hnr]
      cases r with
      | nil => rfl
      | cons y t =>
        unfold insL
        rw [if_neg (by have := h.2.1; omega)]
    · have hr : n ∈ r := by
        rcases List.mem_cons.1 hn with e | hr
        · exact absurd e.symm hx
        · exact hr
      have hlt := asc_mem h.2 n hr
      rw [without_cons x n r hx]
      unfold insL
      rw [if_pos hlt, ih h.2 hr]

theorem with_ins {xs : List Int} {n : Int} (h : hasB xs n = false) : withL xs n = insL xs n := by rw [with_no h, ins_place]
theorem has_not {xs : List Int} {n : Int} (h : hasB xs n = false) : n ∉ xs := fun e => by rw [(has_iff xs n).2 e] at h; cases h
theorem not_has {xs : List Int} {n : Int} (h : n ∉ xs) : hasB xs n = false := by
  cases e : hasB xs n with
  | false => rfl
  | true => exact absurd ((has_iff xs n).1 e) h

theorem flip_set {s : List Int} {n : Int} (h : setB s = true) (hn : 0 ≤ n) : setB (flipL s n) = true := by
  rw [set_asc] at h ⊢
  cases e : hasB s n with
  | true => rw [flip_yes e]; exact without_asc n h
  | false => rw [flip_no e, with_ins e]; exact ins_asc h (by omega) (has_not e)
theorem flip_flip {s : List Int} {n : Int} (h : setB s = true) : flipL (flipL s n) n = s := by
  rw [set_asc] at h
  cases e : hasB s n with
  | true =>
    have e2 : hasB (withoutL s n) n = false := not_has fun hm => ((without_mem s n n).1 hm).2 rfl
    rw [flip_yes e, flip_no e2, with_ins e2, ins_without h ((has_iff s n).1 e)]
  | false =>
    have e2 : hasB (insL s n) n = true := (has_iff _ _).2 (ins_mem s n)
    rw [flip_no e, with_ins e, flip_yes e2, without_ins (has_not e)]
theorem with_has (s : List Int) (n : Int) : withinB [n] (withL s n) = true := by
  have : hasB (withL s n) n = true := by
    cases e : hasB s n with
    | true => rw [with_yes e]; exact e
    | false => rw [with_ins e]; exact (has_iff _ _).2 (ins_mem s n)
  simp [withinB, this]
theorem without_has (s : List Int) (n : Int) : withinB [n] (withoutL s n) = false := by
  have : hasB (withoutL s n) n = false := not_has fun hm => ((without_mem s n n).1 hm).2 rfl
  simp [withinB, this]
theorem without_within (s : List Int) (n : Int) : withinB (withoutL s n) s = true := by
  unfold withinB
  rw [List.all_eq_true]
  intro x hx
  exact (has_iff _ _).2 ((without_mem s n x).1 hx).1
theorem within_with (s : List Int) (n : Int) : withinB s (withL s n) = true := by
  unfold withinB
  rw [List.all_eq_true]
  intro x hx
  cases e : hasB s n with
  | true => rw [with_yes e]; exact (has_iff _ _).2 hx
  | false => rw [with_ins e]; exact (has_iff _ _).2 (ins_sub s n x hx)
end Go.Proofs.Ytaflnjhknnnaoaa
