/- What is written, as a tree, and how it lies in memory. No conditions. -/
import Derived.Test.YtaflnjhknnnaoaaInts
import Derived.Deep.Slices
import Derived.Laws.ResultCell
namespace Go.Proofs.Ytaflnjhknnnaoaa
open Go.ChangeShapes Go.WideShapes Go.ChangeAt Go.RowKit

/-- Syntax: its op, place, number and text, its set, and its kids by their index. -/
inductive X where
  | no
  | mk (op at_ n : Int) (s : ByteArray) (set : List Int) (len : Nat) (kid : Nat → X)

namespace X
def op : X → Int | .no => 0 | .mk x _ _ _ _ _ _ => x
def at_ : X → Int | .no => 0 | .mk _ x _ _ _ _ _ => x
def n : X → Int | .no => 0 | .mk _ _ x _ _ _ _ => x
def s : X → ByteArray | .no => ⟨#[]⟩ | .mk _ _ _ x _ _ _ => x
def set : X → List Int | .no => [] | .mk _ _ _ _ x _ _ => x
def len : X → Nat | .no => 0 | .mk _ _ _ _ _ x _ => x
def kid : X → Nat → X | .no => fun _ => .no | .mk _ _ _ _ _ _ x => x
end X
instance : Inhabited X := ⟨.no⟩

/-- The sum of the first k. -/
def sumX (f : Nat → Nat) : Nat → Nat
  | 0 => 0
  | k + 1 => sumX f k + f k
theorem sumX_le (f : Nat → Nat) (j k : Nat) (h : j ≤ k) : sumX f j ≤ sumX f k := by
  induction k with
  | zero => simp at h; subst h; exact Nat.le_refl _
  | succ k ih =>
    rcases Nat.lt_or_ge j (k + 1) with h1 | h1
    · have := ih (by omega); simp only [sumX]; omega
    · have : j = k + 1 := by omega
      subst this; exact Nat.le_refl _
theorem sumX_at (f : Nat → Nat) (j k : Nat) (h : j < k) : sumX f j + f j ≤ sumX f k := sumX_le f (j + 1) k h

/-- How much of it there is, itself among it. -/
def X.count : X → Nat | .no => 1 | .mk _ _ _ _ _ len kid => 1 + sumX (fun i => (kid i).count) len
/-- What is reckoned of it: the text's bytes, the set's numbers and how many kids there are, all through. -/
def X.weight : X → Nat | .no => 0 | .mk _ _ _ s set len kid => s.size + (set.length + (len + sumX (fun i => (kid i).weight) len))
def kidsWeightX (len : Nat) (kid : Nat → X) : Nat := len + sumX (fun i => (kid i).weight) len
theorem X.weight_eq (t : X) : t.weight = t.s.size + (t.set.length + kidsWeightX t.len t.kid) := by cases t <;> rfl
theorem X.count_eq (t : X) : t.count = 1 + sumX (fun i => (t.kid i).count) t.len := by cases t <;> rfl
theorem X.count_weight (t : X) : t.count ≤ 1 + t.weight := by
  induction t with
  | no => simp [count]
  | mk op a n s set len kid ih =>
    unfold count weight
    have : ∀ k, sumX (fun i => (kid i).count) k ≤ k + sumX (fun i => (kid i).weight) k := by
      intro k
      induction k with
      | zero => simp [sumX]
      | succ k ihk => simp only [sumX]; have := ih k; omega
    have := this len
    omega

/-- Six cells from p on. -/
structure Head6 (w : World) (b p : Nat) (t : X) (sv v : Value) : Prop where
  c0 : w.cell? ⟨b, p, none⟩ = some (.int .i64 t.op)
  c1 : w.cell? ⟨b, p + 1, none⟩ = some (.int .i64 t.at_)
  c2 : w.cell? ⟨b, p + 2, none⟩ = some (.int .i64 t.n)
  c3 : w.cell? ⟨b, p + 3, none⟩ = some (.string t.s)
  c4 : w.cell? ⟨b, p + 4, none⟩ = some sv
  c5 : w.cell? ⟨b, p + 5, none⟩ = some v

/-- sv and v are the slices of its set (as R says) and of its kids, which lie in w, from block B on. -/
def X.InB (R : World → Value → List Int → Prop) (B : Nat) (w : World) : X → Value → Value → Prop
  | .no, _, _ => False
  | .mk _ _ n s set len kid, sv, v => (s.size ≤ maxLen ∧ (-9223372036854775808 ≤ n ∧ n ≤ 9223372036854775807) ∧ set.length ≤ maxLen) ∧ R w sv set ∧
    ((len = 0 ∧ ∃ p cap, v = .slice p 0 cap) ∨
     ∃ (b o cap : Nat) (U V : Nat → Value), v = .slice (some ⟨b, o, none⟩) len cap ∧ B ≤ b ∧ len ≤ cap ∧ cap ≤ maxLen ∧
       ∀ i, i < len → Head6 w b (o + i * 6) (kid i) (U i) (V i) ∧ (kid i).InB R B w (U i) (V i))

/-- A slice of syntax that lies in w, from block B on. -/
def XsB (R : World → Value → List Int → Prop) (B : Nat) (w : World) (len : Nat) (kid : Nat → X) (v : Value) : Prop :=
  (len = 0 ∧ ∃ p cap, v = .slice p 0 cap) ∨
   ∃ (b o cap : Nat) (U V : Nat → Value), v = .slice (some ⟨b, o, none⟩) len cap ∧ B ≤ b ∧ len ≤ cap ∧ cap ≤ maxLen ∧
     ∀ i, i < len → Head6 w b (o + i * 6) (kid i) (U i) (V i) ∧ (kid i).InB R B w (U i) (V i)

theorem X.InB.xs {R : World → Value → List Int → Prop} {B : Nat} {w : World} {t : X} {sv v : Value} (h : t.InB R B w sv v) : XsB R B w t.len t.kid v := by
  cases t <;> unfold X.InB at h <;> first | exact h.elim | exact h.2.2
theorem X.InB.sets {R : World → Value → List Int → Prop} {B : Nat} {w : World} {t : X} {sv v : Value} (h : t.InB R B w sv v) : R w sv t.set := by
  cases t <;> unfold X.InB at h <;> first | exact h.elim | exact h.2.1
theorem X.InB.size {R : World → Value → List Int → Prop} {B : Nat} {w : World} {t : X} {sv v : Value} (h : t.InB R B w sv v) : t.s.size ≤ maxLen := by
  cases t <;> unfold X.InB at h <;> first | exact h.elim | exact h.1.1
theorem X.InB.num {R : World → Value → List Int → Prop} {B : Nat} {w : World} {t : X} {sv v : Value} (h : t.InB R B w sv v) : -9223372036854775808 ≤ t.n ∧ t.n ≤ 9223372036854775807 := by
  cases t <;> unfold X.InB at h <;> first | exact h.elim | exact h.1.2.1
theorem X.InB.setLen {R : World → Value → List Int → Prop} {B : Nat} {w : World} {t : X} {sv v : Value} (h : t.InB R B w sv v) : t.set.length ≤ maxLen := by
  cases t <;> unfold X.InB at h <;> first | exact h.elim | exact h.1.2.2
theorem X.InB.mk' {R : World → Value → List Int → Prop} {B : Nat} {w : World} {op a n : Int} {s : ByteArray} {set : List Int} {len : Nat} {kid : Nat → X} {sv v : Value} (h0 : s.size ≤ maxLen) (h1 : -9223372036854775808 ≤ n ∧ n ≤ 9223372036854775807) (h2 : set.length ≤ maxLen) (hs : R w sv set) (h : XsB R B w len kid v) : (X.mk op a n s set len kid).InB R B w sv v := by
  unfold X.InB; exact ⟨⟨h0, h1, h2⟩, hs, h⟩

theorem XsB.shape {R : World → Value → List Int → Prop} {B : Nat} {w : World} {len : Nat} {kid : Nat → X} {v : Value} (h : XsB R B w len kid v) : ∃ p cap, v = .slice p len cap := by
  rcases h with ⟨rfl, p, cap, rfl⟩ | ⟨b, o, cap, U, V, rfl, _⟩
  · exact ⟨_, _, rfl⟩
  · exact ⟨_, _, rfl⟩

/-- Memory that is kept keeps what lies in it. -/
theorem Head6.kept {w w' : World} {b p : Nat} {t : X} {sv v : Value} (h : Head6 w b p t sv v) (hk : ∀ a u, a.block = b → w.cell? a = some u → w'.cell? a = some u) : Head6 w' b p t sv v :=
  ⟨hk _ _ rfl h.c0, hk _ _ rfl h.c1, hk _ _ rfl h.c2, hk _ _ rfl h.c3, hk _ _ rfl h.c4, hk _ _ rfl h.c5⟩

theorem X.InB.kept {R R' : World → Value → List Int → Prop} {B B' : Nat} {w w' : World} (hB : B' ≤ B) (hk : ∀ a u, B ≤ a.block → w.cell? a = some u → w'.cell? a = some u) (hR : ∀ v xs, R w v xs → R' w' v xs) (t : X) : ∀ {sv v : Value}, t.InB R B w sv v → t.InB R' B' w' sv v := by
  induction t with
  | no => intro sv v h; exact h.elim
  | mk op a n s set len kid ih =>
    intro sv v h
    unfold X.InB at h ⊢
    refine ⟨h.1, hR _ _ h.2.1, ?_⟩
    rcases h.2.2 with h0 | ⟨b, o, cap, U, V, h1, hb, h2, h3, h4⟩
    · exact .inl h0
    · exact .inr ⟨b, o, cap, U, V, h1, by omega, h2, h3, fun i hi => ⟨(h4 i hi).1.kept (fun a u ha => hk a u (by omega)), ih i (h4 i hi).2⟩⟩
theorem XsB.kept {R R' : World → Value → List Int → Prop} {B B' : Nat} {w w' : World} (hB : B' ≤ B) (hk : ∀ a u, B ≤ a.block → w.cell? a = some u → w'.cell? a = some u) (hR : ∀ v xs, R w v xs → R' w' v xs) {len : Nat} {kid : Nat → X} {v : Value} (h : XsB R B w len kid v) : XsB R' B' w' len kid v := by
  rcases h with h0 | ⟨b, o, cap, U, V, h1, hb, h2, h3, h4⟩
  · exact .inl h0
  · exact .inr ⟨b, o, cap, U, V, h1, by omega, h2, h3, fun i hi => ⟨(h4 i hi).1.kept (fun a u ha => hk a u (by omega)), X.InB.kept hB hk hR _ (h4 i hi).2⟩⟩

theorem keepsX {w w' : World} (hb : Below w.heap.size w w') (a : Addr) (u : Value) (h : w.cell? a = some u) : w'.cell? a = some u :=
  (hb.cell (World.block_lt_of_cell? w a h)).trans h
theorem Head6.below {w w' : World} (hb : Below w.heap.size w w') {b p : Nat} {t : X} {sv v : Value} (h : Head6 w b p t sv v) : Head6 w' b p t sv v := h.kept (fun a u _ => keepsX hb a u)

/-- How a set lies: to be read, its first cells alone known. -/
def SetR (w : World) (v : Value) (xs : List Int) : Prop :=
  ∃ a cap, v = .slice a xs.length cap ∧ ∀ j, j < xs.length → ∃ b off, a = some ⟨b, off, none⟩ ∧ w.cell? ⟨b, off + j, none⟩ = some (.int .i64 (xs.getD j 0))
/-- .. in a row from block B on. -/
def SetB (B : Nat) (w : World) (v : Value) (xs : List Int) : Prop :=
  (v = .slice none 0 0 ∧ xs = []) ∨ ∃ b off cap, v = .slice (some ⟨b, off, none⟩) xs.length cap ∧ B ≤ b ∧ xs.length ≤ cap ∧ ∀ j, j < xs.length → w.cell? ⟨b, off + j, none⟩ = some (.int .i64 (xs.getD j 0))

theorem SetB.rd {B : Nat} {w : World} {v : Value} {xs : List Int} (h : SetB B w v xs) : Rd w v xs := by
  rcases h with h | ⟨b, off, cap, h1, _, h2, h3⟩
  · exact .inl h
  · exact .inr ⟨b, off, cap, h1, h2, h3⟩
theorem SetB.r {B : Nat} {w : World} {v : Value} {xs : List Int} (h : SetB B w v xs) : SetR w v xs := h.rd.shape
theorem SetB.kept {B B' : Nat} {w w' : World} (hB : B' ≤ B) (hk : ∀ a u, B ≤ a.block → w.cell? a = some u → w'.cell? a = some u) {v : Value} {xs : List Int} (h : SetB B w v xs) : SetB B' w' v xs := by
  rcases h with h | ⟨b, off, cap, h1, hb, h2, h3⟩
  · exact .inl h
  · exact .inr ⟨b, off, cap, h1, by omega, h2, fun j hj => hk _ _ (by exact hb) (h3 j hj)⟩
theorem SetR.below {w w' : World} (hb : Below w.heap.size w w') {v : Value} {xs : List Int} (h : SetR w v xs) : SetR w' v xs := by
  obtain ⟨a, cap, rfl, hc⟩ := h
  refine ⟨a, cap, rfl, fun j hj => ?_⟩
  obtain ⟨b, off, e, h⟩ := hc j hj
  exact ⟨b, off, e, keepsX hb _ _ h⟩
theorem SetR.shape {w : World} {v : Value} {xs : List Int} (h : SetR w v xs) : ∃ p cap, v = .slice p xs.length cap := by
  obtain ⟨a, cap, e, _⟩ := h
  exact ⟨a, cap, e⟩
theorem SetB.shape {B : Nat} {w : World} {v : Value} {xs : List Int} (h : SetB B w v xs) : ∃ p cap, v = .slice p xs.length cap := h.r.shape
theorem Own.setB {w : World} {base B : Nat} {v : Value} {xs : List Int} (h : Own w base v xs) (hB : B ≤ base) : SetB B w v xs := by
  have h' := h
  rcases h.2 with ⟨rfl, hn⟩ | ⟨g, cap, cur, rfl, hbg, hg, hnc, _⟩
  · exact .inl ⟨rfl, List.eq_nil_of_length_eq_zero hn⟩
  · refine .inr ⟨g, 0, cap, rfl, by omega, hnc, fun j hj => ?_⟩
    rw [Nat.zero_add, World.ownsRow.cellAt h' j (by omega)]
    simp [List.getElem?_eq_getElem hj]

/-- Syntax that came in; syntax whose sets lie as rows do, from block B on; and slices of them. -/
abbrev X.Of (w : World) (t : X) (sv v : Value) : Prop := t.InB SetR 0 w sv v
abbrev X.At (B : Nat) (w : World) (t : X) (sv v : Value) : Prop := t.InB (SetB B) B w sv v
abbrev XsOf (w : World) (len : Nat) (kid : Nat → X) (v : Value) : Prop := XsB SetR 0 w len kid v
abbrev XsAt (B : Nat) (w : World) (len : Nat) (kid : Nat → X) (v : Value) : Prop := XsB (SetB B) B w len kid v

theorem X.Of.below {w w' : World} (hb : Below w.heap.size w w') {t : X} {sv v : Value} (h : t.Of w sv v) : t.Of w' sv v := X.InB.kept (Nat.le_refl _) (fun a u _ => keepsX hb a u) (fun _ _ h => h.below hb) t h
theorem XsOf.below {w w' : World} (hb : Below w.heap.size w w') {len : Nat} {kid : Nat → X} {v : Value} (h : XsOf w len kid v) : XsOf w' len kid v := XsB.kept (Nat.le_refl _) (fun a u _ => keepsX hb a u) (fun _ _ h => h.below hb) h
theorem X.At.kept {B B' : Nat} {w w' : World} (hB : B' ≤ B) (hk : ∀ a u, B ≤ a.block → w.cell? a = some u → w'.cell? a = some u) {t : X} {sv v : Value} (h : t.At B w sv v) : t.At B' w' sv v := X.InB.kept hB hk (fun _ _ h => h.kept hB hk) t h
theorem XsAt.kept {B B' : Nat} {w w' : World} (hB : B' ≤ B) (hk : ∀ a u, B ≤ a.block → w.cell? a = some u → w'.cell? a = some u) {len : Nat} {kid : Nat → X} {v : Value} (h : XsAt B w len kid v) : XsAt B' w' len kid v := XsB.kept hB hk (fun _ _ h => h.kept hB hk) h
theorem X.At.below {B : Nat} {w w' : World} (hb : Below w.heap.size w w') {t : X} {sv v : Value} (h : t.At B w sv v) : t.At B w' sv v := X.At.kept (Nat.le_refl _) (fun a u _ => keepsX hb a u) h
theorem XsAt.below {B : Nat} {w w' : World} (hb : Below w.heap.size w w') {len : Nat} {kid : Nat → X} {v : Value} (h : XsAt B w len kid v) : XsAt B w' len kid v := XsAt.kept (Nat.le_refl _) (fun a u _ => keepsX hb a u) h
theorem X.At.mono {B B' : Nat} {w : World} (hB : B' ≤ B) {t : X} {sv v : Value} (h : t.At B w sv v) : t.At B' w sv v := X.At.kept hB (fun _ _ _ h => h) h
theorem XsAt.mono {B B' : Nat} {w : World} (hB : B' ≤ B) {len : Nat} {kid : Nat → X} {v : Value} (h : XsAt B w len kid v) : XsAt B' w len kid v := XsAt.kept hB (fun _ _ _ h => h) h
theorem X.At.of {B : Nat} {w : World} {t : X} {sv v : Value} (h : t.At B w sv v) : t.Of w sv v := X.InB.kept (Nat.zero_le _) (fun _ _ _ h => h) (fun _ _ h => h.r) t h
theorem XsAt.of {B : Nat} {w : World} {len : Nat} {kid : Nat → X} {v : Value} (h : XsAt B w len kid v) : XsOf w len kid v := XsB.kept (Nat.zero_le _) (fun _ _ _ h => h) (fun _ _ h => h.r) h

/-- What is told of a slice of syntax, by index. -/
theorem XsB.at {R : World → Value → List Int → Prop} {B : Nat} {w : World} {len : Nat} {kid : Nat → X} {v : Value} (h : XsB R B w len kid v) : ∃ p cap, v = .slice p len cap ∧ len ≤ maxLen ∧
    ∀ i, i < len → ∃ b o sv u, p = some ⟨b, o, none⟩ ∧ Head6 w b (o + i * 6) (kid i) sv u ∧ (kid i).InB R B w sv u := by
  rcases h with ⟨rfl, p, cap, rfl⟩ | ⟨b, o, cap, U, V, rfl, hB, h1, h2, h3⟩
  · exact ⟨p, cap, rfl, Nat.zero_le _, fun i hi => by omega⟩
  · exact ⟨_, cap, rfl, Nat.le_trans h1 h2, fun i hi => ⟨b, o, U i, V i, rfl, h3 i hi⟩⟩
end Go.Proofs.Ytaflnjhknnnaoaa
