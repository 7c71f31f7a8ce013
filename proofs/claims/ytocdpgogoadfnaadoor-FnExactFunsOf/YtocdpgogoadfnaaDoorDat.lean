/- What is read, as a tree, and how it lies in memory. No conditions. -/
import Derived.Below
import Derived.Deep.Slices
import Derived.ProofKit
import Derived.WalkKit
namespace Go.Proofs.YtocdpgogoadfnaaDoor
open Go.ChangeShapes Go.WideShapes Go.ChangeAt Go.RowKit

/-- A datum: its op, place, number and text, and its kids by their index. -/
inductive D where
  | no
  | mk (op at_ n : Int) (s : ByteArray) (len : Nat) (kid : Nat → D)

namespace D
def op : D → Int | .no => 0 | .mk x _ _ _ _ _ => x
def at_ : D → Int | .no => 0 | .mk _ x _ _ _ _ => x
def n : D → Int | .no => 0 | .mk _ _ x _ _ _ => x
def s : D → ByteArray | .no => ⟨#[]⟩ | .mk _ _ _ x _ _ => x
def len : D → Nat | .no => 0 | .mk _ _ _ _ x _ => x
def kid : D → Nat → D | .no => fun _ => .no | .mk _ _ _ _ _ x => x
end D
instance : Inhabited D := ⟨.no⟩

/-- The sum of the first k. -/
def sumTo (f : Nat → Nat) : Nat → Nat
  | 0 => 0
  | k + 1 => sumTo f k + f k

theorem sumTo_le (f : Nat → Nat) (j k : Nat) (h : j ≤ k) : sumTo f j ≤ sumTo f k := by
  induction k with
  | zero => simp at h; subst h; exact Nat.le_refl _
  | succ k ih =>
    rcases Nat.lt_or_ge j (k + 1) with h1 | h1
    · have := ih (by omega); simp only [sumTo]; omega
    · have : j = k + 1 := by omega
      subst this; exact Nat.le_refl _

theorem sumTo_at (f : Nat → Nat) (j k : Nat) (h : j < k) : sumTo f j + f j ≤ sumTo f k := sumTo_le f (j + 1) k h

/-- How many data there are, itself among them. -/
def D.count : D → Nat | .no => 1 | .mk _ _ _ _ len kid => 1 + sumTo (fun i => (kid i).count) len
/-- What is reckoned of it: the text's bytes and how many kids there are, all through. -/
def D.weight : D → Nat | .no => 0 | .mk _ _ _ s len kid => s.size + (len + sumTo (fun i => (kid i).weight) len)

def kidsWeight (len : Nat) (kid : Nat → D) : Nat := len + sumTo (fun i => (kid i).weight) len
theorem D.weight_eq (t : D) : t.weight = t.s.size + kidsWeight t.len t.kid := by cases t <;> rfl
theorem D.count_eq (t : D) : t.count = 1 + sumTo (fun i => (t.kid i).count) t.len := by cases t <;> rfl

theorem D.count_weight (t : D) : t.count ≤ 1 + t.weight := by
  induction t with
  | no => simp [count]
  | mk op a n s len kid ih =>
    unfold count weight
    have : ∀ k, sumTo (fun i => (kid i).count) k ≤ k + sumTo (fun i => (kid i).weight) k := by
      intro k
      induction k with
      | zero => simp [sumTo]
      | succ k ihk => simp only [sumTo]; have := ih k; omega
    have := this len
    omega

/-- Five cells from p on. -/
structure Head (w : World) (b p : Nat) (t : D) (v : Value) : Prop where
  c0 : w.cell? ⟨b, p, none⟩ = some (.int .i64 t.op)
  c1 : w.cell? ⟨b, p + 1, none⟩ = some (.int .i64 t.at_)
  c2 : w.cell? ⟨b, p + 2, none⟩ = some (.int .i64 t.n)
  c3 : w.cell? ⟨b, p + 3, none⟩ = some (.string t.s)
  c4 : w.cell? ⟨b, p + 4, none⟩ = some v

/-- v is the slice of a datum's kids, which lie in w, from block B on. -/
def D.InB (B : Nat) (w : World) : D → Value → Prop
  | .no, _ => False
  | .mk _ _ n s len kid, v => (s.size ≤ maxLen ∧ -9223372036854775808 ≤ n ∧ n ≤ 9223372036854775807) ∧
    ((len = 0 ∧ ∃ p cap, v = .slice p 0 cap) ∨
     ∃ (b o cap : Nat) (V : Nat → Value), v = .slice (some ⟨b, o, none⟩) len cap ∧ B ≤ b ∧ len ≤ cap ∧ cap ≤ maxLen ∧
       ∀ i, i < len → Head w b (o + i * 5) (kid i) (V i) ∧ (kid i).InB B w (V i))
abbrev D.In (w : World) (t : D) (v : Value) : Prop := t.InB 0 w v

/-- A slice of data that lie in w, from block B on. -/
def SlB (B : Nat) (w : World) (len : Nat) (kid : Nat → D) (v : Value) : Prop :=
  (len = 0 ∧ ∃ p cap, v = .slice p 0 cap) ∨
   ∃ (b o cap : Nat) (V : Nat → Value), v = .slice (some ⟨b, o, none⟩) len cap ∧ B ≤ b ∧ len ≤ cap ∧ cap ≤ maxLen ∧
     ∀ i, i < len → Head w b (o + i * 5) (kid i) (V i) ∧ (kid i).InB B w (V i)
abbrev Sl (w : World) (len : Nat) (kid : Nat → D) (v : Value) : Prop := SlB 0 w len kid v

theorem D.InB.sl {B : Nat} {w : World} {t : D} {v : Value} (h : t.InB B w v) : SlB B w t.len t.kid v := by
  cases t <;> unfold D.InB at h <;> first | exact h.elim | exact h.2
theorem D.InB.size {B : Nat} {w : World} {t : D} {v : Value} (h : t.InB B w v) : t.s.size ≤ maxLen := by
  cases t <;> unfold D.InB at h <;> first | exact h.elim | exact h.1.1
theorem D.InB.num {B : Nat} {w : World} {t : D} {v : Value} (h : t.InB B w v) : -9223372036854775808 ≤ t.n ∧ t.n ≤ 9223372036854775807 := by
  cases t <;> unfold D.InB at h <;> first | exact h.elim | exact h.1.2
theorem D.InB.mk' {B : Nat} {w : World} {op a n : Int} {s : ByteArray} {len : Nat} {kid : Nat → D} {v : Value} (h0 : s.size ≤ maxLen) (h1 : -9223372036854775808 ≤ n ∧ n ≤ 9223372036854775807) (h : SlB B w len kid v) : (D.mk op a n s len kid).InB B w v := by
  unfold D.InB; exact ⟨⟨h0, h1⟩, h⟩

theorem SlB.shape {B : Nat} {w : World} {len : Nat} {kid : Nat → D} {v : Value} (h : SlB B w len kid v) : ∃ p cap, v = .slice p len cap := by
  rcases h with ⟨rfl, p, cap, rfl⟩ | ⟨b, o, cap, V, rfl, _⟩
  · exact ⟨_, _, rfl⟩
  · exact ⟨_, _, rfl⟩

/-- Memory that is kept keeps what lies in it. -/
theorem Head.kept {w w' : World} {b p : Nat} {t : D} {v : Value} (h : Head w b p t v) (hk : ∀ a u, a.block = b → w.cell? a = some u → w'.cell? a = some u) : Head w' b p t v :=
  ⟨hk _ _ rfl h.c0, hk _ _ rfl h.c1, hk _ _ rfl h.c2, hk _ _ rfl h.c3, hk _ _ rfl h.c4⟩

theorem D.InB.kept {B : Nat} {w w' : World} (hk : ∀ a u, B ≤ a.block → w.cell? a = some u → w'.cell? a = some u) (t : D) : ∀ {v : Value}, t.InB B w v → t.InB B w' v := by
  induction t with
  | no => intro v h; exact h.elim
  | mk op a n s len kid ih =>
    intro v h
    unfold D.InB at h ⊢
    refine ⟨h.1, ?_⟩
    rcases h.2 with h0 | ⟨b, o, cap, V, h1, hB, h2, h3, h4⟩
    · exact .inl h0
    · exact .inr ⟨b, o, cap, V, h1, hB, h2, h3, fun i hi => ⟨(h4 i hi).1.kept (fun a u ha => hk a u (by omega)), ih i (h4 i hi).2⟩⟩

theorem SlB.kept {B : Nat} {w w' : World} (hk : ∀ a u, B ≤ a.block → w.cell? a = some u → w'.cell? a = some u) {len : Nat} {kid : Nat → D} {v : Value} (h : SlB B w len kid v) : SlB B w' len kid v := by
  rcases h with h0 | ⟨b, o, cap, V, h1, hB, h2, h3, h4⟩
  · exact .inl h0
  · exact .inr ⟨b, o, cap, V, h1, hB, h2, h3, fun i hi => ⟨(h4 i hi).1.kept (fun a u ha => hk a u (by omega)), D.InB.kept hk _ (h4 i hi).2⟩⟩

theorem D.InB.mono {B B' : Nat} (hB : B' ≤ B) {w : World} (t : D) : ∀ {v : Value}, t.InB B w v → t.InB B' w v := by
  induction t with
  | no => intro v h; exact h.elim
  | mk op a n s len kid ih =>
    intro v h
    unfold D.InB at h ⊢
    refine ⟨h.1, ?_⟩
    rcases h.2 with h0 | ⟨b, o, cap, V, h1, hb, h2, h3, h4⟩
    · exact .inl h0
    · exact .inr ⟨b, o, cap, V, h1, by omega, h2, h3, fun i hi => ⟨(h4 i hi).1, ih i (h4 i hi).2⟩⟩
theorem SlB.mono {B B' : Nat} (hB : B' ≤ B) {w : World} {len : Nat} {kid : Nat → D} {v : Value} (h : SlB B w len kid v) : SlB B' w len kid v := by
  rcases h with h0 | ⟨b, o, cap, V, h1, hb, h2, h3, h4⟩
  · exact .inl h0
  · exact .inr ⟨b, o, cap, V, h1, by omega, h2, h3, fun i hi => ⟨(h4 i hi).1, (h4 i hi).2.mono hB⟩⟩
theorem D.InB.all {B : Nat} {w : World} {t : D} {v : Value} (h : t.InB B w v) : t.In w v := h.mono (Nat.zero_le _)
theorem SlB.all {B : Nat} {w : World} {len : Nat} {kid : Nat → D} {v : Value} (h : SlB B w len kid v) : Sl w len kid v := h.mono (Nat.zero_le _)

theorem keeps {w w' : World} (hb : Below w.heap.size w w') (a : Addr) (u : Value) (h : w.cell? a = some u) : w'.cell? a = some u :=
  (hb.cell (World.block_lt_of_cell? w a h)).trans h

theorem D.InB.below {B : Nat} {w w' : World} (hb : Below w.heap.size w w') {t : D} {v : Value} (h : t.InB B w v) : t.InB B w' v := D.InB.kept (fun a u _ => keeps hb a u) t h
theorem SlB.below {B : Nat} {w w' : World} (hb : Below w.heap.size w w') {len : Nat} {kid : Nat → D} {v : Value} (h : SlB B w len kid v) : SlB B w' len kid v := SlB.kept (fun a u _ => keeps hb a u) h
theorem Head.below {w w' : World} (hb : Below w.heap.size w w') {b p : Nat} {t : D} {v : Value} (h : Head w b p t v) : Head w' b p t v := h.kept (fun a u _ => keeps hb a u)

/-- What is told of a slice of data, by index. -/
theorem SlB.at {B : Nat} {w : World} {len : Nat} {kid : Nat → D} {v : Value} (h : SlB B w len kid v) : ∃ p cap, v = .slice p len cap ∧ len ≤ maxLen ∧
    ∀ i, i < len → ∃ b o u, p = some ⟨b, o, none⟩ ∧ Head w b (o + i * 5) (kid i) u ∧ (kid i).InB B w u := by
  rcases h with ⟨rfl, p, cap, rfl⟩ | ⟨b, o, cap, V, rfl, hB, h1, h2, h3⟩
  · exact ⟨p, cap, rfl, Nat.zero_le _, fun i hi => by omega⟩
  · exact ⟨_, cap, rfl, Nat.le_trans h1 h2, fun i hi => ⟨b, o, V i, rfl, h3 i hi⟩⟩

theorem SlB.fn {B : Nat} {w : World} {len : Nat} {kid : Nat → D} {v : Value} (h : SlB B w len kid v) : ∃ (p : Option Addr) (cap : Nat) (V : Nat → Value), v = .slice p len cap ∧ len ≤ maxLen ∧
    ∀ i, i < len → ∃ b o, p = some ⟨b, o, none⟩ ∧ Head w b (o + i * 5) (kid i) (V i) ∧ (kid i).InB B w (V i) := by
  rcases h with ⟨rfl, p, cap, rfl⟩ | ⟨b, o, cap, V, rfl, hB, h1, h2, h3⟩
  · exact ⟨p, cap, fun _ => .bool false, rfl, Nat.zero_le _, fun i hi => by omega⟩
  · exact ⟨_, cap, V, rfl, Nat.le_trans h1 h2, fun i hi => ⟨b, o, rfl, h3 i hi⟩⟩

theorem newb (w : World) (o : Obj) : Below w.heap.size w (w.alloc o) := (Below.refl _ _).alloc (Nat.le_refl _) o

/-- A datum's value. -/
def D.val (t : D) (v : Value) : Value := .agg #[.int .i64 t.op, .int .i64 t.at_, .int .i64 t.n, .string t.s, v]

end Go.Proofs.YtocdpgogoadfnaaDoor
