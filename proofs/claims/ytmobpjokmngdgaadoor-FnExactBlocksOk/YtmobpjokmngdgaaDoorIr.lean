/- A value, as a tree, and how it lies in memory. No conditions. -/
import Derived.Test.YtmobpjokmngdgaaDoorDat
namespace Go.Proofs.YtmobpjokmngdgaaDoor
open Go.ChangeShapes Go.WideShapes Go.ChangeAt Go.RowKit

/-- An ir: its kind and number, and its kids by their index. -/
inductive It where
  | no
  | mk (op n : Int) (len : Nat) (kid : Nat → It)

namespace It
def op : It → Int | .no => 0 | .mk x _ _ _ => x
def n : It → Int | .no => 0 | .mk _ x _ _ => x
def len : It → Nat | .no => 0 | .mk _ _ x _ => x
def kid : It → Nat → It | .no => fun _ => .no | .mk _ _ _ x => x
end It
instance : Inhabited It := ⟨.no⟩

/-- How many data there are, itself among them. -/
def It.count : It → Nat | .no => 1 | .mk _ _ len kid => 1 + sumTo (fun i => (kid i).count) len
/-- What is reckoned of it: the text's bytes and how many kids there are, all through. -/
def It.weight : It → Nat | .no => 0 | .mk _ _ len kid => len + sumTo (fun i => (kid i).weight) len

def kidsWeightI (len : Nat) (kid : Nat → It) : Nat := len + sumTo (fun i => (kid i).weight) len
theorem It.weight_eq (t : It) : t.weight = kidsWeightI t.len t.kid := by cases t <;> rfl
theorem It.count_eq (t : It) : t.count = 1 + sumTo (fun i => (t.kid i).count) t.len := by cases t <;> rfl

theorem It.count_weight (t : It) : t.count ≤ 1 + t.weight := by
  induction t with
  | no => simp [count]
  | mk op n len kid ih =>
    unfold count weight
    have : ∀ k, sumTo (fun i => (kid i).count) k ≤ k + sumTo (fun i => (kid i).weight) k := by
      intro k
      induction k with
      | zero => simp [sumTo]
      | succ k ihk => simp only [sumTo]; have := ih k; omega
    have := this len
    omega

/-- Three cells from p on. -/
structure HeadI (w : World) (b p : Nat) (t : It) (v : Value) : Prop where
  c0 : w.cell? ⟨b, p, none⟩ = some (.int .i64 t.op)
  c1 : w.cell? ⟨b, p + 1, none⟩ = some (.int .i64 t.n)
  c2 : w.cell? ⟨b, p + 2, none⟩ = some v

/-- v is the slice of a datum's kids, which lie in w, from block B on. -/
def It.InB (B : Nat) (w : World) : It → Value → Prop
  | .no, _ => False
  | .mk _ n len kid, v => (-9223372036854775808 ≤ n ∧ n ≤ 9223372036854775807) ∧
    ((len = 0 ∧ ∃ p cap, v = .slice p 0 cap) ∨
     ∃ (b o cap : Nat) (V : Nat → Value), v = .slice (some ⟨b, o, none⟩) len cap ∧ B ≤ b ∧ len ≤ cap ∧ cap ≤ maxLen ∧
       ∀ i, i < len → HeadI w b (o + i * 3) (kid i) (V i) ∧ (kid i).InB B w (V i))
abbrev It.In (w : World) (t : It) (v : Value) : Prop := t.InB 0 w v

/-- A slice of data that lie in w, from block B on. -/
def IlB (B : Nat) (w : World) (len : Nat) (kid : Nat → It) (v : Value) : Prop :=
  (len = 0 ∧ ∃ p cap, v = .slice p 0 cap) ∨
   ∃ (b o cap : Nat) (V : Nat → Value), v = .slice (some ⟨b, o, none⟩) len cap ∧ B ≤ b ∧ len ≤ cap ∧ cap ≤ maxLen ∧
     ∀ i, i < len → HeadI w b (o + i * 3) (kid i) (V i) ∧ (kid i).InB B w (V i)
abbrev Il (w : World) (len : Nat) (kid : Nat → It) (v : Value) : Prop := IlB 0 w len kid v

theorem It.InB.sl {B : Nat} {w : World} {t : It} {v : Value} (h : t.InB B w v) : IlB B w t.len t.kid v := by
  cases t <;> unfold It.InB at h <;> first | exact h.elim | exact h.2
theorem It.InB.num {B : Nat} {w : World} {t : It} {v : Value} (h : t.InB B w v) : -9223372036854775808 ≤ t.n ∧ t.n ≤ 9223372036854775807 := by
  cases t <;> unfold It.InB at h <;> first | exact h.elim | exact h.1
theorem It.InB.mk' {B : Nat} {w : World} {op n : Int} {len : Nat} {kid : Nat → It} {v : Value} (h1 : -9223372036854775808 ≤ n ∧ n ≤ 9223372036854775807) (h : IlB B w len kid v) : (It.mk op n len kid).InB B w v := by
  unfold It.InB; exact ⟨h1, h⟩

theorem IlB.shape {B : Nat} {w : World} {len : Nat} {kid : Nat → It} {v : Value} (h : IlB B w len kid v) : ∃ p cap, v = .slice p len cap := by
  rcases h with ⟨rfl, p, cap, rfl⟩ | ⟨b, o, cap, V, rfl, _⟩
  · exact ⟨_, _, rfl⟩
  · exact ⟨_, _, rfl⟩

/-- Memory that is kept keeps what lies in it. -/
theorem HeadI.kept {w w' : World} {b p : Nat} {t : It} {v : Value} (h : HeadI w b p t v) (hk : ∀ a u, a.block = b → w.cell? a = some u → w'.cell? a = some u) : HeadI w' b p t v :=
  ⟨hk _ _ rfl h.c0, hk _ _ rfl h.c1, hk _ _ rfl h.c2⟩

theorem It.InB.kept {B : Nat} {w w' : World} (hk : ∀ a u, B ≤ a.block → w.cell? a = some u → w'.cell? a = some u) (t : It) : ∀ {v : Value}, t.InB B w v → t.InB B w' v := by
  induction t with
  | no => intro v h; exact h.elim
  | mk op n len kid ih =>
    intro v h
    unfold It.InB at h ⊢
    refine ⟨h.1, ?_⟩
    rcases h.2 with h0 | ⟨b, o, cap, V, h1, hB, h2, h3, h4⟩
    · exact .inl h0
    · exact .inr ⟨b, o, cap, V, h1, hB, h2, h3, fun i hi => ⟨(h4 i hi).1.kept (fun a u ha => hk a u (by omega)), ih i (h4 i hi).2⟩⟩

theorem IlB.kept {B : Nat} {w w' : World} (hk : ∀ a u, B ≤ a.block → w.cell? a = some u → w'.cell? a = some u) {len : Nat} {kid : Nat → It} {v : Value} (h : IlB B w len kid v) : IlB B w' len kid v := by
  rcases h with h0 | ⟨b, o, cap, V, h1, hB, h2, h3, h4⟩
  · exact .inl h0
  · exact .inr ⟨b, o, cap, V, h1, hB, h2, h3, fun i hi => ⟨(h4 i hi).1.kept (fun a u ha => hk a u (by omega)), It.InB.kept hk _ (h4 i hi).2⟩⟩

theorem It.InB.mono {B B' : Nat} (hB : B' ≤ B) {w : World} (t : It) : ∀ {v : Value}, t.InB B w v → t.InB B' w v := by
  induction t with
  | no => intro v h; exact h.elim
  | mk op n len kid ih =>
    intro v h
    unfold It.InB at h ⊢
    refine ⟨h.1, ?_⟩
    rcases h.2 with h0 | ⟨b, o, cap, V, h1, hb, h2, h3, h4⟩
    · exact .inl h0
    · exact .inr ⟨b, o, cap, V, h1, by omega, h2, h3, fun i hi => ⟨(h4 i hi).1, ih i (h4 i hi).2⟩⟩
theorem IlB.mono {B B' : Nat} (hB : B' ≤ B) {w : World} {len : Nat} {kid : Nat → It} {v : Value} (h : IlB B w len kid v) : IlB B' w len kid v := by
  rcases h with h0 | ⟨b, o, cap, V, h1, hb, h2, h3, h4⟩
  · exact .inl h0
  · exact .inr ⟨b, o, cap, V, h1, by omega, h2, h3, fun i hi => ⟨(h4 i hi).1, (h4 i hi).2.mono hB⟩⟩
theorem It.InB.all {B : Nat} {w : World} {t : It} {v : Value} (h : t.InB B w v) : t.In w v := h.mono (Nat.zero_le _)
theorem IlB.all {B : Nat} {w : World} {len : Nat} {kid : Nat → It} {v : Value} (h : IlB B w len kid v) : Il w len kid v := h.mono (Nat.zero_le _)

theorem It.InB.below {B : Nat} {w w' : World} (hb : Below w.heap.size w w') {t : It} {v : Value} (h : t.InB B w v) : t.InB B w' v := It.InB.kept (fun a u _ => keeps hb a u) t h
theorem IlB.below {B : Nat} {w w' : World} (hb : Below w.heap.size w w') {len : Nat} {kid : Nat → It} {v : Value} (h : IlB B w len kid v) : IlB B w' len kid v := IlB.kept (fun a u _ => keeps hb a u) h
theorem HeadI.below {w w' : World} (hb : Below w.heap.size w w') {b p : Nat} {t : It} {v : Value} (h : HeadI w b p t v) : HeadI w' b p t v := h.kept (fun a u _ => keeps hb a u)

/-- What is told of a slice of data, by index. -/
theorem IlB.at {B : Nat} {w : World} {len : Nat} {kid : Nat → It} {v : Value} (h : IlB B w len kid v) : ∃ p cap, v = .slice p len cap ∧ len ≤ maxLen ∧
    ∀ i, i < len → ∃ b o u, p = some ⟨b, o, none⟩ ∧ HeadI w b (o + i * 3) (kid i) u ∧ (kid i).InB B w u := by
  rcases h with ⟨rfl, p, cap, rfl⟩ | ⟨b, o, cap, V, rfl, hB, h1, h2, h3⟩
  · exact ⟨p, cap, rfl, Nat.zero_le _, fun i hi => by omega⟩
  · exact ⟨_, cap, rfl, Nat.le_trans h1 h2, fun i hi => ⟨b, o, V i, rfl, h3 i hi⟩⟩

theorem IlB.fn {B : Nat} {w : World} {len : Nat} {kid : Nat → It} {v : Value} (h : IlB B w len kid v) : ∃ (p : Option Addr) (cap : Nat) (V : Nat → Value), v = .slice p len cap ∧ len ≤ maxLen ∧
    ∀ i, i < len → ∃ b o, p = some ⟨b, o, none⟩ ∧ HeadI w b (o + i * 3) (kid i) (V i) ∧ (kid i).InB B w (V i) := by
  rcases h with ⟨rfl, p, cap, rfl⟩ | ⟨b, o, cap, V, rfl, hB, h1, h2, h3⟩
  · exact ⟨p, cap, fun _ => .bool false, rfl, Nat.zero_le _, fun i hi => by omega⟩
  · exact ⟨_, cap, V, rfl, Nat.le_trans h1 h2, fun i hi => ⟨b, o, rfl, h3 i hi⟩⟩

/-- A value's value. -/
def It.val (t : It) (v : Value) : Value := .agg #[.int .i64 t.op, .int .i64 t.n, v]

end Go.Proofs.YtmobpjokmngdgaaDoor
