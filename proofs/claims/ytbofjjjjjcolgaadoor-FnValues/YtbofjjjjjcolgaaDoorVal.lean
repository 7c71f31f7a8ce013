/- A value, as a tree, and how it lies in memory. No conditions. -/
import Derived.Test.YtbofjjjjjcolgaaDoorDat
namespace Go.Proofs.YtbofjjjjjcolgaaDoor
open Go.ChangeShapes Go.WideShapes Go.ChangeAt Go.RowKit

/-- A value: its kind and number, and its kids by their index. -/
inductive Vt where
  | no
  | mk (op n : Int) (len : Nat) (kid : Nat → Vt)

namespace Vt
def op : Vt → Int | .no => 0 | .mk x _ _ _ => x
def n : Vt → Int | .no => 0 | .mk _ x _ _ => x
def len : Vt → Nat | .no => 0 | .mk _ _ x _ => x
def kid : Vt → Nat → Vt | .no => fun _ => .no | .mk _ _ _ x => x
end Vt
instance : Inhabited Vt := ⟨.no⟩

/-- How many data there are, itself among them. -/
def Vt.count : Vt → Nat | .no => 1 | .mk _ _ len kid => 1 + sumTo (fun i => (kid i).count) len
/-- What is reckoned of it: the text's bytes and how many kids there are, all through. -/
def Vt.weight : Vt → Nat | .no => 0 | .mk _ _ len kid => len + sumTo (fun i => (kid i).weight) len

def kidsWeightV (len : Nat) (kid : Nat → Vt) : Nat := len + sumTo (fun i => (kid i).weight) len
theorem Vt.weight_eq (t : Vt) : t.weight = kidsWeightV t.len t.kid := by cases t <;> rfl
theorem Vt.count_eq (t : Vt) : t.count = 1 + sumTo (fun i => (t.kid i).count) t.len := by cases t <;> rfl

theorem Vt.count_weight (t : Vt) : t.count ≤ 1 + t.weight := by
  induction t with
  | no => simp [count]
  | mk op n len kid ih =>
    unfold count weight
    have : ∀ k, sumTo (fun i => (kid i).count) k ≤ k + sumTo (fun i => (kid i).weight) k := by
      intro k
      induction k with
      | zero => simp [sumTo]
      | succ k ihk => simp only [sumTo]; have := ih k; omega
    have := this len
    omega

/-- Three cells from p on. -/
structure HeadV (w : World) (b p : Nat) (t : Vt) (v : Value) : Prop where
  c0 : w.cell? ⟨b, p, none⟩ = some (.int .i64 t.op)
  c1 : w.cell? ⟨b, p + 1, none⟩ = some (.int .i64 t.n)
  c2 : w.cell? ⟨b, p + 2, none⟩ = some v

/-- v is the slice of a datum's kids, which lie in w, from block B on. -/
def Vt.InB (B : Nat) (w : World) : Vt → Value → Prop
  | .no, _ => False
  | .mk _ n len kid, v => (-9223372036854775808 ≤ n ∧ n ≤ 9223372036854775807) ∧
    ((len = 0 ∧ ∃ p cap, v = .slice p 0 cap) ∨
     ∃ (b o cap : Nat) (V : Nat → Value), v = .slice (some ⟨b, o, none⟩) len cap ∧ B ≤ b ∧ len ≤ cap ∧ cap ≤ maxLen ∧
       ∀ i, i < len → HeadV w b (o + i * 3) (kid i) (V i) ∧ (kid i).InB B w (V i))
abbrev Vt.In (w : World) (t : Vt) (v : Value) : Prop := t.InB 0 w v

/-- A slice of data that lie in w, from block B on. -/
def VlB (B : Nat) (w : World) (len : Nat) (kid : Nat → Vt) (v : Value) : Prop :=
  (len = 0 ∧ ∃ p cap, v = .slice p 0 cap) ∨
   ∃ (b o cap : Nat) (V : Nat → Value), v = .slice (some ⟨b, o, none⟩) len cap ∧ B ≤ b ∧ len ≤ cap ∧ cap ≤ maxLen ∧
     ∀ i, i < len → HeadV w b (o + i * 3) (kid i) (V i) ∧ (kid i).InB B w (V i)
abbrev Vl (w : World) (len : Nat) (kid : Nat → Vt) (v : Value) : Prop := VlB 0 w len kid v

theorem Vt.InB.sl {B : Nat} {w : World} {t : Vt} {v : Value} (h : t.InB B w v) : VlB B w t.len t.kid v := by
  cases t <;> unfold Vt.InB at h <;> first | exact h.elim | exact h.2
theorem Vt.InB.num {B : Nat} {w : World} {t : Vt} {v : Value} (h : t.InB B w v) : -9223372036854775808 ≤ t.n ∧ t.n ≤ 9223372036854775807 := by
  cases t <;> unfold Vt.InB at h <;> first | exact h.elim | exact h.1
theorem Vt.InB.mk' {B : Nat} {w : World} {op n : Int} {len : Nat} {kid : Nat → Vt} {v : Value} (h1 : -9223372036854775808 ≤ n ∧ n ≤ 9223372036854775807) (h : VlB B w len kid v) : (Vt.mk op n len kid).InB B w v := by
  unfold Vt.InB; exact ⟨h1, h⟩

theorem VlB.shape {B : Nat} {w : World} {len : Nat} {kid : Nat → Vt} {v : Value} (h : VlB B w len kid v) : ∃ p cap, v = .slice p len cap := by
  rcases h with ⟨rfl, p, cap, rfl⟩ | ⟨b, o, cap, V, rfl, _⟩
  · exact ⟨_, _, rfl⟩
  · exact ⟨_, _, rfl⟩

/-- Memory that is kept keeps what lies in it. -/
theorem HeadV.kept {w w' : World} {b p : Nat} {t : Vt} {v : Value} (h : HeadV w b p t v) (hk : ∀ a u, a.block = b → w.cell? a = some u → w'.cell? a = some u) : HeadV w' b p t v :=
  ⟨hk _ _ rfl h.c0, hk _ _ rfl h.c1, hk _ _ rfl h.c2⟩

theorem Vt.InB.kept {B : Nat} {w w' : World} (hk : ∀ a u, B ≤ a.block → w.cell? a = some u → w'.cell? a = some u) (t : Vt) : ∀ {v : Value}, t.InB B w v → t.InB B w' v := by
  induction t with
  | no => intro v h; exact h.elim
  | mk op n len kid ih =>
    intro v h
    unfold Vt.InB at h ⊢
    refine ⟨h.1, ?_⟩
    rcases h.2 with h0 | ⟨b, o, cap, V, h1, hB, h2, h3, h4⟩
    · exact .inl h0
    · exact .inr ⟨b, o, cap, V, h1, hB, h2, h3, fun i hi => ⟨(h4 i hi).1.kept (fun a u ha => hk a u (by omega)), ih i (h4 i hi).2⟩⟩

theorem VlB.kept {B : Nat} {w w' : World} (hk : ∀ a u, B ≤ a.block → w.cell? a = some u → w'.cell? a = some u) {len : Nat} {kid : Nat → Vt} {v : Value} (h : VlB B w len kid v) : VlB B w' len kid v := by
  rcases h with h0 | ⟨b, o, cap, V, h1, hB, h2, h3, h4⟩
  · exact .inl h0
  · exact .inr ⟨b, o, cap, V, h1, hB, h2, h3, fun i hi => ⟨(h4 i hi).1.kept (fun a u ha => hk a u (by omega)), Vt.InB.kept hk _ (h4 i hi).2⟩⟩

theorem Vt.InB.mono {B B' : Nat} (hB : B' ≤ B) {w : World} (t : Vt) : ∀ {v : Value}, t.InB B w v → t.InB B' w v := by
  induction t with
  | no => intro v h; exact h.elim
  | mk op n len kid ih =>
    intro v h
    unfold Vt.InB at h ⊢
    refine ⟨h.1, ?_⟩
    rcases h.2 with h0 | ⟨b, o, cap, V, h1, hb, h2, h3, h4⟩
    · exact .inl h0
    · exact .inr ⟨b, o, cap, V, h1, by omega, h2, h3, fun i hi => ⟨(h4 i hi).1, ih i (h4 i hi).2⟩⟩
theorem VlB.mono {B B' : Nat} (hB : B' ≤ B) {w : World} {len : Nat} {kid : Nat → Vt} {v : Value} (h : VlB B w len kid v) : VlB B' w len kid v := by
  rcases h with h0 | ⟨b, o, cap, V, h1, hb, h2, h3, h4⟩
  · exact .inl h0
  · exact .inr ⟨b, o, cap, V, h1, by omega, h2, h3, fun i hi => ⟨(h4 i hi).1, (h4 i hi).2.mono hB⟩⟩
theorem Vt.InB.all {B : Nat} {w : World} {t : Vt} {v : Value} (h : t.InB B w v) : t.In w v := h.mono (Nat.zero_le _)
theorem VlB.all {B : Nat} {w : World} {len : Nat} {kid : Nat → Vt} {v : Value} (h : VlB B w len kid v) : Vl w len kid v := h.mono (Nat.zero_le _)

theorem Vt.InB.below {B : Nat} {w w' : World} (hb : Below w.heap.size w w') {t : Vt} {v : Value} (h : t.InB B w v) : t.InB B w' v := Vt.InB.kept (fun a u _ => keeps hb a u) t h
theorem VlB.below {B : Nat} {w w' : World} (hb : Below w.heap.size w w') {len : Nat} {kid : Nat → Vt} {v : Value} (h : VlB B w len kid v) : VlB B w' len kid v := VlB.kept (fun a u _ => keeps hb a u) h
theorem HeadV.below {w w' : World} (hb : Below w.heap.size w w') {b p : Nat} {t : Vt} {v : Value} (h : HeadV w b p t v) : HeadV w' b p t v := h.kept (fun a u _ => keeps hb a u)

/-- What is told of a slice of data, by index. -/
theorem VlB.at {B : Nat} {w : World} {len : Nat} {kid : Nat → Vt} {v : Value} (h : VlB B w len kid v) : ∃ p cap, v = .slice p len cap ∧ len ≤ maxLen ∧
    ∀ i, i < len → ∃ b o u, p = some ⟨b, o, none⟩ ∧ HeadV w b (o + i * 3) (kid i) u ∧ (kid i).InB B w u := by
  rcases h with ⟨rfl, p, cap, rfl⟩ | ⟨b, o, cap, V, rfl, hB, h1, h2, h3⟩
  · exact ⟨p, cap, rfl, Nat.zero_le _, fun i hi => by omega⟩
  · exact ⟨_, cap, rfl, Nat.le_trans h1 h2, fun i hi => ⟨b, o, V i, rfl, h3 i hi⟩⟩

theorem VlB.fn {B : Nat} {w : World} {len : Nat} {kid : Nat → Vt} {v : Value} (h : VlB B w len kid v) : ∃ (p : Option Addr) (cap : Nat) (V : Nat → Value), v = .slice p len cap ∧ len ≤ maxLen ∧
    ∀ i, i < len → ∃ b o, p = some ⟨b, o, none⟩ ∧ HeadV w b (o + i * 3) (kid i) (V i) ∧ (kid i).InB B w (V i) := by
  rcases h with ⟨rfl, p, cap, rfl⟩ | ⟨b, o, cap, V, rfl, hB, h1, h2, h3⟩
  · exact ⟨p, cap, fun _ => .bool false, rfl, Nat.zero_le _, fun i hi => by omega⟩
  · exact ⟨_, cap, V, rfl, Nat.le_trans h1 h2, fun i hi => ⟨b, o, rfl, h3 i hi⟩⟩

/-- A value's value. -/
def Vt.val (t : Vt) (v : Value) : Value := .agg #[.int .i64 t.op, .int .i64 t.n, v]

end Go.Proofs.YtbofjjjjjcolgaaDoor
