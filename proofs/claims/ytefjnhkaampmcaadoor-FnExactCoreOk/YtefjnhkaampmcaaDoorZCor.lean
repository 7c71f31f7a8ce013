/- A core, as a tree, and how it lies in memory. No conditions. -/
import Derived.Test.YtefjnhkaampmcaaDoorZG0Dat
namespace Go.Proofs.YtefjnhkaampmcaaDoor
open Go.ChangeShapes Go.WideShapes Go.ChangeAt Go.RowKit

/-- A core: its op, number and names, and its kids by their index. -/
inductive C where
  | no
  | mk (op n : Int) (s t2 : ByteArray) (len : Nat) (kid : Nat → C)

namespace C
def op : C → Int | .no => 0 | .mk x _ _ _ _ _ => x
def n : C → Int | .no => 0 | .mk _ x _ _ _ _ => x
def s : C → ByteArray | .no => ⟨#[]⟩ | .mk _ _ x _ _ _ => x
def t2 : C → ByteArray | .no => ⟨#[]⟩ | .mk _ _ _ x _ _ => x
def len : C → Nat | .no => 0 | .mk _ _ _ _ x _ => x
def kid : C → Nat → C | .no => fun _ => .no | .mk _ _ _ _ _ x => x
end C
instance : Inhabited C := ⟨.no⟩

/-- How many data there are, itself among them. -/
def C.count : C → Nat | .no => 1 | .mk _ _ _ _ len kid => 1 + sumTo (fun i => (kid i).count) len
/-- What is reckoned of it: the text's bytes and how many kids there are, all through. -/
def C.weight : C → Nat | .no => 0 | .mk _ _ s t2 len kid => s.size + (t2.size + (len + sumTo (fun i => (kid i).weight) len))

def kidsWeightC (len : Nat) (kid : Nat → C) : Nat := len + sumTo (fun i => (kid i).weight) len
theorem C.weight_eq (t : C) : t.weight = t.s.size + (t.t2.size + kidsWeightC t.len t.kid) := by cases t <;> rfl
theorem C.count_eq (t : C) : t.count = 1 + sumTo (fun i => (t.kid i).count) t.len := by cases t <;> rfl

theorem C.count_weight (t : C) : t.count ≤ 1 + t.weight := by
  induction t with
  | no => simp [count]
  | mk op n s t2 len kid ih =>
    unfold count weight
    have : ∀ k, sumTo (fun i => (kid i).count) k ≤ k + sumTo (fun i => (kid i).weight) k := by
      intro k
      induction k with
      | zero => simp [sumTo]
      | succ k ihk => simp only [sumTo]; have := ih k; omega
    have := this len
    omega

/-- Five cells from p on. -/
structure HeadC (w : World) (b p : Nat) (t : C) (v : Value) : Prop where
  c0 : w.cell? ⟨b, p, none⟩ = some (.int .i64 t.op)
  c1 : w.cell? ⟨b, p + 1, none⟩ = some (.int .i64 t.n)
  c2 : w.cell? ⟨b, p + 2, none⟩ = some (.string t.s)
  c3 : w.cell? ⟨b, p + 3, none⟩ = some (.string t.t2)
  c4 : w.cell? ⟨b, p + 4, none⟩ = some v

/-- v is the slice of a datum's kids, which lie in w, from block B on. -/
def C.InB (B : Nat) (w : World) : C → Value → Prop
  | .no, _ => False
  | .mk _ n s t2 len kid, v => ((s.size ≤ maxLen ∧ t2.size ≤ maxLen) ∧ -9223372036854775808 ≤ n ∧ n ≤ 9223372036854775807) ∧
    ((len = 0 ∧ ∃ p cap, v = .slice p 0 cap) ∨
     ∃ (b o cap : Nat) (V : Nat → Value), v = .slice (some ⟨b, o, none⟩) len cap ∧ B ≤ b ∧ len ≤ cap ∧ cap ≤ maxLen ∧
       ∀ i, i < len → HeadC w b (o + i * 5) (kid i) (V i) ∧ (kid i).InB B w (V i))
abbrev C.In (w : World) (t : C) (v : Value) : Prop := t.InB 0 w v

/-- A slice of data that lie in w, from block B on. -/
def ClB (B : Nat) (w : World) (len : Nat) (kid : Nat → C) (v : Value) : Prop :=
  (len = 0 ∧ ∃ p cap, v = .slice p 0 cap) ∨
   ∃ (b o cap : Nat) (V : Nat → Value), v = .slice (some ⟨b, o, none⟩) len cap ∧ B ≤ b ∧ len ≤ cap ∧ cap ≤ maxLen ∧
     ∀ i, i < len → HeadC w b (o + i * 5) (kid i) (V i) ∧ (kid i).InB B w (V i)
abbrev Cl (w : World) (len : Nat) (kid : Nat → C) (v : Value) : Prop := ClB 0 w len kid v

theorem C.InB.sl {B : Nat} {w : World} {t : C} {v : Value} (h : t.InB B w v) : ClB B w t.len t.kid v := by
  cases t <;> unfold C.InB at h <;> first | exact h.elim | exact h.2
theorem C.InB.size {B : Nat} {w : World} {t : C} {v : Value} (h : t.InB B w v) : t.s.size ≤ maxLen ∧ t.t2.size ≤ maxLen := by
  cases t <;> unfold C.InB at h <;> first | exact h.elim | exact h.1.1
theorem C.InB.num {B : Nat} {w : World} {t : C} {v : Value} (h : t.InB B w v) : -9223372036854775808 ≤ t.n ∧ t.n ≤ 9223372036854775807 := by
  cases t <;> unfold C.InB at h <;> first | exact h.elim | exact h.1.2
theorem C.InB.mk' {B : Nat} {w : World} {op n : Int} {s t2 : ByteArray} {len : Nat} {kid : Nat → C} {v : Value} (h0 : s.size ≤ maxLen ∧ t2.size ≤ maxLen) (h1 : -9223372036854775808 ≤ n ∧ n ≤ 9223372036854775807) (h : ClB B w len kid v) : (C.mk op n s t2 len kid).InB B w v := by
  unfold C.InB; exact ⟨⟨h0, h1⟩, h⟩

theorem ClB.shape {B : Nat} {w : World} {len : Nat} {kid : Nat → C} {v : Value} (h : ClB B w len kid v) : ∃ p cap, v = .slice p len cap := by
  rcases h with ⟨rfl, p, cap, rfl⟩ | ⟨b, o, cap, V, rfl, _⟩
  · exact ⟨_, _, rfl⟩
  · exact ⟨_, _, rfl⟩

/-- Memory that is kept keeps what lies in it. -/
theorem HeadC.kept {w w' : World} {b p : Nat} {t : C} {v : Value} (h : HeadC w b p t v) (hk : ∀ a u, a.block = b → w.cell? a = some u → w'.cell? a = some u) : HeadC w' b p t v :=
  ⟨hk _ _ rfl h.c0, hk _ _ rfl h.c1, hk _ _ rfl h.c2, hk _ _ rfl h.c3, hk _ _ rfl h.c4⟩

theorem C.InB.kept {B : Nat} {w w' : World} (hk : ∀ a u, B ≤ a.block → w.cell? a = some u → w'.cell? a = some u) (t : C) : ∀ {v : Value}, t.InB B w v → t.InB B w' v := by
  induction t with
  | no => intro v h; exact h.elim
  | mk op n s t2 len kid ih =>
    intro v h
    unfold C.InB at h ⊢
    refine ⟨h.1, ?_⟩
    rcases h.2 with h0 | ⟨b, o, cap, V, h1, hB, h2, h3, h4⟩
    · exact .inl h0
    · exact .inr ⟨b, o, cap, V, h1, hB, h2, h3, fun i hi => ⟨(h4 i hi).1.kept (fun a u ha => hk a u (by omega)), ih i (h4 i hi).2⟩⟩

theorem ClB.kept {B : Nat} {w w' : World} (hk : ∀ a u, B ≤ a.block → w.cell? a = some u → w'.cell? a = some u) {len : Nat} {kid : Nat → C} {v : Value} (h : ClB B w len kid v) : ClB B w' len kid v := by
  rcases h with h0 | ⟨b, o, cap, V, h1, hB, h2, h3, h4⟩
  · exact .inl h0
  · exact .inr ⟨b, o, cap, V, h1, hB, h2, h3, fun i hi => ⟨(h4 i hi).1.kept (fun a u ha => hk a u (by omega)), C.InB.kept hk _ (h4 i hi).2⟩⟩

theorem C.InB.mono {B B' : Nat} (hB : B' ≤ B) {w : World} (t : C) : ∀ {v : Value}, t.InB B w v → t.InB B' w v := by
  induction t with
  | no => intro v h; exact h.elim
  | mk op n s t2 len kid ih =>
    intro v h
    unfold C.InB at h ⊢
    refine ⟨h.1, ?_⟩
    rcases h.2 with h0 | ⟨b, o, cap, V, h1, hb, h2, h3, h4⟩
    · exact .inl h0
    · exact .inr ⟨b, o, cap, V, h1, by omega, h2, h3, fun i hi => ⟨(h4 i hi).1, ih i (h4 i hi).2⟩⟩
theorem ClB.mono {B B' : Nat} (hB : B' ≤ B) {w : World} {len : Nat} {kid : Nat → C} {v : Value} (h : ClB B w len kid v) : ClB B' w len kid v := by
  rcases h with h0 | ⟨b, o, cap, V, h1, hb, h2, h3, h4⟩
  · exact .inl h0
  · exact .inr ⟨b, o, cap, V, h1, by omega, h2, h3, fun i hi => ⟨(h4 i hi).1, (h4 i hi).2.mono hB⟩⟩
theorem C.InB.all {B : Nat} {w : World} {t : C} {v : Value} (h : t.InB B w v) : t.In w v := h.mono (Nat.zero_le _)
theorem ClB.all {B : Nat} {w : World} {len : Nat} {kid : Nat → C} {v : Value} (h : ClB B w len kid v) : Cl w len kid v := h.mono (Nat.zero_le _)

theorem C.InB.below {B : Nat} {w w' : World} (hb : Below w.heap.size w w') {t : C} {v : Value} (h : t.InB B w v) : t.InB B w' v := C.InB.kept (fun a u _ => keeps hb a u) t h
theorem ClB.below {B : Nat} {w w' : World} (hb : Below w.heap.size w w') {len : Nat} {kid : Nat → C} {v : Value} (h : ClB B w len kid v) : ClB B w' len kid v := ClB.kept (fun a u _ => keeps hb a u) h
theorem HeadC.below {w w' : World} (hb : Below w.heap.size w w') {b p : Nat} {t : C} {v : Value} (h : HeadC w b p t v) : HeadC w' b p t v := h.kept (fun a u _ => keeps hb a u)

/-- What is told of a slice of data, by index. -/
theorem ClB.at {B : Nat} {w : World} {len : Nat} {kid : Nat → C} {v : Value} (h : ClB B w len kid v) : ∃ p cap, v = .slice p len cap ∧ len ≤ maxLen ∧
    ∀ i, i < len → ∃ b o u, p = some ⟨b, o, none⟩ ∧ HeadC w b (o + i * 5) (kid i) u ∧ (kid i).InB B w u := by
  rcases h with ⟨rfl, p, cap, rfl⟩ | ⟨b, o, cap, V, rfl, hB, h1, h2, h3⟩
  · exact ⟨p, cap, rfl, Nat.zero_le _, fun i hi => by omega⟩
  · exact ⟨_, cap, rfl, Nat.le_trans h1 h2, fun i hi => ⟨b, o, V i, rfl, h3 i hi⟩⟩

theorem ClB.fn {B : Nat} {w : World} {len : Nat} {kid : Nat → C} {v : Value} (h : ClB B w len kid v) : ∃ (p : Option Addr) (cap : Nat) (V : Nat → Value), v = .slice p len cap ∧ len ≤ maxLen ∧
    ∀ i, i < len → ∃ b o, p = some ⟨b, o, none⟩ ∧ HeadC w b (o + i * 5) (kid i) (V i) ∧ (kid i).InB B w (V i) := by
  rcases h with ⟨rfl, p, cap, rfl⟩ | ⟨b, o, cap, V, rfl, hB, h1, h2, h3⟩
  · exact ⟨p, cap, fun _ => .bool false, rfl, Nat.zero_le _, fun i hi => by omega⟩
  · exact ⟨_, cap, V, rfl, Nat.le_trans h1 h2, fun i hi => ⟨b, o, rfl, h3 i hi⟩⟩

/-- A datum's value. -/
def C.val (t : C) (v : Value) : Value := .agg #[.int .i64 t.op, .int .i64 t.n, .string t.s, .string t.t2, v]

end Go.Proofs.YtefjnhkaampmcaaDoor
