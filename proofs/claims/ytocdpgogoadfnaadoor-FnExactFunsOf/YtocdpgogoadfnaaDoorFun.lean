/- Ops and functions, and how rows of them lie in memory. No conditions. -/
import Derived.Test.YtocdpgogoadfnaaDoorDat
namespace Go.Proofs.YtocdpgogoadfnaaDoor
open Go.ChangeShapes Go.WideShapes Go.ChangeAt Go.RowKit

/-- An op. -/
structure O3 where
  c : Int
  n : Int
  m : Int
instance : Inhabited O3 := ⟨⟨0, 0, 0⟩⟩
/-- Its numbers are ints. -/
def I64 (z : Int) : Prop := -9223372036854775808 ≤ z ∧ z ≤ 9223372036854775807
def O3.Ok (t : O3) : Prop := I64 t.c ∧ I64 t.n ∧ I64 t.m

/-- Three cells from p on. -/
structure HeadO (w : World) (b p : Nat) (t : O3) : Prop where
  c0 : w.cell? ⟨b, p, none⟩ = some (.int .i64 t.c)
  c1 : w.cell? ⟨b, p + 1, none⟩ = some (.int .i64 t.n)
  c2 : w.cell? ⟨b, p + 2, none⟩ = some (.int .i64 t.m)

/-- A slice of ops that lie in w, from block B on. -/
def OlB (B : Nat) (w : World) (len : Nat) (op : Nat → O3) (v : Value) : Prop :=
  (len = 0 ∧ ∃ p cap, v = .slice p 0 cap) ∨
   ∃ (b o cap : Nat), v = .slice (some ⟨b, o, none⟩) len cap ∧ B ≤ b ∧ len ≤ cap ∧ cap ≤ maxLen ∧ ∀ i, i < len → HeadO w b (o + i * 3) (op i) ∧ (op i).Ok
abbrev Ol (w : World) (len : Nat) (op : Nat → O3) (v : Value) : Prop := OlB 0 w len op v

theorem OlB.shape {B : Nat} {w : World} {len : Nat} {op : Nat → O3} {v : Value} (h : OlB B w len op v) : ∃ p cap, v = .slice p len cap := by
  rcases h with ⟨rfl, p, cap, rfl⟩ | ⟨b, o, cap, rfl, _⟩
  · exact ⟨_, _, rfl⟩
  · exact ⟨_, _, rfl⟩
theorem HeadO.kept {w w' : World} {b p : Nat} {t : O3} (h : HeadO w b p t) (hk : ∀ a u, a.block = b → w.cell? a = some u → w'.cell? a = some u) : HeadO w' b p t :=
  ⟨hk _ _ rfl h.c0, hk _ _ rfl h.c1, hk _ _ rfl h.c2⟩
theorem HeadO.below {w w' : World} (hb : Below w.heap.size w w') {b p : Nat} {t : O3} (h : HeadO w b p t) : HeadO w' b p t := h.kept (fun a u _ => keeps hb a u)
theorem OlB.kept {B : Nat} {w w' : World} (hk : ∀ a u, B ≤ a.block → w.cell? a = some u → w'.cell? a = some u) {len : Nat} {op : Nat → O3} {v : Value} (h : OlB B w len op v) : OlB B w' len op v := by
  rcases h with h0 | ⟨b, o, cap, h1, hB, h2, h3, h4⟩
  · exact .inl h0
  · exact .inr ⟨b, o, cap, h1, hB, h2, h3, fun i hi => ⟨(h4 i hi).1.kept (fun a u ha => hk a u (by omega)), (h4 i hi).2⟩⟩
theorem OlB.mono {B B' : Nat} (hB : B' ≤ B) {w : World} {len : Nat} {op : Nat → O3} {v : Value} (h : OlB B w len op v) : OlB B' w len op v := by
  rcases h with h0 | ⟨b, o, cap, h1, hb, h2, h3, h4⟩
  · exact .inl h0
  · exact .inr ⟨b, o, cap, h1, by omega, h2, h3, h4⟩
theorem OlB.all {B : Nat} {w : World} {len : Nat} {op : Nat → O3} {v : Value} (h : OlB B w len op v) : Ol w len op v := h.mono (Nat.zero_le _)
theorem OlB.below {B : Nat} {w w' : World} (hb : Below w.heap.size w w') {len : Nat} {op : Nat → O3} {v : Value} (h : OlB B w len op v) : OlB B w' len op v := OlB.kept (fun a u _ => keeps hb a u) h
theorem OlB.at {B : Nat} {w : World} {len : Nat} {op : Nat → O3} {v : Value} (h : OlB B w len op v) : ∃ p cap, v = .slice p len cap ∧ len ≤ maxLen ∧
    ∀ i, i < len → ∃ b o, p = some ⟨b, o, none⟩ ∧ HeadO w b (o + i * 3) (op i) ∧ (op i).Ok := by
  rcases h with ⟨rfl, p, cap, rfl⟩ | ⟨b, o, cap, rfl, hB, h1, h2, h3⟩
  · exact ⟨p, cap, rfl, Nat.zero_le _, fun i hi => by omega⟩
  · exact ⟨_, cap, rfl, Nat.le_trans h1 h2, fun i hi => ⟨b, o, rfl, h3 i hi⟩⟩

/-- A function: how many are kept, and its places. -/
structure Fu where
  fr : Int
  len : Nat
  op : Nat → O3
instance : Inhabited Fu := ⟨⟨0, 0, fun _ => default⟩⟩

def Fu.weight (t : Fu) : Nat := t.len
def sumF (f : Nat → Nat) : Nat → Nat
  | 0 => 0
  | k + 1 => sumF f k + f k
theorem sumF_at (f : Nat → Nat) (i : Nat) : ∀ n, i < n → f i + sumF f i ≤ sumF f n
  | 0, h => absurd h (Nat.not_lt_zero _)
  | n + 1, h => by
    rcases Nat.lt_or_ge i n with h1 | h1
    · have := sumF_at f i n h1; simp only [sumF]; omega
    · have : i = n := by omega
      subst this; simp only [sumF]; omega
def funsWeight (len : Nat) (kid : Nat → Fu) : Nat := len + sumF (fun i => (kid i).weight) len

/-- Two cells from p on. -/
structure HeadF (w : World) (b p : Nat) (t : Fu) (v : Value) : Prop where
  c0 : w.cell? ⟨b, p, none⟩ = some (.int .i64 t.fr)
  c1 : w.cell? ⟨b, p + 1, none⟩ = some v

/-- v is the slice of its places. -/
def Fu.InB (B : Nat) (w : World) (t : Fu) (v : Value) : Prop := I64 t.fr ∧ OlB B w t.len t.op v
abbrev Fu.In (w : World) (t : Fu) (v : Value) : Prop := t.InB 0 w v

/-- A slice of functions that lie in w, from block B on. -/
def FlB (B : Nat) (w : World) (len : Nat) (kid : Nat → Fu) (v : Value) : Prop :=
  (len = 0 ∧ ∃ p cap, v = .slice p 0 cap) ∨
   ∃ (b o cap : Nat) (V : Nat → Value), v = .slice (some ⟨b, o, none⟩) len cap ∧ B ≤ b ∧ len ≤ cap ∧ cap ≤ maxLen ∧
     ∀ i, i < len → HeadF w b (o + i * 2) (kid i) (V i) ∧ (kid i).InB B w (V i)
abbrev Fl (w : World) (len : Nat) (kid : Nat → Fu) (v : Value) : Prop := FlB 0 w len kid v

theorem FlB.shape {B : Nat} {w : World} {len : Nat} {kid : Nat → Fu} {v : Value} (h : FlB B w len kid v) : ∃ p cap, v = .slice p len cap := by
  rcases h with ⟨rfl, p, cap, rfl⟩ | ⟨b, o, cap, V, rfl, _⟩
  · exact ⟨_, _, rfl⟩
  · exact ⟨_, _, rfl⟩
theorem HeadF.kept {w w' : World} {b p : Nat} {t : Fu} {v : Value} (h : HeadF w b p t v) (hk : ∀ a u, a.block = b → w.cell? a = some u → w'.cell? a = some u) : HeadF w' b p t v :=
  ⟨hk _ _ rfl h.c0, hk _ _ rfl h.c1⟩
theorem Fu.InB.kept {B : Nat} {w w' : World} (hk : ∀ a u, B ≤ a.block → w.cell? a = some u → w'.cell? a = some u) (t : Fu) {v : Value} (h : t.InB B w v) : t.InB B w' v := ⟨h.1, OlB.kept hk h.2⟩
theorem Fu.InB.mono {B B' : Nat} (hB : B' ≤ B) {w : World} (t : Fu) {v : Value} (h : t.InB B w v) : t.InB B' w v := ⟨h.1, OlB.mono hB h.2⟩
theorem Fu.InB.all {B : Nat} {w : World} {t : Fu} {v : Value} (h : t.InB B w v) : t.In w v := h.mono (Nat.zero_le _)
theorem Fu.InB.below {B : Nat} {w w' : World} (hb : Below w.heap.size w w') {t : Fu} {v : Value} (h : t.InB B w v) : t.InB B w' v := Fu.InB.kept (fun a u _ => keeps hb a u) t h
theorem Fu.InB.sl {B : Nat} {w : World} {t : Fu} {v : Value} (h : t.InB B w v) : OlB B w t.len t.op v := h.2
theorem FlB.kept {B : Nat} {w w' : World} (hk : ∀ a u, B ≤ a.block → w.cell? a = some u → w'.cell? a = some u) {len : Nat} {kid : Nat → Fu} {v : Value} (h : FlB B w len kid v) : FlB B w' len kid v := by
  rcases h with h0 | ⟨b, o, cap, V, h1, hB, h2, h3, h4⟩
  · exact .inl h0
  · exact .inr ⟨b, o, cap, V, h1, hB, h2, h3, fun i hi => ⟨(h4 i hi).1.kept (fun a u ha => hk a u (by omega)), Fu.InB.kept hk _ (h4 i hi).2⟩⟩
theorem FlB.mono {B B' : Nat} (hB : B' ≤ B) {w : World} {len : Nat} {kid : Nat → Fu} {v : Value} (h : FlB B w len kid v) : FlB B' w len kid v := by
  rcases h with h0 | ⟨b, o, cap, V, h1, hb, h2, h3, h4⟩
  · exact .inl h0
  · exact .inr ⟨b, o, cap, V, h1, by omega, h2, h3, fun i hi => ⟨(h4 i hi).1, (h4 i hi).2.mono hB⟩⟩
theorem FlB.all {B : Nat} {w : World} {len : Nat} {kid : Nat → Fu} {v : Value} (h : FlB B w len kid v) : Fl w len kid v := h.mono (Nat.zero_le _)
theorem FlB.below {B : Nat} {w w' : World} (hb : Below w.heap.size w w') {len : Nat} {kid : Nat → Fu} {v : Value} (h : FlB B w len kid v) : FlB B w' len kid v := FlB.kept (fun a u _ => keeps hb a u) h
theorem HeadF.below {w w' : World} (hb : Below w.heap.size w w') {b p : Nat} {t : Fu} {v : Value} (h : HeadF w b p t v) : HeadF w' b p t v := h.kept (fun a u _ => keeps hb a u)
theorem FlB.at {B : Nat} {w : World} {len : Nat} {kid : Nat → Fu} {v : Value} (h : FlB B w len kid v) : ∃ p cap, v = .slice p len cap ∧ len ≤ maxLen ∧
    ∀ i, i < len → ∃ b o u, p = some ⟨b, o, none⟩ ∧ HeadF w b (o + i * 2) (kid i) u ∧ (kid i).InB B w u := by
  rcases h with ⟨rfl, p, cap, rfl⟩ | ⟨b, o, cap, V, rfl, hB, h1, h2, h3⟩
  · exact ⟨p, cap, rfl, Nat.zero_le _, fun i hi => by omega⟩
  · exact ⟨_, cap, rfl, Nat.le_trans h1 h2, fun i hi => ⟨b, o, V i, rfl, h3 i hi⟩⟩
end Go.Proofs.YtocdpgogoadfnaaDoor
