/- Blocks, and how a row of them lies in memory. No conditions. -/
import Derived.Test.YtmobpjokmngdgaaDoorIr
namespace Go.Proofs.YtmobpjokmngdgaaDoor
open Go.ChangeShapes Go.WideShapes Go.ChangeAt Go.RowKit

/-- A block: how many are kept, and its body. -/
structure Kb where
  fr : Int
  bd : It
instance : Inhabited Kb := ⟨⟨0, .no⟩⟩

def Kb.weight (t : Kb) : Nat := t.bd.weight
def kidsWeightK (len : Nat) (kid : Nat → Kb) : Nat := len + sumTo (fun i => (kid i).weight) len

/-- Four cells from p on. -/
structure HeadK (w : World) (b p : Nat) (t : Kb) (v : Value) : Prop where
  c0 : w.cell? ⟨b, p, none⟩ = some (.int .i64 t.fr)
  c1 : w.cell? ⟨b, p + 1, none⟩ = some (.int .i64 t.bd.op)
  c2 : w.cell? ⟨b, p + 2, none⟩ = some (.int .i64 t.bd.n)
  c3 : w.cell? ⟨b, p + 3, none⟩ = some v

/-- v is the slice of its body's kids. -/
def Kb.InB (B : Nat) (w : World) (t : Kb) (v : Value) : Prop := (-9223372036854775808 ≤ t.fr ∧ t.fr ≤ 9223372036854775807) ∧ t.bd.InB B w v
abbrev Kb.In (w : World) (t : Kb) (v : Value) : Prop := t.InB 0 w v

/-- A slice of blocks that lie in w, from block B on. -/
def KlB (B : Nat) (w : World) (len : Nat) (kid : Nat → Kb) (v : Value) : Prop :=
  (len = 0 ∧ ∃ p cap, v = .slice p 0 cap) ∨
   ∃ (b o cap : Nat) (V : Nat → Value), v = .slice (some ⟨b, o, none⟩) len cap ∧ B ≤ b ∧ len ≤ cap ∧ cap ≤ maxLen ∧
     ∀ i, i < len → HeadK w b (o + i * 4) (kid i) (V i) ∧ (kid i).InB B w (V i)
abbrev Kl (w : World) (len : Nat) (kid : Nat → Kb) (v : Value) : Prop := KlB 0 w len kid v

theorem KlB.shape {B : Nat} {w : World} {len : Nat} {kid : Nat → Kb} {v : Value} (h : KlB B w len kid v) : ∃ p cap, v = .slice p len cap := by
  rcases h with ⟨rfl, p, cap, rfl⟩ | ⟨b, o, cap, V, rfl, _⟩
  · exact ⟨_, _, rfl⟩
  · exact ⟨_, _, rfl⟩
theorem HeadK.kept {w w' : World} {b p : Nat} {t : Kb} {v : Value} (h : HeadK w b p t v) (hk : ∀ a u, a.block = b → w.cell? a = some u → w'.cell? a = some u) : HeadK w' b p t v :=
  ⟨hk _ _ rfl h.c0, hk _ _ rfl h.c1, hk _ _ rfl h.c2, hk _ _ rfl h.c3⟩
theorem Kb.InB.kept {B : Nat} {w w' : World} (hk : ∀ a u, B ≤ a.block → w.cell? a = some u → w'.cell? a = some u) (t : Kb) {v : Value} (h : t.InB B w v) : t.InB B w' v := ⟨h.1, It.InB.kept hk _ h.2⟩
theorem Kb.InB.mono {B B' : Nat} (hB : B' ≤ B) {w : World} (t : Kb) {v : Value} (h : t.InB B w v) : t.InB B' w v := ⟨h.1, It.InB.mono hB _ h.2⟩
theorem Kb.InB.all {B : Nat} {w : World} {t : Kb} {v : Value} (h : t.InB B w v) : t.In w v := h.mono (Nat.zero_le _)
theorem Kb.InB.below {B : Nat} {w w' : World} (hb : Below w.heap.size w w') {t : Kb} {v : Value} (h : t.InB B w v) : t.InB B w' v := Kb.InB.kept (fun a u _ => keeps hb a u) t h
theorem Kb.InB.sl {B : Nat} {w : World} {t : Kb} {v : Value} (h : t.InB B w v) : IlB B w t.bd.len t.bd.kid v := h.2.sl
theorem KlB.kept {B : Nat} {w w' : World} (hk : ∀ a u, B ≤ a.block → w.cell? a = some u → w'.cell? a = some u) {len : Nat} {kid : Nat → Kb} {v : Value} (h : KlB B w len kid v) : KlB B w' len kid v := by
  rcases h with h0 | ⟨b, o, cap, V, h1, hB, h2, h3, h4⟩
  · exact .inl h0
  · exact .inr ⟨b, o, cap, V, h1, hB, h2, h3, fun i hi => ⟨(h4 i hi).1.kept (fun a u ha => hk a u (by omega)), Kb.InB.kept hk _ (h4 i hi).2⟩⟩
theorem KlB.mono {B B' : Nat} (hB : B' ≤ B) {w : World} {len : Nat} {kid : Nat → Kb} {v : Value} (h : KlB B w len kid v) : KlB B' w len kid v := by
  rcases h with h0 | ⟨b, o, cap, V, h1, hb, h2, h3, h4⟩
  · exact .inl h0
  · exact .inr ⟨b, o, cap, V, h1, by omega, h2, h3, fun i hi => ⟨(h4 i hi).1, (h4 i hi).2.mono hB⟩⟩
theorem KlB.all {B : Nat} {w : World} {len : Nat} {kid : Nat → Kb} {v : Value} (h : KlB B w len kid v) : Kl w len kid v := h.mono (Nat.zero_le _)
theorem KlB.below {B : Nat} {w w' : World} (hb : Below w.heap.size w w') {len : Nat} {kid : Nat → Kb} {v : Value} (h : KlB B w len kid v) : KlB B w' len kid v := KlB.kept (fun a u _ => keeps hb a u) h
theorem HeadK.below {w w' : World} (hb : Below w.heap.size w w') {b p : Nat} {t : Kb} {v : Value} (h : HeadK w b p t v) : HeadK w' b p t v := h.kept (fun a u _ => keeps hb a u)
theorem KlB.at {B : Nat} {w : World} {len : Nat} {kid : Nat → Kb} {v : Value} (h : KlB B w len kid v) : ∃ p cap, v = .slice p len cap ∧ len ≤ maxLen ∧
    ∀ i, i < len → ∃ b o u, p = some ⟨b, o, none⟩ ∧ HeadK w b (o + i * 4) (kid i) u ∧ (kid i).InB B w u := by
  rcases h with ⟨rfl, p, cap, rfl⟩ | ⟨b, o, cap, V, rfl, hB, h1, h2, h3⟩
  · exact ⟨p, cap, rfl, Nat.zero_le _, fun i hi => by omega⟩
  · exact ⟨_, cap, rfl, Nat.le_trans h1 h2, fun i hi => ⟨b, o, V i, rfl, h3 i hi⟩⟩
end Go.Proofs.YtmobpjokmngdgaaDoor
