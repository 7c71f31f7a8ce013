/- What is read, as a tree, and how it lies in memory. No conditions. -/
import Derived.Test.YtafpbcdgcgffeabGreatDoorRows
import Derived.Below
import Derived.Deep.Slices
import Derived.ProofKit
import Derived.WalkKit
import Derived.OwnWalk
import Derived.Laws.OwnMore
import Derived.Laws.ResultCell
import Derived.Lib.ItoaNum
import Derived.Lib.ItoaLen
import Derived.Deep.RegionHeld3
import Derived.Lib.AtoiAll
import Derived.Laws.RangeAny
import Derived.Lib.Strings
import Derived.Deep.AppendLies
import Derived.Deep.QuietTactic
import Derived.BigQuiet
import Derived.Laws.BytesArg
import Derived.Laws.IdiomStrings
import Derived.Deep.RegionLaw
import Derived.Tactics
namespace Go.Proofs.YtafpbcdgcgffeabGreatDoor
open Go.ChangeShapes Go.WideShapes Go.ChangeAt Go.RowKit

/-- A datum: its op, place, number and text, and its kids by their index. -/
inductive D where
  | no
  | mk (op at_ n : Int) (s : ByteArray) (len : Nat) (kid : Nat → D)

namespace D
def op : D → Int | .no => 0 | .mk x _ _ _ _ _ => x
def at_ : D → Int | .no => 0 | .mk _ x _ _ _ _ => x
def n : D → Int | .no => 0 | .mk _ _ x _ _ _ => x
def s : D → ByteArray | .no => ⟨#[]⟩ | .mk _ _ _ x _ _ => x
def len : D → Nat | .no => 0 | .mk _ _ _ _ x _ => x
def kid : D → Nat → D | .no => fun _ => .no | .mk _ _ _ _ _ x => x
end D
instance : Inhabited D := ⟨.no⟩

/-- The sum of the first k. -/
def sumTo (f : Nat → Nat) : Nat → Nat
  | 0 => 0
  | k + 1 => sumTo f k + f k

theorem sumTo_le (f : Nat → Nat) (j k : Nat) (h : j ≤ k) : sumTo f j ≤ sumTo f k := by
  induction k with
  | zero => simp at h; subst h; exact Nat.le_refl _
  | succ k ih =>
    rcases Nat.lt_or_ge j (k + 1) with h1 | h1
    · have := ih (by omega); simp only [sumTo]; omega
    · have : j = k + 1 := by omega
      subst this; exact Nat.le_refl _

theorem sumTo_at (f : Nat → Nat) (j k : Nat) (h : j < k) : sumTo f j + f j ≤ sumTo f k := sumTo_le f (j + 1) k h

/-- How many data there are, itself among them. -/
def D.count : D → Nat | .no => 1 | .mk _ _ _ _ len kid => 1 + sumTo (fun i => (kid i).count) len
/-- What is reckoned of it: the text's bytes and how many kids there are, all through. -/
def D.weight : D → Nat | .no => 0 | .mk _ _ _ s len kid => s.size + (len + sumTo (fun i => (kid i).weight) len)

def kidsWeight (len : Nat) (kid : Nat → D) : Nat := len + sumTo (fun i => (kid i).weight) len
theorem D.weight_eq (t : D) : t.weight = t.s.size + kidsWeight t.len t.kid := by cases t <;> rfl
theorem D.count_eq (t : D) : t.count = 1 + sumTo (fun i => (t.kid i).count) t.len := by cases t <;> rfl

theorem D.count_weight (t : D) : t.count ≤ 1 + t.weight := by
  induction t with
  | no => simp [count]
  | mk op a n s len kid ih =>
    unfold count weight
    have : ∀ k, sumTo (fun i => (kid i).count) k ≤ k + sumTo (fun i => (kid i).weight) k := by
      intro k
      induction k with
      | zero => simp [sumTo]
      | succ k ihk => simp only [sumTo]; have := ih k; omega
    have := this len
    omega

/-- Five cells from p on. -/
structure Head (w : World) (b p : Nat) (t : D) (v : Value) : Prop where
  c0 : w.cell? ⟨b, p, none⟩ = some (.int .i64 t.op)
  c1 : w.cell? ⟨b, p + 1, none⟩ = some (.int .i64 t.at_)
  c2 : w.cell? ⟨b, p + 2, none⟩ = some (.int .i64 t.n)
  c3 : w.cell? ⟨b, p + 3, none⟩ = some (.string t.s)
  c4 : w.cell? ⟨b, p + 4, none⟩ = some v

/-- v is the slice of a datum's kids, which lie in w, from block B on. -/
def D.InB (B : Nat) (w : World) : D → Value → Prop
  | .no, _ => False
  | .mk _ _ n s len kid, v => (s.size ≤ maxLen ∧ -9223372036854775808 ≤ n ∧ n ≤ 9223372036854775807) ∧
    ((len = 0 ∧ ∃ p cap, v = .slice p 0 cap) ∨
     ∃ (b o cap : Nat) (V : Nat → Value), v = .slice (some ⟨b, o, none⟩) len cap ∧ B ≤ b ∧ len ≤ cap ∧ cap ≤ maxLen ∧
       ∀ i, i < len → Head w b (o + i * 5) (kid i) (V i) ∧ (kid i).InB B w (V i))
abbrev D.In (w : World) (t : D) (v : Value) : Prop := t.InB 0 w v

/-- A slice of data that lie in w, from block B on. -/
def SlB (B : Nat) (w : World) (len : Nat) (kid : Nat → D) (v : Value) : Prop :=
  (len = 0 ∧ ∃ p cap, v = .slice p 0 cap) ∨
   ∃ (b o cap : Nat) (V : Nat → Value), v = .slice (some ⟨b, o, none⟩) len cap ∧ B ≤ b ∧ len ≤ cap ∧ cap ≤ maxLen ∧
     ∀ i, i < len → Head w b (o + i * 5) (kid i) (V i) ∧ (kid i).InB B w (V i)
abbrev Sl (w : World) (len : Nat) (kid : Nat → D) (v : Value) : Prop := SlB 0 w len kid v

theorem D.InB.sl {B : Nat} {w : World} {t : D} {v : Value} (h : t.InB B w v) : SlB B w t.len t.kid v := by
  cases t <;> unfold D.InB at h <;> first | exact h.elim | exact h.2
theorem D.InB.size {B : Nat} {w : World} {t : D} {v : Value} (h : t.InB B w v) : t.s.size ≤ maxLen := by
  cases t <;> unfold D.InB at h <;> first | exact h.elim | exact h.1.1
theorem D.InB.num {B : Nat} {w : World} {t : D} {v : Value} (h : t.InB B w v) : -9223372036854775808 ≤ t.n ∧ t.n ≤ 9223372036854775807 := by
  cases t <;> unfold D.InB at h <;> first | exact h.elim | exact h.1.2
theorem D.InB.mk' {B : Nat} {w : World} {op a n : Int} {s : ByteArray} {len : Nat} {kid : Nat → D} {v : Value} (h0 : s.size ≤ maxLen) (h1 : -9223372036854775808 ≤ n ∧ n ≤ 9223372036854775807) (h : SlB B w len kid v) : (D.mk op a n s len kid).InB B w v := by
  unfold D.InB; exact ⟨⟨h0, h1⟩, h⟩

theorem SlB.shape {B : Nat} {w : World} {len : Nat} {kid : Nat → D} {v : Value} (h : SlB B w len kid v) : ∃ p cap, v = .slice p len cap := by
  rcases h with ⟨rfl, p, cap, rfl⟩ | ⟨b, o, cap, V, rfl, _⟩
  · exact ⟨_, _, rfl⟩
  · exact ⟨_, _, rfl⟩

/-- Memory that is kept keeps what lies in it. -/
theorem Head.kept {w w' : World} {b p : Nat} {t : D} {v : Value} (h : Head w b p t v) (hk : ∀ a u, a.block = b → w.cell? a = some u → w'.cell? a = some u) : Head w' b p t v :=
  ⟨hk _ _ rfl h.c0, hk _ _ rfl h.c1, hk _ _ rfl h.c2, hk _ _ rfl h.c3, hk _ _ rfl h.c4⟩

theorem D.InB.kept {B : Nat} {w w' : World} (hk : ∀ a u, B ≤ a.block → w.cell? a = some u → w'.cell? a = some u) (t : D) : ∀ {v : Value}, t.InB B w v → t.InB B w' v := by
  induction t with
  | no => intro v h; exact h.elim
  | mk op a n s len kid ih =>
    intro v h
    unfold D.InB at h ⊢
    refine ⟨h.1, ?_⟩
    rcases h.2 with h0 | ⟨b, o, cap, V, h1, hB, h2, h3, h4⟩
    · exact .inl h0
    · exact .inr ⟨b, o, cap, V, h1, hB, h2, h3, fun i hi => ⟨(h4 i hi).1.kept (fun a u ha => hk a u (by omega)), ih i (h4 i hi).2⟩⟩

theorem SlB.kept {B : Nat} {w w' : World} (hk : ∀ a u, B ≤ a.block → w.cell? a = some u → w'.cell? a = some u) {len : Nat} {kid : Nat → D} {v : Value} (h : SlB B w len kid v) : SlB B w' len kid v := by
  rcases h with h0 | ⟨b, o, cap, V, h1, hB, h2, h3, h4⟩
  · exact .inl h0
  · exact .inr ⟨b, o, cap, V, h1, hB, h2, h3, fun i hi => ⟨(h4 i hi).1.kept (fun a u ha => hk a u (by omega)), D.InB.kept hk _ (h4 i hi).2⟩⟩

theorem D.InB.mono {B B' : Nat} (hB : B' ≤ B) {w : World} (t : D) : ∀ {v : Value}, t.InB B w v → t.InB B' w v := by
  induction t with
  | no => intro v h; exact h.elim
  | mk op a n s len kid ih =>
    intro v h
    unfold D.InB at h ⊢
    refine ⟨h.1, ?_⟩
    rcases h.2 with h0 | ⟨b, o, cap, V, h1, hb, h2, h3, h4⟩
    · exact .inl h0
    · exact .inr ⟨b, o, cap, V, h1, by omega, h2, h3, fun i hi => ⟨(h4 i hi).1, ih i (h4 i hi).2⟩⟩
theorem SlB.mono {B B' : Nat} (hB : B' ≤ B) {w : World} {len : Nat} {kid : Nat → D} {v : Value} (h : SlB B w len kid v) : SlB B' w len kid v := by
  rcases h with h0 | ⟨b, o, cap, V, h1, hb, h2, h3, h4⟩
  · exact .inl h0
  · exact .inr ⟨b, o, cap, V, h1, by omega, h2, h3, fun i hi => ⟨(h4 i hi).1, (h4 i hi).2.mono hB⟩⟩
theorem D.InB.all {B : Nat} {w : World} {t : D} {v : Value} (h : t.InB B w v) : t.In w v := h.mono (Nat.zero_le _)
theorem SlB.all {B : Nat} {w : World} {len : Nat} {kid : Nat → D} {v : Value} (h : SlB B w len kid v) : Sl w len kid v := h.mono (Nat.zero_le _)

theorem keeps {w w' : World} (hb : Below w.heap.size w w') (a : Addr) (u : Value) (h : w.cell? a = some u) : w'.cell? a = some u :=
  (hb.cell (World.block_lt_of_cell? w a h)).trans h

theorem D.InB.below {B : Nat} {w w' : World} (hb : Below w.heap.size w w') {t : D} {v : Value} (h : t.InB B w v) : t.InB B w' v := D.InB.kept (fun a u _ => keeps hb a u) t h
theorem SlB.below {B : Nat} {w w' : World} (hb : Below w.heap.size w w') {len : Nat} {kid : Nat → D} {v : Value} (h : SlB B w len kid v) : SlB B w' len kid v := SlB.kept (fun a u _ => keeps hb a u) h
theorem Head.below {w w' : World} (hb : Below w.heap.size w w') {b p : Nat} {t : D} {v : Value} (h : Head w b p t v) : Head w' b p t v := h.kept (fun a u _ => keeps hb a u)

/-- What is told of a slice of data, by index. -/
theorem SlB.at {B : Nat} {w : World} {len : Nat} {kid : Nat → D} {v : Value} (h : SlB B w len kid v) : ∃ p cap, v = .slice p len cap ∧ len ≤ maxLen ∧
    ∀ i, i < len → ∃ b o u, p = some ⟨b, o, none⟩ ∧ Head w b (o + i * 5) (kid i) u ∧ (kid i).InB B w u := by
  rcases h with ⟨rfl, p, cap, rfl⟩ | ⟨b, o, cap, V, rfl, hB, h1, h2, h3⟩
  · exact ⟨p, cap, rfl, Nat.zero_le _, fun i hi => by omega⟩
  · exact ⟨_, cap, rfl, Nat.le_trans h1 h2, fun i hi => ⟨b, o, V i, rfl, h3 i hi⟩⟩

theorem SlB.fn {B : Nat} {w : World} {len : Nat} {kid : Nat → D} {v : Value} (h : SlB B w len kid v) : ∃ (p : Option Addr) (cap : Nat) (V : Nat → Value), v = .slice p len cap ∧ len ≤ maxLen ∧
    ∀ i, i < len → ∃ b o, p = some ⟨b, o, none⟩ ∧ Head w b (o + i * 5) (kid i) (V i) ∧ (kid i).InB B w (V i) := by
  rcases h with ⟨rfl, p, cap, rfl⟩ | ⟨b, o, cap, V, rfl, hB, h1, h2, h3⟩
  · exact ⟨p, cap, fun _ => .bool false, rfl, Nat.zero_le _, fun i hi => by omega⟩
  · exact ⟨_, cap, V, rfl, Nat.le_trans h1 h2, fun i hi => ⟨b, o, rfl, h3 i hi⟩⟩

theorem newb (w : World) (o : Obj) : Below w.heap.size w (w.alloc o) := (Below.refl _ _).alloc (Nat.le_refl _) o

/-- A datum's value. -/
def D.val (t : D) (v : Value) : Value := .agg #[.int .i64 t.op, .int .i64 t.at_, .int .i64 t.n, .string t.s, v]

end Go.Proofs.YtafpbcdgcgffeabGreatDoor

/- Rows of data that a call owns. No conditions. -/
namespace Go.Proofs.YtafpbcdgcgffeabGreatDoor
open Go.ChangeShapes Go.WideShapes Go.ChangeAt Go.RowKit

def dcells (q : D × Value) : List Value := [.int .i64 q.1.op, .int .i64 q.1.at_, .int .i64 q.1.n, .string q.1.s, q.2]
def drows (l : List (D × Value)) : List Value := l.flatMap dcells
theorem drows_append (a b : List (D × Value)) : drows (a ++ b) = drows a ++ drows b := by simp [drows]
theorem drows_length (l : List (D × Value)) : (drows l).length = l.length * 5 := by
  induction l with
  | nil => rfl
  | cons t r ih => simp only [drows, List.flatMap_cons, List.length_append, List.length_cons] at ih ⊢; rw [ih]; simp [dcells]; omega

/-- The list's data are those of the indices. -/
def Ks (kid : Nat → D) (l : List (D × Value)) : Prop := ∀ i q, l[i]? = some q → q.1 = kid i
theorem Ks.nil (kid : Nat → D) : Ks kid [] := fun i q h => by simp at h
theorem Ks.snoc {kid : Nat → D} {l : List (D × Value)} (h : Ks kid l) (v : Value) : Ks kid (l ++ [(kid l.length, v)]) := by
  intro i q hq
  rcases Nat.lt_trichotomy i l.length with hi | hi | hi
  · rw [List.getElem?_append_left hi] at hq; exact h i q hq
  · subst hi; simp at hq; subst hq; rfl
  · rw [List.getElem?_eq_none (by simp; omega)] at hq; cases hq

theorem drows_at (l : List (D × Value)) (junk : List Value) : ∀ (i : Nat) (q : D × Value), l[i]? = some q → ∀ j, j < 5 → (drows l ++ junk)[i * 5 + j]? = (dcells q)[j]? := by
  induction l with
  | nil => intro i q h; simp at h
  | cons x r ih =>
    intro i q h j hj
    have e : drows (x :: r) ++ junk = dcells x ++ (drows r ++ junk) := by simp [drows]
    have hl : (dcells x).length = 5 := rfl
    rw [e]
    cases i with
    | zero =>
      simp at h; subst h
      rw [List.getElem?_append_left (by omega)]; congr 1; omega
    | succ i =>
      simp at h
      rw [List.getElem?_append_right (by omega), hl]
      have := ih i q h j hj
      rw [← this]; congr 1; omega

/-- Five stores behind the rows. -/
theorem set5 (l : List (D × Value)) (junk : List Value) (hj : 5 ≤ junk.length) (t : D) (v : Value) :
    (((((drows l ++ junk).set (l.length * 5) (.int .i64 t.op)).set (l.length * 5 + 1) (.int .i64 t.at_)).set (l.length * 5 + 2) (.int .i64 t.n)).set (l.length * 5 + 3) (.string t.s)).set (l.length * 5 + 4) v = drows (l ++ [(t, v)]) ++ junk.drop 5 := by
  have hl := drows_length l
  have s : ∀ (c : List Value) (j : Nat) (x : Value), (drows l ++ c).set (l.length * 5 + j) x = drows l ++ c.set j x := by
    intro c j x
    rw [List.set_append_right _ _ (by omega), hl]
    congr 2; omega
  have s0 := s junk 0 (.int .i64 t.op)
  rw [Nat.add_zero] at s0
  rw [s0, s, s, s, s, drows_append]
  match junk, hj with
  | a :: b :: c :: d :: e :: r, _ => simp [drows, dcells]

theorem own_below5 {w w' : World} {base e size n : Nat} {v : Value} {xs : List Value} (h : w.ownsRow base e size v n xs) (hb : Below w.heap.size w w') : w'.ownsRow base e size v n xs := by
  refine ⟨h.1, ?_⟩
  rcases h.2 with hn | ⟨g, cap, cur, rfl, hbg, hgg, rest⟩
  · exact .inl hn
  · exact .inr ⟨g, cap, cur, rfl, hbg, (hb.block g (Array.getElem?_eq_some_iff.1 hgg).1).trans hgg, rest⟩

/-- What a call owns lies in memory. -/
theorem SlB.of_own {w : World} {base e B n : Nat} {v : Value} {kid : Nat → D} {l : List (D × Value)} (h : w.ownsRow base e 5 v n (drows l)) (hl : l.length = n) (hB : B ≤ base) (hk : Ks kid l) (hin : ∀ q ∈ l, q.1.InB B w q.2) : SlB B w n kid v := by
  rcases h.2 with ⟨rfl, rfl⟩ | ⟨g, cap, cur, rfl, hbg, hgg, hc, hm, hs, ht⟩
  · exact .inl ⟨rfl, _, _, rfl⟩
  · refine .inr ⟨g, 0, cap, fun i => ((l[i]?).getD (.no, .bool false)).2, rfl, by omega, hc, hm, fun i hi => ?_⟩
    have hi' : i < l.length := by omega
    have hq : l[i]? = some l[i] := List.getElem?_eq_getElem hi'
    have hkid := hk i _ hq
    have cell : ∀ j, j < 5 → w.cell? ⟨g, 0 + i * 5 + j, none⟩ = (dcells l[i])[j]? := by
      intro j hj
      have := h.cellAt (i * 5 + j) (by omega)
      rw [Nat.zero_add, this]
      have := drows_at l [] i _ hq j hj
      simpa using this
    simp only [hq, Option.getD_some]
    rw [← hkid]
    exact ⟨⟨cell 0 (by omega), cell 1 (by omega), cell 2 (by omega), cell 3 (by omega), cell 4 (by omega)⟩, hin _ (List.getElem_mem hi')⟩

theorem grownb {w w1 w2 : World} {row : Option Nat} (h : w.grownBy w1 row) (g : w1.grownBy w2 row) : w.grownBy w2 row :=
  ⟨g.os.trans h.os, g.tape.trans h.tape, g.output.trans h.output, Nat.le_trans h.size g.size, fun k hk hr => (g.block k (Nat.lt_of_lt_of_le hk h.size) hr).trans (h.block k hk hr)⟩
theorem keepg {w w' : World} {g : Nat} (h : w.grownBy w' (some g)) (a : Addr) (u : Value) (hne : a.block ≠ g) (hc : w.cell? a = some u) : w'.cell? a = some u :=
  h.cell hc (by simpa using hne)

/-- Five stores, from cell p of block g on. -/
abbrev st5 (w : World) (g p : Nat) (t : D) (v : Value) : World :=
  ((((w.setCell ⟨g, p, none⟩ (.int .i64 t.op)).setCell ⟨g, p + 1, none⟩ (.int .i64 t.at_)).setCell ⟨g, p + 2, none⟩ (.int .i64 t.n)).setCell ⟨g, p + 3, none⟩ (.string t.s)).setCell ⟨g, p + 4, none⟩ v

theorem stored5 {w : World} {base e g cap n : Nat} {l : List (D × Value)} {junk : List Value} (h : w.ownsRow base e 5 (.slice (some ⟨g, 0, none⟩) n cap) n (drows l ++ junk)) (hj : 5 ≤ junk.length) (t : D) (v : Value) :
    (st5 w g (l.length * 5) t v).ownsRow base e 5 (.slice (some ⟨g, 0, none⟩) n cap) n (drows (l ++ [(t, v)]) ++ junk.drop 5) ∧ w.grownBy (st5 w g (l.length * 5) t v) (some g) := by
  obtain ⟨q1, g1⟩ := h.stored (l.length * 5) (.int .i64 t.op)
  obtain ⟨q2, g2⟩ := q1.stored (l.length * 5 + 1) (.int .i64 t.at_)
  obtain ⟨q3, g3⟩ := q2.stored (l.length * 5 + 2) (.int .i64 t.n)
  obtain ⟨q4, g4⟩ := q3.stored (l.length * 5 + 3) (.string t.s)
  obtain ⟨q5, g5⟩ := q4.stored (l.length * 5 + 4) v
  rw [set5 l junk hj t v] at q5
  exact ⟨q5, grownb (grownb (grownb (grownb g1 g2) g3) g4) g5⟩

/-- A row goes on by one datum. -/
theorem row_step {w wr w2 : World} {e n cap : Nat} {l : List (D × Value)} {junk : List Value} {kid : Nat → D} {v : Value}
    (hown : wr.ownsRow w.heap.size e 5 (.slice (some ⟨w.heap.size, 0, none⟩) n cap) n (drows l ++ junk)) (hj : 5 ≤ junk.length) (hks : Ks kid l) (hin : ∀ q ∈ l, q.1.InB (w.heap.size + 1) wr q.2)
    (hbel : Below w.heap.size w wr) (hsz : w.heap.size < wr.heap.size) (hb : Below wr.heap.size wr w2) (hv : (kid l.length).InB wr.heap.size w2 v) :
    (st5 w2 w.heap.size (l.length * 5) (kid l.length) v).ownsRow w.heap.size e 5 (.slice (some ⟨w.heap.size, 0, none⟩) n cap) n (drows (l ++ [(kid l.length, v)]) ++ junk.drop 5) ∧ Ks kid (l ++ [(kid l.length, v)]) ∧
    (∀ q ∈ l ++ [(kid l.length, v)], q.1.InB (w.heap.size + 1) (st5 w2 w.heap.size (l.length * 5) (kid l.length) v) q.2) ∧ Below w.heap.size w (st5 w2 w.heap.size (l.length * 5) (kid l.length) v) ∧ w.heap.size < (st5 w2 w.heap.size (l.length * 5) (kid l.length) v).heap.size := by
  obtain ⟨q, g⟩ := stored5 (own_below5 hown hb) hj (kid l.length) v
  have hk : ∀ a u, w.heap.size + 1 ≤ a.block → w2.cell? a = some u → (st5 w2 w.heap.size (l.length * 5) (kid l.length) v).cell? a = some u := fun a u ha hc => keepg g a u (by omega) hc
  have hb2 : Below w.heap.size w w2 := hbel.trans (hb.mono (by omega))
  refine ⟨q, hks.snoc v, ?_, hb2.trans ⟨g.os, g.tape, g.output, g.size, fun k hk => g.block k (by have := hb2.size; omega) (by intro e; injection e with e; omega)⟩, Nat.lt_of_lt_of_le hsz (Nat.le_trans hb.size g.size)⟩
  intro x hx
  rcases List.mem_append.1 hx with hx | hx
  · exact D.InB.kept hk _ ((hin x hx).below hb)
  · simp only [List.mem_singleton] at hx
    subst hx
    exact D.InB.kept hk _ (hv.mono (by omega))

/-- Three new blocks, behind a call. -/
theorem three {w w1 : World} {o1 o2 o3 : Obj} (hb : Below (((w.alloc o1).alloc o2).alloc o3).heap.size (((w.alloc o1).alloc o2).alloc o3) w1) :
    w1.heap[w.heap.size]? = some o1 ∧ w1.heap[w.heap.size + 1]? = some o2 ∧ w1.heap[w.heap.size + 1 + 1]? = some o3 ∧ w.heap.size + 3 ≤ w1.heap.size ∧ Below w.heap.size w w1 := by
  have e1 : (w.alloc o1).heap.size = w.heap.size + 1 := by simp
  have e2 : ((w.alloc o1).alloc o2).heap.size = w.heap.size + 1 + 1 := by simp
  have e3 : (((w.alloc o1).alloc o2).alloc o3).heap.size = w.heap.size + 1 + 1 + 1 := by simp
  have n3 := heap_alloc_new ((w.alloc o1).alloc o2) o3
  have n2 := heap_alloc_new (w.alloc o1) o2
  have n1 := heap_alloc_new w o1
  rw [e2] at n3
  rw [e1] at n2
  refine ⟨?_, ?_, ?_, by have := hb.size; omega, ((newb w o1).trans (((newb _ o2).mono (by omega)).trans ((newb _ o3).mono (by omega)))).trans (hb.mono (by omega))⟩
  · rw [hb.block _ (by omega), Below.heap_alloc _ _ _ (by omega), Below.heap_alloc _ _ _ (by omega)]; exact n1
  · rw [hb.block _ (by omega), Below.heap_alloc _ _ _ (by omega)]; exact n2
  · rw [hb.block _ (by omega)]; exact n3

theorem results_cell1 {fn : Func} {p : Tmp} {ty : TypeId} (h : fn.results = #[.cell p ty]) (tmps : Array Value) (P : Program) (w : World) :
    (results fn tmps).run P w = ((asAddr (tmps.getD p undef)).run P w).andThen fun a w₁ => (loadVar ty a).run P w₁ := by
  simp only [results, h]
  simp [Sem.run_bind, Result.andThen]
end Go.Proofs.YtafpbcdgcgffeabGreatDoor

/- Data whose rows are a call's own, each in a block of its own. No conditions. -/
namespace Go.Proofs.YtafpbcdgcgffeabGreatDoor
open Go.ChangeShapes Go.WideShapes Go.ChangeAt Go.RowKit

/-- A datum's rows are owned; their blocks are S. -/
def DOwn (w : World) : D → Value → List Nat → Prop
  | .no, _, _ => False
  | .mk _ _ n s len kid, v, S => (s.size ≤ maxLen ∧ -9223372036854775808 ≤ n ∧ n ≤ 9223372036854775807) ∧
    ((len = 0 ∧ v = .slice none 0 0 ∧ S = []) ∨
     ∃ (g cap : Nat) (l : List (D × Value)) (SS : List (List Nat)), v = .slice (some ⟨g, 0, none⟩) len cap ∧ w.ownsRow 0 30 5 (.slice (some ⟨g, 0, none⟩) len cap) len (drows l) ∧ l.length = len ∧ SS.length = len ∧ Ks kid l ∧ S = g :: SS.flatten ∧
       ∀ i, i < len → ∃ u T, l[i]? = some (kid i, u) ∧ SS[i]? = some T ∧ DOwn w (kid i) u T)

/-- A row of data, owned. -/
def SOwn (w : World) (len : Nat) (kid : Nat → D) (v : Value) (S : List Nat) : Prop :=
    (len = 0 ∧ v = .slice none 0 0 ∧ S = []) ∨
     ∃ (g cap : Nat) (l : List (D × Value)) (SS : List (List Nat)), v = .slice (some ⟨g, 0, none⟩) len cap ∧ w.ownsRow 0 30 5 (.slice (some ⟨g, 0, none⟩) len cap) len (drows l) ∧ l.length = len ∧ SS.length = len ∧ Ks kid l ∧ S = g :: SS.flatten ∧
       ∀ i, i < len → ∃ u T, l[i]? = some (kid i, u) ∧ SS[i]? = some T ∧ DOwn w (kid i) u T

theorem DOwn.sown {w : World} {t : D} {v : Value} {S : List Nat} (h : DOwn w t v S) : SOwn w t.len t.kid v S := by
  cases t <;> unfold DOwn at h <;> first | exact h.elim | exact h.2
theorem DOwn.plain {w : World} {t : D} {v : Value} {S : List Nat} (h : DOwn w t v S) : t.s.size ≤ maxLen ∧ -9223372036854775808 ≤ t.n ∧ t.n ≤ 9223372036854775807 := by
  cases t <;> unfold DOwn at h <;> first | exact h.elim | exact h.1

theorem own_same {w w' : World} {base e size n : Nat} {v : Value} {xs : List Value} (h : w.ownsRow base e size v n xs) (hb : ∀ g, v.ownBlock = some g → w'.heap[g]? = w.heap[g]?) : w'.ownsRow base e size v n xs := by
  refine ⟨h.1, ?_⟩
  rcases h.2 with hn | ⟨g, cap, cur, rfl, hbg, hgg, rest⟩
  · exact .inl hn
  · exact .inr ⟨g, cap, cur, rfl, hbg, (hb g rfl).trans hgg, rest⟩

theorem mem_flat {SS : List (List Nat)} {i : Nat} {T : List Nat} (h : SS[i]? = some T) {g : Nat} (hg : g ∈ T) : g ∈ SS.flatten := List.mem_flatten.2 ⟨T, List.mem_of_getElem? h, hg⟩

theorem DOwn.same {w w' : World} (t : D) : ∀ {v : Value} {S : List Nat}, DOwn w t v S → (∀ g ∈ S, w'.heap[g]? = w.heap[g]?) → DOwn w' t v S := by
  induction t with
  | no => intro v S h; exact h.elim
  | mk op a n s len kid ih =>
    intro v S h hs
    unfold DOwn at h ⊢
    refine ⟨h.1, ?_⟩
    rcases h.2 with h0 | ⟨g, cap, l, SS, h1, h2, h3, h4, h5, h6, h7⟩
    · exact .inl h0
    · refine .inr ⟨g, cap, l, SS, h1, own_same h2 (fun g' hg' => ?_), h3, h4, h5, h6, fun i hi => ?_⟩
      · simp only [Value.ownBlock, Option.some.injEq] at hg'
        subst hg'
        exact hs g (by rw [h6]; simp)
      · obtain ⟨u, T, k1, k2, k3⟩ := h7 i hi
        exact ⟨u, T, k1, k2, ih i k3 (fun g' hg' => hs g' (by rw [h6]; exact List.mem_cons_of_mem _ (mem_flat k2 hg')))⟩

theorem SOwn.same {w w' : World} {len : Nat} {kid : Nat → D} {v : Value} {S : List Nat} (h : SOwn w len kid v S) (hs : ∀ g ∈ S, w'.heap[g]? = w.heap[g]?) : SOwn w' len kid v S := by
  rcases h with h0 | ⟨g, cap, l, SS, h1, h2, h3, h4, h5, h6, h7⟩
  · exact .inl h0
  · refine .inr ⟨g, cap, l, SS, h1, own_same h2 (fun g' hg' => ?_), h3, h4, h5, h6, fun i hi => ?_⟩
    · simp only [Value.ownBlock, Option.some.injEq] at hg'
      subst hg'
      exact hs g (by rw [h6]; simp)
    · obtain ⟨u, T, k1, k2, k3⟩ := h7 i hi
      exact ⟨u, T, k1, k2, k3.same _ (fun g' hg' => hs g' (by rw [h6]; exact List.mem_cons_of_mem _ (mem_flat k2 hg')))⟩

/-- What is owned lies in memory. -/
theorem DOwn.in' {w : World} (t : D) : ∀ {v : Value} {S : List Nat}, DOwn w t v S → t.In w v := by
  induction t with
  | no => intro v S h; exact h.elim
  | mk op a n s len kid ih =>
    intro v S h
    unfold DOwn at h
    refine D.InB.mk' h.1.1 h.1.2 ?_
    rcases h.2 with ⟨rfl, rfl, _⟩ | ⟨g, cap, l, SS, rfl, h2, h3, h4, h5, h6, h7⟩
    · exact .inl ⟨rfl, _, _, rfl⟩
    · refine SlB.of_own h2 h3 (Nat.le_refl _) h5 (fun q hq => ?_)
      obtain ⟨i, hi, rfl⟩ := List.mem_iff_getElem.1 hq
      obtain ⟨u, T, k1, k2, k3⟩ := h7 i (by omega)
      rw [List.getElem?_eq_getElem hi] at k1
      injection k1 with k1
      rw [k1]
      exact ih i k3

theorem SOwn.sl {w : World} {len : Nat} {kid : Nat → D} {v : Value} {S : List Nat} (h : SOwn w len kid v S) : Sl w len kid v := by
  rcases h with ⟨rfl, rfl, _⟩ | ⟨g, cap, l, SS, rfl, h2, h3, h4, h5, h6, h7⟩
  · exact .inl ⟨rfl, _, _, rfl⟩
  · refine SlB.of_own h2 h3 (Nat.le_refl _) h5 (fun q hq => ?_)
    obtain ⟨i, hi, rfl⟩ := List.mem_iff_getElem.1 hq
    obtain ⟨u, T, k1, k2, k3⟩ := h7 i (by omega)
    rw [List.getElem?_eq_getElem hi] at k1
    injection k1 with k1
    rw [k1]
    exact k3.in'

/-- The blocks are there. -/
theorem SOwn.there {w : World} {len : Nat} {kid : Nat → D} {v : Value} {S : List Nat} (h : SOwn w len kid v S) (hd : ∀ i, i < len → ∀ u T, DOwn w (kid i) u T → ∀ g ∈ T, g < w.heap.size) : ∀ g ∈ S, g < w.heap.size := by
  rcases h with ⟨_, _, rfl⟩ | ⟨g, cap, l, SS, rfl, h2, h3, h4, h5, rfl, h7⟩
  · intro g hg; simp at hg
  · intro g' hg'
    rcases List.mem_cons.1 hg' with rfl | hg'
    · exact (h2.lt _ rfl).2
    · obtain ⟨T, hT, hgT⟩ := List.mem_flatten.1 hg'
      obtain ⟨i, hi, rfl⟩ := List.mem_iff_getElem.1 hT
      obtain ⟨u, T', k1, k2, k3⟩ := h7 i (by omega)
      rw [List.getElem?_eq_getElem hi] at k2
      injection k2 with k2
      exact hd i (by omega) u T' k3 g' (by rw [← k2]; exact hgT)

theorem DOwn.there {w : World} (t : D) : ∀ {v : Value} {S : List Nat}, DOwn w t v S → ∀ g ∈ S, g < w.heap.size := by
  induction t with
  | no => intro v S h; exact h.elim
  | mk op a n s len kid ih =>
    intro v S h
    exact (show SOwn w len kid v S from h.sown).there (fun i _ u T k => ih i k)
theorem SOwn.lt {w : World} {len : Nat} {kid : Nat → D} {v : Value} {S : List Nat} (h : SOwn w len kid v S) : ∀ g ∈ S, g < w.heap.size := h.there (fun _ _ _ _ k => k.there)
end Go.Proofs.YtafpbcdgcgffeabGreatDoor

/- Plain facts on decimal digits: the digits of k are those of k / 10, then that of k % 10. No conditions. -/
namespace Go.Proofs.YtafpbcdgcgffeabGreatDoor

/-- The digits of k, none of 0. -/
def decD (k : Nat) : List UInt8 := if k = 0 then [] else Lib.decDigits k

theorem decD_zero : decD 0 = [] := by simp [decD]

theorem decD_pos (k : Nat) (h : 0 < k) : decD k = Lib.decDigits k := by
  unfold decD; rw [if_neg (by omega)]

theorem decD_step (k : Nat) (h : 0 < k) : decD k = decD (k / 10) ++ [UInt8.ofNat (48 + k % 10)] := by
  rw [decD_pos k h]
  by_cases hs : k < 10
  · rw [Lib.decDigits_one hs]
    have e : k / 10 = 0 := by omega
    have e2 : k % 10 = k := by omega
    rw [e, e2, decD_zero]; rfl
  · rw [Lib.decDigits, dif_neg hs, decD_pos (k / 10) (by omega)]

theorem acc_step (k n : Nat) (h : 0 < k) (l : List UInt8) (hl : decD k ++ l = Lib.decDigits n) :
    decD (k / 10) ++ ((48 + UInt8.ofNat (k % 10)) :: l) = Lib.decDigits n := by
  have e : UInt8.ofNat (48 + k % 10) = 48 + UInt8.ofNat (k % 10) := by rw [UInt8.ofNat_add]; rfl
  rw [← hl, decD_step k h, e]; simp

theorem acc_len (k n : Nat) (l : List UInt8) (hn : n < 18446744073709551616) (hl : decD k ++ l = Lib.decDigits n) : l.length ≤ 20 := by
  have h1 := congrArg List.length hl
  rw [List.length_append, Lib.decDigits_length] at h1
  have := Lib.nDigits_le20 n hn
  omega

theorem join_one (c : UInt8) (l : List UInt8) : ((⟨#[c]⟩ : ByteArray) ++ ⟨l.toArray⟩) = ⟨(c :: l).toArray⟩ := by
  apply ByteArray.ext
  simp [ByteArray.data_append]

end Go.Proofs.YtafpbcdgcgffeabGreatDoor

/- What is kept but for a list of blocks. No conditions. -/
namespace Go.Proofs.YtafpbcdgcgffeabGreatDoor
open Go.ChangeShapes Go.WideShapes Go.ChangeAt Go.RowKit

/-- What is kept: every block but those of S. -/
structure FrS (w w' : World) (S : List Nat) : Prop where
  os : w'.os = w.os
  tape : w'.tape = w.tape
  output : w'.output = w.output
  size : w.heap.size ≤ w'.heap.size
  block : ∀ g, g < w.heap.size → g ∉ S → w'.heap[g]? = w.heap[g]?
theorem FrS.refl (w : World) (S : List Nat) : FrS w w S := ⟨rfl, rfl, rfl, Nat.le_refl _, fun _ _ _ => rfl⟩
theorem FrS.trans {w w1 w2 : World} {S : List Nat} (h : FrS w w1 S) (h2 : FrS w1 w2 S) : FrS w w2 S :=
  ⟨h2.os.trans h.os, h2.tape.trans h.tape, h2.output.trans h.output, Nat.le_trans h.size h2.size, fun g a b => (h2.block g (Nat.lt_of_lt_of_le a h.size) b).trans (h.block g a b)⟩
theorem FrS.mono {w w' : World} {S S' : List Nat} (h : FrS w w' S) (hs : ∀ g ∈ S, g ∈ S') : FrS w w' S' := ⟨h.os, h.tape, h.output, h.size, fun g a b => h.block g a (fun c => b (hs g c))⟩
theorem FrS.grown {w w' : World} {g : Nat} {S : List Nat} (h : w.grownBy w' (some g)) (hg : g ∈ S) : FrS w w' S := ⟨h.os, h.tape, h.output, h.size, fun k a b => h.block k a (fun e => b (by injection e with e; rw [e]; exact hg))⟩
theorem FrS.below {w w' : World} (h : Below w.heap.size w w') (S : List Nat) : FrS w w' S := ⟨h.os, h.tape, h.output, h.size, fun g a _ => h.block g a⟩

end Go.Proofs.YtafpbcdgcgffeabGreatDoor

/- Plain facts on numerals: the digits of v, read as a number, are v; a text is the digits of at most one number. No conditions. -/
namespace Go.Proofs.YtafpbcdgcgffeabGreatDoor

/-- The number that digits spell. -/
def valFrom (a : Nat) : List UInt8 → Nat
  | [] => a
  | c :: r => valFrom (a * 10 + (c.toNat - 48)) r
def val (l : List UInt8) : Nat := valFrom 0 l

def isDig (c : UInt8) : Prop := 48 ≤ c.toNat ∧ c.toNat ≤ 57

theorem valFrom_append (l : List UInt8) (c : UInt8) : ∀ a, valFrom a (l ++ [c]) = valFrom a l * 10 + (c.toNat - 48) := by
  induction l with
  | nil => intro a; rfl
  | cons d r ih => intro a; exact ih _

theorem val_append (l : List UInt8) (c : UInt8) : val (l ++ [c]) = val l * 10 + (c.toNat - 48) := valFrom_append l c 0

theorem dig_nat (u : Nat) (h : u < 10) : (UInt8.ofNat (48 + u)).toNat = 48 + u := by
  rw [UInt8.toNat_ofNat']; omega

theorem val_decDigits (v : Nat) : val (Lib.decDigits v) = v := by
  induction v using Nat.strongRecOn with
  | _ v ih =>
    by_cases h : v < 10
    · rw [Lib.decDigits_one h]
      show 0 * 10 + ((UInt8.ofNat (48 + v)).toNat - 48) = v
      rw [dig_nat v h]; omega
    · rw [Lib.decDigits, dif_neg h, val_append, ih (v / 10) (by omega), dig_nat _ (by omega)]
      omega

theorem dig_decDigits (v : Nat) : ∀ c ∈ Lib.decDigits v, isDig c := by
  induction v using Nat.strongRecOn with
  | _ v ih =>
    intro c hc
    by_cases h : v < 10
    · rw [Lib.decDigits_one h] at hc
      simp only [List.mem_singleton] at hc
      subst hc
      unfold isDig
      rw [dig_nat v h]; omega
    · rw [Lib.decDigits, dif_neg h] at hc
      rcases List.mem_append.1 hc with hc | hc
      · exact ih (v / 10) (by omega) c hc
      · simp only [List.mem_singleton] at hc
        subst hc
        unfold isDig
        rw [dig_nat _ (by omega)]; omega

theorem len_decDigits (k : Nat) : ∀ v, v < 10 ^ (k + 1) → (Lib.decDigits v).length ≤ k + 1 := by
  induction k with
  | zero =>
    intro v hv
    rw [Lib.decDigits_one (by omega)]; simp
  | succ k ih =>
    intro v hv
    by_cases h : v < 10
    · rw [Lib.decDigits_one h]; simp
    · rw [Lib.decDigits, dif_neg h, List.length_append]
      have := ih (v / 10) (by rw [Nat.pow_succ] at hv; omega)
      simp; omega

theorem len_pos_decDigits (v : Nat) : 1 ≤ (Lib.decDigits v).length := by
  by_cases h : v < 10
  · rw [Lib.decDigits_one h]; simp
  · rw [Lib.decDigits, dif_neg h, List.length_append]; simp

/-- The text is the digits of a word that is not below 0. -/
def numB (l : List UInt8) : Bool := decide (val l ≤ 1073741823 ∧ Lib.decDigits (val l) = l)

theorem numB_mk (v : Nat) (h : v ≤ 1073741823) : numB (Lib.decDigits v) = true := by
  unfold numB
  rw [val_decDigits]
  simp [h]

theorem numB_iff {l : List UInt8} : numB l = true ↔ val l ≤ 1073741823 ∧ Lib.decDigits (val l) = l := by
  unfold numB; exact decide_eq_true_iff

theorem numB_len {l : List UInt8} (h : numB l = true) : 1 ≤ l.length ∧ l.length ≤ 10 := by
  obtain ⟨h1, h2⟩ := numB_iff.1 h
  rw [← h2]
  exact ⟨len_pos_decDigits _, len_decDigits 9 _ (by omega)⟩

theorem numB_dig {l : List UInt8} (h : numB l = true) : ∀ c ∈ l, isDig c := by
  obtain ⟨_, h2⟩ := numB_iff.1 h
  rw [← h2]
  exact dig_decDigits _

theorem no_of_len {l : List UInt8} (h : l.length < 1 ∨ 10 < l.length) : numB l = false := by
  cases e : numB l with
  | false => rfl
  | true => have := numB_len e; omega

theorem no_of_byte {l : List UInt8} (c : UInt8) (hc : c ∈ l) (h : ¬ isDig c) : numB l = false := by
  cases e : numB l with
  | false => rfl
  | true => exact absurd (numB_dig e c hc) h

theorem no_of_big {l : List UInt8} (h : ¬ val l ≤ 1073741823) : numB l = false := by
  cases e : numB l with
  | false => rfl
  | true => exact absurd (numB_iff.1 e).1 h

theorem no_of_other {l : List UInt8} (h : ¬ Lib.decDigits (val l) = l) : numB l = false := by
  cases e : numB l with
  | false => rfl
  | true => exact absurd (numB_iff.1 e).2 h

theorem parse_digits (l : List UInt8) : ∀ a k, a < 10 ^ k → k + l.length ≤ 18 → (∀ c ∈ l, isDig c) → Lib.parseUint10 a l = .ok (valFrom a l) := by
  induction l with
  | nil => intro a k _ _ _; rfl
  | cons c r ih =>
    intro a k ha hk hd
    have hc := hd c List.mem_cons_self
    unfold isDig at hc
    simp only [List.length_cons] at hk
    have hp : 10 ^ k ≤ 10 ^ 17 := Nat.pow_le_pow_right (by omega) (by omega)
    simp only [Lib.parseUint10]
    rw [if_pos hc, if_neg (by omega), if_neg (by omega)]
    exact ih _ (k + 1) (by rw [Nat.pow_succ]; omega) (by omega) (fun d h => hd d (List.mem_cons_of_mem _ h))

theorem atoi_num {l : List UInt8} (h : numB l = true) : Lib.atoiAll l = .ok (val l : Int) := by
  have hl := numB_len h
  have hd := numB_dig h
  have hv := (numB_iff.1 h).1
  clear h
  cases l with
  | nil => simp at hl
  | cons c r =>
    have hc := hd c List.mem_cons_self
    unfold isDig at hc
    have hp := parse_digits (c :: r) 0 0 (by omega) (by omega) hd
    have hm : Lib.parseMag (c :: r) = .ok (val (c :: r)) := by
      unfold Lib.parseMag
      rw [if_neg (by simp)]
      exact hp
    unfold Lib.atoiAll
    simp only
    rw [if_neg (by omega), hm]
    simp only
    rw [if_neg (by omega), if_neg (by omega)]
    rw [if_neg (by omega)]

theorem itoa_val (n : Int) (h0 : 0 ≤ n) : Lib.itoa n = Lib.decDigits n.toNat := by
  unfold Lib.itoa
  rw [if_neg (by omega)]
end Go.Proofs.YtafpbcdgcgffeabGreatDoor

/- Plain facts on the words of a text: which text is a word's digits, which is a name, and the tokens of a text, byte by byte. No conditions. -/
namespace Go.Proofs.YtafpbcdgcgffeabGreatDoor

/-- The number that a text spells, with a minus ahead or without. -/
def sval (l : List UInt8) : Int := if l.head? = some 45 then -(val l.tail : Int) else val l

/-- The word of which the text is the digits. -/
def wordV (l : List UInt8) : Option Int :=
  if -1073741824 ≤ sval l ∧ sval l ≤ 1073741823 ∧ Lib.itoa (sval l) = l then some (sval l) else none

theorem itoa_neg (n : Int) (h : n < 0) : Lib.itoa n = 45 :: Lib.decDigits n.natAbs := by
  unfold Lib.itoa
  rw [if_pos h]

theorem head_decDigits (v : Nat) : (Lib.decDigits v).head? ≠ some 45 := by
  intro h
  have hm : (45 : UInt8) ∈ Lib.decDigits v := List.mem_of_mem_head? h
  have := dig_decDigits v 45 hm
  unfold isDig at this
  simp at this

theorem sval_itoa (v : Int) : sval (Lib.itoa v) = v := by
  unfold sval
  by_cases h : v < 0
  · rw [itoa_neg v h]
    simp only [List.head?_cons, if_true, List.tail_cons, val_decDigits]
    omega
  · rw [itoa_val v (by omega), if_neg (head_decDigits _), val_decDigits]
    omega

theorem wordV_of {l : List UInt8} {v : Int} (h0 : -1073741824 ≤ v) (h1 : v ≤ 1073741823) (h : Lib.itoa v = l) : wordV l = some v := by
  have e : sval l = v := by rw [← h, sval_itoa]
  unfold wordV
  rw [e, if_pos ⟨h0, h1, h⟩]

theorem wordV_some {l : List UInt8} {v : Int} (h : wordV l = some v) : -1073741824 ≤ v ∧ v ≤ 1073741823 ∧ Lib.itoa v = l := by
  unfold wordV at h
  split at h
  · rename_i hc
    injection h with h
    rw [← h]; exact hc
  · cases h

theorem wordV_none {l : List UInt8} (h : ∀ v, -1073741824 ≤ v → v ≤ 1073741823 → Lib.itoa v ≠ l) : wordV l = none := by
  cases e : wordV l with
  | none => rfl
  | some v => obtain ⟨h0, h1, h2⟩ := wordV_some e; exact absurd h2 (h v h0 h1)

theorem atoi_itoa (v : Int) (h0 : -1073741824 ≤ v) (h1 : v ≤ 1073741823) : Lib.atoiAll (Lib.itoa v) = .ok v := by
  by_cases h : v < 0
  · rw [itoa_neg v h]
    have hl := len_decDigits 9 v.natAbs (by omega)
    have hp0 := len_pos_decDigits v.natAbs
    have hd := dig_decDigits v.natAbs
    have hv := val_decDigits v.natAbs
    generalize Lib.decDigits v.natAbs = r at *
    have hp := parse_digits r 0 0 (by omega) (by omega) hd
    have hm : Lib.parseMag r = .ok v.natAbs := by
      unfold Lib.parseMag
      rw [if_neg (by intro e; rw [e] at hp0; simp at hp0), hp]
      exact congrArg _ hv
    unfold Lib.atoiAll
    simp only
    rw [if_pos (by decide), hm]
    simp only
    rw [if_neg (by simp), if_neg (by omega), if_pos (by decide)]
    congr 1; omega
  · rw [itoa_val v (by omega)]
    have := atoi_num (numB_mk v.toNat (by omega))
    rw [this, val_decDigits]
    congr 1; omega

theorem numB_wordV (l : List UInt8) : (numB l = true ↔ ∃ v, wordV l = some v ∧ 0 ≤ v) ∧ (∀ v, wordV l = some v → 0 ≤ v → (val l : Int) = v) := by
  constructor
  · constructor
    · intro h
      obtain ⟨h1, h2⟩ := numB_iff.1 h
      exact ⟨val l, wordV_of (by omega) (by omega) (by rw [itoa_val _ (by omega), Int.toNat_natCast, h2]), by omega⟩
    · rintro ⟨v, h, hv⟩
      obtain ⟨h0, h1, h2⟩ := wordV_some h
      rw [itoa_val v hv] at h2
      rw [← h2]; exact numB_mk _ (by omega)
  · intro v h hv
    obtain ⟨h0, h1, h2⟩ := wordV_some h
    rw [itoa_val v hv] at h2
    rw [← h2, val_decDigits]; omega

/-- A sign of a name. -/
def nameB (c : UInt8) : Bool := (97 ≤ c.toNat && c.toNat ≤ 122) || (48 ≤ c.toNat && c.toNat ≤ 57) || ([43, 45, 42, 60, 61, 63, 46, 95] : List UInt8).contains c
def digB (c : UInt8) : Bool := 48 ≤ c.toNat && c.toNat ≤ 57

/-- What begins so is a number or nothing. -/
def begNum : List UInt8 → Bool
  | [] => false
  | c :: r => digB c || (c == 45 && (match r with | [] => false | d :: _ => digB d))

def symB (l : List UInt8) : Bool := decide (1 ≤ l.length) && decide (l.length ≤ 12) && !begNum l && l.all nameB

/-- A sign that parts words: blank, new line, brackets. -/
def partB (c : UInt8) : Bool := c == 32 || c == 10 || c == 40 || c == 41

structure Tok where
  kind : Int
  at_ : Nat
  n : Int
  text : ByteArray

def Tok.cells (t : Tok) : List Value := [.int .i64 t.kind, .int .i64 t.at_, .int .i64 t.n, .string t.text]
def rows (ts : List Tok) : List Value := ts.flatMap Tok.cells

theorem rows_append (a b : List Tok) : rows (a ++ b) = rows a ++ rows b := by simp [rows]
theorem rows_length (ts : List Tok) : (rows ts).length = ts.length * 4 := by
  induction ts with
  | nil => rfl
  | cons t r ih => simp only [rows, List.flatMap_cons, List.length_append, List.length_cons] at ih ⊢; rw [ih]; simp [Tok.cells]; omega

/-- The token of a word that begins at b. -/
def tokOf (x : ByteArray) (b : Nat) : Option Tok :=
  match wordV x.data.toList with
  | some v => some ⟨3, b, v, x⟩
  | none => if symB x.data.toList then some ⟨4, b, 0, x⟩ else none

/-- The token of a bracket. -/
def brack (c : UInt8) (p : Nat) : List Tok := if c == 40 then [⟨1, p, 0, ⟨#[40]⟩⟩] else if c == 41 then [⟨2, p, 0, ⟨#[41]⟩⟩] else []

/-- n bytes are left, from p on; a word has begun at b, if b is not p. -/
def scan (s : ByteArray) : Nat → List Tok → Nat → Nat → List Tok × Int
  | 0, acc, b, p => if b = p then (acc, -1) else match tokOf (s.extract b p) b with | none => ([], b) | some t => (acc ++ [t], -1)
  | n + 1, acc, b, p =>
    if partB (s.get! p) then
      (if b = p then scan s n (acc ++ brack (s.get! p) p) (p + 1) (p + 1)
       else match tokOf (s.extract b p) b with | none => ([], b) | some t => scan s n (acc ++ [t] ++ brack (s.get! p) p) (p + 1) (p + 1))
    else scan s n acc b (p + 1)

def toks (s : ByteArray) : List Tok × Int := if s.size ≤ 4000 then scan s s.size [] 0 0 else ([], 0)

/-- What is left of the scan at p. -/
def rest (s : ByteArray) (acc : List Tok) (b p : Nat) : List Tok × Int := scan s (s.size - p) acc b p

theorem get_bang (s : ByteArray) (p : Nat) (h : p < s.size) : s.get! p = s[p]'h := get_at s p h

theorem rest_start (s : ByteArray) (h : s.size ≤ 4000) : toks s = rest s [] 0 0 := by
  unfold toks rest
  rw [if_pos h]; rfl

theorem rest_part (s : ByteArray) (acc : List Tok) (p : Nat) (h : p < s.size) (hp : partB (s[p]'h) = true) :
    rest s acc p p = rest s (acc ++ brack (s[p]'h) p) (p + 1) (p + 1) := by
  unfold rest
  have e : s.size - p = (s.size - (p + 1)) + 1 := by omega
  rw [e]
  conv => lhs; unfold scan
  rw [get_bang s p h, if_pos hp, if_pos rfl]

theorem rest_other (s : ByteArray) (acc : List Tok) (b p : Nat) (h : p < s.size) (hp : partB (s[p]'h) = false) :
    rest s acc b p = rest s acc b (p + 1) := by
  unfold rest
  have e : s.size - p = (s.size - (p + 1)) + 1 := by omega
  rw [e]
  conv => lhs; unfold scan
  rw [get_bang s p h, if_neg (by simp [hp])]

theorem rest_others (s : ByteArray) (acc : List Tok) (b p k : Nat) (h : p + k ≤ s.size) (hp : ∀ j (hj : j < k), partB (s[p + j]'(by omega)) = false) :
    rest s acc b p = rest s acc b (p + k) := by
  induction k with
  | zero => rfl
  | succ k ih =>
    rw [ih (by omega) (fun j hj => hp j (by omega)), rest_other s acc b (p + k) (by omega) (hp k (by omega))]
    rfl

theorem rest_end (s : ByteArray) (acc : List Tok) (b p : Nat) (hb : b < p) (hp : ∀ h : p < s.size, partB (s[p]'h) = true) :
    rest s acc b p = match tokOf (s.extract b p) b with | none => ([], (b : Int)) | some t => rest s (acc ++ [t]) p p := by
  unfold rest
  by_cases h : p < s.size
  · have e : s.size - p = (s.size - (p + 1)) + 1 := by omega
    rw [e]
    conv => lhs; unfold scan
    rw [get_bang s p h, if_pos (hp h), if_neg (by omega)]
    cases tokOf (s.extract b p) b with
    | none => rfl
    | some t =>
      simp only
      conv => rhs; unfold scan
      rw [get_bang s p h, if_pos (hp h), if_pos rfl]
  · have e : s.size - p = 0 := by omega
    rw [e]
    conv => lhs; unfold scan
    rw [if_neg (by omega)]
    cases tokOf (s.extract b p) b with
    | none => rfl
    | some t =>
      simp only
      conv => rhs; unfold scan
      rw [if_pos rfl]

theorem rest_done (s : ByteArray) (acc : List Tok) : rest s acc s.size s.size = (acc, -1) := by
  unfold rest
  have e : s.size - s.size = 0 := by omega
  rw [e]
  unfold scan
  rw [if_pos rfl]

/-- A sign that is not of one byte is of bytes none of which parts words. -/
theorem decode_wide (s : ByteArray) (p : Nat) (h : p < s.size) (ha : 128 ≤ (s[p]'h).toNat) :
    p + (Utf8.decode s p).2 ≤ s.size ∧ ∀ j, j < (Utf8.decode s p).2 → ∀ (hs : p + j < s.size), 128 ≤ (s[p + j]'hs).toNat := by
  have hn : ¬ (s[p]'h).toNat < 128 := by omega
  have hj0 : ∀ j, j < 1 → ∀ hs : p + j < s.size, 128 ≤ (s[p + j]'hs).toNat := by
    intro j hj hs
    have : j = 0 := by omega
    subst this; exact ha
  have hc : ∀ k (hk : p + k < s.size), ((s.get! (p + k)).toNat / 64 == 2) = true → 128 ≤ (s[p + k]'hk).toNat := by
    intro k hk hx
    rw [get_bang s (p + k) hk] at hx
    simp at hx
    omega
  simp only [Utf8.decode, get_at s p h, hn, if_false]
  repeat' split
  all_goals simp_all only [Bool.and_eq_true, decide_eq_true_eq]
  all_goals refine ⟨by omega, ?_⟩
  all_goals
    intro j hj hs
    first
      | trivial
      | exact hj0 j (by omega) hs
      | (rcases Nat.lt_or_ge j 1 with h1 | h1
         · exact hj0 j (by omega) hs
         · rcases Nat.lt_or_ge j 2 with h2 | h2
           · have : j = 1 := by omega
             subst this; exact hc 1 hs (by simp_all)
           · rcases Nat.lt_or_ge j 3 with h3 | h3
             · have : j = 2 := by omega
               subst this; exact hc 2 hs (by simp_all)
             · have : j = 3 := by omega
               subst this; exact hc 3 hs (by simp_all))

theorem part_high (c : UInt8) (h : 128 ≤ c.toNat) : partB c = false := by
  unfold partB
  have : ∀ d : UInt8, d.toNat < 128 → (c == d) = false := by
    intro d hd
    rw [beq_eq_false_iff_ne]
    rintro rfl; omega
  rw [this 32 (by decide), this 10 (by decide), this 40 (by decide), this 41 (by decide)]; rfl

theorem name_high (c : UInt8) (h : 128 ≤ c.toNat) : nameB c = false := by
  unfold nameB
  have : ∀ d : UInt8, d.toNat < 128 → (c == d) = false := by
    intro d hd
    rw [beq_eq_false_iff_ne]
    rintro rfl; omega
  simp only [List.contains_cons, List.contains_nil]
  rw [this 43 (by decide), this 45 (by decide), this 42 (by decide), this 60 (by decide), this 61 (by decide), this 63 (by decide), this 46 (by decide), this 95 (by decide)]
  simp; omega

theorem rest_rune (s : ByteArray) (acc : List Tok) (b p : Nat) (h : p < s.size) (ha : 128 ≤ (s[p]'h).toNat) :
    rest s acc b p = rest s acc b (p + (Utf8.decode s p).2) := by
  obtain ⟨h1, h2⟩ := decode_wide s p h ha
  exact rest_others s acc b p _ h1 (fun j hj => part_high _ (h2 j hj (by omega)))
end Go.Proofs.YtafpbcdgcgffeabGreatDoor

/- Plain facts on reading data from tokens. No conditions. -/
namespace Go.Proofs.YtafpbcdgcgffeabGreatDoor
open Go.ChangeShapes Go.WideShapes Go.ChangeAt Go.RowKit

/-- What is read: something and what is left, or the place of what does not fit. -/
inductive Rdr (α : Type) where
  | bad (p : Int)
  | ok (a : α) (r : List Tok)

def dNum (t : Tok) : D := .mk 1 t.at_ t.n ⟨#[]⟩ 0 (fun _ => .no)
def dSym (t : Tok) : D := .mk 2 t.at_ 0 t.text 0 (fun _ => .no)
def kidsOf (ds : List D) : Nat → D := fun i => ds.getD i .no
def dList (t : Tok) (ds : List D) : D := .mk 3 t.at_ 0 ⟨#[]⟩ ds.length (kidsOf ds)

/-- Kids up to a bracket that closes. -/
def kidsL (E : Int) (one : List Tok → Rdr D) : Nat → List D → List Tok → Rdr (List D)
  | 0, _, _ => .bad E
  | _ + 1, _, [] => .bad E
  | m + 1, acc, t :: r => if t.kind = 2 then .ok acc r else match one (t :: r) with
    | .bad p => .bad p
    | .ok d r1 => kidsL E one m (acc ++ [d]) r1

def one (E : Int) : Nat → List Tok → Rdr D
  | 0, _ => .bad E
  | _ + 1, [] => .bad E
  | f + 1, t :: r =>
    if t.kind = 3 then .ok (dNum t) r else if t.kind = 4 then .ok (dSym t) r else if t.kind = 2 then .bad t.at_
    else match kidsL E (one E f) (r.length + 1) [] r with
      | .bad p => .bad p
      | .ok ds r1 => .ok (dList t ds) r1

/-- All that is left. -/
def restL (one : List Tok → Rdr D) : Nat → List D → List Tok → Rdr (List D)
  | 0, acc, _ => .ok acc []
  | _ + 1, acc, [] => .ok acc []
  | m + 1, acc, t :: r => match one (t :: r) with
    | .bad p => .bad p
    | .ok d r1 => restL one m (acc ++ [d]) r1

/-- What is left is less. -/
def Less (one : List Tok → Rdr D) : Prop := ∀ l d r, one l = .ok d r → r.length < l.length ∧ ∃ a, l = a ++ r

theorem kidsL_less {E : Int} {o : List Tok → Rdr D} (ho : Less o) : ∀ (m : Nat) (acc : List D) (l : List Tok) (ds : List D) (r : List Tok), kidsL E o m acc l = .ok ds r → r.length < l.length ∧ ∃ a, l = a ++ r := by
  intro m
  induction m with
  | zero => intro acc l ds r h; simp [kidsL] at h
  | succ m ih =>
    intro acc l ds r h
    cases l with
    | nil => simp [kidsL] at h
    | cons t l =>
      unfold kidsL at h
      split at h
      · injection h with h1 h2
        subst h2
        exact ⟨by simp, [t], rfl⟩
      · cases e : o (t :: l) with
        | bad p => rw [e] at h; simp at h
        | ok d r1 =>
          rw [e] at h
          obtain ⟨h1, a, ha⟩ := ho _ _ _ e
          obtain ⟨h2, b, hb⟩ := ih _ _ _ _ h
          exact ⟨by omega, a ++ b, by rw [ha, hb]; simp⟩

theorem one_less (E : Int) : ∀ f, Less (one E f) := by
  intro f
  induction f with
  | zero => intro l d r h; simp [one] at h
  | succ f ih =>
    intro l d r h
    cases l with
    | nil => simp [one] at h
    | cons t l =>
      unfold one at h
      split at h
      · injection h with h1 h2; subst h2; exact ⟨by simp, [t], rfl⟩
      · split at h
        · injection h with h1 h2; subst h2; exact ⟨by simp, [t], rfl⟩
        · split at h
          · simp at h
          · cases e : kidsL E (one E f) (l.length + 1) [] l with
            | bad p => rw [e] at h; simp at h
            | ok ds r1 =>
              rw [e] at h
              simp only at h
              injection h with h1 h2
              subst h2
              obtain ⟨h3, a, ha⟩ := kidsL_less ih _ _ _ _ _ e
              exact ⟨by simp; omega, t :: a, by rw [ha]; rfl⟩

/-- The data of a text's tokens, or the place of what does not fit. -/
def readL (E : Int) (ts : List Tok) : Rdr (List D) := restL (one E (ts.length + 1)) (ts.length + 1) [] ts

/-- How many a datum has of tokens at the most. -/
theorem sumTo_kids (ds : List D) (f : D → Nat) : ∀ k, k ≤ ds.length → sumTo (fun i => f (kidsOf ds i)) k = ((ds.take k).map f).sum := by
  intro k
  induction k with
  | zero => intro _; simp [sumTo]
  | succ k ih =>
    intro h
    have hk : k < ds.length := by omega
    simp only [sumTo]
    rw [ih (by omega), List.take_succ_eq_append_getElem hk, List.map_append, List.sum_append]
    congr 1
    simp [kidsOf, List.getD, List.getElem?_eq_getElem hk]
theorem sumTo_all (ds : List D) (f : D → Nat) : sumTo (fun i => f (kidsOf ds i)) ds.length = (ds.map f).sum := by
  have := sumTo_kids ds f ds.length (Nat.le_refl _)
  rw [List.take_length] at this
  exact this
end Go.Proofs.YtafpbcdgcgffeabGreatDoor

/- Plain facts on the tokens of a text: each stands where it is told, one behind the other; a name is a name, a number's text its digits. No conditions. -/
namespace Go.Proofs.YtafpbcdgcgffeabGreatDoor

/-- A token stands where it is told. -/
structure Stands (s : ByteArray) (t : Tok) : Prop where
  fit : t.at_ + t.text.size ≤ s.size
  pos : 1 ≤ t.text.size
  text : s.extract t.at_ (t.at_ + t.text.size) = t.text
  sym : t.kind = 4 → symB t.text.data.toList = true
  num : t.kind = 3 → -1073741824 ≤ t.n ∧ t.n ≤ 1073741823 ∧ Lib.itoa t.n = t.text.data.toList
  n : -1073741824 ≤ t.n ∧ t.n ≤ 1073741823
  kind : 1 ≤ t.kind ∧ t.kind ≤ 4

/-- Where the tokens ahead of number i end. -/
def endAt (ts : List Tok) (i : Nat) : Nat := if i = 0 then 0 else match ts[i - 1]? with | some t => t.at_ + t.text.size | none => 0

def Chain (s : ByteArray) (ts : List Tok) : Prop := ∀ i t, ts[i]? = some t → endAt ts i ≤ t.at_ ∧ Stands s t

theorem endAt_append (ts r : List Tok) (i : Nat) (h : i ≤ ts.length) : endAt (ts ++ r) i = endAt ts i := by
  unfold endAt
  split
  · rfl
  · rw [List.getElem?_append_left (by omega)]

theorem endAt_snoc (ts : List Tok) (t : Tok) : endAt (ts ++ [t]) (ts ++ [t]).length = t.at_ + t.text.size := by
  unfold endAt
  rw [if_neg (by simp)]
  simp

theorem Chain.snoc {s : ByteArray} {ts : List Tok} (h : Chain s ts) {t : Tok} (he : endAt ts ts.length ≤ t.at_) (ht : Stands s t) : Chain s (ts ++ [t]) := by
  intro i u hu
  rcases Nat.lt_trichotomy i ts.length with hi | hi | hi
  · rw [List.getElem?_append_left hi] at hu
    rw [endAt_append _ _ _ (by omega)]
    exact h i u hu
  · subst hi
    simp at hu
    subst hu
    rw [endAt_append _ _ _ (by omega)]
    exact ⟨he, ht⟩
  · rw [List.getElem?_eq_none (by simp; omega)] at hu
    cases hu

theorem size_extract' (s : ByteArray) (b p : Nat) (hb : b ≤ p) (hp : p ≤ s.size) : (s.extract b p).size = p - b := by
  simp; omega

theorem stands_word {s : ByteArray} {b p : Nat} (hb : b < p) (hp : p ≤ s.size) {t : Tok} (h : tokOf (s.extract b p) b = some t) : Stands s t ∧ t.at_ = b ∧ t.at_ + t.text.size = p := by
  have hsz := size_extract' s b p (by omega) hp
  unfold tokOf at h
  cases e : wordV (s.extract b p).data.toList with
  | some v =>
    rw [e] at h
    simp only [Option.some.injEq] at h
    subst h
    obtain ⟨h0, h1, h2⟩ := wordV_some e
    refine ⟨⟨by simp only [hsz]; omega, by simp only [hsz]; omega, ?_, by simp, fun _ => ⟨h0, h1, h2⟩, ⟨h0, h1⟩, by simp⟩, rfl, by simp only [hsz]; omega⟩
    simp only [hsz]
    congr 1; omega
  | none =>
    rw [e] at h
    simp only at h
    split at h
    · rename_i hs
      simp only [Option.some.injEq] at h
      subst h
      refine ⟨⟨by simp only [hsz]; omega, by simp only [hsz]; omega, ?_, fun _ => hs, by simp, by simp, by simp⟩, rfl, by simp only [hsz]; omega⟩
      simp only [hsz]
      congr 1; omega
    · cases h

theorem extract_one (s : ByteArray) (p : Nat) (h : p < s.size) : s.extract p (p + 1) = ⟨#[s[p]'h]⟩ := by
  apply ByteArray.ext
  rw [ByteArray.data_extract]
  apply Array.ext
  · simp; have : s.size = s.data.size := rfl; omega
  · intro i h1 h2
    have : i = 0 := by simp at h2; omega
    subst this
    simp
    rfl

theorem chain_brack {s : ByteArray} {ts : List Tok} (h : Chain s ts) {p : Nat} (hp : p < s.size) (he : endAt ts ts.length ≤ p) :
    Chain s (ts ++ brack (s[p]'hp) p) ∧ endAt (ts ++ brack (s[p]'hp) p) (ts ++ brack (s[p]'hp) p).length ≤ p + 1 ∧ (ts ++ brack (s[p]'hp) p).length ≤ ts.length + 1 := by
  unfold brack
  split
  · rename_i hc
    have hc : s[p]'hp = 40 := by simpa using hc
    refine ⟨h.snoc he ⟨?_, ?_, ?_, by simp, by simp, by simp, by simp⟩, by rw [endAt_snoc]; exact Nat.le_refl _, by simp⟩
    · show p + 1 ≤ s.size; omega
    · exact Nat.le_refl _
    · show s.extract p (p + 1) = _
      rw [extract_one s p hp, hc]
  · split
    · rename_i hc
      have hc : s[p]'hp = 41 := by simpa using hc
      refine ⟨h.snoc he ⟨?_, ?_, ?_, by simp, by simp, by simp, by simp⟩, by rw [endAt_snoc]; exact Nat.le_refl _, by simp⟩
      · show p + 1 ≤ s.size; omega
      · exact Nat.le_refl _
      · show s.extract p (p + 1) = _
        rw [extract_one s p hp, hc]
    · simp only [List.append_nil]
      exact ⟨h, by omega, by omega⟩

theorem scan_good (s : ByteArray) (n : Nat) : ∀ (acc : List Tok) (b p : Nat), n = s.size - p → b ≤ p → p ≤ s.size → endAt acc acc.length ≤ b → acc.length ≤ b → Chain s acc →
    Chain s (scan s n acc b p).1 ∧ (scan s n acc b p).1.length ≤ s.size ∧ ((scan s n acc b p).2 = -1 ∨ ((scan s n acc b p).1 = [] ∧ 0 ≤ (scan s n acc b p).2 ∧ (scan s n acc b p).2 ≤ s.size)) := by
  induction n with
  | zero =>
    intro acc b p hn hb hp he hl hc
    unfold scan
    split
    · exact ⟨hc, by simp only []; omega, .inl rfl⟩
    · cases e : tokOf (s.extract b p) b with
      | none => exact ⟨by intro i t h; simp at h, by simp, .inr ⟨rfl, by simp only []; omega, by simp only []; omega⟩⟩
      | some t =>
        obtain ⟨h1, h2, h3⟩ := stands_word (by omega) hp e
        refine ⟨hc.snoc (by omega) h1, by simp only [List.length_append, List.length_singleton]; omega, .inl rfl⟩
  | succ n ih =>
    intro acc b p hn hb hp he hl hc
    have hlt : p < s.size := by omega
    unfold scan
    rw [get_bang s p hlt]
    split
    · split
      · obtain ⟨h1, h2, h3⟩ := chain_brack hc hlt (by omega)
        exact ih _ _ _ (by omega) (by omega) (by omega) (by omega) (by omega) h1
      · cases e : tokOf (s.extract b p) b with
        | none => exact ⟨by intro i t h; simp at h, by simp, .inr ⟨rfl, by simp only []; omega, by simp only []; omega⟩⟩
        | some t =>
          obtain ⟨h1, h2, h3⟩ := stands_word (by omega) hp e
          have hc2 := hc.snoc (by omega) h1
          have he2 := endAt_snoc acc t
          have hl2 : (acc ++ [t]).length = acc.length + 1 := by simp
          obtain ⟨h4, h5, h6⟩ := chain_brack hc2 hlt (by omega)
          exact ih _ _ _ (by omega) (by omega) (by omega) (by omega) (by omega) h4
    · exact ih _ _ _ (by omega) (by omega) (by omega) he hl hc

theorem toks_good (s : ByteArray) : Chain s (toks s).1 ∧ (toks s).1.length ≤ 4000 ∧ ((toks s).2 = -1 ∨ ((toks s).1 = [] ∧ 0 ≤ (toks s).2 ∧ (toks s).2 ≤ 4000)) := by
  unfold toks
  split
  · obtain ⟨h1, h2, h3⟩ := scan_good s s.size [] 0 0 (by omega) (by omega) (by omega) (by simp [endAt]) (by simp) (by intro i t h; simp at h)
    refine ⟨h1, by omega, ?_⟩
    rcases h3 with h3 | ⟨h3, h4, h5⟩
    · exact .inl h3
    · exact .inr ⟨h3, h4, by omega⟩
  · exact ⟨by intro i t h; simp at h, by simp, .inr ⟨rfl, by simp, by simp⟩⟩

theorem part_cases {c : UInt8} (h : partB c = true) : c.toNat = 32 ∨ c.toNat = 10 ∨ c = 40 ∨ c = 41 := by
  unfold partB at h
  simp only [Bool.or_eq_true, beq_iff_eq] at h
  rcases h with ((h | h) | h) | h
  · left; rw [h]; rfl
  · right; left; rw [h]; rfl
  · right; right; left; exact h
  · right; right; right; exact h

theorem part_no {c : UInt8} (h : partB c = false) : c.toNat ≠ 32 ∧ c.toNat ≠ 10 ∧ c.toNat ≠ 40 ∧ c.toNat ≠ 41 := by
  have key : ∀ d : UInt8, partB d = true → c.toNat ≠ d.toNat := by
    intro d hd e
    have : c = d := UInt8.toNat_inj.1 e
    subst this
    rw [hd] at h; cases h
  exact ⟨key 32 (by decide), key 10 (by decide), key 40 (by decide), key 41 (by decide)⟩

theorem brack_blank {c : UInt8} (h : c.toNat = 32 ∨ c.toNat = 10) (p : Nat) : brack c p = [] := by
  unfold brack
  have key : ∀ d : UInt8, d.toNat ≠ 32 → d.toNat ≠ 10 → (c == d) = false := by
    intro d h1 h2
    rw [beq_eq_false_iff_ne]
    rintro rfl; omega
  rw [key 40 (by decide) (by decide), key 41 (by decide) (by decide)]; rfl
end Go.Proofs.YtafpbcdgcgffeabGreatDoor

/- The cells of a list of tokens. No conditions. -/
namespace Go.Proofs.YtafpbcdgcgffeabGreatDoor
open Go.ChangeShapes Go.WideShapes Go.ChangeAt Go.RowKit

/-- The cells of a list of tokens at the value v. -/
def TokCells (w : World) (v : Value) (ts : List Tok) : Prop :=
  (v = .slice none 0 0 ∧ ts = []) ∨ ∃ g cap, v = .slice (some ⟨g, 0, none⟩) ts.length cap ∧ ts.length ≤ cap ∧ ∀ j u, (rows ts)[j]? = some u → w.cell? ⟨g, j, none⟩ = some u

theorem TokCells.of_own {w : World} {base : Nat} {v : Value} {ts : List Tok} (h : w.ownsRow base 84 4 v ts.length (rows ts)) : TokCells w v ts := by
  rcases h.2 with ⟨h1, h2⟩ | ⟨g, cap, cur, rfl, _, hgg, hcap, _, _, htake⟩
  · exact .inl ⟨h1, List.eq_nil_of_length_eq_zero h2⟩
  · refine .inr ⟨g, cap, rfl, hcap, ?_⟩
    intro j u hu
    rw [cell_of_row w g j cur _ _ hgg]
    rw [← htake, List.getElem?_take] at hu
    split at hu
    · simpa using hu
    · cases hu

theorem TokCells.below {w w' : World} {v : Value} {ts : List Tok} (h : TokCells w v ts) (hb : Below w.heap.size w w') : TokCells w' v ts := by
  rcases h with h | ⟨g, cap, h1, h2, h3⟩
  · exact .inl h
  · refine .inr ⟨g, cap, h1, h2, fun j u hu => ?_⟩
    have := h3 j u hu
    exact (hb.cell (World.block_lt_of_cell? w _ this)).trans this

theorem rows_at (ts : List Tok) (k : Nat) (h : k < ts.length) : (rows ts)[k * 4]? = some (.int .i64 ts[k].kind) ∧ (rows ts)[k * 4 + 1]? = some (.int .i64 ts[k].at_) ∧ (rows ts)[k * 4 + 2]? = some (.int .i64 ts[k].n) ∧ (rows ts)[k * 4 + 3]? = some (.string ts[k].text) := by
  induction ts generalizing k with
  | nil => simp at h
  | cons t r ih =>
    cases k with
    | zero => exact ⟨rfl, rfl, rfl, rfl⟩
    | succ k =>
      have := ih k (by simpa using h)
      have e : ∀ j, (rows (t :: r))[(k + 1) * 4 + j]? = (rows r)[k * 4 + j]? := by
        intro j
        have : rows (t :: r) = t.cells ++ rows r := rfl
        rw [this, List.getElem?_append_right (by simp [Tok.cells]; omega)]
        congr 1
        simp [Tok.cells]; omega
      have e0 := e 0; have e1 := e 1; have e2 := e 2; have e3 := e 3
      simp only [Nat.add_zero] at e0
      rw [e0, e1, e2, e3]
      exact this

theorem below_new (w : World) (o : Obj) : Below w.heap.size w (w.alloc o) :=
  ⟨rfl, rfl, rfl, by simp, fun k hk => (World.grownBy_alloc w o none).block k hk (by simp)⟩

end Go.Proofs.YtafpbcdgcgffeabGreatDoor

/- A list of data that is being built, its rows owned. No conditions. -/
namespace Go.Proofs.YtafpbcdgcgffeabGreatDoor
open Go.ChangeShapes Go.WideShapes Go.ChangeAt Go.RowKit

theorem kidsOf_snoc_lt (acc : List D) (d : D) (i : Nat) (h : i < acc.length) : kidsOf (acc ++ [d]) i = kidsOf acc i := by
  unfold kidsOf
  simp [List.getD, List.getElem?_append_left h]
theorem kidsOf_snoc_at (acc : List D) (d : D) : kidsOf (acc ++ [d]) acc.length = d := by
  unfold kidsOf
  simp [List.getD]

/-- The list so far, at the value lv; its elements' blocks. -/
structure Acc (B : Nat) (w : World) (acc : List D) (lv : Value) (la : List (D × Value)) (SS : List (List Nat)) : Prop where
  own : w.ownsRow 0 30 5 lv acc.length (drows la)
  len : la.length = acc.length
  sl : SS.length = acc.length
  each : ∀ i, i < acc.length → ∃ u T, la[i]? = some (kidsOf acc i, u) ∧ SS[i]? = some T ∧ DOwn w (kidsOf acc i) u T
  nd : SS.flatten.Nodup
  out : ∀ g, lv.ownBlock = some g → g ∉ SS.flatten ∧ B ≤ g
  up : ∀ x ∈ SS.flatten, B ≤ x

theorem Acc.nil (B : Nat) (w : World) : Acc B w [] (.slice none 0 0) [] [] :=
  ⟨⟨rfl, .inl ⟨rfl, rfl⟩⟩, rfl, rfl, fun i hi => by simp at hi, by simp, fun g h => by simp [Value.ownBlock] at h, fun x hx => by simp at hx⟩

theorem Acc.lt {B : Nat} {w : World} {acc : List D} {lv : Value} {la : List (D × Value)} {SS : List (List Nat)} (h : Acc B w acc lv la SS) : ∀ x ∈ SS.flatten, x < w.heap.size := by
  intro x hx
  obtain ⟨T, hT, hxT⟩ := List.mem_flatten.1 hx
  obtain ⟨i, hi, rfl⟩ := List.mem_iff_getElem.1 hT
  obtain ⟨u, T', k1, k2, k3⟩ := h.each i (by have := h.sl; omega)
  rw [List.getElem?_eq_getElem hi] at k2
  injection k2 with k2
  exact k3.there _ x (by rw [← k2]; exact hxT)

theorem Acc.same {B : Nat} {w w' : World} {acc : List D} {lv : Value} {la : List (D × Value)} {SS : List (List Nat)} (h : Acc B w acc lv la SS) (hs : ∀ x, B ≤ x → x < w.heap.size → w'.heap[x]? = w.heap[x]?) : Acc B w' acc lv la SS :=
  ⟨own_same h.own (fun g hg => hs g (h.out g hg).2 (h.own.lt g hg).2), h.len, h.sl, fun i hi => by
    obtain ⟨u, T, k1, k2, k3⟩ := h.each i hi
    exact ⟨u, T, k1, k2, k3.same _ (fun x hx => hs x (h.up x (mem_flat k2 hx)) (k3.there _ x hx))⟩, h.nd, h.out, h.up⟩

theorem Acc.app {B : Nat} {w w3 : World} {acc : List D} {lv v : Value} {la : List (D × Value)} {SS : List (List Nat)} {d : D} {T : List Nat} {o : Obj} {g cap : Nat} (h : Acc B w acc lv la SS) (hd : DOwn w d v T) (hT : T.Nodup) (hTS : ∀ x ∈ T, x ∉ SS.flatten) (hTl : ∀ x ∈ T, lv.ownBlock ≠ some x) (hTB : ∀ x ∈ T, B ≤ x) (hB : B ≤ w.heap.size)
    (hown : w3.ownsRow 0 30 5 (.slice (some ⟨g, 0, none⟩) (acc.length + 1) cap) (acc.length + 1) (drows la ++ dcells (d, v))) (hg : (w.alloc o).grownBy w3 lv.ownBlock) (hat : lv.ownBlock = some g ∨ g = w.heap.size + 1) :
    Acc B w3 (acc ++ [d]) (.slice (some ⟨g, 0, none⟩) (acc.length + 1) cap) (la ++ [(d, v)]) (SS ++ [T]) := by
  have hlt := h.lt
  have hTt := hd.there
  have hsz : (w.alloc o).heap.size = w.heap.size + 1 := by simp
  have keep : ∀ x, x < w.heap.size → lv.ownBlock ≠ some x → w3.heap[x]? = w.heap[x]? := fun x hx hne =>
    (hg.block x (by omega) (fun e => hne e.symm)).trans (Below.heap_alloc w o x hx)
  have hfl : (SS ++ [T]).flatten = SS.flatten ++ T := by simp
  refine ⟨by rw [List.length_append]; rw [drows_append]; exact hown, by simp [h.len], by simp [h.sl], fun i hi => ?_, ?_, ?_, ?_⟩
  · rw [List.length_append, List.length_singleton] at hi
    rcases Nat.lt_or_ge i acc.length with hia | hia
    · obtain ⟨u, U, k1, k2, k3⟩ := h.each i hia
      rw [kidsOf_snoc_lt acc d i hia]
      refine ⟨u, U, by rw [List.getElem?_append_left (by rw [h.len]; exact hia)]; exact k1, by rw [List.getElem?_append_left (by rw [h.sl]; exact hia)]; exact k2, ?_⟩
      exact k3.same _ (fun x hx => keep x (k3.there _ x hx) (fun e => (h.out x e).1 (mem_flat k2 hx)))
    · obtain rfl : i = acc.length := by omega
      rw [kidsOf_snoc_at]
      refine ⟨v, T, ?_, ?_, hd.same _ (fun x hx => keep x (hTt x hx) (hTl x hx))⟩
      · rw [List.getElem?_append_right (by rw [h.len]; exact Nat.le_refl _), h.len, Nat.sub_self]; rfl
      · rw [List.getElem?_append_right (by rw [h.sl]; exact Nat.le_refl _), h.sl, Nat.sub_self]; rfl
  · rw [hfl, List.nodup_append]
    exact ⟨h.nd, hT, fun a ha b hb e => hTS b hb (by rw [← e]; exact ha)⟩
  · intro x hx
    simp only [Value.ownBlock, Option.some.injEq] at hx
    subst hx
    rw [hfl, List.mem_append]
    rcases hat with hat | hat
    · exact ⟨fun hx => hx.elim (h.out g hat).1 (fun hx => hTl g hx hat), (h.out g hat).2⟩
    · refine ⟨fun hx => ?_, by omega⟩
      rcases hx with hx | hx
      · have := hlt g hx; omega
      · have := hTt g hx; omega
  · intro x hx
    rw [hfl, List.mem_append] at hx
    exact hx.elim (h.up x) (hTB x)

/-- The list as it stands. -/
theorem Acc.sown {B : Nat} {w : World} {acc : List D} {lv : Value} {la : List (D × Value)} {SS : List (List Nat)} (h : Acc B w acc lv la SS) (hl : lv = .slice none 0 0 ∨ acc ≠ []) : ∃ S, SOwn w acc.length (kidsOf acc) lv S ∧ S.Nodup ∧ ∀ x ∈ S, B ≤ x := by
  rcases h.own.2 with ⟨h1, h2⟩ | ⟨g, cap, cur, h1, hb, hg, hc, hm, hs, ht⟩
  · exact ⟨[], .inl ⟨h2, h1, rfl⟩, by simp, fun x hx => by simp at hx⟩
  · subst h1
    refine ⟨g :: SS.flatten, .inr ⟨g, cap, la, SS, rfl, h.own, h.len, h.sl, fun i q hq => ?_, rfl, h.each⟩, List.nodup_cons.2 ⟨(h.out g rfl).1, h.nd⟩, fun x hx => ?_⟩
    · have hi : i < acc.length := by have := (List.getElem?_eq_some_iff.1 hq).1; have := h.len; omega
      obtain ⟨u, T, k1, _, _⟩ := h.each i hi
      rw [hq] at k1
      injection k1 with k1
      rw [k1]
    · rcases List.mem_cons.1 hx with rfl | hx
      · exact (h.out x rfl).2
      · exact h.up x hx

/-- Block K is a reader at token i. -/
def RdAt (w : World) (K : Nat) (tv : Value) (i E : Nat) : Prop := w.heap[K]? = some (.cells #[tv, .int .i64 i, .int .i64 E] 81 (0, 0))
theorem RdAt.c0 {w : World} {K : Nat} {tv : Value} {i E : Nat} (h : RdAt w K tv i E) : w.cell? ⟨K, 0, none⟩ = some tv := cell_of_row w K 0 _ _ _ h
theorem RdAt.c1 {w : World} {K : Nat} {tv : Value} {i E : Nat} (h : RdAt w K tv i E) : w.cell? ⟨K, 1, none⟩ = some (.int .i64 i) := cell_of_row w K 1 _ _ _ h
theorem RdAt.c2 {w : World} {K : Nat} {tv : Value} {i E : Nat} (h : RdAt w K tv i E) : w.cell? ⟨K, 2, none⟩ = some (.int .i64 E) := cell_of_row w K 2 _ _ _ h
theorem RdAt.fr {w : World} {K : Nat} {tv : Value} {i E : Nat} (h : RdAt w K tv i E) (j : Nat) : w.frozen? ⟨K, j, none⟩ = false := frozen_of_row w K j _ _ h
theorem RdAt.lt {w : World} {K : Nat} {tv : Value} {i E : Nat} (h : RdAt w K tv i E) : K < w.heap.size := (Array.getElem?_eq_some_iff.1 h).1
theorem RdAt.below {w w' : World} {K : Nat} {tv : Value} {i E : Nat} (h : RdAt w K tv i E) (hb : Below w.heap.size w w') : RdAt w' K tv i E := (hb.block _ h.lt).trans h
theorem RdAt.next {w : World} {K : Nat} {tv : Value} {i E : Nat} (h : RdAt w K tv i E) : RdAt (w.setCell ⟨K, 1, none⟩ (.int .i64 ((i : Int) + 1))) K tv (i + 1) E := by
  have := heap_setCell_same w K 1 _ _ (.int .i64 ((i : Int) + 1)) h
  exact this

/-- How a reading may end by a panic. -/
abbrev misfit (p : Int) : Ending := .panicked [{ v := .iface 41 (.int .i64 p), recovered := false }]

def OneSays (w : World) (K : Nat) (tv : Value) (ts : List Tok) (E : Nat) (res : Rdr D) (e : Ending) (w' : World) : Prop :=
  FrS w w' [K] ∧ match res with
    | .bad p => e = misfit p
    | .ok d r => ∃ v T i', e = .returned (.agg #[.int .i64 d.op, .int .i64 d.at_, .int .i64 d.n, .string d.s, v]) ∧ DOwn w' d v T ∧ T.Nodup ∧ (∀ x ∈ T, w.heap.size ≤ x) ∧ r = ts.drop i' ∧ i' ≤ ts.length ∧ RdAt w' K tv i' E

def KidsSay (w : World) (K : Nat) (tv : Value) (ts : List Tok) (E : Nat) (res : Rdr (List D)) (e : Ending) (w' : World) : Prop :=
  FrS w w' [K] ∧ match res with
    | .bad p => e = misfit p
    | .ok ds r => ∃ v T i', e = .returned v ∧ SOwn w' ds.length (kidsOf ds) v T ∧ T.Nodup ∧ (∀ x ∈ T, w.heap.size ≤ x) ∧ r = ts.drop i' ∧ i' ≤ ts.length ∧ RdAt w' K tv i' E

/-- What is told of the tokens. -/
def TokOk (ts : List Tok) : Prop := ∀ t ∈ ts, (1 ≤ t.kind ∧ t.kind ≤ 4) ∧ (-1073741824 ≤ t.n ∧ t.n ≤ 1073741823) ∧ t.text.size ≤ 4000

def OneAt (w0 : World) (K : Nat) (tv : Value) (ts : List Tok) (E f : Nat) : Prop := ∀ (w : World) (i : Nat), Below w0.heap.size w0 w → RdAt w K tv i E → i < ts.length → ts.length - i ≤ f →
  Calls Tryz.prog 58 #[.pointer (some ⟨K, 0, none⟩)] w (OneSays w K tv ts E (one E f (ts.drop i)))
def KidsAt (w0 : World) (K : Nat) (tv : Value) (ts : List Tok) (E f : Nat) : Prop := ∀ (w : World) (i : Nat), Below w0.heap.size w0 w → RdAt w K tv i E → i ≤ ts.length → ts.length - i ≤ f →
  Calls Tryz.prog 70 #[.pointer (some ⟨K, 0, none⟩)] w (KidsSay w K tv ts E (kidsL E (one E f) ((ts.drop i).length + 1) [] (ts.drop i)))

theorem FrS.below0 {w0 w w' : World} {K : Nat} (hb : Below w0.heap.size w0 w) (h : FrS w w' [K]) (hK : w0.heap.size ≤ K) : Below w0.heap.size w0 w' :=
  hb.trans ⟨h.os, h.tape, h.output, h.size, fun k hk => h.block k (by have := hb.size; omega) (by simp only [List.mem_singleton]; omega)⟩
end Go.Proofs.YtafpbcdgcgffeabGreatDoor

/- Owned data of which one node is put anew. No conditions. -/
namespace Go.Proofs.YtafpbcdgcgffeabGreatDoor
open Go.ChangeShapes Go.WideShapes Go.ChangeAt Go.RowKit

structure Row (w : World) (len : Nat) (kid : Nat → D) (v : Value) (S : List Nat) (g cap : Nat) (l : List (D × Value)) (SS : List (List Nat)) : Prop where
  val : v = .slice (some ⟨g, 0, none⟩) len cap
  own : w.ownsRow 0 30 5 (.slice (some ⟨g, 0, none⟩) len cap) len (drows l)
  ll : l.length = len
  sl : SS.length = len
  ks : Ks kid l
  eq : S = g :: SS.flatten
  each : ∀ i, i < len → ∃ u T, l[i]? = some (kid i, u) ∧ SS[i]? = some T ∧ DOwn w (kid i) u T

theorem Row.sown {w : World} {len : Nat} {kid : Nat → D} {v : Value} {S : List Nat} {g cap : Nat} {l : List (D × Value)} {SS : List (List Nat)} (h : Row w len kid v S g cap l SS) : SOwn w len kid v S :=
  .inr ⟨g, cap, l, SS, h.val, h.own, h.ll, h.sl, h.ks, h.eq, h.each⟩
theorem SOwn.row {w : World} {len : Nat} {kid : Nat → D} {v : Value} {S : List Nat} (h : SOwn w len kid v S) (h0 : 0 < len) : ∃ g cap l SS, Row w len kid v S g cap l SS := by
  rcases h with ⟨h, _⟩ | ⟨g, cap, l, SS, h1, h2, h3, h4, h5, h6, h7⟩
  · omega
  · exact ⟨g, cap, l, SS, h1, h2, h3, h4, h5, h6, h7⟩

/-- A list of kids with one put anew. -/
def setK (kid : Nat → D) (i : Nat) (d : D) : Nat → D := fun k => if k = i then d else kid k
theorem setK_at (kid : Nat → D) (i : Nat) (d : D) : setK kid i d i = d := if_pos rfl
theorem setK_ne (kid : Nat → D) {i k : Nat} (d : D) (h : k ≠ i) : setK kid i d k = kid k := if_neg h

theorem sumTo_setK (f : D → Nat) (kid : Nat → D) (i : Nat) (d : D) : ∀ len, i < len → sumTo (fun k => f (setK kid i d k)) len + f (kid i) = sumTo (fun k => f (kid k)) len + f d := by
  have low : ∀ len, len ≤ i → sumTo (fun k => f (setK kid i d k)) len = sumTo (fun k => f (kid k)) len := by
    intro len
    induction len with
    | zero => intro _; rfl
    | succ n ih =>
      intro h
      simp only [sumTo]
      rw [ih (by omega), setK_ne kid d (by omega)]
  intro len
  induction len with
  | zero => intro h; omega
  | succ n ih =>
    intro h
    simp only [sumTo]
    by_cases hn : n = i
    · subst hn
      rw [low n (Nat.le_refl _), setK_at]
      omega
    · rw [setK_ne kid d hn]
      have := ih (by omega)
      omega

theorem mem_set {SS : List (List Nat)} {i : Nat} {T' : List Nat} {b : Nat} (h : b ∈ (SS.set i T').flatten) : b ∈ SS.flatten ∨ b ∈ T' := by
  obtain ⟨U, hU, hb⟩ := List.mem_flatten.1 h
  rcases List.mem_or_eq_of_mem_set hU with h1 | h1
  · exact .inl (List.mem_flatten.2 ⟨U, h1, hb⟩)
  · exact .inr (h1 ▸ hb)

theorem nodup_set : ∀ (SS : List (List Nat)) (i : Nat) (T T' : List Nat), SS.flatten.Nodup → SS[i]? = some T → T'.Nodup → (∀ b ∈ T', b ∈ T ∨ b ∉ SS.flatten) → (SS.set i T').flatten.Nodup := by
  intro SS
  induction SS with
  | nil => intro i T T' _ h _ _; simp at h
  | cons U SS ih =>
    intro i T T' hn hi hT hb
    rw [List.flatten_cons, List.nodup_append] at hn
    obtain ⟨n1, n2, n3⟩ := hn
    cases i with
    | zero =>
      simp only [List.getElem?_cons_zero, Option.some.injEq] at hi
      subst hi
      rw [List.set_cons_zero, List.flatten_cons, List.nodup_append]
      refine ⟨hT, n2, fun a ha b hb' e => ?_⟩
      subst e
      rcases hb a ha with h | h
      · exact n3 a h a hb' rfl
      · exact h (by rw [List.flatten_cons, List.mem_append]; exact .inr hb')
    | succ i =>
      simp only [List.getElem?_cons_succ] at hi
      rw [List.set_cons_succ, List.flatten_cons, List.nodup_append]
      refine ⟨n1, ih i T T' n2 hi hT (fun b h => ?_), fun a ha b hb' e => ?_⟩
      · rcases hb b h with h1 | h1
        · exact .inl h1
        · exact .inr (fun h2 => h1 (by rw [List.flatten_cons, List.mem_append]; exact .inr h2))
      · subst e
        rcases mem_set hb' with h | h
        · exact n3 a ha a h rfl
        · rcases hb a h with h1 | h1
          · exact n3 a ha a (List.mem_flatten.2 ⟨T, List.mem_of_getElem? hi, h1⟩) rfl
          · exact h1 (by rw [List.flatten_cons, List.mem_append]; exact .inl ha)

/-- Blocks of two kids are apart. -/
theorem flat_apart : ∀ (SS : List (List Nat)) (i k : Nat) (T U : List Nat), SS.flatten.Nodup → i ≠ k → SS[i]? = some T → SS[k]? = some U → ∀ b ∈ T, b ∉ U := by
  intro SS
  induction SS with
  | nil => intro i k T U _ _ h _; simp at h
  | cons W SS ih =>
    intro i k T U hn hik hi hk b hT hU
    rw [List.flatten_cons, List.nodup_append] at hn
    obtain ⟨n1, n2, n3⟩ := hn
    cases i with
    | zero =>
      cases k with
      | zero => exact hik rfl
      | succ k =>
        simp only [List.getElem?_cons_zero, Option.some.injEq] at hi
        simp only [List.getElem?_cons_succ] at hk
        subst hi
        exact n3 b hT b (mem_flat hk hU) rfl
    | succ i =>
      cases k with
      | zero =>
        simp only [List.getElem?_cons_zero, Option.some.injEq] at hk
        simp only [List.getElem?_cons_succ] at hi
        subst hk
        exact n3 b hU b (mem_flat hi hT) rfl
      | succ k =>
        simp only [List.getElem?_cons_succ] at hi hk
        exact ih i k T U n2 (by omega) hi hk b hT hU

/-- One kid put anew. -/
theorem Row.set {w w' : World} {len : Nat} {kid : Nat → D} {v : Value} {S : List Nat} {g cap : Nat} {l : List (D × Value)} {SS : List (List Nat)} (h : Row w len kid v S g cap l SS) (hn : S.Nodup) {i : Nat} (hi : i < len) {T T' : List Nat} (hT : SS[i]? = some T) {d' : D} {u' : Value}
    (hown : w'.ownsRow 0 30 5 (.slice (some ⟨g, 0, none⟩) len cap) len (drows (l.set i (d', u')))) (hd : DOwn w' d' u' T') (hT' : T'.Nodup) (hnew : ∀ b ∈ T', b ∈ T ∨ b ∉ S) (hk : ∀ b ∈ S, b ≠ g → b ∉ T → w'.heap[b]? = w.heap[b]?) :
    Row w' len (setK kid i d') v (g :: (SS.set i T').flatten) g cap (l.set i (d', u')) (SS.set i T') ∧ (g :: (SS.set i T').flatten).Nodup := by
  have hn' := hn
  rw [h.eq, List.nodup_cons] at hn'
  refine ⟨⟨h.val, hown, by rw [List.length_set]; exact h.ll, by rw [List.length_set]; exact h.sl, ?_, rfl, ?_⟩, ?_⟩
  · intro k q hq
    by_cases hki : k = i
    · subst hki
      rw [List.getElem?_set_self (by rw [h.ll]; exact hi)] at hq
      injection hq with hq
      rw [← hq, setK_at]
    · rw [List.getElem?_set_ne (by omega)] at hq
      rw [setK_ne kid d' hki]
      exact h.ks k q hq
  · intro k hkl
    by_cases hki : k = i
    · subst hki
      rw [setK_at]
      exact ⟨u', T', List.getElem?_set_self (by rw [h.ll]; exact hi), List.getElem?_set_self (by rw [h.sl]; exact hi), hd⟩
    · obtain ⟨u, U, k1, k2, k3⟩ := h.each k hkl
      rw [setK_ne kid d' hki]
      refine ⟨u, U, by rw [List.getElem?_set_ne (by omega)]; exact k1, by rw [List.getElem?_set_ne (by omega)]; exact k2, k3.same _ (fun b hb => ?_)⟩
      have hbS : b ∈ SS.flatten := mem_flat k2 hb
      refine hk b (by rw [h.eq]; exact List.mem_cons_of_mem _ hbS) (fun e => hn'.1 (e ▸ hbS)) (fun hbT => ?_)
      exact flat_apart SS i k T U hn'.2 (by omega) hT k2 b hbT hb
  · rw [List.nodup_cons]
    refine ⟨fun hg => ?_, nodup_set SS i T T' hn'.2 hT hT' (fun b hb => ?_)⟩
    · rcases mem_set hg with h1 | h1
      · exact hn'.1 h1
      · rcases hnew g h1 with h2 | h2
        · exact hn'.1 (mem_flat hT h2)
        · exact h2 (by rw [h.eq]; simp)
    · rcases hnew b hb with h1 | h1
      · exact .inl h1
      · exact .inr (fun h2 => h1 (by rw [h.eq]; exact List.mem_cons_of_mem _ h2))
end Go.Proofs.YtafpbcdgcgffeabGreatDoor

/- Owned data of which one node is put anew, wherever it stands. No conditions. -/
namespace Go.Proofs.YtafpbcdgcgffeabGreatDoor
open Go.ChangeShapes Go.WideShapes Go.ChangeAt Go.RowKit

/-- In t's rows the node x stands at place j of block g; its kids are at u, their blocks T. -/
inductive NodeAt (w : World) : D → Value → List Nat → Nat → Nat → D → Value → List Nat → Prop where
  | here {t : D} {v : Value} {S : List Nat} {g cap : Nat} {l : List (D × Value)} {SS : List (List Nat)} {j : Nat} {u : Value} {T : List Nat} : (t.s.size ≤ maxLen ∧ -9223372036854775808 ≤ t.n ∧ t.n ≤ 9223372036854775807) → Row w t.len t.kid v S g cap l SS → j < t.len → l[j]? = some (t.kid j, u) → SS[j]? = some T → NodeAt w t v S g j (t.kid j) u T
  | there {t : D} {v : Value} {S : List Nat} {g cap : Nat} {l : List (D × Value)} {SS : List (List Nat)} {i : Nat} {u : Value} {T : List Nat} {g' j : Nat} {x : D} {u' : Value} {T' : List Nat} : (t.s.size ≤ maxLen ∧ -9223372036854775808 ≤ t.n ∧ t.n ≤ 9223372036854775807) → Row w t.len t.kid v S g cap l SS → i < t.len → l[i]? = some (t.kid i, u) → SS[i]? = some T → NodeAt w (t.kid i) u T g' j x u' T' → NodeAt w t v S g' j x u' T'

theorem Row.at {w : World} {len : Nat} {kid : Nat → D} {v : Value} {S : List Nat} {g cap : Nat} {l : List (D × Value)} {SS : List (List Nat)} (h : Row w len kid v S g cap l SS) {i : Nat} (hi : i < len) {u : Value} {T : List Nat} (h1 : l[i]? = some (kid i, u)) (h2 : SS[i]? = some T) : DOwn w (kid i) u T := by
  obtain ⟨u', T', k1, k2, k3⟩ := h.each i hi
  rw [h1] at k1
  rw [h2] at k2
  injection k1 with k1
  injection k1 with _ k1
  injection k2 with k2
  rw [k1, k2]; exact k3

theorem NodeAt.facts {w : World} {t : D} {v : Value} {S : List Nat} {g j : Nat} {x : D} {u : Value} {T : List Nat} (h : NodeAt w t v S g j x u T) : DOwn w x u T ∧ g ∈ S ∧ (∀ b ∈ T, b ∈ S) ∧ ∃ len cap l, w.ownsRow 0 30 5 (.slice (some ⟨g, 0, none⟩) len cap) len (drows l) ∧ l.length = len ∧ l[j]? = some (x, u) ∧ j < len := by
  induction h with
  | here hp hr hj h1 h2 => exact ⟨hr.at hj h1 h2, by rw [hr.eq]; simp, fun b hb => by rw [hr.eq]; exact List.mem_cons_of_mem _ (mem_flat h2 hb), _, _, _, hr.own, hr.ll, h1, hj⟩
  | there hp hr hi h1 h2 _ ih =>
    obtain ⟨a1, a2, a3, a4⟩ := ih
    exact ⟨a1, by rw [hr.eq]; exact List.mem_cons_of_mem _ (mem_flat h2 a2), fun b hb => by rw [hr.eq]; exact List.mem_cons_of_mem _ (mem_flat h2 (a3 b hb)), a4⟩

/-- One step down. -/
theorem NodeAt.down {w : World} {t : D} {v : Value} {S : List Nat} {g j : Nat} {x : D} {u : Value} {T : List Nat} (h : NodeAt w t v S g j x u T) {g2 cap2 : Nat} {l2 : List (D × Value)} {SS2 : List (List Nat)} (hr2 : Row w x.len x.kid u T g2 cap2 l2 SS2) {k : Nat} (hk : k < x.len) {u2 : Value} {T2 : List Nat} (h3 : l2[k]? = some (x.kid k, u2)) (h4 : SS2[k]? = some T2) : NodeAt w t v S g2 k (x.kid k) u2 T2 := by
  induction h with
  | here hp hr hj h1 h2 => exact .there hp hr hj h1 h2 (.here (hr.at hj h1 h2).plain hr2 hk h3 h4)
  | there hp hr hi h1 h2 _ ih => exact .there hp hr hi h1 h2 (ih hr2 hk h3)

theorem drows_same : ∀ (l : List (D × Value)) (i : Nat) (q q' : D × Value), l[i]? = some q → dcells q' = dcells q → drows (l.set i q') = drows l := by
  intro l
  induction l with
  | nil => intro i q q' h _; simp at h
  | cons a l ih =>
    intro i q q' h he
    cases i with
    | zero =>
      simp only [List.getElem?_cons_zero, Option.some.injEq] at h
      subst h
      simp [drows, he]
    | succ i =>
      simp only [List.getElem?_cons_succ] at h
      have := ih i q q' h he
      simp only [drows, List.set_cons_succ, List.flatMap_cons] at this ⊢
      rw [this]

theorem NodeAt.swap {w w' : World} {t : D} {v : Value} {S : List Nat} {g j : Nat} {x : D} {u : Value} {T : List Nat} (h : NodeAt w t v S g j x u T) (hn : S.Nodup) {x' : D} {u' : Value} {T' : List Nat}
    (hrow : ∀ len cap l, w.ownsRow 0 30 5 (.slice (some ⟨g, 0, none⟩) len cap) len (drows l) → l.length = len → l[j]? = some (x, u) → w'.ownsRow 0 30 5 (.slice (some ⟨g, 0, none⟩) len cap) len (drows (l.set j (x', u'))))
    (hd : DOwn w' x' u' T') (hT' : T'.Nodup) (hnew : ∀ b ∈ T', b ∈ T ∨ b ∉ S) (hk : ∀ b ∈ S, b ≠ g → b ∉ T → w'.heap[b]? = w.heap[b]?) :
    ∃ kid' S', DOwn w' (.mk t.op t.at_ t.n t.s t.len kid') v S' ∧ S'.Nodup ∧ (∀ b ∈ S', b ∈ S ∨ b ∈ T') ∧ (D.mk t.op t.at_ t.n t.s t.len kid').count + x.count = t.count + x'.count ∧ (D.mk t.op t.at_ t.n t.s t.len kid').weight + x.weight = t.weight + x'.weight := by
  have cnt : ∀ (t : D) (i : Nat) (d : D), i < t.len → (D.mk t.op t.at_ t.n t.s t.len (setK t.kid i d)).count + (t.kid i).count = t.count + d.count := by
    intro t i d hi
    have h1 := sumTo_setK D.count t.kid i d t.len hi
    rw [D.count_eq t, D.count_eq (D.mk t.op t.at_ t.n t.s t.len (setK t.kid i d))]
    simp only [D.kid, D.len] at h1 ⊢
    omega
  have wgt : ∀ (t : D) (i : Nat) (d : D), i < t.len → (D.mk t.op t.at_ t.n t.s t.len (setK t.kid i d)).weight + (t.kid i).weight = t.weight + d.weight := by
    intro t i d hi
    have h1 := sumTo_setK D.weight t.kid i d t.len hi
    rw [D.weight_eq t, D.weight_eq (D.mk t.op t.at_ t.n t.s t.len (setK t.kid i d))]
    simp only [D.kid, D.len, D.s, kidsWeight] at h1 ⊢
    omega
  induction h with
  | @here t v S g cap l SS j u T hp hr hj h1 h2 =>
    obtain ⟨r1, r2⟩ := hr.set hn hj h2 (hrow _ _ _ hr.own hr.ll h1) hd hT' hnew hk
    refine ⟨setK t.kid j x', _, ⟨hp, r1.sown⟩, r2, fun b hb => ?_, cnt t j x' hj, wgt t j x' hj⟩
    rcases List.mem_cons.1 hb with rfl | hb
    · exact .inl (by rw [hr.eq]; simp)
    · rcases mem_set hb with h | h
      · exact .inl (by rw [hr.eq]; exact List.mem_cons_of_mem _ h)
      · exact .inr h
  | @there t v S g0 cap l SS i ui Ti g j x u T hp hr hi h1 h2 hin ih =>
    have hnS := hn
    rw [hr.eq, List.nodup_cons] at hnS
    obtain ⟨f1, f2, f3, f4⟩ := hin.facts
    have hTi : Ti.Nodup := (List.pairwise_flatten.1 hnS.2).1 Ti (List.mem_of_getElem? h2)
    have hsub : ∀ b ∈ Ti, b ∈ S := fun b hb => by rw [hr.eq]; exact List.mem_cons_of_mem _ (mem_flat h2 hb)
    obtain ⟨kid', S', k1, k2, k3, k4, k5⟩ := ih hTi hrow (fun b hb => (hnew b hb).imp_right (fun h h' => h (hsub b h'))) (fun b hb h h' => hk b (hsub b hb) h h')
    have hg0 : g0 ∈ S := by rw [hr.eq]; simp
    have hg0T : g0 ∉ Ti := fun h => hnS.1 (mem_flat h2 h)
    have hblk : w'.heap[g0]? = w.heap[g0]? := hk g0 hg0 (fun e => hg0T (by rw [e]; exact f2)) (fun h => hg0T (f3 g0 h))
    have hown : w'.ownsRow 0 30 5 (.slice (some ⟨g0, 0, none⟩) t.len cap) t.len (drows (l.set i (.mk (t.kid i).op (t.kid i).at_ (t.kid i).n (t.kid i).s (t.kid i).len kid', ui))) := by
      rw [drows_same l i (t.kid i, ui) (.mk (t.kid i).op (t.kid i).at_ (t.kid i).n (t.kid i).s (t.kid i).len kid', ui) h1 rfl]
      exact own_same hr.own (fun b hb => by
        simp only [Value.ownBlock, Option.some.injEq] at hb
        subst hb; exact hblk)
    obtain ⟨r1, r2⟩ := hr.set hn hi h2 hown k1 k2 (fun b hb => by
      rcases k3 b hb with h | h
      · exact .inl h
      · rcases hnew b h with h' | h'
        · exact .inl (f3 b h')
        · exact .inr h') (fun b hb hbg hbT => hk b hb (fun e => hbT (by rw [e]; exact f2)) (fun h => hbT (f3 b h)))
    have c1 := cnt t i (.mk (t.kid i).op (t.kid i).at_ (t.kid i).n (t.kid i).s (t.kid i).len kid') hi
    have c2 := wgt t i (.mk (t.kid i).op (t.kid i).at_ (t.kid i).n (t.kid i).s (t.kid i).len kid') hi
    refine ⟨setK t.kid i _, _, ⟨hp, r1.sown⟩, r2, fun b hb => ?_, by omega, by omega⟩
    rcases List.mem_cons.1 hb with rfl | hb
    · exact .inl hg0
    · rcases mem_set hb with h | h
      · exact .inl (by rw [hr.eq]; exact List.mem_cons_of_mem _ h)
      · rcases k3 b h with h' | h'
        · exact .inl (hsub b h')
        · exact .inr h'
end Go.Proofs.YtafpbcdgcgffeabGreatDoor

/- Plain facts on data that are the same but for their places; also by a list of pairs that are left. No conditions. -/
namespace Go.Proofs.YtafpbcdgcgffeabGreatDoor
open Go.ChangeShapes Go.WideShapes Go.ChangeAt Go.RowKit

/-- All of the first k. -/
def allTo (p : Nat → Bool) : Nat → Bool
  | 0 => true
  | k + 1 => allTo p k && p k

theorem allTo_true {p : Nat → Bool} {k : Nat} : allTo p k = true ↔ ∀ i, i < k → p i = true := by
  induction k with
  | zero => simp [allTo]
  | succ k ih =>
    simp only [allTo, Bool.and_eq_true, ih]
    constructor
    · rintro ⟨h1, h2⟩ i hi
      rcases Nat.lt_or_ge i k with h | h
      · exact h1 i h
      · obtain rfl : i = k := by omega
        exact h2
    · intro h
      exact ⟨fun i hi => h i (by omega), h k (by omega)⟩

theorem allTo_false {p : Nat → Bool} {n k : Nat} (hk : k < n) (h : p k = false) : allTo p n = false := by
  cases e : allTo p n with
  | false => rfl
  | true => rw [allTo_true] at e; rw [e k hk] at h; cases h

/-- The same op, number, text and number of kids. -/
def headB (a b : D) : Bool := (a.op == b.op) && ((a.n == b.n) && ((a.s.toList == b.s.toList) && (a.len == b.len)))

/-- The same but for places. -/
def sameD : D → D → Bool
  | .no, b => headB .no b
  | .mk op a n s len kid, b => headB (.mk op a n s len kid) b && allTo (fun i => sameD (kid i) (b.kid i)) len

theorem sameD_eq (a b : D) : sameD a b = (headB a b && allTo (fun i => sameD (a.kid i) (b.kid i)) a.len) := by
  cases a with
  | no => simp [sameD, D.len, allTo]
  | mk op a n s len kid => rfl

/-- Pairs that are left. -/
abbrev Pr := D × D × Value × Value

def Pr.cells (q : Pr) : List Value := [.int .i64 q.1.op, .int .i64 q.1.at_, .int .i64 q.1.n, .string q.1.s, q.2.2.1, .int .i64 q.2.1.op, .int .i64 q.2.1.at_, .int .i64 q.2.1.n, .string q.2.1.s, q.2.2.2]
def prows (st : List Pr) : List Value := st.flatMap Pr.cells
theorem prows_append (a b : List Pr) : prows (a ++ b) = prows a ++ prows b := by simp [prows]
theorem prows_length (st : List Pr) : (prows st).length = st.length * 10 := by
  induction st with
  | nil => rfl
  | cons t r ih => simp only [prows, List.flatMap_cons, List.length_append, List.length_cons] at ih ⊢; rw [ih]; simp [Pr.cells]; omega

def allSame (st : List Pr) : Bool := st.all fun q => sameD q.1 q.2.1
def total (st : List Pr) : Nat := (st.map fun q => q.1.count).sum

theorem total_append (a b : List Pr) : total (a ++ b) = total a + total b := by simp [total]
theorem total_len (st : List Pr) : st.length ≤ total st := by
  induction st with
  | nil => simp
  | cons q r ih =>
    simp only [total, List.map_cons, List.sum_cons, List.length_cons] at ih ⊢
    have : 1 ≤ q.1.count := by rw [D.count_eq]; omega
    omega

/-- The first k pairs of kids. -/
def pushed (x y : D) (U V : Nat → Value) (k : Nat) : List Pr := (List.range k).map fun i => (x.kid i, y.kid i, U i, V i)
theorem pushed_succ (x y : D) (U V : Nat → Value) (k : Nat) : pushed x y U V (k + 1) = pushed x y U V k ++ [(x.kid k, y.kid k, U k, V k)] := by simp [pushed, List.range_succ]
theorem pushed_len (x y : D) (U V : Nat → Value) (k : Nat) : (pushed x y U V k).length = k := by simp [pushed]
theorem pushed_total (x y : D) (U V : Nat → Value) (k : Nat) : total (pushed x y U V k) = sumTo (fun i => (x.kid i).count) k := by
  induction k with
  | zero => rfl
  | succ k ih => rw [pushed_succ, total_append, ih]; simp [total, sumTo]
theorem pushed_same (x y : D) (U V : Nat → Value) (k : Nat) : allSame (pushed x y U V k) = allTo (fun i => sameD (x.kid i) (y.kid i)) k := by
  induction k with
  | zero => rfl
  | succ k ih => rw [pushed_succ]; simp only [allSame, List.all_append] at ih ⊢; rw [ih]; simp [allTo]

theorem pop_same (r : List Pr) (x y : D) (u v : Value) (U V : Nat → Value) (h : headB x y = true) : allSame (r ++ [(x, y, u, v)]) = allSame (r ++ pushed x y U V x.len) := by
  have h1 := pushed_same x y U V x.len
  simp only [allSame, List.all_append] at h1 ⊢
  rw [h1, ← Bool.true_and (allTo _ _), ← h, ← sameD_eq]
  simp
theorem pop_no (r : List Pr) (x y : D) (u v : Value) (h : headB x y = false) : allSame (r ++ [(x, y, u, v)]) = false := by
  simp only [allSame, List.all_append]
  simp [sameD_eq x y, h]
theorem pop_total (r : List Pr) (x y : D) (u v : Value) (U V : Nat → Value) : total (r ++ pushed x y U V x.len) + 1 = total (r ++ [(x, y, u, v)]) := by
  rw [total_append, total_append, pushed_total]
  simp only [total, List.map_cons, List.map_nil, List.sum_cons, List.sum_nil]
  rw [D.count_eq x]; omega

/-- The pairs lie in w. -/
def PrsIn (w : World) (st : List Pr) : Prop := ∀ q ∈ st, q.1.In w q.2.2.1 ∧ q.2.1.In w q.2.2.2
theorem PrsIn.below {w w' : World} {st : List Pr} (h : PrsIn w st) (hb : Below w.heap.size w w') : PrsIn w' st := fun q hq => ⟨(h q hq).1.below hb, (h q hq).2.below hb⟩
end Go.Proofs.YtafpbcdgcgffeabGreatDoor

/- Plain facts on data that are right: of a list all of it, and by a count of what may still come. No conditions. -/
namespace Go.Proofs.YtafpbcdgcgffeabGreatDoor
open Go.ChangeShapes Go.WideShapes Go.ChangeAt Go.RowKit

/-- What is told of a datum but for its kids, by its tests. -/
def fB (a op : Int) (wb sb e n0 l0 : Bool) : Bool :=
  decide (0 ≤ a) && (if op = 1 then wb && (e && l0) else if op = 2 then sb && (n0 && l0) else if op = 3 then n0 && e else false)

def fieldsB (t : D) : Bool := fB t.at_ t.op (decide (-1073741824 ≤ t.n ∧ t.n ≤ 1073741823)) (symB t.s.data.toList) (t.s.toList == []) (t.n == 0) ((t.len : Int) == 0)

def rightB : D → Bool
  | .no => fieldsB .no
  | .mk op a n s len kid => allTo (fun i => rightB (kid i)) len && fieldsB (.mk op a n s len kid)
theorem rightB_eq (t : D) : rightB t = (allTo (fun i => rightB (t.kid i)) t.len && fieldsB t) := by
  cases t with
  | no => simp [rightB, D.len, allTo]
  | mk op a n s len kid => rfl

def maxTo (f : Nat → Nat) : Nat → Nat
  | 0 => 0
  | k + 1 => max (maxTo f k) (f k)
theorem maxTo_le {f : Nat → Nat} {k m : Nat} : maxTo f k ≤ m ↔ ∀ i, i < k → f i ≤ m := by
  induction k with
  | zero => simp [maxTo]
  | succ k ih =>
    simp only [maxTo, Nat.max_le, ih]
    constructor
    · rintro ⟨h1, h2⟩ i hi
      rcases Nat.lt_or_ge i k with h | h
      · exact h1 i h
      · obtain rfl : i = k := by omega
        exact h2
    · intro h
      exact ⟨fun i hi => h i (by omega), h k (by omega)⟩

def D.deep : D → Nat
  | .no => 1
  | .mk _ _ _ _ len kid => maxTo (fun i => (kid i).deep) len + 1
theorem D.deep_eq (t : D) : t.deep = maxTo (fun i => (t.kid i).deep) t.len + 1 := by cases t <;> rfl
theorem D.deep_count (t : D) : t.deep ≤ t.count := by
  induction t with
  | no => simp [deep, count]
  | mk op a n s len kid ih =>
    unfold deep count
    have : maxTo (fun i => (kid i).deep) len ≤ sumTo (fun i => (kid i).count) len := by
      rw [maxTo_le]
      intro i hi
      have := sumTo_at (fun i => (kid i).count) i len hi
      have := ih i
      omega
    omega

/-- All of a list is right. -/
def datsB (len : Nat) (kid : Nat → D) : Bool :=
  allTo (fun i => decide ((kid i).deep ≤ 20) && rightB (kid i)) len && decide (sumTo (fun i => (kid i).count) len ≤ 1500)

/-- One after the other: what is left behind the first k. -/
def foldTo (g : D → Nat → Option Nat) (kid : Nat → D) (left : Nat) : Nat → Option Nat
  | 0 => some left
  | k + 1 => (foldTo g kid left k).bind (g (kid k))

theorem fold_none {g : D → Nat → Option Nat} {kid : Nat → D} {left k n : Nat} (h : foldTo g kid left k = none) (hk : k ≤ n) : foldTo g kid left n = none := by
  induction n with
  | zero => obtain rfl : k = 0 := by omega
            exact h
  | succ n ih =>
    rcases Nat.lt_or_ge n k with h1 | h1
    · obtain rfl : k = n + 1 := by omega
      exact h
    · simp [foldTo, ih h1]

/-- How many may come behind a list, if it is right and no deeper than nest. -/
def look : Nat → Nat → Nat → (Nat → D) → Option Nat
  | 0, left, len, _ => if len = 0 then some left else none
  | nest + 1, left, len, kid => if left < len then none else foldTo (fun d l => if fieldsB d = true then look nest l d.len d.kid else none) kid (left - len) len

theorem look_eq (nest : Nat) : ∀ left len kid, look nest left len kid = if (∀ i, i < len → rightB (kid i) = true ∧ (kid i).deep ≤ nest) ∧ sumTo (fun i => (kid i).count) len ≤ left then some (left - sumTo (fun i => (kid i).count) len) else none := by
  induction nest with
  | zero =>
    intro left len kid
    unfold look
    by_cases h : len = 0
    · subst h; simp [sumTo]
    · rw [if_neg h, if_neg]
      rintro ⟨h1, _⟩
      have := (h1 0 (by omega)).2
      rw [D.deep_eq] at this
      omega
  | succ nest ih =>
    intro left len kid
    have hone : ∀ d l, (if fieldsB d = true then look nest l d.len d.kid else none) = if (rightB d = true ∧ d.deep ≤ nest + 1) ∧ d.count - 1 ≤ l then some (l - (d.count - 1)) else none := by
      intro d l
      rw [ih, D.count_eq d, D.deep_eq d, rightB_eq d]
      have e : 1 + sumTo (fun i => (d.kid i).count) d.len - 1 = sumTo (fun i => (d.kid i).count) d.len := by omega
      rw [e]
      have hd : maxTo (fun i => (d.kid i).deep) d.len + 1 ≤ nest + 1 ↔ ∀ i, i < d.len → (d.kid i).deep ≤ nest := by
        rw [← maxTo_le (f := fun i => (d.kid i).deep)]; omega
      by_cases hf : fieldsB d = true
      · rw [if_pos hf]
        by_cases hc : (∀ i, i < d.len → rightB (d.kid i) = true ∧ (d.kid i).deep ≤ nest) ∧ sumTo (fun i => (d.kid i).count) d.len ≤ l
        · rw [if_pos hc, if_pos]
          refine ⟨⟨?_, hd.2 fun i hi => (hc.1 i hi).2⟩, hc.2⟩
          rw [Bool.and_eq_true, allTo_true]
          exact ⟨fun i hi => (hc.1 i hi).1, hf⟩
        · rw [if_neg hc, if_neg]
          rintro ⟨⟨h1, h3⟩, h2⟩
          rw [Bool.and_eq_true, allTo_true] at h1
          exact hc ⟨fun i hi => ⟨h1.1 i hi, hd.1 h3 i hi⟩, h2⟩
      · rw [if_neg hf, if_neg]
        rintro ⟨⟨h1, _⟩, _⟩
        rw [Bool.and_eq_true] at h1
        exact hf h1.2
    have hpos : ∀ d : D, 1 ≤ d.count := fun d => by rw [D.count_eq]; omega
    have hfold : ∀ l k, foldTo (fun d l => if fieldsB d = true then look nest l d.len d.kid else none) kid l k = if (∀ i, i < k → rightB (kid i) = true ∧ (kid i).deep ≤ nest + 1) ∧ sumTo (fun i => (kid i).count) k ≤ l + k then some (l + k - sumTo (fun i => (kid i).count) k) else none := by
      intro l k
      induction k with
      | zero => simp [foldTo, sumTo]
      | succ k ihk =>
        unfold foldTo
        rw [ihk]
        have hp := hpos (kid k)
        by_cases h1 : (∀ i, i < k → rightB (kid i) = true ∧ (kid i).deep ≤ nest + 1) ∧ sumTo (fun i => (kid i).count) k ≤ l + k
        · rw [if_pos h1, Option.bind_some, hone]
          have h2 := h1.2
          by_cases h3 : (rightB (kid k) = true ∧ (kid k).deep ≤ nest + 1) ∧ (kid k).count - 1 ≤ l + k - sumTo (fun i => (kid i).count) k
          · rw [if_pos h3, if_pos]
            · simp only [sumTo]; congr 1; have := h3.2; omega
            · refine ⟨fun i hi => ?_, ?_⟩
              · rcases Nat.lt_or_ge i k with h | h
                · exact h1.1 i h
                · obtain rfl : i = k := by omega
                  exact h3.1
              · simp only [sumTo]; have := h3.2; omega
          · rw [if_neg h3, if_neg]
            rintro ⟨h4, h5⟩
            apply h3
            refine ⟨h4 k (by omega), ?_⟩
            simp only [sumTo] at h5; omega
        · rw [if_neg h1, if_neg]
          · rfl
          · rintro ⟨h4, h5⟩
            apply h1
            refine ⟨fun i hi => h4 i (by omega), ?_⟩
            simp only [sumTo] at h5; omega
    unfold look
    have hlen : len ≤ sumTo (fun i => (kid i).count) len := by
      clear hfold hone
      induction len with
      | zero => simp
      | succ k ihk => simp only [sumTo]; have := hpos (kid k); omega
    by_cases hl : left < len
    · rw [if_pos hl, if_neg]
      rintro ⟨_, h⟩; omega
    · rw [if_neg hl, hfold, show left - len + len = left from by omega]

theorem look_datsB (len : Nat) (kid : Nat → D) : datsB len kid = (look 20 1500 len kid).isSome := by
  rw [look_eq]
  unfold datsB
  by_cases h : (∀ i, i < len → rightB (kid i) = true ∧ (kid i).deep ≤ 20) ∧ sumTo (fun i => (kid i).count) len ≤ 1500
  · rw [if_pos h, Option.isSome_some, Bool.and_eq_true, allTo_true]
    exact ⟨fun i hi => by rw [Bool.and_eq_true]; exact ⟨decide_eq_true (h.1 i hi).2, (h.1 i hi).1⟩, decide_eq_true h.2⟩
  · rw [if_neg h, Option.isSome_none, Bool.eq_false_iff, Ne, Bool.and_eq_true, allTo_true]
    rintro ⟨h1, h2⟩
    apply h
    refine ⟨fun i hi => ?_, of_decide_eq_true h2⟩
    have := h1 i hi
    rw [Bool.and_eq_true] at this
    exact ⟨this.2, of_decide_eq_true this.1⟩
end Go.Proofs.YtafpbcdgcgffeabGreatDoor

/- Plain facts on what is read: how much it is. No conditions. -/
namespace Go.Proofs.YtafpbcdgcgffeabGreatDoor
open Go.ChangeShapes Go.WideShapes Go.ChangeAt Go.RowKit

def TokW (l : List Tok) : Prop := ∀ t ∈ l, t.kind = 4 → t.text.size ≤ 12
def wsum (ds : List D) : Nat := (ds.map fun d => d.weight + 1).sum
theorem wsum_snoc (ds : List D) (d : D) : wsum (ds ++ [d]) = wsum ds + (d.weight + 1) := by simp [wsum]
def Wt (o : List Tok → Rdr D) : Prop := ∀ l d r, TokW l → o l = .ok d r → d.weight + 1 + 13 * r.length ≤ 13 * l.length

theorem TokW.suffix {a r : List Tok} (h : TokW (a ++ r)) : TokW r := fun t ht => h t (List.mem_append_right _ ht)

theorem kidsL_w {E : Int} {o : List Tok → Rdr D} (ho : Wt o) (hl : Less o) : ∀ (m : Nat) (acc : List D) (l : List Tok) (ds : List D) (r : List Tok), TokW l → kidsL E o m acc l = .ok ds r → wsum ds + 13 * r.length + 13 ≤ wsum acc + 13 * l.length := by
  intro m
  induction m with
  | zero => intro acc l ds r _ h; simp [kidsL] at h
  | succ m ih =>
    intro acc l ds r hw h
    cases l with
    | nil => simp [kidsL] at h
    | cons t l =>
      unfold kidsL at h
      split at h
      · injection h with h1 h2
        subst h1 h2
        simp; omega
      · cases e : o (t :: l) with
        | bad p => rw [e] at h; simp at h
        | ok d r1 =>
          rw [e] at h
          have h1 := ho _ _ _ hw e
          obtain ⟨_, a, ha⟩ := hl _ _ _ e
          have h2 := ih _ _ _ _ (by rw [ha] at hw; exact hw.suffix) h
          rw [wsum_snoc] at h2
          omega

theorem wsum_eq (ds : List D) : ds.length + (ds.map D.weight).sum = wsum ds := by
  unfold wsum
  induction ds with
  | nil => rfl
  | cons d ds ih => simp only [List.map_cons, List.sum_cons, List.length_cons] at ih ⊢; omega

theorem dlist_weight (t : Tok) (ds : List D) : (dList t ds).weight = wsum ds := by
  have e : (dList t ds).weight = 0 + (ds.length + sumTo (fun i => (kidsOf ds i).weight) ds.length) := rfl
  rw [e, sumTo_all ds D.weight, Nat.zero_add, wsum_eq]

theorem one_w (E : Int) : ∀ f, Wt (one E f) := by
  intro f
  induction f with
  | zero => intro l d r _ h; simp [one] at h
  | succ f ih =>
    intro l d r hw h
    cases l with
    | nil => simp [one] at h
    | cons t l =>
      have ht := hw t (by simp)
      unfold one at h
      split at h
      · injection h with h1 h2; subst h1 h2
        have : (dNum t).weight = 0 := rfl
        simp; omega
      · split at h
        · rename_i hk
          injection h with h1 h2; subst h1 h2
          have e : (dSym t).weight = t.text.size + 0 := rfl
          have := ht hk
          simp; omega
        · split at h
          · simp at h
          · cases e : kidsL E (one E f) (l.length + 1) [] l with
            | bad p => rw [e] at h; simp at h
            | ok ds r1 =>
              rw [e] at h
              simp only at h
              injection h with h1 h2
              subst h1 h2
              have h3 := kidsL_w ih (one_less E f) _ _ _ _ _ (fun t' ht' => hw t' (by simp [ht'])) e
              rw [dlist_weight]
              simp [wsum] at h3 ⊢
              omega

theorem restL_w {o : List Tok → Rdr D} (ho : Wt o) (hl : Less o) : ∀ (m : Nat) (acc : List D) (l : List Tok) (ds : List D) (r : List Tok), TokW l → restL o m acc l = .ok ds r → wsum ds ≤ wsum acc + 13 * l.length := by
  intro m
  induction m with
  | zero => intro acc l ds r _ h; simp [restL] at h; rw [h.1]; omega
  | succ m ih =>
    intro acc l ds r hw h
    cases l with
    | nil => simp [restL] at h; rw [h.1]; omega
    | cons t l =>
      unfold restL at h
      cases e : o (t :: l) with
      | bad p => rw [e] at h; simp at h
      | ok d r1 =>
        rw [e] at h
        have h1 := ho _ _ _ hw e
        obtain ⟨_, a, ha⟩ := hl _ _ _ e
        have h2 := ih _ _ _ _ (by rw [ha] at hw; exact hw.suffix) h
        rw [wsum_snoc] at h2
        omega

theorem kids_weight (ds : List D) : kidsWeight ds.length (kidsOf ds) = wsum ds := by
  unfold kidsWeight
  rw [sumTo_all ds D.weight, wsum_eq]

theorem readL_w (E : Int) (ts : List Tok) (ds : List D) (r : List Tok) (hw : TokW ts) (hl : ts.length ≤ 4000) (h : readL E ts = .ok ds r) : kidsWeight ds.length (kidsOf ds) ≤ 52000 := by
  rw [kids_weight]
  have := restL_w (one_w E (ts.length + 1)) (one_less E (ts.length + 1)) _ _ _ _ _ hw h
  simp [wsum] at this ⊢
  omega

theorem toks_w (s : ByteArray) : TokW (toks s).1 := by
  intro t ht hk
  obtain ⟨i, hi, rfl⟩ := List.mem_iff_getElem.1 ht
  have := ((toks_good s).1 i _ (List.getElem?_eq_getElem hi)).2.sym hk
  unfold symB at this
  simp only [Bool.and_eq_true, decide_eq_true_eq] at this
  have h2 := this.1.1.2
  simpa using h2

/-- What ReadAll answers. -/
def readP (s : ByteArray) : Rdr (List D) :=
  if (toks s).2 = -1 then match readL s.size (toks s).1 with
    | .bad p => .bad p
    | .ok ds _ => if datsB ds.length (kidsOf ds) = true then .ok ds [] else .bad 0
  else .bad (toks s).2
end Go.Proofs.YtafpbcdgcgffeabGreatDoor

/- WordOk of both packages at every int: the same answers, the world as it was. No conditions. -/
namespace Go.Proofs.YtafpbcdgcgffeabGreatDoor
open Go.ChangeShapes Go.WideShapes Go.ChangeAt Go.RowKit

def wokB (n : Int) : Bool := decide (-1073741824 ≤ n ∧ n ≤ 1073741823)

theorem wokB_yes {n : Int} (h0 : -1073741824 ≤ n) (h1 : n ≤ 1073741823) : wokB n = true := by simp [wokB, h0, h1]
theorem wokB_lo {n : Int} (h : ¬ -1073741824 ≤ n) : wokB n = false := by unfold wokB; rw [decide_eq_false_iff_not]; omega
theorem wokB_hi {n : Int} (h : ¬ n ≤ 1073741823) : wokB n = false := by unfold wokB; rw [decide_eq_false_iff_not]; omega
theorem ret_int {k : IntKind} {a b : Int} (h : a = b) : Ending.returned (.int k a) = .returned (.int k b) := by rw [h]
theorem ret_bool {a b : Bool} (h : a = b) : Ending.returned (.bool a) = .returned (.bool b) := by rw [h]

theorem spec_wordOk (n : Int) (w : World) : Calls Tryz.prog 51 #[.int .i64 n] w fun e w' => e = .returned (.bool (wokB n)) ∧ w' = w := by
  by_cases c1 : -1073741824 ≤ n
  · by_cases c2 : n ≤ 1073741823
    · have H : Hid (wokB n = true) := wokB_yes c1 c2
      go_enter Tryz.func51, Tryz.ntmps51
      go_wp2
      go_ret
      exact ⟨ret_bool (by rw [H.out]), rfl⟩
    · have H : Hid (wokB n = false) := wokB_hi c2
      go_enter Tryz.func51, Tryz.ntmps51
      go_wp2
      go_ret
      exact ⟨ret_bool (by rw [H.out]), rfl⟩
  · have H : Hid (wokB n = false) := wokB_lo c1
    go_enter Tryz.func51, Tryz.ntmps51
    go_wp2
    go_ret
    exact ⟨ret_bool (by rw [H.out]), rfl⟩

theorem impl_wordOk (n : Int) (w : World) : Calls Tryz.prog 48 #[.int .i64 n] w fun e w' => e = .returned (.bool (wokB n)) ∧ w' = w := by
  by_cases c1 : -1073741824 ≤ n
  · by_cases c2 : n ≤ 1073741823
    · have H : Hid (wokB n = true) := wokB_yes c1 c2
      go_enter Tryz.func48, Tryz.ntmps48
      go_wp2
      go_ret
      exact ⟨ret_bool (by rw [H.out]), rfl⟩
    · have H : Hid (wokB n = false) := wokB_hi c2
      go_enter Tryz.func48, Tryz.ntmps48
      go_wp2
      go_ret
      exact ⟨ret_bool (by rw [H.out]), rfl⟩
  · have H : Hid (wokB n = false) := wokB_lo c1
    go_enter Tryz.func48, Tryz.ntmps48
    go_wp2
    go_ret
    exact ⟨ret_bool (by rw [H.out]), rfl⟩

end Go.Proofs.YtafpbcdgcgffeabGreatDoor

/- impl.datKids. No conditions. -/
namespace Go.Proofs.YtafpbcdgcgffeabGreatDoor
open Go.ChangeShapes Go.WideShapes Go.ChangeAt Go.RowKit

set_option maxRecDepth 100000 in
theorem dat_kids (op a n : Int) (s : ByteArray) (v : Value) (w : World) :
    Calls Tryz.prog 29 #[.agg #[.int .i64 op, .int .i64 a, .int .i64 n, .string s, v]] w fun e w' => e = .returned v ∧ Below w.heap.size w w' := by
  go_enter Tryz.func29, Tryz.ntmps29
  go_wp2_with fail
  go_ret
  exact ⟨rfl, newb _ _⟩
end Go.Proofs.YtafpbcdgcgffeabGreatDoor

/- Blocks of five cells. No conditions. -/
namespace Go.Proofs.YtafpbcdgcgffeabGreatDoor
open Go.ChangeShapes Go.WideShapes Go.ChangeAt Go.RowKit

def Five (w : World) (g : Nat) (a b c : Int) (s : ByteArray) (v : Value) (ty : TypeId) : Prop := w.heap[g]? = some (.cells #[.int .i64 a, .int .i64 b, .int .i64 c, .string s, v] ty (0, 0))
theorem Five.lt {w : World} {g : Nat} {a b c : Int} {s : ByteArray} {v : Value} {ty : TypeId} (h : Five w g a b c s v ty) : g < w.heap.size := (Array.getElem?_eq_some_iff.1 h).1
theorem Five.below {w w' : World} {g : Nat} {a b c : Int} {s : ByteArray} {v : Value} {ty : TypeId} (h : Five w g a b c s v ty) (hb : Below w.heap.size w w') : Five w' g a b c s v ty := (hb.block _ h.lt).trans h
theorem Five.cells {w : World} {g : Nat} {a b c : Int} {s : ByteArray} {v : Value} {ty : TypeId} (h : Five w g a b c s v ty) :
    w.cell? ⟨g, 0, none⟩ = some (.int .i64 a) ∧ w.cell? ⟨g, 1, none⟩ = some (.int .i64 b) ∧ w.cell? ⟨g, 2, none⟩ = some (.int .i64 c) ∧ w.cell? ⟨g, 3, none⟩ = some (.string s) ∧ w.cell? ⟨g, 4, none⟩ = some v :=
  ⟨cell_of_row w g 0 _ _ _ h, cell_of_row w g 1 _ _ _ h, cell_of_row w g 2 _ _ _ h, cell_of_row w g 3 _ _ _ h, cell_of_row w g 4 _ _ _ h⟩
theorem Five.fr {w : World} {g : Nat} {a b c : Int} {s : ByteArray} {v : Value} {ty : TypeId} (h : Five w g a b c s v ty) (j : Nat) : w.frozen? ⟨g, j, none⟩ = false := frozen_of_row w g j _ _ h
end Go.Proofs.YtafpbcdgcgffeabGreatDoor

/- A tree that is being made: rows that are still to be filled, and what is owned once they are. No conditions. -/
namespace Go.Proofs.YtafpbcdgcgffeabGreatDoor
open Go.ChangeShapes Go.WideShapes Go.ChangeAt Go.RowKit

/-- A row that is to hold these. -/
structure Ent (T : Type) where
  len : Nat
  kid : Nat → T
  v : Value

/-- How rows of a kind are owned. -/
abbrev RowQ (T : Type) : Type := World → Nat → (Nat → T) → Value → List Nat → Prop

def Filled {T : Type} (Q : RowQ T) (w : World) : List (Ent T) → List (List Nat) → Prop
  | [], [] => True
  | e :: es, S :: SS => Q w e.len e.kid e.v S ∧ Filled Q w es SS
  | _, _ => False

theorem Filled.append {T : Type} {Q : RowQ T} {w : World} {a b : List (Ent T)} {A B : List (List Nat)} (h1 : Filled Q w a A) (h2 : Filled Q w b B) : Filled Q w (a ++ b) (A ++ B) := by
  induction a generalizing A with
  | nil => cases A with
    | nil => exact h2
    | cons x xs => exact h1.elim
  | cons e es ih => cases A with
    | nil => exact h1.elim
    | cons x xs => exact ⟨h1.1, ih h1.2⟩
theorem Filled.parts {T : Type} {Q : RowQ T} {w : World} {a b : List (Ent T)} {SS : List (List Nat)} (h : Filled Q w (a ++ b) SS) : ∃ A B, SS = A ++ B ∧ Filled Q w a A ∧ Filled Q w b B := by
  induction a generalizing SS with
  | nil => exact ⟨[], SS, rfl, trivial, h⟩
  | cons e es ih => cases SS with
    | nil => exact h.elim
    | cons x xs =>
      obtain ⟨A, B, rfl, h1, h2⟩ := ih h.2
      exact ⟨x :: A, B, rfl, ⟨h.1, h1⟩, h2⟩

/-- Once the rows es are filled, and the blocks R as they are, P holds; its blocks are R and theirs. -/
def Wand {T : Type} (Q : RowQ T) (w : World) (R : List Nat) (es : List (Ent T)) (P : World → List Nat → Prop) : Prop :=
  ∀ (w' : World) (SS : List (List Nat)), (∀ x ∈ R, w'.heap[x]? = w.heap[x]?) → Filled Q w' es SS → ∃ S, P w' S ∧ S.Perm (R ++ SS.flatten)

theorem Wand.same {T : Type} {Q : RowQ T} {w w1 : World} {R : List Nat} {es : List (Ent T)} {P : World → List Nat → Prop} (h : Wand Q w R es P) (hs : ∀ x ∈ R, w1.heap[x]? = w.heap[x]?) : Wand Q w1 R es P :=
  fun w' SS h1 h2 => h w' SS (fun x hx => (h1 x hx).trans (hs x hx)) h2

theorem Wand.start {T : Type} (Q : RowQ T) (w : World) (e : Ent T) : Wand Q w [] [e] (fun w' S => Q w' e.len e.kid e.v S) := by
  intro w' SS _ h2
  cases SS with
  | nil => exact h2.elim
  | cons x xs => cases xs with
    | nil => exact ⟨x, h2.1, by simp⟩
    | cons y ys => exact h2.2.elim
theorem Wand.done {T : Type} {Q : RowQ T} {w : World} {R : List Nat} {P : World → List Nat → Prop} (h : Wand Q w R [] P) : ∃ S, P w S ∧ S.Perm R := by
  obtain ⟨S, h1, h2⟩ := h w [] (fun _ _ => rfl) trivial
  exact ⟨S, h1, by simpa using h2⟩

/-- One row is filled: its own rows are to be filled now. -/
theorem Wand.next {T : Type} {Q : RowQ T} {w : World} {R Ri : List Nat} {es en : List (Ent T)} {e : Ent T} {g : Nat} {P Pi : World → List Nat → Prop} (h : Wand Q w R (es ++ [e]) P) (hi : Wand Q w Ri en Pi)
    (hQ : ∀ w' S, w'.heap[g]? = w.heap[g]? → Pi w' S → Q w' e.len e.kid e.v (g :: S)) : Wand Q w (R ++ g :: Ri) (es ++ en) P := by
  intro w' SS h1 h2
  obtain ⟨A, B, rfl, hA, hB⟩ := h2.parts
  obtain ⟨Si, hPi, hSi⟩ := hi w' B (fun x hx => h1 x (by simp [hx])) hB
  obtain ⟨S, hP, hS⟩ := h w' (A ++ [g :: Si]) (fun x hx => h1 x (by simp [hx])) (hA.append (b := [e]) (B := [g :: Si]) ⟨hQ w' Si (h1 g (by simp)) hPi, trivial⟩)
  refine ⟨S, hP, hS.trans ?_⟩
  rw [List.perm_iff_count] at hSi ⊢
  intro x
  have := hSi x
  simp only [List.flatten_append, List.flatten_cons, List.flatten_nil, List.append_nil, List.count_append, List.count_cons] at this ⊢
  omega

/-- A node more, its own blocks Rn. -/
theorem Wand.more {T : Type} {Q : RowQ T} {w : World} {R Rn : List Nat} {es en : List (Ent T)} {P P' : World → List Nat → Prop} (h : Wand Q w R es P) (hn : ∀ w' S SS, (∀ x ∈ Rn, w'.heap[x]? = w.heap[x]?) → P w' S → Filled Q w' en SS → P' w' (S ++ (Rn ++ SS.flatten))) : Wand Q w (R ++ Rn) (es ++ en) P' := by
  intro w' SS h1 h2
  obtain ⟨A, B, rfl, hA, hB⟩ := h2.parts
  obtain ⟨S, hP, hS⟩ := h w' A (fun x hx => h1 x (by simp [hx])) hA
  refine ⟨_, hn w' S B (fun x hx => h1 x (by simp [hx])) hP hB, ?_⟩
  rw [List.perm_iff_count] at hS ⊢
  intro x
  have := hS x
  simp only [List.flatten_append, List.count_append] at this ⊢
  omega
end Go.Proofs.YtafpbcdgcgffeabGreatDoor

/- Rows that are left to be filled, as a list of work; what a step leaves alone. No conditions. -/
namespace Go.Proofs.YtafpbcdgcgffeabGreatDoor
open Go.ChangeShapes Go.WideShapes Go.ChangeAt Go.RowKit

/-- A row that is left: what it is made of, where that lies, and the row's block. -/
structure Job (A : Type) where
  len : Nat
  kid : Nat → A
  fv : Value
  g : Nat

def Job.tv {A : Type} (e : Job A) : Value := .slice (some ⟨e.g, 0, none⟩) e.len e.len
def Job.cells {A : Type} (e : Job A) : List Value := [e.fv, e.tv]
def Job.ent {A T : Type} (f : A → T) (e : Job A) : Ent T := ⟨e.len, fun i => f (e.kid i), e.tv⟩
def jrows {A : Type} (st : List (Job A)) : List Value := st.flatMap Job.cells
theorem jrows_append {A : Type} (a b : List (Job A)) : jrows (a ++ b) = jrows a ++ jrows b := by simp [jrows]
theorem jrows_length {A : Type} (st : List (Job A)) : (jrows st).length = st.length * 2 := by
  induction st with
  | nil => rfl
  | cons t r ih => simp only [jrows, List.flatMap_cons, List.length_append, List.length_cons] at ih ⊢; rw [ih]; simp [Job.cells]; omega

/-- The sum of the first k. -/
def sumJ (f : Nat → Nat) : Nat → Nat
  | 0 => 0
  | k + 1 => sumJ f k + f k
def Job.total {A : Type} (count : A → Nat) (e : Job A) : Nat := sumJ (fun i => count (e.kid i)) e.len
def totalJ {A : Type} (count : A → Nat) (st : List (Job A)) : Nat := (st.map (Job.total count)).sum
theorem totalJ_append {A : Type} (count : A → Nat) (a b : List (Job A)) : totalJ count (a ++ b) = totalJ count a + totalJ count b := by simp [totalJ]
theorem totalJ_one {A : Type} (count : A → Nat) (e : Job A) : totalJ count [e] = e.total count := by simp [totalJ]
theorem sumJ_len (f : Nat → Nat) (hf : ∀ i, 1 ≤ f i) (k : Nat) : k ≤ sumJ f k := by
  induction k with
  | zero => exact Nat.le_refl _
  | succ k ih => simp only [sumJ]; have := hf k; omega
theorem sumJ_le (f : Nat → Nat) (j k : Nat) (h : j ≤ k) : sumJ f j ≤ sumJ f k := by
  induction k with
  | zero => simp at h; subst h; exact Nat.le_refl _
  | succ k ih =>
    rcases Nat.lt_or_ge j (k + 1) with h1 | h1
    · have := ih (by omega); simp only [sumJ]; omega
    · have : j = k + 1 := by omega
      subst this; exact Nat.le_refl _
theorem sumJ_at (f : Nat → Nat) (j k : Nat) (h : j < k) : f j ≤ sumJ f k := by
  induction k with
  | zero => omega
  | succ k ih =>
    simp only [sumJ]
    rcases Nat.lt_or_ge j k with h1 | h1
    · have := ih h1; omega
    · obtain rfl : j = k := by omega
      omega
theorem totalJ_len {A : Type} (count : A → Nat) (hc : ∀ a, 1 ≤ count a) (st : List (Job A)) (h : ∀ e ∈ st, 0 < e.len) : st.length ≤ totalJ count st := by
  induction st with
  | nil => simp
  | cons e r ih =>
    have h1 := ih (fun x hx => h x (List.mem_cons_of_mem _ hx))
    have h2 := sumJ_len (fun i => count (e.kid i)) (fun i => hc _) e.len
    have h3 := h e (List.mem_cons_self ..)
    simp only [totalJ, List.map_cons, List.sum_cons, List.length_cons, Job.total] at h1 ⊢
    omega

/-- The blocks C alone have turned. -/
structure Fr (C : List Nat) (w w' : World) : Prop where
  os : w'.os = w.os
  tape : w'.tape = w.tape
  output : w'.output = w.output
  size : w.heap.size ≤ w'.heap.size
  block : ∀ g, g < w.heap.size → g ∉ C → w'.heap[g]? = w.heap[g]?
theorem Fr.refl (C : List Nat) (w : World) : Fr C w w := ⟨rfl, rfl, rfl, Nat.le_refl _, fun _ _ _ => rfl⟩
theorem Fr.trans {C : List Nat} {w w1 w2 : World} (h : Fr C w w1) (h2 : Fr C w1 w2) : Fr C w w2 :=
  ⟨h2.os.trans h.os, h2.tape.trans h.tape, h2.output.trans h.output, Nat.le_trans h.size h2.size, fun g a b => (h2.block g (Nat.lt_of_lt_of_le a h.size) b).trans (h.block g a b)⟩
theorem Fr.below {w w' : World} (h : Below w.heap.size w w') (C : List Nat) : Fr C w w' := ⟨h.os, h.tape, h.output, h.size, fun g a _ => h.block g a⟩
theorem Fr.grown {w w' : World} {r : Option Nat} {C : List Nat} (h : w.grownBy w' r) (hg : ∀ g ∈ r.toList, g ∈ C) : Fr C w w' := ⟨h.os, h.tape, h.output, h.size, fun k a b => h.block k a (fun e => b (hg k (by rw [← e]; simp)))⟩

/-- What is kept of the world, and which blocks may turn. -/
structure Env (Kp : World → Prop) (New : Nat → Prop) : Prop where
  fr : ∀ {C : List Nat} {W W' : World}, Kp W → Fr C W W' → (∀ x ∈ C, New x) → Kp W'
  new : ∀ {W : World} {x : Nat}, Kp W → W.heap.size ≤ x → New x

/-- What was there when a call began, and two blocks of its own. -/
structure Kept (w : World) (R0 TB : Nat) (oR oT : Obj) (W : World) : Prop where
  bel : Below w.heap.size w W
  res : W.heap[R0]? = some oR
  top : W.heap[TB]? = some oT
def NewB (w : World) (R0 TB : Nat) (x : Nat) : Prop := w.heap.size ≤ x ∧ x ≠ R0 ∧ x ≠ TB
theorem Kept.env (w : World) (R0 TB : Nat) (oR oT : Obj) : Env (Kept w R0 TB oR oT) (NewB w R0 TB) where
  fr := fun {C W W'} h f hC => ⟨⟨f.os.trans h.bel.os, f.tape.trans h.bel.tape, f.output.trans h.bel.output, Nat.le_trans h.bel.size f.size, fun x hx => (f.block x (Nat.lt_of_lt_of_le hx h.bel.size) (fun hc => by have := (hC x hc).1; omega)).trans (h.bel.block x hx)⟩,
    (f.block R0 (Array.getElem?_eq_some_iff.1 h.res).1 (fun hc => (hC _ hc).2.1 rfl)).trans h.res, (f.block TB (Array.getElem?_eq_some_iff.1 h.top).1 (fun hc => (hC _ hc).2.2 rfl)).trans h.top⟩
  new := fun {W x} h hx => ⟨Nat.le_trans h.bel.size hx, fun e => by have := (Array.getElem?_eq_some_iff.1 h.res).1; omega, fun e => by have := (Array.getElem?_eq_some_iff.1 h.top).1; omega⟩

theorem own_sameJ {w w' : World} {base e size n : Nat} {v : Value} {xs : List Value} (h : w.ownsRow base e size v n xs) (hb : ∀ g, v.ownBlock = some g → w'.heap[g]? = w.heap[g]?) : w'.ownsRow base e size v n xs := by
  refine ⟨h.1, ?_⟩
  rcases h.2 with hn | ⟨g, cap, cur, rfl, hbg, hgg, rest⟩
  · exact .inl hn
  · exact .inr ⟨g, cap, cur, rfl, hbg, (hb g rfl).trans hgg, rest⟩
theorem own_sameG {w w' : World} {base e size n g m cap : Nat} {xs : List Value} (h : w.ownsRow base e size (.slice (some ⟨g, 0, none⟩) m cap) n xs) (hb : w'.heap[g]? = w.heap[g]?) : w'.ownsRow base e size (.slice (some ⟨g, 0, none⟩) m cap) n xs :=
  own_sameJ h (fun x hx => by simp only [Value.ownBlock, Option.some.injEq] at hx; subst hx; exact hb)
theorem left_cells {A : Type} {W : World} {tL : TypeId} {gL cap : Nat} {r : List (Job A)} {e : Job A} (h : W.ownsRow 0 tL 2 (.slice (some ⟨gL, 0, none⟩) (r ++ [e]).length cap) (r ++ [e]).length (jrows (r ++ [e]))) :
    W.cell? ⟨gL, r.length * 2, none⟩ = some e.fv ∧ W.cell? ⟨gL, r.length * 2 + 1, none⟩ = some e.tv := by
  have hc : ∀ j, j < 2 → W.cell? ⟨gL, r.length * 2 + j, none⟩ = (e.cells)[j]? := by
    intro j hj
    have h1 := h.cellAt (r.length * 2 + j) (by simp; omega)
    rw [h1, jrows_append, List.getElem?_append_right (by rw [jrows_length]; omega), jrows_length]
    simp [jrows]
  exact ⟨hc 0 (by omega), hc 1 (by omega)⟩
end Go.Proofs.YtafpbcdgcgffeabGreatDoor

/- A region that draws its order, whose operations only read and whose callees only make new memory: one walk in the text's order. No conditions of our own. -/
namespace Go.Proofs.YtafpbcdgcgffeabGreatDoor
open Go.ChangeShapes Go.WideShapes Go.ChangeAt Go.RowKit

/-- A world that is W but for new memory. -/
structure Later (W : World) where
  w : World
  le : Below W.heap.size W w

theorem Later.one (W : World) : Nonempty (Later W) := ⟨⟨W, Below.refl _ _⟩⟩

theorem Later.cell {W : World} (x : Later W) {a : Addr} {v : Value} (h : W.cell? a = some v) : x.w.cell? a = some v :=
  (x.le.cell (World.block_lt_of_cell? W _ h)).trans h

theorem calls_later {P : Program} {f : FuncId} {args : Array Value} {W : World} {x : Later W} {v : Value}
    (h : Calls P f args x.w fun e w' => e = .returned v ∧ Below x.w.heap.size x.w w') : Calls P f args x.w fun e w' => e = .returned v ∧ ∃ y : Later W, w' = y.w :=
  h.mono fun _ w' ⟨he, hb⟩ => ⟨he, ⟨w', x.le.trans (hb.mono x.le.size)⟩, rfl⟩

theorem calls_later_same {P : Program} {f : FuncId} {args : Array Value} {W : World} {x : Later W} {v : Value}
    (h : Calls P f args x.w fun e w' => e = .returned v ∧ w' = x.w) : Calls P f args x.w fun e w' => e = .returned v ∧ ∃ y : Later W, w' = y.w :=
  h.mono fun _ _ ⟨he, hb⟩ => ⟨he, x, hb⟩

theorem wp_region_later {P : Program} {id : Nat} {Q : Exit → Act → World → Prop} {a : Act} {w : World} {l : List Oper} (hm : P.follows .mixedOrders = true) (hB : Region.lexB .any l.toArray = true)
    (h : wpQuiet P l.toArray (fun w' => ∃ x : Later w, w' = x.w) (fun a' => ∀ w', (∃ x : Later w, w' = x.w) → Q .normal a' w') l a) : (Code.region id l.toArray true).wp P Q a w :=
  wp_region_quiet (C := fun w' => ∃ x : Later w, w' = x.w) hm hB ⟨⟨{ w with drawn := w.drawn + 1 }, ⟨rfl, rfl, rfl, Nat.le_refl _, fun _ _ => rfl⟩⟩, rfl⟩ (by simpa using h)
end Go.Proofs.YtafpbcdgcgffeabGreatDoor

/- A text of one byte. No conditions. -/
namespace Go.Proofs.YtafpbcdgcgffeabGreatDoor
open Go.ChangeShapes Go.WideShapes Go.ChangeAt Go.RowKit

/-- A text of one byte, made of a slice that was just made. -/
theorem one_byte (W : World) (c : Int) (b : UInt8) (hb : (b.toNat : Int) = c) :
    Sem.run Tryz.prog (convert 22 9 (Value.slice (some ⟨W.heap.size, 0, none⟩) 1 1)) (W.alloc (.cells #[.int .u8 c] 5)) =
      .ok (.string ⟨#[b]⟩) (W.alloc (.cells #[.int .u8 c] 5)) := by
  have := run_convert_bytes_back (P := Tryz.prog) (W.alloc (.cells #[.int .u8 c] 5)) 22 9 5 ⟨W.heap.size, 0, none⟩ 1 [b] Tryz.underlying22 Tryz.underlying5 Tryz.underlying9 (fun j hj => by
    have hj0 : j = 0 := by simp at hj; omega
    subst hj0
    rw [show (⟨W.heap.size, 0, none⟩ : Addr).add 0 = ⟨W.heap.size, 0, none⟩ from rfl, World.cell?_alloc_mark]
    simp [hb])
  simpa using this

theorem digit_byte (k : Nat) : ((48 + UInt8.ofNat (k % 10)).toNat : Int) = 48 + (k : Int) % 10 := by
  have e : UInt8.ofNat (48 + k % 10) = 48 + UInt8.ofNat (k % 10) := by rw [UInt8.ofNat_add]; rfl
  rw [← e, UInt8.toNat_ofNat']; omega
end Go.Proofs.YtafpbcdgcgffeabGreatDoor

/- Plain facts on a word's magnitude: what spec.l2Word asks of the text behind the minus. No conditions. -/
namespace Go.Proofs.YtafpbcdgcgffeabGreatDoor

/-- The magnitude with its sign. -/
def sg (m : Bool) (r : List UInt8) : Int := if m then -(val r : Int) else val r
theorem sg_true (r : List UInt8) : sg true r = -(val r : Int) := rfl
theorem sg_false (r : List UInt8) : sg false r = (val r : Int) := rfl

/-- The word whose magnitude is spelled by r, with a minus (m) or without. -/
def mg (m : Bool) (r : List UInt8) : Option Int :=
  if Lib.decDigits (val r) = r ∧ (m = true → val r ≠ 0) ∧ -1073741824 ≤ sg m r ∧ sg m r ≤ 1073741823 then some (sg m r) else none

theorem mg_yes {m : Bool} {r : List UInt8} {v : Int} (h1 : Lib.decDigits (val r) = r) (h2 : m = true → val r ≠ 0) (h3 : -1073741824 ≤ v) (h4 : v ≤ 1073741823) (h5 : v = sg m r) : mg m r = some v := by
  subst h5
  unfold mg
  rw [if_pos ⟨h1, h2, h3, h4⟩]

theorem mg_some {m : Bool} {r : List UInt8} {v : Int} (h : mg m r = some v) : Lib.decDigits (val r) = r ∧ (m = true → val r ≠ 0) ∧ -1073741824 ≤ v ∧ v ≤ 1073741823 ∧ v = sg m r := by
  unfold mg at h
  split at h
  · rename_i hc
    injection h with h
    obtain ⟨h1, h2, h3, h4⟩ := hc
    rw [h] at h3 h4
    exact ⟨h1, h2, h3, h4, h.symm⟩
  · cases h

theorem mg_small {m : Bool} {r : List UInt8} {v : Int} (h : mg m r = some v) : val r ≤ 1073741824 := by
  obtain ⟨_, _, h3, h4, h5⟩ := mg_some h
  cases m <;> simp only [sg_true, sg_false] at h5 <;> omega

theorem mg_len {m : Bool} {r : List UInt8} (h : r.length < 1 ∨ 10 < r.length) : mg m r = none := by
  cases e : mg m r with
  | none => rfl
  | some v =>
    have hv := mg_small e
    have hd := (mg_some e).1
    have h1 := len_pos_decDigits (val r)
    have h2 := len_decDigits 9 (val r) (by omega)
    rw [hd] at h1 h2
    omega

theorem mg_byte {m : Bool} {r : List UInt8} (c : UInt8) (hc : c ∈ r) (h : ¬ isDig c) : mg m r = none := by
  cases e : mg m r with
  | none => rfl
  | some v =>
    have hd := (mg_some e).1
    rw [← hd] at hc
    exact absurd (dig_decDigits _ c hc) h

theorem mg_other {m : Bool} {r : List UInt8} (h : ¬ Lib.decDigits (val r) = r) : mg m r = none := by
  cases e : mg m r with
  | none => rfl
  | some v => exact absurd (mg_some e).1 h

theorem mg_zero {r : List UInt8} (h : val r = 0) : mg true r = none := by
  cases e : mg true r with
  | none => rfl
  | some v => exact absurd h ((mg_some e).2.1 rfl)

theorem mg_range {m : Bool} {r : List UInt8} (h : ¬ (-1073741824 ≤ sg m r ∧ sg m r ≤ 1073741823)) : mg m r = none := by
  cases e : mg m r with
  | none => rfl
  | some v =>
    obtain ⟨_, _, h3, h4, h5⟩ := mg_some e
    subst h5
    exact absurd ⟨h3, h4⟩ h

theorem wordV_minus {l : List UInt8} (h : l.head? = some 45) : wordV l = mg true l.tail := by
  have hl : l = 45 :: l.tail := by
    cases l with
    | nil => simp at h
    | cons c r => simp at h; subst h; rfl
  cases e : mg true l.tail with
  | some v =>
    obtain ⟨h1, h2, h3, h4, h5⟩ := mg_some e
    have h2 := h2 rfl
    rw [sg_true] at h5
    refine wordV_of h3 h4 ?_
    rw [itoa_neg v (by omega)]
    have e3 : v.natAbs = val l.tail := by omega
    rw [e3, h1]
    exact hl.symm
  | none =>
    refine wordV_none fun v h0 h1 h2 => ?_
    by_cases hv : v < 0
    · rw [itoa_neg v hv] at h2
      have h3 : l.tail = Lib.decDigits v.natAbs := by rw [← h2]; rfl
      have h4 : val l.tail = v.natAbs := by rw [h3, val_decDigits]
      have := mg_yes (m := true) (r := l.tail) (v := v) (by rw [h4, h3]) (fun _ => by omega) h0 h1 (by rw [sg_true]; omega)
      rw [e] at this
      cases this
    · rw [itoa_val v (by omega)] at h2
      rw [← h2] at h
      exact head_decDigits _ h

theorem wordV_plus {l : List UInt8} (h : l.head? ≠ some 45) : wordV l = mg false l := by
  cases e : mg false l with
  | some v =>
    obtain ⟨h1, _, h3, h4, h5⟩ := mg_some e
    rw [sg_false] at h5
    refine wordV_of h3 h4 ?_
    rw [itoa_val v (by omega)]
    have e3 : v.toNat = val l := by omega
    rw [e3, h1]
  | none =>
    refine wordV_none fun v h0 h1 h2 => ?_
    by_cases hv : v < 0
    · rw [itoa_neg v hv] at h2
      rw [← h2] at h
      exact h rfl
    · rw [itoa_val v (by omega)] at h2
      have h4 : val l = v.toNat := by rw [← h2, val_decDigits]
      have := mg_yes (m := false) (r := l) (v := v) (by rw [h4]; exact h2) (by simp) h0 h1 (by rw [sg_false]; omega)
      rw [e] at this
      cases this
end Go.Proofs.YtafpbcdgcgffeabGreatDoor

/- A call of a Go function as one step of a region that draws its order, by its contract. No conditions. -/
namespace Go.Proofs.YtafpbcdgcgffeabGreatDoor

theorem step_call1 {P : Program} {ops : Array Oper} {o : Oper} {a : Act} {w : World} {K : Act → World → Prop} {Q : Exit → Act → World → Prop} {E : Prop} (hgd : o.guard = none) (f : FuncId) (x : Operand) (t : TypeId)
    (ho : o.op = .call { callee := .value (.func f), args := #[x], argTypes := #[t] }) (hcf : ∀ (vs : Array Value) (w : World), (callFunc f vs).run P w = .ok (.enter f vs) w) (vx : Value) (hx : a.eval x = vx) (R : Ending → World → Prop) (hc : Calls P f #[vx] w R)
    (h : ∀ e w', R e w' → ∃ v, e = .returned v ∧ K (a.put o.dst v) w') : if Region.wanted o (yielded ops a.tmps) = true then Oper.wp P o a w K Q else E := by
  have hw : Region.wanted o (yielded ops a.tmps) = true := by simp [Region.wanted, hgd]
  rw [if_pos hw]
  have hrun : (execOp a.eval o).run P w = .ok (.enter f #[vx]) w := by
    have e : execOp a.eval o = callFunc f (#[] ++ #[x].map a.eval ++ #[]) := by
      obtain ⟨dst, op, ty, pos, after, guard⟩ := o
      simp only at ho
      subst ho
      rfl
    rw [e, hcf]
    simp [hx]
  unfold Oper.wp
  rw [hrun, Oper.upon_enter]
  refine hc.mono fun e w' hr => ?_
  obtain ⟨v, rfl, hk⟩ := h e w' hr
  exact hk
end Go.Proofs.YtafpbcdgcgffeabGreatDoor

/- Plain facts on the text of a datum; also by a list of open lists that are told on. No conditions. -/
namespace Go.Proofs.YtafpbcdgcgffeabGreatDoor
open Go.ChangeShapes Go.WideShapes Go.ChangeAt Go.RowKit

/-- A blank parts what is not first. -/
def sep (k : Nat) : List UInt8 := if k = 0 then [] else [32]
def joinTo (f : Nat → List UInt8) : Nat → List UInt8
  | 0 => []
  | k + 1 => joinTo f k ++ (sep k ++ f k)
def joinFrom (f : Nat → List UInt8) : Nat → Nat → List UInt8
  | _, 0 => []
  | k, m + 1 => sep k ++ (f k ++ joinFrom f (k + 1) m)

theorem join_split (f : Nat → List UInt8) (m : Nat) : ∀ k, joinTo f (k + m) = joinTo f k ++ joinFrom f k m := by
  induction m with
  | zero => intro k; simp [joinFrom]
  | succ m ih =>
    intro k
    rw [show k + (m + 1) = (k + 1) + m from by omega, ih (k + 1)]
    simp [joinTo, joinFrom]
theorem join_all (f : Nat → List UInt8) (m : Nat) : joinTo f m = joinFrom f 0 m := by
  have := join_split f m 0
  simpa [joinTo] using this

/-- The text of a datum. -/
def D.text : D → List UInt8
  | .no => [63]
  | .mk op _ n s len kid => if op = 1 then Lib.itoa n else if op = 2 then s.data.toList else if op = 3 then 40 :: (joinTo (fun i => (kid i).text) len ++ [41]) else [63]

theorem D.text_mk (op a n : Int) (s : ByteArray) (len : Nat) (kid : Nat → D) : (D.mk op a n s len kid).text = if op = 1 then Lib.itoa n else if op = 2 then s.data.toList else if op = 3 then 40 :: (joinTo (fun i => (kid i).text) len ++ [41]) else [63] := rfl
theorem D.text_num (t : D) (h : t.op = 1) : t.text = Lib.itoa t.n := by
  cases t with
  | no => simp [D.op] at h
  | mk op a n s len kid => simp only [D.op] at h; unfold text; rw [if_pos h]; rfl
theorem D.text_sym (t : D) (h : t.op = 2) : t.text = t.s.data.toList := by
  cases t with
  | no => simp [D.op] at h
  | mk op a n s len kid => simp only [D.op] at h; unfold text; rw [if_neg (by omega), if_pos h]; rfl
theorem D.text_list (t : D) (h : t.op = 3) : t.text = 40 :: (joinTo (fun i => (t.kid i).text) t.len ++ [41]) := by
  cases t with
  | no => simp [D.op] at h
  | mk op a n s len kid => simp only [D.op] at h; rw [D.text_mk, if_neg (by omega), if_neg (by omega), if_pos h]; rfl
theorem D.text_none (t : D) (h1 : t.op ≠ 1) (h2 : t.op ≠ 2) (h3 : t.op ≠ 3) : t.text = [63] := by
  cases t with
  | no => rfl
  | mk op a n s len kid => simp only [D.op] at h1 h2 h3; unfold text; rw [if_neg h1, if_neg h2, if_neg h3]

theorem sep_len (k : Nat) : (sep k).length ≤ 1 := by unfold sep; split <;> simp

theorem itoa_len (n : Int) (h : -9223372036854775808 ≤ n ∧ n ≤ 9223372036854775807) : (Lib.itoa n).length ≤ 21 := by
  unfold Lib.itoa
  have : ∀ k : Nat, k < 18446744073709551616 → (Lib.decDigits k).length ≤ 20 := fun k hk => by rw [Lib.decDigits_length]; exact Lib.nDigits_le20 k hk
  split
  · have := this n.natAbs (by omega)
    simp only [List.length_cons]; omega
  · have := this n.toNat (by omega)
    omega

theorem D.text_len (w : World) (t : D) : ∀ v, t.In w v → t.text.length + 1 ≤ 22 * t.count + t.weight := by
  induction t with
  | no => intro v h; exact h.elim
  | mk op a n s len kid ih =>
    intro v hin
    have hn := hin.num
    have hsl := hin.sl
    have key : ∀ k, k ≤ len → (joinTo (fun i => (kid i).text) k).length ≤ 22 * sumTo (fun i => (kid i).count) k + sumTo (fun i => (kid i).weight) k := by
      intro k
      induction k with
      | zero => intro _; simp [joinTo]
      | succ k ihk =>
        intro hk
        have h1 := ihk (by omega)
        have h2 : (kid k).text.length + 1 ≤ 22 * (kid k).count + (kid k).weight := by
          rcases hsl with ⟨h0, _⟩ | ⟨b, o, cap, V, _, _, _, _, h4⟩
          · have h0' : len = 0 := h0
            omega
          · exact ih k _ (h4 k (by show k < len; omega)).2
        have h3 := sep_len k
        simp only [joinTo, sumTo, List.length_append]
        omega
    have hk := key len (Nat.le_refl _)
    have hi := itoa_len n hn
    unfold text count weight
    split
    · omega
    split
    · have : s.data.toList.length = s.size := by simp
      omega
    split
    · simp only [List.length_cons, List.length_append, List.length_nil]; omega
    · simp only [List.length_cons, List.length_nil]; omega

/-- Rounds that a datum takes behind its beginning. -/
def D.goes : D → Nat
  | .no => 0
  | .mk op _ _ _ len kid => if op = 3 then 1 + sumTo (fun i => 1 + (kid i).goes) len else 0
theorem D.goes_mk (op a n : Int) (s : ByteArray) (len : Nat) (kid : Nat → D) : (D.mk op a n s len kid).goes = if op = 3 then 1 + sumTo (fun i => 1 + (kid i).goes) len else 0 := rfl
theorem D.goes_list (t : D) (h : t.op = 3) : t.goes = 1 + sumTo (fun i => 1 + (t.kid i).goes) t.len := by
  cases t with
  | no => simp [D.op] at h
  | mk op a n s len kid => simp only [D.op] at h; rw [D.goes_mk, if_pos h]; rfl
theorem D.goes_else (t : D) (h : t.op ≠ 3) : t.goes = 0 := by
  cases t with
  | no => rfl
  | mk op a n s len kid => simp only [D.op] at h; unfold goes; rw [if_neg h]
theorem D.goes_count (t : D) : t.goes + 1 ≤ 2 * t.count := by
  induction t with
  | no => simp [goes, count]
  | mk op a n s len kid ih =>
    unfold goes count
    have : ∀ k, sumTo (fun i => 1 + (kid i).goes) k ≤ 2 * sumTo (fun i => (kid i).count) k := by
      intro k
      induction k with
      | zero => simp [sumTo]
      | succ k ihk => simp only [sumTo]; have := ih k; omega
    have := this len
    split <;> omega

def sumFrom (f : Nat → Nat) : Nat → Nat → Nat
  | _, 0 => 0
  | k, m + 1 => f k + sumFrom f (k + 1) m
theorem sum_split (f : Nat → Nat) (m : Nat) : ∀ k, sumTo f (k + m) = sumTo f k + sumFrom f k m := by
  induction m with
  | zero => intro k; simp [sumFrom]
  | succ m ih =>
    intro k
    rw [show k + (m + 1) = (k + 1) + m from by omega, ih (k + 1)]
    simp [sumTo, sumFrom]; omega
theorem sum_all (f : Nat → Nat) (m : Nat) : sumTo f m = sumFrom f 0 m := by
  have := sum_split f m 0
  simpa [sumTo] using this

/-- An open list: the datum, the slice of its kids, the next of them. -/
structure Op where
  t : D
  v : Value
  k : Nat

def Op.cells (q : Op) : List Value := [q.v, .int .i64 q.k]
def orows (st : List Op) : List Value := st.flatMap Op.cells
theorem orows_append (a b : List Op) : orows (a ++ b) = orows a ++ orows b := by simp [orows]
theorem orows_length (st : List Op) : (orows st).length = st.length * 2 := by
  induction st with
  | nil => rfl
  | cons t r ih => simp only [orows, List.flatMap_cons, List.length_append, List.length_cons] at ih ⊢; rw [ih]; simp [Op.cells]; omega

/-- What is still told of an open list. -/
def Op.left (q : Op) : List UInt8 := joinFrom (fun i => (q.t.kid i).text) q.k (q.t.len - q.k) ++ [41]
def Op.goes (q : Op) : Nat := 1 + sumFrom (fun i => 1 + (q.t.kid i).goes) q.k (q.t.len - q.k)
/-- What is still told, the innermost first; it stands last. -/
def leftAll (st : List Op) : List UInt8 := (st.reverse.map Op.left).flatten
def goesAll (st : List Op) : Nat := (st.map Op.goes).sum

theorem leftAll_snoc (r : List Op) (q : Op) : leftAll (r ++ [q]) = q.left ++ leftAll r := by simp [leftAll]
theorem goesAll_snoc (r : List Op) (q : Op) : goesAll (r ++ [q]) = goesAll r + q.goes := by simp [goesAll]
theorem goesAll_len (st : List Op) : st.length ≤ goesAll st := by
  induction st with
  | nil => simp
  | cons q r ih =>
    simp only [goesAll, List.map_cons, List.sum_cons, List.length_cons] at ih ⊢
    have : 1 ≤ q.goes := by unfold Op.goes; omega
    omega

theorem Op.left_end (q : Op) (h : q.k = q.t.len) : q.left = [41] := by unfold Op.left; rw [h]; simp [joinFrom]
theorem Op.goes_end (q : Op) (h : q.k = q.t.len) : q.goes = 1 := by unfold Op.goes; rw [h]; simp [sumFrom]
theorem Op.left_next (t : D) (v : Value) (k : Nat) (h : k < t.len) : (Op.mk t v k).left = sep k ++ ((t.kid k).text ++ (Op.mk t v (k + 1)).left) := by
  unfold Op.left
  simp only
  rw [show t.len - k = (t.len - (k + 1)) + 1 from by omega]
  simp [joinFrom]
theorem Op.goes_next (t : D) (v : Value) (k : Nat) (h : k < t.len) : (Op.mk t v k).goes = (1 + (t.kid k).goes) + (Op.mk t v (k + 1)).goes := by
  unfold Op.goes
  simp only
  rw [show t.len - k = (t.len - (k + 1)) + 1 from by omega]
  simp only [sumFrom]; omega
theorem Op.left_new (t : D) (v : Value) (h : t.op = 3) : 40 :: (Op.mk t v 0).left = t.text := by
  rw [t.text_list h, join_all]; rfl
theorem Op.goes_new (t : D) (v : Value) (h : t.op = 3) : (Op.mk t v 0).goes = t.goes := by
  rw [t.goes_list h, sum_all]; rfl

/-- The open lists lie in w. -/
def OpsIn (w : World) (st : List Op) : Prop := ∀ q ∈ st, q.t.In w q.v ∧ q.k ≤ q.t.len
theorem OpsIn.below {w w' : World} {st : List Op} (h : OpsIn w st) (hb : Below w.heap.size w w') : OpsIn w' st := fun q hq => ⟨(h q hq).1.below hb, (h q hq).2⟩
end Go.Proofs.YtafpbcdgcgffeabGreatDoor

/- Plain facts: data that are told are read as they were. No conditions. -/
namespace Go.Proofs.YtafpbcdgcgffeabGreatDoor
open Go.ChangeShapes Go.WideShapes Go.ChangeAt Go.RowKit

theorem empty_list : ((⟨#[]⟩ : ByteArray).toList == []) = true := by kernel_rfl

/-- A token but for its place. -/
abbrev Bare := Int × Int × ByteArray
def Tok.bare (t : Tok) : Bare := (t.kind, t.n, t.text)

def flatFrom (f : Nat → List Bare) : Nat → Nat → List Bare
  | _, 0 => []
  | k, m + 1 => f k ++ flatFrom f (k + 1) m

/-- A datum's tokens. -/
def D.toks : D → List Bare
  | .no => []
  | .mk op _ n s len kid => if op = 1 then [(3, n, ⟨(Lib.itoa n).toArray⟩)] else if op = 2 then [(4, 0, s)] else (1, 0, ⟨#[40]⟩) :: (flatFrom (fun i => (kid i).toks) 0 len ++ [(2, 0, ⟨#[41]⟩)])

/-- The same but for places, and right. -/
structure LikeD (d' d : D) : Prop where
  same : sameD d' d = true
  right : rightB d' = true
  deep : d'.deep = d.deep
  count : d'.count = d.count

theorem right_kids {t : D} (h : rightB t = true) : ∀ i, i < t.len → rightB (t.kid i) = true := by
  rw [rightB_eq, Bool.and_eq_true, allTo_true] at h
  exact h.1
theorem right_fields {t : D} (h : rightB t = true) : fieldsB t = true := by
  rw [rightB_eq, Bool.and_eq_true] at h
  exact h.2

theorem D.toks_first (t : D) (h : rightB t = true) : ∃ b r, t.toks = b :: r ∧ b.1 ≠ 2 := by
  cases t with
  | no => exact absurd (right_fields h) (by decide)
  | mk op a n s len kid =>
    unfold D.toks
    split
    · exact ⟨_, _, rfl, by show (3 : Int) ≠ 2; decide⟩
    · split
      · exact ⟨_, _, rfl, by show (4 : Int) ≠ 2; decide⟩
      · exact ⟨_, _, rfl, by show (1 : Int) ≠ 2; decide⟩

theorem toks_pos (t : D) (h : rightB t = true) : 1 ≤ t.toks.length := by
  obtain ⟨b, r, e, _⟩ := t.toks_first h
  rw [e]; simp

theorem flat_len (kid : Nat → D) : ∀ (m k : Nat), (∀ i, k ≤ i → i < k + m → rightB (kid i) = true) → m ≤ (flatFrom (fun i => (kid i).toks) k m).length := by
  intro m
  induction m with
  | zero => intro k _; simp
  | succ m ih =>
    intro k h
    have h1 := toks_pos (kid k) (h k (Nat.le_refl _) (by omega))
    have h2 := ih (k + 1) (fun i a b => h i (by omega) (by omega))
    simp only [flatFrom, List.length_append]
    omega

def OneReads (E : Int) (f : Nat) (t : D) : Prop := ∀ (ts : List Tok) (r : List Bare), ts.map Tok.bare = t.toks ++ r → ∃ d' r', one E f ts = .ok d' r' ∧ r'.map Tok.bare = r ∧ LikeD d' t

theorem kids_reads (E : Int) (f : Nat) (kid : Nat → D) : ∀ (m k : Nat), (∀ i, k ≤ i → i < k + m → OneReads E f (kid i) ∧ rightB (kid i) = true) →
    ∀ (M : Nat) (acc : List D) (ts : List Tok) (r : List Bare), m < M → ts.map Tok.bare = flatFrom (fun i => (kid i).toks) k m ++ (2, 0, ⟨#[41]⟩) :: r →
    ∃ ds r', kidsL E (one E f) M acc ts = .ok (acc ++ ds) r' ∧ r'.map Tok.bare = r ∧ ds.length = m ∧ ∀ i (h : i < ds.length), LikeD ds[i] (kid (k + i)) := by
  intro m
  induction m with
  | zero =>
    intro k _ M acc ts r hM hts
    obtain ⟨M, rfl⟩ : ∃ n, M = n + 1 := ⟨M - 1, by omega⟩
    cases ts with
    | nil => simp [flatFrom] at hts
    | cons t ts =>
      simp only [flatFrom, List.nil_append, List.map_cons, List.cons.injEq] at hts
      have hk : t.kind = 2 := congrArg Prod.fst hts.1
      refine ⟨[], ts, ?_, hts.2, rfl, fun i h => by simp at h⟩
      unfold kidsL
      rw [if_pos hk, List.append_nil]
  | succ m ih =>
    intro k hkid M acc ts r hM hts
    obtain ⟨M, rfl⟩ : ∃ n, M = n + 1 := ⟨M - 1, by omega⟩
    obtain ⟨hone, hright⟩ := hkid k (Nat.le_refl _) (by omega)
    simp only [flatFrom, List.append_assoc] at hts
    obtain ⟨d', r1, h1, h2, h3⟩ := hone ts _ hts
    obtain ⟨b, q, hb, hb2⟩ := (kid k).toks_first hright
    cases ts with
    | nil => rw [hb] at hts; simp at hts
    | cons t ts =>
      have hk : t.kind ≠ 2 := by
        rw [hb] at hts
        simp only [List.map_cons, List.cons_append, List.cons.injEq] at hts
        have : t.kind = b.1 := congrArg Prod.fst hts.1
        rw [this]; exact hb2
      obtain ⟨ds, r', g1, g2, g3, g4⟩ := ih (k + 1) (fun i a c => hkid i (by omega) (by omega)) M (acc ++ [d']) r1 r (by omega) h2
      refine ⟨d' :: ds, r', ?_, g2, by simp [g3], ?_⟩
      · conv => lhs; unfold kidsL
        rw [if_neg hk, h1]
        simp only
        rw [g1, List.append_assoc]
        rfl
      · intro i hi
        cases i with
        | zero => exact h3
        | succ i =>
          have := g4 i (by simpa using hi)
          rw [show k + (i + 1) = k + 1 + i from by omega]
          exact this

theorem maxTo_congr {f g : Nat → Nat} {k : Nat} (h : ∀ i, i < k → f i = g i) : maxTo f k = maxTo g k := by
  induction k with
  | zero => rfl
  | succ k ih => simp only [maxTo]; rw [ih (fun i hi => h i (by omega)), h k (by omega)]
theorem sumTo_congr {f g : Nat → Nat} {k : Nat} (h : ∀ i, i < k → f i = g i) : sumTo f k = sumTo g k := by
  induction k with
  | zero => rfl
  | succ k ih => simp only [sumTo]; rw [ih (fun i hi => h i (by omega)), h k (by omega)]

theorem kidsOf_at (ds : List D) (i : Nat) (h : i < ds.length) : kidsOf ds i = ds[i] := by
  unfold kidsOf
  rw [List.getD_eq_getElem?_getD, List.getElem?_eq_getElem h]
  rfl

theorem one_reads (E : Int) (t : D) : ∀ f, t.deep ≤ f → rightB t = true → OneReads E f t := by
  induction t with
  | no => intro f _ h; exact absurd (right_fields h) (by decide)
  | mk op a n s len kid ih =>
    intro f hf hr ts r hts
    have hfl : fB a op (decide (-1073741824 ≤ n ∧ n ≤ 1073741823)) (symB s.data.toList) (s.toList == []) (n == 0) ((len : Int) == 0) = true := right_fields hr
    have hdp : (D.mk op a n s len kid).deep = maxTo (fun i => (kid i).deep) len + 1 := rfl
    obtain ⟨f, rfl⟩ : ∃ g, f = g + 1 := ⟨f - 1, by omega⟩
    unfold fB at hfl
    rw [Bool.and_eq_true] at hfl
    obtain ⟨ha, hfl⟩ := hfl
    have hk0 : ∀ i, i < len → rightB (kid i) = true := right_kids hr
    unfold D.toks at hts
    by_cases h1 : op = 1
    · rw [if_pos h1] at hts hfl
      cases ts with
      | nil => simp at hts
      | cons t ts =>
        simp only [List.map_cons, List.cons_append, List.nil_append, List.cons.injEq] at hts
        obtain ⟨⟨k1, k2, k3⟩, k4⟩ : (t.kind = 3 ∧ t.n = n ∧ t.text = ⟨(Lib.itoa n).toArray⟩) ∧ ts.map Tok.bare = r := ⟨⟨congrArg Prod.fst hts.1, congrArg (fun p => p.2.1) hts.1, congrArg (fun p => p.2.2) hts.1⟩, hts.2⟩
        simp only [Bool.and_eq_true, decide_eq_true_eq, beq_iff_eq] at hfl
        obtain ⟨hn, hs, hl⟩ := hfl
        have hl0 : len = 0 := by omega
        subst hl0
        refine ⟨dNum t, ts, by unfold one; rw [if_pos k1], k4, ?_, ?_, rfl, rfl⟩
        · rw [sameD_eq, Bool.and_eq_true]
          refine ⟨?_, rfl⟩
          unfold headB
          simp only [dNum, D.op, D.n, D.s, D.len, k2, hs, h1, Bool.and_eq_true, beq_self_eq_true, true_and, and_true]
          exact empty_list
        · rw [rightB_eq, Bool.and_eq_true]
          refine ⟨rfl, ?_⟩
          show fB t.at_ 1 (decide (-1073741824 ≤ t.n ∧ t.n ≤ 1073741823)) _ _ _ _ = true
          unfold fB
          rw [k2, if_pos rfl, Bool.and_eq_true, Bool.and_eq_true, Bool.and_eq_true]
          exact ⟨decide_eq_true (by omega), decide_eq_true hn, empty_list, rfl⟩
    · rw [if_neg h1] at hts hfl
      by_cases h2 : op = 2
      · rw [if_pos h2] at hts hfl
        cases ts with
        | nil => simp at hts
        | cons t ts =>
          simp only [List.map_cons, List.cons_append, List.nil_append, List.cons.injEq] at hts
          obtain ⟨⟨k1, k2, k3⟩, k4⟩ : (t.kind = 4 ∧ t.n = 0 ∧ t.text = s) ∧ ts.map Tok.bare = r := ⟨⟨congrArg Prod.fst hts.1, congrArg (fun p => p.2.1) hts.1, congrArg (fun p => p.2.2) hts.1⟩, hts.2⟩
          simp only [Bool.and_eq_true, beq_iff_eq] at hfl
          obtain ⟨hs, hn, hl⟩ := hfl
          have hl0 : len = 0 := by omega
          subst hl0
          refine ⟨dSym t, ts, by unfold one; rw [if_neg (by omega), if_pos k1], k4, ?_, ?_, rfl, rfl⟩
          · rw [sameD_eq, Bool.and_eq_true]
            refine ⟨?_, rfl⟩
            unfold headB
            simp only [dSym, D.op, D.n, D.s, D.len, k3, hn, h2, Bool.and_eq_true, beq_self_eq_true, and_true]
          · rw [rightB_eq, Bool.and_eq_true]
            refine ⟨rfl, ?_⟩
            show fB t.at_ 2 _ (symB t.text.data.toList) _ _ _ = true
            unfold fB
            rw [k3, if_neg (by omega), if_pos rfl, Bool.and_eq_true, Bool.and_eq_true, Bool.and_eq_true]
            exact ⟨decide_eq_true (by omega), hs, rfl, rfl⟩
      · rw [if_neg h2] at hts hfl
        have h3 : op = 3 := by
          by_cases h : op = 3
          · exact h
          · rw [if_neg h] at hfl; cases hfl
        rw [if_pos h3, Bool.and_eq_true, beq_iff_eq, beq_iff_eq] at hfl
        cases ts with
        | nil => simp at hts
        | cons t ts =>
          simp only [List.map_cons, List.cons_append, List.append_assoc, List.nil_append, List.cons.injEq] at hts
          have k1 : t.kind = 1 := congrArg Prod.fst hts.1
          have hdk : ∀ i, i < len → (kid i).deep ≤ f := by
            have : maxTo (fun i => (kid i).deep) len ≤ f := by omega
            exact maxTo_le.1 this
          have hlen : len ≤ ts.length := by
            have h := flat_len kid len 0 (fun i _ hi => hk0 i (by omega))
            have e := congrArg List.length hts.2
            simp only [List.length_map, List.length_append, List.length_cons] at e
            omega
          obtain ⟨ds, r', g1, g2, g3, g4⟩ := kids_reads E f kid len 0 (fun i _ hi => ⟨ih i f (hdk i (by omega)) (hk0 i (by omega)), hk0 i (by omega)⟩) (ts.length + 1) [] ts r (by omega) hts.2
          rw [List.nil_append] at g1
          subst g3
          have gl : ∀ i, i < ds.length → LikeD (kidsOf ds i) (kid i) := fun i hi => by
            rw [kidsOf_at ds i hi]
            have := g4 i hi
            rwa [Nat.zero_add] at this
          refine ⟨dList t ds, r', ?_, g2, ?_, ?_, ?_, ?_⟩
          · unfold one
            rw [if_neg (by omega), if_neg (by omega), if_neg (by omega), g1]
          · rw [sameD_eq, Bool.and_eq_true, allTo_true]
            refine ⟨?_, fun i hi => (gl i hi).same⟩
            unfold headB
            simp only [dList, D.op, D.n, D.s, D.len, hfl.1, hfl.2, h3, Bool.and_eq_true, beq_self_eq_true, true_and, and_true]
            exact empty_list
          · rw [rightB_eq, Bool.and_eq_true, allTo_true]
            refine ⟨fun i hi => (gl i hi).right, ?_⟩
            show fB t.at_ 3 _ _ _ _ _ = true
            unfold fB
            rw [if_neg (by omega), if_neg (by omega), if_pos rfl, Bool.and_eq_true, Bool.and_eq_true]
            exact ⟨decide_eq_true (by omega), rfl, empty_list⟩
          · show maxTo _ ds.length + 1 = maxTo _ ds.length + 1
            rw [maxTo_congr (fun i hi => (gl i hi).deep)]
          · show 1 + sumTo _ ds.length = 1 + sumTo _ ds.length
            rw [sumTo_congr (fun i hi => (gl i hi).count)]

theorem flat_at (kid : Nat → D) : ∀ (m k i : Nat), k ≤ i → i < k + m → (kid i).toks.length ≤ (flatFrom (fun i => (kid i).toks) k m).length := by
  intro m
  induction m with
  | zero => intro k i h1 h2; omega
  | succ m ih =>
    intro k i h1 h2
    simp only [flatFrom, List.length_append]
    by_cases h : i = k
    · subst h; omega
    · have := ih (k + 1) i (by omega) (by omega)
      omega

theorem deep_toks (t : D) : rightB t = true → t.deep ≤ t.toks.length := by
  induction t with
  | no => intro h; exact absurd (right_fields h) (by decide)
  | mk op a n s len kid ih =>
    intro hr
    have hp := toks_pos _ hr
    have hk0 : ∀ i, i < len → rightB (kid i) = true := right_kids hr
    have hdp : (D.mk op a n s len kid).deep = maxTo (fun i => (kid i).deep) len + 1 := rfl
    have hfl : fB a op (decide (-1073741824 ≤ n ∧ n ≤ 1073741823)) (symB s.data.toList) (s.toList == []) (n == 0) ((len : Int) == 0) = true := right_fields hr
    rw [hdp]
    by_cases h0 : len = 0
    · subst h0
      simp only [maxTo]
      omega
    · have h12 : op ≠ 1 ∧ op ≠ 2 := by
        unfold fB at hfl
        rw [Bool.and_eq_true] at hfl
        have hfl := hfl.2
        refine ⟨fun h => ?_, fun h => ?_⟩
        · rw [if_pos h] at hfl
          simp only [Bool.and_eq_true, beq_iff_eq] at hfl
          omega
        · rw [if_neg (by omega), if_pos h] at hfl
          simp only [Bool.and_eq_true, beq_iff_eq] at hfl
          omega
      have : maxTo (fun i => (kid i).deep) len ≤ (flatFrom (fun i => (kid i).toks) 0 len).length := by
        rw [maxTo_le]
        intro i hi
        have h1 := ih i (hk0 i hi)
        have h2 := flat_at kid len 0 i (Nat.zero_le _) (by omega)
        omega
      unfold D.toks
      rw [if_neg h12.1, if_neg h12.2]
      simp only [List.length_cons, List.length_append]
      omega

theorem rest_reads (E : Int) (f : Nat) (kid : Nat → D) : ∀ (m k : Nat), (∀ i, k ≤ i → i < k + m → OneReads E f (kid i) ∧ rightB (kid i) = true) →
    ∀ (M : Nat) (acc : List D) (ts : List Tok), m ≤ M → ts.map Tok.bare = flatFrom (fun i => (kid i).toks) k m →
    ∃ ds, restL (one E f) M acc ts = .ok (acc ++ ds) [] ∧ ds.length = m ∧ ∀ i (h : i < ds.length), LikeD ds[i] (kid (k + i)) := by
  intro m
  induction m with
  | zero =>
    intro k _ M acc ts hM hts
    cases ts with
    | nil =>
      refine ⟨[], ?_, rfl, fun i h => by simp at h⟩
      cases M <;> simp [restL]
    | cons t ts => simp [flatFrom] at hts
  | succ m ih =>
    intro k hkid M acc ts hM hts
    obtain ⟨M, rfl⟩ : ∃ n, M = n + 1 := ⟨M - 1, by omega⟩
    obtain ⟨hone, hright⟩ := hkid k (Nat.le_refl _) (by omega)
    simp only [flatFrom] at hts
    obtain ⟨d', r1, h1, h2, h3⟩ := hone ts _ hts
    obtain ⟨b, q, hb, hb2⟩ := (kid k).toks_first hright
    cases ts with
    | nil => rw [hb] at hts; simp at hts
    | cons t ts =>
      obtain ⟨ds, g1, g3, g4⟩ := ih (k + 1) (fun i a c => hkid i (by omega) (by omega)) M (acc ++ [d']) r1 (by omega) h2
      refine ⟨d' :: ds, ?_, by simp [g3], ?_⟩
      · conv => lhs; unfold restL
        rw [h1]
        simp only
        rw [g1, List.append_assoc]
        rfl
      · intro i hi
        cases i with
        | zero => exact h3
        | succ i =>
          have := g4 i (by simpa using hi)
          rw [show k + (i + 1) = k + 1 + i from by omega]
          exact this

theorem read_told (E : Int) (ds : List D) (hb : datsB ds.length (kidsOf ds) = true) (ts : List Tok) (hts : ts.map Tok.bare = flatFrom (fun i => (kidsOf ds i).toks) 0 ds.length) :
    ∃ ds', readL E ts = .ok ds' [] ∧ ds'.length = ds.length ∧ (∀ i, i < ds.length → LikeD (kidsOf ds' i) (kidsOf ds i)) ∧ datsB ds'.length (kidsOf ds') = true := by
  have hb' := hb
  unfold datsB at hb'
  rw [Bool.and_eq_true, allTo_true, decide_eq_true_eq] at hb'
  obtain ⟨h1, h2⟩ := hb'
  have hk : ∀ i, i < ds.length → (kidsOf ds i).deep ≤ 20 ∧ rightB (kidsOf ds i) = true := fun i hi => by
    have := h1 i hi
    rw [Bool.and_eq_true, decide_eq_true_eq] at this
    exact this
  have hdeep : ∀ i, i < ds.length → (kidsOf ds i).deep ≤ ts.length + 1 := by
    intro i hi
    have h1 := deep_toks (kidsOf ds i) (hk i hi).2
    have h2 := flat_at (kidsOf ds) ds.length 0 i (Nat.zero_le _) (by omega)
    have e := congrArg List.length hts
    simp only [List.length_map] at e
    omega
  have hlen : ds.length ≤ ts.length := by
    have h := flat_len (kidsOf ds) ds.length 0 (fun i _ hi => (hk i (by omega)).2)
    have e := congrArg List.length hts
    simp only [List.length_map] at e
    omega
  obtain ⟨ds', g1, g2, g3⟩ := rest_reads E (ts.length + 1) (kidsOf ds) ds.length 0 (fun i _ hi => ⟨one_reads E _ _ (hdeep i (by omega)) (hk i (by omega)).2, (hk i (by omega)).2⟩) (ts.length + 1) [] ts (by omega) hts
  rw [List.nil_append] at g1
  have gl : ∀ i, i < ds.length → LikeD (kidsOf ds' i) (kidsOf ds i) := fun i hi => by
    rw [kidsOf_at ds' i (by omega)]
    have := g3 i (by omega)
    rwa [Nat.zero_add] at this
  refine ⟨ds', g1, g2, gl, ?_⟩
  unfold datsB
  rw [g2, Bool.and_eq_true, allTo_true, decide_eq_true_eq]
  refine ⟨fun i hi => ?_, ?_⟩
  · rw [Bool.and_eq_true, decide_eq_true_eq, (gl i hi).deep]
    exact ⟨(hk i hi).1, (gl i hi).right⟩
  · rw [sumTo_congr (fun i hi => (gl i hi).count)]
    exact h2
end Go.Proofs.YtafpbcdgcgffeabGreatDoor

/- Plain facts: the tokens of a text that data were told to. No conditions. -/
namespace Go.Proofs.YtafpbcdgcgffeabGreatDoor
open Go.ChangeShapes Go.WideShapes Go.ChangeAt Go.RowKit

theorem size_list (s : ByteArray) : s.size = s.data.toList.length := rfl
theorem at_list (s : ByteArray) (i : Nat) (h : i < s.size) : s[i]'h = s.data.toList[i]'h := rfl

theorem drop_at {s : ByteArray} {p : Nat} {l : List UInt8} (h : s.data.toList.drop p = l) (j : Nat) (hj : j < l.length) : ∃ hp : p + j < s.size, s[p + j]'hp = l[j] := by
  have hl : p + j < s.data.toList.length := by
    have := congrArg List.length h
    simp only [List.length_drop] at this
    omega
  refine ⟨hl, ?_⟩
  rw [at_list]
  subst h
  rw [List.getElem_drop]

theorem extract_list {s : ByteArray} {p : Nat} {wd l : List UInt8} (h : s.data.toList.drop p = wd ++ l) : s.extract p (p + wd.length) = ⟨wd.toArray⟩ := by
  apply ByteArray.ext
  rw [ByteArray.data_extract]
  apply Array.toList_inj.1
  rw [Array.toList_extract, List.extract_eq_drop_take', List.drop_take, h]
  simp

theorem told_word (s : ByteArray) (acc : List Tok) (p : Nat) (wd : List UInt8) (c : UInt8) (l : List UInt8) (h : s.data.toList.drop p = wd ++ c :: l) (hw : 1 ≤ wd.length) (hn : ∀ x ∈ wd, partB x = false) (hc : partB c = true) (t : Tok) (ht : tokOf ⟨wd.toArray⟩ p = some t) :
    rest s acc p p = rest s (acc ++ [t] ++ brack c (p + wd.length)) (p + wd.length + 1) (p + wd.length + 1) := by
  have hsz : p + wd.length < s.size := by
    have := congrArg List.length h
    simp only [List.length_drop, List.length_append, List.length_cons] at this
    rw [size_list]; omega
  have hcc : s[p + wd.length]'hsz = c := by
    obtain ⟨hp, e⟩ := drop_at h wd.length (by simp)
    rw [e]; simp
  rw [rest_others s acc p p wd.length (by omega) (fun j hj => by
    obtain ⟨hp, e⟩ := drop_at h j (by simp; omega)
    rw [e, List.getElem_append_left hj]
    exact hn _ (List.getElem_mem hj))]
  rw [rest_end s acc p (p + wd.length) (by omega) (fun _ => by rw [hcc]; exact hc), extract_list h, ht]
  simp only
  rw [rest_part s _ (p + wd.length) hsz (by rw [hcc]; exact hc), hcc]

theorem rest_sign (s : ByteArray) (acc : List Tok) (p : Nat) (c : UInt8) (l : List UInt8) (h : s.data.toList.drop p = c :: l) (hc : partB c = true) :
    rest s acc p p = rest s (acc ++ brack c p) (p + 1) (p + 1) := by
  obtain ⟨hp, e⟩ := drop_at h 0 (by simp)
  have e' : s[p]'hp = c := e
  rw [rest_part s acc p hp (by rw [e']; exact hc), e']

theorem drop_more {s : ByteArray} {p : Nat} {a l : List UInt8} (h : s.data.toList.drop p = a ++ l) : s.data.toList.drop (p + a.length) = l := by
  rw [← List.drop_drop, h]
  simp

theorem dig_part {c : UInt8} (h : isDig c) : partB c = false := by
  unfold isDig at h
  cases e : partB c with
  | false => rfl
  | true => rcases part_cases e with h1 | h1 | h1 | h1
            · omega
            · omega
            · subst h1; simp at h
            · subst h1; simp at h

theorem itoa_part (n : Int) : ∀ x ∈ Lib.itoa n, partB x = false := by
  intro x hx
  by_cases h : n < 0
  · rw [itoa_neg n h] at hx
    rcases List.mem_cons.1 hx with rfl | hx
    · decide
    · exact dig_part (dig_decDigits _ x hx)
  · rw [itoa_val n (by omega)] at hx
    exact dig_part (dig_decDigits _ x hx)

theorem name_part {c : UInt8} (h : nameB c = true) : partB c = false := by
  cases e : partB c with
  | false => rfl
  | true =>
    have key : ∀ d : UInt8, nameB d = false → c ≠ d := fun d hd e => by rw [e, hd] at h; cases h
    rcases part_cases e with h1 | h1 | h1 | h1
    · exact absurd (UInt8.toNat_inj.1 (show c.toNat = (32 : UInt8).toNat from h1)) (key 32 (by decide))
    · exact absurd (UInt8.toNat_inj.1 (show c.toNat = (10 : UInt8).toNat from h1)) (key 10 (by decide))
    · exact absurd h1 (key 40 (by decide))
    · exact absurd h1 (key 41 (by decide))

theorem dig_digB {c : UInt8} (h : isDig c) : digB c = true := by
  unfold isDig at h
  unfold digB
  simp [h.1, h.2]

theorem dec_first (v : Nat) : ∃ c r, Lib.decDigits v = c :: r ∧ digB c = true := by
  have h1 := len_pos_decDigits v
  have h2 := dig_decDigits v
  cases e : Lib.decDigits v with
  | nil => rw [e] at h1; simp at h1
  | cons c r => exact ⟨c, r, rfl, dig_digB (h2 c (by rw [e]; simp))⟩

theorem itoa_beg (n : Int) : begNum (Lib.itoa n) = true := by
  by_cases h : n < 0
  · rw [itoa_neg n h]
    obtain ⟨c, r, e, hc⟩ := dec_first n.natAbs
    rw [e]
    simp [begNum, hc]
  · rw [itoa_val n (by omega)]
    obtain ⟨c, r, e, hc⟩ := dec_first n.toNat
    rw [e]
    simp [begNum, hc]

theorem itoa_pos (n : Int) : 1 ≤ (Lib.itoa n).length := by
  by_cases h : n < 0
  · rw [itoa_neg n h]; simp
  · rw [itoa_val n (by omega)]; exact len_pos_decDigits _

theorem tok_num (n : Int) (h0 : -1073741824 ≤ n) (h1 : n ≤ 1073741823) (p : Nat) : tokOf ⟨(Lib.itoa n).toArray⟩ p = some ⟨3, p, n, ⟨(Lib.itoa n).toArray⟩⟩ := by
  unfold tokOf
  rw [wordV_of h0 h1 rfl]

theorem tok_sym (s : ByteArray) (h : symB s.data.toList = true) (p : Nat) : tokOf s p = some ⟨4, p, 0, s⟩ := by
  unfold tokOf
  have hb : begNum s.data.toList = false := by
    unfold symB at h
    simp only [Bool.and_eq_true, Bool.not_eq_true'] at h
    exact h.1.2
  rw [wordV_none (fun v h0 h1 e => by rw [← e, itoa_beg] at hb; cases hb)]
  simp only [h, if_true]

theorem sym_parts {l : List UInt8} (h : symB l = true) : 1 ≤ l.length ∧ ∀ x ∈ l, partB x = false := by
  unfold symB at h
  simp only [Bool.and_eq_true, decide_eq_true_eq, List.all_eq_true] at h
  exact ⟨h.1.1.1, fun x hx => name_part (h.2 x hx)⟩

/-- A datum's text, and a sign that parts behind it, are its tokens. -/
def Told (t : D) : Prop := ∀ (s : ByteArray) (acc : List Tok) (p : Nat) (c : UInt8) (l : List UInt8), s.data.toList.drop p = t.text ++ c :: l → partB c = true →
  ∃ ts, ts.map Tok.bare = t.toks ∧ rest s acc p p = rest s (acc ++ ts ++ brack c (p + t.text.length)) (p + t.text.length + 1) (p + t.text.length + 1)

theorem told_kids (kid : Nat → D) : ∀ (m k : Nat), (∀ i, k ≤ i → i < k + (m + 1) → Told (kid i)) → ∀ (s : ByteArray) (acc : List Tok) (p : Nat) (l : List UInt8), s.data.toList.drop p = (kid k).text ++ (joinFrom (fun i => (kid i).text) (k + 1) m ++ 41 :: l) →
    ∃ ts q, ts.map Tok.bare = flatFrom (fun i => (kid i).toks) k (m + 1) ∧ q = p + ((kid k).text ++ joinFrom (fun i => (kid i).text) (k + 1) m).length ∧ rest s acc p p = rest s (acc ++ ts ++ brack 41 q) (q + 1) (q + 1) := by
  intro m
  induction m with
  | zero =>
    intro k h s acc p l hl
    obtain ⟨ts, h1, h2⟩ := h k (Nat.le_refl _) (by omega) s acc p 41 l hl (by decide)
    exact ⟨ts, p + (kid k).text.length, by simp [flatFrom, h1], by simp [joinFrom], h2⟩
  | succ m ih =>
    intro k h s acc p l hl
    have hj : joinFrom (fun i => (kid i).text) (k + 1) (m + 1) = 32 :: ((kid (k + 1)).text ++ joinFrom (fun i => (kid i).text) (k + 2) m) := by
      simp [joinFrom, sep]
    rw [hj] at hl ⊢
    have hl2 : s.data.toList.drop p = (kid k).text ++ 32 :: ((kid (k + 1)).text ++ (joinFrom (fun i => (kid i).text) (k + 2) m ++ 41 :: l)) := by
      rw [hl]; simp
    obtain ⟨ts, h1, h2⟩ := h k (Nat.le_refl _) (by omega) s acc p 32 _ hl2 (by decide)
    have hl3 : s.data.toList.drop (p + (kid k).text.length + 1) = (kid (k + 1)).text ++ (joinFrom (fun i => (kid i).text) (k + 2) m ++ 41 :: l) := by
      have := drop_more (a := (kid k).text ++ [32]) (l := (kid (k + 1)).text ++ (joinFrom (fun i => (kid i).text) (k + 2) m ++ 41 :: l)) (by rw [hl2]; simp) (s := s) (p := p)
      rw [List.length_append, List.length_singleton] at this
      rw [← this]; rfl
    obtain ⟨ts2, q, g1, g2, g3⟩ := ih (k + 1) (fun i a b => h i (by omega) (by omega)) s (acc ++ ts) (p + (kid k).text.length + 1) l hl3
    have g2' : q = p + (kid k).text.length + 1 + ((kid (k + 1)).text ++ joinFrom (fun i => (kid i).text) (k + 2) m).length := g2
    refine ⟨ts ++ ts2, q, ?_, ?_, ?_⟩
    · rw [List.map_append, h1, g1]; rfl
    · rw [g2']; simp only [List.length_append, List.length_cons]; omega
    · rw [h2, brack_blank (.inl rfl), List.append_nil, g3, List.append_assoc acc ts ts2]

theorem told_one (t : D) : rightB t = true → Told t := by
  induction t with
  | no => intro h; exact absurd (right_fields h) (by decide)
  | mk op a n x len kid ih =>
    intro hr s acc p c l hl hc
    have hfl : fB a op (decide (-1073741824 ≤ n ∧ n ≤ 1073741823)) (symB x.data.toList) (x.toList == []) (n == 0) ((len : Int) == 0) = true := right_fields hr
    have hk0 : ∀ i, i < len → rightB (kid i) = true := right_kids hr
    unfold fB at hfl
    rw [Bool.and_eq_true] at hfl
    have hfl := hfl.2
    rw [D.text_mk] at hl ⊢
    unfold D.toks
    by_cases h1 : op = 1
    · rw [if_pos h1] at hfl hl ⊢
      rw [if_pos h1]
      simp only [Bool.and_eq_true, decide_eq_true_eq] at hfl
      exact ⟨[_], rfl, told_word s acc p (Lib.itoa n) c l hl (itoa_pos n) (itoa_part n) hc _ (tok_num n hfl.1.1 hfl.1.2 p)⟩
    · rw [if_neg h1] at hfl hl ⊢
      rw [if_neg h1]
      by_cases h2 : op = 2
      · rw [if_pos h2] at hfl hl ⊢
        rw [if_pos h2]
        simp only [Bool.and_eq_true] at hfl
        have hs := sym_parts hfl.1
        exact ⟨[_], rfl, told_word s acc p x.data.toList c l hl hs.1 hs.2 hc _ (tok_sym x hfl.1 p)⟩
      · rw [if_neg h2] at hfl hl ⊢
        rw [if_neg h2]
        have h3 : op = 3 := by
          by_cases h : op = 3
          · exact h
          · rw [if_neg h] at hfl; cases hfl
        rw [if_pos h3] at hl ⊢
        rw [join_all] at hl ⊢
        have hb := rest_sign s acc p 40 (joinFrom (fun i => (kid i).text) 0 len ++ 41 :: c :: l) (by rw [hl]; simp) (by decide)
        have hl1 : s.data.toList.drop (p + 1) = joinFrom (fun i => (kid i).text) 0 len ++ 41 :: c :: l := drop_more (a := [40]) (by rw [hl]; simp)
        cases len with
        | zero =>
          have hl1' : s.data.toList.drop (p + 1) = 41 :: c :: l := by rw [hl1]; simp [joinFrom]
          have hb2 := rest_sign s (acc ++ brack 40 p) (p + 1) 41 (c :: l) hl1' (by decide)
          have hb3 := rest_sign s (acc ++ brack 40 p ++ brack 41 (p + 1)) (p + 1 + 1) c l (drop_more (a := [41]) (by rw [hl1']; rfl)) hc
          refine ⟨[⟨1, p, 0, ⟨#[40]⟩⟩, ⟨2, p + 1, 0, ⟨#[41]⟩⟩], by simp [flatFrom, Tok.bare], ?_⟩
          rw [hb, hb2, hb3]
          simp [joinFrom, brack]
        | succ m =>
          have hj : joinFrom (fun i => (kid i).text) 0 (m + 1) = (kid 0).text ++ joinFrom (fun i => (kid i).text) 1 m := by simp [joinFrom, sep]
          rw [hj] at hl1 ⊢
          obtain ⟨ts, q, g1, g2, g3⟩ := told_kids kid m 0 (fun i _ hi => ih i (hk0 i (by omega))) s (acc ++ brack 40 p) (p + 1) (c :: l) (by rw [hl1]; simp)
          have g2' : q = p + 1 + ((kid 0).text ++ joinFrom (fun i => (kid i).text) 1 m).length := g2
          have hl2 : s.data.toList.drop (q + 1) = c :: l := by
            have := drop_more (s := s) (p := p + 1) (a := (kid 0).text ++ joinFrom (fun i => (kid i).text) 1 m ++ [41]) (l := c :: l) (by rw [hl1]; simp)
            rw [List.length_append, List.length_singleton] at this
            rw [g2, ← this]; rfl
          have hb3 := rest_sign s (acc ++ brack 40 p ++ ts ++ brack 41 q) (q + 1) c l hl2 hc
          refine ⟨⟨1, p, 0, ⟨#[40]⟩⟩ :: (ts ++ [⟨2, q, 0, ⟨#[41]⟩⟩]), ?_, ?_⟩
          · simp only [List.map_cons, List.map_append, g1, List.map_nil]
            rfl
          · rw [hb, g3, hb3]
            have e1 : p + (40 :: ((kid 0).text ++ joinFrom (fun i => (kid i).text) 1 m ++ [41])).length = q + 1 := by
              rw [g2']; simp only [List.length_cons, List.length_append, List.length_nil]; omega
            rw [e1]
            simp [brack]

/-- The text of data, a row each. -/
def toldText : (Nat → D) → Nat → Nat → List UInt8
  | _, _, 0 => []
  | kid, k, m + 1 => (kid k).text ++ 10 :: toldText kid (k + 1) m

theorem rest_over (s : ByteArray) (acc : List Tok) (p : Nat) (h : s.size ≤ p) : rest s acc p p = (acc, -1) := by
  unfold rest
  rw [show s.size - p = 0 from by omega]
  unfold scan
  rw [if_pos rfl]

theorem told_all (kid : Nat → D) (s : ByteArray) : ∀ (m k : Nat), (∀ i, k ≤ i → i < k + m → rightB (kid i) = true) → ∀ (acc : List Tok) (p : Nat), s.data.toList.drop p = toldText kid k m →
    ∃ ts, ts.map Tok.bare = flatFrom (fun i => (kid i).toks) k m ∧ rest s acc p p = (acc ++ ts, -1) := by
  intro m
  induction m with
  | zero =>
    intro k _ acc p hl
    have hp : s.size ≤ p := by
      have h := congrArg List.length hl
      simp only [List.length_drop, toldText, List.length_nil] at h
      rw [size_list]; omega
    exact ⟨[], rfl, by rw [rest_over s acc p hp, List.append_nil]⟩
  | succ m ih =>
    intro k h acc p hl
    obtain ⟨ts, h1, h2⟩ := told_one (kid k) (h k (Nat.le_refl _) (by omega)) s acc p 10 (toldText kid (k + 1) m) hl (by decide)
    have hl2 : s.data.toList.drop (p + (kid k).text.length + 1) = toldText kid (k + 1) m := by
      have := drop_more (s := s) (p := p) (a := (kid k).text ++ [10]) (l := toldText kid (k + 1) m) (by rw [hl]; simp [toldText])
      rw [List.length_append, List.length_singleton] at this
      rw [← this]; rfl
    obtain ⟨ts2, g1, g2⟩ := ih (k + 1) (fun i a b => h i (by omega) (by omega)) (acc ++ ts) _ hl2
    refine ⟨ts ++ ts2, by rw [List.map_append, h1, g1]; rfl, ?_⟩
    rw [h2, brack_blank (.inr rfl), List.append_nil, g2, List.append_assoc]

/-- What is told is read as it was. -/
theorem read_back (ds : List D) (hb : datsB ds.length (kidsOf ds) = true) (s : ByteArray) (hs : s.data.toList = toldText (kidsOf ds) 0 ds.length) (h4 : s.size ≤ 4000) :
    ∃ ds', readP s = .ok ds' [] ∧ ds'.length = ds.length ∧ ∀ i, i < ds.length → LikeD (kidsOf ds' i) (kidsOf ds i) := by
  have hk : ∀ i, i < ds.length → rightB (kidsOf ds i) = true := by
    have h := hb
    unfold datsB at h
    rw [Bool.and_eq_true, allTo_true] at h
    intro i hi
    have := h.1 i hi
    rw [Bool.and_eq_true] at this
    exact this.2
  obtain ⟨ts, h1, h2⟩ := told_all (kidsOf ds) s ds.length 0 (fun i _ hi => hk i (by omega)) [] 0 (by simpa using hs)
  have h3 : toks s = (ts, -1) := by rw [rest_start s h4, h2]; rfl
  obtain ⟨ds', g1, g2, g3, g4⟩ := read_told s.size ds hb ts h1
  refine ⟨ds', ?_, g2, g3⟩
  unfold readP
  rw [h3]
  simp only [if_true]
  rw [g1]
  simp only
  rw [if_pos g4]
end Go.Proofs.YtafpbcdgcgffeabGreatDoor

/- Plain facts that laws.FnReads leans on: a datum is like itself; how long what is told is; where it does not fit is no place below 0. No conditions. -/
namespace Go.Proofs.YtafpbcdgcgffeabGreatDoor

theorem sameD_self (t : D) : sameD t t = true := by
  induction t with
  | no => simp [sameD, headB]
  | mk op a n s len kid ih =>
    rw [sameD_eq, Bool.and_eq_true]
    exact ⟨by simp [headB], allTo_true.2 fun i _ => ih i⟩

theorem told_snoc (kid : Nat → D) : ∀ (m k : Nat), toldText kid k (m + 1) = toldText kid k m ++ ((kid (k + m)).text ++ [10]) := by
  intro m
  induction m with
  | zero => intro k; simp [toldText]
  | succ m ih =>
    intro k
    have e : toldText kid k (m + 1 + 1) = (kid k).text ++ 10 :: toldText kid (k + 1) (m + 1) := rfl
    rw [e, ih (k + 1)]
    have e2 : toldText kid k (m + 1) = (kid k).text ++ 10 :: toldText kid (k + 1) m := rfl
    rw [e2, show k + 1 + m = k + (m + 1) from by omega]
    simp

theorem told_len (kid : Nat → D) (w : World) (n : Nat) (h : ∀ i, i < n → ∃ v, (kid i).In w v) : ∀ m, m ≤ n → (toldText kid 0 m).length ≤ 22 * sumTo (fun i => (kid i).count) m + sumTo (fun i => (kid i).weight) m := by
  intro m
  induction m with
  | zero => intro _; simp [toldText]
  | succ m ih =>
    intro hm
    have h1 := ih (by omega)
    obtain ⟨v, hv⟩ := h m (by omega)
    have h2 := D.text_len w (kid m) v hv
    rw [told_snoc]
    simp only [Nat.zero_add, List.length_append, List.length_singleton, sumTo]
    omega

def BadUp (o : List Tok → Rdr D) : Prop := ∀ l p, o l = .bad p → 0 ≤ p
theorem kidsL_up {E : Int} (hE : 0 ≤ E) {o : List Tok → Rdr D} (ho : BadUp o) : ∀ (m : Nat) (acc : List D) (l : List Tok) (p : Int), kidsL E o m acc l = .bad p → 0 ≤ p := by
  intro m
  induction m with
  | zero => intro acc l p h; simp only [kidsL] at h; injection h with h; omega
  | succ m ih =>
    intro acc l p h
    cases l with
    | nil => simp only [kidsL] at h; injection h with h; omega
    | cons t r =>
      unfold kidsL at h
      split at h
      · cases h
      · cases hr : o (t :: r) with
        | bad q => rw [hr] at h; injection h with h; rw [← h]; exact ho _ _ hr
        | ok d r1 => rw [hr] at h; exact ih _ _ _ h
theorem one_up {E : Int} (hE : 0 ≤ E) : ∀ f, BadUp (one E f) := by
  intro f
  induction f with
  | zero => intro l p h; simp only [one] at h; injection h with h; omega
  | succ f ih =>
    intro l p h
    cases l with
    | nil => simp only [one] at h; injection h with h; omega
    | cons t r =>
      unfold one at h
      split at h
      · cases h
      · split at h
        · cases h
        · split at h
          · injection h with h; omega
          · cases hk : kidsL E (one E f) (r.length + 1) [] r with
            | bad q => rw [hk] at h; injection h with h; rw [← h]; exact kidsL_up hE ih _ _ _ _ hk
            | ok ds r1 => rw [hk] at h; cases h
theorem restL_up {o : List Tok → Rdr D} (ho : BadUp o) : ∀ (m : Nat) (acc : List D) (l : List Tok) (p : Int), restL o m acc l = .bad p → 0 ≤ p := by
  intro m
  induction m with
  | zero => intro acc l p h; simp only [restL] at h; cases h
  | succ m ih =>
    intro acc l p h
    cases l with
    | nil => simp only [restL] at h; cases h
    | cons t r =>
      unfold restL at h
      cases hr : o (t :: r) with
      | bad q => rw [hr] at h; injection h with h; rw [← h]; exact ho _ _ hr
      | ok d r1 => rw [hr] at h; exact ih _ _ _ h

theorem readP_up (s : ByteArray) (p : Int) (h : readP s = .bad p) : 0 ≤ p := by
  unfold readP at h
  split at h
  · cases hr : readL s.size (toks s).1 with
    | bad q =>
      rw [hr] at h
      injection h with h
      rw [← h]
      exact restL_up (one_up (by omega) _) _ _ _ _ hr
    | ok ds r =>
      rw [hr] at h
      simp only at h
      split at h
      · cases h
      · injection h with h; omega
  · rename_i hne
    injection h with h
    rcases (toks_good s).2.2 with h1 | h1
    · exact absurd h1 hne
    · omega

theorem readP_right (s : ByteArray) (ds : List D) (r : List Tok) (h : readP s = .ok ds r) : datsB ds.length (kidsOf ds) = true := by
  unfold readP at h
  split at h
  · cases hr : readL s.size (toks s).1 with
    | bad p => rw [hr] at h; cases h
    | ok ds' r' =>
      rw [hr] at h
      simp only at h
      split at h
      · rename_i hd
        injection h with h1 _
        subst h1
        exact hd
      · cases h
  · cases h

theorem right_count {n : Nat} {kid : Nat → D} (h : datsB n kid = true) : sumTo (fun i => (kid i).count) n ≤ 1500 := by
  unfold datsB at h
  rw [Bool.and_eq_true] at h
  simpa using h.2
end Go.Proofs.YtafpbcdgcgffeabGreatDoor

/- Rows that are owned: the last elements left off; their room; a row that is new. No conditions. -/
namespace Go.Proofs.YtafpbcdgcgffeabGreatDoor
open Go.ChangeShapes Go.WideShapes Go.ChangeAt Go.RowKit

/-- A row of which the last elements are left off. -/
theorem own_cut {w : World} {base e size g n m cap : Nat} {xs ys : List Value} (h : w.ownsRow base e size (.slice (some ⟨g, 0, none⟩) m cap) m (xs ++ ys)) (hx : xs.length = n * size) (hm : n ≤ m) :
    w.ownsRow base e size (.slice (some ⟨g, 0, none⟩) n cap) n xs := by
  refine ⟨hx, ?_⟩
  rcases h.2 with ⟨h0, _⟩ | ⟨g', cap', cur, he, hbg, hgg, hc, hmx, hs, ht⟩
  · cases h0
  · injection he with h1 h2 h3
    injection h1 with h1
    injection h1 with h1
    subst h1 h3
    refine .inr ⟨_, _, cur, rfl, hbg, hgg, by omega, hmx, hs, ?_⟩
    have h9 := congrArg (List.take (n * size)) ht
    rw [List.take_take, Nat.min_eq_left (Nat.mul_le_mul_right _ hm), List.take_append_of_le_length (by omega)] at h9
    rw [h9, List.take_of_length_le (by omega)]

theorem own_room {w : World} {base e size g n cap : Nat} {xs : List Value} (h : w.ownsRow base e size (.slice (some ⟨g, 0, none⟩) n cap) n xs) : n ≤ cap ∧ cap ≤ maxLen ∧ base ≤ g ∧ g < w.heap.size := by
  rcases h.2 with ⟨h0, _⟩ | ⟨g', cap', cur, he, hbg, hgg, hc, hmx, hs, ht⟩
  · cases h0
  · injection he with h1 h2 h3
    injection h1 with h1
    injection h1 with h1
    subst h1 h3
    exact ⟨hc, hmx, hbg, (Array.getElem?_eq_some_iff.1 hgg).1⟩

/-- A row that is one block. -/
theorem own_new {w : World} {base e size cap g n : Nat} {cs : Array Value} {xs : List Value} (hcs : cs.toList = xs) (hg : w.heap.size = g) (hb : base ≤ g) (hl : xs.length = n * size) (hc : n = cap) (hm : cap ≤ maxLen) :
    (w.alloc (.cells cs e)).ownsRow base e size (.slice (some ⟨g, 0, none⟩) n cap) n xs := by
  subst hc hg hcs
  exact ⟨hl, .inr ⟨w.heap.size, n, cs, rfl, hb, heap_alloc_new w _, Nat.le_refl _, hm, by simpa using hl, by rw [← hl]; exact List.take_length⟩⟩
end Go.Proofs.YtafpbcdgcgffeabGreatDoor
