/- Plain facts on sets of numbers as ascending lists: with a number, without it, flipped. No conditions. -/
import Derived.Test.YtlclfmjpnchmbaaGreatRows
import Derived.WalkKit
import Derived.ProofKit
import Derived.OwnWalk
import Derived.Below
import Derived.Laws.OwnMore
import Derived.Deep.Slices
import Derived.Laws.ResultCell
namespace Go.Proofs.YtlclfmjpnchmbaaGreat

/-- The number is in the list. -/
def hasB (xs : List Int) (n : Int) : Bool := xs.any fun x => x == n
/-- Of the first k none is it. -/
theorem has_no {xs : List Int} {n : Int} (h : ∀ i, i < xs.length → (xs.getD i 0 == n) = false) : hasB xs n = false := by
  unfold hasB
  rw [List.any_eq_false]
  intro x hx
  obtain ⟨i, hi, rfl⟩ := List.mem_iff_getElem.1 hx
  have := h i hi
  rw [List.getD_eq_getElem?_getD, List.getElem?_eq_getElem hi, Option.getD_some] at this
  simp [this]
theorem has_yes {xs : List Int} {n : Int} (i : Nat) (hi : i < xs.length) (h : (xs.getD i 0 == n) = true) : hasB xs n = true := by
  unfold hasB
  rw [List.any_eq_true]
  rw [List.getD_eq_getElem?_getD, List.getElem?_eq_getElem hi, Option.getD_some] at h
  exact ⟨_, List.getElem_mem hi, h⟩
theorem has_iff (xs : List Int) (n : Int) : hasB xs n = true ↔ n ∈ xs := by
  unfold hasB
  rw [List.any_eq_true]
  constructor
  · rintro ⟨x, hx, h⟩
    have := eq_of_beq h
    subst this; exact hx
  · intro h; exact ⟨n, h, by simp⟩

/-- The i-th stands right: from 0 on, and behind the one ahead of it. -/
def standsB (xs : List Int) (i : Nat) : Bool := decide (0 ≤ xs.getD i 0) && (decide (i = 0) || decide (xs.getD (i - 1) 0 < xs.getD i 0))
/-- Ascending, each once, from 0 on. -/
def setB (xs : List Int) : Bool := (List.range xs.length).all fun i => standsB xs i
theorem set_yes {xs : List Int} (h : ∀ i, i < xs.length → standsB xs i = true) : setB xs = true := by
  unfold setB
  rw [List.all_eq_true]
  intro i hi
  exact h i (by simpa using hi)
theorem set_no {xs : List Int} (i : Nat) (hi : i < xs.length) (h : standsB xs i = false) : setB xs = false := by
  unfold setB
  rw [List.all_eq_false]
  exact ⟨i, by simpa using hi, by simp [h]⟩
theorem set_at {xs : List Int} (h : setB xs = true) (i : Nat) (hi : i < xs.length) : standsB xs i = true := by
  unfold setB at h
  rw [List.all_eq_true] at h
  exact h i (by simpa using hi)

/-- Where n is put in. -/
def placeL : List Int → Int → Nat
  | [], _ => 0
  | x :: r, n => if x < n then placeL r n + 1 else 0
theorem place_le (xs : List Int) (n : Int) : placeL xs n ≤ xs.length := by
  induction xs with
  | nil => simp [placeL]
  | cons x r ih => unfold placeL; split <;> simp; omega
theorem place_before (xs : List Int) (n : Int) : ∀ i, i < placeL xs n → xs.getD i 0 < n := by
  induction xs with
  | nil => intro i hi; simp [placeL] at hi
  | cons x r ih =>
    intro i hi
    unfold placeL at hi
    split at hi
    · rename_i hx
      match i with
      | 0 => simpa using hx
      | i + 1 => simpa using ih i (by omega)
    · omega
theorem place_is (xs : List Int) (n : Int) (k : Nat) (hk : k ≤ xs.length) (hb : ∀ i, i < k → xs.getD i 0 < n) (ha : k < xs.length → ¬ xs.getD k 0 < n) : placeL xs n = k := by
  induction xs generalizing k with
  | nil => simp at hk; simp [placeL, hk]
  | cons x r ih =>
    unfold placeL
    match k with
    | 0 =>
      have h0 : ¬ x < n := by simpa using ha (by simp)
      rw [if_neg h0]
    | k + 1 =>
      have h0 : x < n := by simpa using hb 0 (by omega)
      rw [if_pos h0, ih k (by simpa using hk) (fun i hi => by simpa using hb (i + 1) (by omega)) (fun h => by simpa using ha (by simpa using h))]

def withL (xs : List Int) (n : Int) : List Int := if hasB xs n = true then xs else xs.take (placeL xs n) ++ n :: xs.drop (placeL xs n)
def withoutL (xs : List Int) (n : Int) : List Int := xs.filter fun x => x != n
def flipL (xs : List Int) (n : Int) : List Int := if hasB xs n = true then withoutL xs n else withL xs n
def withinB (a b : List Int) : Bool := a.all fun x => hasB b x

theorem with_yes {xs : List Int} {n : Int} (h : hasB xs n = true) : withL xs n = xs := by unfold withL; rw [if_pos h]
theorem with_no {xs : List Int} {n : Int} (h : hasB xs n = false) : withL xs n = xs.take (placeL xs n) ++ n :: xs.drop (placeL xs n) := by unfold withL; rw [if_neg (by simp [h])]
theorem flip_yes {xs : List Int} {n : Int} (h : hasB xs n = true) : flipL xs n = withoutL xs n := by unfold flipL; rw [if_pos h]
theorem flip_no {xs : List Int} {n : Int} (h : hasB xs n = false) : flipL xs n = withL xs n := by unfold flipL; rw [if_neg (by simp [h])]
theorem with_len (xs : List Int) (n : Int) : (withL xs n).length ≤ xs.length + 1 := by
  unfold withL
  have := place_le xs n
  split
  · omega
  · simp; omega
theorem without_len (xs : List Int) (n : Int) : (withoutL xs n).length ≤ xs.length := List.length_filter_le _ _
theorem flip_len (xs : List Int) (n : Int) : (flipL xs n).length ≤ xs.length + 1 := by
  unfold flipL
  split
  · have := without_len xs n; omega
  · exact with_len xs n

theorem without_succ (xs : List Int) (n : Int) (k : Nat) (hk : k < xs.length) : withoutL (xs.take (k + 1)) n = withoutL (xs.take k) n ++ (if (xs.getD k 0 != n) = true then [xs.getD k 0] else []) := by
  unfold withoutL
  rw [List.take_add_one, List.getElem?_eq_getElem hk]
  have : xs.getD k 0 = xs[k] := by rw [List.getD_eq_getElem?_getD, List.getElem?_eq_getElem hk, Option.getD_some]
  rw [this, List.filter_append]
  congr 1
  simp only [Option.toList_some, List.filter_cons, List.filter_nil]

theorem within_yes {a b : List Int} (h : ∀ i, i < a.length → hasB b (a.getD i 0) = true) : withinB a b = true := by
  unfold withinB
  rw [List.all_eq_true]
  intro x hx
  obtain ⟨i, hi, rfl⟩ := List.mem_iff_getElem.1 hx
  have := h i hi
  rwa [List.getD_eq_getElem?_getD, List.getElem?_eq_getElem hi, Option.getD_some] at this
theorem within_no {a b : List Int} (i : Nat) (hi : i < a.length) (h : hasB b (a.getD i 0) = false) : withinB a b = false := by
  unfold withinB
  rw [List.all_eq_false]
  rw [List.getD_eq_getElem?_getD, List.getElem?_eq_getElem hi, Option.getD_some] at h
  exact ⟨_, List.getElem_mem hi, by simp [h]⟩

/-- The same, one by one. -/
def sameB (a b : List Int) : Bool := decide (a = b)
theorem same_len {a b : List Int} (h : a.length ≠ b.length) : sameB a b = false := by
  unfold sameB
  rw [decide_eq_false_iff_not]
  intro e; exact h (by rw [e])
theorem same_no {a b : List Int} (i : Nat) (h : a.getD i 0 ≠ b.getD i 0) : sameB a b = false := by
  unfold sameB
  rw [decide_eq_false_iff_not]
  intro e; exact h (by rw [e])
theorem same_yes {a b : List Int} (hl : a.length = b.length) (h : ∀ i, i < a.length → a.getD i 0 = b.getD i 0) : sameB a b = true := by
  unfold sameB
  rw [decide_eq_true_iff]
  apply List.ext_getElem hl
  intro i h1 h2
  have := h i h1
  rwa [List.getD_eq_getElem?_getD, List.getD_eq_getElem?_getD, List.getElem?_eq_getElem h1, List.getElem?_eq_getElem h2] at this
theorem same_self (a : List Int) : sameB a a = true := by simp [sameB]
end Go.Proofs.YtlclfmjpnchmbaaGreat

/- How slices of ints lie: to be read (Rd), and owned (Own). No conditions. -/
namespace Go.Proofs.YtlclfmjpnchmbaaGreat
open Go.ChangeShapes Go.WideShapes Go.ChangeAt Go.RowKit

/-- The slice v lies in w and holds xs. -/
def Rd (w : World) (v : Value) (xs : List Int) : Prop :=
  (v = .slice none 0 0 ∧ xs = []) ∨ ∃ b off cap, v = .slice (some ⟨b, off, none⟩) xs.length cap ∧ xs.length ≤ cap ∧ ∀ j, j < xs.length → w.cell? ⟨b, off + j, none⟩ = some (.int .i64 (xs.getD j 0))

theorem Rd.shape {w : World} {v : Value} {xs : List Int} (h : Rd w v xs) :
    ∃ a cap, v = .slice a xs.length cap ∧ ∀ j, j < xs.length → ∃ b off, a = some ⟨b, off, none⟩ ∧ w.cell? ⟨b, off + j, none⟩ = some (.int .i64 (xs.getD j 0)) := by
  rcases h with ⟨rfl, rfl⟩ | ⟨b, off, cap, rfl, _, hc⟩
  · exact ⟨none, 0, rfl, fun j hj => by simp at hj⟩
  · exact ⟨_, cap, rfl, fun j hj => ⟨b, off, rfl, hc j hj⟩⟩

theorem Rd.below {w w' : World} {v : Value} {xs : List Int} (h : Rd w v xs) (hb : Below w.heap.size w w') : Rd w' v xs := by
  rcases h with h | ⟨b, off, cap, rfl, hl, hc⟩
  · exact .inl h
  · exact .inr ⟨b, off, cap, rfl, hl, fun j hj => (hb.cell (World.block_lt_of_cell? w _ (hc j hj))).trans (hc j hj)⟩

/-- The slice v is a row of its own, from block base on, and holds xs. -/
def Own (w : World) (base : Nat) (v : Value) (xs : List Int) : Prop := w.ownsRow base 3 1 v xs.length (xs.map (Value.int .i64))

theorem Own.rd {w : World} {base : Nat} {v : Value} {xs : List Int} (h : Own w base v xs) : Rd w v xs := by
  have h' := h
  rcases h.2 with ⟨rfl, hn⟩ | ⟨g, cap, cur, rfl, hbg, hg, hnc, _⟩
  · exact .inl ⟨rfl, List.eq_nil_of_length_eq_zero hn⟩
  · refine .inr ⟨g, 0, cap, rfl, hnc, fun j hj => ?_⟩
    rw [Nat.zero_add, World.ownsRow.cellAt h' j (by omega)]
    simp [List.getElem?_eq_getElem hj]

theorem Own.below {w w' : World} {base : Nat} {v : Value} {xs : List Int} (h : Own w base v xs) (hb : Below w.heap.size w w') : Own w' base v xs :=
  World.ownsRow.kept (row := none) h ⟨hb.os, hb.tape, hb.output, hb.size, fun k hk _ => hb.block k hk⟩ (by
    cases hv : v.ownBlock with
    | none => exact .inl rfl
    | some k => exact .inr (by simp))

theorem Own.mono {w : World} {base base' : Nat} {v : Value} {xs : List Int} (h : Own w base v xs) (hb : base' ≤ base) : Own w base' v xs := by
  refine ⟨h.1, ?_⟩
  rcases h.2 with h | ⟨g, cap, cur, rfl, hbg, rest⟩
  · exact .inl h
  · exact .inr ⟨g, cap, cur, rfl, Nat.le_trans hb hbg, rest⟩

theorem new_below (w : World) (o : Obj) : Below w.heap.size w (w.alloc o) := (Below.refl _ _).alloc (Nat.le_refl _) o

theorem getD_int (xs : List Int) (k : Nat) (h : k < xs.length) : xs.getD k 0 = xs[k] := by
  rw [List.getD_eq_getElem?_getD, List.getElem?_eq_getElem h, Option.getD_some]
end Go.Proofs.YtlclfmjpnchmbaaGreat

/- What is written, as a tree, and how it lies in memory. No conditions. -/
namespace Go.Proofs.YtlclfmjpnchmbaaGreat
open Go.ChangeShapes Go.WideShapes Go.ChangeAt Go.RowKit

/-- Syntax: its op, place, number and text, its set, and its kids by their index. -/
inductive X where
  | no
  | mk (op at_ n : Int) (s : ByteArray) (set : List Int) (len : Nat) (kid : Nat → X)

namespace X
def op : X → Int | .no => 0 | .mk x _ _ _ _ _ _ => x
def at_ : X → Int | .no => 0 | .mk _ x _ _ _ _ _ => x
def n : X → Int | .no => 0 | .mk _ _ x _ _ _ _ => x
def s : X → ByteArray | .no => ⟨#[]⟩ | .mk _ _ _ x _ _ _ => x
def set : X → List Int | .no => [] | .mk _ _ _ _ x _ _ => x
def len : X → Nat | .no => 0 | .mk _ _ _ _ _ x _ => x
def kid : X → Nat → X | .no => fun _ => .no | .mk _ _ _ _ _ _ x => x
end X
instance : Inhabited X := ⟨.no⟩

/-- The sum of the first k. -/
def sumX (f : Nat → Nat) : Nat → Nat
  | 0 => 0
  | k + 1 => sumX f k + f k
theorem sumX_le (f : Nat → Nat) (j k : Nat) (h : j ≤ k) : sumX f j ≤ sumX f k := by
  induction k with
  | zero => simp at h; subst h; exact Nat.le_refl _
  | succ k ih =>
    rcases Nat.lt_or_ge j (k + 1) with h1 | h1
    · have := ih (by omega); simp only [sumX]; omega
    · have : j = k + 1 := by omega
      subst this; exact Nat.le_refl _
theorem sumX_at (f : Nat → Nat) (j k : Nat) (h : j < k) : sumX f j + f j ≤ sumX f k := sumX_le f (j + 1) k h

/-- How much of it there is, itself among it. -/
def X.count : X → Nat | .no => 1 | .mk _ _ _ _ _ len kid => 1 + sumX (fun i => (kid i).count) len
/-- What is reckoned of it: the text's bytes, the set's numbers and how many kids there are, all through. -/
def X.weight : X → Nat | .no => 0 | .mk _ _ _ s set len kid => s.size + (set.length + (len + sumX (fun i => (kid i).weight) len))
def kidsWeightX (len : Nat) (kid : Nat → X) : Nat := len + sumX (fun i => (kid i).weight) len
theorem X.weight_eq (t : X) : t.weight = t.s.size + (t.set.length + kidsWeightX t.len t.kid) := by cases t <;> rfl
theorem X.count_eq (t : X) : t.count = 1 + sumX (fun i => (t.kid i).count) t.len := by cases t <;> rfl
theorem X.count_weight (t : X) : t.count ≤ 1 + t.weight := by
  induction t with
  | no => simp [count]
  | mk op a n s set len kid ih =>
    unfold count weight
    have : ∀ k, sumX (fun i => (kid i).count) k ≤ k + sumX (fun i => (kid i).weight) k := by
      intro k
      induction k with
      | zero => simp [sumX]
      | succ k ihk => simp only [sumX]; have := ih k; omega
    have := this len
    omega

/-- Six cells from p on. -/
structure Head6 (w : World) (b p : Nat) (t : X) (sv v : Value) : Prop where
  c0 : w.cell? ⟨b, p, none⟩ = some (.int .i64 t.op)
  c1 : w.cell? ⟨b, p + 1, none⟩ = some (.int .i64 t.at_)
  c2 : w.cell? ⟨b, p + 2, none⟩ = some (.int .i64 t.n)
  c3 : w.cell? ⟨b, p + 3, none⟩ = some (.string t.s)
  c4 : w.cell? ⟨b, p + 4, none⟩ = some sv
  c5 : w.cell? ⟨b, p + 5, none⟩ = some v

/-- sv and v are the slices of its set (as R says) and of its kids, which lie in w, from block B on. -/
def X.InB (R : World → Value → List Int → Prop) (B : Nat) (w : World) : X → Value → Value → Prop
  | .no, _, _ => False
  | .mk _ _ n s set len kid, sv, v => (s.size ≤ maxLen ∧ (-9223372036854775808 ≤ n ∧ n ≤ 9223372036854775807) ∧ set.length ≤ maxLen) ∧ R w sv set ∧
    ((len = 0 ∧ ∃ p cap, v = .slice p 0 cap) ∨
     ∃ (b o cap : Nat) (U V : Nat → Value), v = .slice (some ⟨b, o, none⟩) len cap ∧ B ≤ b ∧ len ≤ cap ∧ cap ≤ maxLen ∧
       ∀ i, i < len → Head6 w b (o + i * 6) (kid i) (U i) (V i) ∧ (kid i).InB R B w (U i) (V i))

/-- A slice of syntax that lies in w, from block B on. -/
def XsB (R : World → Value → List Int → Prop) (B : Nat) (w : World) (len : Nat) (kid : Nat → X) (v : Value) : Prop :=
  (len = 0 ∧ ∃ p cap, v = .slice p 0 cap) ∨
   ∃ (b o cap : Nat) (U V : Nat → Value), v = .slice (some ⟨b, o, none⟩) len cap ∧ B ≤ b ∧ len ≤ cap ∧ cap ≤ maxLen ∧
     ∀ i, i < len → Head6 w b (o + i * 6) (kid i) (U i) (V i) ∧ (kid i).InB R B w (U i) (V i)

theorem X.InB.xs {R : World → Value → List Int → Prop} {B : Nat} {w : World} {t : X} {sv v : Value} (h : t.InB R B w sv v) : XsB R B w t.len t.kid v := by
  cases t <;> unfold X.InB at h <;> first | exact h.elim | exact h.2.2
theorem X.InB.sets {R : World → Value → List Int → Prop} {B : Nat} {w : World} {t : X} {sv v : Value} (h : t.InB R B w sv v) : R w sv t.set := by
  cases t <;> unfold X.InB at h <;> first | exact h.elim | exact h.2.1
theorem X.InB.size {R : World → Value → List Int → Prop} {B : Nat} {w : World} {t : X} {sv v : Value} (h : t.InB R B w sv v) : t.s.size ≤ maxLen := by
  cases t <;> unfold X.InB at h <;> first | exact h.elim | exact h.1.1
theorem X.InB.num {R : World → Value → List Int → Prop} {B : Nat} {w : World} {t : X} {sv v : Value} (h : t.InB R B w sv v) : -9223372036854775808 ≤ t.n ∧ t.n ≤ 9223372036854775807 := by
  cases t <;> unfold X.InB at h <;> first | exact h.elim | exact h.1.2.1
theorem X.InB.setLen {R : World → Value → List Int → Prop} {B : Nat} {w : World} {t : X} {sv v : Value} (h : t.InB R B w sv v) : t.set.length ≤ maxLen := by
  cases t <;> unfold X.InB at h <;> first | exact h.elim | exact h.1.2.2
theorem X.InB.mk' {R : World → Value → List Int → Prop} {B : Nat} {w : World} {op a n : Int} {s : ByteArray} {set : List Int} {len : Nat} {kid : Nat → X} {sv v : Value} (h0 : s.size ≤ maxLen) (h1 : -9223372036854775808 ≤ n ∧ n ≤ 9223372036854775807) (h2 : set.length ≤ maxLen) (hs : R w sv set) (h : XsB R B w len kid v) : (X.mk op a n s set len kid).InB R B w sv v := by
  unfold X.InB; exact ⟨⟨h0, h1, h2⟩, hs, h⟩

theorem XsB.shape {R : World → Value → List Int → Prop} {B : Nat} {w : World} {len : Nat} {kid : Nat → X} {v : Value} (h : XsB R B w len kid v) : ∃ p cap, v = .slice p len cap := by
  rcases h with ⟨rfl, p, cap, rfl⟩ | ⟨b, o, cap, U, V, rfl, _⟩
  · exact ⟨_, _, rfl⟩
  · exact ⟨_, _, rfl⟩

/-- Memory that is kept keeps what lies in it. -/
theorem Head6.kept {w w' : World} {b p : Nat} {t : X} {sv v : Value} (h : Head6 w b p t sv v) (hk : ∀ a u, a.block = b → w.cell? a = some u → w'.cell? a = some u) : Head6 w' b p t sv v :=
  ⟨hk _ _ rfl h.c0, hk _ _ rfl h.c1, hk _ _ rfl h.c2, hk _ _ rfl h.c3, hk _ _ rfl h.c4, hk _ _ rfl h.c5⟩

theorem X.InB.kept {R R' : World → Value → List Int → Prop} {B B' : Nat} {w w' : World} (hB : B' ≤ B) (hk : ∀ a u, B ≤ a.block → w.cell? a = some u → w'.cell? a = some u) (hR : ∀ v xs, R w v xs → R' w' v xs) (t : X) : ∀ {sv v : Value}, t.InB R B w sv v → t.InB R' B' w' sv v := by
  induction t with
  | no => intro sv v h; exact h.elim
  | mk op a n s set len kid ih =>
    intro sv v h
    unfold X.InB at h ⊢
    refine ⟨h.1, hR _ _ h.2.1, ?_⟩
    rcases h.2.2 with h0 | ⟨b, o, cap, U, V, h1, hb, h2, h3, h4⟩
    · exact .inl h0
    · exact .inr ⟨b, o, cap, U, V, h1, by omega, h2, h3, fun i hi => ⟨(h4 i hi).1.kept (fun a u ha => hk a u (by omega)), ih i (h4 i hi).2⟩⟩
theorem XsB.kept {R R' : World → Value → List Int → Prop} {B B' : Nat} {w w' : World} (hB : B' ≤ B) (hk : ∀ a u, B ≤ a.block → w.cell? a = some u → w'.cell? a = some u) (hR : ∀ v xs, R w v xs → R' w' v xs) {len : Nat} {kid : Nat → X} {v : Value} (h : XsB R B w len kid v) : XsB R' B' w' len kid v := by
  rcases h with h0 | ⟨b, o, cap, U, V, h1, hb, h2, h3, h4⟩
  · exact .inl h0
  · exact .inr ⟨b, o, cap, U, V, h1, by omega, h2, h3, fun i hi => ⟨(h4 i hi).1.kept (fun a u ha => hk a u (by omega)), X.InB.kept hB hk hR _ (h4 i hi).2⟩⟩

theorem keepsX {w w' : World} (hb : Below w.heap.size w w') (a : Addr) (u : Value) (h : w.cell? a = some u) : w'.cell? a = some u :=
  (hb.cell (World.block_lt_of_cell? w a h)).trans h
theorem Head6.below {w w' : World} (hb : Below w.heap.size w w') {b p : Nat} {t : X} {sv v : Value} (h : Head6 w b p t sv v) : Head6 w' b p t sv v := h.kept (fun a u _ => keepsX hb a u)

/-- How a set lies: to be read, its first cells alone known. -/
def SetR (w : World) (v : Value) (xs : List Int) : Prop :=
  ∃ a cap, v = .slice a xs.length cap ∧ ∀ j, j < xs.length → ∃ b off, a = some ⟨b, off, none⟩ ∧ w.cell? ⟨b, off + j, none⟩ = some (.int .i64 (xs.getD j 0))
/-- .. in a row from block B on. -/
def SetB (B : Nat) (w : World) (v : Value) (xs : List Int) : Prop :=
  (v = .slice none 0 0 ∧ xs = []) ∨ ∃ b off cap, v = .slice (some ⟨b, off, none⟩) xs.length cap ∧ B ≤ b ∧ xs.length ≤ cap ∧ ∀ j, j < xs.length → w.cell? ⟨b, off + j, none⟩ = some (.int .i64 (xs.getD j 0))

theorem SetB.rd {B : Nat} {w : World} {v : Value} {xs : List Int} (h : SetB B w v xs) : Rd w v xs := by
  rcases h with h | ⟨b, off, cap, h1, _, h2, h3⟩
  · exact .inl h
  · exact .inr ⟨b, off, cap, h1, h2, h3⟩
theorem SetB.r {B : Nat} {w : World} {v : Value} {xs : List Int} (h : SetB B w v xs) : SetR w v xs := h.rd.shape
theorem SetB.kept {B B' : Nat} {w w' : World} (hB : B' ≤ B) (hk : ∀ a u, B ≤ a.block → w.cell? a = some u → w'.cell? a = some u) {v : Value} {xs : List Int} (h : SetB B w v xs) : SetB B' w' v xs := by
  rcases h with h | ⟨b, off, cap, h1, hb, h2, h3⟩
  · exact .inl h
  · exact .inr ⟨b, off, cap, h1, by omega, h2, fun j hj => hk _ _ (by exact hb) (h3 j hj)⟩
theorem SetR.below {w w' : World} (hb : Below w.heap.size w w') {v : Value} {xs : List Int} (h : SetR w v xs) : SetR w' v xs := by
  obtain ⟨a, cap, rfl, hc⟩ := h
  refine ⟨a, cap, rfl, fun j hj => ?_⟩
  obtain ⟨b, off, e, h⟩ := hc j hj
  exact ⟨b, off, e, keepsX hb _ _ h⟩
theorem SetR.shape {w : World} {v : Value} {xs : List Int} (h : SetR w v xs) : ∃ p cap, v = .slice p xs.length cap := by
  obtain ⟨a, cap, e, _⟩ := h
  exact ⟨a, cap, e⟩
theorem SetB.shape {B : Nat} {w : World} {v : Value} {xs : List Int} (h : SetB B w v xs) : ∃ p cap, v = .slice p xs.length cap := h.r.shape
theorem Own.setB {w : World} {base B : Nat} {v : Value} {xs : List Int} (h : Own w base v xs) (hB : B ≤ base) : SetB B w v xs := by
  have h' := h
  rcases h.2 with ⟨rfl, hn⟩ | ⟨g, cap, cur, rfl, hbg, hg, hnc, _⟩
  · exact .inl ⟨rfl, List.eq_nil_of_length_eq_zero hn⟩
  · refine .inr ⟨g, 0, cap, rfl, by omega, hnc, fun j hj => ?_⟩
    rw [Nat.zero_add, World.ownsRow.cellAt h' j (by omega)]
    simp [List.getElem?_eq_getElem hj]

/-- Syntax that came in; syntax whose sets lie as rows do, from block B on; and slices of them. -/
abbrev X.Of (w : World) (t : X) (sv v : Value) : Prop := t.InB SetR 0 w sv v
abbrev X.At (B : Nat) (w : World) (t : X) (sv v : Value) : Prop := t.InB (SetB B) B w sv v
abbrev XsOf (w : World) (len : Nat) (kid : Nat → X) (v : Value) : Prop := XsB SetR 0 w len kid v
abbrev XsAt (B : Nat) (w : World) (len : Nat) (kid : Nat → X) (v : Value) : Prop := XsB (SetB B) B w len kid v

theorem X.Of.below {w w' : World} (hb : Below w.heap.size w w') {t : X} {sv v : Value} (h : t.Of w sv v) : t.Of w' sv v := X.InB.kept (Nat.le_refl _) (fun a u _ => keepsX hb a u) (fun _ _ h => h.below hb) t h
theorem XsOf.below {w w' : World} (hb : Below w.heap.size w w') {len : Nat} {kid : Nat → X} {v : Value} (h : XsOf w len kid v) : XsOf w' len kid v := XsB.kept (Nat.le_refl _) (fun a u _ => keepsX hb a u) (fun _ _ h => h.below hb) h
theorem X.At.kept {B B' : Nat} {w w' : World} (hB : B' ≤ B) (hk : ∀ a u, B ≤ a.block → w.cell? a = some u → w'.cell? a = some u) {t : X} {sv v : Value} (h : t.At B w sv v) : t.At B' w' sv v := X.InB.kept hB hk (fun _ _ h => h.kept hB hk) t h
theorem XsAt.kept {B B' : Nat} {w w' : World} (hB : B' ≤ B) (hk : ∀ a u, B ≤ a.block → w.cell? a = some u → w'.cell? a = some u) {len : Nat} {kid : Nat → X} {v : Value} (h : XsAt B w len kid v) : XsAt B' w' len kid v := XsB.kept hB hk (fun _ _ h => h.kept hB hk) h
theorem X.At.below {B : Nat} {w w' : World} (hb : Below w.heap.size w w') {t : X} {sv v : Value} (h : t.At B w sv v) : t.At B w' sv v := X.At.kept (Nat.le_refl _) (fun a u _ => keepsX hb a u) h
theorem XsAt.below {B : Nat} {w w' : World} (hb : Below w.heap.size w w') {len : Nat} {kid : Nat → X} {v : Value} (h : XsAt B w len kid v) : XsAt B w' len kid v := XsAt.kept (Nat.le_refl _) (fun a u _ => keepsX hb a u) h
theorem X.At.mono {B B' : Nat} {w : World} (hB : B' ≤ B) {t : X} {sv v : Value} (h : t.At B w sv v) : t.At B' w sv v := X.At.kept hB (fun _ _ _ h => h) h
theorem XsAt.mono {B B' : Nat} {w : World} (hB : B' ≤ B) {len : Nat} {kid : Nat → X} {v : Value} (h : XsAt B w len kid v) : XsAt B' w len kid v := XsAt.kept hB (fun _ _ _ h => h) h
theorem X.At.of {B : Nat} {w : World} {t : X} {sv v : Value} (h : t.At B w sv v) : t.Of w sv v := X.InB.kept (Nat.zero_le _) (fun _ _ _ h => h) (fun _ _ h => h.r) t h
theorem XsAt.of {B : Nat} {w : World} {len : Nat} {kid : Nat → X} {v : Value} (h : XsAt B w len kid v) : XsOf w len kid v := XsB.kept (Nat.zero_le _) (fun _ _ _ h => h) (fun _ _ h => h.r) h

/-- What is told of a slice of syntax, by index. -/
theorem XsB.at {R : World → Value → List Int → Prop} {B : Nat} {w : World} {len : Nat} {kid : Nat → X} {v : Value} (h : XsB R B w len kid v) : ∃ p cap, v = .slice p len cap ∧ len ≤ maxLen ∧
    ∀ i, i < len → ∃ b o sv u, p = some ⟨b, o, none⟩ ∧ Head6 w b (o + i * 6) (kid i) sv u ∧ (kid i).InB R B w sv u := by
  rcases h with ⟨rfl, p, cap, rfl⟩ | ⟨b, o, cap, U, V, rfl, hB, h1, h2, h3⟩
  · exact ⟨p, cap, rfl, Nat.zero_le _, fun i hi => by omega⟩
  · exact ⟨_, cap, rfl, Nat.le_trans h1 h2, fun i hi => ⟨b, o, U i, V i, rfl, h3 i hi⟩⟩
end Go.Proofs.YtlclfmjpnchmbaaGreat
