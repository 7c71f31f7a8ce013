/- Plain facts on what is written: the same but for places; its sets turned; how great it is. No conditions. -/
import Derived.Test.YtaflnjhknnnaoaaZG1SetsQ
import Derived.Below
import Derived.Deep.Slices
import Derived.ProofKit
import Derived.WalkKit
namespace Go.Proofs.Ytaflnjhknnnaoaa
open Go.ChangeShapes Go.WideShapes Go.ChangeAt Go.RowKit

/-- No set of more than 2^22. -/
def X.Small : X → Prop
  | .no => True
  | .mk _ _ _ _ set len kid => set.length ≤ 4194304 ∧ ∀ i, i < len → (kid i).Small
theorem X.small_of_weight (t : X) : t.weight ≤ 4194304 → t.Small := by
  induction t with
  | no => intro _; trivial
  | mk op a n s set len kid ih =>
    intro h
    have e : (X.mk op a n s set len kid).weight = s.size + (set.length + (len + sumX (fun i => (kid i).weight) len)) := rfl
    refine ⟨by omega, fun i hi => ih i ?_⟩
    have := sumX_at (fun i => (kid i).weight) i len hi
    omega

/-- All of the first k. -/
def allX (p : Nat → Bool) : Nat → Bool
  | 0 => true
  | k + 1 => allX p k && p k
theorem allX_true {p : Nat → Bool} {k : Nat} : allX p k = true ↔ ∀ i, i < k → p i = true := by
  induction k with
  | zero => simp [allX]
  | succ k ih =>
    simp only [allX, Bool.and_eq_true, ih]
    constructor
    · rintro ⟨h1, h2⟩ i hi
      rcases Nat.lt_or_ge i k with h | h
      · exact h1 i h
      · obtain rfl : i = k := by omega
        exact h2
    · intro h
      exact ⟨fun i hi => h i (by omega), h k (by omega)⟩
theorem allX_false {p : Nat → Bool} {n k : Nat} (hk : k < n) (h : p k = false) : allX p n = false := by
  cases e : allX p n with
  | false => rfl
  | true => rw [allX_true] at e; rw [e k hk] at h; cases h

/-- The same op, number, text, set and number of kids. -/
def headX (a b : X) : Bool := (a.op == b.op) && ((a.n == b.n) && ((a.s.toList == b.s.toList) && (sameB a.set b.set && (a.len == b.len))))
/-- The same but for places. -/
def sameX : X → X → Bool
  | .no, b => headX .no b
  | .mk op a n s set len kid, b => headX (.mk op a n s set len kid) b && allX (fun i => sameX (kid i) (b.kid i)) len
theorem sameX_eq (a b : X) : sameX a b = (headX a b && allX (fun i => sameX (a.kid i) (b.kid i)) a.len) := by
  cases a with
  | no => simp [sameX, X.len, allX]
  | mk op a n s set len kid => rfl

theorem bytes_injX {a b : ByteArray} (h : a.toList = b.toList) : a = b := by
  rw [ByteArray.toList_eq, ByteArray.toList_eq] at h
  cases a; cases b; simp only at h; congr; exact Array.toList_inj.1 h

/-- The tests ahead, one by one. -/
theorem headX_cases (a b : X) : (headX a b = true ∧ a.op = b.op ∧ a.n = b.n ∧ a.s = b.s ∧ sameB a.set b.set = true ∧ a.len = b.len) ∨
    (headX a b = false ∧ (a.op ≠ b.op ∨ (a.op = b.op ∧ (a.n ≠ b.n ∨ (a.n = b.n ∧ ((a.s.toList == b.s.toList) = false ∨ (a.s = b.s ∧ (sameB a.set b.set = false ∨ (sameB a.set b.set = true ∧ a.len ≠ b.len))))))))) := by
  unfold headX
  by_cases h1 : a.op = b.op
  · by_cases h2 : a.n = b.n
    · by_cases h3 : a.s.toList = b.s.toList
      · have h3' : a.s = b.s := bytes_injX h3
        cases h5 : sameB a.set b.set with
        | false => exact .inr (by simp [h1, h2, h3'])
        | true =>
          by_cases h4 : a.len = b.len
          · exact .inl (by simp [h1, h2, h3', h4])
          · exact .inr (by simp [h1, h2, h3', h4])
      · exact .inr (by simp [h1, h2, h3])
    · exact .inr (by simp [h1, h2])
  · exact .inr (by simp [h1])

theorem sameX_self (t : X) : sameX t t = true := by
  induction t with
  | no => simp [sameX, headX, same_self]
  | mk op a n s set len kid ih =>
    rw [sameX_eq]
    have h1 : headX (.mk op a n s set len kid) (.mk op a n s set len kid) = true := by simp [headX, same_self]
    rw [h1, Bool.true_and, allX_true]
    exact fun i _ => ih i

/-- Sets turned at symbols. -/
def X.turn (f : List Int → List Int) : X → X
  | .no => .no
  | .mk op a n s set len kid => .mk op a n s (if op = 2 then f set else set) len (fun i => (kid i).turn f)
def X.flip (t : X) (n : Int) : X := t.turn fun s => flipL s n
def X.withAll (t : X) (n : Int) : X := t.turn fun s => withL s n
theorem X.turn_mk (f : List Int → List Int) (op a n : Int) (s : ByteArray) (set : List Int) (len : Nat) (kid : Nat → X) : (X.mk op a n s set len kid).turn f = .mk op a n s (if op = 2 then f set else set) len (fun i => (kid i).turn f) := rfl
theorem X.turn_ne (f : List Int → List Int) (t : X) (h : t ≠ .no) : t.turn f ≠ .no := by
  cases t with
  | no => exact absurd rfl h
  | mk op a n s set len kid => intro e; cases e
theorem X.turn_count (f : List Int → List Int) (t : X) : (t.turn f).count = t.count := by
  induction t with
  | no => rfl
  | mk op a n s set len kid ih => rw [turn_mk]; unfold count; simp only [ih]

/-- All sets are right: at symbols sets, elsewhere none. -/
def X.setsB : X → Bool
  | .no => true
  | .mk op _ _ _ set len kid => allX (fun i => (kid i).setsB) len && ((decide (op = 2) && setB set) || decide (set.length = 0))
theorem X.setsB_mk (op a n : Int) (s : ByteArray) (set : List Int) (len : Nat) (kid : Nat → X) : (X.mk op a n s set len kid).setsB = (allX (fun i => (kid i).setsB) len && ((decide (op = 2) && setB set) || decide (set.length = 0))) := rfl

theorem setB_nil : setB [] = true := by simp [setB]
/-- Flipped twice it is as it was. -/
theorem X.flip_flip (t : X) (m : Int) : t.setsB = true → sameX ((t.flip m).flip m) t = true := by
  induction t with
  | no => intro _; exact sameX_self .no
  | mk op a n s set len kid ih =>
    intro h
    rw [setsB_mk, Bool.and_eq_true, allX_true] at h
    obtain ⟨hk, hs⟩ := h
    have hset : (if op = 2 then flipL (if op = 2 then flipL set m else set) m else (if op = 2 then flipL set m else set)) = set := by
      by_cases h2 : op = 2
      · simp only [if_pos h2]
        rcases Bool.or_eq_true _ _ ▸ hs with h3 | h3
        · rw [Bool.and_eq_true] at h3; exact Go.Proofs.Ytaflnjhknnnaoaa.flip_flip h3.2
        · have h0 : set = [] := List.eq_nil_of_length_eq_zero (of_decide_eq_true h3)
          subst h0
          exact Go.Proofs.Ytaflnjhknnnaoaa.flip_flip setB_nil
      · simp only [if_neg h2]
    have e : ((X.mk op a n s set len kid).flip m).flip m = .mk op a n s set len (fun i => ((kid i).flip m).flip m) := by
      unfold X.flip
      rw [turn_mk, turn_mk, hset]
    rw [e, sameX_eq]
    have h1 : headX (.mk op a n s set len (fun i => ((kid i).flip m).flip m)) (.mk op a n s set len kid) = true := by simp [headX, same_self, X.op, X.n, X.s, X.set, X.len]
    rw [h1, Bool.true_and, allX_true]
    exact fun i hi => ih i (hk i hi)

/-- How many numbers its sets have, in all. -/
def X.nums : X → Nat | .no => 0 | .mk _ _ _ _ set len kid => set.length + sumX (fun i => (kid i).nums) len
theorem sumX_le2 {f g : Nat → Nat} (h : ∀ i, f i ≤ g i) (k : Nat) : sumX f k ≤ sumX g k := by
  induction k with
  | zero => exact Nat.le_refl _
  | succ k ih => simp only [sumX]; have := h k; omega
theorem sumX_add (f g : Nat → Nat) (k : Nat) : sumX (fun i => f i + g i) k = sumX f k + sumX g k := by
  induction k with
  | zero => rfl
  | succ k ih => simp only [sumX, ih]; omega
theorem sumX_mul (c : Nat) (f : Nat → Nat) (k : Nat) : sumX (fun i => c * f i) k = c * sumX f k := by
  induction k with
  | zero => rfl
  | succ k ih => simp only [sumX, ih, Nat.mul_add]
theorem X.nums_weight (t : X) : t.nums ≤ t.weight := by
  induction t with
  | no => exact Nat.le_refl _
  | mk op a n s set len kid ih =>
    unfold nums weight
    have := sumX_le2 ih len
    omega
theorem X.turn_nums (f : List Int → List Int) (hf : ∀ s, (f s).length ≤ s.length + 1) (t : X) : (t.turn f).nums ≤ t.nums + t.count := by
  induction t with
  | no => simp [turn, nums]
  | mk op a n s set len kid ih =>
    rw [turn_mk]
    unfold nums count
    have h1 := sumX_le2 ih len
    rw [sumX_add] at h1
    have h2 := hf set
    by_cases h : op = 2
    · simp only [if_pos h]; omega
    · simp only [if_neg h]; omega
/-- No set of more than m. -/
def X.SetsLe (m : Nat) : X → Prop
  | .no => True
  | .mk _ _ _ _ set len kid => set.length ≤ m ∧ ∀ i, i < len → (kid i).SetsLe m
theorem X.setsLe_weight {m : Nat} (t : X) : t.weight ≤ m → t.SetsLe m := by
  induction t with
  | no => intro _; trivial
  | mk op a n s set len kid ih =>
    intro h
    have e : (X.mk op a n s set len kid).weight = s.size + (set.length + (len + sumX (fun i => (kid i).weight) len)) := rfl
    refine ⟨by omega, fun i hi => ih i ?_⟩
    have := sumX_at (fun i => (kid i).weight) i len hi
    omega
theorem X.SetsLe.small {m : Nat} (hm : m ≤ 4194304) (t : X) : t.SetsLe m → t.Small := by
  induction t with
  | no => intro _; trivial
  | mk op a n s set len kid ih => intro h; exact ⟨Nat.le_trans h.1 hm, fun i hi => ih i (h.2 i hi)⟩
theorem X.SetsLe.turn {m : Nat} {f : List Int → List Int} (hf : ∀ s, (f s).length ≤ s.length + 1) (t : X) : t.SetsLe m → (t.turn f).SetsLe (m + 1) := by
  induction t with
  | no => intro _; trivial
  | mk op a n s set len kid ih =>
    intro h
    refine ⟨?_, fun i hi => ih i (h.2 i hi)⟩
    have h1 := h.1
    have h2 := hf set
    by_cases h3 : op = 2
    · simp only [if_pos h3]; omega
    · simp only [if_neg h3]; omega
theorem X.turn_small {f : List Int → List Int} (hf : ∀ s, (f s).length ≤ s.length + 1) (t : X) (h : t.weight ≤ 1048576) : (t.turn f).Small := X.SetsLe.small (m := 1048577) (by omega) _ ((X.setsLe_weight t h).turn hf)
end Go.Proofs.Ytaflnjhknnnaoaa

/- What is read, as a tree, and how it lies in memory. No conditions. -/
namespace Go.Proofs.Ytaflnjhknnnaoaa
open Go.ChangeShapes Go.WideShapes Go.ChangeAt Go.RowKit

/-- A datum: its op, place, number and text, and its kids by their index. -/
inductive D where
  | no
  | mk (op at_ n : Int) (s : ByteArray) (len : Nat) (kid : Nat → D)

namespace D
def op : D → Int | .no => 0 | .mk x _ _ _ _ _ => x
def at_ : D → Int | .no => 0 | .mk _ x _ _ _ _ => x
def n : D → Int | .no => 0 | .mk _ _ x _ _ _ => x
def s : D → ByteArray | .no => ⟨#[]⟩ | .mk _ _ _ x _ _ => x
def len : D → Nat | .no => 0 | .mk _ _ _ _ x _ => x
def kid : D → Nat → D | .no => fun _ => .no | .mk _ _ _ _ _ x => x
end D
instance : Inhabited D := ⟨.no⟩

/-- The sum of the first k. -/
def sumTo (f : Nat → Nat) : Nat → Nat
  | 0 => 0
  | k + 1 => sumTo f k + f k

theorem sumTo_le (f : Nat → Nat) (j k : Nat) (h : j ≤ k) : sumTo f j ≤ sumTo f k := by
  induction k with
  | zero => simp at h; subst h; exact Nat.le_refl _
  | succ k ih =>
    rcases Nat.lt_or_ge j (k + 1) with h1 | h1
    · have := ih (by omega); simp only [sumTo]; omega
    · have : j = k + 1 := by omega
      subst this; exact Nat.le_refl _

theorem sumTo_at (f : Nat → Nat) (j k : Nat) (h : j < k) : sumTo f j + f j ≤ sumTo f k := sumTo_le f (j + 1) k h

/-- How many data there are, itself among them. -/
def D.count : D → Nat | .no => 1 | .mk _ _ _ _ len kid => 1 + sumTo (fun i => (kid i).count) len
/-- What is reckoned of it: the text's bytes and how many kids there are, all through. -/
def D.weight : D → Nat | .no => 0 | .mk _ _ _ s len kid => s.size + (len + sumTo (fun i => (kid i).weight) len)

def kidsWeight (len : Nat) (kid : Nat → D) : Nat := len + sumTo (fun i => (kid i).weight) len
theorem D.weight_eq (t : D) : t.weight = t.s.size + kidsWeight t.len t.kid := by cases t <;> rfl
theorem D.count_eq (t : D) : t.count = 1 + sumTo (fun i => (t.kid i).count) t.len := by cases t <;> rfl

theorem D.count_weight (t : D) : t.count ≤ 1 + t.weight := by
  induction t with
  | no => simp [count]
  | mk op a n s len kid ih =>
    unfold count weight
    have : ∀ k, sumTo (fun i => (kid i).count) k ≤ k + sumTo (fun i => (kid i).weight) k := by
      intro k
      induction k with
      | zero => simp [sumTo]
      | succ k ihk => simp only [sumTo]; have := ih k; omega
    have := this len
    omega

/-- Five cells from p on. -/
structure Head (w : World) (b p : Nat) (t : D) (v : Value) : Prop where
  c0 : w.cell? ⟨b, p, none⟩ = some (.int .i64 t.op)
  c1 : w.cell? ⟨b, p + 1, none⟩ = some (.int .i64 t.at_)
  c2 : w.cell? ⟨b, p + 2, none⟩ = some (.int .i64 t.n)
  c3 : w.cell? ⟨b, p + 3, none⟩ = some (.string t.s)
  c4 : w.cell? ⟨b, p + 4, none⟩ = some v

/-- v is the slice of a datum's kids, which lie in w, from block B on. -/
def D.InB (B : Nat) (w : World) : D → Value → Prop
  | .no, _ => False
  | .mk _ _ n s len kid, v => (s.size ≤ maxLen ∧ -9223372036854775808 ≤ n ∧ n ≤ 9223372036854775807) ∧
    ((len = 0 ∧ ∃ p cap, v = .slice p 0 cap) ∨
     ∃ (b o cap : Nat) (V : Nat → Value), v = .slice (some ⟨b, o, none⟩) len cap ∧ B ≤ b ∧ len ≤ cap ∧ cap ≤ maxLen ∧
       ∀ i, i < len → Head w b (o + i * 5) (kid i) (V i) ∧ (kid i).InB B w (V i))
abbrev D.In (w : World) (t : D) (v : Value) : Prop := t.InB 0 w v

/-- A slice of data that lie in w, from block B on. -/
def SlB (B : Nat) (w : World) (len : Nat) (kid : Nat → D) (v : Value) : Prop :=
  (len = 0 ∧ ∃ p cap, v = .slice p 0 cap) ∨
   ∃ (b o cap : Nat) (V : Nat → Value), v = .slice (some ⟨b, o, none⟩) len cap ∧ B ≤ b ∧ len ≤ cap ∧ cap ≤ maxLen ∧
     ∀ i, i < len → Head w b (o + i * 5) (kid i) (V i) ∧ (kid i).InB B w (V i)
abbrev Sl (w : World) (len : Nat) (kid : Nat → D) (v : Value) : Prop := SlB 0 w len kid v

theorem D.InB.sl {B : Nat} {w : World} {t : D} {v : Value} (h : t.InB B w v) : SlB B w t.len t.kid v := by
  cases t <;> unfold D.InB at h <;> first | exact h.elim | exact h.2
theorem D.InB.size {B : Nat} {w : World} {t : D} {v : Value} (h : t.InB B w v) : t.s.size ≤ maxLen := by
  cases t <;> unfold D.InB at h <;> first | exact h.elim | exact h.1.1
theorem D.InB.num {B : Nat} {w : World} {t : D} {v : Value} (h : t.InB B w v) : -9223372036854775808 ≤ t.n ∧ t.n ≤ 9223372036854775807 := by
  cases t <;> unfold D.InB at h <;> first | exact h.elim | exact h.1.2
theorem D.InB.mk' {B : Nat} {w : World} {op a n : Int} {s : ByteArray} {len : Nat} {kid : Nat → D} {v : Value} (h0 : s.size ≤ maxLen) (h1 : -9223372036854775808 ≤ n ∧ n ≤ 9223372036854775807) (h : SlB B w len kid v) : (D.mk op a n s len kid).InB B w v := by
  unfold D.InB; exact ⟨⟨h0, h1⟩, h⟩

theorem SlB.shape {B : Nat} {w : World} {len : Nat} {kid : Nat → D} {v : Value} (h : SlB B w len kid v) : ∃ p cap, v = .slice p len cap := by
  rcases h with ⟨rfl, p, cap, rfl⟩ | ⟨b, o, cap, V, rfl, _⟩
  · exact ⟨_, _, rfl⟩
  · exact ⟨_, _, rfl⟩

/-- Memory that is kept keeps what lies in it. -/
theorem Head.kept {w w' : World} {b p : Nat} {t : D} {v : Value} (h : Head w b p t v) (hk : ∀ a u, a.block = b → w.cell? a = some u → w'.cell? a = some u) : Head w' b p t v :=
  ⟨hk _ _ rfl h.c0, hk _ _ rfl h.c1, hk _ _ rfl h.c2, hk _ _ rfl h.c3, hk _ _ rfl h.c4⟩

theorem D.InB.kept {B : Nat} {w w' : World} (hk : ∀ a u, B ≤ a.block → w.cell? a = some u → w'.cell? a = some u) (t : D) : ∀ {v : Value}, t.InB B w v → t.InB B w' v := by
  induction t with
  | no => intro v h; exact h.elim
  | mk op a n s len kid ih =>
    intro v h
    unfold D.InB at h ⊢
    refine ⟨h.1, ?_⟩
    rcases h.2 with h0 | ⟨b, o, cap, V, h1, hB, h2, h3, h4⟩
    · exact .inl h0
    · exact .inr ⟨b, o, cap, V, h1, hB, h2, h3, fun i hi => ⟨(h4 i hi).1.kept (fun a u ha => hk a u (by omega)), ih i (h4 i hi).2⟩⟩

theorem SlB.kept {B : Nat} {w w' : World} (hk : ∀ a u, B ≤ a.block → w.cell? a = some u → w'.cell? a = some u) {len : Nat} {kid : Nat → D} {v : Value} (h : SlB B w len kid v) : SlB B w' len kid v := by
  rcases h with h0 | ⟨b, o, cap, V, h1, hB, h2, h3, h4⟩
  · exact .inl h0
  · exact .inr ⟨b, o, cap, V, h1, hB, h2, h3, fun i hi => ⟨(h4 i hi).1.kept (fun a u ha => hk a u (by omega)), D.InB.kept hk _ (h4 i hi).2⟩⟩

theorem D.InB.mono {B B' : Nat} (hB : B' ≤ B) {w : World} (t : D) : ∀ {v : Value}, t.InB B w v → t.InB B' w v := by
  induction t with
  | no => intro v h; exact h.elim
  | mk op a n s len kid ih =>
    intro v h
    unfold D.InB at h ⊢
    refine ⟨h.1, ?_⟩
    rcases h.2 with h0 | ⟨b, o, cap, V, h1, hb, h2, h3, h4⟩
    · exact .inl h0
    · exact .inr ⟨b, o, cap, V, h1, by omega, h2, h3, fun i hi => ⟨(h4 i hi).1, ih i (h4 i hi).2⟩⟩
theorem SlB.mono {B B' : Nat} (hB : B' ≤ B) {w : World} {len : Nat} {kid : Nat → D} {v : Value} (h : SlB B w len kid v) : SlB B' w len kid v := by
  rcases h with h0 | ⟨b, o, cap, V, h1, hb, h2, h3, h4⟩
  · exact .inl h0
  · exact .inr ⟨b, o, cap, V, h1, by omega, h2, h3, fun i hi => ⟨(h4 i hi).1, (h4 i hi).2.mono hB⟩⟩
theorem D.InB.all {B : Nat} {w : World} {t : D} {v : Value} (h : t.InB B w v) : t.In w v := h.mono (Nat.zero_le _)
theorem SlB.all {B : Nat} {w : World} {len : Nat} {kid : Nat → D} {v : Value} (h : SlB B w len kid v) : Sl w len kid v := h.mono (Nat.zero_le _)

theorem keeps {w w' : World} (hb : Below w.heap.size w w') (a : Addr) (u : Value) (h : w.cell? a = some u) : w'.cell? a = some u :=
  (hb.cell (World.block_lt_of_cell? w a h)).trans h

theorem D.InB.below {B : Nat} {w w' : World} (hb : Below w.heap.size w w') {t : D} {v : Value} (h : t.InB B w v) : t.InB B w' v := D.InB.kept (fun a u _ => keeps hb a u) t h
theorem SlB.below {B : Nat} {w w' : World} (hb : Below w.heap.size w w') {len : Nat} {kid : Nat → D} {v : Value} (h : SlB B w len kid v) : SlB B w' len kid v := SlB.kept (fun a u _ => keeps hb a u) h
theorem Head.below {w w' : World} (hb : Below w.heap.size w w') {b p : Nat} {t : D} {v : Value} (h : Head w b p t v) : Head w' b p t v := h.kept (fun a u _ => keeps hb a u)

/-- What is told of a slice of data, by index. -/
theorem SlB.at {B : Nat} {w : World} {len : Nat} {kid : Nat → D} {v : Value} (h : SlB B w len kid v) : ∃ p cap, v = .slice p len cap ∧ len ≤ maxLen ∧
    ∀ i, i < len → ∃ b o u, p = some ⟨b, o, none⟩ ∧ Head w b (o + i * 5) (kid i) u ∧ (kid i).InB B w u := by
  rcases h with ⟨rfl, p, cap, rfl⟩ | ⟨b, o, cap, V, rfl, hB, h1, h2, h3⟩
  · exact ⟨p, cap, rfl, Nat.zero_le _, fun i hi => by omega⟩
  · exact ⟨_, cap, rfl, Nat.le_trans h1 h2, fun i hi => ⟨b, o, V i, rfl, h3 i hi⟩⟩

theorem SlB.fn {B : Nat} {w : World} {len : Nat} {kid : Nat → D} {v : Value} (h : SlB B w len kid v) : ∃ (p : Option Addr) (cap : Nat) (V : Nat → Value), v = .slice p len cap ∧ len ≤ maxLen ∧
    ∀ i, i < len → ∃ b o, p = some ⟨b, o, none⟩ ∧ Head w b (o + i * 5) (kid i) (V i) ∧ (kid i).InB B w (V i) := by
  rcases h with ⟨rfl, p, cap, rfl⟩ | ⟨b, o, cap, V, rfl, hB, h1, h2, h3⟩
  · exact ⟨p, cap, fun _ => .bool false, rfl, Nat.zero_le _, fun i hi => by omega⟩
  · exact ⟨_, cap, V, rfl, Nat.le_trans h1 h2, fun i hi => ⟨b, o, rfl, h3 i hi⟩⟩

theorem newb (w : World) (o : Obj) : Below w.heap.size w (w.alloc o) := (Below.refl _ _).alloc (Nat.le_refl _) o

/-- A datum's value. -/
def D.val (t : D) (v : Value) : Value := .agg #[.int .i64 t.op, .int .i64 t.at_, .int .i64 t.n, .string t.s, v]

end Go.Proofs.Ytaflnjhknnnaoaa
