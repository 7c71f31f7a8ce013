/- What is read, as a tree, and how it lies in memory. No conditions. -/
import Derived.Test.YtgbfflpdpfgnbaaGreatZG6StxP
import Derived.Test.YtgbfflpdpfgnbaaGreatRows
import Derived.Below
import Derived.Deep.Slices
import Derived.ProofKit
import Derived.WalkKit
import Derived.Deep.QuietTactic
import Derived.BigQuiet
import Derived.Laws.BitsLemmas
import Derived.Lib.SmallJoins
namespace Go.Proofs.YtgbfflpdpfgnbaaGreat
open Go.ChangeShapes Go.WideShapes Go.ChangeAt Go.RowKit

/-- A datum: its op, place, number and text, and its kids by their index. -/
inductive D where
  | no
  | mk (op at_ n : Int) (s : ByteArray) (len : Nat) (kid : Nat → D)

namespace D
def op : D → Int | .no => 0 | .mk x _ _ _ _ _ => x
def at_ : D → Int | .no => 0 | .mk _ x _ _ _ _ => x
def n : D → Int | .no => 0 | .mk _ _ x _ _ _ => x
def s : D → ByteArray | .no => ⟨#[]⟩ | .mk _ _ _ x _ _ => x
def len : D → Nat | .no => 0 | .mk _ _ _ _ x _ => x
def kid : D → Nat → D | .no => fun _ => .no | .mk _ _ _ _ _ x => x
end D
instance : Inhabited D := ⟨.no⟩

/-- The sum of the first k. -/
def sumTo (f : Nat → Nat) : Nat → Nat
  | 0 => 0
  | k + 1 => sumTo f k + f k

theorem sumTo_le (f : Nat → Nat) (j k : Nat) (h : j ≤ k) : sumTo f j ≤ sumTo f k := by
  induction k with
  | zero => simp at h; subst h; exact Nat.le_refl _
  | succ k ih =>
    rcases Nat.lt_or_ge j (k + 1) with h1 | h1
    · have := ih (by omega); simp only [sumTo]; omega
    · have : j = k + 1 := by omega
      subst this; exact Nat.le_refl _

theorem sumTo_at (f : Nat → Nat) (j k : Nat) (h : j < k) : sumTo f j + f j ≤ sumTo f k := sumTo_le f (j + 1) k h

/-- How many data there are, itself among them. -/
def D.count : D → Nat | .no => 1 | .mk _ _ _ _ len kid => 1 + sumTo (fun i => (kid i).count) len
/-- What is reckoned of it: the text's bytes and how many kids there are, all through. -/
def D.weight : D → Nat | .no => 0 | .mk _ _ _ s len kid => s.size + (len + sumTo (fun i => (kid i).weight) len)

def kidsWeight (len : Nat) (kid : Nat → D) : Nat := len + sumTo (fun i => (kid i).weight) len
theorem D.weight_eq (t : D) : t.weight = t.s.size + kidsWeight t.len t.kid := by cases t <;> rfl
theorem D.count_eq (t : D) : t.count = 1 + sumTo (fun i => (t.kid i).count) t.len := by cases t <;> rfl

theorem D.count_weight (t : D) : t.count ≤ 1 + t.weight := by
  induction t with
  | no => simp [count]
  | mk op a n s len kid ih =>
    unfold count weight
    have : ∀ k, sumTo (fun i => (kid i).count) k ≤ k + sumTo (fun i => (kid i).weight) k := by
      intro k
      induction k with
      | zero => simp [sumTo]
      | succ k ihk => simp only [sumTo]; have := ih k; omega
    have := this len
    omega

/-- Five cells from p on. -/
structure Head (w : World) (b p : Nat) (t : D) (v : Value) : Prop where
  c0 : w.cell? ⟨b, p, none⟩ = some (.int .i64 t.op)
  c1 : w.cell? ⟨b, p + 1, none⟩ = some (.int .i64 t.at_)
  c2 : w.cell? ⟨b, p + 2, none⟩ = some (.int .i64 t.n)
  c3 : w.cell? ⟨b, p + 3, none⟩ = some (.string t.s)
  c4 : w.cell? ⟨b, p + 4, none⟩ = some v

/-- v is the slice of a datum's kids, which lie in w, from block B on. -/
def D.InB (B : Nat) (w : World) : D → Value → Prop
  | .no, _ => False
  | .mk _ _ n s len kid, v => (s.size ≤ maxLen ∧ -9223372036854775808 ≤ n ∧ n ≤ 9223372036854775807) ∧
    ((len = 0 ∧ ∃ p cap, v = .slice p 0 cap) ∨
     ∃ (b o cap : Nat) (V : Nat → Value), v = .slice (some ⟨b, o, none⟩) len cap ∧ B ≤ b ∧ len ≤ cap ∧ cap ≤ maxLen ∧
       ∀ i, i < len → Head w b (o + i * 5) (kid i) (V i) ∧ (kid i).InB B w (V i))
abbrev D.In (w : World) (t : D) (v : Value) : Prop := t.InB 0 w v

/-- A slice of data that lie in w, from block B on. -/
def SlB (B : Nat) (w : World) (len : Nat) (kid : Nat → D) (v : Value) : Prop :=
  (len = 0 ∧ ∃ p cap, v = .slice p 0 cap) ∨
   ∃ (b o cap : Nat) (V : Nat → Value), v = .slice (some ⟨b, o, none⟩) len cap ∧ B ≤ b ∧ len ≤ cap ∧ cap ≤ maxLen ∧
     ∀ i, i < len → Head w b (o + i * 5) (kid i) (V i) ∧ (kid i).InB B w (V i)
abbrev Sl (w : World) (len : Nat) (kid : Nat → D) (v : Value) : Prop := SlB 0 w len kid v

theorem D.InB.sl {B : Nat} {w : World} {t : D} {v : Value} (h : t.InB B w v) : SlB B w t.len t.kid v := by
  cases t <;> unfold D.InB at h <;> first | exact h.elim | exact h.2
theorem D.InB.size {B : Nat} {w : World} {t : D} {v : Value} (h : t.InB B w v) : t.s.size ≤ maxLen := by
  cases t <;> unfold D.InB at h <;> first | exact h.elim | exact h.1.1
theorem D.InB.num {B : Nat} {w : World} {t : D} {v : Value} (h : t.InB B w v) : -9223372036854775808 ≤ t.n ∧ t.n ≤ 9223372036854775807 := by
  cases t <;> unfold D.InB at h <;> first | exact h.elim | exact h.1.2
theorem D.InB.mk' {B : Nat} {w : World} {op a n : Int} {s : ByteArray} {len : Nat} {kid : Nat → D} {v : Value} (h0 : s.size ≤ maxLen) (h1 : -9223372036854775808 ≤ n ∧ n ≤ 9223372036854775807) (h : SlB B w len kid v) : (D.mk op a n s len kid).InB B w v := by
  unfold D.InB; exact ⟨⟨h0, h1⟩, h⟩

theorem SlB.shape {B : Nat} {w : World} {len : Nat} {kid : Nat → D} {v : Value} (h : SlB B w len kid v) : ∃ p cap, v = .slice p len cap := by
  rcases h with ⟨rfl, p, cap, rfl⟩ | ⟨b, o, cap, V, rfl, _⟩
  · exact ⟨_, _, rfl⟩
  · exact ⟨_, _, rfl⟩

/-- Memory that is kept keeps what lies in it. -/
theorem Head.kept {w w' : World} {b p : Nat} {t : D} {v : Value} (h : Head w b p t v) (hk : ∀ a u, a.block = b → w.cell? a = some u → w'.cell? a = some u) : Head w' b p t v :=
  ⟨hk _ _ rfl h.c0, hk _ _ rfl h.c1, hk _ _ rfl h.c2, hk _ _ rfl h.c3, hk _ _ rfl h.c4⟩

theorem D.InB.kept {B : Nat} {w w' : World} (hk : ∀ a u, B ≤ a.block → w.cell? a = some u → w'.cell? a = some u) (t : D) : ∀ {v : Value}, t.InB B w v → t.InB B w' v := by
  induction t with
  | no => intro v h; exact h.elim
  | mk op a n s len kid ih =>
    intro v h
    unfold D.InB at h ⊢
    refine ⟨h.1, ?_⟩
    rcases h.2 with h0 | ⟨b, o, cap, V, h1, hB, h2, h3, h4⟩
    · exact .inl h0
    · exact .inr ⟨b, o, cap, V, h1, hB, h2, h3, fun i hi => ⟨(h4 i hi).1.kept (fun a u ha => hk a u (by omega)), ih i (h4 i hi).2⟩⟩

theorem SlB.kept {B : Nat} {w w' : World} (hk : ∀ a u, B ≤ a.block → w.cell? a = some u → w'.cell? a = some u) {len : Nat} {kid : Nat → D} {v : Value} (h : SlB B w len kid v) : SlB B w' len kid v := by
  rcases h with h0 | ⟨b, o, cap, V, h1, hB, h2, h3, h4⟩
  · exact .inl h0
  · exact .inr ⟨b, o, cap, V, h1, hB, h2, h3, fun i hi => ⟨(h4 i hi).1.kept (fun a u ha => hk a u (by omega)), D.InB.kept hk _ (h4 i hi).2⟩⟩

theorem D.InB.mono {B B' : Nat} (hB : B' ≤ B) {w : World} (t : D) : ∀ {v : Value}, t.InB B w v → t.InB B' w v := by
  induction t with
  | no => intro v h; exact h.elim
  | mk op a n s len kid ih =>
    intro v h
    unfold D.InB at h ⊢
    refine ⟨h.1, ?_⟩
    rcases h.2 with h0 | ⟨b, o, cap, V, h1, hb, h2, h3, h4⟩
    · exact .inl h0
    · exact .inr ⟨b, o, cap, V, h1, by omega, h2, h3, fun i hi => ⟨(h4 i hi).1, ih i (h4 i hi).2⟩⟩
theorem SlB.mono {B B' : Nat} (hB : B' ≤ B) {w : World} {len : Nat} {kid : Nat → D} {v : Value} (h : SlB B w len kid v) : SlB B' w len kid v := by
  rcases h with h0 | ⟨b, o, cap, V, h1, hb, h2, h3, h4⟩
  · exact .inl h0
  · exact .inr ⟨b, o, cap, V, h1, by omega, h2, h3, fun i hi => ⟨(h4 i hi).1, (h4 i hi).2.mono hB⟩⟩
theorem D.InB.all {B : Nat} {w : World} {t : D} {v : Value} (h : t.InB B w v) : t.In w v := h.mono (Nat.zero_le _)
theorem SlB.all {B : Nat} {w : World} {len : Nat} {kid : Nat → D} {v : Value} (h : SlB B w len kid v) : Sl w len kid v := h.mono (Nat.zero_le _)

theorem keeps {w w' : World} (hb : Below w.heap.size w w') (a : Addr) (u : Value) (h : w.cell? a = some u) : w'.cell? a = some u :=
  (hb.cell (World.block_lt_of_cell? w a h)).trans h

theorem D.InB.below {B : Nat} {w w' : World} (hb : Below w.heap.size w w') {t : D} {v : Value} (h : t.InB B w v) : t.InB B w' v := D.InB.kept (fun a u _ => keeps hb a u) t h
theorem SlB.below {B : Nat} {w w' : World} (hb : Below w.heap.size w w') {len : Nat} {kid : Nat → D} {v : Value} (h : SlB B w len kid v) : SlB B w' len kid v := SlB.kept (fun a u _ => keeps hb a u) h
theorem Head.below {w w' : World} (hb : Below w.heap.size w w') {b p : Nat} {t : D} {v : Value} (h : Head w b p t v) : Head w' b p t v := h.kept (fun a u _ => keeps hb a u)

/-- What is told of a slice of data, by index. -/
theorem SlB.at {B : Nat} {w : World} {len : Nat} {kid : Nat → D} {v : Value} (h : SlB B w len kid v) : ∃ p cap, v = .slice p len cap ∧ len ≤ maxLen ∧
    ∀ i, i < len → ∃ b o u, p = some ⟨b, o, none⟩ ∧ Head w b (o + i * 5) (kid i) u ∧ (kid i).InB B w u := by
  rcases h with ⟨rfl, p, cap, rfl⟩ | ⟨b, o, cap, V, rfl, hB, h1, h2, h3⟩
  · exact ⟨p, cap, rfl, Nat.zero_le _, fun i hi => by omega⟩
  · exact ⟨_, cap, rfl, Nat.le_trans h1 h2, fun i hi => ⟨b, o, V i, rfl, h3 i hi⟩⟩

theorem SlB.fn {B : Nat} {w : World} {len : Nat} {kid : Nat → D} {v : Value} (h : SlB B w len kid v) : ∃ (p : Option Addr) (cap : Nat) (V : Nat → Value), v = .slice p len cap ∧ len ≤ maxLen ∧
    ∀ i, i < len → ∃ b o, p = some ⟨b, o, none⟩ ∧ Head w b (o + i * 5) (kid i) (V i) ∧ (kid i).InB B w (V i) := by
  rcases h with ⟨rfl, p, cap, rfl⟩ | ⟨b, o, cap, V, rfl, hB, h1, h2, h3⟩
  · exact ⟨p, cap, fun _ => .bool false, rfl, Nat.zero_le _, fun i hi => by omega⟩
  · exact ⟨_, cap, V, rfl, Nat.le_trans h1 h2, fun i hi => ⟨b, o, rfl, h3 i hi⟩⟩

theorem newb (w : World) (o : Obj) : Below w.heap.size w (w.alloc o) := (Below.refl _ _).alloc (Nat.le_refl _) o

/-- A datum's value. -/
def D.val (t : D) (v : Value) : Value := .agg #[.int .i64 t.op, .int .i64 t.at_, .int .i64 t.n, .string t.s, v]

end Go.Proofs.YtgbfflpdpfgnbaaGreat

/- What is written of a datum, and the datum of what is written. No conditions. -/
namespace Go.Proofs.YtgbfflpdpfgnbaaGreat
open Go.ChangeShapes Go.WideShapes Go.ChangeAt Go.RowKit

/-- What is written of a datum: each symbol has the set. -/
def stxD (set : List Int) : D → X
  | .no => .no
  | .mk op a n s len kid => .mk op a n s (if op = 2 then set else []) len (fun i => stxD set (kid i))
/-- The datum of what is written. -/
def datX : X → D
  | .no => .no
  | .mk op a n s _ len kid => .mk op a n s len (fun i => datX (kid i))
theorem datX_stxD (set : List Int) (d : D) : datX (stxD set d) = d := by
  induction d with
  | no => rfl
  | mk op a n s len kid ih =>
    show D.mk op a n s len (fun i => datX (stxD set (kid i))) = _
    congr 1
    funext i
    exact ih i
theorem datX_turn (f : List Int → List Int) (t : X) : datX (t.turn f) = datX t := by
  induction t with
  | no => rfl
  | mk op a n s set len kid ih =>
    show D.mk op a n s len (fun i => datX ((kid i).turn f)) = D.mk op a n s len (fun i => datX (kid i))
    congr 1
    funext i
    exact ih i
theorem datX_flip (t : X) (n : Int) : datX (t.flip n) = datX t := datX_turn _ t
theorem sumX_eq (f : Nat → Nat) (k : Nat) : sumX f k = sumTo f k := by
  induction k with
  | zero => rfl
  | succ k ih => simp only [sumX, sumTo, ih]
theorem sumTo_le2 {f g : Nat → Nat} (h : ∀ i, f i ≤ g i) (k : Nat) : sumTo f k ≤ sumTo g k := by
  rw [← sumX_eq, ← sumX_eq]; exact sumX_le2 h k
theorem datX_weight (t : X) : (datX t).weight ≤ t.weight := by
  induction t with
  | no => exact Nat.le_refl _
  | mk op a n s set len kid ih =>
    have e1 : (datX (.mk op a n s set len kid)).weight = s.size + (len + sumTo (fun i => (datX (kid i)).weight) len) := rfl
    have e2 : (X.mk op a n s set len kid).weight = s.size + (set.length + (len + sumX (fun i => (kid i).weight) len)) := rfl
    have h := sumTo_le2 ih len
    rw [← sumX_eq (fun i => (kid i).weight)] at h
    omega
theorem datX_count (t : X) : (datX t).count = t.count := by
  induction t with
  | no => rfl
  | mk op a n s set len kid ih =>
    have e1 : (datX (.mk op a n s set len kid)).count = 1 + sumTo (fun i => (datX (kid i)).count) len := rfl
    have e2 : (X.mk op a n s set len kid).count = 1 + sumX (fun i => (kid i).count) len := rfl
    rw [e1, e2, sumX_eq]
    simp only [ih]
theorem stxD_count (set : List Int) (d : D) : (stxD set d).count = d.count := by rw [← datX_count, datX_stxD]
theorem stxD_setsLe (set : List Int) (d : D) : (stxD set d).SetsLe set.length := by
  induction d with
  | no => trivial
  | mk op a n s len kid ih =>
    refine ⟨?_, fun i _ => ih i⟩
    by_cases h : op = 2
    · simp only [if_pos h]; exact Nat.le_refl _
    · simp only [if_neg h]; exact Nat.zero_le _
theorem stxD_nums (set : List Int) (d : D) : (stxD set d).nums ≤ d.count * set.length := by
  induction d with
  | no => simp [stxD, X.nums]
  | mk op a n s len kid ih =>
    have e1 : (stxD set (.mk op a n s len kid)).nums = (if op = 2 then set else []).length + sumX (fun i => (stxD set (kid i)).nums) len := rfl
    have e2 : (D.mk op a n s len kid).count = 1 + sumTo (fun i => (kid i).count) len := rfl
    have h := sumX_le2 ih len
    have h2 : sumX (fun i => (kid i).count * set.length) len = sumTo (fun i => (kid i).count) len * set.length := by
      have : (fun i => (kid i).count * set.length) = fun i => set.length * (kid i).count := by funext i; exact Nat.mul_comm _ _
      rw [this, sumX_mul, sumX_eq, Nat.mul_comm]
    rw [h2] at h
    have h3 : (if op = 2 then set else []).length ≤ set.length := by
      by_cases h : op = 2
      · simp only [if_pos h]; exact Nat.le_refl _
      · simp only [if_neg h]; exact Nat.zero_le _
    rw [e1, e2, Nat.add_mul, Nat.one_mul]
    omega
theorem stxD_setsB (set : List Int) (hs : setB set = true) (d : D) : (stxD set d).setsB = true := by
  induction d with
  | no => rfl
  | mk op a n s len kid ih =>
    show (allX (fun i => (stxD set (kid i)).setsB) len && ((decide (op = 2) && setB (if op = 2 then set else [])) || decide ((if op = 2 then set else []).length = 0))) = true
    rw [Bool.and_eq_true, allX_true]
    refine ⟨fun i _ => ih i, ?_⟩
    by_cases h : op = 2
    · simp [h, hs]
    · simp [h]
end Go.Proofs.YtgbfflpdpfgnbaaGreat

/- The cursor of a draw: l1Byte answers 0 to 255 and writes into its own block alone. Conditions: the cursor's three cells are there and may be written; the bytes that it reads are there. -/
namespace Go.Proofs.YtgbfflpdpfgnbaaGreat
open Go.ChangeShapes Go.WideShapes Go.ChangeAt Go.RowKit

theorem i64_and255 (n : Int) : bits .and .i64 n 255 = n % 256 := by
  have hm : (BitVec.ofInt 64 255).toNat = 2 ^ 8 - 1 := by decide
  have key : (BitVec.ofInt 64 n &&& BitVec.ofInt 64 255).toNat = (n % ((2 ^ 64 : Nat) : Int)).toNat % 2 ^ 8 := by
    rw [BitVec.toNat_and, BitVec.toNat_ofInt, hm, Nat.and_two_pow_sub_one_eq_mod]
  show IntKind.i64.wrap ((BitVec.ofInt 64 n &&& BitVec.ofInt 64 255).toNat : Nat) = n % 256
  rw [key, IntKind.wrap_i64]
  omega

set_option maxHeartbeats 1000000 in
theorem byte_out (c : Nat) (a : Option Addr) (len cap : Nat) (i h : Int) (w : World)
    (h0 : w.cell? ⟨c, 0, none⟩ = some (.slice a len cap)) (h1 : w.cell? ⟨c, 1, none⟩ = some (.int .i64 i)) (h2 : w.cell? ⟨c, 2, none⟩ = some (.int .i64 h))
    (f2 : w.frozen? ⟨c, 2, none⟩ = false) (hi : ¬ i < (len : Int)) :
    Calls Tryz.prog 57 #[.pointer (some ⟨c, 0, none⟩)] w fun e w' => (∃ x : Int, 0 ≤ x ∧ x ≤ 255 ∧ e = .returned (.int .i64 x)) ∧ ∃ v n, w' = (w.setCell ⟨c, 2, none⟩ (.int .i64 v)).drewN n := by
  have e := i64_and255
  go_enter Tryz.func57, Tryz.ntmps57
  go_wp2
  go_quiet (fail)
  go_wp2
  go_quiet (fail)
  go_wp2
  go_ret
  exact ⟨⟨_, by omega, by omega, rfl⟩, _, _, by rw [World.drewN_drewN]⟩

set_option maxHeartbeats 1000000 in
theorem byte_in (c : Nat) (b off len cap : Nat) (i h z : Int) (w : World)
    (h0 : w.cell? ⟨c, 0, none⟩ = some (.slice (some ⟨b, off, none⟩) len cap)) (h1 : w.cell? ⟨c, 1, none⟩ = some (.int .i64 i)) (h2 : w.cell? ⟨c, 2, none⟩ = some (.int .i64 h))
    (f1 : w.frozen? ⟨c, 1, none⟩ = false) (f2 : w.frozen? ⟨c, 2, none⟩ = false) (hi0 : 0 ≤ i) (hi : i < (len : Int)) (hl : (len : Int) ≤ 1048576)
    (hbc : b ≠ c) (hz : w.cell? ⟨b, off + i.toNat, none⟩ = some (.int .u8 z)) :
    Calls Tryz.prog 57 #[.pointer (some ⟨c, 0, none⟩)] w fun e w' => (∃ x : Int, 0 ≤ x ∧ x ≤ 255 ∧ e = .returned (.int .i64 x)) ∧ ∃ v n, w' = ((w.setCell ⟨c, 2, none⟩ (.int .i64 v)).drewN n).setCell ⟨c, 1, none⟩ (.int .i64 (i + 1)) := by
  have e := i64_and255
  go_enter Tryz.func57, Tryz.ntmps57
  go_wp2
  go_quiet (fail)
  go_wp2
  go_quiet (fail)
  go_wp2
  go_quiet (fail)
  go_wp2
  go_ret
  exact ⟨⟨_, by omega, by omega, rfl⟩, _, _, rfl⟩

/-- w' is w but for block c, and for blocks that are new. -/
structure Ext (c : Nat) (w w' : World) : Prop where
  os : w'.os = w.os
  tape : w'.tape = w.tape
  output : w'.output = w.output
  size : w.heap.size ≤ w'.heap.size
  block : ∀ k, k < w.heap.size → k ≠ c → w'.heap[k]? = w.heap[k]?

theorem Ext.refl (c : Nat) (w : World) : Ext c w w := ⟨rfl, rfl, rfl, Nat.le_refl _, fun _ _ _ => rfl⟩
theorem Ext.trans {c : Nat} {w w1 w2 : World} (h : Ext c w w1) (g : Ext c w1 w2) : Ext c w w2 :=
  ⟨g.os.trans h.os, g.tape.trans h.tape, g.output.trans h.output, Nat.le_trans h.size g.size, fun k hk hc => (g.block k (Nat.lt_of_lt_of_le hk h.size) hc).trans (h.block k hk hc)⟩
theorem Ext.set {c : Nat} {w w1 : World} (h : Ext c w w1) (o : Nat) (v : Value) : Ext c w (w1.setCell ⟨c, o, none⟩ v) :=
  h.trans ⟨rfl, rfl, rfl, by simp, fun k _ hc => Below.heap_setCell _ _ _ _ hc⟩
theorem Ext.drewN {c : Nat} {w w1 : World} (h : Ext c w w1) (n : Nat) : Ext c w (w1.drewN n) := ⟨h.os, h.tape, h.output, h.size, h.block⟩
theorem Ext.alloc {c : Nat} {w w1 : World} (h : Ext c w w1) (o : Obj) : Ext c w (w1.alloc o) :=
  h.trans ⟨rfl, rfl, rfl, by simp, fun k hk _ => Below.heap_alloc _ _ _ (by omega)⟩
theorem Ext.of_below {c B : Nat} {w w1 : World} (h : Below B w w1) (hB : w.heap.size ≤ B) : Ext c w w1 :=
  ⟨h.os, h.tape, h.output, h.size, fun k hk _ => h.block k (by omega)⟩
theorem Ext.below {c B : Nat} {w w1 : World} (h : Ext c w w1) (hc : B ≤ c) (hB : B ≤ w.heap.size) : Below B w w1 :=
  ⟨h.os, h.tape, h.output, h.size, fun k hk => h.block k (by omega) (by omega)⟩

theorem cell_of {w : World} {b : Nat} {cs : Array Value} {t : TypeId} {fr : Nat × Nat} (h : w.heap[b]? = some (.cells cs t fr)) (o : Nat) : w.cell? ⟨b, o, none⟩ = cs[o]? := by
  simp [World.cell?, h]
theorem cell_same {w w' : World} {b : Nat} (h : w'.heap[b]? = w.heap[b]?) (o : Nat) : w'.cell? ⟨b, o, none⟩ = w.cell? ⟨b, o, none⟩ := by
  simp [World.cell?, h]
theorem frozen_of {w : World} {b : Nat} {cs : Array Value} {t : TypeId} (h : w.heap[b]? = some (.cells cs t (0, 0))) (o : Nat) : w.frozen? ⟨b, o, none⟩ = false := by
  simp [World.frozen?, h]
theorem cell_lt {w : World} {b o : Nat} {v : Value} (h : w.cell? ⟨b, o, none⟩ = some v) : b < w.heap.size := by
  rcases Nat.lt_or_ge b w.heap.size with hl | hl
  · exact hl
  · simp [World.cell?, Array.getElem?_eq_none hl] at h

/-- The bytes of a draw's code can be read; they lie below block B. -/
def CodeOk (a : Option Addr) (len B : Nat) (w : World) : Prop :=
  len ≤ 1048576 ∧ (len = 0 ∨ ∃ b off, a = some ⟨b, off, none⟩ ∧ b < B ∧ ∀ j, j < len → ∃ z : Int, 0 ≤ z ∧ z ≤ 255 ∧ w.cell? ⟨b, off + j, none⟩ = some (.int .u8 z))

theorem CodeOk.keep {a : Option Addr} {len B : Nat} {w w' : World} (h : CodeOk a len B w) (hb : ∀ k, k < B → k < w.heap.size → w'.heap[k]? = w.heap[k]?) : CodeOk a len B w' := by
  obtain ⟨hl, h | ⟨b, off, rfl, hlt, hz⟩⟩ := h
  · exact ⟨hl, .inl h⟩
  · refine ⟨hl, .inr ⟨b, off, rfl, hlt, fun j hj => ?_⟩⟩
    obtain ⟨z, z0, z1, hc⟩ := hz j hj
    exact ⟨z, z0, z1, by rw [cell_same (hb b hlt (cell_lt hc))]; exact hc⟩

/-- A cursor lies in block c. -/
def CurAt (c : Nat) (a : Option Addr) (len cap : Nat) (w : World) : Prop :=
  CodeOk a len c w ∧ ∃ i h : Int, 0 ≤ i ∧ w.heap[c]? = some (.cells #[.slice a len cap, .int .i64 i, .int .i64 h] 76 (0, 0))

theorem CurAt.keep {c d : Nat} {a : Option Addr} {len cap : Nat} {w w' : World} (h : CurAt c a len cap w) (he : Ext d w w') (hd : c < d) : CurAt c a len cap w' := by
  obtain ⟨hc, i, hh, h0, hb⟩ := h
  have hl : c < w.heap.size := by
    rcases Nat.lt_or_ge c w.heap.size with hl | hl
    · exact hl
    · rw [Array.getElem?_eq_none hl] at hb; cases hb
  exact ⟨hc.keep fun k hk hs => he.block k hs (by omega), i, hh, h0, by rw [he.block c hl (by omega)]; exact hb⟩

theorem CurAt.lt {c : Nat} {a : Option Addr} {len cap : Nat} {w : World} (h : CurAt c a len cap w) : c < w.heap.size := by
  obtain ⟨_, _, _, _, hb⟩ := h
  rcases Nat.lt_or_ge c w.heap.size with hl | hl
  · exact hl
  · rw [Array.getElem?_eq_none hl] at hb; cases hb

/-- spec.l1Byte: 0 to 255; the cursor stays one. -/
theorem l1Byte_any (c : Nat) (a : Option Addr) (len cap : Nat) (w : World) (hc : CurAt c a len cap w) :
    Calls Tryz.prog 57 #[.pointer (some ⟨c, 0, none⟩)] w fun e w' => (∃ x : Int, 0 ≤ x ∧ x ≤ 255 ∧ e = .returned (.int .i64 x)) ∧ Ext c w w' ∧ CurAt c a len cap w' := by
  obtain ⟨hk, i, h, h0, hb⟩ := hc
  have c0 := cell_of hb 0
  have c1 := cell_of hb 1
  have c2 := cell_of hb 2
  have f1 := frozen_of hb 1
  have f2 := frozen_of hb 2
  by_cases hi : i < (len : Int)
  · obtain ⟨hl, hz | ⟨b, off, rfl, hlt, hz⟩⟩ := hk
    · omega
    obtain ⟨z, z0, z1, hcz⟩ := hz i.toNat (by omega)
    refine (byte_in c b off len cap i h z w c0 c1 c2 f1 f2 h0 hi (by omega) (by omega) hcz).mono fun e w' ⟨he, v, n, hw⟩ => ⟨he, ?_⟩
    subst hw
    have hx := (((Ext.refl c w).set 2 (.int .i64 v)).drewN n).set 1 (.int .i64 (i + 1))
    refine ⟨hx, (show CodeOk (some ⟨b, off, none⟩) len c w from ⟨hl, .inr ⟨b, off, rfl, hlt, hz⟩⟩).keep fun k hk hs => hx.block k hs (by omega), i + 1, v, by omega, ?_⟩
    have e1 := Joins.block_setCell (i := 2) hb (.int .i64 v)
    have e2 := Joins.block_setCell (i := 1) e1 (.int .i64 (i + 1))
    show ((w.setCell ⟨c, 2, none⟩ (.int .i64 v)).setCell ⟨c, 1, none⟩ (.int .i64 (i + 1))).heap[c]? = _
    rw [e2]; rfl
  · refine (byte_out c a len cap i h w c0 c1 c2 f2 hi).mono fun e w' ⟨he, v, n, hw⟩ => ⟨he, ?_⟩
    subst hw
    have hx := (((Ext.refl c w).set 2 (.int .i64 v)).drewN n)
    refine ⟨hx, hk.keep fun k hk hs => hx.block k hs (by omega), i, v, h0, ?_⟩
    have e1 := Joins.block_setCell (i := 2) hb (.int .i64 v)
    show (w.setCell ⟨c, 2, none⟩ (.int .i64 v)).heap[c]? = _
    rw [e1]; rfl
end Go.Proofs.YtgbfflpdpfgnbaaGreat
