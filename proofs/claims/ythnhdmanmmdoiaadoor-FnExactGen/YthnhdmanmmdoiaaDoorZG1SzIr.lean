/- A value, as a tree, and how it lies in memory. No conditions. -/
import Derived.Test.YthnhdmanmmdoiaaDoorZG0Dat
import Derived.Test.YthnhdmanmmdoiaaDoorRows
import Derived.WalkKit
import Derived.ProofKit
import Derived.Below
import Derived.OwnWalk
namespace Go.Proofs.YthnhdmanmmdoiaaDoor
open Go.ChangeShapes Go.WideShapes Go.ChangeAt Go.RowKit

/-- An ir: its kind and number, and its kids by their index. -/
inductive It where
  | no
  | mk (op n : Int) (len : Nat) (kid : Nat → It)

namespace It
def op : It → Int | .no => 0 | .mk x _ _ _ => x
def n : It → Int | .no => 0 | .mk _ x _ _ => x
def len : It → Nat | .no => 0 | .mk _ _ x _ => x
def kid : It → Nat → It | .no => fun _ => .no | .mk _ _ _ x => x
end It
instance : Inhabited It := ⟨.no⟩

/-- How many data there are, itself among them. -/
def It.count : It → Nat | .no => 1 | .mk _ _ len kid => 1 + sumTo (fun i => (kid i).count) len
/-- What is reckoned of it: the text's bytes and how many kids there are, all through. -/
def It.weight : It → Nat | .no => 0 | .mk _ _ len kid => len + sumTo (fun i => (kid i).weight) len

def kidsWeightI (len : Nat) (kid : Nat → It) : Nat := len + sumTo (fun i => (kid i).weight) len
theorem It.weight_eq (t : It) : t.weight = kidsWeightI t.len t.kid := by cases t <;> rfl
theorem It.count_eq (t : It) : t.count = 1 + sumTo (fun i => (t.kid i).count) t.len := by cases t <;> rfl

theorem It.count_weight (t : It) : t.count ≤ 1 + t.weight := by
  induction t with
  | no => simp [count]
  | mk op n len kid ih =>
    unfold count weight
    have : ∀ k, sumTo (fun i => (kid i).count) k ≤ k + sumTo (fun i => (kid i).weight) k := by
      intro k
      induction k with
      | zero => simp [sumTo]
      | succ k ihk => simp only [sumTo]; have := ih k; omega
    have := this len
    omega

/-- Three cells from p on. -/
structure HeadI (w : World) (b p : Nat) (t : It) (v : Value) : Prop where
  c0 : w.cell? ⟨b, p, none⟩ = some (.int .i64 t.op)
  c1 : w.cell? ⟨b, p + 1, none⟩ = some (.int .i64 t.n)
  c2 : w.cell? ⟨b, p + 2, none⟩ = some v

/-- v is the slice of a datum's kids, which lie in w, from block B on. -/
def It.InB (B : Nat) (w : World) : It → Value → Prop
  | .no, _ => False
  | .mk _ n len kid, v => (-9223372036854775808 ≤ n ∧ n ≤ 9223372036854775807) ∧
    ((len = 0 ∧ ∃ p cap, v = .slice p 0 cap) ∨
     ∃ (b o cap : Nat) (V : Nat → Value), v = .slice (some ⟨b, o, none⟩) len cap ∧ B ≤ b ∧ len ≤ cap ∧ cap ≤ maxLen ∧
       ∀ i, i < len → HeadI w b (o + i * 3) (kid i) (V i) ∧ (kid i).InB B w (V i))
abbrev It.In (w : World) (t : It) (v : Value) : Prop := t.InB 0 w v

/-- A slice of data that lie in w, from block B on. -/
def IlB (B : Nat) (w : World) (len : Nat) (kid : Nat → It) (v : Value) : Prop :=
  (len = 0 ∧ ∃ p cap, v = .slice p 0 cap) ∨
   ∃ (b o cap : Nat) (V : Nat → Value), v = .slice (some ⟨b, o, none⟩) len cap ∧ B ≤ b ∧ len ≤ cap ∧ cap ≤ maxLen ∧
     ∀ i, i < len → HeadI w b (o + i * 3) (kid i) (V i) ∧ (kid i).InB B w (V i)
abbrev Il (w : World) (len : Nat) (kid : Nat → It) (v : Value) : Prop := IlB 0 w len kid v

theorem It.InB.sl {B : Nat} {w : World} {t : It} {v : Value} (h : t.InB B w v) : IlB B w t.len t.kid v := by
  cases t <;> unfold It.InB at h <;> first | exact h.elim | exact h.2
theorem It.InB.num {B : Nat} {w : World} {t : It} {v : Value} (h : t.InB B w v) : -9223372036854775808 ≤ t.n ∧ t.n ≤ 9223372036854775807 := by
  cases t <;> unfold It.InB at h <;> first | exact h.elim | exact h.1
theorem It.InB.mk' {B : Nat} {w : World} {op n : Int} {len : Nat} {kid : Nat → It} {v : Value} (h1 : -9223372036854775808 ≤ n ∧ n ≤ 9223372036854775807) (h : IlB B w len kid v) : (It.mk op n len kid).InB B w v := by
  unfold It.InB; exact ⟨h1, h⟩

theorem IlB.shape {B : Nat} {w : World} {len : Nat} {kid : Nat → It} {v : Value} (h : IlB B w len kid v) : ∃ p cap, v = .slice p len cap := by
  rcases h with ⟨rfl, p, cap, rfl⟩ | ⟨b, o, cap, V, rfl, _⟩
  · exact ⟨_, _, rfl⟩
  · exact ⟨_, _, rfl⟩

/-- Memory that is kept keeps what lies in it. -/
theorem HeadI.kept {w w' : World} {b p : Nat} {t : It} {v : Value} (h : HeadI w b p t v) (hk : ∀ a u, a.block = b → w.cell? a = some u → w'.cell? a = some u) : HeadI w' b p t v :=
  ⟨hk _ _ rfl h.c0, hk _ _ rfl h.c1, hk _ _ rfl h.c2⟩

theorem It.InB.kept {B : Nat} {w w' : World} (hk : ∀ a u, B ≤ a.block → w.cell? a = some u → w'.cell? a = some u) (t : It) : ∀ {v : Value}, t.InB B w v → t.InB B w' v := by
  induction t with
  | no => intro v h; exact h.elim
  | mk op n len kid ih =>
    intro v h
    unfold It.InB at h ⊢
    refine ⟨h.1, ?_⟩
    rcases h.2 with h0 | ⟨b, o, cap, V, h1, hB, h2, h3, h4⟩
    · exact .inl h0
    · exact .inr ⟨b, o, cap, V, h1, hB, h2, h3, fun i hi => ⟨(h4 i hi).1.kept (fun a u ha => hk a u (by omega)), ih i (h4 i hi).2⟩⟩

theorem IlB.kept {B : Nat} {w w' : World} (hk : ∀ a u, B ≤ a.block → w.cell? a = some u → w'.cell? a = some u) {len : Nat} {kid : Nat → It} {v : Value} (h : IlB B w len kid v) : IlB B w' len kid v := by
  rcases h with h0 | ⟨b, o, cap, V, h1, hB, h2, h3, h4⟩
  · exact .inl h0
  · exact .inr ⟨b, o, cap, V, h1, hB, h2, h3, fun i hi => ⟨(h4 i hi).1.kept (fun a u ha => hk a u (by omega)), It.InB.kept hk _ (h4 i hi).2⟩⟩

theorem It.InB.mono {B B' : Nat} (hB : B' ≤ B) {w : World} (t : It) : ∀ {v : Value}, t.InB B w v → t.InB B' w v := by
  induction t with
  | no => intro v h; exact h.elim
  | mk op n len kid ih =>
    intro v h
    unfold It.InB at h ⊢
    refine ⟨h.1, ?_⟩
    rcases h.2 with h0 | ⟨b, o, cap, V, h1, hb, h2, h3, h4⟩
    · exact .inl h0
    · exact .inr ⟨b, o, cap, V, h1, by omega, h2, h3, fun i hi => ⟨(h4 i hi).1, ih i (h4 i hi).2⟩⟩
theorem IlB.mono {B B' : Nat} (hB : B' ≤ B) {w : World} {len : Nat} {kid : Nat → It} {v : Value} (h : IlB B w len kid v) : IlB B' w len kid v := by
  rcases h with h0 | ⟨b, o, cap, V, h1, hb, h2, h3, h4⟩
  · exact .inl h0
  · exact .inr ⟨b, o, cap, V, h1, by omega, h2, h3, fun i hi => ⟨(h4 i hi).1, (h4 i hi).2.mono hB⟩⟩
theorem It.InB.all {B : Nat} {w : World} {t : It} {v : Value} (h : t.InB B w v) : t.In w v := h.mono (Nat.zero_le _)
theorem IlB.all {B : Nat} {w : World} {len : Nat} {kid : Nat → It} {v : Value} (h : IlB B w len kid v) : Il w len kid v := h.mono (Nat.zero_le _)

theorem It.InB.below {B : Nat} {w w' : World} (hb : Below w.heap.size w w') {t : It} {v : Value} (h : t.InB B w v) : t.InB B w' v := It.InB.kept (fun a u _ => keeps hb a u) t h
theorem IlB.below {B : Nat} {w w' : World} (hb : Below w.heap.size w w') {len : Nat} {kid : Nat → It} {v : Value} (h : IlB B w len kid v) : IlB B w' len kid v := IlB.kept (fun a u _ => keeps hb a u) h
theorem HeadI.below {w w' : World} (hb : Below w.heap.size w w') {b p : Nat} {t : It} {v : Value} (h : HeadI w b p t v) : HeadI w' b p t v := h.kept (fun a u _ => keeps hb a u)

/-- What is told of a slice of data, by index. -/
theorem IlB.at {B : Nat} {w : World} {len : Nat} {kid : Nat → It} {v : Value} (h : IlB B w len kid v) : ∃ p cap, v = .slice p len cap ∧ len ≤ maxLen ∧
    ∀ i, i < len → ∃ b o u, p = some ⟨b, o, none⟩ ∧ HeadI w b (o + i * 3) (kid i) u ∧ (kid i).InB B w u := by
  rcases h with ⟨rfl, p, cap, rfl⟩ | ⟨b, o, cap, V, rfl, hB, h1, h2, h3⟩
  · exact ⟨p, cap, rfl, Nat.zero_le _, fun i hi => by omega⟩
  · exact ⟨_, cap, rfl, Nat.le_trans h1 h2, fun i hi => ⟨b, o, V i, rfl, h3 i hi⟩⟩

theorem IlB.fn {B : Nat} {w : World} {len : Nat} {kid : Nat → It} {v : Value} (h : IlB B w len kid v) : ∃ (p : Option Addr) (cap : Nat) (V : Nat → Value), v = .slice p len cap ∧ len ≤ maxLen ∧
    ∀ i, i < len → ∃ b o, p = some ⟨b, o, none⟩ ∧ HeadI w b (o + i * 3) (kid i) (V i) ∧ (kid i).InB B w (V i) := by
  rcases h with ⟨rfl, p, cap, rfl⟩ | ⟨b, o, cap, V, rfl, hB, h1, h2, h3⟩
  · exact ⟨p, cap, fun _ => .bool false, rfl, Nat.zero_le _, fun i hi => by omega⟩
  · exact ⟨_, cap, V, rfl, Nat.le_trans h1 h2, fun i hi => ⟨b, o, rfl, h3 i hi⟩⟩

/-- A value's value. -/
def It.val (t : It) (v : Value) : Value := .agg #[.int .i64 t.op, .int .i64 t.n, v]

end Go.Proofs.YthnhdmanmmdoiaaDoor

/- laws.szIr and laws.szIrS: what is left behind an ir. Condition: at most 2^20 may come. -/
namespace Go.Proofs.YthnhdmanmmdoiaaDoor
open Go.ChangeShapes Go.WideShapes Go.ChangeAt Go.RowKit

/-- What is left. -/
def szI (left total : Nat) : Int := if total ≤ left then (left : Int) - total else -1
theorem szI_yes {left total : Nat} (h : total ≤ left) : szI left total = ((left - total : Nat) : Int) := by unfold szI; rw [if_pos h]; omega
theorem szI_no {left total : Nat} (h : left < total) : szI left total = -1 := by unfold szI; rw [if_neg (by omega)]

/-- The contract of szDat at a datum. -/
def SzIAt (t : It) : Prop := ∀ (w : World) (v : Value) (left : Nat), t.In w v → left ≤ 1048576 →
  Calls Tryd.prog 27 #[.agg #[.int .i64 t.op, .int .i64 t.n, v], .int .i64 left] w fun e w' => e = .returned (.int .i64 (szI left t.weight)) ∧ Below w.heap.size w w'

set_option maxRecDepth 100000 in
set_option maxHeartbeats 2000000 in
theorem sz_irs (len : Nat) (kid : Nat → It) (ih : ∀ i, i < len → SzIAt (kid i)) (w : World) (v : Value) (left : Nat) (hv : Il w len kid v) (hl : left ≤ 1048576) :
    Calls Tryd.prog 41 #[v, .int .i64 left] w fun e w' => e = .returned (.int .i64 (szI left (kidsWeightI len kid))) ∧ Below w.heap.size w w' := by
  obtain ⟨p, cap, rfl, hlen, hat⟩ := hv.at
  have HC : Hid (∀ i, i < len → ∃ b o u, p = some ⟨b, o, none⟩ ∧ HeadI w b (o + i * 3) (kid i) u ∧ (kid i).In w u) := hat
  have IH : Hid (∀ i, i < len → SzIAt (kid i)) := ih
  clear hat ih hv
  unfold maxLen at hlen
  by_cases h0 : (left : Int) - len < 0
  · have HR : Hid (szI left (kidsWeightI len kid) = -1) := szI_no (by unfold kidsWeightI; omega)
    go_enter Tryd.func41, Tryd.ntmps41
    go_wp2_with fail
    go_ret
    exact ⟨by rw [HR.out]; rfl, Below.refl _ _⟩
  · go_enter Tryd.func41, Tryd.ntmps41
    go_wp2_with fail
    go_loopw [1, 5] (fun x i wr => ∃ k r : Nat, i = .int .i64 k ∧ x = .int .i64 r ∧ k ≤ len ∧ r + len + sumTo (fun i => (kid i).weight) k = left ∧ Below w.heap.size w wr) (fun _ i _ => len - (intOf i).toNat)
    case atStart => exact ⟨0, left - len, rfl, by congr 1; omega, Nat.zero_le _, by simp [sumTo]; omega, Below.refl _ _⟩
    case round =>
      obtain ⟨k, r, rfl, rfl, hk, hsum, hbel⟩ := hrel
      have HBL : Hid (Below w.heap.size w wr) := hbel
      have HS : Hid (r + len + sumTo (fun i => (kid i).weight) k = left) := hsum
      have hr : r ≤ 1048576 := by omega
      clear hbel hsum
      by_cases hlt : (k : Int) < len
      · have hlt' : k < len := by omega
        obtain ⟨b, o, u, hp, hd, hin⟩ := HC.out k hlt'
        subst hp
        have hd1 := hd.below HBL.out
        have hin1 := hin.below HBL.out
        obtain ⟨c0, c1, c2⟩ := hd1
        clear hd hin
        have HI : Hid ((kid k).In wr u) := hin1
        clear hin1
        by_cases hw : (kid k).weight ≤ r
        · have HN : Hid ((r - (kid k).weight) + len + sumTo (fun i => (kid i).weight) (k + 1) = left) := by
            have := HS.out
            show _ = _
            simp only [sumTo]; omega
          have e1 := szI_yes hw
          generalize hx : r - (kid k).weight = x at *
          have hx0 : (0 : Int) ≤ (x : Int) := by omega
          clear hx hw
          have E1 : Hid (szI r (kid k).weight = (x : Int)) := e1
          clear e1
          go_wp2_with fail
          refine (IH.out k hlt' wr u r HI.out hr).mono ?_
          rintro e w1 ⟨rfl, hb1⟩
          rw [E1.out]
          have HB1 : Hid (Below w.heap.size w w1) := HBL.out.trans (hb1.mono HBL.out.size)
          clear hb1 c0 c1 c2
          go_wp2_with fail
          go_roundw
          case rel => exact ⟨k + 1, x, by go_num, rfl, by omega, HN.out, HB1.out⟩
          case measure => simp [intOf]; omega
        · have HR : Hid (szI left (kidsWeightI len kid) = -1) := by
            refine szI_no ?_
            have h1 := HS.out
            have h2 := sumTo_at (fun i => (kid i).weight) k len hlt'
            unfold kidsWeightI; omega
          have E1 : Hid (szI r (kid k).weight = -1) := szI_no (by omega)
          clear hw
          go_wp2_with fail
          refine (IH.out k hlt' wr u r HI.out hr).mono ?_
          rintro e w1 ⟨rfl, hb1⟩
          rw [E1.out]
          have HB1 : Hid (Below w.heap.size w w1) := HBL.out.trans (hb1.mono HBL.out.size)
          clear hb1 c0 c1 c2
          go_wp2_with fail
          go_ret
          exact ⟨by rw [HR.out]; rfl, HB1.out⟩
      · have hke : k = len := by omega
        subst hke
        go_wp2
        go_ret
        refine ⟨?_, HBL.out⟩
        have h1 := HS.out
        have e : szI left (kidsWeightI k kid) = (r : Int) := by
          rw [szI_yes (by unfold kidsWeightI; omega)]
          congr 1; unfold kidsWeightI; omega
        rw [e]; rfl

set_option maxRecDepth 100000 in
set_option maxHeartbeats 2000000 in
theorem sz_ir (t : It) : SzIAt t := by
  induction t with
  | no => intro w v left h _; exact h.elim
  | mk op n len kid ih =>
    intro w v left hin hl
    have hsl := hin.sl
    simp only [It.op, It.n, It.len, It.kid] at hsl ⊢
    obtain ⟨p, cap, hv⟩ := hsl.shape
    have HSL : Hid (Il w len kid v) := hsl
    have IH : Hid (∀ i, SzIAt (kid i)) := ih
    clear hin hsl ih
    have HW : Hid ((It.mk op n len kid).weight = kidsWeightI len kid) := rfl
    subst hv
    by_cases hw : kidsWeightI len kid ≤ left
    · have HR : Hid (szI left (It.mk op n len kid).weight = ((left - kidsWeightI len kid : Nat) : Int)) := by
        show _ = _
        rw [szI_yes (by rw [HW.out]; omega)]; congr 1
      have E1 : Hid (szI left (kidsWeightI len kid) = ((left - kidsWeightI len kid : Nat) : Int)) := szI_yes hw
      generalize left - kidsWeightI len kid = y at *
      clear hw
      go_enter Tryd.func27, Tryd.ntmps27
      go_wp2_with fail
      refine (sz_irs len kid (fun i _ => IH.out i) _ _ left (HSL.out.below (newb w _)) hl).mono ?_
      rintro e w1 ⟨rfl, hb1⟩
      rw [E1.out]
      have HB1 : Hid (Below w.heap.size w w1) := (newb w _).trans (hb1.mono (newb w _).size)
      clear hb1
      go_wp2_with fail
      go_ret
      exact ⟨by rw [HR.out]; rfl, HB1.out⟩
    · have HR : Hid (szI left (It.mk op n len kid).weight = -1) := szI_no (by rw [HW.out]; omega)
      have E1 : Hid (szI left (kidsWeightI len kid) = -1) := szI_no (by omega)
      clear hw
      go_enter Tryd.func27, Tryd.ntmps27
      go_wp2_with fail
      refine (sz_irs len kid (fun i _ => IH.out i) _ _ left (HSL.out.below (newb w _)) hl).mono ?_
      rintro e w1 ⟨rfl, hb1⟩
      rw [E1.out]
      have HB1 : Hid (Below w.heap.size w w1) := (newb w _).trans (hb1.mono (newb w _).size)
      clear hb1
      go_wp2_with fail
      go_ret
      exact ⟨by rw [HR.out]; rfl, HB1.out⟩
end Go.Proofs.YthnhdmanmmdoiaaDoor
