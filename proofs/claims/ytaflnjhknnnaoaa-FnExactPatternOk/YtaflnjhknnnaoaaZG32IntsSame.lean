/- laws.szIntS, laws.szStx and laws.szStxS: what is left behind what is written. Condition: at most 2^20 may come. -/
import Derived.Test.YtaflnjhknnnaoaaRows
import Derived.Test.YtaflnjhknnnaoaaZG7StxParts
import Derived.Test.YtaflnjhknnnaoaaZG0Ints
import Derived.WalkKit
import Derived.ProofKit
import Derived.Below
import Derived.OwnWalk
import Derived.Deep.QuietTactic
import Derived.BigQuiet
import Derived.WalkSpells
import Derived.WalkSmall
namespace Go.Proofs.Ytaflnjhknnnaoaa
open Go.ChangeShapes Go.WideShapes Go.ChangeAt Go.RowKit

/-- What is left. -/
def szX (left total : Nat) : Int := if total ≤ left then (left : Int) - total else -1
theorem szX_yes {left total : Nat} (h : total ≤ left) : szX left total = ((left - total : Nat) : Int) := by unfold szX; rw [if_pos h]; omega
theorem szX_no {left total : Nat} (h : left < total) : szX left total = -1 := by unfold szX; rw [if_neg (by omega)]

/-- The contract of szStx at a datum. -/
def SzXAt (t : X) : Prop := ∀ (w : World) (sv v : Value) (left : Nat), t.Of w sv v → left ≤ 1048576 →
  Calls Try.prog 10 #[.agg #[.int .i64 t.op, .int .i64 t.at_, .int .i64 t.n, .string t.s, sv, v], .int .i64 left] w fun e w' => e = .returned (.int .i64 (szX left t.weight)) ∧ Below w.heap.size w w'

set_option maxRecDepth 100000 in
set_option maxHeartbeats 1000000 in
theorem sz_ints (a : Option Addr) (len cap left : Nat) (w : World) (hlen : len ≤ maxLen) (hl : left ≤ 1048576) :
    Calls Try.prog 21 #[.slice a len cap, .int .i64 left] w fun e w' => e = .returned (.int .i64 (szX left len)) ∧ w' = w := by
  unfold maxLen at hlen
  by_cases h0 : (left : Int) - len < 0
  · have HR : Hid (szX left len = -1) := szX_no (by omega)
    go_enter Try.func21, Try.ntmps21
    go_wp2_with fail
    go_ret
    exact ⟨by rw [HR.out]; rfl, rfl⟩
  · have HR : Hid (szX left len = (left : Int) - len) := by show _ = _; unfold szX; rw [if_pos (by omega)]
    go_enter Try.func21, Try.ntmps21
    go_wp2_with fail
    go_ret
    exact ⟨by rw [HR.out]; rfl, rfl⟩

set_option maxRecDepth 100000 in
set_option maxHeartbeats 2000000 in
theorem sz_stxs (len : Nat) (kid : Nat → X) (ih : ∀ i, i < len → SzXAt (kid i)) (w : World) (v : Value) (left : Nat) (hv : XsOf w len kid v) (hl : left ≤ 1048576) :
    Calls Try.prog 22 #[v, .int .i64 left] w fun e w' => e = .returned (.int .i64 (szX left (kidsWeightX len kid))) ∧ Below w.heap.size w w' := by
  obtain ⟨p, cap, rfl, hlen, hat⟩ := hv.at
  have HC : Hid (∀ i, i < len → ∃ b o sv u, p = some ⟨b, o, none⟩ ∧ Head6 w b (o + i * 6) (kid i) sv u ∧ (kid i).Of w sv u) := hat
  have IH : Hid (∀ i, i < len → SzXAt (kid i)) := ih
  clear hat ih hv
  unfold maxLen at hlen
  by_cases h0 : (left : Int) - len < 0
  · have HR : Hid (szX left (kidsWeightX len kid) = -1) := szX_no (by unfold kidsWeightX; omega)
    go_enter Try.func22, Try.ntmps22
    go_wp2_with fail
    go_ret
    exact ⟨by rw [HR.out]; rfl, Below.refl _ _⟩
  · go_enter Try.func22, Try.ntmps22
    go_wp2_with fail
    go_loopw [1, 5] (fun x i wr => ∃ k r : Nat, i = .int .i64 k ∧ x = .int .i64 r ∧ k ≤ len ∧ r + len + sumX (fun i => (kid i).weight) k = left ∧ Below w.heap.size w wr) (fun _ i _ => len - (intOf i).toNat)
    case atStart => exact ⟨0, left - len, rfl, by congr 1; omega, Nat.zero_le _, by simp [sumX]; omega, Below.refl _ _⟩
    case round =>
      obtain ⟨k, r, rfl, rfl, hk, hsum, hbel⟩ := hrel
      have HBL : Hid (Below w.heap.size w wr) := hbel
      have HS : Hid (r + len + sumX (fun i => (kid i).weight) k = left) := hsum
      have hr : r ≤ 1048576 := by omega
      clear hbel hsum
      by_cases hlt : (k : Int) < len
      · have hlt' : k < len := by omega
        obtain ⟨b, o, su, u, hp, hd, hin⟩ := HC.out k hlt'
        subst hp
        have hd1 := hd.below HBL.out
        have hin1 := X.Of.below HBL.out hin
        obtain ⟨c0, c1, c2, c3, c4, c5⟩ := hd1
        clear hd hin
        have HI : Hid ((kid k).Of wr su u) := hin1
        clear hin1
        by_cases hw : (kid k).weight ≤ r
        · have HN : Hid ((r - (kid k).weight) + len + sumX (fun i => (kid i).weight) (k + 1) = left) := by
            have := HS.out
            show _ = _
            simp only [sumX]; omega
          have e1 := szX_yes hw
          generalize hx : r - (kid k).weight = x at *
          have hx0 : (0 : Int) ≤ (x : Int) := by omega
          clear hx hw
          have E1 : Hid (szX r (kid k).weight = (x : Int)) := e1
          clear e1
          go_wp2_with fail
          refine (IH.out k hlt' wr su u r HI.out hr).mono ?_
          rintro e w1 ⟨rfl, hb1⟩
          rw [E1.out]
          have HB1 : Hid (Below w.heap.size w w1) := HBL.out.trans (hb1.mono HBL.out.size)
          clear hb1 c0 c1 c2 c3 c4 c5
          go_wp2_with fail
          go_roundw
          case rel => exact ⟨k + 1, x, by go_num, rfl, by omega, HN.out, HB1.out⟩
          case measure => simp [intOf]; omega
        · have HR : Hid (szX left (kidsWeightX len kid) = -1) := by
            refine szX_no ?_
            have h1 := HS.out
            have h2 := sumX_at (fun i => (kid i).weight) k len hlt'
            unfold kidsWeightX; omega
          have E1 : Hid (szX r (kid k).weight = -1) := szX_no (by omega)
          clear hw
          go_wp2_with fail
          refine (IH.out k hlt' wr su u r HI.out hr).mono ?_
          rintro e w1 ⟨rfl, hb1⟩
          rw [E1.out]
          have HB1 : Hid (Below w.heap.size w w1) := HBL.out.trans (hb1.mono HBL.out.size)
          clear hb1 c0 c1 c2 c3 c4 c5
          go_wp2_with fail
          go_ret
          exact ⟨by rw [HR.out]; rfl, HB1.out⟩
      · have hke : k = len := by omega
        subst hke
        go_wp2
        go_ret
        refine ⟨?_, HBL.out⟩
        have h1 := HS.out
        have e : szX left (kidsWeightX k kid) = (r : Int) := by
          rw [szX_yes (by unfold kidsWeightX; omega)]
          congr 1; unfold kidsWeightX; omega
        rw [e]; rfl

set_option maxRecDepth 100000 in
set_option maxHeartbeats 2000000 in
theorem sz_stx (t : X) : SzXAt t := by
  induction t with
  | no => intro w sv v left h _; exact h.elim
  | mk op a n s set len kid ih =>
    intro w sv v left hin hl
    have hs := hin.size
    have hsl := hin.xs
    have hset := hin.sets
    have hsm := hin.setLen
    unfold maxLen at hs
    simp only [X.op, X.at_, X.n, X.s, X.set, X.len, X.kid] at hs hsl hset hsm ⊢
    obtain ⟨p, cap, hv⟩ := hsl.shape
    obtain ⟨p2, cap2, hv2⟩ := hset.shape
    have HSL : Hid (XsOf w len kid v) := hsl
    have IH : Hid (∀ i, SzXAt (kid i)) := ih
    have HW : Hid ((X.mk op a n s set len kid).weight = s.size + (set.length + kidsWeightX len kid)) := rfl
    have HT : Hid (∀ (left : Nat) (w : World), left ≤ 1048576 → Calls Try.prog 21 #[.slice p2 set.length cap2, .int .i64 left] w fun e w' => e = .returned (.int .i64 (szX left set.length)) ∧ w' = w) := fun left w h => sz_ints p2 set.length cap2 left w hsm h
    clear hin hsl ih hset hsm
    subst hv hv2
    generalize set.length = m at *
    by_cases h0 : (left : Int) - s.size < 0
    · have HR : Hid (szX left (X.mk op a n s set len kid).weight = -1) := szX_no (by rw [HW.out]; omega)
      go_enter Try.func10, Try.ntmps10
      go_wp2_with fail
      go_ret
      exact ⟨by rw [HR.out]; rfl, newx w _⟩
    have hx1 : left - s.size ≤ 1048576 := by omega
    have hx : (left : Int) - s.size = ((left - s.size : Nat) : Int) := by omega
    by_cases h1 : m ≤ left - s.size
    · have E0 : Hid (szX (left - s.size) m = ((left - s.size - m : Nat) : Int)) := szX_yes h1
      have hy1 : left - s.size - m ≤ 1048576 := by omega
      by_cases hw : kidsWeightX len kid ≤ left - s.size - m
      · have HR : Hid (szX left (X.mk op a n s set len kid).weight = ((left - s.size - m - kidsWeightX len kid : Nat) : Int)) := by
          show _ = _
          rw [szX_yes (by rw [HW.out]; omega)]; congr 1; rw [HW.out]; omega
        have E1 : Hid (szX (left - s.size - m) (kidsWeightX len kid) = ((left - s.size - m - kidsWeightX len kid : Nat) : Int)) := szX_yes hw
        generalize left - s.size - m - kidsWeightX len kid = z at *
        generalize left - s.size - m = y at *
        generalize left - s.size = x at *
        clear hw h1
        go_enter Try.func10, Try.ntmps10
        go_wp2_with fail
        refine (HT.out x _ hx1).mono ?_
        rintro e w0 ⟨rfl, rfl⟩
        rw [E0.out]
        go_wp2_with fail
        refine (sz_stxs len kid (fun i _ => IH.out i) _ _ y (XsOf.below (newx w _) HSL.out) hy1).mono ?_
        rintro e w1 ⟨rfl, hb1⟩
        rw [E1.out]
        have HB1 : Hid (Below w.heap.size w w1) := (newx w _).trans (hb1.mono (newx w _).size)
        clear hb1
        go_wp2_with fail
        go_ret
        exact ⟨by rw [HR.out]; rfl, HB1.out⟩
      · have HR : Hid (szX left (X.mk op a n s set len kid).weight = -1) := szX_no (by rw [HW.out]; omega)
        have E1 : Hid (szX (left - s.size - m) (kidsWeightX len kid) = -1) := szX_no (by omega)
        clear hw h1
        generalize left - s.size - m = y at *
        generalize left - s.size = x at *
        go_enter Try.func10, Try.ntmps10
        go_wp2_with fail
        refine (HT.out x _ hx1).mono ?_
        rintro e w0 ⟨rfl, rfl⟩
        rw [E0.out]
        go_wp2_with fail
        refine (sz_stxs len kid (fun i _ => IH.out i) _ _ y (XsOf.below (newx w _) HSL.out) hy1).mono ?_
        rintro e w1 ⟨rfl, hb1⟩
        rw [E1.out]
        have HB1 : Hid (Below w.heap.size w w1) := (newx w _).trans (hb1.mono (newx w _).size)
        clear hb1
        go_wp2_with fail
        go_ret
        exact ⟨by rw [HR.out]; rfl, HB1.out⟩
    · have HR : Hid (szX left (X.mk op a n s set len kid).weight = -1) := szX_no (by rw [HW.out]; omega)
      have E0 : Hid (szX (left - s.size) m = -1) := szX_no (by omega)
      clear h1
      generalize left - s.size = x at *
      go_enter Try.func10, Try.ntmps10
      go_wp2_with fail
      refine (HT.out x _ hx1).mono ?_
      rintro e w0 ⟨rfl, rfl⟩
      rw [E0.out]
      go_wp2_with fail
      go_ret
      exact ⟨by rw [HR.out]; rfl, newx w _⟩
end Go.Proofs.Ytaflnjhknnnaoaa

/- Two lists of ints held against each other, one by one: spec.SameSet, laws.sameInts, laws.eqIntS, slices.Equal. Condition: at most 2^22 of them. -/
namespace Go.Proofs.Ytaflnjhknnnaoaa
open Go.ChangeShapes Go.WideShapes Go.ChangeAt Go.RowKit

set_option maxHeartbeats 1000000 in
theorem eq_ints (xs ys : List Int) (v u : Value) (w : World) (hv : Rd w v xs) (hu : Rd w u ys) (hl : xs.length ≤ 4194304) (_hl2 : ys.length ≤ 4194304) :
    Calls Try.prog 32 #[v, u] w fun e w' => e = .returned (.bool (sameB xs ys)) ∧ Below w.heap.size w w' := by
  obtain ⟨a, cap, rfl, hc⟩ := hv.shape
  obtain ⟨a2, cap2, rfl, hc2⟩ := hu.shape
  have HC : Hid (∀ j, j < xs.length → ∃ b off, a = some ⟨b, off, none⟩ ∧ w.cell? ⟨b, off + j, none⟩ = some (.int .i64 (xs.getD j 0))) := hc
  have HC2 : Hid (∀ j, j < ys.length → ∃ b off, a2 = some ⟨b, off, none⟩ ∧ w.cell? ⟨b, off + j, none⟩ = some (.int .i64 (ys.getD j 0))) := hc2
  clear hc hv hc2 hu
  by_cases hne : xs.length = ys.length
  · rw [← hne] at HC2 ⊢
    have HNE : Hid (xs.length = ys.length) := hne
    clear hne
    obtain ⟨m, hm⟩ : ∃ m, m = xs.length := ⟨_, rfl⟩
    rw [← hm] at HC HC2 hl ⊢
    have HM : Hid (m = xs.length) := hm
    clear hm
    go_enter Try.func32, Try.ntmps32
    go_wp2
    go_loopw [5] (fun i wr => ∃ k : Nat, k ≤ m ∧ i = .int .i64 k ∧ (∀ j, j < k → xs.getD j 0 = ys.getD j 0) ∧ Below w.heap.size w wr) (fun i _ => m - (intOf i).toNat)
    case atStart => exact ⟨0, by omega, rfl, fun j hj => by omega, Below.refl _ _⟩
    case round =>
      obtain ⟨k, hk, rfl, hno, hb⟩ := hrel
      have HNO : Hid (∀ j, j < k → xs.getD j 0 = ys.getD j 0) := hno
      have HB : Hid (Below w.heap.size w wr) := hb
      clear hno hb
      by_cases hlt : (k : Int) < m
      · obtain ⟨b, off, rfl, hcell⟩ := HC.out k (by omega)
        obtain ⟨b2, off2, rfl, hcell2⟩ := HC2.out k (by omega)
        generalize hx : xs.getD k 0 = x at hcell
        generalize hy : ys.getD k 0 = y at hcell2
        have HX : Hid (xs.getD k 0 = x) := hx
        have HY : Hid (ys.getD k 0 = y) := hy
        clear hx hy
        have c1 := cell_later HB.out hcell
        have c2 := cell_later HB.out hcell2
        clear hcell hcell2
        cases he : (x != y)
        · go_wp2_with fail
          go_quiet (fail)
          go_wp2
          go_roundw
          case rel =>
            refine ⟨k + 1, by omega, by go_num, fun j hj => ?_, below_drewN HB.out _⟩
            by_cases hjk : j = k
            · subst hjk; rw [HX.out, HY.out]; simpa using he
            · exact HNO.out j (by omega)
          case measure => simp [intOf]; omega
        · go_wp2_with fail
          go_quiet (fail)
          go_wp2
          go_ret
          rw [same_no k (by rw [HX.out, HY.out]; simpa using he)]
          exact ⟨rfl, below_drewN HB.out _⟩
      · go_wp2
        go_ret
        have hke : k = m := by omega
        subst hke
        rw [same_yes HNE.out (fun i hi => HNO.out i (by rw [HM.out]; exact hi))]
        exact ⟨rfl, HB.out⟩
  · have HS : Hid (sameB xs ys = false) := same_len hne
    have hd : ((xs.length : Int) != (ys.length : Int)) = true := by simp; omega
    generalize xs.length = m at *
    generalize ys.length = m2 at *
    clear HC HC2
    go_enter Try.func32, Try.ntmps32
    go_wp2
    go_ret
    rw [HS.out]
    exact ⟨rfl, Below.refl _ _⟩

end Go.Proofs.Ytaflnjhknnnaoaa
