/- laws.szFun and laws.szFunS. Condition: at most 2^20 may come. -/
import Derived.Test.YtocdpgogoadfnaaDoorRows
import Derived.Test.YtocdpgogoadfnaaDoorFun
import Derived.WalkKit
import Derived.ProofKit
namespace Go.Proofs.YtocdpgogoadfnaaDoor
open Go.ChangeShapes Go.WideShapes Go.ChangeAt Go.RowKit

/-- What is left. -/
def szF (left weight : Nat) : Int := if weight ≤ left then ((left - weight : Nat) : Int) else -1
theorem szF_yes {left weight : Nat} (h : weight ≤ left) : szF left weight = ((left - weight : Nat) : Int) := if_pos h
theorem szF_no {left weight : Nat} (h : left < weight) : szF left weight = -1 := if_neg (by omega)

set_option maxHeartbeats 2000000 in
theorem sz_ops (len : Nat) (p : Option Addr) (cap : Nat) (w : World) (left : Nat) (hlen : len ≤ maxLen) (hl : left ≤ 1048576) :
    Calls Tryd.prog 31 #[.slice p len cap, .int .i64 left] w fun e w' => e = .returned (.int .i64 (szF left len)) ∧ w' = w := by
  unfold maxLen at hlen
  by_cases h : len ≤ left
  · have HE : Hid (szF left len = ((left - len : Nat) : Int)) := szF_yes h
    have h0 : ¬ (left : Int) - len < 0 := by omega
    have HS : Hid ((left : Int) - len = ((left - len : Nat) : Int)) := by show _ = _; omega
    go_enter Tryd.func31, Tryd.ntmps31
    go_wp2
    go_ret
    exact ⟨by rw [HE.out, ← HS.out]; rfl, rfl⟩
  · have HE : Hid (szF left len = -1) := szF_no (by omega)
    have h0 : (left : Int) - len < 0 := by omega
    go_enter Tryd.func31, Tryd.ntmps31
    go_wp2
    go_ret
    exact ⟨by rw [HE.out]; rfl, rfl⟩

def SzFAt (t : Fu) : Prop := ∀ (w : World) (v : Value) (left : Nat), t.In w v → left ≤ 1048576 →
  Calls Tryd.prog 18 #[.agg #[.int .i64 t.fr, v], .int .i64 left] w fun e w' => e = .returned (.int .i64 (szF left t.weight)) ∧ Below w.heap.size w w'

set_option maxRecDepth 100000 in
set_option maxHeartbeats 2000000 in
theorem sz_fun (t : Fu) : SzFAt t := by
  intro w v left hin hl
  have HW : Hid (t.weight = t.len) := rfl
  obtain ⟨p, cap, e, hm, -⟩ := hin.sl.at
  have HS : Hid (∀ w1, Calls Tryd.prog 31 #[.slice p t.len cap, .int .i64 left] w1 fun e w' => e = .returned (.int .i64 (szF left t.len)) ∧ w' = w1) := fun w1 => sz_ops t.len p cap w1 left hm hl
  have HN : Hid (∀ o, Below w.heap.size w (w.alloc o)) := fun o => newb w o
  clear hin hm
  subst e
  rw [HW.out]
  by_cases hw : t.len ≤ left
  · rw [szF_yes hw] at HS ⊢
    clear hw
    generalize left - t.len = y at *
    go_enter Tryd.func18, Tryd.ntmps18
    go_wp2_with fail
    refine (HS.out _).mono ?_
    rintro e w1 ⟨rfl, rfl⟩
    go_wp2_with fail
    go_ret
    exact ⟨rfl, HN.out _⟩
  · rw [szF_no (by omega)] at HS ⊢
    clear hw
    go_enter Tryd.func18, Tryd.ntmps18
    go_wp2_with fail
    refine (HS.out _).mono ?_
    rintro e w1 ⟨rfl, rfl⟩
    go_wp2_with fail
    go_ret
    exact ⟨rfl, HN.out _⟩

set_option maxRecDepth 100000 in
set_option maxHeartbeats 2000000 in
theorem sz_funsOf (len : Nat) (kid : Nat → Fu) (ih : ∀ i, i < len → SzFAt (kid i)) (w : World) (v : Value) (left : Nat) (hv : Fl w len kid v) (hl : left ≤ 1048576) :
    Calls Tryd.prog 5 #[v, .int .i64 left] w fun e w' => e = .returned (.int .i64 (szF left (funsWeight len kid))) ∧ Below w.heap.size w w' := by
  obtain ⟨p, cap, rfl, hlen, hat⟩ := hv.at
  have HC : Hid (∀ i, i < len → ∃ b o u, p = some ⟨b, o, none⟩ ∧ HeadF w b (o + i * 2) (kid i) u ∧ (kid i).In w u) := hat
  have IH : Hid (∀ i, i < len → SzFAt (kid i)) := ih
  clear hat ih hv
  unfold maxLen at hlen
  by_cases h0 : (left : Int) - len < 0
  · have HR : Hid (szF left (funsWeight len kid) = -1) := szF_no (by unfold funsWeight; omega)
    go_enter Tryd.func5, Tryd.ntmps5
    go_wp2_with fail
    go_ret
    exact ⟨by rw [HR.out]; rfl, Below.refl _ _⟩
  · go_enter Tryd.func5, Tryd.ntmps5
    go_wp2_with fail
    go_loopw [1, 5] (fun x i wr => ∃ k r : Nat, i = .int .i64 k ∧ x = .int .i64 r ∧ k ≤ len ∧ r + len + sumF (fun i => (kid i).weight) k = left ∧ Below w.heap.size w wr) (fun _ i _ => len - (intOf i).toNat)
    case atStart => exact ⟨0, left - len, rfl, by congr 1; omega, Nat.zero_le _, by simp [sumF]; omega, Below.refl _ _⟩
    case round =>
      obtain ⟨k, r, rfl, rfl, hk, hsum, hbel⟩ := hrel
      have HBL : Hid (Below w.heap.size w wr) := hbel
      have HS : Hid (r + len + sumF (fun i => (kid i).weight) k = left) := hsum
      have hr : r ≤ 1048576 := by omega
      clear hbel hsum
      by_cases hlt : (k : Int) < len
      · have hlt' : k < len := by omega
        obtain ⟨b, o, u, hp, hd, hin⟩ := HC.out k hlt'
        subst hp
        have hd1 := hd.below HBL.out
        have hin1 := hin.below HBL.out
        obtain ⟨c0, c1⟩ := hd1
        clear hd hin
        have HI : Hid ((kid k).In wr u) := hin1
        clear hin1
        by_cases hw : (kid k).weight ≤ r
        · have HN : Hid ((r - (kid k).weight) + len + sumF (fun i => (kid i).weight) (k + 1) = left) := by
            have := HS.out
            show _ = _
            simp only [sumF]; omega
          have e1 := szF_yes hw
          generalize hx : r - (kid k).weight = x at *
          have hx0 : (0 : Int) ≤ (x : Int) := by omega
          clear hx hw
          have E1 : Hid (szF r (kid k).weight = (x : Int)) := e1
          clear e1
          go_wp2_with fail
          refine (IH.out k hlt' wr u r HI.out hr).mono ?_
          rintro e w1 ⟨rfl, hb1⟩
          rw [E1.out]
          have HB1 : Hid (Below w.heap.size w w1) := HBL.out.trans (hb1.mono HBL.out.size)
          clear hb1 c0 c1
          go_wp2_with fail
          go_roundw
          case rel => exact ⟨k + 1, x, by go_num, rfl, by omega, HN.out, HB1.out⟩
          case measure => simp [intOf]; omega
        · have HR : Hid (szF left (funsWeight len kid) = -1) := by
            refine szF_no ?_
            have h1 := HS.out
            have h2 := sumF_at (fun i => (kid i).weight) k len hlt'
            unfold funsWeight; omega
          have E1 : Hid (szF r (kid k).weight = -1) := szF_no (by omega)
          clear hw
          go_wp2_with fail
          refine (IH.out k hlt' wr u r HI.out hr).mono ?_
          rintro e w1 ⟨rfl, hb1⟩
          rw [E1.out]
          have HB1 : Hid (Below w.heap.size w w1) := HBL.out.trans (hb1.mono HBL.out.size)
          clear hb1 c0 c1
          go_wp2_with fail
          go_ret
          exact ⟨by rw [HR.out]; rfl, HB1.out⟩
      · have hke : k = len := by omega
        subst hke
        go_wp2
        go_ret
        refine ⟨?_, HBL.out⟩
        have h1 := HS.out
        have e : szF left (funsWeight k kid) = (r : Int) := by
          rw [szF_yes (by unfold funsWeight; omega)]
          congr 1; unfold funsWeight; omega
        rw [e]; rfl

theorem sz_funs (len : Nat) (kid : Nat → Fu) (w : World) (v : Value) (left : Nat) (hv : Fl w len kid v) (hl : left ≤ 1048576) :
    Calls Tryd.prog 5 #[v, .int .i64 left] w fun e w' => e = .returned (.int .i64 (szF left (funsWeight len kid))) ∧ Below w.heap.size w w' := sz_funsOf len kid (fun i _ => sz_fun (kid i)) w v left hv hl
end Go.Proofs.YtocdpgogoadfnaaDoor
