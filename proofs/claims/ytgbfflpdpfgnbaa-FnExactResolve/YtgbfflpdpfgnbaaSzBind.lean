/- laws.szBind and laws.szBindS: what is left behind binds. Condition: at most 2^20 may come. -/
import Derived.Test.YtgbfflpdpfgnbaaBindP
import Derived.Test.YtgbfflpdpfgnbaaSzStx
namespace Go.Proofs.Ytgbfflpdpfgnbaa
open Go.ChangeShapes Go.WideShapes Go.ChangeAt Go.RowKit

set_option maxRecDepth 100000 in
set_option maxHeartbeats 2000000 in
theorem sz_bind (t : Bd) (w : World) (sv : Value) (left : Nat) (hset : SetR w sv t.set) (hf : t.Fits) (hl : left ≤ 1048576) :
    Calls Try.prog 17 #[.agg #[.string t.name, sv, .int .i64 t.kind, .int .i64 t.n, .int .i64 t.at_], .int .i64 left] w fun e w' => e = .returned (.int .i64 (szX left t.weight)) ∧ Below w.heap.size w w' := by
  obtain ⟨s, set, kd, n, a⟩ := t
  obtain ⟨hs, hsm⟩ := hf
  unfold maxLen at hs
  simp only at hs hset hsm ⊢
  obtain ⟨p2, cap2, hv2⟩ := hset.shape
  have HW : Hid ((Bd.mk s set kd n a).weight = s.size + set.length) := rfl
  have HT : Hid (∀ (left : Nat) (w : World), left ≤ 1048576 → Calls Try.prog 24 #[.slice p2 set.length cap2, .int .i64 left] w fun e w' => e = .returned (.int .i64 (szX left set.length)) ∧ w' = w) := fun left w h => sz_ints p2 set.length cap2 left w hsm h
  clear hset hsm
  subst hv2
  generalize set.length = m at *
  by_cases h0 : (left : Int) - s.size < 0
  · have HR : Hid (szX left (Bd.mk s set kd n a).weight = -1) := szX_no (by rw [HW.out]; omega)
    go_enter Try.func17, Try.ntmps17
    go_wp2_with fail
    go_ret
    exact ⟨by rw [HR.out]; rfl, newx w _⟩
  have hx1 : left - s.size ≤ 1048576 := by omega
  have hx : (left : Int) - s.size = ((left - s.size : Nat) : Int) := by omega
  by_cases h1 : m ≤ left - s.size
  · have E0 : Hid (szX (left - s.size) m = ((left - s.size - m : Nat) : Int)) := szX_yes h1
    have HR : Hid (szX left (Bd.mk s set kd n a).weight = ((left - s.size - m : Nat) : Int)) := by
      show _ = _
      rw [szX_yes (by rw [HW.out]; omega)]; congr 1; rw [HW.out]; omega
    generalize left - s.size - m = y at *
    generalize left - s.size = x at *
    clear h1
    go_enter Try.func17, Try.ntmps17
    go_wp2_with fail
    refine (HT.out x _ hx1).mono ?_
    rintro e w0 ⟨rfl, rfl⟩
    rw [E0.out]
    go_wp2_with fail
    go_ret
    exact ⟨by rw [HR.out]; rfl, newx w _⟩
  · have HR : Hid (szX left (Bd.mk s set kd n a).weight = -1) := szX_no (by rw [HW.out]; omega)
    have E0 : Hid (szX (left - s.size) m = -1) := szX_no (by omega)
    clear h1
    generalize left - s.size = x at *
    go_enter Try.func17, Try.ntmps17
    go_wp2_with fail
    refine (HT.out x _ hx1).mono ?_
    rintro e w0 ⟨rfl, rfl⟩
    rw [E0.out]
    go_wp2_with fail
    go_ret
    exact ⟨by rw [HR.out]; rfl, newx w _⟩

set_option maxRecDepth 100000 in
set_option maxHeartbeats 2000000 in
theorem sz_binds (len : Nat) (bd : Nat → Bd) (w : World) (v : Value) (left : Nat) (hv : BsOf w len bd v) (hl : left ≤ 1048576) :
    Calls Try.prog 5 #[v, .int .i64 left] w fun e w' => e = .returned (.int .i64 (szX left (bdsWeight len bd))) ∧ Below w.heap.size w w' := by
  obtain ⟨p, cap, rfl, hlen, hat⟩ := hv.at
  have HC : Hid (∀ i, i < len → ∃ b o sv, p = some ⟨b, o, none⟩ ∧ HeadB w b (o + i * 5) (bd i) sv ∧ SetR w sv (bd i).set ∧ (bd i).Fits) := hat
  clear hat hv
  unfold maxLen at hlen
  by_cases h0 : (left : Int) - len < 0
  · have HR : Hid (szX left (bdsWeight len bd) = -1) := szX_no (by unfold bdsWeight; omega)
    go_enter Try.func5, Try.ntmps5
    go_wp2_with fail
    go_ret
    exact ⟨by rw [HR.out]; rfl, Below.refl _ _⟩
  · go_enter Try.func5, Try.ntmps5
    go_wp2_with fail
    go_loopw [1, 5] (fun x i wr => ∃ k r : Nat, i = .int .i64 k ∧ x = .int .i64 r ∧ k ≤ len ∧ r + len + sumX (fun i => (bd i).weight) k = left ∧ Below w.heap.size w wr) (fun _ i _ => len - (intOf i).toNat)
    case atStart => exact ⟨0, left - len, rfl, by congr 1; omega, Nat.zero_le _, by simp [sumX]; omega, Below.refl _ _⟩
    case round =>
      obtain ⟨k, r, rfl, rfl, hk, hsum, hbel⟩ := hrel
      have HBL : Hid (Below w.heap.size w wr) := hbel
      have HS : Hid (r + len + sumX (fun i => (bd i).weight) k = left) := hsum
      have hr : r ≤ 1048576 := by omega
      clear hbel hsum
      by_cases hlt : (k : Int) < len
      · have hlt' : k < len := by omega
        obtain ⟨b, o, sv, hp, hd, hin, hft⟩ := HC.out k hlt'
        subst hp
        obtain ⟨c0, c1, c2, c3, c4⟩ := hd.below HBL.out
        have HI : Hid (SetR wr sv (bd k).set ∧ (bd k).Fits) := ⟨SetR.below HBL.out hin, hft⟩
        clear hd hin hft
        by_cases hw : (bd k).weight ≤ r
        · have HN : Hid ((r - (bd k).weight) + len + sumX (fun i => (bd i).weight) (k + 1) = left) := by
            have := HS.out
            show _ = _
            simp only [sumX]; omega
          have e1 := szX_yes hw
          generalize hx : r - (bd k).weight = x at *
          have hx0 : (0 : Int) ≤ (x : Int) := by omega
          clear hx hw
          have E1 : Hid (szX r (bd k).weight = (x : Int)) := e1
          clear e1
          go_wp2_with fail
          refine (sz_bind (bd k) wr sv r HI.out.1 HI.out.2 hr).mono ?_
          rintro e w1 ⟨rfl, hb1⟩
          rw [E1.out]
          have HB1 : Hid (Below w.heap.size w w1) := HBL.out.trans (hb1.mono HBL.out.size)
          clear hb1 c0 c1 c2 c3 c4
          go_wp2_with fail
          go_roundw
          case rel => exact ⟨k + 1, x, by go_num, rfl, by omega, HN.out, HB1.out⟩
          case measure => simp [intOf]; omega
        · have HR : Hid (szX left (bdsWeight len bd) = -1) := by
            refine szX_no ?_
            have h1 := HS.out
            have h2 := sumX_at (fun i => (bd i).weight) k len hlt'
            unfold bdsWeight; omega
          have E1 : Hid (szX r (bd k).weight = -1) := szX_no (by omega)
          clear hw
          go_wp2_with fail
          refine (sz_bind (bd k) wr sv r HI.out.1 HI.out.2 hr).mono ?_
          rintro e w1 ⟨rfl, hb1⟩
          rw [E1.out]
          have HB1 : Hid (Below w.heap.size w w1) := HBL.out.trans (hb1.mono HBL.out.size)
          clear hb1 c0 c1 c2 c3 c4
          go_wp2_with fail
          go_ret
          exact ⟨by rw [HR.out]; rfl, HB1.out⟩
      · have hke : k = len := by omega
        subst hke
        go_wp2
        go_ret
        refine ⟨?_, HBL.out⟩
        have h1 := HS.out
        have e : szX left (bdsWeight k bd) = (r : Int) := by
          rw [szX_yes (by unfold bdsWeight; omega)]
          congr 1; unfold bdsWeight; omega
        rw [e]; rfl
end Go.Proofs.Ytgbfflpdpfgnbaa
