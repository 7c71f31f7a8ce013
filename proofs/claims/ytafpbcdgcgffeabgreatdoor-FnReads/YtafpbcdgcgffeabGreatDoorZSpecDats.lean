/- spec.DatsOk. Condition: at most 2^40 data. -/
import Derived.Test.YtafpbcdgcgffeabGreatDoorZSpecDeep
import Derived.Test.YtafpbcdgcgffeabGreatDoorZSpecRight
namespace Go.Proofs.YtafpbcdgcgffeabGreatDoor
open Go.ChangeShapes Go.WideShapes Go.ChangeAt Go.RowKit

set_option maxRecDepth 100000 in
set_option maxHeartbeats 4000000 in
theorem spec_dats (len : Nat) (kid : Nat → D) (w : World) (v : Value) (hv : Sl w len kid v) (hc : sumTo (fun i => (kid i).count) len ≤ 1099511627776) :
    Calls Tryz.prog 12 #[v] w fun e w' => e = .returned (.bool (datsB len kid)) ∧ Below w.heap.size w w' := by
  obtain ⟨p, cap, rfl, hlen, hat⟩ := hv.at
  have HC : Hid (∀ i, i < len → ∃ b o u, p = some ⟨b, o, none⟩ ∧ Head w b (o + i * 5) (kid i) u ∧ (kid i).In w u) := hat
  have HRE : Hid (datsB len kid = (allTo (fun i => decide ((kid i).deep ≤ 20) && rightB (kid i)) len && decide (sumTo (fun i => (kid i).count) len ≤ 1500))) := rfl
  have HSC : Hid (sumTo (fun i => (kid i).count) len ≤ 1099511627776) := hc
  generalize datsB len kid = R at *
  clear hat hv hc
  unfold maxLen at hlen
  go_enter Tryz.func12, Tryz.ntmps12
  go_wp2_with fail
  go_loopw [3, 4] (fun x i wr => ∃ k c : Nat, i = .int .i64 k ∧ x = .int .i64 c ∧ k ≤ len ∧ c = sumTo (fun i => (kid i).count) k ∧ allTo (fun i => decide ((kid i).deep ≤ 20) && rightB (kid i)) k = true ∧ Below w.heap.size w wr) (fun _ i _ => len - (intOf i).toNat)
  case atStart => exact ⟨0, 0, rfl, rfl, Nat.zero_le _, rfl, rfl, Below.refl _ _⟩
  case round =>
    obtain ⟨k, c, rfl, rfl, hk, hcc, hall, hbel⟩ := hrel
    have HBL : Hid (Below w.heap.size w wr) := hbel
    have HS : Hid (c = sumTo (fun i => (kid i).count) k) := hcc
    have HA : Hid (allTo (fun i => decide ((kid i).deep ≤ 20) && rightB (kid i)) k = true) := hall
    clear hbel hcc hall
    by_cases hlt : (k : Int) < len
    · have hlt' : k < len := by omega
      obtain ⟨b, o, u, hp, hd, hin⟩ := HC.out k hlt'
      subst hp
      obtain ⟨c0, c1, c2, c3, c4⟩ := hd.below HBL.out
      have HI : Hid ((kid k).In wr u) := hin.below HBL.out
      have HH : Hid (Head w b (o + k * 5) (kid k) u) := hd
      have hsum : c + (kid k).count ≤ 1099511627776 := by
        have h1 := sumTo_at (fun i => (kid i).count) k len hlt'
        have h2 := HS.out
        have h3 := HSC.out
        omega
      have hck : (kid k).count ≤ 1099511627776 := by omega
      have HNS : Hid (c + (kid k).count = sumTo (fun i => (kid i).count) (k + 1)) := by
        show _ = _
        rw [HS.out]; rfl
      clear hd hin
      go_wp2_with fail
      refine (spec_size (kid k) wr u HI.out hck).mono ?_
      rintro e w1 ⟨rfl, hb1⟩
      have HB1 : Hid (Below w.heap.size w w1) := HBL.out.trans (hb1.mono HBL.out.size)
      have HI1 : Hid ((kid k).In w1 u) := HI.out.below hb1
      clear hb1 c0 c1 c2 c3 c4 HI HBL
      obtain ⟨c0, c1, c2, c3, c4⟩ := HH.out.below HB1.out
      go_wp2_with fail
      refine (spec_deep (kid k) w1 u HI1.out hck).mono ?_
      rintro e w2 ⟨rfl, hb2⟩
      have HB2 : Hid (Below w.heap.size w w2) := HB1.out.trans (hb2.mono HB1.out.size)
      have HI2 : Hid ((kid k).In w2 u) := HI1.out.below hb2
      clear hb2 c0 c1 c2 c3 c4 HI1 HB1
      obtain ⟨c0, c1, c2, c3, c4⟩ := HH.out.below HB2.out
      by_cases hdp : (20 : Int) < (kid k).deep
      · have HN : Hid (R = false) := HRE.out.trans (by rw [allTo_false hlt' (by rw [decide_eq_false (by omega)]; rfl)]; rfl)
        clear HRE
        go_wp2_with fail
        go_ret
        exact ⟨ret_bool HN.out.symm, HB2.out⟩
      · have hd20 : decide ((kid k).deep ≤ 20) = true := decide_eq_true (by omega)
        cases hr : rightB (kid k) with
        | true =>
          have HN : Hid (allTo (fun i => decide ((kid i).deep ≤ 20) && rightB (kid i)) (k + 1) = true) := by
            show _ = _
            simp only [allTo, HA.out, hr, hd20, Bool.and_self]
          have HRK : Hid (rightB (kid k) = true) := hr
          clear hr hd20
          go_wp2_with fail
          refine (spec_right (kid k) w2 u HI2.out).mono ?_
          rintro e w3 ⟨rfl, hb3⟩
          rw [HRK.out]
          have HB3 : Hid (Below w.heap.size w w3) := HB2.out.trans (hb3.mono HB2.out.size)
          clear hb3 c0 c1 c2 c3 c4
          go_wp2_with fail
          go_roundw
          case rel => exact ⟨k + 1, c + (kid k).count, by go_num, by go_num, by omega, HNS.out, HN.out, HB3.out⟩
          case measure => simp [intOf]; omega
        | false =>
          have HN : Hid (R = false) := HRE.out.trans (by rw [allTo_false hlt' (by rw [hr, Bool.and_false])]; rfl)
          have HRK : Hid (rightB (kid k) = false) := hr
          clear hr hd20 HRE
          go_wp2_with fail
          refine (spec_right (kid k) w2 u HI2.out).mono ?_
          rintro e w3 ⟨rfl, hb3⟩
          rw [HRK.out]
          have HB3 : Hid (Below w.heap.size w w3) := HB2.out.trans (hb3.mono HB2.out.size)
          clear hb3 c0 c1 c2 c3 c4
          go_wp2_with fail
          go_ret
          exact ⟨ret_bool HN.out.symm, HB3.out⟩
    · have hke : k = len := by omega
      have HR : Hid (R = decide ((c : Int) ≤ 1500)) := HRE.out.trans (by
        rw [← hke, HA.out, Bool.true_and, ← HS.out]
        by_cases h : c ≤ 1500
        · rw [decide_eq_true h, decide_eq_true (by omega)]
        · rw [decide_eq_false h, decide_eq_false (by omega)])
      go_wp2_with fail
      go_ret
      exact ⟨ret_bool HR.out.symm, HBL.out⟩
end Go.Proofs.YtafpbcdgcgffeabGreatDoor
