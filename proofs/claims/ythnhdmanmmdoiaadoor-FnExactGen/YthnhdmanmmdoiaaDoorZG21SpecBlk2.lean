/- spec.IrSize. Condition: at most 2^40 parts. -/
import Derived.Test.YthnhdmanmmdoiaaDoorRows
import Derived.Test.YthnhdmanmmdoiaaDoorZG3IrRows
import Derived.Test.YthnhdmanmmdoiaaDoorZG20SpecBlk1
import Derived.WalkKit
import Derived.ProofKit
import Derived.OwnWalk
namespace Go.Proofs.YthnhdmanmmdoiaaDoor
open Go.ChangeShapes Go.WideShapes Go.ChangeAt Go.RowKit

def ISizeAt (t : It) : Prop := ∀ (w : World) (v : Value), t.In w v → t.count ≤ 1099511627776 →
  Calls Tryd.prog 28 #[.agg #[.int .i64 t.op, .int .i64 t.n, v]] w fun e w' => e = .returned (.int .i64 t.count) ∧ Below w.heap.size w w'

set_option maxRecDepth 100000 in
set_option maxHeartbeats 2000000 in
theorem spec_isize (t : It) : ISizeAt t := by
  induction t with
  | no => intro w v h _; exact h.elim
  | mk op n len kid ih =>
    intro w v hin hc
    have h1 := hin.sl
    have HCE : Hid ((It.mk op n len kid).count = 1 + sumTo (fun i => (kid i).count) len) := rfl
    simp only [It.op, It.n, It.len, It.kid] at h1 ⊢
    generalize (It.mk op n len kid).count = CN at *
    obtain ⟨p, cap, e1, hlen, hat⟩ := h1.at
    have HC : Hid (∀ i, i < len → ∃ b o u, p = some ⟨b, o, none⟩ ∧ HeadI w b (o + i * 3) (kid i) u ∧ (kid i).In w u) := hat
    have IH : Hid (∀ i, ISizeAt (kid i)) := ih
    clear hin h1 hat ih
    unfold maxLen at hlen
    subst e1
    go_enter Tryd.func28, Tryd.ntmps28
    go_wp2_with fail
    go_loopw [3, 4] (fun x i wr => ∃ k c : Nat, i = .int .i64 k ∧ x = .int .i64 c ∧ k ≤ len ∧ c = 1 + sumTo (fun i => (kid i).count) k ∧ wr.cell? ⟨w.heap.size, 2, none⟩ = some (.slice p len cap) ∧ Below w.heap.size w wr) (fun _ i _ => len - (intOf i).toNat)
    case atStart => exact ⟨0, 1, rfl, rfl, Nat.zero_le _, rfl, by simp, newb w _⟩
    case round =>
      obtain ⟨k, c, rfl, rfl, hk, hcc, hc1, hbel⟩ := hrel
      have HBL : Hid (Below w.heap.size w wr) := hbel
      have HS : Hid (c = 1 + sumTo (fun i => (kid i).count) k) := hcc
      clear hbel hcc
      by_cases hlt : (k : Int) < len
      · have hlt' : k < len := by omega
        obtain ⟨b, o, u, hp, hd, hin⟩ := HC.out k hlt'
        subst hp
        obtain ⟨c0, c1, c2⟩ := hd.below HBL.out
        have HI : Hid ((kid k).In wr u) := hin.below HBL.out
        have hsum : c + (kid k).count ≤ CN := by
          have h1 := sumTo_at (fun i => (kid i).count) k len hlt'
          have h2 := HS.out
          have h3 := HCE.out
          omega
        have hck : (kid k).count ≤ 1099511627776 := by omega
        clear hd hin
        go_wp2_with fail
        refine (IH.out k wr u HI.out hck).mono ?_
        rintro e w1 ⟨rfl, hb1⟩
        have HB1 : Hid (Below w.heap.size w w1) := HBL.out.trans (hb1.mono HBL.out.size)
        have HX : Hid (w1.cell? ⟨w.heap.size, 2, none⟩ = some (.slice (some ⟨b, o, none⟩) len cap)) := keeps hb1 _ _ hc1
        clear hb1 c0 c1 c2
        go_wp2_with fail
        go_roundw
        case rel => exact ⟨k + 1, c + (kid k).count, by go_num, by go_num, by omega, by rw [HS.out]; simp only [sumTo]; omega, HX.out, HB1.out⟩
        case measure => simp [intOf]; omega
      · have hke : k = len := by omega
        subst hke
        have HE : Hid (c = CN) := HS.out.trans HCE.out.symm
        go_wp2_with fail
        go_ret
        exact ⟨by rw [← HE.out]; rfl, HBL.out⟩
end Go.Proofs.YthnhdmanmmdoiaaDoor

/- spec.BlocksOk. Condition: at most 2^20 in all. -/
namespace Go.Proofs.YthnhdmanmmdoiaaDoor
open Go.ChangeShapes Go.WideShapes Go.ChangeAt Go.RowKit

theorem blk_count {nb : Nat} {kb : Nat → Kb} (hw : kidsWeightK nb kb ≤ 1048576) {i : Nat} (hi : i < nb) : (kb i).bd.count ≤ 1048577 := by
  have h1 := sumTo_at (fun i => (kb i).weight) i nb hi
  have h2 := (kb i).bd.count_weight
  have h3 : (kb i).weight = (kb i).bd.weight := rfl
  unfold kidsWeightK at hw
  omega

set_option maxRecDepth 100000 in
set_option maxHeartbeats 4000000 in
theorem spec_blks_ok (nb : Nat) (kb : Nat → Kb) (w : World) (v : Value) (hv : Kl w nb kb v) (hw : kidsWeightK nb kb ≤ 1048576) :
    Calls Tryd.prog 14 #[v] w fun e w' => e = .returned (.bool (blksB nb kb)) ∧ Below w.heap.size w w' := by
  obtain ⟨p, cap, e1, hlen, hat⟩ := hv.at
  have HV : Hid (Kl w nb kb v) := hv
  have HC : Hid (∀ i, i < nb → ∃ b o u, p = some ⟨b, o, none⟩ ∧ HeadK w b (o + i * 4) (kb i) u ∧ (kb i).In w u) := hat
  have HCN : Hid (∀ i, i < nb → (kb i).bd.count ≤ 1048577) := fun i hi => blk_count hw hi
  have HRE : Hid (blksB nb kb = (allTo (blkI nb kb) nb && ((decide (1 ≤ nb) && decide (nb ≤ 60)) && ((kb 0).fr == 0)))) := rfl
  generalize blksB nb kb = R at *
  clear hv hat hw
  unfold maxLen at hlen
  subst e1
  go_enter Tryd.func14, Tryd.ntmps14
  go_wp2_with fail
  go_loopw [3] (fun i wr => ∃ k : Nat, i = .int .i64 k ∧ k ≤ nb ∧ allTo (blkI nb kb) k = true ∧ Below w.heap.size w wr) (fun i _ => nb - (intOf i).toNat)
  case atStart => exact ⟨0, rfl, Nat.zero_le _, rfl, Below.refl _ _⟩
  case round =>
    obtain ⟨k, rfl, hk, hcc, hbel⟩ := hrel
    have HBL : Hid (Below w.heap.size w wr) := hbel
    have HA : Hid (allTo (blkI nb kb) k = true) := hcc
    clear hbel hcc
    by_cases hlt : (k : Int) < nb
    · have hlt' : k < nb := by omega
      obtain ⟨b, o, u, hp, hd, hin⟩ := HC.out k hlt'
      subst hp
      obtain ⟨c0, c1, c2, c3⟩ := hd.below HBL.out
      have HIN : Hid ((kb k).bd.In wr u) := hin.2.below HBL.out
      clear hd hin
      by_cases hf : (kb k).fr < 0
      · have HR : Hid (R = false) := HRE.out.trans (by rw [allTo_false hlt' (show blkI nb kb k = false by unfold blkI; rw [decide_eq_false (by omega)]; rfl)]; rfl)
        go_wp2_with fail
        go_ret
        exact ⟨by rw [HR.out]; rfl, HBL.out⟩
      have hcn := HCN.out k hlt'
      obtain ⟨N, hN⟩ : ∃ N, (kb k).bd.count = N := ⟨_, rfl⟩
      rw [hN] at hcn
      have HS : Hid (Calls Tryd.prog 28 #[.agg #[.int .i64 (kb k).bd.op, .int .i64 (kb k).bd.n, u]] wr fun e w' => e = .returned (.int .i64 (N : Int)) ∧ Below wr.heap.size wr w') := by
        have := spec_isize (kb k).bd wr u HIN.out (by omega)
        rw [hN] at this; exact this
      by_cases hc : 4000 < N
      · have HR : Hid (R = false) := HRE.out.trans (by rw [allTo_false hlt' (show blkI nb kb k = false by unfold blkI okI; rw [hN, decide_eq_false (show ¬ N ≤ 4000 by omega)]; simp)]; rfl)
        have hc' : (4000 : Int) < N := by omega
        clear hN
        go_wp2_with (go_at_call 28; refine HS.out.mono ?_; rintro e w1 ⟨rfl, hb1⟩)
        go_ret
        exact ⟨by rw [HR.out]; rfl, HBL.out.trans (hb1.mono HBL.out.size)⟩
      have hc' : ¬ (4000 : Int) < N := by omega
      obtain ⟨RK, hRK⟩ : ∃ RK, rightI nb kb k (kb k).bd 1 = RK := ⟨_, rfl⟩
      have HCL : Hid (∀ w1, Below wr.heap.size wr w1 → Calls Tryd.prog 29 #[.slice (some ⟨b, o, none⟩) nb cap, .int .i64 k, .agg #[.int .i64 (kb k).bd.op, .int .i64 (kb k).bd.n, u], .int .i64 1] w1 fun e w' => e = .returned (.bool RK) ∧ Below w1.heap.size w1 w') := fun w1 h1 => by
        have := spec_iright nb kb k hlt' (by omega) (kb k).bd w1 u (.slice (some ⟨b, o, none⟩) nb cap) 1 ((HV.out.below HBL.out).below h1) (HIN.out.below h1) (by omega) (by omega)
        rw [hRK] at this; exact this
      have HBK : Hid (blkI nb kb k = RK) := by show _ = _; unfold blkI okI; rw [hN, hRK, decide_eq_true (show 0 ≤ (kb k).fr by omega), decide_eq_true (show N ≤ 4000 by omega)]; simp
      clear hN hRK
      have HHD : Hid (∀ w1, Below wr.heap.size wr w1 → w1.cell? ⟨b, o + k * 4 + 1, none⟩ = some (.int .i64 (kb k).bd.op) ∧ w1.cell? ⟨b, o + k * 4 + 2, none⟩ = some (.int .i64 (kb k).bd.n) ∧ w1.cell? ⟨b, o + k * 4 + 3, none⟩ = some u) := fun w1 h1 => ⟨keeps h1 _ _ c1, keeps h1 _ _ c2, keeps h1 _ _ c3⟩
      cases RK with
      | false =>
        have HR : Hid (R = false) := HRE.out.trans (by rw [allTo_false hlt' HBK.out]; rfl)
        go_wp2_with (first | (go_at_call 28; refine HS.out.mono ?_; rintro e w1 ⟨rfl, hb1⟩; have HB1 : Hid (Below wr.heap.size wr w1) := hb1; clear hb1; obtain ⟨d1, d2, d3⟩ := HHD.out _ HB1.out) | (go_at_call 29; refine (HCL.out _ HB1.out).mono ?_; rintro e w2 ⟨rfl, hb2⟩; have HB2 : Hid (Below w.heap.size w w2) := HBL.out.trans ((HB1.out.trans (hb2.mono HB1.out.size)).mono HBL.out.size); clear hb2))
        go_ret
        exact ⟨by rw [HR.out]; rfl, HB2.out⟩
      | true =>
        have HN : Hid (allTo (blkI nb kb) (k + 1) = true) := by show _ = _; simp only [allTo, HA.out, HBK.out, Bool.and_self]
        go_wp2_with (first | (go_at_call 28; refine HS.out.mono ?_; rintro e w1 ⟨rfl, hb1⟩; have HB1 : Hid (Below wr.heap.size wr w1) := hb1; clear hb1; obtain ⟨d1, d2, d3⟩ := HHD.out _ HB1.out) | (go_at_call 29; refine (HCL.out _ HB1.out).mono ?_; rintro e w2 ⟨rfl, hb2⟩; have HB2 : Hid (Below w.heap.size w w2) := HBL.out.trans ((HB1.out.trans (hb2.mono HB1.out.size)).mono HBL.out.size); clear hb2))
        go_roundw
        case rel => first | exact ⟨k + 1, by go_num, by omega, HN.out, HB2.out⟩ | ((repeat apply Exists.intro); exact ⟨⟨k + 1, by go_num, by omega, HN.out, HB2.out⟩, rfl⟩)
        case measure => simp [intOf]; omega
    · have hke : k = nb := by omega
      subst hke
      have HR : Hid (R = ((decide (1 ≤ k) && decide (k ≤ 60)) && ((kb 0).fr == 0))) := HRE.out.trans (by rw [HA.out, Bool.true_and])
      have HW : Hid (∀ w, Calls Tryd.prog 30 #[.int .i64 k, .int .i64 1, .int .i64 60] w fun e w' => e = .returned (.bool (decide (1 ≤ k) && decide (k ≤ 60))) ∧ w' = w) := fun w => spec_inI _ _ _ _ (by congr 1 <;> exact decide_eq_decide.2 (by omega)) w
      cases hx : (decide (1 ≤ k) && decide (k ≤ 60)) with
      | false =>
        rw [hx] at HW HR
        clear hx HRE
        go_wp2_with (go_at_call 30; refine (HW.out _).mono ?_; rintro e w1 ⟨rfl, rfl⟩)
        go_ret
        exact ⟨by rw [HR.out]; rfl, HBL.out⟩
      | true =>
        rw [hx] at HW HR
        have hkk : 1 ≤ k := by have : 1 ≤ k ∧ k ≤ 60 := by simpa using hx
                               exact this.1
        obtain ⟨b, o, u, hp, hd, hin⟩ := HC.out 0 (by omega)
        subst hp
        have c0 := (hd.below HBL.out).c0
        simp only [Nat.zero_mul, Nat.add_zero] at c0
        clear hx HRE hd hin
        generalize (kb 0).fr = F at *
        have hk0 : (0 : Int) < k := by omega
        go_wp2_with (go_at_call 30; refine (HW.out _).mono ?_; rintro e w1 ⟨rfl, rfl⟩)
        go_ret
        exact ⟨by rw [HR.out]; rfl, HBL.out⟩
end Go.Proofs.YthnhdmanmmdoiaaDoor
