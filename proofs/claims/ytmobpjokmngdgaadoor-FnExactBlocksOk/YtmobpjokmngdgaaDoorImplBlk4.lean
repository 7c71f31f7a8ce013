/- impl.BlocksOk. Conditions: the table reads as its text lays it; at most 2^20 in all. -/
import Derived.Test.YtmobpjokmngdgaaDoorImplBlk3
namespace Go.Proofs.YtmobpjokmngdgaaDoor
open Go.ChangeShapes Go.WideShapes Go.ChangeAt Go.RowKit

theorem blk_countI {nb : Nat} {kb : Nat → Kb} (hw : kidsWeightK nb kb ≤ 1048576) {i : Nat} (hi : i < nb) : (kb i).bd.count ≤ 1048577 := by
  have h1 := sumTo_at (fun i => (kb i).weight) i nb hi
  have h2 := (kb i).bd.count_weight
  have h3 : (kb i).weight = (kb i).bd.weight := rfl
  unfold kidsWeightK at hw
  omega

set_option maxRecDepth 100000 in
set_option maxHeartbeats 4000000 in
theorem impl_blks_ok (nb : Nat) (kb : Nat → Kb) (w : World) (v : Value) (hv : Kl w nb kb v) (ht : KidTab w) (hw : kidsWeightK nb kb ≤ 1048576) :
    Calls Tryd.prog 7 #[v] w fun e w' => e = .returned (.bool (blksB nb kb)) ∧ Below w.heap.size w w' := by
  obtain ⟨p, cap, e1, hlen, hat⟩ := hv.at
  have HC : Hid (∀ i, i < nb → ∃ b o u, p = some ⟨b, o, none⟩ ∧ HeadK w b (o + i * 4) (kb i) u ∧ (kb i).In w u) := hat
  have HRE : Hid (blksB nb kb = (allTo (blkI nb kb) nb && ((decide (1 ≤ nb) && decide (nb ≤ 60)) && ((kb 0).fr == 0)))) := rfl
  have HCL0 : Hid (∀ k, k < nb → ∀ u, (kb k).bd.In w u → ∀ wr, Below w.heap.size w wr → ∀ o, Calls Tryd.prog 14 #[.pointer (some ⟨wr.heap.size + 1, 0, none⟩), .agg #[.int .i64 (kb k).bd.op, .int .i64 (kb k).bd.n, u], .int .i64 1] ((wr.alloc o).alloc (.cells #[v, .int .i64 k, .int .i64 4000] 45)) fun e w' => e = .returned (.bool (okI nb kb k (kb k).bd 1 4000)) ∧ Below w.heap.size w w') := fun k hk u hu wr hb o => by
    have hbb : Below w.heap.size w ((wr.alloc o).alloc (.cells #[v, .int .i64 k, .int .i64 4000] 45)) := (hb.alloc hb.size o).alloc (by have := hb.size; simp; omega) _
    refine (ir_ok nb kb k hk (kb k).bd w _ (wr.heap.size + 1) u v 1 4000 hv ht hu hbb (by have := hb.size; omega) (by have := heap_alloc_new (wr.alloc o) (.cells #[v, .int .i64 k, .int .i64 4000] 45); simpa [Look] using this) (by have := blk_countI hw hk; omega) (by omega)).mono ?_
    rintro e w' ⟨rfl, h2, -⟩
    exact ⟨rfl, hbb.trans (h2.below hbb.size (fun k hk => by have := hb.size; omega))⟩
  generalize blksB nb kb = R at *
  clear hv hat hw ht
  unfold maxLen at hlen
  subst e1
  by_cases c1 : 1 ≤ nb
  · by_cases c2 : nb ≤ 60
    · obtain ⟨b, o, u, hp, hd, -⟩ := HC.out 0 (by omega)
      subst hp
      have f0 := hd.c0
      simp only [Nat.zero_mul, Nat.add_zero] at f0
      clear hd
      have d1 : ¬ (nb : Int) < 1 := by omega
      have d2 : ¬ (60 : Int) < nb := by omega
      have d3 : (0 : Int) < nb := by omega
      cases hz : ((kb 0).fr == 0) with
      | false =>
        have HR : Hid (R = false) := by show _ = _; rw [HRE.out, hz]; simp
        have hz1 : ((kb 0).fr != 0) = true := by rw [bne, hz]; rfl
        clear HRE HCL0 HC hz
        generalize (kb 0).fr = F at *
        go_enter Tryd.func7, Tryd.ntmps7
        go_wp2_with fail
        go_ret
        exact ⟨by rw [HR.out]; rfl, Below.refl _ _⟩
      | true =>
        have HRE2 : Hid (R = allTo (blkI nb kb) nb) := by show _ = _; rw [HRE.out, hz, decide_eq_true c1, decide_eq_true c2]; simp
        have hz1 : ((kb 0).fr != 0) = false := by rw [bne, hz]; rfl
        clear HRE hz
        go_enter Tryd.func7, Tryd.ntmps7
        go_wp2_with fail
        go_loopw [23] (fun i wr => ∃ k : Nat, i = .int .i64 k ∧ k ≤ nb ∧ allTo (blkI nb kb) k = true ∧ Below w.heap.size w wr) (fun i _ => nb - (intOf i).toNat)
        case atStart => exact ⟨0, rfl, Nat.zero_le _, rfl, Below.refl _ _⟩
        case round =>
          obtain ⟨k, rfl, hk, hcc, hbel⟩ := hrel
          have HBL : Hid (Below w.heap.size w wr) := hbel
          have HA : Hid (allTo (blkI nb kb) k = true) := hcc
          clear hbel hcc f0
          by_cases hlt : (k : Int) < nb
          · have hlt' : k < nb := by omega
            obtain ⟨b2, o2, u2, hp2, hd, hin⟩ := HC.out k hlt'
            simp only [Option.some.injEq, Addr.mk.injEq, and_true] at hp2
            obtain ⟨rfl, rfl⟩ := hp2
            obtain ⟨e0, e1, e2, e3⟩ := hd.below HBL.out
            obtain ⟨pu, cu, eu⟩ := hin.sl.shape
            have HCL1 : Hid _ := HCL0.out k hlt' u2 hin.2 wr HBL.out
            have hku : (kb k).bd.len ≤ maxLen := by obtain ⟨_, _, _, h, _⟩ := hin.sl.at; exact h
            unfold maxLen at hku
            clear hd hin
            subst eu
            have HB2 : Hid (∀ o1 o2, Below w.heap.size w ((wr.alloc o1).alloc o2)) := fun o1 o2 => (HBL.out.alloc HBL.out.size o1).alloc (by have := HBL.out.size; simp; omega) _
            by_cases hf : (kb k).fr < 0
            · have HR : Hid (R = false) := HRE2.out.trans (allTo_false hlt' (by unfold blkI; rw [decide_eq_false (by omega)]; rfl))
              clear HRE2 HA HC HCL0 HCL1
              go_wp2_with fail
              go_ret
              exact ⟨by rw [HR.out]; rfl, HB2.out _ _⟩
            obtain ⟨OK, hOK⟩ : ∃ OK, okI nb kb k (kb k).bd 1 4000 = OK := ⟨_, rfl⟩
            rw [hOK] at HCL1
            have HBK : Hid (blkI nb kb k = OK) := by show _ = _; unfold blkI; rw [hOK, decide_eq_true (show 0 ≤ (kb k).fr by omega), Bool.true_and]
            clear hOK HC HCL0
            cases OK with
            | false =>
              have HR : Hid (R = false) := HRE2.out.trans (allTo_false hlt' HBK.out)
              clear HRE2 HA
              go_wp2_with (go_at_call 14; refine (HCL1.out _).mono ?_; rintro e w2 ⟨rfl, hb2⟩; have HB3 : Hid _ := hb2; clear hb2)
              go_ret
              exact ⟨by rw [HR.out]; rfl, HB3.out⟩
            | true =>
              have HN : Hid (allTo (blkI nb kb) (k + 1) = true) := by show _ = _; simp only [allTo, HA.out, HBK.out, Bool.and_self]
              clear HRE2 HA
              go_wp2_with (go_at_call 14; refine (HCL1.out _).mono ?_; rintro e w2 ⟨rfl, hb2⟩; have HB3 : Hid _ := hb2; clear hb2)
              go_roundw
              case rel => first | exact ⟨k + 1, by go_num, by omega, HN.out, HB3.out⟩ | ((repeat apply Exists.intro); exact ⟨⟨k + 1, (show Value.int .i64 ((k : Int) + 1) = .int .i64 ((k + 1 : Nat) : Int) from by go_num), by omega, HN.out, HB3.out⟩, rfl⟩)
              case measure => simp [intOf]; omega
          · have hke : k = nb := by omega
            subst hke
            have HR : Hid (R = true) := HRE2.out.trans HA.out
            clear HRE2 HA HC HCL0
            go_wp2_with fail
            go_ret
            exact ⟨by rw [HR.out]; rfl, HBL.out⟩
    · have HR : Hid (R = false) := by show _ = _; rw [HRE.out, decide_eq_false c2]; simp
      have d1 : ¬ (nb : Int) < 1 := by omega
      have d2 : (60 : Int) < nb := by omega
      clear HRE HCL0 HC
      go_enter Tryd.func7, Tryd.ntmps7
      go_wp2_with fail
      go_ret
      exact ⟨by rw [HR.out]; rfl, Below.refl _ _⟩
  · have HR : Hid (R = false) := by show _ = _; rw [HRE.out, decide_eq_false c1]; simp
    have d1 : (nb : Int) < 1 := by omega
    clear HRE HCL0 HC
    go_enter Tryd.func7, Tryd.ntmps7
    go_wp2_with fail
    go_ret
    exact ⟨by rw [HR.out]; rfl, Below.refl _ _⟩
end Go.Proofs.YtmobpjokmngdgaaDoor
