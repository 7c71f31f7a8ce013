/- spec.l11Deep, spec.l11Right and spec.ValueOk. Condition: at most 2^40 values. -/
import Derived.Test.YtbofjjjjjcolgaaDoorRows
import Derived.Test.YtbofjjjjjcolgaaDoorValOkP
import Derived.Test.YtbofjjjjjcolgaaDoorValRows
import Derived.WalkKit
import Derived.ProofKit
import Derived.OwnWalk
import Derived.Deep.Cut
namespace Go.Proofs.YtbofjjjjjcolgaaDoor
open Go.ChangeShapes Go.WideShapes Go.ChangeAt Go.RowKit

theorem spec_maxV (a b : Nat) (w : World) : Calls Tryd.prog 32 #[.int .i64 a, .int .i64 b] w fun e w' => e = .returned (.int .i64 ((max a b : Nat) : Int)) ∧ w' = w := by
  by_cases h : (b : Int) < a
  · have H : Hid (max a b = a) := by show _ = _; omega
    go_enter Tryd.func32, Tryd.ntmps32
    go_wp2
    go_ret
    exact ⟨by rw [H.out]; rfl, rfl⟩
  · have H : Hid (max a b = b) := by show _ = _; omega
    go_enter Tryd.func32, Tryd.ntmps32
    go_wp2
    go_ret
    exact ⟨by rw [H.out]; rfl, rfl⟩

def VDeepAt (t : Vt) : Prop := ∀ (w : World) (v : Value), t.In w v → t.count ≤ 1099511627776 →
  Calls Tryd.prog 19 #[.agg #[.int .i64 t.op, .int .i64 t.n, v]] w fun e w' => e = .returned (.int .i64 t.deep) ∧ Below w.heap.size w w'
def VRightAt (t : Vt) : Prop := ∀ (w : World) (v : Value), t.In w v →
  Calls Tryd.prog 20 #[.agg #[.int .i64 t.op, .int .i64 t.n, v]] w fun e w' => e = .returned (.bool (rightV t)) ∧ Below w.heap.size w w'

set_option maxRecDepth 100000 in
set_option maxHeartbeats 2000000 in
theorem spec_vdeep (t : Vt) : VDeepAt t := by
  induction t with
  | no => intro w v h _; exact h.elim
  | mk op n len kid ih =>
    intro w v hin hc
    have h1 := hin.sl
    have HCE : Hid ((Vt.mk op n len kid).count = 1 + sumTo (fun i => (kid i).count) len) := rfl
    have HDE : Hid ((Vt.mk op n len kid).deep = maxTo (fun i => (kid i).deep) len + 1) := rfl
    have hdc := (Vt.mk op n len kid).deep_count
    simp only [Vt.op, Vt.n, Vt.len, Vt.kid] at h1 ⊢
    generalize (Vt.mk op n len kid).count = C at *
    generalize (Vt.mk op n len kid).deep = E at *
    obtain ⟨p, cap, e1, hlen, hat⟩ := h1.at
    have HC : Hid (∀ i, i < len → ∃ b o u, p = some ⟨b, o, none⟩ ∧ HeadV w b (o + i * 3) (kid i) u ∧ (kid i).In w u) := hat
    have IH : Hid (∀ i, VDeepAt (kid i)) := ih
    clear hin h1 hat ih
    unfold maxLen at hlen
    subst e1
    go_enter Tryd.func19, Tryd.ntmps19
    go_wp2_with fail
    go_loopw [3, 4] (fun x i wr => ∃ k c : Nat, i = .int .i64 k ∧ x = .int .i64 c ∧ k ≤ len ∧ c = maxTo (fun i => (kid i).deep) k ∧ wr.cell? ⟨w.heap.size, 2, none⟩ = some (.slice p len cap) ∧ Below w.heap.size w wr) (fun _ i _ => len - (intOf i).toNat)
    case atStart => exact ⟨0, 0, rfl, rfl, Nat.zero_le _, rfl, by simp, newb w _⟩
    case round =>
      obtain ⟨k, c, rfl, rfl, hk, hcc, hc1, hbel⟩ := hrel
      have HBL : Hid (Below w.heap.size w wr) := hbel
      have HS : Hid (c = maxTo (fun i => (kid i).deep) k) := hcc
      clear hbel hcc
      by_cases hlt : (k : Int) < len
      · have hlt' : k < len := by omega
        obtain ⟨b, o, u, hp, hd, hin⟩ := HC.out k hlt'
        subst hp
        obtain ⟨c0, c1, c2⟩ := hd.below HBL.out
        have HI : Hid ((kid k).In wr u) := hin.below HBL.out
        have hck : (kid k).count ≤ 1099511627776 := by
          have h1 := sumTo_at (fun i => (kid i).count) k len hlt'
          have h3 := HCE.out
          omega
        clear hd hin
        go_wp2_with fail
        refine (IH.out k wr u HI.out hck).mono ?_
        rintro e w1 ⟨rfl, hb1⟩
        have HB1 : Hid (Below w.heap.size w w1) := HBL.out.trans (hb1.mono HBL.out.size)
        have HX : Hid (w1.cell? ⟨w.heap.size, 2, none⟩ = some (.slice (some ⟨b, o, none⟩) len cap)) := keeps hb1 _ _ hc1
        clear hb1 c0 c1 c2
        go_wp2_with fail
        refine (spec_maxV c (kid k).deep _).mono ?_
        rintro e w2 ⟨rfl, hw2⟩
        subst hw2
        go_wp2_with fail
        go_roundw
        case rel => exact ⟨k + 1, max c (kid k).deep, by go_num, rfl, by omega, by rw [HS.out]; rfl, HX.out, HB1.out⟩
        case measure => simp [intOf]; omega
      · have hke : k = len := by omega
        subst hke
        have HE : Hid (c + 1 = E) := by
          have h1 := HS.out
          have h2 := HDE.out
          show _ = _
          omega
        have hcb : c ≤ 1099511627776 := by have := HE.out; omega
        go_wp2_with fail
        go_ret
        exact ⟨by rw [← HE.out]; rfl, HBL.out⟩

set_option maxRecDepth 100000 in
set_option maxHeartbeats 16000000 in
theorem spec_vright (t : Vt) : VRightAt t := by
  induction t with
  | no => intro w v h; exact h.elim
  | mk op n len kid ih =>
    intro w v hin
    have h1 := hin.sl
    have HRE : Hid (rightV (Vt.mk op n len kid) = (allTo (fun i => rightV (kid i)) len && fVB op (wokB n) (n == 0) ((len : Int) == 0) ((len : Int) == 2))) := rfl
    simp only [Vt.op, Vt.n, Vt.len, Vt.kid] at h1 ⊢
    generalize rightV (Vt.mk op n len kid) = R at *
    obtain ⟨p, cap, e1, hlen, hat⟩ := h1.at
    have HC : Hid (∀ i, i < len → ∃ b o u, p = some ⟨b, o, none⟩ ∧ HeadV w b (o + i * 3) (kid i) u ∧ (kid i).In w u) := hat
    have IH : Hid (∀ i, VRightAt (kid i)) := ih
    have HW : Hid (∀ w, Calls Tryd.prog 33 #[.int .i64 n] w fun e w' => e = .returned (.bool (wokB n)) ∧ w' = w) := fun w => spec_wordOk n w
    generalize wokB n = wb at *
    clear hin h1 hat ih
    unfold maxLen at hlen
    subst e1
    go_enter Tryd.func20, Tryd.ntmps20
    go_wp2_with fail
    go_loopw [3] (fun i wr => ∃ k : Nat, i = .int .i64 k ∧ k ≤ len ∧ allTo (fun i => rightV (kid i)) k = true ∧ wr.heap[w.heap.size]? = some (.cells #[.int .i64 op, .int .i64 n, .slice p len cap] 26 (0, 0)) ∧ Below w.heap.size w wr) (fun i _ => len - (intOf i).toNat)
    case atStart => exact ⟨0, rfl, Nat.zero_le _, rfl, heap_alloc_new w _, newb w _⟩
    case round =>
      obtain ⟨k, rfl, hk, hcc, hblk, hbel⟩ := hrel
      have HBL : Hid (Below w.heap.size w wr) := hbel
      have HA : Hid (allTo (fun i => rightV (kid i)) k = true) := hcc
      have HK : Hid (wr.heap[w.heap.size]? = some (.cells #[.int .i64 op, .int .i64 n, .slice p len cap] 26 (0, 0))) := hblk
      have b0 : wr.cell? ⟨w.heap.size, 0, none⟩ = some (.int .i64 op) := cell_of_row wr _ 0 _ _ _ hblk
      have b1 : wr.cell? ⟨w.heap.size, 1, none⟩ = some (.int .i64 n) := cell_of_row wr _ 1 _ _ _ hblk
      have b2 : wr.cell? ⟨w.heap.size, 2, none⟩ = some (.slice p len cap) := cell_of_row wr _ 2 _ _ _ hblk
      clear hbel hcc hblk
      by_cases hlt : (k : Int) < len
      · have hlt' : k < len := by omega
        obtain ⟨b, o, u, hp, hd, hin⟩ := HC.out k hlt'
        subst hp
        obtain ⟨c0, c1, c2⟩ := hd.below HBL.out
        have HI : Hid ((kid k).In wr u) := hin.below HBL.out
        clear hd hin HW
        cases hr : rightV (kid k) with
        | true =>
          have HN : Hid (allTo (fun i => rightV (kid i)) (k + 1) = true) := by
            show _ = _
            simp only [allTo, HA.out, hr, Bool.and_self]
          have HRK : Hid (rightV (kid k) = true) := hr
          clear hr
          go_wp2_with fail
          refine (IH.out k wr u HI.out).mono ?_
          rintro e w1 ⟨rfl, hb1⟩
          rw [HRK.out]
          have HB1 : Hid (Below w.heap.size w w1) := HBL.out.trans (hb1.mono HBL.out.size)
          have HX : Hid (w1.heap[w.heap.size]? = some (.cells #[.int .i64 op, .int .i64 n, .slice (some ⟨b, o, none⟩) len cap] 26 (0, 0))) := (hb1.block _ (Array.getElem?_eq_some_iff.1 HK.out).1).trans HK.out
          clear hb1 c0 c1 c2 b0 b1 b2
          go_wp2_with fail
          go_roundw
          case rel => exact ⟨k + 1, by go_num, by omega, HN.out, HX.out, HB1.out⟩
          case measure => simp [intOf]; omega
        | false =>
          have HN : Hid (R = false) := HRE.out.trans (by rw [allTo_false hlt' hr]; rfl)
          have HRK : Hid (rightV (kid k) = false) := hr
          clear hr HRE
          go_wp2_with fail
          refine (IH.out k wr u HI.out).mono ?_
          rintro e w1 ⟨rfl, hb1⟩
          rw [HRK.out]
          have HB1 : Hid (Below w.heap.size w w1) := HBL.out.trans (hb1.mono HBL.out.size)
          clear hb1 c0 c1 c2 b0 b1 b2
          go_wp2_with fail
          go_ret
          exact ⟨by rw [HN.out]; rfl, HB1.out⟩
      · have hke : k = len := by omega
        have HR : Hid (R = fVB op wb (n == 0) ((len : Int) == 0) ((len : Int) == 2)) := HRE.out.trans (by rw [← hke, HA.out, Bool.true_and])
        clear HRE HA HC IH HK hke
        cases hn : (n == 0) <;> cases hl : ((len : Int) == 0) <;> cases hl2 : ((len : Int) == 2)
        all_goals
          rw [hn, hl, hl2] at HR
          by_cases h1 : op = 1
          · subst h1
            cases wb
            all_goals
              have HR2 : Hid _ := HR.out.trans (by unfold fVB; rw [if_pos rfl])
              clear HR
              go_wp2_with ((go_at_call 33; refine (HW.out _).mono ?_; rintro e w1 ⟨rfl, rfl⟩))
              go_ret
              exact ⟨ret_bool HR2.out.symm, HBL.out⟩
          · by_cases h2 : op = 2
            · subst h2
              have HR2 : Hid _ := HR.out.trans (by unfold fVB; rw [if_neg (by omega), if_pos rfl])
              clear HR
              go_wp2_with fail
              go_ret
              exact ⟨ret_bool HR2.out.symm, HBL.out⟩
            · by_cases h4 : op = 4
              · subst h4
                have HR2 : Hid _ := HR.out.trans (by unfold fVB; rw [if_neg (by omega), if_neg (by omega), if_pos rfl])
                clear HR
                go_wp2_with fail
                go_ret
                exact ⟨ret_bool HR2.out.symm, HBL.out⟩
              · by_cases h3 : op = 3
                · subst h3
                  have HR2 : Hid _ := HR.out.trans (by unfold fVB; rw [if_neg (by omega), if_neg (by omega), if_neg (by omega), if_pos rfl])
                  clear HR
                  go_wp2_with fail
                  go_ret
                  exact ⟨ret_bool HR2.out.symm, HBL.out⟩
                · have HR2 : Hid _ := HR.out.trans (by unfold fVB; rw [if_neg h1, if_neg h2, if_neg h4, if_neg h3])
                  clear HR
                  have g1 : (op == 1) = false := by simpa using h1
                  have g2 : (op == 2) = false := by simpa using h2
                  have g3 : (op == 3) = false := by simpa using h3
                  have g4 : (op == 4) = false := by simpa using h4
                  go_wp2_with fail
                  go_ret
                  exact ⟨ret_bool HR2.out.symm, HBL.out⟩

set_option maxRecDepth 100000 in
set_option maxHeartbeats 2000000 in
theorem spec_value_ok (t : Vt) (w : World) (v : Value) (hin : t.In w v) (hc : t.count ≤ 1099511627776) :
    Calls Tryd.prog 10 #[.agg #[.int .i64 t.op, .int .i64 t.n, v]] w fun e w' => e = .returned (.bool (valueB t)) ∧ Below w.heap.size w w' := by
  obtain ⟨p, cap, e1⟩ := hin.sl.shape
  have HI : Hid (∀ w1, Below w.heap.size w w1 → t.In w1 v) := fun w1 h => hin.below h
  have HV : Hid (valueB t = (decide (t.deep ≤ 200) && rightV t)) := okV_eq 200 t
  have hdc := t.deep_count
  clear hin
  subst e1
  obtain ⟨w0, hw0⟩ : ∃ w0, w0 = w.alloc (.cells #[.int .i64 t.op, .int .i64 t.n, .slice p t.len cap] 26) := ⟨_, rfl⟩
  have HW0 : Hid (w0.heap[w.heap.size]? = some (.cells #[.int .i64 t.op, .int .i64 t.n, .slice p t.len cap] 26 (0, 0)) ∧ Below w.heap.size w w0) := by rw [hw0]; exact ⟨heap_alloc_new w _, newb w _⟩
  have W0E : Hid (w0 = _) := hw0
  clear hw0
  have m0 : w0.cell? ⟨w.heap.size, 0, none⟩ = some (.int .i64 t.op) := cell_of_row w0 _ 0 _ _ _ HW0.out.1
  have m1 : w0.cell? ⟨w.heap.size, 1, none⟩ = some (.int .i64 t.n) := cell_of_row w0 _ 1 _ _ _ HW0.out.1
  have m2 : w0.cell? ⟨w.heap.size, 2, none⟩ = some (.slice p t.len cap) := cell_of_row w0 _ 2 _ _ _ HW0.out.1
  generalize hE : t.deep = E at *
  have HE : Hid (t.deep = E) := hE
  clear hE
  by_cases hd : (E : Int) ≤ 200
  · have HV2 : Hid (valueB t = rightV t) := HV.out.trans (by rw [decide_eq_true (by omega), Bool.true_and])
    generalize hRR : rightV t = RR at *
    have HRR : Hid (rightV t = RR) := hRR
    clear hRR
    go_enter Tryd.func10, Tryd.ntmps10
    go_upto_region 1 with fail
    rw [← W0E.out]
    go_wp2_with fail
    refine (spec_vdeep t w0 _ (HI.out _ HW0.out.2) hc).mono ?_
    rintro e w1 ⟨rfl, hb1⟩
    rw [HE.out]
    have HW1 : Hid (w1.heap[w.heap.size]? = some (.cells #[.int .i64 t.op, .int .i64 t.n, .slice p t.len cap] 26 (0, 0)) ∧ Below w.heap.size w w1) := ⟨(hb1.block _ (Array.getElem?_eq_some_iff.1 HW0.out.1).1).trans HW0.out.1, HW0.out.2.trans (hb1.mono HW0.out.2.size)⟩
    have n0 : w1.cell? ⟨w.heap.size, 0, none⟩ = some (.int .i64 t.op) := cell_of_row w1 _ 0 _ _ _ HW1.out.1
    have n1 : w1.cell? ⟨w.heap.size, 1, none⟩ = some (.int .i64 t.n) := cell_of_row w1 _ 1 _ _ _ HW1.out.1
    have n2 : w1.cell? ⟨w.heap.size, 2, none⟩ = some (.slice p t.len cap) := cell_of_row w1 _ 2 _ _ _ HW1.out.1
    clear hb1 m0 m1 m2
    go_wp2_with fail
    refine (spec_vright t w1 _ (HI.out _ HW1.out.2)).mono ?_
    rintro e w2 ⟨rfl, hb2⟩
    rw [HRR.out]
    have HB2 : Hid (Below w.heap.size w w2) := HW1.out.2.trans (hb2.mono HW1.out.2.size)
    clear hb2 n0 n1 n2
    go_wp2_with fail
    go_ret
    exact ⟨ret_bool HV2.out.symm, HB2.out⟩
  · have HV2 : Hid (valueB t = false) := HV.out.trans (by rw [decide_eq_false (by omega), Bool.false_and])
    go_enter Tryd.func10, Tryd.ntmps10
    go_upto_region 1 with fail
    rw [← W0E.out]
    go_wp2_with fail
    refine (spec_vdeep t w0 _ (HI.out _ HW0.out.2) hc).mono ?_
    rintro e w1 ⟨rfl, hb1⟩
    rw [HE.out]
    have HB1 : Hid (Below w.heap.size w w1) := HW0.out.2.trans (hb1.mono HW0.out.2.size)
    clear hb1 m0 m1 m2
    go_wp2_with fail
    go_ret
    exact ⟨ret_bool HV2.out.symm, HB1.out⟩
end Go.Proofs.YtbofjjjjjcolgaaDoor
