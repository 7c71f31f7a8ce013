/- (*blockLook).irOk. Conditions: the table reads as its text lays it; the block is one of the list; at most 2^40 in all. -/
import Derived.Test.YthnhdmanmmdoiaaDoorZG33But
namespace Go.Proofs.YthnhdmanmmdoiaaDoor
open Go.ChangeShapes Go.WideShapes Go.ChangeAt Go.RowKit

/-- irOk at a body: w0 is an older world in which all lies, K the look's block. -/
def IrOkAt (nb : Nat) (kb : Nat → Kb) (at_ : Nat) (t : It) : Prop := ∀ (w0 w : World) (K : Nat) (v lv : Value) (deep left : Nat), Kl w0 nb kb lv → KidTab w0 → t.In w0 v → Below w0.heap.size w0 w → w0.heap.size ≤ K → Look w K lv at_ left → deep + t.count ≤ 1099511627776 → left ≤ 4000 →
  Calls Tryd.prog 34 #[.pointer (some ⟨K, 0, none⟩), .agg #[.int .i64 t.op, .int .i64 t.n, v], .int .i64 deep] w fun e w' => e = .returned (.bool (okI nb kb at_ t deep left)) ∧ But (fun k => k = K) w w' ∧ (okI nb kb at_ t deep left = true → Look w' K lv at_ ((left - t.count : Nat) : Int))

/-- A block with three cells. -/
def ThreeI (w : World) (g : Nat) (a b : Int) (v : Value) : Prop := w.heap[g]? = some (.cells #[.int .i64 a, .int .i64 b, v] 48 (0, 0))
theorem ThreeI.cells {w : World} {g : Nat} {a b : Int} {v : Value} (h : ThreeI w g a b v) :
    w.cell? ⟨g, 0, none⟩ = some (.int .i64 a) ∧ w.cell? ⟨g, 1, none⟩ = some (.int .i64 b) ∧ w.cell? ⟨g, 2, none⟩ = some v :=
  ⟨cell_of_row w g 0 _ _ _ h, cell_of_row w g 1 _ _ _ h, cell_of_row w g 2 _ _ _ h⟩

theorem numJ_clos {nb : Nat} {kb : Nat → Kb} {at_ : Nat} {n : Int} {deep : Nat} (h : numJ nb kb at_ 5 n deep = true) : 1 ≤ n ∧ n < nb := by
  have e : numJ nb kb at_ 5 n deep = (decide (1 ≤ n) && decide (n < (nb : Int))) := rfl
  rw [e] at h
  simpa using h

set_option maxRecDepth 100000 in
set_option maxHeartbeats 8000000 in
theorem ir_ok (nb : Nat) (kb : Nat → Kb) (at_ : Nat) (hat : at_ < nb) (t : It) : IrOkAt nb kb at_ t := by
  induction t with
  | no => intro w0 w K v lv deep left _ _ h; exact h.elim
  | mk op n len kid ih =>
    intro w0 w K v lv deep left hlv htab hin hb0 hK0 hlk hdc hl
    have h1 := hin.sl
    have hce : (It.mk op n len kid).count = 1 + sumTo (fun i => (kid i).count) len := rfl
    have HRE : Hid (okI nb kb at_ (.mk op n len kid) deep left = (decide (1 + sumTo (fun i => (kid i).count) len ≤ left) && ((opB op && cntB op len) && (allTo (fun i => rightI nb kb at_ (kid i) (deep + bitI op i)) len && numI nb kb at_ op n len deep)))) := rfl
    have HCN : Hid (∀ i, i < len → deep + 1 + (kid i).count ≤ 1099511627776) := fun i hi => by
      have := sumTo_at (fun i => (kid i).count) i len hi
      omega
    have hdp : deep ≤ 1099511627776 := by omega
    rw [hce] at *
    clear hdc hce
    simp only [It.op, It.n, It.len, It.kid] at h1 ⊢
    generalize okI nb kb at_ (It.mk op n len kid) deep left = R at *
    obtain ⟨p, cap, e1, hlen, hka⟩ := h1.at
    have HC : Hid (∀ i, i < len → ∃ b o u, p = some ⟨b, o, none⟩ ∧ HeadI w0 b (o + i * 3) (kid i) u ∧ (kid i).In w0 u) := hka
    have IH : Hid (∀ i, IrOkAt nb kb at_ (kid i)) := ih
    have H0 : Hid (Kl w0 nb kb lv ∧ KidTab w0 ∧ w0.heap.size ≤ K) := ⟨hlv, htab, hK0⟩
    have hKw : K < w.heap.size := (Array.getElem?_eq_some_iff.1 hlk).1
    -- the box, and the count that goes down
    obtain ⟨W, hW⟩ : ∃ W, W = w.alloc (.cells #[.int .i64 op, .int .i64 n, v] 48) := ⟨_, rfl⟩
    obtain ⟨TB, hTB⟩ : ∃ TB, TB = w.heap.size := ⟨_, rfl⟩
    have nbW : Below w.heap.size w W := by rw [hW]; exact newb w _
    have hlW : Look W K lv at_ left := hlk.below nbW
    have hbW : ThreeI W TB op n v := by rw [hW, hTB]; exact heap_alloc_new w _
    obtain ⟨W1, hW1⟩ : ∃ W1, W1 = W.setCell ⟨K, 2, none⟩ (.int .i64 ((left : Int) - 1)) := ⟨_, rfl⟩
    have hl1 : Look W1 K lv at_ ((left : Int) - 1) := by rw [hW1]; exact heap_setCell_same W K 2 _ _ _ hlW
    have hb1 : ThreeI W1 TB op n v := by rw [hW1]; exact (Below.heap_setCell W ⟨K, 2, none⟩ _ TB (by simp only; omega)).trans hbW
    have hbut : But (fun k => k = K) w W1 := by rw [hW1]; exact But.setCell (X := fun k => k = K) (p := ⟨K, 2, none⟩) (But.of_all nbW) (.inr rfl) _
    have hlo : w.heap.size < W1.heap.size := by rw [hW1, hW]; simp
    have kc : W.cell? ⟨K, 2, none⟩ = some (.int .i64 left) := hlW.cells.2.2
    have kf : W.frozen? ⟨K, 2, none⟩ = false := frozen_of_row W K 2 _ _ hlW
    have HW1 : Hid (But (fun k => k = K) w W1 ∧ ThreeI W1 TB op n v ∧ Below w0.heap.size w0 W1 ∧ w.heap.size < W1.heap.size) := ⟨hbut, hb1, hb0.trans (hbut.below hb0.size (fun k hk => by omega)), hlo⟩
    have HWW : Hid (W = w.alloc (.cells #[.int .i64 op, .int .i64 n, v] 48) ∧ TB = w.heap.size ∧ W1 = W.setCell ⟨K, 2, none⟩ (.int .i64 ((left : Int) - 1))) := ⟨hW, hTB, hW1⟩
    have HLK : Hid (Look W1 K lv at_ ((left : Int) - 1)) := hl1
    have HTB : Hid (K ≠ TB ∧ w.heap.size = TB) := ⟨by omega, hTB.symm⟩
    obtain ⟨k0, k1, k2⟩ := hl1.cells
    obtain ⟨q0, q1, q2⟩ := hb1.cells
    have HNU : Hid (∀ w1, Below W1.heap.size W1 w1 → Calls Tryd.prog 47 #[.pointer (some ⟨K, 0, none⟩), .agg #[.int .i64 op, .int .i64 n, v], .int .i64 deep] w1 fun e w' => e = .returned (.bool (numJ nb kb at_ op n deep)) ∧ Below w1.heap.size w1 w') :=
      fun w1 h => number_ok nb kb at_ hat op n deep w1 K lv v _ p len cap e1 ((hlv.below HW1.out.2.2.1).below h) (hl1.below h)
    have HKC : Hid (opB op = true → numJ nb kb at_ op n deep = true → ∀ w1, Below W1.heap.size W1 w1 → Calls Tryd.prog 48 #[.pointer (some ⟨K, 0, none⟩), .agg #[.int .i64 op, .int .i64 n, v]] w1 fun e w' => e = .returned (.bool (kidJ kb op n len)) ∧ Below w1.heap.size w1 w') :=
      fun ho hn w1 h => kid_count_ok nb kb at_ op n ho (fun h5 => by subst h5; exact numJ_clos hn) w1 K lv v _ p len cap e1 ((hlv.below HW1.out.2.2.1).below h) (hl1.below h) ((htab.below HW1.out.2.2.1).below h)
    clear hW hTB hW1 hb1 hbut hlo hl1 hbW hlW nbW hlk hin h1 hka ih hlv htab hb0 hK0
    unfold maxLen at hlen
    subst e1
    by_cases hl0 : left = 0
    · have HR : Hid (R = false) := by show _ = _; rw [HRE.out, decide_eq_false (by omega)]; rfl
      have hl1 : (left : Int) - 1 < 0 := by omega
      clear HRE HKC HNU hl0
      rcases (show (1 ≤ op ∧ op ≤ 19) ∨ ¬ 1 ≤ op ∨ (1 ≤ op ∧ ¬ op ≤ 19) from by omega) with ⟨c1, c2⟩ | c1 | ⟨c1, c2⟩
      all_goals
        go_enter Tryd.func34, Tryd.ntmps34
        go_upto_region 1 with fail
        rw [← HWW.out.1, ← HWW.out.2.1]
        go_upto_region 2 with fail
        rw [← HWW.out.2.2]
        go_wp2_with fail
        go_ret
        exact ⟨by rw [HR.out]; rfl, HW1.out.1, fun h => by rw [HR.out] at h; cases h⟩
    have hl1 : ¬ (left : Int) - 1 < 0 := by omega
    cases ho : opB op with
    | false =>
      have HR : Hid (R = false) := by show _ = _; rw [HRE.out, ho]; simp
      have hoo : ¬ 1 ≤ op ∨ ¬ op ≤ 19 := by
        unfold opB at ho
        simp only [Bool.and_eq_false_iff, decide_eq_false_iff_not] at ho
        exact ho
      clear HRE HKC HNU ho
      rcases (show ¬ 1 ≤ op ∨ (1 ≤ op ∧ ¬ op ≤ 19) from by omega) with c1 | ⟨c1, c2⟩
      all_goals
        clear hoo
        go_enter Tryd.func34, Tryd.ntmps34
        go_upto_region 1 with fail
        rw [← HWW.out.1, ← HWW.out.2.1]
        go_upto_region 2 with fail
        rw [← HWW.out.2.2]
        go_wp2_with fail
        go_ret
        exact ⟨by rw [HR.out]; rfl, HW1.out.1, fun h => by rw [HR.out] at h; cases h⟩
    | true =>
    have hoo : 1 ≤ op ∧ op ≤ 19 := by
      unfold opB at ho
      simpa using ho
    obtain ⟨c1, c2⟩ := hoo
    have HRE2 : Hid (R = (decide (1 + sumTo (fun i => (kid i).count) len ≤ left) && (allTo (fun i => rightI nb kb at_ (kid i) (deep + bitI op i)) len && (numJ nb kb at_ op n deep && kidJ kb op n len)))) := by
      show _ = _
      rw [HRE.out, ho, ← num_kid ho]
      cases decide (1 + sumTo (fun i => (kid i).count) len ≤ left) <;> cases cntB op len <;> cases allTo (fun i => rightI nb kb at_ (kid i) (deep + bitI op i)) len <;> rfl
    have HKC1 := HKC.out ho
    clear HRE HKC ho
    obtain ⟨NJ, hNJ⟩ : ∃ NJ, numJ nb kb at_ op n deep = NJ := ⟨_, rfl⟩
    rw [hNJ] at HNU HKC1 HRE2
    clear hNJ
    cases NJ with
    | false =>
      have HR : Hid (R = false) := by show _ = _; rw [HRE2.out]; simp
      clear HRE2 HKC1
      go_enter Tryd.func34, Tryd.ntmps34
      go_upto_region 1 with fail
      rw [← HWW.out.1, ← HWW.out.2.1]
      go_upto_region 2 with fail
      rw [← HWW.out.2.2]
      go_wp2_with (go_at_call 47; refine (HNU.out _ (Below.refl _ _)).mono ?_; rintro e w1 ⟨rfl, hb1⟩; have HB1 : Hid (Below W1.heap.size W1 w1) := hb1; clear hb1; have r0 := keeps HB1.out _ _ q0; have r1 := keeps HB1.out _ _ q1; have r2 := keeps HB1.out _ _ q2)
      go_ret
      exact ⟨by rw [HR.out]; rfl, HW1.out.1.trans (But.of_all HB1.out), fun h => by rw [HR.out] at h; cases h⟩
    | true =>
    have HKC2 : Hid _ := HKC1 rfl
    clear HKC1
    obtain ⟨KJ, hKJ⟩ : ∃ KJ, kidJ kb op n len = KJ := ⟨_, rfl⟩
    rw [hKJ] at HKC2 HRE2
    clear hKJ
    cases KJ with
    | false =>
      have HR : Hid (R = false) := by show _ = _; rw [HRE2.out]; simp
      clear HRE2
      go_enter Tryd.func34, Tryd.ntmps34
      go_upto_region 1 with fail
      rw [← HWW.out.1, ← HWW.out.2.1]
      go_upto_region 2 with fail
      rw [← HWW.out.2.2]
      go_wp2_with (first | (go_at_call 47; refine (HNU.out _ (Below.refl _ _)).mono ?_; rintro e w1 ⟨rfl, hb1⟩; have HB1 : Hid (Below W1.heap.size W1 w1) := hb1; clear hb1; have r0 := keeps HB1.out _ _ q0; have r1 := keeps HB1.out _ _ q1; have r2 := keeps HB1.out _ _ q2) | (go_at_call 48; refine (HKC2.out _ HB1.out).mono ?_; rintro e w2 ⟨rfl, hb2⟩; have HB2 : Hid (Below W1.heap.size W1 w2) := HB1.out.trans (hb2.mono HB1.out.size); clear hb2))
      go_ret
      exact ⟨by rw [HR.out]; rfl, HW1.out.1.trans (But.of_all HB2.out), fun h => by rw [HR.out] at h; cases h⟩
    | true =>
    have HRE3 : Hid (R = (decide (1 + sumTo (fun i => (kid i).count) len ≤ left) && allTo (fun i => rightI nb kb at_ (kid i) (deep + bitI op i)) len)) := by show _ = _; rw [HRE2.out]; simp
    clear HRE2
    go_enter Tryd.func34, Tryd.ntmps34
    go_upto_region 1 with fail
    rw [← HWW.out.1, ← HWW.out.2.1]
    go_upto_region 2 with fail
    rw [← HWW.out.2.2]
    go_wp2_with (first | (go_at_call 47; refine (HNU.out _ (Below.refl _ _)).mono ?_; rintro e w1 ⟨rfl, hb1⟩; have HB1 : Hid (Below W1.heap.size W1 w1) := hb1; clear hb1; have r0 := keeps HB1.out _ _ q0; have r1 := keeps HB1.out _ _ q1; have r2 := keeps HB1.out _ _ q2) | (go_at_call 48; refine (HKC2.out _ HB1.out).mono ?_; rintro e w2 ⟨rfl, hb2⟩; have HB2 : Hid (Below W1.heap.size W1 w2) := HB1.out.trans (hb2.mono HB1.out.size); clear hb2; have s2 := keeps HB2.out _ _ q2))
    have HS0 : Hid (But (fun k => k = K) w w2 ∧ ThreeI w2 TB op n (.slice p len cap) ∧ Below w0.heap.size w0 w2 ∧ Look w2 K lv at_ ((left - 1 - sumTo (fun i => (kid i).count) 0 : Nat) : Int)) := by
      refine ⟨HW1.out.1.trans (But.of_all HB2.out), (HB2.out.block _ (Array.getElem?_eq_some_iff.1 HW1.out.2.1).1).trans HW1.out.2.1, HW1.out.2.2.1.trans (HB2.out.mono HW1.out.2.2.1.size), ?_⟩
      have e : ((left - 1 - sumTo (fun i => (kid i).count) 0 : Nat) : Int) = (left : Int) - 1 := by simp only [sumTo]; omega
      rw [e]
      exact HLK.out.below HB2.out
    clear HB2 HB1 s2 r0 r1 r2 q0 q1 q2 k0 k1 k2 kc kf HW1 HLK HNU HKC2
    go_loopw [51] (fun i wr => ∃ k : Nat, i = .int .i64 k ∧ k ≤ len ∧ allTo (fun i => rightI nb kb at_ (kid i) (deep + bitI op i)) k = true ∧ 1 + sumTo (fun i => (kid i).count) k ≤ left ∧ (But (fun k => k = K) w wr ∧ ThreeI wr TB op n (.slice p len cap) ∧ Below w0.heap.size w0 wr ∧ Look wr K lv at_ ((left - 1 - sumTo (fun i => (kid i).count) k : Nat) : Int))) (fun i _ => len - (intOf i).toNat)
    case atStart => exact ⟨0, rfl, Nat.zero_le _, rfl, by simp only [sumTo]; omega, HS0.out⟩
    case round =>
      obtain ⟨k, rfl, hk, hcc, hsum, hst⟩ := hrel
      have HA : Hid (allTo (fun i => rightI nb kb at_ (kid i) (deep + bitI op i)) k = true) := hcc
      have HST : Hid (But (fun k => k = K) w wr ∧ ThreeI wr TB op n (.slice p len cap) ∧ Below w0.heap.size w0 wr ∧ Look wr K lv at_ ((left - 1 - sumTo (fun i => (kid i).count) k : Nat) : Int)) := hst
      have HSM : Hid (1 + sumTo (fun i => (kid i).count) k ≤ left) := hsum
      obtain ⟨q0, q1, q2⟩ := hst.2.1.cells
      clear hcc hst hsum HS0
      by_cases hlt : (k : Int) < len
      · have hlt' : k < len := by omega
        obtain ⟨b, o, u, hp, hd0, hin⟩ := HC.out k hlt'
        subst hp
        obtain ⟨c0, c1', c2'⟩ := hd0.below HST.out.2.2.1
        obtain ⟨pu, cu, eu⟩ := hin.sl.shape
        have hku : (kid k).len ≤ maxLen := by obtain ⟨_, _, _, h, _⟩ := hin.sl.at; exact h
        unfold maxLen at hku
        obtain ⟨OK, hOK⟩ : ∃ OK, okI nb kb at_ (kid k) (deep + bitI op k) (left - 1 - sumTo (fun i => (kid i).count) k) = OK := ⟨_, rfl⟩
        obtain ⟨BT, hBT⟩ : ∃ BT, bitI op k = BT := ⟨_, rfl⟩
        have hbt : BT ≤ 1 := by rw [← hBT]; unfold bitI; split <;> omega
        obtain ⟨N, hN⟩ : ∃ N, sumTo (fun i => (kid i).count) k = N := ⟨_, rfl⟩
        have HN : Hid (sumTo (fun i => (kid i).count) k = N) := hN
        have HCL : Hid (∀ w1, Below wr.heap.size wr w1 → Calls Tryd.prog 34 #[.pointer (some ⟨K, 0, none⟩), .agg #[.int .i64 (kid k).op, .int .i64 (kid k).n, u], .int .i64 ((deep + BT : Nat) : Int)] w1 fun e w' => e = .returned (.bool OK) ∧ But (fun k => k = K) w1 w' ∧ (OK = true → Look w' K lv at_ ((left - 1 - N - (kid k).count : Nat) : Int))) := fun w1 h1 => by
          have := IH.out k w0 w1 K u lv (deep + bitI op k) (left - 1 - sumTo (fun i => (kid i).count) k) H0.out.1 H0.out.2.1 hin (HST.out.2.2.1.trans (h1.mono HST.out.2.2.1.size)) H0.out.2.2 (HST.out.2.2.2.below h1) (by have := HCN.out k hlt'; rw [hBT]; omega) (by omega)
          rw [hOK, hBT, hN] at this
          exact this
        have HOK : Hid (OK = (decide ((kid k).count ≤ left - 1 - N) && rightI nb kb at_ (kid k) (deep + bitI op k))) := by show _ = _; rw [← hOK, hN]; rfl
        have HBT : Hid (bitI op k = BT) := hBT
        rw [hN] at HSM
        clear hd0 hin hOK hN hBT
        subst eu
        have HO0 : Hid (OK = false → R = false) := fun h => by
          rw [HRE3.out]
          have h2 := HOK.out
          rw [h] at h2
          by_cases hcc : (kid k).count ≤ left - 1 - N
          · rw [decide_eq_true hcc, Bool.true_and] at h2
            rw [allTo_false hlt' h2.symm]; simp
          · have h3 := sumTo_at (fun i => (kid i).count) k len hlt'
            have h4 := HN.out
            have h5 := HSM.out
            rw [decide_eq_false (by omega)]; rfl
        have HO1 : Hid (OK = true → allTo (fun i => rightI nb kb at_ (kid i) (deep + bitI op i)) (k + 1) = true ∧ 1 + sumTo (fun i => (kid i).count) (k + 1) ≤ left ∧ left - 1 - N - (kid k).count = left - 1 - sumTo (fun i => (kid i).count) (k + 1)) := fun h => by
          have h2 := HOK.out
          rw [h] at h2
          have h3 := h2.symm
          rw [Bool.and_eq_true, decide_eq_true_eq] at h3
          have h4 := HN.out
          have h5 := HSM.out
          refine ⟨by simp only [allTo, HA.out, h3.2, Bool.and_self], ?_, ?_⟩
          · simp only [sumTo]; omega
          · simp only [sumTo]; omega
        have HST2 : Hid (∀ w1, Below wr.heap.size wr w1 → ∀ w2, But (fun k => k = K) w1 w2 → But (fun k => k = K) w w2 ∧ ThreeI w2 TB op n (.slice (some ⟨b, o, none⟩) len cap) ∧ Below w0.heap.size w0 w2) := fun w1 h1 w2 h2 => by
          have hx : But (fun k => k = K) wr w2 := (But.of_all h1).trans h2
          have hbb : Below w0.heap.size w0 w2 := HST.out.2.2.1.trans (hx.below HST.out.2.2.1.size (fun k hk => by have := H0.out.2.2; omega))
          exact ⟨HST.out.1.trans hx, hx.at HST.out.2.1 (fun h => HTB.out.1 h.symm), hbb⟩
        clear HOK HRE3 HA HSM HN HC IH
        have hb7 : (op == 7) = true ∧ ((k : Int) == 1) = true ∧ BT = 1 ∨ (op == 7) = true ∧ ((k : Int) == 1) = false ∧ BT = 0 ∨ (op == 7) = false ∧ BT = 0 := by
          have h := HBT.out
          cases h7 : (op == 7)
          · exact .inr (.inr ⟨rfl, by rw [← h, bit_no1 k h7]⟩)
          · cases h8 : ((k : Int) == 1)
            · exact .inr (.inl ⟨rfl, rfl, by rw [← h, bit_no2 h8]⟩)
            · exact .inl ⟨rfl, rfl, by rw [← h, bit_yes h7 h8]⟩
        clear HBT
        have hq0 : ∀ ob, (wr.alloc ob).cell? ⟨TB, 0, none⟩ = some (.int .i64 op) := fun ob => keeps (newb wr ob) _ _ q0
        rcases hb7 with ⟨h7, h8, rfl⟩ | ⟨h7, h8, rfl⟩ | ⟨h7, rfl⟩
        all_goals
          cases OK with
          | false =>
            have HR : Hid (R = false) := HO0.out rfl
            clear HO0 HO1
            go_wp2_with (go_at_call 34; refine (HCL.out _ (newb wr _)).mono ?_; rintro e w2 ⟨rfl, hb2, -⟩; have HS2 : Hid _ := HST2.out _ (newb wr _) _ hb2; clear hb2)
            go_ret
            exact ⟨by rw [HR.out]; rfl, HS2.out.1, fun h => by rw [HR.out] at h; cases h⟩
          | true =>
            have HO2 : Hid _ := HO1.out rfl
            clear HO0 HO1
            go_wp2_with (go_at_call 34; refine (HCL.out _ (newb wr _)).mono ?_; rintro e w2 ⟨rfl, hb2, hlk2⟩; have HS2 : Hid _ := HST2.out _ (newb wr _) _ hb2; have HL2 : Hid _ := hlk2 rfl; clear hb2 hlk2)
            have HL3 : Hid (Look w2 K lv at_ ((left - 1 - sumTo (fun i => (kid i).count) (k + 1) : Nat) : Int)) := by
              have h := HL2.out
              rw [HO2.out.2.2] at h
              exact h
            go_roundw
            case rel => first | exact ⟨k + 1, by go_num, by omega, HO2.out.1, HO2.out.2.1, HS2.out.1, HS2.out.2.1, HS2.out.2.2, HL3.out⟩ | ((repeat apply Exists.intro); exact ⟨⟨k + 1, (show Value.int .i64 ((k : Int) + 1) = .int .i64 ((k + 1 : Nat) : Int) from by go_num), by omega, HO2.out.1, HO2.out.2.1, HS2.out.1, HS2.out.2.1, HS2.out.2.2, HL3.out⟩, rfl⟩)
            case measure => simp [intOf]; omega
      · have hke : k = len := by omega
        subst hke
        have HR : Hid (R = true) := by show _ = _; rw [HRE3.out, HA.out, decide_eq_true HSM.out]; rfl
        have HF : Hid (But (fun k => k = K) w wr ∧ Look wr K lv at_ ((left - (1 + sumTo (fun i => (kid i).count) k) : Nat) : Int)) := ⟨HST.out.1, by rw [← Nat.sub_sub]; exact HST.out.2.2.2⟩
        clear HST HSM HA HRE3
        go_wp2_with fail
        go_ret
        exact ⟨by rw [HR.out]; rfl, HF.out.1, fun _ => HF.out.2⟩
end Go.Proofs.YthnhdmanmmdoiaaDoor

/- impl.BlocksOk. Conditions: the table reads as its text lays it; at most 2^20 in all. -/
namespace Go.Proofs.YthnhdmanmmdoiaaDoor
open Go.ChangeShapes Go.WideShapes Go.ChangeAt Go.RowKit

theorem blk_countI {nb : Nat} {kb : Nat → Kb} (hw : kidsWeightK nb kb ≤ 1048576) {i : Nat} (hi : i < nb) : (kb i).bd.count ≤ 1048577 := by
  have h1 := sumTo_at (fun i => (kb i).weight) i nb hi
  have h2 := (kb i).bd.count_weight
  have h3 : (kb i).weight = (kb i).bd.weight := rfl
  unfold kidsWeightK at hw
  omega

set_option maxRecDepth 100000 in
set_option maxHeartbeats 4000000 in
theorem impl_blks_ok (nb : Nat) (kb : Nat → Kb) (w : World) (v : Value) (hv : Kl w nb kb v) (ht : KidTab w) (hw : kidsWeightK nb kb ≤ 1048576) :
    Calls Tryd.prog 19 #[v] w fun e w' => e = .returned (.bool (blksB nb kb)) ∧ Below w.heap.size w w' := by
  obtain ⟨p, cap, e1, hlen, hat⟩ := hv.at
  have HC : Hid (∀ i, i < nb → ∃ b o u, p = some ⟨b, o, none⟩ ∧ HeadK w b (o + i * 4) (kb i) u ∧ (kb i).In w u) := hat
  have HRE : Hid (blksB nb kb = (allTo (blkI nb kb) nb && ((decide (1 ≤ nb) && decide (nb ≤ 60)) && ((kb 0).fr == 0)))) := rfl
  have HCL0 : Hid (∀ k, k < nb → ∀ u, (kb k).bd.In w u → ∀ wr, Below w.heap.size w wr → ∀ o, Calls Tryd.prog 34 #[.pointer (some ⟨wr.heap.size + 1, 0, none⟩), .agg #[.int .i64 (kb k).bd.op, .int .i64 (kb k).bd.n, u], .int .i64 1] ((wr.alloc o).alloc (.cells #[v, .int .i64 k, .int .i64 4000] 72)) fun e w' => e = .returned (.bool (okI nb kb k (kb k).bd 1 4000)) ∧ Below w.heap.size w w') := fun k hk u hu wr hb o => by
    have hbb : Below w.heap.size w ((wr.alloc o).alloc (.cells #[v, .int .i64 k, .int .i64 4000] 72)) := (hb.alloc hb.size o).alloc (by have := hb.size; simp; omega) _
    refine (ir_ok nb kb k hk (kb k).bd w _ (wr.heap.size + 1) u v 1 4000 hv ht hu hbb (by have := hb.size; omega) (by have := heap_alloc_new (wr.alloc o) (.cells #[v, .int .i64 k, .int .i64 4000] 72); simpa [Look] using this) (by have := blk_countI hw hk; omega) (by omega)).mono ?_
    rintro e w' ⟨rfl, h2, -⟩
    exact ⟨rfl, hbb.trans (h2.below hbb.size (fun k hk => by have := hb.size; omega))⟩
  generalize blksB nb kb = R at *
  clear hv hat hw ht
  unfold maxLen at hlen
  subst e1
  by_cases c1 : 1 ≤ nb
  · by_cases c2 : nb ≤ 60
    · obtain ⟨b, o, u, hp, hd, -⟩ := HC.out 0 (by omega)
      subst hp
      have f0 := hd.c0
      simp only [Nat.zero_mul, Nat.add_zero] at f0
      clear hd
      have d1 : ¬ (nb : Int) < 1 := by omega
      have d2 : ¬ (60 : Int) < nb := by omega
      have d3 : (0 : Int) < nb := by omega
      cases hz : ((kb 0).fr == 0) with
      | false =>
        have HR : Hid (R = false) := by show _ = _; rw [HRE.out, hz]; simp
        have hz1 : ((kb 0).fr != 0) = true := by rw [bne, hz]; rfl
        clear HRE HCL0 HC hz
        generalize (kb 0).fr = F at *
        go_enter Tryd.func19, Tryd.ntmps19
        go_wp2_with fail
        go_ret
        exact ⟨by rw [HR.out]; rfl, Below.refl _ _⟩
      | true =>
        have HRE2 : Hid (R = allTo (blkI nb kb) nb) := by show _ = _; rw [HRE.out, hz, decide_eq_true c1, decide_eq_true c2]; simp
        have hz1 : ((kb 0).fr != 0) = false := by rw [bne, hz]; rfl
        clear HRE hz
        go_enter Tryd.func19, Tryd.ntmps19
        go_wp2_with fail
        go_loopw [23] (fun i wr => ∃ k : Nat, i = .int .i64 k ∧ k ≤ nb ∧ allTo (blkI nb kb) k = true ∧ Below w.heap.size w wr) (fun i _ => nb - (intOf i).toNat)
        case atStart => exact ⟨0, rfl, Nat.zero_le _, rfl, Below.refl _ _⟩
        case round =>
          obtain ⟨k, rfl, hk, hcc, hbel⟩ := hrel
          have HBL : Hid (Below w.heap.size w wr) := hbel
          have HA : Hid (allTo (blkI nb kb) k = true) := hcc
          clear hbel hcc f0
          by_cases hlt : (k : Int) < nb
          · have hlt' : k < nb := by omega
            obtain ⟨b2, o2, u2, hp2, hd, hin⟩ := HC.out k hlt'
            simp only [Option.some.injEq, Addr.mk.injEq, and_true] at hp2
            obtain ⟨rfl, rfl⟩ := hp2
            obtain ⟨e0, e1, e2, e3⟩ := hd.below HBL.out
            obtain ⟨pu, cu, eu⟩ := hin.sl.shape
            have HCL1 : Hid _ := HCL0.out k hlt' u2 hin.2 wr HBL.out
            have hku : (kb k).bd.len ≤ maxLen := by obtain ⟨_, _, _, h, _⟩ := hin.sl.at; exact h
            unfold maxLen at hku
            clear hd hin
            subst eu
            have HB2 : Hid (∀ o1 o2, Below w.heap.size w ((wr.alloc o1).alloc o2)) := fun o1 o2 => (HBL.out.alloc HBL.out.size o1).alloc (by have := HBL.out.size; simp; omega) _
            by_cases hf : (kb k).fr < 0
            · have HR : Hid (R = false) := HRE2.out.trans (allTo_false hlt' (by unfold blkI; rw [decide_eq_false (by omega)]; rfl))
              clear HRE2 HA HC HCL0 HCL1
              go_wp2_with fail
              go_ret
              exact ⟨by rw [HR.out]; rfl, HB2.out _ _⟩
            obtain ⟨OK, hOK⟩ : ∃ OK, okI nb kb k (kb k).bd 1 4000 = OK := ⟨_, rfl⟩
            rw [hOK] at HCL1
            have HBK : Hid (blkI nb kb k = OK) := by show _ = _; unfold blkI; rw [hOK, decide_eq_true (show 0 ≤ (kb k).fr by omega), Bool.true_and]
            clear hOK HC HCL0
            cases OK with
            | false =>
              have HR : Hid (R = false) := HRE2.out.trans (allTo_false hlt' HBK.out)
              clear HRE2 HA
              go_wp2_with (go_at_call 34; refine (HCL1.out _).mono ?_; rintro e w2 ⟨rfl, hb2⟩; have HB3 : Hid _ := hb2; clear hb2)
              go_ret
              exact ⟨by rw [HR.out]; rfl, HB3.out⟩
            | true =>
              have HN : Hid (allTo (blkI nb kb) (k + 1) = true) := by show _ = _; simp only [allTo, HA.out, HBK.out, Bool.and_self]
              clear HRE2 HA
              go_wp2_with (go_at_call 34; refine (HCL1.out _).mono ?_; rintro e w2 ⟨rfl, hb2⟩; have HB3 : Hid _ := hb2; clear hb2)
              go_roundw
              case rel => first | exact ⟨k + 1, by go_num, by omega, HN.out, HB3.out⟩ | ((repeat apply Exists.intro); exact ⟨⟨k + 1, (show Value.int .i64 ((k : Int) + 1) = .int .i64 ((k + 1 : Nat) : Int) from by go_num), by omega, HN.out, HB3.out⟩, rfl⟩)
              case measure => simp [intOf]; omega
          · have hke : k = nb := by omega
            subst hke
            have HR : Hid (R = true) := HRE2.out.trans HA.out
            clear HRE2 HA HC HCL0
            go_wp2_with fail
            go_ret
            exact ⟨by rw [HR.out]; rfl, HBL.out⟩
    · have HR : Hid (R = false) := by show _ = _; rw [HRE.out, decide_eq_false c2]; simp
      have d1 : ¬ (nb : Int) < 1 := by omega
      have d2 : (60 : Int) < nb := by omega
      clear HRE HCL0 HC
      go_enter Tryd.func19, Tryd.ntmps19
      go_wp2_with fail
      go_ret
      exact ⟨by rw [HR.out]; rfl, Below.refl _ _⟩
  · have HR : Hid (R = false) := by show _ = _; rw [HRE.out, decide_eq_false c1]; simp
    have d1 : (nb : Int) < 1 := by omega
    clear HRE HCL0 HC
    go_enter Tryd.func19, Tryd.ntmps19
    go_wp2_with fail
    go_ret
    exact ⟨by rw [HR.out]; rfl, Below.refl _ _⟩
end Go.Proofs.YthnhdmanmmdoiaaDoor
