/- spec.l3Right. No conditions. -/
import Derived.Test.YtaflnjhknnnaoaaRows
import Derived.Test.YtaflnjhknnnaoaaZG5DatOkP
import Derived.Test.YtaflnjhknnnaoaaZG15WordsOk
import Derived.Test.YtaflnjhknnnaoaaZG17SpecSym
import Derived.Test.YtaflnjhknnnaoaaZG24SpecDeep
import Derived.WalkKit
import Derived.ProofKit
import Derived.OwnWalk
namespace Go.Proofs.Ytaflnjhknnnaoaa
open Go.ChangeShapes Go.WideShapes Go.ChangeAt Go.RowKit

def RightAt (t : D) : Prop := ∀ (w : World) (v : Value), t.In w v →
  Calls Try.prog 45 #[.agg #[.int .i64 t.op, .int .i64 t.at_, .int .i64 t.n, .string t.s, v]] w fun e w' => e = .returned (.bool (rightB t)) ∧ Below w.heap.size w w'

set_option maxRecDepth 100000 in
set_option maxHeartbeats 16000000 in
theorem spec_right (t : D) : RightAt t := by
  induction t with
  | no => intro w v h; exact h.elim
  | mk op a n s len kid ih =>
    intro w v hin
    have h1 := hin.sl
    have hs := hin.size
    have HRE : Hid (rightB (D.mk op a n s len kid) = (allTo (fun i => rightB (kid i)) len && fB a op (wokB n) (symB s.data.toList) (s.toList == []) (n == 0) ((len : Int) == 0))) := rfl
    simp only [D.op, D.at_, D.n, D.s, D.len, D.kid] at h1 hs ⊢
    generalize rightB (D.mk op a n s len kid) = R at *
    obtain ⟨p, cap, e1, hlen, hat⟩ := h1.at
    have HC : Hid (∀ i, i < len → ∃ b o u, p = some ⟨b, o, none⟩ ∧ Head w b (o + i * 5) (kid i) u ∧ (kid i).In w u) := hat
    have IH : Hid (∀ i, RightAt (kid i)) := ih
    have HW : Hid (∀ w, Calls Try.prog 55 #[.int .i64 n] w fun e w' => e = .returned (.bool (wokB n)) ∧ w' = w) := fun w => spec_wordOk n w
    have HS : Hid (∀ w, Calls Try.prog 56 #[.string s] w fun e w' => e = .returned (.bool (symB s.data.toList)) ∧ w' = w) := fun w => spec_sym s w hs
    generalize symB s.data.toList = sb at *
    generalize wokB n = wb at *
    clear hin h1 hat ih hs
    unfold maxLen at hlen
    subst e1
    go_enter Try.func45, Try.ntmps45
    go_wp2_with fail
    go_loopw [3] (fun i wr => ∃ k : Nat, i = .int .i64 k ∧ k ≤ len ∧ allTo (fun i => rightB (kid i)) k = true ∧ wr.heap[w.heap.size]? = some (.cells #[.int .i64 op, .int .i64 a, .int .i64 n, .string s, .slice p len cap] 58 (0, 0)) ∧ Below w.heap.size w wr) (fun i _ => len - (intOf i).toNat)
    case atStart => exact ⟨0, rfl, Nat.zero_le _, rfl, heap_alloc_new w _, newb w _⟩
    case round =>
      obtain ⟨k, rfl, hk, hcc, hblk, hbel⟩ := hrel
      have HBL : Hid (Below w.heap.size w wr) := hbel
      have HA : Hid (allTo (fun i => rightB (kid i)) k = true) := hcc
      have HK : Hid (wr.heap[w.heap.size]? = some (.cells #[.int .i64 op, .int .i64 a, .int .i64 n, .string s, .slice p len cap] 58 (0, 0))) := hblk
      have b0 : wr.cell? ⟨w.heap.size, 0, none⟩ = some (.int .i64 op) := cell_of_row wr _ 0 _ _ _ hblk
      have b1 : wr.cell? ⟨w.heap.size, 1, none⟩ = some (.int .i64 a) := cell_of_row wr _ 1 _ _ _ hblk
      have b2 : wr.cell? ⟨w.heap.size, 2, none⟩ = some (.int .i64 n) := cell_of_row wr _ 2 _ _ _ hblk
      have b3 : wr.cell? ⟨w.heap.size, 3, none⟩ = some (.string s) := cell_of_row wr _ 3 _ _ _ hblk
      have b4 : wr.cell? ⟨w.heap.size, 4, none⟩ = some (.slice p len cap) := cell_of_row wr _ 4 _ _ _ hblk
      clear hbel hcc hblk
      by_cases hlt : (k : Int) < len
      · have hlt' : k < len := by omega
        obtain ⟨b, o, u, hp, hd, hin⟩ := HC.out k hlt'
        subst hp
        obtain ⟨c0, c1, c2, c3, c4⟩ := hd.below HBL.out
        have HI : Hid ((kid k).In wr u) := hin.below HBL.out
        clear hd hin HW HS
        cases hr : rightB (kid k) with
        | true =>
          have HN : Hid (allTo (fun i => rightB (kid i)) (k + 1) = true) := by
            show _ = _
            simp only [allTo, HA.out, hr, Bool.and_self]
          have HRK : Hid (rightB (kid k) = true) := hr
          clear hr
          go_wp2_with fail
          refine (IH.out k wr u HI.out).mono ?_
          rintro e w1 ⟨rfl, hb1⟩
          rw [HRK.out]
          have HB1 : Hid (Below w.heap.size w w1) := HBL.out.trans (hb1.mono HBL.out.size)
          have HX : Hid (w1.heap[w.heap.size]? = some (.cells #[.int .i64 op, .int .i64 a, .int .i64 n, .string s, .slice (some ⟨b, o, none⟩) len cap] 58 (0, 0))) := (hb1.block _ (Array.getElem?_eq_some_iff.1 HK.out).1).trans HK.out
          clear hb1 c0 c1 c2 c3 c4 b0 b1 b2 b3 b4
          go_wp2_with fail
          go_roundw
          case rel => exact ⟨k + 1, by go_num, by omega, HN.out, HX.out, HB1.out⟩
          case measure => simp [intOf]; omega
        | false =>
          have HN : Hid (R = false) := HRE.out.trans (by rw [allTo_false hlt' hr]; rfl)
          have HRK : Hid (rightB (kid k) = false) := hr
          clear hr HRE
          go_wp2_with fail
          refine (IH.out k wr u HI.out).mono ?_
          rintro e w1 ⟨rfl, hb1⟩
          rw [HRK.out]
          have HB1 : Hid (Below w.heap.size w w1) := HBL.out.trans (hb1.mono HBL.out.size)
          clear hb1 c0 c1 c2 c3 c4 b0 b1 b2 b3 b4
          go_wp2_with fail
          go_ret
          exact ⟨by rw [HN.out]; rfl, HB1.out⟩
      · have hke : k = len := by omega
        have HR : Hid (R = fB a op wb sb (s.toList == []) (n == 0) ((len : Int) == 0)) := HRE.out.trans (by rw [← hke, HA.out, Bool.true_and])
        clear HRE HA HC IH HK hke
        cases he : (s.toList == ([] : List UInt8)) <;> cases hn : (n == 0) <;> cases hl : ((len : Int) == 0)
        all_goals
          rw [he, hn, hl] at HR
          rcases Int.lt_or_le a 0 with ha | ha
          · have HR2 : Hid (R = false) := HR.out.trans (by unfold fB; rw [decide_eq_false (by omega)]; rfl)
            clear HR
            have ha2 : decide (0 ≤ a) = false := decide_eq_false (by omega)
            by_cases h1 : op = 1
            · subst h1
              cases wb
              all_goals
                go_wp2_with ((go_at_call 55; refine (HW.out _).mono ?_; rintro e w1 ⟨rfl, rfl⟩))
                go_ret
                exact ⟨ret_bool HR2.out.symm, HBL.out⟩
            · by_cases h2 : op = 2
              · subst h2
                cases sb
                all_goals
                  go_wp2_with ((go_at_call 56; refine (HS.out _).mono ?_; rintro e w1 ⟨rfl, rfl⟩))
                  go_ret
                  exact ⟨ret_bool HR2.out.symm, HBL.out⟩
              · have g1 : (op == 1) = false := by simpa using h1
                have g2 : (op == 2) = false := by simpa using h2
                cases g3 : (op == 3)
                all_goals
                  go_wp2_with fail
                  go_ret
                  exact ⟨ret_bool HR2.out.symm, HBL.out⟩
          · by_cases h1 : op = 1
            · subst h1
              cases wb
              all_goals
                have HR2 : Hid _ := HR.out.trans (by unfold fB; rw [decide_eq_true ha, if_pos rfl])
                clear HR
                go_wp2_with ((go_at_call 55; refine (HW.out _).mono ?_; rintro e w1 ⟨rfl, rfl⟩))
                go_ret
                exact ⟨ret_bool HR2.out.symm, HBL.out⟩
            · by_cases h2 : op = 2
              · subst h2
                cases sb
                all_goals
                  have HR2 : Hid _ := HR.out.trans (by unfold fB; rw [decide_eq_true ha, if_neg (by omega), if_pos rfl])
                  clear HR
                  go_wp2_with ((go_at_call 56; refine (HS.out _).mono ?_; rintro e w1 ⟨rfl, rfl⟩))
                  go_ret
                  exact ⟨ret_bool HR2.out.symm, HBL.out⟩
              · by_cases h3 : op = 3
                · subst h3
                  have HR2 : Hid _ := HR.out.trans (by unfold fB; rw [decide_eq_true ha, if_neg (by omega), if_neg (by omega), if_pos rfl])
                  clear HR
                  go_wp2_with fail
                  go_ret
                  exact ⟨ret_bool HR2.out.symm, HBL.out⟩
                · have HR2 : Hid (R = false) := HR.out.trans (by unfold fB; rw [if_neg h1, if_neg h2, if_neg h3]; simp)
                  clear HR
                  have g1 : (op == 1) = false := by simpa using h1
                  have g2 : (op == 2) = false := by simpa using h2
                  have g3 : (op == 3) = false := by simpa using h3
                  go_wp2_with fail
                  go_ret
                  exact ⟨ret_bool HR2.out.symm, HBL.out⟩
end Go.Proofs.Ytaflnjhknnnaoaa

/- spec.DatsOk. Condition: at most 2^40 data. -/
namespace Go.Proofs.Ytaflnjhknnnaoaa
open Go.ChangeShapes Go.WideShapes Go.ChangeAt Go.RowKit

set_option maxRecDepth 100000 in
set_option maxHeartbeats 4000000 in
theorem spec_dats (len : Nat) (kid : Nat → D) (w : World) (v : Value) (hv : Sl w len kid v) (hc : sumTo (fun i => (kid i).count) len ≤ 1099511627776) :
    Calls Try.prog 35 #[v] w fun e w' => e = .returned (.bool (datsB len kid)) ∧ Below w.heap.size w w' := by
  obtain ⟨p, cap, rfl, hlen, hat⟩ := hv.at
  have HC : Hid (∀ i, i < len → ∃ b o u, p = some ⟨b, o, none⟩ ∧ Head w b (o + i * 5) (kid i) u ∧ (kid i).In w u) := hat
  have HRE : Hid (datsB len kid = (allTo (fun i => decide ((kid i).deep ≤ 20) && rightB (kid i)) len && decide (sumTo (fun i => (kid i).count) len ≤ 1500))) := rfl
  have HSC : Hid (sumTo (fun i => (kid i).count) len ≤ 1099511627776) := hc
  generalize datsB len kid = R at *
  clear hat hv hc
  unfold maxLen at hlen
  go_enter Try.func35, Try.ntmps35
  go_wp2_with fail
  go_loopw [3, 4] (fun x i wr => ∃ k c : Nat, i = .int .i64 k ∧ x = .int .i64 c ∧ k ≤ len ∧ c = sumTo (fun i => (kid i).count) k ∧ allTo (fun i => decide ((kid i).deep ≤ 20) && rightB (kid i)) k = true ∧ Below w.heap.size w wr) (fun _ i _ => len - (intOf i).toNat)
  case atStart => exact ⟨0, 0, rfl, rfl, Nat.zero_le _, rfl, rfl, Below.refl _ _⟩
  case round =>
    obtain ⟨k, c, rfl, rfl, hk, hcc, hall, hbel⟩ := hrel
    have HBL : Hid (Below w.heap.size w wr) := hbel
    have HS : Hid (c = sumTo (fun i => (kid i).count) k) := hcc
    have HA : Hid (allTo (fun i => decide ((kid i).deep ≤ 20) && rightB (kid i)) k = true) := hall
    clear hbel hcc hall
    by_cases hlt : (k : Int) < len
    · have hlt' : k < len := by omega
      obtain ⟨b, o, u, hp, hd, hin⟩ := HC.out k hlt'
      subst hp
      obtain ⟨c0, c1, c2, c3, c4⟩ := hd.below HBL.out
      have HI : Hid ((kid k).In wr u) := hin.below HBL.out
      have HH : Hid (Head w b (o + k * 5) (kid k) u) := hd
      have hsum : c + (kid k).count ≤ 1099511627776 := by
        have h1 := sumTo_at (fun i => (kid i).count) k len hlt'
        have h2 := HS.out
        have h3 := HSC.out
        omega
      have hck : (kid k).count ≤ 1099511627776 := by omega
      have HNS : Hid (c + (kid k).count = sumTo (fun i => (kid i).count) (k + 1)) := by
        show _ = _
        rw [HS.out]; rfl
      clear hd hin
      go_wp2_with fail
      refine (spec_size (kid k) wr u HI.out hck).mono ?_
      rintro e w1 ⟨rfl, hb1⟩
      have HB1 : Hid (Below w.heap.size w w1) := HBL.out.trans (hb1.mono HBL.out.size)
      have HI1 : Hid ((kid k).In w1 u) := HI.out.below hb1
      clear hb1 c0 c1 c2 c3 c4 HI HBL
      obtain ⟨c0, c1, c2, c3, c4⟩ := HH.out.below HB1.out
      go_wp2_with fail
      refine (spec_deep (kid k) w1 u HI1.out hck).mono ?_
      rintro e w2 ⟨rfl, hb2⟩
      have HB2 : Hid (Below w.heap.size w w2) := HB1.out.trans (hb2.mono HB1.out.size)
      have HI2 : Hid ((kid k).In w2 u) := HI1.out.below hb2
      clear hb2 c0 c1 c2 c3 c4 HI1 HB1
      obtain ⟨c0, c1, c2, c3, c4⟩ := HH.out.below HB2.out
      by_cases hdp : (20 : Int) < (kid k).deep
      · have HN : Hid (R = false) := HRE.out.trans (by rw [allTo_false hlt' (by rw [decide_eq_false (by omega)]; rfl)]; rfl)
        clear HRE
        go_wp2_with fail
        go_ret
        exact ⟨ret_bool HN.out.symm, HB2.out⟩
      · have hd20 : decide ((kid k).deep ≤ 20) = true := decide_eq_true (by omega)
        cases hr : rightB (kid k) with
        | true =>
          have HN : Hid (allTo (fun i => decide ((kid i).deep ≤ 20) && rightB (kid i)) (k + 1) = true) := by
            show _ = _
            simp only [allTo, HA.out, hr, hd20, Bool.and_self]
          have HRK : Hid (rightB (kid k) = true) := hr
          clear hr hd20
          go_wp2_with fail
          refine (spec_right (kid k) w2 u HI2.out).mono ?_
          rintro e w3 ⟨rfl, hb3⟩
          rw [HRK.out]
          have HB3 : Hid (Below w.heap.size w w3) := HB2.out.trans (hb3.mono HB2.out.size)
          clear hb3 c0 c1 c2 c3 c4
          go_wp2_with fail
          go_roundw
          case rel => exact ⟨k + 1, c + (kid k).count, by go_num, by go_num, by omega, HNS.out, HN.out, HB3.out⟩
          case measure => simp [intOf]; omega
        | false =>
          have HN : Hid (R = false) := HRE.out.trans (by rw [allTo_false hlt' (by rw [hr, Bool.and_false])]; rfl)
          have HRK : Hid (rightB (kid k) = false) := hr
          clear hr hd20 HRE
          go_wp2_with fail
          refine (spec_right (kid k) w2 u HI2.out).mono ?_
          rintro e w3 ⟨rfl, hb3⟩
          rw [HRK.out]
          have HB3 : Hid (Below w.heap.size w w3) := HB2.out.trans (hb3.mono HB2.out.size)
          clear hb3 c0 c1 c2 c3 c4
          go_wp2_with fail
          go_ret
          exact ⟨ret_bool HN.out.symm, HB3.out⟩
    · have hke : k = len := by omega
      have HR : Hid (R = decide ((c : Int) ≤ 1500)) := HRE.out.trans (by
        rw [← hke, HA.out, Bool.true_and, ← HS.out]
        by_cases h : c ≤ 1500
        · rw [decide_eq_true h, decide_eq_true (by omega)]
        · rw [decide_eq_false h, decide_eq_false (by omega)])
      go_wp2_with fail
      go_ret
      exact ⟨ret_bool HR.out.symm, HBL.out⟩
end Go.Proofs.Ytaflnjhknnnaoaa
