/- spec.SameStx. Condition: no set of more than 2^22. -/
import Derived.Test.YtoifhaakieigcaaRows
import Derived.Test.YtoifhaakieigcaaStxRows
import Derived.Test.YtoifhaakieigcaaIntsSame
import Derived.Test.YtoifhaakieigcaaStxP
import Derived.WalkKit
import Derived.ProofKit
import Derived.OwnWalk
import Derived.BigQuiet
import Derived.Deep.QuietTactic
import Derived.Deep.RegionWith
namespace Go.Proofs.Ytoifhaakieigcaa
open Go.ChangeShapes Go.WideShapes Go.ChangeAt Go.RowKit

def SameXAt (t : X) : Prop := ∀ (s : X) (w : World) (su u sv v : Value), t.At 0 w su u → s.At 0 w sv v → t.Small → s.Small →
  Calls Try.prog 32 #[.agg #[.int .i64 t.op, .int .i64 t.at_, .int .i64 t.n, .string t.s, su, u], .agg #[.int .i64 s.op, .int .i64 s.at_, .int .i64 s.n, .string s.s, sv, v]] w fun e w' => e = .returned (.bool (sameX t s)) ∧ Below w.heap.size w w'

theorem SameXAt.at' {t : X} (h : SameXAt t) (s : X) (w : World) (su u sv v : Value) (h1 : t.At 0 w su u) (h2 : s.At 0 w sv v) (h3 : t.Small) (h4 : s.Small) : Calls Try.prog 32 #[.agg #[.int .i64 t.op, .int .i64 t.at_, .int .i64 t.n, .string t.s, su, u], .agg #[.int .i64 s.op, .int .i64 s.at_, .int .i64 s.n, .string s.s, sv, v]] w fun e w' => e = .returned (.bool (sameX t s)) ∧ Below w.heap.size w w' := h s w su u sv v h1 h2 h3 h4

set_option maxRecDepth 100000 in
set_option maxHeartbeats 4000000 in
theorem spec_same_stx (t : X) : SameXAt t := by
  induction t with
  | no => intro s w su u sv v h _ _ _; exact h.elim
  | mk op a n s set len kid ih =>
    intro b w su u sv v hu hv hsm hsm2
    cases b with
    | no => exact hv.elim
    | mk op2 a2 n2 s2 set2 len2 kid2 =>
    have h1 := hu.xs
    have h2 := hv.xs
    have r1 := hu.sets
    have r2 := hv.sets
    have H0 : Hid (sameX (.mk op a n s set len kid) (.mk op2 a2 n2 s2 set2 len2 kid2) = (headX (.mk op a n s set len kid) (.mk op2 a2 n2 s2 set2 len2 kid2) && allX (fun i => sameX (kid i) (kid2 i)) len)) := rfl
    have hh := headX_cases (.mk op a n s set len kid) (.mk op2 a2 n2 s2 set2 len2 kid2)
    simp only [X.op, X.at_, X.n, X.s, X.set, X.len, X.kid] at h1 h2 r1 r2 hh ⊢
    obtain ⟨p, cap, e1, hlen, hat⟩ := h1.at
    obtain ⟨q, cap2, e2, hlen2, hat2⟩ := h2.at
    have HC : Hid (∀ i, i < len → ∃ b o sv u, p = some ⟨b, o, none⟩ ∧ Head6 w b (o + i * 6) (kid i) sv u ∧ (kid i).At 0 w sv u) := hat
    have HD : Hid (∀ i, i < len2 → ∃ b' o sv u, q = some ⟨b', o, none⟩ ∧ Head6 w b' (o + i * 6) (kid2 i) sv u ∧ (kid2 i).At 0 w sv u) := hat2
    obtain ⟨ps, cs, e3⟩ := r1.shape
    obtain ⟨qs, cs2, e4⟩ := r2.shape
    have R1 : Hid (Rd w su set) := r1.rd
    have R2 : Hid (Rd w sv set2) := r2.rd
    have HSM : Hid (set.length ≤ 4194304 ∧ ∀ i, i < len → (kid i).Small) := hsm
    have HSM2 : Hid (set2.length ≤ 4194304 ∧ ∀ i, i < len2 → (kid2 i).Small) := hsm2
    have IH : Hid (∀ i, SameXAt (kid i)) := ih
    clear hu hv h1 h2 hat hat2 ih r1 r2 hsm hsm2
    unfold maxLen at hlen hlen2
    subst e1 e2 e3 e4
    have HS : Hid (∀ o1 o2, Calls Try.prog 65 #[.slice ps set.length cs, .slice qs set2.length cs2] ((w.alloc o1).alloc o2) fun e w' => e = .returned (.bool (sameB set set2)) ∧ Below ((w.alloc o1).alloc o2).heap.size ((w.alloc o1).alloc o2) w') := fun o1 o2 =>
      have hb0 : Below w.heap.size w ((w.alloc o1).alloc o2) := (newx w _).trans ((newx _ _).mono (by simp))
      spec_same_set set set2 _ _ _ (R1.out.below hb0) (R2.out.below hb0) HSM.out.1 HSM2.out.1
    clear R1 R2
    rcases hh with ⟨hh, t0, t1, t2, t4, t3⟩ | ⟨hh, hh2⟩
    · have HR : Hid (sameX (.mk op a n s set len kid) (.mk op2 a2 n2 s2 set2 len2 kid2) = allX (fun i => sameX (kid i) (kid2 i)) len) := by
        have := H0.out
        rw [hh, Bool.true_and] at this
        exact this
      clear hh H0
      generalize sameX (.mk op a n s set len kid) (.mk op2 a2 n2 s2 set2 len2 kid2) = R at *
      subst t0 t1 t2 t3
      go_enter Try.func32, Try.ntmps32
      rw [t4] at HS
      clear t4
      go_wp2_with fail
      refine (HS.out _ _).mono ?_
      rintro e w1 ⟨rfl, hb1⟩
      have HB1 : Hid (Below w.heap.size w w1) := ((newx w _).trans ((newx _ _).mono (by simp))).trans (hb1.mono (by simp; omega))
      have a5 : w1.cell? ⟨w.heap.size, 5, none⟩ = some (.slice p len cap) := keepsX hb1 _ _ (by simp [go_sem])
      have b5 : w1.cell? ⟨w.heap.size + 1, 5, none⟩ = some (.slice q len cap2) := keepsX hb1 _ _ (by simp [go_sem])
      clear hb1 HS
      go_wp2_with fail
      go_loopw [5] (fun i wr => ∃ k : Nat, i = .int .i64 k ∧ k ≤ len ∧ allX (fun i => sameX (kid i) (kid2 i)) k = true ∧ wr.cell? ⟨w.heap.size, 5, none⟩ = some (.slice p len cap) ∧ wr.cell? ⟨w.heap.size + 1, 5, none⟩ = some (.slice q len cap2) ∧ Below w.heap.size w wr) (fun i _ => len - (intOf i).toNat)
      case atStart => exact ⟨0, rfl, Nat.zero_le _, rfl, a5, b5, HB1.out⟩
      case round =>
        obtain ⟨k, rfl, hk, hall, hc1, hc2, hbel⟩ := hrel
        have HBL : Hid (Below w.heap.size w wr) := hbel
        have HA : Hid (allX (fun i => sameX (kid i) (kid2 i)) k = true) := hall
        clear hbel hall
        by_cases hlt : (k : Int) < len
        · have hlt' : k < len := by omega
          obtain ⟨b, o, sx, x, hp, hd, hin⟩ := HC.out k hlt'
          obtain ⟨b2, o2, sy, y, hq, hd2, hin2⟩ := HD.out k hlt'
          subst hp hq
          obtain ⟨c0, c1, c2, c3, c4, c5⟩ := hd.below HBL.out
          obtain ⟨d0, d1, d2, d3, d4, d5⟩ := hd2.below HBL.out
          have HI : Hid ((kid k).At 0 wr sx x ∧ (kid2 k).At 0 wr sy y) := ⟨X.At.below HBL.out hin, X.At.below HBL.out hin2⟩
          clear hd hin hd2 hin2
          have hcl := fun (w1 : World) (h1 : Below wr.heap.size wr w1) => (IH.out k).at' (kid2 k) w1 sx x sy y (X.At.below h1 HI.out.1) (X.At.below h1 HI.out.2) (HSM.out.2 k hlt') (HSM2.out.2 k hlt')
          cases hsm : sameX (kid k) (kid2 k) with
          | true =>
            rw [hsm] at hcl
            have HCL : Hid (∀ w1 : World, Below wr.heap.size wr w1 → Calls Try.prog 32 #[.agg #[.int .i64 (kid k).op, .int .i64 (kid k).at_, .int .i64 (kid k).n, .string (kid k).s, sx, x], .agg #[.int .i64 (kid2 k).op, .int .i64 (kid2 k).at_, .int .i64 (kid2 k).n, .string (kid2 k).s, sy, y]] w1 fun e w' => e = .returned (.bool true) ∧ Below w1.heap.size w1 w') := hcl
            have HN : Hid (allX (fun i => sameX (kid i) (kid2 i)) (k + 1) = true) := by
              show _ = _
              simp only [allX, HA.out, hsm, Bool.and_self]
            clear hcl hsm HA
            go_wp2_with fail
            go_region_with ((go_at_call 32; refine (HCL.out _ ?_).mono ?_; exact (Below.refl _ _).drew; rintro e w1 ⟨rfl, hb1⟩))
            all_goals
              have hbw : Below wr.heap.size wr w1 := ⟨hb1.os, hb1.tape, hb1.output, hb1.size, fun j hj => hb1.block j hj⟩
              have HB1 : Hid (Below w.heap.size w w1) := HBL.out.trans (hbw.mono HBL.out.size)
              have HX : Hid (w1.cell? ⟨w.heap.size, 5, none⟩ = some (.slice (some ⟨b, o, none⟩) len cap) ∧ w1.cell? ⟨w.heap.size + 1, 5, none⟩ = some (.slice (some ⟨b2, o2, none⟩) len cap2)) := ⟨keepsX hbw _ _ hc1, keepsX hbw _ _ hc2⟩
              clear hb1 hbw
              go_wp2_with fail
              go_roundw
              case rel => first | exact ⟨k + 1, by go_num, by omega, HN.out, HX.out.1, HX.out.2, HB1.out⟩ | ((repeat apply Exists.intro); exact ⟨⟨k + 1, by go_num, by omega, HN.out, HX.out.1, HX.out.2, HB1.out⟩, rfl⟩)
              case measure => simp [intOf]; omega
          | false =>
            rw [hsm] at hcl
            have HCL : Hid (∀ w1 : World, Below wr.heap.size wr w1 → Calls Try.prog 32 #[.agg #[.int .i64 (kid k).op, .int .i64 (kid k).at_, .int .i64 (kid k).n, .string (kid k).s, sx, x], .agg #[.int .i64 (kid2 k).op, .int .i64 (kid2 k).at_, .int .i64 (kid2 k).n, .string (kid2 k).s, sy, y]] w1 fun e w' => e = .returned (.bool false) ∧ Below w1.heap.size w1 w') := hcl
            have HN : Hid (R = false) := HR.out.trans (allX_false hlt' hsm)
            clear hcl hsm HA HR
            go_wp2_with fail
            go_region_with ((go_at_call 32; refine (HCL.out _ ?_).mono ?_; exact (Below.refl _ _).drew; rintro e w1 ⟨rfl, hb1⟩))
            all_goals
              have hbw : Below wr.heap.size wr w1 := ⟨hb1.os, hb1.tape, hb1.output, hb1.size, fun j hj => hb1.block j hj⟩
              have HB1 : Hid (Below w.heap.size w w1) := HBL.out.trans (hbw.mono HBL.out.size)
              clear hb1 hbw
              go_wp2_with fail
              go_ret
              exact ⟨by rw [HN.out]; rfl, HB1.out⟩
        · have hke : k = len := by omega
          subst hke
          have HN : Hid (R = true) := HR.out.trans HA.out
          clear HA HR
          go_wp2_with fail
          go_ret
          exact ⟨by rw [HN.out]; rfl, HBL.out⟩
    · have HR : Hid (sameX (.mk op a n s set len kid) (.mk op2 a2 n2 s2 set2 len2 kid2) = false) := by
        have := H0.out
        rw [hh, Bool.false_and] at this
        exact this
      clear hh H0 HC HD IH
      generalize sameX (.mk op a n s set len kid) (.mk op2 a2 n2 s2 set2 len2 kid2) = R at *
      have HB : Hid (∀ o1 o2, Below w.heap.size w ((w.alloc o1).alloc o2)) := fun o1 o2 => (newx w _).trans ((newx _ _).mono (by simp))
      rcases hh2 with c | ⟨c0, c | ⟨c1, c | ⟨c2, c | ⟨c3, c⟩⟩⟩⟩
      · have d1 : (op == op2) = false := by simpa using c
        go_enter Try.func32, Try.ntmps32
        go_wp2_with fail
        go_ret
        exact ⟨by rw [HR.out]; rfl, HB.out _ _⟩
      · subst c0
        have d1 : (n == n2) = false := by simpa using c
        go_enter Try.func32, Try.ntmps32
        go_wp2_with fail
        go_ret
        exact ⟨by rw [HR.out]; rfl, HB.out _ _⟩
      · subst c0 c1
        go_enter Try.func32, Try.ntmps32
        go_wp2_with fail
        go_ret
        exact ⟨by rw [HR.out]; rfl, HB.out _ _⟩
      · subst c0 c1 c2
        rw [c] at HS
        clear c
        go_enter Try.func32, Try.ntmps32
        go_wp2_with fail
        refine (HS.out _ _).mono ?_
        rintro e w1 ⟨rfl, hb1⟩
        have HB1 : Hid (Below w.heap.size w w1) := (HB.out _ _).trans (hb1.mono (by simp; omega))
        clear hb1
        go_wp2_with fail
        go_ret
        exact ⟨by rw [HR.out]; rfl, HB1.out⟩
      · subst c0 c1 c2
        rw [c3] at HS
        clear c3
        have d1 : ((len : Int) == (len2 : Int)) = false := by rw [beq_eq_false_iff_ne]; omega
        go_enter Try.func32, Try.ntmps32
        go_wp2_with fail
        refine (HS.out _ _).mono ?_
        rintro e w1 ⟨rfl, hb1⟩
        have HB1 : Hid (Below w.heap.size w w1) := (HB.out _ _).trans (hb1.mono (by simp; omega))
        have a5 : w1.cell? ⟨w.heap.size, 5, none⟩ = some (.slice p len cap) := keepsX hb1 _ _ (by simp [go_sem])
        have b5 : w1.cell? ⟨w.heap.size + 1, 5, none⟩ = some (.slice q len2 cap2) := keepsX hb1 _ _ (by simp [go_sem])
        clear hb1
        go_wp2_with fail
        go_ret
        exact ⟨by rw [HR.out]; rfl, HB1.out⟩
end Go.Proofs.Ytoifhaakieigcaa
