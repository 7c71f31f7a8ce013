/- spec.SameDat. No conditions. -/
import Derived.Test.YtafpbcdgcgffeabGreatDoorRows
import Derived.Test.YtafpbcdgcgffeabGreatDoorZBase
import Derived.WalkKit
import Derived.ProofKit
import Derived.OwnWalk
import Derived.BigQuiet
import Derived.Deep.QuietTactic
import Derived.Deep.RegionWith
namespace Go.Proofs.YtafpbcdgcgffeabGreatDoor
open Go.ChangeShapes Go.WideShapes Go.ChangeAt Go.RowKit

def SameAt (t : D) : Prop := ∀ (s : D) (w : World) (u v : Value), t.In w u → s.In w v →
  Calls Tryz.prog 16 #[.agg #[.int .i64 t.op, .int .i64 t.at_, .int .i64 t.n, .string t.s, u], .agg #[.int .i64 s.op, .int .i64 s.at_, .int .i64 s.n, .string s.s, v]] w fun e w' => e = .returned (.bool (sameD t s)) ∧ Below w.heap.size w w'

/-- The tests ahead, one by one. -/
theorem headB_cases (a b : D) : (headB a b = true ∧ a.op = b.op ∧ a.n = b.n ∧ a.s = b.s ∧ a.len = b.len) ∨
    (headB a b = false ∧ (a.op ≠ b.op ∨ (a.op = b.op ∧ (a.n ≠ b.n ∨ (a.n = b.n ∧ ((a.s.toList == b.s.toList) = false ∨ (a.s = b.s ∧ a.len ≠ b.len))))))) := by
  unfold headB
  by_cases h1 : a.op = b.op
  · by_cases h2 : a.n = b.n
    · by_cases h3 : a.s.toList = b.s.toList
      · have h3' : a.s = b.s := bytes_inj (by rw [← ByteArray.toList_eq, ← ByteArray.toList_eq, h3])
        by_cases h4 : a.len = b.len
        · exact .inl (by simp [h1, h2, h3', h4])
        · exact .inr (by simp [h1, h2, h3', h4])
      · exact .inr (by simp [h1, h2, h3])
    · exact .inr (by simp [h1, h2])
  · exact .inr (by simp [h1])

set_option maxRecDepth 100000 in
set_option maxHeartbeats 4000000 in
theorem spec_same (t : D) : SameAt t := by
  induction t with
  | no => intro s w u v h _; exact h.elim
  | mk op a n s len kid ih =>
    intro b w u v hu hv
    cases b with
    | no => exact hv.elim
    | mk op2 a2 n2 s2 len2 kid2 =>
    have h1 := hu.sl
    have h2 := hv.sl
    have H0 : Hid (sameD (.mk op a n s len kid) (.mk op2 a2 n2 s2 len2 kid2) = (headB (.mk op a n s len kid) (.mk op2 a2 n2 s2 len2 kid2) && allTo (fun i => sameD (kid i) (kid2 i)) len)) := rfl
    have hh := headB_cases (.mk op a n s len kid) (.mk op2 a2 n2 s2 len2 kid2)
    simp only [D.op, D.at_, D.n, D.s, D.len, D.kid] at h1 h2 hh ⊢
    obtain ⟨p, cap, e1, hlen, hat⟩ := h1.at
    obtain ⟨q, cap2, e2, hlen2, hat2⟩ := h2.at
    have HC : Hid (∀ i, i < len → ∃ b o u, p = some ⟨b, o, none⟩ ∧ Head w b (o + i * 5) (kid i) u ∧ (kid i).In w u) := hat
    have HD : Hid (∀ i, i < len2 → ∃ b' o u, q = some ⟨b', o, none⟩ ∧ Head w b' (o + i * 5) (kid2 i) u ∧ (kid2 i).In w u) := hat2
    have IH : Hid (∀ i, SameAt (kid i)) := ih
    clear hu hv h1 h2 hat hat2 ih
    unfold maxLen at hlen hlen2
    subst e1 e2
    rcases hh with ⟨hh, t0, t1, t2, t3⟩ | ⟨hh, hh2⟩
    · have HR : Hid (sameD (.mk op a n s len kid) (.mk op2 a2 n2 s2 len2 kid2) = allTo (fun i => sameD (kid i) (kid2 i)) len) := by
        have := H0.out
        rw [hh, Bool.true_and] at this
        exact this
      clear hh H0
      generalize sameD (.mk op a n s len kid) (.mk op2 a2 n2 s2 len2 kid2) = R at *
      subst t0 t1 t2 t3
      go_enter Tryz.func16, Tryz.ntmps16
      go_wp2_with fail
      go_loopw [5] (fun i wr => ∃ k : Nat, i = .int .i64 k ∧ k ≤ len ∧ allTo (fun i => sameD (kid i) (kid2 i)) k = true ∧ wr.cell? ⟨w.heap.size, 4, none⟩ = some (.slice p len cap) ∧ wr.cell? ⟨w.heap.size + 1, 4, none⟩ = some (.slice q len cap2) ∧ Below w.heap.size w wr) (fun i _ => len - (intOf i).toNat)
      case atStart => exact ⟨0, rfl, Nat.zero_le _, rfl, by simp, by simp, (newb w _).trans ((newb _ _).mono (by simp))⟩
      case round =>
        obtain ⟨k, rfl, hk, hall, hc1, hc2, hbel⟩ := hrel
        have HBL : Hid (Below w.heap.size w wr) := hbel
        have HA : Hid (allTo (fun i => sameD (kid i) (kid2 i)) k = true) := hall
        clear hbel hall
        by_cases hlt : (k : Int) < len
        · have hlt' : k < len := by omega
          obtain ⟨b, o, x, hp, hd, hin⟩ := HC.out k hlt'
          obtain ⟨b2, o2, y, hq, hd2, hin2⟩ := HD.out k hlt'
          subst hp hq
          obtain ⟨c0, c1, c2, c3, c4⟩ := hd.below HBL.out
          obtain ⟨d0, d1, d2, d3, d4⟩ := hd2.below HBL.out
          have HI : Hid ((kid k).In wr x ∧ (kid2 k).In wr y) := ⟨hin.below HBL.out, hin2.below HBL.out⟩
          clear hd hin hd2 hin2
          have hcl := fun (w1 : World) (h1 : Below wr.heap.size wr w1) => IH.out k (kid2 k) w1 x y (HI.out.1.below h1) (HI.out.2.below h1)
          cases hsm : sameD (kid k) (kid2 k) with
          | true =>
            rw [hsm] at hcl
            have HCL : Hid (∀ w1 : World, Below wr.heap.size wr w1 → Calls Tryz.prog 16 #[.agg #[.int .i64 (kid k).op, .int .i64 (kid k).at_, .int .i64 (kid k).n, .string (kid k).s, x], .agg #[.int .i64 (kid2 k).op, .int .i64 (kid2 k).at_, .int .i64 (kid2 k).n, .string (kid2 k).s, y]] w1 fun e w' => e = .returned (.bool true) ∧ Below w1.heap.size w1 w') := hcl
            have HN : Hid (allTo (fun i => sameD (kid i) (kid2 i)) (k + 1) = true) := by
              show _ = _
              simp only [allTo, HA.out, hsm, Bool.and_self]
            clear hcl hsm HA
            go_wp2_with fail
            go_region_with ((go_at_call 16; refine (HCL.out _ ?_).mono ?_; exact (Below.refl _ _).drew; rintro e w1 ⟨rfl, hb1⟩))
            all_goals
              have hbw : Below wr.heap.size wr w1 := ⟨hb1.os, hb1.tape, hb1.output, hb1.size, fun j hj => hb1.block j hj⟩
              have HB1 : Hid (Below w.heap.size w w1) := HBL.out.trans (hbw.mono HBL.out.size)
              have HX : Hid (w1.cell? ⟨w.heap.size, 4, none⟩ = some (.slice (some ⟨b, o, none⟩) len cap) ∧ w1.cell? ⟨w.heap.size + 1, 4, none⟩ = some (.slice (some ⟨b2, o2, none⟩) len cap2)) := ⟨keeps hbw _ _ hc1, keeps hbw _ _ hc2⟩
              clear hb1 hbw
              go_wp2_with fail
              go_roundw
              case rel => first | exact ⟨k + 1, by go_num, by omega, HN.out, HX.out.1, HX.out.2, HB1.out⟩ | ((repeat apply Exists.intro); exact ⟨⟨k + 1, by go_num, by omega, HN.out, HX.out.1, HX.out.2, HB1.out⟩, rfl⟩)
              case measure => simp [intOf]; omega
          | false =>
            rw [hsm] at hcl
            have HCL : Hid (∀ w1 : World, Below wr.heap.size wr w1 → Calls Tryz.prog 16 #[.agg #[.int .i64 (kid k).op, .int .i64 (kid k).at_, .int .i64 (kid k).n, .string (kid k).s, x], .agg #[.int .i64 (kid2 k).op, .int .i64 (kid2 k).at_, .int .i64 (kid2 k).n, .string (kid2 k).s, y]] w1 fun e w' => e = .returned (.bool false) ∧ Below w1.heap.size w1 w') := hcl
            have HN : Hid (R = false) := HR.out.trans (allTo_false hlt' hsm)
            clear hcl hsm HA HR
            go_wp2_with fail
            go_region_with ((go_at_call 16; refine (HCL.out _ ?_).mono ?_; exact (Below.refl _ _).drew; rintro e w1 ⟨rfl, hb1⟩))
            all_goals
              have hbw : Below wr.heap.size wr w1 := ⟨hb1.os, hb1.tape, hb1.output, hb1.size, fun j hj => hb1.block j hj⟩
              have HB1 : Hid (Below w.heap.size w w1) := HBL.out.trans (hbw.mono HBL.out.size)
              clear hb1 hbw
              go_wp2_with fail
              go_ret
              exact ⟨by rw [HN.out]; rfl, HB1.out⟩
        · have hke : k = len := by omega
          subst hke
          have HN : Hid (R = true) := HR.out.trans HA.out
          clear HA HR
          go_wp2_with fail
          go_ret
          exact ⟨by rw [HN.out]; rfl, HBL.out⟩
    · have HR : Hid (sameD (.mk op a n s len kid) (.mk op2 a2 n2 s2 len2 kid2) = false) := by
        have := H0.out
        rw [hh, Bool.false_and] at this
        exact this
      clear hh H0 HC HD IH
      generalize sameD (.mk op a n s len kid) (.mk op2 a2 n2 s2 len2 kid2) = R at *
      have HB : Hid (∀ o1 o2, Below w.heap.size w ((w.alloc o1).alloc o2)) := fun o1 o2 => (newb w _).trans ((newb _ _).mono (by simp))
      rcases hh2 with c | ⟨c0, c | ⟨c1, c | ⟨c2, c⟩⟩⟩
      · have d1 : (op == op2) = false := by simpa using c
        go_enter Tryz.func16, Tryz.ntmps16
        go_wp2_with fail
        go_ret
        exact ⟨by rw [HR.out]; rfl, HB.out _ _⟩
      · subst c0
        have d1 : (n == n2) = false := by simpa using c
        go_enter Tryz.func16, Tryz.ntmps16
        go_wp2_with fail
        go_ret
        exact ⟨by rw [HR.out]; rfl, HB.out _ _⟩
      · subst c0 c1
        go_enter Tryz.func16, Tryz.ntmps16
        go_wp2_with fail
        go_ret
        exact ⟨by rw [HR.out]; rfl, HB.out _ _⟩
      · subst c0 c1 c2
        have d1 : ((len : Int) == (len2 : Int)) = false := by rw [beq_eq_false_iff_ne]; omega
        go_enter Tryz.func16, Tryz.ntmps16
        go_wp2_with fail
        go_ret
        exact ⟨by rw [HR.out]; rfl, HB.out _ _⟩
end Go.Proofs.YtafpbcdgcgffeabGreatDoor
