/- laws.eqStx and laws.eqStxS: of what is written, laid twice, the answer is true. Condition: no set of more than 2^22. -/
import Derived.Test.YtgbfflpdpfgnbaaRows
import Derived.Test.YtgbfflpdpfgnbaaStxRows
import Derived.Test.YtgbfflpdpfgnbaaIntsSame
import Derived.Test.YtgbfflpdpfgnbaaStxP
import Derived.WalkKit
import Derived.ProofKit
import Derived.OwnWalk
import Derived.BigQuiet
import Derived.Deep.QuietTactic
import Derived.Deep.RegionWith
namespace Go.Proofs.Ytgbfflpdpfgnbaa
open Go.ChangeShapes Go.WideShapes Go.ChangeAt Go.RowKit

def EqXAt (t : X) : Prop := ∀ (w : World) (su u sv v : Value), t.At 0 w su u → t.At 0 w sv v → t.Small →
  Calls Try.prog 16 #[.agg #[.int .i64 t.op, .int .i64 t.at_, .int .i64 t.n, .string t.s, su, u], .agg #[.int .i64 t.op, .int .i64 t.at_, .int .i64 t.n, .string t.s, sv, v]] w fun e w' => e = .returned (.bool true) ∧ Below w.heap.size w w'

set_option maxRecDepth 100000 in
set_option maxHeartbeats 2000000 in
theorem eq_stxs (len : Nat) (kid : Nat → X) (ih : ∀ i, i < len → EqXAt (kid i)) (w : World) (u v : Value) (hu : XsAt 0 w len kid u) (hv : XsAt 0 w len kid v) (hsm : ∀ i, i < len → (kid i).Small) :
    Calls Try.prog 30 #[u, v] w fun e w' => e = .returned (.bool true) ∧ Below w.heap.size w w' := by
  obtain ⟨p, cap, rfl, hlen, hat⟩ := hu.at
  obtain ⟨q, cap2, rfl, -, hat2⟩ := hv.at
  have HC : Hid (∀ i, i < len → ∃ b o sv u, p = some ⟨b, o, none⟩ ∧ Head6 w b (o + i * 6) (kid i) sv u ∧ (kid i).At 0 w sv u) := hat
  have HD : Hid (∀ i, i < len → ∃ b o sv u, q = some ⟨b, o, none⟩ ∧ Head6 w b (o + i * 6) (kid i) sv u ∧ (kid i).At 0 w sv u) := hat2
  have IH : Hid (∀ i, i < len → EqXAt (kid i)) := ih
  have HSM : Hid (∀ i, i < len → (kid i).Small) := hsm
  clear hat hat2 ih hu hv hsm
  unfold maxLen at hlen
  go_enter Try.func30, Try.ntmps30
  go_wp2_with fail
  go_loopw [5] (fun i wr => ∃ k : Nat, i = .int .i64 k ∧ k ≤ len ∧ Below w.heap.size w wr) (fun i _ => len - (intOf i).toNat)
  case atStart => exact ⟨0, rfl, Nat.zero_le _, Below.refl _ _⟩
  case round =>
    obtain ⟨k, rfl, hk, hbel⟩ := hrel
    have HBL : Hid (Below w.heap.size w wr) := hbel
    clear hbel
    by_cases hlt : (k : Int) < len
    · have hlt' : k < len := by omega
      obtain ⟨b, o, sx, x, hp, hd, hin⟩ := HC.out k hlt'
      obtain ⟨b2, o2, sy, y, hq, hd2, hin2⟩ := HD.out k hlt'
      subst hp hq
      obtain ⟨c0, c1, c2, c3, c4, c5⟩ := hd.below HBL.out
      obtain ⟨d0, d1, d2, d3, d4, d5⟩ := hd2.below HBL.out
      have HI : Hid ((kid k).At 0 wr sx x ∧ (kid k).At 0 wr sy y) := ⟨X.At.below HBL.out hin, X.At.below HBL.out hin2⟩
      clear hd hin hd2 hin2
      have HCL : Hid (∀ w1 : World, Below wr.heap.size wr w1 → Calls Try.prog 16 #[.agg #[.int .i64 (kid k).op, .int .i64 (kid k).at_, .int .i64 (kid k).n, .string (kid k).s, sx, x], .agg #[.int .i64 (kid k).op, .int .i64 (kid k).at_, .int .i64 (kid k).n, .string (kid k).s, sy, y]] w1 fun e w' => e = .returned (.bool true) ∧ Below w1.heap.size w1 w') :=
        fun w1 h1 => IH.out k hlt' w1 sx x sy y (X.At.below h1 HI.out.1) (X.At.below h1 HI.out.2) (HSM.out k hlt')
      go_wp2_with fail
      go_region_with ((go_at_call 16; refine (HCL.out _ ?_).mono ?_; exact (Below.refl _ _).drew; rintro e w1 ⟨rfl, hb1⟩))
      all_goals
        have HB1 : Hid (Below w.heap.size w w1) := HBL.out.trans ⟨hb1.os, hb1.tape, hb1.output, hb1.size, fun j hj => hb1.block j (Nat.lt_of_lt_of_le hj HBL.out.size)⟩
        clear hb1
        go_wp2_with fail
        go_roundw
        case rel => first | exact ⟨k + 1, by go_num, by omega, HB1.out⟩ | ((repeat apply Exists.intro); exact ⟨⟨k + 1, by go_num, by omega, HB1.out⟩, rfl⟩)
        case measure => simp [intOf]; omega
    · go_wp2_with fail
      go_ret
      exact ⟨rfl, HBL.out⟩

set_option maxRecDepth 100000 in
set_option maxHeartbeats 2000000 in
theorem eq_stx (t : X) : EqXAt t := by
  induction t with
  | no => intro w su u sv v h _ _; exact h.elim
  | mk op a n s set len kid ih =>
    intro w su u sv v hu hv hsm
    have h1 := hu.xs
    have h2 := hv.xs
    have r1 := hu.sets
    have r2 := hv.sets
    simp only [X.op, X.at_, X.n, X.s, X.set, X.len, X.kid] at h1 h2 r1 r2 ⊢
    obtain ⟨p, cap, e1⟩ := h1.shape
    obtain ⟨q, cap2, e2⟩ := h2.shape
    obtain ⟨ps, cs, e3⟩ := r1.shape
    obtain ⟨qs, cs2, e4⟩ := r2.shape
    have H1 : Hid (XsAt 0 w len kid u) := h1
    have H2 : Hid (XsAt 0 w len kid v) := h2
    have R1 : Hid (Rd w su set) := r1.rd
    have R2 : Hid (Rd w sv set) := r2.rd
    have HSM : Hid (set.length ≤ 4194304 ∧ ∀ i, i < len → (kid i).Small) := hsm
    have IH : Hid (∀ i, EqXAt (kid i)) := ih
    clear hu hv h1 h2 ih r1 r2 hsm
    subst e1 e2 e3 e4
    go_enter Try.func16, Try.ntmps16
    go_wp2_with fail
    have hb0 : ∀ o1 o2, Below w.heap.size w ((w.alloc o1).alloc o2) := fun o1 o2 => (newx w _).trans ((newx _ _).mono (by simp))
    refine (eq_ints set set _ _ _ (R1.out.below (hb0 _ _)) (R2.out.below (hb0 _ _)) HSM.out.1 HSM.out.1).mono ?_
    rintro e w1 ⟨rfl, hb1⟩
    rw [same_self]
    have HB1 : Hid (Below w.heap.size w w1) := (hb0 _ _).trans (hb1.mono (by simp; omega))
    have a5 : w1.cell? ⟨w.heap.size, 5, none⟩ = some (.slice p len cap) := keepsX hb1 _ _ (by simp [go_sem])
    have b5 : w1.cell? ⟨w.heap.size + 1, 5, none⟩ = some (.slice q len cap2) := keepsX hb1 _ _ (by simp [go_sem])
    clear hb1 hb0 R1 R2
    go_wp2_with fail
    refine (eq_stxs len kid (fun i _ => IH.out i) _ _ _ (XsAt.below HB1.out H1.out) (XsAt.below HB1.out H2.out) HSM.out.2).mono ?_
    rintro e w2 ⟨rfl, hb2⟩
    have HB : Hid (Below w.heap.size w w2) := HB1.out.trans (hb2.mono HB1.out.size)
    clear hb2 a5 b5
    go_wp2_with fail
    go_ret
    exact ⟨rfl, HB.out⟩
end Go.Proofs.Ytgbfflpdpfgnbaa
