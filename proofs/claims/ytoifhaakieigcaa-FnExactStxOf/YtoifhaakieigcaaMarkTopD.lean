/- laws.markDat and laws.heldDat. Condition: marks up to 10^14. -/
import Derived.Test.YtoifhaakieigcaaMarkDat
namespace Go.Proofs.Ytoifhaakieigcaa
open Go.ChangeShapes Go.WideShapes Go.ChangeAt Go.RowKit

set_option maxRecDepth 100000 in
set_option maxHeartbeats 1000000 in
theorem mark_dat (t : D) (w : World) (v : Value) (S : List Nat) (k : Nat) (h : DOwn w t v S) (hn : S.Nodup) (hk0 : 0 < k) (hk : k + 4 * sumTo (fun j => (t.kid j).count) t.len ≤ 90000000000000) :
    Calls Try.prog 17 #[.agg #[.int .i64 t.op, .int .i64 t.at_, .int .i64 t.n, .string t.s, v], .int .i64 k] w fun e w' => e = .returned (.int .i64 ((k + 4 * sumTo (fun j => (t.kid j).count) t.len : Nat) : Int)) ∧ Sl w' t.len (markK t.kid k) v ∧ FrS w w' S := by
  obtain ⟨p, cap, hv⟩ := h.sown.sl.shape
  subst hv
  have H1 : Hid (∀ o, SOwn (w.alloc o) t.len t.kid (.slice p t.len cap) S) := fun o => h.sown.same (fun g hg => (newb w o).block g (h.sown.lt g hg))
  have H2 : Hid (S.Nodup) := hn
  clear h hn
  obtain ⟨M, hM⟩ : ∃ M, M = k + 4 * sumTo (fun j => (t.kid j).count) t.len := ⟨_, rfl⟩
  have HM : Hid (M = k + 4 * sumTo (fun j => (t.kid j).count) t.len) := hM
  have HK : Hid (k + 4 * sumTo (fun j => (t.kid j).count) t.len ≤ 90000000000000) := hk
  rw [← hM]
  clear hM hk
  go_enter Try.func17, Try.ntmps17
  go_wp2_with fail
  refine (mark_all t _ _ S k (H1.out _) H2.out hk0 HK.out).mono ?_
  rintro e w1 ⟨rfl, h1, hf⟩
  have HR : Hid (Sl w1 t.len (markK t.kid k) (.slice p t.len cap) ∧ FrS w w1 S) := ⟨h1.sl, (FrS.below (newb w _) S).trans hf⟩
  clear h1 hf
  rw [← HM.out]
  go_wp2_with fail
  go_ret
  exact ⟨rfl, HR.out.1, HR.out.2⟩

set_option maxRecDepth 100000 in
set_option maxHeartbeats 1000000 in
theorem held_dat (t : D) (w : World) (p : Option Addr) (cap : Nat) (k : Nat) (h : Sl w t.len (markK t.kid k) (.slice p t.len cap)) (hk0 : 0 < k) (hk : k + 4 * sumTo (fun j => (t.kid j).count) t.len ≤ 90000000000000) :
    Calls Try.prog 25 #[.agg #[.int .i64 t.op, .int .i64 t.at_, .int .i64 t.n, .string t.s, .slice p t.len cap], .int .i64 k] w fun e w' => e = .returned (.int .i64 ((k + 4 * sumTo (fun j => (t.kid j).count) t.len : Nat) : Int)) ∧ Below w.heap.size w w' := by
  have H1 : Hid (∀ o, Sl (w.alloc o) t.len (markK t.kid k) (.slice p t.len cap)) := fun o => h.below (newb w o)
  clear h
  obtain ⟨M, hM⟩ : ∃ M, M = k + 4 * sumTo (fun j => (t.kid j).count) t.len := ⟨_, rfl⟩
  have HM : Hid (M = k + 4 * sumTo (fun j => (t.kid j).count) t.len) := hM
  have HK : Hid (k + 4 * sumTo (fun j => (t.kid j).count) t.len ≤ 100000000000000) := by show _ ≤ _; omega
  rw [← hM]
  clear hM hk
  go_enter Try.func25, Try.ntmps25
  go_wp2_with fail
  refine (held_all t _ _ k (H1.out _) hk0 HK.out).mono ?_
  rintro e w1 ⟨rfl, hb⟩
  have HB : Hid (Below w.heap.size w w1) := (newb w _).trans (hb.mono (by simp))
  clear hb
  rw [← HM.out]
  go_wp2_with fail
  go_ret
  exact ⟨rfl, HB.out⟩
end Go.Proofs.Ytoifhaakieigcaa
