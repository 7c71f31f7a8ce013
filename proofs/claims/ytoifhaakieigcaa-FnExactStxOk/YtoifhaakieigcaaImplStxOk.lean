/- impl.StxOk. Condition: at most 2^20 of it. -/
import Derived.Test.YtoifhaakieigcaaStxLook
import Derived.Laws.EntriesVeiled
namespace Go.Proofs.Ytoifhaakieigcaa
open Go.ChangeShapes Go.WideShapes Go.ChangeAt Go.RowKit

set_option maxRecDepth 100000 in
set_option maxHeartbeats 4000000 in
theorem impl_stx_ok (t : X) (w : World) (sv v : Value) (hin : t.At 0 w sv v) (hwt : t.weight ≤ 1048576) :
    Calls Try.prog 27 #[.agg #[.int .i64 t.op, .int .i64 t.at_, .int .i64 t.n, .string t.s, sv, v]] w fun e w' => e = .returned (.bool (stxOkB t)) ∧ Below w.heap.size w w' := by
  obtain ⟨p, cap, hv⟩ := hin.xs.shape
  obtain ⟨ps, cps, hsv⟩ := hin.sets.shape
  subst hv hsv
  have HR : Hid (stxOkB t = (lookX 20 1500 1 (fun _ => t)).isSome) := stxOk_look t
  have hW := threeX (Below.refl (((w.alloc (.cells #[.int .i64 t.op, .int .i64 t.at_, .int .i64 t.n, .string t.s, .slice ps t.set.length cps, .slice p t.len cap] 29)).alloc (.cells #[.int .i64 1500, .func (.func 56) #[] #[], .func (.func 51) #[] #[]] 72)).alloc (.cells #[.int .i64 t.op, .int .i64 t.at_, .int .i64 t.n, .string t.s, .slice ps t.set.length cps, .slice p t.len cap] 29)).heap.size _)
  obtain ⟨-, h2, h3, h4, h5⟩ := hW
  have HC : Hid (Calls Try.prog 57 #[.pointer (some ⟨w.heap.size + 1, 0, none⟩), .slice (some ⟨w.heap.size + 1 + 1, 0, none⟩) 1 1, .int .i64 20] (((w.alloc (.cells #[.int .i64 t.op, .int .i64 t.at_, .int .i64 t.n, .string t.s, .slice ps t.set.length cps, .slice p t.len cap] 29)).alloc (.cells #[.int .i64 1500, .func (.func 56) #[] #[], .func (.func 51) #[] #[]] 72)).alloc (.cells #[.int .i64 t.op, .int .i64 t.at_, .int .i64 t.n, .string t.s, .slice ps t.set.length cps, .slice p t.len cap] 29)) fun e w' => e = .returned (.bool (lookX 20 1500 1 (fun _ => t)).isSome) ∧ Below w.heap.size w w') := by
    have hsrc : SrcL w (w.heap.size + 1 + 1) (some (.cells #[.int .i64 t.op, .int .i64 t.at_, .int .i64 t.n, .string t.s, .slice ps t.set.length cps, .slice p t.len cap] 29)) 1 (fun _ => t) (.slice (some ⟨w.heap.size + 1 + 1, 0, none⟩) 1 1) := by
      refine ⟨_, 1, rfl, by unfold maxLen; omega, fun W hW i hi => ⟨w.heap.size + 1 + 1, 0, .slice ps t.set.length cps, .slice p t.len cap, rfl, ?_, hin⟩⟩
      obtain rfl : i = 0 := by omega
      have h6 : Six W (w.heap.size + 1 + 1) t.op t.at_ t.n t.s (.slice ps t.set.length cps) (.slice p t.len cap) 29 := hW.top.1
      obtain ⟨q0, q1, q2, q3, q4, q5⟩ := h6.cells
      exact ⟨q0, q1, q2, q3, q4, q5⟩
    have hkw : kidsWeightX 1 (fun _ => t) ≤ 1048577 := by unfold kidsWeightX; simp only [sumX]; omega
    refine (list_okX w (w.heap.size + 1 + 1) _ rfl (w.heap.size + 1) (by omega) (by omega) 20 1500 1 (fun _ => t) _ _ hsrc ⟨h5, h3, fun _ => by omega⟩ h2 (by omega) (by omega) hkw).mono ?_
    rintro e w' ⟨he, hf, -⟩
    refine ⟨he, ⟨hf.os.trans h5.os, hf.tape.trans h5.tape, hf.output.trans h5.output, Nat.le_trans h5.size hf.size, fun x hx => (hf.block x (by omega) (by simp; omega)).trans (h5.block x hx)⟩⟩
  clear hin hwt h2 h3 h4 h5
  go_enter Try.func27, Try.ntmps27
  go_wp2_with fail
  refine HC.out.mono ?_
  rintro e w1 ⟨rfl, hb1⟩
  have HB : Hid (Below w.heap.size w w1) := hb1
  clear hb1
  rw [← HR.out]
  go_wp2_with fail
  go_ret
  exact ⟨rfl, HB.out⟩
end Go.Proofs.Ytoifhaakieigcaa
