/- impl.CoreOk. Conditions: at most 2^20 of it; that of impl.shapeOf. -/
import Derived.Test.YtefjnhkaampmcaaDoorZCorFree2
import Derived.Test.YtefjnhkaampmcaaDoorZCorLook
import Derived.Laws.EntriesVeiled
namespace Go.Proofs.YtefjnhkaampmcaaDoor
open Go.ChangeShapes Go.WideShapes Go.ChangeAt Go.RowKit

set_option maxRecDepth 100000 in
set_option maxHeartbeats 4000000 in
theorem impl_cor_ok (t : C) (w : World) (v : Value) (hin : t.In w v) (hwt : t.weight ≤ 1048576) (hST : ShapeTab w) :
    Calls Tryd.prog 7 #[.agg #[.int .i64 t.op, .int .i64 t.n, .string t.s, .string t.t2, v]] w fun e w' => e = .returned (.bool (coreB t)) ∧ Below w.heap.size w w' := by
  obtain ⟨p, cap, hv⟩ := hin.sl.shape
  subst hv
  have HR : Hid (coreB t = ((lookC 150 3000 1 (fun _ => t)).isSome && t.closed [])) := coreB_look t
  obtain ⟨T, hT⟩ : ∃ T, T = w.heap.size := ⟨_, rfl⟩
  obtain ⟨W1, hW1⟩ : ∃ W1, W1 = w.alloc (.cells #[.int .i64 t.op, .int .i64 t.n, .string t.s, .string t.t2, .slice p t.len cap] 29) := ⟨_, rfl⟩
  obtain ⟨W2, hW2⟩ : ∃ W2, W2 = W1.alloc (.cells #[.int .i64 3000, .func (.func 14) #[] #[], .func (.func 15) #[] #[]] 40) := ⟨_, rfl⟩
  obtain ⟨W3, hW3⟩ : ∃ W3, W3 = W2.alloc (.cells #[.int .i64 t.op, .int .i64 t.n, .string t.s, .string t.t2, .slice p t.len cap] 29) := ⟨_, rfl⟩
  have s1 : W1.heap.size = w.heap.size + 1 := by rw [hW1]; simp
  have s2 : W2.heap.size = w.heap.size + 1 + 1 := by rw [hW2]; simp [s1]
  have b1 : Below w.heap.size w W1 := by rw [hW1]; exact newb w _
  have b2 : Below W1.heap.size W1 W2 := by rw [hW2]; exact newb W1 _
  have b3 : Below W2.heap.size W2 W3 := by rw [hW3]; exact newb W2 _
  have t1 : FiveC W1 w.heap.size t.op t.n t.s t.t2 (.slice p t.len cap) 29 := by unfold FiveC; rw [hW1]; exact heap_alloc_new w _
  have t2 : CntC W2 (w.heap.size + 1) 3000 := by unfold CntC; rw [hW2, ← s1]; exact heap_alloc_new W1 _
  have t3 : FiveC W3 (w.heap.size + 1 + 1) t.op t.n t.s t.t2 (.slice p t.len cap) 29 := by unfold FiveC; rw [hW3, ← s2]; exact heap_alloc_new W2 _
  have bw : Below w.heap.size w W3 := b1.trans ((b2.trans (b3.mono (by omega))).mono (by omega))
  have HC : Hid (Calls Tryd.prog 16 #[.pointer (some ⟨w.heap.size + 1, 0, none⟩), .slice (some ⟨w.heap.size + 1 + 1, 0, none⟩) 1 1, .int .i64 150] W3 fun e w' => e = .returned (.bool (lookC 150 3000 1 (fun _ => t)).isSome) ∧ Below w.heap.size w w' ∧ FiveC w' w.heap.size t.op t.n t.s t.t2 (.slice p t.len cap) 29) := by
    have hsrc : SrcC w (w.heap.size + 1 + 1) (some (.cells #[.int .i64 t.op, .int .i64 t.n, .string t.s, .string t.t2, .slice p t.len cap] 29)) 1 (fun _ => t) (.slice (some ⟨w.heap.size + 1 + 1, 0, none⟩) 1 1) := by
      refine ⟨_, 1, rfl, by unfold maxLen; omega, fun W hW i hi => ⟨w.heap.size + 1 + 1, 0, .slice p t.len cap, rfl, ?_, hin⟩⟩
      obtain rfl : i = 0 := by omega
      have h6 : FiveC W (w.heap.size + 1 + 1) t.op t.n t.s t.t2 (.slice p t.len cap) 29 := hW.top.1
      obtain ⟨q0, q1, q2, q3, q4⟩ := h6.cells
      exact ⟨q0, q1, q2, q3, q4⟩
    have hkw : kidsWeightC 1 (fun _ => t) ≤ 1048577 := by unfold kidsWeightC; simp only [sumTo]; omega
    refine (list_okC w (w.heap.size + 1 + 1) _ rfl (w.heap.size + 1) (by omega) (by omega) hST 150 3000 1 (fun _ => t) _ _ hsrc ⟨bw, t3, fun _ => t3.lt⟩ (t2.below b3) (by omega) (by omega) hkw).mono ?_
    rintro e w' ⟨he, hf, -⟩
    refine ⟨he, ⟨hf.os.trans bw.os, hf.tape.trans bw.tape, hf.output.trans bw.output, Nat.le_trans bw.size hf.size, fun x hx => (hf.block x (by have := bw.size; omega) (by simp; omega)).trans (bw.block x hx)⟩, ?_⟩
    have h9 : FiveC W3 w.heap.size t.op t.n t.s t.t2 (.slice p t.len cap) 29 := (t1.below b2).below b3
    exact fiveC_fr h9 hf (by omega)
  have HIN : Hid (t.In w (.slice p t.len cap) ∧ t.weight ≤ 1048576) := ⟨hin, hwt⟩
  have HL : Hid ((lookC 150 3000 1 (fun _ => t)).isSome = true → t.count ≤ 3000) := fun h => by
    rw [lookC_eq] at h
    by_cases h2 : (∀ i, i < 1 → allFC t = true ∧ t.deep ≤ 150) ∧ sumTo (fun _ => t.count) 1 ≤ 3000
    · have := h2.2; simpa [sumTo] using this
    · rw [if_neg h2] at h; cases h
  have HW : Hid (W1 = _ ∧ W2 = _ ∧ W3 = _) := ⟨hW1, hW2, hW3⟩
  subst hW1
  subst hW2
  subst hW3
  clear hin hwt hST b1 b2 b3 t1 t2 t3 bw s1 s2 HW hT
  generalize (lookC 150 3000 1 (fun _ => t)).isSome = lk at *
  go_enter Tryd.func7, Tryd.ntmps7
  go_wp2_with fail
  refine HC.out.mono ?_
  rintro e w1 ⟨rfl, hb1, h5⟩
  have HB : Hid (Below w.heap.size w w1) := hb1
  cases lk with
  | false =>
    clear hb1 h5
    go_wp2_with fail
    go_ret
    exact ⟨by rw [HR.out]; rfl, HB.out⟩
  | true =>
    obtain ⟨c0, c1, c2, c3, c4⟩ := h5.cells
    have HF : Hid (Calls Tryd.prog 17 #[aggC t (.slice p t.len cap)] w1 fun e w' => (∃ (p : Option Addr) (k c : Nat), e = .returned (.slice p k c) ∧ (t.closed [] = true ↔ k = 0)) ∧ Below w1.heap.size w1 w') := free_names t _ w1 (HIN.out.1.below hb1) HIN.out.2 (by have := HL.out rfl; omega)
    clear hb1 h5
    go_wp2_with fail
    refine HF.out.mono ?_
    rintro e w2 ⟨⟨pp, k, pc, rfl, hk⟩, hb2⟩
    have HK : Hid (t.closed [] = decide (k = 0)) := by
      show _ = _
      rw [Bool.eq_iff_iff, hk]; simp
    have HB2 : Hid (Below w.heap.size w w2) := HB.out.trans (hb2.mono HB.out.size)
    clear hk hb2 c0 c1 c2 c3 c4
    go_wp2_with fail
    go_ret
    refine ⟨?_, HB2.out⟩
    show Ending.returned (Value.bool ((k : Int) == 0)) = _
    rw [HR.out, HK.out, Bool.true_and]
    congr 2
    rw [Bool.eq_iff_iff, decide_eq_true_eq, beq_iff_eq]
    omega
end Go.Proofs.YtefjnhkaampmcaaDoor
