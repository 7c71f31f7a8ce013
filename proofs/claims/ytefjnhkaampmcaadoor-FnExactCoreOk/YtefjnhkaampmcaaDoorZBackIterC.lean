/- slices.Backward over a slice of cores: its kids, the last one first. No conditions. -/
import Derived.Test.YtefjnhkaampmcaaDoorZRFunc
import Derived.Test.YtefjnhkaampmcaaDoorZCorRows
namespace Go.Proofs.YtefjnhkaampmcaaDoor
open Go.RowKit Go.Shelf
attribute [local go_sem] Oper.semAt_some

/-- The five cells of a core as a value. -/
abbrev aggC (t : C) (u : Value) : Value := .agg #[.int .i64 t.op, .int .i64 t.n, .string t.s, .string t.t2, u]

set_option maxRecDepth 100000 in
set_option maxHeartbeats 1000000 in
theorem back_seqC (p : Option Addr) (len cap : Nat) (w : World) : Calls Tryd.prog 39 #[.slice p len cap] w fun e w' => e = .returned (.func (.func 41) #[] #[.pointer (some ⟨w.heap.size, 0, none⟩)]) ∧ w' = w.alloc (.cells #[.slice p len cap] 27) := by
  go_enter Tryd.func39, Tryd.ntmps39
  go_wp2_with fail
  go_ret
  exact ⟨rfl, rfl⟩

set_option maxRecDepth 100000 in
set_option maxHeartbeats 2000000 in
theorem back_iterC (l Bs cap len : Nat) (p : Option Addr) (kid : Nat → C) (V : Nat → Value) (J : Nat → World → Prop) (hl : len ≤ maxLen)
    (hJ : ∀ k W, J k W → W.cell? ⟨Bs, 0, none⟩ = some (.slice p len cap) ∧ ∀ i, i < len → ∃ b o, p = some ⟨b, o, none⟩ ∧ HeadC W b (o + i * 5) (kid i) (V i))
    (hY : ∀ k i W, J k W → k + i + 1 = len → YieldAt Fence.wide 0 Tryd.prog l #[.int .i64 i, aggC (kid i) (V i)] W fun e W' => e = .returned (.bool true) ∧ J (k + 1) W')
    (W : World) (h0 : J 0 W) :
    Calls Tryd.prog 41 #[.func (.yield l) #[] #[], .pointer (some ⟨Bs, 0, none⟩)] W fun e W' => (∃ v, e = .returned v) ∧ J len W' := by
  have HJ : Hid (∀ k W, J k W → W.cell? ⟨Bs, 0, none⟩ = some (.slice p len cap) ∧ ∀ i, i < len → ∃ b o, p = some ⟨b, o, none⟩ ∧ HeadC W b (o + i * 5) (kid i) (V i)) := hJ
  have HY : Hid (∀ k i W, J k W → k + i + 1 = len → YieldAt Fence.wide 0 Tryd.prog l #[.int .i64 i, aggC (kid i) (V i)] W fun e W' => e = .returned (.bool true) ∧ J (k + 1) W') := hY
  clear hJ hY
  unfold maxLen at hl
  have hbx := (HJ.out 0 W h0).1
  refine callsIn_wide (n := 0).1 ?_
  refine callsIn_of_wp Tryd.func41 rfl trivial ?_ rfl
  simp only [Tryd.ntmps41, List.size_toArray, List.length_cons, List.length_nil, Nat.reduceAdd, Nat.reduceSub, Array.replicate_succ, Array.replicate_zero, List.push_toArray, List.append_toArray, List.nil_append, List.cons_append]
  gi_wp2
  clear hbx
  gi_loopw [3] (fun i wr => ∃ (k : Nat), i = .int .i64 ((len : Int) - k - 1) ∧ k ≤ len ∧ J k wr) (fun i _ => (intOf i + 1).toNat)
  case atStart => exact ⟨0, by go_num, Nat.zero_le _, h0⟩
  case round =>
    obtain ⟨k, rfl, hk, hj⟩ := hrel
    by_cases hlt : k = len
    · subst hlt
      gi_wp2
      go_end0
      exact ⟨⟨_, rfl⟩, hj⟩
    · obtain ⟨i, hi⟩ : ∃ i, k + i + 1 = len := ⟨len - k - 1, by omega⟩
      have hii : (len : Int) - k - 1 = i := by omega
      rw [hii]
      obtain ⟨hbx, hd⟩ := HJ.out k wr hj
      obtain ⟨b, o, hp, hd6⟩ := hd i (by omega)
      subst hp
      obtain ⟨c0, c1, c2, c3, c4⟩ := hd6
      obtain ⟨fn, tmps, assign, body, hy, hR⟩ := HY.out k i wr hj hi
      gi_wp2
      refine ⟨rfl, hR.mono ?_⟩
      rintro e W3 ⟨rfl, hj3⟩
      gi_wp2
      go_roundw
      case rel => exact ⟨k + 1, by go_num, by omega, hj3⟩
      case measure => simp [intOf]
end Go.Proofs.YtefjnhkaampmcaaDoor
