/- The cursor of a draw: l1Byte answers 0 to 255 and writes into its own block alone. Conditions: the cursor's three cells are there and may be written; the bytes that it reads are there. -/
import Derived.Test.YtgcegjgjegkahabRows
import Derived.WalkKit
import Derived.ProofKit
import Derived.Below
import Derived.Deep.QuietTactic
import Derived.BigQuiet
import Derived.Laws.BitsLemmas
import Derived.Lib.SmallJoins
namespace Go.Proofs.Ytgcegjgjegkahab
open Go.ChangeShapes Go.WideShapes Go.ChangeAt Go.RowKit

theorem i64_and255 (n : Int) : bits .and .i64 n 255 = n % 256 := by
  have hm : (BitVec.ofInt 64 255).toNat = 2 ^ 8 - 1 := by decide
  have key : (BitVec.ofInt 64 n &&& BitVec.ofInt 64 255).toNat = (n % ((2 ^ 64 : Nat) : Int)).toNat % 2 ^ 8 := by
    rw [BitVec.toNat_and, BitVec.toNat_ofInt, hm, Nat.and_two_pow_sub_one_eq_mod]
  show IntKind.i64.wrap ((BitVec.ofInt 64 n &&& BitVec.ofInt 64 255).toNat : Nat) = n % 256
  rw [key, IntKind.wrap_i64]
  omega

set_option maxHeartbeats 1000000 in
theorem byte_out (c : Nat) (a : Option Addr) (len cap : Nat) (i h : Int) (w : World)
    (h0 : w.cell? ⟨c, 0, none⟩ = some (.slice a len cap)) (h1 : w.cell? ⟨c, 1, none⟩ = some (.int .i64 i)) (h2 : w.cell? ⟨c, 2, none⟩ = some (.int .i64 h))
    (f2 : w.frozen? ⟨c, 2, none⟩ = false) (hi : ¬ i < (len : Int)) :
    Calls Try.prog 93 #[.pointer (some ⟨c, 0, none⟩)] w fun e w' => (∃ x : Int, 0 ≤ x ∧ x ≤ 255 ∧ e = .returned (.int .i64 x)) ∧ ∃ v n, w' = (w.setCell ⟨c, 2, none⟩ (.int .i64 v)).drewN n := by
  have e := i64_and255
  go_enter Try.func93, Try.ntmps93
  go_wp2
  go_quiet (fail)
  go_wp2
  go_quiet (fail)
  go_wp2
  go_ret
  exact ⟨⟨_, by omega, by omega, rfl⟩, _, _, by rw [World.drewN_drewN]⟩

set_option maxHeartbeats 1000000 in
theorem byte_in (c : Nat) (b off len cap : Nat) (i h z : Int) (w : World)
    (h0 : w.cell? ⟨c, 0, none⟩ = some (.slice (some ⟨b, off, none⟩) len cap)) (h1 : w.cell? ⟨c, 1, none⟩ = some (.int .i64 i)) (h2 : w.cell? ⟨c, 2, none⟩ = some (.int .i64 h))
    (f1 : w.frozen? ⟨c, 1, none⟩ = false) (f2 : w.frozen? ⟨c, 2, none⟩ = false) (hi0 : 0 ≤ i) (hi : i < (len : Int)) (hl : (len : Int) ≤ 1048576)
    (hbc : b ≠ c) (hz : w.cell? ⟨b, off + i.toNat, none⟩ = some (.int .u8 z)) :
    Calls Try.prog 93 #[.pointer (some ⟨c, 0, none⟩)] w fun e w' => (∃ x : Int, 0 ≤ x ∧ x ≤ 255 ∧ e = .returned (.int .i64 x)) ∧ ∃ v n, w' = ((w.setCell ⟨c, 2, none⟩ (.int .i64 v)).drewN n).setCell ⟨c, 1, none⟩ (.int .i64 (i + 1)) := by
  have e := i64_and255
  go_enter Try.func93, Try.ntmps93
  go_wp2
  go_quiet (fail)
  go_wp2
  go_quiet (fail)
  go_wp2
  go_quiet (fail)
  go_wp2
  go_ret
  exact ⟨⟨_, by omega, by omega, rfl⟩, _, _, rfl⟩

/-- w' is w but for block c, and for blocks that are new. -/
structure Ext (c : Nat) (w w' : World) : Prop where
  os : w'.os = w.os
  tape : w'.tape = w.tape
  output : w'.output = w.output
  size : w.heap.size ≤ w'.heap.size
  block : ∀ k, k < w.heap.size → k ≠ c → w'.heap[k]? = w.heap[k]?

theorem Ext.refl (c : Nat) (w : World) : Ext c w w := ⟨rfl, rfl, rfl, Nat.le_refl _, fun _ _ _ => rfl⟩
theorem Ext.trans {c : Nat} {w w1 w2 : World} (h : Ext c w w1) (g : Ext c w1 w2) : Ext c w w2 :=
  ⟨g.os.trans h.os, g.tape.trans h.tape, g.output.trans h.output, Nat.le_trans h.size g.size, fun k hk hc => (g.block k (Nat.lt_of_lt_of_le hk h.size) hc).trans (h.block k hk hc)⟩
theorem Ext.set {c : Nat} {w w1 : World} (h : Ext c w w1) (o : Nat) (v : Value) : Ext c w (w1.setCell ⟨c, o, none⟩ v) :=
  h.trans ⟨rfl, rfl, rfl, by simp, fun k _ hc => Below.heap_setCell _ _ _ _ hc⟩
theorem Ext.drewN {c : Nat} {w w1 : World} (h : Ext c w w1) (n : Nat) : Ext c w (w1.drewN n) := ⟨h.os, h.tape, h.output, h.size, h.block⟩
theorem Ext.alloc {c : Nat} {w w1 : World} (h : Ext c w w1) (o : Obj) : Ext c w (w1.alloc o) :=
  h.trans ⟨rfl, rfl, rfl, by simp, fun k hk _ => Below.heap_alloc _ _ _ (by omega)⟩
theorem Ext.of_below {c B : Nat} {w w1 : World} (h : Below B w w1) (hB : w.heap.size ≤ B) : Ext c w w1 :=
  ⟨h.os, h.tape, h.output, h.size, fun k hk _ => h.block k (by omega)⟩
theorem Ext.below {c B : Nat} {w w1 : World} (h : Ext c w w1) (hc : B ≤ c) (hB : B ≤ w.heap.size) : Below B w w1 :=
  ⟨h.os, h.tape, h.output, h.size, fun k hk => h.block k (by omega) (by omega)⟩

theorem cell_of {w : World} {b : Nat} {cs : Array Value} {t : TypeId} {fr : Nat × Nat} (h : w.heap[b]? = some (.cells cs t fr)) (o : Nat) : w.cell? ⟨b, o, none⟩ = cs[o]? := by
  simp [World.cell?, h]
theorem cell_same {w w' : World} {b : Nat} (h : w'.heap[b]? = w.heap[b]?) (o : Nat) : w'.cell? ⟨b, o, none⟩ = w.cell? ⟨b, o, none⟩ := by
  simp [World.cell?, h]
theorem frozen_of {w : World} {b : Nat} {cs : Array Value} {t : TypeId} (h : w.heap[b]? = some (.cells cs t (0, 0))) (o : Nat) : w.frozen? ⟨b, o, none⟩ = false := by
  simp [World.frozen?, h]
theorem cell_lt {w : World} {b o : Nat} {v : Value} (h : w.cell? ⟨b, o, none⟩ = some v) : b < w.heap.size := by
  rcases Nat.lt_or_ge b w.heap.size with hl | hl
  · exact hl
  · simp [World.cell?, Array.getElem?_eq_none hl] at h

/-- The bytes of a draw's code can be read; they lie below block B. -/
def CodeOk (a : Option Addr) (len B : Nat) (w : World) : Prop :=
  len ≤ 1048576 ∧ (len = 0 ∨ ∃ b off, a = some ⟨b, off, none⟩ ∧ b < B ∧ ∀ j, j < len → ∃ z : Int, 0 ≤ z ∧ z ≤ 255 ∧ w.cell? ⟨b, off + j, none⟩ = some (.int .u8 z))

theorem CodeOk.keep {a : Option Addr} {len B : Nat} {w w' : World} (h : CodeOk a len B w) (hb : ∀ k, k < B → k < w.heap.size → w'.heap[k]? = w.heap[k]?) : CodeOk a len B w' := by
  obtain ⟨hl, h | ⟨b, off, rfl, hlt, hz⟩⟩ := h
  · exact ⟨hl, .inl h⟩
  · refine ⟨hl, .inr ⟨b, off, rfl, hlt, fun j hj => ?_⟩⟩
    obtain ⟨z, z0, z1, hc⟩ := hz j hj
    exact ⟨z, z0, z1, by rw [cell_same (hb b hlt (cell_lt hc))]; exact hc⟩

/-- A cursor lies in block c. -/
def CurAt (c : Nat) (a : Option Addr) (len cap : Nat) (w : World) : Prop :=
  CodeOk a len c w ∧ ∃ i h : Int, 0 ≤ i ∧ w.heap[c]? = some (.cells #[.slice a len cap, .int .i64 i, .int .i64 h] 101 (0, 0))

theorem CurAt.keep {c d : Nat} {a : Option Addr} {len cap : Nat} {w w' : World} (h : CurAt c a len cap w) (he : Ext d w w') (hd : c < d) : CurAt c a len cap w' := by
  obtain ⟨hc, i, hh, h0, hb⟩ := h
  have hl : c < w.heap.size := by
    rcases Nat.lt_or_ge c w.heap.size with hl | hl
    · exact hl
    · rw [Array.getElem?_eq_none hl] at hb; cases hb
  exact ⟨hc.keep fun k hk hs => he.block k hs (by omega), i, hh, h0, by rw [he.block c hl (by omega)]; exact hb⟩

theorem CurAt.lt {c : Nat} {a : Option Addr} {len cap : Nat} {w : World} (h : CurAt c a len cap w) : c < w.heap.size := by
  obtain ⟨_, _, _, _, hb⟩ := h
  rcases Nat.lt_or_ge c w.heap.size with hl | hl
  · exact hl
  · rw [Array.getElem?_eq_none hl] at hb; cases hb

/-- spec.l1Byte: 0 to 255; the cursor stays one. -/
theorem l1Byte_any (c : Nat) (a : Option Addr) (len cap : Nat) (w : World) (hc : CurAt c a len cap w) :
    Calls Try.prog 93 #[.pointer (some ⟨c, 0, none⟩)] w fun e w' => (∃ x : Int, 0 ≤ x ∧ x ≤ 255 ∧ e = .returned (.int .i64 x)) ∧ Ext c w w' ∧ CurAt c a len cap w' := by
  obtain ⟨hk, i, h, h0, hb⟩ := hc
  have c0 := cell_of hb 0
  have c1 := cell_of hb 1
  have c2 := cell_of hb 2
  have f1 := frozen_of hb 1
  have f2 := frozen_of hb 2
  by_cases hi : i < (len : Int)
  · obtain ⟨hl, hz | ⟨b, off, rfl, hlt, hz⟩⟩ := hk
    · omega
    obtain ⟨z, z0, z1, hcz⟩ := hz i.toNat (by omega)
    refine (byte_in c b off len cap i h z w c0 c1 c2 f1 f2 h0 hi (by omega) (by omega) hcz).mono fun e w' ⟨he, v, n, hw⟩ => ⟨he, ?_⟩
    subst hw
    have hx := (((Ext.refl c w).set 2 (.int .i64 v)).drewN n).set 1 (.int .i64 (i + 1))
    refine ⟨hx, (show CodeOk (some ⟨b, off, none⟩) len c w from ⟨hl, .inr ⟨b, off, rfl, hlt, hz⟩⟩).keep fun k hk hs => hx.block k hs (by omega), i + 1, v, by omega, ?_⟩
    have e1 := Joins.block_setCell (i := 2) hb (.int .i64 v)
    have e2 := Joins.block_setCell (i := 1) e1 (.int .i64 (i + 1))
    show ((w.setCell ⟨c, 2, none⟩ (.int .i64 v)).setCell ⟨c, 1, none⟩ (.int .i64 (i + 1))).heap[c]? = _
    rw [e2]; rfl
  · refine (byte_out c a len cap i h w c0 c1 c2 f2 hi).mono fun e w' ⟨he, v, n, hw⟩ => ⟨he, ?_⟩
    subst hw
    have hx := (((Ext.refl c w).set 2 (.int .i64 v)).drewN n)
    refine ⟨hx, hk.keep fun k hk hs => hx.block k hs (by omega), i, v, h0, ?_⟩
    have e1 := Joins.block_setCell (i := 2) hb (.int .i64 v)
    show (w.setCell ⟨c, 2, none⟩ (.int .i64 v)).heap[c]? = _
    rw [e1]; rfl
end Go.Proofs.Ytgcegjgjegkahab
