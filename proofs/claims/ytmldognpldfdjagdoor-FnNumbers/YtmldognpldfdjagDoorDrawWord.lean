/- What the draws of chapter 1 answer: some int, some text of at most 64 bytes; nothing that was there is written. Condition: the code's bytes can be read. -/
import Derived.Test.YtmldognpldfdjagDoorCur2
import Derived.Test.YtmldognpldfdjagDoorSpecDigits
import Derived.RegionTactic
import Derived.BigRegion
import Derived.Deep.RegionWith
import Derived.Lib.ItoaLen
namespace Go.Proofs.YtmldognpldfdjagDoor
open Go.ChangeShapes Go.WideShapes Go.ChangeAt Go.RowKit

theorem intsAt_alloc (w : World) (zs : List Int) (t : TypeId) : IntsAt w.heap.size zs (w.alloc (.cells (zs.map (Value.int .i64)).toArray t)) := by
  intro j hj
  rw [World.cell?_alloc_mark]
  simp [List.getElem?_map, List.getElem?_eq_getElem hj, List.getD_eq_getElem?_getD]
theorem textsAt_alloc (w : World) (ss : List ByteArray) (t : TypeId) : TextsAt w.heap.size ss (w.alloc (.cells (ss.map Value.string).toArray t)) := by
  intro j hj
  rw [World.cell?_alloc_mark]
  simp [List.getElem?_map, List.getElem?_eq_getElem hj, List.getD_eq_getElem?_getD]

theorem CurAt.alloc {c : Nat} {a : Option Addr} {len cap : Nat} {w : World} (h : CurAt c a len cap w) (o : Obj) : CurAt c a len cap (w.alloc o) :=
  h.keep (d := w.heap.size) ((Ext.refl _ w).alloc o) h.lt
theorem CurAt.below {c : Nat} {a : Option Addr} {len cap : Nat} {w w' : World} (h : CurAt c a len cap w) (hb : Below w.heap.size w w') : CurAt c a len cap w' :=
  h.keep (d := w.heap.size) (Ext.of_below hb (Nat.le_refl _)) h.lt

def anyInts : List Int := [0, 1, -1, 5, 1073741823, 1073741824, -1073741824, -1073741825, 9223372036854775807, -9223372036854775808]

set_option maxHeartbeats 1000000 in
theorem l1DrawAny_any (c : Nat) (a : Option Addr) (len cap : Nat) (w : World) (hc : CurAt c a len cap w) :
    Calls Tryd.prog 17 #[.pointer (some ⟨c, 0, none⟩)] w fun e w' => (∃ n : Int, -9223372036854775808 ≤ n ∧ n ≤ 9223372036854775807 ∧ e = .returned (.int .i64 n)) ∧ Ext c w w' ∧ CurAt c a len cap w' := by
  have hlt := hc.lt
  go_enter Tryd.func17, Tryd.ntmps17
  go_wp2_with fail
  refine (l1PickInt_any c a len cap w.heap.size anyInts (w.alloc (.cells (anyInts.map (Value.int .i64)).toArray 3)) (hc.alloc _) (by omega) 10 rfl (by omega) (by omega) (intsAt_alloc w anyInts _)).mono ?_
  rintro e w1 ⟨⟨z, hz, rfl⟩, hx, hcur⟩
  have hbd : ∀ z ∈ anyInts, -9223372036854775808 ≤ z ∧ z ≤ 9223372036854775807 := by decide
  have hzb := hbd z hz
  clear hbd hz
  go_wp2
  go_ret
  exact ⟨⟨z, hzb.1, hzb.2, rfl⟩, ((Ext.refl c w).alloc _).trans hx, hcur⟩

set_option maxHeartbeats 1000000 in
theorem drawDigits_any (a : Option Addr) (len cap : Nat) (w : World) (hc : CodeOk a len w.heap.size w) :
    Calls Tryd.prog 5 #[.slice a len cap] w fun e w' => (∃ n : Int, -9223372036854775808 ≤ n ∧ n ≤ 9223372036854775807 ∧ e = .returned (.int .i64 n)) ∧ Below w.heap.size w w' := by
  go_enter Tryd.func5, Tryd.ntmps5
  go_wp2_with fail
  refine (l1New_any a len cap w hc).mono ?_
  rintro e w1 ⟨rfl, hb, hcur, hs⟩
  go_wp2_with fail
  refine (l1DrawAny_any w.heap.size a len cap _ hcur).mono ?_
  rintro e w2 ⟨⟨n, n0, n1, rfl⟩, hx, hcur2⟩
  go_wp2
  go_ret
  exact ⟨⟨n, n0, n1, rfl⟩, hb.trans (hx.below (Nat.le_refl _) hb.size)⟩

set_option maxHeartbeats 1000000 in
theorem drawRound_any (a : Option Addr) (len cap : Nat) (w : World) (hc : CodeOk a len w.heap.size w) :
    Calls Tryd.prog 12 #[.slice a len cap] w fun e w' => (∃ n : Int, -9223372036854775808 ≤ n ∧ n ≤ 9223372036854775807 ∧ e = .returned (.int .i64 n)) ∧ Below w.heap.size w w' := by
  go_enter Tryd.func12, Tryd.ntmps12
  go_wp2_with fail
  refine (l1New_any a len cap w hc).mono ?_
  rintro e w1 ⟨rfl, hb, hcur, hs⟩
  go_wp2_with fail
  refine (l1DrawAny_any w.heap.size a len cap _ hcur).mono ?_
  rintro e w2 ⟨⟨n, n0, n1, rfl⟩, hx, hcur2⟩
  go_wp2
  go_ret
  exact ⟨⟨n, n0, n1, rfl⟩, hb.trans (hx.below (Nat.le_refl _) hb.size)⟩

set_option maxHeartbeats 1000000 in
theorem drawWordOk_any (a : Option Addr) (len cap : Nat) (w : World) (hc : CodeOk a len w.heap.size w) :
    Calls Tryd.prog 13 #[.slice a len cap] w fun e w' => (∃ n : Int, -9223372036854775808 ≤ n ∧ n ≤ 9223372036854775807 ∧ e = .returned (.int .i64 n)) ∧ Below w.heap.size w w' := by
  go_enter Tryd.func13, Tryd.ntmps13
  go_wp2_with fail
  refine (l1New_any a len cap w hc).mono ?_
  rintro e w1 ⟨rfl, hb, hcur, hs⟩
  go_wp2_with fail
  refine (l1DrawAny_any w.heap.size a len cap _ hcur).mono ?_
  rintro e w2 ⟨⟨n, n0, n1, rfl⟩, hx, hcur2⟩
  go_wp2
  go_ret
  exact ⟨⟨n, n0, n1, rfl⟩, hb.trans (hx.below (Nat.le_refl _) hb.size)⟩

def picks : List ByteArray := [⟨#[48]⟩, ⟨#[45]⟩, ⟨#[32]⟩, ⟨#[120]⟩, ⟨#[57]⟩]

theorem size_three (l : List UInt8) (z : ByteArray) (k : Nat) (hl : l.length ≤ 21) (hz : z.size ≤ 1) :
    (((⟨l.toArray⟩ : ByteArray).extract 0 k ++ z) ++ (⟨l.toArray⟩ : ByteArray).extract k l.length).size ≤ 64 := by
  rw [ByteArray.size_append, ByteArray.size_append, ByteArray.size_extract, ByteArray.size_extract]
  have : (⟨l.toArray⟩ : ByteArray).size = l.length := by show l.toArray.size = _; simp
  rw [this]; omega

theorem below_pick {c B : Nat} {w5 w6 : World} {o : Obj} (hx : Ext c ((w5.alloc o).drew) w6) (hc : c < w5.heap.size) (hB : B ≤ w5.heap.size) (hcB : B ≤ c := by omega) : Below B w5 w6 :=
  ((Below.refl B w5).alloc hB o).trans (show Below B (w5.alloc o) w6 from ⟨hx.os, hx.tape, hx.output, hx.size, fun k hk => hx.block k (by show k < (w5.alloc o).heap.size; simp; omega) (by omega)⟩)

theorem picks_size : ∀ z ∈ picks, z.size ≤ 1 := by decide

set_option maxHeartbeats 2000000 in
theorem drawNumber_any (a : Option Addr) (len cap : Nat) (w : World) (hc : CodeOk a len w.heap.size w) :
    Calls Tryd.prog 10 #[.slice a len cap] w fun e w' => (∃ s : ByteArray, s.size ≤ 64 ∧ e = .returned (.string s)) ∧ Below w.heap.size w w' := by
  go_enter Tryd.func10, Tryd.ntmps10
  go_wp2_with fail
  refine (l1New_any a len cap w hc).mono ?_
  rintro e w1 ⟨rfl, hb, hcur, hs⟩
  go_wp2_with fail
  refine (l1DrawAny_any w.heap.size a len cap _ hcur).mono ?_
  rintro e w2 ⟨⟨n, n0, n1, rfl⟩, hx2, hcur2⟩
  go_wp2_with fail
  refine (spec_digits n n0 n1 _).mono ?_
  rintro e w3 ⟨rfl, hb3⟩
  have hlen := Lib.itoa_length_le n n0 n1
  generalize Lib.itoa n = l at *
  have hcur3 := hcur2.below hb3
  go_wp2_with fail
  refine (l1Below_any w.heap.size a len cap ((l.length : Int) + 1) (by omega) _ hcur3).mono ?_
  rintro e w4 ⟨⟨x, x0, _, x1, rfl⟩, hx4, hcur4⟩
  have hxl := x1 (by omega)
  clear x1
  go_wp2_with fail
  refine (l1Below_any w.heap.size a len cap 5 (by omega) _ hcur4).mono ?_
  rintro e w5 ⟨⟨y, y0, _, y1, rfl⟩, hx5, hcur5⟩
  have hyl := y1 (by omega)
  clear y1
  have hB : Below w.heap.size w w5 := (((hb.trans (hx2.below (Nat.le_refl _) hb.size)).trans (hb3.mono (Nat.le_trans hb.size hx2.size))).trans (hx4.below (Nat.le_refl _) (Nat.le_trans hb.size (Nat.le_trans hx2.size hb3.size)))).trans (hx5.below (Nat.le_refl _) (Nat.le_trans hb.size (Nat.le_trans hx2.size (Nat.le_trans hb3.size hx4.size))))
  have hlt := hcur5.lt
  clear hx2 hx4 hx5 hb hb3 hcur hcur2 hcur3 hcur4 hs
  by_cases e0 : y = 0
  · subst e0
    go_wp2_with fail
    go_region_with (first | (go_at_call 23; refine (l1Pick_any w.heap.size a len cap w5.heap.size picks _ (by exact hcur5.alloc _) (by omega) 5 rfl (by omega) (by omega) (by exact textsAt_alloc w5 picks _)).mono ?_; rintro e w6 ⟨⟨z, hz, rfl⟩, hx6, hcur6⟩; have hz1 := picks_size z hz; clear hz))
    all_goals
      go_wp2
      go_ret
      exact ⟨⟨_, size_three l z x.toNat hlen hz1, rfl⟩, hB.trans (below_pick hx6 hcur5.lt hB.size)⟩
  · have e0' : (y == 0) = false := by simp [e0]
    by_cases e1 : y = 1
    · subst e1
      go_wp2
      go_ret
      exact ⟨⟨_, by simp; omega, rfl⟩, hB⟩
    · have e1' : (y == 1) = false := by simp [e1]
      go_wp2
      go_ret
      exact ⟨⟨_, by show l.toArray.size ≤ 64; simp; omega, rfl⟩, hB⟩
end Go.Proofs.YtmldognpldfdjagDoor
