/- What the draws of chapter 2 answer: some text of at most 5000 bytes; nothing that was there is written. Condition: the code's bytes can be read. -/
import Derived.Test.YtafpbcdgcgffeabGreatDoorZCur12
import Derived.RegionTactic
import Derived.BigRegion
import Derived.Deep.RegionWith
import Derived.BigQuiet
import Derived.Deep.QuietTactic
namespace Go.Proofs.YtafpbcdgcgffeabGreatDoor
open Go.ChangeShapes Go.WideShapes Go.ChangeAt Go.RowKit

theorem textsAt_alloc (w : World) (ss : List ByteArray) (t : TypeId) : TextsAt w.heap.size ss (w.alloc (.cells (ss.map Value.string).toArray t)) := by
  intro j hj
  rw [World.cell?_alloc_mark]
  simp [List.getElem?_map, List.getElem?_eq_getElem hj, List.getD_eq_getElem?_getD]

theorem textsAt_lit (w : World) (ss : List ByteArray) (cs : Array Value) (t : TypeId) (h : cs = (ss.map Value.string).toArray) : TextsAt w.heap.size ss (w.alloc (.cells cs t)) := by
  rw [h]; exact textsAt_alloc w ss t

theorem CurAt.alloc {c : Nat} {a : Option Addr} {len cap : Nat} {w : World} (h : CurAt c a len cap w) (o : Obj) : CurAt c a len cap (w.alloc o) :=
  h.keep (d := w.heap.size) ((Ext.refl _ w).alloc o) h.lt
theorem CurAt.below {c : Nat} {a : Option Addr} {len cap : Nat} {w w' : World} (h : CurAt c a len cap w) (hb : Below w.heap.size w w') : CurAt c a len cap w' :=
  h.keep (d := w.heap.size) (Ext.of_below hb (Nat.le_refl _)) h.lt

/-- How many bytes a text has. -/
def szOf : Value → Nat
  | .string s => s.size
  | _ => 0

set_option maxHeartbeats 1000000 in
theorem l1Once_any (c : Nat) (a : Option Addr) (len cap : Nat) (n : Int) (hn : n ≤ 9223372036854775807) (w : World) (hc : CurAt c a len cap w) :
    Calls Tryz.prog 26 #[.pointer (some ⟨c, 0, none⟩), .int .i64 n] w fun e w' => (∃ b : Bool, e = .returned (.bool b)) ∧ Ext c w w' ∧ CurAt c a len cap w' := by
  go_enter Tryz.func26, Tryz.ntmps26
  go_wp2_with fail
  refine (l1Below_any c a len cap n hn _ hc).mono ?_
  rintro e w1 ⟨⟨x, x0, _, x1, rfl⟩, hx, hcur⟩
  clear x1
  go_wp2
  go_ret
  exact ⟨⟨_, rfl⟩, hx, hcur⟩

set_option maxHeartbeats 2000000 in
set_option maxRecDepth 100000 in
theorem l10Programs_any (w : World) :
    Calls Tryz.prog 41 #[] w fun e w' => ∃ ss : List ByteArray, e = .returned (.slice (some ⟨w.heap.size, 0, none⟩) 15 15) ∧ ss.length = 15 ∧ (∀ s ∈ ss, s.size ≤ 300) ∧ w' = w.alloc (.cells (ss.map Value.string).toArray 9) := by
  go_enter Tryz.func41, Tryz.ntmps41
  go_wp2
  go_ret
  refine ⟨[_, _, _, _, _, _, _, _, _, _, _, _, _, _, _], rfl, rfl, ?_, rfl⟩
  decide

set_option maxHeartbeats 1000000 in
theorem l10DrawSource_any (c : Nat) (a : Option Addr) (len cap : Nat) (w : World) (hc : CurAt c a len cap w) :
    Calls Tryz.prog 19 #[.pointer (some ⟨c, 0, none⟩)] w fun e w' => (∃ s : ByteArray, s.size ≤ 300 ∧ e = .returned (.string s)) ∧ Ext c w w' ∧ CurAt c a len cap w' := by
  have hlt := hc.lt
  go_enter Tryz.func19, Tryz.ntmps19
  go_wp2_with fail
  refine (l10Programs_any _).mono ?_
  rintro e w1 ⟨ss, rfl, hl, hss, rfl⟩
  have HS : Hid (∀ s ∈ ss, s.size ≤ 300) := hss
  have HL : Hid (ss.length = 15) := hl
  clear hss hl
  go_wp2_with fail
  refine (l1Pick_any c a len cap w.heap.size ss _ (hc.alloc _) (by omega) 15 HL.out (by omega) (by omega) (textsAt_alloc w ss _)).mono ?_
  rintro e w2 ⟨⟨z, hz, rfl⟩, hx, hcur⟩
  have hz1 := HS.out z hz
  clear hz
  go_wp2
  go_ret
  exact ⟨⟨z, hz1, rfl⟩, ((Ext.refl c w).alloc _).trans hx, hcur⟩

def symPicks : List ByteArray := [⟨#[97]⟩, ⟨#[108, 97, 109, 98, 100, 97]⟩, ⟨#[45]⟩, ⟨#[45, 120]⟩, ⟨#[45, 49]⟩, ⟨#[49, 97]⟩, ⟨#[65]⟩, ⟨#[]⟩, ⟨#[46, 46, 46]⟩, ⟨#[95]⟩, ⟨#[97, 98, 99, 100, 101, 102, 103, 104, 105, 106, 107, 108, 109]⟩, ⟨#[112, 97, 105, 114, 63]⟩, ⟨#[60, 61]⟩]
def dentPicks : List ByteArray := [⟨#[40]⟩, ⟨#[41]⟩, ⟨#[32]⟩, ⟨#[65]⟩, ⟨#[45]⟩, ⟨#[49]⟩, ⟨#[120]⟩]
theorem symPicks_size : ∀ z ∈ symPicks, z.size ≤ 13 := by decide
theorem dentPicks_size : ∀ z ∈ dentPicks, z.size ≤ 1 := by decide

theorem size_dent (s z : ByteArray) (k : Nat) (hs : s.size ≤ 300) (hz : z.size ≤ 1) : ((s.extract 0 k ++ z) ++ s.extract k s.size).size ≤ 700 := by
  rw [ByteArray.size_append, ByteArray.size_append, ByteArray.size_extract, ByteArray.size_extract]; omega
theorem size_dent2 (s : ByteArray) (k m : Nat) (hs : s.size ≤ 300) : (s.extract 0 k ++ s.extract m s.size).size ≤ 700 := by
  rw [ByteArray.size_append, ByteArray.size_extract, ByteArray.size_extract]; omega

theorem ext_pick {c : Nat} {w5 w6 : World} {o : Obj} (hx : Ext c ((w5.alloc o).drew) w6) : Ext c w5 w6 :=
  ((Ext.refl c w5).alloc o).trans ⟨hx.os, hx.tape, hx.output, hx.size, hx.block⟩

set_option maxHeartbeats 2000000 in
theorem l3Dent_any (c : Nat) (a : Option Addr) (len cap : Nat) (s : ByteArray) (hs : s.size ≤ 300) (w : World) (hc : CurAt c a len cap w) :
    Calls Tryz.prog 18 #[.pointer (some ⟨c, 0, none⟩), .string s] w fun e w' => (∃ t : ByteArray, t.size ≤ 700 ∧ e = .returned (.string t)) ∧ Ext c w w' ∧ CurAt c a len cap w' := by
  go_enter Tryz.func18, Tryz.ntmps18
  go_wp2_with fail
  refine (l1Below_any c a len cap ((s.size : Int) + 1) (by omega) _ hc).mono ?_
  rintro e w4 ⟨⟨x, x0, _, x1, rfl⟩, hx4, hcur4⟩
  have hxl := x1 (by omega)
  clear x1
  go_wp2_with fail
  refine (l1Below_any c a len cap 6 (by omega) _ hcur4).mono ?_
  rintro e w5 ⟨⟨y, y0, _, y1, rfl⟩, hx5, hcur5⟩
  have hyl := y1 (by omega)
  clear y1
  have hX := hx4.trans hx5
  have hlt := hcur5.lt
  clear hx4 hx5 hcur4
  by_cases e0 : y = 0
  · subst e0
    go_wp2_with fail
    go_region_with (first | (go_at_call 40; refine (l1Pick_any c a len cap w5.heap.size dentPicks _ (by exact hcur5.alloc _) (by omega) 7 rfl (by omega) (by omega) (by exact textsAt_lit w5 dentPicks _ _ (by kernel_rfl))).mono ?_; rintro e w6 ⟨⟨z, hz, rfl⟩, hx6, hcur6⟩; have hz1 := dentPicks_size z hz; clear hz))
    all_goals
      go_wp2
      go_ret
      exact ⟨⟨_, size_dent s z x.toNat hs hz1, rfl⟩, hX.trans (ext_pick hx6), hcur6⟩
  · have e0' : (y == 0) = false := by simp [e0]
    by_cases e1 : y = 1
    · subst e1
      by_cases hxs : x < (s.size : Int)
      · go_wp2
        go_quiet (fail)
        go_wp2
        go_ret
        exact ⟨⟨_, size_dent2 s _ _ hs, rfl⟩, hX.drewN _, hcur5⟩
      · go_wp2
        go_ret
        exact ⟨⟨s, by omega, rfl⟩, hX, hcur5⟩
    · have e1' : (y == 1) = false := by simp [e1]
      by_cases e2 : y = 2
      · subst e2
        go_wp2
        go_ret
        exact ⟨⟨_, by rw [ByteArray.size_extract]; omega, rfl⟩, hX, hcur5⟩
      · have e2' : (y == 2) = false := by simp [e2]
        go_wp2
        go_ret
        exact ⟨⟨s, by omega, rfl⟩, hX, hcur5⟩

end Go.Proofs.YtafpbcdgcgffeabGreatDoor
