/- What the draws of chapter 2 answer: some text of at most 5000 bytes; nothing that was there is written. Condition: the code's bytes can be read. -/
import Derived.Test.YtgbfflpdpfgnbaaGreatZG8DrawSet
import Derived.Test.YtgbfflpdpfgnbaaGreatZG3SpecStart
import Derived.Test.YtgbfflpdpfgnbaaGreatZG4IntsImpl
import Derived.Test.YtgbfflpdpfgnbaaGreatZG6StxP
import Derived.Test.YtgbfflpdpfgnbaaGreatZG1StxOwn
import Derived.RegionTactic
import Derived.BigRegion
import Derived.Deep.RegionWith
import Derived.BigQuiet
import Derived.Deep.QuietTactic
import Derived.Deep.AppendLies
import Derived.Deep.Cut
import Derived.Deep.RegionHeld3
namespace Go.Proofs.YtgbfflpdpfgnbaaGreat
open Go.ChangeShapes Go.WideShapes Go.ChangeAt Go.RowKit

theorem textsAt_alloc (w : World) (ss : List ByteArray) (t : TypeId) : TextsAt w.heap.size ss (w.alloc (.cells (ss.map Value.string).toArray t)) := by
  intro j hj
  rw [World.cell?_alloc_mark]
  simp [List.getElem?_map, List.getElem?_eq_getElem hj, List.getD_eq_getElem?_getD]

theorem textsAt_lit (w : World) (ss : List ByteArray) (cs : Array Value) (t : TypeId) (h : cs = (ss.map Value.string).toArray) : TextsAt w.heap.size ss (w.alloc (.cells cs t)) := by
  rw [h]; exact textsAt_alloc w ss t

theorem CurAt.alloc {c : Nat} {a : Option Addr} {len cap : Nat} {w : World} (h : CurAt c a len cap w) (o : Obj) : CurAt c a len cap (w.alloc o) :=
  h.keep (d := w.heap.size) ((Ext.refl _ w).alloc o) h.lt
theorem CurAt.below {c : Nat} {a : Option Addr} {len cap : Nat} {w w' : World} (h : CurAt c a len cap w) (hb : Below w.heap.size w w') : CurAt c a len cap w' :=
  h.keep (d := w.heap.size) (Ext.of_below hb (Nat.le_refl _)) h.lt

/-- How many bytes a text has. -/
def szOf : Value → Nat
  | .string s => s.size
  | _ => 0

set_option maxHeartbeats 1000000 in
theorem l1Once_any (c : Nat) (a : Option Addr) (len cap : Nat) (n : Int) (hn : n ≤ 9223372036854775807) (w : World) (hc : CurAt c a len cap w) :
    Calls Tryz.prog 34 #[.pointer (some ⟨c, 0, none⟩), .int .i64 n] w fun e w' => (∃ b : Bool, e = .returned (.bool b)) ∧ Ext c w w' ∧ CurAt c a len cap w' := by
  go_enter Tryz.func34, Tryz.ntmps34
  go_wp2_with fail
  refine (l1Below_any c a len cap n hn _ hc).mono ?_
  rintro e w1 ⟨⟨x, x0, _, x1, rfl⟩, hx, hcur⟩
  clear x1
  go_wp2
  go_ret
  exact ⟨⟨_, rfl⟩, hx, hcur⟩

set_option maxHeartbeats 2000000 in
set_option maxRecDepth 100000 in
theorem l10Programs_any (w : World) :
    Calls Tryz.prog 89 #[] w fun e w' => ∃ ss : List ByteArray, e = .returned (.slice (some ⟨w.heap.size, 0, none⟩) 15 15) ∧ ss.length = 15 ∧ (∀ s ∈ ss, s.size ≤ 300) ∧ w' = w.alloc (.cells (ss.map Value.string).toArray 9) := by
  go_enter Tryz.func89, Tryz.ntmps89
  go_wp2
  go_ret
  refine ⟨[_, _, _, _, _, _, _, _, _, _, _, _, _, _, _], rfl, rfl, ?_, rfl⟩
  decide

set_option maxHeartbeats 1000000 in
theorem l10DrawSource_any (c : Nat) (a : Option Addr) (len cap : Nat) (w : World) (hc : CurAt c a len cap w) :
    Calls Tryz.prog 74 #[.pointer (some ⟨c, 0, none⟩)] w fun e w' => (∃ s : ByteArray, s.size ≤ 300 ∧ e = .returned (.string s)) ∧ Ext c w w' ∧ CurAt c a len cap w' := by
  have hlt := hc.lt
  go_enter Tryz.func74, Tryz.ntmps74
  go_wp2_with fail
  refine (l10Programs_any _).mono ?_
  rintro e w1 ⟨ss, rfl, hl, hss, rfl⟩
  have HS : Hid (∀ s ∈ ss, s.size ≤ 300) := hss
  have HL : Hid (ss.length = 15) := hl
  clear hss hl
  go_wp2_with fail
  refine (l1Pick_any c a len cap w.heap.size ss _ (hc.alloc _) (by omega) 15 HL.out (by omega) (by omega) (textsAt_alloc w ss _)).mono ?_
  rintro e w2 ⟨⟨z, hz, rfl⟩, hx, hcur⟩
  have hz1 := HS.out z hz
  clear hz
  go_wp2
  go_ret
  exact ⟨⟨z, hz1, rfl⟩, ((Ext.refl c w).alloc _).trans hx, hcur⟩

def symPicks : List ByteArray := [⟨#[97]⟩, ⟨#[108, 97, 109, 98, 100, 97]⟩, ⟨#[45]⟩, ⟨#[45, 120]⟩, ⟨#[45, 49]⟩, ⟨#[49, 97]⟩, ⟨#[65]⟩, ⟨#[]⟩, ⟨#[46, 46, 46]⟩, ⟨#[95]⟩, ⟨#[97, 98, 99, 100, 101, 102, 103, 104, 105, 106, 107, 108, 109]⟩, ⟨#[112, 97, 105, 114, 63]⟩, ⟨#[60, 61]⟩]
def dentPicks : List ByteArray := [⟨#[40]⟩, ⟨#[41]⟩, ⟨#[32]⟩, ⟨#[65]⟩, ⟨#[45]⟩, ⟨#[49]⟩, ⟨#[120]⟩]
theorem symPicks_size : ∀ z ∈ symPicks, z.size ≤ 13 := by decide
theorem dentPicks_size : ∀ z ∈ dentPicks, z.size ≤ 1 := by decide

theorem size_dent (s z : ByteArray) (k : Nat) (hs : s.size ≤ 300) (hz : z.size ≤ 1) : ((s.extract 0 k ++ z) ++ s.extract k s.size).size ≤ 700 := by
  rw [ByteArray.size_append, ByteArray.size_append, ByteArray.size_extract, ByteArray.size_extract]; omega
theorem size_dent2 (s : ByteArray) (k m : Nat) (hs : s.size ≤ 300) : (s.extract 0 k ++ s.extract m s.size).size ≤ 700 := by
  rw [ByteArray.size_append, ByteArray.size_extract, ByteArray.size_extract]; omega

theorem ext_pick {c : Nat} {w5 w6 : World} {o : Obj} (hx : Ext c ((w5.alloc o).drew) w6) : Ext c w5 w6 :=
  ((Ext.refl c w5).alloc o).trans ⟨hx.os, hx.tape, hx.output, hx.size, hx.block⟩

end Go.Proofs.YtgbfflpdpfgnbaaGreat

/- spec.l5Mix: the node, its sets drawn anew now and then. Condition: at most 2^20 of it, no set of more than 8. -/
namespace Go.Proofs.YtgbfflpdpfgnbaaGreat
open Go.ChangeShapes Go.WideShapes Go.ChangeAt Go.RowKit

def MixAt (c : Nat) (ca : Option Addr) (cl cc : Nat) (t : X) : Prop := ∀ (w : World) (sv v : Value), CurAt c ca cl cc w → t.At (c + 1) w sv v → t.weight ≤ 1048576 → t.SetsLe 8 → Calls Tryz.prog 56 #[.pointer (some ⟨c, 0, none⟩), .agg #[.int .i64 t.op, .int .i64 t.at_, .int .i64 t.n, .string t.s, sv, v]] w fun e w' =>
  ∃ (t' : X) (su u : Value) (S : List Nat), e = .returned (.agg #[.int .i64 t.op, .int .i64 t.at_, .int .i64 t.n, .string t.s, su, u]) ∧ (Ext c w w' ∧ CurAt c ca cl cc w') ∧ XOwn w' t' su u S ∧ S.Nodup ∧ (∀ x ∈ S, w.heap.size ≤ x) ∧ datX t' = datX t ∧ t'.SetsLe 8

theorem mix_enter (vs : Array Value) (w : World) : (callFunc 56 vs).run Tryz.prog w = .ok (.enter 56 vs) w := by kernel_rfl

set_option maxRecDepth 100000 in
set_option maxHeartbeats 4000000 in
theorem mix_all (c : Nat) (ca : Option Addr) (cl cc : Nat) (t : X) : MixAt c ca cl cc t := by
  induction t with
  | no => intro w sv v _ h; exact h.elim
  | mk op a n s set len kid ih =>
    intro w sv v hcur hin hwt hsle
    have HCU : Hid (CurAt c ca cl cc w) := hcur
    have HCW : Hid (c < w.heap.size) := hcur.lt
    have HLE : Hid (set.length ≤ 8 ∧ ∀ i, i < len → (kid i).SetsLe 8) := hsle
    clear hcur hsle
    obtain ⟨i0, hi0, hz0, hz1, hz2⟩ := info_parts stx_info
    obtain ⟨iI, hiI, hzI0, hzI1, hzI2⟩ := info_parts int_info
    have hsl : XsAt (c + 1) w len kid v := hin.xs
    have hss : SetB (c + 1) w sv set := hin.sets
    have HPL : Hid (s.size ≤ maxLen ∧ -9223372036854775808 ≤ n ∧ n ≤ 9223372036854775807) := ⟨hin.size, hin.num⟩
    obtain ⟨p, cap, rfl, -, hat⟩ := XsB.atB hsl
    obtain ⟨ps, cps, hsv⟩ := hss.shape
    subst hsv
    have hwe : (X.mk op a n s set len kid).weight = s.size + (set.length + (len + sumX (fun i => (kid i).weight) len)) := rfl
    have hlen : len ≤ 1048576 := by omega
    have hsl2 : set.length ≤ 1048576 := by omega
    have HRD : Hid (Rd w (.slice ps set.length cps) set) := hss.rd
    have IH : Hid (∀ i, i < len → ∀ (w : World) (sv v : Value), CurAt c ca cl cc w → (kid i).At (c + 1) w sv v → Calls Tryz.prog 56 #[.pointer (some ⟨c, 0, none⟩), .agg #[.int .i64 (kid i).op, .int .i64 (kid i).at_, .int .i64 (kid i).n, .string (kid i).s, sv, v]] w fun e w' =>
      ∃ (t' : X) (su u : Value) (S : List Nat), e = .returned (.agg #[.int .i64 (kid i).op, .int .i64 (kid i).at_, .int .i64 (kid i).n, .string (kid i).s, su, u]) ∧ (Ext c w w' ∧ CurAt c ca cl cc w') ∧ XOwn w' t' su u S ∧ S.Nodup ∧ (∀ x ∈ S, w.heap.size ≤ x) ∧ datX t' = datX (kid i) ∧ t'.SetsLe 8) := fun i hi w sv v hc h => ih i w sv v hc h (by
        have h1 := sumX_at (fun i => (kid i).weight) i len hi
        omega) (HLE.out.2 i hi)
    have HAT : Hid (∀ i, i < len → ∃ b o su u, p = some ⟨b, o, none⟩ ∧ c + 1 ≤ b ∧ Head6 w b (o + i * 6) (kid i) su u ∧ (kid i).At (c + 1) w su u) := hat
    simp only [X.op, X.at_, X.n, X.s]
    clear hin hsl ih hat hwe hwt hss
    have e0 : ((w.alloc (.cells #[.int .i64 op, .int .i64 a, .int .i64 n, .string s, .slice ps set.length cps, .slice p len cap] 32)).alloc (.cells #[.int .i64 0, .int .i64 0, .int .i64 0, .string ⟨#[]⟩, .slice none 0 0, .slice none 0 0] 32)).heap.size = w.heap.size + 2 := by simp
    have e1 : ∀ ob, (((w.alloc (.cells #[.int .i64 op, .int .i64 a, .int .i64 n, .string s, .slice ps set.length cps, .slice p len cap] 32)).alloc (.cells #[.int .i64 0, .int .i64 0, .int .i64 0, .string ⟨#[]⟩, .slice none 0 0, .slice none 0 0] 32)).alloc ob).heap.size = w.heap.size + 1 + 1 + 1 := fun ob => by simp
    have hb0 : Below w.heap.size w ((w.alloc (.cells #[.int .i64 op, .int .i64 a, .int .i64 n, .string s, .slice ps set.length cps, .slice p len cap] 32)).alloc (.cells #[.int .i64 0, .int .i64 0, .int .i64 0, .string ⟨#[]⟩, .slice none 0 0, .slice none 0 0] 32)) := (newx w _).trans ((newx _ _).mono (by simp))
    have hbA : Below ((w.alloc (.cells #[.int .i64 op, .int .i64 a, .int .i64 n, .string s, .slice ps set.length cps, .slice p len cap] 32)).alloc (.cells #[.int .i64 0, .int .i64 0, .int .i64 0, .string ⟨#[]⟩, .slice none 0 0, .slice none 0 0] 32)).heap.size ((w.alloc (.cells #[.int .i64 op, .int .i64 a, .int .i64 n, .string s, .slice ps set.length cps, .slice p len cap] 32)).alloc (.cells #[.int .i64 0, .int .i64 0, .int .i64 0, .string ⟨#[]⟩, .slice none 0 0, .slice none 0 0] 32)) ((((w.alloc (.cells #[.int .i64 op, .int .i64 a, .int .i64 n, .string s, .slice ps set.length cps, .slice p len cap] 32)).alloc (.cells #[.int .i64 0, .int .i64 0, .int .i64 0, .string ⟨#[]⟩, .slice none 0 0, .slice none 0 0] 32)).alloc (.cells #[] 3)).drew) := (newx _ _).drew
    have HOA : Hid (((((w.alloc (.cells #[.int .i64 op, .int .i64 a, .int .i64 n, .string s, .slice ps set.length cps, .slice p len cap] 32)).alloc (.cells #[.int .i64 0, .int .i64 0, .int .i64 0, .string ⟨#[]⟩, .slice none 0 0, .slice none 0 0] 32)).alloc (.cells #[] 3)).drew).ownsRow (w.heap.size + 2) 3 1 (.slice (some ⟨w.heap.size + 1 + 1, 0, none⟩) 0 0) 0 [] ∧ (ps = none → set.length = 0 ∧ cps = 0) ∧ ∀ ad, ps = some ad → ∀ j u, (set.map (Value.int .i64))[j]? = some u → ((((w.alloc (.cells #[.int .i64 op, .int .i64 a, .int .i64 n, .string s, .slice ps set.length cps, .slice p len cap] 32)).alloc (.cells #[.int .i64 0, .int .i64 0, .int .i64 0, .string ⟨#[]⟩, .slice none 0 0, .slice none 0 0] 32)).alloc (.cells #[] 3)).drew).cell? (ad.add j) = some u) := by
      have h1 : ((((w.alloc (.cells #[.int .i64 op, .int .i64 a, .int .i64 n, .string s, .slice ps set.length cps, .slice p len cap] 32)).alloc (.cells #[.int .i64 0, .int .i64 0, .int .i64 0, .string ⟨#[]⟩, .slice none 0 0, .slice none 0 0] 32)).alloc (.cells #[] 3)).drew).heap[w.heap.size + 1 + 1]? = some (.cells #[] 3 (0, 0)) := by
        have h2 := heap_alloc_new ((w.alloc (.cells #[.int .i64 op, .int .i64 a, .int .i64 n, .string s, .slice ps set.length cps, .slice p len cap] 32)).alloc (.cells #[.int .i64 0, .int .i64 0, .int .i64 0, .string ⟨#[]⟩, .slice none 0 0, .slice none 0 0] 32)) (.cells #[] 3)
        rw [e0] at h2
        exact h2
      exact ⟨own_empty h1 (by omega), (HRD.out.below (hb0.trans (hbA.mono (by omega)))).src⟩
    have HBA : Hid (Below ((w.alloc (.cells #[.int .i64 op, .int .i64 a, .int .i64 n, .string s, .slice ps set.length cps, .slice p len cap] 32)).alloc (.cells #[.int .i64 0, .int .i64 0, .int .i64 0, .string ⟨#[]⟩, .slice none 0 0, .slice none 0 0] 32)).heap.size ((w.alloc (.cells #[.int .i64 op, .int .i64 a, .int .i64 n, .string s, .slice ps set.length cps, .slice p len cap] 32)).alloc (.cells #[.int .i64 0, .int .i64 0, .int .i64 0, .string ⟨#[]⟩, .slice none 0 0, .slice none 0 0] 32)) ((((w.alloc (.cells #[.int .i64 op, .int .i64 a, .int .i64 n, .string s, .slice ps set.length cps, .slice p len cap] 32)).alloc (.cells #[.int .i64 0, .int .i64 0, .int .i64 0, .string ⟨#[]⟩, .slice none 0 0, .slice none 0 0] 32)).alloc (.cells #[] 3)).drew) ∧ ((w.alloc (.cells #[.int .i64 op, .int .i64 a, .int .i64 n, .string s, .slice ps set.length cps, .slice p len cap] 32)).alloc (.cells #[.int .i64 0, .int .i64 0, .int .i64 0, .string ⟨#[]⟩, .slice none 0 0, .slice none 0 0] 32)).heap.size ≤ w.heap.size + 1 + 1) := ⟨hbA, by rw [e0]; omega⟩
    have hbB : Below ((w.alloc (.cells #[.int .i64 op, .int .i64 a, .int .i64 n, .string s, .slice ps set.length cps, .slice p len cap] 32)).alloc (.cells #[.int .i64 0, .int .i64 0, .int .i64 0, .string ⟨#[]⟩, .slice none 0 0, .slice none 0 0] 32)).heap.size ((w.alloc (.cells #[.int .i64 op, .int .i64 a, .int .i64 n, .string s, .slice ps set.length cps, .slice p len cap] 32)).alloc (.cells #[.int .i64 0, .int .i64 0, .int .i64 0, .string ⟨#[]⟩, .slice none 0 0, .slice none 0 0] 32)) (((((w.alloc (.cells #[.int .i64 op, .int .i64 a, .int .i64 n, .string s, .slice ps set.length cps, .slice p len cap] 32)).alloc (.cells #[.int .i64 0, .int .i64 0, .int .i64 0, .string ⟨#[]⟩, .slice none 0 0, .slice none 0 0] 32)).alloc (.cells #[.int .i64 0, .int .i64 0, .int .i64 0, .string ⟨#[]⟩, .slice none 0 0, .slice none 0 0] 32)).alloc (.cells #[] 3)).drew) := ((newx _ _).trans ((newx _ _).mono (by rw [e1]; omega))).drew
    have HOB : Hid ((((((w.alloc (.cells #[.int .i64 op, .int .i64 a, .int .i64 n, .string s, .slice ps set.length cps, .slice p len cap] 32)).alloc (.cells #[.int .i64 0, .int .i64 0, .int .i64 0, .string ⟨#[]⟩, .slice none 0 0, .slice none 0 0] 32)).alloc (.cells #[.int .i64 0, .int .i64 0, .int .i64 0, .string ⟨#[]⟩, .slice none 0 0, .slice none 0 0] 32)).alloc (.cells #[] 3)).drew).ownsRow (w.heap.size + 2) 3 1 (.slice (some ⟨w.heap.size + 1 + 1 + 1, 0, none⟩) 0 0) 0 [] ∧ (ps = none → set.length = 0 ∧ cps = 0) ∧ ∀ ad, ps = some ad → ∀ j u, (set.map (Value.int .i64))[j]? = some u → (((((w.alloc (.cells #[.int .i64 op, .int .i64 a, .int .i64 n, .string s, .slice ps set.length cps, .slice p len cap] 32)).alloc (.cells #[.int .i64 0, .int .i64 0, .int .i64 0, .string ⟨#[]⟩, .slice none 0 0, .slice none 0 0] 32)).alloc (.cells #[.int .i64 0, .int .i64 0, .int .i64 0, .string ⟨#[]⟩, .slice none 0 0, .slice none 0 0] 32)).alloc (.cells #[] 3)).drew).cell? (ad.add j) = some u) := by
      have h1 : (((((w.alloc (.cells #[.int .i64 op, .int .i64 a, .int .i64 n, .string s, .slice ps set.length cps, .slice p len cap] 32)).alloc (.cells #[.int .i64 0, .int .i64 0, .int .i64 0, .string ⟨#[]⟩, .slice none 0 0, .slice none 0 0] 32)).alloc (.cells #[.int .i64 0, .int .i64 0, .int .i64 0, .string ⟨#[]⟩, .slice none 0 0, .slice none 0 0] 32)).alloc (.cells #[] 3)).drew).heap[w.heap.size + 1 + 1 + 1]? = some (.cells #[] 3 (0, 0)) := by
        have h2 := heap_alloc_new (((w.alloc (.cells #[.int .i64 op, .int .i64 a, .int .i64 n, .string s, .slice ps set.length cps, .slice p len cap] 32)).alloc (.cells #[.int .i64 0, .int .i64 0, .int .i64 0, .string ⟨#[]⟩, .slice none 0 0, .slice none 0 0] 32)).alloc (.cells #[.int .i64 0, .int .i64 0, .int .i64 0, .string ⟨#[]⟩, .slice none 0 0, .slice none 0 0] 32)) (.cells #[] 3)
        rw [e1] at h2
        exact h2
      exact ⟨own_empty h1 (by omega), (HRD.out.below (hb0.trans (hbB.mono (by omega)))).src⟩
    have HBB : Hid (Below ((w.alloc (.cells #[.int .i64 op, .int .i64 a, .int .i64 n, .string s, .slice ps set.length cps, .slice p len cap] 32)).alloc (.cells #[.int .i64 0, .int .i64 0, .int .i64 0, .string ⟨#[]⟩, .slice none 0 0, .slice none 0 0] 32)).heap.size ((w.alloc (.cells #[.int .i64 op, .int .i64 a, .int .i64 n, .string s, .slice ps set.length cps, .slice p len cap] 32)).alloc (.cells #[.int .i64 0, .int .i64 0, .int .i64 0, .string ⟨#[]⟩, .slice none 0 0, .slice none 0 0] 32)) (((((w.alloc (.cells #[.int .i64 op, .int .i64 a, .int .i64 n, .string s, .slice ps set.length cps, .slice p len cap] 32)).alloc (.cells #[.int .i64 0, .int .i64 0, .int .i64 0, .string ⟨#[]⟩, .slice none 0 0, .slice none 0 0] 32)).alloc (.cells #[.int .i64 0, .int .i64 0, .int .i64 0, .string ⟨#[]⟩, .slice none 0 0, .slice none 0 0] 32)).alloc (.cells #[] 3)).drew) ∧ ((w.alloc (.cells #[.int .i64 op, .int .i64 a, .int .i64 n, .string s, .slice ps set.length cps, .slice p len cap] 32)).alloc (.cells #[.int .i64 0, .int .i64 0, .int .i64 0, .string ⟨#[]⟩, .slice none 0 0, .slice none 0 0] 32)).heap.size ≤ w.heap.size + 1 + 1 + 1) := ⟨hbB, by rw [e0]; omega⟩
    have hbC : Below ((w.alloc (.cells #[.int .i64 op, .int .i64 a, .int .i64 n, .string s, .slice ps set.length cps, .slice p len cap] 32)).alloc (.cells #[.int .i64 0, .int .i64 0, .int .i64 0, .string ⟨#[]⟩, .slice none 0 0, .slice none 0 0] 32)).heap.size ((w.alloc (.cells #[.int .i64 op, .int .i64 a, .int .i64 n, .string s, .slice ps set.length cps, .slice p len cap] 32)).alloc (.cells #[.int .i64 0, .int .i64 0, .int .i64 0, .string ⟨#[]⟩, .slice none 0 0, .slice none 0 0] 32)) (((((w.alloc (.cells #[.int .i64 op, .int .i64 a, .int .i64 n, .string s, .slice ps set.length cps, .slice p len cap] 32)).alloc (.cells #[.int .i64 0, .int .i64 0, .int .i64 0, .string ⟨#[]⟩, .slice none 0 0, .slice none 0 0] 32)).alloc (.cells #[] 3)).alloc (.cells #[.int .i64 0, .int .i64 0, .int .i64 0, .string ⟨#[]⟩, .slice none 0 0, .slice none 0 0] 32)).drew) := ((newx _ _).trans ((newx _ _).mono (by rw [e1]; omega))).drew
    have HOC : Hid ((((((w.alloc (.cells #[.int .i64 op, .int .i64 a, .int .i64 n, .string s, .slice ps set.length cps, .slice p len cap] 32)).alloc (.cells #[.int .i64 0, .int .i64 0, .int .i64 0, .string ⟨#[]⟩, .slice none 0 0, .slice none 0 0] 32)).alloc (.cells #[] 3)).alloc (.cells #[.int .i64 0, .int .i64 0, .int .i64 0, .string ⟨#[]⟩, .slice none 0 0, .slice none 0 0] 32)).drew).ownsRow (w.heap.size + 2) 3 1 (.slice (some ⟨w.heap.size + 1 + 1, 0, none⟩) 0 0) 0 [] ∧ (ps = none → set.length = 0 ∧ cps = 0) ∧ ∀ ad, ps = some ad → ∀ j u, (set.map (Value.int .i64))[j]? = some u → (((((w.alloc (.cells #[.int .i64 op, .int .i64 a, .int .i64 n, .string s, .slice ps set.length cps, .slice p len cap] 32)).alloc (.cells #[.int .i64 0, .int .i64 0, .int .i64 0, .string ⟨#[]⟩, .slice none 0 0, .slice none 0 0] 32)).alloc (.cells #[] 3)).alloc (.cells #[.int .i64 0, .int .i64 0, .int .i64 0, .string ⟨#[]⟩, .slice none 0 0, .slice none 0 0] 32)).drew).cell? (ad.add j) = some u) := by
      have h1 : (((((w.alloc (.cells #[.int .i64 op, .int .i64 a, .int .i64 n, .string s, .slice ps set.length cps, .slice p len cap] 32)).alloc (.cells #[.int .i64 0, .int .i64 0, .int .i64 0, .string ⟨#[]⟩, .slice none 0 0, .slice none 0 0] 32)).alloc (.cells #[] 3)).alloc (.cells #[.int .i64 0, .int .i64 0, .int .i64 0, .string ⟨#[]⟩, .slice none 0 0, .slice none 0 0] 32)).drew).heap[w.heap.size + 1 + 1]? = some (.cells #[] 3 (0, 0)) := by
        have h2 := heap_alloc_new ((w.alloc (.cells #[.int .i64 op, .int .i64 a, .int .i64 n, .string s, .slice ps set.length cps, .slice p len cap] 32)).alloc (.cells #[.int .i64 0, .int .i64 0, .int .i64 0, .string ⟨#[]⟩, .slice none 0 0, .slice none 0 0] 32)) (.cells #[] 3)
        rw [e0] at h2
        exact (Below.heap_alloc _ _ _ (by rw [e1]; omega)).trans h2
      exact ⟨own_empty h1 (by omega), (HRD.out.below (hb0.trans (hbC.mono (by omega)))).src⟩
    have HBC : Hid (Below ((w.alloc (.cells #[.int .i64 op, .int .i64 a, .int .i64 n, .string s, .slice ps set.length cps, .slice p len cap] 32)).alloc (.cells #[.int .i64 0, .int .i64 0, .int .i64 0, .string ⟨#[]⟩, .slice none 0 0, .slice none 0 0] 32)).heap.size ((w.alloc (.cells #[.int .i64 op, .int .i64 a, .int .i64 n, .string s, .slice ps set.length cps, .slice p len cap] 32)).alloc (.cells #[.int .i64 0, .int .i64 0, .int .i64 0, .string ⟨#[]⟩, .slice none 0 0, .slice none 0 0] 32)) (((((w.alloc (.cells #[.int .i64 op, .int .i64 a, .int .i64 n, .string s, .slice ps set.length cps, .slice p len cap] 32)).alloc (.cells #[.int .i64 0, .int .i64 0, .int .i64 0, .string ⟨#[]⟩, .slice none 0 0, .slice none 0 0] 32)).alloc (.cells #[] 3)).alloc (.cells #[.int .i64 0, .int .i64 0, .int .i64 0, .string ⟨#[]⟩, .slice none 0 0, .slice none 0 0] 32)).drew) ∧ ((w.alloc (.cells #[.int .i64 op, .int .i64 a, .int .i64 n, .string s, .slice ps set.length cps, .slice p len cap] 32)).alloc (.cells #[.int .i64 0, .int .i64 0, .int .i64 0, .string ⟨#[]⟩, .slice none 0 0, .slice none 0 0] 32)).heap.size ≤ w.heap.size + 1 + 1) := ⟨hbC, by rw [e0]; omega⟩
    have H6B : Hid (Six (((((w.alloc (.cells #[.int .i64 op, .int .i64 a, .int .i64 n, .string s, .slice ps set.length cps, .slice p len cap] 32)).alloc (.cells #[.int .i64 0, .int .i64 0, .int .i64 0, .string ⟨#[]⟩, .slice none 0 0, .slice none 0 0] 32)).alloc (.cells #[.int .i64 0, .int .i64 0, .int .i64 0, .string ⟨#[]⟩, .slice none 0 0, .slice none 0 0] 32)).alloc (.cells #[] 3)).drew) (w.heap.size + 1 + 1) 0 0 0 ⟨#[]⟩ (.slice none 0 0) (.slice none 0 0) 32) := by
      have h2 := heap_alloc_new ((w.alloc (.cells #[.int .i64 op, .int .i64 a, .int .i64 n, .string s, .slice ps set.length cps, .slice p len cap] 32)).alloc (.cells #[.int .i64 0, .int .i64 0, .int .i64 0, .string ⟨#[]⟩, .slice none 0 0, .slice none 0 0] 32)) (.cells #[.int .i64 0, .int .i64 0, .int .i64 0, .string ⟨#[]⟩, .slice none 0 0, .slice none 0 0] 32)
      rw [e0] at h2
      exact (Below.heap_alloc _ _ _ (by rw [e1]; omega)).trans h2
    have H6C : Hid (Six (((((w.alloc (.cells #[.int .i64 op, .int .i64 a, .int .i64 n, .string s, .slice ps set.length cps, .slice p len cap] 32)).alloc (.cells #[.int .i64 0, .int .i64 0, .int .i64 0, .string ⟨#[]⟩, .slice none 0 0, .slice none 0 0] 32)).alloc (.cells #[] 3)).alloc (.cells #[.int .i64 0, .int .i64 0, .int .i64 0, .string ⟨#[]⟩, .slice none 0 0, .slice none 0 0] 32)).drew) (w.heap.size + 1 + 1 + 1) 0 0 0 ⟨#[]⟩ (.slice none 0 0) (.slice none 0 0) 32) := by
      have h2 := heap_alloc_new (((w.alloc (.cells #[.int .i64 op, .int .i64 a, .int .i64 n, .string s, .slice ps set.length cps, .slice p len cap] 32)).alloc (.cells #[.int .i64 0, .int .i64 0, .int .i64 0, .string ⟨#[]⟩, .slice none 0 0, .slice none 0 0] 32)).alloc (.cells #[] 3)) (.cells #[.int .i64 0, .int .i64 0, .int .i64 0, .string ⟨#[]⟩, .slice none 0 0, .slice none 0 0] 32)
      rw [e1] at h2
      exact h2
    have HA6 : Hid (Six ((w.alloc (.cells #[.int .i64 op, .int .i64 a, .int .i64 n, .string s, .slice ps set.length cps, .slice p len cap] 32)).alloc (.cells #[.int .i64 0, .int .i64 0, .int .i64 0, .string ⟨#[]⟩, .slice none 0 0, .slice none 0 0] 32)) w.heap.size op a n s (.slice ps set.length cps) (.slice p len cap) 32) := (Below.heap_alloc _ _ _ (by simp)).trans (heap_alloc_new w _)
    have HLM : Hid ((set.map (Value.int .i64)).length = set.length * 1) := by show _ = _; simp
    have HL1 : Hid (0 + set.length ≤ maxLen) := by show _ ≤ _; unfold maxLen; omega
    have HL2 : Hid ((0 + set.length) * 8 ≤ 140737488355328) := by show _ ≤ _; omega
    have HSZA : Hid (w.heap.size + 2 ≤ ((((w.alloc (.cells #[.int .i64 op, .int .i64 a, .int .i64 n, .string s, .slice ps set.length cps, .slice p len cap] 32)).alloc (.cells #[.int .i64 0, .int .i64 0, .int .i64 0, .string ⟨#[]⟩, .slice none 0 0, .slice none 0 0] 32)).alloc (.cells #[] 3)).drew).heap.size) := by show _ ≤ _; simp
    have HSZB : Hid (w.heap.size + 2 ≤ (((((w.alloc (.cells #[.int .i64 op, .int .i64 a, .int .i64 n, .string s, .slice ps set.length cps, .slice p len cap] 32)).alloc (.cells #[.int .i64 0, .int .i64 0, .int .i64 0, .string ⟨#[]⟩, .slice none 0 0, .slice none 0 0] 32)).alloc (.cells #[.int .i64 0, .int .i64 0, .int .i64 0, .string ⟨#[]⟩, .slice none 0 0, .slice none 0 0] 32)).alloc (.cells #[] 3)).drew).heap.size) := by show _ ≤ _; simp
    have HSZC : Hid (w.heap.size + 2 ≤ (((((w.alloc (.cells #[.int .i64 op, .int .i64 a, .int .i64 n, .string s, .slice ps set.length cps, .slice p len cap] 32)).alloc (.cells #[.int .i64 0, .int .i64 0, .int .i64 0, .string ⟨#[]⟩, .slice none 0 0, .slice none 0 0] 32)).alloc (.cells #[] 3)).alloc (.cells #[.int .i64 0, .int .i64 0, .int .i64 0, .string ⟨#[]⟩, .slice none 0 0, .slice none 0 0] 32)).drew).heap.size) := by show _ ≤ _; simp
    clear hbA hbB hbC hb0 e0 e1
    go_enter Tryz.func56, Tryz.ntmps56
    go_upto_region 1 with fail
    go_cut [5] from 7 (fun v5 wx => ∃ (O B : Nat) (sv : Value), v5 = .pointer (some ⟨O, 0, none⟩) ∧ XLoop [] w wx B w.heap.size (w.heap.size + 1) O (.cells #[.int .i64 op, .int .i64 a, .int .i64 n, .string s, .slice ps set.length cps, .slice p len cap] 32) op a n s set sv kid 0 (.slice none 0 0) [] [])
    case first =>
      go_region_held3 (fun w' => w'.cell? ⟨w.heap.size, 0, none⟩ = some (.int .i64 op) ∧ w'.cell? ⟨w.heap.size, 1, none⟩ = some (.int .i64 a) ∧ w'.cell? ⟨w.heap.size, 2, none⟩ = some (.int .i64 n) ∧ w'.cell? ⟨w.heap.size, 3, none⟩ = some (.string s) ∧ w'.cell? ⟨w.heap.size, 4, none⟩ = some (.slice ps set.length cps)) (first | go_keep | (with_reducible exact hS4) | (with_reducible exact hSP)) (first
        | (refine step_append_any rfl (.tmp 15) (.tmp 17) 27 rfl (w.heap.size + 2) 3 iI (.int .i64 0) 1 8 Tryz.underlying27 hiI hzI0 hzI1 hzI2 rfl Nat.one_pos (.slice (some ⟨w.heap.size + 1 + 1, 0, none⟩) 0 0) 0 [] rfl ?_ ps set.length cps (set.map (Value.int .i64)) rfl HLM.out HOA.out.2.1 ?_ (ints_cells set) HL1.out HL2.out ?_ ?_; (with_reducible exact HOA.out.1); (with_reducible exact HOA.out.2.2); exact HSZA.out; intro v' w4 hown4 hg4; have hR := own_grown HBA.out.1 HBA.out.2 hown4.out hg4.out; obtain ⟨pv, cv, hv⟩ := own_shape hR.1; subst hv; have hA4 := HA6.out.below hR.2; have hS4 := five_of hA4; clear hA4; have HEND : Hid (∃ (O B : Nat) (sv : Value), Value.pointer (some ⟨w4.heap.size, 0, none⟩) = .pointer (some ⟨O, 0, none⟩) ∧ XLoop [] w (w4.alloc (.cells #[.int .i64 op, .int .i64 a, .int .i64 n, .string s, .slice pv set.length cv, .slice none 0 0] 32)) B w.heap.size (w.heap.size + 1) O (.cells #[.int .i64 op, .int .i64 a, .int .i64 n, .string s, .slice ps set.length cps, .slice p len cap] 32) op a n s set sv kid 0 (.slice none 0 0) [] []) := pt_ex (start_alloc _ hR.2 hR.1); clear hown4 hg4 hR)
        | (refine step_append_any rfl (.tmp 15) (.tmp 17) 27 rfl (w.heap.size + 2) 3 iI (.int .i64 0) 1 8 Tryz.underlying27 hiI hzI0 hzI1 hzI2 rfl Nat.one_pos (.slice (some ⟨w.heap.size + 1 + 1 + 1, 0, none⟩) 0 0) 0 [] rfl ?_ ps set.length cps (set.map (Value.int .i64)) rfl HLM.out HOA.out.2.1 ?_ (ints_cells set) HL1.out HL2.out ?_ ?_; (with_reducible exact HOB.out.1); (with_reducible exact HOB.out.2.2); exact HSZB.out; intro v' w4 hown4 hg4; have hR := own_grown HBB.out.1 HBB.out.2 hown4.out hg4.out; obtain ⟨pv, cv, hv⟩ := own_shape hR.1; subst hv; have hA4 := HA6.out.below hR.2; have hS4 := five_of hA4; have hSP := five_of (six_put (g := w.heap.size + 1 + 1) hA4 op a n s (.slice pv set.length cv) (.slice none 0 0) (by omega)); clear hA4; have h6 := H6B.out.grown hg4.out (by omega); obtain ⟨q0, q1, q2, q3, q4, q5⟩ := h6.cells; have qf := h6.fr; have HEND : Hid (∃ (O B : Nat) (sv : Value), Value.pointer (some ⟨w.heap.size + 1 + 1, 0, none⟩) = .pointer (some ⟨O, 0, none⟩) ∧ XLoop [] w (put6 w4 (w.heap.size + 1 + 1) op a n s (.slice pv set.length cv) (.slice none 0 0)) B w.heap.size (w.heap.size + 1) O (.cells #[.int .i64 op, .int .i64 a, .int .i64 n, .string s, .slice ps set.length cps, .slice p len cap] 32) op a n s set sv kid 0 (.slice none 0 0) [] []) := pt_ex (start_put _ hR.2 hR.1 (by omega) h6 (own_ne6 hR.1 h6)); clear h6; clear hown4 hg4 hR)
        | (refine step_append_any rfl (.tmp 15) (.tmp 17) 27 rfl (w.heap.size + 2) 3 iI (.int .i64 0) 1 8 Tryz.underlying27 hiI hzI0 hzI1 hzI2 rfl Nat.one_pos (.slice (some ⟨w.heap.size + 1 + 1, 0, none⟩) 0 0) 0 [] rfl ?_ ps set.length cps (set.map (Value.int .i64)) rfl HLM.out HOA.out.2.1 ?_ (ints_cells set) HL1.out HL2.out ?_ ?_; (with_reducible exact HOC.out.1); (with_reducible exact HOC.out.2.2); exact HSZC.out; intro v' w4 hown4 hg4; have hR := own_grown HBC.out.1 HBC.out.2 hown4.out hg4.out; obtain ⟨pv, cv, hv⟩ := own_shape hR.1; subst hv; have hA4 := HA6.out.below hR.2; have hS4 := five_of hA4; have hSP := five_of (six_put (g := w.heap.size + 1 + 1 + 1) hA4 op a n s (.slice pv set.length cv) (.slice none 0 0) (by omega)); clear hA4; have h6 := H6C.out.grown hg4.out (by omega); obtain ⟨q0, q1, q2, q3, q4, q5⟩ := h6.cells; have qf := h6.fr; have HEND : Hid (∃ (O B : Nat) (sv : Value), Value.pointer (some ⟨w.heap.size + 1 + 1 + 1, 0, none⟩) = .pointer (some ⟨O, 0, none⟩) ∧ XLoop [] w (put6 w4 (w.heap.size + 1 + 1 + 1) op a n s (.slice pv set.length cv) (.slice none 0 0)) B w.heap.size (w.heap.size + 1) O (.cells #[.int .i64 op, .int .i64 a, .int .i64 n, .string s, .slice ps set.length cps, .slice p len cap] 32) op a n s set sv kid 0 (.slice none 0 0) [] []) := pt_ex (start_put _ hR.2 hR.1 (by omega) h6 (own_ne6 hR.1 h6)); clear h6; clear hown4 hg4 hR))
      all_goals
        go_wp2_with fail
        go_meet
        exact HEND.out
    case rest =>
      obtain ⟨O, B0, sv0, rfl, hL0⟩ := hcut
      have H00 : Hid (XLoop [] w wc B0 w.heap.size (w.heap.size + 1) O (.cells #[.int .i64 op, .int .i64 a, .int .i64 n, .string s, .slice ps set.length cps, .slice p len cap] 32) op a n s set sv0 kid 0 (.slice none 0 0) [] []) := hL0
      clear hL0 HOA HOB HOC HBA HBB HBC H6B H6C HA6 HSZA HSZB HSZC HLM HL1 HL2
      obtain ⟨C, hC⟩ : ∃ C, C = w.heap.size := ⟨_, rfl⟩
      obtain ⟨R, hR⟩ : ∃ R, R = w.heap.size + 1 := ⟨_, rfl⟩
      have HH0 : Hid (XLoop [] w wc B0 C R O (.cells #[.int .i64 op, .int .i64 a, .int .i64 n, .string s, .slice ps set.length cps, .slice p len cap] 32) op a n s set sv0 kid 0 (.slice none 0 0) [] []) := by
        show XLoop _ _ _ _ _ _ _ _ _ _ _ _ _ _ _ _ _ _ _
        rw [hR, hC]; exact H00.out
      clear H00
      rw [← hR, ← hC]
      have hCO : C ≠ O := HH0.out.ord.2.2.2.2.2.2.2.1
      have hRO : R ≠ O := HH0.out.ord.2.2.2.2.2.2.2.2
      clear hC hR
      have hA0 : Six wc C op a n s (.slice ps set.length cps) (.slice p len cap) 32 := HH0.out.arg
      obtain ⟨z0, z1, z2, z3, z4, z5⟩ := hA0.cells
      clear hA0
      have HCC : Hid (CurAt c ca cl cc wc) := HCU.out.below' HH0.out.bel.toBelow
      by_cases h2 : op = 2
      case' pos =>
        have d2 : (op == 2) = true := by simpa using h2
        clear h2
        go_wp2_with fail
        refine (l1Once_any c ca cl cc 2 (by omega) _ HCC.out).mono ?_
        rintro e w1 ⟨⟨q, rfl⟩, hx1, hc1⟩
        have HL1 := (HH0.out.beside HCW.out).fr (Fr.ext hx1)
        have HH1 : Hid (XLoop [c] w w1 B0 C R O (.cells #[.int .i64 op, .int .i64 a, .int .i64 n, .string s, .slice ps set.length cps, .slice p len cap] 32) op a n s set sv0 kid 0 (.slice none 0 0) [] [] ∧ CurAt c ca cl cc w1) := ⟨HL1, hc1⟩
        clear HL1 hx1 hc1 HCC HH0
        go_upto_if 26 with fail
        go_cut [] from 7 (fun wx => ∃ (B : Nat) (sv : Value) (Y : List Int), Y.length ≤ 8 ∧ (XLoop [c] w wx B C R O (.cells #[.int .i64 op, .int .i64 a, .int .i64 n, .string s, .slice ps set.length cps, .slice p len cap] 32) op a n s Y sv kid 0 (.slice none 0 0) [] [] ∧ CurAt c ca cl cc wx))
        case' first =>
          cases q
          · go_wp2_with fail
            go_meet
            exact ⟨_, _, _, HLE.out.1, HH1.out⟩
          · go_wp2_with fail
            refine (drawSet_any c ca cl cc _ HH1.out.2).mono ?_
            rintro e w2 ⟨u, xs, rfl, hxs, hown2, hx2, hc2⟩
            obtain ⟨pv, cv, hv⟩ := own_shape hown2
            subst hv
            obtain ⟨hO2, HX2⟩ := HH1.out.1.turnC (Fr.ext hx2) hown2
            have x4 := hO2.cells.2.2.2.2.1
            have xf := hO2.fr 4
            have HXX : Hid (XLoop [c] w (w2.setCell ⟨O, 4, none⟩ (.slice pv xs.length cv)) w2.heap.size C R O (.cells #[.int .i64 op, .int .i64 a, .int .i64 n, .string s, .slice ps set.length cps, .slice p len cap] 32) op a n s xs (.slice pv xs.length cv) kid 0 (.slice none 0 0) [] [] ∧ CurAt c ca cl cc (w2.setCell ⟨O, 4, none⟩ (.slice pv xs.length cv))) := ⟨HX2, hc2.keepB (fun g hg => Below.heap_setCell w2 ⟨O, 4, none⟩ _ g (by show g ≠ O; have := HH1.out.1.ord.2.2.2.1; have := HCW.out; omega))⟩
            have HXS : Hid (xs.length ≤ 8) := hxs
            clear HX2 hO2 hown2 hx2 hc2 hxs
            go_wp2_with fail
            go_meet
            exact ⟨_, _, _, HXS.out, HXX.out⟩
      case' neg =>
        have HH1 : Hid (XLoop [c] w wc B0 C R O (.cells #[.int .i64 op, .int .i64 a, .int .i64 n, .string s, .slice ps set.length cps, .slice p len cap] 32) op a n s set sv0 kid 0 (.slice none 0 0) [] [] ∧ CurAt c ca cl cc wc) := ⟨HH0.out.beside HCW.out, HCC.out⟩
        have d2 : (op == 2) = false := by simpa using h2
        clear h2 HCC HH0
        go_upto_if 26 with fail
        go_cut [] from 7 (fun wx => ∃ (B : Nat) (sv : Value) (Y : List Int), Y.length ≤ 8 ∧ (XLoop [c] w wx B C R O (.cells #[.int .i64 op, .int .i64 a, .int .i64 n, .string s, .slice ps set.length cps, .slice p len cap] 32) op a n s Y sv kid 0 (.slice none 0 0) [] [] ∧ CurAt c ca cl cc wx))
        case' first =>
          go_wp2_with fail
          go_meet
          exact ⟨_, _, _, HLE.out.1, HH1.out⟩
      all_goals
        clear HH1
        obtain ⟨B, sv, Y, hYL, hL0, hC0⟩ := hcut
        have HYL : Hid (Y.length ≤ 8) := hYL
        have HH0 : Hid (XLoop [c] w wc B C R O (.cells #[.int .i64 op, .int .i64 a, .int .i64 n, .string s, .slice ps set.length cps, .slice p len cap] 32) op a n s Y sv kid 0 (.slice none 0 0) [] [] ∧ CurAt c ca cl cc wc) := ⟨hL0, hC0⟩
        clear hL0 hC0 hYL z0 z1 z2 z3 z4 z5 d2
        go_wp2_with fail
        go_loopw [6] (fun v4 wr => ∃ (k : Nat) (lv : Value) (la : List XR) (SS : List (List Nat)) (kd : Nat → X), v4 = .int .i64 k ∧ k ≤ len ∧ XLoop [c] w wr B C R O (.cells #[.int .i64 op, .int .i64 a, .int .i64 n, .string s, .slice ps set.length cps, .slice p len cap] 32) op a n s Y sv kd k lv la SS ∧ CurAt c ca cl cc wr ∧ KidsLike kid kd k) (fun v4 _ => len - (intOf v4).toNat)
        case atStart => exact ⟨0, _, _, _, _, rfl, Nat.zero_le _, HH0.out.1, HH0.out.2, KidsLike.nil _⟩
        case round =>
          obtain ⟨k, lv, la, SS, kd, rfl, hk, hL, hcr, hkl0⟩ := hrel
          have HL : Hid (XLoop [c] w wr B C R O (.cells #[.int .i64 op, .int .i64 a, .int .i64 n, .string s, .slice ps set.length cps, .slice p len cap] 32) op a n s Y sv kd k lv la SS) := hL
          have HCR : Hid (CurAt c ca cl cc wr ∧ KidsLike kid kd k) := ⟨hcr, hkl0⟩
          clear hcr hkl0
          have hA : Six wr C op a n s (.slice ps set.length cps) (.slice p len cap) 32 := hL.arg
          have a4 := hA.cells.2.2.2.2.2
          obtain ⟨o0, o1, o2, o3, o4, o5⟩ := hL.out.cells
          clear hL HH0
          by_cases hkl : (k : Int) < len
          · obtain ⟨b, o, ux, u, hp, hcb, hd, hinu⟩ := HAT.out k (by omega)
            subst hp
            obtain ⟨c0, c1, c2, c3, c4, c5⟩ := hd.ext HL.out.bel.toExt (by omega)
            have HIN : Hid ((kid k).At (c + 1) wr.drew ux u) := X.At.below (Below.refl _ wr).drew (X.At.ext HL.out.bel.toExt (by omega) hinu)
            have HCD : Hid (CurAt c ca cl cc wr.drew) := HCR.out.1.below' (Below.refl _ wr).drew
            have HKL : Hid (k < len) := by show k < len; omega
            have HOWN : Hid (wr.ownsRow 0 32 6 lv k (xrows la)) := HL.out.rows.own
            have hOl : O < wr.heap.size := HL.out.out.lt
            have hCl : C < wr.heap.size := hA.lt
            have hbl : b < wr.heap.size := World.block_lt_of_cell? wr _ c0
            clear hd hinu hA hcb
            have hki0 : (0 : Int) ≤ (k : Int) := by omega
            have HCF : Hid (∀ (vs : Array Value) (w : World), (callFunc 56 vs).run Tryz.prog w = .ok (.enter 56 vs) w) := fun vs w => mix_enter vs w
            go_wp2_with fail
            go_region_law
              (first
                | (refine step_call2 rfl 56 (.tmp 39) (.tmp 44) 44 32 rfl HCF.out (.pointer (some ⟨c, 0, none⟩)) (.agg #[.int .i64 (kid k).op, .int .i64 (kid k).at_, .int .i64 (kid k).n, .string (kid k).s, ux, u]) rfl rfl _ (IH.out k HKL.out wr.drew ux u HCD.out HIN.out) ?_; rintro e w1 ⟨t', su', v', T, rfl, ⟨hb1, hc1⟩, hd1, hn1, hT1, hdx1, hsl1⟩; refine ⟨_, rfl, ?_⟩; have HC1 : Hid (Ext c wr w1 ∧ XOwn w1 t' su' v' T ∧ T.Nodup ∧ (∀ x ∈ T, wr.heap.size ≤ x) ∧ CurAt c ca cl cc w1 ∧ datX t' = datX (kid k) ∧ t'.SetsLe 8) := ⟨⟨hb1.os, hb1.tape, hb1.output, hb1.size, hb1.block⟩, hd1, hn1, hT1, hc1, hdx1, hsl1⟩; obtain ⟨pv, cv, hv'⟩ := hd1.at0.xs.shape; obtain ⟨pw, cw, hw'⟩ := hd1.at0.sets.shape; subst hv' hw'; have hf1 := HL.out.fr (Fr.ext HC1.out.1); have z4 : w1.cell? ⟨O, 5, none⟩ = some lv := hf1.out.cells.2.2.2.2.2; have z5 : ∀ ob, (w1.alloc ob).cell? ⟨O, 5, none⟩ = some lv := fun ob => ((newx w1 ob).cell (by exact Nat.lt_of_lt_of_le hOl HC1.out.1.size)).trans z4; have hy1 : Six w1 C op a n s (.slice ps set.length cps) (.slice (some ⟨b, o, none⟩) len cap) 32 := hf1.arg; have y4 : w1.cell? ⟨C, 5, none⟩ = some (.slice (some ⟨b, o, none⟩) len cap) := hy1.cells.2.2.2.2.2; have HO1 : Hid (w1.ownsRow 0 32 6 lv k (xrows la)) := hf1.rows.own; clear hb1 hc1 hd1 hn1 hT1 hdx1 hsl1 hf1 hy1)
                | (refine step_append_lies _ (by rfl) _ _ _ (by rfl) 0 32 i0 _ 6 88 Tryz.underlying30 hi0 hz0 hz1 hz2 rfl (by omega) lv k (xrows la) (by rfl) (HO1.out.alloc _) ⟨w1.heap.size, 0, none⟩ 1 1 [.int .i64 (kid k).op, .int .i64 (kid k).at_, .int .i64 (kid k).n, .string (kid k).s, .slice pw t'.set.length cw, .slice pv t'.len cv] (by rfl) (by rfl) (World.news_of_block (cs := #[.int .i64 (kid k).op, .int .i64 (kid k).at_, .int .i64 (kid k).n, .string (kid k).s, .slice pw t'.set.length cw, .slice pv t'.len cv]) (t := 32) (fr := (0, 0)) (heap_alloc_new w1 _)) (by simp [Value.oneCell']) (by omega) (by unfold maxLen; omega) (by omega) (Nat.zero_le _) (w1.heap.size + 1) (by simp) ?_; intro gg cap3 w3 hown3 hgrow hat hlt3; obtain ⟨hO3, hnx, hlow⟩ := HL.out.nextAny (Fr.ext HC1.out.1) HC1.out.2.1 HC1.out.2.2.1 HC1.out.2.2.2.1 (by rw [mix_cells HC1.out.2.2.2.2.2.1]; exact hown3) hgrow hat; have HCN : Hid (CurAt c ca cl cc (w3.setCell ⟨O, 5, none⟩ (.slice (some ⟨gg, 0, none⟩) (k + 1) cap3))) := HC1.out.2.2.2.2.1.keepB (fun x hx => hlow x (Nat.lt_of_le_of_lt hx HCW.out)); have HNX : Hid (XLoop [c] w (w3.setCell ⟨O, 5, none⟩ (.slice (some ⟨gg, 0, none⟩) (k + 1) cap3)) B C R O (.cells #[.int .i64 op, .int .i64 a, .int .i64 n, .string s, .slice ps set.length cps, .slice (some ⟨b, o, none⟩) len cap] 32) op a n s Y sv (kidPut kd k t') (k + 1) (.slice (some ⟨gg, 0, none⟩) (k + 1) cap3) (la ++ [(t', .slice pw t'.set.length cw, .slice pv t'.len cv)]) (SS ++ [T])) := hnx; have x4 : w3.cell? ⟨O, 5, none⟩ = some lv := (World.cell?_of_block (a := ⟨O, 5, none⟩) hO3).trans o5; have xf : w3.frozen? ⟨O, 5, none⟩ = false := (World.frozen?_of_block (a := ⟨O, 5, none⟩) hO3).trans (HL.out.out.fr 5); clear hO3 hnx hlow hown3 hgrow hat hlt3))
            all_goals
              go_wp2_with fail
              go_roundw
              case rel => exact ⟨k + 1, _, _, _, _, by go_num, by omega, HNX.out, HCN.out, HCR.out.2.put HC1.out.2.2.2.2.2.1 HC1.out.2.2.2.2.2.2⟩
              case measure => simp [intOf]; omega
          · obtain rfl : k = len := by omega
            obtain ⟨r0, r1, r2, r3, r4, r5⟩ := HL.out.res.cells
            have rf := HL.out.res.fr
            obtain ⟨hfr, S, hX, hSn, hSg⟩ := HL.out.done ⟨HPL.out.1, HPL.out.2, by have := HYL.out; unfold maxLen; omega⟩
            obtain ⟨pv, cv, hlv⟩ := hX.at0.xs.shape
            obtain ⟨pw, cw, hsv⟩ := hX.at0.sets.shape
            simp only [X.len, X.set] at hlv hsv
            subst hlv hsv
            have HS : Hid ((Ext c w (put6 wr R op a n s (.slice pw Y.length cw) (.slice pv k cv)) ∧ CurAt c ca cl cc (put6 wr R op a n s (.slice pw Y.length cw) (.slice pv k cv))) ∧ XOwn (put6 wr R op a n s (.slice pw Y.length cw) (.slice pv k cv)) (.mk op a n s Y k kd) (.slice pw Y.length cw) (.slice pv k cv) S ∧ S.Nodup ∧ (∀ x ∈ S, w.heap.size ≤ x) ∧ datX (.mk op a n s Y k kd) = datX (.mk op a n s set k kid) ∧ (X.mk op a n s Y k kd).SetsLe 8) := ⟨⟨hfr.toExt, HCR.out.1.keepB (fun x hx => put6_other wr R op a n s _ _ x (by have := HL.out.ord.2.2.1; have := HCW.out; omega))⟩, hX, hSn, hSg, HCR.out.2.mk op a n s set HYL.out⟩
            obtain ⟨TT, hTT⟩ : ∃ TT, TT = X.mk op a n s Y k kd := ⟨_, rfl⟩
            rw [← hTT] at HS
            clear hfr hX hSn hSg HL HAT IH hTT HYL HCR
            generalize Y.length = yl at *
            go_wp2_with fail
            refine bodyPost_ret (v := .agg #[.int .i64 op, .int .i64 a, .int .i64 n, .string s, .slice pw yl cw, .slice pv k cv]) (by rw [results_cellX (p := 4) (ty := 32) (by kernel_rfl)]; simp [go_sem, r0, r1, r2, r3, r4, r5]) rfl ⟨TT, _, _, rfl, HS.out.1, S, HS.out.2⟩
end Go.Proofs.YtgbfflpdpfgnbaaGreat

/- What the draws of chapter 5 have in common: what was drawn lies in the call's own memory; a node stored into a cell of six. No conditions. -/
namespace Go.Proofs.YtgbfflpdpfgnbaaGreat
open Go.ChangeShapes Go.WideShapes Go.ChangeAt Go.RowKit

theorem code_below5 {a : Option Addr} {len : Nat} {w w' : World} (h : CodeOk a len w.heap.size w) (hb : Below w.heap.size w w') : CodeOk a len w'.heap.size w' := by
  have := h.keep (w' := w') fun k hk _ => hb.block k hk
  obtain ⟨h1, h2 | ⟨b, off, e, hlt, hz⟩⟩ := this
  · exact ⟨h1, .inl h2⟩
  · exact ⟨h1, .inr ⟨b, off, e, Nat.lt_of_lt_of_le hlt hb.size, hz⟩⟩

theorem results_cellT {fn : Func} {p q : Tmp} {ty : TypeId} (h : fn.results = #[.cell p ty, .tmp q]) (tmps : Array Value) (P : Program) (w : World) :
    (results fn tmps).run P w = ((asAddr (tmps.getD p undef)).run P w).andThen fun a w₁ => ((loadVar ty a).run P w₁).andThen fun v w₂ => .ok (.tuple #[v, tmps.getD q undef]) w₂ := by
  simp only [results, h]
  simp [Sem.run_bind, Result.andThen]

/-- A node's six cells, and those of none. -/
abbrev zeroX : Obj := .cells #[.int .i64 0, .int .i64 0, .int .i64 0, .string ⟨#[]⟩, .slice none 0 0, .slice none 0 0] 32
abbrev nodeX (t : X) (su u : Value) : Obj := .cells #[.int .i64 t.op, .int .i64 t.at_, .int .i64 t.n, .string t.s, su, u] 32
abbrev ZeroXAt (w : World) (g : Nat) : Prop := Six w g 0 0 0 ⟨#[]⟩ (.slice none 0 0) (.slice none 0 0) 32
abbrev NodeXAt (w : World) (g : Nat) (t : X) (su u : Value) : Prop := Six w g t.op t.at_ t.n t.s su u 32

theorem X.SetsLe.mono {m m' : Nat} (h : m ≤ m') (t : X) : t.SetsLe m → t.SetsLe m' := by
  induction t with
  | no => intro _; trivial
  | mk op a n s set len kid ih => intro g; exact ⟨Nat.le_trans g.1 h, fun i hi => ih i (g.2 i hi)⟩

/-- What was drawn: a node in the call's own memory. -/
structure GotX (w w' : World) (t : X) (su u : Value) : Prop where
  inn : t.At w.heap.size w' su u
  wt : (datX t).weight ≤ 60000
  sets : t.SetsLe 9
  bel : Below w.heap.size w w'

theorem At_put6 {w : World} {R B : Nat} {t : X} {su u : Value} (h : t.At B w su u) (hR : R < B) (a b c : Int) (s : ByteArray) (p q : Value) : t.At B (put6 w R a b c s p q) su u :=
  X.At.kept (Nat.le_refl _) (fun ad v ha hx => (World.cell?_of_block (put6_other w R a b c s p q ad.block (by omega))).trans hx) h

theorem GotX.put {w w2 : World} {R B : Nat} {t : X} {su u : Value} (hR : w.heap.size ≤ R) (hB : R < B) (hin : t.At B w2 su u) (hwt : (datX t).weight ≤ 60000) (hs : t.SetsLe 9) (hb : Below w.heap.size w w2) (a b c : Int) (s : ByteArray) (p q : Value) : GotX w (put6 w2 R a b c s p q) t su u :=
  ⟨(At_put6 hin hB a b c s p q).mono (by omega), hwt, hs, put6_below hb R hR a b c s p q⟩

theorem Ext.belowX {c : Nat} {w w1 w2 : World} (h : Ext c w1 w2) (hb : Below w.heap.size w w1) (hc : w.heap.size ≤ c) : Below w.heap.size w w2 :=
  ⟨h.os.trans hb.os, h.tape.trans hb.tape, h.output.trans hb.output, Nat.le_trans hb.size h.size, fun k hk => (h.block k (by have := hb.size; omega) (by omega)).trans (hb.block k hk)⟩

/-- The cursor stays where its own block and the code's are kept. -/
theorem cur_putX {w w3 W : World} {C len cap : Nat} {a : Option Addr} (hc : CodeOk a len w.heap.size w) (hcu : CurAt C a len cap w3) (hb : Below w.heap.size w W) (hC : W.heap[C]? = w3.heap[C]?) (hCw : w.heap.size ≤ C) : CurAt C a len cap W := by
  obtain ⟨_, i, hh, h0, hk⟩ := hcu
  have := hc.keep (w' := W) fun k hk _ => hb.block k hk
  refine ⟨?_, i, hh, h0, hC.trans hk⟩
  obtain ⟨h1, h2 | ⟨b, off, e, hlt, hz⟩⟩ := this
  · exact ⟨h1, .inl h2⟩
  · exact ⟨h1, .inr ⟨b, off, e, Nat.lt_of_lt_of_le hlt hCw, hz⟩⟩

theorem put6_here {w : World} {g : Nat} {a0 b0 c0 : Int} {s0 : ByteArray} {u0 v0 : Value} {ty : TypeId} (h : Six w g a0 b0 c0 s0 u0 v0 ty) (a b c : Int) (s : ByteArray) (u v : Value) : Six (put6 w g a b c s u v) g a b c s u v ty := by
  have h0 := heap_setCell_same w g 0 _ _ (.int .i64 a) h
  have h1 := heap_setCell_same _ g 1 _ _ (.int .i64 b) h0
  have h2 := heap_setCell_same _ g 2 _ _ (.int .i64 c) h1
  have h3 := heap_setCell_same _ g 3 _ _ (.string s) h2
  have h4 := heap_setCell_same _ g 4 _ _ u h3
  exact heap_setCell_same _ g 5 _ _ v h4
theorem put6_size (w : World) (g : Nat) (a b c : Int) (s : ByteArray) (u v : Value) : w.heap.size ≤ (put6 w g a b c s u v).heap.size := (put6_below (Below.refl 0 w) g (Nat.zero_le _) a b c s u v).size

theorem CurAt.drewX {C len cap : Nat} {a : Option Addr} {w : World} (h : CurAt C a len cap w) : CurAt C a len cap w.drew := h
theorem Ext.undrew {c : Nat} {w w' : World} (h : Ext c w.drew w') : Ext c w w' := ⟨h.os, h.tape, h.output, h.size, h.block⟩
theorem Below.undrew {w w' : World} (h : Below w.drew.heap.size w.drew w') : Below w.heap.size w w' := ⟨h.os, h.tape, h.output, h.size, h.block⟩

/-- A node drawn by a cursor, and stored into a block of the call's own. -/
theorem Ext.put6 {c : Nat} {w w4 : World} (h : Ext c w w4) {R : Nat} (hR : w.heap.size ≤ R) (a b e : Int) (s : ByteArray) (u v : Value) : Ext c w (put6 w4 R a b e s u v) :=
  have k := put6_below (Below.refl 0 w4) R (Nat.zero_le _) a b e s u v
  ⟨k.os.trans h.os, k.tape.trans h.tape, k.output.trans h.output, Nat.le_trans h.size k.size, fun g hg hne => (put6_other w4 R a b e s u v g (by omega)).trans (h.block g hg hne)⟩
theorem CurAt.put6 {c : Nat} {a : Option Addr} {len cap : Nat} {w4 : World} (h : CurAt c a len cap w4) {R : Nat} (hR : c < R) (x b e : Int) (s : ByteArray) (u v : Value) : CurAt c a len cap (put6 w4 R x b e s u v) :=
  h.keepB (fun g hg => put6_other w4 R x b e s u v g (by omega))
theorem XOwn.put6 {w4 : World} {t : X} {su p : Value} {S : List Nat} (h : XOwn w4 t su p S) {R : Nat} (hR : ∀ x ∈ S, x ≠ R) (x b e : Int) (s : ByteArray) (u v : Value) : XOwn (put6 w4 R x b e s u v) t su p S :=
  h.same _ (fun g hg => put6_other w4 R x b e s u v g (hR g hg))
end Go.Proofs.YtgbfflpdpfgnbaaGreat
