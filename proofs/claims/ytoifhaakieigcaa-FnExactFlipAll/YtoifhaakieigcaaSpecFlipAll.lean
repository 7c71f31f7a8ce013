/- spec.FlipAll. Condition: at most 2^20 of it. -/
import Derived.Test.YtoifhaakieigcaaSpecStart
import Derived.Test.YtoifhaakieigcaaStepAny
import Derived.Test.YtoifhaakieigcaaIntsSpec
import Derived.Test.YtoifhaakieigcaaStxP
import Derived.Test.YtoifhaakieigcaaToStx
import Derived.Deep.AppendLies
import Derived.Deep.Cut
import Derived.Deep.RegionHeld3
namespace Go.Proofs.Ytoifhaakieigcaa
open Go.ChangeShapes Go.WideShapes Go.ChangeAt Go.RowKit

def SpecflipAt (m : Int) (t : X) : Prop := ∀ (w : World) (sv v : Value), t.At 0 w sv v → t.weight ≤ 1048576 → Calls Try.prog 28 #[.agg #[.int .i64 t.op, .int .i64 t.at_, .int .i64 t.n, .string t.s, sv, v], .int .i64 m] w fun e w' =>
  ∃ su u S, e = .returned (.agg #[.int .i64 t.op, .int .i64 t.at_, .int .i64 t.n, .string t.s, su, u]) ∧ Below w.heap.size w w' ∧ XOwn w' (t.flip m) su u S ∧ S.Nodup ∧ ∀ x ∈ S, w.heap.size ≤ x

theorem specflip_enter (vs : Array Value) (w : World) : (callFunc 28 vs).run Try.prog w = .ok (.enter 28 vs) w := by kernel_rfl
theorem flip_cells (m : Int) (d : X) (su v : Value) : xcells (d.flip m, su, v) = [.int .i64 d.op, .int .i64 d.at_, .int .i64 d.n, .string d.s, su, v] := by cases d <;> rfl

set_option maxRecDepth 100000 in
set_option maxHeartbeats 4000000 in
theorem spec_flip_all (m : Int) (t : X) : SpecflipAt m t := by
  induction t with
  | no => intro w sv v h; exact h.elim
  | mk op a n s set len kid ih =>
    intro w sv v hin hwt
    obtain ⟨i0, hi0, hz0, hz1, hz2⟩ := info_parts stx_info
    obtain ⟨iI, hiI, hzI0, hzI1, hzI2⟩ := info_parts int_info
    have hsl : XsAt 0 w len kid v := hin.xs
    have hss : SetB 0 w sv set := hin.sets
    have HPL : Hid (s.size ≤ maxLen ∧ -9223372036854775808 ≤ n ∧ n ≤ 9223372036854775807) := ⟨hin.size, hin.num⟩
    obtain ⟨p, cap, rfl, -, hat⟩ := hsl.at
    obtain ⟨ps, cps, hsv⟩ := hss.shape
    subst hsv
    have hwe : (X.mk op a n s set len kid).weight = s.size + (set.length + (len + sumX (fun i => (kid i).weight) len)) := rfl
    have hlen : len ≤ 1048576 := by omega
    have hsl2 : set.length ≤ 1048576 := by omega
    have HRD : Hid (Rd w (.slice ps set.length cps) set) := hss.rd
    have IH : Hid (∀ i, i < len → ∀ (w : World) (sv v : Value), (kid i).At 0 w sv v → Calls Try.prog 28 #[.agg #[.int .i64 (kid i).op, .int .i64 (kid i).at_, .int .i64 (kid i).n, .string (kid i).s, sv, v], .int .i64 m] w fun e w' =>
      ∃ su u S, e = .returned (.agg #[.int .i64 (kid i).op, .int .i64 (kid i).at_, .int .i64 (kid i).n, .string (kid i).s, su, u]) ∧ Below w.heap.size w w' ∧ XOwn w' ((kid i).flip m) su u S ∧ S.Nodup ∧ ∀ x ∈ S, w.heap.size ≤ x) := fun i hi w sv v h => ih i w sv v h (by
        have h1 := sumX_at (fun i => (kid i).weight) i len hi
        omega)
    have HAT : Hid (∀ i, i < len → ∃ b o su u, p = some ⟨b, o, none⟩ ∧ Head6 w b (o + i * 6) (kid i) su u ∧ (kid i).At 0 w su u) := hat
    obtain ⟨Y, hY⟩ : ∃ Y, Y = (if op = 2 then flipL set m else set) := ⟨_, rfl⟩
    have HY : Hid ((X.mk op a n s set len kid).flip m = .mk op a n s Y len (fun i => (kid i).flip m)) := by show _ = _; rw [hY]; rfl
    have HYL : Hid (Y.length ≤ maxLen) := by
      show _ ≤ _
      rw [hY]
      have := flip_len set m
      by_cases h : op = 2
      · rw [if_pos h]; unfold maxLen; omega
      · rw [if_neg h]; unfold maxLen; omega
    simp only [X.op, X.at_, X.n, X.s]
    rw [HY.out]
    clear hin hsl ih hat hwe hwt hss
    have e0 : ((w.alloc (.cells #[.int .i64 op, .int .i64 a, .int .i64 n, .string s, .slice ps set.length cps, .slice p len cap] 29)).alloc (.cells #[.int .i64 0, .int .i64 0, .int .i64 0, .string ⟨#[]⟩, .slice none 0 0, .slice none 0 0] 29)).heap.size = w.heap.size + 2 := by simp
    have e1 : ∀ ob, (((w.alloc (.cells #[.int .i64 op, .int .i64 a, .int .i64 n, .string s, .slice ps set.length cps, .slice p len cap] 29)).alloc (.cells #[.int .i64 0, .int .i64 0, .int .i64 0, .string ⟨#[]⟩, .slice none 0 0, .slice none 0 0] 29)).alloc ob).heap.size = w.heap.size + 1 + 1 + 1 := fun ob => by simp
    have hb0 : Below w.heap.size w ((w.alloc (.cells #[.int .i64 op, .int .i64 a, .int .i64 n, .string s, .slice ps set.length cps, .slice p len cap] 29)).alloc (.cells #[.int .i64 0, .int .i64 0, .int .i64 0, .string ⟨#[]⟩, .slice none 0 0, .slice none 0 0] 29)) := (newx w _).trans ((newx _ _).mono (by simp))
    have hbA : Below ((w.alloc (.cells #[.int .i64 op, .int .i64 a, .int .i64 n, .string s, .slice ps set.length cps, .slice p len cap] 29)).alloc (.cells #[.int .i64 0, .int .i64 0, .int .i64 0, .string ⟨#[]⟩, .slice none 0 0, .slice none 0 0] 29)).heap.size ((w.alloc (.cells #[.int .i64 op, .int .i64 a, .int .i64 n, .string s, .slice ps set.length cps, .slice p len cap] 29)).alloc (.cells #[.int .i64 0, .int .i64 0, .int .i64 0, .string ⟨#[]⟩, .slice none 0 0, .slice none 0 0] 29)) ((((w.alloc (.cells #[.int .i64 op, .int .i64 a, .int .i64 n, .string s, .slice ps set.length cps, .slice p len cap] 29)).alloc (.cells #[.int .i64 0, .int .i64 0, .int .i64 0, .string ⟨#[]⟩, .slice none 0 0, .slice none 0 0] 29)).alloc (.cells #[] 3)).drew) := (newx _ _).drew
    have HOA : Hid (((((w.alloc (.cells #[.int .i64 op, .int .i64 a, .int .i64 n, .string s, .slice ps set.length cps, .slice p len cap] 29)).alloc (.cells #[.int .i64 0, .int .i64 0, .int .i64 0, .string ⟨#[]⟩, .slice none 0 0, .slice none 0 0] 29)).alloc (.cells #[] 3)).drew).ownsRow (w.heap.size + 2) 3 1 (.slice (some ⟨w.heap.size + 1 + 1, 0, none⟩) 0 0) 0 [] ∧ (ps = none → set.length = 0 ∧ cps = 0) ∧ ∀ ad, ps = some ad → ∀ j u, (set.map (Value.int .i64))[j]? = some u → ((((w.alloc (.cells #[.int .i64 op, .int .i64 a, .int .i64 n, .string s, .slice ps set.length cps, .slice p len cap] 29)).alloc (.cells #[.int .i64 0, .int .i64 0, .int .i64 0, .string ⟨#[]⟩, .slice none 0 0, .slice none 0 0] 29)).alloc (.cells #[] 3)).drew).cell? (ad.add j) = some u) := by
      have h1 : ((((w.alloc (.cells #[.int .i64 op, .int .i64 a, .int .i64 n, .string s, .slice ps set.length cps, .slice p len cap] 29)).alloc (.cells #[.int .i64 0, .int .i64 0, .int .i64 0, .string ⟨#[]⟩, .slice none 0 0, .slice none 0 0] 29)).alloc (.cells #[] 3)).drew).heap[w.heap.size + 1 + 1]? = some (.cells #[] 3 (0, 0)) := by
        have h2 := heap_alloc_new ((w.alloc (.cells #[.int .i64 op, .int .i64 a, .int .i64 n, .string s, .slice ps set.length cps, .slice p len cap] 29)).alloc (.cells #[.int .i64 0, .int .i64 0, .int .i64 0, .string ⟨#[]⟩, .slice none 0 0, .slice none 0 0] 29)) (.cells #[] 3)
        rw [e0] at h2
        exact h2
      exact ⟨own_empty h1 (by omega), (HRD.out.below (hb0.trans (hbA.mono (by omega)))).src⟩
    have HBA : Hid (Below ((w.alloc (.cells #[.int .i64 op, .int .i64 a, .int .i64 n, .string s, .slice ps set.length cps, .slice p len cap] 29)).alloc (.cells #[.int .i64 0, .int .i64 0, .int .i64 0, .string ⟨#[]⟩, .slice none 0 0, .slice none 0 0] 29)).heap.size ((w.alloc (.cells #[.int .i64 op, .int .i64 a, .int .i64 n, .string s, .slice ps set.length cps, .slice p len cap] 29)).alloc (.cells #[.int .i64 0, .int .i64 0, .int .i64 0, .string ⟨#[]⟩, .slice none 0 0, .slice none 0 0] 29)) ((((w.alloc (.cells #[.int .i64 op, .int .i64 a, .int .i64 n, .string s, .slice ps set.length cps, .slice p len cap] 29)).alloc (.cells #[.int .i64 0, .int .i64 0, .int .i64 0, .string ⟨#[]⟩, .slice none 0 0, .slice none 0 0] 29)).alloc (.cells #[] 3)).drew) ∧ ((w.alloc (.cells #[.int .i64 op, .int .i64 a, .int .i64 n, .string s, .slice ps set.length cps, .slice p len cap] 29)).alloc (.cells #[.int .i64 0, .int .i64 0, .int .i64 0, .string ⟨#[]⟩, .slice none 0 0, .slice none 0 0] 29)).heap.size ≤ w.heap.size + 1 + 1) := ⟨hbA, by rw [e0]; omega⟩
    have hbB : Below ((w.alloc (.cells #[.int .i64 op, .int .i64 a, .int .i64 n, .string s, .slice ps set.length cps, .slice p len cap] 29)).alloc (.cells #[.int .i64 0, .int .i64 0, .int .i64 0, .string ⟨#[]⟩, .slice none 0 0, .slice none 0 0] 29)).heap.size ((w.alloc (.cells #[.int .i64 op, .int .i64 a, .int .i64 n, .string s, .slice ps set.length cps, .slice p len cap] 29)).alloc (.cells #[.int .i64 0, .int .i64 0, .int .i64 0, .string ⟨#[]⟩, .slice none 0 0, .slice none 0 0] 29)) (((((w.alloc (.cells #[.int .i64 op, .int .i64 a, .int .i64 n, .string s, .slice ps set.length cps, .slice p len cap] 29)).alloc (.cells #[.int .i64 0, .int .i64 0, .int .i64 0, .string ⟨#[]⟩, .slice none 0 0, .slice none 0 0] 29)).alloc (.cells #[.int .i64 0, .int .i64 0, .int .i64 0, .string ⟨#[]⟩, .slice none 0 0, .slice none 0 0] 29)).alloc (.cells #[] 3)).drew) := ((newx _ _).trans ((newx _ _).mono (by rw [e1]; omega))).drew
    have HOB : Hid ((((((w.alloc (.cells #[.int .i64 op, .int .i64 a, .int .i64 n, .string s, .slice ps set.length cps, .slice p len cap] 29)).alloc (.cells #[.int .i64 0, .int .i64 0, .int .i64 0, .string ⟨#[]⟩, .slice none 0 0, .slice none 0 0] 29)).alloc (.cells #[.int .i64 0, .int .i64 0, .int .i64 0, .string ⟨#[]⟩, .slice none 0 0, .slice none 0 0] 29)).alloc (.cells #[] 3)).drew).ownsRow (w.heap.size + 2) 3 1 (.slice (some ⟨w.heap.size + 1 + 1 + 1, 0, none⟩) 0 0) 0 [] ∧ (ps = none → set.length = 0 ∧ cps = 0) ∧ ∀ ad, ps = some ad → ∀ j u, (set.map (Value.int .i64))[j]? = some u → (((((w.alloc (.cells #[.int .i64 op, .int .i64 a, .int .i64 n, .string s, .slice ps set.length cps, .slice p len cap] 29)).alloc (.cells #[.int .i64 0, .int .i64 0, .int .i64 0, .string ⟨#[]⟩, .slice none 0 0, .slice none 0 0] 29)).alloc (.cells #[.int .i64 0, .int .i64 0, .int .i64 0, .string ⟨#[]⟩, .slice none 0 0, .slice none 0 0] 29)).alloc (.cells #[] 3)).drew).cell? (ad.add j) = some u) := by
      have h1 : (((((w.alloc (.cells #[.int .i64 op, .int .i64 a, .int .i64 n, .string s, .slice ps set.length cps, .slice p len cap] 29)).alloc (.cells #[.int .i64 0, .int .i64 0, .int .i64 0, .string ⟨#[]⟩, .slice none 0 0, .slice none 0 0] 29)).alloc (.cells #[.int .i64 0, .int .i64 0, .int .i64 0, .string ⟨#[]⟩, .slice none 0 0, .slice none 0 0] 29)).alloc (.cells #[] 3)).drew).heap[w.heap.size + 1 + 1 + 1]? = some (.cells #[] 3 (0, 0)) := by
        have h2 := heap_alloc_new (((w.alloc (.cells #[.int .i64 op, .int .i64 a, .int .i64 n, .string s, .slice ps set.length cps, .slice p len cap] 29)).alloc (.cells #[.int .i64 0, .int .i64 0, .int .i64 0, .string ⟨#[]⟩, .slice none 0 0, .slice none 0 0] 29)).alloc (.cells #[.int .i64 0, .int .i64 0, .int .i64 0, .string ⟨#[]⟩, .slice none 0 0, .slice none 0 0] 29)) (.cells #[] 3)
        rw [e1] at h2
        exact h2
      exact ⟨own_empty h1 (by omega), (HRD.out.below (hb0.trans (hbB.mono (by omega)))).src⟩
    have HBB : Hid (Below ((w.alloc (.cells #[.int .i64 op, .int .i64 a, .int .i64 n, .string s, .slice ps set.length cps, .slice p len cap] 29)).alloc (.cells #[.int .i64 0, .int .i64 0, .int .i64 0, .string ⟨#[]⟩, .slice none 0 0, .slice none 0 0] 29)).heap.size ((w.alloc (.cells #[.int .i64 op, .int .i64 a, .int .i64 n, .string s, .slice ps set.length cps, .slice p len cap] 29)).alloc (.cells #[.int .i64 0, .int .i64 0, .int .i64 0, .string ⟨#[]⟩, .slice none 0 0, .slice none 0 0] 29)) (((((w.alloc (.cells #[.int .i64 op, .int .i64 a, .int .i64 n, .string s, .slice ps set.length cps, .slice p len cap] 29)).alloc (.cells #[.int .i64 0, .int .i64 0, .int .i64 0, .string ⟨#[]⟩, .slice none 0 0, .slice none 0 0] 29)).alloc (.cells #[.int .i64 0, .int .i64 0, .int .i64 0, .string ⟨#[]⟩, .slice none 0 0, .slice none 0 0] 29)).alloc (.cells #[] 3)).drew) ∧ ((w.alloc (.cells #[.int .i64 op, .int .i64 a, .int .i64 n, .string s, .slice ps set.length cps, .slice p len cap] 29)).alloc (.cells #[.int .i64 0, .int .i64 0, .int .i64 0, .string ⟨#[]⟩, .slice none 0 0, .slice none 0 0] 29)).heap.size ≤ w.heap.size + 1 + 1 + 1) := ⟨hbB, by rw [e0]; omega⟩
    have hbC : Below ((w.alloc (.cells #[.int .i64 op, .int .i64 a, .int .i64 n, .string s, .slice ps set.length cps, .slice p len cap] 29)).alloc (.cells #[.int .i64 0, .int .i64 0, .int .i64 0, .string ⟨#[]⟩, .slice none 0 0, .slice none 0 0] 29)).heap.size ((w.alloc (.cells #[.int .i64 op, .int .i64 a, .int .i64 n, .string s, .slice ps set.length cps, .slice p len cap] 29)).alloc (.cells #[.int .i64 0, .int .i64 0, .int .i64 0, .string ⟨#[]⟩, .slice none 0 0, .slice none 0 0] 29)) (((((w.alloc (.cells #[.int .i64 op, .int .i64 a, .int .i64 n, .string s, .slice ps set.length cps, .slice p len cap] 29)).alloc (.cells #[.int .i64 0, .int .i64 0, .int .i64 0, .string ⟨#[]⟩, .slice none 0 0, .slice none 0 0] 29)).alloc (.cells #[] 3)).alloc (.cells #[.int .i64 0, .int .i64 0, .int .i64 0, .string ⟨#[]⟩, .slice none 0 0, .slice none 0 0] 29)).drew) := ((newx _ _).trans ((newx _ _).mono (by rw [e1]; omega))).drew
    have HOC : Hid ((((((w.alloc (.cells #[.int .i64 op, .int .i64 a, .int .i64 n, .string s, .slice ps set.length cps, .slice p len cap] 29)).alloc (.cells #[.int .i64 0, .int .i64 0, .int .i64 0, .string ⟨#[]⟩, .slice none 0 0, .slice none 0 0] 29)).alloc (.cells #[] 3)).alloc (.cells #[.int .i64 0, .int .i64 0, .int .i64 0, .string ⟨#[]⟩, .slice none 0 0, .slice none 0 0] 29)).drew).ownsRow (w.heap.size + 2) 3 1 (.slice (some ⟨w.heap.size + 1 + 1, 0, none⟩) 0 0) 0 [] ∧ (ps = none → set.length = 0 ∧ cps = 0) ∧ ∀ ad, ps = some ad → ∀ j u, (set.map (Value.int .i64))[j]? = some u → (((((w.alloc (.cells #[.int .i64 op, .int .i64 a, .int .i64 n, .string s, .slice ps set.length cps, .slice p len cap] 29)).alloc (.cells #[.int .i64 0, .int .i64 0, .int .i64 0, .string ⟨#[]⟩, .slice none 0 0, .slice none 0 0] 29)).alloc (.cells #[] 3)).alloc (.cells #[.int .i64 0, .int .i64 0, .int .i64 0, .string ⟨#[]⟩, .slice none 0 0, .slice none 0 0] 29)).drew).cell? (ad.add j) = some u) := by
      have h1 : (((((w.alloc (.cells #[.int .i64 op, .int .i64 a, .int .i64 n, .string s, .slice ps set.length cps, .slice p len cap] 29)).alloc (.cells #[.int .i64 0, .int .i64 0, .int .i64 0, .string ⟨#[]⟩, .slice none 0 0, .slice none 0 0] 29)).alloc (.cells #[] 3)).alloc (.cells #[.int .i64 0, .int .i64 0, .int .i64 0, .string ⟨#[]⟩, .slice none 0 0, .slice none 0 0] 29)).drew).heap[w.heap.size + 1 + 1]? = some (.cells #[] 3 (0, 0)) := by
        have h2 := heap_alloc_new ((w.alloc (.cells #[.int .i64 op, .int .i64 a, .int .i64 n, .string s, .slice ps set.length cps, .slice p len cap] 29)).alloc (.cells #[.int .i64 0, .int .i64 0, .int .i64 0, .string ⟨#[]⟩, .slice none 0 0, .slice none 0 0] 29)) (.cells #[] 3)
        rw [e0] at h2
        exact (Below.heap_alloc _ _ _ (by rw [e1]; omega)).trans h2
      exact ⟨own_empty h1 (by omega), (HRD.out.below (hb0.trans (hbC.mono (by omega)))).src⟩
    have HBC : Hid (Below ((w.alloc (.cells #[.int .i64 op, .int .i64 a, .int .i64 n, .string s, .slice ps set.length cps, .slice p len cap] 29)).alloc (.cells #[.int .i64 0, .int .i64 0, .int .i64 0, .string ⟨#[]⟩, .slice none 0 0, .slice none 0 0] 29)).heap.size ((w.alloc (.cells #[.int .i64 op, .int .i64 a, .int .i64 n, .string s, .slice ps set.length cps, .slice p len cap] 29)).alloc (.cells #[.int .i64 0, .int .i64 0, .int .i64 0, .string ⟨#[]⟩, .slice none 0 0, .slice none 0 0] 29)) (((((w.alloc (.cells #[.int .i64 op, .int .i64 a, .int .i64 n, .string s, .slice ps set.length cps, .slice p len cap] 29)).alloc (.cells #[.int .i64 0, .int .i64 0, .int .i64 0, .string ⟨#[]⟩, .slice none 0 0, .slice none 0 0] 29)).alloc (.cells #[] 3)).alloc (.cells #[.int .i64 0, .int .i64 0, .int .i64 0, .string ⟨#[]⟩, .slice none 0 0, .slice none 0 0] 29)).drew) ∧ ((w.alloc (.cells #[.int .i64 op, .int .i64 a, .int .i64 n, .string s, .slice ps set.length cps, .slice p len cap] 29)).alloc (.cells #[.int .i64 0, .int .i64 0, .int .i64 0, .string ⟨#[]⟩, .slice none 0 0, .slice none 0 0] 29)).heap.size ≤ w.heap.size + 1 + 1) := ⟨hbC, by rw [e0]; omega⟩
    have H6B : Hid (Six (((((w.alloc (.cells #[.int .i64 op, .int .i64 a, .int .i64 n, .string s, .slice ps set.length cps, .slice p len cap] 29)).alloc (.cells #[.int .i64 0, .int .i64 0, .int .i64 0, .string ⟨#[]⟩, .slice none 0 0, .slice none 0 0] 29)).alloc (.cells #[.int .i64 0, .int .i64 0, .int .i64 0, .string ⟨#[]⟩, .slice none 0 0, .slice none 0 0] 29)).alloc (.cells #[] 3)).drew) (w.heap.size + 1 + 1) 0 0 0 ⟨#[]⟩ (.slice none 0 0) (.slice none 0 0) 29) := by
      have h2 := heap_alloc_new ((w.alloc (.cells #[.int .i64 op, .int .i64 a, .int .i64 n, .string s, .slice ps set.length cps, .slice p len cap] 29)).alloc (.cells #[.int .i64 0, .int .i64 0, .int .i64 0, .string ⟨#[]⟩, .slice none 0 0, .slice none 0 0] 29)) (.cells #[.int .i64 0, .int .i64 0, .int .i64 0, .string ⟨#[]⟩, .slice none 0 0, .slice none 0 0] 29)
      rw [e0] at h2
      exact (Below.heap_alloc _ _ _ (by rw [e1]; omega)).trans h2
    have H6C : Hid (Six (((((w.alloc (.cells #[.int .i64 op, .int .i64 a, .int .i64 n, .string s, .slice ps set.length cps, .slice p len cap] 29)).alloc (.cells #[.int .i64 0, .int .i64 0, .int .i64 0, .string ⟨#[]⟩, .slice none 0 0, .slice none 0 0] 29)).alloc (.cells #[] 3)).alloc (.cells #[.int .i64 0, .int .i64 0, .int .i64 0, .string ⟨#[]⟩, .slice none 0 0, .slice none 0 0] 29)).drew) (w.heap.size + 1 + 1 + 1) 0 0 0 ⟨#[]⟩ (.slice none 0 0) (.slice none 0 0) 29) := by
      have h2 := heap_alloc_new (((w.alloc (.cells #[.int .i64 op, .int .i64 a, .int .i64 n, .string s, .slice ps set.length cps, .slice p len cap] 29)).alloc (.cells #[.int .i64 0, .int .i64 0, .int .i64 0, .string ⟨#[]⟩, .slice none 0 0, .slice none 0 0] 29)).alloc (.cells #[] 3)) (.cells #[.int .i64 0, .int .i64 0, .int .i64 0, .string ⟨#[]⟩, .slice none 0 0, .slice none 0 0] 29)
      rw [e1] at h2
      exact h2
    have HA6 : Hid (Six ((w.alloc (.cells #[.int .i64 op, .int .i64 a, .int .i64 n, .string s, .slice ps set.length cps, .slice p len cap] 29)).alloc (.cells #[.int .i64 0, .int .i64 0, .int .i64 0, .string ⟨#[]⟩, .slice none 0 0, .slice none 0 0] 29)) w.heap.size op a n s (.slice ps set.length cps) (.slice p len cap) 29) := (Below.heap_alloc _ _ _ (by simp)).trans (heap_alloc_new w _)
    have HLM : Hid ((set.map (Value.int .i64)).length = set.length * 1) := by show _ = _; simp
    have HL1 : Hid (0 + set.length ≤ maxLen) := by show _ ≤ _; unfold maxLen; omega
    have HL2 : Hid ((0 + set.length) * 8 ≤ 140737488355328) := by show _ ≤ _; omega
    have HSZA : Hid (w.heap.size + 2 ≤ ((((w.alloc (.cells #[.int .i64 op, .int .i64 a, .int .i64 n, .string s, .slice ps set.length cps, .slice p len cap] 29)).alloc (.cells #[.int .i64 0, .int .i64 0, .int .i64 0, .string ⟨#[]⟩, .slice none 0 0, .slice none 0 0] 29)).alloc (.cells #[] 3)).drew).heap.size) := by show _ ≤ _; simp
    have HSZB : Hid (w.heap.size + 2 ≤ (((((w.alloc (.cells #[.int .i64 op, .int .i64 a, .int .i64 n, .string s, .slice ps set.length cps, .slice p len cap] 29)).alloc (.cells #[.int .i64 0, .int .i64 0, .int .i64 0, .string ⟨#[]⟩, .slice none 0 0, .slice none 0 0] 29)).alloc (.cells #[.int .i64 0, .int .i64 0, .int .i64 0, .string ⟨#[]⟩, .slice none 0 0, .slice none 0 0] 29)).alloc (.cells #[] 3)).drew).heap.size) := by show _ ≤ _; simp
    have HSZC : Hid (w.heap.size + 2 ≤ (((((w.alloc (.cells #[.int .i64 op, .int .i64 a, .int .i64 n, .string s, .slice ps set.length cps, .slice p len cap] 29)).alloc (.cells #[.int .i64 0, .int .i64 0, .int .i64 0, .string ⟨#[]⟩, .slice none 0 0, .slice none 0 0] 29)).alloc (.cells #[] 3)).alloc (.cells #[.int .i64 0, .int .i64 0, .int .i64 0, .string ⟨#[]⟩, .slice none 0 0, .slice none 0 0] 29)).drew).heap.size) := by show _ ≤ _; simp
    clear hbA hbB hbC hb0 e0 e1
    go_enter Try.func28, Try.ntmps28
    go_upto_region 1 with fail
    go_cut [5] from 7 (fun v5 wx => ∃ (O B : Nat) (sv : Value), v5 = .pointer (some ⟨O, 0, none⟩) ∧ XLoop [] w wx B w.heap.size (w.heap.size + 1) O (.cells #[.int .i64 op, .int .i64 a, .int .i64 n, .string s, .slice ps set.length cps, .slice p len cap] 29) op a n s set sv (fun i => (kid i).flip m) 0 (.slice none 0 0) [] [])
    case first =>
      go_region_held3 (fun w' => w'.cell? ⟨w.heap.size, 0, none⟩ = some (.int .i64 op) ∧ w'.cell? ⟨w.heap.size, 1, none⟩ = some (.int .i64 a) ∧ w'.cell? ⟨w.heap.size, 2, none⟩ = some (.int .i64 n) ∧ w'.cell? ⟨w.heap.size, 3, none⟩ = some (.string s) ∧ w'.cell? ⟨w.heap.size, 4, none⟩ = some (.slice ps set.length cps)) (first | go_keep | (with_reducible exact hS4) | (with_reducible exact hSP)) (first
        | (refine step_append_any rfl (.tmp 15) (.tmp 17) 25 rfl (w.heap.size + 2) 3 iI (.int .i64 0) 1 8 Try.underlying25 hiI hzI0 hzI1 hzI2 rfl Nat.one_pos (.slice (some ⟨w.heap.size + 1 + 1, 0, none⟩) 0 0) 0 [] rfl ?_ ps set.length cps (set.map (Value.int .i64)) rfl HLM.out HOA.out.2.1 ?_ (ints_cells set) HL1.out HL2.out ?_ ?_; (with_reducible exact HOA.out.1); (with_reducible exact HOA.out.2.2); exact HSZA.out; intro v' w4 hown4 hg4; have hR := own_grown HBA.out.1 HBA.out.2 hown4.out hg4.out; obtain ⟨pv, cv, hv⟩ := own_shape hR.1; subst hv; have hA4 := HA6.out.below hR.2; have hS4 := five_of hA4; clear hA4; have HEND : Hid (∃ (O B : Nat) (sv : Value), Value.pointer (some ⟨w4.heap.size, 0, none⟩) = .pointer (some ⟨O, 0, none⟩) ∧ XLoop [] w (w4.alloc (.cells #[.int .i64 op, .int .i64 a, .int .i64 n, .string s, .slice pv set.length cv, .slice none 0 0] 29)) B w.heap.size (w.heap.size + 1) O (.cells #[.int .i64 op, .int .i64 a, .int .i64 n, .string s, .slice ps set.length cps, .slice p len cap] 29) op a n s set sv (fun i => (kid i).flip m) 0 (.slice none 0 0) [] []) := pt_ex (start_alloc _ hR.2 hR.1); clear hown4 hg4 hR)
        | (refine step_append_any rfl (.tmp 15) (.tmp 17) 25 rfl (w.heap.size + 2) 3 iI (.int .i64 0) 1 8 Try.underlying25 hiI hzI0 hzI1 hzI2 rfl Nat.one_pos (.slice (some ⟨w.heap.size + 1 + 1 + 1, 0, none⟩) 0 0) 0 [] rfl ?_ ps set.length cps (set.map (Value.int .i64)) rfl HLM.out HOA.out.2.1 ?_ (ints_cells set) HL1.out HL2.out ?_ ?_; (with_reducible exact HOB.out.1); (with_reducible exact HOB.out.2.2); exact HSZB.out; intro v' w4 hown4 hg4; have hR := own_grown HBB.out.1 HBB.out.2 hown4.out hg4.out; obtain ⟨pv, cv, hv⟩ := own_shape hR.1; subst hv; have hA4 := HA6.out.below hR.2; have hS4 := five_of hA4; have hSP := five_of (six_put (g := w.heap.size + 1 + 1) hA4 op a n s (.slice pv set.length cv) (.slice none 0 0) (by omega)); clear hA4; have h6 := H6B.out.grown hg4.out (by omega); obtain ⟨q0, q1, q2, q3, q4, q5⟩ := h6.cells; have qf := h6.fr; have HEND : Hid (∃ (O B : Nat) (sv : Value), Value.pointer (some ⟨w.heap.size + 1 + 1, 0, none⟩) = .pointer (some ⟨O, 0, none⟩) ∧ XLoop [] w (put6 w4 (w.heap.size + 1 + 1) op a n s (.slice pv set.length cv) (.slice none 0 0)) B w.heap.size (w.heap.size + 1) O (.cells #[.int .i64 op, .int .i64 a, .int .i64 n, .string s, .slice ps set.length cps, .slice p len cap] 29) op a n s set sv (fun i => (kid i).flip m) 0 (.slice none 0 0) [] []) := pt_ex (start_put _ hR.2 hR.1 (by omega) h6 (own_ne6 hR.1 h6)); clear h6; clear hown4 hg4 hR)
        | (refine step_append_any rfl (.tmp 15) (.tmp 17) 25 rfl (w.heap.size + 2) 3 iI (.int .i64 0) 1 8 Try.underlying25 hiI hzI0 hzI1 hzI2 rfl Nat.one_pos (.slice (some ⟨w.heap.size + 1 + 1, 0, none⟩) 0 0) 0 [] rfl ?_ ps set.length cps (set.map (Value.int .i64)) rfl HLM.out HOA.out.2.1 ?_ (ints_cells set) HL1.out HL2.out ?_ ?_; (with_reducible exact HOC.out.1); (with_reducible exact HOC.out.2.2); exact HSZC.out; intro v' w4 hown4 hg4; have hR := own_grown HBC.out.1 HBC.out.2 hown4.out hg4.out; obtain ⟨pv, cv, hv⟩ := own_shape hR.1; subst hv; have hA4 := HA6.out.below hR.2; have hS4 := five_of hA4; have hSP := five_of (six_put (g := w.heap.size + 1 + 1 + 1) hA4 op a n s (.slice pv set.length cv) (.slice none 0 0) (by omega)); clear hA4; have h6 := H6C.out.grown hg4.out (by omega); obtain ⟨q0, q1, q2, q3, q4, q5⟩ := h6.cells; have qf := h6.fr; have HEND : Hid (∃ (O B : Nat) (sv : Value), Value.pointer (some ⟨w.heap.size + 1 + 1 + 1, 0, none⟩) = .pointer (some ⟨O, 0, none⟩) ∧ XLoop [] w (put6 w4 (w.heap.size + 1 + 1 + 1) op a n s (.slice pv set.length cv) (.slice none 0 0)) B w.heap.size (w.heap.size + 1) O (.cells #[.int .i64 op, .int .i64 a, .int .i64 n, .string s, .slice ps set.length cps, .slice p len cap] 29) op a n s set sv (fun i => (kid i).flip m) 0 (.slice none 0 0) [] []) := pt_ex (start_put _ hR.2 hR.1 (by omega) h6 (own_ne6 hR.1 h6)); clear h6; clear hown4 hg4 hR))
      all_goals
        go_wp2_with fail
        go_meet
        exact HEND.out
    case rest =>
      obtain ⟨O, B0, sv0, rfl, hL0⟩ := hcut
      have H00 : Hid (XLoop [] w wc B0 w.heap.size (w.heap.size + 1) O (.cells #[.int .i64 op, .int .i64 a, .int .i64 n, .string s, .slice ps set.length cps, .slice p len cap] 29) op a n s set sv0 (fun i => (kid i).flip m) 0 (.slice none 0 0) [] []) := hL0
      clear hL0 HOA HOB HOC HBA HBB HBC H6B H6C HA6 HSZA HSZB HSZC HLM HL1 HL2
      obtain ⟨C, hC⟩ : ∃ C, C = w.heap.size := ⟨_, rfl⟩
      obtain ⟨R, hR⟩ : ∃ R, R = w.heap.size + 1 := ⟨_, rfl⟩
      have HH0 : Hid (XLoop [] w wc B0 C R O (.cells #[.int .i64 op, .int .i64 a, .int .i64 n, .string s, .slice ps set.length cps, .slice p len cap] 29) op a n s set sv0 (fun i => (kid i).flip m) 0 (.slice none 0 0) [] []) := by
        show XLoop _ _ _ _ _ _ _ _ _ _ _ _ _ _ _ _ _ _ _
        rw [hR, hC]; exact H00.out
      clear H00
      rw [← hR, ← hC]
      have hCO : C ≠ O := HH0.out.ord.2.2.2.2.2.2.2.1
      have hRO : R ≠ O := HH0.out.ord.2.2.2.2.2.2.2.2
      clear hC hR
      have hA0 : Six wc C op a n s (.slice ps set.length cps) (.slice p len cap) 29 := HH0.out.arg
      obtain ⟨z0, z1, z2, z3, z4, z5⟩ := hA0.cells
      clear hA0
      go_upto_if 22 with fail
      go_cut [] from 7 (fun wx => ∃ (B : Nat) (sv : Value), XLoop [] w wx B C R O (.cells #[.int .i64 op, .int .i64 a, .int .i64 n, .string s, .slice ps set.length cps, .slice p len cap] 29) op a n s Y sv (fun i => (kid i).flip m) 0 (.slice none 0 0) [] [])
      case first =>
        by_cases h2 : op = 2
        · have HYY : Hid (Y = flipL set m) := hY.trans (if_pos h2)
          clear hY
          subst h2
          go_wp2_with fail
          refine (spec_flip set m (.slice ps set.length cps) _ (HRD.out.below HH0.out.bel.toBelow) (by omega)).mono ?_
          rintro e w2 ⟨v', rfl, hb2, hown2⟩
          obtain ⟨pv, cv, hv⟩ := own_shape hown2
          subst hv
          have h0 := HH0.out.from (B' := wc.heap.size) HH0.out.size (Nat.le_refl _)
          have HX2 := h0.turnIn hb2 hown2
          have hO2 := h0.out.below hb2
          have x4 := hO2.cells.2.2.2.2.1
          have xf := hO2.fr 4
          have HXX : Hid (XLoop [] w (w2.setCell ⟨O, 4, none⟩ (.slice pv (flipL set m).length cv)) w2.heap.size C R O (.cells #[.int .i64 2, .int .i64 a, .int .i64 n, .string s, .slice ps set.length cps, .slice p len cap] 29) 2 a n s (flipL set m) (.slice pv (flipL set m).length cv) (fun i => (kid i).flip m) 0 (.slice none 0 0) [] []) := HX2
          clear HX2 hO2 hb2 hown2 h0
          go_wp2_with fail
          go_meet
          exact ⟨_, _, by rw [HYY.out]; exact HXX.out⟩
        · have HYY : Hid (Y = set) := hY.trans (if_neg h2)
          have d2 : (op == 2) = false := by simpa using h2
          clear hY h2
          go_wp2_with fail
          go_meet
          exact ⟨_, _, by rw [HYY.out]; exact HH0.out⟩
      case rest =>
      clear HH0 hY z0 z1 z2 z3 z4 z5
      obtain ⟨B, sv, hL0⟩ := hcut
      have HH0 : Hid (XLoop [] w wc B C R O (.cells #[.int .i64 op, .int .i64 a, .int .i64 n, .string s, .slice ps set.length cps, .slice p len cap] 29) op a n s Y sv (fun i => (kid i).flip m) 0 (.slice none 0 0) [] []) := hL0
      clear hL0
      go_wp2_with fail
      go_loopw [6] (fun v4 wr => ∃ (k : Nat) (lv : Value) (la : List XR) (SS : List (List Nat)), v4 = .int .i64 k ∧ k ≤ len ∧ XLoop [] w wr B C R O (.cells #[.int .i64 op, .int .i64 a, .int .i64 n, .string s, .slice ps set.length cps, .slice p len cap] 29) op a n s Y sv (fun i => (kid i).flip m) k lv la SS) (fun v4 _ => len - (intOf v4).toNat)
      case atStart => exact ⟨0, _, _, _, rfl, Nat.zero_le _, HH0.out⟩
      case round =>
        obtain ⟨k, lv, la, SS, rfl, hk, hL⟩ := hrel
        have HL : Hid (XLoop [] w wr B C R O (.cells #[.int .i64 op, .int .i64 a, .int .i64 n, .string s, .slice ps set.length cps, .slice p len cap] 29) op a n s Y sv (fun i => (kid i).flip m) k lv la SS) := hL
        have hA : Six wr C op a n s (.slice ps set.length cps) (.slice p len cap) 29 := hL.arg
        have a4 := hA.cells.2.2.2.2.2
        obtain ⟨o0, o1, o2, o3, o4, o5⟩ := hL.out.cells
        clear hL HH0
        by_cases hkl : (k : Int) < len
        · obtain ⟨b, o, ux, u, hp, hd, hinu⟩ := HAT.out k (by omega)
          subst hp
          obtain ⟨c0, c1, c2, c3, c4, c5⟩ := hd.below HL.out.bel.toBelow
          have HIN : Hid ((kid k).At 0 wr.drew ux u) := X.At.below (Below.refl _ wr).drew (X.At.below HL.out.bel.toBelow hinu)
          have HKL : Hid (k < len) := by show k < len; omega
          have HOWN : Hid (wr.ownsRow 0 29 6 lv k (xrows la)) := HL.out.rows.own
          have hOl : O < wr.heap.size := HL.out.out.lt
          have hCl : C < wr.heap.size := hA.lt
          have hbl : b < wr.heap.size := World.block_lt_of_cell? wr _ c0
          clear hd hinu hA
          have hki0 : (0 : Int) ≤ (k : Int) := by omega
          have HCF : Hid (∀ (vs : Array Value) (w : World), (callFunc 28 vs).run Try.prog w = .ok (.enter 28 vs) w) := fun vs w => specflip_enter vs w
          go_wp2_with fail
          go_region_law
            (first
              | (refine step_call2 rfl 28 (.tmp 41) (.tmp 42) 29 3 rfl HCF.out (.agg #[.int .i64 (kid k).op, .int .i64 (kid k).at_, .int .i64 (kid k).n, .string (kid k).s, ux, u]) (.int .i64 m) rfl rfl _ (IH.out k HKL.out wr.drew ux u HIN.out) ?_; rintro e w1 ⟨su', v', T, rfl, hb1, hd1, hn1, hT1⟩; refine ⟨_, rfl, ?_⟩; have HC1 : Hid (Below wr.heap.size wr w1 ∧ XOwn w1 ((kid k).flip m) su' v' T ∧ T.Nodup ∧ ∀ x ∈ T, wr.heap.size ≤ x) := ⟨⟨hb1.os, hb1.tape, hb1.output, hb1.size, hb1.block⟩, hd1, hn1, hT1⟩; obtain ⟨pv, cv, hv'⟩ := hd1.at0.xs.shape; obtain ⟨pw, cw, hw'⟩ := hd1.at0.sets.shape; subst hv' hw'; have z4 : w1.cell? ⟨O, 5, none⟩ = some lv := (HC1.out.1.cell (by exact hOl)).trans o5; have z5 : ∀ ob, (w1.alloc ob).cell? ⟨O, 5, none⟩ = some lv := fun ob => ((newx w1 ob).cell (by exact Nat.lt_of_lt_of_le hOl HC1.out.1.size)).trans z4; have y4 : w1.cell? ⟨C, 5, none⟩ = some (.slice (some ⟨b, o, none⟩) len cap) := (HC1.out.1.cell (by exact hCl)).trans a4; have HO1 : Hid (w1.ownsRow 0 29 6 lv k (xrows la)) := own_belowX HOWN.out HC1.out.1; clear hb1 hd1 hn1 hT1)
              | (refine step_append_lies _ (by rfl) _ _ _ (by rfl) 0 29 i0 _ 6 88 Try.underlying27 hi0 hz0 hz1 hz2 rfl (by omega) lv k (xrows la) (by rfl) (HO1.out.alloc _) ⟨w1.heap.size, 0, none⟩ 1 1 [.int .i64 (kid k).op, .int .i64 (kid k).at_, .int .i64 (kid k).n, .string (kid k).s, .slice pw ((kid k).flip m).set.length cw, .slice pv ((kid k).flip m).len cv] (by rfl) (by rfl) (World.news_of_block (cs := #[.int .i64 (kid k).op, .int .i64 (kid k).at_, .int .i64 (kid k).n, .string (kid k).s, .slice pw ((kid k).flip m).set.length cw, .slice pv ((kid k).flip m).len cv]) (t := 29) (fr := (0, 0)) (heap_alloc_new w1 _)) (by simp [Value.oneCell']) (by omega) (by unfold maxLen; omega) (by omega) (Nat.zero_le _) (w1.heap.size + 1) (by simp) ?_; intro gg cap3 w3 hown3 hgrow hat hlt3; obtain ⟨hO3, hnx⟩ := HL.out.next (Fr.below HC1.out.1 []) HC1.out.2.1 HC1.out.2.2.1 HC1.out.2.2.2 (by rw [flip_cells]; exact hown3) hgrow hat; have HNX : Hid (XLoop [] w (w3.setCell ⟨O, 5, none⟩ (.slice (some ⟨gg, 0, none⟩) (k + 1) cap3)) B C R O (.cells #[.int .i64 op, .int .i64 a, .int .i64 n, .string s, .slice ps set.length cps, .slice (some ⟨b, o, none⟩) len cap] 29) op a n s Y sv (fun i => (kid i).flip m) (k + 1) (.slice (some ⟨gg, 0, none⟩) (k + 1) cap3) (la ++ [((kid k).flip m, .slice pw ((kid k).flip m).set.length cw, .slice pv ((kid k).flip m).len cv)]) (SS ++ [T])) := hnx; have x4 : w3.cell? ⟨O, 5, none⟩ = some lv := (World.cell?_of_block (a := ⟨O, 5, none⟩) hO3).trans o5; have xf : w3.frozen? ⟨O, 5, none⟩ = false := (World.frozen?_of_block (a := ⟨O, 5, none⟩) hO3).trans (HL.out.out.fr 5); clear hO3 hnx hown3 hgrow hat hlt3))
          all_goals
            go_wp2_with fail
            go_roundw
            case rel => exact ⟨k + 1, _, _, _, by go_num, by omega, HNX.out⟩
            case measure => simp [intOf]; omega
        · obtain rfl : k = len := by omega
          obtain ⟨r0, r1, r2, r3, r4, r5⟩ := HL.out.res.cells
          have rf := HL.out.res.fr
          obtain ⟨hfr, S, hX, hSn, hSg⟩ := HL.out.done ⟨HPL.out.1, HPL.out.2, HYL.out⟩
          obtain ⟨pv, cv, hlv⟩ := hX.at0.xs.shape
          obtain ⟨pw, cw, hsv⟩ := hX.at0.sets.shape
          simp only [X.len, X.set] at hlv hsv
          subst hlv hsv
          have HS : Hid (Fr [] w (put6 wr R op a n s (.slice pw Y.length cw) (.slice pv k cv)) ∧ XOwn (put6 wr R op a n s (.slice pw Y.length cw) (.slice pv k cv)) (.mk op a n s Y k (fun i => (kid i).flip m)) (.slice pw Y.length cw) (.slice pv k cv) S ∧ S.Nodup ∧ ∀ x ∈ S, w.heap.size ≤ x) := ⟨hfr, hX, hSn, hSg⟩
          clear hfr hX hSn hSg HL HAT IH
          generalize Y.length = yl at *
          go_wp2_with fail
          refine bodyPost_ret (v := .agg #[.int .i64 op, .int .i64 a, .int .i64 n, .string s, .slice pw yl cw, .slice pv k cv]) (by rw [results_cellX (p := 4) (ty := 29) (by kernel_rfl)]; simp [go_sem, r0, r1, r2, r3, r4, r5]) rfl ⟨_, _, rfl, HS.out.1.toBelow, S, HS.out.2.1, HS.out.2.2.1, HS.out.2.2.2⟩
end Go.Proofs.Ytoifhaakieigcaa
