/- The specification's sets of ints: with a number, without it, flipped. Condition: at most 2^22 of them. -/
import Derived.Test.YtlclfmjpnchmbaaGreatZG19PatSpec
import Derived.Test.YtlclfmjpnchmbaaGreatZG25SpecStxOk
import Derived.Test.YtlclfmjpnchmbaaGreatZG32StepAny
import Derived.Test.YtlclfmjpnchmbaaGreatZG24StepCall
import Derived.Test.YtlclfmjpnchmbaaGreatZG2StxP
import Derived.Test.YtlclfmjpnchmbaaGreatZG1StxOwn
import Derived.Test.YtlclfmjpnchmbaaGreatZG26SpecL7Deep
import Derived.Test.YtlclfmjpnchmbaaGreatZG31EachRow
import Derived.Deep.AppendLies
import Derived.Deep.Cut
import Derived.Deep.RegionHeld3
namespace Go.Proofs.YtlclfmjpnchmbaaGreat
open Go.ChangeShapes Go.WideShapes Go.ChangeAt Go.RowKit

theorem own_lit (w : World) (B : Nat) (hB : B ≤ w.heap.size) : Own (w.alloc (.cells #[] 3)) B (.slice (some ⟨w.heap.size, 0, none⟩) 0 0) [] :=
  World.ownsRow_lit w #[] 0 hB (Nat.zero_le _) rfl

theorem own_join {B : Nat} {w wr w1 : World} {r0 v' : Value} {L M : List Int} (h : Own wr B r0 L) (hb : Below B w wr) (hB : B ≤ wr.heap.size)
    (h1 : w1.ownsRow B 3 1 v' (L.length + M.length) (L.map (Value.int .i64) ++ M.map (Value.int .i64))) (hg : wr.grownBy w1 r0.ownBlock) : Own w1 B v' (L ++ M) ∧ Below B w w1 := by
  refine ⟨?_, ?_⟩
  · unfold Own
    rw [List.length_append, List.map_append]
    exact h1
  · exact hb.grown hg hB (fun k hk => (h.lt k hk).1)

theorem Rd.src {w : World} {a : Option Addr} {m cap : Nat} {xs : List Int} (h : Rd w (.slice a m cap) xs) : (a = none → m = 0 ∧ cap = 0) ∧ ∀ ad, a = some ad → ∀ j u, (xs.map (Value.int .i64))[j]? = some u → w.cell? (ad.add j) = some u := by
  rcases h with ⟨h, rfl⟩ | ⟨b, off, cap', h, _, hc⟩
  · simp only [Value.slice.injEq] at h
    obtain ⟨rfl, rfl, rfl⟩ := h
    exact ⟨fun _ => ⟨rfl, rfl⟩, fun ad h => by cases h⟩
  · simp only [Value.slice.injEq] at h
    obtain ⟨rfl, rfl, rfl⟩ := h
    refine ⟨fun h => (by cases h), fun ad h j u hu => ?_⟩
    obtain rfl := Option.some.inj h
    have hj : j < xs.length := by
      have := (List.getElem?_eq_some_iff.1 hu).1
      simpa using this
    rw [Addr.add_lit, hc j hj, getD_int xs j hj]
    simpa [List.getElem?_eq_getElem hj] using hu

theorem drop_src {w : World} {b off cap p : Nat} {xs : List Int} (hl : xs.length ≤ cap) (hc : ∀ j, j < xs.length → w.cell? ⟨b, off + j, none⟩ = some (.int .i64 (xs.getD j 0))) {ao : Option Addr} (hao : ¬ cap = p → ao = some ⟨b, off + p, none⟩) :
    ∀ ad, ao = some ad → ∀ j u, ((xs.drop p).map (Value.int .i64))[j]? = some u → w.cell? (ad.add j) = some u :=
  cells_from rfl hl hc hao

end Go.Proofs.YtlclfmjpnchmbaaGreat

/- spec.l5Copy. Condition: at most 2^20 of it. -/
namespace Go.Proofs.YtlclfmjpnchmbaaGreat
open Go.ChangeShapes Go.WideShapes Go.ChangeAt Go.RowKit

def SpecCopyXAt (t : X) : Prop := ∀ (w : World) (sv v : Value), t.At 0 w sv v → t.weight ≤ 1048576 → Calls Tryz.prog 37 #[.agg #[.int .i64 t.op, .int .i64 t.at_, .int .i64 t.n, .string t.s, sv, v]] w fun e w' =>
  ∃ su u S, e = .returned (.agg #[.int .i64 t.op, .int .i64 t.at_, .int .i64 t.n, .string t.s, su, u]) ∧ Below w.heap.size w w' ∧ XOwn w' t su u S ∧ S.Nodup ∧ ∀ x ∈ S, w.heap.size ≤ x

theorem copyX_enter (vs : Array Value) (w : World) : (callFunc 37 vs).run Tryz.prog w = .ok (.enter 37 vs) w := by kernel_rfl
theorem copyX_cells (d : X) (su v : Value) : xcells (d, su, v) = [.int .i64 d.op, .int .i64 d.at_, .int .i64 d.n, .string d.s, su, v] := by cases d <;> rfl

set_option maxRecDepth 100000 in
set_option maxHeartbeats 4000000 in
theorem copyX_all (t : X) : SpecCopyXAt t := by
  induction t with
  | no => intro w sv v h; exact h.elim
  | mk op a n s set len kid ih =>
    intro w sv v hin hwt
    obtain ⟨i0, hi0, hz0, hz1, hz2⟩ := info_parts stx_info
    obtain ⟨iI, hiI, hzI0, hzI1, hzI2⟩ := info_parts int_info
    have hsl : XsAt 0 w len kid v := hin.xs
    have hss : SetB 0 w sv set := hin.sets
    have HPL : Hid (s.size ≤ maxLen ∧ -9223372036854775808 ≤ n ∧ n ≤ 9223372036854775807) := ⟨hin.size, hin.num⟩
    obtain ⟨p, cap, rfl, -, hat⟩ := hsl.at
    obtain ⟨ps, cps, hsv⟩ := hss.shape
    subst hsv
    have hwe : (X.mk op a n s set len kid).weight = s.size + (set.length + (len + sumX (fun i => (kid i).weight) len)) := rfl
    have hlen : len ≤ 1048576 := by omega
    have hsl2 : set.length ≤ 1048576 := by omega
    have HRD : Hid (Rd w (.slice ps set.length cps) set) := hss.rd
    have IH : Hid (∀ i, i < len → ∀ (w : World) (sv v : Value), (kid i).At 0 w sv v → Calls Tryz.prog 37 #[.agg #[.int .i64 (kid i).op, .int .i64 (kid i).at_, .int .i64 (kid i).n, .string (kid i).s, sv, v]] w fun e w' =>
      ∃ su u S, e = .returned (.agg #[.int .i64 (kid i).op, .int .i64 (kid i).at_, .int .i64 (kid i).n, .string (kid i).s, su, u]) ∧ Below w.heap.size w w' ∧ XOwn w' (kid i) su u S ∧ S.Nodup ∧ ∀ x ∈ S, w.heap.size ≤ x) := fun i hi w sv v h => ih i w sv v h (by
        have h1 := sumX_at (fun i => (kid i).weight) i len hi
        omega)
    have HAT : Hid (∀ i, i < len → ∃ b o su u, p = some ⟨b, o, none⟩ ∧ Head6 w b (o + i * 6) (kid i) su u ∧ (kid i).At 0 w su u) := hat
    have HYL : Hid (set.length ≤ maxLen) := by show _ ≤ _; unfold maxLen; omega
    simp only [X.op, X.at_, X.n, X.s]
    clear hin hsl ih hat hwe hwt hss
    have e0 : ((w.alloc (.cells #[.int .i64 op, .int .i64 a, .int .i64 n, .string s, .slice ps set.length cps, .slice p len cap] 32)).alloc (.cells #[.int .i64 0, .int .i64 0, .int .i64 0, .string ⟨#[]⟩, .slice none 0 0, .slice none 0 0] 32)).heap.size = w.heap.size + 2 := by simp
    have e1 : ∀ ob, (((w.alloc (.cells #[.int .i64 op, .int .i64 a, .int .i64 n, .string s, .slice ps set.length cps, .slice p len cap] 32)).alloc (.cells #[.int .i64 0, .int .i64 0, .int .i64 0, .string ⟨#[]⟩, .slice none 0 0, .slice none 0 0] 32)).alloc ob).heap.size = w.heap.size + 1 + 1 + 1 := fun ob => by simp
    have hb0 : Below w.heap.size w ((w.alloc (.cells #[.int .i64 op, .int .i64 a, .int .i64 n, .string s, .slice ps set.length cps, .slice p len cap] 32)).alloc (.cells #[.int .i64 0, .int .i64 0, .int .i64 0, .string ⟨#[]⟩, .slice none 0 0, .slice none 0 0] 32)) := (newx w _).trans ((newx _ _).mono (by simp))
    have hbA : Below ((w.alloc (.cells #[.int .i64 op, .int .i64 a, .int .i64 n, .string s, .slice ps set.length cps, .slice p len cap] 32)).alloc (.cells #[.int .i64 0, .int .i64 0, .int .i64 0, .string ⟨#[]⟩, .slice none 0 0, .slice none 0 0] 32)).heap.size ((w.alloc (.cells #[.int .i64 op, .int .i64 a, .int .i64 n, .string s, .slice ps set.length cps, .slice p len cap] 32)).alloc (.cells #[.int .i64 0, .int .i64 0, .int .i64 0, .string ⟨#[]⟩, .slice none 0 0, .slice none 0 0] 32)) ((((w.alloc (.cells #[.int .i64 op, .int .i64 a, .int .i64 n, .string s, .slice ps set.length cps, .slice p len cap] 32)).alloc (.cells #[.int .i64 0, .int .i64 0, .int .i64 0, .string ⟨#[]⟩, .slice none 0 0, .slice none 0 0] 32)).alloc (.cells #[] 3)).drew) := (newx _ _).drew
    have HOA : Hid (((((w.alloc (.cells #[.int .i64 op, .int .i64 a, .int .i64 n, .string s, .slice ps set.length cps, .slice p len cap] 32)).alloc (.cells #[.int .i64 0, .int .i64 0, .int .i64 0, .string ⟨#[]⟩, .slice none 0 0, .slice none 0 0] 32)).alloc (.cells #[] 3)).drew).ownsRow (w.heap.size + 2) 3 1 (.slice (some ⟨w.heap.size + 1 + 1, 0, none⟩) 0 0) 0 [] ∧ (ps = none → set.length = 0 ∧ cps = 0) ∧ ∀ ad, ps = some ad → ∀ j u, (set.map (Value.int .i64))[j]? = some u → ((((w.alloc (.cells #[.int .i64 op, .int .i64 a, .int .i64 n, .string s, .slice ps set.length cps, .slice p len cap] 32)).alloc (.cells #[.int .i64 0, .int .i64 0, .int .i64 0, .string ⟨#[]⟩, .slice none 0 0, .slice none 0 0] 32)).alloc (.cells #[] 3)).drew).cell? (ad.add j) = some u) := by
      have h1 : ((((w.alloc (.cells #[.int .i64 op, .int .i64 a, .int .i64 n, .string s, .slice ps set.length cps, .slice p len cap] 32)).alloc (.cells #[.int .i64 0, .int .i64 0, .int .i64 0, .string ⟨#[]⟩, .slice none 0 0, .slice none 0 0] 32)).alloc (.cells #[] 3)).drew).heap[w.heap.size + 1 + 1]? = some (.cells #[] 3 (0, 0)) := by
        have h2 := heap_alloc_new ((w.alloc (.cells #[.int .i64 op, .int .i64 a, .int .i64 n, .string s, .slice ps set.length cps, .slice p len cap] 32)).alloc (.cells #[.int .i64 0, .int .i64 0, .int .i64 0, .string ⟨#[]⟩, .slice none 0 0, .slice none 0 0] 32)) (.cells #[] 3)
        rw [e0] at h2
        exact h2
      exact ⟨own_empty h1 (by omega), (HRD.out.below (hb0.trans (hbA.mono (by omega)))).src⟩
    have HBA : Hid (Below ((w.alloc (.cells #[.int .i64 op, .int .i64 a, .int .i64 n, .string s, .slice ps set.length cps, .slice p len cap] 32)).alloc (.cells #[.int .i64 0, .int .i64 0, .int .i64 0, .string ⟨#[]⟩, .slice none 0 0, .slice none 0 0] 32)).heap.size ((w.alloc (.cells #[.int .i64 op, .int .i64 a, .int .i64 n, .string s, .slice ps set.length cps, .slice p len cap] 32)).alloc (.cells #[.int .i64 0, .int .i64 0, .int .i64 0, .string ⟨#[]⟩, .slice none 0 0, .slice none 0 0] 32)) ((((w.alloc (.cells #[.int .i64 op, .int .i64 a, .int .i64 n, .string s, .slice ps set.length cps, .slice p len cap] 32)).alloc (.cells #[.int .i64 0, .int .i64 0, .int .i64 0, .string ⟨#[]⟩, .slice none 0 0, .slice none 0 0] 32)).alloc (.cells #[] 3)).drew) ∧ ((w.alloc (.cells #[.int .i64 op, .int .i64 a, .int .i64 n, .string s, .slice ps set.length cps, .slice p len cap] 32)).alloc (.cells #[.int .i64 0, .int .i64 0, .int .i64 0, .string ⟨#[]⟩, .slice none 0 0, .slice none 0 0] 32)).heap.size ≤ w.heap.size + 1 + 1) := ⟨hbA, by rw [e0]; omega⟩
    have hbB : Below ((w.alloc (.cells #[.int .i64 op, .int .i64 a, .int .i64 n, .string s, .slice ps set.length cps, .slice p len cap] 32)).alloc (.cells #[.int .i64 0, .int .i64 0, .int .i64 0, .string ⟨#[]⟩, .slice none 0 0, .slice none 0 0] 32)).heap.size ((w.alloc (.cells #[.int .i64 op, .int .i64 a, .int .i64 n, .string s, .slice ps set.length cps, .slice p len cap] 32)).alloc (.cells #[.int .i64 0, .int .i64 0, .int .i64 0, .string ⟨#[]⟩, .slice none 0 0, .slice none 0 0] 32)) (((((w.alloc (.cells #[.int .i64 op, .int .i64 a, .int .i64 n, .string s, .slice ps set.length cps, .slice p len cap] 32)).alloc (.cells #[.int .i64 0, .int .i64 0, .int .i64 0, .string ⟨#[]⟩, .slice none 0 0, .slice none 0 0] 32)).alloc (.cells #[.int .i64 0, .int .i64 0, .int .i64 0, .string ⟨#[]⟩, .slice none 0 0, .slice none 0 0] 32)).alloc (.cells #[] 3)).drew) := ((newx _ _).trans ((newx _ _).mono (by rw [e1]; omega))).drew
    have HOB : Hid ((((((w.alloc (.cells #[.int .i64 op, .int .i64 a, .int .i64 n, .string s, .slice ps set.length cps, .slice p len cap] 32)).alloc (.cells #[.int .i64 0, .int .i64 0, .int .i64 0, .string ⟨#[]⟩, .slice none 0 0, .slice none 0 0] 32)).alloc (.cells #[.int .i64 0, .int .i64 0, .int .i64 0, .string ⟨#[]⟩, .slice none 0 0, .slice none 0 0] 32)).alloc (.cells #[] 3)).drew).ownsRow (w.heap.size + 2) 3 1 (.slice (some ⟨w.heap.size + 1 + 1 + 1, 0, none⟩) 0 0) 0 [] ∧ (ps = none → set.length = 0 ∧ cps = 0) ∧ ∀ ad, ps = some ad → ∀ j u, (set.map (Value.int .i64))[j]? = some u → (((((w.alloc (.cells #[.int .i64 op, .int .i64 a, .int .i64 n, .string s, .slice ps set.length cps, .slice p len cap] 32)).alloc (.cells #[.int .i64 0, .int .i64 0, .int .i64 0, .string ⟨#[]⟩, .slice none 0 0, .slice none 0 0] 32)).alloc (.cells #[.int .i64 0, .int .i64 0, .int .i64 0, .string ⟨#[]⟩, .slice none 0 0, .slice none 0 0] 32)).alloc (.cells #[] 3)).drew).cell? (ad.add j) = some u) := by
      have h1 : (((((w.alloc (.cells #[.int .i64 op, .int .i64 a, .int .i64 n, .string s, .slice ps set.length cps, .slice p len cap] 32)).alloc (.cells #[.int .i64 0, .int .i64 0, .int .i64 0, .string ⟨#[]⟩, .slice none 0 0, .slice none 0 0] 32)).alloc (.cells #[.int .i64 0, .int .i64 0, .int .i64 0, .string ⟨#[]⟩, .slice none 0 0, .slice none 0 0] 32)).alloc (.cells #[] 3)).drew).heap[w.heap.size + 1 + 1 + 1]? = some (.cells #[] 3 (0, 0)) := by
        have h2 := heap_alloc_new (((w.alloc (.cells #[.int .i64 op, .int .i64 a, .int .i64 n, .string s, .slice ps set.length cps, .slice p len cap] 32)).alloc (.cells #[.int .i64 0, .int .i64 0, .int .i64 0, .string ⟨#[]⟩, .slice none 0 0, .slice none 0 0] 32)).alloc (.cells #[.int .i64 0, .int .i64 0, .int .i64 0, .string ⟨#[]⟩, .slice none 0 0, .slice none 0 0] 32)) (.cells #[] 3)
        rw [e1] at h2
        exact h2
      exact ⟨own_empty h1 (by omega), (HRD.out.below (hb0.trans (hbB.mono (by omega)))).src⟩
    have HBB : Hid (Below ((w.alloc (.cells #[.int .i64 op, .int .i64 a, .int .i64 n, .string s, .slice ps set.length cps, .slice p len cap] 32)).alloc (.cells #[.int .i64 0, .int .i64 0, .int .i64 0, .string ⟨#[]⟩, .slice none 0 0, .slice none 0 0] 32)).heap.size ((w.alloc (.cells #[.int .i64 op, .int .i64 a, .int .i64 n, .string s, .slice ps set.length cps, .slice p len cap] 32)).alloc (.cells #[.int .i64 0, .int .i64 0, .int .i64 0, .string ⟨#[]⟩, .slice none 0 0, .slice none 0 0] 32)) (((((w.alloc (.cells #[.int .i64 op, .int .i64 a, .int .i64 n, .string s, .slice ps set.length cps, .slice p len cap] 32)).alloc (.cells #[.int .i64 0, .int .i64 0, .int .i64 0, .string ⟨#[]⟩, .slice none 0 0, .slice none 0 0] 32)).alloc (.cells #[.int .i64 0, .int .i64 0, .int .i64 0, .string ⟨#[]⟩, .slice none 0 0, .slice none 0 0] 32)).alloc (.cells #[] 3)).drew) ∧ ((w.alloc (.cells #[.int .i64 op, .int .i64 a, .int .i64 n, .string s, .slice ps set.length cps, .slice p len cap] 32)).alloc (.cells #[.int .i64 0, .int .i64 0, .int .i64 0, .string ⟨#[]⟩, .slice none 0 0, .slice none 0 0] 32)).heap.size ≤ w.heap.size + 1 + 1 + 1) := ⟨hbB, by rw [e0]; omega⟩
    have hbC : Below ((w.alloc (.cells #[.int .i64 op, .int .i64 a, .int .i64 n, .string s, .slice ps set.length cps, .slice p len cap] 32)).alloc (.cells #[.int .i64 0, .int .i64 0, .int .i64 0, .string ⟨#[]⟩, .slice none 0 0, .slice none 0 0] 32)).heap.size ((w.alloc (.cells #[.int .i64 op, .int .i64 a, .int .i64 n, .string s, .slice ps set.length cps, .slice p len cap] 32)).alloc (.cells #[.int .i64 0, .int .i64 0, .int .i64 0, .string ⟨#[]⟩, .slice none 0 0, .slice none 0 0] 32)) (((((w.alloc (.cells #[.int .i64 op, .int .i64 a, .int .i64 n, .string s, .slice ps set.length cps, .slice p len cap] 32)).alloc (.cells #[.int .i64 0, .int .i64 0, .int .i64 0, .string ⟨#[]⟩, .slice none 0 0, .slice none 0 0] 32)).alloc (.cells #[] 3)).alloc (.cells #[.int .i64 0, .int .i64 0, .int .i64 0, .string ⟨#[]⟩, .slice none 0 0, .slice none 0 0] 32)).drew) := ((newx _ _).trans ((newx _ _).mono (by rw [e1]; omega))).drew
    have HOC : Hid ((((((w.alloc (.cells #[.int .i64 op, .int .i64 a, .int .i64 n, .string s, .slice ps set.length cps, .slice p len cap] 32)).alloc (.cells #[.int .i64 0, .int .i64 0, .int .i64 0, .string ⟨#[]⟩, .slice none 0 0, .slice none 0 0] 32)).alloc (.cells #[] 3)).alloc (.cells #[.int .i64 0, .int .i64 0, .int .i64 0, .string ⟨#[]⟩, .slice none 0 0, .slice none 0 0] 32)).drew).ownsRow (w.heap.size + 2) 3 1 (.slice (some ⟨w.heap.size + 1 + 1, 0, none⟩) 0 0) 0 [] ∧ (ps = none → set.length = 0 ∧ cps = 0) ∧ ∀ ad, ps = some ad → ∀ j u, (set.map (Value.int .i64))[j]? = some u → (((((w.alloc (.cells #[.int .i64 op, .int .i64 a, .int .i64 n, .string s, .slice ps set.length cps, .slice p len cap] 32)).alloc (.cells #[.int .i64 0, .int .i64 0, .int .i64 0, .string ⟨#[]⟩, .slice none 0 0, .slice none 0 0] 32)).alloc (.cells #[] 3)).alloc (.cells #[.int .i64 0, .int .i64 0, .int .i64 0, .string ⟨#[]⟩, .slice none 0 0, .slice none 0 0] 32)).drew).cell? (ad.add j) = some u) := by
      have h1 : (((((w.alloc (.cells #[.int .i64 op, .int .i64 a, .int .i64 n, .string s, .slice ps set.length cps, .slice p len cap] 32)).alloc (.cells #[.int .i64 0, .int .i64 0, .int .i64 0, .string ⟨#[]⟩, .slice none 0 0, .slice none 0 0] 32)).alloc (.cells #[] 3)).alloc (.cells #[.int .i64 0, .int .i64 0, .int .i64 0, .string ⟨#[]⟩, .slice none 0 0, .slice none 0 0] 32)).drew).heap[w.heap.size + 1 + 1]? = some (.cells #[] 3 (0, 0)) := by
        have h2 := heap_alloc_new ((w.alloc (.cells #[.int .i64 op, .int .i64 a, .int .i64 n, .string s, .slice ps set.length cps, .slice p len cap] 32)).alloc (.cells #[.int .i64 0, .int .i64 0, .int .i64 0, .string ⟨#[]⟩, .slice none 0 0, .slice none 0 0] 32)) (.cells #[] 3)
        rw [e0] at h2
        exact (Below.heap_alloc _ _ _ (by rw [e1]; omega)).trans h2
      exact ⟨own_empty h1 (by omega), (HRD.out.below (hb0.trans (hbC.mono (by omega)))).src⟩
    have HBC : Hid (Below ((w.alloc (.cells #[.int .i64 op, .int .i64 a, .int .i64 n, .string s, .slice ps set.length cps, .slice p len cap] 32)).alloc (.cells #[.int .i64 0, .int .i64 0, .int .i64 0, .string ⟨#[]⟩, .slice none 0 0, .slice none 0 0] 32)).heap.size ((w.alloc (.cells #[.int .i64 op, .int .i64 a, .int .i64 n, .string s, .slice ps set.length cps, .slice p len cap] 32)).alloc (.cells #[.int .i64 0, .int .i64 0, .int .i64 0, .string ⟨#[]⟩, .slice none 0 0, .slice none 0 0] 32)) (((((w.alloc (.cells #[.int .i64 op, .int .i64 a, .int .i64 n, .string s, .slice ps set.length cps, .slice p len cap] 32)).alloc (.cells #[.int .i64 0, .int .i64 0, .int .i64 0, .string ⟨#[]⟩, .slice none 0 0, .slice none 0 0] 32)).alloc (.cells #[] 3)).alloc (.cells #[.int .i64 0, .int .i64 0, .int .i64 0, .string ⟨#[]⟩, .slice none 0 0, .slice none 0 0] 32)).drew) ∧ ((w.alloc (.cells #[.int .i64 op, .int .i64 a, .int .i64 n, .string s, .slice ps set.length cps, .slice p len cap] 32)).alloc (.cells #[.int .i64 0, .int .i64 0, .int .i64 0, .string ⟨#[]⟩, .slice none 0 0, .slice none 0 0] 32)).heap.size ≤ w.heap.size + 1 + 1) := ⟨hbC, by rw [e0]; omega⟩
    have H6B : Hid (Six (((((w.alloc (.cells #[.int .i64 op, .int .i64 a, .int .i64 n, .string s, .slice ps set.length cps, .slice p len cap] 32)).alloc (.cells #[.int .i64 0, .int .i64 0, .int .i64 0, .string ⟨#[]⟩, .slice none 0 0, .slice none 0 0] 32)).alloc (.cells #[.int .i64 0, .int .i64 0, .int .i64 0, .string ⟨#[]⟩, .slice none 0 0, .slice none 0 0] 32)).alloc (.cells #[] 3)).drew) (w.heap.size + 1 + 1) 0 0 0 ⟨#[]⟩ (.slice none 0 0) (.slice none 0 0) 32) := by
      have h2 := heap_alloc_new ((w.alloc (.cells #[.int .i64 op, .int .i64 a, .int .i64 n, .string s, .slice ps set.length cps, .slice p len cap] 32)).alloc (.cells #[.int .i64 0, .int .i64 0, .int .i64 0, .string ⟨#[]⟩, .slice none 0 0, .slice none 0 0] 32)) (.cells #[.int .i64 0, .int .i64 0, .int .i64 0, .string ⟨#[]⟩, .slice none 0 0, .slice none 0 0] 32)
      rw [e0] at h2
      exact (Below.heap_alloc _ _ _ (by rw [e1]; omega)).trans h2
    have H6C : Hid (Six (((((w.alloc (.cells #[.int .i64 op, .int .i64 a, .int .i64 n, .string s, .slice ps set.length cps, .slice p len cap] 32)).alloc (.cells #[.int .i64 0, .int .i64 0, .int .i64 0, .string ⟨#[]⟩, .slice none 0 0, .slice none 0 0] 32)).alloc (.cells #[] 3)).alloc (.cells #[.int .i64 0, .int .i64 0, .int .i64 0, .string ⟨#[]⟩, .slice none 0 0, .slice none 0 0] 32)).drew) (w.heap.size + 1 + 1 + 1) 0 0 0 ⟨#[]⟩ (.slice none 0 0) (.slice none 0 0) 32) := by
      have h2 := heap_alloc_new (((w.alloc (.cells #[.int .i64 op, .int .i64 a, .int .i64 n, .string s, .slice ps set.length cps, .slice p len cap] 32)).alloc (.cells #[.int .i64 0, .int .i64 0, .int .i64 0, .string ⟨#[]⟩, .slice none 0 0, .slice none 0 0] 32)).alloc (.cells #[] 3)) (.cells #[.int .i64 0, .int .i64 0, .int .i64 0, .string ⟨#[]⟩, .slice none 0 0, .slice none 0 0] 32)
      rw [e1] at h2
      exact h2
    have HA6 : Hid (Six ((w.alloc (.cells #[.int .i64 op, .int .i64 a, .int .i64 n, .string s, .slice ps set.length cps, .slice p len cap] 32)).alloc (.cells #[.int .i64 0, .int .i64 0, .int .i64 0, .string ⟨#[]⟩, .slice none 0 0, .slice none 0 0] 32)) w.heap.size op a n s (.slice ps set.length cps) (.slice p len cap) 32) := (Below.heap_alloc _ _ _ (by simp)).trans (heap_alloc_new w _)
    have HLM : Hid ((set.map (Value.int .i64)).length = set.length * 1) := by show _ = _; simp
    have HL1 : Hid (0 + set.length ≤ maxLen) := by show _ ≤ _; unfold maxLen; omega
    have HL2 : Hid ((0 + set.length) * 8 ≤ 140737488355328) := by show _ ≤ _; omega
    have HSZA : Hid (w.heap.size + 2 ≤ ((((w.alloc (.cells #[.int .i64 op, .int .i64 a, .int .i64 n, .string s, .slice ps set.length cps, .slice p len cap] 32)).alloc (.cells #[.int .i64 0, .int .i64 0, .int .i64 0, .string ⟨#[]⟩, .slice none 0 0, .slice none 0 0] 32)).alloc (.cells #[] 3)).drew).heap.size) := by show _ ≤ _; simp
    have HSZB : Hid (w.heap.size + 2 ≤ (((((w.alloc (.cells #[.int .i64 op, .int .i64 a, .int .i64 n, .string s, .slice ps set.length cps, .slice p len cap] 32)).alloc (.cells #[.int .i64 0, .int .i64 0, .int .i64 0, .string ⟨#[]⟩, .slice none 0 0, .slice none 0 0] 32)).alloc (.cells #[.int .i64 0, .int .i64 0, .int .i64 0, .string ⟨#[]⟩, .slice none 0 0, .slice none 0 0] 32)).alloc (.cells #[] 3)).drew).heap.size) := by show _ ≤ _; simp
    have HSZC : Hid (w.heap.size + 2 ≤ (((((w.alloc (.cells #[.int .i64 op, .int .i64 a, .int .i64 n, .string s, .slice ps set.length cps, .slice p len cap] 32)).alloc (.cells #[.int .i64 0, .int .i64 0, .int .i64 0, .string ⟨#[]⟩, .slice none 0 0, .slice none 0 0] 32)).alloc (.cells #[] 3)).alloc (.cells #[.int .i64 0, .int .i64 0, .int .i64 0, .string ⟨#[]⟩, .slice none 0 0, .slice none 0 0] 32)).drew).heap.size) := by show _ ≤ _; simp
    clear hbA hbB hbC hb0 e0 e1
    go_enter Tryz.func37, Tryz.ntmps37
    go_upto_region 1 with fail
    go_cut [3] from 5 (fun v5 wx => ∃ (O B : Nat) (sv : Value), v5 = .pointer (some ⟨O, 0, none⟩) ∧ XLoop [] w wx B w.heap.size (w.heap.size + 1) O (.cells #[.int .i64 op, .int .i64 a, .int .i64 n, .string s, .slice ps set.length cps, .slice p len cap] 32) op a n s set sv kid 0 (.slice none 0 0) [] [])
    case first =>
      go_region_held3 (fun w' => w'.cell? ⟨w.heap.size, 0, none⟩ = some (.int .i64 op) ∧ w'.cell? ⟨w.heap.size, 1, none⟩ = some (.int .i64 a) ∧ w'.cell? ⟨w.heap.size, 2, none⟩ = some (.int .i64 n) ∧ w'.cell? ⟨w.heap.size, 3, none⟩ = some (.string s) ∧ w'.cell? ⟨w.heap.size, 4, none⟩ = some (.slice ps set.length cps)) (first | go_keep | (with_reducible exact hS4) | (with_reducible exact hSP)) (first
        | (refine step_append_any rfl (.tmp 13) (.tmp 15) 22 rfl (w.heap.size + 2) 3 iI (.int .i64 0) 1 8 Tryz.underlying22 hiI hzI0 hzI1 hzI2 rfl Nat.one_pos (.slice (some ⟨w.heap.size + 1 + 1, 0, none⟩) 0 0) 0 [] rfl ?_ ps set.length cps (set.map (Value.int .i64)) rfl HLM.out HOA.out.2.1 ?_ (ints_cells set) HL1.out HL2.out ?_ ?_; (with_reducible exact HOA.out.1); (with_reducible exact HOA.out.2.2); exact HSZA.out; intro v' w4 hown4 hg4; have hR := own_grown HBA.out.1 HBA.out.2 hown4.out hg4.out; obtain ⟨pv, cv, hv⟩ := own_shape hR.1; subst hv; have hA4 := HA6.out.below hR.2; have hS4 := five_of hA4; clear hA4; have HEND : Hid (∃ (O B : Nat) (sv : Value), Value.pointer (some ⟨w4.heap.size, 0, none⟩) = .pointer (some ⟨O, 0, none⟩) ∧ XLoop [] w (w4.alloc (.cells #[.int .i64 op, .int .i64 a, .int .i64 n, .string s, .slice pv set.length cv, .slice none 0 0] 32)) B w.heap.size (w.heap.size + 1) O (.cells #[.int .i64 op, .int .i64 a, .int .i64 n, .string s, .slice ps set.length cps, .slice p len cap] 32) op a n s set sv kid 0 (.slice none 0 0) [] []) := pt_ex (start_alloc _ hR.2 hR.1); clear hown4 hg4 hR)
        | (refine step_append_any rfl (.tmp 13) (.tmp 15) 22 rfl (w.heap.size + 2) 3 iI (.int .i64 0) 1 8 Tryz.underlying22 hiI hzI0 hzI1 hzI2 rfl Nat.one_pos (.slice (some ⟨w.heap.size + 1 + 1 + 1, 0, none⟩) 0 0) 0 [] rfl ?_ ps set.length cps (set.map (Value.int .i64)) rfl HLM.out HOA.out.2.1 ?_ (ints_cells set) HL1.out HL2.out ?_ ?_; (with_reducible exact HOB.out.1); (with_reducible exact HOB.out.2.2); exact HSZB.out; intro v' w4 hown4 hg4; have hR := own_grown HBB.out.1 HBB.out.2 hown4.out hg4.out; obtain ⟨pv, cv, hv⟩ := own_shape hR.1; subst hv; have hA4 := HA6.out.below hR.2; have hS4 := five_of hA4; have hSP := five_of (six_put (g := w.heap.size + 1 + 1) hA4 op a n s (.slice pv set.length cv) (.slice none 0 0) (by omega)); clear hA4; have h6 := H6B.out.grown hg4.out (by omega); obtain ⟨q0, q1, q2, q3, q4, q5⟩ := h6.cells; have qf := h6.fr; have HEND : Hid (∃ (O B : Nat) (sv : Value), Value.pointer (some ⟨w.heap.size + 1 + 1, 0, none⟩) = .pointer (some ⟨O, 0, none⟩) ∧ XLoop [] w (put6 w4 (w.heap.size + 1 + 1) op a n s (.slice pv set.length cv) (.slice none 0 0)) B w.heap.size (w.heap.size + 1) O (.cells #[.int .i64 op, .int .i64 a, .int .i64 n, .string s, .slice ps set.length cps, .slice p len cap] 32) op a n s set sv kid 0 (.slice none 0 0) [] []) := pt_ex (start_put _ hR.2 hR.1 (by omega) h6 (own_ne6 hR.1 h6)); clear h6; clear hown4 hg4 hR)
        | (refine step_append_any rfl (.tmp 13) (.tmp 15) 22 rfl (w.heap.size + 2) 3 iI (.int .i64 0) 1 8 Tryz.underlying22 hiI hzI0 hzI1 hzI2 rfl Nat.one_pos (.slice (some ⟨w.heap.size + 1 + 1, 0, none⟩) 0 0) 0 [] rfl ?_ ps set.length cps (set.map (Value.int .i64)) rfl HLM.out HOA.out.2.1 ?_ (ints_cells set) HL1.out HL2.out ?_ ?_; (with_reducible exact HOC.out.1); (with_reducible exact HOC.out.2.2); exact HSZC.out; intro v' w4 hown4 hg4; have hR := own_grown HBC.out.1 HBC.out.2 hown4.out hg4.out; obtain ⟨pv, cv, hv⟩ := own_shape hR.1; subst hv; have hA4 := HA6.out.below hR.2; have hS4 := five_of hA4; have hSP := five_of (six_put (g := w.heap.size + 1 + 1 + 1) hA4 op a n s (.slice pv set.length cv) (.slice none 0 0) (by omega)); clear hA4; have h6 := H6C.out.grown hg4.out (by omega); obtain ⟨q0, q1, q2, q3, q4, q5⟩ := h6.cells; have qf := h6.fr; have HEND : Hid (∃ (O B : Nat) (sv : Value), Value.pointer (some ⟨w.heap.size + 1 + 1 + 1, 0, none⟩) = .pointer (some ⟨O, 0, none⟩) ∧ XLoop [] w (put6 w4 (w.heap.size + 1 + 1 + 1) op a n s (.slice pv set.length cv) (.slice none 0 0)) B w.heap.size (w.heap.size + 1) O (.cells #[.int .i64 op, .int .i64 a, .int .i64 n, .string s, .slice ps set.length cps, .slice p len cap] 32) op a n s set sv kid 0 (.slice none 0 0) [] []) := pt_ex (start_put _ hR.2 hR.1 (by omega) h6 (own_ne6 hR.1 h6)); clear h6; clear hown4 hg4 hR))
      all_goals
        go_wp2_with fail
        go_meet
        exact HEND.out
    case rest =>
      obtain ⟨O, B0, sv0, rfl, hL0⟩ := hcut
      have H00 : Hid (XLoop [] w wc B0 w.heap.size (w.heap.size + 1) O (.cells #[.int .i64 op, .int .i64 a, .int .i64 n, .string s, .slice ps set.length cps, .slice p len cap] 32) op a n s set sv0 kid 0 (.slice none 0 0) [] []) := hL0
      clear hL0 HOA HOB HOC HBA HBB HBC H6B H6C HA6 HSZA HSZB HSZC HLM HL1 HL2
      obtain ⟨C, hC⟩ : ∃ C, C = w.heap.size := ⟨_, rfl⟩
      obtain ⟨R, hR⟩ : ∃ R, R = w.heap.size + 1 := ⟨_, rfl⟩
      have HH0 : Hid (XLoop [] w wc B0 C R O (.cells #[.int .i64 op, .int .i64 a, .int .i64 n, .string s, .slice ps set.length cps, .slice p len cap] 32) op a n s set sv0 kid 0 (.slice none 0 0) [] []) := by
        show XLoop _ _ _ _ _ _ _ _ _ _ _ _ _ _ _ _ _ _ _
        rw [hR, hC]; exact H00.out
      clear H00
      rw [← hR, ← hC]
      have hCO : C ≠ O := HH0.out.ord.2.2.2.2.2.2.2.1
      have hRO : R ≠ O := HH0.out.ord.2.2.2.2.2.2.2.2
      clear hC hR
      go_wp2_with fail
      go_loopw [4] (fun v4 wr => ∃ (k : Nat) (lv : Value) (la : List XR) (SS : List (List Nat)), v4 = .int .i64 k ∧ k ≤ len ∧ XLoop [] w wr B0 C R O (.cells #[.int .i64 op, .int .i64 a, .int .i64 n, .string s, .slice ps set.length cps, .slice p len cap] 32) op a n s set sv0 kid k lv la SS) (fun v4 _ => len - (intOf v4).toNat)
      case atStart => exact ⟨0, _, _, _, rfl, Nat.zero_le _, HH0.out⟩
      case round =>
        obtain ⟨k, lv, la, SS, rfl, hk, hL⟩ := hrel
        have HL : Hid (XLoop [] w wr B0 C R O (.cells #[.int .i64 op, .int .i64 a, .int .i64 n, .string s, .slice ps set.length cps, .slice p len cap] 32) op a n s set sv0 kid k lv la SS) := hL
        have hA : Six wr C op a n s (.slice ps set.length cps) (.slice p len cap) 32 := hL.arg
        have a4 := hA.cells.2.2.2.2.2
        obtain ⟨o0, o1, o2, o3, o4, o5⟩ := hL.out.cells
        clear hL HH0
        by_cases hkl : (k : Int) < len
        · obtain ⟨b, o, ux, u, hp, hd, hinu⟩ := HAT.out k (by omega)
          subst hp
          obtain ⟨c0, c1, c2, c3, c4, c5⟩ := hd.below HL.out.bel.toBelow
          have HIN : Hid ((kid k).At 0 wr.drew ux u) := X.At.below (Below.refl _ wr).drew (X.At.below HL.out.bel.toBelow hinu)
          have HKL : Hid (k < len) := by show k < len; omega
          have HOWN : Hid (wr.ownsRow 0 32 6 lv k (xrows la)) := HL.out.rows.own
          have hOl : O < wr.heap.size := HL.out.out.lt
          have hCl : C < wr.heap.size := hA.lt
          have hbl : b < wr.heap.size := World.block_lt_of_cell? wr _ c0
          clear hd hinu hA
          have hki0 : (0 : Int) ≤ (k : Int) := by omega
          have HCF : Hid (∀ (vs : Array Value) (w : World), (callFunc 37 vs).run Tryz.prog w = .ok (.enter 37 vs) w) := fun vs w => copyX_enter vs w
          go_wp2_with fail
          go_region_law
            (first
              | (refine step_call1 rfl 37 (.tmp 31) 32 rfl HCF.out (.agg #[.int .i64 (kid k).op, .int .i64 (kid k).at_, .int .i64 (kid k).n, .string (kid k).s, ux, u]) rfl _ (IH.out k HKL.out wr.drew ux u HIN.out) ?_; rintro e w1 ⟨su', v', T, rfl, hb1, hd1, hn1, hT1⟩; refine ⟨_, rfl, ?_⟩; have HC1 : Hid (Below wr.heap.size wr w1 ∧ XOwn w1 (kid k) su' v' T ∧ T.Nodup ∧ ∀ x ∈ T, wr.heap.size ≤ x) := ⟨⟨hb1.os, hb1.tape, hb1.output, hb1.size, hb1.block⟩, hd1, hn1, hT1⟩; obtain ⟨pv, cv, hv'⟩ := hd1.at0.xs.shape; obtain ⟨pw, cw, hw'⟩ := hd1.at0.sets.shape; subst hv' hw'; have z4 : w1.cell? ⟨O, 5, none⟩ = some lv := (HC1.out.1.cell (by exact hOl)).trans o5; have z5 : ∀ ob, (w1.alloc ob).cell? ⟨O, 5, none⟩ = some lv := fun ob => ((newx w1 ob).cell (by exact Nat.lt_of_lt_of_le hOl HC1.out.1.size)).trans z4; have y4 : w1.cell? ⟨C, 5, none⟩ = some (.slice (some ⟨b, o, none⟩) len cap) := (HC1.out.1.cell (by exact hCl)).trans a4; have HO1 : Hid (w1.ownsRow 0 32 6 lv k (xrows la)) := own_belowX HOWN.out HC1.out.1; clear hb1 hd1 hn1 hT1)
              | (refine step_append_lies _ (by rfl) _ _ _ (by rfl) 0 32 i0 _ 6 88 Tryz.underlying30 hi0 hz0 hz1 hz2 rfl (by omega) lv k (xrows la) (by rfl) (HO1.out.alloc _) ⟨w1.heap.size, 0, none⟩ 1 1 [.int .i64 (kid k).op, .int .i64 (kid k).at_, .int .i64 (kid k).n, .string (kid k).s, .slice pw (kid k).set.length cw, .slice pv (kid k).len cv] (by rfl) (by rfl) (World.news_of_block (cs := #[.int .i64 (kid k).op, .int .i64 (kid k).at_, .int .i64 (kid k).n, .string (kid k).s, .slice pw (kid k).set.length cw, .slice pv (kid k).len cv]) (t := 32) (fr := (0, 0)) (heap_alloc_new w1 _)) (by simp [Value.oneCell']) (by omega) (by unfold maxLen; omega) (by omega) (Nat.zero_le _) (w1.heap.size + 1) (by simp) ?_; intro gg cap3 w3 hown3 hgrow hat hlt3; obtain ⟨hO3, hnx⟩ := HL.out.next (Fr.below HC1.out.1 []) HC1.out.2.1 HC1.out.2.2.1 HC1.out.2.2.2 (by rw [copyX_cells]; exact hown3) hgrow hat; have HNX : Hid (XLoop [] w (w3.setCell ⟨O, 5, none⟩ (.slice (some ⟨gg, 0, none⟩) (k + 1) cap3)) B0 C R O (.cells #[.int .i64 op, .int .i64 a, .int .i64 n, .string s, .slice ps set.length cps, .slice (some ⟨b, o, none⟩) len cap] 32) op a n s set sv0 kid (k + 1) (.slice (some ⟨gg, 0, none⟩) (k + 1) cap3) (la ++ [(kid k, .slice pw (kid k).set.length cw, .slice pv (kid k).len cv)]) (SS ++ [T])) := hnx; have x4 : w3.cell? ⟨O, 5, none⟩ = some lv := (World.cell?_of_block (a := ⟨O, 5, none⟩) hO3).trans o5; have xf : w3.frozen? ⟨O, 5, none⟩ = false := (World.frozen?_of_block (a := ⟨O, 5, none⟩) hO3).trans (HL.out.out.fr 5); clear hO3 hnx hown3 hgrow hat hlt3))
          all_goals
            go_wp2_with fail
            go_roundw
            case rel => exact ⟨k + 1, _, _, _, by go_num, by omega, HNX.out⟩
            case measure => simp [intOf]; omega
        · obtain rfl : k = len := by omega
          obtain ⟨r0, r1, r2, r3, r4, r5⟩ := HL.out.res.cells
          have rf := HL.out.res.fr
          obtain ⟨hfr, S, hX, hSn, hSg⟩ := HL.out.done ⟨HPL.out.1, HPL.out.2, HYL.out⟩
          obtain ⟨pv, cv, hlv⟩ := hX.at0.xs.shape
          obtain ⟨pw, cw, hsv⟩ := hX.at0.sets.shape
          simp only [X.len, X.set] at hlv hsv
          subst hlv hsv
          have HS : Hid (Fr [] w (put6 wr R op a n s (.slice pw set.length cw) (.slice pv k cv)) ∧ XOwn (put6 wr R op a n s (.slice pw set.length cw) (.slice pv k cv)) (.mk op a n s set k kid) (.slice pw set.length cw) (.slice pv k cv) S ∧ S.Nodup ∧ ∀ x ∈ S, w.heap.size ≤ x) := ⟨hfr, hX, hSn, hSg⟩
          clear hfr hX hSn hSg HL HAT IH
          go_wp2_with fail
          refine bodyPost_ret (v := .agg #[.int .i64 op, .int .i64 a, .int .i64 n, .string s, .slice pw set.length cw, .slice pv k cv]) (by rw [results_cellX (p := 2) (ty := 32) (by kernel_rfl)]; simp [go_sem, r0, r1, r2, r3, r4, r5]) rfl ⟨_, _, rfl, HS.out.1.toBelow, S, HS.out.2.1, HS.out.2.2.1, HS.out.2.2.2⟩
end Go.Proofs.YtlclfmjpnchmbaaGreat

/- spec.l7Match, out of itself for the kids and spec.l7Each. Condition: at most 2^20 of it. Written by wip/tools/mkspecmatch.py. -/
namespace Go.Proofs.YtlclfmjpnchmbaaGreat
open Go.ChangeShapes Go.WideShapes Go.ChangeAt Go.RowKit

theorem match_enter (vs : Array Value) (w : World) : (callFunc 17 vs).run Tryz.prog w = .ok (.enter 17 vs) w := by kernel_rfl
theorem each_enter (vs : Array Value) (w : World) : (callFunc 38 vs).run Tryz.prog w = .ok (.enter 38 vs) w := by kernel_rfl
/-- What the specification answers. -/
def SPost (w : World) (m : Option (List G)) (e : Ending) (w' : World) : Prop := Below w.heap.size w w' ∧ ∃ v ok, e = .returned (.tuple #[v, .bool ok]) ∧ ((∃ l, m = some l ∧ ok = true ∧ GN w' w.heap.size v l ∧ v.ownBlock ≠ none) ∨ (m = none ∧ ok = false))
def EPost (w : World) (m : Option (List G)) (e : Ending) (w' : World) : Prop := Below w.heap.size w w' ∧ ∃ v ok, e = .returned (.tuple #[v, .bool ok]) ∧ (∃ k xs, w'.ownsRow w.heap.size 48 9 v k xs ∧ k ≤ 1048577 ∧ ∀ u ∈ xs, u.oneCell' = true) ∧ ((∃ l, m = some l ∧ ok = true ∧ GN w' w.heap.size v l) ∨ (m = none ∧ ok = false))
def SMatchAt (p : X) : Prop := ∀ (x : X) (w : World) (su u sx ux : Value), p.At 0 w su u → x.At 0 w sx ux → p.weight ≤ 1048576 → x.weight ≤ 1048576 → okG p → (keysD (namesD p 0)).Nodup →
  Calls Tryz.prog 17 #[.agg #[.int .i64 p.op, .int .i64 p.at_, .int .i64 p.n, .string p.s, su, u], .agg #[.int .i64 x.op, .int .i64 x.at_, .int .i64 x.n, .string x.s, sx, ux]] w fun e w' => SPost w (matchG p x) e w'
def SEachAt (p : X) : Prop := ∀ (n : Nat) (kid : Nat → X) (w : World) (su u v : Value), p.At 0 w su u → XsAt 0 w n kid v → p.weight ≤ 1048576 → (∀ i, i < n → (kid i).weight ≤ 1048576) → n ≤ 1048576 → okG p → (keysD (namesD p 0)).Nodup →
  Calls Tryz.prog 38 #[.agg #[.int .i64 p.op, .int .i64 p.at_, .int .i64 p.n, .string p.s, su, u], v] w fun e w' => EPost w (eachG (namesD p 0) (fun j => matchG p (kid j)) n) e w'

theorem okG_op {p : X} (h : okG p) : (p.op = 1 ∨ p.op = 2 ∨ p.op = 3) := by
  cases p with
  | no => exact h.elim
  | mk op a n s set len kid => exact h.1
theorem once_at {p : X} (h : (keysD (namesD p 0)).Nodup) {i : Nat} (hi : i < p.len) : (keysD (namesD (p.kid i) 0)).Nodup := by
  cases p with
  | no => exact absurd hi (Nat.not_lt_zero _)
  | mk op a n s set len kid => exact once_kid h hi
theorem kid_weight {p : X} {i : Nat} (hi : i < p.len) : (p.kid i).weight + p.len ≤ p.weight := by
  cases p with
  | no => exact absurd hi (Nat.not_lt_zero _)
  | mk op a n s set len kid =>
    have h1 := sumX_at (fun i => (kid i).weight) i len hi
    have hwe : (X.mk op a n s set len kid).weight = s.size + (set.length + (len + sumX (fun i => (kid i).weight) len)) := rfl
    simp only [X.len, X.kid]
    omega
theorem len_weight (p : X) : p.len ≤ p.weight := by
  cases p with
  | no => exact Nat.zero_le _
  | mk op a n s set len kid =>
    have hwe : (X.mk op a n s set len kid).weight = s.size + (set.length + (len + sumX (fun i => (kid i).weight) len)) := rfl
    simp only [X.len]
    omega
theorem matchTo_no {f : Nat → Option (List G)} {k n : Nat} (hk : k < n) (h : f k = none) : matchTo f n = none := by
  induction n with
  | zero => omega
  | succ n ih =>
    simp only [matchTo]
    rcases Nat.lt_or_ge k n with h1 | h1
    · rw [ih h1]; rfl
    · have : k = n := by omega
      subst this
      rw [h]
      cases matchTo f k <;> rfl
theorem eachG_len {ns : List (ByteArray × Int)} {f : Nat → Option (List G)} {n : Nat} {l : List G} (h : eachG ns f n = some l) : l.length = ns.length := by
  unfold eachG at h
  split at h
  · injection h with h
    rw [← h, colG_len]
  · cases h
theorem names_most (p : X) (hp : p.weight ≤ 1048576) {k : Nat} (hk : k ≤ p.len) : namesTo p.kid k ≤ 1048577 := by
  have h1 := namesTo_in p hk
  have h2 := namesD_len p 0
  have h3 := p.count_weight
  omega
theorem match_sym {p x : X} (h2 : p.op = 2) : matchG p x = some (if (p.s.toList == lineL) = true then [] else [oneG p.s x]) := by
  cases p with
  | no => simp [X.op] at h2
  | mk op a n s set len kid => have h2' : op = 2 := h2; rw [matchG, if_pos h2']; rfl
theorem match_num {p x : X} (h1 : p.op = 1) : matchG p x = if x.op = 1 ∧ x.n = p.n then some [] else none := by
  cases p with
  | no => simp [X.op] at h1
  | mk op a n s set len kid => have h1' : op = 1 := h1; rw [matchG, if_neg (by omega), if_pos h1']; rfl
theorem match_other {p x : X} (h3 : p.op = 3) (hx : x.op ≠ 3) : matchG p x = none := by
  cases p with
  | no => rfl
  | mk op a n s set len kid => have h3' : op = 3 := h3; rw [matchG, if_neg (by omega), if_neg (by omega), if_neg (fun h => hx h.2)]

set_option maxRecDepth 100000 in
set_option maxHeartbeats 8000000 in
theorem spec_match_at (p : X) (hk : ∀ i, i < p.len → SMatchAt (p.kid i)) (he : ∀ i, i < p.len → SEachAt (p.kid i)) : SMatchAt p := by
  intro x w su u sx ux hp hx hpw hxw hok hnd
  have HPX : Hid (p.At 0 w su u ∧ x.At 0 w sx ux) := ⟨hp, hx⟩
  obtain ⟨pu, cu, e1, _, hat⟩ := hp.xs.at
  obtain ⟨ps, cs, e2⟩ := hp.sets.shape
  obtain ⟨px, cx, e3, _, hax⟩ := hx.xs.at
  obtain ⟨pz, cz, e4⟩ := hx.sets.shape
  subst e1 e2 e3 e4
  have HAT : Hid (∀ i, i < p.len → ∃ b o sv u, pu = some ⟨b, o, none⟩ ∧ Head6 w b (o + i * 6) (p.kid i) sv u ∧ (p.kid i).At 0 w sv u) := hat
  have HAX : Hid (∀ i, i < x.len → ∃ b o sv u, px = some ⟨b, o, none⟩ ∧ Head6 w b (o + i * 6) (x.kid i) sv u ∧ (x.kid i).At 0 w sv u) := hax
  have HK : Hid (∀ i, i < p.len → SMatchAt (p.kid i)) := hk
  have HE : Hid (∀ i, i < p.len → SEachAt (p.kid i)) := he
  have HW : Hid (p.weight ≤ 1048576 ∧ x.weight ≤ 1048576 ∧ okG p ∧ (keysD (namesD p 0)).Nodup) := ⟨hpw, hxw, hok, hnd⟩
  have hpl := len_weight p
  have hxl := len_weight x
  have hop := okG_op hok
  have hp1 : p.len ≤ 1048576 := by omega
  have hx1 : x.len ≤ 1048576 := by omega
  obtain ⟨m, hm⟩ : ∃ m, m = matchG p x := ⟨_, rfl⟩
  have HM : Hid (m = matchG p x) := hm
  rw [← hm]
  clear hm hat hax hk he hok hnd hp hx hpl hxl hpw hxw
  obtain ⟨W, hW, a0, a1, a2, asz, ab⟩ := three_new w (.cells #[.int .i64 p.op, .int .i64 p.at_, .int .i64 p.n, .string p.s, .slice ps p.set.length cs, .slice pu p.len cu] 32) (.cells #[.int .i64 x.op, .int .i64 x.at_, .int .i64 x.n, .string x.s, .slice pz x.set.length cz, .slice px x.len cx] 32) (.cells #[] 48)
  obtain ⟨N, hN⟩ : ∃ N, N = w.heap.size := ⟨_, rfl⟩
  have HN : Hid (N = w.heap.size) := hN
  rw [← hN] at a0 a1 a2 asz ab
  have KW : Hid (∀ wx, Below (N + 2) W wx → Below w.heap.size w wx ∧ Six wx N p.op p.at_ p.n p.s (.slice ps p.set.length cs) (.slice pu p.len cu) 32 ∧ Six wx (N + 1) x.op x.at_ x.n x.s (.slice pz x.set.length cz) (.slice px x.len cx) 32) := fun wx hx => ⟨by rw [← hN]; exact ab.trans (hx.mono (by omega)), (hx.block N (by omega)).trans a0, (hx.block (N + 1) (by omega)).trans a1⟩
  have HG0 : Hid (GN W (N + 2) (.slice (some ⟨N + 2, 0, none⟩) 0 0) [] ∧ W.heap.size = N + 3) := ⟨GN.empty a2 (Nat.le_refl _), asz⟩
  have HHD : Hid (∀ wx, Below (N + 2) W wx → ∀ t su u b q, Head6 w b q t su u → Head6 wx b q t su u) := fun wx hx t su u b q h => h.below (KW.out wx hx).1
  clear a0 a1 a2 asz ab
  obtain ⟨x0, x1, x2, x3, x4, x5⟩ := (KW.out W (Below.refl _ _)).2.1.cells
  obtain ⟨y0, y1, y2, y3, y4, y5⟩ := (KW.out W (Below.refl _ _)).2.2.cells
  obtain ⟨i0, hi0, hz0, hz1, hz2⟩ := info_parts got_info
  have HEND : Hid (∀ wx v A, Below (N + 2) W wx → GN wx (N + 2) v A → v.ownBlock ≠ none → m = some A → SPost w m (.returned (.tuple #[v, .bool true])) wx) := fun wx v A h1 h2 h4 h3 => ⟨(KW.out wx h1).1, v, true, rfl, .inl ⟨A, h3, rfl, h2.mono (by rw [← hN]; omega), h4⟩⟩
  have HBAD : Hid (∀ wx v, Below (N + 2) W wx → m = none → SPost w m (.returned (.tuple #[v, .bool false])) wx) := fun wx v h1 h3 => ⟨(KW.out wx h1).1, v, false, rfl, .inr ⟨h3, rfl⟩⟩
  have HWW := hid_ofD hW
  clear hW hN
  go_enter Tryz.func17, Tryz.ntmps17
  rcases hop with ho | ho | ho
  · -- a number
    have t2 : (p.op == 2) = false := by rw [ho]; rfl
    have t1 : (p.op == 1) = true := by rw [ho]; rfl
    have HMN : Hid (m = if x.op = 1 ∧ x.n = p.n then some [] else none) := by show _ = _; rw [HM.out, match_num ho]
    clear ho
    cases h1 : (x.op == 1)
    · have HB : Hid (m = none) := by show _ = _; rw [HMN.out, if_neg (fun h => by rw [h.1] at h1; cases h1)]
      go_wp2_with fail
      go_quiet (fail)
      go_wp2_with fail
      go_ret2
      rw [HWW.out]
      exact HBAD.out _ _ ⟨rfl, rfl, rfl, Nat.le_refl _, fun _ _ => rfl⟩ HB.out
    · cases h2 : (x.n == p.n)
      · have HB : Hid (m = none) := by show _ = _; rw [HMN.out, if_neg (fun h => by rw [h.2] at h2; simp at h2)]
        go_wp2_with fail
        go_quiet (fail)
        go_wp2_with fail
        go_ret2
        rw [HWW.out]
        exact HBAD.out _ _ ⟨rfl, rfl, rfl, Nat.le_refl _, fun _ _ => rfl⟩ HB.out
      · have HB : Hid (m = some []) := by show _ = _; rw [HMN.out, if_pos ⟨by simpa using h1, by simpa using h2⟩]
        go_wp2_with fail
        go_quiet (fail)
        go_wp2_with fail
        go_ret2
        rw [HWW.out, ← HN.out]
        exact HEND.out _ (.slice (some ⟨N + 2, 0, none⟩) 0 0) _ ⟨rfl, rfl, rfl, Nat.le_refl _, fun _ _ => rfl⟩ (HG0.out.1.same (fun _ _ _ => rfl)) (by simp [Value.ownBlock]) HB.out
  · -- a symbol
    have t2 : (p.op == 2) = true := by rw [ho]; rfl
    have HMS := HM.out
    rw [match_sym ho] at HMS
    clear ho
    cases hl : (p.s.toList == [95])
    · have HMT : Hid (m = some [oneG p.s x]) := by rw [HMS, show (p.s.toList == lineL) = false from hl]; rfl
      clear HMS
      go_wp2_with fail
      rw [HWW.out, ← HN.out]
      simp only [show N + 1 + 1 = N + 2 from rfl]
      have HS0 : Below (N + 2) W W.drew := (Below.refl _ W).drew
      refine wp_region_held_drew (S := fun wq => Below (N + 2) W wq) (by kernel_rfl) HS0 (fun _ => ?_)
      refine wpAnyH_take (i := 0) (oi := { dst := some 22, op := Op.move (Operand.tmp 6), type := 27, pos := "l07_match.go:89", after := #[], guard := none }) (v := .slice (some ⟨N + 2, 0, none⟩) 0 0) rfl (by kernel_rfl) (by kernel_rfl) (by kernel_rfl) (fun _ _ _ h => h) (Or.inl ⟨by rfl, ?_⟩) HS0 ?_
      · intro wq hSq
        clear hSq
        go_simp
      try simp only [Act.put, List.setIfInBounds_toArray, List.set_cons_zero, List.set_cons_succ]
      refine wpAnyH_take (i := 1) (oi := { dst := some 23, op := Op.fieldAddr 32 (Operand.tmp 2) 3, type := 0, pos := "l07_match.go:89", after := #[], guard := none }) (v := .pointer (some ⟨N, 3, none⟩)) rfl (by kernel_rfl) (by kernel_rfl) (by kernel_rfl) (fun _ _ _ h => h) (Or.inl ⟨by rfl, ?_⟩) HS0 ?_
      · intro wq hSq
        clear hSq
        go_simp
      try simp only [Act.put, List.setIfInBounds_toArray, List.set_cons_zero, List.set_cons_succ]
      refine wpAnyH_take (i := 2) (oi := { dst := some 24, op := Op.load 9 (Operand.tmp 23), type := 9, pos := "l07_match.go:89", after := #[{ on := 1, ground := Ground.data }], guard := none }) (v := .string p.s) rfl (by kernel_rfl) (by kernel_rfl) (by kernel_rfl) (fun _ _ _ h => h) (Or.inl ⟨by rfl, ?_⟩) HS0 ?_
      · intro wq hSq
        obtain ⟨f00, f01, f02, f03, f04, f05⟩ := (KW.out wq hSq).2.1.cells
        clear hSq
        go_simp
      try simp only [Act.put, List.setIfInBounds_toArray, List.set_cons_zero, List.set_cons_succ]
      refine wpAnyH_take (i := 3) (oi := { dst := some 25, op := Op.load 32 (Operand.tmp 3), type := 32, pos := "l07_match.go:89", after := #[], guard := none }) (v := .agg #[.int .i64 x.op, .int .i64 x.at_, .int .i64 x.n, .string x.s, .slice pz x.set.length cz, .slice px x.len cx]) rfl (by kernel_rfl) (by kernel_rfl) (by kernel_rfl) (fun _ _ _ h => h) (Or.inl ⟨by rfl, ?_⟩) HS0 ?_
      · intro wq hSq
        obtain ⟨f00, f01, f02, f03, f04, f05⟩ := (KW.out wq hSq).2.2.cells
        clear hSq
        go_simp
      try simp only [Act.put, List.setIfInBounds_toArray, List.set_cons_zero, List.set_cons_succ]
      refine wpAnyH_ready (rs := [4]) (by kernel_rfl) (by simp) ?_
      refine AllReadyH.cons (o := { dst := some 26, op := Op.call { callee := Callee.value (Operand.func 37), args := #[Operand.tmp 25], argTypes := #[32] }, type := 32, pos := "l07_match.go:89", after := #[{ on := 3, ground := Ground.data }], guard := none }) rfl (fun KK hK => ?_) AllReadyH.nil
      refine step_call1 rfl 37 (.tmp 25) 32 rfl copyX_enter (.agg #[.int .i64 x.op, .int .i64 x.at_, .int .i64 x.n, .string x.s, .slice pz x.set.length cz, .slice px x.len cx]) rfl _ (copyX_all x W.drew _ _ (HPX.out.2.below (KW.out _ (Below.refl _ W).drew).1) HW.out.2.1) ?_
      rintro e w1 ⟨su', u', T, rfl, hb1, hown, hnT, hgT⟩
      obtain ⟨pd, cd, hd⟩ := hown.at0.sets.shape
      obtain ⟨pe, ce, hee⟩ := hown.at0.xs.shape
      subst hd hee
      have HS1 : Below W.heap.size W w1 := ⟨hb1.os, hb1.tape, hb1.output, hb1.size, hb1.block⟩
      have HS2 : Below (N + 2) W w1 := HS1.mono (by have := HG0.out.2; omega)
      have HG1 : Hid (GOwn w1 (oneG p.s x) (.slice pd x.set.length cd) (.slice pe x.len ce) (.slice none 0 0) T ∧ T.Nodup ∧ ∀ k ∈ T, W.heap.size ≤ k) := by
        have h1 := GOwn.mk' (name := p.s) (deep := 0) (one := x) (len := 0) (sm := fun _ => .no) HPX.out.1.size hown (none_own w1 _)
        rw [List.append_nil] at h1
        exact ⟨h1, hnT, hgT⟩
      clear hown hnT hgT hb1
      refine ⟨_, rfl, ?_⟩
      refine hK.out _ _ HS2 (fun _ => ?_)
      clear hK KK
      try simp only [Act.put, List.setIfInBounds_toArray, List.set_cons_zero, List.set_cons_succ]
      refine wpAnyH_take (i := 5) (oi := { dst := some 27, op := Op.build 48 #[(0, Operand.tmp 24), (2, Operand.tmp 26)], type := 48, pos := "l07_match.go:89", after := #[{ on := 2, ground := Ground.data }, { on := 4, ground := Ground.data }], guard := none }) (v := .agg #[.string p.s, .int .i64 0, .int .i64 x.op, .int .i64 x.at_, .int .i64 x.n, .string x.s, .slice pd x.set.length cd, .slice pe x.len ce, .slice none 0 0]) rfl (by kernel_rfl) (by kernel_rfl) (by kernel_rfl) (fun _ _ _ h => h) (Or.inl ⟨by rfl, ?_⟩) HS2 ?_
      · intro wq hSq
        clear hSq
        go_simp
      try simp only [Act.put, List.setIfInBounds_toArray, List.set_cons_zero, List.set_cons_succ]
      refine wpAnyH_ready (rs := [6]) (by kernel_rfl) (by simp) ?_
      refine AllReadyH.cons (o := { dst := some 28, op := Op.buildSlice 27 1 #[(0, Operand.tmp 27)], type := 27, pos := "l07_match.go:89", after := #[{ on := 5, ground := Ground.data }], guard := none }) rfl (fun KK hK => ?_) AllReadyH.nil
      go_simp
      refine hK.out _ _ (HS2.trans ((newx w1 _).mono (by have h1 := HS1.size; have h2 := HG0.out.2; omega))) (fun _ => ?_)
      clear hK KK
      try simp only [Act.put, List.setIfInBounds_toArray, List.set_cons_zero, List.set_cons_succ]
      refine wpAnyH_ready (rs := [7]) (by kernel_rfl) (by simp) ?_
      refine AllReadyH.cons (o := { dst := some 29, op := Op.call { callee := Callee.builtin Builtin.append, args := #[Operand.tmp 22, Operand.tmp 28], argTypes := #[27, 27] }, type := 27, pos := "l07_match.go:89", after := #[{ on := 0, ground := Ground.data }, { on := 6, ground := Ground.data }, { on := 4, ground := Ground.chain }], guard := none }) rfl (fun KK hK => ?_) AllReadyH.nil
      obtain ⟨l, SS, hgr, hgB⟩ := HG0.out.1
      refine step_append_at (by rfl) (.tmp 22) (.tmp 28) 27 (by rfl) (N + 2) 48 i0 (.agg #[.string ⟨#[]⟩, .int .i64 0, .int .i64 0, .int .i64 0, .int .i64 0, .string ⟨#[]⟩, .slice none 0 0, .slice none 0 0, .slice none 0 0]) 9 136 Tryz.underlying27 hi0 hz0 hz1 hz2 rfl (by decide) (.slice (some ⟨N + 2, 0, none⟩) 0 0) 0 (grows l) (by rfl) ((own_sameX hgr.row (fun k hk => ((HS1.trans ((newx w1 _).mono HS1.size)).block k (hgr.row.lt k hk).2))) ) ⟨w1.heap.size, 0, none⟩ 1 1 [.string p.s, .int .i64 0, .int .i64 x.op, .int .i64 x.at_, .int .i64 x.n, .string x.s, .slice pd x.set.length cd, .slice pe x.len ce, .slice none 0 0] (by rfl) (by rfl) (World.news_of_block (cs := #[.string p.s, .int .i64 0, .int .i64 x.op, .int .i64 x.at_, .int .i64 x.n, .string x.s, .slice pd x.set.length cd, .slice pe x.len ce, .slice none 0 0]) (t := 48) (fr := (0, 0)) (heap_alloc_new w1 _)) (by simp [Value.oneCell']) (by unfold maxLen; omega) (by omega) (by have h1 := HS1.size; have h2 := HG0.out.2; simp; omega) (by decide) ?_
      intro v' w3 hown3 hg3 hwh3
      have hfin := hgr.pushed (w1 := w1.alloc (.cells #[.string p.s, .int .i64 0, .int .i64 x.op, .int .i64 x.at_, .int .i64 x.n, .string x.s, .slice pd x.set.length cd, .slice pe x.len ce, .slice none 0 0] 48)) hgB (HS1.trans ((newx w1 _).mono HS1.size)) (HG1.out.1.same _ (fun k hk => Below.heap_alloc _ _ _ (HG1.out.1.there _ k hk))) HG1.out.2.1 HG1.out.2.2 (by have := HG0.out.2; omega) hown3.out hg3.out hwh3.out
      have HFIN : Hid (GN w3 (N + 2) v' [oneG p.s x] ∧ Below (N + 2) W w3 ∧ v'.ownBlock ≠ none) := by
        obtain ⟨g', c', hv'⟩ := ownsRow_succ hown3.out
        exact ⟨hfin.1, hfin.2, by rw [hv']; simp [Value.ownBlock]⟩
      clear hown3 hg3 hwh3 hfin hgr hgB
      refine hK.out _ _ HFIN.out.2.1 (fun _ => ?_)
      clear hK KK
      try simp only [Act.put, List.setIfInBounds_toArray, List.set_cons_zero, List.set_cons_succ]
      refine wpAnyH_take (i := 8) (oi := { dst := some 6, op := Op.assign (Operand.tmp 29), type := 27, pos := "l07_match.go:89", after := #[{ on := 7, ground := Ground.data }, { on := 7, ground := Ground.chain }, { on := 0, ground := Ground.phase }, { on := 1, ground := Ground.phase }, { on := 2, ground := Ground.phase }, { on := 3, ground := Ground.phase }, { on := 4, ground := Ground.phase }, { on := 5, ground := Ground.phase }, { on := 6, ground := Ground.phase }, { on := 7, ground := Ground.phase }], guard := none }) (v := v') rfl (by kernel_rfl) (by kernel_rfl) (by kernel_rfl) (fun _ _ _ h => h) (Or.inl ⟨by rfl, ?_⟩) HFIN.out.2.1 ?_
      · intro wq hSq
        clear hSq
        go_simp
      try simp only [Act.put, List.setIfInBounds_toArray, List.set_cons_zero, List.set_cons_succ]
      refine wpAnyH_done (by kernel_rfl) ?_ _
      go_wp2_with fail
      go_ret2
      exact HEND.out _ _ _ HFIN.out.2.1 HFIN.out.1 HFIN.out.2.2 HMT.out
    · have HMT : Hid (m = some []) := by rw [HMS, show (p.s.toList == lineL) = true from hl]; rfl
      clear HMS
      go_wp2_with fail
      go_ret2
      rw [HWW.out, ← HN.out]
      exact HEND.out _ (.slice (some ⟨N + 2, 0, none⟩) 0 0) _ (Below.refl _ _) HG0.out.1 (by simp [Value.ownBlock]) HMT.out
  · -- a list
    have t2 : (p.op == 2) = false := by rw [ho]; rfl
    have t1 : (p.op == 1) = false := by rw [ho]; rfl
    have HO3 : Hid (p.op = 3) := ho
    clear ho
    go_upto_region 11 with fail
    rw [HWW.out, ← HN.out]
    simp only [show N + 1 + 1 = N + 2 from rfl]
    clear HWW t1 t2
    generalize hL : p.len = len at *
    have HL : Hid (p.len = len) := hL
    clear hL
    have hpath : (¬ (1 : Int) < len ∧ oftenX len p.kid = -1) ∨ ((1 : Int) < len ∧ dotsX (p.kid (len - 1)) = false ∧ oftenX len p.kid = -1) ∨ ((1 : Int) < len ∧ dotsX (p.kid (len - 1)) = true ∧ oftenX len p.kid ≠ -1) := by
      by_cases h1 : (1 : Int) < len
      · cases hd : dotsX (p.kid (len - 1))
        · exact .inr (.inl ⟨h1, rfl, by unfold oftenX; rw [if_neg (by rw [hd]; simp)]⟩)
        · exact .inr (.inr ⟨h1, rfl, by unfold oftenX; rw [if_pos ⟨by omega, hd⟩]; omega⟩)
      · exact .inl ⟨h1, by unfold oftenX; rw [if_neg (by omega)]⟩
    rcases hpath with ⟨h1, hof⟩ | ⟨h1, hd, hof⟩ | ⟨h1, hd, hof⟩
    case' inl =>
      have HOF : Hid (oftenX len p.kid = -1) := hof
      clear hof
      go_upto_region 13 with fail
      obtain ⟨wa, hwa⟩ : ∃ wa, wa = W := ⟨_, rfl⟩
      have HA : Hid (Below (N + 2) W wa ∧ GN wa (N + 2) (.slice (some ⟨N + 2, 0, none⟩) 0 0) []) := by rw [hwa]; exact ⟨Below.refl _ _, HG0.out.1⟩
      rw [← hwa]
      clear hwa h1 x0 x1 x2 x3 x4 x5 y0 y1 y2 y3 y4 y5
    case' inr.inl =>
      have HOF : Hid (oftenX len p.kid = -1) := hof
      obtain ⟨j, rfl⟩ : ∃ j, len = j + 1 := ⟨len - 1, by omega⟩
      obtain ⟨b, o, sk, uk, hpk, hdk, hink⟩ := HAT.out j (by omega)
      subst hpk
      have HDT : Hid (dotsX (p.kid j) = false) := hd
      obtain ⟨d0, d1, d2, d3, d4, d5⟩ := HHD.out W (Below.refl _ _) _ _ _ _ _ hdk
      clear hof hd hink hdk
      go_wp2_with fail
      refine (spec_dots (p.kid j) sk uk W).mono ?_
      rintro e wa ⟨rfl, hb1⟩
      have HA : Hid (Below (N + 2) W wa ∧ GN wa (N + 2) (.slice (some ⟨N + 2, 0, none⟩) 0 0) []) := ⟨hb1.mono (by have := HG0.out.2; omega), HG0.out.1.below hb1⟩
      rw [HDT.out]
      clear hb1 h1 d0 d1 d2 d3 d4 d5 x0 x1 x2 x3 x4 x5 y0 y1 y2 y3 y4 y5 HDT
      go_upto_region 13 with fail
      generalize hpu : some (⟨b, o, none⟩ : Addr) = pu at *
      clear hpu
      generalize hL : j + 1 = len at *
      have hL2 : ((j : Int) + 1) = (len : Int) := by omega
      rw [hL2]
      clear hL hL2
    case' inr.inr =>
      have HOF : Hid (oftenX len p.kid ≠ -1) := hof
      obtain ⟨F, rfl⟩ : ∃ F, len = F + 2 := ⟨len - 2, by omega⟩
      obtain ⟨b, o, sk, uk, hpk, hdk, hink⟩ := HAT.out (F + 1) (by omega)
      subst hpk
      have HDT : Hid (dotsX (p.kid (F + 1)) = true) := hd
      obtain ⟨d0, d1, d2, d3, d4, d5⟩ := HHD.out W (Below.refl _ _) _ _ _ _ _ hdk
      clear hof hd hink hdk
      go_wp2_with fail
      refine (spec_dots (p.kid (F + 1)) sk uk W).mono ?_
      rintro e wa ⟨rfl, hb1⟩
      have HA : Hid (Below (N + 2) W wa ∧ GN wa (N + 2) (.slice (some ⟨N + 2, 0, none⟩) 0 0) []) := ⟨hb1.mono (by have := HG0.out.2; omega), HG0.out.1.below hb1⟩
      rw [HDT.out]
      clear hb1 h1 d0 d1 d2 d3 d4 d5 x0 x1 x2 x3 x4 x5 y0 y1 y2 y3 y4 y5 HDT
      go_upto_region 13 with fail
      generalize hpu : some (⟨b, o, none⟩ : Addr) = pu at *
      clear hpu
    case' inr.inr =>
      obtain ⟨x0, x1, x2, x3, x4, x5⟩ := (KW.out wa HA.out.1).2.1.cells
      obtain ⟨y0, y1, y2, y3, y4, y5⟩ := (KW.out wa HA.out.1).2.2.cells
      by_cases hx3 : x.op = 3
      case neg =>
        have t5 : (x.op == 3) = false := by simpa using hx3
        have t5' : (x.op != 3) = true := by simp only [bne, t5]; rfl
        have HB : Hid (m = none) := by show _ = _; rw [HM.out]; exact match_other HO3.out hx3
        clear hx3
        go_wp2_with fail
        go_ret2
        exact HBAD.out _ _ HA.out.1 HB.out
      case pos =>
      have t5 : (x.op == 3) = true := by simpa using hx3
      have t5' : (x.op != 3) = false := by simp only [bne, t5]; rfl
      have HX3 : Hid (x.op = 3) := hx3
      clear hx3
      by_cases hlt : (x.len : Int) < F
      case pos =>
        have HB : Hid (m = none) := by show _ = _; rw [HM.out]; exact kids_few HO3.out HX3.out (by rw [HL.out]; exact HOF.out) (by rw [HL.out]; omega)
        go_wp2_with fail
        go_ret2
        exact HBAD.out _ _ HA.out.1 HB.out
      case neg =>
      have t6 : ((F : Int) == (F : Int) + 2) = false := by rw [beq_eq_false_iff_ne]; omega
      go_wp2_with fail
      clear x0 x1 x2 x3 x4 x5 y0 y1 y2 y3 y4 y5
      go_loopw [6, 9] (fun r i wr => ∃ (k : Nat) (v : Value) (A : List G), v = r ∧ i = .int .i64 k ∧ k ≤ F ∧ matchTo (fun i => matchG (p.kid i) (x.kid i)) k = some A ∧ GN wr (N + 2) v A ∧ v.ownBlock ≠ none ∧ Below (N + 2) W wr) (fun _ i _ => F - (intOf i).toNat)
      case atStart => exact ⟨0, _, [], rfl, rfl, Nat.zero_le _, rfl, HA.out.2, by simp [Value.ownBlock], HA.out.1⟩
      case round =>
        obtain ⟨k, v, A, rfl, rfl, hk, hA, hgn, hvb, hbel⟩ := hrel
        have HR : Hid (matchTo (fun i => matchG (p.kid i) (x.kid i)) k = some A ∧ GN wr (N + 2) v A ∧ v.ownBlock ≠ none ∧ Below (N + 2) W wr) := ⟨hA, hgn, hvb, hbel⟩
        clear hA hgn hvb hbel
        obtain ⟨x0, x1, x2, x3, x4, x5⟩ := (KW.out wr HR.out.2.2.2).2.1.cells
        obtain ⟨y0, y1, y2, y3, y4, y5⟩ := (KW.out wr HR.out.2.2.2).2.2.cells
        by_cases hkf : (k : Int) < F
        case pos =>
          have hkp : k < (F + 2) := by omega
          have hkx : k < x.len := by omega
          have HOKK : Hid (∀ i, i ≤ k → okG (p.kid i)) := fun i hi => kids_ok HW.out.2.2.1 (by rw [HL.out]; omega) (.inr (by rw [HL.out]; omega))
          obtain ⟨b1, o1, sk1, uk1, hpk, hdk, hink⟩ := HAT.out k hkp
          obtain ⟨b2, o2, sx2, ux2, hpx, hdx, hinx⟩ := HAX.out k hkx
          subst hpk hpx
          obtain ⟨q1, r1, e1⟩ := hink.xs.shape
          obtain ⟨q2, r2, e2⟩ := hink.sets.shape
          obtain ⟨q3, r3, e3⟩ := hinx.xs.shape
          obtain ⟨q4, r4, e4⟩ := hinx.sets.shape
          subst e1 e2 e3 e4
          have HDP := hid_ofD hdk
          have HDX := hid_ofD hdx
          have HCALL : Hid (∀ wx, Below (N + 2) W wx → Calls Tryz.prog 17 #[.agg #[.int .i64 (p.kid k).op, .int .i64 (p.kid k).at_, .int .i64 (p.kid k).n, .string (p.kid k).s, .slice q2 (p.kid k).set.length r2, .slice q1 (p.kid k).len r1], .agg #[.int .i64 (x.kid k).op, .int .i64 (x.kid k).at_, .int .i64 (x.kid k).n, .string (x.kid k).s, .slice q4 (x.kid k).set.length r4, .slice q3 (x.kid k).len r3]] wx fun e w' => SPost wx (matchG (p.kid k) (x.kid k)) e w') := fun wx hx => HK.out k hkp (x.kid k) wx _ _ _ _ (hink.below (KW.out wx hx).1) (hinx.below (KW.out wx hx).1) (by have := kid_weight (p := p) (i := k) (by rw [HL.out]; exact hkp); have := HW.out.1; omega) (by have := kid_weight (p := x) (i := k) hkx; have := HW.out.2.1; omega) (HOKK.out k (Nat.le_refl _)) (once_at HW.out.2.2.2 (by rw [HL.out]; exact hkp))
          clear hdk hdx hink hinx
          go_wp2_with fail
          have HS0 : Below (N + 2) W wr.drew := HR.out.2.2.2.drew
          refine wp_region_held_drew (S := fun wq => Below (N + 2) W wq) (by kernel_rfl) HS0 (fun _ => ?_)
          refine wpAnyH_take (i := 0) (oi := { dst := some 90, op := Op.fieldAddr 32 (Operand.tmp 2) 5, type := 0, pos := "l07_match.go:104", after := #[], guard := none }) (v := .pointer (some ⟨N, 5, none⟩)) rfl (by kernel_rfl) (by kernel_rfl) (by kernel_rfl) (fun _ _ _ h => h) (Or.inl ⟨by rfl, ?_⟩) HS0 ?_
          · intro wq hSq
            clear hSq
            go_simp
          try simp only [Act.put, List.setIfInBounds_toArray, List.set_cons_zero, List.set_cons_succ]
          refine wpAnyH_take (i := 1) (oi := { dst := some 91, op := Op.load 30 (Operand.tmp 90), type := 30, pos := "l07_match.go:104", after := #[{ on := 0, ground := Ground.data }], guard := none }) (v := .slice (some ⟨b1, o1, none⟩) (F + 2) cu) rfl (by kernel_rfl) (by kernel_rfl) (by kernel_rfl) (fun _ _ _ h => h) (Or.inl ⟨by rfl, ?_⟩) HS0 ?_
          · intro wq hSq
            obtain ⟨f00, f01, f02, f03, f04, f05⟩ := (KW.out wq hSq).2.1.cells
            clear hSq
            go_simp
          try simp only [Act.put, List.setIfInBounds_toArray, List.set_cons_zero, List.set_cons_succ]
          refine wpAnyH_take (i := 2) (oi := { dst := some 92, op := Op.move (Operand.tmp 9), type := 3, pos := "l07_match.go:104", after := #[], guard := none }) (v := .int .i64 k) rfl (by kernel_rfl) (by kernel_rfl) (by kernel_rfl) (fun _ _ _ h => h) (Or.inl ⟨by rfl, ?_⟩) HS0 ?_
          · intro wq hSq
            clear hSq
            go_simp
          try simp only [Act.put, List.setIfInBounds_toArray, List.set_cons_zero, List.set_cons_succ]
          refine wpAnyH_take (i := 3) (oi := { dst := some 93, op := Op.indexAddr 30 (Operand.tmp 91) (Operand.tmp 92), type := 0, pos := "l07_match.go:104", after := #[{ on := 1, ground := Ground.data }, { on := 2, ground := Ground.data }], guard := none }) (v := .pointer (some ⟨b1, o1 + k * 6, none⟩)) rfl (by kernel_rfl) (by kernel_rfl) (by kernel_rfl) (fun _ _ _ h => h) (Or.inl ⟨by rfl, ?_⟩) HS0 ?_
          · intro wq hSq
            clear hSq
            go_simp; intro hh; omega
          try simp only [Act.put, List.setIfInBounds_toArray, List.set_cons_zero, List.set_cons_succ]
          refine wpAnyH_take (i := 4) (oi := { dst := some 94, op := Op.load 32 (Operand.tmp 93), type := 32, pos := "l07_match.go:104", after := #[{ on := 3, ground := Ground.data }], guard := none }) (v := .agg #[.int .i64 (p.kid k).op, .int .i64 (p.kid k).at_, .int .i64 (p.kid k).n, .string (p.kid k).s, .slice q2 (p.kid k).set.length r2, .slice q1 (p.kid k).len r1]) rfl (by kernel_rfl) (by kernel_rfl) (by kernel_rfl) (fun _ _ _ h => h) (Or.inl ⟨by rfl, ?_⟩) HS0 ?_
          · intro wq hSq
            obtain ⟨f00, f01, f02, f03, f04, f05⟩ := HHD.out wq hSq _ _ _ _ _ HDP.out
            clear hSq
            go_simp
          try simp only [Act.put, List.setIfInBounds_toArray, List.set_cons_zero, List.set_cons_succ]
          refine wpAnyH_take (i := 5) (oi := { dst := some 95, op := Op.fieldAddr 32 (Operand.tmp 3) 5, type := 0, pos := "l07_match.go:104", after := #[], guard := none }) (v := .pointer (some ⟨N + 1, 5, none⟩)) rfl (by kernel_rfl) (by kernel_rfl) (by kernel_rfl) (fun _ _ _ h => h) (Or.inl ⟨by rfl, ?_⟩) HS0 ?_
          · intro wq hSq
            clear hSq
            go_simp
          try simp only [Act.put, List.setIfInBounds_toArray, List.set_cons_zero, List.set_cons_succ]
          refine wpAnyH_take (i := 6) (oi := { dst := some 96, op := Op.load 30 (Operand.tmp 95), type := 30, pos := "l07_match.go:104", after := #[{ on := 5, ground := Ground.data }], guard := none }) (v := .slice (some ⟨b2, o2, none⟩) x.len cx) rfl (by kernel_rfl) (by kernel_rfl) (by kernel_rfl) (fun _ _ _ h => h) (Or.inl ⟨by rfl, ?_⟩) HS0 ?_
          · intro wq hSq
            obtain ⟨f00, f01, f02, f03, f04, f05⟩ := (KW.out wq hSq).2.2.cells
            clear hSq
            go_simp
          try simp only [Act.put, List.setIfInBounds_toArray, List.set_cons_zero, List.set_cons_succ]
          refine wpAnyH_take (i := 7) (oi := { dst := some 97, op := Op.move (Operand.tmp 9), type := 3, pos := "l07_match.go:104", after := #[], guard := none }) (v := .int .i64 k) rfl (by kernel_rfl) (by kernel_rfl) (by kernel_rfl) (fun _ _ _ h => h) (Or.inl ⟨by rfl, ?_⟩) HS0 ?_
          · intro wq hSq
            clear hSq
            go_simp
          try simp only [Act.put, List.setIfInBounds_toArray, List.set_cons_zero, List.set_cons_succ]
          refine wpAnyH_take (i := 8) (oi := { dst := some 98, op := Op.indexAddr 30 (Operand.tmp 96) (Operand.tmp 97), type := 0, pos := "l07_match.go:104", after := #[{ on := 6, ground := Ground.data }, { on := 7, ground := Ground.data }], guard := none }) (v := .pointer (some ⟨b2, o2 + k * 6, none⟩)) rfl (by kernel_rfl) (by kernel_rfl) (by kernel_rfl) (fun _ _ _ h => h) (Or.inl ⟨by rfl, ?_⟩) HS0 ?_
          · intro wq hSq
            clear hSq
            go_simp
          try simp only [Act.put, List.setIfInBounds_toArray, List.set_cons_zero, List.set_cons_succ]
          refine wpAnyH_take (i := 9) (oi := { dst := some 99, op := Op.load 32 (Operand.tmp 98), type := 32, pos := "l07_match.go:104", after := #[{ on := 8, ground := Ground.data }], guard := none }) (v := .agg #[.int .i64 (x.kid k).op, .int .i64 (x.kid k).at_, .int .i64 (x.kid k).n, .string (x.kid k).s, .slice q4 (x.kid k).set.length r4, .slice q3 (x.kid k).len r3]) rfl (by kernel_rfl) (by kernel_rfl) (by kernel_rfl) (fun _ _ _ h => h) (Or.inl ⟨by rfl, ?_⟩) HS0 ?_
          · intro wq hSq
            obtain ⟨f00, f01, f02, f03, f04, f05⟩ := HHD.out wq hSq _ _ _ _ _ HDX.out
            clear hSq
            go_simp
          try simp only [Act.put, List.setIfInBounds_toArray, List.set_cons_zero, List.set_cons_succ]
          refine wpAnyH_ready (rs := [10]) (by kernel_rfl) (by simp) ?_
          refine AllReadyH.cons (o := { dst := some 100, op := Op.call { callee := Callee.value (Operand.func 17), args := #[Operand.tmp 94, Operand.tmp 99], argTypes := #[32, 32] }, type := 28, pos := "l07_match.go:104", after := #[{ on := 4, ground := Ground.data }, { on := 9, ground := Ground.data }], guard := none }) rfl (fun KK hK => ?_) AllReadyH.nil
          refine step_call2 rfl 17 (.tmp 94) (.tmp 99) 32 32 rfl match_enter (.agg #[.int .i64 (p.kid k).op, .int .i64 (p.kid k).at_, .int .i64 (p.kid k).n, .string (p.kid k).s, .slice q2 (p.kid k).set.length r2, .slice q1 (p.kid k).len r1]) (.agg #[.int .i64 (x.kid k).op, .int .i64 (x.kid k).at_, .int .i64 (x.kid k).n, .string (x.kid k).s, .slice q4 (x.kid k).set.length r4, .slice q3 (x.kid k).len r3]) rfl rfl _ (HCALL.out wr.drew HS0) ?_
          rintro e w1 ⟨hb1, v1, ok1, rfl, hcase⟩
          refine ⟨_, rfl, ?_⟩
          have HBW : Hid (Below wr.heap.size wr w1) := ⟨hb1.os, hb1.tape, hb1.output, hb1.size, hb1.block⟩
          have HSZ : Hid (N + 2 ≤ wr.heap.size) := by have h1 := HR.out.2.2.2.size; have h2 := HG0.out.2; show _ ≤ _; omega
          have HS1 : Below (N + 2) W w1 := HR.out.2.2.2.trans (HBW.out.mono HSZ.out)
          have HCS : Hid ((∃ l, matchG (p.kid k) (x.kid k) = some l ∧ ok1 = true ∧ GN w1 wr.heap.size v1 l ∧ v1.ownBlock ≠ none) ∨ (matchG (p.kid k) (x.kid k) = none ∧ ok1 = false)) := hcase
          clear hb1 hcase HCALL HDP HDX
          refine hK.out _ _ HS1 (fun _ => ?_)
          clear hK KK
          try simp only [Act.put, List.setIfInBounds_toArray, List.set_cons_zero, List.set_cons_succ]
          refine wpAnyH_take (i := 11) (oi := { dst := some 89, op := Op.move (Operand.tmp 100), type := 28, pos := "l07_match.go:104", after := #[{ on := 10, ground := Ground.data }], guard := none }) (v := .tuple #[v1, .bool ok1]) rfl (by kernel_rfl) (by kernel_rfl) (by kernel_rfl) (fun _ _ _ h => h) (Or.inl ⟨by rfl, ?_⟩) HS1 ?_
          · intro wq hSq
            clear hSq
            go_simp
          try simp only [Act.put, List.setIfInBounds_toArray, List.set_cons_zero, List.set_cons_succ]
          refine wpAnyH_take (i := 12) (oi := { dst := some 101, op := Op.extract (Operand.tmp 89) 0, type := 27, pos := "l07_match.go:104", after := #[{ on := 11, ground := Ground.data }], guard := none }) (v := v1) rfl (by kernel_rfl) (by kernel_rfl) (by kernel_rfl) (fun _ _ _ h => h) (Or.inl ⟨by rfl, ?_⟩) HS1 ?_
          · intro wq hSq
            clear hSq
            go_simp
          try simp only [Act.put, List.setIfInBounds_toArray, List.set_cons_zero, List.set_cons_succ]
          refine wpAnyH_take (i := 13) (oi := { dst := some 102, op := Op.extract (Operand.tmp 89) 1, type := 4, pos := "l07_match.go:104", after := #[{ on := 11, ground := Ground.data }, { on := 14, ground := Ground.gcOnly Departure.lateStores }], guard := none }) (v := .bool ok1) rfl (by kernel_rfl) (by kernel_rfl) (by kernel_rfl) (fun _ _ _ h => h) (Or.inl ⟨by rfl, ?_⟩) HS1 ?_
          · intro wq hSq
            clear hSq
            go_simp
          try simp only [Act.put, List.setIfInBounds_toArray, List.set_cons_zero, List.set_cons_succ]
          refine wpAnyH_take (i := 14) (oi := { dst := some 10, op := Op.assign (Operand.tmp 101), type := 27, pos := "l07_match.go:104", after := #[{ on := 12, ground := Ground.data }, { on := 10, ground := Ground.chain }, { on := 0, ground := Ground.phase }, { on := 1, ground := Ground.phase }, { on := 2, ground := Ground.phase }, { on := 3, ground := Ground.phase }, { on := 4, ground := Ground.phase }, { on := 5, ground := Ground.phase }, { on := 6, ground := Ground.phase }, { on := 7, ground := Ground.phase }, { on := 8, ground := Ground.phase }, { on := 9, ground := Ground.phase }, { on := 10, ground := Ground.phase }, { on := 11, ground := Ground.phase }, { on := 12, ground := Ground.phase }, { on := 13, ground := Ground.textOnly Departure.lateStores }], guard := none }) (v := v1) rfl (by kernel_rfl) (by kernel_rfl) (by kernel_rfl) (fun _ _ _ h => h) (Or.inl ⟨by rfl, ?_⟩) HS1 ?_
          · intro wq hSq
            clear hSq
            go_simp
          try simp only [Act.put, List.setIfInBounds_toArray, List.set_cons_zero, List.set_cons_succ]
          refine wpAnyH_take (i := 15) (oi := { dst := some 11, op := Op.assign (Operand.tmp 102), type := 4, pos := "l07_match.go:104", after := #[{ on := 13, ground := Ground.data }, { on := 14, ground := Ground.chain }, { on := 0, ground := Ground.phase }, { on := 1, ground := Ground.phase }, { on := 2, ground := Ground.phase }, { on := 3, ground := Ground.phase }, { on := 4, ground := Ground.phase }, { on := 5, ground := Ground.phase }, { on := 6, ground := Ground.phase }, { on := 7, ground := Ground.phase }, { on := 8, ground := Ground.phase }, { on := 9, ground := Ground.phase }, { on := 10, ground := Ground.phase }, { on := 11, ground := Ground.phase }, { on := 12, ground := Ground.phase }, { on := 13, ground := Ground.phase }, { on := 14, ground := Ground.phase }], guard := none }) (v := .bool ok1) rfl (by kernel_rfl) (by kernel_rfl) (by kernel_rfl) (fun _ _ _ h => h) (Or.inl ⟨by rfl, ?_⟩) HS1 ?_
          · intro wq hSq
            clear hSq
            go_simp
          try simp only [Act.put, List.setIfInBounds_toArray, List.set_cons_zero, List.set_cons_succ]
          refine wpAnyH_done (by kernel_rfl) ?_ _
          clear x0 x1 x2 x3 x4 x5 y0 y1 y2 y3 y4 y5
          rcases HCS.out with ⟨l, hml, rfl, hgl, hvl⟩ | ⟨hml, rfl⟩
          · obtain ⟨lr, SS, hgr, hgB⟩ := HR.out.2.1
            obtain ⟨l1, SS1, hg1, hgB1⟩ := hgl
            obtain ⟨ao, cc, hv1, hn1, hs1⟩ := row_src hg1.row
            subst hv1
            have hAl : A.length = namesTo p.kid k := matchTo_len k A (fun i hi => HOKK.out i (by omega)) HR.out.1
            have hll : l.length = (namesD (p.kid k) 0).length := matchG_len _ _ _ (HOKK.out k (Nat.le_refl _)) hml
            have hmost := names_most p HW.out.1 (k := k + 1) (by rw [HL.out]; omega)
            rw [namesTo_succ] at hmost
            have hsum : A.length + l.length ≤ 1048577 := by omega
            have HGR : Hid (GRow wr (N + 2) v A lr SS ∧ (∀ k ∈ blG v SS, N + 2 ≤ k) ∧ GRow w1 wr.heap.size (.slice ao l.length cc) l l1 SS1 ∧ (∀ k ∈ blG (.slice ao l.length cc) SS1, wr.heap.size ≤ k) ∧ matchG (p.kid k) (x.kid k) = some l) := ⟨hgr, hgB, hg1, hgB1, hml⟩
            have HRW : Hid (w1.ownsRow (N + 2) 48 9 v A.length (grows lr)) := own_sameX hgr.row (fun k hk => HBW.out.block k (hgr.row.lt k hk).2)
            have HN1 : Hid ((ao = none → l.length = 0 ∧ cc = 0) ∧ ∀ ad, ao = some ad → ∀ j u, (grows l1)[j]? = some u → w1.cell? (ad.add j) = some u) := ⟨hn1, hs1⟩
            clear hgr hgB hg1 hgB1 hml hn1 hs1 hvl hAl hll hmost HCS
            go_wp2_with (at_builtin; refine wpList_append_at2 _ rfl (.tmp 106) (.tmp 107) 27 rfl (N + 2) 48 i0 (.agg #[.string ⟨#[]⟩, .int .i64 0, .int .i64 0, .int .i64 0, .int .i64 0, .string ⟨#[]⟩, .slice none 0 0, .slice none 0 0, .slice none 0 0]) 9 136 Tryz.underlying27 hi0 hz0 hz1 hz2 rfl (by decide) v A.length (grows lr) rfl HRW.out HR.out.2.2.1 ao l.length cc (grows l1) rfl HGR.out.2.2.1.row.1 HN1.out.1 HN1.out.2 HGR.out.2.2.1.one (by unfold maxLen; omega) (by omega) (by have h1 := HBW.out.size; have h2 := HSZ.out; omega) ?_; intro v' w2 hown2 hg2 hwh2)
            have HN2 : Hid (matchTo (fun i => matchG (p.kid i) (x.kid i)) (k + 1) = some (A ++ l) ∧ GN w2 (N + 2) v' (A ++ l) ∧ v'.ownBlock ≠ none ∧ Below (N + 2) W w2) := by
              have h9 := HGR.out.1.joined HGR.out.2.1 HBW.out HGR.out.2.2.1 HGR.out.2.2.2.1 HSZ.out hown2.out hg2.out hwh2.out
              refine ⟨?_, h9.1, ?_, HR.out.2.2.2.trans h9.2⟩
              · simp only [matchTo]
                rw [HR.out.1, HGR.out.2.2.2.2]
                rfl
              · rcases hwh2.out with h | h
                · rw [h]; exact HR.out.2.2.1
                · rw [h]; simp
            clear hown2 hg2 hwh2 HRW HGR HN1 HBW HS0 HS1
            go_wp2_with fail
            go_roundw
            case rel => exact ⟨k + 1, _, A ++ l, rfl, by go_num, by omega, HN2.out⟩
            case measure => simp [intOf]; omega
          · have HB : Hid (m = none) := by
              show _ = _
              rw [HM.out, kids_more HO3.out HX3.out (by rw [HL.out]; exact HOF.out) (by rw [HL.out]; omega), HL.out, show F + 2 - 2 = F from rfl, matchTo_no (k := k) (by omega) hml]; rfl
            clear hml
            go_wp2_with fail
            go_ret2
            exact HBAD.out _ _ HS1 HB.out
        case neg =>
          have hke : k = F := by omega
          have hFx : F ≤ x.len := by omega
          obtain ⟨b1, o1, sk1, uk1, hpk, hdk, hink⟩ := HAT.out F (by omega)
          subst hpk
          obtain ⟨q1, r1, e1⟩ := hink.xs.shape
          obtain ⟨q2, r2, e2⟩ := hink.sets.shape
          subst e1 e2
          have HDP := hid_ofD hdk
          have hxs : XsAt 0 w x.len x.kid (.slice px x.len cx) := HPX.out.2.xs
          have hcx := hxs.cap
          obtain ⟨rx, hrx⟩ : ∃ rx, rx = (if cx = F then px else px.map (·.add (F * 6))) := ⟨_, rfl⟩
          have HRX : Hid ((if cx = F then px else px.map (·.add (F * 6))) = rx) := hrx.symm
          have s3 := hxs.rest F hFx
          simp only [sliced] at s3
          rw [← hrx] at s3
          have HCALL : Hid (∀ wx, Below (N + 2) W wx → Calls Tryz.prog 38 #[.agg #[.int .i64 (p.kid F).op, .int .i64 (p.kid F).at_, .int .i64 (p.kid F).n, .string (p.kid F).s, .slice q2 (p.kid F).set.length r2, .slice q1 (p.kid F).len r1], .slice rx (x.len - F) (cx - F)] wx fun e w' => EPost wx (eachG (namesD (p.kid F) 0) (fun j => matchG (p.kid F) (x.kid (F + j))) (x.len - F)) e w') := fun wx hx => HE.out F (by omega) (x.len - F) (fun i => x.kid (F + i)) wx _ _ _ (hink.below (KW.out wx hx).1) (s3.below (KW.out wx hx).1) (by have := kid_weight (p := p) (i := F) (by rw [HL.out]; omega); have := HW.out.1; omega) (fun i hi => by have := kid_weight (p := x) (i := F + i) (by omega); have := HW.out.2.1; omega) (by omega) (kids_ok HW.out.2.2.1 (by rw [HL.out]; omega) (.inr (by rw [HL.out]; omega))) (once_at HW.out.2.2.2 (by rw [HL.out]; omega))
          have HMM : Hid (m = (matchTo (fun i => matchG (p.kid i) (x.kid i)) F).bind fun a => (eachG (namesD (p.kid F) 0) (fun j => matchG (p.kid F) (x.kid (F + j))) (x.len - F)).map fun b => a ++ b) := by
            have h9 := kids_more (p := p) (x := x) HO3.out HX3.out (by rw [HL.out]; exact HOF.out) (by rw [HL.out]; omega)
            rw [HL.out] at h9
            show _ = _
            rw [HM.out, h9]
            rfl
          have HRK : Hid (matchTo (fun i => matchG (p.kid i) (x.kid i)) F = some A) := by show _ = _; rw [← hke]; exact HR.out.1
          clear hdk hink hrx s3 hxs
          go_wp2_with fail
          have HS0 : Below (N + 2) W wr.drew := HR.out.2.2.2.drew
          refine wp_region_held_drew (S := fun wq => Below (N + 2) W wq) (by kernel_rfl) HS0 (fun _ => ?_)
          refine wpAnyH_take (i := 0) (oi := { dst := some 113, op := Op.fieldAddr 32 (Operand.tmp 2) 5, type := 0, pos := "l07_match.go:111", after := #[], guard := none }) (v := .pointer (some ⟨N, 5, none⟩)) rfl (by kernel_rfl) (by kernel_rfl) (by kernel_rfl) (fun _ _ _ h => h) (Or.inl ⟨by rfl, ?_⟩) HS0 ?_
          · intro wq hSq
            clear hSq
            go_simp
          try simp only [Act.put, List.setIfInBounds_toArray, List.set_cons_zero, List.set_cons_succ]
          refine wpAnyH_take (i := 1) (oi := { dst := some 114, op := Op.load 30 (Operand.tmp 113), type := 30, pos := "l07_match.go:111", after := #[{ on := 0, ground := Ground.data }], guard := none }) (v := .slice (some ⟨b1, o1, none⟩) (F + 2) cu) rfl (by kernel_rfl) (by kernel_rfl) (by kernel_rfl) (fun _ _ _ h => h) (Or.inl ⟨by rfl, ?_⟩) HS0 ?_
          · intro wq hSq
            obtain ⟨f00, f01, f02, f03, f04, f05⟩ := (KW.out wq hSq).2.1.cells
            clear hSq
            go_simp
          try simp only [Act.put, List.setIfInBounds_toArray, List.set_cons_zero, List.set_cons_succ]
          refine wpAnyH_take (i := 2) (oi := { dst := some 115, op := Op.move (Operand.tmp 8), type := 3, pos := "l07_match.go:111", after := #[], guard := none }) (v := .int .i64 F) rfl (by kernel_rfl) (by kernel_rfl) (by kernel_rfl) (fun _ _ _ h => h) (Or.inl ⟨by rfl, ?_⟩) HS0 ?_
          · intro wq hSq
            clear hSq
            go_simp
          try simp only [Act.put, List.setIfInBounds_toArray, List.set_cons_zero, List.set_cons_succ]
          refine wpAnyH_take (i := 3) (oi := { dst := some 116, op := Op.indexAddr 30 (Operand.tmp 114) (Operand.tmp 115), type := 0, pos := "l07_match.go:111", after := #[{ on := 1, ground := Ground.data }, { on := 2, ground := Ground.data }], guard := none }) (v := .pointer (some ⟨b1, o1 + F * 6, none⟩)) rfl (by kernel_rfl) (by kernel_rfl) (by kernel_rfl) (fun _ _ _ h => h) (Or.inl ⟨by rfl, ?_⟩) HS0 ?_
          · intro wq hSq
            clear hSq
            first | (go_simp; done) | (go_simp; intro hh; omega)
          try simp only [Act.put, List.setIfInBounds_toArray, List.set_cons_zero, List.set_cons_succ]
          refine wpAnyH_take (i := 4) (oi := { dst := some 117, op := Op.load 32 (Operand.tmp 116), type := 32, pos := "l07_match.go:111", after := #[{ on := 3, ground := Ground.data }], guard := none }) (v := .agg #[.int .i64 (p.kid F).op, .int .i64 (p.kid F).at_, .int .i64 (p.kid F).n, .string (p.kid F).s, .slice q2 (p.kid F).set.length r2, .slice q1 (p.kid F).len r1]) rfl (by kernel_rfl) (by kernel_rfl) (by kernel_rfl) (fun _ _ _ h => h) (Or.inl ⟨by rfl, ?_⟩) HS0 ?_
          · intro wq hSq
            obtain ⟨f00, f01, f02, f03, f04, f05⟩ := HHD.out wq hSq _ _ _ _ _ HDP.out
            clear hSq
            go_simp
          try simp only [Act.put, List.setIfInBounds_toArray, List.set_cons_zero, List.set_cons_succ]
          refine wpAnyH_take (i := 5) (oi := { dst := some 118, op := Op.fieldAddr 32 (Operand.tmp 3) 5, type := 0, pos := "l07_match.go:111", after := #[], guard := none }) (v := .pointer (some ⟨N + 1, 5, none⟩)) rfl (by kernel_rfl) (by kernel_rfl) (by kernel_rfl) (fun _ _ _ h => h) (Or.inl ⟨by rfl, ?_⟩) HS0 ?_
          · intro wq hSq
            clear hSq
            go_simp
          try simp only [Act.put, List.setIfInBounds_toArray, List.set_cons_zero, List.set_cons_succ]
          refine wpAnyH_take (i := 6) (oi := { dst := some 119, op := Op.load 30 (Operand.tmp 118), type := 30, pos := "l07_match.go:111", after := #[{ on := 5, ground := Ground.data }], guard := none }) (v := .slice px x.len cx) rfl (by kernel_rfl) (by kernel_rfl) (by kernel_rfl) (fun _ _ _ h => h) (Or.inl ⟨by rfl, ?_⟩) HS0 ?_
          · intro wq hSq
            obtain ⟨f00, f01, f02, f03, f04, f05⟩ := (KW.out wq hSq).2.2.cells
            clear hSq
            go_simp
          try simp only [Act.put, List.setIfInBounds_toArray, List.set_cons_zero, List.set_cons_succ]
          refine wpAnyH_take (i := 7) (oi := { dst := some 120, op := Op.move (Operand.tmp 8), type := 3, pos := "l07_match.go:111", after := #[], guard := none }) (v := .int .i64 F) rfl (by kernel_rfl) (by kernel_rfl) (by kernel_rfl) (fun _ _ _ h => h) (Or.inl ⟨by rfl, ?_⟩) HS0 ?_
          · intro wq hSq
            clear hSq
            go_simp
          try simp only [Act.put, List.setIfInBounds_toArray, List.set_cons_zero, List.set_cons_succ]
          refine wpAnyH_take (i := 8) (oi := { dst := some 121, op := Op.slice 30 (Operand.tmp 119) (some (Operand.tmp 120)) none none, type := 30, pos := "l07_match.go:111", after := #[{ on := 6, ground := Ground.data }, { on := 7, ground := Ground.data }], guard := none }) (v := .slice rx (x.len - F) (cx - F)) rfl (by kernel_rfl) (by kernel_rfl) (by kernel_rfl) (fun _ _ _ h => h) (Or.inl ⟨by rfl, ?_⟩) HS0 ?_
          · intro wq hSq
            clear hSq
            go_simp; exact HRX.out
          try simp only [Act.put, List.setIfInBounds_toArray, List.set_cons_zero, List.set_cons_succ]
          refine wpAnyH_ready (rs := [9]) (by kernel_rfl) (by simp) ?_
          refine AllReadyH.cons (o := { dst := some 122, op := Op.call { callee := Callee.value (Operand.func 38), args := #[Operand.tmp 117, Operand.tmp 121], argTypes := #[32, 30] }, type := 28, pos := "l07_match.go:111", after := #[{ on := 4, ground := Ground.data }, { on := 8, ground := Ground.data }], guard := none }) rfl (fun KK hK => ?_) AllReadyH.nil
          refine step_call2 rfl 38 (.tmp 117) (.tmp 121) 32 30 rfl each_enter (.agg #[.int .i64 (p.kid F).op, .int .i64 (p.kid F).at_, .int .i64 (p.kid F).n, .string (p.kid F).s, .slice q2 (p.kid F).set.length r2, .slice q1 (p.kid F).len r1]) (.slice rx (x.len - F) (cx - F)) rfl rfl _ (HCALL.out wr.drew HS0) ?_
          rintro e w1 ⟨hb1, v1, ok1, rfl, hrow, hcase⟩
          refine ⟨_, rfl, ?_⟩
          have HBW : Hid (Below wr.heap.size wr w1) := ⟨hb1.os, hb1.tape, hb1.output, hb1.size, hb1.block⟩
          have HSZ : Hid (N + 2 ≤ wr.heap.size) := by have h1 := HR.out.2.2.2.size; have h2 := HG0.out.2; show _ ≤ _; omega
          have HS1 : Below (N + 2) W w1 := HR.out.2.2.2.trans (HBW.out.mono HSZ.out)
          have HCS : Hid ((∃ k xs, w1.ownsRow wr.heap.size 48 9 v1 k xs ∧ k ≤ 1048577 ∧ ∀ u ∈ xs, u.oneCell' = true) ∧ ((∃ l, eachG (namesD (p.kid F) 0) (fun j => matchG (p.kid F) (x.kid (F + j))) (x.len - F) = some l ∧ ok1 = true ∧ GN w1 wr.heap.size v1 l) ∨ (eachG (namesD (p.kid F) 0) (fun j => matchG (p.kid F) (x.kid (F + j))) (x.len - F) = none ∧ ok1 = false))) := ⟨hrow, hcase⟩
          clear hb1 hrow hcase HCALL HDP
          refine hK.out _ _ HS1 (fun _ => ?_)
          clear hK KK
          try simp only [Act.put, List.setIfInBounds_toArray, List.set_cons_zero, List.set_cons_succ]
          refine wpAnyH_take (i := 10) (oi := { dst := some 112, op := Op.move (Operand.tmp 122), type := 28, pos := "l07_match.go:111", after := #[{ on := 9, ground := Ground.data }], guard := none }) (v := .tuple #[v1, .bool ok1]) rfl (by kernel_rfl) (by kernel_rfl) (by kernel_rfl) (fun _ _ _ h => h) (Or.inl ⟨by rfl, ?_⟩) HS1 ?_
          · intro wq hSq
            clear hSq
            go_simp
          try simp only [Act.put, List.setIfInBounds_toArray, List.set_cons_zero, List.set_cons_succ]
          refine wpAnyH_take (i := 11) (oi := { dst := some 123, op := Op.extract (Operand.tmp 112) 0, type := 27, pos := "l07_match.go:111", after := #[{ on := 10, ground := Ground.data }], guard := none }) (v := v1) rfl (by kernel_rfl) (by kernel_rfl) (by kernel_rfl) (fun _ _ _ h => h) (Or.inl ⟨by rfl, ?_⟩) HS1 ?_
          · intro wq hSq
            clear hSq
            go_simp
          try simp only [Act.put, List.setIfInBounds_toArray, List.set_cons_zero, List.set_cons_succ]
          refine wpAnyH_take (i := 12) (oi := { dst := some 124, op := Op.extract (Operand.tmp 112) 1, type := 4, pos := "l07_match.go:111", after := #[{ on := 10, ground := Ground.data }, { on := 13, ground := Ground.gcOnly Departure.lateStores }], guard := none }) (v := .bool ok1) rfl (by kernel_rfl) (by kernel_rfl) (by kernel_rfl) (fun _ _ _ h => h) (Or.inl ⟨by rfl, ?_⟩) HS1 ?_
          · intro wq hSq
            clear hSq
            go_simp
          try simp only [Act.put, List.setIfInBounds_toArray, List.set_cons_zero, List.set_cons_succ]
          refine wpAnyH_take (i := 13) (oi := { dst := some 12, op := Op.assign (Operand.tmp 123), type := 27, pos := "l07_match.go:111", after := #[{ on := 11, ground := Ground.data }, { on := 9, ground := Ground.chain }, { on := 0, ground := Ground.phase }, { on := 1, ground := Ground.phase }, { on := 2, ground := Ground.phase }, { on := 3, ground := Ground.phase }, { on := 4, ground := Ground.phase }, { on := 5, ground := Ground.phase }, { on := 6, ground := Ground.phase }, { on := 7, ground := Ground.phase }, { on := 8, ground := Ground.phase }, { on := 9, ground := Ground.phase }, { on := 10, ground := Ground.phase }, { on := 11, ground := Ground.phase }, { on := 12, ground := Ground.textOnly Departure.lateStores }], guard := none }) (v := v1) rfl (by kernel_rfl) (by kernel_rfl) (by kernel_rfl) (fun _ _ _ h => h) (Or.inl ⟨by rfl, ?_⟩) HS1 ?_
          · intro wq hSq
            clear hSq
            go_simp
          try simp only [Act.put, List.setIfInBounds_toArray, List.set_cons_zero, List.set_cons_succ]
          refine wpAnyH_take (i := 14) (oi := { dst := some 13, op := Op.assign (Operand.tmp 124), type := 4, pos := "l07_match.go:111", after := #[{ on := 12, ground := Ground.data }, { on := 13, ground := Ground.chain }, { on := 0, ground := Ground.phase }, { on := 1, ground := Ground.phase }, { on := 2, ground := Ground.phase }, { on := 3, ground := Ground.phase }, { on := 4, ground := Ground.phase }, { on := 5, ground := Ground.phase }, { on := 6, ground := Ground.phase }, { on := 7, ground := Ground.phase }, { on := 8, ground := Ground.phase }, { on := 9, ground := Ground.phase }, { on := 10, ground := Ground.phase }, { on := 11, ground := Ground.phase }, { on := 12, ground := Ground.phase }, { on := 13, ground := Ground.phase }], guard := none }) (v := .bool ok1) rfl (by kernel_rfl) (by kernel_rfl) (by kernel_rfl) (fun _ _ _ h => h) (Or.inl ⟨by rfl, ?_⟩) HS1 ?_
          · intro wq hSq
            clear hSq
            go_simp
          try simp only [Act.put, List.setIfInBounds_toArray, List.set_cons_zero, List.set_cons_succ]
          refine wpAnyH_done (by kernel_rfl) ?_ _
          clear x0 x1 x2 x3 x4 x5 y0 y1 y2 y3 y4 y5
          obtain ⟨lr, SS, hgr, hgB⟩ := HR.out.2.1
          have hAl : A.length = namesTo p.kid k := matchTo_len k A (fun i hi => kids_ok HW.out.2.2.1 (by rw [HL.out]; omega) (.inr (by rw [HL.out]; omega))) HR.out.1
          have hmost := names_most p HW.out.1 (k := k) (by rw [HL.out]; omega)
          have hsum : A.length ≤ 1048577 := by omega
          have HGR : Hid (GRow wr (N + 2) v A lr SS ∧ (∀ k ∈ blG v SS, N + 2 ≤ k)) := ⟨hgr, hgB⟩
          have HRW : Hid (w1.ownsRow (N + 2) 48 9 v A.length (grows lr)) := own_sameX hgr.row (fun k hk => HBW.out.block k (hgr.row.lt k hk).2)
          clear hgr hgB hAl hmost
          rcases HCS.out with ⟨⟨kr, xr, hxr, hkr, hor⟩, (⟨l, hml, rfl, hgl⟩ | ⟨hml, rfl⟩)⟩
          · obtain ⟨l1, SS1, hg1, hgB1⟩ := hgl
            obtain ⟨ao, cc, hv1, hn1, hs1⟩ := row_src hg1.row
            subst hv1
            have hll : l.length ≤ 1048577 := by
              have h1 := eachG_len hml
              have h2 := namesD_len (p.kid F) 0
              have h3 := (p.kid F).count_weight
              have h4 := kid_weight (p := p) (i := F) (by rw [HL.out]; omega)
              have h5 := HW.out.1
              omega
            have HG1 : Hid (GRow w1 wr.heap.size (.slice ao l.length cc) l l1 SS1 ∧ (∀ k ∈ blG (.slice ao l.length cc) SS1, wr.heap.size ≤ k)) := ⟨hg1, hgB1⟩
            have HN1 : Hid ((ao = none → l.length = 0 ∧ cc = 0) ∧ (∀ ad, ao = some ad → ∀ j u, (grows l1)[j]? = some u → w1.cell? (ad.add j) = some u) ∧ (grows l1).length = l.length * 9 ∧ ∀ u ∈ grows l1, u.oneCell' = true) := ⟨hn1, hs1, hg1.row.1, hg1.one⟩
            have HB : Hid (m = some (A ++ l)) := by show _ = _; rw [HMM.out, HRK.out, hml]; rfl
            clear hg1 hgB1 hml hn1 hs1 HCS hxr hkr hor
            go_wp2_with (at_builtin; refine wpList_append_at2 _ rfl (.tmp 125) (.tmp 126) 27 rfl (N + 2) 48 i0 (.agg #[.string ⟨#[]⟩, .int .i64 0, .int .i64 0, .int .i64 0, .int .i64 0, .string ⟨#[]⟩, .slice none 0 0, .slice none 0 0, .slice none 0 0]) 9 136 Tryz.underlying27 hi0 hz0 hz1 hz2 rfl (by decide) v A.length (grows lr) rfl HRW.out HR.out.2.2.1 ao l.length cc (grows l1) rfl HN1.out.2.2.1 HN1.out.1 HN1.out.2.1 HN1.out.2.2.2 (by unfold maxLen; omega) (by omega) (by have h1 := HBW.out.size; have h2 := HSZ.out; omega) ?_; intro v' w2 hown2 hg2 hwh2)
            have HN2 : Hid (GN w2 (N + 2) v' (A ++ l) ∧ v'.ownBlock ≠ none ∧ Below (N + 2) W w2) := by
              have h9 := HGR.out.1.joined HGR.out.2 HBW.out HG1.out.1 HG1.out.2 HSZ.out hown2.out hg2.out hwh2.out
              refine ⟨h9.1, ?_, HR.out.2.2.2.trans h9.2⟩
              rcases hwh2.out with h | h
              · rw [h]; exact HR.out.2.2.1
              · rw [h]; simp
            clear hown2 hg2 hwh2 HRW HGR HN1 HBW HS0 HS1
            go_wp2_with fail
            go_ret2
            exact HEND.out _ _ _ HN2.out.2.2 HN2.out.1 HN2.out.2.1 HB.out
          · obtain ⟨ao, cc, hv1, hn1, hs1⟩ := row_src hxr
            subst hv1
            have HN1 : Hid ((ao = none → kr = 0 ∧ cc = 0) ∧ (∀ ad, ao = some ad → ∀ j u, xr[j]? = some u → w1.cell? (ad.add j) = some u) ∧ xr.length = kr * 9 ∧ ∀ u ∈ xr, u.oneCell' = true) := ⟨hn1, hs1, hxr.1, hor⟩
            have HB : Hid (m = none) := by show _ = _; rw [HMM.out, HRK.out, hml]; rfl
            clear hml hn1 hs1 HCS hxr hor
            go_wp2_with (at_builtin; refine wpList_append_at2 _ rfl (.tmp 125) (.tmp 126) 27 rfl (N + 2) 48 i0 (.agg #[.string ⟨#[]⟩, .int .i64 0, .int .i64 0, .int .i64 0, .int .i64 0, .string ⟨#[]⟩, .slice none 0 0, .slice none 0 0, .slice none 0 0]) 9 136 Tryz.underlying27 hi0 hz0 hz1 hz2 rfl (by decide) v A.length (grows lr) rfl HRW.out HR.out.2.2.1 ao kr cc xr rfl HN1.out.2.2.1 HN1.out.1 HN1.out.2.1 HN1.out.2.2.2 (by unfold maxLen; omega) (by omega) (by have h1 := HBW.out.size; have h2 := HSZ.out; omega) ?_; intro v' w2 hown2 hg2 hwh2)
            have HN2 : Hid (Below (N + 2) W w2) := by
              refine ⟨hg2.out.os.trans HS1.os, hg2.out.tape.trans HS1.tape, hg2.out.output.trans HS1.output, Nat.le_trans HS1.size hg2.out.size, fun j hj => (hg2.out.block j (by have h1 := HBW.out.size; have h2 := HSZ.out; omega) (fun e => ?_)).trans (HS1.block j hj)⟩
              have := HGR.out.2 j (List.mem_append_left _ (mem_own e.symm))
              omega
            clear hown2 hg2 hwh2 HRW HGR HN1 HBW HS0 HS1
            go_wp2_with fail
            go_ret2
            exact HBAD.out _ _ HN2.out HB.out
    all_goals
      obtain ⟨x0, x1, x2, x3, x4, x5⟩ := (KW.out wa HA.out.1).2.1.cells
      obtain ⟨y0, y1, y2, y3, y4, y5⟩ := (KW.out wa HA.out.1).2.2.cells
      by_cases hx3 : x.op = 3
      case neg =>
        have t5 : (x.op == 3) = false := by simpa using hx3
        have t5' : (x.op != 3) = true := by simp only [bne, t5]; rfl
        have HB : Hid (m = none) := by show _ = _; rw [HM.out]; exact match_other HO3.out hx3
        clear hx3
        go_wp2_with fail
        go_ret2
        exact HBAD.out _ _ HA.out.1 HB.out
      case pos =>
      have t5 : (x.op == 3) = true := by simpa using hx3
      have t5' : (x.op != 3) = false := by simp only [bne, t5]; rfl
      have HX3 : Hid (x.op = 3) := hx3
      clear hx3
      by_cases hxl : x.len = len
      case neg =>
        have HB : Hid (m = none) := by show _ = _; rw [HM.out]; exact kids_no HO3.out HX3.out (by rw [HL.out]; exact HOF.out) (by rw [HL.out]; exact hxl)
        have t7 : ((x.len : Int) == (len : Int)) = false := by rw [beq_eq_false_iff_ne]; omega
        have t7' : ((x.len : Int) != (len : Int)) = true := by simp only [bne, t7]; rfl
        clear hxl
        by_cases hlt : (x.len : Int) < len
        all_goals
          go_wp2_with fail
          go_ret2
          exact HBAD.out _ _ HA.out.1 HB.out
      case pos =>
      have t7 : ((x.len : Int) == (len : Int)) = true := by rw [beq_iff_eq]; omega
      have t7' : ((x.len : Int) != (len : Int)) = false := by simp only [bne, t7]; rfl
      have t6 : ¬ (x.len : Int) < len := by omega
      have HXL : Hid (x.len = len) := hxl
      clear hxl
      go_wp2_with fail
      clear x0 x1 x2 x3 x4 x5 y0 y1 y2 y3 y4 y5
      go_loopw [6, 9] (fun r i wr => ∃ (k : Nat) (v : Value) (A : List G), v = r ∧ i = .int .i64 k ∧ k ≤ len ∧ matchTo (fun i => matchG (p.kid i) (x.kid i)) k = some A ∧ GN wr (N + 2) v A ∧ v.ownBlock ≠ none ∧ Below (N + 2) W wr) (fun _ i _ => len - (intOf i).toNat)
      case atStart => exact ⟨0, _, [], rfl, rfl, Nat.zero_le _, rfl, HA.out.2, by simp [Value.ownBlock], HA.out.1⟩
      case round =>
        obtain ⟨k, v, A, rfl, rfl, hk, hA, hgn, hvb, hbel⟩ := hrel
        have HR : Hid (matchTo (fun i => matchG (p.kid i) (x.kid i)) k = some A ∧ GN wr (N + 2) v A ∧ v.ownBlock ≠ none ∧ Below (N + 2) W wr) := ⟨hA, hgn, hvb, hbel⟩
        clear hA hgn hvb hbel
        obtain ⟨x0, x1, x2, x3, x4, x5⟩ := (KW.out wr HR.out.2.2.2).2.1.cells
        obtain ⟨y0, y1, y2, y3, y4, y5⟩ := (KW.out wr HR.out.2.2.2).2.2.cells
        by_cases hkf : (k : Int) < len
        case pos =>
          have hkp : k < len := by omega
          have hkx : k < x.len := by (have := HXL.out; omega)
          have HOKK : Hid (∀ i, i ≤ k → okG (p.kid i)) := fun i hi => kids_ok HW.out.2.2.1 (by rw [HL.out]; omega) (.inl (by rw [HL.out]; exact HOF.out))
          obtain ⟨b1, o1, sk1, uk1, hpk, hdk, hink⟩ := HAT.out k hkp
          obtain ⟨b2, o2, sx2, ux2, hpx, hdx, hinx⟩ := HAX.out k hkx
          subst hpk hpx
          obtain ⟨q1, r1, e1⟩ := hink.xs.shape
          obtain ⟨q2, r2, e2⟩ := hink.sets.shape
          obtain ⟨q3, r3, e3⟩ := hinx.xs.shape
          obtain ⟨q4, r4, e4⟩ := hinx.sets.shape
          subst e1 e2 e3 e4
          have HDP := hid_ofD hdk
          have HDX := hid_ofD hdx
          have HCALL : Hid (∀ wx, Below (N + 2) W wx → Calls Tryz.prog 17 #[.agg #[.int .i64 (p.kid k).op, .int .i64 (p.kid k).at_, .int .i64 (p.kid k).n, .string (p.kid k).s, .slice q2 (p.kid k).set.length r2, .slice q1 (p.kid k).len r1], .agg #[.int .i64 (x.kid k).op, .int .i64 (x.kid k).at_, .int .i64 (x.kid k).n, .string (x.kid k).s, .slice q4 (x.kid k).set.length r4, .slice q3 (x.kid k).len r3]] wx fun e w' => SPost wx (matchG (p.kid k) (x.kid k)) e w') := fun wx hx => HK.out k hkp (x.kid k) wx _ _ _ _ (hink.below (KW.out wx hx).1) (hinx.below (KW.out wx hx).1) (by have := kid_weight (p := p) (i := k) (by rw [HL.out]; exact hkp); have := HW.out.1; omega) (by have := kid_weight (p := x) (i := k) hkx; have := HW.out.2.1; omega) (HOKK.out k (Nat.le_refl _)) (once_at HW.out.2.2.2 (by rw [HL.out]; exact hkp))
          clear hdk hdx hink hinx
          go_wp2_with fail
          have HS0 : Below (N + 2) W wr.drew := HR.out.2.2.2.drew
          refine wp_region_held_drew (S := fun wq => Below (N + 2) W wq) (by kernel_rfl) HS0 (fun _ => ?_)
          refine wpAnyH_take (i := 0) (oi := { dst := some 90, op := Op.fieldAddr 32 (Operand.tmp 2) 5, type := 0, pos := "l07_match.go:104", after := #[], guard := none }) (v := .pointer (some ⟨N, 5, none⟩)) rfl (by kernel_rfl) (by kernel_rfl) (by kernel_rfl) (fun _ _ _ h => h) (Or.inl ⟨by rfl, ?_⟩) HS0 ?_
          · intro wq hSq
            clear hSq
            go_simp
          try simp only [Act.put, List.setIfInBounds_toArray, List.set_cons_zero, List.set_cons_succ]
          refine wpAnyH_take (i := 1) (oi := { dst := some 91, op := Op.load 30 (Operand.tmp 90), type := 30, pos := "l07_match.go:104", after := #[{ on := 0, ground := Ground.data }], guard := none }) (v := .slice (some ⟨b1, o1, none⟩) len cu) rfl (by kernel_rfl) (by kernel_rfl) (by kernel_rfl) (fun _ _ _ h => h) (Or.inl ⟨by rfl, ?_⟩) HS0 ?_
          · intro wq hSq
            obtain ⟨f00, f01, f02, f03, f04, f05⟩ := (KW.out wq hSq).2.1.cells
            clear hSq
            go_simp
          try simp only [Act.put, List.setIfInBounds_toArray, List.set_cons_zero, List.set_cons_succ]
          refine wpAnyH_take (i := 2) (oi := { dst := some 92, op := Op.move (Operand.tmp 9), type := 3, pos := "l07_match.go:104", after := #[], guard := none }) (v := .int .i64 k) rfl (by kernel_rfl) (by kernel_rfl) (by kernel_rfl) (fun _ _ _ h => h) (Or.inl ⟨by rfl, ?_⟩) HS0 ?_
          · intro wq hSq
            clear hSq
            go_simp
          try simp only [Act.put, List.setIfInBounds_toArray, List.set_cons_zero, List.set_cons_succ]
          refine wpAnyH_take (i := 3) (oi := { dst := some 93, op := Op.indexAddr 30 (Operand.tmp 91) (Operand.tmp 92), type := 0, pos := "l07_match.go:104", after := #[{ on := 1, ground := Ground.data }, { on := 2, ground := Ground.data }], guard := none }) (v := .pointer (some ⟨b1, o1 + k * 6, none⟩)) rfl (by kernel_rfl) (by kernel_rfl) (by kernel_rfl) (fun _ _ _ h => h) (Or.inl ⟨by rfl, ?_⟩) HS0 ?_
          · intro wq hSq
            clear hSq
            go_simp
          try simp only [Act.put, List.setIfInBounds_toArray, List.set_cons_zero, List.set_cons_succ]
          refine wpAnyH_take (i := 4) (oi := { dst := some 94, op := Op.load 32 (Operand.tmp 93), type := 32, pos := "l07_match.go:104", after := #[{ on := 3, ground := Ground.data }], guard := none }) (v := .agg #[.int .i64 (p.kid k).op, .int .i64 (p.kid k).at_, .int .i64 (p.kid k).n, .string (p.kid k).s, .slice q2 (p.kid k).set.length r2, .slice q1 (p.kid k).len r1]) rfl (by kernel_rfl) (by kernel_rfl) (by kernel_rfl) (fun _ _ _ h => h) (Or.inl ⟨by rfl, ?_⟩) HS0 ?_
          · intro wq hSq
            obtain ⟨f00, f01, f02, f03, f04, f05⟩ := HHD.out wq hSq _ _ _ _ _ HDP.out
            clear hSq
            go_simp
          try simp only [Act.put, List.setIfInBounds_toArray, List.set_cons_zero, List.set_cons_succ]
          refine wpAnyH_take (i := 5) (oi := { dst := some 95, op := Op.fieldAddr 32 (Operand.tmp 3) 5, type := 0, pos := "l07_match.go:104", after := #[], guard := none }) (v := .pointer (some ⟨N + 1, 5, none⟩)) rfl (by kernel_rfl) (by kernel_rfl) (by kernel_rfl) (fun _ _ _ h => h) (Or.inl ⟨by rfl, ?_⟩) HS0 ?_
          · intro wq hSq
            clear hSq
            go_simp
          try simp only [Act.put, List.setIfInBounds_toArray, List.set_cons_zero, List.set_cons_succ]
          refine wpAnyH_take (i := 6) (oi := { dst := some 96, op := Op.load 30 (Operand.tmp 95), type := 30, pos := "l07_match.go:104", after := #[{ on := 5, ground := Ground.data }], guard := none }) (v := .slice (some ⟨b2, o2, none⟩) x.len cx) rfl (by kernel_rfl) (by kernel_rfl) (by kernel_rfl) (fun _ _ _ h => h) (Or.inl ⟨by rfl, ?_⟩) HS0 ?_
          · intro wq hSq
            obtain ⟨f00, f01, f02, f03, f04, f05⟩ := (KW.out wq hSq).2.2.cells
            clear hSq
            go_simp
          try simp only [Act.put, List.setIfInBounds_toArray, List.set_cons_zero, List.set_cons_succ]
          refine wpAnyH_take (i := 7) (oi := { dst := some 97, op := Op.move (Operand.tmp 9), type := 3, pos := "l07_match.go:104", after := #[], guard := none }) (v := .int .i64 k) rfl (by kernel_rfl) (by kernel_rfl) (by kernel_rfl) (fun _ _ _ h => h) (Or.inl ⟨by rfl, ?_⟩) HS0 ?_
          · intro wq hSq
            clear hSq
            go_simp
          try simp only [Act.put, List.setIfInBounds_toArray, List.set_cons_zero, List.set_cons_succ]
          refine wpAnyH_take (i := 8) (oi := { dst := some 98, op := Op.indexAddr 30 (Operand.tmp 96) (Operand.tmp 97), type := 0, pos := "l07_match.go:104", after := #[{ on := 6, ground := Ground.data }, { on := 7, ground := Ground.data }], guard := none }) (v := .pointer (some ⟨b2, o2 + k * 6, none⟩)) rfl (by kernel_rfl) (by kernel_rfl) (by kernel_rfl) (fun _ _ _ h => h) (Or.inl ⟨by rfl, ?_⟩) HS0 ?_
          · intro wq hSq
            clear hSq
            go_simp
          try simp only [Act.put, List.setIfInBounds_toArray, List.set_cons_zero, List.set_cons_succ]
          refine wpAnyH_take (i := 9) (oi := { dst := some 99, op := Op.load 32 (Operand.tmp 98), type := 32, pos := "l07_match.go:104", after := #[{ on := 8, ground := Ground.data }], guard := none }) (v := .agg #[.int .i64 (x.kid k).op, .int .i64 (x.kid k).at_, .int .i64 (x.kid k).n, .string (x.kid k).s, .slice q4 (x.kid k).set.length r4, .slice q3 (x.kid k).len r3]) rfl (by kernel_rfl) (by kernel_rfl) (by kernel_rfl) (fun _ _ _ h => h) (Or.inl ⟨by rfl, ?_⟩) HS0 ?_
          · intro wq hSq
            obtain ⟨f00, f01, f02, f03, f04, f05⟩ := HHD.out wq hSq _ _ _ _ _ HDX.out
            clear hSq
            go_simp
          try simp only [Act.put, List.setIfInBounds_toArray, List.set_cons_zero, List.set_cons_succ]
          refine wpAnyH_ready (rs := [10]) (by kernel_rfl) (by simp) ?_
          refine AllReadyH.cons (o := { dst := some 100, op := Op.call { callee := Callee.value (Operand.func 17), args := #[Operand.tmp 94, Operand.tmp 99], argTypes := #[32, 32] }, type := 28, pos := "l07_match.go:104", after := #[{ on := 4, ground := Ground.data }, { on := 9, ground := Ground.data }], guard := none }) rfl (fun KK hK => ?_) AllReadyH.nil
          refine step_call2 rfl 17 (.tmp 94) (.tmp 99) 32 32 rfl match_enter (.agg #[.int .i64 (p.kid k).op, .int .i64 (p.kid k).at_, .int .i64 (p.kid k).n, .string (p.kid k).s, .slice q2 (p.kid k).set.length r2, .slice q1 (p.kid k).len r1]) (.agg #[.int .i64 (x.kid k).op, .int .i64 (x.kid k).at_, .int .i64 (x.kid k).n, .string (x.kid k).s, .slice q4 (x.kid k).set.length r4, .slice q3 (x.kid k).len r3]) rfl rfl _ (HCALL.out wr.drew HS0) ?_
          rintro e w1 ⟨hb1, v1, ok1, rfl, hcase⟩
          refine ⟨_, rfl, ?_⟩
          have HBW : Hid (Below wr.heap.size wr w1) := ⟨hb1.os, hb1.tape, hb1.output, hb1.size, hb1.block⟩
          have HSZ : Hid (N + 2 ≤ wr.heap.size) := by have h1 := HR.out.2.2.2.size; have h2 := HG0.out.2; show _ ≤ _; omega
          have HS1 : Below (N + 2) W w1 := HR.out.2.2.2.trans (HBW.out.mono HSZ.out)
          have HCS : Hid ((∃ l, matchG (p.kid k) (x.kid k) = some l ∧ ok1 = true ∧ GN w1 wr.heap.size v1 l ∧ v1.ownBlock ≠ none) ∨ (matchG (p.kid k) (x.kid k) = none ∧ ok1 = false)) := hcase
          clear hb1 hcase HCALL HDP HDX
          refine hK.out _ _ HS1 (fun _ => ?_)
          clear hK KK
          try simp only [Act.put, List.setIfInBounds_toArray, List.set_cons_zero, List.set_cons_succ]
          refine wpAnyH_take (i := 11) (oi := { dst := some 89, op := Op.move (Operand.tmp 100), type := 28, pos := "l07_match.go:104", after := #[{ on := 10, ground := Ground.data }], guard := none }) (v := .tuple #[v1, .bool ok1]) rfl (by kernel_rfl) (by kernel_rfl) (by kernel_rfl) (fun _ _ _ h => h) (Or.inl ⟨by rfl, ?_⟩) HS1 ?_
          · intro wq hSq
            clear hSq
            go_simp
          try simp only [Act.put, List.setIfInBounds_toArray, List.set_cons_zero, List.set_cons_succ]
          refine wpAnyH_take (i := 12) (oi := { dst := some 101, op := Op.extract (Operand.tmp 89) 0, type := 27, pos := "l07_match.go:104", after := #[{ on := 11, ground := Ground.data }], guard := none }) (v := v1) rfl (by kernel_rfl) (by kernel_rfl) (by kernel_rfl) (fun _ _ _ h => h) (Or.inl ⟨by rfl, ?_⟩) HS1 ?_
          · intro wq hSq
            clear hSq
            go_simp
          try simp only [Act.put, List.setIfInBounds_toArray, List.set_cons_zero, List.set_cons_succ]
          refine wpAnyH_take (i := 13) (oi := { dst := some 102, op := Op.extract (Operand.tmp 89) 1, type := 4, pos := "l07_match.go:104", after := #[{ on := 11, ground := Ground.data }, { on := 14, ground := Ground.gcOnly Departure.lateStores }], guard := none }) (v := .bool ok1) rfl (by kernel_rfl) (by kernel_rfl) (by kernel_rfl) (fun _ _ _ h => h) (Or.inl ⟨by rfl, ?_⟩) HS1 ?_
          · intro wq hSq
            clear hSq
            go_simp
          try simp only [Act.put, List.setIfInBounds_toArray, List.set_cons_zero, List.set_cons_succ]
          refine wpAnyH_take (i := 14) (oi := { dst := some 10, op := Op.assign (Operand.tmp 101), type := 27, pos := "l07_match.go:104", after := #[{ on := 12, ground := Ground.data }, { on := 10, ground := Ground.chain }, { on := 0, ground := Ground.phase }, { on := 1, ground := Ground.phase }, { on := 2, ground := Ground.phase }, { on := 3, ground := Ground.phase }, { on := 4, ground := Ground.phase }, { on := 5, ground := Ground.phase }, { on := 6, ground := Ground.phase }, { on := 7, ground := Ground.phase }, { on := 8, ground := Ground.phase }, { on := 9, ground := Ground.phase }, { on := 10, ground := Ground.phase }, { on := 11, ground := Ground.phase }, { on := 12, ground := Ground.phase }, { on := 13, ground := Ground.textOnly Departure.lateStores }], guard := none }) (v := v1) rfl (by kernel_rfl) (by kernel_rfl) (by kernel_rfl) (fun _ _ _ h => h) (Or.inl ⟨by rfl, ?_⟩) HS1 ?_
          · intro wq hSq
            clear hSq
            go_simp
          try simp only [Act.put, List.setIfInBounds_toArray, List.set_cons_zero, List.set_cons_succ]
          refine wpAnyH_take (i := 15) (oi := { dst := some 11, op := Op.assign (Operand.tmp 102), type := 4, pos := "l07_match.go:104", after := #[{ on := 13, ground := Ground.data }, { on := 14, ground := Ground.chain }, { on := 0, ground := Ground.phase }, { on := 1, ground := Ground.phase }, { on := 2, ground := Ground.phase }, { on := 3, ground := Ground.phase }, { on := 4, ground := Ground.phase }, { on := 5, ground := Ground.phase }, { on := 6, ground := Ground.phase }, { on := 7, ground := Ground.phase }, { on := 8, ground := Ground.phase }, { on := 9, ground := Ground.phase }, { on := 10, ground := Ground.phase }, { on := 11, ground := Ground.phase }, { on := 12, ground := Ground.phase }, { on := 13, ground := Ground.phase }, { on := 14, ground := Ground.phase }], guard := none }) (v := .bool ok1) rfl (by kernel_rfl) (by kernel_rfl) (by kernel_rfl) (fun _ _ _ h => h) (Or.inl ⟨by rfl, ?_⟩) HS1 ?_
          · intro wq hSq
            clear hSq
            go_simp
          try simp only [Act.put, List.setIfInBounds_toArray, List.set_cons_zero, List.set_cons_succ]
          refine wpAnyH_done (by kernel_rfl) ?_ _
          clear x0 x1 x2 x3 x4 x5 y0 y1 y2 y3 y4 y5
          rcases HCS.out with ⟨l, hml, rfl, hgl, hvl⟩ | ⟨hml, rfl⟩
          · obtain ⟨lr, SS, hgr, hgB⟩ := HR.out.2.1
            obtain ⟨l1, SS1, hg1, hgB1⟩ := hgl
            obtain ⟨ao, cc, hv1, hn1, hs1⟩ := row_src hg1.row
            subst hv1
            have hAl : A.length = namesTo p.kid k := matchTo_len k A (fun i hi => HOKK.out i (by omega)) HR.out.1
            have hll : l.length = (namesD (p.kid k) 0).length := matchG_len _ _ _ (HOKK.out k (Nat.le_refl _)) hml
            have hmost := names_most p HW.out.1 (k := k + 1) (by rw [HL.out]; omega)
            rw [namesTo_succ] at hmost
            have hsum : A.length + l.length ≤ 1048577 := by omega
            have HGR : Hid (GRow wr (N + 2) v A lr SS ∧ (∀ k ∈ blG v SS, N + 2 ≤ k) ∧ GRow w1 wr.heap.size (.slice ao l.length cc) l l1 SS1 ∧ (∀ k ∈ blG (.slice ao l.length cc) SS1, wr.heap.size ≤ k) ∧ matchG (p.kid k) (x.kid k) = some l) := ⟨hgr, hgB, hg1, hgB1, hml⟩
            have HRW : Hid (w1.ownsRow (N + 2) 48 9 v A.length (grows lr)) := own_sameX hgr.row (fun k hk => HBW.out.block k (hgr.row.lt k hk).2)
            have HN1 : Hid ((ao = none → l.length = 0 ∧ cc = 0) ∧ ∀ ad, ao = some ad → ∀ j u, (grows l1)[j]? = some u → w1.cell? (ad.add j) = some u) := ⟨hn1, hs1⟩
            clear hgr hgB hg1 hgB1 hml hn1 hs1 hvl hAl hll hmost HCS
            go_wp2_with (at_builtin; refine wpList_append_at2 _ rfl (.tmp 106) (.tmp 107) 27 rfl (N + 2) 48 i0 (.agg #[.string ⟨#[]⟩, .int .i64 0, .int .i64 0, .int .i64 0, .int .i64 0, .string ⟨#[]⟩, .slice none 0 0, .slice none 0 0, .slice none 0 0]) 9 136 Tryz.underlying27 hi0 hz0 hz1 hz2 rfl (by decide) v A.length (grows lr) rfl HRW.out HR.out.2.2.1 ao l.length cc (grows l1) rfl HGR.out.2.2.1.row.1 HN1.out.1 HN1.out.2 HGR.out.2.2.1.one (by unfold maxLen; omega) (by omega) (by have h1 := HBW.out.size; have h2 := HSZ.out; omega) ?_; intro v' w2 hown2 hg2 hwh2)
            have HN2 : Hid (matchTo (fun i => matchG (p.kid i) (x.kid i)) (k + 1) = some (A ++ l) ∧ GN w2 (N + 2) v' (A ++ l) ∧ v'.ownBlock ≠ none ∧ Below (N + 2) W w2) := by
              have h9 := HGR.out.1.joined HGR.out.2.1 HBW.out HGR.out.2.2.1 HGR.out.2.2.2.1 HSZ.out hown2.out hg2.out hwh2.out
              refine ⟨?_, h9.1, ?_, HR.out.2.2.2.trans h9.2⟩
              · simp only [matchTo]
                rw [HR.out.1, HGR.out.2.2.2.2]
                rfl
              · rcases hwh2.out with h | h
                · rw [h]; exact HR.out.2.2.1
                · rw [h]; simp
            clear hown2 hg2 hwh2 HRW HGR HN1 HBW HS0 HS1
            go_wp2_with fail
            go_roundw
            case rel => exact ⟨k + 1, _, A ++ l, rfl, by go_num, by omega, HN2.out⟩
            case measure => simp [intOf]; omega
          · have HB : Hid (m = none) := by
              show _ = _
              rw [HM.out, kids_all HO3.out HX3.out (by rw [HL.out]; exact HOF.out) (by rw [HL.out]; exact HXL.out), HL.out]; exact matchTo_no hkp hml
            clear hml
            go_wp2_with fail
            go_ret2
            exact HBAD.out _ _ HS1 HB.out
        case neg =>
          have hke : k = len := by omega
          have HB : Hid (m = some A) := by
            show _ = _
            rw [HM.out, kids_all HO3.out HX3.out (by rw [HL.out]; exact HOF.out) (by rw [HL.out]; exact HXL.out), HL.out, ← hke]
            exact HR.out.1
          go_wp2_with fail
          go_ret2
          exact HEND.out _ _ _ HR.out.2.2.2 HR.out.2.1 HR.out.2.2.1 HB.out
end Go.Proofs.YtlclfmjpnchmbaaGreat
