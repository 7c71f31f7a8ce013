/- impl.StxOf. Condition: at most 2^20 data, a set of at most 2^22. -/
import Derived.Test.YtoifhaakieigcaaRemWalkDX
import Derived.Test.YtoifhaakieigcaaStxD
namespace Go.Proofs.Ytoifhaakieigcaa
open Go.ChangeShapes Go.WideShapes Go.ChangeAt Go.RowKit

/-- A symbol's set. -/
def symSet (set : List Int) (d : D) : List Int := if d.op = 2 then set else []
theorem stx_turns (set : List Int) (hl : set.length ≤ 4194304) : TurnDX (stxD set) (symSet set) where
  ne := fun x h => by
    cases x with
    | no => exact absurd rfl h
    | mk op a n s len kid => intro e; cases e
  op := fun x => by cases x <;> rfl
  at_ := fun x => by cases x <;> rfl
  n := fun x => by cases x <;> rfl
  s := fun x => by cases x <;> rfl
  set := fun x => by cases x <;> rfl
  len := fun x => by cases x <;> rfl
  kid := fun x i => by cases x <;> rfl
  small := fun x => by
    unfold symSet
    by_cases h3 : x.op = 2
    · rw [if_pos h3]; unfold maxLen; omega
    · rw [if_neg h3]; exact Nat.zero_le _

set_option maxRecDepth 100000 in
set_option maxHeartbeats 2000000 in
theorem impl_stx_of (set : List Int) (t : D) (u sv : Value) (w : World) (hin : t.In w u) (hs : Rd w sv set) (hl : set.length ≤ 4194304) (hc : t.count ≤ 1048577) :
    Calls Try.prog 13 #[.agg #[.int .i64 t.op, .int .i64 t.at_, .int .i64 t.n, .string t.s, u], sv] w fun e w' =>
      ∃ su' u' S, e = .returned (.agg #[.int .i64 t.op, .int .i64 t.at_, .int .i64 t.n, .string t.s, su', u']) ∧ Below w.heap.size w w' ∧ XOwn w' (stxD set t) su' u' S ∧ S.Nodup ∧ ∀ x ∈ S, w.heap.size ≤ x := by
  obtain ⟨p, cap, hu⟩ := hin.sl.shape
  obtain ⟨ps, cps, hsv, -⟩ := hs.shape
  subst hu hsv
  have HC : Hid (∀ o1 o2, Calls Try.prog 36 #[.agg #[.int .i64 t.op, .int .i64 t.at_, .int .i64 t.n, .string t.s, .slice p t.len cap], .func (.func 37) #[] #[], .func (.func 38) #[] #[.pointer (some ⟨w.heap.size + 1, 0, none⟩)]] (((w.alloc o1).alloc (.cells #[.slice ps set.length cps] 25)).alloc o2) fun e w' =>
      ∃ su' u' S, e = .returned (.agg #[.int .i64 t.op, .int .i64 t.at_, .int .i64 t.n, .string t.s, su', u']) ∧ Below (((w.alloc o1).alloc (.cells #[.slice ps set.length cps] 25)).alloc o2).heap.size (((w.alloc o1).alloc (.cells #[.slice ps set.length cps] 25)).alloc o2) w' ∧ XOwn w' (stxD set t) su' u' S ∧ S.Nodup ∧ ∀ x ∈ S, w.heap.size + 3 ≤ x) := by
    intro o1 o2
    have hb : Below w.heap.size w (((w.alloc o1).alloc (.cells #[.slice ps set.length cps] 25)).alloc o2) := (newx w _).trans (((newx _ _).mono (by simp)).trans ((newx _ _).mono (by simp; omega)))
    have hS : (((w.alloc o1).alloc (.cells #[.slice ps set.length cps] 25)).alloc o2).heap[w.heap.size + 1]? = some (.cells #[.slice ps set.length cps] 25 (0, 0)) := by
      have n2 := heap_alloc_new (w.alloc o1) (.cells #[.slice ps set.length cps] 25)
      have e1 : (w.alloc o1).heap.size = w.heap.size + 1 := by simp
      rw [e1] at n2
      exact (Below.heap_alloc _ _ _ (by simp)).trans n2
    refine (remade_dx (stxD set) (symSet set) (stx_turns set hl) (w.heap.size + 1) t _ _ (hin.below hb) hc ?_).mono ?_
    · intro x vp vc kp kn kc W hW hx
      exact made_stx set (.slice ps set.length cps) (.slice vp x.len vc) (w.heap.size + 1) x.op x.at_ x.n x.s kp kn kc W (keepsX hW _ _ (cell_of_row _ _ 0 _ _ _ hS)) ((hs.below hb).below hW) hl
    · rintro e w' ⟨su', u', S, h1, h2, h3, h4, h5⟩
      exact ⟨su', u', S, h1, h2, h3, h4, fun x hx => by have := h5 x hx; simp at this; omega⟩
  clear hin hs hc hl
  go_enter Try.func13, Try.ntmps13
  go_wp2_with fail
  refine (HC.out _ _).mono ?_
  rintro e w1 ⟨su', u', S, rfl, hb1, hX, hSn, hSg⟩
  obtain ⟨h1, h2, h3, h4, h5⟩ := threeX hb1
  have hR : Six w1 (w.heap.size + 1 + 1) 0 0 0 ⟨#[]⟩ (.slice none 0 0) (.slice none 0 0) 29 := h3
  obtain ⟨r0, r1, r2, r3, r4, r5⟩ := hR.cells
  have rf := hR.fr
  obtain ⟨pu, cu, hu⟩ := hX.at0.xs.shape
  obtain ⟨pv, cv, hv⟩ := hX.at0.sets.shape
  subst hu hv
  have HX : Hid (XOwn w1 (stxD set t) (.slice pv (stxD set t).set.length cv) (.slice pu (stxD set t).len cu) S ∧ S.Nodup ∧ ∀ x ∈ S, w.heap.size + 3 ≤ x) := ⟨hX, hSn, hSg⟩
  have HB : Hid (Below w.heap.size w w1) := h5
  clear hb1 hX hSn hSg h1 h2 h3 h4 h5 hR HC
  generalize (stxD set t).set.length = sl at *
  generalize (stxD set t).len = tl at *
  go_wp2_with fail
  refine bodyPost_ret (v := .agg #[.int .i64 t.op, .int .i64 t.at_, .int .i64 t.n, .string t.s, .slice pv sl cv, .slice pu tl cu]) (by rw [results_cellX (p := 4) (ty := 29) (by kernel_rfl)]; simp [go_sem, r0, r1, r2, r3, r4, r5]) rfl ⟨_, _, S, rfl, ?_, ?_, HX.out.2.1, fun x hx => by have := HX.out.2.2 x hx; omega⟩
  · exact put6_below HB.out (w.heap.size + 1 + 1) (by omega) _ _ _ _ _ _
  · exact HX.out.1.same _ (fun x hx => put6_other w1 (w.heap.size + 1 + 1) t.op t.at_ t.n t.s (.slice pv sl cv) (.slice pu tl cu) x (by have := HX.out.2.2 x hx; omega))
end Go.Proofs.Ytoifhaakieigcaa
