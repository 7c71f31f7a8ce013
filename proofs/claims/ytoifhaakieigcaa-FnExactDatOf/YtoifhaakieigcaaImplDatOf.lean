/- impl.DatOf. Condition: at most 2^20 nodes. -/
import Derived.Test.YtoifhaakieigcaaRemWalkXD
import Derived.Test.YtoifhaakieigcaaStxD
namespace Go.Proofs.Ytoifhaakieigcaa
open Go.ChangeShapes Go.WideShapes Go.ChangeAt Go.RowKit

theorem dat_turns : TurnXD datX where
  ne := fun x h => by
    cases x with
    | no => exact absurd rfl h
    | mk op a n s set len kid => intro e; cases e
  op := fun x => by cases x <;> rfl
  at_ := fun x => by cases x <;> rfl
  n := fun x => by cases x <;> rfl
  s := fun x => by cases x <;> rfl
  len := fun x => by cases x <;> rfl
  kid := fun x i => by cases x <;> rfl

set_option maxRecDepth 100000 in
set_option maxHeartbeats 2000000 in
theorem impl_dat_of (t : X) (su u : Value) (w : World) (hin : t.At 0 w su u) (hc : t.count ≤ 1048577) :
    Calls Try.prog 24 #[.agg #[.int .i64 t.op, .int .i64 t.at_, .int .i64 t.n, .string t.s, su, u]] w fun e w' =>
      ∃ u' S, e = .returned (.agg #[.int .i64 t.op, .int .i64 t.at_, .int .i64 t.n, .string t.s, u']) ∧ Below w.heap.size w w' ∧ DOwn w' (datX t) u' S ∧ S.Nodup ∧ ∀ x ∈ S, w.heap.size ≤ x := by
  obtain ⟨p, cap, hu⟩ := hin.xs.shape
  obtain ⟨ps, cps, hsu⟩ := hin.sets.shape
  subst hu hsu
  have HC : Hid (∀ o1 o2, Calls Try.prog 50 #[.agg #[.int .i64 t.op, .int .i64 t.at_, .int .i64 t.n, .string t.s, .slice ps t.set.length cps, .slice p t.len cap], .func (.func 51) #[] #[], .func (.func 52) #[] #[]] ((w.alloc o1).alloc o2) fun e w' =>
      ∃ u' S, e = .returned (.agg #[.int .i64 t.op, .int .i64 t.at_, .int .i64 t.n, .string t.s, u']) ∧ Below ((w.alloc o1).alloc o2).heap.size ((w.alloc o1).alloc o2) w' ∧ DOwn w' (datX t) u' S ∧ S.Nodup ∧ ∀ x ∈ S, w.heap.size + 2 ≤ x) := by
    intro o1 o2
    have hb : Below w.heap.size w ((w.alloc o1).alloc o2) := (newx w _).trans ((newx _ _).mono (by simp))
    refine (remade_xd datX dat_turns t _ _ _ (X.At.below hb hin) hc).mono ?_
    rintro e w' ⟨u', S, h1, h2, h3, h4, h5⟩
    exact ⟨u', S, h1, h2, h3, h4, fun x hx => by have := h5 x hx; simp at this; omega⟩
  clear hin hc
  go_enter Try.func24, Try.ntmps24
  go_wp2_with fail
  refine (HC.out _ _).mono ?_
  rintro e w1 ⟨u', S, rfl, hb1, hX, hSn, hSg⟩
  obtain ⟨h1, h2, h4, h5⟩ := twoX hb1
  have hR : Five w1 (w.heap.size + 1) 0 0 0 ⟨#[]⟩ (.slice none 0 0) 33 := h2
  obtain ⟨r0, r1, r2, r3, r4⟩ := hR.cells
  have rf := hR.fr
  obtain ⟨pu, cu, hu⟩ := hX.sown.sl.shape
  subst hu
  have HX : Hid (DOwn w1 (datX t) (.slice pu (datX t).len cu) S ∧ S.Nodup ∧ ∀ x ∈ S, w.heap.size + 2 ≤ x) := ⟨hX, hSn, hSg⟩
  have HB : Hid (Below w.heap.size w w1) := h5
  clear hb1 hX hSn hSg h1 h2 h4 h5 hR HC
  generalize (datX t).len = tl at *
  go_wp2_with fail
  refine bodyPost_ret (v := .agg #[.int .i64 t.op, .int .i64 t.at_, .int .i64 t.n, .string t.s, .slice pu tl cu]) (by rw [results_cellX (p := 2) (ty := 33) (by kernel_rfl)]; simp [go_sem, r0, r1, r2, r3, r4]) rfl ⟨_, S, rfl, ?_, ?_, HX.out.2.1, fun x hx => by have := HX.out.2.2 x hx; omega⟩
  · exact put5_below HB.out (w.heap.size + 1) (by omega) _ _ _ _ _
  · exact HX.out.1.same _ (fun x hx => put5_other w1 (w.heap.size + 1) t.op t.at_ t.n t.s (.slice pu tl cu) x (by have := HX.out.2.2 x hx; omega))
end Go.Proofs.Ytoifhaakieigcaa
