/- impl.turnAll and impl.FlipAll. Condition: at most 2^20 nodes, each set of at most 2^22. -/
import Derived.Test.YtoifhaakieigcaaRemWalkXX
import Derived.Test.YtoifhaakieigcaaMadeFlip
namespace Go.Proofs.Ytoifhaakieigcaa
open Go.ChangeShapes Go.WideShapes Go.ChangeAt Go.RowKit

/-- A node's set, turned. -/
def flipSet (m : Int) (x : X) : List Int := if x.op = 2 then flipL x.set m else x.set
theorem flip_turns (m : Int) : TurnXX (fun t => t.flip m) (flipSet m) where
  ne := fun x h => X.turn_ne _ x h
  op := fun x => by cases x <;> rfl
  at_ := fun x => by cases x <;> rfl
  n := fun x => by cases x <;> rfl
  s := fun x => by cases x <;> rfl
  set := fun x => by cases x <;> rfl
  len := fun x => by cases x <;> rfl
  kid := fun x i => by cases x <;> rfl
  small := fun x h => by
    have h1 := small_set h
    have h2 := flip_len x.set m
    unfold flipSet
    by_cases h3 : x.op = 2
    · rw [if_pos h3]; unfold maxLen; omega
    · rw [if_neg h3]; unfold maxLen; omega

set_option maxRecDepth 100000 in
set_option maxHeartbeats 2000000 in
theorem turn_all_flip (PN : Nat) (m : Int) (t : X) (su u : Value) (w : World) (hP : w.cell? ⟨PN, 0, none⟩ = some (.int .i64 m)) (hin : t.At 0 w su u) (hsm : t.Small) (hc : t.count ≤ 1048577) :
    Calls Try.prog 59 #[.agg #[.int .i64 t.op, .int .i64 t.at_, .int .i64 t.n, .string t.s, su, u], .func (.func 60) #[] #[.pointer (some ⟨PN, 0, none⟩)]] w fun e w' =>
      ∃ su' u' S, e = .returned (.agg #[.int .i64 t.op, .int .i64 t.at_, .int .i64 t.n, .string t.s, su', u']) ∧ Below w.heap.size w w' ∧ XOwn w' (t.flip m) su' u' S ∧ S.Nodup ∧ ∀ x ∈ S, w.heap.size ≤ x := by
  obtain ⟨p, cap, hu⟩ := hin.xs.shape
  obtain ⟨ps, cps, hsu⟩ := hin.sets.shape
  subst hu hsu
  have hcall : ∀ o1 o2, Calls Try.prog 78 #[.agg #[.int .i64 t.op, .int .i64 t.at_, .int .i64 t.n, .string t.s, .slice ps t.set.length cps, .slice p t.len cap], .func (.func 51) #[] #[], .func (.func 79) #[] #[.pointer (some ⟨w.heap.size + 1, 0, none⟩)]] (((w.alloc o1).alloc (.cells #[.func (.func 60) #[] #[.pointer (some ⟨PN, 0, none⟩)]] 35)).alloc o2) fun e w' =>
      ∃ su' u' S, e = .returned (.agg #[.int .i64 t.op, .int .i64 t.at_, .int .i64 t.n, .string t.s, su', u']) ∧ Below (((w.alloc o1).alloc (.cells #[.func (.func 60) #[] #[.pointer (some ⟨PN, 0, none⟩)]] 35)).alloc o2).heap.size (((w.alloc o1).alloc (.cells #[.func (.func 60) #[] #[.pointer (some ⟨PN, 0, none⟩)]] 35)).alloc o2) w' ∧ XOwn w' (t.flip m) su' u' S ∧ S.Nodup ∧ ∀ x ∈ S, w.heap.size + 3 ≤ x := by
    intro o1 o2
    have hb : Below w.heap.size w (((w.alloc o1).alloc (.cells #[.func (.func 60) #[] #[.pointer (some ⟨PN, 0, none⟩)]] 35)).alloc o2) := (newx w _).trans (((newx _ _).mono (by simp)).trans ((newx _ _).mono (by simp; omega)))
    have hS : (((w.alloc o1).alloc (.cells #[.func (.func 60) #[] #[.pointer (some ⟨PN, 0, none⟩)]] 35)).alloc o2).heap[w.heap.size + 1]? = some (.cells #[.func (.func 60) #[] #[.pointer (some ⟨PN, 0, none⟩)]] 35 (0, 0)) := by
      have n2 := heap_alloc_new (w.alloc o1) (.cells #[.func (.func 60) #[] #[.pointer (some ⟨PN, 0, none⟩)]] 35)
      have e1 : (w.alloc o1).heap.size = w.heap.size + 1 := by simp
      rw [e1] at n2
      exact (Below.heap_alloc _ _ _ (by simp)).trans n2
    refine (remade_xx (fun t => t.flip m) (flipSet m) (flip_turns m) (w.heap.size + 1) t _ _ _ (X.At.below hb hin) hsm hc ?_).mono ?_
    · intro x sx vp vc kp kn kc W hW hx hxs
      obtain ⟨px, cx, hsx⟩ := hx.sets.shape
      subst hsx
      exact made_flip PN (w.heap.size + 1) m x.op x.at_ x.n x.s x.set px cx vp x.len vc kp kn kc W (keepsX hW _ _ (keepsX hb _ _ hP)) (keepsX hW _ _ (cell_of_row _ _ 0 _ _ _ hS)) ((hx.sets.rd).below hW) (small_set hxs)
    · rintro e w' ⟨su', u', S, h1, h2, h3, h4, h5⟩
      exact ⟨su', u', S, h1, h2, h3, h4, fun x hx => by have := h5 x hx; simp at this; omega⟩
  have HC : Hid (∀ o1 o2, Calls Try.prog 78 #[.agg #[.int .i64 t.op, .int .i64 t.at_, .int .i64 t.n, .string t.s, .slice ps t.set.length cps, .slice p t.len cap], .func (.func 51) #[] #[], .func (.func 79) #[] #[.pointer (some ⟨w.heap.size + 1, 0, none⟩)]] (((w.alloc o1).alloc (.cells #[.func (.func 60) #[] #[.pointer (some ⟨PN, 0, none⟩)]] 35)).alloc o2) fun e w' =>
      ∃ su' u' S, e = .returned (.agg #[.int .i64 t.op, .int .i64 t.at_, .int .i64 t.n, .string t.s, su', u']) ∧ Below (((w.alloc o1).alloc (.cells #[.func (.func 60) #[] #[.pointer (some ⟨PN, 0, none⟩)]] 35)).alloc o2).heap.size (((w.alloc o1).alloc (.cells #[.func (.func 60) #[] #[.pointer (some ⟨PN, 0, none⟩)]] 35)).alloc o2) w' ∧ XOwn w' (t.flip m) su' u' S ∧ S.Nodup ∧ ∀ x ∈ S, w.heap.size + 3 ≤ x) := hcall
  clear hcall hin hsm hc hP
  go_enter Try.func59, Try.ntmps59
  go_wp2_with fail
  refine (HC.out _ _).mono ?_
  rintro e w1 ⟨su', u', S, rfl, hb1, hX, hSn, hSg⟩
  obtain ⟨h1, h2, h3, h4, h5⟩ := threeX hb1
  have hR : Six w1 (w.heap.size + 1 + 1) 0 0 0 ⟨#[]⟩ (.slice none 0 0) (.slice none 0 0) 29 := h3
  obtain ⟨r0, r1, r2, r3, r4, r5⟩ := hR.cells
  have rf := hR.fr
  obtain ⟨pu, cu, hu⟩ := hX.at0.xs.shape
  obtain ⟨pv, cv, hv⟩ := hX.at0.sets.shape
  subst hu hv
  have HX : Hid (XOwn w1 (t.flip m) (.slice pv (t.flip m).set.length cv) (.slice pu (t.flip m).len cu) S ∧ S.Nodup ∧ ∀ x ∈ S, w.heap.size + 3 ≤ x) := ⟨hX, hSn, hSg⟩
  have HB : Hid (Below w.heap.size w w1) := h5
  clear hb1 hX hSn hSg h1 h2 h3 h4 h5 hR HC
  generalize (t.flip m).set.length = sl at *
  generalize (t.flip m).len = tl at *
  go_wp2_with fail
  refine bodyPost_ret (v := .agg #[.int .i64 t.op, .int .i64 t.at_, .int .i64 t.n, .string t.s, .slice pv sl cv, .slice pu tl cu]) (by rw [results_cellX (p := 4) (ty := 29) (by kernel_rfl)]; simp [go_sem, r0, r1, r2, r3, r4, r5]) rfl ⟨_, _, S, rfl, ?_, ?_, HX.out.2.1, fun x hx => by have := HX.out.2.2 x hx; omega⟩
  · exact put6_below HB.out (w.heap.size + 1 + 1) (by omega) _ _ _ _ _ _
  · exact HX.out.1.same _ (fun x hx => put6_other w1 (w.heap.size + 1 + 1) t.op t.at_ t.n t.s (.slice pv sl cv) (.slice pu tl cu) x (by have := HX.out.2.2 x hx; omega))

set_option maxRecDepth 100000 in
set_option maxHeartbeats 2000000 in
theorem impl_flip_all (m : Int) (t : X) (su u : Value) (w : World) (hin : t.At 0 w su u) (hsm : t.Small) (hc : t.count ≤ 1048577) :
    Calls Try.prog 29 #[.agg #[.int .i64 t.op, .int .i64 t.at_, .int .i64 t.n, .string t.s, su, u], .int .i64 m] w fun e w' =>
      ∃ su' u' S, e = .returned (.agg #[.int .i64 t.op, .int .i64 t.at_, .int .i64 t.n, .string t.s, su', u']) ∧ Below w.heap.size w w' ∧ XOwn w' (t.flip m) su' u' S ∧ S.Nodup ∧ ∀ x ∈ S, w.heap.size ≤ x := by
  obtain ⟨p, cap, hu⟩ := hin.xs.shape
  obtain ⟨ps, cps, hsu⟩ := hin.sets.shape
  subst hu hsu
  have HC : Hid (∀ o1 o2, Calls Try.prog 59 #[.agg #[.int .i64 t.op, .int .i64 t.at_, .int .i64 t.n, .string t.s, .slice ps t.set.length cps, .slice p t.len cap], .func (.func 60) #[] #[.pointer (some ⟨w.heap.size + 1, 0, none⟩)]] (((w.alloc o1).alloc (.cells #[.int .i64 m] 3)).alloc o2) fun e w' =>
      ∃ su' u' S, e = .returned (.agg #[.int .i64 t.op, .int .i64 t.at_, .int .i64 t.n, .string t.s, su', u']) ∧ Below (((w.alloc o1).alloc (.cells #[.int .i64 m] 3)).alloc o2).heap.size (((w.alloc o1).alloc (.cells #[.int .i64 m] 3)).alloc o2) w' ∧ XOwn w' (t.flip m) su' u' S ∧ S.Nodup ∧ ∀ x ∈ S, w.heap.size + 3 ≤ x) := by
    intro o1 o2
    have hb : Below w.heap.size w (((w.alloc o1).alloc (.cells #[.int .i64 m] 3)).alloc o2) := (newx w _).trans (((newx _ _).mono (by simp)).trans ((newx _ _).mono (by simp; omega)))
    have hS : (((w.alloc o1).alloc (.cells #[.int .i64 m] 3)).alloc o2).heap[w.heap.size + 1]? = some (.cells #[.int .i64 m] 3 (0, 0)) := by
      have n2 := heap_alloc_new (w.alloc o1) (.cells #[.int .i64 m] 3)
      have e1 : (w.alloc o1).heap.size = w.heap.size + 1 := by simp
      rw [e1] at n2
      exact (Below.heap_alloc _ _ _ (by simp)).trans n2
    refine (turn_all_flip (w.heap.size + 1) m t _ _ _ (cell_of_row _ _ 0 _ _ _ hS) (X.At.below hb hin) hsm hc).mono ?_
    rintro e w' ⟨su', u', S, h1, h2, h3, h4, h5⟩
    exact ⟨su', u', S, h1, h2, h3, h4, fun x hx => by have := h5 x hx; simp at this; omega⟩
  clear hin hsm hc
  go_enter Try.func29, Try.ntmps29
  go_wp2_with fail
  refine (HC.out _ _).mono ?_
  rintro e w1 ⟨su', u', S, rfl, hb1, hX, hSn, hSg⟩
  obtain ⟨h1, h2, h3, h4, h5⟩ := threeX hb1
  have hR : Six w1 (w.heap.size + 1 + 1) 0 0 0 ⟨#[]⟩ (.slice none 0 0) (.slice none 0 0) 29 := h3
  obtain ⟨r0, r1, r2, r3, r4, r5⟩ := hR.cells
  have rf := hR.fr
  obtain ⟨pu, cu, hu⟩ := hX.at0.xs.shape
  obtain ⟨pv, cv, hv⟩ := hX.at0.sets.shape
  subst hu hv
  have HX : Hid (XOwn w1 (t.flip m) (.slice pv (t.flip m).set.length cv) (.slice pu (t.flip m).len cu) S ∧ S.Nodup ∧ ∀ x ∈ S, w.heap.size + 3 ≤ x) := ⟨hX, hSn, hSg⟩
  have HB : Hid (Below w.heap.size w w1) := h5
  clear hb1 hX hSn hSg h1 h2 h3 h4 h5 hR HC
  generalize (t.flip m).set.length = sl at *
  generalize (t.flip m).len = tl at *
  go_wp2_with fail
  refine bodyPost_ret (v := .agg #[.int .i64 t.op, .int .i64 t.at_, .int .i64 t.n, .string t.s, .slice pv sl cv, .slice pu tl cu]) (by rw [results_cellX (p := 4) (ty := 29) (by kernel_rfl)]; simp [go_sem, r0, r1, r2, r3, r4, r5]) rfl ⟨_, _, S, rfl, ?_, ?_, HX.out.2.1, fun x hx => by have := HX.out.2.2 x hx; omega⟩
  · exact put6_below HB.out (w.heap.size + 1 + 1) (by omega) _ _ _ _ _ _
  · exact HX.out.1.same _ (fun x hx => put6_other w1 (w.heap.size + 1 + 1) t.op t.at_ t.n t.s (.slice pv sl cv) (.slice pu tl cu) x (by have := HX.out.2.2 x hx; omega))
end Go.Proofs.Ytoifhaakieigcaa
