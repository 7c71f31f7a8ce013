/- impl.turnAll and impl.copiedStx. Condition: at most 2^20 nodes, each set of at most 2^22. -/
import Derived.Test.YtlclfmjpnchmbaaGreatZG29MadeCopied
import Derived.Test.YtlclfmjpnchmbaaGreatZG27ImplEmpty
namespace Go.Proofs.YtlclfmjpnchmbaaGreat
open Go.ChangeShapes Go.WideShapes Go.ChangeAt Go.RowKit

theorem copied_turns : TurnXX (fun t => t) (fun x => x.set) where
  ne := fun x h => h
  op := fun x => rfl
  at_ := fun x => rfl
  n := fun x => rfl
  s := fun x => rfl
  set := fun x => rfl
  len := fun x => rfl
  kid := fun x i => rfl
  small := fun x h => by
    have h1 := small_set h
    unfold maxLen; omega

set_option maxRecDepth 100000 in
set_option maxHeartbeats 2000000 in
theorem turn_all_copied (t : X) (su u : Value) (w : World) (hin : t.At 0 w su u) (hsm : t.Small) (hc : t.count ≤ 1048577) :
    Calls Tryz.prog 73 #[.agg #[.int .i64 t.op, .int .i64 t.at_, .int .i64 t.n, .string t.s, su, u], .func (.func 74) #[] #[]] w fun e w' =>
      ∃ su' u' S, e = .returned (.agg #[.int .i64 t.op, .int .i64 t.at_, .int .i64 t.n, .string t.s, su', u']) ∧ Below w.heap.size w w' ∧ XOwn w' t su' u' S ∧ S.Nodup ∧ ∀ x ∈ S, w.heap.size ≤ x := by
  obtain ⟨p, cap, hu⟩ := hin.xs.shape
  obtain ⟨ps, cps, hsu⟩ := hin.sets.shape
  subst hu hsu
  have hcall : ∀ o1 o2, Calls Tryz.prog 86 #[.agg #[.int .i64 t.op, .int .i64 t.at_, .int .i64 t.n, .string t.s, .slice ps t.set.length cps, .slice p t.len cap], .func (.func 42) #[] #[], .func (.func 87) #[] #[.pointer (some ⟨w.heap.size + 1, 0, none⟩)]] (((w.alloc o1).alloc (.cells #[.func (.func 74) #[] #[]] 42)).alloc o2) fun e w' =>
      ∃ su' u' S, e = .returned (.agg #[.int .i64 t.op, .int .i64 t.at_, .int .i64 t.n, .string t.s, su', u']) ∧ Below (((w.alloc o1).alloc (.cells #[.func (.func 74) #[] #[]] 42)).alloc o2).heap.size (((w.alloc o1).alloc (.cells #[.func (.func 74) #[] #[]] 42)).alloc o2) w' ∧ XOwn w' t su' u' S ∧ S.Nodup ∧ ∀ x ∈ S, w.heap.size + 3 ≤ x := by
    intro o1 o2
    have hb : Below w.heap.size w (((w.alloc o1).alloc (.cells #[.func (.func 74) #[] #[]] 42)).alloc o2) := (newx w _).trans (((newx _ _).mono (by simp)).trans ((newx _ _).mono (by simp; omega)))
    have hS : (((w.alloc o1).alloc (.cells #[.func (.func 74) #[] #[]] 42)).alloc o2).heap[w.heap.size + 1]? = some (.cells #[.func (.func 74) #[] #[]] 42 (0, 0)) := by
      have n2 := heap_alloc_new (w.alloc o1) (.cells #[.func (.func 74) #[] #[]] 42)
      have e1 : (w.alloc o1).heap.size = w.heap.size + 1 := by simp
      rw [e1] at n2
      exact (Below.heap_alloc _ _ _ (by simp)).trans n2
    refine (remade_xx (fun t => t) (fun x => x.set) copied_turns (w.heap.size + 1) t _ _ _ (X.At.below hb hin) hsm hc ?_).mono ?_
    · intro x sx vp vc kp kn kc W hW hx hxs
      obtain ⟨px, cx, hsx⟩ := hx.sets.shape
      subst hsx
      have hm := made_copied (w.heap.size + 1) x.op x.at_ x.n x.s x.set px cx vp x.len vc kp kn kc W (keepsX hW _ _ (cell_of_row _ _ 0 _ _ _ hS)) ((hx.sets.rd).below hW) (small_set hxs)
      simp only [ite_self] at hm
      exact hm
    · rintro e w' ⟨su', u', S, h1, h2, h3, h4, h5⟩
      exact ⟨su', u', S, h1, h2, h3, h4, fun x hx => by have := h5 x hx; simp at this; omega⟩
  have HC : Hid (∀ o1 o2, Calls Tryz.prog 86 #[.agg #[.int .i64 t.op, .int .i64 t.at_, .int .i64 t.n, .string t.s, .slice ps t.set.length cps, .slice p t.len cap], .func (.func 42) #[] #[], .func (.func 87) #[] #[.pointer (some ⟨w.heap.size + 1, 0, none⟩)]] (((w.alloc o1).alloc (.cells #[.func (.func 74) #[] #[]] 42)).alloc o2) fun e w' =>
      ∃ su' u' S, e = .returned (.agg #[.int .i64 t.op, .int .i64 t.at_, .int .i64 t.n, .string t.s, su', u']) ∧ Below (((w.alloc o1).alloc (.cells #[.func (.func 74) #[] #[]] 42)).alloc o2).heap.size (((w.alloc o1).alloc (.cells #[.func (.func 74) #[] #[]] 42)).alloc o2) w' ∧ XOwn w' t su' u' S ∧ S.Nodup ∧ ∀ x ∈ S, w.heap.size + 3 ≤ x) := hcall
  clear hcall hin hsm hc
  go_enter Tryz.func73, Tryz.ntmps73
  go_wp2_with fail
  refine (HC.out _ _).mono ?_
  rintro e w1 ⟨su', u', S, rfl, hb1, hX, hSn, hSg⟩
  obtain ⟨h1, h2, h3, h4, h5⟩ := threeX hb1
  have hR : Six w1 (w.heap.size + 1 + 1) 0 0 0 ⟨#[]⟩ (.slice none 0 0) (.slice none 0 0) 32 := h3
  obtain ⟨r0, r1, r2, r3, r4, r5⟩ := hR.cells
  have rf := hR.fr
  obtain ⟨pu, cu, hu⟩ := hX.at0.xs.shape
  obtain ⟨pv, cv, hv⟩ := hX.at0.sets.shape
  subst hu hv
  have HX : Hid (XOwn w1 t (.slice pv t.set.length cv) (.slice pu t.len cu) S ∧ S.Nodup ∧ ∀ x ∈ S, w.heap.size + 3 ≤ x) := ⟨hX, hSn, hSg⟩
  have HB : Hid (Below w.heap.size w w1) := h5
  clear hb1 hX hSn hSg h1 h2 h3 h4 h5 hR HC
  generalize t.set.length = sl at *
  generalize t.len = tl at *
  go_wp2_with fail
  refine bodyPost_ret (v := .agg #[.int .i64 t.op, .int .i64 t.at_, .int .i64 t.n, .string t.s, .slice pv sl cv, .slice pu tl cu]) (by rw [results_cellX (p := 4) (ty := 32) (by kernel_rfl)]; simp [go_sem, r0, r1, r2, r3, r4, r5]) rfl ⟨_, _, S, rfl, ?_, ?_, HX.out.2.1, fun x hx => by have := HX.out.2.2 x hx; omega⟩
  · exact put6_below HB.out (w.heap.size + 1 + 1) (by omega) _ _ _ _ _ _
  · exact HX.out.1.same _ (fun x hx => put6_other w1 (w.heap.size + 1 + 1) t.op t.at_ t.n t.s (.slice pv sl cv) (.slice pu tl cu) x (by have := HX.out.2.2 x hx; omega))

set_option maxRecDepth 100000 in
set_option maxHeartbeats 2000000 in
theorem impl_copied_stx (t : X) (su u : Value) (w : World) (hin : t.At 0 w su u) (hsm : t.Small) (hc : t.count ≤ 1048577) :
    Calls Tryz.prog 59 #[.agg #[.int .i64 t.op, .int .i64 t.at_, .int .i64 t.n, .string t.s, su, u]] w fun e w' =>
      ∃ su' u' S, e = .returned (.agg #[.int .i64 t.op, .int .i64 t.at_, .int .i64 t.n, .string t.s, su', u']) ∧ Below w.heap.size w w' ∧ XOwn w' t su' u' S ∧ S.Nodup ∧ ∀ x ∈ S, w.heap.size ≤ x := by
  obtain ⟨p, cap, hu⟩ := hin.xs.shape
  obtain ⟨ps, cps, hsu⟩ := hin.sets.shape
  subst hu hsu
  have HC : Hid (∀ o1 o2, Calls Tryz.prog 73 #[.agg #[.int .i64 t.op, .int .i64 t.at_, .int .i64 t.n, .string t.s, .slice ps t.set.length cps, .slice p t.len cap], .func (.func 74) #[] #[]] ((w.alloc o1).alloc o2) fun e w' =>
      ∃ su' u' S, e = .returned (.agg #[.int .i64 t.op, .int .i64 t.at_, .int .i64 t.n, .string t.s, su', u']) ∧ Below ((w.alloc o1).alloc o2).heap.size ((w.alloc o1).alloc o2) w' ∧ XOwn w' t su' u' S ∧ S.Nodup ∧ ∀ x ∈ S, w.heap.size + 2 ≤ x) := by
    intro o1 o2
    have hb : Below w.heap.size w ((w.alloc o1).alloc o2) := (newx w _).trans ((newx _ _).mono (by simp))
    refine (turn_all_copied t _ _ _ (X.At.below hb hin) hsm hc).mono ?_
    rintro e w' ⟨su', u', S, h1, h2, h3, h4, h5⟩
    exact ⟨su', u', S, h1, h2, h3, h4, fun x hx => by have := h5 x hx; simp at this; omega⟩
  clear hin hsm hc
  go_enter Tryz.func59, Tryz.ntmps59
  go_wp2_with fail
  refine (HC.out _ _).mono ?_
  rintro e w1 ⟨su', u', S, rfl, hb1, hX, hSn, hSg⟩
  obtain ⟨h1, h3, h4, h5⟩ := twoX hb1
  have hR : Six w1 (w.heap.size + 1) 0 0 0 ⟨#[]⟩ (.slice none 0 0) (.slice none 0 0) 32 := h3
  obtain ⟨r0, r1, r2, r3, r4, r5⟩ := hR.cells
  have rf := hR.fr
  obtain ⟨pu, cu, hu⟩ := hX.at0.xs.shape
  obtain ⟨pv, cv, hv⟩ := hX.at0.sets.shape
  subst hu hv
  have HX : Hid (XOwn w1 t (.slice pv t.set.length cv) (.slice pu t.len cu) S ∧ S.Nodup ∧ ∀ x ∈ S, w.heap.size + 2 ≤ x) := ⟨hX, hSn, hSg⟩
  have HB : Hid (Below w.heap.size w w1) := h5
  clear hb1 hX hSn hSg h1 h3 h4 h5 hR HC
  generalize t.set.length = sl at *
  generalize t.len = tl at *
  go_wp2_with fail
  refine bodyPost_ret (v := .agg #[.int .i64 t.op, .int .i64 t.at_, .int .i64 t.n, .string t.s, .slice pv sl cv, .slice pu tl cu]) (by rw [results_cellX (p := 2) (ty := 32) (by kernel_rfl)]; simp [go_sem, r0, r1, r2, r3, r4, r5]) rfl ⟨_, _, S, rfl, ?_, ?_, HX.out.2.1, fun x hx => by have := HX.out.2.2 x hx; omega⟩
  · exact put6_below HB.out (w.heap.size + 1) (by omega) _ _ _ _ _ _
  · exact HX.out.1.same _ (fun x hx => put6_other w1 (w.heap.size + 1) t.op t.at_ t.n t.s (.slice pv sl cv) (.slice pu tl cu) x (by have := HX.out.2.2 x hx; omega))
end Go.Proofs.YtlclfmjpnchmbaaGreat

/- What a loop body that is told Gots keeps to; impl.tellMisfit. No conditions. -/
namespace Go.Proofs.YtlclfmjpnchmbaaGreat
open Go.ChangeShapes Go.WideShapes Go.ChangeAt Go.RowKit Go.Shelf
attribute [local go_sem] Oper.semAt_some

/-- Nothing got. -/
def zeroG : G := .mk ⟨#[]⟩ 0 zeroX 0 (fun _ => .no)
/-- A body that takes what it is told, at most N of them, and leaves the teller's blocks alone; a misfit ends it. -/
structure Teller (l N : Nat) (w0 : World) (J : Inv G) (Jx : World → (Nat → Prop) → Prop) : Prop where
  stab : J.Stable
  stabx : ∀ A B Y Y', Jx A Y → But Y A B → (∀ k, Y' k → Y k ∨ (A.heap.size ≤ k ∧ k < B.heap.size)) → Jx B Y'
  base : ∀ pre A Y, J pre A Y → Below w0.heap.size w0 A
  lt : ∀ pre A Y, J pre A Y → ∀ k, Y k → k < A.heap.size
  told : ∀ pre (g : G) sv kv gv (Z : List Nat) W Y, J pre W (fun k => Y k ∨ k ∈ Z) → GOwn W g sv kv gv Z → Z.Nodup → (∀ k ∈ Z, ¬ Y k) → pre.length < N →
    YieldAt Fence.wide 0 Tryz.prog l #[aggG g sv kv gv, .bool true] W fun e W' => e = .returned (.bool true) ∧ J (pre ++ [g]) W' Y ∧ Keeps Y W W'
  misfit : ∀ pre W Y, J pre W Y → YieldAt Fence.wide 0 Tryz.prog l #[aggG zeroG (.slice none 0 0) (.slice none 0 0) (.slice none 0 0), .bool false] W fun e W' => e = .returned (.bool false) ∧ Jx W' Y ∧ Keeps Y W W'

/-- What is so behind a teller. -/
def TellPost (m : Option (List G)) (J : Inv G) (Jx : World → (Nat → Prop) → Prop) (pre : List G) (Y : Nat → Prop) (e : Ending) (W : World) : Prop :=
  (∃ lst, m = some lst ∧ e = .returned (.bool true) ∧ J (pre ++ lst) W Y) ∨ (m = none ∧ e = .returned (.bool false) ∧ Jx W Y)
/-- It is stable. -/
theorem Teller.keep {l N : Nat} {w0 : World} {J : Inv G} {Jx : World → (Nat → Prop) → Prop} (T : Teller l N w0 J Jx) {pre : List G} {A B : World} {Y : Nat → Prop} (h : J pre A Y) (hb : Below A.heap.size A B) : J pre B Y := T.stab _ _ _ _ _ h (But.of_all hb) (fun _ h => .inl h)

set_option maxRecDepth 100000 in
set_option maxHeartbeats 1000000 in
theorem tell_misfit {l N : Nat} {w0 : World} {J : Inv G} {Jx : World → (Nat → Prop) → Prop} (T : Teller l N w0 J Jx) (pre : List G) (W : World) (Y : Nat → Prop) (h : J pre W Y) :
    Calls Tryz.prog 62 #[.func (.yield l) #[] #[]] W fun e W' => e = .returned (.bool false) ∧ Jx W' Y ∧ Keeps Y W W' := by
  obtain ⟨fn, tmps, assign, body, hy, hR⟩ := T.misfit pre W Y h
  clear T h
  refine callsIn_wide (n := 0).1 ?_
  refine callsIn_of_wp Tryz.func62 rfl trivial ?_ rfl
  simp only [Tryz.ntmps62, List.size_toArray, List.length_cons, List.length_nil, Nat.reduceAdd, Nat.reduceSub, Array.replicate_succ, Array.replicate_zero, List.push_toArray, List.append_toArray, List.nil_append, List.cons_append]
  simp only [aggG, zeroG, zeroX, G.name, G.deep, G.one, X.op, X.at_, X.n, X.s] at hy
  gi_wp2
  refine ⟨rfl, hR.mono ?_⟩
  rintro e W3 ⟨rfl, hj3⟩
  have HJ : Hid (Jx W3 Y ∧ Keeps Y W W3) := hj3
  clear hj3 hy hR
  gi_wp2
  go_ret
  exact ⟨rfl, HJ.out⟩

def TellAt (p : X) : Prop := ∀ (l N : Nat) (w0 : World) (J : Inv G) (Jx : World → (Nat → Prop) → Prop), Teller l N w0 J Jx → ∀ (x : X) (su u sx ux : Value) (pre : List G) (W : World) (Y : Nat → Prop),
  p.At 0 w0 su u → x.At 0 w0 sx ux → x.Small → x.count ≤ 1048577 → p.count ≤ 1048577 → okG p → J pre W Y → pre.length + (namesD p 0).length ≤ N →
  Calls Tryz.prog 45 #[aggX p su u, aggX x sx ux, .func (.yield l) #[] #[]] W fun e W' => TellPost (matchG p x) J Jx pre Y e W'
def KidsAt (p : X) : Prop := ∀ (l N : Nat) (w0 : World) (J : Inv G) (Jx : World → (Nat → Prop) → Prop), Teller l N w0 J Jx → ∀ (x : X) (u ux : Value) (pre : List G) (W : World) (Y : Nat → Prop),
  XsAt 0 w0 p.len p.kid u → XsAt 0 w0 x.len x.kid ux → x.Small → x.count ≤ 1048577 → p.count ≤ 1048577 → okG p → p.op = 3 → x.op = 3 → J pre W Y → pre.length + (namesD p 0).length ≤ N →
  Calls Tryz.prog 61 #[u, ux, .func (.yield l) #[] #[]] W fun e W' => TellPost (matchG p x) J Jx pre Y e W'
end Go.Proofs.YtlclfmjpnchmbaaGreat

/- impl.tellGots, out of impl.tellOfKids. Condition: at most 2^20 of each. -/
namespace Go.Proofs.YtlclfmjpnchmbaaGreat
open Go.ChangeShapes Go.WideShapes Go.ChangeAt Go.RowKit Go.Shelf
attribute [local go_sem] Oper.semAt_some

theorem one_own {W : World} {x : X} {su u : Value} {S : List Nat} {s : ByteArray} (hs : s.size ≤ maxLen) (h : XOwn W x su u S) : GOwn W (oneG s x) su u (.slice none 0 0) S := by
  have := GOwn.mk' (deep := 0) hs h (none_own W (fun _ => .no))
  rw [List.append_nil] at this
  exact this

/-- A copy that is told. -/
theorem told_one {l N : Nat} {w0 : World} {J : Inv G} {Jx : World → (Nat → Prop) → Prop} (T : Teller l N w0 J Jx) {pre : List G} {w1 w2 : World} {Y : Nat → Prop} (hj : J pre w1 Y) (hb : Below w1.heap.size w1 w2) {x : X} {su u : Value} {S : List Nat} {s : ByteArray} (hs : s.size ≤ maxLen)
    (hX : XOwn w2 x su u S) (hn : S.Nodup) (hg : ∀ k ∈ S, w1.heap.size ≤ k) (hN : pre.length < N) :
    YieldAt Fence.wide 0 Tryz.prog l #[.agg #[.string s, .int .i64 0, .int .i64 x.op, .int .i64 x.at_, .int .i64 x.n, .string x.s, su, u, .slice none 0 0], .bool true] w2 fun e W' => e = .returned (.bool true) ∧ J (pre ++ [oneG s x]) W' Y := by
  have hj2 : J pre w2 (fun k => Y k ∨ k ∈ S) := T.stab _ _ _ _ _ hj (But.of_all hb) (fun k hk => by
    rcases hk with h | h
    · exact .inl h
    · exact .inr ⟨hg k h, hX.there _ k h⟩)
  exact YieldAt.mono' (T.told pre (oneG s x) su u (.slice none 0 0) S w2 Y hj2 (one_own hs hX) hn (fun k hk hY => by have h1 := T.lt _ _ _ hj k hY; have h2 := hg k hk; omega) hN) (fun e W' h => ⟨h.1, h.2.1⟩)
theorem name_match {p x : X} (hn : nameX p.op p.s = true) : matchG p x = some [oneG p.s x] ∧ 1 ≤ (namesD p 0).length := by
  constructor
  · cases p with
    | no => simp [nameX, X.op] at hn
    | mk op a n s set len kid =>
      unfold nameX at hn
      simp only [X.op, X.s, Bool.and_eq_true, Bool.not_eq_true'] at hn
      obtain ⟨h1, h2, h3⟩ := hn
      rw [matchG, if_pos (by simpa using h1), h2]
      rfl
  · rw [namesD_eq, hn]
    simp

theorem ok_op {p : X} (h : okG p) : p.op = 1 ∨ p.op = 2 ∨ p.op = 3 := by
  cases p with
  | no => exact h.elim
  | mk op a n s set len kid => exact h.1
theorem line_match {p x : X} (h2 : p.op = 2) (hn : nameX p.op p.s = false) (hok : okG p) : matchG p x = some [] := by
  cases p with
  | no => exact hok.elim
  | mk op a n s set len kid =>
    simp only [X.op, X.s] at h2 hn
    have hd := hok.2.2.1 h2
    unfold nameX at hn
    rw [hd] at hn
    have hl : (s.toList == lineL) = true := by
      subst h2
      cases h : (s.toList == lineL)
      · rw [h] at hn; simp at hn
      · rfl
    rw [matchG, if_pos h2, hl]
    rfl
theorem num_match {p x : X} (h1 : p.op = 1) (hx : x.op = 1 ∧ x.n = p.n) : matchG p x = some [] := by
  cases p with
  | no => simp [X.op] at h1
  | mk op a n s set len kid =>
    have h1' : op = 1 := h1
    have hx' : x.op = 1 ∧ x.n = n := hx
    rw [matchG, if_neg (by omega), if_pos h1', if_pos hx']
theorem num_no {p x : X} (h1 : p.op = 1) (hx : ¬ (x.op = 1 ∧ x.n = p.n)) : matchG p x = none := by
  cases p with
  | no => rfl
  | mk op a n s set len kid =>
    have h1' : op = 1 := h1
    have hx' : ¬ (x.op = 1 ∧ x.n = n) := hx
    rw [matchG, if_neg (by omega), if_pos h1', if_neg hx']
theorem list_no {p x : X} (h3 : p.op = 3) (hx : x.op ≠ 3) : matchG p x = none := by
  cases p with
  | no => rfl
  | mk op a n s set len kid =>
    have h3' : op = 3 := h3
    rw [matchG, if_neg (by omega), if_neg (by omega), if_neg (fun h => hx h.2)]

set_option maxRecDepth 100000 in
set_option maxHeartbeats 4000000 in
theorem tell_gots (p : X) (hk : KidsAt p) : TellAt p := by
  intro l N w0 J Jx T x su u sx ux pre W Y hp hx hsm hxc hpc hok hj hN
  obtain ⟨pu, cu, eu⟩ := hp.xs.shape
  obtain ⟨ps, cs, es⟩ := hp.sets.shape
  obtain ⟨qu, du, eux⟩ := hx.xs.shape
  obtain ⟨qs, ds, esx⟩ := hx.sets.shape
  have HT : Hid (Teller l N w0 J Jx) := T
  have HP : Hid (p.At 0 w0 su u ∧ x.At 0 w0 sx ux ∧ x.Small ∧ x.count ≤ 1048577 ∧ p.count ≤ 1048577 ∧ okG p ∧ pre.length + (namesD p 0).length ≤ N) := ⟨hp, hx, hsm, hxc, hpc, hok, hN⟩
  have HJ : Hid (J pre W Y) := hj
  have HK : Hid (KidsAt p) := hk
  have HSZ : Hid (p.s.size ≤ maxLen) := hp.size
  clear hk T hp hx hsm hxc hpc hok hN hj
  subst eu es eux esx
  obtain ⟨mm, hmm⟩ : ∃ m, m = matchG p x := ⟨_, rfl⟩
  have HMM : Hid (mm = matchG p x) := hmm
  rw [← hmm]
  clear hmm
  refine callsIn_wide (n := 0).1 ?_
  refine callsIn_of_wp Tryz.func45 rfl trivial ?_ rfl
  simp only [Tryz.ntmps45, List.size_toArray, List.length_cons, List.length_nil, Nat.reduceAdd, Nat.reduceSub, Array.replicate_succ, Array.replicate_zero, List.push_toArray, List.append_toArray, List.nil_append, List.cons_append]
  gi_wp2
  refine ⟨trivial, rfl, (callsIn_wide.2 (gets_one p _ _ _)).mono ?_⟩
  rintro e w1 ⟨rfl, hb1⟩
  obtain ⟨h1, h2, h3, h4⟩ := twoX hb1
  have S1 : Hid (Six w1 W.heap.size p.op p.at_ p.n p.s (.slice ps p.set.length cs) (.slice pu p.len cu) 32 ∧ Six w1 (W.heap.size + 1) x.op x.at_ x.n x.s (.slice qs x.set.length ds) (.slice qu x.len du) 32 ∧ Below W.heap.size W w1 ∧ W.heap.size + 2 ≤ w1.heap.size) := ⟨h1, h2, h4, h3⟩
  clear hb1 h1 h2 h3 h4
  obtain ⟨A, hA⟩ : ∃ z, z = W.heap.size := ⟨_, rfl⟩
  have HA : Hid (A = W.heap.size) := hA
  rw [← hA] at S1 ⊢
  clear hA
  obtain ⟨b0, b1, b2, b3, b4, b5⟩ := S1.out.1.cells
  obtain ⟨d0, d1, d2, d3, d4, d5⟩ := S1.out.2.1.cells
  have HJ1 : Hid (J pre w1 Y) := HT.out.keep HJ.out (by have := S1.out.2.2.1; rw [HA.out] at this; exact this)
  rcases hnm : nameX p.op p.s with _ | _
  rotate_left
  · have HX1 : Hid (∀ W', Below w1.heap.size w1 W' → x.At 0 W' (.slice qs x.set.length ds) (.slice qu x.len du)) := fun W' hW => X.At.below (((HT.out.base _ _ _ HJ1.out).trans (hW.mono (HT.out.base _ _ _ HJ1.out).size))) HP.out.2.1
    obtain ⟨hm, hnl⟩ := name_match (x := x) hnm
    have HM : Hid (mm = some [oneG p.s x]) := HMM.out.trans hm
    have HN : Hid (pre.length < N) := by have := HP.out.2.2.2.2.2.2; show _ < _; omega
    have hfo : Tryz.prog.follows .mixedOrders = true := by kernel_rfl
    clear hm hnl
    gi_wp2
    gi_region_with_o (first
      | (refine ⟨trivial, rfl, ?_⟩; gi_at_call 59; refine (callsIn_wide.2 (impl_copied_stx x _ _ w1.drew (HX1.out _ (Below.refl _ _).drew) HP.out.2.2.1 HP.out.2.2.2.1)).mono ?_; rintro e w2 ⟨su', u', S, rfl, hb2, hX2, hSn, hSg⟩; have hbb : Below w1.heap.size w1 w2 := (Below.refl _ w1).drew.trans hb2; obtain ⟨pa, ca, ea⟩ := hX2.at0.sets.shape; obtain ⟨pb, cb, eb⟩ := hX2.at0.xs.shape; subst ea eb; obtain ⟨fn, tmps, assign, body, hy, hR⟩ := told_one HT.out HJ1.out hbb HSZ.out hX2 hSn hSg HN.out; have z3 : w2.cell? ⟨A, 3, none⟩ = some (.string p.s) := keepsX hbb _ _ b3; clear hbb hb2 hX2 hSn hSg)
      | (refine ⟨rfl, hR.mono ?_⟩; clear hR; rintro e w3 ⟨rfl, hj3⟩))
    all_goals
      have HJ3 : Hid (J (pre ++ [oneG p.s x]) w3 Y) := hj3
      clear hj3
      gi_wp2
      go_ret
      exact .inl ⟨_, HM.out, rfl, HJ3.out⟩
  · gi_wp2
    refine ⟨trivial, rfl, (callsIn_wide.2 (is_sym p.op p.at_ p.n p.s _ _ _)).mono ?_⟩
    rintro e w2 ⟨rfl, hb2⟩
    have S2 : Hid (Six w2 A p.op p.at_ p.n p.s (.slice ps p.set.length cs) (.slice pu p.len cu) 32 ∧ Six w2 (A + 1) x.op x.at_ x.n x.s (.slice qs x.set.length ds) (.slice qu x.len du) 32) := ⟨S1.out.1.below hb2, S1.out.2.1.below hb2⟩
    have HJ2 : Hid (J pre w2 Y) := HT.out.keep HJ1.out hb2
    clear hb2 HJ1 S1 b0 b1 b2 b3 b4 b5 d0 d1 d2 d3 d4 d5 HA
    obtain ⟨b0, b1, b2, b3, b4, b5⟩ := S2.out.1.cells
    obtain ⟨d0, d1, d2, d3, d4, d5⟩ := S2.out.2.cells
    by_cases h2 : p.op = 2
    · have e2 : decide (p.op = 2) = true := decide_eq_true h2
      rw [e2]
      have HM : Hid (mm = some []) := HMM.out.trans (line_match h2 hnm HP.out.2.2.2.2.2.1)
      gi_wp2
      go_ret
      exact .inl ⟨_, HM.out, rfl, by rw [List.append_nil]; exact HJ2.out⟩
    · have e2 : decide (p.op = 2) = false := decide_eq_false h2
      rw [e2]
      by_cases h1 : p.op = 1
      · have e1 : (p.op == 1) = true := by simpa using h1
        have e3 : (p.op == 3) = false := by rw [h1]; rfl
        by_cases hx1 : x.op = 1 ∧ x.n = p.n
        · have f1 : (x.op == 1) = true := by simpa using hx1.1
          have f2 : (p.n == x.n) = true := by simpa using hx1.2.symm
          have HM : Hid (mm = some []) := HMM.out.trans (num_match h1 hx1)
          clear h1 h2 e2 hx1 hnm
          gi_wp2
          go_ret
          exact .inl ⟨_, HM.out, rfl, by rw [List.append_nil]; exact HJ2.out⟩
        · have HM : Hid (mm = none) := HMM.out.trans (num_no h1 hx1)
          by_cases hf : x.op = 1
          · have f1 : (x.op == 1) = true := by simpa using hf
            have f2 : (p.n == x.n) = false := by
              rw [beq_eq_false_iff_ne]
              exact fun e => hx1 ⟨hf, e.symm⟩
            clear h1 h2 e2 hx1 hnm hf
            gi_wp2
            refine ⟨trivial, rfl, (callsIn_wide.2 (tell_misfit HT.out pre _ Y HJ2.out)).mono ?_⟩
            rintro e w3 ⟨rfl, hj3, -⟩
            have HJ3 : Hid (Jx w3 Y) := hj3
            clear hj3
            gi_wp2
            go_ret
            exact .inr ⟨HM.out, rfl, HJ3.out⟩
          · have f1 : (x.op == 1) = false := by simpa using hf
            clear h1 h2 e2 hx1 hnm hf
            gi_wp2
            refine ⟨trivial, rfl, (callsIn_wide.2 (tell_misfit HT.out pre _ Y HJ2.out)).mono ?_⟩
            rintro e w3 ⟨rfl, hj3, -⟩
            have HJ3 : Hid (Jx w3 Y) := hj3
            clear hj3
            gi_wp2
            go_ret
            exact .inr ⟨HM.out, rfl, HJ3.out⟩
      · have h3 : p.op = 3 := by
          have := HP.out.2.2.2.2.2.1
          have := ok_op this
          omega
        have e1 : (p.op == 1) = false := by simpa using h1
        have e3 : (p.op == 3) = true := by simpa using h3
        by_cases hx3 : x.op = 3
        · have f3 : (x.op == 3) = true := by simpa using hx3
          have HC : Hid (Calls Tryz.prog 61 #[.slice pu p.len cu, .slice qu x.len du, .func (.yield l) #[] #[]] w2 fun e W' => TellPost mm J Jx pre Y e W') := by
            show Calls _ _ _ _ _
            rw [HMM.out]
            exact HK.out l N w0 J Jx HT.out x _ _ pre w2 Y HP.out.1.xs HP.out.2.1.xs HP.out.2.2.1 HP.out.2.2.2.1 HP.out.2.2.2.2.1 HP.out.2.2.2.2.2.1 h3 hx3 HJ2.out HP.out.2.2.2.2.2.2
          clear h1 h2 h3 hx3 hnm e2
          gi_wp2
          refine ⟨trivial, rfl, (callsIn_wide.2 HC.out).mono ?_⟩
          rintro e w3 hpost
          rcases hpost with ⟨lst, hm, rfl, hj3⟩ | ⟨hm, rfl, hj3⟩
          · have HR : Hid (TellPost mm J Jx pre Y (.returned (.bool true)) w3) := .inl ⟨lst, hm, rfl, hj3⟩
            clear hm hj3
            gi_wp2
            go_ret
            exact HR.out
          · have HR : Hid (TellPost mm J Jx pre Y (.returned (.bool false)) w3) := .inr ⟨hm, rfl, hj3⟩
            clear hm hj3
            gi_wp2
            go_ret
            exact HR.out
        · have f3 : (x.op == 3) = false := by simpa using hx3
          have HM : Hid (mm = none) := HMM.out.trans (list_no h3 hx3)
          clear h1 h2 h3 hx3 hnm e2
          gi_wp2
          refine ⟨trivial, rfl, (callsIn_wide.2 (tell_misfit HT.out pre _ Y HJ2.out)).mono ?_⟩
          rintro e w3 ⟨rfl, hj3, -⟩
          have HJ3 : Hid (Jx w3 Y) := hj3
          clear hj3
          gi_wp2
          go_ret
          exact .inr ⟨HM.out, rfl, HJ3.out⟩
end Go.Proofs.YtlclfmjpnchmbaaGreat
