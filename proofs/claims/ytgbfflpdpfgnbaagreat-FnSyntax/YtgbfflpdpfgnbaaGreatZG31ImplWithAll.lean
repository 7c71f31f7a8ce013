/- impl.turnAll and impl.FlipAll. Condition: at most 2^20 nodes, each set of at most 2^22. -/
import Derived.Test.YtgbfflpdpfgnbaaGreatZG30RemWalkXX
import Derived.Test.YtgbfflpdpfgnbaaGreatZG29IntsLaw
import Derived.Test.YtgbfflpdpfgnbaaGreatZG28StxParts
import Derived.Test.YtgbfflpdpfgnbaaGreatZG2Holes
import Derived.Test.YtgbfflpdpfgnbaaGreatZG5IntsRead
namespace Go.Proofs.YtgbfflpdpfgnbaaGreat
open Go.ChangeShapes Go.WideShapes Go.ChangeAt Go.RowKit

/-- A node's set, turned. -/
def flipSet (m : Int) (x : X) : List Int := if x.op = 2 then flipL x.set m else x.set
theorem flip_turns (m : Int) : TurnXX (fun t => t.flip m) (flipSet m) where
  ne := fun x h => X.turn_ne _ x h
  op := fun x => by cases x <;> rfl
  at_ := fun x => by cases x <;> rfl
  n := fun x => by cases x <;> rfl
  s := fun x => by cases x <;> rfl
  set := fun x => by cases x <;> rfl
  len := fun x => by cases x <;> rfl
  kid := fun x i => by cases x <;> rfl
  small := fun x h => by
    have h1 := small_set h
    have h2 := flip_len x.set m
    unfold flipSet
    by_cases h3 : x.op = 2
    · rw [if_pos h3]; unfold maxLen; omega
    · rw [if_neg h3]; unfold maxLen; omega

set_option maxRecDepth 100000 in
set_option maxHeartbeats 2000000 in
theorem turn_all_flip (PN : Nat) (m : Int) (t : X) (su u : Value) (w : World) (hP : w.cell? ⟨PN, 0, none⟩ = some (.int .i64 m)) (hin : t.At 0 w su u) (hsm : t.Small) (hc : t.count ≤ 1048577) :
    Calls Tryz.prog 36 #[.agg #[.int .i64 t.op, .int .i64 t.at_, .int .i64 t.n, .string t.s, su, u], .func (.func 37) #[] #[.pointer (some ⟨PN, 0, none⟩)]] w fun e w' =>
      ∃ su' u' S, e = .returned (.agg #[.int .i64 t.op, .int .i64 t.at_, .int .i64 t.n, .string t.s, su', u']) ∧ Below w.heap.size w w' ∧ XOwn w' (t.flip m) su' u' S ∧ S.Nodup ∧ ∀ x ∈ S, w.heap.size ≤ x := by
  obtain ⟨p, cap, hu⟩ := hin.xs.shape
  obtain ⟨ps, cps, hsu⟩ := hin.sets.shape
  subst hu hsu
  have hcall : ∀ o1 o2, Calls Tryz.prog 58 #[.agg #[.int .i64 t.op, .int .i64 t.at_, .int .i64 t.n, .string t.s, .slice ps t.set.length cps, .slice p t.len cap], .func (.func 45) #[] #[], .func (.func 59) #[] #[.pointer (some ⟨w.heap.size + 1, 0, none⟩)]] (((w.alloc o1).alloc (.cells #[.func (.func 37) #[] #[.pointer (some ⟨PN, 0, none⟩)]] 59)).alloc o2) fun e w' =>
      ∃ su' u' S, e = .returned (.agg #[.int .i64 t.op, .int .i64 t.at_, .int .i64 t.n, .string t.s, su', u']) ∧ Below (((w.alloc o1).alloc (.cells #[.func (.func 37) #[] #[.pointer (some ⟨PN, 0, none⟩)]] 59)).alloc o2).heap.size (((w.alloc o1).alloc (.cells #[.func (.func 37) #[] #[.pointer (some ⟨PN, 0, none⟩)]] 59)).alloc o2) w' ∧ XOwn w' (t.flip m) su' u' S ∧ S.Nodup ∧ ∀ x ∈ S, w.heap.size + 3 ≤ x := by
    intro o1 o2
    have hb : Below w.heap.size w (((w.alloc o1).alloc (.cells #[.func (.func 37) #[] #[.pointer (some ⟨PN, 0, none⟩)]] 59)).alloc o2) := (newx w _).trans (((newx _ _).mono (by simp)).trans ((newx _ _).mono (by simp; omega)))
    have hS : (((w.alloc o1).alloc (.cells #[.func (.func 37) #[] #[.pointer (some ⟨PN, 0, none⟩)]] 59)).alloc o2).heap[w.heap.size + 1]? = some (.cells #[.func (.func 37) #[] #[.pointer (some ⟨PN, 0, none⟩)]] 59 (0, 0)) := by
      have n2 := heap_alloc_new (w.alloc o1) (.cells #[.func (.func 37) #[] #[.pointer (some ⟨PN, 0, none⟩)]] 59)
      have e1 : (w.alloc o1).heap.size = w.heap.size + 1 := by simp
      rw [e1] at n2
      exact (Below.heap_alloc _ _ _ (by simp)).trans n2
    refine (remade_xx (fun t => t.flip m) (flipSet m) (flip_turns m) (w.heap.size + 1) t _ _ _ (X.At.below hb hin) hsm hc ?_).mono ?_
    · intro x sx vp vc kp kn kc W hW hx hxs
      obtain ⟨px, cx, hsx⟩ := hx.sets.shape
      subst hsx
      exact made_flip PN (w.heap.size + 1) m x.op x.at_ x.n x.s x.set px cx vp x.len vc kp kn kc W (keepsX hW _ _ (keepsX hb _ _ hP)) (keepsX hW _ _ (cell_of_row _ _ 0 _ _ _ hS)) ((hx.sets.rd).below hW) (small_set hxs)
    · rintro e w' ⟨su', u', S, h1, h2, h3, h4, h5⟩
      exact ⟨su', u', S, h1, h2, h3, h4, fun x hx => by have := h5 x hx; simp at this; omega⟩
  have HC : Hid (∀ o1 o2, Calls Tryz.prog 58 #[.agg #[.int .i64 t.op, .int .i64 t.at_, .int .i64 t.n, .string t.s, .slice ps t.set.length cps, .slice p t.len cap], .func (.func 45) #[] #[], .func (.func 59) #[] #[.pointer (some ⟨w.heap.size + 1, 0, none⟩)]] (((w.alloc o1).alloc (.cells #[.func (.func 37) #[] #[.pointer (some ⟨PN, 0, none⟩)]] 59)).alloc o2) fun e w' =>
      ∃ su' u' S, e = .returned (.agg #[.int .i64 t.op, .int .i64 t.at_, .int .i64 t.n, .string t.s, su', u']) ∧ Below (((w.alloc o1).alloc (.cells #[.func (.func 37) #[] #[.pointer (some ⟨PN, 0, none⟩)]] 59)).alloc o2).heap.size (((w.alloc o1).alloc (.cells #[.func (.func 37) #[] #[.pointer (some ⟨PN, 0, none⟩)]] 59)).alloc o2) w' ∧ XOwn w' (t.flip m) su' u' S ∧ S.Nodup ∧ ∀ x ∈ S, w.heap.size + 3 ≤ x) := hcall
  clear hcall hin hsm hc hP
  go_enter Tryz.func36, Tryz.ntmps36
  go_wp2_with fail
  refine (HC.out _ _).mono ?_
  rintro e w1 ⟨su', u', S, rfl, hb1, hX, hSn, hSg⟩
  obtain ⟨h1, h2, h3, h4, h5⟩ := threeX hb1
  have hR : Six w1 (w.heap.size + 1 + 1) 0 0 0 ⟨#[]⟩ (.slice none 0 0) (.slice none 0 0) 32 := h3
  obtain ⟨r0, r1, r2, r3, r4, r5⟩ := hR.cells
  have rf := hR.fr
  obtain ⟨pu, cu, hu⟩ := hX.at0.xs.shape
  obtain ⟨pv, cv, hv⟩ := hX.at0.sets.shape
  subst hu hv
  have HX : Hid (XOwn w1 (t.flip m) (.slice pv (t.flip m).set.length cv) (.slice pu (t.flip m).len cu) S ∧ S.Nodup ∧ ∀ x ∈ S, w.heap.size + 3 ≤ x) := ⟨hX, hSn, hSg⟩
  have HB : Hid (Below w.heap.size w w1) := h5
  clear hb1 hX hSn hSg h1 h2 h3 h4 h5 hR HC
  generalize (t.flip m).set.length = sl at *
  generalize (t.flip m).len = tl at *
  go_wp2_with fail
  refine bodyPost_ret (v := .agg #[.int .i64 t.op, .int .i64 t.at_, .int .i64 t.n, .string t.s, .slice pv sl cv, .slice pu tl cu]) (by rw [results_cellX (p := 4) (ty := 32) (by kernel_rfl)]; simp [go_sem, r0, r1, r2, r3, r4, r5]) rfl ⟨_, _, S, rfl, ?_, ?_, HX.out.2.1, fun x hx => by have := HX.out.2.2 x hx; omega⟩
  · exact put6_below HB.out (w.heap.size + 1 + 1) (by omega) _ _ _ _ _ _
  · exact HX.out.1.same _ (fun x hx => put6_other w1 (w.heap.size + 1 + 1) t.op t.at_ t.n t.s (.slice pv sl cv) (.slice pu tl cu) x (by have := HX.out.2.2 x hx; omega))

set_option maxRecDepth 100000 in
set_option maxHeartbeats 2000000 in
theorem impl_flip_all (m : Int) (t : X) (su u : Value) (w : World) (hin : t.At 0 w su u) (hsm : t.Small) (hc : t.count ≤ 1048577) :
    Calls Tryz.prog 12 #[.agg #[.int .i64 t.op, .int .i64 t.at_, .int .i64 t.n, .string t.s, su, u], .int .i64 m] w fun e w' =>
      ∃ su' u' S, e = .returned (.agg #[.int .i64 t.op, .int .i64 t.at_, .int .i64 t.n, .string t.s, su', u']) ∧ Below w.heap.size w w' ∧ XOwn w' (t.flip m) su' u' S ∧ S.Nodup ∧ ∀ x ∈ S, w.heap.size ≤ x := by
  obtain ⟨p, cap, hu⟩ := hin.xs.shape
  obtain ⟨ps, cps, hsu⟩ := hin.sets.shape
  subst hu hsu
  have HC : Hid (∀ o1 o2, Calls Tryz.prog 36 #[.agg #[.int .i64 t.op, .int .i64 t.at_, .int .i64 t.n, .string t.s, .slice ps t.set.length cps, .slice p t.len cap], .func (.func 37) #[] #[.pointer (some ⟨w.heap.size + 1, 0, none⟩)]] (((w.alloc o1).alloc (.cells #[.int .i64 m] 3)).alloc o2) fun e w' =>
      ∃ su' u' S, e = .returned (.agg #[.int .i64 t.op, .int .i64 t.at_, .int .i64 t.n, .string t.s, su', u']) ∧ Below (((w.alloc o1).alloc (.cells #[.int .i64 m] 3)).alloc o2).heap.size (((w.alloc o1).alloc (.cells #[.int .i64 m] 3)).alloc o2) w' ∧ XOwn w' (t.flip m) su' u' S ∧ S.Nodup ∧ ∀ x ∈ S, w.heap.size + 3 ≤ x) := by
    intro o1 o2
    have hb : Below w.heap.size w (((w.alloc o1).alloc (.cells #[.int .i64 m] 3)).alloc o2) := (newx w _).trans (((newx _ _).mono (by simp)).trans ((newx _ _).mono (by simp; omega)))
    have hS : (((w.alloc o1).alloc (.cells #[.int .i64 m] 3)).alloc o2).heap[w.heap.size + 1]? = some (.cells #[.int .i64 m] 3 (0, 0)) := by
      have n2 := heap_alloc_new (w.alloc o1) (.cells #[.int .i64 m] 3)
      have e1 : (w.alloc o1).heap.size = w.heap.size + 1 := by simp
      rw [e1] at n2
      exact (Below.heap_alloc _ _ _ (by simp)).trans n2
    refine (turn_all_flip (w.heap.size + 1) m t _ _ _ (cell_of_row _ _ 0 _ _ _ hS) (X.At.below hb hin) hsm hc).mono ?_
    rintro e w' ⟨su', u', S, h1, h2, h3, h4, h5⟩
    exact ⟨su', u', S, h1, h2, h3, h4, fun x hx => by have := h5 x hx; simp at this; omega⟩
  clear hin hsm hc
  go_enter Tryz.func12, Tryz.ntmps12
  go_wp2_with fail
  refine (HC.out _ _).mono ?_
  rintro e w1 ⟨su', u', S, rfl, hb1, hX, hSn, hSg⟩
  obtain ⟨h1, h2, h3, h4, h5⟩ := threeX hb1
  have hR : Six w1 (w.heap.size + 1 + 1) 0 0 0 ⟨#[]⟩ (.slice none 0 0) (.slice none 0 0) 32 := h3
  obtain ⟨r0, r1, r2, r3, r4, r5⟩ := hR.cells
  have rf := hR.fr
  obtain ⟨pu, cu, hu⟩ := hX.at0.xs.shape
  obtain ⟨pv, cv, hv⟩ := hX.at0.sets.shape
  subst hu hv
  have HX : Hid (XOwn w1 (t.flip m) (.slice pv (t.flip m).set.length cv) (.slice pu (t.flip m).len cu) S ∧ S.Nodup ∧ ∀ x ∈ S, w.heap.size + 3 ≤ x) := ⟨hX, hSn, hSg⟩
  have HB : Hid (Below w.heap.size w w1) := h5
  clear hb1 hX hSn hSg h1 h2 h3 h4 h5 hR HC
  generalize (t.flip m).set.length = sl at *
  generalize (t.flip m).len = tl at *
  go_wp2_with fail
  refine bodyPost_ret (v := .agg #[.int .i64 t.op, .int .i64 t.at_, .int .i64 t.n, .string t.s, .slice pv sl cv, .slice pu tl cu]) (by rw [results_cellX (p := 4) (ty := 32) (by kernel_rfl)]; simp [go_sem, r0, r1, r2, r3, r4, r5]) rfl ⟨_, _, S, rfl, ?_, ?_, HX.out.2.1, fun x hx => by have := HX.out.2.2 x hx; omega⟩
  · exact put6_below HB.out (w.heap.size + 1 + 1) (by omega) _ _ _ _ _ _
  · exact HX.out.1.same _ (fun x hx => put6_other w1 (w.heap.size + 1 + 1) t.op t.at_ t.n t.s (.slice pv sl cv) (.slice pu tl cu) x (by have := HX.out.2.2 x hx; omega))
end Go.Proofs.YtgbfflpdpfgnbaaGreat

/- impl.setTurned, and the closure of impl.turnAll: one node, its set turned. Condition: a set of at most 2^22. -/
namespace Go.Proofs.YtgbfflpdpfgnbaaGreat
open Go.ChangeShapes Go.WideShapes Go.ChangeAt Go.RowKit

set_option maxRecDepth 100000 in
theorem with_one (PN : Nat) (m : Int) (xs : List Int) (v : Value) (w : World) (hP : w.cell? ⟨PN, 0, none⟩ = some (.int .i64 m)) (hv : Rd w v xs) (hl : xs.length ≤ 4194304) :
    Calls Tryz.prog 41 #[v, .pointer (some ⟨PN, 0, none⟩)] w fun e w' => ∃ u, e = .returned u ∧ Below w.heap.size w w' ∧ Own w' w.heap.size u (withL xs m) := by
  go_enter Tryz.func41, Tryz.ntmps41
  go_wp2_with fail
  refine (impl_with xs m v w hv hl).mono ?_
  rintro e w1 ⟨u, rfl, hb, ho⟩
  have H : Hid (Below w.heap.size w w1 ∧ Own w1 w.heap.size u (withL xs m)) := ⟨hb, ho⟩
  clear hb ho
  go_wp2_with fail
  go_ret
  exact ⟨_, rfl, H.out.1, H.out.2⟩

set_option maxRecDepth 100000 in
set_option maxHeartbeats 2000000 in
theorem turned_with (PN : Nat) (m op a n : Int) (s : ByteArray) (set : List Int) (sp : Option Addr) (sc : Nat) (vp : Option Addr) (vn vc : Nat) (w : World) (hP : w.cell? ⟨PN, 0, none⟩ = some (.int .i64 m)) (hs : Rd w (.slice sp set.length sc) set) (hl : set.length ≤ 4194304) :
    Calls Tryz.prog 60 #[.agg #[.int .i64 op, .int .i64 a, .int .i64 n, .string s, .slice sp set.length sc, .slice vp vn vc], .func (.func 41) #[] #[.pointer (some ⟨PN, 0, none⟩)]] w fun e w' => ∃ u, e = .returned u ∧ Below w.heap.size w w' ∧ Own w' w.heap.size u (if op = 2 then withL set m else set) := by
  have HRD : Hid (Rd w (.slice sp set.length sc) set) := hs
  have HP : Hid (w.cell? ⟨PN, 0, none⟩ = some (.int .i64 m)) := hP
  have HL : Hid (set.length ≤ 4194304) := hl
  obtain ⟨Y, hY⟩ : ∃ Y, Y = (if op = 2 then withL set m else set) := ⟨_, rfl⟩
  have HY : Hid (Y = (if op = 2 then withL set m else set)) := hY
  rw [← hY]
  clear hs hP hl hY
  go_enter Tryz.func60, Tryz.ntmps60
  go_wp2_with fail
  refine (part_of op a n s (.slice sp set.length sc) (.slice vp vn vc) _).mono ?_
  rintro e w1 ⟨T, rfl, hb1, hT⟩
  have hx1 : Six w1 w.heap.size op a n s (.slice sp set.length sc) (.slice vp vn vc) 32 := (hb1.block _ (by simp)).trans (heap_alloc_new w _)
  obtain ⟨x0, x1, x2, x3, x4, x5⟩ := hx1.cells
  have HB1 : Hid (Below w.heap.size w w1) := (newx w _).trans (hb1.mono (by simp))
  clear hb1 hx1
  rcases hT with ⟨h, rfl⟩ | ⟨h, rfl⟩ | ⟨h, rfl⟩ | ⟨⟨h1, h2, h3⟩, rfl⟩
  · have HR : Hid (Y = set) := HY.out.trans (if_neg (by omega))
    have hta := no_symPart (ty := 93) (by decide) (.agg #[.int .i64 op, .int .i64 a, .int .i64 n, .string s, .slice sp set.length sc, .slice vp vn vc]) w1
    clear h
    go_wp2_with fail
    refine (impl_copied set _ w1 (HRD.out.below HB1.out) HL.out).mono ?_
    rintro e w2 ⟨u, rfl, hb2, ho⟩
    have H : Hid (Below w.heap.size w w2 ∧ Own w2 w.heap.size u set) := ⟨HB1.out.trans (hb2.mono HB1.out.size), ho.mono HB1.out.size⟩
    clear hb2 ho
    go_wp2_with fail
    go_ret
    exact ⟨_, rfl, H.out.1, by rw [HR.out]; exact H.out.2⟩
  · have HR : Hid (Y = withL set m) := HY.out.trans (if_pos h)
    have hta := is_symPart (.agg #[.int .i64 op, .int .i64 a, .int .i64 n, .string s, .slice sp set.length sc, .slice vp vn vc]) w1
    clear h
    go_wp2_with fail
    have hnb := newx w1 (.cells #[.int .i64 op, .int .i64 a, .int .i64 n, .string s, .slice sp set.length sc, .slice vp vn vc] 95)
    have hbb : Below w.heap.size w (w1.alloc (.cells #[.int .i64 op, .int .i64 a, .int .i64 n, .string s, .slice sp set.length sc, .slice vp vn vc] 95)) := HB1.out.trans (hnb.mono HB1.out.size)
    refine (with_one PN m set _ _ (keepsX hbb _ _ HP.out) (HRD.out.below hbb) HL.out).mono ?_
    rintro e w2 ⟨u, rfl, hb2, ho⟩
    have H : Hid (Below w.heap.size w w2 ∧ Own w2 w.heap.size u (withL set m)) := ⟨hbb.trans (hb2.mono hbb.size), ho.mono hbb.size⟩
    clear hb2 ho hbb hnb
    go_wp2_with fail
    go_ret
    exact ⟨_, rfl, H.out.1, by rw [HR.out]; exact H.out.2⟩
  · have HR : Hid (Y = set) := HY.out.trans (if_neg (by omega))
    have hta := no_symPart (ty := 98) (by decide) (.agg #[.int .i64 op, .int .i64 a, .int .i64 n, .string s, .slice sp set.length sc, .slice vp vn vc]) w1
    clear h
    go_wp2_with fail
    refine (impl_copied set _ w1 (HRD.out.below HB1.out) HL.out).mono ?_
    rintro e w2 ⟨u, rfl, hb2, ho⟩
    have H : Hid (Below w.heap.size w w2 ∧ Own w2 w.heap.size u set) := ⟨HB1.out.trans (hb2.mono HB1.out.size), ho.mono HB1.out.size⟩
    clear hb2 ho
    go_wp2_with fail
    go_ret
    exact ⟨_, rfl, H.out.1, by rw [HR.out]; exact H.out.2⟩
  · have HR : Hid (Y = set) := HY.out.trans (if_neg h2)
    have hta := no_symPart (ty := 111) (by decide) (.agg #[.int .i64 op, .int .i64 a, .int .i64 n, .string s, .slice sp set.length sc, .slice vp vn vc]) w1
    clear h1 h2 h3
    go_wp2_with fail
    refine (impl_copied set _ w1 (HRD.out.below HB1.out) HL.out).mono ?_
    rintro e w2 ⟨u, rfl, hb2, ho⟩
    have H : Hid (Below w.heap.size w w2 ∧ Own w2 w.heap.size u set) := ⟨HB1.out.trans (hb2.mono HB1.out.size), ho.mono HB1.out.size⟩
    clear hb2 ho
    go_wp2_with fail
    go_ret
    exact ⟨_, rfl, H.out.1, by rw [HR.out]; exact H.out.2⟩

set_option maxRecDepth 100000 in
set_option maxHeartbeats 2000000 in
theorem made_with (PN PS : Nat) (m op a n : Int) (s : ByteArray) (set : List Int) (sp : Option Addr) (sc : Nat) (vp : Option Addr) (vn vc : Nat) (kp : Option Addr) (kn kc : Nat) (w : World) (hP : w.cell? ⟨PN, 0, none⟩ = some (.int .i64 m)) (hS : w.cell? ⟨PS, 0, none⟩ = some (.func (.func 41) #[] #[.pointer (some ⟨PN, 0, none⟩)])) (hs : Rd w (.slice sp set.length sc) set) (hl : set.length ≤ 4194304) :
    Calls Tryz.prog 59 #[.agg #[.int .i64 op, .int .i64 a, .int .i64 n, .string s, .slice sp set.length sc, .slice vp vn vc], .slice kp kn kc, .pointer (some ⟨PS, 0, none⟩)] w fun e w' => ∃ sv, e = .returned (.agg #[.int .i64 op, .int .i64 a, .int .i64 n, .string s, sv, .slice kp kn kc]) ∧ Below w.heap.size w w' ∧ Own w' w.heap.size sv (if op = 2 then withL set m else set) := by
  have HRD : Hid (Rd w (.slice sp set.length sc) set) := hs
  have HP : Hid (w.cell? ⟨PN, 0, none⟩ = some (.int .i64 m)) := hP
  have HL : Hid (set.length ≤ 4194304) := hl
  have hbb : ∀ o1 o2, Below w.heap.size w ((w.alloc o1).alloc o2) := fun o1 o2 => (newx w _).trans ((newx _ _).mono (by simp))
  have hS2 : ∀ o1 o2, ((w.alloc o1).alloc o2).cell? ⟨PS, 0, none⟩ = some (.func (.func 41) #[] #[.pointer (some ⟨PN, 0, none⟩)]) := fun o1 o2 => keepsX (hbb o1 o2) _ _ hS
  have HBB : Hid (∀ o1 o2, Below w.heap.size w ((w.alloc o1).alloc o2)) := hbb
  obtain ⟨Y, hY⟩ : ∃ Y, Y = (if op = 2 then withL set m else set) := ⟨_, rfl⟩
  have HY : Hid (Y = (if op = 2 then withL set m else set)) := hY
  rw [← hY]
  clear hs hP hl hbb hY
  go_enter Tryz.func59, Tryz.ntmps59
  go_wp2_with fail
  refine (turned_with PN m op a n s set sp sc vp vn vc _ (keepsX (HBB.out _ _) _ _ HP.out) (HRD.out.below (HBB.out _ _)) HL.out).mono ?_
  rintro e w1 ⟨u, rfl, hb1, ho⟩
  rw [← HY.out] at ho
  obtain ⟨pv, cv, hv⟩ := (ho.setB (Nat.zero_le _)).shape
  subst hv
  obtain ⟨h1, h2, h4, h5⟩ := twoX hb1
  have hA : Six w1 w.heap.size op a n s (.slice sp set.length sc) (.slice vp vn vc) 32 := h1
  have hR : Six w1 (w.heap.size + 1) 0 0 0 ⟨#[]⟩ (.slice none 0 0) (.slice none 0 0) 32 := h2
  have HOW : Hid (Own w1 (w.heap.size + 2) (.slice pv Y.length cv) Y) := ho.mono (by simp)
  have HB1 : Hid (Below w.heap.size w w1 ∧ w.heap.size + 2 ≤ w1.heap.size) := ⟨h5, h4⟩
  clear hb1 ho h1 h2 h4 h5
  obtain ⟨x0, x1, x2, x3, x4, x5⟩ := hA.cells
  have xf := hA.fr
  obtain ⟨r0, r1, r2, r3, r4, r5⟩ := hR.cells
  have rf := hR.fr
  clear hA hR hS hS2
  generalize Y.length = yl at *
  go_wp2_with fail
  refine bodyPost_ret (v := .agg #[.int .i64 op, .int .i64 a, .int .i64 n, .string s, .slice pv yl cv, .slice kp kn kc]) (by rw [results_cellX (p := 5) (ty := 32) (by kernel_rfl)]; simp [go_sem, r0, r1, r2, r3, r4, r5]) rfl ⟨_, rfl, ?_, ?_⟩
  · exact put6_below ((HB1.out.1.setCell (Nat.le_refl w.heap.size) _).setCell (Nat.le_refl w.heap.size) _) (w.heap.size + 1) (by omega) _ _ _ _ _ _
  · refine Own.mono (base := w.heap.size + 2) (HOW.out.sameX (fun g hg => ?_)) (by omega)
    have := (World.ownsRow.lt HOW.out g hg).1
    exact (put6_other ((w1.setCell ⟨w.heap.size, 4, none⟩ (.slice pv yl cv)).setCell ⟨w.heap.size, 5, none⟩ (.slice kp kn kc)) (w.heap.size + 1) op a n s (.slice pv yl cv) (.slice kp kn kc) g (by omega)).trans ((Below.heap_setCell _ _ _ _ (by simp only; omega)).trans (Below.heap_setCell _ _ _ _ (by simp only; omega)))
end Go.Proofs.YtgbfflpdpfgnbaaGreat

/- impl.turnAll and impl.WithAll. Condition: at most 2^20 nodes, each set of at most 2^22. -/
namespace Go.Proofs.YtgbfflpdpfgnbaaGreat
open Go.ChangeShapes Go.WideShapes Go.ChangeAt Go.RowKit

/-- A node's set, turned. -/
def withSet (m : Int) (x : X) : List Int := if x.op = 2 then withL x.set m else x.set
theorem with_turns (m : Int) : TurnXX (fun t => t.withAll m) (withSet m) where
  ne := fun x h => X.turn_ne _ x h
  op := fun x => by cases x <;> rfl
  at_ := fun x => by cases x <;> rfl
  n := fun x => by cases x <;> rfl
  s := fun x => by cases x <;> rfl
  set := fun x => by cases x <;> rfl
  len := fun x => by cases x <;> rfl
  kid := fun x i => by cases x <;> rfl
  small := fun x h => by
    have h1 := small_set h
    have h2 := with_len x.set m
    unfold withSet
    by_cases h3 : x.op = 2
    · rw [if_pos h3]; unfold maxLen; omega
    · rw [if_neg h3]; unfold maxLen; omega

set_option maxRecDepth 100000 in
set_option maxHeartbeats 2000000 in
theorem turn_all_with (PN : Nat) (m : Int) (t : X) (su u : Value) (w : World) (hP : w.cell? ⟨PN, 0, none⟩ = some (.int .i64 m)) (hin : t.At 0 w su u) (hsm : t.Small) (hc : t.count ≤ 1048577) :
    Calls Tryz.prog 36 #[.agg #[.int .i64 t.op, .int .i64 t.at_, .int .i64 t.n, .string t.s, su, u], .func (.func 41) #[] #[.pointer (some ⟨PN, 0, none⟩)]] w fun e w' =>
      ∃ su' u' S, e = .returned (.agg #[.int .i64 t.op, .int .i64 t.at_, .int .i64 t.n, .string t.s, su', u']) ∧ Below w.heap.size w w' ∧ XOwn w' (t.withAll m) su' u' S ∧ S.Nodup ∧ ∀ x ∈ S, w.heap.size ≤ x := by
  obtain ⟨p, cap, hu⟩ := hin.xs.shape
  obtain ⟨ps, cps, hsu⟩ := hin.sets.shape
  subst hu hsu
  have hcall : ∀ o1 o2, Calls Tryz.prog 58 #[.agg #[.int .i64 t.op, .int .i64 t.at_, .int .i64 t.n, .string t.s, .slice ps t.set.length cps, .slice p t.len cap], .func (.func 45) #[] #[], .func (.func 59) #[] #[.pointer (some ⟨w.heap.size + 1, 0, none⟩)]] (((w.alloc o1).alloc (.cells #[.func (.func 41) #[] #[.pointer (some ⟨PN, 0, none⟩)]] 59)).alloc o2) fun e w' =>
      ∃ su' u' S, e = .returned (.agg #[.int .i64 t.op, .int .i64 t.at_, .int .i64 t.n, .string t.s, su', u']) ∧ Below (((w.alloc o1).alloc (.cells #[.func (.func 41) #[] #[.pointer (some ⟨PN, 0, none⟩)]] 59)).alloc o2).heap.size (((w.alloc o1).alloc (.cells #[.func (.func 41) #[] #[.pointer (some ⟨PN, 0, none⟩)]] 59)).alloc o2) w' ∧ XOwn w' (t.withAll m) su' u' S ∧ S.Nodup ∧ ∀ x ∈ S, w.heap.size + 3 ≤ x := by
    intro o1 o2
    have hb : Below w.heap.size w (((w.alloc o1).alloc (.cells #[.func (.func 41) #[] #[.pointer (some ⟨PN, 0, none⟩)]] 59)).alloc o2) := (newx w _).trans (((newx _ _).mono (by simp)).trans ((newx _ _).mono (by simp; omega)))
    have hS : (((w.alloc o1).alloc (.cells #[.func (.func 41) #[] #[.pointer (some ⟨PN, 0, none⟩)]] 59)).alloc o2).heap[w.heap.size + 1]? = some (.cells #[.func (.func 41) #[] #[.pointer (some ⟨PN, 0, none⟩)]] 59 (0, 0)) := by
      have n2 := heap_alloc_new (w.alloc o1) (.cells #[.func (.func 41) #[] #[.pointer (some ⟨PN, 0, none⟩)]] 59)
      have e1 : (w.alloc o1).heap.size = w.heap.size + 1 := by simp
      rw [e1] at n2
      exact (Below.heap_alloc _ _ _ (by simp)).trans n2
    refine (remade_xx (fun t => t.withAll m) (withSet m) (with_turns m) (w.heap.size + 1) t _ _ _ (X.At.below hb hin) hsm hc ?_).mono ?_
    · intro x sx vp vc kp kn kc W hW hx hxs
      obtain ⟨px, cx, hsx⟩ := hx.sets.shape
      subst hsx
      exact made_with PN (w.heap.size + 1) m x.op x.at_ x.n x.s x.set px cx vp x.len vc kp kn kc W (keepsX hW _ _ (keepsX hb _ _ hP)) (keepsX hW _ _ (cell_of_row _ _ 0 _ _ _ hS)) ((hx.sets.rd).below hW) (small_set hxs)
    · rintro e w' ⟨su', u', S, h1, h2, h3, h4, h5⟩
      exact ⟨su', u', S, h1, h2, h3, h4, fun x hx => by have := h5 x hx; simp at this; omega⟩
  have HC : Hid (∀ o1 o2, Calls Tryz.prog 58 #[.agg #[.int .i64 t.op, .int .i64 t.at_, .int .i64 t.n, .string t.s, .slice ps t.set.length cps, .slice p t.len cap], .func (.func 45) #[] #[], .func (.func 59) #[] #[.pointer (some ⟨w.heap.size + 1, 0, none⟩)]] (((w.alloc o1).alloc (.cells #[.func (.func 41) #[] #[.pointer (some ⟨PN, 0, none⟩)]] 59)).alloc o2) fun e w' =>
      ∃ su' u' S, e = .returned (.agg #[.int .i64 t.op, .int .i64 t.at_, .int .i64 t.n, .string t.s, su', u']) ∧ Below (((w.alloc o1).alloc (.cells #[.func (.func 41) #[] #[.pointer (some ⟨PN, 0, none⟩)]] 59)).alloc o2).heap.size (((w.alloc o1).alloc (.cells #[.func (.func 41) #[] #[.pointer (some ⟨PN, 0, none⟩)]] 59)).alloc o2) w' ∧ XOwn w' (t.withAll m) su' u' S ∧ S.Nodup ∧ ∀ x ∈ S, w.heap.size + 3 ≤ x) := hcall
  clear hcall hin hsm hc hP
  go_enter Tryz.func36, Tryz.ntmps36
  go_wp2_with fail
  refine (HC.out _ _).mono ?_
  rintro e w1 ⟨su', u', S, rfl, hb1, hX, hSn, hSg⟩
  obtain ⟨h1, h2, h3, h4, h5⟩ := threeX hb1
  have hR : Six w1 (w.heap.size + 1 + 1) 0 0 0 ⟨#[]⟩ (.slice none 0 0) (.slice none 0 0) 32 := h3
  obtain ⟨r0, r1, r2, r3, r4, r5⟩ := hR.cells
  have rf := hR.fr
  obtain ⟨pu, cu, hu⟩ := hX.at0.xs.shape
  obtain ⟨pv, cv, hv⟩ := hX.at0.sets.shape
  subst hu hv
  have HX : Hid (XOwn w1 (t.withAll m) (.slice pv (t.withAll m).set.length cv) (.slice pu (t.withAll m).len cu) S ∧ S.Nodup ∧ ∀ x ∈ S, w.heap.size + 3 ≤ x) := ⟨hX, hSn, hSg⟩
  have HB : Hid (Below w.heap.size w w1) := h5
  clear hb1 hX hSn hSg h1 h2 h3 h4 h5 hR HC
  generalize (t.withAll m).set.length = sl at *
  generalize (t.withAll m).len = tl at *
  go_wp2_with fail
  refine bodyPost_ret (v := .agg #[.int .i64 t.op, .int .i64 t.at_, .int .i64 t.n, .string t.s, .slice pv sl cv, .slice pu tl cu]) (by rw [results_cellX (p := 4) (ty := 32) (by kernel_rfl)]; simp [go_sem, r0, r1, r2, r3, r4, r5]) rfl ⟨_, _, S, rfl, ?_, ?_, HX.out.2.1, fun x hx => by have := HX.out.2.2 x hx; omega⟩
  · exact put6_below HB.out (w.heap.size + 1 + 1) (by omega) _ _ _ _ _ _
  · exact HX.out.1.same _ (fun x hx => put6_other w1 (w.heap.size + 1 + 1) t.op t.at_ t.n t.s (.slice pv sl cv) (.slice pu tl cu) x (by have := HX.out.2.2 x hx; omega))

set_option maxRecDepth 100000 in
set_option maxHeartbeats 2000000 in
theorem impl_with_all (m : Int) (t : X) (su u : Value) (w : World) (hin : t.At 0 w su u) (hsm : t.Small) (hc : t.count ≤ 1048577) :
    Calls Tryz.prog 16 #[.agg #[.int .i64 t.op, .int .i64 t.at_, .int .i64 t.n, .string t.s, su, u], .int .i64 m] w fun e w' =>
      ∃ su' u' S, e = .returned (.agg #[.int .i64 t.op, .int .i64 t.at_, .int .i64 t.n, .string t.s, su', u']) ∧ Below w.heap.size w w' ∧ XOwn w' (t.withAll m) su' u' S ∧ S.Nodup ∧ ∀ x ∈ S, w.heap.size ≤ x := by
  obtain ⟨p, cap, hu⟩ := hin.xs.shape
  obtain ⟨ps, cps, hsu⟩ := hin.sets.shape
  subst hu hsu
  have HC : Hid (∀ o1 o2, Calls Tryz.prog 36 #[.agg #[.int .i64 t.op, .int .i64 t.at_, .int .i64 t.n, .string t.s, .slice ps t.set.length cps, .slice p t.len cap], .func (.func 41) #[] #[.pointer (some ⟨w.heap.size + 1, 0, none⟩)]] (((w.alloc o1).alloc (.cells #[.int .i64 m] 3)).alloc o2) fun e w' =>
      ∃ su' u' S, e = .returned (.agg #[.int .i64 t.op, .int .i64 t.at_, .int .i64 t.n, .string t.s, su', u']) ∧ Below (((w.alloc o1).alloc (.cells #[.int .i64 m] 3)).alloc o2).heap.size (((w.alloc o1).alloc (.cells #[.int .i64 m] 3)).alloc o2) w' ∧ XOwn w' (t.withAll m) su' u' S ∧ S.Nodup ∧ ∀ x ∈ S, w.heap.size + 3 ≤ x) := by
    intro o1 o2
    have hb : Below w.heap.size w (((w.alloc o1).alloc (.cells #[.int .i64 m] 3)).alloc o2) := (newx w _).trans (((newx _ _).mono (by simp)).trans ((newx _ _).mono (by simp; omega)))
    have hS : (((w.alloc o1).alloc (.cells #[.int .i64 m] 3)).alloc o2).heap[w.heap.size + 1]? = some (.cells #[.int .i64 m] 3 (0, 0)) := by
      have n2 := heap_alloc_new (w.alloc o1) (.cells #[.int .i64 m] 3)
      have e1 : (w.alloc o1).heap.size = w.heap.size + 1 := by simp
      rw [e1] at n2
      exact (Below.heap_alloc _ _ _ (by simp)).trans n2
    refine (turn_all_with (w.heap.size + 1) m t _ _ _ (cell_of_row _ _ 0 _ _ _ hS) (X.At.below hb hin) hsm hc).mono ?_
    rintro e w' ⟨su', u', S, h1, h2, h3, h4, h5⟩
    exact ⟨su', u', S, h1, h2, h3, h4, fun x hx => by have := h5 x hx; simp at this; omega⟩
  clear hin hsm hc
  go_enter Tryz.func16, Tryz.ntmps16
  go_wp2_with fail
  refine (HC.out _ _).mono ?_
  rintro e w1 ⟨su', u', S, rfl, hb1, hX, hSn, hSg⟩
  obtain ⟨h1, h2, h3, h4, h5⟩ := threeX hb1
  have hR : Six w1 (w.heap.size + 1 + 1) 0 0 0 ⟨#[]⟩ (.slice none 0 0) (.slice none 0 0) 32 := h3
  obtain ⟨r0, r1, r2, r3, r4, r5⟩ := hR.cells
  have rf := hR.fr
  obtain ⟨pu, cu, hu⟩ := hX.at0.xs.shape
  obtain ⟨pv, cv, hv⟩ := hX.at0.sets.shape
  subst hu hv
  have HX : Hid (XOwn w1 (t.withAll m) (.slice pv (t.withAll m).set.length cv) (.slice pu (t.withAll m).len cu) S ∧ S.Nodup ∧ ∀ x ∈ S, w.heap.size + 3 ≤ x) := ⟨hX, hSn, hSg⟩
  have HB : Hid (Below w.heap.size w w1) := h5
  clear hb1 hX hSn hSg h1 h2 h3 h4 h5 hR HC
  generalize (t.withAll m).set.length = sl at *
  generalize (t.withAll m).len = tl at *
  go_wp2_with fail
  refine bodyPost_ret (v := .agg #[.int .i64 t.op, .int .i64 t.at_, .int .i64 t.n, .string t.s, .slice pv sl cv, .slice pu tl cu]) (by rw [results_cellX (p := 4) (ty := 32) (by kernel_rfl)]; simp [go_sem, r0, r1, r2, r3, r4, r5]) rfl ⟨_, _, S, rfl, ?_, ?_, HX.out.2.1, fun x hx => by have := HX.out.2.2 x hx; omega⟩
  · exact put6_below HB.out (w.heap.size + 1 + 1) (by omega) _ _ _ _ _ _
  · exact HX.out.1.same _ (fun x hx => put6_other w1 (w.heap.size + 1 + 1) t.op t.at_ t.n t.s (.slice pv sl cv) (.slice pu tl cu) x (by have := HX.out.2.2 x hx; omega))
end Go.Proofs.YtgbfflpdpfgnbaaGreat
