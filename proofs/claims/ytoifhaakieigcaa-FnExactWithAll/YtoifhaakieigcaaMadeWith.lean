/- impl.setTurned, and the closure of impl.turnAll: one node, its set turned. Condition: a set of at most 2^22. -/
import Derived.Test.YtoifhaakieigcaaStxParts
import Derived.Test.YtoifhaakieigcaaSixCells
import Derived.Test.YtoifhaakieigcaaIntsWith
import Derived.Test.YtoifhaakieigcaaIntsWithout
namespace Go.Proofs.Ytoifhaakieigcaa
open Go.ChangeShapes Go.WideShapes Go.ChangeAt Go.RowKit

set_option maxRecDepth 100000 in
theorem with_one (PN : Nat) (m : Int) (xs : List Int) (v : Value) (w : World) (hP : w.cell? ⟨PN, 0, none⟩ = some (.int .i64 m)) (hv : Rd w v xs) (hl : xs.length ≤ 4194304) :
    Calls Try.prog 63 #[v, .pointer (some ⟨PN, 0, none⟩)] w fun e w' => ∃ u, e = .returned u ∧ Below w.heap.size w w' ∧ Own w' w.heap.size u (withL xs m) := by
  go_enter Try.func63, Try.ntmps63
  go_wp2_with fail
  refine (impl_with xs m v w hv hl).mono ?_
  rintro e w1 ⟨u, rfl, hb, ho⟩
  have H : Hid (Below w.heap.size w w1 ∧ Own w1 w.heap.size u (withL xs m)) := ⟨hb, ho⟩
  clear hb ho
  go_wp2_with fail
  go_ret
  exact ⟨_, rfl, H.out.1, H.out.2⟩

set_option maxRecDepth 100000 in
set_option maxHeartbeats 2000000 in
theorem turned_with (PN : Nat) (m op a n : Int) (s : ByteArray) (set : List Int) (sp : Option Addr) (sc : Nat) (vp : Option Addr) (vn vc : Nat) (w : World) (hP : w.cell? ⟨PN, 0, none⟩ = some (.int .i64 m)) (hs : Rd w (.slice sp set.length sc) set) (hl : set.length ≤ 4194304) :
    Calls Try.prog 80 #[.agg #[.int .i64 op, .int .i64 a, .int .i64 n, .string s, .slice sp set.length sc, .slice vp vn vc], .func (.func 63) #[] #[.pointer (some ⟨PN, 0, none⟩)]] w fun e w' => ∃ u, e = .returned u ∧ Below w.heap.size w w' ∧ Own w' w.heap.size u (if op = 2 then withL set m else set) := by
  have HRD : Hid (Rd w (.slice sp set.length sc) set) := hs
  have HP : Hid (w.cell? ⟨PN, 0, none⟩ = some (.int .i64 m)) := hP
  have HL : Hid (set.length ≤ 4194304) := hl
  obtain ⟨Y, hY⟩ : ∃ Y, Y = (if op = 2 then withL set m else set) := ⟨_, rfl⟩
  have HY : Hid (Y = (if op = 2 then withL set m else set)) := hY
  rw [← hY]
  clear hs hP hl hY
  go_enter Try.func80, Try.ntmps80
  go_wp2_with fail
  refine (part_of op a n s (.slice sp set.length sc) (.slice vp vn vc) _).mono ?_
  rintro e w1 ⟨T, rfl, hb1, hT⟩
  have hx1 : Six w1 w.heap.size op a n s (.slice sp set.length sc) (.slice vp vn vc) 29 := (hb1.block _ (by simp)).trans (heap_alloc_new w _)
  obtain ⟨x0, x1, x2, x3, x4, x5⟩ := hx1.cells
  have HB1 : Hid (Below w.heap.size w w1) := (newx w _).trans (hb1.mono (by simp))
  clear hb1 hx1
  rcases hT with ⟨h, rfl⟩ | ⟨h, rfl⟩ | ⟨h, rfl⟩ | ⟨⟨h1, h2, h3⟩, rfl⟩
  · have HR : Hid (Y = set) := HY.out.trans (if_neg (by omega))
    have hta := no_symPart (ty := 94) (by decide) (.agg #[.int .i64 op, .int .i64 a, .int .i64 n, .string s, .slice sp set.length sc, .slice vp vn vc]) w1
    clear h
    go_wp2_with fail
    refine (impl_copied set _ w1 (HRD.out.below HB1.out) HL.out).mono ?_
    rintro e w2 ⟨u, rfl, hb2, ho⟩
    have H : Hid (Below w.heap.size w w2 ∧ Own w2 w.heap.size u set) := ⟨HB1.out.trans (hb2.mono HB1.out.size), ho.mono HB1.out.size⟩
    clear hb2 ho
    go_wp2_with fail
    go_ret
    exact ⟨_, rfl, H.out.1, by rw [HR.out]; exact H.out.2⟩
  · have HR : Hid (Y = withL set m) := HY.out.trans (if_pos h)
    have hta := is_symPart (.agg #[.int .i64 op, .int .i64 a, .int .i64 n, .string s, .slice sp set.length sc, .slice vp vn vc]) w1
    clear h
    go_wp2_with fail
    have hnb := newx w1 (.cells #[.int .i64 op, .int .i64 a, .int .i64 n, .string s, .slice sp set.length sc, .slice vp vn vc] 96)
    have hbb : Below w.heap.size w (w1.alloc (.cells #[.int .i64 op, .int .i64 a, .int .i64 n, .string s, .slice sp set.length sc, .slice vp vn vc] 96)) := HB1.out.trans (hnb.mono HB1.out.size)
    refine (with_one PN m set _ _ (keepsX hbb _ _ HP.out) (HRD.out.below hbb) HL.out).mono ?_
    rintro e w2 ⟨u, rfl, hb2, ho⟩
    have H : Hid (Below w.heap.size w w2 ∧ Own w2 w.heap.size u (withL set m)) := ⟨hbb.trans (hb2.mono hbb.size), ho.mono hbb.size⟩
    clear hb2 ho hbb hnb
    go_wp2_with fail
    go_ret
    exact ⟨_, rfl, H.out.1, by rw [HR.out]; exact H.out.2⟩
  · have HR : Hid (Y = set) := HY.out.trans (if_neg (by omega))
    have hta := no_symPart (ty := 98) (by decide) (.agg #[.int .i64 op, .int .i64 a, .int .i64 n, .string s, .slice sp set.length sc, .slice vp vn vc]) w1
    clear h
    go_wp2_with fail
    refine (impl_copied set _ w1 (HRD.out.below HB1.out) HL.out).mono ?_
    rintro e w2 ⟨u, rfl, hb2, ho⟩
    have H : Hid (Below w.heap.size w w2 ∧ Own w2 w.heap.size u set) := ⟨HB1.out.trans (hb2.mono HB1.out.size), ho.mono HB1.out.size⟩
    clear hb2 ho
    go_wp2_with fail
    go_ret
    exact ⟨_, rfl, H.out.1, by rw [HR.out]; exact H.out.2⟩
  · have HR : Hid (Y = set) := HY.out.trans (if_neg h2)
    have hta := no_symPart (ty := 105) (by decide) (.agg #[.int .i64 op, .int .i64 a, .int .i64 n, .string s, .slice sp set.length sc, .slice vp vn vc]) w1
    clear h1 h2 h3
    go_wp2_with fail
    refine (impl_copied set _ w1 (HRD.out.below HB1.out) HL.out).mono ?_
    rintro e w2 ⟨u, rfl, hb2, ho⟩
    have H : Hid (Below w.heap.size w w2 ∧ Own w2 w.heap.size u set) := ⟨HB1.out.trans (hb2.mono HB1.out.size), ho.mono HB1.out.size⟩
    clear hb2 ho
    go_wp2_with fail
    go_ret
    exact ⟨_, rfl, H.out.1, by rw [HR.out]; exact H.out.2⟩

set_option maxRecDepth 100000 in
set_option maxHeartbeats 2000000 in
theorem made_with (PN PS : Nat) (m op a n : Int) (s : ByteArray) (set : List Int) (sp : Option Addr) (sc : Nat) (vp : Option Addr) (vn vc : Nat) (kp : Option Addr) (kn kc : Nat) (w : World) (hP : w.cell? ⟨PN, 0, none⟩ = some (.int .i64 m)) (hS : w.cell? ⟨PS, 0, none⟩ = some (.func (.func 63) #[] #[.pointer (some ⟨PN, 0, none⟩)])) (hs : Rd w (.slice sp set.length sc) set) (hl : set.length ≤ 4194304) :
    Calls Try.prog 79 #[.agg #[.int .i64 op, .int .i64 a, .int .i64 n, .string s, .slice sp set.length sc, .slice vp vn vc], .slice kp kn kc, .pointer (some ⟨PS, 0, none⟩)] w fun e w' => ∃ sv, e = .returned (.agg #[.int .i64 op, .int .i64 a, .int .i64 n, .string s, sv, .slice kp kn kc]) ∧ Below w.heap.size w w' ∧ Own w' w.heap.size sv (if op = 2 then withL set m else set) := by
  have HRD : Hid (Rd w (.slice sp set.length sc) set) := hs
  have HP : Hid (w.cell? ⟨PN, 0, none⟩ = some (.int .i64 m)) := hP
  have HL : Hid (set.length ≤ 4194304) := hl
  have hbb : ∀ o1 o2, Below w.heap.size w ((w.alloc o1).alloc o2) := fun o1 o2 => (newx w _).trans ((newx _ _).mono (by simp))
  have hS2 : ∀ o1 o2, ((w.alloc o1).alloc o2).cell? ⟨PS, 0, none⟩ = some (.func (.func 63) #[] #[.pointer (some ⟨PN, 0, none⟩)]) := fun o1 o2 => keepsX (hbb o1 o2) _ _ hS
  have HBB : Hid (∀ o1 o2, Below w.heap.size w ((w.alloc o1).alloc o2)) := hbb
  obtain ⟨Y, hY⟩ : ∃ Y, Y = (if op = 2 then withL set m else set) := ⟨_, rfl⟩
  have HY : Hid (Y = (if op = 2 then withL set m else set)) := hY
  rw [← hY]
  clear hs hP hl hbb hY
  go_enter Try.func79, Try.ntmps79
  go_wp2_with fail
  refine (turned_with PN m op a n s set sp sc vp vn vc _ (keepsX (HBB.out _ _) _ _ HP.out) (HRD.out.below (HBB.out _ _)) HL.out).mono ?_
  rintro e w1 ⟨u, rfl, hb1, ho⟩
  rw [← HY.out] at ho
  obtain ⟨pv, cv, hv⟩ := (ho.setB (Nat.zero_le _)).shape
  subst hv
  obtain ⟨h1, h2, h4, h5⟩ := twoX hb1
  have hA : Six w1 w.heap.size op a n s (.slice sp set.length sc) (.slice vp vn vc) 29 := h1
  have hR : Six w1 (w.heap.size + 1) 0 0 0 ⟨#[]⟩ (.slice none 0 0) (.slice none 0 0) 29 := h2
  have HOW : Hid (Own w1 (w.heap.size + 2) (.slice pv Y.length cv) Y) := ho.mono (by simp)
  have HB1 : Hid (Below w.heap.size w w1 ∧ w.heap.size + 2 ≤ w1.heap.size) := ⟨h5, h4⟩
  clear hb1 ho h1 h2 h4 h5
  obtain ⟨x0, x1, x2, x3, x4, x5⟩ := hA.cells
  have xf := hA.fr
  obtain ⟨r0, r1, r2, r3, r4, r5⟩ := hR.cells
  have rf := hR.fr
  clear hA hR hS hS2
  generalize Y.length = yl at *
  go_wp2_with fail
  refine bodyPost_ret (v := .agg #[.int .i64 op, .int .i64 a, .int .i64 n, .string s, .slice pv yl cv, .slice kp kn kc]) (by rw [results_cellX (p := 5) (ty := 29) (by kernel_rfl)]; simp [go_sem, r0, r1, r2, r3, r4, r5]) rfl ⟨_, rfl, ?_, ?_⟩
  · exact put6_below ((HB1.out.1.setCell (Nat.le_refl w.heap.size) _).setCell (Nat.le_refl w.heap.size) _) (w.heap.size + 1) (by omega) _ _ _ _ _ _
  · refine Own.mono (base := w.heap.size + 2) (HOW.out.sameX (fun g hg => ?_)) (by omega)
    have := (World.ownsRow.lt HOW.out g hg).1
    exact (put6_other ((w1.setCell ⟨w.heap.size, 4, none⟩ (.slice pv yl cv)).setCell ⟨w.heap.size, 5, none⟩ (.slice kp kn kc)) (w.heap.size + 1) op a n s (.slice pv yl cv) (.slice kp kn kc) g (by omega)).trans ((Below.heap_setCell _ _ _ _ (by simp only; omega)).trans (Below.heap_setCell _ _ _ _ (by simp only; omega)))
end Go.Proofs.Ytoifhaakieigcaa
