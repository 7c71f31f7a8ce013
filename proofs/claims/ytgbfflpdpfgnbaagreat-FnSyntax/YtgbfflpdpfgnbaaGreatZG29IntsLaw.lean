/- impl.setTurned, and the closure of impl.turnAll: one node, its set turned. Condition: a set of at most 2^22. -/
import Derived.Test.YtgbfflpdpfgnbaaGreatZG28StxParts
import Derived.Test.YtgbfflpdpfgnbaaGreatZG2Holes
import Derived.Test.YtgbfflpdpfgnbaaGreatZG5IntsRead
import Derived.Test.YtgbfflpdpfgnbaaGreatZG0Stx
import Derived.Test.YtgbfflpdpfgnbaaGreatZG1StxOwn
import Derived.Deep.QuietTactic
import Derived.BigQuiet
import Derived.WalkSpells
import Derived.WalkSmall
import Derived.OpenShut
namespace Go.Proofs.YtgbfflpdpfgnbaaGreat
open Go.ChangeShapes Go.WideShapes Go.ChangeAt Go.RowKit

set_option maxRecDepth 100000 in
theorem flip_one (PN : Nat) (m : Int) (xs : List Int) (v : Value) (w : World) (hP : w.cell? ⟨PN, 0, none⟩ = some (.int .i64 m)) (hv : Rd w v xs) (hl : xs.length ≤ 4194304) :
    Calls Tryz.prog 37 #[v, .pointer (some ⟨PN, 0, none⟩)] w fun e w' => ∃ u, e = .returned u ∧ Below w.heap.size w w' ∧ Own w' w.heap.size u (flipL xs m) := by
  go_enter Tryz.func37, Tryz.ntmps37
  go_wp2_with fail
  refine (impl_flip xs m v w hv hl).mono ?_
  rintro e w1 ⟨u, rfl, hb, ho⟩
  have H : Hid (Below w.heap.size w w1 ∧ Own w1 w.heap.size u (flipL xs m)) := ⟨hb, ho⟩
  clear hb ho
  go_wp2_with fail
  go_ret
  exact ⟨_, rfl, H.out.1, H.out.2⟩

set_option maxRecDepth 100000 in
set_option maxHeartbeats 2000000 in
theorem turned_flip (PN : Nat) (m op a n : Int) (s : ByteArray) (set : List Int) (sp : Option Addr) (sc : Nat) (vp : Option Addr) (vn vc : Nat) (w : World) (hP : w.cell? ⟨PN, 0, none⟩ = some (.int .i64 m)) (hs : Rd w (.slice sp set.length sc) set) (hl : set.length ≤ 4194304) :
    Calls Tryz.prog 60 #[.agg #[.int .i64 op, .int .i64 a, .int .i64 n, .string s, .slice sp set.length sc, .slice vp vn vc], .func (.func 37) #[] #[.pointer (some ⟨PN, 0, none⟩)]] w fun e w' => ∃ u, e = .returned u ∧ Below w.heap.size w w' ∧ Own w' w.heap.size u (if op = 2 then flipL set m else set) := by
  have HRD : Hid (Rd w (.slice sp set.length sc) set) := hs
  have HP : Hid (w.cell? ⟨PN, 0, none⟩ = some (.int .i64 m)) := hP
  have HL : Hid (set.length ≤ 4194304) := hl
  obtain ⟨Y, hY⟩ : ∃ Y, Y = (if op = 2 then flipL set m else set) := ⟨_, rfl⟩
  have HY : Hid (Y = (if op = 2 then flipL set m else set)) := hY
  rw [← hY]
  clear hs hP hl hY
  go_enter Tryz.func60, Tryz.ntmps60
  go_wp2_with fail
  refine (part_of op a n s (.slice sp set.length sc) (.slice vp vn vc) _).mono ?_
  rintro e w1 ⟨T, rfl, hb1, hT⟩
  have hx1 : Six w1 w.heap.size op a n s (.slice sp set.length sc) (.slice vp vn vc) 32 := (hb1.block _ (by simp)).trans (heap_alloc_new w _)
  obtain ⟨x0, x1, x2, x3, x4, x5⟩ := hx1.cells
  have HB1 : Hid (Below w.heap.size w w1) := (newx w _).trans (hb1.mono (by simp))
  clear hb1 hx1
  rcases hT with ⟨h, rfl⟩ | ⟨h, rfl⟩ | ⟨h, rfl⟩ | ⟨⟨h1, h2, h3⟩, rfl⟩
  · have HR : Hid (Y = set) := HY.out.trans (if_neg (by omega))
    have hta := no_symPart (ty := 93) (by decide) (.agg #[.int .i64 op, .int .i64 a, .int .i64 n, .string s, .slice sp set.length sc, .slice vp vn vc]) w1
    clear h
    go_wp2_with fail
    refine (impl_copied set _ w1 (HRD.out.below HB1.out) HL.out).mono ?_
    rintro e w2 ⟨u, rfl, hb2, ho⟩
    have H : Hid (Below w.heap.size w w2 ∧ Own w2 w.heap.size u set) := ⟨HB1.out.trans (hb2.mono HB1.out.size), ho.mono HB1.out.size⟩
    clear hb2 ho
    go_wp2_with fail
    go_ret
    exact ⟨_, rfl, H.out.1, by rw [HR.out]; exact H.out.2⟩
  · have HR : Hid (Y = flipL set m) := HY.out.trans (if_pos h)
    have hta := is_symPart (.agg #[.int .i64 op, .int .i64 a, .int .i64 n, .string s, .slice sp set.length sc, .slice vp vn vc]) w1
    clear h
    go_wp2_with fail
    have hnb := newx w1 (.cells #[.int .i64 op, .int .i64 a, .int .i64 n, .string s, .slice sp set.length sc, .slice vp vn vc] 95)
    have hbb : Below w.heap.size w (w1.alloc (.cells #[.int .i64 op, .int .i64 a, .int .i64 n, .string s, .slice sp set.length sc, .slice vp vn vc] 95)) := HB1.out.trans (hnb.mono HB1.out.size)
    refine (flip_one PN m set _ _ (keepsX hbb _ _ HP.out) (HRD.out.below hbb) HL.out).mono ?_
    rintro e w2 ⟨u, rfl, hb2, ho⟩
    have H : Hid (Below w.heap.size w w2 ∧ Own w2 w.heap.size u (flipL set m)) := ⟨hbb.trans (hb2.mono hbb.size), ho.mono hbb.size⟩
    clear hb2 ho hbb hnb
    go_wp2_with fail
    go_ret
    exact ⟨_, rfl, H.out.1, by rw [HR.out]; exact H.out.2⟩
  · have HR : Hid (Y = set) := HY.out.trans (if_neg (by omega))
    have hta := no_symPart (ty := 98) (by decide) (.agg #[.int .i64 op, .int .i64 a, .int .i64 n, .string s, .slice sp set.length sc, .slice vp vn vc]) w1
    clear h
    go_wp2_with fail
    refine (impl_copied set _ w1 (HRD.out.below HB1.out) HL.out).mono ?_
    rintro e w2 ⟨u, rfl, hb2, ho⟩
    have H : Hid (Below w.heap.size w w2 ∧ Own w2 w.heap.size u set) := ⟨HB1.out.trans (hb2.mono HB1.out.size), ho.mono HB1.out.size⟩
    clear hb2 ho
    go_wp2_with fail
    go_ret
    exact ⟨_, rfl, H.out.1, by rw [HR.out]; exact H.out.2⟩
  · have HR : Hid (Y = set) := HY.out.trans (if_neg h2)
    have hta := no_symPart (ty := 111) (by decide) (.agg #[.int .i64 op, .int .i64 a, .int .i64 n, .string s, .slice sp set.length sc, .slice vp vn vc]) w1
    clear h1 h2 h3
    go_wp2_with fail
    refine (impl_copied set _ w1 (HRD.out.below HB1.out) HL.out).mono ?_
    rintro e w2 ⟨u, rfl, hb2, ho⟩
    have H : Hid (Below w.heap.size w w2 ∧ Own w2 w.heap.size u set) := ⟨HB1.out.trans (hb2.mono HB1.out.size), ho.mono HB1.out.size⟩
    clear hb2 ho
    go_wp2_with fail
    go_ret
    exact ⟨_, rfl, H.out.1, by rw [HR.out]; exact H.out.2⟩

set_option maxRecDepth 100000 in
set_option maxHeartbeats 2000000 in
theorem made_flip (PN PS : Nat) (m op a n : Int) (s : ByteArray) (set : List Int) (sp : Option Addr) (sc : Nat) (vp : Option Addr) (vn vc : Nat) (kp : Option Addr) (kn kc : Nat) (w : World) (hP : w.cell? ⟨PN, 0, none⟩ = some (.int .i64 m)) (hS : w.cell? ⟨PS, 0, none⟩ = some (.func (.func 37) #[] #[.pointer (some ⟨PN, 0, none⟩)])) (hs : Rd w (.slice sp set.length sc) set) (hl : set.length ≤ 4194304) :
    Calls Tryz.prog 59 #[.agg #[.int .i64 op, .int .i64 a, .int .i64 n, .string s, .slice sp set.length sc, .slice vp vn vc], .slice kp kn kc, .pointer (some ⟨PS, 0, none⟩)] w fun e w' => ∃ sv, e = .returned (.agg #[.int .i64 op, .int .i64 a, .int .i64 n, .string s, sv, .slice kp kn kc]) ∧ Below w.heap.size w w' ∧ Own w' w.heap.size sv (if op = 2 then flipL set m else set) := by
  have HRD : Hid (Rd w (.slice sp set.length sc) set) := hs
  have HP : Hid (w.cell? ⟨PN, 0, none⟩ = some (.int .i64 m)) := hP
  have HL : Hid (set.length ≤ 4194304) := hl
  have hbb : ∀ o1 o2, Below w.heap.size w ((w.alloc o1).alloc o2) := fun o1 o2 => (newx w _).trans ((newx _ _).mono (by simp))
  have hS2 : ∀ o1 o2, ((w.alloc o1).alloc o2).cell? ⟨PS, 0, none⟩ = some (.func (.func 37) #[] #[.pointer (some ⟨PN, 0, none⟩)]) := fun o1 o2 => keepsX (hbb o1 o2) _ _ hS
  have HBB : Hid (∀ o1 o2, Below w.heap.size w ((w.alloc o1).alloc o2)) := hbb
  obtain ⟨Y, hY⟩ : ∃ Y, Y = (if op = 2 then flipL set m else set) := ⟨_, rfl⟩
  have HY : Hid (Y = (if op = 2 then flipL set m else set)) := hY
  rw [← hY]
  clear hs hP hl hbb hY
  go_enter Tryz.func59, Tryz.ntmps59
  go_wp2_with fail
  refine (turned_flip PN m op a n s set sp sc vp vn vc _ (keepsX (HBB.out _ _) _ _ HP.out) (HRD.out.below (HBB.out _ _)) HL.out).mono ?_
  rintro e w1 ⟨u, rfl, hb1, ho⟩
  rw [← HY.out] at ho
  obtain ⟨pv, cv, hv⟩ := (ho.setB (Nat.zero_le _)).shape
  subst hv
  obtain ⟨h1, h2, h4, h5⟩ := twoX hb1
  have hA : Six w1 w.heap.size op a n s (.slice sp set.length sc) (.slice vp vn vc) 32 := h1
  have hR : Six w1 (w.heap.size + 1) 0 0 0 ⟨#[]⟩ (.slice none 0 0) (.slice none 0 0) 32 := h2
  have HOW : Hid (Own w1 (w.heap.size + 2) (.slice pv Y.length cv) Y) := ho.mono (by simp)
  have HB1 : Hid (Below w.heap.size w w1 ∧ w.heap.size + 2 ≤ w1.heap.size) := ⟨h5, h4⟩
  clear hb1 ho h1 h2 h4 h5
  obtain ⟨x0, x1, x2, x3, x4, x5⟩ := hA.cells
  have xf := hA.fr
  obtain ⟨r0, r1, r2, r3, r4, r5⟩ := hR.cells
  have rf := hR.fr
  clear hA hR hS hS2
  generalize Y.length = yl at *
  go_wp2_with fail
  refine bodyPost_ret (v := .agg #[.int .i64 op, .int .i64 a, .int .i64 n, .string s, .slice pv yl cv, .slice kp kn kc]) (by rw [results_cellX (p := 5) (ty := 32) (by kernel_rfl)]; simp [go_sem, r0, r1, r2, r3, r4, r5]) rfl ⟨_, rfl, ?_, ?_⟩
  · exact put6_below ((HB1.out.1.setCell (Nat.le_refl w.heap.size) _).setCell (Nat.le_refl w.heap.size) _) (w.heap.size + 1) (by omega) _ _ _ _ _ _
  · refine Own.mono (base := w.heap.size + 2) (HOW.out.sameX (fun g hg => ?_)) (by omega)
    have := (World.ownsRow.lt HOW.out g hg).1
    exact (put6_other ((w1.setCell ⟨w.heap.size, 4, none⟩ (.slice pv yl cv)).setCell ⟨w.heap.size, 5, none⟩ (.slice kp kn kc)) (w.heap.size + 1) op a n s (.slice pv yl cv) (.slice kp kn kc) g (by omega)).trans ((Below.heap_setCell _ _ _ _ (by simp only; omega)).trans (Below.heap_setCell _ _ _ _ (by simp only; omega)))
end Go.Proofs.YtgbfflpdpfgnbaaGreat

/- Two lists of ints held against each other, one by one: spec.SameSet, laws.sameInts, laws.eqIntS, slices.Equal. Condition: at most 2^22 of them. -/
namespace Go.Proofs.YtgbfflpdpfgnbaaGreat
open Go.ChangeShapes Go.WideShapes Go.ChangeAt Go.RowKit

set_option maxHeartbeats 1000000 in
theorem spec_same_set (xs ys : List Int) (v u : Value) (w : World) (hv : Rd w v xs) (hu : Rd w u ys) (hl : xs.length ≤ 4194304) (_hl2 : ys.length ≤ 4194304) :
    Calls Tryz.prog 52 #[v, u] w fun e w' => e = .returned (.bool (sameB xs ys)) ∧ Below w.heap.size w w' := by
  obtain ⟨a, cap, rfl, hc⟩ := hv.shape
  obtain ⟨a2, cap2, rfl, hc2⟩ := hu.shape
  have HC : Hid (∀ j, j < xs.length → ∃ b off, a = some ⟨b, off, none⟩ ∧ w.cell? ⟨b, off + j, none⟩ = some (.int .i64 (xs.getD j 0))) := hc
  have HC2 : Hid (∀ j, j < ys.length → ∃ b off, a2 = some ⟨b, off, none⟩ ∧ w.cell? ⟨b, off + j, none⟩ = some (.int .i64 (ys.getD j 0))) := hc2
  clear hc hv hc2 hu
  by_cases hne : xs.length = ys.length
  · rw [← hne] at HC2 ⊢
    have HNE : Hid (xs.length = ys.length) := hne
    clear hne
    obtain ⟨m, hm⟩ : ∃ m, m = xs.length := ⟨_, rfl⟩
    rw [← hm] at HC HC2 hl ⊢
    have HM : Hid (m = xs.length) := hm
    clear hm
    go_enter Tryz.func52, Tryz.ntmps52
    go_wp2
    go_loopw [5] (fun i wr => ∃ k : Nat, k ≤ m ∧ i = .int .i64 k ∧ (∀ j, j < k → xs.getD j 0 = ys.getD j 0) ∧ Below w.heap.size w wr) (fun i _ => m - (intOf i).toNat)
    case atStart => exact ⟨0, by omega, rfl, fun j hj => by omega, Below.refl _ _⟩
    case round =>
      obtain ⟨k, hk, rfl, hno, hb⟩ := hrel
      have HNO : Hid (∀ j, j < k → xs.getD j 0 = ys.getD j 0) := hno
      have HB : Hid (Below w.heap.size w wr) := hb
      clear hno hb
      by_cases hlt : (k : Int) < m
      · obtain ⟨b, off, rfl, hcell⟩ := HC.out k (by omega)
        obtain ⟨b2, off2, rfl, hcell2⟩ := HC2.out k (by omega)
        generalize hx : xs.getD k 0 = x at hcell
        generalize hy : ys.getD k 0 = y at hcell2
        have HX : Hid (xs.getD k 0 = x) := hx
        have HY : Hid (ys.getD k 0 = y) := hy
        clear hx hy
        have c1 := cell_later HB.out hcell
        have c2 := cell_later HB.out hcell2
        clear hcell hcell2
        cases he : (x != y)
        · go_wp2_with fail
          go_quiet (fail)
          go_wp2
          go_roundw
          case rel =>
            refine ⟨k + 1, by omega, by go_num, fun j hj => ?_, below_drewN HB.out _⟩
            by_cases hjk : j = k
            · subst hjk; rw [HX.out, HY.out]; simpa using he
            · exact HNO.out j (by omega)
          case measure => simp [intOf]; omega
        · go_wp2_with fail
          go_quiet (fail)
          go_wp2
          go_ret
          rw [same_no k (by rw [HX.out, HY.out]; simpa using he)]
          exact ⟨rfl, below_drewN HB.out _⟩
      · go_wp2
        go_ret
        have hke : k = m := by omega
        subst hke
        rw [same_yes HNE.out (fun i hi => HNO.out i (by rw [HM.out]; exact hi))]
        exact ⟨rfl, HB.out⟩
  · have HS : Hid (sameB xs ys = false) := same_len hne
    have hd : ((xs.length : Int) != (ys.length : Int)) = true := by simp; omega
    generalize xs.length = m at *
    generalize ys.length = m2 at *
    clear HC HC2
    go_enter Tryz.func52, Tryz.ntmps52
    go_wp2
    go_ret
    rw [HS.out]
    exact ⟨rfl, Below.refl _ _⟩

set_option maxHeartbeats 1000000 in
theorem slices_equal (xs ys : List Int) (v u : Value) (w : World) (hv : Rd w v xs) (hu : Rd w u ys) (hl : xs.length ≤ 4194304) (_hl2 : ys.length ≤ 4194304) :
    Calls Tryz.prog 78 #[v, u] w fun e w' => e = .returned (.bool (sameB xs ys)) ∧ Below w.heap.size w w' := by
  obtain ⟨a, cap, rfl, hc⟩ := hv.shape
  obtain ⟨a2, cap2, rfl, hc2⟩ := hu.shape
  have HC : Hid (∀ j, j < xs.length → ∃ b off, a = some ⟨b, off, none⟩ ∧ w.cell? ⟨b, off + j, none⟩ = some (.int .i64 (xs.getD j 0))) := hc
  have HC2 : Hid (∀ j, j < ys.length → ∃ b off, a2 = some ⟨b, off, none⟩ ∧ w.cell? ⟨b, off + j, none⟩ = some (.int .i64 (ys.getD j 0))) := hc2
  clear hc hv hc2 hu
  by_cases hne : xs.length = ys.length
  · rw [← hne] at HC2 ⊢
    have HNE : Hid (xs.length = ys.length) := hne
    clear hne
    obtain ⟨m, hm⟩ : ∃ m, m = xs.length := ⟨_, rfl⟩
    rw [← hm] at HC HC2 hl ⊢
    have HM : Hid (m = xs.length) := hm
    clear hm
    go_enter Tryz.func78, Tryz.ntmps78
    go_wp2
    go_loopw [13] (fun i wr => ∃ k : Nat, k ≤ m ∧ i = .int .i64 k ∧ (∀ j, j < k → xs.getD j 0 = ys.getD j 0) ∧ Below w.heap.size w wr) (fun i _ => m - (intOf i).toNat)
    case atStart => exact ⟨0, by omega, rfl, fun j hj => by omega, Below.refl _ _⟩
    case round =>
      obtain ⟨k, hk, rfl, hno, hb⟩ := hrel
      have HNO : Hid (∀ j, j < k → xs.getD j 0 = ys.getD j 0) := hno
      have HB : Hid (Below w.heap.size w wr) := hb
      clear hno hb
      by_cases hlt : (k : Int) < m
      · obtain ⟨b, off, rfl, hcell⟩ := HC.out k (by omega)
        obtain ⟨b2, off2, rfl, hcell2⟩ := HC2.out k (by omega)
        generalize hx : xs.getD k 0 = x at hcell
        generalize hy : ys.getD k 0 = y at hcell2
        have HX : Hid (xs.getD k 0 = x) := hx
        have HY : Hid (ys.getD k 0 = y) := hy
        clear hx hy
        have c1 := cell_later HB.out hcell
        have c2 := cell_later HB.out hcell2
        clear hcell hcell2
        cases he : (x != y)
        · go_wp2_with fail
          go_quiet (fail)
          go_wp2
          go_roundw
          case rel =>
            refine ⟨k + 1, by omega, by go_num, fun j hj => ?_, below_drewN HB.out _⟩
            by_cases hjk : j = k
            · subst hjk; rw [HX.out, HY.out]; simpa using he
            · exact HNO.out j (by omega)
          case measure => simp [intOf]; omega
        · go_wp2_with fail
          go_quiet (fail)
          go_wp2
          go_ret
          rw [same_no k (by rw [HX.out, HY.out]; simpa using he)]
          exact ⟨rfl, below_drewN HB.out _⟩
      · go_wp2
        go_ret
        have hke : k = m := by omega
        subst hke
        rw [same_yes HNE.out (fun i hi => HNO.out i (by rw [HM.out]; exact hi))]
        exact ⟨rfl, HB.out⟩
  · have HS : Hid (sameB xs ys = false) := same_len hne
    have hd : ((xs.length : Int) != (ys.length : Int)) = true := by simp; omega
    generalize xs.length = m at *
    generalize ys.length = m2 at *
    clear HC HC2
    go_enter Tryz.func78, Tryz.ntmps78
    go_wp2
    go_ret
    rw [HS.out]
    exact ⟨rfl, Below.refl _ _⟩

set_option maxHeartbeats 400000 in
theorem impl_same_set (xs ys : List Int) (v u : Value) (w : World) (hv : Rd w v xs) (hu : Rd w u ys) (hl : xs.length ≤ 4194304) (_hl2 : ys.length ≤ 4194304) :
    Calls Tryz.prog 62 #[v, u] w fun e w' => e = .returned (.bool (sameB xs ys)) ∧ Below w.heap.size w w' := by
  go_enter Tryz.func62, Tryz.ntmps62
  go_wp2_with fail
  refine (slices_equal xs ys v u w hv hu hl _hl2).mono ?_
  rintro e w1 ⟨rfl, hb⟩
  go_wp2
  go_ret
  exact ⟨rfl, hb⟩

end Go.Proofs.YtgbfflpdpfgnbaaGreat

/- laws.toIntS, laws.markIntS, laws.heldIntS at lists of ints; and how a slice that came in is read. Condition: at most 2^22 of them; what is marked is a row of the call's own. -/
namespace Go.Proofs.YtgbfflpdpfgnbaaGreat
open Go.ChangeShapes Go.WideShapes Go.ChangeAt Go.RowKit

/-- A slice that came in: its first cells are xs. -/
def Rs (w : World) (v : Value) (xs : List Int) : Prop :=
  ∃ a cap, v = .slice a xs.length cap ∧ ∀ j, j < xs.length → ∃ b off, a = some ⟨b, off, none⟩ ∧ w.cell? ⟨b, off + j, none⟩ = some (.int .i64 (xs.getD j 0))

theorem Rs.below {w w' : World} {v : Value} {xs : List Int} (h : Rs w v xs) (hb : Below w.heap.size w w') : Rs w' v xs := by
  obtain ⟨a, cap, rfl, hc⟩ := h
  refine ⟨a, cap, rfl, fun j hj => ?_⟩
  obtain ⟨b, off, e, h⟩ := hc j hj
  exact ⟨b, off, e, (hb.cell (World.block_lt_of_cell? w _ h)).trans h⟩

/-- The shell's word for a slice of ints that came in. -/
def IsRow (w : World) (a : Option Addr) (len cap : Nat) (zs : List Int) : Prop :=
  (a = none ∧ len = 0 ∧ cap = 0 ∧ zs = []) ∨
  ∃ x, a = some x ∧ len ≤ cap ∧ cap ≤ maxLen ∧ zs.length = cap ∧ (∀ i, i < zs.length → w.cell? (x.add i) = some (.int .i64 (zs.getD i 0))) ∧ ∀ n ∈ zs, (Lit.int .i64 n).wf = true

theorem IsRow.rs {w : World} {a : Option Addr} {len cap : Nat} {zs : List Int} (h : IsRow w a len cap zs) : ∃ xs, xs.length = len ∧ Rs w (.slice a len cap) xs := by
  rcases h with ⟨rfl, rfl, rfl, rfl⟩ | ⟨x, rfl, hl, _, hz, hc, _⟩
  · exact ⟨[], rfl, none, 0, rfl, fun j hj => by simp at hj⟩
  · have hlen : (zs.take len).length = len := by rw [List.length_take]; omega
    refine ⟨zs.take len, hlen, some x, cap, by rw [hlen], fun j hj => ?_⟩
    rw [hlen] at hj
    obtain ⟨b, off, rfl, hc'⟩ := ints_at hc (by omega)
    refine ⟨b, off, rfl, ?_⟩
    rw [hc' j (by omega)]
    simp [List.getD_eq_getElem?_getD, hj]

theorem row_set_int {xs : List Int} {Z : List Value} {k : Nat} (hk : k < xs.length) (hZ : Z.length = xs.length) :
    (((xs.take k).map (Value.int .i64)) ++ Z.drop k).set k (.int .i64 (xs.getD k 0)) = ((xs.take (k + 1)).map (Value.int .i64)) ++ Z.drop (k + 1) := by
  have hl : ((xs.take k).map (Value.int .i64)).length = k := by simp; omega
  rw [List.set_append_right _ _ (by omega), hl, Nat.sub_self, List.drop_eq_getElem_cons (by omega : k < Z.length), List.set_cons_zero, List.take_add_one, List.getElem?_eq_getElem hk, getD_int xs k hk, List.map_append]
  simp only [Option.toList_some, List.map_cons, List.map_nil, List.append_assoc, List.cons_append, List.nil_append]

/-- What is marked from k on. -/
def marksI (k n : Nat) : List Int := (List.range n).map fun i => ((k + i : Nat) : Int)
theorem marksI_len (k n : Nat) : (marksI k n).length = n := by simp [marksI]
theorem marksI_get (k n i : Nat) (h : i < n) : (marksI k n).getD i 0 = ((k + i : Nat) : Int) := by simp [marksI, List.getD_eq_getElem?_getD, h]

theorem Own.kept {w w' : World} {base : Nat} {v v' : Value} {xs : List Int} (h : Own w base v xs) (hg : w.grownBy w' v'.ownBlock) (hne : ∀ g, v.ownBlock = some g → v'.ownBlock ≠ some g) : Own w' base v xs :=
  World.ownsRow.kept h hg (by
    cases hv : v.ownBlock with
    | none => exact .inl rfl
    | some g => exact .inr (fun e => hne g hv e.symm))

theorem grown_below' {B : Nat} {w0 w w' : World} {base : Nat} {v : Value} {xs : List Int} (hb : Below B w0 w) (h : Own w base v xs) (hB : B ≤ base) (hw : w0.heap.size ≤ w.heap.size) (h0 : B ≤ w0.heap.size) (hg : w.grownBy w' v.ownBlock) : Below B w0 w' :=
  hb.grown hg (Nat.le_trans h0 hw) (fun k hk => Nat.le_trans hB (h.lt k hk).1)
end Go.Proofs.YtgbfflpdpfgnbaaGreat
