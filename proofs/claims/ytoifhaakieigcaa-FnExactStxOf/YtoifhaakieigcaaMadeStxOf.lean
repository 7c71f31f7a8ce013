/- The closure of impl.StxOf: one node, made of a datum. Condition: a set of at most 2^22. -/
import Derived.Test.YtoifhaakieigcaaStxParts
import Derived.Test.YtoifhaakieigcaaSixCells
import Derived.Test.YtoifhaakieigcaaIntsWith
namespace Go.Proofs.Ytoifhaakieigcaa
open Go.ChangeShapes Go.WideShapes Go.ChangeAt Go.RowKit

set_option maxRecDepth 100000 in
set_option maxHeartbeats 2000000 in
theorem made_stx (set : List Int) (setv u : Value) (PS : Nat) (op a n : Int) (s : ByteArray) (kp : Option Addr) (kn kc : Nat) (w : World) (hP : w.cell? ⟨PS, 0, none⟩ = some setv) (hs : Rd w setv set) (hl : set.length ≤ 4194304) :
    Calls Try.prog 38 #[.agg #[.int .i64 op, .int .i64 a, .int .i64 n, .string s, u], .slice kp kn kc, .pointer (some ⟨PS, 0, none⟩)] w fun e w' => ∃ sv, e = .returned (.agg #[.int .i64 op, .int .i64 a, .int .i64 n, .string s, sv, .slice kp kn kc]) ∧ Below w.heap.size w w' ∧ Own w' w.heap.size sv (if op = 2 then set else []) := by
  have HRD : Hid (Rd w setv set) := hs
  have HP : Hid (w.cell? ⟨PS, 0, none⟩ = some setv) := hP
  have HL : Hid (set.length ≤ 4194304) := hl
  obtain ⟨Y, hY⟩ : ∃ Y, Y = (if op = 2 then set else []) := ⟨_, rfl⟩
  have HY : Hid (Y = (if op = 2 then set else [])) := hY
  rw [← hY]
  clear hs hP hl hY
  obtain ⟨b, hb⟩ : ∃ b, decide (op = 2) = b := ⟨_, rfl⟩
  have HBB : Hid (decide (op = 2) = b) := hb
  clear hb
  go_enter Try.func38, Try.ntmps38
  go_wp2_with fail
  refine (is_symB op a n s (.slice none 0 0) (.slice kp kn kc) b HBB.out _).mono ?_
  rintro e w1 ⟨rfl, hb1⟩
  obtain ⟨h1, h2, h3, h4, h5⟩ := threeX hb1
  have hR : Six w1 (w.heap.size + 1) 0 0 0 ⟨#[]⟩ (.slice none 0 0) (.slice none 0 0) 29 := h2
  have hX : Six w1 (w.heap.size + 1 + 1) op a n s (.slice none 0 0) (.slice kp kn kc) 29 := h3
  have HB1 : Hid (Below w.heap.size w w1 ∧ w.heap.size + 3 ≤ w1.heap.size) := ⟨h5, h4⟩
  clear hb1 h1 h2 h3 h4 h5
  cases b with
  | true =>
    have HO2 : Hid (Y = set) := HY.out.trans (if_pos (of_decide_eq_true HBB.out))
    have hp1 : w1.cell? ⟨PS, 0, none⟩ = some setv := keepsX HB1.out.1 _ _ HP.out
    have HR1 : Hid (Six w1 (w.heap.size + 1) 0 0 0 ⟨#[]⟩ (.slice none 0 0) (.slice none 0 0) 29) := hR
    have HX1 : Hid (Six w1 (w.heap.size + 1 + 1) op a n s (.slice none 0 0) (.slice kp kn kc) 29) := hX
    clear hR hX
    go_wp2_with fail
    refine (impl_copied set setv w1 (HRD.out.below HB1.out.1) HL.out).mono ?_
    rintro e w2 ⟨v, rfl, hb2, hown⟩
    obtain ⟨pv, cv, hv⟩ := (hown.setB (Nat.zero_le _)).shape
    subst hv
    have hsz := HB1.out.2
    have HOW : Hid (Own w2 (w.heap.size + 3) (.slice pv set.length cv) set) := hown.mono hsz
    have HB2 : Hid (Below w.heap.size w w2) := HB1.out.1.trans (hb2.mono HB1.out.1.size)
    have hX2 := HX1.out.below hb2
    have hR2 := HR1.out.below hb2
    clear hown hb2 HB1 HX1 HR1 hp1 hsz
    obtain ⟨x0, x1, x2, x3, x4, x5⟩ := hX2.cells
    have xf := hX2.fr
    obtain ⟨r0, r1, r2, r3, r4, r5⟩ := hR2.cells
    have rf := hR2.fr
    have HXX : Hid (Six w2 (w.heap.size + 1 + 1) op a n s (.slice none 0 0) (.slice kp kn kc) 29) := hX2
    clear hX2 hR2
    go_wp2_with fail
    refine bodyPost_ret (v := .agg #[.int .i64 op, .int .i64 a, .int .i64 n, .string s, .slice pv set.length cv, .slice kp kn kc]) (by rw [results_cellX (p := 5) (ty := 29) (by kernel_rfl)]; simp [go_sem, r0, r1, r2, r3, r4, r5]) rfl ⟨_, rfl, ?_, ?_⟩
    · exact put6_below (HB2.out.setCell (by show _ ≤ _ + 1 + 1; omega) _) (w.heap.size + 1) (by omega) _ _ _ _ _ _
    · rw [HO2.out]
      refine Own.mono (base := w.heap.size + 3) (HOW.out.sameX (fun g hg => ?_)) (by omega)
      have := (World.ownsRow.lt HOW.out g hg).1
      exact (put6_other (w2.setCell ⟨w.heap.size + 1 + 1, 4, none⟩ (.slice pv set.length cv)) (w.heap.size + 1) op a n s (.slice pv set.length cv) (.slice kp kn kc) g (by omega)).trans (Below.heap_setCell _ _ _ _ (by simp only; omega))
  | false =>
    have HO2 : Hid (Y = []) := HY.out.trans (if_neg (of_decide_eq_false HBB.out))
    obtain ⟨x0, x1, x2, x3, x4, x5⟩ := hX.cells
    obtain ⟨r0, r1, r2, r3, r4, r5⟩ := hR.cells
    have rf := hR.fr
    clear hX hR
    go_wp2_with fail
    refine bodyPost_ret (v := .agg #[.int .i64 op, .int .i64 a, .int .i64 n, .string s, .slice none 0 0, .slice kp kn kc]) (by rw [results_cellX (p := 5) (ty := 29) (by kernel_rfl)]; simp [go_sem, r0, r1, r2, r3, r4, r5]) rfl ⟨_, rfl, ?_, ?_⟩
    · exact put6_below HB1.out.1 (w.heap.size + 1) (by omega) _ _ _ _ _ _
    · rw [HO2.out]
      exact ⟨rfl, .inl ⟨rfl, rfl⟩⟩
end Go.Proofs.Ytoifhaakieigcaa
