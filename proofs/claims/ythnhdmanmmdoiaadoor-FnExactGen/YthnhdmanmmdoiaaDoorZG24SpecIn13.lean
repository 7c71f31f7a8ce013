/- A list of functions: all of them read over one slice. No conditions. -/
import Derived.Test.YthnhdmanmmdoiaaDoorZG23ImplFun1
import Derived.Test.YthnhdmanmmdoiaaDoorRows
import Derived.WalkKit
import Derived.ProofKit
namespace Go.Proofs.YthnhdmanmmdoiaaDoor
open Go.ChangeShapes Go.WideShapes Go.ChangeAt Go.RowKit

theorem FlB.all_at {w : World} {nf : Nat} {kid : Nat → Fu} {lv : Value} (h : Fl w nf kid lv) (h1 : 1 ≤ nf) : ∃ b o cl, lv = .slice (some ⟨b, o, none⟩) nf cl ∧ ∀ i, i < nf → ∃ pu cu, FunsAt w nf kid i b o cl pu cu := by
  obtain ⟨b, o, cl, _, _, e, _⟩ := h.funsAt (i := 0) (by omega)
  refine ⟨b, o, cl, e, fun i hi => ?_⟩
  obtain ⟨b2, o2, cl2, pu, cu, e2, hF⟩ := h.funsAt hi
  rw [e] at e2
  injection e2 with e3 _ e4
  injection e3 with e3
  injection e3 with e5 e6 _
  subst e4 e5 e6
  exact ⟨pu, cu, hF⟩
theorem bool_no {R : Bool} {p : Prop} (h : R = true ↔ p) (hn : ¬ p) : R = false := Bool.eq_false_iff.2 (fun e => hn (h.1 e))
theorem bool_yes {R : Bool} {p : Prop} (h : R = true ↔ p) (hn : p) : R = true := h.2 hn
end Go.Proofs.YthnhdmanmmdoiaaDoor

/- spec.l1In at every three ints. No conditions. -/
namespace Go.Proofs.YthnhdmanmmdoiaaDoor
open Go.ChangeShapes Go.WideShapes Go.ChangeAt Go.RowKit

theorem spec_in13 (k a b : Int) (R : Bool) (hR : R = (decide (a ≤ k) && decide (k ≤ b))) (w : World) : Calls Tryd.prog 30 #[.int .i64 k, .int .i64 a, .int .i64 b] w fun e w' => e = .returned (.bool R) ∧ w' = w := by
  by_cases h1 : a ≤ k
  · by_cases h2 : k ≤ b
    · have HR : Hid (R = true) := by show _ = _; rw [hR, decide_eq_true h1, decide_eq_true h2]; rfl
      clear hR
      go_enter Tryd.func30, Tryd.ntmps30
      go_wp2
      go_ret
      exact ⟨by rw [HR.out]; rfl, rfl⟩
    · have HR : Hid (R = false) := by show _ = _; rw [hR, decide_eq_true h1, decide_eq_false h2]; rfl
      clear hR
      go_enter Tryd.func30, Tryd.ntmps30
      go_wp2
      go_ret
      exact ⟨by rw [HR.out]; rfl, rfl⟩
  · have HR : Hid (R = false) := by show _ = _; rw [hR, decide_eq_false h1]; rfl
    clear hR
    go_enter Tryd.func30, Tryd.ntmps30
    go_wp2
    go_ret
    exact ⟨by rw [HR.out]; rfl, rfl⟩
end Go.Proofs.YthnhdmanmmdoiaaDoor
