/- A list of functions: all of them read over one slice. No conditions. -/
import Derived.Test.YtocdpgogoadfnaaDoorImplFun1
namespace Go.Proofs.YtocdpgogoadfnaaDoor
open Go.ChangeShapes Go.WideShapes Go.ChangeAt Go.RowKit

theorem FlB.all_at {w : World} {nf : Nat} {kid : Nat → Fu} {lv : Value} (h : Fl w nf kid lv) (h1 : 1 ≤ nf) : ∃ b o cl, lv = .slice (some ⟨b, o, none⟩) nf cl ∧ ∀ i, i < nf → ∃ pu cu, FunsAt w nf kid i b o cl pu cu := by
  obtain ⟨b, o, cl, _, _, e, _⟩ := h.funsAt (i := 0) (by omega)
  refine ⟨b, o, cl, e, fun i hi => ?_⟩
  obtain ⟨b2, o2, cl2, pu, cu, e2, hF⟩ := h.funsAt hi
  rw [e] at e2
  injection e2 with e3 _ e4
  injection e3 with e3
  injection e3 with e5 e6 _
  subst e4 e5 e6
  exact ⟨pu, cu, hF⟩
theorem bool_no {R : Bool} {p : Prop} (h : R = true ↔ p) (hn : ¬ p) : R = false := Bool.eq_false_iff.2 (fun e => hn (h.1 e))
theorem bool_yes {R : Bool} {p : Prop} (h : R = true ↔ p) (hn : p) : R = true := h.2 hn
end Go.Proofs.YtocdpgogoadfnaaDoor
