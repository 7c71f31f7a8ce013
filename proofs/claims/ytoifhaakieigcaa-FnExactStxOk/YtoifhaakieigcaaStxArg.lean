/- What is written, as an argument of a law. No conditions. -/
import Derived.Test.YtoifhaakieigcaaRows
import Derived.Test.YtoifhaakieigcaaStxOpen
import Derived.OpenShut
import Derived.WideKeyArgs
namespace Go.Proofs.Ytoifhaakieigcaa
open Go.ChangeShapes Go.WideShapes Go.ChangeAt Go.RowKit

theorem card_own : ownKnob Try.prog.godebug = none := by kernel_rfl
theorem card_laid : laidOutB Try.prog = true := by kernel_rfl

theorem stx_types : StxT Try.prog 45 3 9 25 43 where
  ex := ⟨_, Try.underlying45, rfl, fun i hi => by
    match i, hi with
    | 0, _ => exact ⟨_, rfl, rfl, rfl⟩
    | 1, _ => exact ⟨_, rfl, rfl, rfl⟩
    | 2, _ => exact ⟨_, rfl, rfl, rfl⟩, ⟨_, rfl, rfl, rfl⟩, ⟨_, rfl, rfl, rfl⟩, ⟨_, rfl, rfl, rfl⟩⟩
  i := Try.underlying3
  s := Try.underlying9
  z := Try.underlying25
  k := Try.underlying43
  ci := by kernel_rfl
  cs := by kernel_rfl
  cz := by kernel_rfl
  ck := by kernel_rfl
  cd := by kernel_rfl

theorem stx_agg {P : Program} {W : World} {r : Reach} {base : Nat} {t : TypeId} {v : Value} {fs : Array Field} (hu : P.underlying t = some (.struct fs)) (h : Value.okWide P W r base t v) : ∃ cs, v = .agg cs := by
  unfold Value.okWide at h
  rw [hu] at h
  obtain ⟨cs, h, _⟩ := h
  exact ⟨cs, h⟩

set_option maxRecDepth 100000 in
theorem stx_opened {H : Type} {enc : TypeId × Value → H} {W : World} {r : Reach} {base : Nat} {v : Value} {d : DataW H} {ps : List MemPlace} (hv : Value.okWide Try.prog W r base 45 v) (h : DataW.Trod enc Try.prog W 0 (fun _ => true) true 45 v d ps) :
    ∃ (t : X) (su u : Value), v = .agg #[.int .i64 t.op, .int .i64 t.at_, .int .i64 t.n, .string t.s, su, u] ∧ t.Of W su u := by
  obtain ⟨cs, rfl⟩ := stx_agg Try.underlying45 hv
  obtain ⟨fuel, h⟩ := h
  obtain ⟨t, su, u, e, hin⟩ := open_stx stx_types fuel _ _ h
  have e' : cs.toList = _ := e
  refine ⟨t, su, u, ?_, hin⟩
  congr 1
  exact Array.toList_inj.1 e'
end Go.Proofs.Ytoifhaakieigcaa
