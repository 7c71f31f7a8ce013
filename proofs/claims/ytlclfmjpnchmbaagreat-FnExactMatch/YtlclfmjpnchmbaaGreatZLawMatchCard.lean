/- At every pattern and every one that is written impl.Match answers as spec.Match, writes into neither, keeps neither, and its answer owns its memory: laws.FnExactMatch returns true, and the arguments read as before. No conditions. -/
import Derived.Test.YtlclfmjpnchmbaaGreatRows
import Derived.Test.YtlclfmjpnchmbaaGreatZG39LawMatch
import Derived.Test.YtlclfmjpnchmbaaGreatZG8Dat
import Derived.OpenShut
import Derived.WideKeyArgs
namespace Go.Proofs.YtlclfmjpnchmbaaGreat.fnExactMatch
open Go.ChangeShapes Go.WideShapes Go.ChangeAt Go.RowKit

theorem own : ownKnob Tryz.prog.godebug = none := by kernel_rfl
theorem laidOut : laidOutB Tryz.prog = true := by kernel_rfl

theorem types : StxT Tryz.prog 25 3 9 22 23 where
  ex := ⟨_, Tryz.underlying25, rfl, fun i hi => by
    match i, hi with
    | 0, _ => exact ⟨_, rfl, rfl, rfl⟩
    | 1, _ => exact ⟨_, rfl, rfl, rfl⟩
    | 2, _ => exact ⟨_, rfl, rfl, rfl⟩, ⟨_, rfl, rfl, rfl⟩, ⟨_, rfl, rfl, rfl⟩, ⟨_, rfl, rfl, rfl⟩⟩
  i := Tryz.underlying3
  s := Tryz.underlying9
  z := Tryz.underlying22
  k := Tryz.underlying23
  ci := by kernel_rfl
  cs := by kernel_rfl
  cz := by kernel_rfl
  ck := by kernel_rfl
  cd := by kernel_rfl

theorem okAgg {P : Program} {W : World} {r : Reach} {base : Nat} {t : TypeId} {v : Value} {fs : Array Field} (hu : P.underlying t = some (.struct fs)) (h : Value.okWide P W r base t v) : ∃ cs, v = .agg cs := by
  unfold Value.okWide at h
  rw [hu] at h
  obtain ⟨cs, h, _⟩ := h
  exact ⟨cs, h⟩

set_option maxRecDepth 100000 in
theorem opened {H : Type} {enc : TypeId × Value → H} {W : World} {r : Reach} {base : Nat} {v : Value} {d : DataW H} {ps : List MemPlace} (hv : Value.okWide Tryz.prog W r base 25 v) (h : DataW.Trod enc Tryz.prog W 0 (fun _ => true) true 25 v d ps) :
    ∃ (t : X) (su u : Value), v = .agg #[.int .i64 t.op, .int .i64 t.at_, .int .i64 t.n, .string t.s, su, u] ∧ t.Of W su u := by
  obtain ⟨cs, rfl⟩ := okAgg Tryz.underlying25 hv
  obtain ⟨fuel, h⟩ := h
  obtain ⟨t, su, u, e, hin⟩ := open_stx types fuel _ _ h
  have e' : cs.toList = _ := e
  refine ⟨t, su, u, ?_, hin⟩
  congr 1
  exact Array.toList_inj.1 e'

set_option maxRecDepth 100000 in
theorem lifted (os : Os) (started : os.Started) (H : Type) (enc : TypeId × Value → H) :
    ReturnsInHanded {} Tryz.checked os 3 .any (Rows.fnExactMatchSpec.pre6 enc Tryz.prog Tryz.f3 Rows.fnExactMatchRow.domain false) (Rows.fnExactMatchSpec.post enc Tryz.prog Tryz.f3 false true false false) := by
  refine returnsInHanded_of_change (C := Tryz.checked) own started (by kernel_rfl) Tryz.func3
    (ChangeSpec.witness6 (enc := enc) (C := Tryz.checked) false ⟨#[], #[.agg #[.int .i64 0, .int .i64 0, .int .i64 0, .string ⟨#[]⟩, .slice none 0 0, .slice none 0 0], .agg #[.int .i64 0, .int .i64 0, .int .i64 0, .string ⟨#[]⟩, .slice none 0 0, .slice none 0 0]], []⟩ 8 (by kernel_rfl) (by kernel_rfl) (by kernel_rfl) (by kernel_rfl)) ?_
  intro W base args ds gs before hval0 hW _ _
  have hval : ∀ (j : Nat) t v, Tryz.f3.params[j]? = some t → args[j]? = some v → Value.okWide Tryz.prog W .any base t v := hval0
  have hW' := hW
  have hlt := fun x hx => DataW.Whole.lt hW x hx
  obtain ⟨p, q, hA0, hV, rfl, hfz, hnd⟩ := hW
  have hA : DataW.TrodAll enc Tryz.prog W 0 (fun _ => true) true Tryz.f3.params.toList args.toList ds p := hA0
  rw [Tryz.params3] at hA hval
  obtain ⟨v0, v1, d0, d1, p0, p1, rfl, rfl, rfl, h0, h1⟩ := trodAll_two hA
  obtain ⟨rfl, rfl⟩ := trodVars_none hV
  obtain ⟨a, su, u, rfl, ha⟩ := opened (hval 0 25 v0 rfl rfl) h0
  obtain ⟨b, sv, v, rfl, hb⟩ := opened (hval 1 25 v1 rfl rfl) h1
  clear hA0 hval0
  simp only [List.append_nil] at hW' hlt
  refine (walk a b su u sv v W ha hb).mono fun e W' ⟨he, bel⟩ => ?_
  subst he
  have hs : ∀ x ∈ p0 ++ p1, W.sameAt W' x := fun x hx => bel.same (hlt x hx)
  have k0 := fun (sp' : Nat → Bool) (hsp : ∀ x ∈ p0, sp' x.block = true) => Go.WideElems.Trod_stays laidOut (by kernel_rfl) (of_decide_eq_true (by kernel_rfl)) h0 (fun x hx => hs x (List.mem_append_left _ hx)) hsp
  have k1 := fun (sp' : Nat → Bool) (hsp : ∀ x ∈ p1, sp' x.block = true) => Go.WideElems.Trod_stays laidOut (by kernel_rfl) (of_decide_eq_true (by kernel_rfl)) h1 (fun x hx => hs x (List.mem_append_right _ hx)) hsp
  refine ⟨_, rfl, _, _, _, [], p0 ++ p1, [], hW', trodAll_mk1 (shut_bool Tryz.underlying4 _), trodAll_mk2 (k0 _ ?_) (k1 _ ?_), rfl, bel.frame _, fun h => by cases h⟩
  · exact fun x hx => decide_eq_true (hlt x (List.mem_append_left _ hx))
  · exact fun x hx => decide_eq_true (hlt x (List.mem_append_right _ hx))

theorem over : Rows.fnExactMatchRow.holds Tryz.pinned (OpenSpec.ofChange Rows.fnExactMatchSpec) :=
  OpenClaim.holds_of_wide 3 Tryz.f3 rfl rfl rfl rfl rfl rfl rfl ⟨rfl, rfl, rfl, rfl, rfl⟩ rfl rfl rfl rfl rfl (by kernel_rfl) Tryz.func3 (by kernel_rfl)
    (of_decide_eq_true (by kernel_rfl)) (by unfold Func.isWrapper; first | (rw [if_pos (by decide +kernel)]; kernel_rfl) | (rw [if_neg (by decide +kernel)]; exact ⟨rfl, rfl⟩))
    (fun os started H enc _ => lifted os started H enc)

/-- The statement. -/
theorem proved : Rows.FnExactMatchSaid :=
  over
#print axioms proved
end Go.Proofs.YtlclfmjpnchmbaaGreat.fnExactMatch
