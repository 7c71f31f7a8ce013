/- At every list of functions impl.Places answers as spec.Places, and writes into none: laws.FnExactPlaces returns true, and the argument reads as before. No conditions. -/
import Derived.Test.YthnhdmanmmdoiaaRows
import Derived.Test.YthnhdmanmmdoiaaSzFun
import Derived.Test.YthnhdmanmmdoiaaToFun
import Derived.Test.YthnhdmanmmdoiaaEqFun
import Derived.Test.YthnhdmanmmdoiaaFunOpen
import Derived.Test.YthnhdmanmmdoiaaSpecPlaces
import Derived.WalkKit
import Derived.ProofKit
import Derived.OpenShut
import Derived.Stop.Joined
import Derived.Deep.Cut
namespace Go.Proofs.Ythnhdmanmmdoiaa.fnExactPlaces
open Go.ChangeShapes Go.WideShapes Go.ChangeAt Go.RowKit

set_option maxRecDepth 100000 in
set_option maxHeartbeats 4000000 in
theorem walk (himpl : ImplPlaces) (len : Nat) (kid : Nat → Fu) (v : Value) (w : World) (hv : Fl w len kid v) :
    Calls Try.prog 3 #[v] w fun e w' => e = .returned (.bool true) ∧ Below w.heap.size w w' := by
  obtain ⟨p, cap, ev⟩ := hv.shape
  have HIM : Hid ImplPlaces := himpl
  clear himpl
  have HV : Hid (∀ w1, Below w.heap.size w w1 → Fl w1 len kid v) := fun w1 h => hv.below h
  clear hv
  subst ev
  by_cases h1 : funsWeight len kid ≤ 1048576
  · have E1 : Hid (szF 1048576 (funsWeight len kid) = ((1048576 - funsWeight len kid : Nat) : Int)) := szF_yes h1
    have H1 : Hid (funsWeight len kid ≤ 1048576) := h1
    generalize 1048576 - funsWeight len kid = y1 at *
    have HPM : Hid (placesN len kid ≤ 1048576) := places_most H1.out (Nat.le_refl _)
    have hpm := HPM.out
    clear h1
    go_enter Try.func3, Try.ntmps3
    go_wp2_with fail
    refine (sz_funs len kid w _ 1048576 (HV.out _ (Below.refl _ _)) (by omega)).mono ?_
    rintro e w1 ⟨rfl, hb1⟩
    rw [E1.out]
    have B1 : Hid (Below w.heap.size w w1) := hb1
    clear hb1
    go_wp2_with fail
    refine (to_funs len kid w1 _ (HV.out _ B1.out) H1.out).mono ?_
    rintro e w2 ⟨x, rfl, hb2, hx⟩
    have B2 : Hid (Below w.heap.size w w2) := B1.out.trans (hb2.mono B1.out.size)
    have HX : Hid (Fl w2 len kid x) := hx.all
    clear hb2 hx B1
    go_wp2_with fail
    refine (spec_places len kid w2 x HX.out H1.out).mono ?_
    rintro e w3 ⟨rfl, hb3⟩
    have B3 : Hid (Below w.heap.size w w3) := B2.out.trans (hb3.mono B2.out.size)
    clear hb3 B2 HX
    go_wp2_with fail
    refine (to_funs len kid w3 _ (HV.out _ B3.out) H1.out).mono ?_
    rintro e w4 ⟨y, rfl, hb4, hy⟩
    have B4 : Hid (Below w.heap.size w w4) := B3.out.trans (hb4.mono B3.out.size)
    have HY : Hid (Fl w4 len kid y) := hy.all
    clear hb4 hy B3
    go_wp2_with fail
    refine (HIM.out len kid w4 y HY.out H1.out).mono ?_
    rintro e w5 ⟨rfl, hb5⟩
    have B5 : Hid (Below w.heap.size w w5) := B4.out.trans (hb5.mono B4.out.size)
    have HY5 : Hid (Fl w5 len kid y) := HY.out.below hb5
    clear hb5 B4 HY
    go_wp2_with fail
    refine (to_funs len kid w5 _ (HV.out _ B5.out) H1.out).mono ?_
    rintro e w6 ⟨z, rfl, hb6, hz⟩
    have B6 : Hid (Below w.heap.size w w6) := B5.out.trans (hb6.mono B5.out.size)
    have HYZ : Hid (Fl w6 len kid y ∧ Fl w6 len kid z) := ⟨HY5.out.below hb6, hz.all⟩
    clear hb6 hz B5 HY5
    go_wp2_with fail
    refine (eq_funs len kid w6 y z HYZ.out.1 HYZ.out.2).mono ?_
    rintro e w7 ⟨rfl, hb7⟩
    have B7 : Hid (Below w.heap.size w w7) := B6.out.trans (hb7.mono B6.out.size)
    clear hb7 B6
    go_wp2_with fail
    go_ret
    exact ⟨rfl, B7.out⟩
  · have E1 : Hid (szF 1048576 (funsWeight len kid) = -1) := szF_no (by omega)
    go_enter Try.func3, Try.ntmps3
    go_wp2_with fail
    refine (sz_funs len kid w _ 1048576 (HV.out _ (Below.refl _ _)) (by omega)).mono ?_
    rintro e w1 ⟨rfl, hb1⟩
    rw [E1.out]
    have B1 : Hid (Below w.heap.size w w1) := hb1
    clear hb1
    go_wp2_with fail
    go_ret
    exact ⟨rfl, B1.out⟩

theorem own : ownKnob Try.prog.godebug = none := by kernel_rfl
theorem laidOut : laidOutB Try.prog = true := by kernel_rfl

theorem types : FunTy Try.prog 32 44 3 30 22 where
  op :=
    { ex := ⟨_, Try.underlying44, rfl, ⟨_, rfl, rfl, rfl⟩, ⟨_, rfl, rfl, rfl⟩, ⟨_, rfl, rfl, rfl⟩⟩
      i := Try.underlying3
      k := Try.underlying30
      ci := by kernel_rfl
      co := by kernel_rfl
      ck := by kernel_rfl }
  ex := ⟨_, Try.underlying32, rfl, ⟨_, rfl, rfl, rfl⟩, ⟨_, rfl, rfl, rfl⟩⟩
  l := Try.underlying22
  cf := by kernel_rfl
  cl := by kernel_rfl

set_option maxRecDepth 100000 in
theorem lifted (himpl : ImplPlaces) (os : Os) (started : os.Started) (H : Type) (enc : TypeId × Value → H) :
    ReturnsInHanded {} Try.checked os 3 .any (Rows.fnExactPlacesSpec.pre6 enc Try.prog Try.f3 Rows.fnExactPlacesRow.domain false) (Rows.fnExactPlacesSpec.post enc Try.prog Try.f3 false true false false) := by
  refine returnsInHanded_of_change (C := Try.checked) own started (by kernel_rfl) Try.func3
    (ChangeSpec.witness6 (enc := enc) (C := Try.checked) false ⟨#[], #[.slice none 0 0], []⟩ 8 (by kernel_rfl) (by kernel_rfl) (by kernel_rfl) (by kernel_rfl)) ?_
  intro W base args ds gs before hval0 hW _ _
  have hval : ∀ (j : Nat) t v, Try.f3.params[j]? = some t → args[j]? = some v → Value.okWide Try.prog W .any base t v := hval0
  have hW' := hW
  have hlt := fun x hx => DataW.Whole.lt hW x hx
  obtain ⟨p, q, hA0, hV, rfl, hfz, hnd⟩ := hW
  have hA : DataW.TrodAll enc Try.prog W 0 (fun _ => true) true Try.f3.params.toList args.toList ds p := hA0
  rw [Try.params3] at hA hval
  obtain ⟨v0, d0, rfl, rfl, h0⟩ := trodAll_one hA
  obtain ⟨rfl, rfl⟩ := trodVars_none hV
  obtain ⟨a0, len0, cap0, rfl⟩ := okWide_slice Try.underlying22 (hval 0 22 v0 rfl rfl)
  have k1 := h0
  obtain ⟨fuel, h0⟩ := h0
  obtain ⟨len, kid, hs⟩ := open_funs types h0
  clear hA0 hval0
  simp only [List.append_nil] at hW' hlt
  refine (walk himpl len kid _ W hs).mono fun e W' ⟨he, bel⟩ => ?_
  subst he
  have kk := fun (sp' : Nat → Bool) (hsp : ∀ x ∈ p, sp' x.block = true) => Go.WideElems.Trod_stays laidOut (by kernel_rfl) (of_decide_eq_true (by kernel_rfl)) k1 (fun x hx => bel.same (hlt x hx)) hsp
  refine ⟨_, rfl, _, _, _, [], p, [], hW', trodAll_mk1 (shut_bool Try.underlying4 _), trodAll_mk1 (kk _ ?_), rfl, bel.frame _, fun h => by cases h⟩
  exact fun x hx => decide_eq_true (hlt x hx)

theorem over (himpl : ImplPlaces) : Rows.fnExactPlacesRow.holds Try.pinned (OpenSpec.ofChange Rows.fnExactPlacesSpec) :=
  OpenClaim.holds_of_wide 3 Try.f3 rfl rfl rfl rfl rfl rfl rfl ⟨rfl, rfl, rfl, rfl, rfl⟩ rfl rfl rfl rfl rfl (by kernel_rfl) Try.func3 (by kernel_rfl)
    (of_decide_eq_true (by kernel_rfl)) (by unfold Func.isWrapper; first | (rw [if_pos (by decide +kernel)]; kernel_rfl) | (rw [if_neg (by decide +kernel)]; exact ⟨rfl, rfl⟩))
    (fun os started H enc _ => lifted himpl os started H enc)

end Go.Proofs.Ythnhdmanmmdoiaa.fnExactPlaces
