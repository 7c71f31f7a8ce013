/- At every list of functions impl.FunsBytes answers as spec.FunsBytes, its answer owns its memory, and it writes into none: laws.FnExactFunsBytes returns true, and the argument reads as before. Condition (the card ties it to the program's text): the listed table reads as its text lays it. -/
import Derived.Test.YtocdpgogoadfnaaDoorRows
import Derived.Test.YtocdpgogoadfnaaDoorTie
import Derived.Test.YtocdpgogoadfnaaDoorCards
import Derived.Test.YtocdpgogoadfnaaDoorLawFunsBytes
import Derived.Test.YtocdpgogoadfnaaDoorFunOpen
import Derived.WalkKit
import Derived.ProofKit
import Derived.LaidMore
import Derived.OpenShut
import Derived.OpenVars
import Derived.ChangeVars
import Derived.WideKeyArgs
import Derived.Stop.Joined
import Derived.SevenTiedAt
import Derived.Deep.Cut
namespace Go.Proofs.YtocdpgogoadfnaaDoor.fnExactFunsBytes
open Go.ChangeShapes Go.WideShapes Go.ChangeAt Go.RowKit

theorem own : ownKnob Tryd.prog.godebug = none := by kernel_rfl
theorem laidOut : laidOutB Tryd.prog = true := by kernel_rfl

theorem types : FunTy Tryd.prog 40 79 3 38 22 where
  op :=
    { ex := ⟨_, Tryd.underlying79, rfl, ⟨_, rfl, rfl, rfl⟩, ⟨_, rfl, rfl, rfl⟩, ⟨_, rfl, rfl, rfl⟩⟩
      i := Tryd.underlying3
      k := Tryd.underlying38
      ci := by kernel_rfl
      co := by kernel_rfl
      ck := by kernel_rfl }
  ex := ⟨_, Tryd.underlying40, rfl, ⟨_, rfl, rfl, rfl⟩, ⟨_, rfl, rfl, rfl⟩⟩
  l := Tryd.underlying22
  cf := by kernel_rfl
  cl := by kernel_rfl

/-- What the row lists. -/
def lst : List (String × DataW Unit) := Rows.fnExactFunsBytesRow.laid

theorem door_met (os : Os) (args : Array Value) : laidMetH Tryd.prog lst ((World.doorLaid Tryd.prog 4000 os).forCall (fun _ _ => 0) ⟨#[], args, []⟩).memory :=
  laidMetH_of_parts3 (fuel := 8) (laidMet_of_run' 8 (by kernel_rfl) (by kernel_rfl)) (by kernel_rfl) (by kernel_rfl)

theorem of_laid {W : World} (h : laidMetH Tryd.prog lst W) : NameTab W := by
  rw [MakeChecks.laidMetH_plain _ _ _ (by kernel_rfl)] at h
  exact names_of_head h

set_option maxRecDepth 100000 in
theorem lifted (os : Os) (started : os.Started) (H : Type) (enc : TypeId × Value → H) :
    ReturnsInHanded {} Tryd.checked os 3 .any (fun w args => (Rows.fnExactFunsBytesSpec.pre enc Tryd.prog Tryd.f3 [] false w args ∧ laidMetH Tryd.prog lst w) ∧ sizedMet enc Tryd.prog Tryd.f3 (OpenSpec.ofChange Rows.fnExactFunsBytesSpec) false w args)
      (Rows.fnExactFunsBytesSpec.post enc Tryd.prog Tryd.f3 false true false false) := by
  refine returnsInHanded_of_change_and (C := Tryd.checked) (X := fun w _ => laidMetH Tryd.prog lst w) (fun _ _ _ hh h => h.of_heap hh) own started (by kernel_rfl) Tryd.func3
    (ChangeSpec.witness_shaped (enc := enc) (C := Tryd.checked) (os := os) (X := fun w _ => laidMetH Tryd.prog lst w) false (World.doorLaid Tryd.prog 4000 os) #[.slice none 0 0] 8 rfl (World.shaped_of_RefB (by kernel_rfl) (by kernel_rfl)) (by kernel_rfl) (by kernel_rfl) (by kernel_rfl) (door_met os _)) ?_
  intro W base args ds gs before hval0 hW _ _ hL _
  have hval : ∀ (j : Nat) t v, Tryd.f3.params[j]? = some t → args[j]? = some v → Value.okWide Tryd.prog W .any base t v := hval0
  have hW' := hW
  have hlt := fun x hx => DataW.Whole.lt hW x hx
  obtain ⟨p, q, hA0, hV, rfl, hfz, hnd⟩ := hW
  have hA : DataW.TrodAll enc Tryd.prog W 0 (fun _ => true) true Tryd.f3.params.toList args.toList ds p := hA0
  rw [Tryd.params3] at hA hval
  obtain ⟨v0, d0, rfl, rfl, h0⟩ := trodAll_one hA
  have hV1 := hV
  obtain ⟨_, _, _, _, dg, _, rfl, -⟩ := trodVars_one hV
  obtain ⟨a0, len0, cap0, rfl⟩ := okWide_slice Tryd.underlying22 (hval 0 22 v0 rfl rfl)
  have k1 := h0
  obtain ⟨fuel, h0⟩ := h0
  obtain ⟨len, kid, hs⟩ := open_funs types h0
  have ht := of_laid hL
  clear hA0 hval0
  refine (walk (T := NameTab) (fun nf kid w v hv _ ht => impl_funs_bytes nf kid w v hv ht) len kid _ W hs (fun w1 h => ht.below h)).mono fun e W' ⟨he, bel⟩ => ?_
  subst he
  have k0 := fun (sp' : Nat → Bool) (hsp : ∀ x ∈ p, sp' x.block = true) => Go.WideElems.Trod_stays laidOut (by kernel_rfl) (of_decide_eq_true (by kernel_rfl)) k1 (fun x hx => bel.same (hlt x (List.mem_append_left _ hx))) hsp
  have hv1 := Below.trodVars laidOut bel (by kernel_rfl) hV1
  refine ⟨_, rfl, _, _, _, [], p, q, hW', trodAll_mk1 (shut_bool Tryd.underlying4 _), trodAll_mk1 (k0 _ ?_), hv1, bel.frame _, fun h => by cases h⟩
  exact fun x hx => decide_eq_true (hlt x (List.mem_append_left _ hx))

theorem over : Rows.FnExactFunsBytesSaid :=
  OpenClaim.holds_of_wide 3 Tryd.f3 rfl rfl rfl rfl rfl rfl rfl ⟨rfl, rfl, rfl, rfl, rfl⟩ rfl rfl rfl rfl rfl (by kernel_rfl) Tryd.func3 (by kernel_rfl)
    (of_decide_eq_true (by kernel_rfl)) (by unfold Func.isWrapper; first | (rw [if_pos (by decide +kernel)]; kernel_rfl) | (rw [if_neg (by decide +kernel)]; exact ⟨rfl, rfl⟩))
    (fun os started H enc _ => lifted os started H enc)

/-- The tied card. -/
theorem proved : Rows.FnExactFunsBytesCardSaid :=
  Claim7.holds_tied_plain_at .later [] [.data] true (true, "a7e8fa8c40a670e1e64ea5592409d2f9c70c63331d8b092feb11004f4326d09c") false
    over (fun _ h => by cases h) (by kernel_rfl) (fun _ h => by cases h) fnExactFunsBytes_row_tie rfl ⟨rfl, rfl⟩ (by kernel_rfl) rfl
    (fun f fn hf hfn => by
      obtain rfl : f = 3 := Option.some.inj ((show Tryd.prog.funcNamed "loop.example/g00396/laws.FnExactFunsBytes" = some 3 by kernel_rfl).symm.trans hf) |>.symm
      obtain rfl : fn = Tryd.f3 := (Option.some.inj (Tryd.func3.symm.trans hfn)).symm
      exact ⟨by kernel_rfl, fun j t ht => by
        rw [Tryd.params3] at ht
        have hm : t ∈ [22] := by simpa using Array.mem_of_getElem? ht
        have hall : ([22].all fun u => !Tryd.prog.wantsStandIn u) = true := by kernel_rfl
        exact (show Tryd.prog.wantsStandIn t = false by simpa using List.all_eq_true.1 hall t hm)⟩)
    (by kernel_rfl)
#print axioms proved
end Go.Proofs.YtocdpgogoadfnaaDoor.fnExactFunsBytes
