/- At every row of binds, every name and every list of ints impl.Resolve answers as spec.Resolve, and writes into none: laws.FnExactResolve returns true, and the arguments read as before. No conditions. -/
import Derived.Test.YtgbfflpdpfgnbaaRows
import Derived.Test.YtgbfflpdpfgnbaaBindOpen
import Derived.Test.YtgbfflpdpfgnbaaSzBind
import Derived.Test.YtgbfflpdpfgnbaaToBind
import Derived.Test.YtgbfflpdpfgnbaaEqBind
import Derived.Test.YtgbfflpdpfgnbaaImplResolve2
import Derived.Test.YtgbfflpdpfgnbaaSpecResolve
import Derived.Test.YtgbfflpdpfgnbaaIntsLaw
import Derived.WalkKit
import Derived.ProofKit
import Derived.OpenShut
import Derived.ChangeOld
import Derived.WideKeyArgs
import Derived.Below
namespace Go.Proofs.Ytgbfflpdpfgnbaa.fnExactResolve
open Go.ChangeShapes Go.WideShapes Go.ChangeAt Go.RowKit
open Go.ChangeMaps (open_string shut_string)
set_option linter.unusedVariables false

theorem own : ownKnob Try.prog.godebug = none := by kernel_rfl
theorem laidOut : laidOutB Try.prog = true := by kernel_rfl
/-- No more than 2^22 numbers. -/
def Short (xs : List Int) : Prop := xs.length ≤ 4194304

set_option maxRecDepth 100000 in
set_option maxHeartbeats 4000000 in
theorem walk (len : Nat) (bd : Nat → Bd) (name : ByteArray) (set : List Int) (v sv : Value) (w : World) (hv : BsOf w len bd v) (hs : Rs w sv set) (hn : name.size ≤ maxLen) (hsl : set.length ≤ maxLen) :
    Calls Try.prog 3 #[v, .string name, sv] w fun e w' => e = .returned (.bool true) ∧ Below w.heap.size w w' := by
  unfold maxLen at hn hsl
  have HV : Hid (∀ w1, Below w.heap.size w w1 → BsOf w1 len bd v) := fun w1 h => BsOf.below h hv
  have HS : Hid (∀ w1, Below w.heap.size w w1 → Rs w1 sv set) := fun w1 h => hs.below h
  obtain ⟨p, cap, ev, hlen, -⟩ := hv.at
  obtain ⟨ps, cs, es, -⟩ := hs
  subst ev es
  unfold maxLen at hlen
  clear hv
  by_cases h1 : (1048576 : Int) < name.size
  · go_enter Try.func3, Try.ntmps3
    go_wp2_with fail
    go_ret
    exact ⟨rfl, Below.refl _ _⟩
  by_cases h2 : (1048576 : Int) < set.length
  · go_enter Try.func3, Try.ntmps3
    go_wp2_with fail
    go_ret
    exact ⟨rfl, Below.refl _ _⟩
  have HL : Hid (Short set) := by show _ ≤ _; omega
  by_cases hw : bdsWeight len bd ≤ 1048576
  case neg =>
    have E1 : Hid (szX 1048576 (bdsWeight len bd) = -1) := szX_no (by omega)
    generalize set.length = sl at *
    go_enter Try.func3, Try.ntmps3
    go_wp2_with fail
    refine (sz_binds len bd w _ 1048576 (HV.out _ (Below.refl _ _)) (by omega)).mono ?_
    rintro e w1 ⟨rfl, hb1⟩
    rw [E1.out]
    have B1 : Hid (Below w.heap.size w w1) := hb1
    clear hb1
    go_wp2_with fail
    go_ret
    exact ⟨rfl, B1.out⟩
  case pos =>
  have E1 : Hid (szX 1048576 (bdsWeight len bd) = ((1048576 - bdsWeight len bd : Nat) : Int)) := szX_yes hw
  have HW : Hid (bdsWeight len bd ≤ 1048576) := hw
  have HSM : Hid (∀ i, i < len → (bd i).set.length ≤ 4194304) := fun i hi => by
    have := bds_at (bd := bd) i hi
    unfold Bd.weight at this; omega
  have HFEW : Hid (len ≤ 1048576) := by show _ ≤ _; unfold bdsWeight at hw; omega
  obtain ⟨r, hr⟩ : ∃ r, r = resB bd (fitsTo (fun i => fitB name set (bd i)) len) := ⟨_, rfl⟩
  have HSP : Hid (∀ (x y : Value) (w1 : World), BsAt 0 w1 len bd x → Rd w1 y set → Calls Try.prog 6 #[x, .string name, y] w1 fun e w' => e = .returned (.tuple #[.int .i64 r.1, .int .i64 r.2]) ∧ Below w1.heap.size w1 w') := fun x y w1 h1 h2 => by
    rw [hr]
    exact spec_resolve len bd name set x y w1 ⟨h1, HFEW.out, HSM.out⟩ h2 HL.out
  have HIM : Hid (∀ (x y : Value) (w1 : World), BsAt 0 w1 len bd x → Rd w1 y set → Calls Try.prog 9 #[x, .string name, y] w1 fun e w' => e = .returned (.tuple #[.int .i64 r.1, .int .i64 r.2]) ∧ Below w1.heap.size w1 w') := fun x y w1 h1 h2 => by
    rw [hr]
    exact impl_resolve len bd name set x y w1 ⟨h1, HFEW.out, HSM.out⟩ h2 HL.out
  clear hr
  obtain ⟨r1, r2⟩ := r
  have hy0 : (0 : Int) ≤ ((1048576 - bdsWeight len bd : Nat) : Int) := by omega
  generalize 1048576 - bdsWeight len bd = y0 at *
  generalize set.length = sl at *
  clear hw
  go_enter Try.func3, Try.ntmps3
  go_wp2_with fail
  refine (sz_binds len bd w _ 1048576 (HV.out _ (Below.refl _ _)) (by omega)).mono ?_
  rintro e w1 ⟨rfl, hb1⟩
  rw [E1.out]
  have B1 : Hid (Below w.heap.size w w1) := hb1
  clear hb1
  go_wp2_with fail
  refine (to_binds len bd w1 _ (HV.out _ B1.out) HW.out).mono ?_
  rintro e w2 ⟨x, rfl, hb2, ox⟩
  have B2 : Hid (Below w.heap.size w w2) := B1.out.trans (hb2.mono B1.out.size)
  have D2 : Hid (BsAt 0 w2 len bd x) := ox.mono (Nat.zero_le _)
  clear hb2 ox B1
  go_wp2_with fail
  refine (to_ints set _ w2 (HS.out _ B2.out) HL.out).mono ?_
  rintro e w3 ⟨y, rfl, hb3, oy⟩
  have B3 : Hid (Below w.heap.size w w3) := B2.out.trans (hb3.mono B2.out.size)
  have D3 : Hid (BsAt 0 w3 len bd x ∧ Rd w3 y set) := ⟨D2.out.below hb3, oy.rd⟩
  clear hb3 oy B2 D2
  go_wp2_with fail
  refine (HSP.out x y w3 D3.out.1 D3.out.2).mono ?_
  rintro e w4 ⟨rfl, hb4⟩
  have B4 : Hid (Below w.heap.size w w4) := B3.out.trans (hb4.mono B3.out.size)
  clear hb4 B3 D3
  go_wp2_with fail
  refine (to_binds len bd w4 _ (HV.out _ B4.out) HW.out).mono ?_
  rintro e w5 ⟨x5, rfl, hb5, ox⟩
  have B5 : Hid (Below w.heap.size w w5) := B4.out.trans (hb5.mono B4.out.size)
  have D5 : Hid (BsAt 0 w5 len bd x5) := ox.mono (Nat.zero_le _)
  clear hb5 ox B4
  go_wp2_with fail
  refine (to_ints set _ w5 (HS.out _ B5.out) HL.out).mono ?_
  rintro e w6 ⟨y6, rfl, hb6, oy⟩
  have B6 : Hid (Below w.heap.size w w6) := B5.out.trans (hb6.mono B5.out.size)
  have D6 : Hid (BsAt 0 w6 len bd x5 ∧ Rd w6 y6 set) := ⟨D5.out.below hb6, oy.rd⟩
  clear hb6 oy B5 D5
  go_wp2_with fail
  refine (HIM.out x5 y6 w6 D6.out.1 D6.out.2).mono ?_
  rintro e w7 ⟨rfl, hb7⟩
  have B7 : Hid (Below w.heap.size w w7) := B6.out.trans (hb7.mono B6.out.size)
  have D7 : Hid (BsAt 0 w7 len bd x5 ∧ Rd w7 y6 set) := ⟨D6.out.1.below hb7, D6.out.2.below hb7⟩
  clear hb7 B6 D6
  go_wp2_with fail
  refine (to_binds len bd w7 _ (HV.out _ B7.out) HW.out).mono ?_
  rintro e w8 ⟨x8, rfl, hb8, ox⟩
  have B8 : Hid (Below w.heap.size w w8) := B7.out.trans (hb8.mono B7.out.size)
  have D8 : Hid (BsAt 0 w8 len bd x5 ∧ Rd w8 y6 set ∧ BsAt 0 w8 len bd x8) := ⟨D7.out.1.below hb8, D7.out.2.below hb8, ox.mono (Nat.zero_le _)⟩
  clear hb8 ox B7 D7
  go_wp2_with fail
  refine (eq_binds len bd w8 x5 x8 D8.out.1 D8.out.2.2 HSM.out).mono ?_
  rintro e w9 ⟨rfl, hb9⟩
  have B9 : Hid (Below w.heap.size w w9) := B8.out.trans (hb9.mono B8.out.size)
  have D9 : Hid (Rd w9 y6 set) := D8.out.2.1.below hb9
  clear hb9 B8 D8
  go_wp2_with fail
  refine (to_ints set _ w9 (HS.out _ B9.out) HL.out).mono ?_
  rintro e w10 ⟨y10, rfl, hb10, oy⟩
  have B10 : Hid (Below w.heap.size w w10) := B9.out.trans (hb10.mono B9.out.size)
  have D10 : Hid (Rd w10 y6 set ∧ Rd w10 y10 set) := ⟨D9.out.below hb10, oy.rd⟩
  clear hb10 oy B9 D9
  go_wp2_with fail
  refine (eq_ints set set y6 y10 w10 D10.out.1 D10.out.2 HL.out HL.out).mono ?_
  rintro e w11 ⟨rfl, hb11⟩
  rw [same_self]
  have B11 : Hid (Below w.heap.size w w11) := B10.out.trans (hb11.mono B10.out.size)
  clear hb11 B10 D10
  go_wp2_with fail
  go_ret
  exact ⟨rfl, B11.out⟩

theorem types : BindT Try.prog 45 3 9 23 22 where
  ex := ⟨_, Try.underlying45, rfl, ⟨_, rfl, rfl, rfl⟩, ⟨_, rfl, rfl, rfl⟩, ⟨_, rfl, rfl, rfl⟩, ⟨_, rfl, rfl, rfl⟩, ⟨_, rfl, rfl, rfl⟩⟩
  i := Try.underlying3
  s := Try.underlying9
  z := Try.underlying23
  k := Try.underlying22
  ci := by kernel_rfl
  cs := by kernel_rfl
  cz := by kernel_rfl
  ck := by kernel_rfl
  cd := by kernel_rfl

set_option maxRecDepth 100000 in
theorem lifted (os : Os) (started : os.Started) (H : Type) (enc : TypeId × Value → H) :
    ReturnsInHanded {} Try.checked os 3 .any (Rows.fnExactResolveSpec.pre6 enc Try.prog Try.f3 Rows.fnExactResolveRow.domain false) (Rows.fnExactResolveSpec.post enc Try.prog Try.f3 false true false false) := by
  refine returnsInHanded_of_change (C := Try.checked) own started (by kernel_rfl) Try.func3
    (ChangeSpec.witness6 (enc := enc) (C := Try.checked) false ⟨#[], #[.slice none 0 0, .string ⟨#[]⟩, .slice none 0 0], []⟩ 8 (by kernel_rfl) (by kernel_rfl) (by kernel_rfl) (by kernel_rfl)) ?_
  intro W base args ds gs before hval0 hW _ _
  have hval : ∀ (j : Nat) t v, Try.f3.params[j]? = some t → args[j]? = some v → Value.okWide Try.prog W .any base t v := hval0
  have hW' := hW
  have hlt := fun x hx => DataW.Whole.lt hW x hx
  obtain ⟨p, q, hA0, hV, rfl, hfz, hnd⟩ := hW
  have hA : DataW.TrodAll enc Try.prog W 0 (fun _ => true) true Try.f3.params.toList args.toList ds p := hA0
  rw [Try.params3] at hA hval
  obtain ⟨v0, v1, v2, d0, d1, d2, p0, p1, p2, rfl, rfl, rfl, h0, h1, h2⟩ := trodAll_three hA
  obtain ⟨rfl, rfl⟩ := trodVars_none hV
  obtain ⟨a0, len0, cap0, rfl⟩ := okWide_slice Try.underlying22 (hval 0 22 v0 rfl rfl)
  obtain ⟨s, rfl, rfl, rfl, ws⟩ := open_string Try.underlying9 (hval 1 9 v1 rfl rfl) h1
  obtain ⟨a2, len2, cap2, rfl⟩ := okWide_slice Try.underlying23 (hval 2 23 v2 rfl rfl)
  obtain ⟨len, bd, hbs⟩ : ∃ len bd, BsOf W len bd (.slice a0 len0 cap0) := by
    obtain ⟨fuel, hf⟩ := h0
    exact open_binds types hf
  obtain ⟨set, hsl, hset⟩ : ∃ xs : List Int, xs.length ≤ maxLen ∧ Rs W (.slice a2 len2 cap2) xs := by
    obtain ⟨fuel, hf⟩ := h2
    exact ints_of types.z types.ci types.i hf
  clear hA0 hval0
  simp only [List.append_nil] at hW' hlt
  refine (walk len bd s set _ _ W hbs hset ws hsl).mono fun e W' ⟨he, bel⟩ => ?_
  subst he
  have hs : ∀ x ∈ p0 ++ p2, W.sameAt W' x := fun x hx => bel.same (hlt x hx)
  have k0 := fun (sp' : Nat → Bool) (hsp : ∀ x ∈ p0, sp' x.block = true) => Go.WideElems.Trod_stays laidOut (by kernel_rfl) (of_decide_eq_true (by kernel_rfl)) h0 (fun x hx => hs x (List.mem_append_left _ hx)) hsp
  have k2 := fun (sp' : Nat → Bool) (hsp : ∀ x ∈ p2, sp' x.block = true) => Go.WideElems.Trod_stays laidOut (by kernel_rfl) (of_decide_eq_true (by kernel_rfl)) h2 (fun x hx => hs x (List.mem_append_right _ hx)) hsp
  refine ⟨_, rfl, _, _, _, [], p0 ++ p2, [], hW', trodAll_mk1 (shut_bool Try.underlying4 _), trodAll_mk3 (k0 _ ?_) (shut_string Try.underlying9 ws) (k2 _ ?_), rfl, bel.frame _, fun h => by cases h⟩
  · exact fun x hx => decide_eq_true (hlt x (List.mem_append_left _ hx))
  · exact fun x hx => decide_eq_true (hlt x (List.mem_append_right _ hx))

theorem over : Rows.fnExactResolveRow.holds Try.pinned (OpenSpec.ofChange Rows.fnExactResolveSpec) :=
  OpenClaim.holds_of_wide 3 Try.f3 rfl rfl rfl rfl rfl rfl rfl ⟨rfl, rfl, rfl, rfl, rfl⟩ rfl rfl rfl rfl rfl (by kernel_rfl) Try.func3 (by kernel_rfl)
    (of_decide_eq_true (by kernel_rfl)) (by unfold Func.isWrapper; first | (rw [if_pos (by decide +kernel)]; kernel_rfl) | (rw [if_neg (by decide +kernel)]; exact ⟨rfl, rfl⟩))
    (fun os started H enc _ => lifted os started H enc)

/-- The statement. -/
theorem proved : Rows.FnExactResolveSaid := over
#print axioms proved
end Go.Proofs.Ytgbfflpdpfgnbaa.fnExactResolve
