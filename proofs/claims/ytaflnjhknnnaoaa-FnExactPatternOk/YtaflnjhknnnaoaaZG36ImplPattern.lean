/- At every one that is written impl.PatternOk answers as spec.PatternOk, and writes into it nothing: laws.FnExactPatternOk returns true, and the argument reads as before. No conditions. -/
import Derived.Test.YtaflnjhknnnaoaaRows
import Derived.Test.YtaflnjhknnnaoaaZG34LawPatternOk
import Derived.Test.YtaflnjhknnnaoaaZG35StxArg
import Derived.Test.YtaflnjhknnnaoaaZG15WordsOk
import Derived.Test.YtaflnjhknnnaoaaZG22StrRow
namespace Go.Proofs.Ytaflnjhknnnaoaa.fnExactPatternOk
open Go.ChangeShapes Go.WideShapes Go.ChangeAt Go.RowKit

set_option maxRecDepth 100000 in
theorem lifted (himpl : ImplPat) (os : Os) (started : os.Started) (H : Type) (enc : TypeId × Value → H) :
    ReturnsInHanded {} Try.checked os 4 .any (Rows.fnExactPatternOkSpec.pre6 enc Try.prog Try.f4 Rows.fnExactPatternOkRow.domain false) (Rows.fnExactPatternOkSpec.post enc Try.prog Try.f4 false true false false) := by
  refine returnsInHanded_of_change (C := Try.checked) card_own started (by kernel_rfl) Try.func4
    (ChangeSpec.witness6 (enc := enc) (C := Try.checked) false ⟨#[], #[.agg #[.int .i64 0, .int .i64 0, .int .i64 0, .string ⟨#[]⟩, .slice none 0 0, .slice none 0 0]], []⟩ 8 (by kernel_rfl) (by kernel_rfl) (by kernel_rfl) (by kernel_rfl)) ?_
  intro W base args ds gs before hval0 hW _ _
  have hval : ∀ (j : Nat) t v, Try.f4.params[j]? = some t → args[j]? = some v → Value.okWide Try.prog W .any base t v := hval0
  have hW' := hW
  obtain ⟨p, q, hA0, hV, rfl, hfz, hnd⟩ := hW
  have hA : DataW.TrodAll enc Try.prog W 0 (fun _ => true) true Try.f4.params.toList args.toList ds p := hA0
  rw [Try.params4] at hA hval
  obtain ⟨v0, vs0, d0, ds0, p0, q0, hargs, rfl, rfl, h0, r0⟩ := trodAll_cons hA
  obtain ⟨rfl, rfl, rfl⟩ := trodAll_nil r0
  obtain rfl : args = #[v0] := by cases args; simp_all
  obtain ⟨rfl, rfl⟩ := trodVars_none hV
  have k0 := h0
  have lt0 : ∀ x ∈ p0, x.block < W.heap.size := by obtain ⟨m, hm⟩ := k0; exact DataW.trod_lt m _ _ _ hm
  obtain ⟨a, su, u, rfl, ha⟩ := stx_opened (hval 0 30 v0 rfl rfl) h0
  clear hA0 hval0
  refine (walk himpl a su u W ha).mono fun e W' ⟨he, bel⟩ => ?_
  subst he
  exact ⟨_, rfl, _, _, _, [], _, [], hW', trodAll_mk1 (shut_bool Try.underlying4 _), (trodAll_cons_mk (Below.trod card_laid (by kernel_rfl) (of_decide_eq_true (by kernel_rfl)) k0 bel lt0) trodAll_mk0), rfl, bel.frame _, fun h => by cases h⟩

theorem over (himpl : ImplPat) : Rows.fnExactPatternOkRow.holds Try.pinned (OpenSpec.ofChange Rows.fnExactPatternOkSpec) :=
  OpenClaim.holds_of_wide 4 Try.f4 rfl rfl rfl rfl rfl rfl rfl ⟨rfl, rfl, rfl, rfl, rfl⟩ rfl rfl rfl rfl rfl (by kernel_rfl) Try.func4 (by kernel_rfl)
    (of_decide_eq_true (by kernel_rfl)) (by unfold Func.isWrapper; first | (rw [if_pos (by decide +kernel)]; kernel_rfl) | (rw [if_neg (by decide +kernel)]; exact ⟨rfl, rfl⟩))
    (fun os started H enc _ => lifted himpl os started H enc)

end Go.Proofs.Ytaflnjhknnnaoaa.fnExactPatternOk

/- impl.PatternOk answers as spec.PatternOk at every syntax, and writes into none: laws.FnExactPatternOk returns true, and its argument reads as before. No conditions. -/
namespace Go.Proofs.Ytaflnjhknnnaoaa.fnExactPatternOk
open Go.ChangeShapes Go.WideShapes Go.ChangeAt Go.RowKit

set_option maxRecDepth 100000 in
set_option maxHeartbeats 4000000 in
theorem impl_pattern : ImplPat := by
  intro t w sv v hin hwt
  obtain ⟨p2, c2, e2⟩ := hin.xs.shape
  obtain ⟨p1, c1, e1⟩ := hin.sets.shape
  have HIN : Hid (∀ W, Below w.heap.size w W → t.At 0 W sv v) := fun W h => X.At.below h hin
  have HC : Hid (t.count ≤ 2097152) := by have := t.count_weight; show _ ≤ _; omega
  have HW : Hid (t.weight ≤ 1048576) := hwt
  have HE : Hid (patternB t = (stxOkB t && (dotsB (.mk 3 0 0 ⟨#[]⟩ [] 1 (fun _ => t)) && decide (keysD (namesD t 0)).Nodup))) := pattern_eq t
  obtain ⟨RR, hRR⟩ : ∃ r, r = patternB t := ⟨_, rfl⟩
  rw [← hRR] at HE ⊢
  clear hin hwt hRR
  subst e1 e2
  have N0 : Hid (Six (w.alloc (.cells #[.int .i64 t.op, .int .i64 t.at_, .int .i64 t.n, .string t.s, .slice p1 t.set.length c1, .slice p2 t.len c2] 35)) w.heap.size t.op t.at_ t.n t.s (.slice p1 t.set.length c1) (.slice p2 t.len c2) 35 ∧ Below w.heap.size w (w.alloc (.cells #[.int .i64 t.op, .int .i64 t.at_, .int .i64 t.n, .string t.s, .slice p1 t.set.length c1, .slice p2 t.len c2] 35))) := ⟨heap_alloc_new w _, newx w _⟩
  go_enter Try.func13, Try.ntmps13
  go_wp2_with fail
  refine (impl_stx_ok t _ _ _ (HIN.out _ N0.out.2) HW.out).mono ?_
  rintro e w1 ⟨rfl, hb1⟩
  have N1 : Hid (Six w1 w.heap.size t.op t.at_ t.n t.s (.slice p1 t.set.length c1) (.slice p2 t.len c2) 35 ∧ Below w.heap.size w w1) := ⟨N0.out.1.below hb1, N0.out.2.trans (hb1.mono N0.out.2.size)⟩
  clear hb1 N0
  obtain ⟨PB, hPB⟩ : ∃ x, x = w.heap.size := ⟨_, rfl⟩
  have HPB : Hid (PB = w.heap.size) := hPB
  rw [← hPB] at N1 ⊢
  clear hPB
  obtain ⟨b0, b1, b2, b3, b4, b5⟩ := N1.out.1.cells
  cases hs : stxOkB t
  · have HR : Hid (RR = false) := by show _ = _; rw [HE.out, hs]; rfl
    go_wp2_with fail
    go_ret
    exact ⟨by rw [HR.out]; rfl, by rw [HPB.out] at N1; exact N1.out.2⟩
  · have hsrc : XsAt 0 (w1.alloc (.cells #[.int .i64 t.op, .int .i64 t.at_, .int .i64 t.n, .string t.s, .slice p1 t.set.length c1, .slice p2 t.len c2] 35)) (X.mk 3 0 0 ⟨#[]⟩ [] 1 (fun _ => t)).len (X.mk 3 0 0 ⟨#[]⟩ [] 1 (fun _ => t)).kid (.slice (some ⟨w1.heap.size, 0, none⟩) 1 1) := by
      refine .inr ⟨w1.heap.size, 0, 1, fun _ => .slice p1 t.set.length c1, fun _ => .slice p2 t.len c2, rfl, Nat.zero_le _, Nat.le_refl _, by unfold maxLen; omega, fun i hi => ?_⟩
      obtain rfl : i = 0 := by simp only [X.len] at hi; omega
      have h6 : Six (w1.alloc (.cells #[.int .i64 t.op, .int .i64 t.at_, .int .i64 t.n, .string t.s, .slice p1 t.set.length c1, .slice p2 t.len c2] 35)) w1.heap.size t.op t.at_ t.n t.s (.slice p1 t.set.length c1) (.slice p2 t.len c2) 35 := heap_alloc_new w1 _
      obtain ⟨q0, q1, q2, q3, q4, q5⟩ := h6.cells
      refine ⟨⟨q0, q1, q2, q3, q4, q5⟩, HIN.out _ ?_⟩
      have := N1.out.2
      rw [HPB.out] at this
      exact this.trans ((newx w1 _).mono this.size)
    have HSRC : Hid (XsAt 0 (w1.alloc (.cells #[.int .i64 t.op, .int .i64 t.at_, .int .i64 t.n, .string t.s, .slice p1 t.set.length c1, .slice p2 t.len c2] 35)) (X.mk 3 0 0 ⟨#[]⟩ [] 1 (fun _ => t)).len (X.mk 3 0 0 ⟨#[]⟩ [] 1 (fun _ => t)).kid (.slice (some ⟨w1.heap.size, 0, none⟩) 1 1)) := hsrc
    clear hsrc
    go_wp2_with fail
    refine (dots_ok (X.mk 3 0 0 ⟨#[]⟩ [] 1 (fun _ => t)) _ _ HSRC.out).mono ?_
    rintro e w2 ⟨rfl, hb2⟩
    have hbb : Below w1.heap.size w1 w2 := (newx w1 _).trans (hb2.mono (by simp))
    have N2 : Hid (Six w2 PB t.op t.at_ t.n t.s (.slice p1 t.set.length c1) (.slice p2 t.len c2) 35 ∧ Below PB w w2) := ⟨N1.out.1.below hbb, N1.out.2.trans (hbb.mono (by have := N1.out.1.lt; omega))⟩
    clear hb2 hbb N1 HSRC b0 b1 b2 b3 b4 b5
    obtain ⟨b0, b1, b2, b3, b4, b5⟩ := N2.out.1.cells
    cases hd : dotsB (.mk 3 0 0 ⟨#[]⟩ [] 1 (fun _ => t))
    · have HR : Hid (RR = false) := by show _ = _; rw [HE.out, hs, hd]; rfl
      go_wp2_with fail
      go_ret
      exact ⟨by rw [HR.out]; rfl, by rw [HPB.out] at N2; exact N2.out.2⟩
    · have HR : Hid (RR = decide (keysD (namesD t 0)).Nodup) := by show _ = _; rw [HE.out, hs, hd]; rfl
      have HB2 : Hid (Below w.heap.size w w2) := by have := N2.out.2; rw [HPB.out] at this; exact this
      go_wp2_with fail
      refine (names_once t _ _ _ (HIN.out _ HB2.out) HC.out).mono ?_
      rintro e w3 ⟨rfl, hb3⟩
      have HB3 : Hid (Below w.heap.size w w3) := HB2.out.trans (hb3.mono HB2.out.size)
      rw [← HR.out]
      clear hb3
      cases RR
      all_goals
        go_wp2_with fail
        go_ret
        exact ⟨rfl, HB3.out⟩

/-- The given statement. -/
theorem proved : Rows.FnExactPatternOkSaid := over impl_pattern
#print axioms proved
end Go.Proofs.Ytaflnjhknnnaoaa.fnExactPatternOk
