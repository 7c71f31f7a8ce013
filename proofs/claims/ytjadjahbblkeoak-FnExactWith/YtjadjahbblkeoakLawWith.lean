/- At every list of ints and number impl.With answers as spec.With, writes into no argument, and its answer owns its memory: laws.FnExactWith returns true, and the arguments read as before. No conditions. -/
import Derived.Test.YtjadjahbblkeoakRows
import Derived.Test.YtjadjahbblkeoakIntsLaw
import Derived.Test.YtjadjahbblkeoakIntsSpec
import Derived.Test.YtjadjahbblkeoakIntsWithout
import Derived.WalkKit
import Derived.ProofKit
import Derived.OpenShut
import Derived.ChangeOld
import Derived.Below
namespace Go.Proofs.Ytjadjahbblkeoak.fnExactWith
open Go.ChangeShapes Go.WideShapes Go.ChangeAt Go.RowKit
set_option linter.unusedVariables false

theorem own : ownKnob Try.prog.godebug = none := by kernel_rfl
theorem laidOut : laidOutB Try.prog = true := by kernel_rfl

theorem len_le (xs : List Int) (n : Int) (h : xs.length ≤ 1048576) : (withL xs n).length ≤ 4194304 := by
  have := with_len xs n
  omega

set_option maxRecDepth 100000 in
set_option maxHeartbeats 4000000 in
theorem walk_in (xs : List Int) (v : Value) (n : Int) (w : World) (hv : Rs w v xs) (hl : xs.length ≤ 1048576) :
    Calls Try.prog 4 #[v, .int .i64 n] w fun e w' => e = .returned (.bool true) ∧ Below w.heap.size w w' := by
  have HL : Hid (xs.length ≤ 4194304) := by show _ ≤ _; omega
  have HL2 : Hid ((withL xs n).length ≤ 4194304) := len_le xs n hl
  obtain ⟨L, hL⟩ : ∃ L, L = withL xs n := ⟨_, rfl⟩
  have HS : Hid (∀ (u : Value) (w1 : World), Rd w1 u xs → Calls Try.prog 13 #[u, .int .i64 n] w1 fun e w' => ∃ r, e = .returned r ∧ Below w1.heap.size w1 w' ∧ Own w' w1.heap.size r L) := fun u w1 h => by rw [hL]; exact spec_with xs n u w1 h HL.out
  have HI : Hid (∀ (u : Value) (w1 : World), Rd w1 u xs → Calls Try.prog 14 #[u, .int .i64 n] w1 fun e w' => ∃ r, e = .returned r ∧ Below w1.heap.size w1 w' ∧ Own w' w1.heap.size r L) := fun u w1 h => by rw [hL]; exact impl_with xs n u w1 h HL.out
  rw [← hL] at HL2
  clear hL
  have HV : Hid (∀ w1, Below w.heap.size w w1 → Rs w1 v xs) := fun w1 h => hv.below h
  obtain ⟨a, cap, ev, -⟩ := hv
  have hb0 : ¬ (1048576 : Int) < xs.length := by omega
  subst ev
  generalize xs.length = m at hb0 HV ⊢
  clear hl
  go_enter Try.func4, Try.ntmps4
  go_wp2_with fail
  refine (to_ints xs _ w (HV.out _ (Below.refl _ _)) HL.out).mono ?_
  rintro e w1 ⟨u1, rfl, b1, o1⟩
  have B1 : Hid (Below w.heap.size w w1) := b1
  have O1 : Hid (Own w1 w.heap.size u1 xs) := o1
  clear b1 o1
  go_wp2_with fail
  refine (HS.out u1 w1 O1.out.rd).mono ?_
  rintro e w2 ⟨x0, rfl, b2, o2⟩
  have B2 : Hid (Below w.heap.size w w2) := B1.out.trans (b2.mono B1.out.size)
  have O2 : Hid (Own w2 w.heap.size x0 L) := o2.mono B1.out.size
  clear b2 o2 O1
  go_wp2_with fail
  refine (to_ints xs _ w2 (HV.out _ B2.out) HL.out).mono ?_
  rintro e w3 ⟨x, rfl, b3, o3⟩
  have B3 : Hid (Below w.heap.size w w3) := B2.out.trans (b3.mono B2.out.size)
  have O3 : Hid (Own w3 w2.heap.size x xs) := o3
  have P3 : Hid (Own w3 w.heap.size x0 L) := O2.out.below b3
  have S3 : Hid (w2.heap.size ≤ w3.heap.size) := b3.size
  clear b3 o3
  go_wp2_with fail
  refine (HI.out x w3 O3.out.rd).mono ?_
  rintro e w4 ⟨g, rfl, b4, o4⟩
  have B4 : Hid (Below w.heap.size w w4) := B3.out.trans (b4.mono B3.out.size)
  have O4 : Hid (Own w4 w3.heap.size g L) := o4
  have P4 : Hid (Own w4 w.heap.size x0 L) := P3.out.below b4
  have Q4 : Hid (Own w4 w2.heap.size x xs) := O3.out.below b4
  have NE : Hid ((∀ k, x0.ownBlock = some k → k < w2.heap.size) ∧ (∀ k, x.ownBlock = some k → w2.heap.size ≤ k ∧ k < w3.heap.size) ∧ (∀ k, g.ownBlock = some k → w3.heap.size ≤ k)) :=
    ⟨fun k hk => (O2.out.lt k hk).2, fun k hk => O3.out.lt k hk, fun k hk => (O4.out.lt k hk).1⟩
  have N1 : Hid (∀ k, x0.ownBlock = some k → x.ownBlock ≠ some k) := fun k h1 h2 => by have := NE.out.1 k h1; have := (NE.out.2.1 k h2).1; omega
  have N2 : Hid (∀ k, g.ownBlock = some k → x.ownBlock ≠ some k) := fun k h1 h2 => by have := NE.out.2.2 k h1; have := (NE.out.2.1 k h2).2; omega
  have N3 : Hid (∀ k, x0.ownBlock = some k → g.ownBlock ≠ some k) := fun k h1 h2 => by have := NE.out.1 k h1; have := NE.out.2.2 k h2; have := S3.out; omega
  have G0 : Hid (w.heap.size ≤ w2.heap.size ∧ w.heap.size ≤ w3.heap.size) := ⟨B2.out.size, B3.out.size⟩
  clear b4 o4 P3 O3 O2 NE S3 B1 B2 B3
  go_wp2_with fail
  refine (eq_ints L L g x0 w4 O4.out.rd P4.out.rd HL2.out HL2.out).mono ?_
  rintro e w5 ⟨rfl, b5⟩
  rw [same_self]
  have B5 : Hid (Below w.heap.size w w5) := B4.out.trans (b5.mono B4.out.size)
  have O5 : Hid (Own w5 w3.heap.size g L ∧ Own w5 w.heap.size x0 L ∧ Own w5 w2.heap.size x xs) := ⟨O4.out.below b5, P4.out.below b5, Q4.out.below b5⟩
  clear b5 O4 P4 Q4 B4
  go_wp2_with fail
  refine (to_ints xs _ w5 (HV.out _ B5.out) HL.out).mono ?_
  rintro e w6 ⟨u6, rfl, b6, o6⟩
  have B6 : Hid (Below w.heap.size w w6) := B5.out.trans (b6.mono B5.out.size)
  have O6 : Hid (Own w6 w3.heap.size g L ∧ Own w6 w.heap.size x0 L ∧ Own w6 w2.heap.size x xs ∧ Own w6 w5.heap.size u6 xs) := ⟨O5.out.1.below b6, O5.out.2.1.below b6, O5.out.2.2.below b6, o6⟩
  clear b6 o6 O5 B5
  go_wp2_with fail
  refine (eq_ints xs xs x u6 w6 O6.out.2.2.1.rd O6.out.2.2.2.rd HL.out HL.out).mono ?_
  rintro e w7 ⟨rfl, b7⟩
  rw [same_self]
  have B7 : Hid (Below w.heap.size w w7) := B6.out.trans (b7.mono B6.out.size)
  have O7 : Hid (Own w7 w3.heap.size g L ∧ Own w7 w.heap.size x0 L ∧ Own w7 w2.heap.size x xs) := ⟨O6.out.1.below b7, O6.out.2.1.below b7, O6.out.2.2.1.below b7⟩
  clear b7 O6 B6
  go_wp2_with fail
  refine (mark_ints x w2.heap.size xs 1 w7 O7.out.2.2 HL.out (by omega)).mono ?_
  rintro e w8 ⟨rfl, o8, g8⟩
  have B8 : Hid (Below w.heap.size w w8) := B7.out.grown g8 B7.out.size (fun k hk => Nat.le_trans G0.out.1 (O7.out.2.2.lt k hk).1)
  have O8 : Hid (Own w8 w3.heap.size g L ∧ Own w8 w.heap.size x0 L) := ⟨O7.out.1.kept g8 N2.out, O7.out.2.1.kept g8 N1.out⟩
  have hm8 : ((1 + xs.length : Nat) : Int) = 1 + (xs.length : Int) := by omega
  rw [hm8]
  have hL8 : xs.length ≤ 4194304 := HL.out
  obtain ⟨m8, h8⟩ : ∃ m8, m8 = xs.length := ⟨_, rfl⟩
  rw [← h8] at hL8 ⊢
  clear o8 g8 O7 B7 hm8 h8
  go_wp2_with fail
  refine (eq_ints L L g x0 w8 O8.out.1.rd O8.out.2.rd HL2.out HL2.out).mono ?_
  rintro e w9 ⟨rfl, b9⟩
  rw [same_self]
  have B9 : Hid (Below w.heap.size w w9) := B8.out.trans (b9.mono B8.out.size)
  have O9 : Hid (Own w9 w3.heap.size g L ∧ Own w9 w.heap.size x0 L) := ⟨O8.out.1.below b9, O8.out.2.below b9⟩
  clear b9 O8 B8
  go_wp2_with fail
  refine (mark_ints g w3.heap.size L 1 w9 O9.out.1 HL2.out (by omega)).mono ?_
  rintro e w10 ⟨rfl, o10, g10⟩
  have B10 : Hid (Below w.heap.size w w10) := B9.out.grown g10 B9.out.size (fun k hk => Nat.le_trans G0.out.2 (O9.out.1.lt k hk).1)
  have O10 : Hid (Own w10 w3.heap.size g (marksI 1 L.length) ∧ Own w10 w.heap.size x0 L) := ⟨o10, O9.out.2.kept g10 N3.out⟩
  have hm10 : ((1 + L.length : Nat) : Int) = 1 + (L.length : Int) := by omega
  have HQ : Hid (∀ w1, Rd w1 g (marksI 1 L.length) → Calls Try.prog 16 #[g, .int .i64 1] w1 fun e w' => e = .returned (.int .i64 (1 + (L.length : Int))) ∧ w' = w1) := fun w1 h => by
    have := held_ints L.length g 1 w1 h HL2.out (by omega)
    rw [hm10] at this
    exact this
  rw [hm10]
  have hL0 : L.length ≤ 4194304 := HL2.out
  clear o10 g10 O9 B9 hm10
  obtain ⟨q, hq⟩ : ∃ q, q = L.length := ⟨_, rfl⟩
  rw [← hq] at HQ O10 hL0 ⊢
  clear hq
  go_wp2_with fail
  refine (HQ.out w10 O10.out.1.rd).mono ?_
  rintro e w11 ⟨rfl, hw11⟩
  subst w11
  go_wp2_with fail
  refine (to_ints xs _ w10 (HV.out _ B10.out) HL.out).mono ?_
  rintro e w11 ⟨u11, rfl, b11, o11⟩
  have B11 : Hid (Below w.heap.size w w11) := B10.out.trans (b11.mono B10.out.size)
  have O11 : Hid (Own w11 w3.heap.size g (marksI 1 q) ∧ Own w11 w.heap.size x0 L ∧ Own w11 w10.heap.size u11 xs) := ⟨O10.out.1.below b11, O10.out.2.below b11, o11⟩
  clear b11 o11 O10 B10
  go_wp2_with fail
  refine (HI.out u11 w11 O11.out.2.2.rd).mono ?_
  rintro e w12 ⟨h0, rfl, b12, o12⟩
  have B12 : Hid (Below w.heap.size w w12) := B11.out.trans (b12.mono B11.out.size)
  have O12 : Hid (Own w12 w3.heap.size g (marksI 1 q) ∧ Own w12 w.heap.size x0 L ∧ Own w12 w11.heap.size h0 L) := ⟨O11.out.1.below b12, O11.out.2.1.below b12, o12⟩
  clear b12 o12 O11 B11
  go_wp2_with fail
  refine (eq_ints L L h0 x0 w12 O12.out.2.2.rd O12.out.2.1.rd HL2.out HL2.out).mono ?_
  rintro e w13 ⟨rfl, b13⟩
  rw [same_self]
  have B13 : Hid (Below w.heap.size w w13) := B12.out.trans (b13.mono B12.out.size)
  have O13 : Hid (Own w13 w3.heap.size g (marksI 1 q)) := O12.out.1.below b13
  clear b13 O12 B12
  go_wp2_with fail
  refine (HQ.out w13 O13.out.rd).mono ?_
  rintro e w14 ⟨rfl, hw14⟩
  subst w14
  go_wp2_with fail
  go_ret
  exact ⟨rfl, B13.out⟩

set_option maxHeartbeats 1000000 in
theorem walk_out (len : Nat) (a : Option Addr) (cap : Nat) (n : Int) (w : World) (hl : ¬ len ≤ 1048576) :
    Calls Try.prog 4 #[.slice a len cap, .int .i64 n] w fun e w' => e = .returned (.bool true) ∧ Below w.heap.size w w' := by
  have hb0 : (1048576 : Int) < len := by omega
  go_enter Try.func4, Try.ntmps4
  go_wp2
  go_ret
  exact ⟨rfl, Below.refl _ _⟩

theorem walk (a0 : Option Addr) (len0 cap0 : Nat) (z0 : List Int) (a1 : Int) (w : World) (w0 : IsRow w a0 len0 cap0 z0) (w1 : (Lit.int .i64 a1).wf = true) :
    Calls Try.prog 4 #[.slice a0 len0 cap0, .int .i64 a1] w fun e w' => e = .returned (.bool true) ∧ Below w.heap.size w w' := by
  by_cases hl : len0 ≤ 1048576
  · obtain ⟨xs, hx, hr⟩ := w0.rs
    exact walk_in xs _ a1 w hr (by omega)
  · exact walk_out len0 a0 cap0 a1 w hl

set_option maxRecDepth 100000 in
theorem lifted (os : Os) (started : os.Started) (H : Type) (enc : TypeId × Value → H) :
    ReturnsInHanded {} Try.checked os 4 .any (Rows.fnExactWithSpec.pre6 enc Try.prog Try.f4 Rows.fnExactWithRow.domain false) (Rows.fnExactWithSpec.post enc Try.prog Try.f4 false true false false) := by
  refine returnsInHanded_of_change (C := Try.checked) own started (by kernel_rfl) Try.func4
    (ChangeSpec.witness6 (enc := enc) (C := Try.checked) false ⟨#[], #[.slice none 0 0, .int .i64 0], []⟩ 8 (by kernel_rfl) (by kernel_rfl) (by kernel_rfl) (by kernel_rfl)) ?_
  intro W base args ds gs before hval0 hW hcnd _
  have hval : ∀ (j : Nat) t v, Try.f4.params[j]? = some t → args[j]? = some v → Value.okWide Try.prog W .any base t v := hval0
  have hW' := hW
  obtain ⟨p, q, hA0, hV, rfl, hfz, hnd⟩ := hW
  have hA : DataW.TrodAll enc Try.prog W 0 (fun _ => true) true Try.f4.params.toList args.toList ds p := hA0
  rw [Try.params4] at hA hval
  obtain ⟨v0, vs0, d0, ds0, p0, q0, hargs, rfl, rfl, h0, r0⟩ := trodAll_cons hA
  obtain ⟨v1, vs1, d1, ds1, p1, q1, rfl, rfl, rfl, h1, r1⟩ := trodAll_cons r0
  obtain ⟨rfl, rfl, rfl⟩ := trodAll_nil r1
  obtain rfl : args = #[v0, v1] := by cases args; simp_all
  obtain ⟨rfl, rfl⟩ := trodVars_none hV
  obtain ⟨a0, len0, cap0, rfl⟩ := okWide_slice Try.underlying22 (hval 0 22 v0 rfl rfl)
  have k0 := h0
  have lt0 : ∀ x ∈ p0, x.block < W.heap.size := by obtain ⟨m, hm⟩ := k0; exact DataW.trod_lt m _ _ _ hm
  obtain ⟨z0, w0⟩ : ∃ zs, IsRow W a0 len0 cap0 zs := by
    obtain ⟨fuel, hf⟩ := h0
    rcases open_ints Try.underlying22 Try.underlying3 (by kernel_rfl) hf with ⟨hcs, _⟩ | ⟨x, l, c, zs, hcs, _, hl, hm, hz, _, hcell, hwz⟩
    · simp [Value.cells] at hcs
      obtain ⟨rfl, rfl, rfl⟩ := hcs
      exact ⟨[], .inl ⟨rfl, rfl, rfl, rfl⟩⟩
    · simp [Value.cells] at hcs
      obtain ⟨rfl, rfl, rfl⟩ := hcs
      exact ⟨zs, .inr ⟨_, rfl, hl, hm, by simpa using hz, hcell, hwz⟩⟩
  obtain ⟨a1, rfl, rfl, rfl, w1⟩ := open_int Try.underlying3 (hval 1 3 v1 rfl rfl) h1
  clear hA0 hval0
  refine (walk a0 len0 cap0 z0 a1 W w0 w1).mono fun e W' ⟨he, bel⟩ => ?_
  subst he
  exact ⟨_, rfl, _, _, _, [], _, [], hW', trodAll_mk1 (shut_bool Try.underlying4 _), (trodAll_cons_mk (Below.trod laidOut (by kernel_rfl) (of_decide_eq_true (by kernel_rfl)) k0 bel lt0) (trodAll_cons_mk (shut_int Try.underlying3 w1) trodAll_mk0)), rfl, bel.frame _, fun h => by cases h⟩

theorem over : Rows.fnExactWithRow.holds Try.pinned (OpenSpec.ofChange Rows.fnExactWithSpec) :=
  OpenClaim.holds_of_wide 4 Try.f4 rfl rfl rfl rfl rfl rfl rfl ⟨rfl, rfl, rfl, rfl, rfl⟩ rfl rfl rfl rfl rfl (by kernel_rfl) Try.func4 (by kernel_rfl)
    (of_decide_eq_true (by kernel_rfl)) (by unfold Func.isWrapper; first | (rw [if_pos (by decide +kernel)]; kernel_rfl) | (rw [if_neg (by decide +kernel)]; exact ⟨rfl, rfl⟩))
    (fun os started H enc _ => lifted os started H enc)

/-- The statement. -/
theorem proved : Rows.FnExactWithSaid := over
#print axioms proved
end Go.Proofs.Ytjadjahbblkeoak.fnExactWith
