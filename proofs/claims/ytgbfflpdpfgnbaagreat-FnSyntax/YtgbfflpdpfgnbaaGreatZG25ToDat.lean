/- What spec.DrawSameStx answers: two nodes in memory of the call's own. Condition: the code's bytes can be read. -/
import Derived.Test.YtgbfflpdpfgnbaaGreatZG23DrawX1
import Derived.Test.YtgbfflpdpfgnbaaGreatZG24SpecFlipAll
import Derived.Test.YtgbfflpdpfgnbaaGreatZG3SpecStart
import Derived.Test.YtgbfflpdpfgnbaaGreatZG4IntsImpl
import Derived.Test.YtgbfflpdpfgnbaaGreatZG6StxP
import Derived.Test.YtgbfflpdpfgnbaaGreatZG1StxOwn
import Derived.Test.YtgbfflpdpfgnbaaGreatRows
import Derived.Test.YtgbfflpdpfgnbaaGreatZG10DatOwn
import Derived.Deep.AppendLies
import Derived.Deep.Cut
import Derived.Deep.RegionHeld3
import Derived.WalkKit
import Derived.ProofKit
namespace Go.Proofs.YtgbfflpdpfgnbaaGreat
open Go.ChangeShapes Go.WideShapes Go.ChangeAt Go.RowKit

theorem results_cellsX {fn : Func} {p q : Tmp} {ty tz : TypeId} (h : fn.results = #[.cell p ty, .cell q tz]) (tmps : Array Value) (P : Program) (w : World) :
    (results fn tmps).run P w = ((asAddr (tmps.getD p undef)).run P w).andThen fun a w₁ => ((loadVar ty a).run P w₁).andThen fun v w₂ => ((asAddr (tmps.getD q undef)).run P w₂).andThen fun b w₃ => ((loadVar tz b).run P w₃).andThen fun u w₄ => .ok (.tuple #[v, u]) w₄ := by
  simp only [results, h]
  simp [Sem.run_bind, Result.andThen]

/-- Two nodes in the call's own memory. -/
structure BothX (w W : World) (t : X) (su u : Value) (t' : X) (su' u' : Value) : Prop where
  one : t.At w.heap.size W su u
  two : t'.At w.heap.size W su' u'
  bel : Below w.heap.size w W

theorem BothX.put {w W : World} {t t' : X} {su u su' u' : Value} {B R : Nat} (h : t.At B W su u) (h' : t'.At B W su' u') (hb : Below w.heap.size w W) (h1 : w.heap.size ≤ R) (h2 : R < B) (a b c : Int) (s : ByteArray) (p q : Value) : BothX w (put6 W R a b c s p q) t su u t' su' u' :=
  ⟨(At_put6 h h2 a b c s p q).mono (by omega), (At_put6 h' h2 a b c s p q).mono (by omega), put6_below hb R h1 a b c s p q⟩
theorem BothX.put2 {w W : World} {t t' : X} {su u su' u' : Value} {B R R' : Nat} (h : t.At B W su u) (h' : t'.At B W su' u') (hb : Below w.heap.size w W) (h1 : w.heap.size ≤ R ∧ w.heap.size ≤ R') (h2 : R < B ∧ R' < B) (a b c : Int) (s : ByteArray) (p q : Value) (a' b' c' : Int) (s' : ByteArray) (p' q' : Value) : BothX w (put6 (put6 W R a b c s p q) R' a' b' c' s' p' q') t su u t' su' u' :=
  BothX.put (At_put6 h h2.1 a b c s p q) (At_put6 h' h2.1 a b c s p q) (put6_below hb R h1.1 a b c s p q) h1.2 h2.2 _ _ _ _ _ _

/-- What the walk knows: two cells for the answer, the node in a cell. -/
structure SameX3 (w W : World) (R2 R3 A : Nat) (t : X) (su u : Value) : Prop where
  z2 : ZeroXAt W R2
  z3 : ZeroXAt W R3
  a : NodeXAt W A t su u
  bel : Below w.heap.size w W
  inn : t.At (w.heap.size + 3) W su u
structure SameX4 (w W : World) (R2 R3 A : Nat) (t : X) (su u : Value) : Prop where
  n2 : NodeXAt W R2 t su u
  z3 : ZeroXAt W R3
  a : NodeXAt W A t su u
  bel : Below w.heap.size w W
  inn : t.At (w.heap.size + 3) W su u

theorem SameX3.below {w W W' : World} {R2 R3 A : Nat} {t : X} {su u : Value} (h : SameX3 w W R2 R3 A t su u) (hb : Below W.heap.size W W') : SameX3 w W' R2 R3 A t su u :=
  ⟨h.z2.below hb, h.z3.below hb, h.a.below hb, h.bel.trans (hb.mono h.bel.size), h.inn.below hb⟩
theorem SameX4.below {w W W' : World} {R2 R3 A : Nat} {t : X} {su u : Value} (h : SameX4 w W R2 R3 A t su u) (hb : Below W.heap.size W W') : SameX4 w W' R2 R3 A t su u :=
  ⟨h.n2.below hb, h.z3.below hb, h.a.below hb, h.bel.trans (hb.mono h.bel.size), h.inn.below hb⟩
theorem SameX3.ext {w W W' : World} {R2 R3 A C : Nat} {t : X} {su u : Value} (h : SameX3 w W R2 R3 A t su u) (hb : Ext C W W') (hC : C = w.heap.size + 2) (hR : R2 = w.heap.size ∧ R3 = w.heap.size + 1 ∧ w.heap.size + 3 ≤ A) : SameX3 w W' R2 R3 A t su u :=
  ⟨(hb.block _ h.z2.lt (by omega)).trans h.z2, (hb.block _ h.z3.lt (by omega)).trans h.z3, (hb.block _ h.a.lt (by omega)).trans h.a, hb.belowX h.bel (by omega), h.inn.ext hb (by omega)⟩
theorem SameX4.ext {w W W' : World} {R2 R3 A C : Nat} {t : X} {su u : Value} (h : SameX4 w W R2 R3 A t su u) (hb : Ext C W W') (hC : C = w.heap.size + 2) (hR : R2 = w.heap.size ∧ R3 = w.heap.size + 1 ∧ w.heap.size + 3 ≤ A) : SameX4 w W' R2 R3 A t su u :=
  ⟨(hb.block _ h.n2.lt (by omega)).trans h.n2, (hb.block _ h.z3.lt (by omega)).trans h.z3, (hb.block _ h.a.lt (by omega)).trans h.a, hb.belowX h.bel (by omega), h.inn.ext hb (by omega)⟩
theorem SameX3.put {w W : World} {R2 R3 A : Nat} {t : X} {su u : Value} (h : SameX3 w W R2 R3 A t su u) (hR : R2 = w.heap.size ∧ R3 = w.heap.size + 1 ∧ w.heap.size + 3 ≤ A) : SameX4 w (put6 W R2 t.op t.at_ t.n t.s su u) R2 R3 A t su u :=
  ⟨put6_here h.z2 _ _ _ _ _ _, (put6_other W R2 _ _ _ _ _ _ R3 (by omega)).trans h.z3, (put6_other W R2 _ _ _ _ _ _ A (by omega)).trans h.a, put6_below h.bel R2 (by omega) _ _ _ _ _ _, At_put6 h.inn (by omega) _ _ _ _ _ _⟩
theorem SameX3.at0 {w W : World} {R2 R3 A : Nat} {t : X} {su u : Value} (h : SameX3 w W R2 R3 A t su u) : t.At 0 W.drew su u := (h.inn.mono (Nat.zero_le _)).below ((Below.refl _ W).drew)
theorem SameX4.at0 {w W : World} {R2 R3 A : Nat} {t : X} {su u : Value} (h : SameX4 w W R2 R3 A t su u) : t.At 0 W.drew su u := (h.inn.mono (Nat.zero_le _)).below ((Below.refl _ W).drew)
theorem SameX3.at1 {w W : World} {R2 R3 A : Nat} {t : X} {su u : Value} (h : SameX3 w W R2 R3 A t su u) : t.At 0 W su u := h.inn.mono (Nat.zero_le _)
theorem SameX4.at1 {w W : World} {R2 R3 A : Nat} {t : X} {su u : Value} (h : SameX4 w W R2 R3 A t su u) : t.At 0 W su u := h.inn.mono (Nat.zero_le _)
theorem SameX3.bigA {w W : World} {R2 R3 A : Nat} {t : X} {su u : Value} (h : SameX3 w W R2 R3 A t su u) (hR : R2 = w.heap.size ∧ R3 = w.heap.size + 1 ∧ w.heap.size + 3 ≤ A) : w.heap.size + 3 ≤ W.heap.size := by have := h.a.lt; omega
theorem SameX4.bigA {w W : World} {R2 R3 A : Nat} {t : X} {su u : Value} (h : SameX4 w W R2 R3 A t su u) (hR : R2 = w.heap.size ∧ R3 = w.heap.size + 1 ∧ w.heap.size + 3 ≤ A) : w.heap.size + 3 ≤ W.heap.size := by have := h.a.lt; omega

set_option maxRecDepth 100000 in
set_option maxHeartbeats 4000000 in
theorem drawSameStx_any (a : Option Addr) (len cap : Nat) (w : World) (hc : CodeOk a len w.heap.size w) :
    Calls Tryz.prog 11 #[.slice a len cap] w fun e w' => ∃ (t : X) (su u : Value) (t' : X) (su' u' : Value), e = .returned (.tuple #[.agg #[.int .i64 t.op, .int .i64 t.at_, .int .i64 t.n, .string t.s, su, u], .agg #[.int .i64 t'.op, .int .i64 t'.at_, .int .i64 t'.n, .string t'.s, su', u']]) ∧ BothX w w' t su u t' su' u' ∧ (datX t).weight ≤ 60000 ∧ (datX t').weight ≤ 60000 ∧ t.SetsLe 9 ∧ t'.SetsLe 9 := by
  have HC0 : Hid (CodeOk a len w.heap.size w) := hc
  have hs0 : ((w.alloc zeroX).alloc zeroX).heap.size = w.heap.size + 2 := by simp
  have hc1 := code_below5 (code_below5 hc (newx w zeroX)) (newx (w.alloc zeroX) zeroX)
  obtain ⟨R2, hR2⟩ : ∃ R, R = w.heap.size := ⟨_, rfl⟩
  obtain ⟨R3, hR3⟩ : ∃ R, R = w.heap.size + 1 := ⟨_, rfl⟩
  go_enter Tryz.func11, Tryz.ntmps11
  go_wp2_with fail
  refine (l1New_any a len cap _ hc1).mono ?_
  rintro e w1 ⟨rfl, hb, hcur, hs1⟩
  have HZ1 : Hid (ZeroXAt w1 R2 ∧ ZeroXAt w1 R3 ∧ Below w.heap.size w w1 ∧ w1.heap.size = w.heap.size + 3) := by
    refine ⟨?_, ?_, ?_, by rw [hs1, hs0]⟩
    · rw [hR2]
      exact (hb.block _ (by simp; omega)).trans ((Below.heap_alloc _ _ _ (by simp)).trans (heap_alloc_new w _))
    · rw [hR3]
      have := heap_alloc_new (w.alloc zeroX) zeroX
      rw [show (w.alloc zeroX).heap.size = w.heap.size + 1 by simp] at this
      exact (hb.block _ (by simp)).trans this
    · exact (newx w zeroX).trans (((newx _ zeroX).mono (by simp)).trans (hb.mono (by simp; omega)))
  rw [hs0] at hcur ⊢
  clear hb hs1 hc1 hc hs0
  go_wp2_with fail
  refine (l5Draw_any (w.heap.size + 2) a len cap w1 hcur).mono ?_
  rintro e w2 ⟨t, su, u, S, rfl, ⟨hext, hcur2⟩, hX, -, hS, hwt, hsl⟩
  obtain ⟨pv, cv, hv⟩ := hX.at0.xs.shape
  obtain ⟨pw, cw, hw⟩ := hX.at0.sets.shape
  subst hv hw
  obtain ⟨A, hA⟩ : ∃ A, A = w2.heap.size := ⟨_, rfl⟩
  obtain ⟨C, hC⟩ : ∃ C, C = w.heap.size + 2 := ⟨_, rfl⟩
  obtain ⟨w3, hw3⟩ : ∃ w3, w3 = w2.alloc (nodeX t (.slice pw t.set.length cw) (.slice pv t.len cv)) := ⟨_, rfl⟩
  have nb : Below w2.heap.size w2 w3 := by rw [hw3]; exact newx w2 _
  have HQ : Hid (R2 = w.heap.size ∧ R3 = w.heap.size + 1 ∧ w.heap.size + 3 ≤ A) := ⟨hR2, hR3, by rw [hA]; have := hext.size; have := HZ1.out.2.2.2; omega⟩
  have HCe : Hid (C = w.heap.size + 2) := hC
  have H3 : Hid (SameX3 w w3 R2 R3 A t (.slice pw t.set.length cw) (.slice pv t.len cv)) := by
    have g2 : ZeroXAt w2 R2 := (hext.block R2 HZ1.out.1.lt (by omega)).trans HZ1.out.1
    have g3 : ZeroXAt w2 R3 := (hext.block R3 HZ1.out.2.1.lt (by omega)).trans HZ1.out.2.1
    have hb2 := hext.belowX HZ1.out.2.2.1 (by omega)
    refine ⟨g2.below nb, g3.below nb, ?_, hb2.trans (nb.mono hb2.size), (hX.at' _ (fun x hx => by have := hS x hx; have := HZ1.out.2.2.2; omega)).below nb⟩
    rw [hA, hw3]
    exact heap_alloc_new w2 _
  have HW : Hid ((datX t).weight ≤ 60000 ∧ t.SetsLe 8 ∧ t.weight ≤ 1048576) := ⟨hwt, hsl, by have := X.weight_sets (m := 8) _ hsl; omega⟩
  have hcur3 : CurAt C a len cap w3 := by rw [hC]; exact hcur2.below' nb
  clear hX hS hwt hsl hext hcur hcur2 HZ1
  go_wp2_with fail
  rw [← hw3, ← hC, ← hR3, ← hR2, ← hA]
  clear hw3 nb hA hC hR2 hR3
  refine (l1Once_any C a len cap 2 (by omega) _ hcur3).mono ?_
  rintro e w4 ⟨⟨q, rfl⟩, hx4, hcur4⟩
  have H4 : Hid (SameX3 w w4 R2 R3 A t (.slice pw t.set.length cw) (.slice pv t.len cv)) := H3.out.ext hx4 HCe.out HQ.out
  clear hx4 hcur3 H3
  have n23 : ¬ R2 = R3 := by have := HQ.out; omega
  have n32 : ¬ R3 = R2 := by have := HQ.out; omega
  have n2A : ¬ R2 = A := by have := HQ.out; omega
  have nA2 : ¬ A = R2 := by have := HQ.out; omega
  have n3A : ¬ R3 = A := by have := HQ.out; omega
  have nA3 : ¬ A = R3 := by have := HQ.out; omega
  obtain ⟨x0, x1, x2, x3, x4, x5⟩ := H4.out.z2.cells
  have xf := H4.out.z2.fr
  obtain ⟨y0, y1, y2, y3, y4, y5⟩ := H4.out.z3.cells
  have yf := H4.out.z3.fr
  obtain ⟨a0, a1, a2, a3, a4, a5⟩ := H4.out.a.cells
  have HP : Hid (SameX4 w (put6 w4 R2 t.op t.at_ t.n t.s (.slice pw t.set.length cw) (.slice pv t.len cv)) R2 R3 A t (.slice pw t.set.length cw) (.slice pv t.len cv)) := H4.out.put HQ.out
  cases q
  case' true =>
    go_wp2_with fail
    go_region_with (first
      | (go_at_call 35; refine (copyX_all t w4.drew _ _ H4.out.at0 HW.out.2.2).mono ?_; rintro e w5 ⟨su5, u5, S5, rfl, hb5, hX5, -, hS5⟩; have hw5 := Below.undrew hb5; have K5 := H4.out.below hw5; obtain ⟨p5, c5, hv5⟩ := hX5.at0.xs.shape; obtain ⟨p6, c6, hv6⟩ := hX5.at0.sets.shape; subst hv5 hv6; have HK : Hid (SameX3 w w5 R2 R3 A t (.slice pw t.set.length cw) (.slice pv t.len cv) ∧ t.At (w.heap.size + 3) w5 (.slice p6 t.set.length c6) (.slice p5 t.len c5)) := ⟨K5, hX5.at' _ (fun x hx => Nat.le_trans (H4.out.bigA HQ.out) (hS5 x hx))⟩; obtain ⟨b0, b1, b2, b3, b4, b5⟩ := K5.z2.cells; have bf := K5.z2.fr; obtain ⟨c0, c1, c2, c3, c4, c5'⟩ := K5.z3.cells; have cf := K5.z3.fr; obtain ⟨d0, d1, d2, d3, d4, d5⟩ := K5.a.cells; clear hb5 hX5 hS5 hw5 K5)
      | (go_at_call 35; refine (copyX_all t _ _ _ HP.out.at0 HW.out.2.2).mono ?_; rintro e w5 ⟨su5, u5, S5, rfl, hb5, hX5, -, hS5⟩; have hw5 := Below.undrew hb5; have K5 := HP.out.below hw5; obtain ⟨p5, c5, hv5⟩ := hX5.at0.xs.shape; obtain ⟨p6, c6, hv6⟩ := hX5.at0.sets.shape; subst hv5 hv6; have HK4 : Hid (SameX4 w w5 R2 R3 A t (.slice pw t.set.length cw) (.slice pv t.len cv) ∧ t.At (w.heap.size + 3) w5 (.slice p6 t.set.length c6) (.slice p5 t.len c5)) := ⟨K5, hX5.at' _ (fun x hx => Nat.le_trans (HP.out.bigA HQ.out) (hS5 x hx))⟩; obtain ⟨b0, b1, b2, b3, b4, b5⟩ := K5.n2.cells; obtain ⟨c0, c1, c2, c3, c4, c5'⟩ := K5.z3.cells; have cf := K5.z3.fr; obtain ⟨d0, d1, d2, d3, d4, d5⟩ := K5.a.cells; clear hb5 hX5 hS5 hw5 K5))
    all_goals
      go_wp2_with fail
      refine bodyPost_ret (v := .tuple #[.agg #[.int .i64 t.op, .int .i64 t.at_, .int .i64 t.n, .string t.s, .slice pw t.set.length cw, .slice pv t.len cv], .agg #[.int .i64 t.op, .int .i64 t.at_, .int .i64 t.n, .string t.s, .slice p6 t.set.length c6, .slice p5 t.len c5]]) (by rw [results_cellsX (p := 2) (q := 3) (ty := 32) (tz := 32) (by kernel_rfl)]; first | (simp [go_sem, b0, b1, b2, b3, b4, b5, c0, c1, c2, c3, c4, c5']; done) | (simp [go_sem, b0, b1, b2, b3, b4, b5, c0, c1, c2, c3, c4, c5', n23]; done) | (simp [go_sem, b0, b1, b2, b3, b4, b5, c0, c1, c2, c3, c4, c5', n32]; done)) rfl ?_
      refine ⟨t, _, _, t, _, _, rfl, ?_, HW.out.1, HW.out.1, X.SetsLe.mono (by omega) _ HW.out.2.1, X.SetsLe.mono (by omega) _ HW.out.2.1⟩
      first
        | exact BothX.put2 HK.out.1.inn HK.out.2 HK.out.1.bel (by have := HQ.out; omega) (by have := HQ.out; omega) _ _ _ _ _ _ _ _ _ _ _ _
        | exact BothX.put HK4.out.1.inn HK4.out.2 HK4.out.1.bel (by have := HQ.out; omega) (by have := HQ.out; omega) _ _ _ _ _ _
  case' false =>
    have HC1 : Hid (CurAt C a len cap w4.drew) := hcur4
    have HC2 : Hid (CurAt C a len cap (put6 w4 R2 t.op t.at_ t.n t.s (.slice pw t.set.length cw) (.slice pv t.len cv)).drew) :=
      CurAt.drewX (cur_putX (W := put6 w4 R2 t.op t.at_ t.n t.s (.slice pw t.set.length cw) (.slice pv t.len cv)) HC0.out hcur4 HP.out.bel (put6_other w4 R2 _ _ _ _ _ _ C (by have := HQ.out; have := HCe.out; omega)) (by have := HCe.out; omega))
    clear hcur4
    go_wp2_with fail
    go_region_with (first
      | (go_at_call 33; refine (l1Below_any C a len cap 6 (by omega) w4.drew HC1.out).mono ?_; rintro e w6 ⟨⟨z, z0, _, z1, rfl⟩, hx6, -⟩; have K6 := H4.out.ext hx6.undrew HCe.out HQ.out; have HM1 : Hid (SameX3 w w6 R2 R3 A t (.slice pw t.set.length cw) (.slice pv t.len cv)) := K6; have HM2 : Hid (SameX4 w (put6 w6 R2 t.op t.at_ t.n t.s (.slice pw t.set.length cw) (.slice pv t.len cv)) R2 R3 A t (.slice pw t.set.length cw) (.slice pv t.len cv)) := K6.put HQ.out; obtain ⟨k0, k1, k2, k3, k4, k5⟩ := K6.z2.cells; have kf := K6.z2.fr; obtain ⟨l0, l1, l2, l3, l4, l5⟩ := K6.z3.cells; have lf := K6.z3.fr; obtain ⟨m0, m1, m2, m3, m4, m5⟩ := K6.a.cells; clear hx6 z1 K6)
      | (go_at_call 33; refine (l1Below_any C a len cap 6 (by omega) _ HC2.out).mono ?_; rintro e w6 ⟨⟨z, z0, _, z1, rfl⟩, hx6, -⟩; have K6 := HP.out.ext hx6.undrew HCe.out HQ.out; have HN1 : Hid (SameX4 w w6 R2 R3 A t (.slice pw t.set.length cw) (.slice pv t.len cv)) := K6; obtain ⟨k0, k1, k2, k3, k4, k5⟩ := K6.n2.cells; obtain ⟨l0, l1, l2, l3, l4, l5⟩ := K6.z3.cells; have lf := K6.z3.fr; obtain ⟨m0, m1, m2, m3, m4, m5⟩ := K6.a.cells; clear hx6 z1 K6)
      | (go_at_call 15; refine (spec_flip_all z t w6 _ _ HM1.out.at1 HW.out.2.2).mono ?_; rintro e w5 ⟨su5, u5, S5, rfl, hw5, hX5, -, hS5⟩; have K5 := HM1.out.below hw5; obtain ⟨p5, c5, hv5⟩ := hX5.at0.xs.shape; obtain ⟨p6, c6, hv6⟩ := hX5.at0.sets.shape; subst hv5 hv6; have HK : Hid (SameX3 w w5 R2 R3 A t (.slice pw t.set.length cw) (.slice pv t.len cv) ∧ (t.flip z).At (w.heap.size + 3) w5 (.slice p6 (t.flip z).set.length c6) (.slice p5 (t.flip z).len c5)) := ⟨K5, hX5.at' _ (fun x hx => Nat.le_trans (HM1.out.bigA HQ.out) (hS5 x hx))⟩; obtain ⟨b0, b1, b2, b3, b4, b5⟩ := K5.z2.cells; have bf := K5.z2.fr; obtain ⟨c0, c1, c2, c3, c4, c5'⟩ := K5.z3.cells; have cf := K5.z3.fr; obtain ⟨d0, d1, d2, d3, d4, d5⟩ := K5.a.cells; clear hX5 hS5 hw5 K5)
      | (go_at_call 15; refine (spec_flip_all z t _ _ _ HM2.out.at1 HW.out.2.2).mono ?_; rintro e w5 ⟨su5, u5, S5, rfl, hw5, hX5, -, hS5⟩; have K5 := HM2.out.below hw5; obtain ⟨p5, c5, hv5⟩ := hX5.at0.xs.shape; obtain ⟨p6, c6, hv6⟩ := hX5.at0.sets.shape; subst hv5 hv6; have HK4 : Hid (SameX4 w w5 R2 R3 A t (.slice pw t.set.length cw) (.slice pv t.len cv) ∧ (t.flip z).At (w.heap.size + 3) w5 (.slice p6 (t.flip z).set.length c6) (.slice p5 (t.flip z).len c5)) := ⟨K5, hX5.at' _ (fun x hx => Nat.le_trans (HM2.out.bigA HQ.out) (hS5 x hx))⟩; obtain ⟨b0, b1, b2, b3, b4, b5⟩ := K5.n2.cells; obtain ⟨c0, c1, c2, c3, c4, c5'⟩ := K5.z3.cells; have cf := K5.z3.fr; obtain ⟨d0, d1, d2, d3, d4, d5⟩ := K5.a.cells; clear hX5 hS5 hw5 K5)
      | (go_at_call 15; refine (spec_flip_all z t w6 _ _ HN1.out.at1 HW.out.2.2).mono ?_; rintro e w5 ⟨su5, u5, S5, rfl, hw5, hX5, -, hS5⟩; have K5 := HN1.out.below hw5; obtain ⟨p5, c5, hv5⟩ := hX5.at0.xs.shape; obtain ⟨p6, c6, hv6⟩ := hX5.at0.sets.shape; subst hv5 hv6; have HK4 : Hid (SameX4 w w5 R2 R3 A t (.slice pw t.set.length cw) (.slice pv t.len cv) ∧ (t.flip z).At (w.heap.size + 3) w5 (.slice p6 (t.flip z).set.length c6) (.slice p5 (t.flip z).len c5)) := ⟨K5, hX5.at' _ (fun x hx => Nat.le_trans (HN1.out.bigA HQ.out) (hS5 x hx))⟩; obtain ⟨b0, b1, b2, b3, b4, b5⟩ := K5.n2.cells; obtain ⟨c0, c1, c2, c3, c4, c5'⟩ := K5.z3.cells; have cf := K5.z3.fr; obtain ⟨d0, d1, d2, d3, d4, d5⟩ := K5.a.cells; clear hX5 hS5 hw5 K5))
    all_goals
      go_wp2_with fail
      refine bodyPost_ret (v := .tuple #[.agg #[.int .i64 t.op, .int .i64 t.at_, .int .i64 t.n, .string t.s, .slice pw t.set.length cw, .slice pv t.len cv], .agg #[.int .i64 t.op, .int .i64 t.at_, .int .i64 t.n, .string t.s, .slice p6 (t.flip z).set.length c6, .slice p5 (t.flip z).len c5]]) (by rw [results_cellsX (p := 2) (q := 3) (ty := 32) (tz := 32) (by kernel_rfl)]; first | (simp [go_sem, b0, b1, b2, b3, b4, b5, c0, c1, c2, c3, c4, c5']; done) | (simp [go_sem, b0, b1, b2, b3, b4, b5, c0, c1, c2, c3, c4, c5', n23]; done) | (simp [go_sem, b0, b1, b2, b3, b4, b5, c0, c1, c2, c3, c4, c5', n32]; done)) rfl ?_
      obtain ⟨f0, f1, f2, f3⟩ := datX_head (datX_flip t z)
      refine ⟨t, _, _, t.flip z, _, _, by rw [f0, f1, f2, f3], ?_, HW.out.1, by rw [datX_flip]; exact HW.out.1, X.SetsLe.mono (by omega) _ HW.out.2.1, X.SetsLe.turn (fun s => flip_len s z) _ HW.out.2.1⟩
      first
        | exact BothX.put2 HK.out.1.inn HK.out.2 HK.out.1.bel (by have := HQ.out; omega) (by have := HQ.out; omega) _ _ _ _ _ _ _ _ _ _ _ _
        | exact BothX.put HK4.out.1.inn HK4.out.2 HK4.out.1.bel (by have := HQ.out; omega) (by have := HQ.out; omega) _ _ _ _ _ _
end Go.Proofs.YtgbfflpdpfgnbaaGreat

/- spec.WithAll. Condition: at most 2^20 of it. -/
namespace Go.Proofs.YtgbfflpdpfgnbaaGreat
open Go.ChangeShapes Go.WideShapes Go.ChangeAt Go.RowKit

def SpecwithAt (m : Int) (t : X) : Prop := ∀ (w : World) (sv v : Value), t.At 0 w sv v → t.weight ≤ 1048576 → Calls Tryz.prog 17 #[.agg #[.int .i64 t.op, .int .i64 t.at_, .int .i64 t.n, .string t.s, sv, v], .int .i64 m] w fun e w' =>
  ∃ su u S, e = .returned (.agg #[.int .i64 t.op, .int .i64 t.at_, .int .i64 t.n, .string t.s, su, u]) ∧ Below w.heap.size w w' ∧ XOwn w' (t.withAll m) su u S ∧ S.Nodup ∧ ∀ x ∈ S, w.heap.size ≤ x

theorem specwith_enter (vs : Array Value) (w : World) : (callFunc 17 vs).run Tryz.prog w = .ok (.enter 17 vs) w := by kernel_rfl
theorem with_cells (m : Int) (d : X) (su v : Value) : xcells (d.withAll m, su, v) = [.int .i64 d.op, .int .i64 d.at_, .int .i64 d.n, .string d.s, su, v] := by cases d <;> rfl

set_option maxRecDepth 100000 in
set_option maxHeartbeats 4000000 in
theorem spec_with_all (m : Int) (t : X) : SpecwithAt m t := by
  induction t with
  | no => intro w sv v h; exact h.elim
  | mk op a n s set len kid ih =>
    intro w sv v hin hwt
    obtain ⟨i0, hi0, hz0, hz1, hz2⟩ := info_parts stx_info
    obtain ⟨iI, hiI, hzI0, hzI1, hzI2⟩ := info_parts int_info
    have hsl : XsAt 0 w len kid v := hin.xs
    have hss : SetB 0 w sv set := hin.sets
    have HPL : Hid (s.size ≤ maxLen ∧ -9223372036854775808 ≤ n ∧ n ≤ 9223372036854775807) := ⟨hin.size, hin.num⟩
    obtain ⟨p, cap, rfl, -, hat⟩ := hsl.at
    obtain ⟨ps, cps, hsv⟩ := hss.shape
    subst hsv
    have hwe : (X.mk op a n s set len kid).weight = s.size + (set.length + (len + sumX (fun i => (kid i).weight) len)) := rfl
    have hlen : len ≤ 1048576 := by omega
    have hsl2 : set.length ≤ 1048576 := by omega
    have HRD : Hid (Rd w (.slice ps set.length cps) set) := hss.rd
    have IH : Hid (∀ i, i < len → ∀ (w : World) (sv v : Value), (kid i).At 0 w sv v → Calls Tryz.prog 17 #[.agg #[.int .i64 (kid i).op, .int .i64 (kid i).at_, .int .i64 (kid i).n, .string (kid i).s, sv, v], .int .i64 m] w fun e w' =>
      ∃ su u S, e = .returned (.agg #[.int .i64 (kid i).op, .int .i64 (kid i).at_, .int .i64 (kid i).n, .string (kid i).s, su, u]) ∧ Below w.heap.size w w' ∧ XOwn w' ((kid i).withAll m) su u S ∧ S.Nodup ∧ ∀ x ∈ S, w.heap.size ≤ x) := fun i hi w sv v h => ih i w sv v h (by
        have h1 := sumX_at (fun i => (kid i).weight) i len hi
        omega)
    have HAT : Hid (∀ i, i < len → ∃ b o su u, p = some ⟨b, o, none⟩ ∧ Head6 w b (o + i * 6) (kid i) su u ∧ (kid i).At 0 w su u) := hat
    obtain ⟨Y, hY⟩ : ∃ Y, Y = (if op = 2 then withL set m else set) := ⟨_, rfl⟩
    have HY : Hid ((X.mk op a n s set len kid).withAll m = .mk op a n s Y len (fun i => (kid i).withAll m)) := by show _ = _; rw [hY]; rfl
    have HYL : Hid (Y.length ≤ maxLen) := by
      show _ ≤ _
      rw [hY]
      have := with_len set m
      by_cases h : op = 2
      · rw [if_pos h]; unfold maxLen; omega
      · rw [if_neg h]; unfold maxLen; omega
    simp only [X.op, X.at_, X.n, X.s]
    rw [HY.out]
    clear hin hsl ih hat hwe hwt hss
    have e0 : ((w.alloc (.cells #[.int .i64 op, .int .i64 a, .int .i64 n, .string s, .slice ps set.length cps, .slice p len cap] 32)).alloc (.cells #[.int .i64 0, .int .i64 0, .int .i64 0, .string ⟨#[]⟩, .slice none 0 0, .slice none 0 0] 32)).heap.size = w.heap.size + 2 := by simp
    have e1 : ∀ ob, (((w.alloc (.cells #[.int .i64 op, .int .i64 a, .int .i64 n, .string s, .slice ps set.length cps, .slice p len cap] 32)).alloc (.cells #[.int .i64 0, .int .i64 0, .int .i64 0, .string ⟨#[]⟩, .slice none 0 0, .slice none 0 0] 32)).alloc ob).heap.size = w.heap.size + 1 + 1 + 1 := fun ob => by simp
    have hb0 : Below w.heap.size w ((w.alloc (.cells #[.int .i64 op, .int .i64 a, .int .i64 n, .string s, .slice ps set.length cps, .slice p len cap] 32)).alloc (.cells #[.int .i64 0, .int .i64 0, .int .i64 0, .string ⟨#[]⟩, .slice none 0 0, .slice none 0 0] 32)) := (newx w _).trans ((newx _ _).mono (by simp))
    have hbA : Below ((w.alloc (.cells #[.int .i64 op, .int .i64 a, .int .i64 n, .string s, .slice ps set.length cps, .slice p len cap] 32)).alloc (.cells #[.int .i64 0, .int .i64 0, .int .i64 0, .string ⟨#[]⟩, .slice none 0 0, .slice none 0 0] 32)).heap.size ((w.alloc (.cells #[.int .i64 op, .int .i64 a, .int .i64 n, .string s, .slice ps set.length cps, .slice p len cap] 32)).alloc (.cells #[.int .i64 0, .int .i64 0, .int .i64 0, .string ⟨#[]⟩, .slice none 0 0, .slice none 0 0] 32)) ((((w.alloc (.cells #[.int .i64 op, .int .i64 a, .int .i64 n, .string s, .slice ps set.length cps, .slice p len cap] 32)).alloc (.cells #[.int .i64 0, .int .i64 0, .int .i64 0, .string ⟨#[]⟩, .slice none 0 0, .slice none 0 0] 32)).alloc (.cells #[] 3)).drew) := (newx _ _).drew
    have HOA : Hid (((((w.alloc (.cells #[.int .i64 op, .int .i64 a, .int .i64 n, .string s, .slice ps set.length cps, .slice p len cap] 32)).alloc (.cells #[.int .i64 0, .int .i64 0, .int .i64 0, .string ⟨#[]⟩, .slice none 0 0, .slice none 0 0] 32)).alloc (.cells #[] 3)).drew).ownsRow (w.heap.size + 2) 3 1 (.slice (some ⟨w.heap.size + 1 + 1, 0, none⟩) 0 0) 0 [] ∧ (ps = none → set.length = 0 ∧ cps = 0) ∧ ∀ ad, ps = some ad → ∀ j u, (set.map (Value.int .i64))[j]? = some u → ((((w.alloc (.cells #[.int .i64 op, .int .i64 a, .int .i64 n, .string s, .slice ps set.length cps, .slice p len cap] 32)).alloc (.cells #[.int .i64 0, .int .i64 0, .int .i64 0, .string ⟨#[]⟩, .slice none 0 0, .slice none 0 0] 32)).alloc (.cells #[] 3)).drew).cell? (ad.add j) = some u) := by
      have h1 : ((((w.alloc (.cells #[.int .i64 op, .int .i64 a, .int .i64 n, .string s, .slice ps set.length cps, .slice p len cap] 32)).alloc (.cells #[.int .i64 0, .int .i64 0, .int .i64 0, .string ⟨#[]⟩, .slice none 0 0, .slice none 0 0] 32)).alloc (.cells #[] 3)).drew).heap[w.heap.size + 1 + 1]? = some (.cells #[] 3 (0, 0)) := by
        have h2 := heap_alloc_new ((w.alloc (.cells #[.int .i64 op, .int .i64 a, .int .i64 n, .string s, .slice ps set.length cps, .slice p len cap] 32)).alloc (.cells #[.int .i64 0, .int .i64 0, .int .i64 0, .string ⟨#[]⟩, .slice none 0 0, .slice none 0 0] 32)) (.cells #[] 3)
        rw [e0] at h2
        exact h2
      exact ⟨own_empty h1 (by omega), (HRD.out.below (hb0.trans (hbA.mono (by omega)))).src⟩
    have HBA : Hid (Below ((w.alloc (.cells #[.int .i64 op, .int .i64 a, .int .i64 n, .string s, .slice ps set.length cps, .slice p len cap] 32)).alloc (.cells #[.int .i64 0, .int .i64 0, .int .i64 0, .string ⟨#[]⟩, .slice none 0 0, .slice none 0 0] 32)).heap.size ((w.alloc (.cells #[.int .i64 op, .int .i64 a, .int .i64 n, .string s, .slice ps set.length cps, .slice p len cap] 32)).alloc (.cells #[.int .i64 0, .int .i64 0, .int .i64 0, .string ⟨#[]⟩, .slice none 0 0, .slice none 0 0] 32)) ((((w.alloc (.cells #[.int .i64 op, .int .i64 a, .int .i64 n, .string s, .slice ps set.length cps, .slice p len cap] 32)).alloc (.cells #[.int .i64 0, .int .i64 0, .int .i64 0, .string ⟨#[]⟩, .slice none 0 0, .slice none 0 0] 32)).alloc (.cells #[] 3)).drew) ∧ ((w.alloc (.cells #[.int .i64 op, .int .i64 a, .int .i64 n, .string s, .slice ps set.length cps, .slice p len cap] 32)).alloc (.cells #[.int .i64 0, .int .i64 0, .int .i64 0, .string ⟨#[]⟩, .slice none 0 0, .slice none 0 0] 32)).heap.size ≤ w.heap.size + 1 + 1) := ⟨hbA, by rw [e0]; omega⟩
    have hbB : Below ((w.alloc (.cells #[.int .i64 op, .int .i64 a, .int .i64 n, .string s, .slice ps set.length cps, .slice p len cap] 32)).alloc (.cells #[.int .i64 0, .int .i64 0, .int .i64 0, .string ⟨#[]⟩, .slice none 0 0, .slice none 0 0] 32)).heap.size ((w.alloc (.cells #[.int .i64 op, .int .i64 a, .int .i64 n, .string s, .slice ps set.length cps, .slice p len cap] 32)).alloc (.cells #[.int .i64 0, .int .i64 0, .int .i64 0, .string ⟨#[]⟩, .slice none 0 0, .slice none 0 0] 32)) (((((w.alloc (.cells #[.int .i64 op, .int .i64 a, .int .i64 n, .string s, .slice ps set.length cps, .slice p len cap] 32)).alloc (.cells #[.int .i64 0, .int .i64 0, .int .i64 0, .string ⟨#[]⟩, .slice none 0 0, .slice none 0 0] 32)).alloc (.cells #[.int .i64 0, .int .i64 0, .int .i64 0, .string ⟨#[]⟩, .slice none 0 0, .slice none 0 0] 32)).alloc (.cells #[] 3)).drew) := ((newx _ _).trans ((newx _ _).mono (by rw [e1]; omega))).drew
    have HOB : Hid ((((((w.alloc (.cells #[.int .i64 op, .int .i64 a, .int .i64 n, .string s, .slice ps set.length cps, .slice p len cap] 32)).alloc (.cells #[.int .i64 0, .int .i64 0, .int .i64 0, .string ⟨#[]⟩, .slice none 0 0, .slice none 0 0] 32)).alloc (.cells #[.int .i64 0, .int .i64 0, .int .i64 0, .string ⟨#[]⟩, .slice none 0 0, .slice none 0 0] 32)).alloc (.cells #[] 3)).drew).ownsRow (w.heap.size + 2) 3 1 (.slice (some ⟨w.heap.size + 1 + 1 + 1, 0, none⟩) 0 0) 0 [] ∧ (ps = none → set.length = 0 ∧ cps = 0) ∧ ∀ ad, ps = some ad → ∀ j u, (set.map (Value.int .i64))[j]? = some u → (((((w.alloc (.cells #[.int .i64 op, .int .i64 a, .int .i64 n, .string s, .slice ps set.length cps, .slice p len cap] 32)).alloc (.cells #[.int .i64 0, .int .i64 0, .int .i64 0, .string ⟨#[]⟩, .slice none 0 0, .slice none 0 0] 32)).alloc (.cells #[.int .i64 0, .int .i64 0, .int .i64 0, .string ⟨#[]⟩, .slice none 0 0, .slice none 0 0] 32)).alloc (.cells #[] 3)).drew).cell? (ad.add j) = some u) := by
      have h1 : (((((w.alloc (.cells #[.int .i64 op, .int .i64 a, .int .i64 n, .string s, .slice ps set.length cps, .slice p len cap] 32)).alloc (.cells #[.int .i64 0, .int .i64 0, .int .i64 0, .string ⟨#[]⟩, .slice none 0 0, .slice none 0 0] 32)).alloc (.cells #[.int .i64 0, .int .i64 0, .int .i64 0, .string ⟨#[]⟩, .slice none 0 0, .slice none 0 0] 32)).alloc (.cells #[] 3)).drew).heap[w.heap.size + 1 + 1 + 1]? = some (.cells #[] 3 (0, 0)) := by
        have h2 := heap_alloc_new (((w.alloc (.cells #[.int .i64 op, .int .i64 a, .int .i64 n, .string s, .slice ps set.length cps, .slice p len cap] 32)).alloc (.cells #[.int .i64 0, .int .i64 0, .int .i64 0, .string ⟨#[]⟩, .slice none 0 0, .slice none 0 0] 32)).alloc (.cells #[.int .i64 0, .int .i64 0, .int .i64 0, .string ⟨#[]⟩, .slice none 0 0, .slice none 0 0] 32)) (.cells #[] 3)
        rw [e1] at h2
        exact h2
      exact ⟨own_empty h1 (by omega), (HRD.out.below (hb0.trans (hbB.mono (by omega)))).src⟩
    have HBB : Hid (Below ((w.alloc (.cells #[.int .i64 op, .int .i64 a, .int .i64 n, .string s, .slice ps set.length cps, .slice p len cap] 32)).alloc (.cells #[.int .i64 0, .int .i64 0, .int .i64 0, .string ⟨#[]⟩, .slice none 0 0, .slice none 0 0] 32)).heap.size ((w.alloc (.cells #[.int .i64 op, .int .i64 a, .int .i64 n, .string s, .slice ps set.length cps, .slice p len cap] 32)).alloc (.cells #[.int .i64 0, .int .i64 0, .int .i64 0, .string ⟨#[]⟩, .slice none 0 0, .slice none 0 0] 32)) (((((w.alloc (.cells #[.int .i64 op, .int .i64 a, .int .i64 n, .string s, .slice ps set.length cps, .slice p len cap] 32)).alloc (.cells #[.int .i64 0, .int .i64 0, .int .i64 0, .string ⟨#[]⟩, .slice none 0 0, .slice none 0 0] 32)).alloc (.cells #[.int .i64 0, .int .i64 0, .int .i64 0, .string ⟨#[]⟩, .slice none 0 0, .slice none 0 0] 32)).alloc (.cells #[] 3)).drew) ∧ ((w.alloc (.cells #[.int .i64 op, .int .i64 a, .int .i64 n, .string s, .slice ps set.length cps, .slice p len cap] 32)).alloc (.cells #[.int .i64 0, .int .i64 0, .int .i64 0, .string ⟨#[]⟩, .slice none 0 0, .slice none 0 0] 32)).heap.size ≤ w.heap.size + 1 + 1 + 1) := ⟨hbB, by rw [e0]; omega⟩
    have hbC : Below ((w.alloc (.cells #[.int .i64 op, .int .i64 a, .int .i64 n, .string s, .slice ps set.length cps, .slice p len cap] 32)).alloc (.cells #[.int .i64 0, .int .i64 0, .int .i64 0, .string ⟨#[]⟩, .slice none 0 0, .slice none 0 0] 32)).heap.size ((w.alloc (.cells #[.int .i64 op, .int .i64 a, .int .i64 n, .string s, .slice ps set.length cps, .slice p len cap] 32)).alloc (.cells #[.int .i64 0, .int .i64 0, .int .i64 0, .string ⟨#[]⟩, .slice none 0 0, .slice none 0 0] 32)) (((((w.alloc (.cells #[.int .i64 op, .int .i64 a, .int .i64 n, .string s, .slice ps set.length cps, .slice p len cap] 32)).alloc (.cells #[.int .i64 0, .int .i64 0, .int .i64 0, .string ⟨#[]⟩, .slice none 0 0, .slice none 0 0] 32)).alloc (.cells #[] 3)).alloc (.cells #[.int .i64 0, .int .i64 0, .int .i64 0, .string ⟨#[]⟩, .slice none 0 0, .slice none 0 0] 32)).drew) := ((newx _ _).trans ((newx _ _).mono (by rw [e1]; omega))).drew
    have HOC : Hid ((((((w.alloc (.cells #[.int .i64 op, .int .i64 a, .int .i64 n, .string s, .slice ps set.length cps, .slice p len cap] 32)).alloc (.cells #[.int .i64 0, .int .i64 0, .int .i64 0, .string ⟨#[]⟩, .slice none 0 0, .slice none 0 0] 32)).alloc (.cells #[] 3)).alloc (.cells #[.int .i64 0, .int .i64 0, .int .i64 0, .string ⟨#[]⟩, .slice none 0 0, .slice none 0 0] 32)).drew).ownsRow (w.heap.size + 2) 3 1 (.slice (some ⟨w.heap.size + 1 + 1, 0, none⟩) 0 0) 0 [] ∧ (ps = none → set.length = 0 ∧ cps = 0) ∧ ∀ ad, ps = some ad → ∀ j u, (set.map (Value.int .i64))[j]? = some u → (((((w.alloc (.cells #[.int .i64 op, .int .i64 a, .int .i64 n, .string s, .slice ps set.length cps, .slice p len cap] 32)).alloc (.cells #[.int .i64 0, .int .i64 0, .int .i64 0, .string ⟨#[]⟩, .slice none 0 0, .slice none 0 0] 32)).alloc (.cells #[] 3)).alloc (.cells #[.int .i64 0, .int .i64 0, .int .i64 0, .string ⟨#[]⟩, .slice none 0 0, .slice none 0 0] 32)).drew).cell? (ad.add j) = some u) := by
      have h1 : (((((w.alloc (.cells #[.int .i64 op, .int .i64 a, .int .i64 n, .string s, .slice ps set.length cps, .slice p len cap] 32)).alloc (.cells #[.int .i64 0, .int .i64 0, .int .i64 0, .string ⟨#[]⟩, .slice none 0 0, .slice none 0 0] 32)).alloc (.cells #[] 3)).alloc (.cells #[.int .i64 0, .int .i64 0, .int .i64 0, .string ⟨#[]⟩, .slice none 0 0, .slice none 0 0] 32)).drew).heap[w.heap.size + 1 + 1]? = some (.cells #[] 3 (0, 0)) := by
        have h2 := heap_alloc_new ((w.alloc (.cells #[.int .i64 op, .int .i64 a, .int .i64 n, .string s, .slice ps set.length cps, .slice p len cap] 32)).alloc (.cells #[.int .i64 0, .int .i64 0, .int .i64 0, .string ⟨#[]⟩, .slice none 0 0, .slice none 0 0] 32)) (.cells #[] 3)
        rw [e0] at h2
        exact (Below.heap_alloc _ _ _ (by rw [e1]; omega)).trans h2
      exact ⟨own_empty h1 (by omega), (HRD.out.below (hb0.trans (hbC.mono (by omega)))).src⟩
    have HBC : Hid (Below ((w.alloc (.cells #[.int .i64 op, .int .i64 a, .int .i64 n, .string s, .slice ps set.length cps, .slice p len cap] 32)).alloc (.cells #[.int .i64 0, .int .i64 0, .int .i64 0, .string ⟨#[]⟩, .slice none 0 0, .slice none 0 0] 32)).heap.size ((w.alloc (.cells #[.int .i64 op, .int .i64 a, .int .i64 n, .string s, .slice ps set.length cps, .slice p len cap] 32)).alloc (.cells #[.int .i64 0, .int .i64 0, .int .i64 0, .string ⟨#[]⟩, .slice none 0 0, .slice none 0 0] 32)) (((((w.alloc (.cells #[.int .i64 op, .int .i64 a, .int .i64 n, .string s, .slice ps set.length cps, .slice p len cap] 32)).alloc (.cells #[.int .i64 0, .int .i64 0, .int .i64 0, .string ⟨#[]⟩, .slice none 0 0, .slice none 0 0] 32)).alloc (.cells #[] 3)).alloc (.cells #[.int .i64 0, .int .i64 0, .int .i64 0, .string ⟨#[]⟩, .slice none 0 0, .slice none 0 0] 32)).drew) ∧ ((w.alloc (.cells #[.int .i64 op, .int .i64 a, .int .i64 n, .string s, .slice ps set.length cps, .slice p len cap] 32)).alloc (.cells #[.int .i64 0, .int .i64 0, .int .i64 0, .string ⟨#[]⟩, .slice none 0 0, .slice none 0 0] 32)).heap.size ≤ w.heap.size + 1 + 1) := ⟨hbC, by rw [e0]; omega⟩
    have H6B : Hid (Six (((((w.alloc (.cells #[.int .i64 op, .int .i64 a, .int .i64 n, .string s, .slice ps set.length cps, .slice p len cap] 32)).alloc (.cells #[.int .i64 0, .int .i64 0, .int .i64 0, .string ⟨#[]⟩, .slice none 0 0, .slice none 0 0] 32)).alloc (.cells #[.int .i64 0, .int .i64 0, .int .i64 0, .string ⟨#[]⟩, .slice none 0 0, .slice none 0 0] 32)).alloc (.cells #[] 3)).drew) (w.heap.size + 1 + 1) 0 0 0 ⟨#[]⟩ (.slice none 0 0) (.slice none 0 0) 32) := by
      have h2 := heap_alloc_new ((w.alloc (.cells #[.int .i64 op, .int .i64 a, .int .i64 n, .string s, .slice ps set.length cps, .slice p len cap] 32)).alloc (.cells #[.int .i64 0, .int .i64 0, .int .i64 0, .string ⟨#[]⟩, .slice none 0 0, .slice none 0 0] 32)) (.cells #[.int .i64 0, .int .i64 0, .int .i64 0, .string ⟨#[]⟩, .slice none 0 0, .slice none 0 0] 32)
      rw [e0] at h2
      exact (Below.heap_alloc _ _ _ (by rw [e1]; omega)).trans h2
    have H6C : Hid (Six (((((w.alloc (.cells #[.int .i64 op, .int .i64 a, .int .i64 n, .string s, .slice ps set.length cps, .slice p len cap] 32)).alloc (.cells #[.int .i64 0, .int .i64 0, .int .i64 0, .string ⟨#[]⟩, .slice none 0 0, .slice none 0 0] 32)).alloc (.cells #[] 3)).alloc (.cells #[.int .i64 0, .int .i64 0, .int .i64 0, .string ⟨#[]⟩, .slice none 0 0, .slice none 0 0] 32)).drew) (w.heap.size + 1 + 1 + 1) 0 0 0 ⟨#[]⟩ (.slice none 0 0) (.slice none 0 0) 32) := by
      have h2 := heap_alloc_new (((w.alloc (.cells #[.int .i64 op, .int .i64 a, .int .i64 n, .string s, .slice ps set.length cps, .slice p len cap] 32)).alloc (.cells #[.int .i64 0, .int .i64 0, .int .i64 0, .string ⟨#[]⟩, .slice none 0 0, .slice none 0 0] 32)).alloc (.cells #[] 3)) (.cells #[.int .i64 0, .int .i64 0, .int .i64 0, .string ⟨#[]⟩, .slice none 0 0, .slice none 0 0] 32)
      rw [e1] at h2
      exact h2
    have HA6 : Hid (Six ((w.alloc (.cells #[.int .i64 op, .int .i64 a, .int .i64 n, .string s, .slice ps set.length cps, .slice p len cap] 32)).alloc (.cells #[.int .i64 0, .int .i64 0, .int .i64 0, .string ⟨#[]⟩, .slice none 0 0, .slice none 0 0] 32)) w.heap.size op a n s (.slice ps set.length cps) (.slice p len cap) 32) := (Below.heap_alloc _ _ _ (by simp)).trans (heap_alloc_new w _)
    have HLM : Hid ((set.map (Value.int .i64)).length = set.length * 1) := by show _ = _; simp
    have HL1 : Hid (0 + set.length ≤ maxLen) := by show _ ≤ _; unfold maxLen; omega
    have HL2 : Hid ((0 + set.length) * 8 ≤ 140737488355328) := by show _ ≤ _; omega
    have HSZA : Hid (w.heap.size + 2 ≤ ((((w.alloc (.cells #[.int .i64 op, .int .i64 a, .int .i64 n, .string s, .slice ps set.length cps, .slice p len cap] 32)).alloc (.cells #[.int .i64 0, .int .i64 0, .int .i64 0, .string ⟨#[]⟩, .slice none 0 0, .slice none 0 0] 32)).alloc (.cells #[] 3)).drew).heap.size) := by show _ ≤ _; simp
    have HSZB : Hid (w.heap.size + 2 ≤ (((((w.alloc (.cells #[.int .i64 op, .int .i64 a, .int .i64 n, .string s, .slice ps set.length cps, .slice p len cap] 32)).alloc (.cells #[.int .i64 0, .int .i64 0, .int .i64 0, .string ⟨#[]⟩, .slice none 0 0, .slice none 0 0] 32)).alloc (.cells #[.int .i64 0, .int .i64 0, .int .i64 0, .string ⟨#[]⟩, .slice none 0 0, .slice none 0 0] 32)).alloc (.cells #[] 3)).drew).heap.size) := by show _ ≤ _; simp
    have HSZC : Hid (w.heap.size + 2 ≤ (((((w.alloc (.cells #[.int .i64 op, .int .i64 a, .int .i64 n, .string s, .slice ps set.length cps, .slice p len cap] 32)).alloc (.cells #[.int .i64 0, .int .i64 0, .int .i64 0, .string ⟨#[]⟩, .slice none 0 0, .slice none 0 0] 32)).alloc (.cells #[] 3)).alloc (.cells #[.int .i64 0, .int .i64 0, .int .i64 0, .string ⟨#[]⟩, .slice none 0 0, .slice none 0 0] 32)).drew).heap.size) := by show _ ≤ _; simp
    clear hbA hbB hbC hb0 e0 e1
    go_enter Tryz.func17, Tryz.ntmps17
    go_upto_region 1 with fail
    go_cut [5] from 7 (fun v5 wx => ∃ (O B : Nat) (sv : Value), v5 = .pointer (some ⟨O, 0, none⟩) ∧ XLoop [] w wx B w.heap.size (w.heap.size + 1) O (.cells #[.int .i64 op, .int .i64 a, .int .i64 n, .string s, .slice ps set.length cps, .slice p len cap] 32) op a n s set sv (fun i => (kid i).withAll m) 0 (.slice none 0 0) [] [])
    case first =>
      go_region_held3 (fun w' => w'.cell? ⟨w.heap.size, 0, none⟩ = some (.int .i64 op) ∧ w'.cell? ⟨w.heap.size, 1, none⟩ = some (.int .i64 a) ∧ w'.cell? ⟨w.heap.size, 2, none⟩ = some (.int .i64 n) ∧ w'.cell? ⟨w.heap.size, 3, none⟩ = some (.string s) ∧ w'.cell? ⟨w.heap.size, 4, none⟩ = some (.slice ps set.length cps)) (first | go_keep | (with_reducible exact hS4) | (with_reducible exact hSP)) (first
        | (refine step_append_any rfl (.tmp 15) (.tmp 17) 27 rfl (w.heap.size + 2) 3 iI (.int .i64 0) 1 8 Tryz.underlying27 hiI hzI0 hzI1 hzI2 rfl Nat.one_pos (.slice (some ⟨w.heap.size + 1 + 1, 0, none⟩) 0 0) 0 [] rfl ?_ ps set.length cps (set.map (Value.int .i64)) rfl HLM.out HOA.out.2.1 ?_ (ints_cells set) HL1.out HL2.out ?_ ?_; (with_reducible exact HOA.out.1); (with_reducible exact HOA.out.2.2); exact HSZA.out; intro v' w4 hown4 hg4; have hR := own_grown HBA.out.1 HBA.out.2 hown4.out hg4.out; obtain ⟨pv, cv, hv⟩ := own_shape hR.1; subst hv; have hA4 := HA6.out.below hR.2; have hS4 := five_of hA4; clear hA4; have HEND : Hid (∃ (O B : Nat) (sv : Value), Value.pointer (some ⟨w4.heap.size, 0, none⟩) = .pointer (some ⟨O, 0, none⟩) ∧ XLoop [] w (w4.alloc (.cells #[.int .i64 op, .int .i64 a, .int .i64 n, .string s, .slice pv set.length cv, .slice none 0 0] 32)) B w.heap.size (w.heap.size + 1) O (.cells #[.int .i64 op, .int .i64 a, .int .i64 n, .string s, .slice ps set.length cps, .slice p len cap] 32) op a n s set sv (fun i => (kid i).withAll m) 0 (.slice none 0 0) [] []) := pt_ex (start_alloc _ hR.2 hR.1); clear hown4 hg4 hR)
        | (refine step_append_any rfl (.tmp 15) (.tmp 17) 27 rfl (w.heap.size + 2) 3 iI (.int .i64 0) 1 8 Tryz.underlying27 hiI hzI0 hzI1 hzI2 rfl Nat.one_pos (.slice (some ⟨w.heap.size + 1 + 1 + 1, 0, none⟩) 0 0) 0 [] rfl ?_ ps set.length cps (set.map (Value.int .i64)) rfl HLM.out HOA.out.2.1 ?_ (ints_cells set) HL1.out HL2.out ?_ ?_; (with_reducible exact HOB.out.1); (with_reducible exact HOB.out.2.2); exact HSZB.out; intro v' w4 hown4 hg4; have hR := own_grown HBB.out.1 HBB.out.2 hown4.out hg4.out; obtain ⟨pv, cv, hv⟩ := own_shape hR.1; subst hv; have hA4 := HA6.out.below hR.2; have hS4 := five_of hA4; have hSP := five_of (six_put (g := w.heap.size + 1 + 1) hA4 op a n s (.slice pv set.length cv) (.slice none 0 0) (by omega)); clear hA4; have h6 := H6B.out.grown hg4.out (by omega); obtain ⟨q0, q1, q2, q3, q4, q5⟩ := h6.cells; have qf := h6.fr; have HEND : Hid (∃ (O B : Nat) (sv : Value), Value.pointer (some ⟨w.heap.size + 1 + 1, 0, none⟩) = .pointer (some ⟨O, 0, none⟩) ∧ XLoop [] w (put6 w4 (w.heap.size + 1 + 1) op a n s (.slice pv set.length cv) (.slice none 0 0)) B w.heap.size (w.heap.size + 1) O (.cells #[.int .i64 op, .int .i64 a, .int .i64 n, .string s, .slice ps set.length cps, .slice p len cap] 32) op a n s set sv (fun i => (kid i).withAll m) 0 (.slice none 0 0) [] []) := pt_ex (start_put _ hR.2 hR.1 (by omega) h6 (own_ne6 hR.1 h6)); clear h6; clear hown4 hg4 hR)
        | (refine step_append_any rfl (.tmp 15) (.tmp 17) 27 rfl (w.heap.size + 2) 3 iI (.int .i64 0) 1 8 Tryz.underlying27 hiI hzI0 hzI1 hzI2 rfl Nat.one_pos (.slice (some ⟨w.heap.size + 1 + 1, 0, none⟩) 0 0) 0 [] rfl ?_ ps set.length cps (set.map (Value.int .i64)) rfl HLM.out HOA.out.2.1 ?_ (ints_cells set) HL1.out HL2.out ?_ ?_; (with_reducible exact HOC.out.1); (with_reducible exact HOC.out.2.2); exact HSZC.out; intro v' w4 hown4 hg4; have hR := own_grown HBC.out.1 HBC.out.2 hown4.out hg4.out; obtain ⟨pv, cv, hv⟩ := own_shape hR.1; subst hv; have hA4 := HA6.out.below hR.2; have hS4 := five_of hA4; have hSP := five_of (six_put (g := w.heap.size + 1 + 1 + 1) hA4 op a n s (.slice pv set.length cv) (.slice none 0 0) (by omega)); clear hA4; have h6 := H6C.out.grown hg4.out (by omega); obtain ⟨q0, q1, q2, q3, q4, q5⟩ := h6.cells; have qf := h6.fr; have HEND : Hid (∃ (O B : Nat) (sv : Value), Value.pointer (some ⟨w.heap.size + 1 + 1 + 1, 0, none⟩) = .pointer (some ⟨O, 0, none⟩) ∧ XLoop [] w (put6 w4 (w.heap.size + 1 + 1 + 1) op a n s (.slice pv set.length cv) (.slice none 0 0)) B w.heap.size (w.heap.size + 1) O (.cells #[.int .i64 op, .int .i64 a, .int .i64 n, .string s, .slice ps set.length cps, .slice p len cap] 32) op a n s set sv (fun i => (kid i).withAll m) 0 (.slice none 0 0) [] []) := pt_ex (start_put _ hR.2 hR.1 (by omega) h6 (own_ne6 hR.1 h6)); clear h6; clear hown4 hg4 hR))
      all_goals
        go_wp2_with fail
        go_meet
        exact HEND.out
    case rest =>
      obtain ⟨O, B0, sv0, rfl, hL0⟩ := hcut
      have H00 : Hid (XLoop [] w wc B0 w.heap.size (w.heap.size + 1) O (.cells #[.int .i64 op, .int .i64 a, .int .i64 n, .string s, .slice ps set.length cps, .slice p len cap] 32) op a n s set sv0 (fun i => (kid i).withAll m) 0 (.slice none 0 0) [] []) := hL0
      clear hL0 HOA HOB HOC HBA HBB HBC H6B H6C HA6 HSZA HSZB HSZC HLM HL1 HL2
      obtain ⟨C, hC⟩ : ∃ C, C = w.heap.size := ⟨_, rfl⟩
      obtain ⟨R, hR⟩ : ∃ R, R = w.heap.size + 1 := ⟨_, rfl⟩
      have HH0 : Hid (XLoop [] w wc B0 C R O (.cells #[.int .i64 op, .int .i64 a, .int .i64 n, .string s, .slice ps set.length cps, .slice p len cap] 32) op a n s set sv0 (fun i => (kid i).withAll m) 0 (.slice none 0 0) [] []) := by
        show XLoop _ _ _ _ _ _ _ _ _ _ _ _ _ _ _ _ _ _ _
        rw [hR, hC]; exact H00.out
      clear H00
      rw [← hR, ← hC]
      have hCO : C ≠ O := HH0.out.ord.2.2.2.2.2.2.2.1
      have hRO : R ≠ O := HH0.out.ord.2.2.2.2.2.2.2.2
      clear hC hR
      have hA0 : Six wc C op a n s (.slice ps set.length cps) (.slice p len cap) 32 := HH0.out.arg
      obtain ⟨z0, z1, z2, z3, z4, z5⟩ := hA0.cells
      clear hA0
      go_upto_if 22 with fail
      go_cut [] from 7 (fun wx => ∃ (B : Nat) (sv : Value), XLoop [] w wx B C R O (.cells #[.int .i64 op, .int .i64 a, .int .i64 n, .string s, .slice ps set.length cps, .slice p len cap] 32) op a n s Y sv (fun i => (kid i).withAll m) 0 (.slice none 0 0) [] [])
      case first =>
        by_cases h2 : op = 2
        · have HYY : Hid (Y = withL set m) := hY.trans (if_pos h2)
          clear hY
          subst h2
          go_wp2_with fail
          refine (spec_with set m (.slice ps set.length cps) _ (HRD.out.below HH0.out.bel.toBelow) (by omega)).mono ?_
          rintro e w2 ⟨v', rfl, hb2, hown2⟩
          obtain ⟨pv, cv, hv⟩ := own_shape hown2
          subst hv
          have h0 := HH0.out.from (B' := wc.heap.size) HH0.out.size (Nat.le_refl _)
          have HX2 := h0.turnIn hb2 hown2
          have hO2 := h0.out.below hb2
          have x4 := hO2.cells.2.2.2.2.1
          have xf := hO2.fr 4
          have HXX : Hid (XLoop [] w (w2.setCell ⟨O, 4, none⟩ (.slice pv (withL set m).length cv)) w2.heap.size C R O (.cells #[.int .i64 2, .int .i64 a, .int .i64 n, .string s, .slice ps set.length cps, .slice p len cap] 32) 2 a n s (withL set m) (.slice pv (withL set m).length cv) (fun i => (kid i).withAll m) 0 (.slice none 0 0) [] []) := HX2
          clear HX2 hO2 hb2 hown2 h0
          go_wp2_with fail
          go_meet
          exact ⟨_, _, by rw [HYY.out]; exact HXX.out⟩
        · have HYY : Hid (Y = set) := hY.trans (if_neg h2)
          have d2 : (op == 2) = false := by simpa using h2
          clear hY h2
          go_wp2_with fail
          go_meet
          exact ⟨_, _, by rw [HYY.out]; exact HH0.out⟩
      case rest =>
      clear HH0 hY z0 z1 z2 z3 z4 z5
      obtain ⟨B, sv, hL0⟩ := hcut
      have HH0 : Hid (XLoop [] w wc B C R O (.cells #[.int .i64 op, .int .i64 a, .int .i64 n, .string s, .slice ps set.length cps, .slice p len cap] 32) op a n s Y sv (fun i => (kid i).withAll m) 0 (.slice none 0 0) [] []) := hL0
      clear hL0
      go_wp2_with fail
      go_loopw [6] (fun v4 wr => ∃ (k : Nat) (lv : Value) (la : List XR) (SS : List (List Nat)), v4 = .int .i64 k ∧ k ≤ len ∧ XLoop [] w wr B C R O (.cells #[.int .i64 op, .int .i64 a, .int .i64 n, .string s, .slice ps set.length cps, .slice p len cap] 32) op a n s Y sv (fun i => (kid i).withAll m) k lv la SS) (fun v4 _ => len - (intOf v4).toNat)
      case atStart => exact ⟨0, _, _, _, rfl, Nat.zero_le _, HH0.out⟩
      case round =>
        obtain ⟨k, lv, la, SS, rfl, hk, hL⟩ := hrel
        have HL : Hid (XLoop [] w wr B C R O (.cells #[.int .i64 op, .int .i64 a, .int .i64 n, .string s, .slice ps set.length cps, .slice p len cap] 32) op a n s Y sv (fun i => (kid i).withAll m) k lv la SS) := hL
        have hA : Six wr C op a n s (.slice ps set.length cps) (.slice p len cap) 32 := hL.arg
        have a4 := hA.cells.2.2.2.2.2
        obtain ⟨o0, o1, o2, o3, o4, o5⟩ := hL.out.cells
        clear hL HH0
        by_cases hkl : (k : Int) < len
        · obtain ⟨b, o, ux, u, hp, hd, hinu⟩ := HAT.out k (by omega)
          subst hp
          obtain ⟨c0, c1, c2, c3, c4, c5⟩ := hd.below HL.out.bel.toBelow
          have HIN : Hid ((kid k).At 0 wr.drew ux u) := X.At.below (Below.refl _ wr).drew (X.At.below HL.out.bel.toBelow hinu)
          have HKL : Hid (k < len) := by show k < len; omega
          have HOWN : Hid (wr.ownsRow 0 32 6 lv k (xrows la)) := HL.out.rows.own
          have hOl : O < wr.heap.size := HL.out.out.lt
          have hCl : C < wr.heap.size := hA.lt
          have hbl : b < wr.heap.size := World.block_lt_of_cell? wr _ c0
          clear hd hinu hA
          have hki0 : (0 : Int) ≤ (k : Int) := by omega
          have HCF : Hid (∀ (vs : Array Value) (w : World), (callFunc 17 vs).run Tryz.prog w = .ok (.enter 17 vs) w) := fun vs w => specwith_enter vs w
          go_wp2_with fail
          go_region_law
            (first
              | (refine step_call2 rfl 17 (.tmp 41) (.tmp 42) 32 3 rfl HCF.out (.agg #[.int .i64 (kid k).op, .int .i64 (kid k).at_, .int .i64 (kid k).n, .string (kid k).s, ux, u]) (.int .i64 m) rfl rfl _ (IH.out k HKL.out wr.drew ux u HIN.out) ?_; rintro e w1 ⟨su', v', T, rfl, hb1, hd1, hn1, hT1⟩; refine ⟨_, rfl, ?_⟩; have HC1 : Hid (Below wr.heap.size wr w1 ∧ XOwn w1 ((kid k).withAll m) su' v' T ∧ T.Nodup ∧ ∀ x ∈ T, wr.heap.size ≤ x) := ⟨⟨hb1.os, hb1.tape, hb1.output, hb1.size, hb1.block⟩, hd1, hn1, hT1⟩; obtain ⟨pv, cv, hv'⟩ := hd1.at0.xs.shape; obtain ⟨pw, cw, hw'⟩ := hd1.at0.sets.shape; subst hv' hw'; have z4 : w1.cell? ⟨O, 5, none⟩ = some lv := (HC1.out.1.cell (by exact hOl)).trans o5; have z5 : ∀ ob, (w1.alloc ob).cell? ⟨O, 5, none⟩ = some lv := fun ob => ((newx w1 ob).cell (by exact Nat.lt_of_lt_of_le hOl HC1.out.1.size)).trans z4; have y4 : w1.cell? ⟨C, 5, none⟩ = some (.slice (some ⟨b, o, none⟩) len cap) := (HC1.out.1.cell (by exact hCl)).trans a4; have HO1 : Hid (w1.ownsRow 0 32 6 lv k (xrows la)) := own_belowX HOWN.out HC1.out.1; clear hb1 hd1 hn1 hT1)
              | (refine step_append_lies _ (by rfl) _ _ _ (by rfl) 0 32 i0 _ 6 88 Tryz.underlying30 hi0 hz0 hz1 hz2 rfl (by omega) lv k (xrows la) (by rfl) (HO1.out.alloc _) ⟨w1.heap.size, 0, none⟩ 1 1 [.int .i64 (kid k).op, .int .i64 (kid k).at_, .int .i64 (kid k).n, .string (kid k).s, .slice pw ((kid k).withAll m).set.length cw, .slice pv ((kid k).withAll m).len cv] (by rfl) (by rfl) (World.news_of_block (cs := #[.int .i64 (kid k).op, .int .i64 (kid k).at_, .int .i64 (kid k).n, .string (kid k).s, .slice pw ((kid k).withAll m).set.length cw, .slice pv ((kid k).withAll m).len cv]) (t := 32) (fr := (0, 0)) (heap_alloc_new w1 _)) (by simp [Value.oneCell']) (by omega) (by unfold maxLen; omega) (by omega) (Nat.zero_le _) (w1.heap.size + 1) (by simp) ?_; intro gg cap3 w3 hown3 hgrow hat hlt3; obtain ⟨hO3, hnx⟩ := HL.out.next (Fr.below HC1.out.1 []) HC1.out.2.1 HC1.out.2.2.1 HC1.out.2.2.2 (by rw [with_cells]; exact hown3) hgrow hat; have HNX : Hid (XLoop [] w (w3.setCell ⟨O, 5, none⟩ (.slice (some ⟨gg, 0, none⟩) (k + 1) cap3)) B C R O (.cells #[.int .i64 op, .int .i64 a, .int .i64 n, .string s, .slice ps set.length cps, .slice (some ⟨b, o, none⟩) len cap] 32) op a n s Y sv (fun i => (kid i).withAll m) (k + 1) (.slice (some ⟨gg, 0, none⟩) (k + 1) cap3) (la ++ [((kid k).withAll m, .slice pw ((kid k).withAll m).set.length cw, .slice pv ((kid k).withAll m).len cv)]) (SS ++ [T])) := hnx; have x4 : w3.cell? ⟨O, 5, none⟩ = some lv := (World.cell?_of_block (a := ⟨O, 5, none⟩) hO3).trans o5; have xf : w3.frozen? ⟨O, 5, none⟩ = false := (World.frozen?_of_block (a := ⟨O, 5, none⟩) hO3).trans (HL.out.out.fr 5); clear hO3 hnx hown3 hgrow hat hlt3))
          all_goals
            go_wp2_with fail
            go_roundw
            case rel => exact ⟨k + 1, _, _, _, by go_num, by omega, HNX.out⟩
            case measure => simp [intOf]; omega
        · obtain rfl : k = len := by omega
          obtain ⟨r0, r1, r2, r3, r4, r5⟩ := HL.out.res.cells
          have rf := HL.out.res.fr
          obtain ⟨hfr, S, hX, hSn, hSg⟩ := HL.out.done ⟨HPL.out.1, HPL.out.2, HYL.out⟩
          obtain ⟨pv, cv, hlv⟩ := hX.at0.xs.shape
          obtain ⟨pw, cw, hsv⟩ := hX.at0.sets.shape
          simp only [X.len, X.set] at hlv hsv
          subst hlv hsv
          have HS : Hid (Fr [] w (put6 wr R op a n s (.slice pw Y.length cw) (.slice pv k cv)) ∧ XOwn (put6 wr R op a n s (.slice pw Y.length cw) (.slice pv k cv)) (.mk op a n s Y k (fun i => (kid i).withAll m)) (.slice pw Y.length cw) (.slice pv k cv) S ∧ S.Nodup ∧ ∀ x ∈ S, w.heap.size ≤ x) := ⟨hfr, hX, hSn, hSg⟩
          clear hfr hX hSn hSg HL HAT IH
          generalize Y.length = yl at *
          go_wp2_with fail
          refine bodyPost_ret (v := .agg #[.int .i64 op, .int .i64 a, .int .i64 n, .string s, .slice pw yl cw, .slice pv k cv]) (by rw [results_cellX (p := 4) (ty := 32) (by kernel_rfl)]; simp [go_sem, r0, r1, r2, r3, r4, r5]) rfl ⟨_, _, rfl, HS.out.1.toBelow, S, HS.out.2.1, HS.out.2.2.1, HS.out.2.2.2⟩
end Go.Proofs.YtgbfflpdpfgnbaaGreat

/- laws.toDat and laws.toDatS: a datum laid anew, in memory of the call's own. Condition: at most 2^20 of it. -/
namespace Go.Proofs.YtgbfflpdpfgnbaaGreat
open Go.ChangeShapes Go.WideShapes Go.ChangeAt Go.RowKit

theorem dat_info : (Tryz.prog.info? 26).map (fun i => (i.zero, i.size, i.bytes)) = some (some (.agg #[.int .i64 0, .int .i64 0, .int .i64 0, .string ⟨#[]⟩, .slice none 0 0]), 5, 64) := by kernel_rfl

end Go.Proofs.YtgbfflpdpfgnbaaGreat
