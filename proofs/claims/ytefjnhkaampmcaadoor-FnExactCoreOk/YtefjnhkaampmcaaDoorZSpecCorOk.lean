/- spec.l9Deep and spec.CoreOk. Condition: at most 2^20 in all. -/
import Derived.Test.YtefjnhkaampmcaaDoorZSpecRightC
import Derived.Test.YtefjnhkaampmcaaDoorZSpecCorSize
import Derived.Test.YtefjnhkaampmcaaDoorZSpecDeep
namespace Go.Proofs.YtefjnhkaampmcaaDoor
open Go.ChangeShapes Go.WideShapes Go.ChangeAt Go.RowKit

def CDeepAt (t : C) : Prop := ∀ (w : World) (v : Value), t.In w v → t.count ≤ 1099511627776 →
  Calls Tryd.prog 11 #[.agg #[.int .i64 t.op, .int .i64 t.n, .string t.s, .string t.t2, v]] w fun e w' => e = .returned (.int .i64 t.deep) ∧ Below w.heap.size w w'

set_option maxRecDepth 100000 in
set_option maxHeartbeats 2000000 in
theorem spec_cdeep (t : C) : CDeepAt t := by
  induction t with
  | no => intro w v h _; exact h.elim
  | mk op n s t2 len kid ih =>
    intro w v hin hc
    have h1 := hin.sl
    have HCE : Hid ((C.mk op n s t2 len kid).count = 1 + sumTo (fun i => (kid i).count) len) := rfl
    have HDE : Hid ((C.mk op n s t2 len kid).deep = maxTo (fun i => (kid i).deep) len + 1) := rfl
    have hdc := (C.mk op n s t2 len kid).deep_count
    simp only [C.op, C.n, C.s, C.t2, C.len, C.kid] at h1 ⊢
    generalize (C.mk op n s t2 len kid).count = CN at *
    generalize (C.mk op n s t2 len kid).deep = E at *
    obtain ⟨p, cap, e1, hlen, hat⟩ := h1.at
    have HC : Hid (∀ i, i < len → ∃ b o u, p = some ⟨b, o, none⟩ ∧ HeadC w b (o + i * 5) (kid i) u ∧ (kid i).In w u) := hat
    have IH : Hid (∀ i, CDeepAt (kid i)) := ih
    clear hin h1 hat ih
    unfold maxLen at hlen
    subst e1
    go_enter Tryd.func11, Tryd.ntmps11
    go_wp2_with fail
    go_loopw [3, 4] (fun x i wr => ∃ k c : Nat, i = .int .i64 k ∧ x = .int .i64 c ∧ k ≤ len ∧ c = maxTo (fun i => (kid i).deep) k ∧ wr.cell? ⟨w.heap.size, 4, none⟩ = some (.slice p len cap) ∧ Below w.heap.size w wr) (fun _ i _ => len - (intOf i).toNat)
    case atStart => exact ⟨0, 0, rfl, rfl, Nat.zero_le _, rfl, by simp, newb w _⟩
    case round =>
      obtain ⟨k, c, rfl, rfl, hk, hcc, hc1, hbel⟩ := hrel
      have HBL : Hid (Below w.heap.size w wr) := hbel
      have HS : Hid (c = maxTo (fun i => (kid i).deep) k) := hcc
      clear hbel hcc
      by_cases hlt : (k : Int) < len
      · have hlt' : k < len := by omega
        obtain ⟨b, o, u, hp, hd, hin⟩ := HC.out k hlt'
        subst hp
        obtain ⟨c0, c1, c2, c3, c4⟩ := hd.below HBL.out
        have HI : Hid ((kid k).In wr u) := hin.below HBL.out
        have hck : (kid k).count ≤ 1099511627776 := by
          have h1 := sumTo_at (fun i => (kid i).count) k len hlt'
          have h3 := HCE.out
          omega
        clear hd hin
        go_wp2_with fail
        refine (IH.out k wr u HI.out hck).mono ?_
        rintro e w1 ⟨rfl, hb1⟩
        have HB1 : Hid (Below w.heap.size w w1) := HBL.out.trans (hb1.mono HBL.out.size)
        have HX : Hid (w1.cell? ⟨w.heap.size, 4, none⟩ = some (.slice (some ⟨b, o, none⟩) len cap)) := keeps hb1 _ _ hc1
        clear hb1 c0 c1 c2 c3 c4
        go_wp2_with fail
        refine (spec_max c (kid k).deep _).mono ?_
        rintro e w2 ⟨rfl, hw2⟩
        subst hw2
        go_wp2_with fail
        go_roundw
        case rel => exact ⟨k + 1, max c (kid k).deep, by go_num, rfl, by omega, by rw [HS.out]; rfl, HX.out, HB1.out⟩
        case measure => simp [intOf]; omega
      · have hke : k = len := by omega
        subst hke
        have HE : Hid (c + 1 = E) := by
          have h1 := HS.out
          have h2 := HDE.out
          show _ = _
          omega
        have hcb : c ≤ 1099511627776 := by have := HE.out; omega
        go_wp2_with fail
        go_ret
        exact ⟨by rw [← HE.out]; rfl, HBL.out⟩

set_option maxRecDepth 100000 in
set_option maxHeartbeats 4000000 in
theorem spec_coreok (t : C) (w : World) (v : Value) (hin : t.In w v) (hw : t.weight ≤ 1048576) :
    Calls Tryd.prog 5 #[.agg #[.int .i64 t.op, .int .i64 t.n, .string t.s, .string t.t2, v]] w fun e w' => e = .returned (.bool (coreB t)) ∧ Below w.heap.size w w' := by
  obtain ⟨p, cap, ev⟩ := hin.sl.shape
  have hcw : t.count ≤ 1048577 := by have := t.count_weight; omega
  have hdc : t.deep ≤ 1048577 := Nat.le_trans t.deep_count hcw
  obtain ⟨W, hW⟩ : ∃ W, W = w.alloc (.cells #[.int .i64 t.op, .int .i64 t.n, .string t.s, .string t.t2, v] 29) := ⟨_, rfl⟩
  obtain ⟨TB, hTB⟩ : ∃ TB, TB = w.heap.size := ⟨_, rfl⟩
  have HBW : Hid (Below w.heap.size w W ∧ FiveC W TB t.op t.n t.s t.t2 v 29) := ⟨by rw [hW]; exact newb w _, by rw [hW, hTB]; exact heap_alloc_new w _⟩
  have HWW : Hid (W = w.alloc (.cells #[.int .i64 t.op, .int .i64 t.n, .string t.s, .string t.t2, v] 29) ∧ TB = w.heap.size) := ⟨hW, hTB⟩
  have HI : Hid (∀ w1, Below W.heap.size W w1 → t.In w1 v) := fun w1 h => (hin.below HBW.out.1).below h
  have HSZ : Hid (∀ w1, Below W.heap.size W w1 → Calls Tryd.prog 10 #[.agg #[.int .i64 t.op, .int .i64 t.n, .string t.s, .string t.t2, v]] w1 fun e w' => e = .returned (.int .i64 t.count) ∧ Below w1.heap.size w1 w') := fun w1 h => spec_csize t w1 v (HI.out w1 h) (by omega)
  have HDP : Hid (∀ w1, Below W.heap.size W w1 → Calls Tryd.prog 11 #[.agg #[.int .i64 t.op, .int .i64 t.n, .string t.s, .string t.t2, v]] w1 fun e w' => e = .returned (.int .i64 t.deep) ∧ Below w1.heap.size w1 w') := fun w1 h => spec_cdeep t w1 v (HI.out w1 h) (by omega)
  have HRI : Hid (∀ w1 ev, Below W.heap.size W w1 → EnvS w1 ev [] → Calls Tryd.prog 12 #[.agg #[.int .i64 t.op, .int .i64 t.n, .string t.s, .string t.t2, v], ev] w1 fun e w' => e = .returned (.bool (t.right [])) ∧ Below w1.heap.size w1 w') := fun w1 ev h he => spec_right t w1 v ev [] (HI.out w1 h) he hcw (by simp; omega)
  have HR : Hid (coreB t = (decide (t.count ≤ 3000) && (decide (t.deep ≤ 150) && t.right []))) := rfl
  clear hin hw hW hTB
  generalize coreB t = R at *
  generalize t.count = cn at *
  generalize t.deep = dp at *
  generalize t.right [] = rt at *
  obtain ⟨m0, m1, m2, m3, m4⟩ := HBW.out.2.cells
  subst ev
  go_enter Tryd.func5, Tryd.ntmps5
  go_upto_region 1 with fail
  rw [← HWW.out.1, ← HWW.out.2]
  go_wp2_with fail
  refine (HSZ.out W (Below.refl _ _)).mono ?_
  rintro e w1 ⟨rfl, hb1⟩
  have HB1 : Hid (Below W.heap.size W w1 ∧ FiveC w1 TB t.op t.n t.s t.t2 (.slice p t.len cap) 29) := ⟨hb1, HBW.out.2.below hb1⟩
  clear hb1 m0 m1 m2 m3 m4
  by_cases hc : (cn : Int) ≤ 3000
  · obtain ⟨m0, m1, m2, m3, m4⟩ := HB1.out.2.cells
    go_wp2_with fail
    refine (HDP.out w1 HB1.out.1).mono ?_
    rintro e w2 ⟨rfl, hb2⟩
    have HB2 : Hid (Below W.heap.size W w2 ∧ FiveC w2 TB t.op t.n t.s t.t2 (.slice p t.len cap) 29) := ⟨HB1.out.1.trans (hb2.mono HB1.out.1.size), HB1.out.2.below hb2⟩
    clear hb2 m0 m1 m2 m3 m4
    by_cases hd : (dp : Int) ≤ 150
    · obtain ⟨m0, m1, m2, m3, m4⟩ := HB2.out.2.cells
      have HR2 : Hid (R = rt) := by show _ = _; rw [HR.out, decide_eq_true (by omega), decide_eq_true (by omega)]; rfl
      have HE : Hid (EnvS (w2.alloc (.cells #[] 9)) (.slice (some ⟨w2.heap.size, 0, none⟩) 0 0) []) := ⟨own_new rfl rfl (Nat.zero_le _) rfl rfl (by unfold maxLen; omega), w2.heap.size, 0, rfl⟩
      go_wp2_with fail
      refine (HRI.out _ _ (HB2.out.1.trans ((newb w2 _).mono HB2.out.1.size)) HE.out).mono ?_
      rintro e w3 ⟨rfl, hb3⟩
      have HB3 : Hid (Below w.heap.size w w3) := HBW.out.1.trans ((HB2.out.1.trans (((newb w2 _).mono HB2.out.1.size).trans (hb3.mono (Nat.le_trans HB2.out.1.size (newb w2 _).size)))).mono HBW.out.1.size)
      clear hb3 m0 m1 m2 m3 m4
      go_wp2_with fail
      go_ret
      exact ⟨by rw [HR2.out]; rfl, HB3.out⟩
    · have HR2 : Hid (R = false) := by show _ = _; rw [HR.out, decide_eq_true (by omega), decide_eq_false (by omega)]; rfl
      go_wp2_with fail
      go_ret
      exact ⟨by rw [HR2.out]; rfl, HBW.out.1.trans (HB2.out.1.mono HBW.out.1.size)⟩
  · have HR2 : Hid (R = false) := by show _ = _; rw [HR.out, decide_eq_false (by omega)]; rfl
    go_wp2_with fail
    go_ret
    exact ⟨by rw [HR2.out]; rfl, HBW.out.1.trans (HB1.out.1.mono HBW.out.1.size)⟩
end Go.Proofs.YtefjnhkaampmcaaDoor
