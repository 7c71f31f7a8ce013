/- laws.toBlock and laws.toBlockS: blocks laid anew, in memory of the call's own that may be written. Out of ToBlk, by words. Condition: at most 2^20 of them. -/
import Derived.Test.YthnhdmanmmdoiaaDoorZG5ToIrM
import Derived.Test.YthnhdmanmmdoiaaDoorZG6ToBlk
import Derived.Test.YthnhdmanmmdoiaaDoorRows
import Derived.Test.YthnhdmanmmdoiaaDoorZG1SzIr
import Derived.WalkKit
import Derived.ProofKit
import Derived.OwnWalk
import Derived.BigQuiet
import Derived.Deep.QuietTactic
import Derived.Deep.RegionWith
namespace Go.Proofs.YthnhdmanmmdoiaaDoor
open Go.ChangeShapes Go.WideShapes Go.ChangeAt Go.RowKit

def ToKMt (t : Kb) : Prop := ∀ (w : World) (v : Value), t.In w v → t.weight ≤ 1048576 →
  Calls Tryd.prog 18 #[.agg #[.int .i64 t.fr, .int .i64 t.bd.op, .int .i64 t.bd.n, v]] w fun e w' => ∃ u, e = .returned (.agg #[.int .i64 t.fr, .int .i64 t.bd.op, .int .i64 t.bd.n, u]) ∧ Below w.heap.size w w' ∧ t.OB w.heap.size w' u

set_option maxRecDepth 100000 in
set_option maxHeartbeats 2000000 in
theorem to_blk_m (t : Kb) : ToKMt t := by
  intro w v hin hwt
  obtain ⟨p, cap, e⟩ := hin.sl.shape
  have HF : Hid (-9223372036854775808 ≤ t.fr ∧ t.fr ≤ 9223372036854775807) := hin.1
  have HT : Hid (∀ w1, Below w.heap.size w w1 → Calls Tryd.prog 33 #[.agg #[.int .i64 t.bd.op, .int .i64 t.bd.n, v]] w1 fun e w' => ∃ u, e = .returned (.agg #[.int .i64 t.bd.op, .int .i64 t.bd.n, u]) ∧ Below w1.heap.size w1 w' ∧ t.bd.OB w1.heap.size w' u) :=
    fun w1 h => to_ir_m t.bd w1 v (hin.2.below h) hwt
  clear hin hwt
  subst e
  go_enter Tryd.func18, Tryd.ntmps18
  go_wp2_with fail
  refine (HT.out _ ?_).mono ?_
  · first | exact ((newb w _).trans (((newb _ _).mono (by simp)).trans ((newb _ _).mono (by simp; omega)))) | exact (((newb w _).trans (((newb _ _).mono (by simp)).trans ((newb _ _).mono (by simp; omega)))).setCell (by simp; omega) _)
  rintro e w1 ⟨u, rfl, hb1, hin1⟩
  obtain ⟨pu, cu, hu⟩ := hin1.sl.shape
  subst hu
  obtain ⟨h1, h2, h3, h4, h5⟩ := three hb1
  have HSU : Hid (t.bd.OB (w.heap.size + 3) w1 (.slice pu t.bd.len cu)) := hin1.mono (by simp)
  have HB : Hid (Below w.heap.size w w1) := h5
  have hf1 : ∀ j, w1.frozen? ⟨w.heap.size + 1, j, none⟩ = false := fun j => frozen_of_row w1 _ j _ _ h2
  have hf2 : ∀ j, w1.frozen? ⟨w.heap.size + 1 + 1, j, none⟩ = false := fun j => frozen_of_row w1 _ j _ _ h3
  have b0 : w1.cell? ⟨w.heap.size + 1, 0, none⟩ = some (.int .i64 0) := cell_of_row w1 _ 0 _ _ _ h2
  have b1 : w1.cell? ⟨w.heap.size + 1, 1, none⟩ = some (.int .i64 0) := cell_of_row w1 _ 1 _ _ _ h2
  have b2 : w1.cell? ⟨w.heap.size + 1, 2, none⟩ = some (.int .i64 0) := cell_of_row w1 _ 2 _ _ _ h2
  have b3 : w1.cell? ⟨w.heap.size + 1, 3, none⟩ = some (.slice none 0 0) := cell_of_row w1 _ 3 _ _ _ h2
  have c0 : w1.cell? ⟨w.heap.size + 1 + 1, 0, none⟩ = some (.int .i64 t.fr) := cell_of_row w1 _ 0 _ _ _ h3
  have c1 : w1.cell? ⟨w.heap.size + 1 + 1, 1, none⟩ = some (.int .i64 0) := cell_of_row w1 _ 1 _ _ _ h3
  have c2 : w1.cell? ⟨w.heap.size + 1 + 1, 2, none⟩ = some (.int .i64 0) := cell_of_row w1 _ 2 _ _ _ h3
  have c3 : w1.cell? ⟨w.heap.size + 1 + 1, 3, none⟩ = some (.slice none 0 0) := cell_of_row w1 _ 3 _ _ _ h3
  clear hb1 hin1 h1 h2 h3 h4 h5 HT
  go_wp2_with fail
  refine bodyPost_ret (v := .agg #[.int .i64 t.fr, .int .i64 t.bd.op, .int .i64 t.bd.n, .slice pu t.bd.len cu]) (by rw [results_cell1 (p := 2) (ty := 50) (by kernel_rfl)]; simp [go_sem, b0, b1, b2, b3]) rfl ⟨_, rfl, ?_, ?_⟩
  · exact (((((((HB.out.setCell (by show _ ≤ _ + 1 + 1; omega) _).setCell (by show _ ≤ _ + 1 + 1; omega) _).setCell (by show _ ≤ _ + 1 + 1; omega) _).setCell (by show _ ≤ _ + 1; omega) _).setCell (by show _ ≤ _ + 1; omega) _).setCell (by show _ ≤ _ + 1; omega) _).setCell (by show _ ≤ _ + 1; omega) _)
  · refine ⟨HF.out, It.OB.mono (B := w.heap.size + 3) (by omega) (It.OB.same (w := w1) (by simp) (fun k h1 h2 => ?_) HSU.out)⟩
    rw [Below.heap_setCell _ _ _ _ (by simp only; omega), Below.heap_setCell _ _ _ _ (by simp only; omega), Below.heap_setCell _ _ _ _ (by simp only; omega), Below.heap_setCell _ _ _ _ (by simp only; omega), Below.heap_setCell _ _ _ _ (by simp only; omega), Below.heap_setCell _ _ _ _ (by simp only; omega), Below.heap_setCell _ _ _ _ (by simp only; omega)]

set_option maxRecDepth 100000 in
set_option maxHeartbeats 2000000 in
theorem to_blksOf_m (len : Nat) (kid : Nat → Kb) (ih : ∀ i, i < len → ToKMt (kid i)) (w : World) (v : Value) (hv : Kl w len kid v) (hw : kidsWeightK len kid ≤ 1048576) :
    Calls Tryd.prog 6 #[v] w fun e w' => ∃ u, e = .returned u ∧ Below w.heap.size w w' ∧ KlO w.heap.size w' len kid u := by
  obtain ⟨p, cap, rfl, hlen, hat⟩ := hv.at
  have HC : Hid (∀ i, i < len → ∃ b o u, p = some ⟨b, o, none⟩ ∧ HeadK w b (o + i * 4) (kid i) u ∧ (kid i).In w u) := hat
  have IH : Hid (∀ i, i < len → ToKMt (kid i)) := ih
  have HW : Hid (∀ i, i < len → (kid i).weight ≤ 1048576) := fun i hi => by
    have := sumTo_at (fun i => (kid i).weight) i len hi
    unfold kidsWeightK at hw; omega
  have hl2 : len ≤ 1048576 := by unfold kidsWeightK at hw; omega
  clear hat ih hv hw hlen
  obtain ⟨i0, hi, hz0, hz1, hz2⟩ := info_parts blk_info
  obtain ⟨w1, hrun, hown, hg⟩ := run_make_full (P := Tryd.prog) w w.heap.size 27 50 i0 _ 4 Tryd.underlying27 hi hz0 hz1 .i64 .i64 len (by rw [hz2]; omega) (by unfold maxLen; omega) (Nat.le_refl _)
  have HO : Hid (∃ junk : List Value, junk.length = len * 4 ∧ w1.ownsRow w.heap.size 50 4 (.slice (some ⟨w.heap.size, 0, none⟩) len len) len (krows [] ++ junk)) := ⟨_, by simp [size_madeCells], hown⟩
  have HG : Hid (Below w.heap.size w w1 ∧ w.heap.size < w1.heap.size) := ⟨⟨hg.os, hg.tape, hg.output, hg.size, fun k hk => hg.block k hk (by simp)⟩, (hown.lt _ rfl).2⟩
  clear hown hg hi hz0 hz1 hz2
  go_enter Tryd.func6, Tryd.ntmps6
  go_wp2_with fail
  clear hrun
  go_loopw [4] (fun i wr => ∃ (l : List (Kb × Value)) (junk : List Value), i = .int .i64 l.length ∧ l.length ≤ len ∧ l.length * 4 + junk.length = len * 4 ∧ wr.ownsRow w.heap.size 50 4 (.slice (some ⟨w.heap.size, 0, none⟩) len len) len (krows l ++ junk) ∧ KKs kid l ∧ (∀ q ∈ l, q.1.OB (w.heap.size + 1) wr q.2) ∧ Below w.heap.size w wr ∧ w.heap.size < wr.heap.size) (fun i _ => len - (intOf i).toNat)
  case atStart =>
    obtain ⟨junk, h1, h2⟩ := HO.out
    exact ⟨[], junk, rfl, Nat.zero_le _, by simpa using h1, h2, KKs.nil _, by simp, HG.out.1, HG.out.2⟩
  case round =>
    obtain ⟨l, junk, rfl, hl, hjl, hown, hks, hin, hbel, hsz⟩ := hrel
    have HOW : Hid (wr.ownsRow w.heap.size 50 4 (.slice (some ⟨w.heap.size, 0, none⟩) len len) len (krows l ++ junk)) := hown
    have HIN : Hid (∀ q ∈ l, q.1.OB (w.heap.size + 1) wr q.2) := hin
    have HBL : Hid (Below w.heap.size w wr) := hbel
    have HKS : Hid (KKs kid l) := hks
    have HSZ : Hid (w.heap.size < wr.heap.size) := hsz
    clear hown hin hbel hks hsz HO HG
    generalize hk : l.length = k at *
    have HK : Hid (l.length = k) := hk
    clear hk
    by_cases hlt : (k : Int) < len
    · have hlt' : k < len := by omega
      obtain ⟨b, o, u, hp, hd, hinu⟩ := HC.out k hlt'
      subst hp
      obtain ⟨c0, c1, c2, c3⟩ := hd.below HBL.out
      have HI : Hid ((kid k).In wr u) := hinu.below HBL.out
      clear hd hinu
      go_wp2_with fail
      refine (IH.out k hlt' wr u HI.out (HW.out k hlt')).mono ?_
      rintro e w2 ⟨v, rfl, hb2, hinv⟩
      obtain ⟨pv, cv, hvv⟩ := hinv.2.sl.shape
      clear c0 c1 c2 c3
      have q0 := own_below5 HOW.out hb2
      have hf : ∀ j, w2.frozen? ⟨w.heap.size, j, none⟩ = false := fun j => q0.frozenAt j
      have hcl : ∀ j, j < 4 → ∃ u, w2.cell? ⟨w.heap.size, k * 4 + j, none⟩ = some u := by
        intro j hj
        have hl : k * 4 + j < (krows l ++ junk).length := by rw [List.length_append, krows_length, HK.out]; omega
        exact ⟨_, (q0.cellAt (k * 4 + j) (by omega)).trans (List.getElem?_eq_getElem hl)⟩
      obtain ⟨u0, hu0⟩ := hcl 0 (by omega)
      obtain ⟨u1, hu1⟩ := hcl 1 (by omega)
      obtain ⟨u2, hu2⟩ := hcl 2 (by omega)
      obtain ⟨u3, hu3⟩ := hcl 3 (by omega)
      rw [Nat.add_zero] at hu0
      have N := row_stepKO (kid := kid) (v := v) HOW.out (by omega) HKS.out HIN.out HBL.out HSZ.out hb2 (by rw [HK.out]; exact hinv)
      rw [HK.out] at N
      have HN : Hid _ := N
      clear N hinv hb2 q0 hcl HI
      subst hvv
      go_wp2_with fail
      go_roundw
      case rel =>
        obtain ⟨n1, n2, n3, n4, n5⟩ := HN.out
        have h := HK.out
        exact ⟨l ++ [(kid k, _)], junk.drop 4, by rw [List.length_append, h]; go_num, by rw [List.length_append, h]; simp; omega, by rw [List.length_append, h]; simp; omega, n1, n2, n3, n4, n5⟩
      case measure => simp [intOf]; omega
    · have hke : k = len := by omega
      subst hke
      go_wp2
      go_ret
      have hj : junk = [] := List.eq_nil_of_length_eq_zero (by omega)
      subst hj
      have h1 := HOW.out
      rw [List.append_nil] at h1
      exact ⟨_, rfl, HBL.out, KlO.of_own h1 HK.out (Nat.le_refl _) HKS.out (fun q hq => (HIN.out q hq).mono (by omega))⟩

theorem to_blks_m (len : Nat) (kid : Nat → Kb) (w : World) (v : Value) (hv : Kl w len kid v) (hw : kidsWeightK len kid ≤ 1048576) :
    Calls Tryd.prog 6 #[v] w fun e w' => ∃ u, e = .returned u ∧ Below w.heap.size w w' ∧ KlO w.heap.size w' len kid u := to_blksOf_m len kid (fun i _ => to_blk_m (kid i)) w v hv hw
end Go.Proofs.YthnhdmanmmdoiaaDoor

/- laws.eqIr and laws.eqIrS: of one value, laid twice, the answer is true. No conditions. -/
namespace Go.Proofs.YthnhdmanmmdoiaaDoor
open Go.ChangeShapes Go.WideShapes Go.ChangeAt Go.RowKit

def EqIAt (t : It) : Prop := ∀ (w : World) (u v : Value), t.In w u → t.In w v →
  Calls Tryd.prog 40 #[.agg #[.int .i64 t.op, .int .i64 t.n, u], .agg #[.int .i64 t.op, .int .i64 t.n, v]] w fun e w' => e = .returned (.bool true) ∧ Below w.heap.size w w'

set_option maxRecDepth 100000 in
set_option maxHeartbeats 2000000 in
theorem eq_irs (len : Nat) (kid : Nat → It) (ih : ∀ i, i < len → EqIAt (kid i)) (w : World) (u v : Value) (hu : Il w len kid u) (hv : Il w len kid v) :
    Calls Tryd.prog 55 #[u, v] w fun e w' => e = .returned (.bool true) ∧ Below w.heap.size w w' := by
  obtain ⟨p, cap, rfl, hlen, hat⟩ := hu.at
  obtain ⟨q, cap2, rfl, -, hat2⟩ := hv.at
  have HC : Hid (∀ i, i < len → ∃ b o u, p = some ⟨b, o, none⟩ ∧ HeadI w b (o + i * 3) (kid i) u ∧ (kid i).In w u) := hat
  have HD : Hid (∀ i, i < len → ∃ b o u, q = some ⟨b, o, none⟩ ∧ HeadI w b (o + i * 3) (kid i) u ∧ (kid i).In w u) := hat2
  have IH : Hid (∀ i, i < len → EqIAt (kid i)) := ih
  clear hat hat2 ih hu hv
  unfold maxLen at hlen
  go_enter Tryd.func55, Tryd.ntmps55
  go_wp2_with fail
  go_loopw [5] (fun i wr => ∃ k : Nat, i = .int .i64 k ∧ k ≤ len ∧ Below w.heap.size w wr) (fun i _ => len - (intOf i).toNat)
  case atStart => exact ⟨0, rfl, Nat.zero_le _, Below.refl _ _⟩
  case round =>
    obtain ⟨k, rfl, hk, hbel⟩ := hrel
    have HBL : Hid (Below w.heap.size w wr) := hbel
    clear hbel
    by_cases hlt : (k : Int) < len
    · have hlt' : k < len := by omega
      obtain ⟨b, o, x, hp, hd, hin⟩ := HC.out k hlt'
      obtain ⟨b2, o2, y, hq, hd2, hin2⟩ := HD.out k hlt'
      subst hp hq
      obtain ⟨c0, c1, c2⟩ := hd.below HBL.out
      obtain ⟨d0, d1, d2⟩ := hd2.below HBL.out
      have HI : Hid ((kid k).In wr x ∧ (kid k).In wr y) := ⟨hin.below HBL.out, hin2.below HBL.out⟩
      clear hd hin hd2 hin2
      have HCL : Hid (∀ w1 : World, Below wr.heap.size wr w1 → Calls Tryd.prog 40 #[.agg #[.int .i64 (kid k).op, .int .i64 (kid k).n, x], .agg #[.int .i64 (kid k).op, .int .i64 (kid k).n, y]] w1 fun e w' => e = .returned (.bool true) ∧ Below w1.heap.size w1 w') :=
        fun w1 h1 => IH.out k hlt' w1 x y (HI.out.1.below h1) (HI.out.2.below h1)
      go_wp2_with fail
      go_region_with ((go_at_call 40; refine (HCL.out _ ?_).mono ?_; exact (Below.refl _ _).drew; rintro e w1 ⟨rfl, hb1⟩))
      all_goals
        have HB1 : Hid (Below w.heap.size w w1) := HBL.out.trans ⟨hb1.os, hb1.tape, hb1.output, hb1.size, fun j hj => hb1.block j (Nat.lt_of_lt_of_le hj HBL.out.size)⟩
        clear hb1
        go_wp2_with fail
        go_roundw
        case rel => first | exact ⟨k + 1, by go_num, by omega, HB1.out⟩ | ((repeat apply Exists.intro); exact ⟨⟨k + 1, by go_num, by omega, HB1.out⟩, rfl⟩)
        case measure => simp [intOf]; omega
    · go_wp2_with fail
      go_ret
      exact ⟨rfl, HBL.out⟩

set_option maxRecDepth 100000 in
set_option maxHeartbeats 2000000 in
theorem eq_ir (t : It) : EqIAt t := by
  induction t with
  | no => intro w u v h _; exact h.elim
  | mk op n len kid ih =>
    intro w u v hu hv
    have h1 := hu.sl
    have h2 := hv.sl
    simp only [It.op, It.n, It.len, It.kid] at h1 h2 ⊢
    obtain ⟨p, cap, e1⟩ := h1.shape
    obtain ⟨q, cap2, e2⟩ := h2.shape
    have H1 : Hid (Il w len kid u) := h1
    have H2 : Hid (Il w len kid v) := h2
    have IH : Hid (∀ i, EqIAt (kid i)) := ih
    clear hu hv h1 h2 ih
    subst e1 e2
    go_enter Tryd.func40, Tryd.ntmps40
    go_wp2_with fail
    refine (eq_irs len kid (fun i _ => IH.out i) _ _ _ (H1.out.below ((newb w _).trans ((newb _ _).mono (by simp)))) (H2.out.below ((newb w _).trans ((newb _ _).mono (by simp))))).mono ?_
    rintro e w1 ⟨rfl, hb1⟩
    have HB : Hid (Below w.heap.size w w1) := ((newb w _).trans ((newb _ _).mono (by simp))).trans (hb1.mono (by simp; omega))
    clear hb1
    go_wp2_with fail
    go_ret
    exact ⟨rfl, HB.out⟩
end Go.Proofs.YthnhdmanmmdoiaaDoor
