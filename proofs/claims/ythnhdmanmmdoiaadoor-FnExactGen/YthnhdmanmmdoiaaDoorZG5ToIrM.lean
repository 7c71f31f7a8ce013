/- laws.toIr and laws.toIrS: an ir laid anew, in memory of the call's own. Condition: at most 2^20 of it. -/
import Derived.Test.YthnhdmanmmdoiaaDoorRows
import Derived.Test.YthnhdmanmmdoiaaDoorZG3IrRows
import Derived.Test.YthnhdmanmmdoiaaDoorZG4IrMark
import Derived.WalkKit
import Derived.ProofKit
namespace Go.Proofs.YthnhdmanmmdoiaaDoor
open Go.ChangeShapes Go.WideShapes Go.ChangeAt Go.RowKit

/-- The contract of toDat at a datum. -/
def ToIAt (t : It) : Prop := ∀ (w : World) (v : Value), t.In w v → t.weight ≤ 1048576 →
  Calls Tryd.prog 33 #[.agg #[.int .i64 t.op, .int .i64 t.n, v]] w fun e w' => ∃ u, e = .returned (.agg #[.int .i64 t.op, .int .i64 t.n, u]) ∧ Below w.heap.size w w' ∧ t.InB w.heap.size w' u

theorem ir_info : (Tryd.prog.info? 48).map (fun i => (i.zero, i.size, i.bytes)) = some (some (.agg #[.int .i64 0, .int .i64 0, .slice none 0 0]), 3, 40) := by kernel_rfl

set_option maxRecDepth 100000 in
set_option maxHeartbeats 2000000 in
theorem to_irs (len : Nat) (kid : Nat → It) (ih : ∀ i, i < len → ToIAt (kid i)) (w : World) (v : Value) (hv : Il w len kid v) (hw : kidsWeightI len kid ≤ 1048576) :
    Calls Tryd.prog 46 #[v] w fun e w' => ∃ u, e = .returned u ∧ Below w.heap.size w w' ∧ IlB w.heap.size w' len kid u := by
  obtain ⟨p, cap, rfl, hlen, hat⟩ := hv.at
  have HC : Hid (∀ i, i < len → ∃ b o u, p = some ⟨b, o, none⟩ ∧ HeadI w b (o + i * 3) (kid i) u ∧ (kid i).In w u) := hat
  have IH : Hid (∀ i, i < len → ToIAt (kid i)) := ih
  have HW : Hid (∀ i, i < len → (kid i).weight ≤ 1048576) := fun i hi => by
    have := sumTo_at (fun i => (kid i).weight) i len hi
    unfold kidsWeightI at hw; omega
  have hl2 : len ≤ 1048576 := by unfold kidsWeightI at hw; omega
  clear hat ih hv hw hlen
  obtain ⟨i0, hi, hz0, hz1, hz2⟩ := info_parts ir_info
  obtain ⟨w1, hrun, hown, hg⟩ := run_make_full (P := Tryd.prog) w w.heap.size 46 48 i0 _ 3 Tryd.underlying46 hi hz0 hz1 .i64 .i64 len (by rw [hz2]; omega) (by unfold maxLen; omega) (Nat.le_refl _)
  have HO : Hid (∃ junk : List Value, junk.length = len * 3 ∧ w1.ownsRow w.heap.size 48 3 (.slice (some ⟨w.heap.size, 0, none⟩) len len) len (irows [] ++ junk)) := ⟨_, by simp [size_madeCells], hown⟩
  have HG : Hid (Below w.heap.size w w1 ∧ w.heap.size < w1.heap.size) := ⟨⟨hg.os, hg.tape, hg.output, hg.size, fun k hk => hg.block k hk (by simp)⟩, (hown.lt _ rfl).2⟩
  clear hown hg hi hz0 hz1 hz2
  go_enter Tryd.func46, Tryd.ntmps46
  go_wp2_with fail
  clear hrun
  go_loopw [4] (fun i wr => ∃ (l : List (It × Value)) (junk : List Value), i = .int .i64 l.length ∧ l.length ≤ len ∧ l.length * 3 + junk.length = len * 3 ∧ wr.ownsRow w.heap.size 48 3 (.slice (some ⟨w.heap.size, 0, none⟩) len len) len (irows l ++ junk) ∧ IKs kid l ∧ (∀ q ∈ l, q.1.InB (w.heap.size + 1) wr q.2) ∧ Below w.heap.size w wr ∧ w.heap.size < wr.heap.size) (fun i _ => len - (intOf i).toNat)
  case atStart =>
    obtain ⟨junk, h1, h2⟩ := HO.out
    exact ⟨[], junk, rfl, Nat.zero_le _, by simpa using h1, h2, IKs.nil _, by simp, HG.out.1, HG.out.2⟩
  case round =>
    obtain ⟨l, junk, rfl, hl, hjl, hown, hks, hin, hbel, hsz⟩ := hrel
    have HOW : Hid (wr.ownsRow w.heap.size 48 3 (.slice (some ⟨w.heap.size, 0, none⟩) len len) len (irows l ++ junk)) := hown
    have HIN : Hid (∀ q ∈ l, q.1.InB (w.heap.size + 1) wr q.2) := hin
    have HBL : Hid (Below w.heap.size w wr) := hbel
    have HKS : Hid (IKs kid l) := hks
    have HSZ : Hid (w.heap.size < wr.heap.size) := hsz
    clear hown hin hbel hks hsz HO HG
    generalize hk : l.length = k at *
    have HK : Hid (l.length = k) := hk
    clear hk
    by_cases hlt : (k : Int) < len
    · have hlt' : k < len := by omega
      obtain ⟨b, o, u, hp, hd, hinu⟩ := HC.out k hlt'
      subst hp
      obtain ⟨c0, c1, c2⟩ := hd.below HBL.out
      have HI : Hid ((kid k).In wr u) := hinu.below HBL.out
      clear hd hinu
      go_wp2_with fail
      refine (IH.out k hlt' wr u HI.out (HW.out k hlt')).mono ?_
      rintro e w2 ⟨v, rfl, hb2, hinv⟩
      obtain ⟨pv, cv, hvv⟩ := hinv.sl.shape
      clear c0 c1 c2
      have q0 := own_below5 HOW.out hb2
      have hf : ∀ j, w2.frozen? ⟨w.heap.size, j, none⟩ = false := fun j => q0.frozenAt j
      have hcl : ∀ j, j < 3 → ∃ u, w2.cell? ⟨w.heap.size, k * 3 + j, none⟩ = some u := by
        intro j hj
        have hl : k * 3 + j < (irows l ++ junk).length := by rw [List.length_append, irows_length, HK.out]; omega
        exact ⟨_, (q0.cellAt (k * 3 + j) (by omega)).trans (List.getElem?_eq_getElem hl)⟩
      obtain ⟨u0, hu0⟩ := hcl 0 (by omega)
      obtain ⟨u1, hu1⟩ := hcl 1 (by omega)
      obtain ⟨u2, hu2⟩ := hcl 2 (by omega)
      rw [Nat.add_zero] at hu0
      have N := row_stepI (kid := kid) (v := v) HOW.out (by omega) HKS.out HIN.out HBL.out HSZ.out hb2 (by rw [HK.out]; exact hinv)
      rw [HK.out] at N
      have HN : Hid _ := N
      clear N hinv hb2 q0 hcl HI
      subst hvv
      go_wp2_with fail
      go_roundw
      case rel =>
        obtain ⟨n1, n2, n3, n4, n5⟩ := HN.out
        have h := HK.out
        exact ⟨l ++ [(kid k, _)], junk.drop 3, by rw [List.length_append, h]; go_num, by rw [List.length_append, h]; simp; omega, by rw [List.length_append, h]; simp; omega, n1, n2, n3, n4, n5⟩
      case measure => simp [intOf]; omega
    · have hke : k = len := by omega
      subst hke
      go_wp2
      go_ret
      have hj : junk = [] := List.eq_nil_of_length_eq_zero (by omega)
      subst hj
      have h1 := HOW.out
      rw [List.append_nil] at h1
      exact ⟨_, rfl, HBL.out, IlB.of_own h1 HK.out (Nat.le_refl _) HKS.out (fun q hq => (HIN.out q hq).mono (by omega))⟩

set_option maxRecDepth 100000 in
set_option maxHeartbeats 2000000 in
theorem to_ir (t : It) : ToIAt t := by
  induction t with
  | no => intro w v h _; exact h.elim
  | mk op n len kid ih =>
    intro w v hin hwt
    have hn := hin.num
    have hsl := hin.sl
    simp only [It.op, It.n, It.len, It.kid] at hn hsl ⊢
    obtain ⟨p, cap, hv⟩ := hsl.shape
    have HSL : Hid (Il w len kid v) := hsl
    have IH : Hid (∀ i, ToIAt (kid i)) := ih
    have HS : Hid (-9223372036854775808 ≤ n ∧ n ≤ 9223372036854775807) := hn
    have HW : Hid (kidsWeightI len kid ≤ 1048576) := by
      have e : (It.mk op n len kid).weight = kidsWeightI len kid := rfl
      show _ ≤ _
      omega
    clear hin hsl ih hn hwt
    subst hv
    go_enter Tryd.func33, Tryd.ntmps33
    go_wp2_with fail
    refine (to_irs len kid (fun i _ => IH.out i) _ _ (HSL.out.below ((newb w _).trans (((newb _ _).mono (by simp)).trans ((newb _ _).mono (by simp; omega))))) HW.out).mono ?_
    rintro e w1 ⟨u, rfl, hb1, hsl1⟩
    obtain ⟨pu, cu, hu⟩ := hsl1.shape
    subst hu
    obtain ⟨h1, h2, h3, h4, h5⟩ := three hb1
    have HSU : Hid (IlB (w.heap.size + 3) w1 len kid (.slice pu len cu)) := hsl1.mono (by simp)
    have HB : Hid (Below w.heap.size w w1) := h5
    have hf1 : ∀ j, w1.frozen? ⟨w.heap.size + 1, j, none⟩ = false := fun j => frozen_of_row w1 _ j _ _ h2
    have hf2 : ∀ j, w1.frozen? ⟨w.heap.size + 1 + 1, j, none⟩ = false := fun j => frozen_of_row w1 _ j _ _ h3
    have b0 : w1.cell? ⟨w.heap.size + 1, 0, none⟩ = some (.int .i64 0) := cell_of_row w1 _ 0 _ _ _ h2
    have b1 : w1.cell? ⟨w.heap.size + 1, 1, none⟩ = some (.int .i64 0) := cell_of_row w1 _ 1 _ _ _ h2
    have b2 : w1.cell? ⟨w.heap.size + 1, 2, none⟩ = some (.slice none 0 0) := cell_of_row w1 _ 2 _ _ _ h2
    have c0 : w1.cell? ⟨w.heap.size + 1 + 1, 0, none⟩ = some (.int .i64 op) := cell_of_row w1 _ 0 _ _ _ h3
    have c1 : w1.cell? ⟨w.heap.size + 1 + 1, 1, none⟩ = some (.int .i64 n) := cell_of_row w1 _ 1 _ _ _ h3
    have c2 : w1.cell? ⟨w.heap.size + 1 + 1, 2, none⟩ = some (.slice none 0 0) := cell_of_row w1 _ 2 _ _ _ h3
    clear hb1 hsl1 h1 h2 h3 h4 h5 HSL
    go_wp2_with fail
    refine bodyPost_ret (v := .agg #[.int .i64 op, .int .i64 n, .slice pu len cu]) (by rw [results_cell1 (p := 2) (ty := 48) (by kernel_rfl)]; simp [go_sem, b0, b1, b2]) rfl ⟨_, rfl, ?_, ?_⟩
    · exact ((((HB.out.setCell (by show _ ≤ _ + 1 + 1; omega) _).setCell (by show _ ≤ _ + 1; omega) _).setCell (by show _ ≤ _ + 1; omega) _).setCell (by show _ ≤ _ + 1; omega) _)
    · refine It.InB.mk' HS.out (IlB.mono (by omega) (IlB.kept (B := w.heap.size + 3) (w := w1) ?_ HSU.out))
      intro x y hx hc
      have ne : ∀ (W : World) (k j : Nat) (z : Value), k < w.heap.size + 3 → W.cell? x = some y → (W.setCell ⟨k, j, none⟩ z).cell? x = some y := fun W k j z hk h =>
        (World.cell?_of_block (w := W) (Below.heap_setCell W ⟨k, j, none⟩ z x.block (by simp only; omega))).trans h
      exact ne _ _ _ _ (by omega) (ne _ _ _ _ (by omega) (ne _ _ _ _ (by omega) (ne _ _ _ _ (by omega) hc)))
end Go.Proofs.YthnhdmanmmdoiaaDoor

/- laws.toIr and laws.toIrS: an ir laid anew, in memory of the call's own that may be written. Condition: at most 2^20 of it. Out of ToIr, by words. -/
namespace Go.Proofs.YthnhdmanmmdoiaaDoor
open Go.ChangeShapes Go.WideShapes Go.ChangeAt Go.RowKit

/-- The contract of toDat at a datum. -/
def ToIMt (t : It) : Prop := ∀ (w : World) (v : Value), t.In w v → t.weight ≤ 1048576 →
  Calls Tryd.prog 33 #[.agg #[.int .i64 t.op, .int .i64 t.n, v]] w fun e w' => ∃ u, e = .returned (.agg #[.int .i64 t.op, .int .i64 t.n, u]) ∧ Below w.heap.size w w' ∧ t.OB w.heap.size w' u

set_option maxRecDepth 100000 in
set_option maxHeartbeats 2000000 in
theorem to_irs_m (len : Nat) (kid : Nat → It) (ih : ∀ i, i < len → ToIMt (kid i)) (w : World) (v : Value) (hv : Il w len kid v) (hw : kidsWeightI len kid ≤ 1048576) :
    Calls Tryd.prog 46 #[v] w fun e w' => ∃ u, e = .returned u ∧ Below w.heap.size w w' ∧ IlO w.heap.size w' len kid u := by
  obtain ⟨p, cap, rfl, hlen, hat⟩ := hv.at
  have HC : Hid (∀ i, i < len → ∃ b o u, p = some ⟨b, o, none⟩ ∧ HeadI w b (o + i * 3) (kid i) u ∧ (kid i).In w u) := hat
  have IH : Hid (∀ i, i < len → ToIMt (kid i)) := ih
  have HW : Hid (∀ i, i < len → (kid i).weight ≤ 1048576) := fun i hi => by
    have := sumTo_at (fun i => (kid i).weight) i len hi
    unfold kidsWeightI at hw; omega
  have hl2 : len ≤ 1048576 := by unfold kidsWeightI at hw; omega
  clear hat ih hv hw hlen
  obtain ⟨i0, hi, hz0, hz1, hz2⟩ := info_parts ir_info
  obtain ⟨w1, hrun, hown, hg⟩ := run_make_full (P := Tryd.prog) w w.heap.size 46 48 i0 _ 3 Tryd.underlying46 hi hz0 hz1 .i64 .i64 len (by rw [hz2]; omega) (by unfold maxLen; omega) (Nat.le_refl _)
  have HO : Hid (∃ junk : List Value, junk.length = len * 3 ∧ w1.ownsRow w.heap.size 48 3 (.slice (some ⟨w.heap.size, 0, none⟩) len len) len (irows [] ++ junk)) := ⟨_, by simp [size_madeCells], hown⟩
  have HG : Hid (Below w.heap.size w w1 ∧ w.heap.size < w1.heap.size) := ⟨⟨hg.os, hg.tape, hg.output, hg.size, fun k hk => hg.block k hk (by simp)⟩, (hown.lt _ rfl).2⟩
  clear hown hg hi hz0 hz1 hz2
  go_enter Tryd.func46, Tryd.ntmps46
  go_wp2_with fail
  clear hrun
  go_loopw [4] (fun i wr => ∃ (l : List (It × Value)) (junk : List Value), i = .int .i64 l.length ∧ l.length ≤ len ∧ l.length * 3 + junk.length = len * 3 ∧ wr.ownsRow w.heap.size 48 3 (.slice (some ⟨w.heap.size, 0, none⟩) len len) len (irows l ++ junk) ∧ IKs kid l ∧ (∀ q ∈ l, q.1.OB (w.heap.size + 1) wr q.2) ∧ Below w.heap.size w wr ∧ w.heap.size < wr.heap.size) (fun i _ => len - (intOf i).toNat)
  case atStart =>
    obtain ⟨junk, h1, h2⟩ := HO.out
    exact ⟨[], junk, rfl, Nat.zero_le _, by simpa using h1, h2, IKs.nil _, by simp, HG.out.1, HG.out.2⟩
  case round =>
    obtain ⟨l, junk, rfl, hl, hjl, hown, hks, hin, hbel, hsz⟩ := hrel
    have HOW : Hid (wr.ownsRow w.heap.size 48 3 (.slice (some ⟨w.heap.size, 0, none⟩) len len) len (irows l ++ junk)) := hown
    have HIN : Hid (∀ q ∈ l, q.1.OB (w.heap.size + 1) wr q.2) := hin
    have HBL : Hid (Below w.heap.size w wr) := hbel
    have HKS : Hid (IKs kid l) := hks
    have HSZ : Hid (w.heap.size < wr.heap.size) := hsz
    clear hown hin hbel hks hsz HO HG
    generalize hk : l.length = k at *
    have HK : Hid (l.length = k) := hk
    clear hk
    by_cases hlt : (k : Int) < len
    · have hlt' : k < len := by omega
      obtain ⟨b, o, u, hp, hd, hinu⟩ := HC.out k hlt'
      subst hp
      obtain ⟨c0, c1, c2⟩ := hd.below HBL.out
      have HI : Hid ((kid k).In wr u) := hinu.below HBL.out
      clear hd hinu
      go_wp2_with fail
      refine (IH.out k hlt' wr u HI.out (HW.out k hlt')).mono ?_
      rintro e w2 ⟨v, rfl, hb2, hinv⟩
      obtain ⟨pv, cv, hvv⟩ := hinv.sl.shape
      clear c0 c1 c2
      have q0 := own_below5 HOW.out hb2
      have hf : ∀ j, w2.frozen? ⟨w.heap.size, j, none⟩ = false := fun j => q0.frozenAt j
      have hcl : ∀ j, j < 3 → ∃ u, w2.cell? ⟨w.heap.size, k * 3 + j, none⟩ = some u := by
        intro j hj
        have hl : k * 3 + j < (irows l ++ junk).length := by rw [List.length_append, irows_length, HK.out]; omega
        exact ⟨_, (q0.cellAt (k * 3 + j) (by omega)).trans (List.getElem?_eq_getElem hl)⟩
      obtain ⟨u0, hu0⟩ := hcl 0 (by omega)
      obtain ⟨u1, hu1⟩ := hcl 1 (by omega)
      obtain ⟨u2, hu2⟩ := hcl 2 (by omega)
      rw [Nat.add_zero] at hu0
      have N := row_stepIO (kid := kid) (v := v) HOW.out (by omega) HKS.out HIN.out HBL.out HSZ.out hb2 (by rw [HK.out]; exact hinv)
      rw [HK.out] at N
      have HN : Hid _ := N
      clear N hinv hb2 q0 hcl HI
      subst hvv
      go_wp2_with fail
      go_roundw
      case rel =>
        obtain ⟨n1, n2, n3, n4, n5⟩ := HN.out
        have h := HK.out
        exact ⟨l ++ [(kid k, _)], junk.drop 3, by rw [List.length_append, h]; go_num, by rw [List.length_append, h]; simp; omega, by rw [List.length_append, h]; simp; omega, n1, n2, n3, n4, n5⟩
      case measure => simp [intOf]; omega
    · have hke : k = len := by omega
      subst hke
      go_wp2
      go_ret
      have hj : junk = [] := List.eq_nil_of_length_eq_zero (by omega)
      subst hj
      have h1 := HOW.out
      rw [List.append_nil] at h1
      exact ⟨_, rfl, HBL.out, IlO.of_own h1 HK.out (Nat.le_refl _) HKS.out (fun q hq => (HIN.out q hq).mono (by omega))⟩

set_option maxRecDepth 100000 in
set_option maxHeartbeats 2000000 in
theorem to_ir_m (t : It) : ToIMt t := by
  induction t with
  | no => intro w v h _; exact h.elim
  | mk op n len kid ih =>
    intro w v hin hwt
    have hn := hin.num
    have hsl := hin.sl
    simp only [It.op, It.n, It.len, It.kid] at hn hsl ⊢
    obtain ⟨p, cap, hv⟩ := hsl.shape
    have HSL : Hid (Il w len kid v) := hsl
    have IH : Hid (∀ i, ToIMt (kid i)) := ih
    have HS : Hid (-9223372036854775808 ≤ n ∧ n ≤ 9223372036854775807) := hn
    have HW : Hid (kidsWeightI len kid ≤ 1048576) := by
      have e : (It.mk op n len kid).weight = kidsWeightI len kid := rfl
      show _ ≤ _
      omega
    clear hin hsl ih hn hwt
    subst hv
    go_enter Tryd.func33, Tryd.ntmps33
    go_wp2_with fail
    refine (to_irs_m len kid (fun i _ => IH.out i) _ _ (HSL.out.below ((newb w _).trans (((newb _ _).mono (by simp)).trans ((newb _ _).mono (by simp; omega))))) HW.out).mono ?_
    rintro e w1 ⟨u, rfl, hb1, hsl1⟩
    obtain ⟨pu, cu, hu⟩ := hsl1.shape
    subst hu
    obtain ⟨h1, h2, h3, h4, h5⟩ := three hb1
    have HSU : Hid (IlO (w.heap.size + 3) w1 len kid (.slice pu len cu)) := hsl1.mono (by simp)
    have HB : Hid (Below w.heap.size w w1) := h5
    have hf1 : ∀ j, w1.frozen? ⟨w.heap.size + 1, j, none⟩ = false := fun j => frozen_of_row w1 _ j _ _ h2
    have hf2 : ∀ j, w1.frozen? ⟨w.heap.size + 1 + 1, j, none⟩ = false := fun j => frozen_of_row w1 _ j _ _ h3
    have b0 : w1.cell? ⟨w.heap.size + 1, 0, none⟩ = some (.int .i64 0) := cell_of_row w1 _ 0 _ _ _ h2
    have b1 : w1.cell? ⟨w.heap.size + 1, 1, none⟩ = some (.int .i64 0) := cell_of_row w1 _ 1 _ _ _ h2
    have b2 : w1.cell? ⟨w.heap.size + 1, 2, none⟩ = some (.slice none 0 0) := cell_of_row w1 _ 2 _ _ _ h2
    have c0 : w1.cell? ⟨w.heap.size + 1 + 1, 0, none⟩ = some (.int .i64 op) := cell_of_row w1 _ 0 _ _ _ h3
    have c1 : w1.cell? ⟨w.heap.size + 1 + 1, 1, none⟩ = some (.int .i64 n) := cell_of_row w1 _ 1 _ _ _ h3
    have c2 : w1.cell? ⟨w.heap.size + 1 + 1, 2, none⟩ = some (.slice none 0 0) := cell_of_row w1 _ 2 _ _ _ h3
    clear hb1 hsl1 h1 h2 h3 h4 h5 HSL
    go_wp2_with fail
    refine bodyPost_ret (v := .agg #[.int .i64 op, .int .i64 n, .slice pu len cu]) (by rw [results_cell1 (p := 2) (ty := 48) (by kernel_rfl)]; simp [go_sem, b0, b1, b2]) rfl ⟨_, rfl, ?_, ?_⟩
    · exact ((((HB.out.setCell (by show _ ≤ _ + 1 + 1; omega) _).setCell (by show _ ≤ _ + 1; omega) _).setCell (by show _ ≤ _ + 1; omega) _).setCell (by show _ ≤ _ + 1; omega) _)
    · refine It.OB.mk' HS.out (IlO.mono (B := w.heap.size + 3) (by omega) (IlO.same (w := w1) (by simp) (fun k h1 h2 => ?_) HSU.out))
      rw [Below.heap_setCell _ _ _ _ (by simp only; omega), Below.heap_setCell _ _ _ _ (by simp only; omega), Below.heap_setCell _ _ _ _ (by simp only; omega), Below.heap_setCell _ _ _ _ (by simp only; omega)]
end Go.Proofs.YthnhdmanmmdoiaaDoor
