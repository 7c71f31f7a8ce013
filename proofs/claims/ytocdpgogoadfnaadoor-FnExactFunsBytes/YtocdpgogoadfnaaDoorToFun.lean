/- laws.toFun and laws.toFunS: blocks laid anew, in memory of the call's own. Condition: at most 2^20 of them. -/
import Derived.Test.YtocdpgogoadfnaaDoorRows
import Derived.Test.YtocdpgogoadfnaaDoorToOp
import Derived.WalkKit
import Derived.ProofKit
import Derived.Test.YtocdpgogoadfnaaDoorFunRows
import Derived.Test.YtocdpgogoadfnaaDoorOpRows
namespace Go.Proofs.YtocdpgogoadfnaaDoor
open Go.ChangeShapes Go.WideShapes Go.ChangeAt Go.RowKit

def ToFAt (t : Fu) : Prop := ∀ (w : World) (v : Value), t.In w v → t.weight ≤ 1048576 →
  Calls Tryd.prog 21 #[.agg #[.int .i64 t.fr, v]] w fun e w' => ∃ u, e = .returned (.agg #[.int .i64 t.fr, u]) ∧ Below w.heap.size w w' ∧ t.InB w.heap.size w' u

theorem fun_info : (Tryd.prog.info? 45).map (fun i => (i.zero, i.size, i.bytes)) = some (some (.agg #[.int .i64 0, .slice none 0 0]), 2, 32) := by kernel_rfl

theorem op_info : (Tryd.prog.info? 47).map (fun i => (i.zero, i.size, i.bytes)) = some (some (.agg #[.int .i64 0, .int .i64 0, .int .i64 0]), 3, 24) := by kernel_rfl

set_option maxRecDepth 100000 in
set_option maxHeartbeats 2000000 in
theorem to_ops (len : Nat) (op : Nat → O3) (w : World) (v : Value) (hv : Ol w len op v) (hl2 : len ≤ 1048576) :
    Calls Tryd.prog 34 #[v] w fun e w' => ∃ u, e = .returned u ∧ Below w.heap.size w w' ∧ OlB w.heap.size w' len op u := by
  obtain ⟨p, cap, rfl, hlen, hat⟩ := hv.at
  have HC : Hid (∀ i, i < len → ∃ b o, p = some ⟨b, o, none⟩ ∧ HeadO w b (o + i * 3) (op i) ∧ (op i).Ok) := hat
  have HOK : Hid (∀ i, i < len → (op i).Ok) := fun i hi => by obtain ⟨_, _, _, _, h⟩ := hat i hi; exact h
  clear hat hv hlen
  obtain ⟨i0, hi, hz0, hz1, hz2⟩ := info_parts op_info
  obtain ⟨w1, hrun, hown, hg⟩ := run_make_full (P := Tryd.prog) w w.heap.size 43 47 i0 _ 3 Tryd.underlying43 hi hz0 hz1 .i64 .i64 len (by rw [hz2]; omega) (by unfold maxLen; omega) (Nat.le_refl _)
  have HO : Hid (∃ junk : List Value, junk.length = len * 3 ∧ w1.ownsRow w.heap.size 47 3 (.slice (some ⟨w.heap.size, 0, none⟩) len len) len (orows [] ++ junk)) := ⟨_, by simp [size_madeCells], hown⟩
  have HG : Hid (Below w.heap.size w w1 ∧ w.heap.size < w1.heap.size) := ⟨⟨hg.os, hg.tape, hg.output, hg.size, fun k hk => hg.block k hk (by simp)⟩, (hown.lt _ rfl).2⟩
  clear hown hg hi hz0 hz1 hz2
  go_enter Tryd.func34, Tryd.ntmps34
  go_wp2_with fail
  clear hrun
  go_loopw [4] (fun i wr => ∃ (l : List O3) (junk : List Value), i = .int .i64 l.length ∧ l.length ≤ len ∧ l.length * 3 + junk.length = len * 3 ∧ wr.ownsRow w.heap.size 47 3 (.slice (some ⟨w.heap.size, 0, none⟩) len len) len (orows l ++ junk) ∧ OKs op l ∧ Below w.heap.size w wr ∧ w.heap.size < wr.heap.size) (fun i _ => len - (intOf i).toNat)
  case atStart =>
    obtain ⟨junk, h1, h2⟩ := HO.out
    exact ⟨[], junk, rfl, Nat.zero_le _, by simpa using h1, h2, OKs.nil _, HG.out.1, HG.out.2⟩
  case round =>
    obtain ⟨l, junk, rfl, hl, hjl, hown, hks, hbel, hsz⟩ := hrel
    have HOW : Hid (wr.ownsRow w.heap.size 47 3 (.slice (some ⟨w.heap.size, 0, none⟩) len len) len (orows l ++ junk)) := hown
    have HBL : Hid (Below w.heap.size w wr) := hbel
    have HKS : Hid (OKs op l) := hks
    have HSZ : Hid (w.heap.size < wr.heap.size) := hsz
    clear hown hbel hks hsz HO HG
    generalize hk : l.length = k at *
    have HK : Hid (l.length = k) := hk
    clear hk
    by_cases hlt : (k : Int) < len
    · have hlt' : k < len := by omega
      obtain ⟨b, o, hp, hd, -⟩ := HC.out k hlt'
      subst hp
      obtain ⟨c0, c1, c2⟩ := hd.below HBL.out
      clear hd
      go_wp2_with fail
      refine (to_op (op k).c (op k).n (op k).m wr).mono ?_
      rintro e w2 ⟨rfl, hb2⟩
      clear c0 c1 c2
      have q0 := own_below5 HOW.out hb2
      have hf : ∀ j, w2.frozen? ⟨w.heap.size, j, none⟩ = false := fun j => q0.frozenAt j
      have hcl : ∀ j, j < 3 → ∃ u, w2.cell? ⟨w.heap.size, k * 3 + j, none⟩ = some u := by
        intro j hj
        have hl : k * 3 + j < (orows l ++ junk).length := by rw [List.length_append, orows_length, HK.out]; omega
        exact ⟨_, (q0.cellAt (k * 3 + j) (by omega)).trans (List.getElem?_eq_getElem hl)⟩
      obtain ⟨u0, hu0⟩ := hcl 0 (by omega)
      obtain ⟨u1, hu1⟩ := hcl 1 (by omega)
      obtain ⟨u2, hu2⟩ := hcl 2 (by omega)
      rw [Nat.add_zero] at hu0
      have N := row_stepO (op := op) HOW.out (by omega) HKS.out HBL.out HSZ.out hb2
      rw [HK.out] at N
      have HN : Hid _ := N
      clear N hb2 q0 hcl
      go_wp2_with fail
      go_roundw
      case rel =>
        obtain ⟨n1, n2, n3, n4⟩ := HN.out
        have h := HK.out
        exact ⟨l ++ [op k], junk.drop 3, by rw [List.length_append, h]; go_num, by rw [List.length_append, h]; simp; omega, by rw [List.length_append, h]; simp; omega, n1, n2, n3, n4⟩
      case measure => simp [intOf]; omega
    · have hke : k = len := by omega
      subst hke
      go_wp2
      go_ret
      have hj : junk = [] := List.eq_nil_of_length_eq_zero (by omega)
      subst hj
      have h1 := HOW.out
      rw [List.append_nil] at h1
      exact ⟨_, rfl, HBL.out, OlB.of_own h1 HK.out (Nat.le_refl _) HKS.out HOK.out⟩

set_option maxRecDepth 100000 in
set_option maxHeartbeats 2000000 in
theorem to_fun (t : Fu) : ToFAt t := by
  intro w v hin hwt
  obtain ⟨p, cap, e⟩ := hin.sl.shape
  have HF : Hid (I64 t.fr) := hin.1
  have HT : Hid (∀ w1, Below w.heap.size w w1 → Calls Tryd.prog 34 #[v] w1 fun e w' => ∃ u, e = .returned u ∧ Below w1.heap.size w1 w' ∧ OlB w1.heap.size w' t.len t.op u) :=
    fun w1 h => to_ops t.len t.op w1 v (hin.2.below h) hwt
  clear hin hwt
  subst e
  go_enter Tryd.func21, Tryd.ntmps21
  go_wp2_with fail
  refine (HT.out _ ?_).mono ?_
  · first | exact ((newb w _).trans (((newb _ _).mono (by simp)).trans ((newb _ _).mono (by simp; omega)))) | exact (((newb w _).trans (((newb _ _).mono (by simp)).trans ((newb _ _).mono (by simp; omega)))).setCell (by simp; omega) _)
  rintro e w1 ⟨u, rfl, hb1, hin1⟩
  obtain ⟨pu, cu, hu⟩ := hin1.shape
  subst hu
  obtain ⟨h1, h2, h3, h4, h5⟩ := three hb1
  have HSU : Hid (OlB (w.heap.size + 3) w1 t.len t.op (.slice pu t.len cu)) := hin1.mono (by simp)
  have HB : Hid (Below w.heap.size w w1) := h5
  have hf1 : ∀ j, w1.frozen? ⟨w.heap.size + 1, j, none⟩ = false := fun j => frozen_of_row w1 _ j _ _ h2
  have hf2 : ∀ j, w1.frozen? ⟨w.heap.size + 1 + 1, j, none⟩ = false := fun j => frozen_of_row w1 _ j _ _ h3
  have b0 : w1.cell? ⟨w.heap.size + 1, 0, none⟩ = some (.int .i64 0) := cell_of_row w1 _ 0 _ _ _ h2
  have b1 : w1.cell? ⟨w.heap.size + 1, 1, none⟩ = some (.slice none 0 0) := cell_of_row w1 _ 1 _ _ _ h2
  have c0 : w1.cell? ⟨w.heap.size + 1 + 1, 0, none⟩ = some (.int .i64 t.fr) := cell_of_row w1 _ 0 _ _ _ h3
  have c1 : w1.cell? ⟨w.heap.size + 1 + 1, 1, none⟩ = some (.slice none 0 0) := cell_of_row w1 _ 1 _ _ _ h3
  clear hb1 hin1 h1 h2 h3 h4 h5 HT
  go_wp2_with fail
  refine bodyPost_ret (v := .agg #[.int .i64 t.fr, .slice pu t.len cu]) (by rw [results_cell1 (p := 2) (ty := 45) (by kernel_rfl)]; simp [go_sem, b0, b1]) rfl ⟨_, rfl, ?_, ?_⟩
  · exact (((HB.out.setCell (by show _ ≤ _ + 1 + 1; omega) _).setCell (by show _ ≤ _ + 1; omega) _).setCell (by show _ ≤ _ + 1; omega) _)
  · refine ⟨HF.out, OlB.mono (B := w.heap.size + 3) (by omega) (OlB.kept (B := w.heap.size + 3) (w := w1) ?_ HSU.out)⟩
    intro x y hx hc
    have ne : ∀ (W : World) (k j : Nat) (z : Value), k < w.heap.size + 3 → W.cell? x = some y → (W.setCell ⟨k, j, none⟩ z).cell? x = some y := fun W k j z hk h =>
      (World.cell?_of_block (w := W) (Below.heap_setCell W ⟨k, j, none⟩ z x.block (by simp only; omega))).trans h
    exact (ne _ _ _ _ (by omega) (ne _ _ _ _ (by omega) (ne _ _ _ _ (by omega) hc)))

set_option maxRecDepth 100000 in
set_option maxHeartbeats 2000000 in
theorem to_funsOf (len : Nat) (kid : Nat → Fu) (ih : ∀ i, i < len → ToFAt (kid i)) (w : World) (v : Value) (hv : Fl w len kid v) (hw : funsWeight len kid ≤ 1048576) :
    Calls Tryd.prog 7 #[v] w fun e w' => ∃ u, e = .returned u ∧ Below w.heap.size w w' ∧ FlB w.heap.size w' len kid u := by
  obtain ⟨p, cap, rfl, hlen, hat⟩ := hv.at
  have HC : Hid (∀ i, i < len → ∃ b o u, p = some ⟨b, o, none⟩ ∧ HeadF w b (o + i * 2) (kid i) u ∧ (kid i).In w u) := hat
  have IH : Hid (∀ i, i < len → ToFAt (kid i)) := ih
  have HW : Hid (∀ i, i < len → (kid i).weight ≤ 1048576) := fun i hi => by
    have := sumF_at (fun i => (kid i).weight) i len hi
    unfold funsWeight at hw; omega
  have hl2 : len ≤ 1048576 := by unfold funsWeight at hw; omega
  clear hat ih hv hw hlen
  obtain ⟨i0, hi, hz0, hz1, hz2⟩ := info_parts fun_info
  obtain ⟨w1, hrun, hown, hg⟩ := run_make_full (P := Tryd.prog) w w.heap.size 26 45 i0 _ 2 Tryd.underlying26 hi hz0 hz1 .i64 .i64 len (by rw [hz2]; omega) (by unfold maxLen; omega) (Nat.le_refl _)
  have HO : Hid (∃ junk : List Value, junk.length = len * 2 ∧ w1.ownsRow w.heap.size 45 2 (.slice (some ⟨w.heap.size, 0, none⟩) len len) len (frows [] ++ junk)) := ⟨_, by simp [size_madeCells], hown⟩
  have HG : Hid (Below w.heap.size w w1 ∧ w.heap.size < w1.heap.size) := ⟨⟨hg.os, hg.tape, hg.output, hg.size, fun k hk => hg.block k hk (by simp)⟩, (hown.lt _ rfl).2⟩
  clear hown hg hi hz0 hz1 hz2
  go_enter Tryd.func7, Tryd.ntmps7
  go_wp2_with fail
  clear hrun
  go_loopw [4] (fun i wr => ∃ (l : List (Fu × Value)) (junk : List Value), i = .int .i64 l.length ∧ l.length ≤ len ∧ l.length * 2 + junk.length = len * 2 ∧ wr.ownsRow w.heap.size 45 2 (.slice (some ⟨w.heap.size, 0, none⟩) len len) len (frows l ++ junk) ∧ FKs kid l ∧ (∀ q ∈ l, q.1.InB (w.heap.size + 1) wr q.2) ∧ Below w.heap.size w wr ∧ w.heap.size < wr.heap.size) (fun i _ => len - (intOf i).toNat)
  case atStart =>
    obtain ⟨junk, h1, h2⟩ := HO.out
    exact ⟨[], junk, rfl, Nat.zero_le _, by simpa using h1, h2, FKs.nil _, by simp, HG.out.1, HG.out.2⟩
  case round =>
    obtain ⟨l, junk, rfl, hl, hjl, hown, hks, hin, hbel, hsz⟩ := hrel
    have HOW : Hid (wr.ownsRow w.heap.size 45 2 (.slice (some ⟨w.heap.size, 0, none⟩) len len) len (frows l ++ junk)) := hown
    have HIN : Hid (∀ q ∈ l, q.1.InB (w.heap.size + 1) wr q.2) := hin
    have HBL : Hid (Below w.heap.size w wr) := hbel
    have HKS : Hid (FKs kid l) := hks
    have HSZ : Hid (w.heap.size < wr.heap.size) := hsz
    clear hown hin hbel hks hsz HO HG
    generalize hk : l.length = k at *
    have HK : Hid (l.length = k) := hk
    clear hk
    by_cases hlt : (k : Int) < len
    · have hlt' : k < len := by omega
      obtain ⟨b, o, u, hp, hd, hinu⟩ := HC.out k hlt'
      subst hp
      obtain ⟨c0, c1⟩ := hd.below HBL.out
      have HI : Hid ((kid k).In wr u) := hinu.below HBL.out
      clear hd hinu
      go_wp2_with fail
      refine (IH.out k hlt' wr u HI.out (HW.out k hlt')).mono ?_
      rintro e w2 ⟨v, rfl, hb2, hinv⟩
      obtain ⟨pv, cv, hvv⟩ := hinv.sl.shape
      clear c0 c1
      have q0 := own_below5 HOW.out hb2
      have hf : ∀ j, w2.frozen? ⟨w.heap.size, j, none⟩ = false := fun j => q0.frozenAt j
      have hcl : ∀ j, j < 2 → ∃ u, w2.cell? ⟨w.heap.size, k * 2 + j, none⟩ = some u := by
        intro j hj
        have hl : k * 2 + j < (frows l ++ junk).length := by rw [List.length_append, frows_length, HK.out]; omega
        exact ⟨_, (q0.cellAt (k * 2 + j) (by omega)).trans (List.getElem?_eq_getElem hl)⟩
      obtain ⟨u0, hu0⟩ := hcl 0 (by omega)
      obtain ⟨u1, hu1⟩ := hcl 1 (by omega)
      rw [Nat.add_zero] at hu0
      have N := row_stepF (kid := kid) (v := v) HOW.out (by omega) HKS.out HIN.out HBL.out HSZ.out hb2 (by rw [HK.out]; exact hinv)
      rw [HK.out] at N
      have HN : Hid _ := N
      clear N hinv hb2 q0 hcl HI
      subst hvv
      go_wp2_with fail
      go_roundw
      case rel =>
        obtain ⟨n1, n2, n3, n4, n5⟩ := HN.out
        have h := HK.out
        exact ⟨l ++ [(kid k, _)], junk.drop 2, by rw [List.length_append, h]; go_num, by rw [List.length_append, h]; simp; omega, by rw [List.length_append, h]; simp; omega, n1, n2, n3, n4, n5⟩
      case measure => simp [intOf]; omega
    · have hke : k = len := by omega
      subst hke
      go_wp2
      go_ret
      have hj : junk = [] := List.eq_nil_of_length_eq_zero (by omega)
      subst hj
      have h1 := HOW.out
      rw [List.append_nil] at h1
      exact ⟨_, rfl, HBL.out, FlB.of_own h1 HK.out (Nat.le_refl _) HKS.out (fun q hq => (HIN.out q hq).mono (by omega))⟩

theorem to_funs (len : Nat) (kid : Nat → Fu) (w : World) (v : Value) (hv : Fl w len kid v) (hw : funsWeight len kid ≤ 1048576) :
    Calls Tryd.prog 7 #[v] w fun e w' => ∃ u, e = .returned u ∧ Below w.heap.size w w' ∧ FlB w.heap.size w' len kid u := to_funsOf len kid (fun i _ => to_fun (kid i)) w v hv hw
end Go.Proofs.YtocdpgogoadfnaaDoor
