/- laws.toStx and laws.toStxS: what is written, laid anew, in memory of the call's own. Condition: at most 2^20 of it. -/
import Derived.Test.YtlclfmjpnchmbaaGreatRows
import Derived.Test.YtlclfmjpnchmbaaGreatZG1StxOwn
import Derived.Test.YtlclfmjpnchmbaaGreatZG3MarkB
import Derived.Test.YtlclfmjpnchmbaaGreatZG2StxP
import Derived.WalkKit
import Derived.ProofKit
import Derived.OwnWalk
import Derived.BigQuiet
import Derived.Deep.QuietTactic
import Derived.Deep.RegionWith
namespace Go.Proofs.YtlclfmjpnchmbaaGreat
open Go.ChangeShapes Go.WideShapes Go.ChangeAt Go.RowKit

/-- The contract of toStx at a datum. -/
def ToXAt (t : X) : Prop := ∀ (w : World) (sv v : Value), t.Of w sv v → t.weight ≤ 1048576 →
  Calls Tryz.prog 6 #[.agg #[.int .i64 t.op, .int .i64 t.at_, .int .i64 t.n, .string t.s, sv, v]] w fun e w' => ∃ su u, e = .returned (.agg #[.int .i64 t.op, .int .i64 t.at_, .int .i64 t.n, .string t.s, su, u]) ∧ Below w.heap.size w w' ∧ t.At w.heap.size w' su u

set_option maxRecDepth 100000 in
set_option maxHeartbeats 2000000 in
theorem to_stxs (len : Nat) (kid : Nat → X) (ih : ∀ i, i < len → ToXAt (kid i)) (w : World) (v : Value) (hv : XsOf w len kid v) (hw : kidsWeightX len kid ≤ 1048576) :
    Calls Tryz.prog 19 #[v] w fun e w' => ∃ u, e = .returned u ∧ Below w.heap.size w w' ∧ XsAt w.heap.size w' len kid u := by
  obtain ⟨p, cap, rfl, hlen, hat⟩ := hv.at
  have HC : Hid (∀ i, i < len → ∃ b o sv u, p = some ⟨b, o, none⟩ ∧ Head6 w b (o + i * 6) (kid i) sv u ∧ (kid i).Of w sv u) := hat
  have IH : Hid (∀ i, i < len → ToXAt (kid i)) := ih
  have HW : Hid (∀ i, i < len → (kid i).weight ≤ 1048576) := fun i hi => by
    have := sumX_at (fun i => (kid i).weight) i len hi
    unfold kidsWeightX at hw; omega
  have hl2 : len ≤ 1048576 := by unfold kidsWeightX at hw; omega
  clear hat ih hv hw hlen
  obtain ⟨i0, hi, hz0, hz1, hz2⟩ := info_parts stx_info
  obtain ⟨w1, hrun, hown, hg⟩ := run_make_full (P := Tryz.prog) w w.heap.size 30 32 i0 _ 6 Tryz.underlying30 hi hz0 hz1 .i64 .i64 len (by rw [hz2]; omega) (by unfold maxLen; omega) (Nat.le_refl _)
  have HO : Hid (∃ junk : List Value, junk.length = len * 6 ∧ w1.ownsRow w.heap.size 32 6 (.slice (some ⟨w.heap.size, 0, none⟩) len len) len (xrows [] ++ junk)) := ⟨_, by simp [size_madeCells], hown⟩
  have HG : Hid (Below w.heap.size w w1 ∧ w.heap.size < w1.heap.size) := ⟨⟨hg.os, hg.tape, hg.output, hg.size, fun k hk => hg.block k hk (by simp)⟩, (hown.lt _ rfl).2⟩
  clear hown hg hi hz0 hz1 hz2
  go_enter Tryz.func19, Tryz.ntmps19
  go_wp2_with fail
  clear hrun
  go_loopw [4] (fun i wr => ∃ (l : List XR) (junk : List Value), i = .int .i64 l.length ∧ l.length ≤ len ∧ l.length * 6 + junk.length = len * 6 ∧ wr.ownsRow w.heap.size 32 6 (.slice (some ⟨w.heap.size, 0, none⟩) len len) len (xrows l ++ junk) ∧ XKs kid l ∧ (∀ q ∈ l, q.1.At (w.heap.size + 1) wr q.2.1 q.2.2) ∧ Below w.heap.size w wr ∧ w.heap.size < wr.heap.size) (fun i _ => len - (intOf i).toNat)
  case atStart =>
    obtain ⟨junk, h1, h2⟩ := HO.out
    exact ⟨[], junk, rfl, Nat.zero_le _, by simpa using h1, h2, XKs.nil _, by simp, HG.out.1, HG.out.2⟩
  case round =>
    obtain ⟨l, junk, rfl, hl, hjl, hown, hks, hin, hbel, hsz⟩ := hrel
    have HOW : Hid (wr.ownsRow w.heap.size 32 6 (.slice (some ⟨w.heap.size, 0, none⟩) len len) len (xrows l ++ junk)) := hown
    have HIN : Hid (∀ q ∈ l, q.1.At (w.heap.size + 1) wr q.2.1 q.2.2) := hin
    have HBL : Hid (Below w.heap.size w wr) := hbel
    have HKS : Hid (XKs kid l) := hks
    have HSZ : Hid (w.heap.size < wr.heap.size) := hsz
    clear hown hin hbel hks hsz HO HG
    generalize hk : l.length = k at *
    have HK : Hid (l.length = k) := hk
    clear hk
    by_cases hlt : (k : Int) < len
    · have hlt' : k < len := by omega
      obtain ⟨b, o, su, u, hp, hd, hinu⟩ := HC.out k hlt'
      subst hp
      obtain ⟨c0, c1, c2, c3, c4, c5⟩ := hd.below HBL.out
      have HI : Hid ((kid k).Of wr su u) := X.Of.below HBL.out hinu
      clear hd hinu
      go_wp2_with fail
      refine (IH.out k hlt' wr su u HI.out (HW.out k hlt')).mono ?_
      rintro e w2 ⟨sv, v, rfl, hb2, hinv⟩
      obtain ⟨pv, cv, hvv⟩ := hinv.xs.shape
      obtain ⟨ps, cs, hss⟩ := hinv.sets.shape
      clear c0 c1 c2 c3 c4 c5
      have q0 := own_belowX HOW.out hb2
      have hf : ∀ j, w2.frozen? ⟨w.heap.size, j, none⟩ = false := fun j => q0.frozenAt j
      have hcl : ∀ j, j < 6 → ∃ u, w2.cell? ⟨w.heap.size, k * 6 + j, none⟩ = some u := by
        intro j hj
        have hl : k * 6 + j < (xrows l ++ junk).length := by rw [List.length_append, xrows_length, HK.out]; omega
        exact ⟨_, (q0.cellAt (k * 6 + j) (by omega)).trans (List.getElem?_eq_getElem hl)⟩
      obtain ⟨u0, hu0⟩ := hcl 0 (by omega)
      obtain ⟨u1, hu1⟩ := hcl 1 (by omega)
      obtain ⟨u2, hu2⟩ := hcl 2 (by omega)
      obtain ⟨u3, hu3⟩ := hcl 3 (by omega)
      obtain ⟨u4, hu4⟩ := hcl 4 (by omega)
      obtain ⟨u5, hu5⟩ := hcl 5 (by omega)
      rw [Nat.add_zero] at hu0
      have N := row_stepX (kid := kid) (sv := sv) (v := v) HOW.out (by omega) HKS.out HIN.out HBL.out HSZ.out hb2 (by rw [HK.out]; exact hinv)
      rw [HK.out] at N
      have HN : Hid _ := N
      clear N hinv hb2 q0 hcl HI
      subst hvv hss
      go_wp2_with fail
      go_roundw
      case rel =>
        obtain ⟨n1, n2, n3, n4, n5⟩ := HN.out
        have h := HK.out
        exact ⟨l ++ [(kid k, _, _)], junk.drop 6, by rw [List.length_append, h]; go_num, by rw [List.length_append, h]; simp; omega, by rw [List.length_append, h]; simp; omega, n1, n2, n3, n4, n5⟩
      case measure => simp [intOf]; omega
    · have hke : k = len := by omega
      subst hke
      go_wp2
      go_ret
      have hj : junk = [] := List.eq_nil_of_length_eq_zero (by omega)
      subst hj
      have h1 := HOW.out
      rw [List.append_nil] at h1
      exact ⟨_, rfl, HBL.out, XsB.of_own h1 HK.out (Nat.le_refl _) HKS.out (fun q hq => X.At.mono (by omega) (HIN.out q hq))⟩


set_option maxRecDepth 100000 in
set_option maxHeartbeats 2000000 in
theorem to_stx (t : X) : ToXAt t := by
  induction t with
  | no => intro w sv v h _; exact h.elim
  | mk op a n s set len kid ih =>
    intro w sv v hin hwt
    have hs := hin.size
    have hn := hin.num
    have hsl := hin.xs
    have hset := hin.sets
    have hsm := hin.setLen
    simp only [X.op, X.at_, X.n, X.s, X.set, X.len, X.kid] at hs hn hsl hset hsm ⊢
    obtain ⟨p, cap, hv⟩ := hsl.shape
    obtain ⟨p2, cap2, hv2⟩ := hset.shape
    have HSL : Hid (XsOf w len kid v) := hsl
    have HST : Hid (Rs w sv set) := hset
    have IH : Hid (∀ i, ToXAt (kid i)) := ih
    have HS : Hid (s.size ≤ maxLen ∧ (-9223372036854775808 ≤ n ∧ n ≤ 9223372036854775807) ∧ set.length ≤ maxLen) := ⟨hs, hn, hsm⟩
    have e : (X.mk op a n s set len kid).weight = s.size + (set.length + kidsWeightX len kid) := rfl
    have HW : Hid (kidsWeightX len kid ≤ 1048576) := by
      show _ ≤ _
      omega
    have HL : Hid (set.length ≤ 4194304) := by
      show _ ≤ _
      omega
    clear hin hsl ih hs hn hwt hset hsm e
    subst hv hv2
    go_enter Tryz.func6, Tryz.ntmps6
    go_wp2_with fail
    refine (to_ints set _ _ (HST.out.below ((newx w _).trans (((newx _ _).mono (by simp)).trans ((newx _ _).mono (by simp; omega))))) HL.out).mono ?_
    rintro e w1 ⟨su, rfl, hb1, hown⟩
    obtain ⟨h1, h2, h3, h4, h5⟩ := threeX hb1
    have hsb : SetB (w.heap.size + 3) w1 su set := hown.setB (by simp)
    obtain ⟨ps, cs, hsu⟩ := hsb.shape
    subst hsu
    have HSB : Hid (SetB (w.heap.size + 3) w1 (.slice ps set.length cs) set) := hsb
    have HB1 : Hid (Below w.heap.size w w1 ∧ w.heap.size + 3 ≤ w1.heap.size) := ⟨h5, h4⟩
    have hf1 : ∀ j, w1.frozen? ⟨w.heap.size + 1, j, none⟩ = false := fun j => frozen_of_row w1 _ j _ _ h2
    have hf2 : ∀ j, w1.frozen? ⟨w.heap.size + 1 + 1, j, none⟩ = false := fun j => frozen_of_row w1 _ j _ _ h3
    have a5 : w1.cell? ⟨w.heap.size, 5, none⟩ = some (.slice p len cap) := cell_of_row w1 _ 5 _ _ _ h1
    have b0 : w1.cell? ⟨w.heap.size + 1, 0, none⟩ = some (.int .i64 0) := cell_of_row w1 _ 0 _ _ _ h2
    have b1 : w1.cell? ⟨w.heap.size + 1, 1, none⟩ = some (.int .i64 0) := cell_of_row w1 _ 1 _ _ _ h2
    have b2 : w1.cell? ⟨w.heap.size + 1, 2, none⟩ = some (.int .i64 0) := cell_of_row w1 _ 2 _ _ _ h2
    have b3 : w1.cell? ⟨w.heap.size + 1, 3, none⟩ = some (.string ⟨#[]⟩) := cell_of_row w1 _ 3 _ _ _ h2
    have b4 : w1.cell? ⟨w.heap.size + 1, 4, none⟩ = some (.slice none 0 0) := cell_of_row w1 _ 4 _ _ _ h2
    have b5 : w1.cell? ⟨w.heap.size + 1, 5, none⟩ = some (.slice none 0 0) := cell_of_row w1 _ 5 _ _ _ h2
    have c0 : w1.cell? ⟨w.heap.size + 1 + 1, 0, none⟩ = some (.int .i64 op) := cell_of_row w1 _ 0 _ _ _ h3
    have c1 : w1.cell? ⟨w.heap.size + 1 + 1, 1, none⟩ = some (.int .i64 a) := cell_of_row w1 _ 1 _ _ _ h3
    have c2 : w1.cell? ⟨w.heap.size + 1 + 1, 2, none⟩ = some (.int .i64 n) := cell_of_row w1 _ 2 _ _ _ h3
    have c3 : w1.cell? ⟨w.heap.size + 1 + 1, 3, none⟩ = some (.string s) := cell_of_row w1 _ 3 _ _ _ h3
    have c4 : w1.cell? ⟨w.heap.size + 1 + 1, 4, none⟩ = some (.slice none 0 0) := cell_of_row w1 _ 4 _ _ _ h3
    have c5 : w1.cell? ⟨w.heap.size + 1 + 1, 5, none⟩ = some (.slice none 0 0) := cell_of_row w1 _ 5 _ _ _ h3
    clear hb1 hown hsb h1 h2 h3 h4 h5 HST
    go_wp2_with fail
    have hbs : Below w.heap.size w (w1.setCell ⟨w.heap.size + 1 + 1, 4, none⟩ (.slice ps set.length cs)) := HB1.out.1.setCell (by show _ ≤ _ + 1 + 1; omega) _
    refine (to_stxs len kid (fun i _ => IH.out i) _ _ (XsOf.below hbs HSL.out) HW.out).mono ?_
    rintro e w2 ⟨u, rfl, hb2, hsl2⟩
    obtain ⟨pu, cu, hu⟩ := hsl2.shape
    subst hu
    have hz : (w1.setCell ⟨w.heap.size + 1 + 1, 4, none⟩ (.slice ps set.length cs)).heap.size = w1.heap.size := by simp
    have hlt := HB1.out.2
    have HSU : Hid (XsAt (w.heap.size + 3) w2 len kid (.slice pu len cu)) := XsAt.mono (by rw [hz]; exact hlt) hsl2
    have HB2 : Hid (Below w.heap.size w w2) := hbs.trans (hb2.mono (by rw [hz]; omega))
    have ne : ∀ (x : Addr) (y : Value) (W : World) (k j : Nat) (z : Value), w.heap.size + 3 ≤ x.block → k < w.heap.size + 3 → W.cell? x = some y → (W.setCell ⟨k, j, none⟩ z).cell? x = some y := fun x y W k j z hx hk h =>
      (World.cell?_of_block (w := W) (Below.heap_setCell W ⟨k, j, none⟩ z x.block (by simp only; omega))).trans h
    have HNE : Hid (∀ (x : Addr) (y : Value) (W : World) (k j : Nat) (z : Value), w.heap.size + 3 ≤ x.block → k < w.heap.size + 3 → W.cell? x = some y → (W.setCell ⟨k, j, none⟩ z).cell? x = some y) := ne
    have HSB2 : Hid (SetB (w.heap.size + 3) w2 (.slice ps set.length cs) set) := HSB.out.kept (Nat.le_refl _) (fun x y hx hc => keepsX hb2 _ _ (ne x y _ _ _ _ hx (by omega) hc))
    have K : ∀ x y, (w1.setCell ⟨w.heap.size + 1 + 1, 4, none⟩ (.slice ps set.length cs)).cell? x = some y → w2.cell? x = some y := fun x y h => keepsX hb2 x y h
    have F : ∀ x : Addr, x.block < w.heap.size + 3 → w2.frozen? x = w1.frozen? x := fun x hx => (hb2.frozen (by rw [hz]; omega)).trans (by simp)
    have hg1 : ∀ j, w2.frozen? ⟨w.heap.size + 1, j, none⟩ = false := fun j => (F _ (by show _ + 1 < _; omega)).trans (hf1 j)
    have hg2 : ∀ j, w2.frozen? ⟨w.heap.size + 1 + 1, j, none⟩ = false := fun j => (F _ (by show _ + 1 + 1 < _; omega)).trans (hf2 j)
    have d0 : w2.cell? ⟨w.heap.size + 1 + 1, 0, none⟩ = some (.int .i64 op) := K _ _ (by simp [go_sem, c0])
    have d1 : w2.cell? ⟨w.heap.size + 1 + 1, 1, none⟩ = some (.int .i64 a) := K _ _ (by simp [go_sem, c1])
    have d2 : w2.cell? ⟨w.heap.size + 1 + 1, 2, none⟩ = some (.int .i64 n) := K _ _ (by simp [go_sem, c2])
    have d3 : w2.cell? ⟨w.heap.size + 1 + 1, 3, none⟩ = some (.string s) := K _ _ (by simp [go_sem, c3])
    have d4 : w2.cell? ⟨w.heap.size + 1 + 1, 4, none⟩ = some (.slice ps set.length cs) := K _ _ (by simp [go_sem, c4])
    have d5 : w2.cell? ⟨w.heap.size + 1 + 1, 5, none⟩ = some (.slice none 0 0) := K _ _ (by simp [go_sem, c5])
    have e0 : w2.cell? ⟨w.heap.size + 1, 0, none⟩ = some (.int .i64 0) := K _ _ (by simp [go_sem, b0])
    have e1 : w2.cell? ⟨w.heap.size + 1, 1, none⟩ = some (.int .i64 0) := K _ _ (by simp [go_sem, b1])
    have e2 : w2.cell? ⟨w.heap.size + 1, 2, none⟩ = some (.int .i64 0) := K _ _ (by simp [go_sem, b2])
    have e3 : w2.cell? ⟨w.heap.size + 1, 3, none⟩ = some (.string ⟨#[]⟩) := K _ _ (by simp [go_sem, b3])
    have e4 : w2.cell? ⟨w.heap.size + 1, 4, none⟩ = some (.slice none 0 0) := K _ _ (by simp [go_sem, b4])
    have e5 : w2.cell? ⟨w.heap.size + 1, 5, none⟩ = some (.slice none 0 0) := K _ _ (by simp [go_sem, b5])
    clear hb2 hsl2 hbs hz K F ne HB1 HSB HSL c0 c1 c2 c3 c4 c5 b0 b1 b2 b3 b4 b5 hf1 hf2 a5 hlt
    go_wp2_with fail
    refine bodyPost_ret (v := .agg #[.int .i64 op, .int .i64 a, .int .i64 n, .string s, .slice ps set.length cs, .slice pu len cu]) (by rw [results_cellX (p := 2) (ty := 32) (by kernel_rfl)]; simp [go_sem, e0, e1, e2, e3, e4, e5]) rfl ⟨_, _, rfl, ?_, ?_⟩
    · exact (((((((HB2.out.setCell (by show _ ≤ _ + 1 + 1; omega) _).setCell (by show _ ≤ _ + 1; omega) _).setCell (by show _ ≤ _ + 1; omega) _).setCell (by show _ ≤ _ + 1; omega) _).setCell (by show _ ≤ _ + 1; omega) _).setCell (by show _ ≤ _ + 1; omega) _).setCell (by show _ ≤ _ + 1; omega) _)
    · refine X.InB.mk' HS.out.1 HS.out.2.1 HS.out.2.2 (SetB.kept (B := w.heap.size + 3) (w := w2) (by omega) ?_ HSB2.out) (XsAt.kept (B := w.heap.size + 3) (w := w2) (by omega) ?_ HSU.out)
      all_goals
        intro x y hx hc
        exact HNE.out x y _ _ _ _ hx (by omega) (HNE.out x y _ _ _ _ hx (by omega) (HNE.out x y _ _ _ _ hx (by omega) (HNE.out x y _ _ _ _ hx (by omega) (HNE.out x y _ _ _ _ hx (by omega) (HNE.out x y _ _ _ _ hx (by omega) (HNE.out x y _ _ _ _ hx (by omega) hc))))))
end Go.Proofs.YtlclfmjpnchmbaaGreat

/- laws.toStx and laws.toStxS: what is written, laid anew, each row and each set in a block of its own. Condition: at most 2^20 of it. -/
namespace Go.Proofs.YtlclfmjpnchmbaaGreat
open Go.ChangeShapes Go.WideShapes Go.ChangeAt Go.RowKit

/-- The contract of toStx at a datum. -/
def ToXOwn (t : X) : Prop := ∀ (w : World) (sv v : Value), t.Of w sv v → t.weight ≤ 1048576 →
  Calls Tryz.prog 6 #[.agg #[.int .i64 t.op, .int .i64 t.at_, .int .i64 t.n, .string t.s, sv, v]] w fun e w' => ∃ su u S, e = .returned (.agg #[.int .i64 t.op, .int .i64 t.at_, .int .i64 t.n, .string t.s, su, u]) ∧ Below w.heap.size w w' ∧ XOwn w' t su u S ∧ S.Nodup ∧ ∀ x ∈ S, w.heap.size ≤ x

set_option maxRecDepth 100000 in
set_option maxHeartbeats 2000000 in
theorem to_stxs_own (len : Nat) (kid : Nat → X) (ih : ∀ i, i < len → ToXOwn (kid i)) (w : World) (v : Value) (hv : XsOf w len kid v) (hw : kidsWeightX len kid ≤ 1048576) :
    Calls Tryz.prog 19 #[v] w fun e w' => ∃ u S, e = .returned u ∧ Below w.heap.size w w' ∧ XsOwn w' len kid u S ∧ S.Nodup ∧ ∀ x ∈ S, w.heap.size ≤ x := by
  obtain ⟨p, cap, rfl, hlen, hat⟩ := hv.at
  have HC : Hid (∀ i, i < len → ∃ b o sv u, p = some ⟨b, o, none⟩ ∧ Head6 w b (o + i * 6) (kid i) sv u ∧ (kid i).Of w sv u) := hat
  have IH : Hid (∀ i, i < len → ToXOwn (kid i)) := ih
  have HW : Hid (∀ i, i < len → (kid i).weight ≤ 1048576) := fun i hi => by
    have := sumX_at (fun i => (kid i).weight) i len hi
    unfold kidsWeightX at hw; omega
  have hl2 : len ≤ 1048576 := by unfold kidsWeightX at hw; omega
  clear hat ih hv hw hlen
  obtain ⟨i0, hi, hz0, hz1, hz2⟩ := info_parts stx_info
  obtain ⟨w1, hrun, hown, hg⟩ := run_make_full (P := Tryz.prog) w w.heap.size 30 32 i0 _ 6 Tryz.underlying30 hi hz0 hz1 .i64 .i64 len (by rw [hz2]; omega) (by unfold maxLen; omega) (Nat.le_refl _)
  have HO : Hid (∃ junk : List Value, junk.length = len * 6 ∧ w1.ownsRow w.heap.size 32 6 (.slice (some ⟨w.heap.size, 0, none⟩) len len) len (xrows [] ++ junk)) := ⟨_, by simp [size_madeCells], hown⟩
  have HG : Hid (Below w.heap.size w w1 ∧ w.heap.size < w1.heap.size) := ⟨⟨hg.os, hg.tape, hg.output, hg.size, fun k hk => hg.block k hk (by simp)⟩, (hown.lt _ rfl).2⟩
  clear hown hg hi hz0 hz1 hz2
  go_enter Tryz.func19, Tryz.ntmps19
  go_wp2_with fail
  clear hrun
  go_loopw [4] (fun i wr => ∃ (l : List XR) (junk : List Value) (SS : List (List Nat)), i = .int .i64 l.length ∧ l.length ≤ len ∧ l.length * 6 + junk.length = len * 6 ∧ wr.ownsRow w.heap.size 32 6 (.slice (some ⟨w.heap.size, 0, none⟩) len len) len (xrows l ++ junk) ∧ XAcc (w.heap.size + 1) wr kid l SS ∧ Below w.heap.size w wr ∧ w.heap.size < wr.heap.size) (fun i _ => len - (intOf i).toNat)
  case atStart =>
    obtain ⟨junk, h1, h2⟩ := HO.out
    exact ⟨[], junk, [], rfl, Nat.zero_le _, by simpa using h1, h2, XAcc.nil _ _ _, HG.out.1, HG.out.2⟩
  case round =>
    obtain ⟨l, junk, SS, rfl, hl, hjl, hown, hin, hbel, hsz⟩ := hrel
    have HOW : Hid (wr.ownsRow w.heap.size 32 6 (.slice (some ⟨w.heap.size, 0, none⟩) len len) len (xrows l ++ junk)) := hown
    have HIN : Hid (XAcc (w.heap.size + 1) wr kid l SS) := hin
    have HBL : Hid (Below w.heap.size w wr) := hbel
    have HSZ : Hid (w.heap.size < wr.heap.size) := hsz
    clear hown hin hbel hsz HO HG
    generalize hk : l.length = k at *
    have HK : Hid (l.length = k) := hk
    clear hk
    by_cases hlt : (k : Int) < len
    · have hlt' : k < len := by omega
      obtain ⟨b, o, su, u, hp, hd, hinu⟩ := HC.out k hlt'
      subst hp
      obtain ⟨c0, c1, c2, c3, c4, c5⟩ := hd.below HBL.out
      have HI : Hid ((kid k).Of wr su u) := X.Of.below HBL.out hinu
      clear hd hinu
      go_wp2_with fail
      refine (IH.out k hlt' wr su u HI.out (HW.out k hlt')).mono ?_
      rintro e w2 ⟨sv, v, T, rfl, hb2, hinv, hnT, hgT⟩
      obtain ⟨pv, cv, hvv⟩ := hinv.at0.xs.shape
      obtain ⟨ps, cs, hss⟩ := hinv.at0.sets.shape
      clear c0 c1 c2 c3 c4 c5
      have q0 := own_belowX HOW.out hb2
      have hf : ∀ j, w2.frozen? ⟨w.heap.size, j, none⟩ = false := fun j => q0.frozenAt j
      have hcl : ∀ j, j < 6 → ∃ u, w2.cell? ⟨w.heap.size, k * 6 + j, none⟩ = some u := by
        intro j hj
        have hl : k * 6 + j < (xrows l ++ junk).length := by rw [List.length_append, xrows_length, HK.out]; omega
        exact ⟨_, (q0.cellAt (k * 6 + j) (by omega)).trans (List.getElem?_eq_getElem hl)⟩
      obtain ⟨u0, hu0⟩ := hcl 0 (by omega)
      obtain ⟨u1, hu1⟩ := hcl 1 (by omega)
      obtain ⟨u2, hu2⟩ := hcl 2 (by omega)
      obtain ⟨u3, hu3⟩ := hcl 3 (by omega)
      obtain ⟨u4, hu4⟩ := hcl 4 (by omega)
      obtain ⟨u5, hu5⟩ := hcl 5 (by omega)
      rw [Nat.add_zero] at hu0
      have N := row_stepO (kid := kid) (sv := sv) (v := v) HOW.out (by omega) HIN.out HBL.out HSZ.out hb2 (by rw [HK.out]; exact hinv) hnT hgT
      rw [HK.out] at N
      have HN : Hid _ := N
      clear N hinv hb2 q0 hcl HI hnT hgT
      subst hvv hss
      go_wp2_with fail
      go_roundw
      case rel =>
        obtain ⟨n1, n2, n4, n5⟩ := HN.out
        have h := HK.out
        exact ⟨l ++ [(kid k, _, _)], junk.drop 6, SS ++ [T], by rw [List.length_append, h]; go_num, by rw [List.length_append, h]; simp; omega, by rw [List.length_append, h]; simp; omega, n1, n2, n4, n5⟩
      case measure => simp [intOf]; omega
    · have hke : k = len := by omega
      subst hke
      go_wp2
      go_ret
      have hj : junk = [] := List.eq_nil_of_length_eq_zero (by omega)
      subst hj
      have h1 := HOW.out
      rw [List.append_nil] at h1
      obtain ⟨d1, d2, d3⟩ := HIN.out.done h1 HK.out (Nat.lt_succ_self _)
      exact ⟨_, rfl, HBL.out, _, d1, d2, d3⟩


set_option maxRecDepth 100000 in
set_option maxHeartbeats 2000000 in
theorem to_stx_own (t : X) : ToXOwn t := by
  induction t with
  | no => intro w sv v h _; exact h.elim
  | mk op a n s set len kid ih =>
    intro w sv v hin hwt
    have hs := hin.size
    have hn := hin.num
    have hsl := hin.xs
    have hset := hin.sets
    have hsm := hin.setLen
    simp only [X.op, X.at_, X.n, X.s, X.set, X.len, X.kid] at hs hn hsl hset hsm ⊢
    obtain ⟨p, cap, hv⟩ := hsl.shape
    obtain ⟨p2, cap2, hv2⟩ := hset.shape
    have HSL : Hid (XsOf w len kid v) := hsl
    have HST : Hid (Rs w sv set) := hset
    have IH : Hid (∀ i, ToXOwn (kid i)) := ih
    have HS : Hid (s.size ≤ maxLen ∧ (-9223372036854775808 ≤ n ∧ n ≤ 9223372036854775807) ∧ set.length ≤ maxLen) := ⟨hs, hn, hsm⟩
    have e : (X.mk op a n s set len kid).weight = s.size + (set.length + kidsWeightX len kid) := rfl
    have HW : Hid (kidsWeightX len kid ≤ 1048576) := by
      show _ ≤ _
      omega
    have HL : Hid (set.length ≤ 4194304) := by
      show _ ≤ _
      omega
    clear hin hsl ih hs hn hwt hset hsm e
    subst hv hv2
    go_enter Tryz.func6, Tryz.ntmps6
    go_wp2_with fail
    refine (to_ints set _ _ (HST.out.below ((newx w _).trans (((newx _ _).mono (by simp)).trans ((newx _ _).mono (by simp; omega))))) HL.out).mono ?_
    rintro e w1 ⟨su, rfl, hb1, hown⟩
    obtain ⟨h1, h2, h3, h4, h5⟩ := threeX hb1
    have hsb : Own w1 (w.heap.size + 3) su set := hown.mono (by simp)
    obtain ⟨ps, cs, hsu⟩ := (hsb.setB (Nat.zero_le _)).shape
    subst hsu
    have HSB : Hid (Own w1 (w.heap.size + 3) (.slice ps set.length cs) set) := hsb
    have HB1 : Hid (Below w.heap.size w w1 ∧ w.heap.size + 3 ≤ w1.heap.size) := ⟨h5, h4⟩
    have hf1 : ∀ j, w1.frozen? ⟨w.heap.size + 1, j, none⟩ = false := fun j => frozen_of_row w1 _ j _ _ h2
    have hf2 : ∀ j, w1.frozen? ⟨w.heap.size + 1 + 1, j, none⟩ = false := fun j => frozen_of_row w1 _ j _ _ h3
    have a5 : w1.cell? ⟨w.heap.size, 5, none⟩ = some (.slice p len cap) := cell_of_row w1 _ 5 _ _ _ h1
    have b0 : w1.cell? ⟨w.heap.size + 1, 0, none⟩ = some (.int .i64 0) := cell_of_row w1 _ 0 _ _ _ h2
    have b1 : w1.cell? ⟨w.heap.size + 1, 1, none⟩ = some (.int .i64 0) := cell_of_row w1 _ 1 _ _ _ h2
    have b2 : w1.cell? ⟨w.heap.size + 1, 2, none⟩ = some (.int .i64 0) := cell_of_row w1 _ 2 _ _ _ h2
    have b3 : w1.cell? ⟨w.heap.size + 1, 3, none⟩ = some (.string ⟨#[]⟩) := cell_of_row w1 _ 3 _ _ _ h2
    have b4 : w1.cell? ⟨w.heap.size + 1, 4, none⟩ = some (.slice none 0 0) := cell_of_row w1 _ 4 _ _ _ h2
    have b5 : w1.cell? ⟨w.heap.size + 1, 5, none⟩ = some (.slice none 0 0) := cell_of_row w1 _ 5 _ _ _ h2
    have c0 : w1.cell? ⟨w.heap.size + 1 + 1, 0, none⟩ = some (.int .i64 op) := cell_of_row w1 _ 0 _ _ _ h3
    have c1 : w1.cell? ⟨w.heap.size + 1 + 1, 1, none⟩ = some (.int .i64 a) := cell_of_row w1 _ 1 _ _ _ h3
    have c2 : w1.cell? ⟨w.heap.size + 1 + 1, 2, none⟩ = some (.int .i64 n) := cell_of_row w1 _ 2 _ _ _ h3
    have c3 : w1.cell? ⟨w.heap.size + 1 + 1, 3, none⟩ = some (.string s) := cell_of_row w1 _ 3 _ _ _ h3
    have c4 : w1.cell? ⟨w.heap.size + 1 + 1, 4, none⟩ = some (.slice none 0 0) := cell_of_row w1 _ 4 _ _ _ h3
    have c5 : w1.cell? ⟨w.heap.size + 1 + 1, 5, none⟩ = some (.slice none 0 0) := cell_of_row w1 _ 5 _ _ _ h3
    clear hb1 hown hsb h1 h2 h3 h4 h5 HST
    go_wp2_with fail
    have hbs : Below w.heap.size w (w1.setCell ⟨w.heap.size + 1 + 1, 4, none⟩ (.slice ps set.length cs)) := HB1.out.1.setCell (by show _ ≤ _ + 1 + 1; omega) _
    refine (to_stxs_own len kid (fun i _ => IH.out i) _ _ (XsOf.below hbs HSL.out) HW.out).mono ?_
    rintro e w2 ⟨u, S2, rfl, hb2, hsl2, hnd2, hge2⟩
    obtain ⟨pu, cu, hu⟩ := hsl2.at0.shape
    subst hu
    have hz : (w1.setCell ⟨w.heap.size + 1 + 1, 4, none⟩ (.slice ps set.length cs)).heap.size = w1.heap.size := by simp
    have hlt := HB1.out.2
    have HSU : Hid (XsOwn w2 len kid (.slice pu len cu) S2 ∧ S2.Nodup ∧ (∀ x ∈ S2, w1.heap.size ≤ x) ∧ w.heap.size + 3 ≤ w1.heap.size) := ⟨hsl2, hnd2, fun x hx => by have := hge2 x hx; rw [hz] at this; exact this, hlt⟩
    have HB2 : Hid (Below w.heap.size w w2) := hbs.trans (hb2.mono (by rw [hz]; omega))
    have hso1 : Own (w1.setCell ⟨w.heap.size + 1 + 1, 4, none⟩ (.slice ps set.length cs)) (w.heap.size + 3) (.slice ps set.length cs) set :=
      HSB.out.sameX (fun g hg => Below.heap_setCell w1 ⟨w.heap.size + 1 + 1, 4, none⟩ _ g (by have := (World.ownsRow.lt HSB.out g hg).1; simp only; omega))
    have hsl : ∀ g, (Value.slice ps set.length cs).ownBlock = some g → w.heap.size + 3 ≤ g ∧ g < w1.heap.size := fun g hg => World.ownsRow.lt HSB.out g hg
    have HSB2 : Hid (Own w2 (w.heap.size + 3) (.slice ps set.length cs) set ∧ ∀ g, (Value.slice ps set.length cs).ownBlock = some g → w.heap.size + 3 ≤ g ∧ g < w1.heap.size) := ⟨hso1.below hb2, hsl⟩
    clear hso1 hsl
    have K : ∀ x y, (w1.setCell ⟨w.heap.size + 1 + 1, 4, none⟩ (.slice ps set.length cs)).cell? x = some y → w2.cell? x = some y := fun x y h => keepsX hb2 x y h
    have F : ∀ x : Addr, x.block < w.heap.size + 3 → w2.frozen? x = w1.frozen? x := fun x hx => (hb2.frozen (by rw [hz]; omega)).trans (by simp)
    have hg1 : ∀ j, w2.frozen? ⟨w.heap.size + 1, j, none⟩ = false := fun j => (F _ (by show _ + 1 < _; omega)).trans (hf1 j)
    have hg2 : ∀ j, w2.frozen? ⟨w.heap.size + 1 + 1, j, none⟩ = false := fun j => (F _ (by show _ + 1 + 1 < _; omega)).trans (hf2 j)
    have d0 : w2.cell? ⟨w.heap.size + 1 + 1, 0, none⟩ = some (.int .i64 op) := K _ _ (by simp [go_sem, c0])
    have d1 : w2.cell? ⟨w.heap.size + 1 + 1, 1, none⟩ = some (.int .i64 a) := K _ _ (by simp [go_sem, c1])
    have d2 : w2.cell? ⟨w.heap.size + 1 + 1, 2, none⟩ = some (.int .i64 n) := K _ _ (by simp [go_sem, c2])
    have d3 : w2.cell? ⟨w.heap.size + 1 + 1, 3, none⟩ = some (.string s) := K _ _ (by simp [go_sem, c3])
    have d4 : w2.cell? ⟨w.heap.size + 1 + 1, 4, none⟩ = some (.slice ps set.length cs) := K _ _ (by simp [go_sem, c4])
    have d5 : w2.cell? ⟨w.heap.size + 1 + 1, 5, none⟩ = some (.slice none 0 0) := K _ _ (by simp [go_sem, c5])
    have e0 : w2.cell? ⟨w.heap.size + 1, 0, none⟩ = some (.int .i64 0) := K _ _ (by simp [go_sem, b0])
    have e1 : w2.cell? ⟨w.heap.size + 1, 1, none⟩ = some (.int .i64 0) := K _ _ (by simp [go_sem, b1])
    have e2 : w2.cell? ⟨w.heap.size + 1, 2, none⟩ = some (.int .i64 0) := K _ _ (by simp [go_sem, b2])
    have e3 : w2.cell? ⟨w.heap.size + 1, 3, none⟩ = some (.string ⟨#[]⟩) := K _ _ (by simp [go_sem, b3])
    have e4 : w2.cell? ⟨w.heap.size + 1, 4, none⟩ = some (.slice none 0 0) := K _ _ (by simp [go_sem, b4])
    have e5 : w2.cell? ⟨w.heap.size + 1, 5, none⟩ = some (.slice none 0 0) := K _ _ (by simp [go_sem, b5])
    clear hb2 hsl2 hnd2 hge2 hbs hz K F HB1 HSB HSL c0 c1 c2 c3 c4 c5 b0 b1 b2 b3 b4 b5 hf1 hf2 a5 hlt
    go_wp2_with fail
    have HNE : Hid (∀ g, w.heap.size + 3 ≤ g → (((((((w2.setCell ⟨w.heap.size + 1 + 1, 5, none⟩ (.slice pu len cu)).setCell ⟨w.heap.size + 1, 0, none⟩ (.int .i64 op)).setCell ⟨w.heap.size + 1, 1, none⟩ (.int .i64 a)).setCell ⟨w.heap.size + 1, 2, none⟩ (.int .i64 n)).setCell ⟨w.heap.size + 1, 3, none⟩ (.string s)).setCell ⟨w.heap.size + 1, 4, none⟩ (.slice ps set.length cs)).setCell ⟨w.heap.size + 1, 5, none⟩ (.slice pu len cu)).heap[g]? = w2.heap[g]?) := by
      intro g hg
      rw [Below.heap_setCell _ _ _ _ (by simp only; omega), Below.heap_setCell _ _ _ _ (by simp only; omega), Below.heap_setCell _ _ _ _ (by simp only; omega), Below.heap_setCell _ _ _ _ (by simp only; omega), Below.heap_setCell _ _ _ _ (by simp only; omega), Below.heap_setCell _ _ _ _ (by simp only; omega), Below.heap_setCell _ _ _ _ (by simp only; omega)]
    refine bodyPost_ret (v := .agg #[.int .i64 op, .int .i64 a, .int .i64 n, .string s, .slice ps set.length cs, .slice pu len cu]) (by rw [results_cellX (p := 2) (ty := 32) (by kernel_rfl)]; simp [go_sem, e0, e1, e2, e3, e4, e5]) rfl ⟨_, _, (Value.slice ps set.length cs).ownBlock.toList ++ S2, rfl, ?_, XOwn.mk' HS.out ?_ ?_, ?_, ?_⟩
    · exact (((((((HB2.out.setCell (by show _ ≤ _ + 1 + 1; omega) _).setCell (by show _ ≤ _ + 1; omega) _).setCell (by show _ ≤ _ + 1; omega) _).setCell (by show _ ≤ _ + 1; omega) _).setCell (by show _ ≤ _ + 1; omega) _).setCell (by show _ ≤ _ + 1; omega) _).setCell (by show _ ≤ _ + 1; omega) _)
    · refine (Own.mono (base' := 0) HSB2.out.1 (Nat.zero_le _)).sameX (fun g hg => ?_)
      have := HSB2.out.2 g hg
      exact HNE.out g (by omega)
    · exact HSU.out.1.same (fun g hg => HNE.out g (by have := HSU.out.2.2.1 g hg; have := HSU.out.2.2.2; omega))
    · refine List.nodup_append.2 ⟨by cases (Value.slice ps set.length cs).ownBlock <;> simp, HSU.out.2.1, fun x hx y hy e => ?_⟩
      subst e
      simp only [Option.mem_toList] at hx
      have := HSB2.out.2 x hx
      have := HSU.out.2.2.1 x hy
      omega
    · intro x hx
      rcases List.mem_append.1 hx with hx | hx
      · simp only [Option.mem_toList] at hx
        have := HSB2.out.2 x hx
        omega
      · have := HSU.out.2.2.1 x hx
        have := HSU.out.2.2.2
        omega
end Go.Proofs.YtlclfmjpnchmbaaGreat

/- laws.eqStx and laws.eqStxS: of what is written, laid twice, the answer is true. Condition: no set of more than 2^22. -/
namespace Go.Proofs.YtlclfmjpnchmbaaGreat
open Go.ChangeShapes Go.WideShapes Go.ChangeAt Go.RowKit

def EqXAt (t : X) : Prop := ∀ (w : World) (su u sv v : Value), t.At 0 w su u → t.At 0 w sv v → t.Small →
  Calls Tryz.prog 9 #[.agg #[.int .i64 t.op, .int .i64 t.at_, .int .i64 t.n, .string t.s, su, u], .agg #[.int .i64 t.op, .int .i64 t.at_, .int .i64 t.n, .string t.s, sv, v]] w fun e w' => e = .returned (.bool true) ∧ Below w.heap.size w w'

set_option maxRecDepth 100000 in
set_option maxHeartbeats 2000000 in
theorem eq_stxs (len : Nat) (kid : Nat → X) (ih : ∀ i, i < len → EqXAt (kid i)) (w : World) (u v : Value) (hu : XsAt 0 w len kid u) (hv : XsAt 0 w len kid v) (hsm : ∀ i, i < len → (kid i).Small) :
    Calls Tryz.prog 25 #[u, v] w fun e w' => e = .returned (.bool true) ∧ Below w.heap.size w w' := by
  obtain ⟨p, cap, rfl, hlen, hat⟩ := hu.at
  obtain ⟨q, cap2, rfl, -, hat2⟩ := hv.at
  have HC : Hid (∀ i, i < len → ∃ b o sv u, p = some ⟨b, o, none⟩ ∧ Head6 w b (o + i * 6) (kid i) sv u ∧ (kid i).At 0 w sv u) := hat
  have HD : Hid (∀ i, i < len → ∃ b o sv u, q = some ⟨b, o, none⟩ ∧ Head6 w b (o + i * 6) (kid i) sv u ∧ (kid i).At 0 w sv u) := hat2
  have IH : Hid (∀ i, i < len → EqXAt (kid i)) := ih
  have HSM : Hid (∀ i, i < len → (kid i).Small) := hsm
  clear hat hat2 ih hu hv hsm
  unfold maxLen at hlen
  go_enter Tryz.func25, Tryz.ntmps25
  go_wp2_with fail
  go_loopw [5] (fun i wr => ∃ k : Nat, i = .int .i64 k ∧ k ≤ len ∧ Below w.heap.size w wr) (fun i _ => len - (intOf i).toNat)
  case atStart => exact ⟨0, rfl, Nat.zero_le _, Below.refl _ _⟩
  case round =>
    obtain ⟨k, rfl, hk, hbel⟩ := hrel
    have HBL : Hid (Below w.heap.size w wr) := hbel
    clear hbel
    by_cases hlt : (k : Int) < len
    · have hlt' : k < len := by omega
      obtain ⟨b, o, sx, x, hp, hd, hin⟩ := HC.out k hlt'
      obtain ⟨b2, o2, sy, y, hq, hd2, hin2⟩ := HD.out k hlt'
      subst hp hq
      obtain ⟨c0, c1, c2, c3, c4, c5⟩ := hd.below HBL.out
      obtain ⟨d0, d1, d2, d3, d4, d5⟩ := hd2.below HBL.out
      have HI : Hid ((kid k).At 0 wr sx x ∧ (kid k).At 0 wr sy y) := ⟨X.At.below HBL.out hin, X.At.below HBL.out hin2⟩
      clear hd hin hd2 hin2
      have HCL : Hid (∀ w1 : World, Below wr.heap.size wr w1 → Calls Tryz.prog 9 #[.agg #[.int .i64 (kid k).op, .int .i64 (kid k).at_, .int .i64 (kid k).n, .string (kid k).s, sx, x], .agg #[.int .i64 (kid k).op, .int .i64 (kid k).at_, .int .i64 (kid k).n, .string (kid k).s, sy, y]] w1 fun e w' => e = .returned (.bool true) ∧ Below w1.heap.size w1 w') :=
        fun w1 h1 => IH.out k hlt' w1 sx x sy y (X.At.below h1 HI.out.1) (X.At.below h1 HI.out.2) (HSM.out k hlt')
      go_wp2_with fail
      go_region_with ((go_at_call 9; refine (HCL.out _ ?_).mono ?_; exact (Below.refl _ _).drew; rintro e w1 ⟨rfl, hb1⟩))
      all_goals
        have HB1 : Hid (Below w.heap.size w w1) := HBL.out.trans ⟨hb1.os, hb1.tape, hb1.output, hb1.size, fun j hj => hb1.block j (Nat.lt_of_lt_of_le hj HBL.out.size)⟩
        clear hb1
        go_wp2_with fail
        go_roundw
        case rel => first | exact ⟨k + 1, by go_num, by omega, HB1.out⟩ | ((repeat apply Exists.intro); exact ⟨⟨k + 1, by go_num, by omega, HB1.out⟩, rfl⟩)
        case measure => simp [intOf]; omega
    · go_wp2_with fail
      go_ret
      exact ⟨rfl, HBL.out⟩

set_option maxRecDepth 100000 in
set_option maxHeartbeats 2000000 in
theorem eq_stx (t : X) : EqXAt t := by
  induction t with
  | no => intro w su u sv v h _ _; exact h.elim
  | mk op a n s set len kid ih =>
    intro w su u sv v hu hv hsm
    have h1 := hu.xs
    have h2 := hv.xs
    have r1 := hu.sets
    have r2 := hv.sets
    simp only [X.op, X.at_, X.n, X.s, X.set, X.len, X.kid] at h1 h2 r1 r2 ⊢
    obtain ⟨p, cap, e1⟩ := h1.shape
    obtain ⟨q, cap2, e2⟩ := h2.shape
    obtain ⟨ps, cs, e3⟩ := r1.shape
    obtain ⟨qs, cs2, e4⟩ := r2.shape
    have H1 : Hid (XsAt 0 w len kid u) := h1
    have H2 : Hid (XsAt 0 w len kid v) := h2
    have R1 : Hid (Rd w su set) := r1.rd
    have R2 : Hid (Rd w sv set) := r2.rd
    have HSM : Hid (set.length ≤ 4194304 ∧ ∀ i, i < len → (kid i).Small) := hsm
    have IH : Hid (∀ i, EqXAt (kid i)) := ih
    clear hu hv h1 h2 ih r1 r2 hsm
    subst e1 e2 e3 e4
    go_enter Tryz.func9, Tryz.ntmps9
    go_wp2_with fail
    have hb0 : ∀ o1 o2, Below w.heap.size w ((w.alloc o1).alloc o2) := fun o1 o2 => (newx w _).trans ((newx _ _).mono (by simp))
    refine (eq_ints set set _ _ _ (R1.out.below (hb0 _ _)) (R2.out.below (hb0 _ _)) HSM.out.1 HSM.out.1).mono ?_
    rintro e w1 ⟨rfl, hb1⟩
    rw [same_self]
    have HB1 : Hid (Below w.heap.size w w1) := (hb0 _ _).trans (hb1.mono (by simp; omega))
    have a5 : w1.cell? ⟨w.heap.size, 5, none⟩ = some (.slice p len cap) := keepsX hb1 _ _ (by simp [go_sem])
    have b5 : w1.cell? ⟨w.heap.size + 1, 5, none⟩ = some (.slice q len cap2) := keepsX hb1 _ _ (by simp [go_sem])
    clear hb1 hb0 R1 R2
    go_wp2_with fail
    refine (eq_stxs len kid (fun i _ => IH.out i) _ _ _ (XsAt.below HB1.out H1.out) (XsAt.below HB1.out H2.out) HSM.out.2).mono ?_
    rintro e w2 ⟨rfl, hb2⟩
    have HB : Hid (Below w.heap.size w w2) := HB1.out.trans (hb2.mono HB1.out.size)
    clear hb2 a5 b5
    go_wp2_with fail
    go_ret
    exact ⟨rfl, HB.out⟩
end Go.Proofs.YtlclfmjpnchmbaaGreat
