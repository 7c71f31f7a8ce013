/- laws.heldGotS, of Gots that were marked. Condition: marks up to 9 * 10^13, no set of more than 2^22. -/
import Derived.Test.YtlclfmjpnchmbaaGreatZG16GotRead
import Derived.Test.YtlclfmjpnchmbaaGreatZG6SzStx
import Derived.Test.YtlclfmjpnchmbaaGreatZG7EqStx
namespace Go.Proofs.YtlclfmjpnchmbaaGreat
open Go.ChangeShapes Go.WideShapes Go.ChangeAt Go.RowKit

def HeldGAt (g : G) : Prop := ∀ (w : World) (v : Value) (S : List Nat) (k : Nat), GsOwn w g.len (markGK g.sm k) v S → (∀ i, i < g.len → (g.sm i).Small) → 0 < k → k + sumX (fun j => (g.sm j).marks) g.len ≤ 90000000000000 →
  Calls Tryz.prog 12 #[v, .int .i64 k] w fun e w' => e = .returned (.int .i64 ((k + sumX (fun j => (g.sm j).marks) g.len : Nat) : Int)) ∧ Below w.heap.size w w'
theorem markGK_no {w : World} {len : Nat} {sm : Nat → G} {k : Nat} {v : Value} {S : List Nat} (hv : GsOwn w len (markGK sm k) v S) : ∀ i, i < len → sm i ≠ .no := by
  obtain ⟨p, cap, rfl, hlen, hat⟩ := hv.at
  intro i hi e
  obtain ⟨b, sv, kv, gv, T, _, _, hin⟩ := hat i hi
  have h : markGK sm k i = .no := by unfold markGK; rw [e]; rfl
  rw [h] at hin
  exact hin.elim
theorem markX_ne {t : X} {k : Nat} (h : markX t k ≠ .no) : t ≠ .no := fun e => h (by rw [e]; rfl)

set_option maxRecDepth 100000 in
set_option maxHeartbeats 8000000 in
theorem held_gots (len : Nat) (sm : Nat → G) (ih : ∀ i, i < len → HeldGAt (sm i)) (w : World) (v : Value) (S : List Nat) (k : Nat) (hv : GsOwn w len (markGK sm k) v S) (hsm : ∀ i, i < len → (sm i).Small) (hk0 : 0 < k) (hk : k + sumX (fun j => (sm j).marks) len ≤ 90000000000000) :
    Calls Tryz.prog 12 #[v, .int .i64 k] w fun e w' => e = .returned (.int .i64 ((k + sumX (fun j => (sm j).marks) len : Nat) : Int)) ∧ Below w.heap.size w w' := by
  have HM : Hid (∀ i, i < len → sm i ≠ .no) := markGK_no hv
  obtain ⟨p, cap, rfl, hlen, hat⟩ := hv.at
  have HC : Hid (∀ i, i < len → ∃ b sv kv gv T, p = some ⟨b, 0, none⟩ ∧ Head9 w b (i * 9) (markGK sm k i) sv kv gv ∧ GOwn w (markGK sm k i) sv kv gv T) := hat
  have IH : Hid (∀ i, i < len → HeldGAt (sm i)) := ih
  have HKK : Hid (k + sumX (fun j => (sm j).marks) len ≤ 90000000000000) := hk
  have HSM : Hid (∀ i, i < len → (sm i).Small) := hsm
  clear hat ih hv hk hsm
  unfold maxLen at hlen
  go_enter Tryz.func12, Tryz.ntmps12
  go_wp2_with fail
  go_loopw [1, 5] (fun x i wr => ∃ j c : Nat, i = .int .i64 j ∧ x = .int .i64 c ∧ j ≤ len ∧ c = k + sumX (fun j => (sm j).marks) j ∧ Below w.heap.size w wr) (fun _ i _ => len - (intOf i).toNat)
  case atStart => exact ⟨0, k, rfl, rfl, Nat.zero_le _, by simp [sumX], Below.refl _ _⟩
  case round =>
    obtain ⟨j, c, rfl, rfl, hj, hc, hbel⟩ := hrel
    have HBL : Hid (Below w.heap.size w wr) := hbel
    have HCC : Hid (c = k + sumX (fun j => (sm j).marks) j) := hc
    clear hbel hc
    by_cases hlt : (j : Int) < len
    · have hlt' : j < len := by omega
      obtain ⟨b, sv, kv, gv, T, hp, hd, hin⟩ := HC.out j hlt'
      subst hp
      have hne := HM.out j hlt'
      have hsum := sumX_at (fun j => (sm j).marks) j len hlt'
      have hme := G.marks_eq hne
      have hcb : c + (sm j).marks ≤ 90000000000000 := by have h1 := HCC.out; have h2 := HKK.out; omega
      have hc0 : 0 < c := by have := HCC.out; omega
      have hmj : markGK sm k j = markG (sm j) c := by unfold markGK; rw [HCC.out]
      rw [hmj] at hd hin
      obtain ⟨_, S1, S2, _, hx1, hg2⟩ := (hin.below HBL.out).parts
      rw [markG_one hne] at hx1
      rw [markG_sm hne, markG_len] at hg2
      have hone : (sm j).one ≠ .no := markX_ne (k := c + 2) (fun e => by rw [e] at hx1; exact hx1.elim)
      have hmx := X.marks_eq hone
      have HI : Hid (GsOwn wr (sm j).len (markGK (sm j).sm (c + 2 + (sm j).one.marks)) gv S2) := hg2
      have HX : Hid (XsAt 0 wr (sm j).one.len (markXK (sm j).one.kid (c + 2 + 4 + (sm j).one.set.length)) kv ∧ Rd wr sv (marksI (c + 2 + 4) (sm j).one.set.length)) := by
        have h1 := hx1.at0.xs
        have h2 := hx1.at0.sets.rd
        rw [markX_kid hone, markX_len] at h1
        rw [markX_set hone] at h2
        exact ⟨h1, h2⟩
      obtain ⟨pss, css, hsu, -⟩ := HX.out.2.shape
      rw [marksI_len] at hsu
      have hsl := ((HSM.out j hlt').parts.1).parts.1
      obtain ⟨m0, m1⟩ := markG_head hne c
      obtain ⟨e0, e1, e2, e3⟩ := markX_op (sm j).one (c + 2) hone
      obtain ⟨a0, a1, a2, a3, a4, a5, a6, a7, a8⟩ := hd.below HBL.out
      rw [markG_one hne] at a2 a3 a4 a5
      rw [m0] at a0; rw [m1] at a1; rw [e0] at a2; rw [e1] at a3; rw [e2] at a4; rw [e3] at a5
      have a0' : wr.cell? ⟨b, j * 9, none⟩ = some (.string (markB ((c : Int)).toNat)) := by rw [a0]; congr 3
      have a1' : wr.cell? ⟨b, j * 9 + 1, none⟩ = some (.int .i64 ((c : Int) + 1)) := by rw [a1]; congr 2
      have a2' : wr.cell? ⟨b, j * 9 + 2, none⟩ = some (.int .i64 ((c : Int) + 1 + 1)) := by rw [a2]; congr 2
      have a3' : wr.cell? ⟨b, j * 9 + 3, none⟩ = some (.int .i64 ((c : Int) + 1 + 1 + 1)) := by rw [a3]; congr 2
      have a4' : wr.cell? ⟨b, j * 9 + 4, none⟩ = some (.int .i64 ((c : Int) + 1 + 1 + 1 + 1)) := by rw [a4]; congr 2
      have a5' : wr.cell? ⟨b, j * 9 + 5, none⟩ = some (.string (markB ((c : Int) + 1 + 1 + 1 + 1 + 1).toNat)) := by rw [a5]; congr 3
      have hbl : b < wr.heap.size := World.block_lt_of_cell? wr _ a0
      subst hsu
      clear hd hin hmj e0 e1 e2 e3 m0 m1 a0 a1 a2 a3 a4 a5 hne hsum hx1 hg2 hone
      have hst : ∀ s : ByteArray, (s.toList == s.toList) = true := fun s => by simp
      go_wp2_with fail
      go_region_held3 (fun w' => w'.cell? ⟨b, j * 9, none⟩ = some (.string (markB ((c : Int)).toNat)))
        (first | go_keep | exact hs3)
        ((go_at_call 28; refine (mark_text_int ((c : Int)) (by omega) (by omega) _).mono ?_; rintro e w1 ⟨rfl, hb1⟩; have hbw : Below wr.heap.size wr w1 := ⟨hb1.os, hb1.tape, hb1.output, hb1.size, hb1.block⟩; have hs3 : w1.cell? ⟨b, j * 9, none⟩ = some (.string (markB ((c : Int)).toNat)) := (hbw.cell (by exact hbl)).trans a0'))
      all_goals
        have b1 := keepsX hbw _ _ a1'
        have b2 := keepsX hbw _ _ a2'
        have b3 := keepsX hbw _ _ a3'
        have b4 := keepsX hbw _ _ a4'
        have b5 := keepsX hbw _ _ a5'
        have b6 := keepsX hbw _ _ a6
        have b7 := keepsX hbw _ _ a7
        have b8 := keepsX hbw _ _ a8
        have HBW : Hid (Below wr.heap.size wr w1) := hbw
        have hbl1 : b < w1.heap.size := Nat.lt_of_lt_of_le hbl hbw.size
        clear hbw hb1 hs3 a0' a1' a2' a3' a4' a5' a6 a7 a8
        go_wp2_with fail
        go_region_held3 (fun w' => w'.cell? ⟨b, j * 9 + 5, none⟩ = some (.string (markB ((c : Int) + 1 + 1 + 1 + 1 + 1).toNat)))
          (first | go_keep | exact hs4)
          ((go_at_call 28; refine (mark_text_int ((c : Int) + 1 + 1 + 1 + 1 + 1) (by omega) (by omega) _).mono ?_; rintro e w2 ⟨rfl, hb2⟩; have hbw2 : Below w1.heap.size w1 w2 := ⟨hb2.os, hb2.tape, hb2.output, hb2.size, hb2.block⟩; have hs4 : w2.cell? ⟨b, j * 9 + 5, none⟩ = some (.string (markB ((c : Int) + 1 + 1 + 1 + 1 + 1).toNat)) := (hbw2.cell (by exact hbl1)).trans b5))
        all_goals
          have hbr : Below wr.heap.size wr w2 := HBW.out.trans (hbw2.mono HBW.out.size)
          have HB2 : Hid (Below w.heap.size w w2) := HBL.out.trans (hbr.mono HBL.out.size)
          have HI2 : Hid (GsOwn w2 (sm j).len (markGK (sm j).sm (c + 2 + (sm j).one.marks)) gv S2) := HI.out.below hbr
          have HX2 : Hid (XsAt 0 w2 (sm j).one.len (markXK (sm j).one.kid (c + 6 + (sm j).one.set.length)) kv ∧ Rd w2 (.slice pss (sm j).one.set.length css) (marksI (c + 6) (sm j).one.set.length)) := ⟨XsAt.below hbr HX.out.1, HX.out.2.below hbr⟩
          have d6 := keepsX hbw2 _ _ b6
          have d7 := keepsX hbw2 _ _ b7
          have d8 := keepsX hbw2 _ _ b8
          clear hbw2 hb2 hs4 b1 b2 b3 b4 b5 b6 b7 b8 hbr
          have e6 : (c : Int) + 1 + 1 + 1 + 1 + 1 + 1 = ((c + 6 : Nat) : Int) := by omega
          go_wp2_with fail
          refine (held_ints (sm j).one.set.length _ (c + 6) w2 HX2.out.2 hsl (by omega)).mono ?_
          rintro e w2' ⟨rfl, hw2⟩
          subst w2'
          go_wp2_with fail
          refine (heldX_all (sm j).one w2 kv (c + 6 + (sm j).one.set.length) HX2.out.1 ((HSM.out j hlt').parts.1.parts.2) (by omega) (by omega)).mono ?_
          rintro e w3 ⟨rfl, hb3⟩
          have HB3 : Hid (Below w.heap.size w w3) := HB2.out.trans (hb3.mono HB2.out.size)
          have HI3 : Hid (GsOwn w3 (sm j).len (markGK (sm j).sm (c + 2 + (sm j).one.marks)) gv S2) := HI2.out.below hb3
          have f8 := keepsX hb3 _ _ d8
          have hN1 : c + 6 + (sm j).one.set.length + sumX (fun i => ((sm j).one.kid i).marks) (sm j).one.len = c + 2 + (sm j).one.marks := by omega
          rw [hN1]
          clear hb3 d6 d7 d8 hN1 e6 HB2 HI2
          have hc2 : 0 < c + 2 + (sm j).one.marks := by omega
          generalize hgg : c + 2 + (sm j).one.marks = c3 at *
          go_wp2_with fail
          refine (IH.out j hlt' w3 gv S2 c3 HI3.out (HSM.out j hlt').parts.2 (by omega) (by omega)).mono ?_
          rintro e w4 ⟨rfl, hb4⟩
          have HB4 : Hid (Below w.heap.size w w4) := HB3.out.trans (hb4.mono HB3.out.size)
          have hN : c3 + sumX (fun i => ((sm j).sm i).marks) (sm j).len = k + sumX (fun j => (sm j).marks) (j + 1) := by
            have h1 := HCC.out
            simp only [sumX]
            omega
          rw [hN]
          generalize hgen : k + sumX (fun j => (sm j).marks) (j + 1) = c2 at *
          have HG : Hid (c2 = k + sumX (fun j => (sm j).marks) (j + 1)) := hgen.symm
          clear hb4 hgen hN f8 hgg
          go_wp2_with fail
          go_roundw
          case rel => first | exact ⟨j + 1, c2, by go_num, rfl, by omega, HG.out, HB4.out⟩ | ((repeat apply Exists.intro); exact ⟨⟨j + 1, c2, by go_num, rfl, by omega, HG.out, HB4.out⟩, rfl⟩)
          case measure => simp [intOf]; omega
    · have hje : j = len := by omega
      subst hje
      go_wp2_with fail
      go_ret
      have h : (k : Int) + (sumX (fun j => (sm j).marks) j : Nat) = (c : Int) := by have := HCC.out; omega
      exact ⟨by rw [h]; rfl, HBL.out⟩
theorem held_got (g : G) : HeldGAt g := by
  induction g with
  | no => intro w v S k hv hsm hk0 hk; exact held_gots 0 _ (fun i hi => by omega) w v S k hv hsm hk0 hk
  | mk name deep one len sm ih => intro w v S k hv hsm hk0 hk; exact held_gots len sm (fun i _ => ih i) w v S k hv hsm hk0 hk
end Go.Proofs.YtlclfmjpnchmbaaGreat

/- laws.markGotS, of Gots of one's own. Condition: marks up to 9 * 10^13, no set of more than 2^22. -/
namespace Go.Proofs.YtlclfmjpnchmbaaGreat
open Go.ChangeShapes Go.WideShapes Go.ChangeAt Go.RowKit

theorem grows_set (l : List GR) (i : Nat) (q : GR) (h : l[i]? = some q) (d : G) :
    ((((((grows l).set (i * 9) (.string d.name)).set (i * 9 + 1) (.int .i64 d.deep)).set (i * 9 + 2) (.int .i64 d.one.op)).set (i * 9 + 3) (.int .i64 d.one.at_)).set (i * 9 + 4) (.int .i64 d.one.n)).set (i * 9 + 5) (.string d.one.s) = grows (l.set i ⟨d, q.sv, q.kv, q.gv⟩) := by
  obtain ⟨hi, he⟩ := List.getElem?_eq_some_iff.1 h
  have e1 : l = l.take i ++ q :: l.drop (i + 1) := by
    have h2 : l.drop i = l[i] :: l.drop (i + 1) := List.drop_eq_getElem_cons hi
    rw [← he, ← h2, List.take_append_drop]
  have e2 : l.set i ⟨d, q.sv, q.kv, q.gv⟩ = l.take i ++ (⟨d, q.sv, q.kv, q.gv⟩ : GR) :: l.drop (i + 1) := by
    rw [List.set_eq_take_append_cons_drop, if_pos hi]
  have hl : (grows (l.take i)).length = i * 9 := by rw [grows_length, List.length_take]; congr 1; omega
  have e3 : grows l = grows (l.take i) ++ (gcells q ++ grows (l.drop (i + 1))) := by
    have e4 : grows l = grows (l.take i ++ q :: l.drop (i + 1)) := congrArg grows e1
    rw [e4, grows_append]
    simp [grows]
  have s : ∀ (c : List Value) (j : Nat) (x : Value), (grows (l.take i) ++ c).set (i * 9 + j) x = grows (l.take i) ++ c.set j x := by
    intro c j x
    rw [List.set_append_right _ _ (by omega), hl]
    congr 2; omega
  rw [e3, e2, grows_append]
  have s0 : (grows (l.take i) ++ (gcells q ++ grows (l.drop (i + 1)))).set (i * 9) (.string d.name) = grows (l.take i) ++ (gcells q ++ grows (l.drop (i + 1))).set 0 (.string d.name) := s _ 0 _
  rw [s0, s, s, s, s, s]
  simp [grows, gcells]

theorem mark_stepG {W5 w9 : World} {g cap len j : Nat} {l : List GR} {SS : List (List Nat)} {sm sm' : Nat → G} {sv kv gv : Value} {T : List Nat} (hrow : W5.ownsRow 0 48 9 (.slice (some ⟨g, 0, none⟩) len cap) len (grows (l.set j ⟨sm' j, sv, kv, gv⟩))) (hl : l.length = len) (hSl : SS.length = len) (hn : (g :: SS.flatten).Nodup) (hj : j < len)
    (heach : ∀ i, i < len → ∃ a b c T, l[i]? = some ⟨sm i, a, b, c⟩ ∧ SS[i]? = some T ∧ GOwn W5 (sm i) a b c T) (hsm : ∀ i, i < len → i ≠ j → sm' i = sm i) (hSj : SS[j]? = some T) (hf : FrX W5 w9 T) (hg : GOwn w9 (sm' j) sv kv gv T) (hlt : g < W5.heap.size) : GsOwn w9 len sm' (.slice (some ⟨g, 0, none⟩) len cap) (g :: SS.flatten) := by
  rw [List.nodup_cons] at hn
  refine .inr ⟨g, cap, l.set j ⟨sm' j, sv, kv, gv⟩, SS, rfl, own_sameX hrow (fun x hx => ?_), by rw [List.length_set]; exact hl, hSl, rfl, fun i hi => ?_⟩
  · have hx' : g = x := by simpa [Value.ownBlock] using hx
    subst hx'
    exact hf.block g hlt (fun h => hn.1 (mem_flatX hSj h))
  · by_cases hij : i = j
    · subst hij
      exact ⟨sv, kv, gv, T, by rw [List.getElem?_set, if_pos rfl, if_pos (by omega)], hSj, hg⟩
    · obtain ⟨a, b, c, T', k1, k2, k3⟩ := heach i hi
      refine ⟨a, b, c, T', by rw [List.getElem?_set_ne (Ne.symm hij), hsm i hi hij]; exact k1, k2, ?_⟩
      rw [hsm i hi hij]
      exact k3.same _ (fun x hx => hf.block x (k3.there _ x hx) (fun h => (flat_splitX hSj hn.2).2 i T' hij k2 x hx h))
theorem mark_text_c5 (c : Nat) (h : c ≤ 99999999999990) (w : World) :
    Calls Tryz.prog 28 #[.int .i64 ((c : Int) + 1 + 1 + 1 + 1 + 1)] w fun e w' => e = .returned (.string (markB (c + 5))) ∧ Below w.heap.size w w' := by
  have := mark_text (c + 5) (by omega) (by omega) w
  rwa [show ((c + 5 : Nat) : Int) = (c : Int) + 1 + 1 + 1 + 1 + 1 from by omega] at this
theorem markG_mk {g : G} (h : g ≠ .no) {k : Nat} : markG g k = .mk (markB k) ((k + 1 : Nat) : Int) (markX g.one (k + 2)) g.len (markGK g.sm (k + 2 + g.one.marks)) := by
  cases g with
  | no => exact absurd rfl h
  | mk name deep one len sm => rfl
def MarkGAt (g : G) : Prop := ∀ (w : World) (v : Value) (S : List Nat) (k : Nat), GsOwn w g.len g.sm v S → S.Nodup → (∀ i, i < g.len → (g.sm i).Small) → 0 < k → k + sumX (fun j => (g.sm j).marks) g.len ≤ 90000000000000 →
  Calls Tryz.prog 11 #[v, .int .i64 k] w fun e w' => e = .returned (.int .i64 ((k + sumX (fun j => (g.sm j).marks) g.len : Nat) : Int)) ∧ GsOwn w' g.len (markGK g.sm k) v S ∧ FrX w w' S

set_option maxRecDepth 100000 in
set_option maxHeartbeats 8000000 in
theorem mark_gots (len : Nat) (sm : Nat → G) (ih : ∀ i, i < len → MarkGAt (sm i)) (w : World) (v : Value) (S : List Nat) (k : Nat) (hv : GsOwn w len sm v S) (hnd : S.Nodup) (hsm : ∀ i, i < len → (sm i).Small) (hk0 : 0 < k) (hk : k + sumX (fun j => (sm j).marks) len ≤ 90000000000000) :
    Calls Tryz.prog 11 #[v, .int .i64 k] w fun e w' => e = .returned (.int .i64 ((k + sumX (fun j => (sm j).marks) len : Nat) : Int)) ∧ GsOwn w' len (markGK sm k) v S ∧ FrX w w' S := by
  have HV : Hid (GsOwn w len sm v S) := hv
  have hsh := hv.at
  have HND : Hid (S.Nodup) := hnd
  have IH : Hid (∀ i, i < len → MarkGAt (sm i)) := ih
  have HKK : Hid (k + sumX (fun j => (sm j).marks) len ≤ 90000000000000) := hk
  obtain ⟨p, cap, rfl, hlen, -⟩ := hsh
  have HSM : Hid (∀ i, i < len → (sm i).Small) := hsm
  clear ih hv hnd hk hsm
  unfold maxLen at hlen
  go_enter Tryz.func11, Tryz.ntmps11
  go_wp2_with fail
  go_loopw [1, 5] (fun x i wr => ∃ j c : Nat, i = .int .i64 j ∧ x = .int .i64 c ∧ j ≤ len ∧ c = k + sumX (fun j => (sm j).marks) j ∧ GsOwn wr len (markGTo sm k j) (.slice p len cap) S ∧ FrX w wr S) (fun _ i _ => len - (intOf i).toNat)
  case atStart => exact ⟨0, k, rfl, rfl, Nat.zero_le _, by simp [sumX], by rw [markGTo_zero]; exact HV.out, FrX.refl _ _⟩
  case round =>
    obtain ⟨j, c, rfl, rfl, hj, hc, hso, hfr⟩ := hrel
    have HFR : Hid (FrX w wr S) := hfr
    have HCC : Hid (c = k + sumX (fun j => (sm j).marks) j) := hc
    have HSO : Hid (GsOwn wr len (markGTo sm k j) (.slice p len cap) S) := hso
    clear hc hso hfr
    by_cases hlt : (j : Int) < len
    · have hlt' : j < len := by omega
      have hso := HSO.out
      rcases hso with ⟨h0, _⟩ | ⟨g, cap', l, SS, he, hown, hl, hSl, hSe, heach⟩
      · omega
      injection he with he1 _ he2
      subst he1 he2
      obtain ⟨sv, kv, gv, T, k1, k2, k3⟩ := heach j hlt'
      rw [markGTo_at] at k1 k3
      have hn : (g :: SS.flatten).Nodup := by have := HND.out; rw [hSe] at this; exact this
      have hltS : ∀ x ∈ SS.flatten, x < wr.heap.size := fun x hx => HSO.out.lt x (by rw [hSe]; exact List.mem_cons_of_mem _ hx)
      have hsum := sumX_at (fun j => (sm j).marks) j len hlt'
      have hme := G.marks_eq k3.ne
      obtain ⟨_, S1, S2, hTe, hx1, hg2⟩ := k3.parts
      have hone := hx1.ne
      have hmx := X.marks_eq hone
      obtain ⟨⟨ps, cps, e1⟩, ⟨pk, cpk, e2⟩, ⟨pg, cpg, e3⟩⟩ := k3.shape
      subst e1 e2 e3
      have hsl := ((HSM.out j hlt').parts.1).parts.1
      have hcb : c + (sm j).marks ≤ 90000000000000 := by have h1 := HCC.out; have h2 := HKK.out; omega
      have hc0 : 0 < c := by have := HCC.out; omega
      have hmj : markGK sm k j = markG (sm j) c := by unfold markGK; rw [HCC.out]
      obtain ⟨m0, m1⟩ := markG_head k3.ne c
      obtain ⟨x0, x1, x2, x3⟩ := markX_op (sm j).one (c + 2) hone
      have HQ : Hid (((((((grows l).set (j * 9) (.string (markB c))).set (j * 9 + 1) (.int .i64 ((c : Int) + 1))).set (j * 9 + 2) (.int .i64 ((c : Int) + 1 + 1))).set (j * 9 + 3) (.int .i64 ((c : Int) + 1 + 1 + 1))).set (j * 9 + 4) (.int .i64 ((c : Int) + 1 + 1 + 1 + 1))).set (j * 9 + 5) (.string (markB (c + 5))) = grows (l.set j ⟨markG (sm j) c, .slice ps (sm j).one.set.length cps, .slice pk (sm j).one.len cpk, .slice pg (sm j).len cpg⟩)) := by
        show _ = _
        rw [← grows_set l j _ k1 (markG (sm j) c), markG_one k3.ne, m0, m1, x0, x1, x2, x3]
        have y1 : ((c + 1 : Nat) : Int) = (c : Int) + 1 := by omega
        have y2 : ((c + 2 : Nat) : Int) = (c : Int) + 1 + 1 := by omega
        have y3 : ((c + 2 + 1 : Nat) : Int) = (c : Int) + 1 + 1 + 1 := by omega
        have y4 : ((c + 2 + 2 : Nat) : Int) = (c : Int) + 1 + 1 + 1 + 1 := by omega
        rw [y1, y2, y3, y4]
      have HOW : Hid (wr.ownsRow 0 48 9 (.slice (some ⟨g, 0, none⟩) len cap) len (grows l)) := hown
      have HL : Hid ((g :: SS.flatten).Nodup ∧ S = g :: SS.flatten ∧ (∀ x ∈ SS.flatten, x < wr.heap.size) ∧ l.length = len ∧ SS.length = len ∧ SS[j]? = some T ∧ markGK sm k j = markG (sm j) c ∧ T = S1 ++ S2 ∧ (sm j).one ≠ .no ∧ sm j ≠ .no) := ⟨hn, hSe, hltS, hl, hSl, k2, hmj, hTe, hone, k3.ne⟩
      have HREST : Hid (∀ i, i < len → ∃ a b c T, l[i]? = some ⟨markGTo sm k j i, a, b, c⟩ ∧ SS[i]? = some T ∧ GOwn wr (markGTo sm k j i) a b c T) := heach
      have HDJ : Hid (XOwn wr (sm j).one (.slice ps (sm j).one.set.length cps) (.slice pk (sm j).one.len cpk) S1 ∧ GsOwn wr (sm j).len (sm j).sm (.slice pg (sm j).len cpg) S2) := ⟨hx1, hg2⟩
      have HK1 := head9_of hown hlt' k1
      clear heach hown hn hSe hltS k1 k2 k3 hmj x0 x1 x2 x3 m0 m1 hsum hl hSl HV hTe hx1 hg2 hone
      have HH9 : Hid (Head9 wr g (j * 9) (sm j) (.slice ps (sm j).one.set.length cps) (.slice pk (sm j).one.len cpk) (.slice pg (sm j).len cpg)) := HK1
      clear HK1
      go_wp2_with fail
      refine (mark_text c hc0 (by omega) _).mono ?_
      rintro e w1 ⟨rfl, hb1⟩
      have r1 := own_belowX HOW.out hb1
      have f1 : ∀ x, w1.frozen? ⟨g, x, none⟩ = false := fun x => r1.frozenAt x
      obtain ⟨u0, u1, u2, u3, u4, u5, u6, u7, u8⟩ := HH9.out.below hb1
      obtain ⟨q1, g1⟩ := r1.stored (j * 9) (.string (markB c))
      obtain ⟨q2, g2⟩ := q1.stored (j * 9 + 1) (.int .i64 ((c : Int) + 1))
      obtain ⟨q3, g3⟩ := q2.stored (j * 9 + 2) (.int .i64 ((c : Int) + 1 + 1))
      obtain ⟨q4, g4⟩ := q3.stored (j * 9 + 3) (.int .i64 ((c : Int) + 1 + 1 + 1))
      obtain ⟨q5, g5⟩ := q4.stored (j * 9 + 4) (.int .i64 ((c : Int) + 1 + 1 + 1 + 1))
      have Q5 := (⟨q5, grownX (grownX (grownX (grownX g1 g2) g3) g4) g5⟩ : _ ∧ _)
      have HQ5 : Hid (_ ∧ _) := Q5
      have HB1 : Hid (Below wr.heap.size wr w1) := hb1
      clear q1 q2 q3 q4 q5 g1 g2 g3 g4 g5 Q5 hb1 r1
      go_wp2_with fail
      refine (mark_text_c5 c (by omega) _).mono ?_
      rintro e w3 ⟨rfl, hb3⟩
      have r3 := own_belowX HQ5.out.1 hb3
      have f3 : ∀ x, w3.frozen? ⟨g, x, none⟩ = false := fun x => r3.frozenAt x
      have hlx : (grows l).length = len * 9 := by rw [grows_length, HL.out.2.2.2.1]
      have hc5 : ∃ x, w3.cell? ⟨g, j * 9 + 5, none⟩ = some x := ⟨_, (r3.cellAt (j * 9 + 5) (by omega)).trans (List.getElem?_eq_getElem (by simp only [List.length_set]; omega))⟩
      obtain ⟨z5, hz5⟩ := hc5
      have hcx : ∀ r, 5 < r → r < 9 → w3.cell? ⟨g, j * 9 + r, none⟩ = wr.cell? ⟨g, j * 9 + r, none⟩ := fun r h1 h2 => by
        rw [r3.cellAt (j * 9 + r) (by omega), List.getElem?_set_ne (by omega), List.getElem?_set_ne (by omega), List.getElem?_set_ne (by omega), List.getElem?_set_ne (by omega), List.getElem?_set_ne (by omega), ← HOW.out.cellAt (j * 9 + r) (by omega)]
      have v6 : w3.cell? ⟨g, j * 9 + 6, none⟩ = some (.slice ps (sm j).one.set.length cps) := (hcx 6 (by omega) (by omega)).trans HH9.out.2.2.2.2.2.2.1
      have v7 : w3.cell? ⟨g, j * 9 + 7, none⟩ = some (.slice pk (sm j).one.len cpk) := (hcx 7 (by omega) (by omega)).trans HH9.out.2.2.2.2.2.2.2.1
      have v8 : w3.cell? ⟨g, j * 9 + 8, none⟩ = some (.slice pg (sm j).len cpg) := (hcx 8 (by omega) (by omega)).trans HH9.out.2.2.2.2.2.2.2.2
      obtain ⟨q6, g6⟩ := r3.stored (j * 9 + 5) (.string (markB (c + 5)))
      rw [HQ.out] at q6
      have F6 : FrX wr (w3.setCell ⟨g, j * 9 + 5, none⟩ (.string (markB (c + 5)))) [g] :=
        (((FrX.below HB1.out _).trans (FrX.grown (S := [g]) HQ5.out.2 (by simp))).trans (FrX.below hb3 _)).trans (FrX.grown g6 (by simp))
      have Q6 : Hid ((w3.setCell ⟨g, j * 9 + 5, none⟩ (.string (markB (c + 5)))).ownsRow 0 48 9 (.slice (some ⟨g, 0, none⟩) len cap) len (grows (l.set j ⟨markG (sm j) c, .slice ps (sm j).one.set.length cps, .slice pk (sm j).one.len cpk, .slice pg (sm j).len cpg⟩))) := q6
      have HF6 : Hid (FrX wr (w3.setCell ⟨g, j * 9 + 5, none⟩ (.string (markB (c + 5)))) [g]) := F6
      clear q6 g6 r3 F6 hb3 HQ5 HB1 hcx u0 u1 u2 u3 u4 u5 u6 u7 u8 f1 HQ HOW
      have e6 : (c : Int) + 1 + 1 + 1 + 1 + 1 + 1 = ((c + 6 : Nat) : Int) := by omega
      go_wp2_with fail
      obtain ⟨W6, hW6⟩ : ∃ x, x = w3.setCell ⟨g, j * 9 + 5, none⟩ (.string (markB (c + 5))) := ⟨_, rfl⟩
      rw [← hW6] at Q6 HF6
      rw [show w3.setCell ⟨g, j * 9 + 2 + 3, none⟩ (.string (markB (c + 5))) = W6 from hW6.symm]
      clear hW6 v6 v7 v8 hz5 f3 hlx
      obtain ⟨n1, n2, n3, n4, n5, n6, n7, n8, n9, n10⟩ := HL.out
      have hTn : T.Nodup := (flat_splitX n6 (List.nodup_cons.1 n1).2).1
      have hgT : g ∉ T := fun hx => (List.nodup_cons.1 n1).1 (mem_flatX n6 hx)
      have hTS : (S1 ++ S2).Nodup := n8 ▸ hTn
      have hg6 : g < W6.heap.size := (Q6.out.lt g rfl).2
      have hsame : ∀ x ∈ T, W6.heap[x]? = wr.heap[x]? := fun x hx => HF6.out.block x (n3 x (mem_flatX n6 hx)) (by simp only [List.mem_singleton]; rintro rfl; exact hgT hx)
      have hx6 : XOwn W6 (sm j).one (.slice ps (sm j).one.set.length cps) (.slice pk (sm j).one.len cpk) S1 := HDJ.out.1.same _ (fun x hx => hsame x (by rw [n8]; exact List.mem_append_left _ hx))
      have hgg6 : GsOwn W6 (sm j).len (sm j).sm (.slice pg (sm j).len cpg) S2 := HDJ.out.2.same (fun x hx => hsame x (by rw [n8]; exact List.mem_append_right _ hx))
      obtain ⟨c0', c1', c2', c3', c4', c5', c6', c7', c8'⟩ := head9_of Q6.out hlt' (q := ⟨markG (sm j) c, .slice ps (sm j).one.set.length cps, .slice pk (sm j).one.len cpk, .slice pg (sm j).len cpg⟩) (by rw [List.getElem?_set, if_pos rfl, if_pos (by omega)])
      obtain ⟨hos6, T2, hS1, hxs6⟩ := hx6.parts
      have hS1n : S1.Nodup := (List.nodup_append.1 hTS).1
      have hgS1 : g ∉ S1 := fun hx => hgT (by rw [n8]; exact List.mem_append_left _ hx)
      have hsv : ∀ x, (Value.slice ps (sm j).one.set.length cps).ownBlock = some x → x ∈ S1 := fun x hx => by rw [hS1]; exact List.mem_append_left _ (mem_own hx)
      refine (mark_ints _ 0 (sm j).one.set (c + 6) W6 hos6 hsl (by omega)).mono ?_
      rintro e w7 ⟨rfl, hos7, hg7⟩
      have k7 : w7.cell? ⟨g, j * 9 + 7, none⟩ = some (.slice pk (sm j).one.len cpk) := (World.cell?_of_block (w := W6) (hg7.block g hg6 (fun e => hgS1 (hsv g e.symm)))).trans c7'
      have hxs7 : XsOwn w7 (sm j).one.len (sm j).one.kid (.slice pk (sm j).one.len cpk) T2 := hxs6.same (fun x hx => hg7.block x (hxs6.lt x hx) (fun e => (List.nodup_append.1 (hS1 ▸ hS1n)).2.2 x (mem_own e.symm) x hx rfl))
      have H7 : Hid (Own w7 0 (.slice ps (sm j).one.set.length cps) (marksI (c + 6) (sm j).one.set.length) ∧ W6.grownBy w7 (Value.slice ps (sm j).one.set.length cps).ownBlock ∧ XsOwn w7 (sm j).one.len (sm j).one.kid (.slice pk (sm j).one.len cpk) T2) := ⟨hos7, hg7, hxs7⟩
      have HC8 : Hid (W6.cell? ⟨g, j * 9 + 8, none⟩ = some (.slice pg (sm j).len cpg)) := c8'
      clear hos7 hg7 hxs7 c0' c1' c2' c3' c4' c5' c6' c7' c8'
      go_wp2_with fail
      refine (markX_all (sm j).one w7 _ T2 (c + 6 + (sm j).one.set.length) H7.out.2.2 (List.nodup_append.1 (hS1 ▸ hS1n)).2.1 ((HSM.out j hlt').parts.1.parts.2) (by omega) (by omega)).mono ?_
      rintro e w8 ⟨rfl, hs8, hf8⟩
      obtain ⟨hx8, hf8'⟩ := mark_two (W := W6) (c := c + 2) hS1 hS1n n9 (by omega) (by unfold maxLen; omega) H7.out.1 H7.out.2.1 hs8 hf8
      have k8 : w8.cell? ⟨g, j * 9 + 8, none⟩ = some (.slice pg (sm j).len cpg) := (World.cell?_of_block (w := W6) (hf8'.block g hg6 hgS1)).trans HC8.out
      have hgg8 : GsOwn w8 (sm j).len (sm j).sm (.slice pg (sm j).len cpg) S2 := hgg6.same (fun x hx => hf8'.block x (hgg6.lt x hx) (fun h => (List.nodup_append.1 hTS).2.2 x h x hx rfl))
      have H8 : Hid (XOwn w8 (markX (sm j).one (c + 2)) (.slice ps (sm j).one.set.length cps) (.slice pk (sm j).one.len cpk) S1 ∧ FrX W6 w8 S1 ∧ GsOwn w8 (sm j).len (sm j).sm (.slice pg (sm j).len cpg) S2) := ⟨hx8, hf8', hgg8⟩
      have hN1 : c + 6 + (sm j).one.set.length + sumX (fun i => ((sm j).one.kid i).marks) (sm j).one.len = c + 2 + (sm j).one.marks := by omega
      rw [hN1]
      clear hs8 hf8 hx8 hf8' hgg8 hN1 k7 H7
      have HFF : Hid (T = S1 ++ S2 ∧ (S1 ++ S2).Nodup ∧ g < W6.heap.size ∧ (g :: SS.flatten).Nodup ∧ S = g :: SS.flatten ∧ l.length = len ∧ SS.length = len ∧ SS[j]? = some T ∧ markGK sm k j = markG (sm j) c ∧ sm j ≠ .no ∧ ∀ x ∈ SS.flatten, W6.heap[x]? = wr.heap[x]?) := ⟨n8, hTS, hg6, n1, n2, n4, n5, n6, n7, n10, fun x hx => HF6.out.block x (n3 x hx) (by simp only [List.mem_singleton]; rintro rfl; exact (List.nodup_cons.1 n1).1 hx)⟩
      clear n1 n2 n3 n4 n5 n6 n7 n8 n9 n10 hTn hgT hTS hg6 hsame hx6 hgg6 hos6 hxs6 hS1n hgS1 hsv hS1 e6
      obtain ⟨c3, hc3⟩ : ∃ c3, c3 = c + 2 + (sm j).one.marks := ⟨_, rfl⟩
      have HC3 : Hid (c3 = c + 2 + (sm j).one.marks) := hc3
      have hc3b : c ≤ c3 := by omega
      have hc3m : c3 + sumX (fun i => ((sm j).sm i).marks) (sm j).len ≤ 90000000000000 := by omega
      rw [← hc3]
      clear hc3
      go_wp2_with fail
      refine (IH.out j hlt' w8 _ S2 c3 H8.out.2.2 (List.nodup_append.1 HFF.out.2.1).2.1 (HSM.out j hlt').parts.2 (by omega) hc3m).mono ?_
      rintro e w9 ⟨rfl, hg9, hf9⟩
      have hx9 : XOwn w9 (markX (sm j).one (c + 2)) (.slice ps (sm j).one.set.length cps) (.slice pk (sm j).one.len cpk) S1 := H8.out.1.same _ (fun x hx => hf9.block x (H8.out.1.there _ x hx) (fun h => (List.nodup_append.1 HFF.out.2.1).2.2 x hx x h rfl))
      rw [HC3.out] at hg9
      have hG9 : GOwn w9 (markG (sm j) c) (.slice ps (sm j).one.set.length cps) (.slice pk (sm j).one.len cpk) (.slice pg (sm j).len cpg) T := by
        rw [markG_mk HFF.out.2.2.2.2.2.2.2.2.2.1, HFF.out.1]
        exact GOwn.mk' (markB_sizeX _ (by omega)) hx9 hg9
      have hf69 : FrX W6 w9 T := by
        rw [HFF.out.1]
        exact (H8.out.2.1.mono (fun x hx => List.mem_append_left _ hx)).trans (hf9.mono (fun x hx => List.mem_append_right _ hx))
      have hnew : GsOwn w9 len (markGTo sm k (j + 1)) (.slice (some ⟨g, 0, none⟩) len cap) (g :: SS.flatten) := by
        have hs : markGTo sm k (j + 1) j = markG (sm j) c := by unfold markGTo; rw [if_pos (by omega)]; exact HFF.out.2.2.2.2.2.2.2.2.1
        refine mark_stepG (sm := markGTo sm k j) (sm' := markGTo sm k (j + 1)) (by rw [hs]; exact Q6.out) HFF.out.2.2.2.2.2.1 HFF.out.2.2.2.2.2.2.1 HFF.out.2.2.2.1 hlt' (fun i hi => ?_) (fun i hi hij => ?_) HFF.out.2.2.2.2.2.2.2.1 hf69 (by rw [hs]; exact hG9) HFF.out.2.2.1
        · obtain ⟨a, b, d, T', m1, m2, m3⟩ := HREST.out i hi
          exact ⟨a, b, d, T', m1, m2, m3.same _ (fun x hx => HFF.out.2.2.2.2.2.2.2.2.2.2 x (mem_flatX m2 hx))⟩
        · unfold markGTo
          by_cases h1 : i < j
          · rw [if_pos h1, if_pos (by omega)]
          · rw [if_neg h1, if_neg (by omega)]
      rw [← HFF.out.2.2.2.2.1] at hnew
      have hfr9 : FrX w w9 S := HFR.out.trans ((HF6.out.mono (fun x hx => by simp only [List.mem_singleton] at hx; rw [HFF.out.2.2.2.2.1, hx]; simp)).trans (hf69.mono (fun x hx => by rw [HFF.out.2.2.2.2.1]; exact List.mem_cons_of_mem _ (mem_flatX HFF.out.2.2.2.2.2.2.2.1 hx))))
      have hN : c3 + sumX (fun i => ((sm j).sm i).marks) (sm j).len = k + sumX (fun j => (sm j).marks) (j + 1) := by
        have h1 := HCC.out
        have h2 := HC3.out
        simp only [sumX]
        omega
      rw [hN]
      generalize hgen : k + sumX (fun j => (sm j).marks) (j + 1) = c2 at *
      have HG : Hid (c2 = k + sumX (fun j => (sm j).marks) (j + 1) ∧ GsOwn w9 len (markGTo sm k (j + 1)) (.slice (some ⟨g, 0, none⟩) len cap) S ∧ FrX w w9 S) := ⟨hgen.symm, hnew, hfr9⟩
      clear hgen hN hnew hfr9 hG9 hf69 hx9 hg9 hf9 k8 hc3m hc3b
      go_wp2_with fail
      go_roundw
      case rel => first | exact ⟨j + 1, c2, by go_num, rfl, by omega, HG.out⟩ | ((repeat apply Exists.intro); exact ⟨⟨j + 1, c2, by go_num, rfl, by omega, HG.out⟩, rfl⟩)
      case measure => simp [intOf]; omega
    · have hje : j = len := by omega
      subst hje
      go_wp2_with fail
      go_ret
      have h : (k : Int) + (sumX (fun j => (sm j).marks) j : Nat) = (c : Int) := by have := HCC.out; omega
      refine ⟨by rw [h]; rfl, ?_, HFR.out⟩
      exact HSO.out.congr (fun i hi => by unfold markGTo; rw [if_pos hi])
theorem mark_got (g : G) : MarkGAt g := by
  induction g with
  | no => intro w v S k hv hn hsm hk0 hk; exact mark_gots 0 _ (fun i hi => by omega) w v S k hv hn hsm hk0 hk
  | mk name deep one len sm ih => intro w v S k hv hn hsm hk0 hk; exact mark_gots len sm (fun i _ => ih i) w v S k hv hn hsm hk0 hk
end Go.Proofs.YtlclfmjpnchmbaaGreat

/- laws.eqGot and laws.eqGotS: of Gots of one's own, laid twice, the answer is true. Condition: no set of more than 2^22. -/
namespace Go.Proofs.YtlclfmjpnchmbaaGreat
open Go.ChangeShapes Go.WideShapes Go.ChangeAt Go.RowKit

def EqGAt (g : G) : Prop := ∀ (w : World) (a b c a' b' c' : Value) (S S' : List Nat), GOwn w g a b c S → GOwn w g a' b' c' S' → g.Small →
  Calls Tryz.prog 23 #[aggG g a b c, aggG g a' b' c'] w fun e w' => e = .returned (.bool true) ∧ Below w.heap.size w w'

set_option maxRecDepth 100000 in
set_option maxHeartbeats 2000000 in
theorem eq_gots (len : Nat) (sm : Nat → G) (ih : ∀ i, i < len → EqGAt (sm i)) (w : World) (u v : Value) (S S' : List Nat) (hu : GsOwn w len sm u S) (hv : GsOwn w len sm v S') (hsm : ∀ i, i < len → (sm i).Small) :
    Calls Tryz.prog 8 #[u, v] w fun e w' => e = .returned (.bool true) ∧ Below w.heap.size w w' := by
  obtain ⟨p, cap, rfl, hlen, hat⟩ := hu.at
  obtain ⟨q, cap2, rfl, -, hat2⟩ := hv.at
  have HC : Hid (∀ i, i < len → ∃ b sv kv gv T, p = some ⟨b, 0, none⟩ ∧ Head9 w b (i * 9) (sm i) sv kv gv ∧ GOwn w (sm i) sv kv gv T) := hat
  have HD : Hid (∀ i, i < len → ∃ b sv kv gv T, q = some ⟨b, 0, none⟩ ∧ Head9 w b (i * 9) (sm i) sv kv gv ∧ GOwn w (sm i) sv kv gv T) := hat2
  have IH : Hid (∀ i, i < len → EqGAt (sm i)) := ih
  have HSM : Hid (∀ i, i < len → (sm i).Small) := hsm
  clear hat hat2 ih hu hv hsm
  unfold maxLen at hlen
  go_enter Tryz.func8, Tryz.ntmps8
  go_wp2_with fail
  go_loopw [5] (fun i wr => ∃ k : Nat, i = .int .i64 k ∧ k ≤ len ∧ Below w.heap.size w wr) (fun i _ => len - (intOf i).toNat)
  case atStart => exact ⟨0, rfl, Nat.zero_le _, Below.refl _ _⟩
  case round =>
    obtain ⟨k, rfl, hk, hbel⟩ := hrel
    have HBL : Hid (Below w.heap.size w wr) := hbel
    clear hbel
    by_cases hlt : (k : Int) < len
    · have hlt' : k < len := by omega
      obtain ⟨b, sx, kx, gx, T, hp, hd, hin⟩ := HC.out k hlt'
      obtain ⟨b2, sy, ky, gy, T2, hq, hd2, hin2⟩ := HD.out k hlt'
      subst hp hq
      obtain ⟨c0, c1, c2, c3, c4, c5, c6, c7, c8⟩ := hd.below HBL.out
      obtain ⟨d0, d1, d2, d3, d4, d5, d6, d7, d8⟩ := hd2.below HBL.out
      have HI : Hid (GOwn wr (sm k) sx kx gx T ∧ GOwn wr (sm k) sy ky gy T2) := ⟨hin.below HBL.out, hin2.below HBL.out⟩
      clear hd hin hd2 hin2
      have HCL : Hid (∀ w1 : World, Below wr.heap.size wr w1 → Calls Tryz.prog 23 #[aggG (sm k) sx kx gx, aggG (sm k) sy ky gy] w1 fun e w' => e = .returned (.bool true) ∧ Below w1.heap.size w1 w') :=
        fun w1 h1 => IH.out k hlt' w1 sx kx gx sy ky gy T T2 (HI.out.1.below h1) (HI.out.2.below h1) (HSM.out k hlt')
      go_wp2_with fail
      go_region_with ((go_at_call 23; refine (HCL.out _ ?_).mono ?_; exact (Below.refl _ _).drew; rintro e w1 ⟨rfl, hb1⟩))
      all_goals
        have HB1 : Hid (Below w.heap.size w w1) := HBL.out.trans ⟨hb1.os, hb1.tape, hb1.output, hb1.size, fun j hj => hb1.block j (Nat.lt_of_lt_of_le hj HBL.out.size)⟩
        clear hb1
        go_wp2_with fail
        go_roundw
        case rel => first | exact ⟨k + 1, by go_num, by omega, HB1.out⟩ | ((repeat apply Exists.intro); exact ⟨⟨k + 1, by go_num, by omega, HB1.out⟩, rfl⟩)
        case measure => simp [intOf]; omega
    · go_wp2_with fail
      go_ret
      exact ⟨rfl, HBL.out⟩

set_option maxRecDepth 100000 in
set_option maxHeartbeats 2000000 in
theorem eq_got (g : G) : EqGAt g := by
  induction g with
  | no => intro w a b c a' b' c' S S' h; exact h.elim
  | mk name deep one len sm ih =>
    intro w a b c a' b' c' S S' hu hv hsm
    obtain ⟨⟨p1, q1, e1⟩, ⟨p2, q2, e2⟩, ⟨p3, q3, e3⟩⟩ := hu.shape
    obtain ⟨⟨p4, q4, e4⟩, ⟨p5, q5, e5⟩, ⟨p6, q6, e6⟩⟩ := hv.shape
    obtain ⟨_, S1, S2, rfl, h1, h2⟩ := hu.parts
    obtain ⟨_, S3, S4, rfl, h3, h4⟩ := hv.parts
    simp only [G.one, G.len, G.sm, aggG, G.name, G.deep] at e1 e2 e3 e4 e5 e6 h1 h2 h3 h4 ⊢
    have H1 : Hid (one.At 0 w a b ∧ one.At 0 w a' b') := ⟨h1.at0, h3.at0⟩
    have H2 : Hid (GsOwn w len sm c S2 ∧ GsOwn w len sm c' S4) := ⟨h2, h4⟩
    have HSM : Hid (one.Small ∧ ∀ i, i < len → (sm i).Small) := hsm
    have IH : Hid (∀ i, EqGAt (sm i)) := ih
    clear hu hv h1 h2 h3 h4 ih hsm
    subst e1 e2 e3 e4 e5 e6
    go_enter Tryz.func23, Tryz.ntmps23
    go_wp2_with fail
    have hb0 : ∀ o1 o2, Below w.heap.size w ((w.alloc o1).alloc o2) := fun o1 o2 => (newx w _).trans ((newx _ _).mono (by simp))
    refine (eq_stx one _ _ _ _ _ (X.At.below (hb0 _ _) H1.out.1) (X.At.below (hb0 _ _) H1.out.2) HSM.out.1).mono ?_
    rintro e w1 ⟨rfl, hb1⟩
    have HB1 : Hid (Below w.heap.size w w1) := (hb0 _ _).trans (hb1.mono (by simp; omega))
    have a8 : w1.cell? ⟨w.heap.size, 8, none⟩ = some (.slice p3 len q3) := keepsX hb1 _ _ (by simp [go_sem])
    have b8 : w1.cell? ⟨w.heap.size + 1, 8, none⟩ = some (.slice p6 len q6) := keepsX hb1 _ _ (by simp [go_sem])
    clear hb1 hb0
    go_wp2_with fail
    refine (eq_gots len sm (fun i _ => IH.out i) _ _ _ _ _ (H2.out.1.below HB1.out) (H2.out.2.below HB1.out) HSM.out.2).mono ?_
    rintro e w2 ⟨rfl, hb2⟩
    have HB : Hid (Below w.heap.size w w2) := HB1.out.trans (hb2.mono HB1.out.size)
    clear hb2 a8 b8
    go_wp2_with fail
    go_ret
    exact ⟨rfl, HB.out⟩
theorem eq_gots_all (len : Nat) (sm : Nat → G) (w : World) (u v : Value) (S S' : List Nat) (hu : GsOwn w len sm u S) (hv : GsOwn w len sm v S') (hsm : ∀ i, i < len → (sm i).Small) :
    Calls Tryz.prog 8 #[u, v] w fun e w' => e = .returned (.bool true) ∧ Below w.heap.size w w' := eq_gots len sm (fun i _ => eq_got (sm i)) w u v S S' hu hv hsm
end Go.Proofs.YtlclfmjpnchmbaaGreat
