/- laws.markText. Condition: a number from 1 to 10^15. -/
import Derived.Test.YtlclfmjpnchmbaaGreatZG4OneByte
import Derived.Test.YtlclfmjpnchmbaaGreatZG3MarkB
import Derived.Test.YtlclfmjpnchmbaaGreatRows
import Derived.WalkKit
import Derived.ProofKit
import Derived.Below
import Derived.OwnWalk
import Derived.Deep.RegionHeld3
namespace Go.Proofs.YtlclfmjpnchmbaaGreat
open Go.ChangeShapes Go.WideShapes Go.ChangeAt Go.RowKit

theorem join_mark (l : List UInt8) : ((⟨#[109]⟩ : ByteArray) ++ ⟨l.toArray⟩) = ⟨(109 :: l).toArray⟩ := join_one 109 l

set_option maxRecDepth 100000 in
set_option maxHeartbeats 1000000 in
theorem mark_text (n : Nat) (h0 : 0 < n) (h1 : n ≤ 1000000000000000) (w : World) :
    Calls Tryz.prog 28 #[.int .i64 n] w fun e w' => e = .returned (.string (markB n)) ∧ Below w.heap.size w w' := by
  have t0 : ¬ ((n : Int) ≤ 0) := by omega
  go_enter Tryz.func28, Tryz.ntmps28
  go_wp2
  go_loopw [0, 3] (fun x o w1 => ∃ (k : Nat) (l : List UInt8), k ≤ n ∧ x = .int .i64 k ∧ o = .string ⟨l.toArray⟩ ∧ decD k ++ l = Lib.decDigits n ∧ Below w.heap.size w w1) (fun x _ _ => (intOf x).toNat)
  case atStart => exact ⟨n, [], Nat.le_refl _, rfl, rfl, by rw [decD_pos n h0]; simp, Below.refl _ _⟩
  case round =>
    obtain ⟨k, l, hk, rfl, rfl, hl, hg⟩ := hrel
    have hlen := acc_len k n l (by omega) hl
    have HL : Hid (decD k ++ l = Lib.decDigits n) := hl
    clear hl
    by_cases hz : (k : Int) > 0
    · have hr := one_byte wr (48 + (k : Int) % 10) _ (digit_byte k)
      go_wp2
      refine ⟨⟨k / 10, (48 + UInt8.ofNat (k % 10)) :: l, by omega, by simp, by rw [join_one], acc_step k n (by omega) l HL.out, hg.alloc hg.size _⟩, ?_⟩
      simp [intOf]; omega
    · have hk0 : k = 0 := by omega
      subst hk0
      go_wp2
      go_ret
      have e := HL.out
      rw [decD_zero, List.nil_append] at e
      subst e
      exact ⟨by rw [← join_mark]; rfl, hg⟩

theorem mark_text_int (z : Int) (h0 : 0 < z) (h1 : z ≤ 1000000000000000) (w : World) :
    Calls Tryz.prog 28 #[.int .i64 z] w fun e w' => e = .returned (.string (markB z.toNat)) ∧ Below w.heap.size w w' := by
  have := mark_text z.toNat (by omega) (by omega) w
  rwa [show ((z.toNat : Nat) : Int) = z from by omega] at this

end Go.Proofs.YtlclfmjpnchmbaaGreat

/- laws.heldStxS, of what is written that was marked. Condition: marks up to 10^14, no set of more than 2^22. -/
namespace Go.Proofs.YtlclfmjpnchmbaaGreat
open Go.ChangeShapes Go.WideShapes Go.ChangeAt Go.RowKit

def HeldXAt (t : X) : Prop := ∀ (w : World) (v : Value) (k : Nat), XsAt 0 w t.len (markXK t.kid k) v → (∀ i, i < t.len → (t.kid i).Small) → 0 < k → k + sumX (fun j => (t.kid j).marks) t.len ≤ 100000000000000 →
  Calls Tryz.prog 30 #[v, .int .i64 k] w fun e w' => e = .returned (.int .i64 ((k + sumX (fun j => (t.kid j).marks) t.len : Nat) : Int)) ∧ Below w.heap.size w w'

set_option maxRecDepth 100000 in
set_option maxHeartbeats 4000000 in
theorem held_stxs (len : Nat) (kid : Nat → X) (hmk : ∀ i, i < len → kid i ≠ .no) (ih : ∀ i, i < len → HeldXAt (kid i)) (w : World) (v : Value) (k : Nat) (hv : XsAt 0 w len (markXK kid k) v) (hsm : ∀ i, i < len → (kid i).Small) (hk0 : 0 < k) (hk : k + sumX (fun j => (kid j).marks) len ≤ 100000000000000) :
    Calls Tryz.prog 30 #[v, .int .i64 k] w fun e w' => e = .returned (.int .i64 ((k + sumX (fun j => (kid j).marks) len : Nat) : Int)) ∧ Below w.heap.size w w' := by
  obtain ⟨p, cap, rfl, hlen, hat⟩ := hv.at
  have HC : Hid (∀ i, i < len → ∃ b o sv u, p = some ⟨b, o, none⟩ ∧ Head6 w b (o + i * 6) (markXK kid k i) sv u ∧ (markXK kid k i).At 0 w sv u) := hat
  have IH : Hid (∀ i, i < len → HeldXAt (kid i)) := ih
  have HM : Hid (∀ i, i < len → kid i ≠ .no) := hmk
  have HKK : Hid (k + sumX (fun j => (kid j).marks) len ≤ 100000000000000) := hk
  have HSM : Hid (∀ i, i < len → (kid i).Small) := hsm
  clear hat ih hv hmk hk hsm
  unfold maxLen at hlen
  go_enter Tryz.func30, Tryz.ntmps30
  go_wp2_with fail
  go_loopw [1, 5] (fun x i wr => ∃ j c : Nat, i = .int .i64 j ∧ x = .int .i64 c ∧ j ≤ len ∧ c = k + sumX (fun j => (kid j).marks) j ∧ Below w.heap.size w wr) (fun _ i _ => len - (intOf i).toNat)
  case atStart => exact ⟨0, k, rfl, rfl, Nat.zero_le _, by simp [sumX], Below.refl _ _⟩
  case round =>
    obtain ⟨j, c, rfl, rfl, hj, hc, hbel⟩ := hrel
    have HBL : Hid (Below w.heap.size w wr) := hbel
    have HCC : Hid (c = k + sumX (fun j => (kid j).marks) j) := hc
    clear hbel hc
    by_cases hlt : (j : Int) < len
    · have hlt' : j < len := by omega
      obtain ⟨b, o, su, u, hp, hd, hin⟩ := HC.out j hlt'
      subst hp
      have hne := HM.out j hlt'
      have hsum := sumX_at (fun j => (kid j).marks) j len hlt'
      have hme := X.marks_eq hne
      have hcb : c + (kid j).marks ≤ 100000000000000 := by have h1 := HCC.out; have h2 := HKK.out; omega
      have hc0 : 0 < c := by have := HCC.out; omega
      have hmj : markXK kid k j = markX (kid j) c := by unfold markXK; rw [HCC.out]
      rw [hmj] at hd hin
      have HI : Hid (XsAt 0 wr (kid j).len (markXK (kid j).kid (c + 4 + (kid j).set.length)) u) := by
        have := (X.At.below HBL.out hin).xs
        rw [markX_kid hne, markX_len] at this
        exact this
      have HIS : Hid (Rd wr su (marksI (c + 4) (kid j).set.length)) := by
        have := (X.At.below HBL.out hin).sets.rd
        rw [markX_set hne] at this
        exact this
      obtain ⟨pss, css, hsu, -⟩ := HIS.out.shape
      rw [marksI_len] at hsu
      have hsl := (HSM.out j hlt').parts.1
      have hh := markX_op (kid j) c hne
      obtain ⟨e0, e1, e2, e3⟩ := hh
      obtain ⟨a0, a1, a2, a3, a4, a5⟩ := hd.below HBL.out
      rw [e0] at a0; rw [e1] at a1; rw [e2] at a2; rw [e3] at a3
      have a1' : wr.cell? ⟨b, o + j * 6 + 1, none⟩ = some (.int .i64 ((c : Int) + 1)) := by rw [a1]; congr 2
      have a2' : wr.cell? ⟨b, o + j * 6 + 2, none⟩ = some (.int .i64 ((c : Int) + 1 + 1)) := by rw [a2]; congr 2
      have a3' : wr.cell? ⟨b, o + j * 6 + 3, none⟩ = some (.string (markB ((c : Int) + 1 + 1 + 1).toNat)) := by rw [a3]; congr 3
      have hbl : b < wr.heap.size := World.block_lt_of_cell? wr _ a0
      subst hsu
      clear hd hin hmj e0 e1 e2 e3 a1 a2 a3 hne hsum
      have hst : ∀ s : ByteArray, (s.toList == s.toList) = true := fun s => by simp
      go_wp2_with fail
      go_region_held3 (fun w' => w'.cell? ⟨b, o + j * 6 + 3, none⟩ = some (.string (markB ((c : Int) + 1 + 1 + 1).toNat)))
        (first | go_keep | exact hs3)
        ((go_at_call 28; refine (mark_text_int ((c : Int) + 1 + 1 + 1) (by omega) (by omega) _).mono ?_; rintro e w1 ⟨rfl, hb1⟩; have hbw : Below wr.heap.size wr w1 := ⟨hb1.os, hb1.tape, hb1.output, hb1.size, hb1.block⟩; have hs3 : w1.cell? ⟨b, o + j * 6 + 3, none⟩ = some (.string (markB ((c : Int) + 1 + 1 + 1).toNat)) := (hbw.cell (by exact hbl)).trans a3'))
      all_goals
        have HB1 : Hid (Below w.heap.size w w1) := HBL.out.trans (hbw.mono HBL.out.size)
        have HI1 : Hid (XsAt 0 w1 (kid j).len (markXK (kid j).kid (c + 4 + (kid j).set.length)) u) := XsAt.below hbw HI.out
        have HIS1 : Hid (Rd w1 (.slice pss (kid j).set.length css) (marksI (c + 4) (kid j).set.length)) := HIS.out.below hbw
        have a4' := keepsX hbw _ _ a4
        have a5' := keepsX hbw _ _ a5
        clear hbw hb1 hs3
        have e4 : (c : Int) + 1 + 1 + 1 + 1 = ((c + 4 : Nat) : Int) := by omega
        go_wp2_with fail
        refine (held_ints (kid j).set.length _ (c + 4) w1 HIS1.out hsl (by omega)).mono ?_
        rintro e w1' ⟨rfl, hw1⟩
        subst w1'
        go_wp2_with fail
        refine (IH.out j hlt' w1 u (c + 4 + (kid j).set.length) HI1.out (HSM.out j hlt').parts.2 (by omega) (by omega)).mono ?_
        rintro e w2 ⟨rfl, hb2⟩
        have HB2 : Hid (Below w.heap.size w w2) := HB1.out.trans (hb2.mono HB1.out.size)
        have hN : c + 4 + (kid j).set.length + sumX (fun i => ((kid j).kid i).marks) (kid j).len = k + sumX (fun j => (kid j).marks) (j + 1) := by
          have h1 := HCC.out
          simp only [sumX]
          omega
        rw [hN]
        have HNN : Hid (k + sumX (fun j => (kid j).marks) (j + 1) = k + sumX (fun j => (kid j).marks) (j + 1)) := rfl
        generalize hgen : k + sumX (fun j => (kid j).marks) (j + 1) = c2 at *
        have HG : Hid (c2 = k + sumX (fun j => (kid j).marks) (j + 1)) := hgen.symm
        clear hb2 hgen hN HNN a4' a5' e4
        go_wp2_with fail
        go_roundw
        case rel => exact ⟨j + 1, c2, by go_num, rfl, by omega, HG.out, HB2.out⟩
        case measure => simp [intOf]; omega
    · have hje : j = len := by omega
      subst hje
      go_wp2_with fail
      go_ret
      have h : (k : Int) + (sumX (fun j => (kid j).marks) j : Nat) = (c : Int) := by have := HCC.out; omega
      exact ⟨by rw [h]; rfl, HBL.out⟩
end Go.Proofs.YtlclfmjpnchmbaaGreat

/- laws.markStxS, of what is written whose rows and sets are owned, each in its block. Condition: marks up to 10^14, no set of more than 2^22. -/
namespace Go.Proofs.YtlclfmjpnchmbaaGreat
open Go.ChangeShapes Go.WideShapes Go.ChangeAt Go.RowKit

theorem heldX_all (t : X) : HeldXAt t := by
  induction t with
  | no => intro w v k hv hsm hk0 hk; exact held_stxs 0 _ (fun i hi => by omega) (fun i hi => by omega) w v k hv hsm hk0 hk
  | mk op a n s set len kid ih => intro w v k hv hsm hk0 hk; exact held_stxs len kid (markX_no hv) (fun i _ => ih i) w v k hv hsm hk0 hk

def MarkXAt (t : X) : Prop := ∀ (w : World) (v : Value) (S : List Nat) (k : Nat), XsOwn w t.len t.kid v S → S.Nodup → (∀ i, i < t.len → (t.kid i).Small) → 0 < k → k + sumX (fun j => (t.kid j).marks) t.len ≤ 90000000000000 →
  Calls Tryz.prog 27 #[v, .int .i64 k] w fun e w' => e = .returned (.int .i64 ((k + sumX (fun j => (t.kid j).marks) t.len : Nat) : Int)) ∧ XsOwn w' t.len (markXK t.kid k) v S ∧ FrX w w' S

theorem mark_text_cx (c : Nat) (h : c ≤ 99999999999990) (w : World) :
    Calls Tryz.prog 28 #[.int .i64 ((c : Int) + 1 + 1 + 1)] w fun e w' => e = .returned (.string (markB (c + 3))) ∧ Below w.heap.size w w' := by
  have := mark_text (c + 3) (by omega) (by omega) w
  rwa [show ((c + 3 : Nat) : Int) = (c : Int) + 1 + 1 + 1 from by omega] at this

set_option maxRecDepth 100000 in
set_option maxHeartbeats 4000000 in
theorem mark_stxs (len : Nat) (kid : Nat → X) (ih : ∀ i, i < len → MarkXAt (kid i)) (w : World) (v : Value) (S : List Nat) (k : Nat) (hv : XsOwn w len kid v S) (hnd : S.Nodup) (hsm : ∀ i, i < len → (kid i).Small) (hk0 : 0 < k) (hk : k + sumX (fun j => (kid j).marks) len ≤ 90000000000000) :
    Calls Tryz.prog 27 #[v, .int .i64 k] w fun e w' => e = .returned (.int .i64 ((k + sumX (fun j => (kid j).marks) len : Nat) : Int)) ∧ XsOwn w' len (markXK kid k) v S ∧ FrX w w' S := by
  have HV : Hid (XsOwn w len kid v S) := hv
  have hsh := hv.at0.at
  have HND : Hid (S.Nodup) := hnd
  have IH : Hid (∀ i, i < len → MarkXAt (kid i)) := ih
  have HKK : Hid (k + sumX (fun j => (kid j).marks) len ≤ 90000000000000) := hk
  obtain ⟨p, cap, rfl, hlen, -⟩ := hsh
  have HSM : Hid (∀ i, i < len → (kid i).Small) := hsm
  clear ih hv hnd hk hsm
  unfold maxLen at hlen
  go_enter Tryz.func27, Tryz.ntmps27
  go_wp2_with fail
  go_loopw [1, 5] (fun x i wr => ∃ j c : Nat, i = .int .i64 j ∧ x = .int .i64 c ∧ j ≤ len ∧ c = k + sumX (fun j => (kid j).marks) j ∧ XsOwn wr len (markXTo kid k j) (.slice p len cap) S ∧ FrX w wr S) (fun _ i _ => len - (intOf i).toNat)
  case atStart => exact ⟨0, k, rfl, rfl, Nat.zero_le _, by simp [sumX], by rw [markXTo_zero]; exact HV.out, FrX.refl _ _⟩
  case round =>
    obtain ⟨j, c, rfl, rfl, hj, hc, hso, hfr⟩ := hrel
    have HFR : Hid (FrX w wr S) := hfr
    have HCC : Hid (c = k + sumX (fun j => (kid j).marks) j) := hc
    have HSO : Hid (XsOwn wr len (markXTo kid k j) (.slice p len cap) S) := hso
    clear hc hso hfr
    by_cases hlt : (j : Int) < len
    · have hlt' : j < len := by omega
      have hso := HSO.out
      rcases hso with ⟨h0, _⟩ | ⟨g, cap', l, SS, he, hown, hl, hSl, hks, hSe, heach⟩
      · omega
      injection he with he1 _ he2
      subst he1 he2
      obtain ⟨su, u, T, k1, k2, k3⟩ := heach j hlt'
      have hn : (g :: SS.flatten).Nodup := by have := HND.out; rw [hSe] at this; exact this
      have hdj : XOwn wr (kid j) su u T := by rw [markXTo_at] at k3; exact k3
      have hltS : ∀ x ∈ SS.flatten, x < wr.heap.size := fun x hx => HSO.out.lt x (by rw [hSe]; exact List.mem_cons_of_mem _ hx)
      have hsum := sumX_at (fun j => (kid j).marks) j len hlt'
      have hme := X.marks_eq hdj.ne
      have hsl := (HSM.out j hlt').parts.1
      have hcb : c + (kid j).marks ≤ 90000000000000 := by have h1 := HCC.out; have h2 := HKK.out; omega
      have hc0 : 0 < c := by have := HCC.out; omega
      have hmj : markXK kid k j = markX (kid j) c := by unfold markXK; rw [HCC.out]
      obtain ⟨e0, e1, e2, e3⟩ := markX_op (kid j) c hdj.ne
      have HOW : Hid (wr.ownsRow 0 32 6 (.slice (some ⟨g, 0, none⟩) len cap) len (xrows l)) := hown
      have hf : ∀ x, wr.frozen? ⟨g, x, none⟩ = false := fun x => hown.frozenAt x
      have hcl : ∀ x, x < 6 → wr.cell? ⟨g, j * 6 + x, none⟩ = (xcells (markXTo kid k j j, su, u))[x]? := by
        intro x hx
        rw [hown.cellAt (j * 6 + x) (by omega)]
        have := xrows_at l [] j _ k1 x hx
        simpa using this
      have u0 := hcl 0 (by omega); have u1 := hcl 1 (by omega); have u2 := hcl 2 (by omega); have u3 := hcl 3 (by omega); have u4 := hcl 4 (by omega); have u5 := hcl 5 (by omega)
      simp only [xcells, Nat.add_zero, List.getElem?_cons_zero, List.getElem?_cons_succ] at u0 u1 u2 u3 u4 u5
      clear hcl
      have HQ : Hid (((((xrows l).set (j * 6) (.int .i64 (c : Int))).set (j * 6 + 1) (.int .i64 ((c : Int) + 1))).set (j * 6 + 2) (.int .i64 ((c : Int) + 1 + 1))).set (j * 6 + 3) (.string (markB (c + 3))) = xrows (l.set j (markXK kid k j, su, u))) := by
        show _ = _
        rw [hmj, ← xrows_set l j _ (su, u) k1 (markX (kid j) c), e0, e1, e2, e3]
        have x1 : ((c + 1 : Nat) : Int) = (c : Int) + 1 := by omega
        have x2 : ((c + 2 : Nat) : Int) = (c : Int) + 1 + 1 := by omega
        rw [x1, x2]
      have HREST : Hid (∀ i, i < len → ∃ su u T, l[i]? = some (markXTo kid k j i, su, u) ∧ SS[i]? = some T ∧ XOwn wr (markXTo kid k j i) su u T) := heach
      have HDJ : Hid (XOwn wr (kid j) su u T) := hdj
      obtain ⟨pss, css, hsu⟩ := hdj.at0.sets.shape
      have HNN : Hid ((g :: SS.flatten).Nodup ∧ S = g :: SS.flatten ∧ (∀ x ∈ SS.flatten, x < wr.heap.size) ∧ l.length = len ∧ SS.length = len ∧ XKs (markXTo kid k j) l ∧ l[j]? = some (markXTo kid k j j, su, u) ∧ SS[j]? = some T ∧ markXK kid k j = markX (kid j) c) := ⟨hn, hSe, hltS, hl, hSl, hks, k1, k2, hmj⟩
      generalize (markXTo kid k j j).op = z0 at u0
      generalize (markXTo kid k j j).at_ = z1 at u1
      generalize (markXTo kid k j j).n = z2 at u2
      generalize (markXTo kid k j j).s = z3 at u3
      clear heach hown hdj hn hSe hltS hks k1 k2 k3 hmj e0 e1 e2 e3 hsum hl hSl HV
      go_wp2_with fail
      refine (mark_text_cx c (by omega) _).mono ?_
      rintro e w1 ⟨rfl, hb1⟩
      obtain ⟨q1, g1⟩ := HOW.out.stored (j * 6) (.int .i64 (c : Int))
      obtain ⟨q2, g2⟩ := q1.stored (j * 6 + 1) (.int .i64 ((c : Int) + 1))
      obtain ⟨q3, g3⟩ := q2.stored (j * 6 + 2) (.int .i64 ((c : Int) + 1 + 1))
      have q4 := own_belowX q3 hb1
      have hf1 : ∀ x, w1.frozen? ⟨g, x, none⟩ = false := fun x => q4.frozenAt x
      have hc1 : ∃ x, w1.cell? ⟨g, j * 6 + 3, none⟩ = some x := by
        have hlx : j * 6 + 3 < (xrows l).length := by rw [xrows_length, HNN.out.2.2.2.1]; omega
        exact ⟨_, (q4.cellAt (j * 6 + 3) (by omega)).trans (List.getElem?_eq_getElem (by simp only [List.length_set]; exact hlx))⟩
      obtain ⟨x3, hx3⟩ := hc1
      have hx4 : w1.cell? ⟨g, j * 6 + 4, none⟩ = some su := by
        rw [q4.cellAt (j * 6 + 4) (by omega), List.getElem?_set_ne (by omega), List.getElem?_set_ne (by omega), List.getElem?_set_ne (by omega), ← HOW.out.cellAt (j * 6 + 4) (by omega)]
        exact u4
      have hx5 : w1.cell? ⟨g, j * 6 + 5, none⟩ = some u := by
        rw [q4.cellAt (j * 6 + 5) (by omega), List.getElem?_set_ne (by omega), List.getElem?_set_ne (by omega), List.getElem?_set_ne (by omega), ← HOW.out.cellAt (j * 6 + 5) (by omega)]
        exact u5
      obtain ⟨q5, g5⟩ := q4.stored (j * 6 + 3) (.string (markB (c + 3)))
      rw [HQ.out] at q5
      have hux : ∀ x, x < 6 → (w1.setCell ⟨g, j * 6 + 3, none⟩ (.string (markB (c + 3)))).cell? ⟨g, j * 6 + x, none⟩ = (xcells (markXK kid k j, su, u))[x]? := by
        intro x hx
        rw [q5.cellAt (j * 6 + x) (by omega)]
        have h2 : (l.set j (markXK kid k j, su, u))[j]? = some (markXK kid k j, su, u) := by rw [List.getElem?_set, if_pos rfl, if_pos (by rw [HNN.out.2.2.2.1]; omega)]
        have h3 := xrows_at (l.set j (markXK kid k j, su, u)) [] j _ h2 x hx
        rw [List.append_nil] at h3
        exact h3
      have hu4 : (w1.setCell ⟨g, j * 6 + 3, none⟩ (.string (markB (c + 3)))).cell? ⟨g, j * 6 + 4, none⟩ = some su := hux 4 (by omega)
      have hu5 : (w1.setCell ⟨g, j * 6 + 3, none⟩ (.string (markB (c + 3)))).cell? ⟨g, j * 6 + 5, none⟩ = some u := hux 5 (by omega)
      clear hux
      have F5 : FrX wr (w1.setCell ⟨g, j * 6 + 3, none⟩ (.string (markB (c + 3)))) [g] :=
        ((FrX.grown (S := [g]) (grownX (grownX g1 g2) g3) (by simp)).trans (FrX.below hb1 _)).trans (FrX.grown g5 (by simp))
      have Q5 : Hid ((w1.setCell ⟨g, j * 6 + 3, none⟩ (.string (markB (c + 3)))).ownsRow 0 32 6 (.slice (some ⟨g, 0, none⟩) len cap) len (xrows (l.set j (markXK kid k j, su, u)))) := q5
      have HF5 : Hid (FrX wr (w1.setCell ⟨g, j * 6 + 3, none⟩ (.string (markB (c + 3)))) [g]) := F5
      have hgf : ∀ x ∈ SS.flatten, (w1.setCell ⟨g, j * 6 + 3, none⟩ (.string (markB (c + 3)))).heap[x]? = wr.heap[x]? := fun x hx =>
        F5.block x (HNN.out.2.2.1 x hx) (by simp only [List.mem_singleton]; rintro rfl; exact (List.nodup_cons.1 HNN.out.1).1 hx)
      have HGF : Hid (∀ x ∈ SS.flatten, (w1.setCell ⟨g, j * 6 + 3, none⟩ (.string (markB (c + 3)))).heap[x]? = wr.heap[x]?) := hgf
      clear q1 q2 q3 q4 q5 g1 g2 g3 g5 F5 hb1 hgf u0 u1 u2 u3 u4 hf HQ HOW
      have e4 : (c : Int) + 1 + 1 + 1 + 1 = ((c + 4 : Nat) : Int) := by omega
      subst hsu
      go_wp2_with fail
      generalize hW5 : w1.setCell ⟨g, j * 6 + 3, none⟩ (.string (markB (c + 3))) = W5 at *
      obtain ⟨n1, n2, n3, n4, n5, n6, n7, n8, n9⟩ := HNN.out
      have hdj5 : XOwn W5 (kid j) (.slice pss (kid j).set.length css) u T := HDJ.out.same _ (fun x hx => HGF.out x (mem_flatX n8 hx))
      have hTn := (flat_splitX n8 (List.nodup_cons.1 n1).2).1
      obtain ⟨hos5, T2, hTT, hxs5⟩ := hdj5.parts
      have hgT : g ∉ T := fun hx => (List.nodup_cons.1 n1).1 (mem_flatX n8 hx)
      have hg5 : g < W5.heap.size := (Q5.out.lt g rfl).2
      refine (mark_ints _ 0 (kid j).set (c + 4) W5 hos5 hsl (by omega)).mono ?_
      rintro e w6 ⟨rfl, hos6, hg6⟩
      have hk6 : w6.cell? ⟨g, j * 6 + 5, none⟩ = some u := (World.cell?_of_block (w := W5) (hg6.block g hg5 (fun e => hgT (by rw [hTT]; exact List.mem_append_left _ (mem_own e.symm))))).trans hu5
      have hxs6 : XsOwn w6 (kid j).len (kid j).kid u T2 := hxs5.same (fun x hx => hg6.block x (hxs5.lt x hx) (fun e => (List.nodup_append.1 (hTT ▸ hTn)).2.2 x (mem_own e.symm) x hx rfl))
      have H6 : Hid (Own w6 0 (.slice pss (kid j).set.length css) (marksI (c + 4) (kid j).set.length) ∧ W5.grownBy w6 (Value.slice pss (kid j).set.length css).ownBlock ∧ XsOwn w6 (kid j).len (kid j).kid u T2) := ⟨hos6, hg6, hxs6⟩
      clear hos6 hg6 hxs6 hu4 hu5
      go_wp2_with fail
      refine (IH.out j hlt' w6 u T2 (c + 4 + (kid j).set.length) H6.out.2.2 (List.nodup_append.1 (hTT ▸ hTn)).2.1 (HSM.out j hlt').parts.2 (by omega) (by omega)).mono ?_
      rintro e w7 ⟨rfl, hs7, hf7⟩
      obtain ⟨hd7', hf7'⟩ := mark_two (c := c) hTT hTn hdj5.ne (by omega) hdj5.plain.2.2 H6.out.1 H6.out.2.1 hs7 hf7
      have hd7 : XOwn w7 (markXK kid k j) (.slice pss (kid j).set.length css) u T := by rw [n9]; exact hd7'
      have hnew : XsOwn w7 len (markXTo kid k (j + 1)) (.slice (some ⟨g, 0, none⟩) len cap) (g :: SS.flatten) :=
        mark_stepX Q5.out n4 n5 n6 n1 hlt' (fun i hi => by
          obtain ⟨sui, ui, Ti, m1, m2, m3⟩ := HREST.out i hi
          exact ⟨sui, ui, Ti, m1, m2, fun _ => m3.same _ (fun x hx => HGF.out x (mem_flatX m2 hx))⟩) n7 n8 hf7' hd7 (fun x hx => Nat.lt_of_lt_of_le (n3 x hx) HF5.out.size)
      rw [← n2] at hnew
      have hfr6 : FrX w w7 S := HFR.out.trans ((HF5.out.mono (fun x hx => by simp only [List.mem_singleton] at hx; rw [n2, hx]; simp)).trans (hf7'.mono (fun x hx => by rw [n2]; exact List.mem_cons_of_mem _ (mem_flatX n8 hx))))
      have hN : c + 4 + (kid j).set.length + sumX (fun i => ((kid j).kid i).marks) (kid j).len = k + sumX (fun j => (kid j).marks) (j + 1) := by
        have h1 := HCC.out
        simp only [sumX]
        omega
      rw [hN]
      generalize hgen : k + sumX (fun j => (kid j).marks) (j + 1) = c2 at *
      have HG : Hid (c2 = k + sumX (fun j => (kid j).marks) (j + 1) ∧ XsOwn w7 len (markXTo kid k (j + 1)) (.slice (some ⟨g, 0, none⟩) len cap) S ∧ FrX w w7 S) := ⟨hgen.symm, hnew, hfr6⟩
      clear hgen hN hnew hfr6 hd7 hd7' hs7 hf7 hf7' hdj5 hTn hos5 hTT hxs5 hgT hg5 hk6 n1 n2 n3 n4 n5 n6 n7 n8 n9 e4
      go_wp2_with fail
      go_roundw
      case rel => exact ⟨j + 1, c2, by go_num, rfl, by omega, HG.out.1, HG.out.2.1, HG.out.2.2⟩
      case measure => simp [intOf]; omega
    · have hje : j = len := by omega
      subst hje
      go_wp2_with fail
      go_ret
      have h : (k : Int) + (sumX (fun j => (kid j).marks) j : Nat) = (c : Int) := by have := HCC.out; omega
      refine ⟨by rw [h]; rfl, ?_, HFR.out⟩
      exact HSO.out.congr (fun i hi => by unfold markXTo; rw [if_pos hi])

theorem markX_all (t : X) : MarkXAt t := by
  induction t with
  | no => intro w v S k hv hn hsm hk0 hk; exact mark_stxs 0 _ (fun i hi => by omega) w v S k hv hn hsm hk0 hk
  | mk op a n s set len kid ih => intro w v S k hv hn hsm hk0 hk; exact mark_stxs len kid (fun i _ => ih i) w v S k hv hn hsm hk0 hk
end Go.Proofs.YtlclfmjpnchmbaaGreat
