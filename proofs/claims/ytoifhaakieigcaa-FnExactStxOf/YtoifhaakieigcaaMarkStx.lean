/- laws.markStxS, of what is written whose rows and sets are owned, each in its block. Condition: marks up to 10^14, no set of more than 2^22. -/
import Derived.Test.YtoifhaakieigcaaHeldStx
namespace Go.Proofs.Ytoifhaakieigcaa
open Go.ChangeShapes Go.WideShapes Go.ChangeAt Go.RowKit

theorem heldX_all (t : X) : HeldXAt t := by
  induction t with
  | no => intro w v k hv hsm hk0 hk; exact held_stxs 0 _ (fun i hi => by omega) (fun i hi => by omega) w v k hv hsm hk0 hk
  | mk op a n s set len kid ih => intro w v k hv hsm hk0 hk; exact held_stxs len kid (markX_no hv) (fun i _ => ih i) w v k hv hsm hk0 hk

def MarkXAt (t : X) : Prop := ∀ (w : World) (v : Value) (S : List Nat) (k : Nat), XsOwn w t.len t.kid v S → S.Nodup → (∀ i, i < t.len → (t.kid i).Small) → 0 < k → k + sumX (fun j => (t.kid j).marks) t.len ≤ 90000000000000 →
  Calls Try.prog 44 #[v, .int .i64 k] w fun e w' => e = .returned (.int .i64 ((k + sumX (fun j => (t.kid j).marks) t.len : Nat) : Int)) ∧ XsOwn w' t.len (markXK t.kid k) v S ∧ FrX w w' S

theorem mark_text_cx (c : Nat) (h : c ≤ 99999999999990) (w : World) :
    Calls Try.prog 68 #[.int .i64 ((c : Int) + 1 + 1 + 1)] w fun e w' => e = .returned (.string (markB (c + 3))) ∧ Below w.heap.size w w' := by
  have := mark_text (c + 3) (by omega) (by omega) w
  rwa [show ((c + 3 : Nat) : Int) = (c : Int) + 1 + 1 + 1 from by omega] at this

set_option maxRecDepth 100000 in
set_option maxHeartbeats 4000000 in
theorem mark_stxs (len : Nat) (kid : Nat → X) (ih : ∀ i, i < len → MarkXAt (kid i)) (w : World) (v : Value) (S : List Nat) (k : Nat) (hv : XsOwn w len kid v S) (hnd : S.Nodup) (hsm : ∀ i, i < len → (kid i).Small) (hk0 : 0 < k) (hk : k + sumX (fun j => (kid j).marks) len ≤ 90000000000000) :
    Calls Try.prog 44 #[v, .int .i64 k] w fun e w' => e = .returned (.int .i64 ((k + sumX (fun j => (kid j).marks) len : Nat) : Int)) ∧ XsOwn w' len (markXK kid k) v S ∧ FrX w w' S := by
  have HV : Hid (XsOwn w len kid v S) := hv
  have hsh := hv.at0.at
  have HND : Hid (S.Nodup) := hnd
  have IH : Hid (∀ i, i < len → MarkXAt (kid i)) := ih
  have HKK : Hid (k + sumX (fun j => (kid j).marks) len ≤ 90000000000000) := hk
  obtain ⟨p, cap, rfl, hlen, -⟩ := hsh
  have HSM : Hid (∀ i, i < len → (kid i).Small) := hsm
  clear ih hv hnd hk hsm
  unfold maxLen at hlen
  go_enter Try.func44, Try.ntmps44
  go_wp2_with fail
  go_loopw [1, 5] (fun x i wr => ∃ j c : Nat, i = .int .i64 j ∧ x = .int .i64 c ∧ j ≤ len ∧ c = k + sumX (fun j => (kid j).marks) j ∧ XsOwn wr len (markXTo kid k j) (.slice p len cap) S ∧ FrX w wr S) (fun _ i _ => len - (intOf i).toNat)
  case atStart => exact ⟨0, k, rfl, rfl, Nat.zero_le _, by simp [sumX], by rw [markXTo_zero]; exact HV.out, FrX.refl _ _⟩
  case round =>
    obtain ⟨j, c, rfl, rfl, hj, hc, hso, hfr⟩ := hrel
    have HFR : Hid (FrX w wr S) := hfr
    have HCC : Hid (c = k + sumX (fun j => (kid j).marks) j) := hc
    have HSO : Hid (XsOwn wr len (markXTo kid k j) (.slice p len cap) S) := hso
    clear hc hso hfr
    by_cases hlt : (j : Int) < len
    · have hlt' : j < len := by omega
      have hso := HSO.out
      rcases hso with ⟨h0, _⟩ | ⟨g, cap', l, SS, he, hown, hl, hSl, hks, hSe, heach⟩
      · omega
      injection he with he1 _ he2
      subst he1 he2
      obtain ⟨su, u, T, k1, k2, k3⟩ := heach j hlt'
      have hn : (g :: SS.flatten).Nodup := by have := HND.out; rw [hSe] at this; exact this
      have hdj : XOwn wr (kid j) su u T := by rw [markXTo_at] at k3; exact k3
      have hltS : ∀ x ∈ SS.flatten, x < wr.heap.size := fun x hx => HSO.out.lt x (by rw [hSe]; exact List.mem_cons_of_mem _ hx)
      have hsum := sumX_at (fun j => (kid j).marks) j len hlt'
      have hme := X.marks_eq hdj.ne
      have hsl := (HSM.out j hlt').parts.1
      have hcb : c + (kid j).marks ≤ 90000000000000 := by have h1 := HCC.out; have h2 := HKK.out; omega
      have hc0 : 0 < c := by have := HCC.out; omega
      have hmj : markXK kid k j = markX (kid j) c := by unfold markXK; rw [HCC.out]
      obtain ⟨e0, e1, e2, e3⟩ := markX_op (kid j) c hdj.ne
      have HOW : Hid (wr.ownsRow 0 29 6 (.slice (some ⟨g, 0, none⟩) len cap) len (xrows l)) := hown
      have hf : ∀ x, wr.frozen? ⟨g, x, none⟩ = false := fun x => hown.frozenAt x
      have hcl : ∀ x, x < 6 → wr.cell? ⟨g, j * 6 + x, none⟩ = (xcells (markXTo kid k j j, su, u))[x]? := by
        intro x hx
        rw [hown.cellAt (j * 6 + x) (by omega)]
        have := xrows_at l [] j _ k1 x hx
        simpa using this
      have u0 := hcl 0 (by omega); have u1 := hcl 1 (by omega); have u2 := hcl 2 (by omega); have u3 := hcl 3 (by omega); have u4 := hcl 4 (by omega); have u5 := hcl 5 (by omega)
      simp only [xcells, Nat.add_zero, List.getElem?_cons_zero, List.getElem?_cons_succ] at u0 u1 u2 u3 u4 u5
      clear hcl
      have HQ : Hid (((((xrows l).set (j * 6) (.int .i64 (c : Int))).set (j * 6 + 1) (.int .i64 ((c : Int) + 1))).set (j * 6 + 2) (.int .i64 ((c : Int) + 1 + 1))).set (j * 6 + 3) (.string (markB (c + 3))) = xrows (l.set j (markXK kid k j, su, u))) := by
        show _ = _
        rw [hmj, ← xrows_set l j _ (su, u) k1 (markX (kid j) c), e0, e1, e2, e3]
        have x1 : ((c + 1 : Nat) : Int) = (c : Int) + 1 := by omega
        have x2 : ((c + 2 : Nat) : Int) = (c : Int) + 1 + 1 := by omega
        rw [x1, x2]
      have HREST : Hid (∀ i, i < len → ∃ su u T, l[i]? = some (markXTo kid k j i, su, u) ∧ SS[i]? = some T ∧ XOwn wr (markXTo kid k j i) su u T) := heach
      have HDJ : Hid (XOwn wr (kid j) su u T) := hdj
      obtain ⟨pss, css, hsu⟩ := hdj.at0.sets.shape
      have HNN : Hid ((g :: SS.flatten).Nodup ∧ S = g :: SS.flatten ∧ (∀ x ∈ SS.flatten, x < wr.heap.size) ∧ l.length = len ∧ SS.length = len ∧ XKs (markXTo kid k j) l ∧ l[j]? = some (markXTo kid k j j, su, u) ∧ SS[j]? = some T ∧ markXK kid k j = markX (kid j) c) := ⟨hn, hSe, hltS, hl, hSl, hks, k1, k2, hmj⟩
      generalize (markXTo kid k j j).op = z0 at u0
      generalize (markXTo kid k j j).at_ = z1 at u1
      generalize (markXTo kid k j j).n = z2 at u2
      generalize (markXTo kid k j j).s = z3 at u3
      clear heach hown hdj hn hSe hltS hks k1 k2 k3 hmj e0 e1 e2 e3 hsum hl hSl HV
      go_wp2_with fail
      refine (mark_text_cx c (by omega) _).mono ?_
      rintro e w1 ⟨rfl, hb1⟩
      obtain ⟨q1, g1⟩ := HOW.out.stored (j * 6) (.int .i64 (c : Int))
      obtain ⟨q2, g2⟩ := q1.stored (j * 6 + 1) (.int .i64 ((c : Int) + 1))
      obtain ⟨q3, g3⟩ := q2.stored (j * 6 + 2) (.int .i64 ((c : Int) + 1 + 1))
      have q4 := own_belowX q3 hb1
      have hf1 : ∀ x, w1.frozen? ⟨g, x, none⟩ = false := fun x => q4.frozenAt x
      have hc1 : ∃ x, w1.cell? ⟨g, j * 6 + 3, none⟩ = some x := by
        have hlx : j * 6 + 3 < (xrows l).length := by rw [xrows_length, HNN.out.2.2.2.1]; omega
        exact ⟨_, (q4.cellAt (j * 6 + 3) (by omega)).trans (List.getElem?_eq_getElem (by simp only [List.length_set]; exact hlx))⟩
      obtain ⟨x3, hx3⟩ := hc1
      have hx4 : w1.cell? ⟨g, j * 6 + 4, none⟩ = some su := by
        rw [q4.cellAt (j * 6 + 4) (by omega), List.getElem?_set_ne (by omega), List.getElem?_set_ne (by omega), List.getElem?_set_ne (by omega), ← HOW.out.cellAt (j * 6 + 4) (by omega)]
        exact u4
      have hx5 : w1.cell? ⟨g, j * 6 + 5, none⟩ = some u := by
        rw [q4.cellAt (j * 6 + 5) (by omega), List.getElem?_set_ne (by omega), List.getElem?_set_ne (by omega), List.getElem?_set_ne (by omega), ← HOW.out.cellAt (j * 6 + 5) (by omega)]
        exact u5
      obtain ⟨q5, g5⟩ := q4.stored (j * 6 + 3) (.string (markB (c + 3)))
      rw [HQ.out] at q5
      have hux : ∀ x, x < 6 → (w1.setCell ⟨g, j * 6 + 3, none⟩ (.string (markB (c + 3)))).cell? ⟨g, j * 6 + x, none⟩ = (xcells (markXK kid k j, su, u))[x]? := by
        intro x hx
        rw [q5.cellAt (j * 6 + x) (by omega)]
        have h2 : (l.set j (markXK kid k j, su, u))[j]? = some (markXK kid k j, su, u) := by rw [List.getElem?_set, if_pos rfl, if_pos (by rw [HNN.out.2.2.2.1]; omega)]
        have h3 := xrows_at (l.set j (markXK kid k j, su, u)) [] j _ h2 x hx
        rw [List.append_nil] at h3
        exact h3
      have hu4 : (w1.setCell ⟨g, j * 6 + 3, none⟩ (.string (markB (c + 3)))).cell? ⟨g, j * 6 + 4, none⟩ = some su := hux 4 (by omega)
      have hu5 : (w1.setCell ⟨g, j * 6 + 3, none⟩ (.string (markB (c + 3)))).cell? ⟨g, j * 6 + 5, none⟩ = some u := hux 5 (by omega)
      clear hux
      have F5 : FrX wr (w1.setCell ⟨g, j * 6 + 3, none⟩ (.string (markB (c + 3)))) [g] :=
        ((FrX.grown (S := [g]) (grownX (grownX g1 g2) g3) (by simp)).trans (FrX.below hb1 _)).trans (FrX.grown g5 (by simp))
      have Q5 : Hid ((w1.setCell ⟨g, j * 6 + 3, none⟩ (.string (markB (c + 3)))).ownsRow 0 29 6 (.slice (some ⟨g, 0, none⟩) len cap) len (xrows (l.set j (markXK kid k j, su, u)))) := q5
      have HF5 : Hid (FrX wr (w1.setCell ⟨g, j * 6 + 3, none⟩ (.string (markB (c + 3)))) [g]) := F5
      have hgf : ∀ x ∈ SS.flatten, (w1.setCell ⟨g, j * 6 + 3, none⟩ (.string (markB (c + 3)))).heap[x]? = wr.heap[x]? := fun x hx =>
        F5.block x (HNN.out.2.2.1 x hx) (by simp only [List.mem_singleton]; rintro rfl; exact (List.nodup_cons.1 HNN.out.1).1 hx)
      have HGF : Hid (∀ x ∈ SS.flatten, (w1.setCell ⟨g, j * 6 + 3, none⟩ (.string (markB (c + 3)))).heap[x]? = wr.heap[x]?) := hgf
      clear q1 q2 q3 q4 q5 g1 g2 g3 g5 F5 hb1 hgf u0 u1 u2 u3 u4 hf HQ HOW
      have e4 : (c : Int) + 1 + 1 + 1 + 1 = ((c + 4 : Nat) : Int) := by omega
      subst hsu
      go_wp2_with fail
      generalize hW5 : w1.setCell ⟨g, j * 6 + 3, none⟩ (.string (markB (c + 3))) = W5 at *
      obtain ⟨n1, n2, n3, n4, n5, n6, n7, n8, n9⟩ := HNN.out
      have hdj5 : XOwn W5 (kid j) (.slice pss (kid j).set.length css) u T := HDJ.out.same _ (fun x hx => HGF.out x (mem_flatX n8 hx))
      have hTn := (flat_splitX n8 (List.nodup_cons.1 n1).2).1
      obtain ⟨hos5, T2, hTT, hxs5⟩ := hdj5.parts
      have hgT : g ∉ T := fun hx => (List.nodup_cons.1 n1).1 (mem_flatX n8 hx)
      have hg5 : g < W5.heap.size := (Q5.out.lt g rfl).2
      refine (mark_ints _ 0 (kid j).set (c + 4) W5 hos5 hsl (by omega)).mono ?_
      rintro e w6 ⟨rfl, hos6, hg6⟩
      have hk6 : w6.cell? ⟨g, j * 6 + 5, none⟩ = some u := (World.cell?_of_block (w := W5) (hg6.block g hg5 (fun e => hgT (by rw [hTT]; exact List.mem_append_left _ (mem_own e.symm))))).trans hu5
      have hxs6 : XsOwn w6 (kid j).len (kid j).kid u T2 := hxs5.same (fun x hx => hg6.block x (hxs5.lt x hx) (fun e => (List.nodup_append.1 (hTT ▸ hTn)).2.2 x (mem_own e.symm) x hx rfl))
      have H6 : Hid (Own w6 0 (.slice pss (kid j).set.length css) (marksI (c + 4) (kid j).set.length) ∧ W5.grownBy w6 (Value.slice pss (kid j).set.length css).ownBlock ∧ XsOwn w6 (kid j).len (kid j).kid u T2) := ⟨hos6, hg6, hxs6⟩
      clear hos6 hg6 hxs6 hu4 hu5
      go_wp2_with fail
      refine (IH.out j hlt' w6 u T2 (c + 4 + (kid j).set.length) H6.out.2.2 (List.nodup_append.1 (hTT ▸ hTn)).2.1 (HSM.out j hlt').parts.2 (by omega) (by omega)).mono ?_
      rintro e w7 ⟨rfl, hs7, hf7⟩
      obtain ⟨hd7', hf7'⟩ := mark_two (c := c) hTT hTn hdj5.ne (by omega) hdj5.plain.2.2 H6.out.1 H6.out.2.1 hs7 hf7
      have hd7 : XOwn w7 (markXK kid k j) (.slice pss (kid j).set.length css) u T := by rw [n9]; exact hd7'
      have hnew : XsOwn w7 len (markXTo kid k (j + 1)) (.slice (some ⟨g, 0, none⟩) len cap) (g :: SS.flatten) :=
        mark_stepX Q5.out n4 n5 n6 n1 hlt' (fun i hi => by
          obtain ⟨sui, ui, Ti, m1, m2, m3⟩ := HREST.out i hi
          exact ⟨sui, ui, Ti, m1, m2, fun _ => m3.same _ (fun x hx => HGF.out x (mem_flatX m2 hx))⟩) n7 n8 hf7' hd7 (fun x hx => Nat.lt_of_lt_of_le (n3 x hx) HF5.out.size)
      rw [← n2] at hnew
      have hfr6 : FrX w w7 S := HFR.out.trans ((HF5.out.mono (fun x hx => by simp only [List.mem_singleton] at hx; rw [n2, hx]; simp)).trans (hf7'.mono (fun x hx => by rw [n2]; exact List.mem_cons_of_mem _ (mem_flatX n8 hx))))
      have hN : c + 4 + (kid j).set.length + sumX (fun i => ((kid j).kid i).marks) (kid j).len = k + sumX (fun j => (kid j).marks) (j + 1) := by
        have h1 := HCC.out
        simp only [sumX]
        omega
      rw [hN]
      generalize hgen : k + sumX (fun j => (kid j).marks) (j + 1) = c2 at *
      have HG : Hid (c2 = k + sumX (fun j => (kid j).marks) (j + 1) ∧ XsOwn w7 len (markXTo kid k (j + 1)) (.slice (some ⟨g, 0, none⟩) len cap) S ∧ FrX w w7 S) := ⟨hgen.symm, hnew, hfr6⟩
      clear hgen hN hnew hfr6 hd7 hd7' hs7 hf7 hf7' hdj5 hTn hos5 hTT hxs5 hgT hg5 hk6 n1 n2 n3 n4 n5 n6 n7 n8 n9 e4
      go_wp2_with fail
      go_roundw
      case rel => exact ⟨j + 1, c2, by go_num, rfl, by omega, HG.out.1, HG.out.2.1, HG.out.2.2⟩
      case measure => simp [intOf]; omega
    · have hje : j = len := by omega
      subst hje
      go_wp2_with fail
      go_ret
      have h : (k : Int) + (sumX (fun j => (kid j).marks) j : Nat) = (c : Int) := by have := HCC.out; omega
      refine ⟨by rw [h]; rfl, ?_, HFR.out⟩
      exact HSO.out.congr (fun i hi => by unfold markXTo; rw [if_pos hi])

theorem markX_all (t : X) : MarkXAt t := by
  induction t with
  | no => intro w v S k hv hn hsm hk0 hk; exact mark_stxs 0 _ (fun i hi => by omega) w v S k hv hn hsm hk0 hk
  | mk op a n s set len kid ih => intro w v S k hv hn hsm hk0 hk; exact mark_stxs len kid (fun i _ => ih i) w v S k hv hn hsm hk0 hk
end Go.Proofs.Ytoifhaakieigcaa
