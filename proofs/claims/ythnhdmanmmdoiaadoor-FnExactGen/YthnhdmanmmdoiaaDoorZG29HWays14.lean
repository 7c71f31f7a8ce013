/- (*funGen).lead: where a place leads. Condition: at most 2^30 places. -/
import Derived.Test.YthnhdmanmmdoiaaDoorZG27HPut14
import Derived.Test.YthnhdmanmmdoiaaDoorZG28HLet14
namespace Go.Proofs.YthnhdmanmmdoiaaDoor
open Go.ChangeShapes Go.WideShapes Go.ChangeAt Go.RowKit

/-- Where a place leads is told. -/
def leadO (q : O3) (z : Int) : O3 := if q.c = 10 ∨ q.c = 11 then ⟨q.c, q.n, z⟩ else ⟨q.c, z, q.m⟩

set_option maxRecDepth 100000 in
set_option maxHeartbeats 4000000 in
theorem impl_lead14 (B Q : Nat) (v sv : Value) (l : List O3) (sl : List Int) (w : World) (h : HSt B Q v sv l sl w) (hl : l.length ≤ 1073741824) (a : Nat) (q : O3) (ha : l[a]? = some q) (z : Int) :
    Calls Tryd.prog 57 #[.pointer (some ⟨Q, 0, none⟩), .int .i64 a, .int .i64 z] w (HPost B Q v sv (l.set a (leadO q z)) sl w) := by
  have hal := (List.getElem?_eq_some_iff.1 ha).1
  obtain ⟨g, cp, ev, hgQ, hown, hfz, hcl⟩ := h.some_row (by omega)
  obtain ⟨k0, -, kf, -⟩ := h.cell
  have c0 : w.cell? ⟨g, a * 3, none⟩ = some (.int .i64 q.c) := by
    have h0 := hcl (a * 3) (by omega)
    have := orows_at l [] a q ha 0 (by omega)
    rw [Nat.add_zero, List.append_nil] at this
    rw [h0, this]; rfl
  have c1 : w.cell? ⟨g, a * 3 + 1, none⟩ = some (.int .i64 q.n) := by
    have h0 := hcl (a * 3 + 1) (by omega)
    have := orows_at l [] a q ha 1 (by omega)
    rw [List.append_nil] at this
    rw [h0, this]; rfl
  have c2 : w.cell? ⟨g, a * 3 + 2, none⟩ = some (.int .i64 q.m) := by
    have h0 := hcl (a * 3 + 2) (by omega)
    have := orows_at l [] a q ha 2 (by omega)
    rw [List.append_nil] at this
    rw [h0, this]; rfl
  have HE1 : Hid (¬ (q.c = 10 ∨ q.c = 11) → HPost B Q v sv (l.set a (leadO q z)) sl w (.returned (.tuple #[])) (w.setCell ⟨g, a * 3 + 1, none⟩ (.int .i64 z))) := fun hn => by
    have e : leadO q z = ⟨q.c, z, q.m⟩ := by unfold leadO; rw [if_neg hn]
    rw [e]
    obtain ⟨s, k⟩ := h.stored (j := a * 3 + 1) (u := .int .i64 z) (l' := l.set a ⟨q.c, z, q.m⟩) (by simp) (orows_set l a 1 _ _ hal (by omega) (fun p hp => by rw [ha] at hp; injection hp with hp; subst hp; rfl)) hown
    exact ⟨rfl, _, _, s, k⟩
  have HE2 : Hid ((q.c = 10 ∨ q.c = 11) → HPost B Q v sv (l.set a (leadO q z)) sl w (.returned (.tuple #[])) (w.setCell ⟨g, a * 3 + 2, none⟩ (.int .i64 z))) := fun hn => by
    have e : leadO q z = ⟨q.c, q.n, z⟩ := by unfold leadO; rw [if_pos hn]
    rw [e]
    obtain ⟨s, k⟩ := h.stored (j := a * 3 + 2) (u := .int .i64 z) (l' := l.set a ⟨q.c, q.n, z⟩) (by simp) (orows_set l a 2 _ _ hal (by omega) (fun p hp => by rw [ha] at hp; injection hp with hp; subst hp; rfl)) hown
    exact ⟨rfl, _, _, s, k⟩
  clear h hcl hown ha
  obtain ⟨POST, hP⟩ : ∃ POST, POST = HPost B Q v sv (l.set a (leadO q z)) sl w := ⟨_, rfl⟩
  rw [← hP] at HE1 HE2 ⊢
  clear hP
  subst ev
  generalize q.n = qn at *
  generalize q.m = qm at *
  by_cases h10 : q.c = 10
  · have HD : Hid (POST (.returned (.tuple #[])) (w.setCell ⟨g, a * 3 + 2, none⟩ (.int .i64 z))) := HE2.out (.inl h10)
    rw [h10] at c0
    clear h10 HE1 HE2
    go_enter Tryd.func57, Tryd.ntmps57
    go_wp2_with fail
    first
      | (go_end0; exact HD.out)
      | (refine bodyPost_ret (results_none rfl _ _ _) rfl ?_; exact HD.out)
  by_cases h11 : q.c = 11
  · have HD : Hid (POST (.returned (.tuple #[])) (w.setCell ⟨g, a * 3 + 2, none⟩ (.int .i64 z))) := HE2.out (.inr h11)
    rw [h11] at c0
    clear h10 h11 HE1 HE2
    go_enter Tryd.func57, Tryd.ntmps57
    go_wp2_with fail
    first
      | (go_end0; exact HD.out)
      | (refine bodyPost_ret (results_none rfl _ _ _) rfl ?_; exact HD.out)
  · have HD : Hid (POST (.returned (.tuple #[])) (w.setCell ⟨g, a * 3 + 1, none⟩ (.int .i64 z))) := HE1.out (fun h => by rcases h with h | h <;> contradiction)
    have e1 : (q.c == 10) = false := by simpa using h10
    have e2 : (q.c == 11) = false := by simpa using h11
    clear h10 h11 HE1 HE2
    go_enter Tryd.func57, Tryd.ntmps57
    go_wp2_with fail
    first
      | (go_end0; exact HD.out)
      | (refine bodyPost_ret (results_none rfl _ _ _) rfl ?_; exact HD.out)
end Go.Proofs.YthnhdmanmmdoiaaDoor

/- (*funGen).ways at a node of two ways that is right: the places that are put. Conditions: those of the contract of its kids. -/
namespace Go.Proofs.YthnhdmanmmdoiaaDoor
open Go.ChangeShapes Go.WideShapes Go.ChangeAt Go.RowKit

theorem lead_head {op n : Int} {sl : List Int} {s : Nat} (h : op = 8 ∨ op = 17 ∨ op = 18) (h0 : op = 8 → n = 0) : leadO (headG op n sl 3) s = testG op n s := by
  rcases h with rfl | rfl | rfl
  · rw [h0 rfl]; rfl
  · rfl
  · rfl
theorem lead_jump (s : Int) : leadO ⟨19, 0, 0⟩ s = ⟨19, s, 0⟩ := rfl
/-- The lists of places as they come to be. -/
theorem ways_lists (l A Bk C : List O3) (q T j j2 : O3) :
    (l ++ A ++ [q] ++ Bk ++ [j]).set (l ++ A).length T = l ++ A ++ [T] ++ Bk ++ [j] ∧ (l ++ A ++ [T] ++ Bk ++ [j] ++ C).set (l ++ A ++ [q] ++ Bk).length j2 = l ++ (A ++ [T] ++ Bk ++ [j2] ++ C) := by
  refine ⟨?_, ?_⟩
  · simp
  · have := set_mid (l ++ A ++ [T] ++ Bk) C j j2 (l ++ A ++ [q] ++ Bk).length (by simp)
    rw [this]
    simp

set_option maxRecDepth 100000 in
set_option maxHeartbeats 8000000 in
theorem impl_ways14 (op n : Int) (kid : Nat → It) (ih : ∀ i, HrAt14 (kid i)) (h2 : twoB op = true) : HrOf 50 (.mk op n 3 kid) := by
  intro w0 w Q v sv l xv sl d nb kb at_ hx hin htab hr hl hd hsl
  have hc : (It.mk op n 3 kid).count = 1 + ((kid 0).count + (kid 1).count + (kid 2).count) := by rw [It.count_eq]; exact congrArg (1 + ·) (sum3 _)
  obtain ⟨-, -, hrk, hnum⟩ := right_node hr
  have h2' : op = 8 ∨ op = 17 ∨ op = 18 := by unfold twoB at h2; simpa using h2
  have hn0 : op = 8 → n = 0 := fun e => num_none (op := op) hnum (.inr (.inr (.inl e)))
  have hbit : ∀ i, bitI op i = 0 := fun i => by unfold bitI; rw [if_neg]; rintro ⟨h, _⟩; omega
  have hrk' : ∀ i, i < 3 → rightI nb kb at_ (kid i) sl.length = true := fun i hi => by have := hrk i hi; simpa [It.op, It.kid, hbit] using this
  have g0 := genI_len (kid 0) sl d l.length _ (hrk' 0 (by omega))
  obtain ⟨px, cx, ex, -, hat⟩ := hx.sl.at
  obtain ⟨b, o, u0, ep, hd0, hi0⟩ := hat 0 (by show 0 < 3; omega)
  obtain ⟨b1, o1, u1, ep1, hd1, hi1⟩ := hat 1 (by show 1 < 3; omega)
  obtain ⟨b2, o2, u2, ep2, hd2, hi2⟩ := hat 2 (by show 2 < 3; omega)
  rw [ep] at ep1 ep2
  injection ep1 with ep1
  injection ep1 with eb1 eo1 _
  injection ep2 with ep2
  injection ep2 with eb2 eo2 _
  subst ep eb1 eo1 eb2 eo2
  obtain ⟨pu0, cu0, eu0⟩ := hi0.sl.shape
  obtain ⟨pu1, cu1, eu1⟩ := hi1.sl.shape
  obtain ⟨pu2, cu2, eu2⟩ := hi2.sl.shape
  rw [genI_two (t := .mk op n 3 kid) h2]
  simp only [It.kid, It.op, It.n]
  have hbg := HBeg.begin op n xv hin
  obtain ⟨W, hW⟩ : ∃ W, W = w.alloc (.cells #[.int .i64 op, .int .i64 n, xv] 48) := ⟨_, rfl⟩
  obtain ⟨N, hN⟩ : ∃ N, N = w.heap.size := ⟨_, rfl⟩
  rw [← hW, ← hN] at hbg
  have HBG : Hid (HBeg w0 w W Q N v sv l sl op n xv) := hbg
  have HWW : Hid (W = w.alloc (.cells #[.int .i64 op, .int .i64 n, xv] 48) ∧ N = w.heap.size) := ⟨hW, hN⟩
  have HI0 : Hid ((kid 0).In w0 u0 ∧ ((kid 1).In w0 u1 ∧ HeadI w0 b (o + 1 * 3) (kid 1) u1) ∧ (kid 2).In w0 u2 ∧ HeadI w0 b (o + 2 * 3) (kid 2) u2) := ⟨hi0, ⟨hi1, hd1⟩, hi2, hd2⟩
  have HRR : Hid (∀ i, i < 3 → rightI nb kb at_ (kid i) sl.length = true) := hrk'
  have HIH : Hid (∀ i, HrAt14 (kid i)) := ih
  have HTB : Hid (CodeTab w0) := htab
  have ex' : xv = .slice (some ⟨b, o, none⟩) 3 cx := ex
  obtain ⟨c0, c1, c2⟩ := HBG.out.cells (HK.refl Q v sv W)
  obtain ⟨d0, d1, d2⟩ := hd0.below HBG.out.inn.bel
  have HNU : Hid (∀ i, i < 3 → d + (kid i).count ≤ 1073741824 ∧ sl.length + (kid i).count ≤ 1073741824) := by
    intro i hi
    rw [hc] at hd hsl
    match i, hi with
    | 0, _ => exact ⟨by omega, by omega⟩
    | 1, _ => exact ⟨by omega, by omega⟩
    | 2, _ => exact ⟨by omega, by omega⟩
  have hop : 1 ≤ op ∧ op ≤ 19 := by omega
  have hop2 : op ≠ 2 := by omega
  have HLH : Hid (∀ s : Nat, leadO (headG op n sl 3) s = testG op n s) := fun s => lead_head h2' hn0
  rw [hc] at hl
  clear hW hN hbg hin hx hat hd0 hi0 hd1 hi1 hd2 hi2 hr hrk hrk' hnum hbit ih ex hd hsl hc htab h2 h2' hn0
  simp only [Nat.zero_mul, Nat.add_zero] at d0 d1 d2
  subst eu0 eu1 eu2 ex'
  obtain ⟨A, hA⟩ : ∃ A, A = genI (kid 0) sl d l.length := ⟨_, rfl⟩
  rw [← hA] at g0 ⊢
  have HAA : Hid (A = genI (kid 0) sl d l.length) := hA
  clear hA
  obtain ⟨s1, hs1⟩ : ∃ s1, s1 = l.length + A.length + 1 := ⟨_, rfl⟩
  rw [← hs1]
  have g1 := genI_len (kid 1) sl d s1 _ (HRR.out 1 (by omega))
  obtain ⟨Bk, hBk⟩ : ∃ Bk, Bk = genI (kid 1) sl d s1 := ⟨_, rfl⟩
  rw [← hBk] at g1 ⊢
  have HBB : Hid (Bk = genI (kid 1) sl d s1) := hBk
  obtain ⟨s2, hs2⟩ : ∃ s2, s2 = s1 + Bk.length + 1 := ⟨_, rfl⟩
  rw [← hs2]
  have g2 := genI_len (kid 2) sl d s2 _ (HRR.out 2 (by omega))
  obtain ⟨C, hC⟩ : ∃ C, C = genI (kid 2) sl d s2 := ⟨_, rfl⟩
  rw [← hC] at g2 ⊢
  have HCC : Hid (C = genI (kid 2) sl d s2) := hC
  obtain ⟨FIN, hFIN⟩ : ∃ FIN, FIN = l ++ (A ++ [testG op n s2] ++ Bk ++ [⟨19, (s2 + C.length : Nat), 0⟩] ++ C) := ⟨_, rfl⟩
  rw [← hFIN]
  have HFIN : Hid (FIN = l ++ (A ++ [testG op n s2] ++ Bk ++ [⟨19, (s2 + C.length : Nat), 0⟩] ++ C)) := hFIN
  have HLEN : Hid ((l ++ A).length = l.length + A.length ∧ (∀ q : O3, (l ++ A ++ [q]).length = s1) ∧ (∀ q : O3, (l ++ A ++ [q] ++ Bk).length = s1 + Bk.length) ∧ (∀ q j : O3, (l ++ A ++ [q] ++ Bk ++ [j]).length = s2) ∧ (∀ q j : O3, (l ++ A ++ [q] ++ Bk ++ [j] ++ C).length = s2 + C.length)) := by
    refine ⟨by simp, fun q => ?_, fun q => ?_, fun q j => ?_, fun q j => ?_⟩ <;> simp only [List.length_append, List.length_cons, List.length_nil] <;> omega
  have HNN : Hid (l.length + A.length ≤ 1073741824 ∧ s1 + 2 * (kid 1).count ≤ 1073741824 ∧ s1 + Bk.length ≤ 1073741824 ∧ s2 + 2 * (kid 2).count ≤ 1073741824 ∧ s2 + C.length ≤ 1073741824 ∧ l.length + 2 * (kid 0).count ≤ 1073741824) := by
    refine ⟨?_, ?_, ?_, ?_, ?_, ?_⟩ <;> omega
  have HSS : Hid (s1 = l.length + A.length + 1 ∧ s2 = s1 + Bk.length + 1) := ⟨hs1, hs2⟩
  clear hFIN hC hBk hs1 hs2 g0 g1 g2 hl
  go_enter Tryd.func50, Tryd.ntmps50
  go_upto_region 1 with fail
  rw [← HWW.out.1, ← HWW.out.2]
  go_wp2_with fail
  refine (HIH.out 0 w0 W Q v sv l _ sl d nb kb at_ HI0.out.1 HBG.out.inn HTB.out (HRR.out 0 (by omega)) HNN.out.2.2.2.2.2 (HNU.out 0 (by omega)).1 (HNU.out 0 (by omega)).2).mono ?_
  rintro e w1 ⟨rfl, v1, sv1, hs1, hg1⟩
  rw [← HAA.out] at hs1
  have HI1 : Hid (HIn w0 w1 Q v1 sv1 (l ++ A) sl) := HBG.out.inn.keep hs1 hg1
  have HG1 : Hid (HK Q v sv W v1 sv1 w1) := hg1
  clear hs1 hg1 c0 c1 c2 d0 d1 d2
  obtain ⟨c0, c1, c2⟩ := HBG.out.cells HG1.out
  go_wp2_with fail
  refine (impl_head14 w0.heap.size Q v1 _ _ sl w1 HI1.out.st (HTB.out.below HI1.out.bel) op n 3 _ cx hop (fun e => absurd e hop2)).mono ?_
  rintro e w2 ⟨rfl, hb2⟩
  have HI2 : Hid (HIn w0 w2 Q v1 sv1 (l ++ A) sl) := HI1.out.below hb2
  have HG2 : Hid (HK Q v sv W v1 sv1 w2) := HG1.out.trans (HK.of_below hb2)
  clear hb2 c0 c1 c2
  obtain ⟨q, hq⟩ : ∃ q, q = headG op n sl 3 := ⟨_, rfl⟩
  have HQ : Hid (∀ s : Nat, leadO q s = testG op n s) := by rw [hq]; exact HLH.out
  rw [← hq]
  clear hq HLH
  have HPU : Hid (Calls Tryd.prog 36 #[.pointer (some ⟨Q, 0, none⟩), .slice (some ⟨w2.heap.size, 0, none⟩) 1 1] (w2.alloc (.cells #[.int .i64 q.c, .int .i64 q.n, .int .i64 q.m] 68)) (fun e w' => e = .returned (.int .i64 (l.length + A.length : Nat)) ∧ ∃ v', HSt w0.heap.size Q v' sv1 (l ++ A ++ [q]) sl w' ∧ HK Q v1 sv1 w2 v' sv1 w')) := by
    have := put_new14 w0.heap.size Q v1 sv1 (l ++ A) sl q w2 HI2.out.st (by rw [HLEN.out.1]; exact HNN.out.1)
    unfold HPut at this
    rw [HLEN.out.1] at this
    exact this
  have HKID : Hid (∀ i (hi : i < 3) w' v' sv' (L : List O3) (s : Nat) (D : List O3) pu cu, (kid i).In w0 (.slice pu (kid i).len cu) → HIn w0 w' Q v' sv' L sl → L.length = s → D = genI (kid i) sl d s → s + 2 * (kid i).count ≤ 1073741824 →
      Calls Tryd.prog 35 #[.pointer (some ⟨Q, 0, none⟩), .agg #[.int .i64 (kid i).op, .int .i64 (kid i).n, .slice pu (kid i).len cu], .int .i64 d] w' (HPost w0.heap.size Q v' sv' (L ++ D) sl w')) := fun i hi w' v' sv' L s D pu cu hu hI hs hD hc => by
    subst hs
    rw [hD]
    exact HIH.out i w0 w' Q v' sv' L _ sl d nb kb at_ hu hI HTB.out (HRR.out i hi) hc (HNU.out i hi).1 (HNU.out i hi).2
  generalize hx0 : q.c = x0 at *
  generalize hx1 : q.n = x1 at *
  generalize hx2 : q.m = x2 at *
  clear hx0 hx1 hx2
  go_wp2_with fail
  refine HPU.out.mono ?_
  rintro e w3 ⟨rfl, v3, hs3, hk3⟩
  have HI3 : Hid (HIn w0 w3 Q v3 sv1 (l ++ A ++ [q]) sl) := HI2.out.keep hs3 hk3
  have HG3 : Hid (HK Q v sv W v3 sv1 w3) := HG2.out.trans hk3
  clear hs3 hk3 HPU
  obtain ⟨c0, c1, c2⟩ := HBG.out.cells HG3.out
  obtain ⟨d0, d1, d2⟩ := HI0.out.2.1.2.below HI3.out.bel
  simp only [Nat.one_mul] at d0 d1 d2
  have HC1 := HKID.out 1 (by omega) w3 v3 sv1 (l ++ A ++ [q]) s1 Bk pu1 cu1 HI0.out.2.1.1 HI3.out (HLEN.out.2.1 q) HBB.out HNN.out.2.1
  have HC1 : Hid (Calls Tryd.prog 35 #[.pointer (some ⟨Q, 0, none⟩), .agg #[.int .i64 (kid 1).op, .int .i64 (kid 1).n, .slice pu1 (kid 1).len cu1], .int .i64 d] w3 (HPost w0.heap.size Q v3 sv1 (l ++ A ++ [q] ++ Bk) sl w3)) := HC1
  go_wp2_with fail
  refine HC1.out.mono ?_
  rintro e w4 ⟨rfl, v4, sv4, hs4, hk4⟩
  have HI4 : Hid (HIn w0 w4 Q v4 sv4 (l ++ A ++ [q] ++ Bk) sl) := HI3.out.keep hs4 hk4
  have HG4 : Hid (HK Q v sv W v4 sv4 w4) := HG3.out.trans hk4
  clear hs4 hk4 HC1 c0 c1 c2 d0 d1 d2
  have HPJ : Hid (Calls Tryd.prog 36 #[.pointer (some ⟨Q, 0, none⟩), .slice (some ⟨w4.heap.size, 0, none⟩) 1 1] (w4.alloc (.cells #[.int .i64 19, .int .i64 0, .int .i64 0] 68)) (fun e w' => e = .returned (.int .i64 (s1 + Bk.length : Nat)) ∧ ∃ v', HSt w0.heap.size Q v' sv4 (l ++ A ++ [q] ++ Bk ++ [⟨19, 0, 0⟩]) sl w' ∧ HK Q v4 sv4 w4 v' sv4 w')) := by
    have := put_new14 w0.heap.size Q v4 sv4 (l ++ A ++ [q] ++ Bk) sl ⟨19, 0, 0⟩ w4 HI4.out.st (by rw [HLEN.out.2.2.1 q]; exact HNN.out.2.2.1)
    unfold HPut at this
    rw [HLEN.out.2.2.1 q] at this
    exact this
  go_wp2_with fail
  refine HPJ.out.mono ?_
  rintro e w5 ⟨rfl, v5, hs5, hk5⟩
  have HI5 : Hid (HIn w0 w5 Q v5 sv4 (l ++ A ++ [q] ++ Bk ++ [⟨19, 0, 0⟩]) sl) := HI4.out.keep hs5 hk5
  have HG5 : Hid (HK Q v sv W v5 sv4 w5) := HG4.out.trans hk5
  clear hs5 hk5 HPJ
  obtain ⟨p5, cp5, ev5⟩ := HI5.out.st.row_shape
  rw [HLEN.out.2.2.2.1 q] at ev5
  have k5 := HI5.out.st.cell.1
  subst ev5
  have HLD : Hid (Calls Tryd.prog 57 #[.pointer (some ⟨Q, 0, none⟩), .int .i64 ((l.length + A.length : Nat) : Int), .int .i64 (s2 : Nat)] w5 (HPost w0.heap.size Q (.slice p5 s2 cp5) sv4 (l ++ A ++ [testG op n s2] ++ Bk ++ [⟨19, 0, 0⟩]) sl w5)) := by
    have := impl_lead14 w0.heap.size Q _ sv4 _ sl w5 HI5.out.st (by rw [HLEN.out.2.2.2.1 q]; have := HNN.out.2.2.2.1; omega) (l ++ A).length q (by simp) (s2 : Nat)
    rw [HQ.out s2, (ways_lists l A Bk C q (testG op n s2) ⟨19, 0, 0⟩ ⟨19, 0, 0⟩).1, HLEN.out.1] at this
    exact this
  go_wp2_with fail
  refine HLD.out.mono ?_
  rintro e w6 ⟨rfl, v6, sv6, hs6, hk6⟩
  have HI6 : Hid (HIn w0 w6 Q v6 sv6 (l ++ A ++ [testG op n s2] ++ Bk ++ [⟨19, 0, 0⟩]) sl) := HI5.out.keep hs6 hk6
  have HG6 : Hid (HK Q v sv W v6 sv6 w6) := HG5.out.trans hk6
  clear hs6 hk6 HLD k5
  obtain ⟨c0, c1, c2⟩ := HBG.out.cells HG6.out
  obtain ⟨d0, d1, d2⟩ := HI0.out.2.2.2.below HI6.out.bel
  have HC2 : Hid (Calls Tryd.prog 35 #[.pointer (some ⟨Q, 0, none⟩), .agg #[.int .i64 (kid 2).op, .int .i64 (kid 2).n, .slice pu2 (kid 2).len cu2], .int .i64 d] w6 (HPost w0.heap.size Q v6 sv6 (l ++ A ++ [testG op n s2] ++ Bk ++ [⟨19, 0, 0⟩] ++ C) sl w6)) :=
    HKID.out 2 (by omega) w6 v6 sv6 _ s2 C pu2 cu2 HI0.out.2.2.1 HI6.out (HLEN.out.2.2.2.1 _ _) HCC.out HNN.out.2.2.2.1
  go_wp2_with fail
  refine HC2.out.mono ?_
  rintro e w7 ⟨rfl, v7, sv7, hs7, hk7⟩
  have HI7 : Hid (HIn w0 w7 Q v7 sv7 (l ++ A ++ [testG op n s2] ++ Bk ++ [⟨19, 0, 0⟩] ++ C) sl) := HI6.out.keep hs7 hk7
  have HG7 : Hid (HK Q v sv W v7 sv7 w7) := HG6.out.trans hk7
  clear hs7 hk7 HC2 c0 c1 c2 d0 d1 d2
  obtain ⟨p7, cp7, ev7⟩ := HI7.out.st.row_shape
  rw [HLEN.out.2.2.2.2] at ev7
  have k7 := HI7.out.st.cell.1
  subst ev7
  have HLD : Hid (Calls Tryd.prog 57 #[.pointer (some ⟨Q, 0, none⟩), .int .i64 ((s1 + Bk.length : Nat) : Int), .int .i64 ((s2 + C.length : Nat) : Int)] w7 (HPost w0.heap.size Q v sv FIN sl w)) := by
    have := impl_lead14 w0.heap.size Q _ sv7 _ sl w7 HI7.out.st (by rw [HLEN.out.2.2.2.2]; have := HNN.out.2.2.2.2.1; omega) (l ++ A ++ [testG op n s2] ++ Bk).length ⟨19, 0, 0⟩ (by simp) ((s2 + C.length : Nat) : Int)
    rw [lead_jump, (ways_lists l A Bk C (testG op n s2) (testG op n s2) ⟨19, 0, 0⟩ ⟨19, ((s2 + C.length : Nat) : Int), 0⟩).2, HLEN.out.2.2.1, ← HFIN.out] at this
    exact this.mono fun e w' ⟨he, v', sv', hs, hk⟩ => ⟨he, v', sv', hs, HBG.out.gk.trans (HG7.out.trans hk)⟩
  go_wp2_with fail
  refine HLD.out.mono ?_
  rintro e w8 ⟨rfl, hp8⟩
  have HP : Hid (HPost w0.heap.size Q v sv FIN sl w (.returned (.tuple #[])) w8) := ⟨rfl, hp8⟩
  clear hp8
  go_wp2_with fail
  first
    | (go_end0; exact HP.out)
    | (refine bodyPost_ret (results_none rfl _ _ _) rfl ?_; exact HP.out)
end Go.Proofs.YthnhdmanmmdoiaaDoor
