/- spec.l14Both: the two ways of a node, behind the place that tells them. Conditions: the node is right, at most 2^30 places. Written by wip/tools/mkgen14.py. -/
import Derived.Test.YthnhdmanmmdoiaaDoorZG12GenP
import Derived.Test.YthnhdmanmmdoiaaDoorZG14SpecPut14
import Derived.Deep.Cut
import Derived.Deep.RegionHeld3
import Derived.WalkKit
namespace Go.Proofs.YthnhdmanmmdoiaaDoor
open Go.ChangeShapes Go.WideShapes Go.ChangeAt Go.RowKit

/-- Where the other way begins is told. -/
def updO (z : Bool) (q : O3) (s : Nat) : O3 := if z = true then ⟨q.c, s, q.m⟩ else ⟨q.c, q.n, s⟩
theorem orows_set (l : List O3) : ∀ (a j : Nat) (u : Value) (q : O3), a < l.length → j < 3 → (∀ p, l[a]? = some p → (ocells p).set j u = ocells q) → (orows l).set (a * 3 + j) u = orows (l.set a q) := by
  induction l with
  | nil => intro a j u q ha; exact absurd ha (Nat.not_lt_zero _)
  | cons x r ih =>
    intro a j u q ha hj hq
    have e : orows (x :: r) = ocells x ++ orows r := by simp [orows]
    have hx : (ocells x).length = 3 := rfl
    cases a with
    | zero =>
      have h1 := hq x (by simp)
      rw [e, Nat.zero_mul, Nat.zero_add, List.set_append_left _ _ (by omega), h1]
      simp [orows]
    | succ a =>
      have h1 := ih a j u q (by simp at ha; omega) hj (fun p hp => hq p (by simpa using hp))
      rw [e, List.set_append_right _ _ (by omega), hx, show (a + 1) * 3 + j - 3 = a * 3 + j by omega, h1]
      simp [orows]

theorem set_mid (A C : List O3) (y q : O3) (J : Nat) (hJ : J = A.length) : (A ++ [y] ++ C).set J q = A ++ [q] ++ C := by
  subst hJ
  rw [List.append_assoc, List.set_append_right _ _ (Nat.le_refl _), Nat.sub_self]
  simp
/-- What l14Ir does. -/
def IrPost (B Q : Nat) (v : Value) (l : List O3) (w : World) (e : Ending) (w' : World) : Prop := e = .returned (.tuple #[]) ∧ ∃ v', GSt 44 B Q v' l w' ∧ GK Q v w v' w'
/-- How a body may come. -/
structure IrIn (w0 w : World) (Q : Nat) (v : Value) (l : List O3) (sl : List Int) (F cap : Nat) : Prop where
  bel : Below w0.heap.size w0 w
  st : GSt 44 w0.heap.size Q v l w
  row : SlAt w F sl
  fr : Free Q v w F
  sm : sl.length ≤ cap ∧ cap ≤ maxLen
theorem IrIn.keep {w0 w w' : World} {Q : Nat} {v v' : Value} {l l' : List O3} {sl : List Int} {F cap : Nat} (h : IrIn w0 w Q v l sl F cap) (hs : GSt 44 w0.heap.size Q v' l' w') (k : GK Q v w v' w') : IrIn w0 w' Q v' l' sl F cap :=
  ⟨k.old h.st h.bel, hs, h.row.keep h.fr k, h.fr.keep k, h.sm⟩
theorem IrIn.below {w0 w w' : World} {Q : Nat} {v : Value} {l : List O3} {sl : List Int} {F cap : Nat} (h : IrIn w0 w Q v l sl F cap) (hb : Below w.heap.size w w') : IrIn w0 w' Q v l sl F cap := h.keep (h.st.below hb) (GK.of_below hb)
def IrAt14 (t : It) : Prop := ∀ (w0 w : World) (Q : Nat) (v : Value) (l : List O3) (xv : Value) (sl : List Int) (F cap d nb : Nat) (kb : Nat → Kb) (at_ : Nat), t.In w0 xv → IrIn w0 w Q v l sl F cap → rightI nb kb at_ t sl.length = true →
  l.length + 2 * t.count ≤ 1073741824 → d + t.count ≤ 1073741824 → sl.length + t.count ≤ 1073741824 →
  Calls Tryd.prog 15 #[.pointer (some ⟨Q, 0, none⟩), .agg #[.int .i64 t.op, .int .i64 t.n, xv], .slice (some ⟨F, 0, none⟩) sl.length cap, .int .i64 d] w (IrPost w0.heap.size Q v (l ++ genI t sl d l.length) w)

theorem not_empty {ty : TypeId} {B Q : Nat} {v : Value} {l : List O3} {w : World} (h : GSt ty B Q v l w) (hl : 0 < l.length) : ∃ g c, v = .slice (some ⟨g, 0, none⟩) l.length c ∧ g ≠ Q ∧ v.ownBlock = some g ∧ (∀ j, w.frozen? ⟨g, j, none⟩ = false) ∧ ∀ j, j < l.length * 3 → ∃ u, w.cell? ⟨g, j, none⟩ = some u := by
  rcases h.row.2 with ⟨e, h0⟩ | ⟨g, cap, cur, e, _⟩
  · omega
  · subst e
    refine ⟨g, cap, rfl, fun e => h.ne (by rw [e]; rfl), rfl, fun j => h.row.frozenAt j, fun j hj => ?_⟩
    have hlen : j < (orows l).length := by rw [orows_length]; exact hj
    exact ⟨_, (h.row.cellAt j (by omega)).trans (List.getElem?_eq_getElem hlen)⟩

set_option maxRecDepth 100000 in
set_option maxHeartbeats 8000000 in
theorem spec_both14 (t : It) (hk1 : IrAt14 (t.kid 1)) (hk2 : IrAt14 (t.kid 2)) (h2 : twoB t.op = true) (w0 w : World) (Q : Nat) (v : Value) (l : List O3) (xv : Value) (sl : List Int) (F cap d nb : Nat) (kb : Nat → Kb) (at_ : Nat)
    (hx : t.In w0 xv) (hin : IrIn w0 w Q v l sl F cap) (hr : rightI nb kb at_ t sl.length = true) (hl : l.length + 2 * (t.kid 1).count + 2 * (t.kid 2).count + 1 ≤ 1073741824) (hd : d + t.count ≤ 1073741824) (hsl : sl.length + t.count ≤ 1073741824) (a : Nat) (ha : a < l.length) (z : Bool) :
    Calls Tryd.prog 31 #[.pointer (some ⟨Q, 0, none⟩), .int .i64 a, .bool z, .agg #[.int .i64 t.op, .int .i64 t.n, xv], .slice (some ⟨F, 0, none⟩) sl.length cap, .int .i64 d] w
      (IrPost w0.heap.size Q v (l.set a (updO z (l.getD a default) (l.length + (genI (t.kid 1) sl d l.length).length + 1)) ++ genI (t.kid 1) sl d l.length ++ [⟨19, (l.length + (genI (t.kid 1) sl d l.length).length + 1 + (genI (t.kid 2) sl d (l.length + (genI (t.kid 1) sl d l.length).length + 1)).length : Nat), 0⟩] ++ genI (t.kid 2) sl d (l.length + (genI (t.kid 1) sl d l.length).length + 1)) w) := by
  have h3 := right_two hr h2
  obtain ⟨-, -, hrk, -⟩ := right_node hr
  have hbit : ∀ i, bitI t.op i = 0 := fun i => by
    unfold bitI
    rw [if_neg]
    rintro ⟨e, _⟩
    rw [e] at h2
    simp [twoB] at h2
  have hr1 := hrk 1 (by omega)
  have hr2 := hrk 2 (by omega)
  rw [hbit, Nat.add_zero] at hr1 hr2
  have hc : t.count = 1 + ((t.kid 0).count + (t.kid 1).count + (t.kid 2).count) := by rw [It.count_eq, h3, sum3]
  have g1 := genI_len (t.kid 1) sl d l.length _ hr1
  have g2 := genI_len (t.kid 2) sl d (l.length + (genI (t.kid 1) sl d l.length).length + 1) _ hr2
  have hx1 := hx.sl
  rw [h3] at hx1
  obtain ⟨px, cx, ex, -, hat⟩ := hx1.at
  obtain ⟨b, o, u1, ep, hd1, hi1⟩ := hat 1 (by omega)
  obtain ⟨b2, o2, u2, ep2, hd2, hi2⟩ := hat 2 (by omega)
  rw [ep] at ep2
  injection ep2 with ep2
  injection ep2 with eb eo _
  subst ex ep eb eo
  obtain ⟨pu1, cu1, eu1⟩ := hi1.sl.shape
  obtain ⟨pu2, cu2, eu2⟩ := hi2.sl.shape
  have HK1 : Hid (IrAt14 (t.kid 1)) := hk1
  have HK2 : Hid (IrAt14 (t.kid 2)) := hk2
  have HR : Hid (rightI nb kb at_ (t.kid 1) sl.length = true ∧ rightI nb kb at_ (t.kid 2) sl.length = true) := ⟨hr1, hr2⟩
  have HI : Hid ((t.kid 1).In w0 u1 ∧ (t.kid 2).In w0 u2) := ⟨hi1, hi2⟩
  have HD : Hid (HeadI w0 b (o + 1 * 3) (t.kid 1) u1 ∧ HeadI w0 b (o + 2 * 3) (t.kid 2) u2) := ⟨hd1, hd2⟩
  have HNU : Hid (d + (t.kid 1).count ≤ 1073741824 ∧ d + (t.kid 2).count ≤ 1073741824 ∧ sl.length + (t.kid 1).count ≤ 1073741824 ∧ sl.length + (t.kid 2).count ≤ 1073741824) := by
    refine ⟨?_, ?_, ?_, ?_⟩ <;> omega
  clear hk1 hk2 hr hrk hr1 hr2 hx hx1 hat hd1 hd2 hi1 hi2 hbit h2 hd hsl hc
  obtain ⟨W, hW⟩ : ∃ W, W = w.alloc (.cells #[.int .i64 t.op, .int .i64 t.n, .slice (some ⟨b, o, none⟩) 3 cx] 48) := ⟨_, rfl⟩
  obtain ⟨N, hN⟩ : ∃ N, N = w.heap.size := ⟨_, rfl⟩
  have bW : Below w.heap.size w W := by rw [hW]; exact newb w _
  have hbx : W.heap[N]? = some (.cells #[.int .i64 t.op, .int .i64 t.n, .slice (some ⟨b, o, none⟩) 3 cx] 48 (0, 0)) := by rw [hW, hN]; exact heap_alloc_new w _
  have HIN : Hid (IrIn w0 W Q v l sl F cap) := hin.below bW
  have HK0 : Hid (GK Q v w v W) := GK.of_below bW
  have q2 : W.cell? ⟨N, 2, none⟩ = some (.slice (some ⟨b, o, none⟩) 3 cx) := cell_of_row W N 2 _ _ _ hbx
  have HFN : Hid (Free Q v W N) := ⟨(Array.getElem?_eq_some_iff.1 hbx).1, by have := hin.st.lt; omega, fun e => by have := (hin.st.own_ge e).2; omega⟩
  have HQ2 : Hid (∀ v' w', GK Q v W v' w' → w'.cell? ⟨N, 2, none⟩ = some (.slice (some ⟨b, o, none⟩) 3 cx)) := fun v' w' k => (World.cell?_of_block (w := W) (k.block N HFN.out.1 HFN.out.2.1 HFN.out.2.2)).trans q2
  have HWW : Hid (W = w.alloc (.cells #[.int .i64 t.op, .int .i64 t.n, .slice (some ⟨b, o, none⟩) 3 cx] 48) ∧ N = w.heap.size) := ⟨hW, hN⟩
  clear hW hN hbx bW hin
  obtain ⟨c0, c1, c2⟩ := HD.out.1.below HIN.out.bel
  obtain ⟨BB, hB⟩ : ∃ BB, BB = genI (t.kid 1) sl d l.length := ⟨_, rfl⟩
  rw [← hB] at g1 g2 ⊢
  have HBB : Hid (BB = genI (t.kid 1) sl d l.length) := hB
  obtain ⟨CC, hC⟩ : ∃ CC, CC = genI (t.kid 2) sl d (l.length + BB.length + 1) := ⟨_, rfl⟩
  rw [← hC] at g2 ⊢
  have HCC : Hid (CC = genI (t.kid 2) sl d (l.length + BB.length + 1)) := hC
  clear hB hC
  subst eu1
  obtain ⟨q, hq0⟩ : ∃ q, l[a]? = some q := ⟨_, List.getElem?_eq_getElem ha⟩
  have HQ : Hid (l[a]? = some q) := hq0
  have hgd : l.getD a default = q := by rw [List.getD_eq_getElem?_getD, hq0]; rfl
  rw [hgd]
  clear hq0 hgd
  obtain ⟨FIN, hFIN⟩ : ∃ FIN, FIN = l.set a (updO z q (l.length + BB.length + 1)) ++ BB ++ [⟨19, (l.length + BB.length + 1 + CC.length : Nat), 0⟩] ++ CC := ⟨_, rfl⟩
  rw [← hFIN]
  have HFIN : Hid (FIN = l.set a (updO z q (l.length + BB.length + 1)) ++ BB ++ [⟨19, (l.length + BB.length + 1 + CC.length : Nat), 0⟩] ++ CC) := hFIN
  clear hFIN
  go_enter Tryd.func31, Tryd.ntmps31
  go_upto_region 1 with fail
  rw [← HWW.out.1, ← HWW.out.2]
  go_wp2_with fail
  refine (HK1.out w0 W Q v l _ sl F cap d nb kb at_ HI.out.1 HIN.out HR.out.1 (by omega) HNU.out.1 HNU.out.2.2.1).mono ?_
  rintro e w1 ⟨rfl, v1, hs1, hg1⟩
  rw [← HBB.out] at hs1
  have HI1 : Hid (IrIn w0 w1 Q v1 (l ++ BB) sl F cap) := HIN.out.keep hs1 hg1
  have HG1 : Hid (GK Q v W v1 w1) := hg1
  have hll : (l ++ BB).length ≤ 1073741824 := by rw [List.length_append]; omega
  clear hs1 hg1 c0 c1 c2 q2
  go_wp2_with fail
  refine (spec_put14 w0.heap.size Q v1 (l ++ BB) 19 0 0 w1 HI1.out.st hll).mono ?_
  rintro e w2 ⟨rfl, v2, hs2, hg2⟩
  have HI2 : Hid (IrIn w0 w2 Q v2 (l ++ BB ++ [⟨19, 0, 0⟩]) sl F cap) := HI1.out.keep hs2 hg2
  have HG2 : Hid (GK Q v W v2 w2) := HG1.out.trans hg2
  have hL2 : (l ++ BB ++ [(⟨19, 0, 0⟩ : O3)]).length = l.length + BB.length + 1 := by simp only [List.length_append, List.length_cons, List.length_nil]
  have hJ : (l ++ BB).length = l.length + BB.length := List.length_append
  obtain ⟨g, cv, ev2, hgQ, hown2, hfz, hcl⟩ := not_empty hs2 (by rw [hL2]; omega)
  rw [hL2] at ev2 hcl
  obtain ⟨J, hJJ⟩ : ∃ J, J = (l ++ BB).length := ⟨_, rfl⟩
  rw [← hJJ]
  rw [hJ] at hJJ
  have HJ : Hid (J = l.length + BB.length) := hJJ
  have HS2 : Hid (GSt 44 w0.heap.size Q v2 (l ++ BB ++ [⟨19, 0, 0⟩]) w2) := hs2
  obtain ⟨s, hs⟩ : ∃ s, s = l.length + BB.length + 1 := ⟨_, rfl⟩
  rw [← hs] at ev2 hcl hL2 HCC HFIN
  have HSS : Hid (s = l.length + BB.length + 1) := hs
  have hs30 : s ≤ 1073741824 := by omega
  have has : a < s := by omega
  have hsj : J < s := by omega
  have hsC : s + CC.length ≤ 1073741824 := by omega
  have HSC : Hid (s + 2 * (t.kid 2).count ≤ 1073741824) := by show _ ≤ _; omega
  clear hs hJJ hJ
  have kq := hs2.cell.1
  rw [ev2] at kq hown2
  rw [ev2] at HS2 HG2 HI2
  clear hs2 hg2 ev2 HG1 HI1 hll
  have hq := HQ.out
  have hq2 : (l ++ BB ++ [(⟨19, 0, 0⟩ : O3)])[a]? = some q := by rw [List.append_assoc, List.getElem?_append_left ha, hq]
  have HE1 : Hid ((orows (l ++ BB ++ [(⟨19, 0, 0⟩ : O3)])).set (a * 3 + 1) (.int .i64 (s : Nat)) = orows ((l ++ BB ++ [(⟨19, 0, 0⟩ : O3)]).set a (updO true q s))) := orows_set _ a 1 _ _ (by rw [hL2]; exact has) (by omega) (fun p hp => by rw [hq2] at hp; injection hp with hp; subst hp; rfl)
  have HE2 : Hid ((orows (l ++ BB ++ [(⟨19, 0, 0⟩ : O3)])).set (a * 3 + 2) (.int .i64 (s : Nat)) = orows ((l ++ BB ++ [(⟨19, 0, 0⟩ : O3)]).set a (updO false q s))) := orows_set _ a 2 _ _ (by rw [hL2]; exact has) (by omega) (fun p hp => by rw [hq2] at hp; injection hp with hp; subst hp; rfl)
  have HST : Hid (∀ z', (l ++ BB ++ [(⟨19, 0, 0⟩ : O3)]).set a (updO z' q s) = l.set a (updO z' q s) ++ BB ++ [⟨19, 0, 0⟩]) := fun z' => by
    rw [List.append_assoc, List.set_append_left _ _ ha, List.append_assoc]
  have HD20 : Hid (w2.drew.heap = w2.heap) := rfl
  clear hq hq2
  obtain ⟨u1', hu1'⟩ := hcl (a * 3 + 1) (by omega)
  obtain ⟨u2', hu2'⟩ := hcl (a * 3 + 2) (by omega)
  have hm2 : s ≤ 4611686018427387904 := by omega
  cases z with
  | true =>
    go_upto_region 4 with fail
    refine wp_region_held_drew (S := fun wq => wq.cell? ⟨Q, 0, none⟩ = some (.slice (some ⟨g, 0, none⟩) s cv)) (by kernel_rfl) kq (fun HS0 => ?_)
    refine wpAnyH_take (i := 0) (oi := { dst := some 24, op := Op.move (Operand.tmp 0), type := 41, pos := "l14_gen.go:20", after := #[], guard := none }) (v := (.pointer (some ⟨Q, 0, none⟩))) rfl (by kernel_rfl) (by kernel_rfl) (by kernel_rfl) (fun _ _ _ h => h) (Or.inl ⟨by rfl, ?_⟩) HS0 ?_
    · intro wq hSq
      clear hSq
      go_simp
    try simp only [Act.put, List.setIfInBounds_toArray, List.set_cons_zero, List.set_cons_succ]
    refine wpAnyH_take (i := 1) (oi := { dst := some 25, op := Op.nilCheck (Operand.tmp 24), type := 0, pos := "l14_gen.go:20", after := #[{ on := 0, ground := Ground.data }], guard := none }) (v := (.pointer (some ⟨Q, 0, none⟩))) rfl (by kernel_rfl) (by kernel_rfl) (by kernel_rfl) (fun _ _ _ h => h) (Or.inl ⟨by rfl, ?_⟩) HS0 ?_
    · intro wq hSq
      clear hSq
      go_simp
    try simp only [Act.put, List.setIfInBounds_toArray, List.set_cons_zero, List.set_cons_succ]
    refine wpAnyH_take (i := 2) (oi := { dst := some 26, op := Op.fieldAddr 44 (Operand.tmp 25) 0, type := 0, pos := "l14_gen.go:20", after := #[{ on := 1, ground := Ground.data }], guard := none }) (v := (.pointer (some ⟨Q, 0, none⟩))) rfl (by kernel_rfl) (by kernel_rfl) (by kernel_rfl) (fun _ _ _ h => h) (Or.inl ⟨by rfl, ?_⟩) HS0 ?_
    · intro wq hSq
      clear hSq
      go_simp
    try simp only [Act.put, List.setIfInBounds_toArray, List.set_cons_zero, List.set_cons_succ]
    refine wpAnyH_take (i := 3) (oi := { dst := some 27, op := Op.load 42 (Operand.tmp 26), type := 42, pos := "l14_gen.go:20", after := #[{ on := 2, ground := Ground.data }], guard := none }) (v := (.slice (some ⟨g, 0, none⟩) s cv)) rfl (by kernel_rfl) (by kernel_rfl) (by kernel_rfl) (fun _ _ _ h => h) (Or.inl ⟨by rfl, ?_⟩) HS0 ?_
    · intro wq hSq
      have cq : wq.cell? ⟨Q, 0, none⟩ = some _ := hSq
      clear hSq
      go_simp
    try simp only [Act.put, List.setIfInBounds_toArray, List.set_cons_zero, List.set_cons_succ]
    refine wpAnyH_take (i := 4) (oi := { dst := some 28, op := Op.move (Operand.tmp 1), type := 3, pos := "l14_gen.go:20", after := #[], guard := none }) (v := (.int .i64 (a : Nat))) rfl (by kernel_rfl) (by kernel_rfl) (by kernel_rfl) (fun _ _ _ h => h) (Or.inl ⟨by rfl, ?_⟩) HS0 ?_
    · intro wq hSq
      clear hSq
      go_simp
    try simp only [Act.put, List.setIfInBounds_toArray, List.set_cons_zero, List.set_cons_succ]
    refine wpAnyH_take (i := 5) (oi := { dst := some 29, op := Op.move (Operand.tmp 0), type := 41, pos := "l14_gen.go:20", after := #[], guard := none }) (v := (.pointer (some ⟨Q, 0, none⟩))) rfl (by kernel_rfl) (by kernel_rfl) (by kernel_rfl) (fun _ _ _ h => h) (Or.inl ⟨by rfl, ?_⟩) HS0 ?_
    · intro wq hSq
      clear hSq
      go_simp
    try simp only [Act.put, List.setIfInBounds_toArray, List.set_cons_zero, List.set_cons_succ]
    refine wpAnyH_take (i := 6) (oi := { dst := some 30, op := Op.nilCheck (Operand.tmp 29), type := 0, pos := "l14_gen.go:20", after := #[{ on := 5, ground := Ground.data }], guard := none }) (v := (.pointer (some ⟨Q, 0, none⟩))) rfl (by kernel_rfl) (by kernel_rfl) (by kernel_rfl) (fun _ _ _ h => h) (Or.inl ⟨by rfl, ?_⟩) HS0 ?_
    · intro wq hSq
      clear hSq
      go_simp
    try simp only [Act.put, List.setIfInBounds_toArray, List.set_cons_zero, List.set_cons_succ]
    refine wpAnyH_take (i := 7) (oi := { dst := some 31, op := Op.fieldAddr 44 (Operand.tmp 30) 0, type := 0, pos := "l14_gen.go:20", after := #[{ on := 6, ground := Ground.data }], guard := none }) (v := (.pointer (some ⟨Q, 0, none⟩))) rfl (by kernel_rfl) (by kernel_rfl) (by kernel_rfl) (fun _ _ _ h => h) (Or.inl ⟨by rfl, ?_⟩) HS0 ?_
    · intro wq hSq
      clear hSq
      go_simp
    try simp only [Act.put, List.setIfInBounds_toArray, List.set_cons_zero, List.set_cons_succ]
    refine wpAnyH_take (i := 8) (oi := { dst := some 32, op := Op.load 42 (Operand.tmp 31), type := 42, pos := "l14_gen.go:20", after := #[{ on := 7, ground := Ground.data }], guard := none }) (v := (.slice (some ⟨g, 0, none⟩) s cv)) rfl (by kernel_rfl) (by kernel_rfl) (by kernel_rfl) (fun _ _ _ h => h) (Or.inl ⟨by rfl, ?_⟩) HS0 ?_
    · intro wq hSq
      have cq : wq.cell? ⟨Q, 0, none⟩ = some _ := hSq
      clear hSq
      go_simp
    try simp only [Act.put, List.setIfInBounds_toArray, List.set_cons_zero, List.set_cons_succ]
    refine wpAnyH_take (i := 9) (oi := { dst := some 33, op := Op.call { callee := Callee.builtin Builtin.len, args := #[Operand.tmp 32], argTypes := #[42] }, type := 3, pos := "l14_gen.go:20", after := #[{ on := 8, ground := Ground.data }], guard := none }) (v := (.int .i64 (s : Nat))) rfl (by kernel_rfl) (by kernel_rfl) (by kernel_rfl) (fun _ _ _ h => h) (Or.inl ⟨by rfl, ?_⟩) HS0 ?_
    · intro wq hSq
      clear hSq
      go_simp
    try simp only [Act.put, List.setIfInBounds_toArray, List.set_cons_zero, List.set_cons_succ]
    refine wpAnyH_take (i := 10) (oi := { dst := some 34, op := Op.indexAddr 42 (Operand.tmp 27) (Operand.tmp 28), type := 0, pos := "l14_gen.go:20", after := #[{ on := 3, ground := Ground.data }, { on := 4, ground := Ground.data }, { on := 0, ground := Ground.phase }, { on := 1, ground := Ground.phase }, { on := 2, ground := Ground.phase }, { on := 3, ground := Ground.phase }, { on := 4, ground := Ground.phase }, { on := 5, ground := Ground.phase }, { on := 6, ground := Ground.phase }, { on := 7, ground := Ground.phase }, { on := 8, ground := Ground.phase }, { on := 9, ground := Ground.phase }], guard := none }) (v := (.pointer (some ⟨g, a * 3, none⟩))) rfl (by kernel_rfl) (by kernel_rfl) (by kernel_rfl) (fun _ _ _ h => h) (Or.inl ⟨by rfl, ?_⟩) HS0 ?_
    · intro wq hSq
      clear hSq
      go_simp; first | done | (intro h; exact absurd h (by omega)) | omega
    try simp only [Act.put, List.setIfInBounds_toArray, List.set_cons_zero, List.set_cons_succ]
    refine wpAnyH_take (i := 11) (oi := { dst := some 35, op := Op.fieldAddr 68 (Operand.tmp 34) 1, type := 0, pos := "l14_gen.go:20", after := #[{ on := 10, ground := Ground.data }, { on := 0, ground := Ground.phase }, { on := 1, ground := Ground.phase }, { on := 2, ground := Ground.phase }, { on := 3, ground := Ground.phase }, { on := 4, ground := Ground.phase }, { on := 5, ground := Ground.phase }, { on := 6, ground := Ground.phase }, { on := 7, ground := Ground.phase }, { on := 8, ground := Ground.phase }, { on := 9, ground := Ground.phase }], guard := none }) (v := (.pointer (some ⟨g, a * 3 + 1, none⟩))) rfl (by kernel_rfl) (by kernel_rfl) (by kernel_rfl) (fun _ _ _ h => h) (Or.inl ⟨by rfl, ?_⟩) HS0 ?_
    · intro wq hSq
      clear hSq
      go_simp
    try simp only [Act.put, List.setIfInBounds_toArray, List.set_cons_zero, List.set_cons_succ]
    refine wpAnyH_ready (rs := [12]) (by kernel_rfl) (by simp) ?_
    refine AllReadyH.cons (o := { dst := none, op := Op.store 3 (Operand.tmp 35) (Operand.tmp 33), type := 0, pos := "l14_gen.go:20", after := #[{ on := 11, ground := Ground.data }, { on := 9, ground := Ground.data }, { on := 0, ground := Ground.phase }, { on := 1, ground := Ground.phase }, { on := 2, ground := Ground.phase }, { on := 3, ground := Ground.phase }, { on := 4, ground := Ground.phase }, { on := 5, ground := Ground.phase }, { on := 6, ground := Ground.phase }, { on := 7, ground := Ground.phase }, { on := 8, ground := Ground.phase }, { on := 9, ground := Ground.phase }], guard := none }) rfl (fun KK hK => ?_) AllReadyH.nil
    go_simp
    refine hK.out _ _ ?_ (fun _ => ?_)
    · exact (World.cell?_of_block (w := _) (Below.heap_setCell _ _ _ Q (Ne.symm hgQ))).trans HS0
    clear hK KK
    try simp only [Act.put, List.setIfInBounds_toArray, List.set_cons_zero, List.set_cons_succ]
    refine wpAnyH_done (by kernel_rfl) ?_ _
    obtain ⟨hs3a, hg3a⟩ := HS2.out.stored (w1 := w2) (Below.refl _ _) (l' := l.set a (updO true q s) ++ BB ++ [⟨19, 0, 0⟩]) (by simp) (HE1.out.trans (by rw [HST.out])) hown2
    have hs3 := hs3a.below (Below.refl _ _).drew
    have hg3 := hg3a.trans (GK.of_below (Below.refl _ _).drew)
    have HG3 := HG2.out.trans hg3
    clear hs3a hg3a
    have HI3 : Hid (IrIn w0 (w2.setCell ⟨g, a * 3 + 1, none⟩ (.int .i64 (s : Nat))).drew Q (.slice (some ⟨g, 0, none⟩) s cv) (l.set a (updO true q s) ++ BB ++ [⟨19, 0, 0⟩]) sl F cap) := HI2.out.keep hs3 hg3
    have q2 := HQ2.out _ _ HG3
    have HG3' : Hid (GK Q v W (.slice (some ⟨g, 0, none⟩) s cv) (w2.setCell ⟨g, a * 3 + 1, none⟩ (.int .i64 (s : Nat))).drew) := HG3
    have hL3 : (l.set a (updO true q s) ++ BB ++ [(⟨19, 0, 0⟩ : O3)]).length = s := by simp only [List.length_append, List.length_cons, List.length_nil, List.length_set]; exact HSS.out.symm
    have HL3 : Hid ((l.set a (updO true q s) ++ BB ++ [(⟨19, 0, 0⟩ : O3)]).length = s) := hL3
    clear hs3 hg3 HG3 kq hu1' hu2' hcl hfz hL3 HS0
    generalize (w2.setCell ⟨g, a * 3 + 1, none⟩ (.int .i64 (s : Nat))).drew = w3 at *
    obtain ⟨c0, c1, c2⟩ := HD.out.2.below HI3.out.bel
    subst eu2
    go_wp2_with fail
    refine (HK2.out w0 w3 Q _ _ _ sl F cap d nb kb at_ HI.out.2 HI3.out HR.out.2 (by rw [HL3.out]; exact HSC.out) HNU.out.2.1 HNU.out.2.2.2).mono ?_
    rintro e w4 ⟨rfl, v4, hs4, hg4⟩
    rw [HL3.out, ← HCC.out] at hs4
    have HG4 : Hid (GK Q v W v4 w4) := HG3'.out.trans hg4
    obtain ⟨E, hE⟩ : ∃ E, E = s + CC.length := ⟨_, rfl⟩
    have hL4 : (l.set a (updO true q s) ++ BB ++ [(⟨19, 0, 0⟩ : O3)] ++ CC).length = E := by rw [List.length_append, HL3.out]; exact hE.symm
    obtain ⟨g4, cv4, ev4, hg4Q, hown4, hfz4, hcl4⟩ := not_empty hs4 (by rw [hL4]; omega)
    rw [hL4] at ev4 hcl4
    have HS4 : Hid (GSt 44 w0.heap.size Q v4 (l.set a (updO true q s) ++ BB ++ [(⟨19, 0, 0⟩ : O3)] ++ CC) w4) := hs4
    have hJE : J < E := by omega
    have hE30 : E ≤ 1073741824 := by omega
    have HEQ : Hid (E = s + CC.length) := hE
    have kq4 := hs4.cell.1
    rw [ev4] at kq4 hown4
    rw [ev4] at HS4 HG4
    have HXJ : Hid (J = (l.set a (updO true q s) ++ BB).length) := by show _ = _; rw [List.length_append, List.length_set]; exact HJ.out
    have HE4 : Hid ((orows (l.set a (updO true q s) ++ BB ++ [(⟨19, 0, 0⟩ : O3)] ++ CC)).set (J * 3 + 1) (.int .i64 (E : Nat)) = orows (l.set a (updO true q s) ++ BB ++ [(⟨19, (E : Nat), 0⟩ : O3)] ++ CC)) := by
      show _ = _
      rw [← set_mid (l.set a (updO true q s) ++ BB) CC ⟨19, 0, 0⟩ ⟨19, (E : Nat), 0⟩ J HXJ.out]
      refine orows_set _ J 1 _ _ (by rw [hL4]; exact hJE) (by omega) (fun p hp => ?_)
      rw [HXJ.out, List.append_assoc, List.getElem?_append_right (Nat.le_refl _), Nat.sub_self] at hp
      simp at hp
      subst hp
      rfl
    obtain ⟨u4, hu4⟩ := hcl4 (J * 3 + 1) (by omega)
    clear hs4 hg4 ev4 hE c0 c1 c2 q2 hL4
    go_upto_region 7 with fail
    refine wp_region_held_drew (S := fun wq => wq.cell? ⟨Q, 0, none⟩ = some (.slice (some ⟨g4, 0, none⟩) E cv4)) (by kernel_rfl) kq4 (fun HS0 => ?_)
    refine wpAnyH_take (i := 0) (oi := { dst := some 56, op := Op.move (Operand.tmp 0), type := 41, pos := "l14_gen.go:25", after := #[], guard := none }) (v := (.pointer (some ⟨Q, 0, none⟩))) rfl (by kernel_rfl) (by kernel_rfl) (by kernel_rfl) (fun _ _ _ h => h) (Or.inl ⟨by rfl, ?_⟩) HS0 ?_
    · intro wq hSq
      clear hSq
      go_simp
    try simp only [Act.put, List.setIfInBounds_toArray, List.set_cons_zero, List.set_cons_succ]
    refine wpAnyH_take (i := 1) (oi := { dst := some 57, op := Op.nilCheck (Operand.tmp 56), type := 0, pos := "l14_gen.go:25", after := #[{ on := 0, ground := Ground.data }], guard := none }) (v := (.pointer (some ⟨Q, 0, none⟩))) rfl (by kernel_rfl) (by kernel_rfl) (by kernel_rfl) (fun _ _ _ h => h) (Or.inl ⟨by rfl, ?_⟩) HS0 ?_
    · intro wq hSq
      clear hSq
      go_simp
    try simp only [Act.put, List.setIfInBounds_toArray, List.set_cons_zero, List.set_cons_succ]
    refine wpAnyH_take (i := 2) (oi := { dst := some 58, op := Op.fieldAddr 44 (Operand.tmp 57) 0, type := 0, pos := "l14_gen.go:25", after := #[{ on := 1, ground := Ground.data }], guard := none }) (v := (.pointer (some ⟨Q, 0, none⟩))) rfl (by kernel_rfl) (by kernel_rfl) (by kernel_rfl) (fun _ _ _ h => h) (Or.inl ⟨by rfl, ?_⟩) HS0 ?_
    · intro wq hSq
      clear hSq
      go_simp
    try simp only [Act.put, List.setIfInBounds_toArray, List.set_cons_zero, List.set_cons_succ]
    refine wpAnyH_take (i := 3) (oi := { dst := some 59, op := Op.load 42 (Operand.tmp 58), type := 42, pos := "l14_gen.go:25", after := #[{ on := 2, ground := Ground.data }], guard := none }) (v := (.slice (some ⟨g4, 0, none⟩) E cv4)) rfl (by kernel_rfl) (by kernel_rfl) (by kernel_rfl) (fun _ _ _ h => h) (Or.inl ⟨by rfl, ?_⟩) HS0 ?_
    · intro wq hSq
      have cq : wq.cell? ⟨Q, 0, none⟩ = some _ := hSq
      clear hSq
      go_simp
    try simp only [Act.put, List.setIfInBounds_toArray, List.set_cons_zero, List.set_cons_succ]
    refine wpAnyH_take (i := 4) (oi := { dst := some 60, op := Op.move (Operand.tmp 12), type := 3, pos := "l14_gen.go:25", after := #[], guard := none }) (v := (.int .i64 (J : Nat))) rfl (by kernel_rfl) (by kernel_rfl) (by kernel_rfl) (fun _ _ _ h => h) (Or.inl ⟨by rfl, ?_⟩) HS0 ?_
    · intro wq hSq
      clear hSq
      go_simp
    try simp only [Act.put, List.setIfInBounds_toArray, List.set_cons_zero, List.set_cons_succ]
    refine wpAnyH_take (i := 5) (oi := { dst := some 61, op := Op.move (Operand.tmp 0), type := 41, pos := "l14_gen.go:25", after := #[], guard := none }) (v := (.pointer (some ⟨Q, 0, none⟩))) rfl (by kernel_rfl) (by kernel_rfl) (by kernel_rfl) (fun _ _ _ h => h) (Or.inl ⟨by rfl, ?_⟩) HS0 ?_
    · intro wq hSq
      clear hSq
      go_simp
    try simp only [Act.put, List.setIfInBounds_toArray, List.set_cons_zero, List.set_cons_succ]
    refine wpAnyH_take (i := 6) (oi := { dst := some 62, op := Op.nilCheck (Operand.tmp 61), type := 0, pos := "l14_gen.go:25", after := #[{ on := 5, ground := Ground.data }], guard := none }) (v := (.pointer (some ⟨Q, 0, none⟩))) rfl (by kernel_rfl) (by kernel_rfl) (by kernel_rfl) (fun _ _ _ h => h) (Or.inl ⟨by rfl, ?_⟩) HS0 ?_
    · intro wq hSq
      clear hSq
      go_simp
    try simp only [Act.put, List.setIfInBounds_toArray, List.set_cons_zero, List.set_cons_succ]
    refine wpAnyH_take (i := 7) (oi := { dst := some 63, op := Op.fieldAddr 44 (Operand.tmp 62) 0, type := 0, pos := "l14_gen.go:25", after := #[{ on := 6, ground := Ground.data }], guard := none }) (v := (.pointer (some ⟨Q, 0, none⟩))) rfl (by kernel_rfl) (by kernel_rfl) (by kernel_rfl) (fun _ _ _ h => h) (Or.inl ⟨by rfl, ?_⟩) HS0 ?_
    · intro wq hSq
      clear hSq
      go_simp
    try simp only [Act.put, List.setIfInBounds_toArray, List.set_cons_zero, List.set_cons_succ]
    refine wpAnyH_take (i := 8) (oi := { dst := some 64, op := Op.load 42 (Operand.tmp 63), type := 42, pos := "l14_gen.go:25", after := #[{ on := 7, ground := Ground.data }], guard := none }) (v := (.slice (some ⟨g4, 0, none⟩) E cv4)) rfl (by kernel_rfl) (by kernel_rfl) (by kernel_rfl) (fun _ _ _ h => h) (Or.inl ⟨by rfl, ?_⟩) HS0 ?_
    · intro wq hSq
      have cq : wq.cell? ⟨Q, 0, none⟩ = some _ := hSq
      clear hSq
      go_simp
    try simp only [Act.put, List.setIfInBounds_toArray, List.set_cons_zero, List.set_cons_succ]
    refine wpAnyH_take (i := 9) (oi := { dst := some 65, op := Op.call { callee := Callee.builtin Builtin.len, args := #[Operand.tmp 64], argTypes := #[42] }, type := 3, pos := "l14_gen.go:25", after := #[{ on := 8, ground := Ground.data }], guard := none }) (v := (.int .i64 (E : Nat))) rfl (by kernel_rfl) (by kernel_rfl) (by kernel_rfl) (fun _ _ _ h => h) (Or.inl ⟨by rfl, ?_⟩) HS0 ?_
    · intro wq hSq
      clear hSq
      go_simp
    try simp only [Act.put, List.setIfInBounds_toArray, List.set_cons_zero, List.set_cons_succ]
    refine wpAnyH_take (i := 10) (oi := { dst := some 66, op := Op.indexAddr 42 (Operand.tmp 59) (Operand.tmp 60), type := 0, pos := "l14_gen.go:25", after := #[{ on := 3, ground := Ground.data }, { on := 4, ground := Ground.data }, { on := 0, ground := Ground.phase }, { on := 1, ground := Ground.phase }, { on := 2, ground := Ground.phase }, { on := 3, ground := Ground.phase }, { on := 4, ground := Ground.phase }, { on := 5, ground := Ground.phase }, { on := 6, ground := Ground.phase }, { on := 7, ground := Ground.phase }, { on := 8, ground := Ground.phase }, { on := 9, ground := Ground.phase }], guard := none }) (v := (.pointer (some ⟨g4, J * 3, none⟩))) rfl (by kernel_rfl) (by kernel_rfl) (by kernel_rfl) (fun _ _ _ h => h) (Or.inl ⟨by rfl, ?_⟩) HS0 ?_
    · intro wq hSq
      clear hSq
      go_simp; first | done | (intro h; exact absurd h (by omega)) | omega
    try simp only [Act.put, List.setIfInBounds_toArray, List.set_cons_zero, List.set_cons_succ]
    refine wpAnyH_take (i := 11) (oi := { dst := some 67, op := Op.fieldAddr 68 (Operand.tmp 66) 1, type := 0, pos := "l14_gen.go:25", after := #[{ on := 10, ground := Ground.data }, { on := 0, ground := Ground.phase }, { on := 1, ground := Ground.phase }, { on := 2, ground := Ground.phase }, { on := 3, ground := Ground.phase }, { on := 4, ground := Ground.phase }, { on := 5, ground := Ground.phase }, { on := 6, ground := Ground.phase }, { on := 7, ground := Ground.phase }, { on := 8, ground := Ground.phase }, { on := 9, ground := Ground.phase }], guard := none }) (v := (.pointer (some ⟨g4, J * 3 + 1, none⟩))) rfl (by kernel_rfl) (by kernel_rfl) (by kernel_rfl) (fun _ _ _ h => h) (Or.inl ⟨by rfl, ?_⟩) HS0 ?_
    · intro wq hSq
      clear hSq
      go_simp
    try simp only [Act.put, List.setIfInBounds_toArray, List.set_cons_zero, List.set_cons_succ]
    refine wpAnyH_ready (rs := [12]) (by kernel_rfl) (by simp) ?_
    refine AllReadyH.cons (o := { dst := none, op := Op.store 3 (Operand.tmp 67) (Operand.tmp 65), type := 0, pos := "l14_gen.go:25", after := #[{ on := 11, ground := Ground.data }, { on := 9, ground := Ground.data }, { on := 0, ground := Ground.phase }, { on := 1, ground := Ground.phase }, { on := 2, ground := Ground.phase }, { on := 3, ground := Ground.phase }, { on := 4, ground := Ground.phase }, { on := 5, ground := Ground.phase }, { on := 6, ground := Ground.phase }, { on := 7, ground := Ground.phase }, { on := 8, ground := Ground.phase }, { on := 9, ground := Ground.phase }], guard := none }) rfl (fun KK hK => ?_) AllReadyH.nil
    go_simp
    refine hK.out _ _ ?_ (fun _ => ?_)
    · exact (World.cell?_of_block (w := _) (Below.heap_setCell _ _ _ Q (Ne.symm hg4Q))).trans HS0
    clear hK KK
    try simp only [Act.put, List.setIfInBounds_toArray, List.set_cons_zero, List.set_cons_succ]
    refine wpAnyH_done (by kernel_rfl) ?_ _
    obtain ⟨hs5a, hg5a⟩ := HS4.out.stored (w1 := w4) (Below.refl _ _) (l' := l.set a (updO true q s) ++ BB ++ [(⟨19, (E : Nat), 0⟩ : O3)] ++ CC) (by simp) HE4.out hown4
    have HEND : Hid (IrPost w0.heap.size Q v FIN w (.returned (.tuple #[])) (w4.setCell ⟨g4, J * 3 + 1, none⟩ (.int .i64 (E : Nat))).drew) := by
      refine ⟨rfl, _, ?_, HK0.out.trans (HG4.out.trans (hg5a.trans (GK.of_below (Below.refl _ _).drew)))⟩
      rw [HFIN.out, ← HEQ.out]
      exact hs5a.below (Below.refl _ _).drew
    clear hs5a hg5a
    go_wp2_with fail
    go_end0
    exact HEND.out
  | false =>
    go_upto_region 5 with fail
    refine wp_region_held_drew (S := fun wq => wq.cell? ⟨Q, 0, none⟩ = some (.slice (some ⟨g, 0, none⟩) s cv)) (by kernel_rfl) kq (fun HS0 => ?_)
    refine wpAnyH_take (i := 0) (oi := { dst := some 36, op := Op.move (Operand.tmp 0), type := 41, pos := "l14_gen.go:22", after := #[], guard := none }) (v := (.pointer (some ⟨Q, 0, none⟩))) rfl (by kernel_rfl) (by kernel_rfl) (by kernel_rfl) (fun _ _ _ h => h) (Or.inl ⟨by rfl, ?_⟩) HS0 ?_
    · intro wq hSq
      clear hSq
      go_simp
    try simp only [Act.put, List.setIfInBounds_toArray, List.set_cons_zero, List.set_cons_succ]
    refine wpAnyH_take (i := 1) (oi := { dst := some 37, op := Op.nilCheck (Operand.tmp 36), type := 0, pos := "l14_gen.go:22", after := #[{ on := 0, ground := Ground.data }], guard := none }) (v := (.pointer (some ⟨Q, 0, none⟩))) rfl (by kernel_rfl) (by kernel_rfl) (by kernel_rfl) (fun _ _ _ h => h) (Or.inl ⟨by rfl, ?_⟩) HS0 ?_
    · intro wq hSq
      clear hSq
      go_simp
    try simp only [Act.put, List.setIfInBounds_toArray, List.set_cons_zero, List.set_cons_succ]
    refine wpAnyH_take (i := 2) (oi := { dst := some 38, op := Op.fieldAddr 44 (Operand.tmp 37) 0, type := 0, pos := "l14_gen.go:22", after := #[{ on := 1, ground := Ground.data }], guard := none }) (v := (.pointer (some ⟨Q, 0, none⟩))) rfl (by kernel_rfl) (by kernel_rfl) (by kernel_rfl) (fun _ _ _ h => h) (Or.inl ⟨by rfl, ?_⟩) HS0 ?_
    · intro wq hSq
      clear hSq
      go_simp
    try simp only [Act.put, List.setIfInBounds_toArray, List.set_cons_zero, List.set_cons_succ]
    refine wpAnyH_take (i := 3) (oi := { dst := some 39, op := Op.load 42 (Operand.tmp 38), type := 42, pos := "l14_gen.go:22", after := #[{ on := 2, ground := Ground.data }], guard := none }) (v := (.slice (some ⟨g, 0, none⟩) s cv)) rfl (by kernel_rfl) (by kernel_rfl) (by kernel_rfl) (fun _ _ _ h => h) (Or.inl ⟨by rfl, ?_⟩) HS0 ?_
    · intro wq hSq
      have cq : wq.cell? ⟨Q, 0, none⟩ = some _ := hSq
      clear hSq
      go_simp
    try simp only [Act.put, List.setIfInBounds_toArray, List.set_cons_zero, List.set_cons_succ]
    refine wpAnyH_take (i := 4) (oi := { dst := some 40, op := Op.move (Operand.tmp 1), type := 3, pos := "l14_gen.go:22", after := #[], guard := none }) (v := (.int .i64 (a : Nat))) rfl (by kernel_rfl) (by kernel_rfl) (by kernel_rfl) (fun _ _ _ h => h) (Or.inl ⟨by rfl, ?_⟩) HS0 ?_
    · intro wq hSq
      clear hSq
      go_simp
    try simp only [Act.put, List.setIfInBounds_toArray, List.set_cons_zero, List.set_cons_succ]
    refine wpAnyH_take (i := 5) (oi := { dst := some 41, op := Op.move (Operand.tmp 0), type := 41, pos := "l14_gen.go:22", after := #[], guard := none }) (v := (.pointer (some ⟨Q, 0, none⟩))) rfl (by kernel_rfl) (by kernel_rfl) (by kernel_rfl) (fun _ _ _ h => h) (Or.inl ⟨by rfl, ?_⟩) HS0 ?_
    · intro wq hSq
      clear hSq
      go_simp
    try simp only [Act.put, List.setIfInBounds_toArray, List.set_cons_zero, List.set_cons_succ]
    refine wpAnyH_take (i := 6) (oi := { dst := some 42, op := Op.nilCheck (Operand.tmp 41), type := 0, pos := "l14_gen.go:22", after := #[{ on := 5, ground := Ground.data }], guard := none }) (v := (.pointer (some ⟨Q, 0, none⟩))) rfl (by kernel_rfl) (by kernel_rfl) (by kernel_rfl) (fun _ _ _ h => h) (Or.inl ⟨by rfl, ?_⟩) HS0 ?_
    · intro wq hSq
      clear hSq
      go_simp
    try simp only [Act.put, List.setIfInBounds_toArray, List.set_cons_zero, List.set_cons_succ]
    refine wpAnyH_take (i := 7) (oi := { dst := some 43, op := Op.fieldAddr 44 (Operand.tmp 42) 0, type := 0, pos := "l14_gen.go:22", after := #[{ on := 6, ground := Ground.data }], guard := none }) (v := (.pointer (some ⟨Q, 0, none⟩))) rfl (by kernel_rfl) (by kernel_rfl) (by kernel_rfl) (fun _ _ _ h => h) (Or.inl ⟨by rfl, ?_⟩) HS0 ?_
    · intro wq hSq
      clear hSq
      go_simp
    try simp only [Act.put, List.setIfInBounds_toArray, List.set_cons_zero, List.set_cons_succ]
    refine wpAnyH_take (i := 8) (oi := { dst := some 44, op := Op.load 42 (Operand.tmp 43), type := 42, pos := "l14_gen.go:22", after := #[{ on := 7, ground := Ground.data }], guard := none }) (v := (.slice (some ⟨g, 0, none⟩) s cv)) rfl (by kernel_rfl) (by kernel_rfl) (by kernel_rfl) (fun _ _ _ h => h) (Or.inl ⟨by rfl, ?_⟩) HS0 ?_
    · intro wq hSq
      have cq : wq.cell? ⟨Q, 0, none⟩ = some _ := hSq
      clear hSq
      go_simp
    try simp only [Act.put, List.setIfInBounds_toArray, List.set_cons_zero, List.set_cons_succ]
    refine wpAnyH_take (i := 9) (oi := { dst := some 45, op := Op.call { callee := Callee.builtin Builtin.len, args := #[Operand.tmp 44], argTypes := #[42] }, type := 3, pos := "l14_gen.go:22", after := #[{ on := 8, ground := Ground.data }], guard := none }) (v := (.int .i64 (s : Nat))) rfl (by kernel_rfl) (by kernel_rfl) (by kernel_rfl) (fun _ _ _ h => h) (Or.inl ⟨by rfl, ?_⟩) HS0 ?_
    · intro wq hSq
      clear hSq
      go_simp
    try simp only [Act.put, List.setIfInBounds_toArray, List.set_cons_zero, List.set_cons_succ]
    refine wpAnyH_take (i := 10) (oi := { dst := some 46, op := Op.indexAddr 42 (Operand.tmp 39) (Operand.tmp 40), type := 0, pos := "l14_gen.go:22", after := #[{ on := 3, ground := Ground.data }, { on := 4, ground := Ground.data }, { on := 0, ground := Ground.phase }, { on := 1, ground := Ground.phase }, { on := 2, ground := Ground.phase }, { on := 3, ground := Ground.phase }, { on := 4, ground := Ground.phase }, { on := 5, ground := Ground.phase }, { on := 6, ground := Ground.phase }, { on := 7, ground := Ground.phase }, { on := 8, ground := Ground.phase }, { on := 9, ground := Ground.phase }], guard := none }) (v := (.pointer (some ⟨g, a * 3, none⟩))) rfl (by kernel_rfl) (by kernel_rfl) (by kernel_rfl) (fun _ _ _ h => h) (Or.inl ⟨by rfl, ?_⟩) HS0 ?_
    · intro wq hSq
      clear hSq
      go_simp; first | done | (intro h; exact absurd h (by omega)) | omega
    try simp only [Act.put, List.setIfInBounds_toArray, List.set_cons_zero, List.set_cons_succ]
    refine wpAnyH_take (i := 11) (oi := { dst := some 47, op := Op.fieldAddr 68 (Operand.tmp 46) 2, type := 0, pos := "l14_gen.go:22", after := #[{ on := 10, ground := Ground.data }, { on := 0, ground := Ground.phase }, { on := 1, ground := Ground.phase }, { on := 2, ground := Ground.phase }, { on := 3, ground := Ground.phase }, { on := 4, ground := Ground.phase }, { on := 5, ground := Ground.phase }, { on := 6, ground := Ground.phase }, { on := 7, ground := Ground.phase }, { on := 8, ground := Ground.phase }, { on := 9, ground := Ground.phase }], guard := none }) (v := (.pointer (some ⟨g, a * 3 + 2, none⟩))) rfl (by kernel_rfl) (by kernel_rfl) (by kernel_rfl) (fun _ _ _ h => h) (Or.inl ⟨by rfl, ?_⟩) HS0 ?_
    · intro wq hSq
      clear hSq
      go_simp
    try simp only [Act.put, List.setIfInBounds_toArray, List.set_cons_zero, List.set_cons_succ]
    refine wpAnyH_ready (rs := [12]) (by kernel_rfl) (by simp) ?_
    refine AllReadyH.cons (o := { dst := none, op := Op.store 3 (Operand.tmp 47) (Operand.tmp 45), type := 0, pos := "l14_gen.go:22", after := #[{ on := 11, ground := Ground.data }, { on := 9, ground := Ground.data }, { on := 0, ground := Ground.phase }, { on := 1, ground := Ground.phase }, { on := 2, ground := Ground.phase }, { on := 3, ground := Ground.phase }, { on := 4, ground := Ground.phase }, { on := 5, ground := Ground.phase }, { on := 6, ground := Ground.phase }, { on := 7, ground := Ground.phase }, { on := 8, ground := Ground.phase }, { on := 9, ground := Ground.phase }], guard := none }) rfl (fun KK hK => ?_) AllReadyH.nil
    go_simp
    refine hK.out _ _ ?_ (fun _ => ?_)
    · exact (World.cell?_of_block (w := _) (Below.heap_setCell _ _ _ Q (Ne.symm hgQ))).trans HS0
    clear hK KK
    try simp only [Act.put, List.setIfInBounds_toArray, List.set_cons_zero, List.set_cons_succ]
    refine wpAnyH_done (by kernel_rfl) ?_ _
    obtain ⟨hs3a, hg3a⟩ := HS2.out.stored (w1 := w2) (Below.refl _ _) (l' := l.set a (updO false q s) ++ BB ++ [⟨19, 0, 0⟩]) (by simp) (HE2.out.trans (by rw [HST.out])) hown2
    have hs3 := hs3a.below (Below.refl _ _).drew
    have hg3 := hg3a.trans (GK.of_below (Below.refl _ _).drew)
    have HG3 := HG2.out.trans hg3
    clear hs3a hg3a
    have HI3 : Hid (IrIn w0 (w2.setCell ⟨g, a * 3 + 2, none⟩ (.int .i64 (s : Nat))).drew Q (.slice (some ⟨g, 0, none⟩) s cv) (l.set a (updO false q s) ++ BB ++ [⟨19, 0, 0⟩]) sl F cap) := HI2.out.keep hs3 hg3
    have q2 := HQ2.out _ _ HG3
    have HG3' : Hid (GK Q v W (.slice (some ⟨g, 0, none⟩) s cv) (w2.setCell ⟨g, a * 3 + 2, none⟩ (.int .i64 (s : Nat))).drew) := HG3
    have hL3 : (l.set a (updO false q s) ++ BB ++ [(⟨19, 0, 0⟩ : O3)]).length = s := by simp only [List.length_append, List.length_cons, List.length_nil, List.length_set]; exact HSS.out.symm
    have HL3 : Hid ((l.set a (updO false q s) ++ BB ++ [(⟨19, 0, 0⟩ : O3)]).length = s) := hL3
    clear hs3 hg3 HG3 kq hu1' hu2' hcl hfz hL3 HS0
    generalize (w2.setCell ⟨g, a * 3 + 2, none⟩ (.int .i64 (s : Nat))).drew = w3 at *
    obtain ⟨c0, c1, c2⟩ := HD.out.2.below HI3.out.bel
    subst eu2
    go_wp2_with fail
    refine (HK2.out w0 w3 Q _ _ _ sl F cap d nb kb at_ HI.out.2 HI3.out HR.out.2 (by rw [HL3.out]; exact HSC.out) HNU.out.2.1 HNU.out.2.2.2).mono ?_
    rintro e w4 ⟨rfl, v4, hs4, hg4⟩
    rw [HL3.out, ← HCC.out] at hs4
    have HG4 : Hid (GK Q v W v4 w4) := HG3'.out.trans hg4
    obtain ⟨E, hE⟩ : ∃ E, E = s + CC.length := ⟨_, rfl⟩
    have hL4 : (l.set a (updO false q s) ++ BB ++ [(⟨19, 0, 0⟩ : O3)] ++ CC).length = E := by rw [List.length_append, HL3.out]; exact hE.symm
    obtain ⟨g4, cv4, ev4, hg4Q, hown4, hfz4, hcl4⟩ := not_empty hs4 (by rw [hL4]; omega)
    rw [hL4] at ev4 hcl4
    have HS4 : Hid (GSt 44 w0.heap.size Q v4 (l.set a (updO false q s) ++ BB ++ [(⟨19, 0, 0⟩ : O3)] ++ CC) w4) := hs4
    have hJE : J < E := by omega
    have hE30 : E ≤ 1073741824 := by omega
    have HEQ : Hid (E = s + CC.length) := hE
    have kq4 := hs4.cell.1
    rw [ev4] at kq4 hown4
    rw [ev4] at HS4 HG4
    have HXJ : Hid (J = (l.set a (updO false q s) ++ BB).length) := by show _ = _; rw [List.length_append, List.length_set]; exact HJ.out
    have HE4 : Hid ((orows (l.set a (updO false q s) ++ BB ++ [(⟨19, 0, 0⟩ : O3)] ++ CC)).set (J * 3 + 1) (.int .i64 (E : Nat)) = orows (l.set a (updO false q s) ++ BB ++ [(⟨19, (E : Nat), 0⟩ : O3)] ++ CC)) := by
      show _ = _
      rw [← set_mid (l.set a (updO false q s) ++ BB) CC ⟨19, 0, 0⟩ ⟨19, (E : Nat), 0⟩ J HXJ.out]
      refine orows_set _ J 1 _ _ (by rw [hL4]; exact hJE) (by omega) (fun p hp => ?_)
      rw [HXJ.out, List.append_assoc, List.getElem?_append_right (Nat.le_refl _), Nat.sub_self] at hp
      simp at hp
      subst hp
      rfl
    obtain ⟨u4, hu4⟩ := hcl4 (J * 3 + 1) (by omega)
    clear hs4 hg4 ev4 hE c0 c1 c2 q2 hL4
    go_upto_region 7 with fail
    refine wp_region_held_drew (S := fun wq => wq.cell? ⟨Q, 0, none⟩ = some (.slice (some ⟨g4, 0, none⟩) E cv4)) (by kernel_rfl) kq4 (fun HS0 => ?_)
    refine wpAnyH_take (i := 0) (oi := { dst := some 56, op := Op.move (Operand.tmp 0), type := 41, pos := "l14_gen.go:25", after := #[], guard := none }) (v := (.pointer (some ⟨Q, 0, none⟩))) rfl (by kernel_rfl) (by kernel_rfl) (by kernel_rfl) (fun _ _ _ h => h) (Or.inl ⟨by rfl, ?_⟩) HS0 ?_
    · intro wq hSq
      clear hSq
      go_simp
    try simp only [Act.put, List.setIfInBounds_toArray, List.set_cons_zero, List.set_cons_succ]
    refine wpAnyH_take (i := 1) (oi := { dst := some 57, op := Op.nilCheck (Operand.tmp 56), type := 0, pos := "l14_gen.go:25", after := #[{ on := 0, ground := Ground.data }], guard := none }) (v := (.pointer (some ⟨Q, 0, none⟩))) rfl (by kernel_rfl) (by kernel_rfl) (by kernel_rfl) (fun _ _ _ h => h) (Or.inl ⟨by rfl, ?_⟩) HS0 ?_
    · intro wq hSq
      clear hSq
      go_simp
    try simp only [Act.put, List.setIfInBounds_toArray, List.set_cons_zero, List.set_cons_succ]
    refine wpAnyH_take (i := 2) (oi := { dst := some 58, op := Op.fieldAddr 44 (Operand.tmp 57) 0, type := 0, pos := "l14_gen.go:25", after := #[{ on := 1, ground := Ground.data }], guard := none }) (v := (.pointer (some ⟨Q, 0, none⟩))) rfl (by kernel_rfl) (by kernel_rfl) (by kernel_rfl) (fun _ _ _ h => h) (Or.inl ⟨by rfl, ?_⟩) HS0 ?_
    · intro wq hSq
      clear hSq
      go_simp
    try simp only [Act.put, List.setIfInBounds_toArray, List.set_cons_zero, List.set_cons_succ]
    refine wpAnyH_take (i := 3) (oi := { dst := some 59, op := Op.load 42 (Operand.tmp 58), type := 42, pos := "l14_gen.go:25", after := #[{ on := 2, ground := Ground.data }], guard := none }) (v := (.slice (some ⟨g4, 0, none⟩) E cv4)) rfl (by kernel_rfl) (by kernel_rfl) (by kernel_rfl) (fun _ _ _ h => h) (Or.inl ⟨by rfl, ?_⟩) HS0 ?_
    · intro wq hSq
      have cq : wq.cell? ⟨Q, 0, none⟩ = some _ := hSq
      clear hSq
      go_simp
    try simp only [Act.put, List.setIfInBounds_toArray, List.set_cons_zero, List.set_cons_succ]
    refine wpAnyH_take (i := 4) (oi := { dst := some 60, op := Op.move (Operand.tmp 12), type := 3, pos := "l14_gen.go:25", after := #[], guard := none }) (v := (.int .i64 (J : Nat))) rfl (by kernel_rfl) (by kernel_rfl) (by kernel_rfl) (fun _ _ _ h => h) (Or.inl ⟨by rfl, ?_⟩) HS0 ?_
    · intro wq hSq
      clear hSq
      go_simp
    try simp only [Act.put, List.setIfInBounds_toArray, List.set_cons_zero, List.set_cons_succ]
    refine wpAnyH_take (i := 5) (oi := { dst := some 61, op := Op.move (Operand.tmp 0), type := 41, pos := "l14_gen.go:25", after := #[], guard := none }) (v := (.pointer (some ⟨Q, 0, none⟩))) rfl (by kernel_rfl) (by kernel_rfl) (by kernel_rfl) (fun _ _ _ h => h) (Or.inl ⟨by rfl, ?_⟩) HS0 ?_
    · intro wq hSq
      clear hSq
      go_simp
    try simp only [Act.put, List.setIfInBounds_toArray, List.set_cons_zero, List.set_cons_succ]
    refine wpAnyH_take (i := 6) (oi := { dst := some 62, op := Op.nilCheck (Operand.tmp 61), type := 0, pos := "l14_gen.go:25", after := #[{ on := 5, ground := Ground.data }], guard := none }) (v := (.pointer (some ⟨Q, 0, none⟩))) rfl (by kernel_rfl) (by kernel_rfl) (by kernel_rfl) (fun _ _ _ h => h) (Or.inl ⟨by rfl, ?_⟩) HS0 ?_
    · intro wq hSq
      clear hSq
      go_simp
    try simp only [Act.put, List.setIfInBounds_toArray, List.set_cons_zero, List.set_cons_succ]
    refine wpAnyH_take (i := 7) (oi := { dst := some 63, op := Op.fieldAddr 44 (Operand.tmp 62) 0, type := 0, pos := "l14_gen.go:25", after := #[{ on := 6, ground := Ground.data }], guard := none }) (v := (.pointer (some ⟨Q, 0, none⟩))) rfl (by kernel_rfl) (by kernel_rfl) (by kernel_rfl) (fun _ _ _ h => h) (Or.inl ⟨by rfl, ?_⟩) HS0 ?_
    · intro wq hSq
      clear hSq
      go_simp
    try simp only [Act.put, List.setIfInBounds_toArray, List.set_cons_zero, List.set_cons_succ]
    refine wpAnyH_take (i := 8) (oi := { dst := some 64, op := Op.load 42 (Operand.tmp 63), type := 42, pos := "l14_gen.go:25", after := #[{ on := 7, ground := Ground.data }], guard := none }) (v := (.slice (some ⟨g4, 0, none⟩) E cv4)) rfl (by kernel_rfl) (by kernel_rfl) (by kernel_rfl) (fun _ _ _ h => h) (Or.inl ⟨by rfl, ?_⟩) HS0 ?_
    · intro wq hSq
      have cq : wq.cell? ⟨Q, 0, none⟩ = some _ := hSq
      clear hSq
      go_simp
    try simp only [Act.put, List.setIfInBounds_toArray, List.set_cons_zero, List.set_cons_succ]
    refine wpAnyH_take (i := 9) (oi := { dst := some 65, op := Op.call { callee := Callee.builtin Builtin.len, args := #[Operand.tmp 64], argTypes := #[42] }, type := 3, pos := "l14_gen.go:25", after := #[{ on := 8, ground := Ground.data }], guard := none }) (v := (.int .i64 (E : Nat))) rfl (by kernel_rfl) (by kernel_rfl) (by kernel_rfl) (fun _ _ _ h => h) (Or.inl ⟨by rfl, ?_⟩) HS0 ?_
    · intro wq hSq
      clear hSq
      go_simp
    try simp only [Act.put, List.setIfInBounds_toArray, List.set_cons_zero, List.set_cons_succ]
    refine wpAnyH_take (i := 10) (oi := { dst := some 66, op := Op.indexAddr 42 (Operand.tmp 59) (Operand.tmp 60), type := 0, pos := "l14_gen.go:25", after := #[{ on := 3, ground := Ground.data }, { on := 4, ground := Ground.data }, { on := 0, ground := Ground.phase }, { on := 1, ground := Ground.phase }, { on := 2, ground := Ground.phase }, { on := 3, ground := Ground.phase }, { on := 4, ground := Ground.phase }, { on := 5, ground := Ground.phase }, { on := 6, ground := Ground.phase }, { on := 7, ground := Ground.phase }, { on := 8, ground := Ground.phase }, { on := 9, ground := Ground.phase }], guard := none }) (v := (.pointer (some ⟨g4, J * 3, none⟩))) rfl (by kernel_rfl) (by kernel_rfl) (by kernel_rfl) (fun _ _ _ h => h) (Or.inl ⟨by rfl, ?_⟩) HS0 ?_
    · intro wq hSq
      clear hSq
      go_simp; first | done | (intro h; exact absurd h (by omega)) | omega
    try simp only [Act.put, List.setIfInBounds_toArray, List.set_cons_zero, List.set_cons_succ]
    refine wpAnyH_take (i := 11) (oi := { dst := some 67, op := Op.fieldAddr 68 (Operand.tmp 66) 1, type := 0, pos := "l14_gen.go:25", after := #[{ on := 10, ground := Ground.data }, { on := 0, ground := Ground.phase }, { on := 1, ground := Ground.phase }, { on := 2, ground := Ground.phase }, { on := 3, ground := Ground.phase }, { on := 4, ground := Ground.phase }, { on := 5, ground := Ground.phase }, { on := 6, ground := Ground.phase }, { on := 7, ground := Ground.phase }, { on := 8, ground := Ground.phase }, { on := 9, ground := Ground.phase }], guard := none }) (v := (.pointer (some ⟨g4, J * 3 + 1, none⟩))) rfl (by kernel_rfl) (by kernel_rfl) (by kernel_rfl) (fun _ _ _ h => h) (Or.inl ⟨by rfl, ?_⟩) HS0 ?_
    · intro wq hSq
      clear hSq
      go_simp
    try simp only [Act.put, List.setIfInBounds_toArray, List.set_cons_zero, List.set_cons_succ]
    refine wpAnyH_ready (rs := [12]) (by kernel_rfl) (by simp) ?_
    refine AllReadyH.cons (o := { dst := none, op := Op.store 3 (Operand.tmp 67) (Operand.tmp 65), type := 0, pos := "l14_gen.go:25", after := #[{ on := 11, ground := Ground.data }, { on := 9, ground := Ground.data }, { on := 0, ground := Ground.phase }, { on := 1, ground := Ground.phase }, { on := 2, ground := Ground.phase }, { on := 3, ground := Ground.phase }, { on := 4, ground := Ground.phase }, { on := 5, ground := Ground.phase }, { on := 6, ground := Ground.phase }, { on := 7, ground := Ground.phase }, { on := 8, ground := Ground.phase }, { on := 9, ground := Ground.phase }], guard := none }) rfl (fun KK hK => ?_) AllReadyH.nil
    go_simp
    refine hK.out _ _ ?_ (fun _ => ?_)
    · exact (World.cell?_of_block (w := _) (Below.heap_setCell _ _ _ Q (Ne.symm hg4Q))).trans HS0
    clear hK KK
    try simp only [Act.put, List.setIfInBounds_toArray, List.set_cons_zero, List.set_cons_succ]
    refine wpAnyH_done (by kernel_rfl) ?_ _
    obtain ⟨hs5a, hg5a⟩ := HS4.out.stored (w1 := w4) (Below.refl _ _) (l' := l.set a (updO false q s) ++ BB ++ [(⟨19, (E : Nat), 0⟩ : O3)] ++ CC) (by simp) HE4.out hown4
    have HEND : Hid (IrPost w0.heap.size Q v FIN w (.returned (.tuple #[])) (w4.setCell ⟨g4, J * 3 + 1, none⟩ (.int .i64 (E : Nat))).drew) := by
      refine ⟨rfl, _, ?_, HK0.out.trans (HG4.out.trans (hg5a.trans (GK.of_below (Below.refl _ _).drew)))⟩
      rw [HFIN.out, ← HEQ.out]
      exact hs5a.below (Below.refl _ _).drew
    clear hs5a hg5a
    go_wp2_with fail
    go_end0
    exact HEND.out
end Go.Proofs.YthnhdmanmmdoiaaDoor

/- Plain facts on sets of numbers as ascending lists: with a number, without it, flipped. No conditions. -/
namespace Go.Proofs.YthnhdmanmmdoiaaDoor

/-- The number is in the list. -/
def hasB (xs : List Int) (n : Int) : Bool := xs.any fun x => x == n
/-- Of the first k none is it. -/
theorem has_no {xs : List Int} {n : Int} (h : ∀ i, i < xs.length → (xs.getD i 0 == n) = false) : hasB xs n = false := by
  unfold hasB
  rw [List.any_eq_false]
  intro x hx
  obtain ⟨i, hi, rfl⟩ := List.mem_iff_getElem.1 hx
  have := h i hi
  rw [List.getD_eq_getElem?_getD, List.getElem?_eq_getElem hi, Option.getD_some] at this
  simp [this]
theorem has_yes {xs : List Int} {n : Int} (i : Nat) (hi : i < xs.length) (h : (xs.getD i 0 == n) = true) : hasB xs n = true := by
  unfold hasB
  rw [List.any_eq_true]
  rw [List.getD_eq_getElem?_getD, List.getElem?_eq_getElem hi, Option.getD_some] at h
  exact ⟨_, List.getElem_mem hi, h⟩
theorem has_iff (xs : List Int) (n : Int) : hasB xs n = true ↔ n ∈ xs := by
  unfold hasB
  rw [List.any_eq_true]
  constructor
  · rintro ⟨x, hx, h⟩
    have := eq_of_beq h
    subst this; exact hx
  · intro h; exact ⟨n, h, by simp⟩

/-- The i-th stands right: from 0 on, and behind the one ahead of it. -/
def standsB (xs : List Int) (i : Nat) : Bool := decide (0 ≤ xs.getD i 0) && (decide (i = 0) || decide (xs.getD (i - 1) 0 < xs.getD i 0))
/-- Ascending, each once, from 0 on. -/
def setB (xs : List Int) : Bool := (List.range xs.length).all fun i => standsB xs i
theorem set_yes {xs : List Int} (h : ∀ i, i < xs.length → standsB xs i = true) : setB xs = true := by
  unfold setB
  rw [List.all_eq_true]
  intro i hi
  exact h i (by simpa using hi)
theorem set_no {xs : List Int} (i : Nat) (hi : i < xs.length) (h : standsB xs i = false) : setB xs = false := by
  unfold setB
  rw [List.all_eq_false]
  exact ⟨i, by simpa using hi, by simp [h]⟩
theorem set_at {xs : List Int} (h : setB xs = true) (i : Nat) (hi : i < xs.length) : standsB xs i = true := by
  unfold setB at h
  rw [List.all_eq_true] at h
  exact h i (by simpa using hi)

/-- Where n is put in. -/
def placeL : List Int → Int → Nat
  | [], _ => 0
  | x :: r, n => if x < n then placeL r n + 1 else 0
theorem place_le (xs : List Int) (n : Int) : placeL xs n ≤ xs.length := by
  induction xs with
  | nil => simp [placeL]
  | cons x r ih => unfold placeL; split <;> simp; omega
theorem place_before (xs : List Int) (n : Int) : ∀ i, i < placeL xs n → xs.getD i 0 < n := by
  induction xs with
  | nil => intro i hi; simp [placeL] at hi
  | cons x r ih =>
    intro i hi
    unfold placeL at hi
    split at hi
    · rename_i hx
      match i with
      | 0 => simpa using hx
      | i + 1 => simpa using ih i (by omega)
    · omega
theorem place_is (xs : List Int) (n : Int) (k : Nat) (hk : k ≤ xs.length) (hb : ∀ i, i < k → xs.getD i 0 < n) (ha : k < xs.length → ¬ xs.getD k 0 < n) : placeL xs n = k := by
  induction xs generalizing k with
  | nil => simp at hk; simp [placeL, hk]
  | cons x r ih =>
    unfold placeL
    match k with
    | 0 =>
      have h0 : ¬ x < n := by simpa using ha (by simp)
      rw [if_neg h0]
    | k + 1 =>
      have h0 : x < n := by simpa using hb 0 (by omega)
      rw [if_pos h0, ih k (by simpa using hk) (fun i hi => by simpa using hb (i + 1) (by omega)) (fun h => by simpa using ha (by simpa using h))]

def withL (xs : List Int) (n : Int) : List Int := if hasB xs n = true then xs else xs.take (placeL xs n) ++ n :: xs.drop (placeL xs n)
def withoutL (xs : List Int) (n : Int) : List Int := xs.filter fun x => x != n
def flipL (xs : List Int) (n : Int) : List Int := if hasB xs n = true then withoutL xs n else withL xs n
def withinB (a b : List Int) : Bool := a.all fun x => hasB b x

theorem with_yes {xs : List Int} {n : Int} (h : hasB xs n = true) : withL xs n = xs := by unfold withL; rw [if_pos h]
theorem with_no {xs : List Int} {n : Int} (h : hasB xs n = false) : withL xs n = xs.take (placeL xs n) ++ n :: xs.drop (placeL xs n) := by unfold withL; rw [if_neg (by simp [h])]
theorem flip_yes {xs : List Int} {n : Int} (h : hasB xs n = true) : flipL xs n = withoutL xs n := by unfold flipL; rw [if_pos h]
theorem flip_no {xs : List Int} {n : Int} (h : hasB xs n = false) : flipL xs n = withL xs n := by unfold flipL; rw [if_neg (by simp [h])]
theorem with_len (xs : List Int) (n : Int) : (withL xs n).length ≤ xs.length + 1 := by
  unfold withL
  have := place_le xs n
  split
  · omega
  · simp; omega
theorem without_len (xs : List Int) (n : Int) : (withoutL xs n).length ≤ xs.length := List.length_filter_le _ _
theorem flip_len (xs : List Int) (n : Int) : (flipL xs n).length ≤ xs.length + 1 := by
  unfold flipL
  split
  · have := without_len xs n; omega
  · exact with_len xs n

theorem without_succ (xs : List Int) (n : Int) (k : Nat) (hk : k < xs.length) : withoutL (xs.take (k + 1)) n = withoutL (xs.take k) n ++ (if (xs.getD k 0 != n) = true then [xs.getD k 0] else []) := by
  unfold withoutL
  rw [List.take_add_one, List.getElem?_eq_getElem hk]
  have : xs.getD k 0 = xs[k] := by rw [List.getD_eq_getElem?_getD, List.getElem?_eq_getElem hk, Option.getD_some]
  rw [this, List.filter_append]
  congr 1
  simp only [Option.toList_some, List.filter_cons, List.filter_nil]

theorem within_yes {a b : List Int} (h : ∀ i, i < a.length → hasB b (a.getD i 0) = true) : withinB a b = true := by
  unfold withinB
  rw [List.all_eq_true]
  intro x hx
  obtain ⟨i, hi, rfl⟩ := List.mem_iff_getElem.1 hx
  have := h i hi
  rwa [List.getD_eq_getElem?_getD, List.getElem?_eq_getElem hi, Option.getD_some] at this
theorem within_no {a b : List Int} (i : Nat) (hi : i < a.length) (h : hasB b (a.getD i 0) = false) : withinB a b = false := by
  unfold withinB
  rw [List.all_eq_false]
  rw [List.getD_eq_getElem?_getD, List.getElem?_eq_getElem hi, Option.getD_some] at h
  exact ⟨_, List.getElem_mem hi, by simp [h]⟩

/-- The same, one by one. -/
def sameB (a b : List Int) : Bool := decide (a = b)
theorem same_len {a b : List Int} (h : a.length ≠ b.length) : sameB a b = false := by
  unfold sameB
  rw [decide_eq_false_iff_not]
  intro e; exact h (by rw [e])
theorem same_no {a b : List Int} (i : Nat) (h : a.getD i 0 ≠ b.getD i 0) : sameB a b = false := by
  unfold sameB
  rw [decide_eq_false_iff_not]
  intro e; exact h (by rw [e])
theorem same_yes {a b : List Int} (hl : a.length = b.length) (h : ∀ i, i < a.length → a.getD i 0 = b.getD i 0) : sameB a b = true := by
  unfold sameB
  rw [decide_eq_true_iff]
  apply List.ext_getElem hl
  intro i h1 h2
  have := h i h1
  rwa [List.getD_eq_getElem?_getD, List.getD_eq_getElem?_getD, List.getElem?_eq_getElem h1, List.getElem?_eq_getElem h2] at this
theorem same_self (a : List Int) : sameB a a = true := by simp [sameB]
end Go.Proofs.YthnhdmanmmdoiaaDoor
