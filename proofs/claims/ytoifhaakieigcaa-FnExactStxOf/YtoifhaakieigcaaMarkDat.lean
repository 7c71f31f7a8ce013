/- laws.markDatS, of data whose rows are owned, each in its block. Condition: marks up to 10^14. -/
import Derived.Test.YtoifhaakieigcaaHeldDat
import Derived.Test.YtoifhaakieigcaaFrS
namespace Go.Proofs.Ytoifhaakieigcaa
open Go.ChangeShapes Go.WideShapes Go.ChangeAt Go.RowKit

theorem mark_no {w : World} {len : Nat} {kid : Nat → D} {k : Nat} {v : Value} (hv : Sl w len (markK kid k) v) : ∀ i, i < len → kid i ≠ .no := by
  obtain ⟨p, cap, rfl, hlen, hat⟩ := hv.at
  intro i hi e
  obtain ⟨b, o, u, _, _, hin⟩ := hat i hi
  have h : markK kid k i = .no := by unfold markK; rw [e]; rfl
  rw [h] at hin
  exact hin.elim

theorem held_all (t : D) : HeldAt t := by
  induction t with
  | no => intro w v k hv hk0 hk; exact held_dats 0 _ (fun i hi => by omega) (fun i hi => by omega) w v k hv hk0 hk
  | mk op a n s len kid ih => intro w v k hv hk0 hk; exact held_dats len kid (mark_no hv) (fun i _ => ih i) w v k hv hk0 hk

/-- The first i are marked. -/
def markTo (kid : Nat → D) (k i : Nat) : Nat → D := fun j => if j < i then markK kid k j else kid j
theorem markTo_zero (kid : Nat → D) (k : Nat) : markTo kid k 0 = kid := by funext j; simp [markTo]
theorem markTo_at (kid : Nat → D) (k i : Nat) : markTo kid k i i = kid i := by simp [markTo]

def MarkAt (t : D) : Prop := ∀ (w : World) (v : Value) (S : List Nat) (k : Nat), SOwn w t.len t.kid v S → S.Nodup → 0 < k → k + 4 * sumTo (fun j => (t.kid j).count) t.len ≤ 90000000000000 →
  Calls Try.prog 43 #[v, .int .i64 k] w fun e w' => e = .returned (.int .i64 ((k + 4 * sumTo (fun j => (t.kid j).count) t.len : Nat) : Int)) ∧ SOwn w' t.len (markK t.kid k) v S ∧ FrS w w' S

theorem DOwn.ne {w : World} {t : D} {v : Value} {S : List Nat} (h : DOwn w t v S) : t ≠ .no := by
  rintro rfl; exact h.elim

theorem flat_split {SS : List (List Nat)} : ∀ {i : Nat} {T : List Nat}, SS[i]? = some T → SS.flatten.Nodup → T.Nodup ∧ ∀ j U, j ≠ i → SS[j]? = some U → ∀ g ∈ U, g ∉ T := by
  induction SS with
  | nil => intro i T h; simp at h
  | cons A SS ih =>
    intro i T hT hn
    rw [List.flatten_cons, List.nodup_append] at hn
    obtain ⟨h1, h2, h3⟩ := hn
    cases i with
    | zero =>
      simp at hT
      subst hT
      refine ⟨h1, fun j U hj hU g hg hgA => ?_⟩
      cases j with
      | zero => exact hj rfl
      | succ j => simp at hU; exact h3 g hgA g (mem_flat hU hg) rfl
    | succ i =>
      simp at hT
      obtain ⟨a, b⟩ := ih hT h2
      refine ⟨a, fun j U hj hU g hg hgT => ?_⟩
      cases j with
      | zero => simp at hU; subst hU; exact h3 g hg g (mem_flat hT hgT) rfl
      | succ j => simp at hU; exact b j U (by omega) hU g hg hgT

/-- A row's cells at i set anew. -/
theorem drows_set (l : List (D × Value)) (i : Nat) (d0 : D) (u : Value) (h : l[i]? = some (d0, u)) (d : D) :
    ((((drows l).set (i * 5) (.int .i64 d.op)).set (i * 5 + 1) (.int .i64 d.at_)).set (i * 5 + 2) (.int .i64 d.n)).set (i * 5 + 3) (.string d.s) = drows (l.set i (d, u)) := by
  obtain ⟨hi, he⟩ := List.getElem?_eq_some_iff.1 h
  have e1 : l = l.take i ++ (d0, u) :: l.drop (i + 1) := by
    rw [← he, ← List.drop_eq_getElem_cons hi, List.take_append_drop]
  have e2 : l.set i (d, u) = l.take i ++ (d, u) :: l.drop (i + 1) := List.set_eq_take_append_cons_drop.trans (by rw [if_pos hi])
  have hl : (drows (l.take i)).length = i * 5 := by rw [drows_length, List.length_take]; congr 1; omega
  have a : ∀ q : D × Value, drows (l.take i ++ q :: l.drop (i + 1)) = drows (l.take i) ++ (dcells q ++ drows (l.drop (i + 1))) := by
    intro q; rw [drows_append]; rfl
  have s : ∀ (c : List Value) (j : Nat) (x : Value), (drows (l.take i) ++ c).set (i * 5 + j) x = drows (l.take i) ++ c.set j x := by
    intro c j x
    rw [List.set_append_right _ _ (by omega), hl]
    congr 2; omega
  rw [e2, a]
  conv => lhs; rw [e1, a]
  have s0 : (drows (l.take i) ++ (dcells (d0, u) ++ drows (l.drop (i + 1)))).set (i * 5) (.int .i64 d.op) = _ := s (dcells (d0, u) ++ drows (l.drop (i + 1))) 0 (.int .i64 d.op)
  rw [s0, s, s, s]
  rfl

/-- One round: the row's cells are marked, then the kid's rows. -/
theorem mark_step {w w' : World} {len g cap k i : Nat} {kid : Nat → D} {l : List (D × Value)} {SS : List (List Nat)} {u : Value} {T : List Nat}
    (hown : w.ownsRow 0 33 5 (.slice (some ⟨g, 0, none⟩) len cap) len (drows (l.set i (markK kid k i, u)))) (hl : l.length = len) (hS : SS.length = len) (hks : Ks (markTo kid k i) l) (hn : (g :: SS.flatten).Nodup) (hi : i < len)
    (hrest : ∀ j, j < len → ∃ u T, l[j]? = some (markTo kid k i j, u) ∧ SS[j]? = some T ∧ (j ≠ i → DOwn w (markTo kid k i j) u T)) (hlu : l[i]? = some (markTo kid k i i, u)) (hT : SS[i]? = some T)
    (hf : FrS w w' T) (hd : DOwn w' (markK kid k i) u T) (hlt : ∀ g ∈ SS.flatten, g < w.heap.size) : SOwn w' len (markTo kid k (i + 1)) (.slice (some ⟨g, 0, none⟩) len cap) (g :: SS.flatten) := by
  have hgn : g ∉ SS.flatten := (List.nodup_cons.1 hn).1
  obtain ⟨hTn, hdis⟩ := flat_split hT (List.nodup_cons.1 hn).2
  have hgT : g ∉ T := fun h => hgn (mem_flat hT h)
  have hgl : g < w.heap.size := (hown.lt g rfl).2
  refine .inr ⟨g, cap, l.set i (markK kid k i, u), SS, rfl, own_same hown (fun g' hg' => ?_), by simpa using hl, hS, ?_, rfl, fun j hj => ?_⟩
  · simp only [Value.ownBlock, Option.some.injEq] at hg'
    subst hg'
    exact hf.block g hgl hgT
  · intro j q hq
    rw [List.getElem?_set] at hq
    by_cases hji : i = j
    · subst hji
      rw [if_pos rfl, if_pos (by omega)] at hq
      injection hq with hq
      subst hq
      simp [markTo]
    · rw [if_neg hji] at hq
      rw [hks j q hq]
      unfold markTo
      by_cases h : j < i
      · rw [if_pos h, if_pos (by omega)]
      · rw [if_neg h, if_neg (by omega)]
  · by_cases hji : j = i
    · subst hji
      refine ⟨u, T, ?_, hT, ?_⟩
      · rw [List.getElem?_set, if_pos rfl, if_pos (by omega)]; simp [markTo]
      · have : markTo kid k (j + 1) j = markK kid k j := by simp [markTo]
        rw [this]; exact hd
    · obtain ⟨uj, Tj, k1, k2, k3⟩ := hrest j hj
      have hm : markTo kid k (i + 1) j = markTo kid k i j := by
        unfold markTo
        by_cases h : j < i
        · rw [if_pos h, if_pos (by omega)]
        · rw [if_neg h, if_neg (by omega)]
      refine ⟨uj, Tj, ?_, k2, ?_⟩
      · rw [List.getElem?_set, if_neg (fun e => hji e.symm), hm]; exact k1
      · rw [hm]
        exact (k3 hji).same _ (fun g' hg' => hf.block g' (hlt g' (mem_flat k2 hg')) (hdis j Tj hji k2 g' hg'))

theorem SOwn.congr {w : World} {len : Nat} {kid kid' : Nat → D} {v : Value} {S : List Nat} (h : SOwn w len kid v S) (he : ∀ i, i < len → kid i = kid' i) : SOwn w len kid' v S := by
  rcases h with h0 | ⟨g, cap, l, SS, h1, h2, h3, h4, h5, h6, h7⟩
  · exact .inl h0
  · refine .inr ⟨g, cap, l, SS, h1, h2, h3, h4, fun i q hq => ?_, h6, fun i hi => ?_⟩
    · have hi : i < len := by have := (List.getElem?_eq_some_iff.1 hq).1; omega
      rw [h5 i q hq, he i hi]
    · obtain ⟨u, T, k1, k2, k3⟩ := h7 i hi
      exact ⟨u, T, by rw [k1, he i hi], k2, by rw [← he i hi]; exact k3⟩

theorem mark_text_c (c : Nat) (h : c ≤ 99999999999990) (w : World) :
    Calls Try.prog 68 #[.int .i64 ((c : Int) + 1 + 1 + 1)] w fun e w' => e = .returned (.string (markB (c + 3))) ∧ Below w.heap.size w w' := by
  have := mark_text (c + 3) (by omega) (by omega) w
  rwa [show ((c + 3 : Nat) : Int) = (c : Int) + 1 + 1 + 1 from by omega] at this

theorem markD_op (t : D) (c : Nat) (h : t ≠ .no) : (markD t c).op = c ∧ (markD t c).at_ = ((c + 1 : Nat) : Int) ∧ (markD t c).n = ((c + 2 : Nat) : Int) ∧ (markD t c).s = markB (c + 3) := by
  cases t with
  | no => exact absurd rfl h
  | mk op a n s l kd => exact ⟨rfl, rfl, rfl, rfl⟩

theorem markD_own {w : World} {t : D} {c : Nat} {u : Value} {T : List Nat} (h : t ≠ .no) (hb : (markB (c + 3)).size ≤ maxLen) (hc : c ≤ 100000000000000) (hs : SOwn w t.len (markK t.kid (c + 4)) u T) : DOwn w (markD t c) u T := by
  cases t with
  | no => exact absurd rfl h
  | mk op a n s l kd => exact ⟨⟨hb, by omega, by omega⟩, hs⟩

theorem markB_size (c : Nat) (h : c ≤ 200000000000000) : (markB c).size ≤ maxLen := by
  have h1 : (markB c).size = 1 + (Lib.decDigits c).length := by show ((109 :: Lib.decDigits c).toArray).size = _; simp; omega
  have h2 : (Lib.decDigits c).length ≤ 20 := by rw [Lib.decDigits_length]; exact Lib.nDigits_le20 c (by omega)
  unfold maxLen; omega

set_option maxRecDepth 100000 in
set_option maxHeartbeats 4000000 in
theorem mark_dats (len : Nat) (kid : Nat → D) (ih : ∀ i, i < len → MarkAt (kid i)) (w : World) (v : Value) (S : List Nat) (k : Nat) (hv : SOwn w len kid v S) (hnd : S.Nodup) (hk0 : 0 < k) (hk : k + 4 * sumTo (fun j => (kid j).count) len ≤ 90000000000000) :
    Calls Try.prog 43 #[v, .int .i64 k] w fun e w' => e = .returned (.int .i64 ((k + 4 * sumTo (fun j => (kid j).count) len : Nat) : Int)) ∧ SOwn w' len (markK kid k) v S ∧ FrS w w' S := by
  have HV : Hid (SOwn w len kid v S) := hv
  have hsh := hv.sl.at
  have HND : Hid (S.Nodup) := hnd
  have IH : Hid (∀ i, i < len → MarkAt (kid i)) := ih
  have HKK : Hid (k + 4 * sumTo (fun j => (kid j).count) len ≤ 90000000000000) := hk
  obtain ⟨p, cap, rfl, hlen, -⟩ := hsh
  clear ih hv hnd hk
  unfold maxLen at hlen
  go_enter Try.func43, Try.ntmps43
  go_wp2_with fail
  go_loopw [1, 5] (fun x i wr => ∃ j c : Nat, i = .int .i64 j ∧ x = .int .i64 c ∧ j ≤ len ∧ c = k + 4 * sumTo (fun j => (kid j).count) j ∧ SOwn wr len (markTo kid k j) (.slice p len cap) S ∧ FrS w wr S) (fun _ i _ => len - (intOf i).toNat)
  case atStart => exact ⟨0, k, rfl, rfl, Nat.zero_le _, by simp [sumTo], by rw [markTo_zero]; exact HV.out, FrS.refl _ _⟩
  case round =>
    obtain ⟨j, c, rfl, rfl, hj, hc, hso, hfr⟩ := hrel
    have HFR : Hid (FrS w wr S) := hfr
    have HCC : Hid (c = k + 4 * sumTo (fun j => (kid j).count) j) := hc
    have HSO : Hid (SOwn wr len (markTo kid k j) (.slice p len cap) S) := hso
    clear hc hso hfr
    by_cases hlt : (j : Int) < len
    · have hlt' : j < len := by omega
      have hso := HSO.out
      rcases hso with ⟨h0, _⟩ | ⟨g, cap', l, SS, he, hown, hl, hSl, hks, hSe, heach⟩
      · omega
      injection he with he1 _ he2
      subst he1 he2
      obtain ⟨u, T, k1, k2, k3⟩ := heach j hlt'
      have hn : (g :: SS.flatten).Nodup := by have := HND.out; rw [hSe] at this; exact this
      have hdj : DOwn wr (kid j) u T := by rw [markTo_at] at k3; exact k3
      have hltS : ∀ x ∈ SS.flatten, x < wr.heap.size := fun x hx => HSO.out.lt x (by rw [hSe]; exact List.mem_cons_of_mem _ hx)
      have hsum := sumTo_at (fun j => (kid j).count) j len hlt'
      have hcount : 1 ≤ (kid j).count := by rw [D.count_eq]; omega
      have hcb : c + 4 * (kid j).count ≤ 90000000000000 := by have h1 := HCC.out; have h2 := HKK.out; omega
      have hc0 : 0 < c := by have := HCC.out; omega
      have HCE : Hid ((kid j).count = 1 + sumTo (fun i => ((kid j).kid i).count) (kid j).len) := (kid j).count_eq
      have hmj : markK kid k j = markD (kid j) c := by unfold markK; rw [HCC.out]
      obtain ⟨e0, e1, e2, e3⟩ := markD_op (kid j) c hdj.ne
      have HOW : Hid (wr.ownsRow 0 33 5 (.slice (some ⟨g, 0, none⟩) len cap) len (drows l)) := hown
      have hf : ∀ x, wr.frozen? ⟨g, x, none⟩ = false := fun x => hown.frozenAt x
      have hcl : ∀ x, x < 5 → wr.cell? ⟨g, j * 5 + x, none⟩ = (dcells (markTo kid k j j, u))[x]? := by
        intro x hx
        rw [hown.cellAt (j * 5 + x) (by omega)]
        have := drows_at l [] j _ k1 x hx
        simpa using this
      have u0 := hcl 0 (by omega); have u1 := hcl 1 (by omega); have u2 := hcl 2 (by omega); have u3 := hcl 3 (by omega); have u4 := hcl 4 (by omega)
      simp only [dcells, Nat.add_zero, List.getElem?_cons_zero, List.getElem?_cons_succ] at u0 u1 u2 u3 u4
      clear hcl
      have HQ : Hid (((((drows l).set (j * 5) (.int .i64 (c : Int))).set (j * 5 + 1) (.int .i64 ((c : Int) + 1))).set (j * 5 + 2) (.int .i64 ((c : Int) + 1 + 1))).set (j * 5 + 3) (.string (markB (c + 3))) = drows (l.set j (markK kid k j, u))) := by
        show _ = _
        rw [hmj, ← drows_set l j _ u k1 (markD (kid j) c), e0, e1, e2, e3]
        have x1 : ((c + 1 : Nat) : Int) = (c : Int) + 1 := by omega
        have x2 : ((c + 2 : Nat) : Int) = (c : Int) + 1 + 1 := by omega
        rw [x1, x2]
      have HREST : Hid (∀ i, i < len → ∃ u T, l[i]? = some (markTo kid k j i, u) ∧ SS[i]? = some T ∧ DOwn wr (markTo kid k j i) u T) := heach
      have HDJ : Hid (DOwn wr (kid j) u T) := hdj
      have HNN : Hid ((g :: SS.flatten).Nodup ∧ S = g :: SS.flatten ∧ (∀ x ∈ SS.flatten, x < wr.heap.size) ∧ l.length = len ∧ SS.length = len ∧ Ks (markTo kid k j) l ∧ l[j]? = some (markTo kid k j j, u) ∧ SS[j]? = some T ∧ markK kid k j = markD (kid j) c) := ⟨hn, hSe, hltS, hl, hSl, hks, k1, k2, hmj⟩
      generalize (markTo kid k j j).op = z0 at u0
      generalize (markTo kid k j j).at_ = z1 at u1
      generalize (markTo kid k j j).n = z2 at u2
      generalize (markTo kid k j j).s = z3 at u3
      clear heach hown hdj hn hSe hltS hks k1 k2 k3 hmj e0 e1 e2 e3 hsum hl hSl HV
      go_wp2_with fail
      refine (mark_text_c c (by omega) _).mono ?_
      rintro e w1 ⟨rfl, hb1⟩
      obtain ⟨q1, g1⟩ := HOW.out.stored (j * 5) (.int .i64 (c : Int))
      obtain ⟨q2, g2⟩ := q1.stored (j * 5 + 1) (.int .i64 ((c : Int) + 1))
      obtain ⟨q3, g3⟩ := q2.stored (j * 5 + 2) (.int .i64 ((c : Int) + 1 + 1))
      have q4 := own_below5 q3 hb1
      have hf1 : ∀ x, w1.frozen? ⟨g, x, none⟩ = false := fun x => q4.frozenAt x
      have hc1 : ∃ x, w1.cell? ⟨g, j * 5 + 3, none⟩ = some x := by
        have hlx : j * 5 + 3 < (drows l).length := by rw [drows_length, HNN.out.2.2.2.1]; omega
        exact ⟨_, (q4.cellAt (j * 5 + 3) (by omega)).trans (List.getElem?_eq_getElem (by simp only [List.length_set]; exact hlx))⟩
      obtain ⟨x3, hx3⟩ := hc1
      have hx4 : w1.cell? ⟨g, j * 5 + 4, none⟩ = some u := by
        rw [q4.cellAt (j * 5 + 4) (by omega), List.getElem?_set_ne (by omega), List.getElem?_set_ne (by omega), List.getElem?_set_ne (by omega), ← HOW.out.cellAt (j * 5 + 4) (by omega)]
        exact u4
      obtain ⟨q5, g5⟩ := q4.stored (j * 5 + 3) (.string (markB (c + 3)))
      rw [HQ.out] at q5
      have hu4 : (w1.setCell ⟨g, j * 5 + 3, none⟩ (.string (markB (c + 3)))).cell? ⟨g, j * 5 + 4, none⟩ = some u := by
        have h1 := q5.cellAt (j * 5 + 4) (by omega)
        rw [h1]
        have h2 : (l.set j (markK kid k j, u))[j]? = some (markK kid k j, u) := by rw [List.getElem?_set, if_pos rfl, if_pos (by rw [HNN.out.2.2.2.1]; omega)]
        have h3 := drows_at (l.set j (markK kid k j, u)) [] j _ h2 4 (by omega)
        rw [List.append_nil] at h3
        exact h3
      have F5 : FrS wr (w1.setCell ⟨g, j * 5 + 3, none⟩ (.string (markB (c + 3)))) [g] :=
        ((FrS.grown (S := [g]) (grownb (grownb g1 g2) g3) (by simp)).trans (FrS.below hb1 _)).trans (FrS.grown g5 (by simp))
      have Q5 : Hid ((w1.setCell ⟨g, j * 5 + 3, none⟩ (.string (markB (c + 3)))).ownsRow 0 33 5 (.slice (some ⟨g, 0, none⟩) len cap) len (drows (l.set j (markK kid k j, u)))) := q5
      have HF5 : Hid (FrS wr (w1.setCell ⟨g, j * 5 + 3, none⟩ (.string (markB (c + 3)))) [g]) := F5
      have hgf : ∀ x ∈ SS.flatten, (w1.setCell ⟨g, j * 5 + 3, none⟩ (.string (markB (c + 3)))).heap[x]? = wr.heap[x]? := fun x hx =>
        F5.block x (HNN.out.2.2.1 x hx) (by simp only [List.mem_singleton]; rintro rfl; exact (List.nodup_cons.1 HNN.out.1).1 hx)
      have HGF : Hid (∀ x ∈ SS.flatten, (w1.setCell ⟨g, j * 5 + 3, none⟩ (.string (markB (c + 3)))).heap[x]? = wr.heap[x]?) := hgf
      clear q1 q2 q3 q4 q5 g1 g2 g3 g5 F5 hb1 hgf u0 u1 u2 u3 u4 hf HQ HOW
      have e4 : (c : Int) + 1 + 1 + 1 + 1 = ((c + 4 : Nat) : Int) := by omega
      go_wp2_with fail
      generalize hW5 : w1.setCell ⟨g, j * 5 + 3, none⟩ (.string (markB (c + 3))) = W5 at *
      obtain ⟨n1, n2, n3, n4, n5, n6, n7, n8, n9⟩ := HNN.out
      have hdj5 : DOwn W5 (kid j) u T := HDJ.out.same _ (fun x hx => HGF.out x (mem_flat n8 hx))
      have hTn := (flat_split n8 (List.nodup_cons.1 n1).2).1
      refine (IH.out j hlt' W5 u T (c + 4) hdj5.sown hTn (by omega) (by have := HCE.out; omega)).mono ?_
      rintro e w6 ⟨rfl, hs6, hf6⟩
      have hd6 : DOwn w6 (markK kid k j) u T := by
        rw [n9]
        exact markD_own hdj5.ne (markB_size _ (by omega)) (by omega) hs6
      have hnew : SOwn w6 len (markTo kid k (j + 1)) (.slice (some ⟨g, 0, none⟩) len cap) (g :: SS.flatten) :=
        mark_step Q5.out n4 n5 n6 n1 hlt' (fun i hi => by
          obtain ⟨ui, Ti, m1, m2, m3⟩ := HREST.out i hi
          exact ⟨ui, Ti, m1, m2, fun _ => m3.same _ (fun x hx => HGF.out x (mem_flat m2 hx))⟩) n7 n8 hf6 hd6 (fun x hx => Nat.lt_of_lt_of_le (n3 x hx) HF5.out.size)
      rw [← n2] at hnew
      have hfr6 : FrS w w6 S := HFR.out.trans ((HF5.out.mono (fun x hx => by simp only [List.mem_singleton] at hx; rw [n2, hx]; simp)).trans (hf6.mono (fun x hx => by rw [n2]; exact List.mem_cons_of_mem _ (mem_flat n8 hx))))
      have hN : c + 4 + 4 * sumTo (fun i => ((kid j).kid i).count) (kid j).len = k + 4 * sumTo (fun j => (kid j).count) (j + 1) := by
        have h1 := HCC.out
        have h2 := HCE.out
        simp only [sumTo]
        omega
      rw [hN]
      generalize hgen : k + 4 * sumTo (fun j => (kid j).count) (j + 1) = c2 at *
      have HG : Hid (c2 = k + 4 * sumTo (fun j => (kid j).count) (j + 1) ∧ SOwn w6 len (markTo kid k (j + 1)) (.slice (some ⟨g, 0, none⟩) len cap) S ∧ FrS w w6 S) := ⟨hgen.symm, hnew, hfr6⟩
      clear hgen hN hnew hfr6 hd6 hs6 hf6 hdj5 hTn n1 n2 n3 n4 n5 n6 n7 n8 n9 e4
      go_wp2_with fail
      go_roundw
      case rel => exact ⟨j + 1, c2, by go_num, rfl, by omega, HG.out.1, HG.out.2.1, HG.out.2.2⟩
      case measure => simp [intOf]; omega
    · have hje : j = len := by omega
      subst hje
      go_wp2_with fail
      go_ret
      have h : (k : Int) + 4 * (sumTo (fun j => (kid j).count) j : Nat) = (c : Int) := by have := HCC.out; omega
      refine ⟨by rw [h]; rfl, ?_, HFR.out⟩
      exact HSO.out.congr (fun i hi => by unfold markTo; rw [if_pos hi])

theorem mark_all (t : D) : MarkAt t := by
  induction t with
  | no => intro w v S k hv hn hk0 hk; exact mark_dats 0 _ (fun i hi => by omega) w v S k hv hn hk0 hk
  | mk op a n s len kid ih => intro w v S k hv hn hk0 hk; exact mark_dats len kid (fun i _ => ih i) w v S k hv hn hk0 hk
end Go.Proofs.Ytoifhaakieigcaa
