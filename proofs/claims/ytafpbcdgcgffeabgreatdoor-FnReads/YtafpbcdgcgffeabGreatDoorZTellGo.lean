/- (*impl.datTeller).goOn. Conditions: what is told is small; those of impl.Digits. -/
import Derived.Test.YtafpbcdgcgffeabGreatDoorZTellBegin
namespace Go.Proofs.YtafpbcdgcgffeabGreatDoor
open Go.ChangeShapes Go.WideShapes Go.ChangeAt Go.RowKit

/-- What goOn does: what is told in the end is the same, by one round less. -/
def Gone (w0 : World) (K : Nat) (all : List UInt8) (goes : Nat) (e : Ending) (w' : World) : Prop :=
  e = .returned (.tuple #[]) ∧ Below w0.heap.size w0 w' ∧ ∃ bv' ov' txt' st', Tell w' K (self K) bv' ov' txt' st' ∧ txt' ++ leftAll st' = all ∧ goesAll st' + 1 = goes ∧ OpsIn w0 st'

theorem own_cut2 {w : World} {base e size g n m cap : Nat} {xs ys : List Value} (h : w.ownsRow base e size (.slice (some ⟨g, 0, none⟩) m cap) m (xs ++ ys)) (hx : xs.length = n * size) (hm : n ≤ m) :
    w.ownsRow base e size (.slice (some ⟨g, 0, none⟩) n cap) n xs := by
  refine ⟨hx, ?_⟩
  rcases h.2 with ⟨h0, _⟩ | ⟨g', cap', cur, he, hbg, hgg, hc, hmx, hs, ht⟩
  · cases h0
  · injection he with h1 h2 h3
    injection h1 with h1
    injection h1 with h1
    subst h1 h3
    refine .inr ⟨_, _, cur, rfl, hbg, hgg, by omega, hmx, hs, ?_⟩
    have h9 := congrArg (List.take (n * size)) ht
    rw [List.take_take, Nat.min_eq_left (Nat.mul_le_mul_right _ hm), List.take_append_of_le_length (by omega)] at h9
    rw [h9, List.take_of_length_le (by omega)]

theorem own_some {w : World} {base e size n : Nat} {v : Value} {xs : List Value} (h : w.ownsRow base e size v (n + 1) xs) : ∃ g cap, v = .slice (some ⟨g, 0, none⟩) (n + 1) cap ∧ n + 1 ≤ cap ∧ cap ≤ maxLen ∧ base ≤ g ∧ g < w.heap.size := by
  rcases h.2 with ⟨_, h0⟩ | ⟨g, cap, cur, rfl, hb, hg, hc, hm, _⟩
  · omega
  · exact ⟨g, cap, rfl, hc, hm, hb, (Array.getElem?_eq_some_iff.1 hg).1⟩

/-- The innermost list's cells. -/
theorem inner {w : World} {base e g cap rn : Nat} {r : List Op} {q : Op} (h : w.ownsRow base e 2 (.slice (some ⟨g, 0, none⟩) (rn + 1) cap) (rn + 1) (orows (r ++ [q]))) (hr : r.length = rn) :
    w.cell? ⟨g, rn * 2, none⟩ = some q.v ∧ w.cell? ⟨g, rn * 2 + 1, none⟩ = some (.int .i64 q.k) ∧ (∀ j, w.frozen? ⟨g, j, none⟩ = false) := by
  have e : orows (r ++ [q]) = orows r ++ [q.v, .int .i64 q.k] := by rw [orows_append]; rfl
  rw [e] at h
  have hl := orows_length r
  refine ⟨?_, ?_, fun j => h.frozenAt j⟩
  · rw [h.cellAt (rn * 2) (by omega), List.getElem?_append_right (by omega), hl, hr]; simp
  · rw [h.cellAt (rn * 2 + 1) (by omega), List.getElem?_append_right (by omega), hl, hr]
    rw [show rn * 2 + 1 - rn * 2 = 1 from by omega]; rfl

/-- The innermost list's next goes on. -/
theorem Tell.next {w : World} {K g cap : Nat} {q bv : Value} {txt : List UInt8} {r : List Op} {t : D} {v : Value} {k : Nat} (h : Tell w K q bv (.slice (some ⟨g, 0, none⟩) (r.length + 1) cap) txt (r ++ [⟨t, v, k⟩])) :
    Tell (w.setCell ⟨g, r.length * 2 + 1, none⟩ (.int .i64 ((k : Int) + 1))) K q bv (.slice (some ⟨g, 0, none⟩) (r.length + 1) cap) txt (r ++ [⟨t, v, k + 1⟩]) ∧ Below K w (w.setCell ⟨g, r.length * 2 + 1, none⟩ (.int .i64 ((k : Int) + 1))) := by
  have ho := h.opn
  have hlen : (r ++ [(⟨t, v, k⟩ : Op)]).length = r.length + 1 := by simp
  rw [hlen] at ho
  have hg := (ho.lt g rfl).1
  obtain ⟨o1, g1⟩ := ho.stored (r.length * 2 + 1) (.int .i64 ((k : Int) + 1))
  have e : ((orows (r ++ [(⟨t, v, k⟩ : Op)])).set (r.length * 2 + 1) (.int .i64 ((k : Int) + 1))) = orows (r ++ [⟨t, v, k + 1⟩]) := by
    rw [orows_append, orows_append, List.set_append_right _ _ (by rw [orows_length]; omega), orows_length]
    rw [show r.length * 2 + 1 - r.length * 2 = 1 from by omega]; rfl
  rw [e] at o1
  refine ⟨⟨(g1.block K h.lt (by intro e; injection e with e; omega)).trans h.blk, h.buf.kept g1 (rows_ne h.buf h.opn (by decide)), ?_⟩, (Below.refl K w).setCell (p := ⟨g, r.length * 2 + 1, none⟩) (by show K ≤ g; omega) _⟩
  have hlen2 : (r ++ [(⟨t, v, k + 1⟩ : Op)]).length = r.length + 1 := by simp
  rw [hlen2]
  exact o1

/-- The innermost list is left. -/
theorem Tell.popped {w : World} {K g cap : Nat} {q bv : Value} {txt : List UInt8} {r : List Op} {x : Op} (h : Tell w K q bv (.slice (some ⟨g, 0, none⟩) (r.length + 1) cap) txt (r ++ [x])) :
    Tell (w.setCell ⟨K, 2, none⟩ (.slice (some ⟨g, 0, none⟩) r.length cap)) K q bv (.slice (some ⟨g, 0, none⟩) r.length cap) txt r ∧ Below K w (w.setCell ⟨K, 2, none⟩ (.slice (some ⟨g, 0, none⟩) r.length cap)) := by
  have ho := h.opn
  have hlen : (r ++ [x]).length = r.length + 1 := by simp
  rw [hlen, orows_append] at ho
  exact ⟨⟨heap_setCell_same w K 2 _ _ _ h.blk, own_setK h.buf _, own_setK (own_cut2 (n := r.length) ho (orows_length r) (by omega)) _⟩, (Below.refl K w).setCell (p := ⟨K, 2, none⟩) (Nat.le_refl _) _⟩

set_option maxRecDepth 100000 in
set_option maxHeartbeats 4000000 in
theorem go_pop (w0 w : World) (K : Nat) (hK : w0.heap.size ≤ K) (r : List Op) (t : D) (pv : Option Addr) (cv : Nat) (bv ov : Value) (txt : List UInt8) (hbel : Below w0.heap.size w0 w) (T : Tell w K (self K) bv ov txt (r ++ [⟨t, .slice pv t.len cv, t.len⟩])) (hin : OpsIn w0 (r ++ [⟨t, .slice pv t.len cv, t.len⟩])) (hl : txt.length ≤ 33554432) (hr : r.length ≤ 4194304) :
    Calls Tryz.prog 35 #[self K] w (Gone w0 K (txt ++ leftAll (r ++ [⟨t, .slice pv t.len cv, t.len⟩])) (goesAll (r ++ [⟨t, .slice pv t.len cv, t.len⟩]))) := by
  have HALL : Hid ((txt ++ [41]) ++ leftAll r = txt ++ leftAll (r ++ [⟨t, .slice pv t.len cv, t.len⟩]) ∧ goesAll r + 1 = goesAll (r ++ [⟨t, .slice pv t.len cv, t.len⟩]) ∧ OpsIn w0 r) := by
    refine ⟨?_, ?_, fun q hq => hin q (List.mem_append_left _ hq)⟩
    · rw [leftAll_snoc, Op.left_end _ rfl]; simp
    · rw [goesAll_snoc, Op.goes_end _ rfl]
  have ho := T.opn
  have hlen : (r ++ [(⟨t, .slice pv t.len cv, t.len⟩ : Op)]).length = r.length + 1 := by simp
  rw [hlen] at ho
  obtain ⟨g, cap, rfl, hc1, hc2, hg1, hg2⟩ := own_some ho
  obtain ⟨i0, i1, -⟩ := inner ho rfl
  have HT : Hid (Tell w K (self K) bv (.slice (some ⟨g, 0, none⟩) (r.length + 1) cap) txt (r ++ [⟨t, .slice pv t.len cv, t.len⟩])) := T
  have o2 := T.c2
  have HB : Hid (Below w0.heap.size w0 w) := hbel
  generalize txt ++ leftAll (r ++ [⟨t, .slice pv t.len cv, t.len⟩]) = AA at *
  generalize goesAll (r ++ [⟨t, .slice pv t.len cv, t.len⟩]) = GG at *
  clear T hin ho hlen hbel
  unfold maxLen at hc2
  go_enter Tryz.func35, Tryz.ntmps35
  go_wp2_with fail
  go_region
  all_goals
    go_wp2_with fail
    go_region
    all_goals
      go_wp2_with fail
      refine (tell_byte _ K (self K) bv _ txt _ 41 HT.out.drew.drew (.inr rfl) (by omega)).mono ?_
      rintro e W ⟨rfl, ⟨bv', hT2⟩, hB2, -⟩
      have k2 := hT2.c2
      have kf := hT2.fr 2
      obtain ⟨q1, q2⟩ := hT2.popped
      have Q : Hid (Tell (W.setCell ⟨K, 2, none⟩ (.slice (some ⟨g, 0, none⟩) r.length cap)) K (self K) bv' (.slice (some ⟨g, 0, none⟩) r.length cap) (txt ++ [41]) r ∧ Below w0.heap.size w0 (W.setCell ⟨K, 2, none⟩ (.slice (some ⟨g, 0, none⟩) r.length cap))) := ⟨q1, (HB.out.drew.drew.trans (hB2.mono hK)).trans (q2.mono hK)⟩
      clear q1 q2 hT2 hB2 i0 i1 o2 HT HB
      go_wp2_with fail
      go_region
      all_goals
        go_wp2_with fail
        refine bodyPost_ret (results_none rfl _ _ _) rfl ?_
        exact ⟨rfl, Q.out.2.drew, bv', _, _, r, Q.out.1.drew, HALL.out.1, HALL.out.2.1, HALL.out.2.2⟩

/-- Behind the blank: the next kid is begun. -/
theorem gone_of {w0 : World} {K : Nat} {txt : List UInt8} {r : List Op} {t : D} {v u : Value} {k : Nat} {AA : List UInt8} {GG : Nat} (hk : k < t.len) (hin : OpsIn w0 (r ++ [⟨t, v, k⟩])) (hu : (t.kid k).In w0 u)
    (hA : txt ++ leftAll (r ++ [⟨t, v, k⟩]) = AA) (hG : goesAll (r ++ [⟨t, v, k⟩]) = GG) {e : Ending} {w' : World} (h : Begun w0 K (txt ++ sep k) (r ++ [⟨t, v, k + 1⟩]) (t.kid k) u e w') : Gone w0 K AA GG e w' := by
  obtain ⟨h1, h2, bv', ov', h3⟩ := h
  have hq := hin ⟨t, v, k⟩ (by simp)
  refine ⟨h1, h2, bv', ov', _, _, h3, ?_, ?_, ?_⟩
  · rw [← hA, leftAll_snoc, Op.left_next t v k hk]
    unfold begunT begunS
    by_cases h : (t.kid k).op = 3
    · rw [if_pos h, if_pos h, leftAll_snoc, leftAll_snoc, ← Op.left_new (t.kid k) u h]; simp
    · rw [if_neg h, if_neg h, List.append_nil, leftAll_snoc]; simp
  · rw [← hG, goesAll_snoc, Op.goes_next t v k hk]
    unfold begunS
    by_cases h : (t.kid k).op = 3
    · rw [if_pos h, goesAll_snoc, goesAll_snoc, Op.goes_new (t.kid k) u h]; omega
    · rw [if_neg h, List.append_nil, goesAll_snoc, D.goes_else _ h]; omega
  · intro q hq'
    rcases List.mem_append.1 hq' with hq' | hq'
    · rcases List.mem_append.1 hq' with hq' | hq'
      · exact hin q (List.mem_append_left _ hq')
      · simp only [List.mem_singleton] at hq'
        subst hq'
        exact ⟨hq.1, by show k + 1 ≤ t.len; omega⟩
    · unfold begunS at hq'
      split at hq'
      · simp only [List.mem_singleton] at hq'
        subst hq'
        exact ⟨hu, Nat.zero_le _⟩
      · simp at hq'

theorem tell_begin (w0 w : World) (K : Nat) (hK : w0.heap.size ≤ K) (ht : PowTab w0) (d : D) (v : Value) (bv ov p : Value) (txt : List UInt8) (st : List Op) (hin : d.In w0 v) (hd : d.text.length ≤ 33554432) (hbel : Below w0.heap.size w0 w) (T : Tell w K p bv ov txt st) (hp : p = .pointer none ∨ p = self K) (hl : txt.length ≤ 67108864) (hs : st.length ≤ 4194304) :
    Calls Tryz.prog 34 #[self K, .agg #[.int .i64 d.op, .int .i64 d.at_, .int .i64 d.n, .string d.s, v]] w (Begun w0 K txt st d v) := by
  obtain ⟨pd, cd, rfl⟩ := hin.sl.shape
  by_cases h1 : d.op = 1
  · exact begin_num w0 w K d pd cd p bv ov txt st hK ht h1 hin.num hbel T hp (by omega)
  · by_cases h2 : d.op = 2
    · refine begin_sym w0 w K d pd cd p bv ov txt st hK h2 hbel T hp ?_
      rw [d.text_sym h2] at hd
      have : d.s.data.toList.length = d.s.size := by simp
      omega
    · by_cases h3 : d.op = 3
      · exact begin_list w0 w K d pd cd p bv ov txt st hK h3 hbel T hp (by omega) hs
      · exact begin_none w0 w K d pd cd p bv ov txt st hK h1 h2 h3 hbel T hp (by omega)

set_option maxRecDepth 100000 in
set_option maxHeartbeats 4000000 in
theorem go_next (w0 w : World) (K : Nat) (hK : w0.heap.size ≤ K) (ht : PowTab w0) (r : List Op) (t : D) (k : Nat) (pv : Option Addr) (cv : Nat) (bv ov : Value) (txt : List UInt8) (hk : k < t.len) (hbel : Below w0.heap.size w0 w) (T : Tell w K (self K) bv ov txt (r ++ [⟨t, .slice pv t.len cv, k⟩])) (hin : OpsIn w0 (r ++ [⟨t, .slice pv t.len cv, k⟩])) (hl : (txt ++ leftAll (r ++ [⟨t, .slice pv t.len cv, k⟩])).length ≤ 33554432) (hr : r.length ≤ 4194303) :
    Calls Tryz.prog 35 #[self K] w (Gone w0 K (txt ++ leftAll (r ++ [⟨t, .slice pv t.len cv, k⟩])) (goesAll (r ++ [⟨t, .slice pv t.len cv, k⟩]))) := by
  have hq := hin ⟨t, .slice pv t.len cv, k⟩ (by simp)
  obtain ⟨p2, cap2, he, hlen2, hat⟩ := hq.1.sl.at
  simp only [Value.slice.injEq] at he
  obtain ⟨rfl, -, rfl⟩ := he
  obtain ⟨b, o, u, rfl, hd, hinu⟩ := hat k hk
  have htl : txt.length ≤ 33554432 := by rw [List.length_append] at hl; omega
  have hkt : (t.kid k).text.length ≤ 33554432 := by
    rw [leftAll_snoc, Op.left_next t _ k hk] at hl
    simp only [List.length_append] at hl
    omega
  have HG : Hid (∀ e w', Begun w0 K (txt ++ sep k) (r ++ [⟨t, .slice (some ⟨b, o, none⟩) t.len cv, k + 1⟩]) (t.kid k) u e w' → Gone w0 K (txt ++ leftAll (r ++ [⟨t, .slice (some ⟨b, o, none⟩) t.len cv, k⟩])) (goesAll (r ++ [⟨t, .slice (some ⟨b, o, none⟩) t.len cv, k⟩])) e w') :=
    fun e w' h => gone_of hk hin hinu rfl rfl h
  have HBG : Hid (∀ w1 bv1 ov1 txt1 st1, Below w0.heap.size w0 w1 → Tell w1 K (self K) bv1 ov1 txt1 st1 → txt1.length ≤ 67108864 → st1.length ≤ 4194304 → Calls Tryz.prog 34 #[self K, .agg #[.int .i64 (t.kid k).op, .int .i64 (t.kid k).at_, .int .i64 (t.kid k).n, .string (t.kid k).s, u]] w1 (Begun w0 K txt1 st1 (t.kid k) u)) :=
    fun w1 bv1 ov1 txt1 st1 h1 h2 h3 h4 => tell_begin w0 w1 K hK ht (t.kid k) u bv1 ov1 (self K) txt1 st1 hinu hkt h1 h2 (.inr rfl) h3 h4
  have HD : Hid (∀ w1, Below w0.heap.size w0 w1 → Head w1 b (o + k * 5) (t.kid k) u) := fun w1 h => hd.below h
  obtain ⟨pu, cu, eu⟩ := hinu.sl.shape
  subst eu
  have ho := T.opn
  have hlen : (r ++ [(⟨t, .slice (some ⟨b, o, none⟩) t.len cv, k⟩ : Op)]).length = r.length + 1 := by simp
  rw [hlen] at ho
  obtain ⟨g, cap, rfl, hc1, hc2, hg1, hg2⟩ := own_some ho
  obtain ⟨i0, i1, -⟩ := inner ho rfl
  have HT : Hid (Tell w K (self K) bv (.slice (some ⟨g, 0, none⟩) (r.length + 1) cap) txt (r ++ [⟨t, .slice (some ⟨b, o, none⟩) t.len cv, k⟩])) := T
  have o2 := T.c2
  have HB : Hid (Below w0.heap.size w0 w) := hbel
  generalize txt ++ leftAll (r ++ [⟨t, .slice (some ⟨b, o, none⟩) t.len cv, k⟩]) = AA at *
  generalize goesAll (r ++ [⟨t, .slice (some ⟨b, o, none⟩) t.len cv, k⟩]) = GG at *
  clear T hin ho hlen hbel hq hat hinu hd
  unfold maxLen at hc2 hlen2
  have hke : ((k : Int) == (t.len : Int)) = false := by rw [beq_eq_false_iff_ne]; omega
  have HR : Hid (∀ x : Op, (r ++ [x]).length ≤ 4194304) := fun x => by simp; omega
  by_cases hk0 : (0 : Int) < k
  · have HSP : Hid (txt ++ sep k = txt ++ [32] ∧ (txt ++ [32]).length ≤ 67108864) := ⟨by unfold sep; rw [if_neg (by omega)], by simp; omega⟩
    go_enter Tryz.func35, Tryz.ntmps35
    go_wp2_with fail
    go_region
    all_goals
      go_wp2_with fail
      go_region
      all_goals
        go_wp2_with fail
        refine (tell_byte _ K (self K) bv _ txt _ 32 HT.out.drew.drew (.inr rfl) (by omega)).mono ?_
        rintro e W ⟨rfl, ⟨bv', hT2⟩, hB2, -⟩
        have HB2 : Hid (Below w0.heap.size w0 W) := HB.out.drew.drew.trans (hB2.mono hK)
        have ho2 := hT2.opn
        have hlen : (r ++ [(⟨t, .slice (some ⟨b, o, none⟩) t.len cv, k⟩ : Op)]).length = r.length + 1 := by simp
        rw [hlen] at ho2
        obtain ⟨j0, j1, jf⟩ := inner ho2 rfl
        obtain ⟨c0, c1, c2, c3, c4⟩ := HD.out W HB2.out
        have T2 : Hid (Tell W K (self K) bv' (.slice (some ⟨g, 0, none⟩) (r.length + 1) cap) (txt ++ [32]) (r ++ [⟨t, .slice (some ⟨b, o, none⟩) t.len cv, k⟩])) := hT2
        have hgW : g < W.heap.size := (ho2.lt g rfl).2
        clear hT2 hB2 i0 i1 o2 HT HB ho2 hlen
        simp only at j0 j1
        have a0 := fun x => keeps (newb W x) _ _ c0; have a1 := fun x => keeps (newb W x) _ _ c1; have a2 := fun x => keeps (newb W x) _ _ c2; have a3 := fun x => keeps (newb W x) _ _ c3; have a4 := fun x => keeps (newb W x) _ _ c4
        have b0 := fun x => keeps (newb W x) _ _ j0; have b1 := fun x => keeps (newb W x) _ _ j1
        go_wp2_with fail
        go_region
        all_goals
          go_wp2_with fail
          obtain ⟨n1, n2⟩ := T2.out.next
          refine (HBG.out _ bv' (.slice (some ⟨g, 0, none⟩) (r.length + 1) cap) (txt ++ [32]) (r ++ [⟨t, .slice (some ⟨b, o, none⟩) t.len cv, k + 1⟩]) ?_ ?_ HSP.out.2 (HR.out _)).mono ?_
          · exact ((HB2.out.trans (n2.mono hK)).alloc (Nat.le_trans HB2.out.size n2.size) _).drew
          · exact (n1.below (newb _ _)).drew
          · rintro e w3 hw3
            have hgn := HG.out e w3 (by rw [HSP.out.1]; exact hw3)
            obtain rfl := hw3.1
            have HGN : Hid (Gone w0 K AA GG (.returned (.tuple #[])) w3) := hgn
            clear hgn hw3 n1 n2
            go_wp2_with fail
            go_end0
            exact HGN.out
  · have HSP : Hid (txt ++ sep k = txt ∧ txt.length ≤ 67108864) := ⟨by unfold sep; rw [if_pos (by omega)]; simp, by omega⟩
    go_enter Tryz.func35, Tryz.ntmps35
    go_wp2_with fail
    go_region
    all_goals
      go_wp2_with fail
      go_region
      all_goals
        have T2 : Hid (Tell w.drew.drew K (self K) bv (.slice (some ⟨g, 0, none⟩) (r.length + 1) cap) txt (r ++ [⟨t, .slice (some ⟨b, o, none⟩) t.len cv, k⟩])) := HT.out.drew.drew
        have HB2 : Hid (Below w0.heap.size w0 w.drew.drew) := HB.out.drew.drew
        generalize w.drew.drew = W at *
        have ho2 := T2.out.opn
        have hlen : (r ++ [(⟨t, .slice (some ⟨b, o, none⟩) t.len cv, k⟩ : Op)]).length = r.length + 1 := by simp
        rw [hlen] at ho2
        obtain ⟨j0, j1, jf⟩ := inner ho2 rfl
        obtain ⟨c0, c1, c2, c3, c4⟩ := HD.out W HB2.out
        have hgW : g < W.heap.size := (ho2.lt g rfl).2
        clear i0 i1 o2 HT HB ho2 hlen
        simp only at j0 j1
        have a0 := fun x => keeps (newb W x) _ _ c0; have a1 := fun x => keeps (newb W x) _ _ c1; have a2 := fun x => keeps (newb W x) _ _ c2; have a3 := fun x => keeps (newb W x) _ _ c3; have a4 := fun x => keeps (newb W x) _ _ c4
        have b0 := fun x => keeps (newb W x) _ _ j0; have b1 := fun x => keeps (newb W x) _ _ j1
        go_wp2_with fail
        go_region
        all_goals
          go_wp2_with fail
          obtain ⟨n1, n2⟩ := T2.out.next
          refine (HBG.out _ bv (.slice (some ⟨g, 0, none⟩) (r.length + 1) cap) txt (r ++ [⟨t, .slice (some ⟨b, o, none⟩) t.len cv, k + 1⟩]) ?_ ?_ HSP.out.2 (HR.out _)).mono ?_
          · exact ((HB2.out.trans (n2.mono hK)).alloc (Nat.le_trans HB2.out.size n2.size) _).drew
          · exact (n1.below (newb _ _)).drew
          · rintro e w3 hw3
            have hgn := HG.out e w3 (by rw [HSP.out.1]; exact hw3)
            obtain rfl := hw3.1
            have HGN : Hid (Gone w0 K AA GG (.returned (.tuple #[])) w3) := hgn
            clear hgn hw3 n1 n2
            go_wp2_with fail
            go_end0
            exact HGN.out
end Go.Proofs.YtafpbcdgcgffeabGreatDoor
