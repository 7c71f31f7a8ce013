/- impl.DatText. Conditions: at most 2^20 in all; those of impl.Digits. -/
import Derived.Test.YtafpbcdgcgffeabGreatDoorZTellGo
import Derived.Deep.LoopGhost
namespace Go.Proofs.YtafpbcdgcgffeabGreatDoor
open Go.ChangeShapes Go.WideShapes Go.ChangeAt Go.RowKit

theorem own_zero (w : World) (base e size : Nat) : w.ownsRow base e size (.slice none 0 0) 0 [] := ⟨by simp, .inl ⟨rfl, rfl⟩⟩

theorem D.text_few (w : World) (t : D) (v : Value) (h : t.In w v) (hw : t.weight ≤ 1048576) : t.text.length ≤ 33554432 := by
  have h1 := t.text_len w v h
  have h2 := t.count_weight
  omega

theorem begun_all (x : D) (v : Value) : begunT x ++ leftAll (begunS x v) = x.text := by
  unfold begunT begunS
  by_cases h : x.op = 3
  · rw [if_pos h, if_pos h, ← Op.left_new x v h]; simp [leftAll]
  · rw [if_neg h, if_neg h]; simp [leftAll]
theorem begun_goes (x : D) (v : Value) : goesAll (begunS x v) ≤ 2 * x.count := by
  unfold begunS
  by_cases h : x.op = 3
  · have := x.goes_count
    rw [if_pos h]
    simp only [goesAll, List.map_cons, List.map_nil, List.sum_cons, List.sum_nil]
    rw [Op.goes_new x v h]; omega
  · rw [if_neg h]; simp [goesAll]
theorem begun_in (w : World) (x : D) (v : Value) (h : x.In w v) : OpsIn w (begunS x v) := by
  intro q hq
  unfold begunS at hq
  split at hq
  · simp only [List.mem_singleton] at hq
    subst hq
    exact ⟨h, Nat.zero_le _⟩
  · simp at hq

set_option maxRecDepth 100000 in
set_option maxHeartbeats 4000000 in
theorem impl_text (x : D) (w : World) (v : Value) (hin : x.In w v) (hw : x.weight ≤ 1048576) (ht : PowTab w) :
    Calls Tryz.prog 13 #[.agg #[.int .i64 x.op, .int .i64 x.at_, .int .i64 x.n, .string x.s, v]] w fun e w' => e = .returned (.string ⟨x.text.toArray⟩) ∧ Below w.heap.size w w' := by
  have htx := x.text_few w v hin hw
  have hgo : goesAll (begunS x v) ≤ 4194304 := by have h1 := begun_goes x v; have h2 := x.count_weight; omega
  have HALL : Hid (begunT x ++ leftAll (begunS x v) = x.text ∧ OpsIn w (begunS x v)) := ⟨begun_all x v, begun_in w x v hin⟩
  obtain ⟨pv, cv, ev⟩ := hin.sl.shape
  have HBG : Hid (∀ w1, Below w.heap.size w w1 → Tell w1 (w.heap.size + 1) (.pointer none) (.slice none 0 0) (.slice none 0 0) [] [] → Calls Tryz.prog 34 #[self (w.heap.size + 1), .agg #[.int .i64 x.op, .int .i64 x.at_, .int .i64 x.n, .string x.s, v]] w1 (Begun w (w.heap.size + 1) [] [] x v)) :=
    fun w1 h1 h2 => tell_begin w w1 (w.heap.size + 1) (by omega) ht x v _ _ _ [] [] hin htx h1 h2 (.inl rfl) (by simp) (by simp)
  have HP : Hid (PowTab w) := ht
  have HT0 : Hid (∀ o1, Tell ((w.alloc o1).alloc (.cells #[.pointer none, .slice none 0 0, .slice none 0 0] 66)) (w.heap.size + 1) (.pointer none) (.slice none 0 0) (.slice none 0 0) [] []) := fun o1 => by
    refine ⟨?_, own_zero _ _ _ _, own_zero _ _ _ _⟩
    have := heap_alloc_new (w.alloc o1) (.cells #[.pointer none, .slice none 0 0, .slice none 0 0] 66)
    have e : (w.alloc o1).heap.size = w.heap.size + 1 := by simp
    rw [e] at this
    exact this
  generalize x.text = XT at *
  generalize hS : begunS x v = S0 at *
  generalize hT : begunT x = T0 at *
  generalize hn : goesAll S0 = n0 at *
  have HE : Hid (begunS x v = S0 ∧ begunT x = T0 ∧ goesAll S0 = n0) := ⟨hS, hT, hn⟩
  clear hS hT hn hin hw ht
  subst ev
  go_enter Tryz.func13, Tryz.ntmps13
  go_wp2_with fail
  refine (HBG.out _ ((newb w _).trans ((newb _ _).mono (by simp))) (HT0.out _)).mono ?_
  rintro e w1 ⟨rfl, hb1, bv1, ov1, hT1⟩
  rw [HE.out.1, HE.out.2.1] at hT1
  have T1 : Hid (Tell w1 (w.heap.size + 1) (self (w.heap.size + 1)) bv1 ov1 ([] ++ T0) ([] ++ S0) ∧ Below w.heap.size w w1) := ⟨hT1, hb1⟩
  clear hT1 hb1 HT0 HBG
  generalize hKK : w.heap.size + 1 = K at *
  have hK : w.heap.size ≤ K := by omega
  go_wp2_with fail
  go_loopg [] n0 (fun k wr => ∃ bv ov txt st, Tell wr K (self K) bv ov txt st ∧ txt ++ leftAll st = XT ∧ goesAll st = k ∧ k ≤ 4194304 ∧ OpsIn w st ∧ Below w.heap.size w wr)
  case atStart =>
    exact ⟨bv1, ov1, T0, S0, by simpa using T1.out.1, HALL.out.1, HE.out.2.2, hgo, HALL.out.2, T1.out.2⟩
  case round =>
    obtain ⟨bv, ov, txt, st, hT2, hall, hg, hgk, hops, hbel⟩ := hrel
    have o2 := hT2.c2
    obtain ⟨oa, om, oc, eo⟩ := slice_of_own hT2.opn
    rcases List.eq_nil_or_concat st with hnil | ⟨r, q, hst⟩
    · subst hnil
      have hz : ∃ oa oc, ov = .slice oa 0 oc := by
        rcases hT2.opn.2 with ⟨rfl, _⟩ | ⟨g, cap, cur, rfl, _⟩
        · exact ⟨_, _, rfl⟩
        · exact ⟨_, _, rfl⟩
      obtain ⟨oa2, oc2, rfl⟩ := hz
      have HTE : Hid (Tell wr K (self K) bv (.slice oa2 0 oc2) txt []) := hT2
      have HX : Hid (txt = XT) := by
        show _ = _
        rw [← hall]; simp [leftAll]
      have HB : Hid (Below w.heap.size w wr) := hbel
      clear hT2 hall hg hops hbel eo T1 HALL HE
      go_wp2_with fail
      refine (tell_end wr K _ _ _ _ _ HTE.out).mono ?_
      rintro e w2 ⟨rfl, hb2⟩
      rw [HX.out]
      have HB2 : Hid (Below w.heap.size w w2) := HB.out.trans (hb2.mono hK)
      clear hb2
      go_wp2_with fail
      go_ret
      exact ⟨rfl, HB2.out⟩
    · rw [List.concat_eq_append] at hst
      subst hst
      obtain ⟨t, qv, k⟩ := q
      obtain ⟨hq1, hq2⟩ := hops ⟨t, qv, k⟩ (by simp)
      obtain ⟨pq, cq, eq⟩ := hq1.sl.shape
      simp only at eq hq2
      subst eq
      have hlen : (r ++ [(⟨t, .slice pq t.len cq, k⟩ : Op)]).length = r.length + 1 := by simp
      have hrl : r.length ≤ 4194303 := by
        have := goesAll_len (r ++ [(⟨t, .slice pq t.len cq, k⟩ : Op)])
        rw [hg, hlen] at this
        omega
      have ho := hT2.opn
      rw [hlen] at ho
      obtain ⟨g, cap, rfl, hc1, hc2, -, -⟩ := own_some ho
      have HGO : Hid (Calls Tryz.prog 35 #[self K] wr (Gone w K XT gk)) := by
        have hl : (txt ++ leftAll (r ++ [(⟨t, .slice pq t.len cq, k⟩ : Op)])).length ≤ 33554432 := by rw [hall]; exact htx
        have hl2 : txt.length ≤ 33554432 := by rw [List.length_append] at hl; omega
        show Calls _ _ _ _ _
        by_cases hke : k = t.len
        · subst hke
          have := go_pop w wr K hK r t pq cq bv _ txt hbel hT2 hops hl2 (by omega)
          rw [hall, hg] at this
          exact this
        · have := go_next w wr K hK HP.out r t k pq cq bv _ txt (by omega) hbel hT2 hops hl hrl
          rw [hall, hg] at this
          exact this
      clear hT2 hall hg hops hbel eo T1 HALL HE hq1 ho hlen
      go_wp2_with fail
      refine HGO.out.mono ?_
      rintro e w2 ⟨rfl, hb2, bv2, ov2, txt2, st2, hT3, hall3, hg3, hops3⟩
      have HN : Hid (Tell w2 K (self K) bv2 ov2 txt2 st2 ∧ txt2 ++ leftAll st2 = XT ∧ goesAll st2 + 1 = gk ∧ OpsIn w st2 ∧ Below w.heap.size w w2) := ⟨hT3, hall3, hg3, hops3, hb2⟩
      clear hT3 hall3 hg3 hops3 hb2
      go_wp2_with fail
      go_roundg (goesAll st2)
      case measure => have := HN.out.2.2.1; omega
      case rel =>
        obtain ⟨a1, a2, a3, a4, a5⟩ := HN.out
        exact ⟨bv2, ov2, txt2, st2, a1, a2, rfl, by omega, a4, a5⟩
end Go.Proofs.YtafpbcdgcgffeabGreatDoor
