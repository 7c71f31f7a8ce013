/- impl.IrSize. Condition: at most 2^20 in all. -/
import Derived.Test.YtkdkjilfjkalnaaRows
import Derived.Test.YtkdkjilfjkalnaaIrParts
import Derived.Test.YtkdkjilfjkalnaaOwnCut
import Derived.Deep.LoopGhost
import Derived.Deep.AppendLies
import Derived.Laws.OwnMore
import Derived.OwnWalk
namespace Go.Proofs.Ytkdkjilfjkalnaa
open Go.ChangeShapes Go.WideShapes Go.ChangeAt Go.RowKit

/-- A list of irs that is left. -/
structure Ls where
  len : Nat
  kid : Nat → It
  v : Value
def Ls.cnt (q : Ls) : Nat := sumTo (fun i => (q.kid i).count) q.len
def cntL (st : List Ls) : Nat := (st.map Ls.cnt).sum
def goL (st : List Ls) : Nat := (st.map fun q => 1 + q.cnt).sum
def valsL (st : List Ls) : List Value := st.map Ls.v
theorem cntL_append (a b : List Ls) : cntL (a ++ b) = cntL a + cntL b := by simp [cntL]
theorem goL_append (a b : List Ls) : goL (a ++ b) = goL a + goL b := by simp [goL]
theorem valsL_append (a b : List Ls) : valsL (a ++ b) = valsL a ++ valsL b := by simp [valsL]
theorem valsL_length (a : List Ls) : (valsL a).length = a.length := by simp [valsL]
theorem goL_len (l : List Ls) : l.length ≤ goL l := by
  induction l with
  | nil => simp
  | cons q r ih => simp only [goL, List.map_cons, List.sum_cons, List.length_cons] at ih ⊢; omega
def LsIn (w : World) (st : List Ls) : Prop := ∀ q ∈ st, Il w q.len q.kid q.v
theorem LsIn.append {w : World} {a b : List Ls} (ha : LsIn w a) (hb : LsIn w b) : LsIn w (a ++ b) := fun p hp => (List.mem_append.1 hp).elim (ha p) (hb p)

/-- The lists that the first k leave. -/
def kidLs (kid : Nat → It) (V : Nat → Value) : Nat → List Ls
  | 0 => []
  | k + 1 => kidLs kid V k ++ (if (kid k).len = 0 then [] else [⟨(kid k).len, (kid k).kid, V k⟩])
theorem kidLs_yes (kid : Nat → It) (V : Nat → Value) (k : Nat) (h : (kid k).len ≠ 0) : kidLs kid V (k + 1) = kidLs kid V k ++ [⟨(kid k).len, (kid k).kid, V k⟩] := by show _ ++ _ = _; rw [if_neg h]
theorem kidLs_no (kid : Nat → It) (V : Nat → Value) (k : Nat) (h : (kid k).len = 0) : kidLs kid V (k + 1) = kidLs kid V k := by show _ ++ _ = _; rw [if_pos h, List.append_nil]
theorem kidLs_cnt (kid : Nat → It) (V : Nat → Value) : ∀ k, k + cntL (kidLs kid V k) = sumTo (fun i => (kid i).count) k ∧ goL (kidLs kid V k) ≤ sumTo (fun i => (kid i).count) k
  | 0 => ⟨rfl, Nat.le_refl _⟩
  | k + 1 => by
    have ih := kidLs_cnt kid V k
    have hc := (kid k).count_eq
    simp only [sumTo]
    by_cases h : (kid k).len = 0
    · rw [kidLs_no kid V k h]
      rw [h] at hc
      simp only [sumTo] at hc
      omega
    · rw [kidLs_yes kid V k h, cntL_append, goL_append]
      simp only [cntL, goL, List.map_cons, List.map_nil, List.sum_cons, List.sum_nil, Ls.cnt] at ih ⊢
      omega
theorem kidLs_in {w : World} {kid : Nat → It} {V : Nat → Value} : ∀ k, (∀ i, i < k → (kid i).In w (V i)) → LsIn w (kidLs kid V k)
  | 0, _ => fun p hp => by simp [kidLs] at hp
  | k + 1, h => by
    have ih := kidLs_in k (fun i hi => h i (by omega))
    by_cases hk : (kid k).len = 0
    · rw [kidLs_no kid V k hk]; exact ih
    · rw [kidLs_yes kid V k hk]
      refine ih.append fun p hp => ?_
      simp only [List.mem_singleton] at hp
      subst hp
      exact (h k (by omega)).sl

theorem kids_info : (Try.prog.info? 27).map (fun i => (i.zero, i.size, i.bytes)) = some (some (.slice none 0 0), 1, 24) := by kernel_rfl

theorem own_someL {w : World} {base e size n : Nat} {v : Value} {xs : List Value} (h : w.ownsRow base e size v (n + 1) xs) : ∃ g cap, v = .slice (some ⟨g, 0, none⟩) (n + 1 : Nat) cap ∧ n + 1 ≤ cap ∧ cap ≤ maxLen := by
  rcases h.2 with ⟨_, h0⟩ | ⟨g, cap, cur, he, _, _, hc, hm, _, _⟩
  · cases h0
  · exact ⟨g, cap, he, hc, hm⟩

/-- What the loop keeps. -/
structure LeftL (w wr : World) (T : Nat) (st : List Ls) (g cap c : Nat) : Prop where
  all : c + cntL st = T
  ins : LsIn w st
  own : wr.ownsRow w.heap.size 27 1 (.slice (some ⟨g, 0, none⟩) st.length cap) st.length (valsL st)
  bel : Below w.heap.size w wr

set_option maxRecDepth 100000 in
set_option maxHeartbeats 4000000 in
theorem tree_sizeI (t : It) (w : World) (u : Value) (hin : t.In w u) (hw : t.weight ≤ 1048576) :
    Calls Try.prog 11 #[.agg #[.int .i64 t.op, .int .i64 t.n, u], .func (.func 12) #[] #[]] w fun e w' => e = .returned (.int .i64 t.count) ∧ Below w.heap.size w w' := by
  obtain ⟨i0, hi, hz0, hz1, hz2⟩ := info_parts kids_info
  obtain ⟨p, cap, e1⟩ := hin.sl.shape
  have hcw : t.count ≤ 1048577 := by have := t.count_weight; omega
  have H0 : Hid (1 + cntL [⟨t.len, t.kid, u⟩] = t.count ∧ goL [⟨t.len, t.kid, u⟩] = t.count ∧ LsIn w [⟨t.len, t.kid, u⟩]) := by
    refine ⟨by rw [t.count_eq]; simp [cntL, Ls.cnt], by rw [t.count_eq]; simp [goL, Ls.cnt], fun q hq => ?_⟩
    simp only [List.mem_singleton] at hq
    subst hq
    exact hin.sl
  clear hin hw
  generalize t.count = T at *
  subst e1
  go_enter Try.func11, Try.ntmps11
  go_wp2_with fail
  refine (ir_kids _ _ _ _).mono ?_
  rintro e w1 ⟨rfl, hb1⟩
  have HB1 : Hid (Below w.heap.size w w1) := (newb w _).trans (hb1.mono (newb w _).size)
  clear hb1
  go_wp2_with fail
  go_loopg [5, 6] T (fun k sz lv wr => ∃ (st : List Ls) (g cap c : Nat), goL st = k ∧ k ≤ 1048577 ∧ sz = .int .i64 c ∧ c ≤ 1048577 ∧ lv = .slice (some ⟨g, 0, none⟩) st.length cap ∧ LeftL w wr T st g cap c)
  case atStart =>
    refine ⟨_, w1.heap.size, 1, 1, H0.out.2.1, hcw, rfl, by omega, rfl, H0.out.1, H0.out.2.2, ?_, HB1.out.trans ((newb _ _).mono HB1.out.size)⟩
    exact own_new rfl rfl HB1.out.size rfl rfl (by unfold maxLen; omega)
  case round =>
    obtain ⟨st, g, gc, c, hst, hk, rfl, hc, rfl, hL⟩ := hrel
    have HST : Hid (goL st = gk) := hst
    have HL : Hid (LeftL w wr T st g gc c) := hL
    clear hst hL H0 HB1
    rcases List.eq_nil_or_concat st with hnil | ⟨r, q, hst⟩
    · subst hnil
      have HRR : Hid (c = T) := by show c = T; have := HL.out.all; simpa [cntL] using this
      have HB : Hid (Below w.heap.size w wr) := HL.out.bel
      clear HL HST
      go_wp2_with fail
      go_ret
      exact ⟨by rw [HRR.out]; rfl, HB.out⟩
    · rw [List.concat_eq_append] at hst
      subst hst
      obtain ⟨ql, qk, qv⟩ := q
      have hins := HL.out.ins ⟨ql, qk, qv⟩ (by simp)
      obtain ⟨pa, ca, V, ea, hla, hata⟩ := hins.fn
      simp only at ea hla hata
      subst ea
      have HA : Hid (∀ i, i < ql → ∃ b o, pa = some ⟨b, o, none⟩ ∧ HeadI w b (o + i * 3) (qk i) (V i) ∧ (qk i).In w (V i)) := hata
      clear hata hins
      have hlen : (r ++ [(⟨ql, qk, Value.slice pa ql ca⟩ : Ls)]).length = r.length + 1 := by simp
      have l0 : wr.cell? ⟨g, r.length, none⟩ = some (.slice pa ql ca) := by
        have h1 := HL.out.own.cellAt r.length (by simp)
        rw [h1, valsL_append, List.getElem?_append_right (by rw [valsL_length]; omega), valsL_length]
        simp [valsL]
      obtain ⟨hr1, hr2, hr3, hr4⟩ := own_room HL.out.own
      have hrl : r.length < 1048577 := by have := goL_len (r ++ [(⟨ql, qk, Value.slice pa ql ca⟩ : Ls)]); rw [HST.out] at this; omega
      have hkc := kidLs_cnt qk V ql
      have hcs : c + (ql + cntL (kidLs qk V ql)) + cntL r = T := by
        have h1 := HL.out.all
        rw [cntL_append] at h1
        simp only [cntL, Ls.cnt, List.map_cons, List.map_nil, List.sum_cons, List.sum_nil] at h1 hkc ⊢
        omega
      have HNX : Hid (goL (r ++ kidLs qk V ql) < gk ∧ (c + ql) + cntL (r ++ kidLs qk V ql) = T ∧ LsIn w (r ++ kidLs qk V ql)) := by
        refine ⟨?_, ?_, LsIn.append (fun z hz => HL.out.ins z (List.mem_append_left _ hz)) (kidLs_in ql (fun i hi => by obtain ⟨_, _, _, _, h⟩ := HA.out i hi; exact h))⟩
        · have h1 := HST.out
          rw [goL_append] at h1 ⊢
          simp only [goL, Ls.cnt, List.map_cons, List.map_nil, List.sum_cons, List.sum_nil] at h1 hkc ⊢
          omega
        · rw [cntL_append]; omega
      have hql : ql ≤ 1048577 := by omega
      have hcq : c + ql ≤ 1048577 := by omega
      clear hkc hcs
      rw [hlen] at hr1 ⊢
      unfold maxLen at hr2 hla
      generalize hrn : r.length = rn at *
      have HRN : Hid (r.length = rn) := hrn
      clear hrn
      have HO1 : Hid (wr.ownsRow w.heap.size 27 1 (.slice (some ⟨g, 0, none⟩) rn gc) rn (valsL r)) := by
        have h9 := HL.out.own
        rw [valsL_append] at h9
        exact own_cut (n := rn) h9 (by rw [valsL_length, HRN.out]; omega) (by rw [hlen]; omega)
      have HBL : Hid (Below w.heap.size w wr) := HL.out.bel
      have HKL : Hid (∀ k, k ≤ ql → (kidLs qk V k).length ≤ k) := by
        intro k
        induction k with
        | zero => intro _; simp [kidLs]
        | succ k ihk =>
          intro hk'
          have h1 := ihk (by omega)
          by_cases h : (qk k).len = 0
          · rw [kidLs_no qk V k h]; omega
          · rw [kidLs_yes qk V k h, List.length_append]; simp; omega
      clear HL HST hlen
      go_wp2_with fail
      go_loopw [6, 35] (fun lv i wi => ∃ (k m g' c' : Nat), i = .int .i64 k ∧ k ≤ ql ∧ m = (kidLs qk V k).length ∧ lv = .slice (some ⟨g', 0, none⟩) ((rn + m : Nat)) c' ∧ wi.ownsRow w.heap.size 27 1 (.slice (some ⟨g', 0, none⟩) ((rn + m : Nat)) c') (rn + m) (valsL (r ++ kidLs qk V k)) ∧ Below w.heap.size w wi) (fun _ i _ => ql - (intOf i).toNat)
      case atStart => exact ⟨0, 0, g, gc, rfl, Nat.zero_le _, rfl, rfl, by simpa [kidLs] using HO1.out, HBL.out⟩
      case round =>
        obtain ⟨k, m, g', c', rfl, hka, hm, rfl, hown, hbel⟩ := hrel
        have HM : Hid (m = (kidLs qk V k).length) := hm
        have HOW : Hid (wr.ownsRow w.heap.size 27 1 (.slice (some ⟨g', 0, none⟩) (rn + m) c') (rn + m) (valsL (r ++ kidLs qk V k))) := hown
        have HBW : Hid (Below w.heap.size w wr) := hbel
        have hmk : m ≤ 1048577 := by have := HKL.out k hka; omega
        obtain ⟨hb1, hb2, hb3, hb4⟩ := own_room hown
        unfold maxLen at hb2
        clear hown hbel hm HO1 HBL hr1 hr2 hr3 hr4 l0
        by_cases hlt : (k : Int) < ql
        · have hlt' : k < ql := by omega
          obtain ⟨b, o, hpa, hd, hkin⟩ := HA.out k hlt'
          subst hpa
          obtain ⟨c0, c1, c2⟩ := hd.below HBW.out
          obtain ⟨pu, cu, eu⟩ := hkin.sl.shape
          rw [eu] at c2
          have HEU : Hid (V k = .slice pu (qk k).len cu) := eu
          have hku : (qk k).len ≤ maxLen := by obtain ⟨_, _, _, h, _⟩ := hkin.sl.at; exact h
          unfold maxLen at hku
          clear eu hd hkin
          go_wp2_with fail
          refine (ir_kids _ _ _ _).mono ?_
          rintro e w1 ⟨rfl, hb1⟩
          have HB1 : Hid (Below wr.heap.size wr w1) := (newb wr _).trans (hb1.mono (newb wr _).size)
          have HO2 : Hid (w1.ownsRow w.heap.size 27 1 (.slice (some ⟨g', 0, none⟩) (rn + m) c') (rn + m) (valsL (r ++ kidLs qk V k))) := own_below5 HOW.out HB1.out
          clear hb1 c0 c1 c2
          by_cases hz : (0 : Int) < (qk k).len
          · have HZ : Hid ((qk k).len ≠ 0) := by show _ ≠ _; omega
            go_wp2_with (at_builtin; refine wpList_append_own _ rfl _ _ 38 rfl w.heap.size 27 i0 (.slice none 0 0) 1 24 Try.underlying38 hi hz0 hz1 hz2 rfl (by decide) _ _ _ rfl (HO2.out.alloc _) ⟨w1.heap.size, 0, none⟩ 1 1 [.slice pu (qk k).len cu] rfl rfl ?c1 ?c2 ?c3 ?c4 ?c5 ?_)
            case c1 => exact World.news_of_block (cs := #[.slice pu (qk k).len cu]) (t := 27) (fr := (0, 0)) (heap_alloc_new w1 _)
            case c2 => intro u hu; simp at hu; subst hu; rfl
            case c3 => unfold maxLen; omega
            case c4 => omega
            case c5 => have := HBW.out.size; have := HB1.out.size; simp; omega
            intro v' w2 hown' hgrow _
            obtain ⟨g2, cap2, rfl, -, -⟩ := own_someL hown'
            have HN : Hid (w2.ownsRow w.heap.size 27 1 (.slice (some ⟨g2, 0, none⟩) ((rn + (m + 1) : Nat)) cap2) (rn + (m + 1)) (valsL (r ++ kidLs qk V (k + 1)))) := by
              show World.ownsRow _ _ _ _ _ _ _
              rw [kidLs_yes qk V k HZ.out, ← List.append_assoc, valsL_append _ [_], HEU.out]
              exact hown'
            have HB2 : Hid (Below w.heap.size w w2) := by
              have h1 : Below w.heap.size w (w1.alloc (.cells #[.slice pu (qk k).len cu] 27)) := (HBW.out.trans (HB1.out.mono HBW.out.size)).trans ((newb _ _).mono (Nat.le_trans HBW.out.size HB1.out.size))
              refine h1.trans ⟨hgrow.os, hgrow.tape, hgrow.output, hgrow.size, fun j hj => hgrow.block j (Nat.lt_of_lt_of_le hj h1.size) (fun e => ?_)⟩
              have : j = g' := by simpa [Value.ownBlock] using e
              omega
            have HM2 : Hid (m + 1 = (kidLs qk V (k + 1)).length) := by show _ = _; rw [kidLs_yes qk V k HZ.out, List.length_append, ← HM.out]; rfl
            clear hown' hgrow
            go_wp2_with fail
            go_roundw
            case rel => first | exact ⟨k + 1, m + 1, g2, cap2, by go_num, by omega, HM2.out, rfl, HN.out, HB2.out⟩ | ((repeat apply Exists.intro); exact ⟨⟨k + 1, m + 1, g2, cap2, by go_num, by omega, HM2.out, rfl, HN.out, HB2.out⟩, rfl⟩)
            case measure => simp [intOf]; omega
          · have HZ : Hid ((qk k).len = 0) := by show _ = _; omega
            have HN : Hid (w1.ownsRow w.heap.size 27 1 (.slice (some ⟨g', 0, none⟩) ((rn + m : Nat)) c') (rn + m) (valsL (r ++ kidLs qk V (k + 1)))) := by
              show World.ownsRow _ _ _ _ _ _ _
              rw [kidLs_no qk V k HZ.out]; exact HO2.out
            have HM2 : Hid (m = (kidLs qk V (k + 1)).length) := by show _ = _; rw [kidLs_no qk V k HZ.out]; exact HM.out
            have HB2 : Hid (Below w.heap.size w w1) := HBW.out.trans (HB1.out.mono HBW.out.size)
            go_wp2_with fail
            go_roundw
            case rel => first | exact ⟨k + 1, m, g', c', by go_num, by omega, HM2.out, rfl, HN.out, HB2.out⟩ | ((repeat apply Exists.intro); exact ⟨⟨k + 1, m, g', c', by go_num, by omega, HM2.out, rfl, HN.out, HB2.out⟩, rfl⟩)
            case measure => simp [intOf]; omega
        · have hke : k = ql := by omega
          go_wp2_with fail
          go_roundg (goL (r ++ kidLs qk V ql))
          case measure => exact HNX.out.1
          case rel =>
            subst hke
            have h1 := HM.out
            have h2 := HOW.out
            have h3 := HRN.out
            have h4 : (r ++ kidLs qk V k).length = rn + m := by rw [List.length_append, h3, ← h1]
            refine ⟨r ++ kidLs qk V k, g', c', c + k, rfl, by have := HNX.out.1; omega, by go_num, by omega, by rw [h4], HNX.out.2.1, HNX.out.2.2, ?_, HBW.out⟩
            rw [h4]; exact h2

set_option maxRecDepth 100000 in
set_option maxHeartbeats 4000000 in
theorem impl_isize (t : It) (w : World) (u : Value) (hin : t.In w u) (hw : t.weight ≤ 1048576) :
    Calls Try.prog 7 #[.agg #[.int .i64 t.op, .int .i64 t.n, u]] w fun e w' => e = .returned (.int .i64 t.count) ∧ Below w.heap.size w w' := by
  obtain ⟨p, cap, e1⟩ := hin.sl.shape
  have HC : Hid (∀ o, Calls Try.prog 11 #[.agg #[.int .i64 t.op, .int .i64 t.n, u], .func (.func 12) #[] #[]] (w.alloc o) fun e w' => e = .returned (.int .i64 t.count) ∧ Below w.heap.size w w') :=
    fun o => (tree_sizeI t _ u (hin.below (newb w o)) hw).mono (fun e w' h => ⟨h.1, (newb w o).trans (h.2.mono (newb w o).size)⟩)
  clear hin hw
  subst e1
  generalize t.count = T at *
  go_enter Try.func7, Try.ntmps7
  go_wp2_with fail
  refine (HC.out _).mono ?_
  rintro e w1 ⟨rfl, hb1⟩
  have HB1 : Hid (Below w.heap.size w w1) := hb1
  clear hb1
  go_wp2_with fail
  go_ret
  exact ⟨rfl, HB1.out⟩
end Go.Proofs.Ytkdkjilfjkalnaa
