/- spec.StxOf. Condition: at most 2^20 of the datum, a set of at most 2^22. -/
import Derived.Test.YtoifhaakieigcaaSpecStart
import Derived.Test.YtoifhaakieigcaaStepAny
import Derived.Test.YtoifhaakieigcaaIntsSpec
import Derived.Test.YtoifhaakieigcaaStxD
import Derived.Test.YtoifhaakieigcaaDatRows
import Derived.Test.YtoifhaakieigcaaToStx
import Derived.Deep.AppendLies
import Derived.Deep.Cut
namespace Go.Proofs.Ytoifhaakieigcaa
open Go.ChangeShapes Go.WideShapes Go.ChangeAt Go.RowKit

def SpecStxAt (set : List Int) (t : D) : Prop := ∀ (w : World) (v sv : Value), t.In w v → Rd w sv set → t.weight ≤ 1048576 → Calls Try.prog 10 #[.agg #[.int .i64 t.op, .int .i64 t.at_, .int .i64 t.n, .string t.s, v], sv] w fun e w' =>
  ∃ su u S, e = .returned (.agg #[.int .i64 t.op, .int .i64 t.at_, .int .i64 t.n, .string t.s, su, u]) ∧ Below w.heap.size w w' ∧ XOwn w' (stxD set t) su u S ∧ S.Nodup ∧ ∀ x ∈ S, w.heap.size ≤ x

theorem specStx_enter (vs : Array Value) (w : World) : (callFunc 10 vs).run Try.prog w = .ok (.enter 10 vs) w := by kernel_rfl

theorem stx_cells (set : List Int) (d : D) (su v : Value) : xcells (stxD set d, su, v) = [.int .i64 d.op, .int .i64 d.at_, .int .i64 d.n, .string d.s, su, v] := by cases d <;> rfl

set_option maxRecDepth 100000 in
set_option maxHeartbeats 4000000 in
theorem spec_stx_of (set : List Int) (hl : set.length ≤ 4194304) (t : D) : SpecStxAt set t := by
  induction t with
  | no => intro w v sv h; exact h.elim
  | mk op a n s len kid ih =>
    intro w v sv hin hrd hwt
    obtain ⟨i0, hi0, hz0, hz1, hz2⟩ := info_parts stx_info
    obtain ⟨iI, hiI, hzI0, hzI1, hzI2⟩ := info_parts int_info
    have hsl : Sl w len kid v := hin.sl
    have HPL : Hid (s.size ≤ maxLen ∧ -9223372036854775808 ≤ n ∧ n ≤ 9223372036854775807) := ⟨hin.size, hin.num⟩
    obtain ⟨p, cap, rfl, -, hat⟩ := hsl.at
    obtain ⟨ps, cps, hsv, -⟩ := hrd.shape
    subst hsv
    have hwe : (D.mk op a n s len kid).weight = s.size + (len + sumTo (fun i => (kid i).weight) len) := rfl
    have hlen : len ≤ 1048576 := by omega
    have HRD : Hid (Rd w (.slice ps set.length cps) set) := hrd
    have IH : Hid (∀ i, i < len → ∀ (w : World) (v sv : Value), (kid i).In w v → Rd w sv set → Calls Try.prog 10 #[.agg #[.int .i64 (kid i).op, .int .i64 (kid i).at_, .int .i64 (kid i).n, .string (kid i).s, v], sv] w fun e w' =>
      ∃ su u S, e = .returned (.agg #[.int .i64 (kid i).op, .int .i64 (kid i).at_, .int .i64 (kid i).n, .string (kid i).s, su, u]) ∧ Below w.heap.size w w' ∧ XOwn w' (stxD set (kid i)) su u S ∧ S.Nodup ∧ ∀ x ∈ S, w.heap.size ≤ x) := fun i hi w v sv h h2 => ih i w v sv h h2 (by
        have h1 := sumTo_at (fun i => (kid i).weight) i len hi
        omega)
    have HAT : Hid (∀ i, i < len → ∃ b o u, p = some ⟨b, o, none⟩ ∧ Head w b (o + i * 5) (kid i) u ∧ (kid i).In w u) := hat
    obtain ⟨Y, hY⟩ : ∃ Y, Y = (if op = 2 then set else []) := ⟨_, rfl⟩
    have HY : Hid (stxD set (.mk op a n s len kid) = .mk op a n s Y len (fun i => stxD set (kid i))) := by show _ = _; rw [hY]; rfl
    have HYL : Hid (Y.length ≤ maxLen) := by
      show _ ≤ _
      rw [hY]
      by_cases h : op = 2
      · rw [if_pos h]; unfold maxLen; omega
      · rw [if_neg h]; exact Nat.zero_le _
    have HST := stx_start w (.cells #[.int .i64 op, .int .i64 a, .int .i64 n, .string s, .slice p len cap] 33) op a n s (fun i => stxD set (kid i))
    have HS0 : Hid (XLoop [] w (((w.alloc (.cells #[.int .i64 op, .int .i64 a, .int .i64 n, .string s, .slice p len cap] 33)).alloc (.cells #[.int .i64 0, .int .i64 0, .int .i64 0, .string ⟨#[]⟩, .slice none 0 0, .slice none 0 0] 29)).alloc (.cells #[.int .i64 op, .int .i64 a, .int .i64 n, .string s, .slice none 0 0, .slice none 0 0] 29)) (w.heap.size + 3) w.heap.size (w.heap.size + 1) (w.heap.size + 1 + 1) (.cells #[.int .i64 op, .int .i64 a, .int .i64 n, .string s, .slice p len cap] 33) op a n s [] (.slice none 0 0) (fun i => stxD set (kid i)) 0 (.slice none 0 0) [] []) := HST
    simp only [D.op, D.at_, D.n, D.s]
    rw [HY.out]
    clear hin hsl ih hat hwe hwt hrd HST
    have HO1 : Hid (Own ((((w.alloc (.cells #[.int .i64 op, .int .i64 a, .int .i64 n, .string s, .slice p len cap] 33)).alloc (.cells #[.int .i64 0, .int .i64 0, .int .i64 0, .string ⟨#[]⟩, .slice none 0 0, .slice none 0 0] 29)).alloc (.cells #[.int .i64 op, .int .i64 a, .int .i64 n, .string s, .slice none 0 0, .slice none 0 0] 29)).alloc (.cells #[] 3)) (w.heap.size + 3) (.slice (some ⟨w.heap.size + 1 + 1 + 1, 0, none⟩) 0 0) []) := by
      have h := own_lit (((w.alloc (.cells #[.int .i64 op, .int .i64 a, .int .i64 n, .string s, .slice p len cap] 33)).alloc (.cells #[.int .i64 0, .int .i64 0, .int .i64 0, .string ⟨#[]⟩, .slice none 0 0, .slice none 0 0] 29)).alloc (.cells #[.int .i64 op, .int .i64 a, .int .i64 n, .string s, .slice none 0 0, .slice none 0 0] 29)) (w.heap.size + 3) (by simp)
      simp only [World.size_alloc] at h
      exact h
    have hb4 : Below w.heap.size w ((((w.alloc (.cells #[.int .i64 op, .int .i64 a, .int .i64 n, .string s, .slice p len cap] 33)).alloc (.cells #[.int .i64 0, .int .i64 0, .int .i64 0, .string ⟨#[]⟩, .slice none 0 0, .slice none 0 0] 29)).alloc (.cells #[.int .i64 op, .int .i64 a, .int .i64 n, .string s, .slice none 0 0, .slice none 0 0] 29)).alloc (.cells #[] 3)) := HS0.out.bel.toBelow.trans ((newx _ _).mono HS0.out.bel.size)
    have hs := (HRD.out.below hb4).src
    have HS : Hid ((ps = none → set.length = 0 ∧ cps = 0) ∧ ∀ ad, ps = some ad → ∀ j u, (set.map (Value.int .i64))[j]? = some u → ((((w.alloc (.cells #[.int .i64 op, .int .i64 a, .int .i64 n, .string s, .slice p len cap] 33)).alloc (.cells #[.int .i64 0, .int .i64 0, .int .i64 0, .string ⟨#[]⟩, .slice none 0 0, .slice none 0 0] 29)).alloc (.cells #[.int .i64 op, .int .i64 a, .int .i64 n, .string s, .slice none 0 0, .slice none 0 0] 29)).alloc (.cells #[] 3)).cell? (ad.add j) = some u) := hs
    clear hs hb4
    go_enter Try.func10, Try.ntmps10
    go_upto_if 18 with fail
    go_cut [] from 7 (fun wx => ∃ (B : Nat) (sv : Value), XLoop [] w wx B w.heap.size (w.heap.size + 1) (w.heap.size + 1 + 1) (.cells #[.int .i64 op, .int .i64 a, .int .i64 n, .string s, .slice p len cap] 33) op a n s Y sv (fun i => stxD set (kid i)) 0 (.slice none 0 0) [] [])
    case first =>
      by_cases h2 : op = 2
      · have HYY : Hid (Y = set) := hY.trans (if_pos h2)
        clear hY
        subst h2
        go_wp2_with (at_builtin; refine wpList_append_any _ rfl (.tmp 19) (.tmp 20) 25 rfl (w.heap.size + 3) 3 iI (.int .i64 0) 1 8 Try.underlying25 hiI hzI0 hzI1 hzI2 rfl (by decide) (.slice (some ⟨w.heap.size + 1 + 1 + 1, 0, none⟩) 0 0) 0 [] rfl HO1.out ps set.length cps (set.map (Value.int .i64)) rfl (by simp) HS.out.1 HS.out.2 (ints_cells set) (by unfold maxLen; omega) (by omega) (by simp) ?_; intro v' w2 hown2 hg2; obtain ⟨hX2, hO2, ⟨pv, cv, hv⟩⟩ := set_grown HS0.out (by simp) rfl hown2.out hg2.out; subst hv; have HX2 : Hid (XLoop [] w (w2.setCell ⟨w.heap.size + 1 + 1, 4, none⟩ (.slice pv set.length cv)) w2.heap.size w.heap.size (w.heap.size + 1) (w.heap.size + 1 + 1) (.cells #[.int .i64 2, .int .i64 a, .int .i64 n, .string s, .slice p len cap] 33) 2 a n s set (.slice pv set.length cv) (fun i => stxD set (kid i)) 0 (.slice none 0 0) [] []) := hX2; have x4 := hO2.cells.2.2.2.2.1; have xf := hO2.fr 4; clear hX2 hO2 hown2 hg2)
        go_meet
        exact ⟨_, _, by rw [HYY.out]; exact HX2.out⟩
      · have HYY : Hid (Y = []) := hY.trans (if_neg h2)
        have d2 : (op == 2) = false := by simpa using h2
        clear hY h2
        go_wp2_with fail
        go_meet
        exact ⟨_, _, by rw [HYY.out]; exact HS0.out⟩
    case rest =>
      obtain ⟨B, sv, hL0⟩ := hcut
      have H00 : Hid (XLoop [] w wc B w.heap.size (w.heap.size + 1) (w.heap.size + 1 + 1) (.cells #[.int .i64 op, .int .i64 a, .int .i64 n, .string s, .slice p len cap] 33) op a n s Y sv (fun i => stxD set (kid i)) 0 (.slice none 0 0) [] []) := hL0
      clear hL0 HO1 HS HS0 hY
      obtain ⟨C, hC⟩ : ∃ C, C = w.heap.size := ⟨_, rfl⟩
      obtain ⟨R, hR⟩ : ∃ R, R = w.heap.size + 1 := ⟨_, rfl⟩
      obtain ⟨O, hO⟩ : ∃ O, O = w.heap.size + 1 + 1 := ⟨_, rfl⟩
      have HH0 : Hid (XLoop [] w wc B C R O (.cells #[.int .i64 op, .int .i64 a, .int .i64 n, .string s, .slice p len cap] 33) op a n s Y sv (fun i => stxD set (kid i)) 0 (.slice none 0 0) [] []) := by
        show XLoop _ _ _ _ _ _ _ _ _ _ _ _ _ _ _ _ _ _ _
        rw [hO, hR, hC]; exact H00.out
      clear H00
      rw [← hO, ← hR, ← hC]
      have hCO : C ≠ O := by omega
      have hRO : R ≠ O := by omega
      clear hC hR hO
      go_wp2_with fail
      go_loopw [6] (fun v4 wr => ∃ (k : Nat) (lv : Value) (la : List XR) (SS : List (List Nat)), v4 = .int .i64 k ∧ k ≤ len ∧ XLoop [] w wr B C R O (.cells #[.int .i64 op, .int .i64 a, .int .i64 n, .string s, .slice p len cap] 33) op a n s Y sv (fun i => stxD set (kid i)) k lv la SS) (fun v4 _ => len - (intOf v4).toNat)
      case atStart => exact ⟨0, _, _, _, rfl, Nat.zero_le _, HH0.out⟩
      case round =>
        obtain ⟨k, lv, la, SS, rfl, hk, hL⟩ := hrel
        have HL : Hid (XLoop [] w wr B C R O (.cells #[.int .i64 op, .int .i64 a, .int .i64 n, .string s, .slice p len cap] 33) op a n s Y sv (fun i => stxD set (kid i)) k lv la SS) := hL
        have hA : Five wr C op a n s (.slice p len cap) 33 := hL.arg
        have a4 := hA.cells.2.2.2.2
        obtain ⟨o0, o1, o2, o3, o4, o5⟩ := hL.out.cells
        clear hL HH0
        by_cases hkl : (k : Int) < len
        · obtain ⟨b, o, u, hp, hd, hinu⟩ := HAT.out k (by omega)
          subst hp
          obtain ⟨c0, c1, c2, c3, c4⟩ := hd.below HL.out.bel.toBelow
          have HIN : Hid ((kid k).In wr.drew u ∧ Rd wr.drew (.slice ps set.length cps) set) := ⟨(hinu.below HL.out.bel.toBelow).below (Below.refl _ wr).drew, (HRD.out.below HL.out.bel.toBelow).below (Below.refl _ wr).drew⟩
          have HKL : Hid (k < len) := by show k < len; omega
          have HOWN : Hid (wr.ownsRow 0 29 6 lv k (xrows la)) := HL.out.rows.own
          have hOl : O < wr.heap.size := HL.out.out.lt
          have hCl : C < wr.heap.size := hA.lt
          have hbl : b < wr.heap.size := World.block_lt_of_cell? wr _ c0
          clear hd hinu hA
          have hki0 : (0 : Int) ≤ (k : Int) := by omega
          have HCF : Hid (∀ (vs : Array Value) (w : World), (callFunc 10 vs).run Try.prog w = .ok (.enter 10 vs) w) := fun vs w => specStx_enter vs w
          go_wp2_with fail
          go_region_law
            (first
              | (refine step_call2 rfl 10 (.tmp 36) (.tmp 37) 33 25 rfl HCF.out (.agg #[.int .i64 (kid k).op, .int .i64 (kid k).at_, .int .i64 (kid k).n, .string (kid k).s, u]) (.slice ps set.length cps) rfl rfl _ (IH.out k HKL.out wr.drew u _ HIN.out.1 HIN.out.2) ?_; rintro e w1 ⟨su', v', T, rfl, hb1, hd1, hn1, hT1⟩; refine ⟨_, rfl, ?_⟩; have HC1 : Hid (Below wr.heap.size wr w1 ∧ XOwn w1 (stxD set (kid k)) su' v' T ∧ T.Nodup ∧ ∀ x ∈ T, wr.heap.size ≤ x) := ⟨⟨hb1.os, hb1.tape, hb1.output, hb1.size, hb1.block⟩, hd1, hn1, hT1⟩; obtain ⟨pv, cv, hv'⟩ := hd1.at0.xs.shape; obtain ⟨pw, cw, hw'⟩ := hd1.at0.sets.shape; subst hv' hw'; have z4 : w1.cell? ⟨O, 5, none⟩ = some lv := (HC1.out.1.cell (by exact hOl)).trans o5; have z5 : ∀ ob, (w1.alloc ob).cell? ⟨O, 5, none⟩ = some lv := fun ob => ((newx w1 ob).cell (by exact Nat.lt_of_lt_of_le hOl HC1.out.1.size)).trans z4; have y4 : w1.cell? ⟨C, 4, none⟩ = some (.slice (some ⟨b, o, none⟩) len cap) := (HC1.out.1.cell (by exact hCl)).trans a4; have HO1 : Hid (w1.ownsRow 0 29 6 lv k (xrows la)) := own_belowX HOWN.out HC1.out.1; clear hb1 hd1 hn1 hT1)
              | (refine step_append_lies _ (by rfl) _ _ _ (by rfl) 0 29 i0 _ 6 88 Try.underlying27 hi0 hz0 hz1 hz2 rfl (by omega) lv k (xrows la) (by rfl) (HO1.out.alloc _) ⟨w1.heap.size, 0, none⟩ 1 1 [.int .i64 (kid k).op, .int .i64 (kid k).at_, .int .i64 (kid k).n, .string (kid k).s, .slice pw (stxD set (kid k)).set.length cw, .slice pv (stxD set (kid k)).len cv] (by rfl) (by rfl) (World.news_of_block (cs := #[.int .i64 (kid k).op, .int .i64 (kid k).at_, .int .i64 (kid k).n, .string (kid k).s, .slice pw (stxD set (kid k)).set.length cw, .slice pv (stxD set (kid k)).len cv]) (t := 29) (fr := (0, 0)) (heap_alloc_new w1 _)) (by simp [Value.oneCell']) (by omega) (by unfold maxLen; omega) (by omega) (Nat.zero_le _) (w1.heap.size + 1) (by simp) ?_; intro gg cap3 w3 hown3 hgrow hat hlt3; obtain ⟨hO3, hnx⟩ := HL.out.next (Fr.below HC1.out.1 []) HC1.out.2.1 HC1.out.2.2.1 HC1.out.2.2.2 (by rw [stx_cells]; exact hown3) hgrow hat; have HNX : Hid (XLoop [] w (w3.setCell ⟨O, 5, none⟩ (.slice (some ⟨gg, 0, none⟩) (k + 1) cap3)) B C R O (.cells #[.int .i64 op, .int .i64 a, .int .i64 n, .string s, .slice (some ⟨b, o, none⟩) len cap] 33) op a n s Y sv (fun i => stxD set (kid i)) (k + 1) (.slice (some ⟨gg, 0, none⟩) (k + 1) cap3) (la ++ [(stxD set (kid k), .slice pw (stxD set (kid k)).set.length cw, .slice pv (stxD set (kid k)).len cv)]) (SS ++ [T])) := hnx; have x4 : w3.cell? ⟨O, 5, none⟩ = some lv := (World.cell?_of_block (a := ⟨O, 5, none⟩) hO3).trans o5; have xf : w3.frozen? ⟨O, 5, none⟩ = false := (World.frozen?_of_block (a := ⟨O, 5, none⟩) hO3).trans (HL.out.out.fr 5); clear hO3 hnx hown3 hgrow hat hlt3))
          all_goals
            go_wp2_with fail
            go_roundw
            case rel => exact ⟨k + 1, _, _, _, by go_num, by omega, HNX.out⟩
            case measure => simp [intOf]; omega
        · obtain rfl : k = len := by omega
          obtain ⟨r0, r1, r2, r3, r4, r5⟩ := HL.out.res.cells
          have rf := HL.out.res.fr
          obtain ⟨hfr, S, hX, hSn, hSg⟩ := HL.out.done ⟨HPL.out.1, HPL.out.2, HYL.out⟩
          obtain ⟨pv, cv, hlv⟩ := hX.at0.xs.shape
          obtain ⟨pw, cw, hsv⟩ := hX.at0.sets.shape
          simp only [X.len, X.set] at hlv hsv
          subst hlv hsv
          have HS : Hid (Fr [] w (put6 wr R op a n s (.slice pw Y.length cw) (.slice pv k cv)) ∧ XOwn (put6 wr R op a n s (.slice pw Y.length cw) (.slice pv k cv)) (.mk op a n s Y k (fun i => stxD set (kid i))) (.slice pw Y.length cw) (.slice pv k cv) S ∧ S.Nodup ∧ ∀ x ∈ S, w.heap.size ≤ x) := ⟨hfr, hX, hSn, hSg⟩
          clear hfr hX hSn hSg HL HAT IH
          generalize Y.length = yl at *
          go_wp2_with fail
          refine bodyPost_ret (v := .agg #[.int .i64 op, .int .i64 a, .int .i64 n, .string s, .slice pw yl cw, .slice pv k cv]) (by rw [results_cellX (p := 4) (ty := 29) (by kernel_rfl)]; simp [go_sem, r0, r1, r2, r3, r4, r5]) rfl ⟨_, _, rfl, HS.out.1.toBelow, S, HS.out.2.1, HS.out.2.2.1, HS.out.2.2.2⟩
end Go.Proofs.Ytoifhaakieigcaa
