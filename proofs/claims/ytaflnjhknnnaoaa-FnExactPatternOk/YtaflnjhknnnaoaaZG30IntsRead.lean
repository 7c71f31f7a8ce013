/- spec.DatOf. Condition: at most 2^20 of it. -/
import Derived.Test.YtaflnjhknnnaoaaZG29StepCall
import Derived.Test.YtaflnjhknnnaoaaZG3DatSame
import Derived.Test.YtaflnjhknnnaoaaZG27ToDatOwn
import Derived.Test.YtaflnjhknnnaoaaZG0Ints
import Derived.Deep.QuietTactic
import Derived.BigQuiet
import Derived.WalkSpells
import Derived.WalkSmall
namespace Go.Proofs.Ytaflnjhknnnaoaa
open Go.ChangeShapes Go.WideShapes Go.ChangeAt Go.RowKit

def SpecDatAt (t : X) : Prop := ∀ (w : World) (sv v : Value), t.At 0 w sv v → t.weight ≤ 1048576 → Calls Try.prog 36 #[.agg #[.int .i64 t.op, .int .i64 t.at_, .int .i64 t.n, .string t.s, sv, v]] w fun e w' =>
  ∃ u S, e = .returned (.agg #[.int .i64 t.op, .int .i64 t.at_, .int .i64 t.n, .string t.s, u]) ∧ Below w.heap.size w w' ∧ DOwn w' (datX t) u S ∧ S.Nodup ∧ ∀ x ∈ S, w.heap.size ≤ x

theorem specDat_enter (vs : Array Value) (w : World) : (callFunc 36 vs).run Try.prog w = .ok (.enter 36 vs) w := by kernel_rfl
theorem dat_cells (d : X) (v : Value) : dcells (datX d, v) = [.int .i64 d.op, .int .i64 d.at_, .int .i64 d.n, .string d.s, v] := by cases d <;> rfl

set_option maxRecDepth 100000 in
set_option maxHeartbeats 4000000 in
theorem spec_dat_of (t : X) : SpecDatAt t := by
  induction t with
  | no => intro w sv v h; exact h.elim
  | mk op a n s set len kid ih =>
    intro w sv v hin hwt
    obtain ⟨i0, hi0, hz0, hz1, hz2⟩ := info_parts dat_info
    have hsl : XsAt 0 w len kid v := hin.xs
    have HPL : Hid (s.size ≤ maxLen ∧ -9223372036854775808 ≤ n ∧ n ≤ 9223372036854775807) := ⟨hin.size, hin.num⟩
    obtain ⟨p, cap, rfl, -, hat⟩ := hsl.at
    obtain ⟨ps, cps, hsv⟩ := hin.sets.shape
    simp only [X.set] at hsv
    subst hsv
    have hwe : (X.mk op a n s set len kid).weight = s.size + (set.length + (len + sumX (fun i => (kid i).weight) len)) := rfl
    have hlen : len ≤ 1048576 := by omega
    have IH : Hid (∀ i, i < len → ∀ (w : World) (sv v : Value), (kid i).At 0 w sv v → Calls Try.prog 36 #[.agg #[.int .i64 (kid i).op, .int .i64 (kid i).at_, .int .i64 (kid i).n, .string (kid i).s, sv, v]] w fun e w' =>
      ∃ u S, e = .returned (.agg #[.int .i64 (kid i).op, .int .i64 (kid i).at_, .int .i64 (kid i).n, .string (kid i).s, u]) ∧ Below w.heap.size w w' ∧ DOwn w' (datX (kid i)) u S ∧ S.Nodup ∧ ∀ x ∈ S, w.heap.size ≤ x) := fun i hi w sv v h => ih i w sv v h (by
        have h1 := sumX_at (fun i => (kid i).weight) i len hi
        omega)
    have HAT : Hid (∀ i, i < len → ∃ b o su u, p = some ⟨b, o, none⟩ ∧ Head6 w b (o + i * 6) (kid i) su u ∧ (kid i).At 0 w su u) := hat
    have HY : Hid (datX (X.mk op a n s set len kid) = .mk op a n s len (fun i => datX (kid i))) := rfl
    have HS0 := dat_start w (.cells #[.int .i64 op, .int .i64 a, .int .i64 n, .string s, .slice ps set.length cps, .slice p len cap] 35) op a n s (fun i => datX (kid i))
    obtain ⟨C, hC⟩ : ∃ C, C = w.heap.size := ⟨_, rfl⟩
    obtain ⟨R, hR⟩ : ∃ R, R = w.heap.size + 1 := ⟨_, rfl⟩
    obtain ⟨O, hO⟩ : ∃ O, O = w.heap.size + 1 + 1 := ⟨_, rfl⟩
    have HH0 : Hid (DLoop w (((w.alloc (.cells #[.int .i64 op, .int .i64 a, .int .i64 n, .string s, .slice ps set.length cps, .slice p len cap] 35)).alloc (.cells #[.int .i64 0, .int .i64 0, .int .i64 0, .string ⟨#[]⟩, .slice none 0 0] 58)).alloc (.cells #[.int .i64 op, .int .i64 a, .int .i64 n, .string s, .slice none 0 0] 58)) (w.heap.size + 3) C R O (.cells #[.int .i64 op, .int .i64 a, .int .i64 n, .string s, .slice ps set.length cps, .slice p len cap] 35) op a n s (fun i => datX (kid i)) 0 (.slice none 0 0) [] []) := by
      show DLoop _ _ _ _ _ _ _ _ _ _ _ _ _ _ _ _
      rw [hO, hR, hC]; exact HS0
    have hCO : C ≠ O := by omega
    have hRO : R ≠ O := by omega
    clear hin hsl ih hat hwe hwt HS0
    simp only [X.op, X.at_, X.n, X.s]
    rw [HY.out]
    go_enter Try.func36, Try.ntmps36
    go_wp2_with fail
    rw [← hO, ← hR, ← hC]
    clear hC hR hO
    go_loopw [4] (fun v4 wr => ∃ (k : Nat) (lv : Value) (la : List (D × Value)) (SS : List (List Nat)), v4 = .int .i64 k ∧ k ≤ len ∧ DLoop w wr (w.heap.size + 3) C R O (.cells #[.int .i64 op, .int .i64 a, .int .i64 n, .string s, .slice ps set.length cps, .slice p len cap] 35) op a n s (fun i => datX (kid i)) k lv la SS) (fun v4 _ => len - (intOf v4).toNat)
    case atStart => exact ⟨0, _, _, _, rfl, Nat.zero_le _, HH0.out⟩
    case round =>
      obtain ⟨k, lv, la, SS, rfl, hk, hL⟩ := hrel
      have HL : Hid (DLoop w wr (w.heap.size + 3) C R O (.cells #[.int .i64 op, .int .i64 a, .int .i64 n, .string s, .slice ps set.length cps, .slice p len cap] 35) op a n s (fun i => datX (kid i)) k lv la SS) := hL
      have hA : Six wr C op a n s (.slice ps set.length cps) (.slice p len cap) 35 := hL.arg
      have a4 := hA.cells.2.2.2.2.2
      obtain ⟨o0, o1, o2, o3, o4⟩ := hL.out.cells
      clear hL HH0
      by_cases hkl : (k : Int) < len
      · obtain ⟨b, o, ux, u, hp, hd, hinu⟩ := HAT.out k (by omega)
        subst hp
        obtain ⟨c0, c1, c2, c3, c4, c5⟩ := hd.below HL.out.bel.toBelow
        have HIN : Hid ((kid k).At 0 wr.drew ux u) := X.At.below (Below.refl _ wr).drew (X.At.below HL.out.bel.toBelow hinu)
        have HKL : Hid (k < len) := by show k < len; omega
        have HOWN : Hid (wr.ownsRow 0 58 5 lv k (drows la)) := HL.out.rows.own
        have hOl : O < wr.heap.size := HL.out.out.lt
        have hCl : C < wr.heap.size := hA.lt
        have hbl : b < wr.heap.size := World.block_lt_of_cell? wr _ c0
        clear hd hinu hA
        have hki0 : (0 : Int) ≤ (k : Int) := by omega
        have HCF : Hid (∀ (vs : Array Value) (w : World), (callFunc 36 vs).run Try.prog w = .ok (.enter 36 vs) w) := fun vs w => specDat_enter vs w
        go_wp2_with fail
        go_region_law
          (first
            | (refine step_call1 rfl 36 (.tmp 27) 35 rfl HCF.out (.agg #[.int .i64 (kid k).op, .int .i64 (kid k).at_, .int .i64 (kid k).n, .string (kid k).s, ux, u]) rfl _ (IH.out k HKL.out wr.drew ux u HIN.out) ?_; rintro e w1 ⟨v', T, rfl, hb1, hd1, hn1, hT1⟩; refine ⟨_, rfl, ?_⟩; have HC1 : Hid (Below wr.heap.size wr w1 ∧ DOwn w1 (datX (kid k)) v' T ∧ T.Nodup ∧ ∀ x ∈ T, wr.heap.size ≤ x) := ⟨⟨hb1.os, hb1.tape, hb1.output, hb1.size, hb1.block⟩, hd1, hn1, hT1⟩; obtain ⟨pv, cv, hv'⟩ := hd1.sown.sl.shape; subst hv'; have z4 : w1.cell? ⟨O, 4, none⟩ = some lv := (HC1.out.1.cell (by exact hOl)).trans o4; have z5 : ∀ ob, (w1.alloc ob).cell? ⟨O, 4, none⟩ = some lv := fun ob => ((newx w1 ob).cell (by exact Nat.lt_of_lt_of_le hOl HC1.out.1.size)).trans z4; have y4 : w1.cell? ⟨C, 5, none⟩ = some (.slice (some ⟨b, o, none⟩) len cap) := (HC1.out.1.cell (by exact hCl)).trans a4; have HO1 : Hid (w1.ownsRow 0 58 5 lv k (drows la)) := own_belowX HOWN.out HC1.out.1; clear hb1 hd1 hn1 hT1)
            | (refine step_append_lies _ (by rfl) _ _ _ (by rfl) 0 58 i0 _ 5 64 Try.underlying56 hi0 hz0 hz1 hz2 rfl (by omega) lv k (drows la) (by rfl) (HO1.out.alloc _) ⟨w1.heap.size, 0, none⟩ 1 1 [.int .i64 (kid k).op, .int .i64 (kid k).at_, .int .i64 (kid k).n, .string (kid k).s, .slice pv (datX (kid k)).len cv] (by rfl) (by rfl) (World.news_of_block (cs := #[.int .i64 (kid k).op, .int .i64 (kid k).at_, .int .i64 (kid k).n, .string (kid k).s, .slice pv (datX (kid k)).len cv]) (t := 58) (fr := (0, 0)) (heap_alloc_new w1 _)) (by simp [Value.oneCell']) (by omega) (by unfold maxLen; omega) (by omega) (Nat.zero_le _) (w1.heap.size + 1) (by simp) ?_; intro gg cap3 w3 hown3 hgrow hat hlt3; obtain ⟨hO3, hnx⟩ := HL.out.next (Fr.below HC1.out.1 []) HC1.out.2.1 HC1.out.2.2.1 HC1.out.2.2.2 (by rw [dat_cells]; exact hown3) hgrow hat; have HNX : Hid (DLoop w (w3.setCell ⟨O, 4, none⟩ (.slice (some ⟨gg, 0, none⟩) (k + 1) cap3)) (w.heap.size + 3) C R O (.cells #[.int .i64 op, .int .i64 a, .int .i64 n, .string s, .slice ps set.length cps, .slice (some ⟨b, o, none⟩) len cap] 35) op a n s (fun i => datX (kid i)) (k + 1) (.slice (some ⟨gg, 0, none⟩) (k + 1) cap3) (la ++ [(datX (kid k), .slice pv (datX (kid k)).len cv)]) (SS ++ [T])) := hnx; have x4 : w3.cell? ⟨O, 4, none⟩ = some lv := (World.cell?_of_block (a := ⟨O, 4, none⟩) hO3).trans o4; have xf : w3.frozen? ⟨O, 4, none⟩ = false := (World.frozen?_of_block (a := ⟨O, 4, none⟩) hO3).trans (HL.out.out.fr 4); clear hO3 hnx hown3 hgrow hat hlt3))
        all_goals
          go_wp2_with fail
          go_roundw
          case rel => exact ⟨k + 1, _, _, _, by go_num, by omega, HNX.out⟩
          case measure => simp [intOf]; omega
      · obtain rfl : k = len := by omega
        obtain ⟨r0, r1, r2, r3, r4⟩ := HL.out.res.cells
        have rf := HL.out.res.fr
        obtain ⟨hfr, S, hX, hSn, hSg⟩ := HL.out.done HPL.out
        obtain ⟨pv, cv, hlv⟩ := hX.sown.sl.shape
        simp only [D.len] at hlv
        subst hlv
        have HS : Hid (Fr [] w (put5 wr R op a n s (.slice pv k cv)) ∧ DOwn (put5 wr R op a n s (.slice pv k cv)) (.mk op a n s k (fun i => datX (kid i))) (.slice pv k cv) S ∧ S.Nodup ∧ ∀ x ∈ S, w.heap.size ≤ x) := ⟨hfr, hX, hSn, hSg⟩
        clear hfr hX hSn hSg HL HAT IH
        go_wp2_with fail
        refine bodyPost_ret (v := .agg #[.int .i64 op, .int .i64 a, .int .i64 n, .string s, .slice pv k cv]) (by rw [results_cellX (p := 2) (ty := 58) (by kernel_rfl)]; simp [go_sem, r0, r1, r2, r3, r4]) rfl ⟨_, rfl, HS.out.1.toBelow, S, HS.out.2.1, HS.out.2.2.1, HS.out.2.2.2⟩
end Go.Proofs.Ytaflnjhknnnaoaa

/- spec.l4Has, spec.SetOk, spec.Within, spec.SameSet at every list of ints. Condition: at most 2^22 of them. -/
namespace Go.Proofs.Ytaflnjhknnnaoaa
open Go.ChangeShapes Go.WideShapes Go.ChangeAt Go.RowKit

set_option maxHeartbeats 1000000 in
theorem spec_setok (xs : List Int) (v : Value) (w : World) (hv : Rd w v xs) (hl : xs.length ≤ 4194304) :
    Calls Try.prog 42 #[v] w fun e w' => e = .returned (.bool (setB xs)) ∧ Below w.heap.size w w' := by
  obtain ⟨a, cap, rfl, hc⟩ := hv.shape
  have HC : Hid (∀ j, j < xs.length → ∃ b off, a = some ⟨b, off, none⟩ ∧ w.cell? ⟨b, off + j, none⟩ = some (.int .i64 (xs.getD j 0))) := hc
  clear hc hv
  obtain ⟨m, hm⟩ : ∃ m, m = xs.length := ⟨_, rfl⟩
  rw [← hm] at HC hl ⊢
  have HM : Hid (m = xs.length) := hm
  clear hm
  go_enter Try.func42, Try.ntmps42
  go_wp2
  go_loopw [3] (fun i wr => ∃ k : Nat, k ≤ m ∧ i = .int .i64 k ∧ (∀ j, j < k → standsB xs j = true) ∧ Below w.heap.size w wr) (fun i _ => m - (intOf i).toNat)
  case atStart => exact ⟨0, by omega, rfl, fun j hj => by omega, Below.refl _ _⟩
  case round =>
    obtain ⟨k, hk, rfl, hno, hb⟩ := hrel
    have HNO : Hid (∀ j, j < k → standsB xs j = true) := hno
    have HB : Hid (Below w.heap.size w wr) := hb
    clear hno hb
    have hup : ∀ (b : Bool), standsB xs k = b → b = true → ∀ j, j < k + 1 → standsB xs j = true := by
      intro b h1 h2 j hj
      by_cases hjk : j = k
      · subst hjk; rw [h1, h2]
      · exact HNO.out j (by omega)
    have HUP : Hid (∀ (b : Bool), standsB xs k = b → b = true → ∀ j, j < k + 1 → standsB xs j = true) := hup
    clear hup
    by_cases hlt : (k : Int) < m
    · have HK : Hid (k < xs.length) := by show k < _; rw [← HM.out]; omega
      obtain ⟨b, off, rfl, hcell⟩ := HC.out k (by omega)
      generalize hx : xs.getD k 0 = x at hcell
      have HX : Hid (xs.getD k 0 = x) := hx
      clear hx
      have hcell1 := cell_later HB.out hcell
      clear hcell
      by_cases h0 : x < 0
      · have d0 : decide (x < 0) = true := by simpa using h0
        go_wp2_with fail
        go_quiet (fail)
        go_wp2
        go_ret
        have hs : standsB xs k = false := by unfold standsB; rw [HX.out]; simp; omega
        rw [set_no k HK.out hs]
        exact ⟨rfl, below_drewN HB.out _⟩
      · have d0 : decide (x < 0) = false := by simpa using h0
        by_cases hk0 : 0 < k
        · have dk : decide (0 < k) = true := by simpa using hk0
          obtain ⟨b', off', hbb, hcell⟩ := HC.out (k - 1) (by omega)
          simp only [Option.some.injEq, Addr.mk.injEq, and_true] at hbb
          obtain ⟨rfl, rfl⟩ := hbb
          generalize hy : xs.getD (k - 1) 0 = y at hcell
          have HY : Hid (xs.getD (k - 1) 0 = y) := hy
          clear hy
          have hcell2 := cell_later HB.out hcell
          clear hcell
          have hs : standsB xs k = decide (y < x) := by
            unfold standsB; rw [HX.out, HY.out, decide_eq_true (by omega : 0 ≤ x), decide_eq_false (by omega : ¬ k = 0)]; simp
          have HS : Hid (standsB xs k = decide (y < x)) := hs
          clear hs
          have e1 : (((k : Int) - 1).toNat) = k - 1 := by omega
          by_cases hyx : x ≤ y
          · go_wp2_with fail
            go_quiet (fail)
            go_wp2
            go_ret
            rw [set_no k HK.out (by rw [HS.out]; simp; omega)]
            exact ⟨rfl, below_drewN HB.out _⟩
          · have d1 : decide (x ≤ y) = false := by simpa using hyx
            go_wp2_with fail
            go_quiet (fail)
            go_wp2
            go_roundw
            case rel => exact ⟨k + 1, by omega, by go_num, HUP.out _ HS.out (by simp; omega), below_drewN HB.out _⟩
            case measure => simp [intOf]; omega
        · have dk : decide (0 < k) = false := by simpa using hk0
          have hs : standsB xs k = true := by
            unfold standsB; rw [HX.out, decide_eq_true (by omega : 0 ≤ x), decide_eq_true (by omega : k = 0)]; rfl
          have HS : Hid (standsB xs k = true) := hs
          clear hs
          go_wp2_with fail
          go_quiet (fail)
          go_wp2
          go_roundw
          case rel => exact ⟨k + 1, by omega, by go_num, HUP.out _ HS.out rfl, below_drewN HB.out _⟩
          case measure => simp [intOf]; omega
    · go_wp2
      go_ret
      have hke : k = m := by omega
      subst hke
      rw [set_yes (fun i hi => HNO.out i (by rw [HM.out]; exact hi))]
      exact ⟨rfl, HB.out⟩

end Go.Proofs.Ytaflnjhknnnaoaa
