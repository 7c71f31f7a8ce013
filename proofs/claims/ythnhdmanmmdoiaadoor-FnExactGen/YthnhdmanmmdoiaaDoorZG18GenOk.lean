/- spec.l14Ir at the other nodes, and at every body that is right. Conditions: at most 2^30 places, values and locals. -/
import Derived.Test.YthnhdmanmmdoiaaDoorZG17SpecLet14
import Derived.Test.YthnhdmanmmdoiaaDoorZG12GenP
namespace Go.Proofs.YthnhdmanmmdoiaaDoor
open Go.ChangeShapes Go.WideShapes Go.ChangeAt Go.RowKit

set_option maxRecDepth 100000 in
set_option maxHeartbeats 8000000 in
theorem spec_other14 (op n : Int) (len : Nat) (kid : Nat → It) (ih : ∀ i, IrAt14 (kid i)) (h2 : twoB op = false) (h7 : op ≠ 7) : IrAt14 (.mk op n len kid) := by
  intro w0 w Q v l xv sl F cap d nb kb at_ hx hin hr hl hd hsl
  have hc : (It.mk op n len kid).count = 1 + sumTo (fun i => (kid i).count) len := rfl
  obtain ⟨hop, -, hrk, hnum⟩ := right_node hr
  have hop' : 1 ≤ op ∧ op ≤ 19 := by
    have : opB op = true := hop
    unfold opB at this
    simpa using this
  have hbit : ∀ i, bitI op i = 0 := fun i => by unfold bitI; rw [if_neg]; rintro ⟨h, _⟩; exact h7 h
  have hrk' : ∀ i, i < len → rightI nb kb at_ (kid i) sl.length = true := fun i hi => by have := hrk i hi; simpa [It.op, It.kid, hbit] using this
  have hnum' : op = 2 → 0 ≤ n ∧ n < sl.length := fun e => by
    have h : numI nb kb at_ op n len sl.length = true := hnum
    rw [e, num_local] at h
    simp only [Bool.and_eq_true, decide_eq_true_eq] at h
    omega
  have h2' : op ≠ 8 ∧ op ≠ 17 ∧ op ≠ 18 := by
    unfold twoB at h2
    simp only [decide_eq_false_iff_not] at h2
    omega
  have hbd : ∀ k, k ≤ len → (kidsG (fun i s => genI (kid i) sl (d + i) s) k l.length).length ≤ 2 * sumTo (fun i => (kid i).count) k := by
    intro k
    induction k with
    | zero => intro _; exact Nat.zero_le _
    | succ k ihk =>
      intro hkl
      have a1 := ihk (by omega)
      have a2 := genI_len (kid k) sl (d + k) (l.length + (kidsG (fun i s => genI (kid i) sl (d + i) s) k l.length).length) _ (hrk' k (by omega))
      simp only [kidsG, List.length_append, sumTo]
      omega
  have hsum : ∀ k, k < len → sumTo (fun i => (kid i).count) k + (kid k).count ≤ sumTo (fun i => (kid i).count) len := fun k hk => by have := sumTo_at (fun i => (kid i).count) k len hk; omega
  have hmono : ∀ k, k ≤ len → sumTo (fun i => (kid i).count) k ≤ sumTo (fun i => (kid i).count) len := by
    intro k hk
    rcases Nat.lt_or_ge k len with h | h
    · have := hsum k h; omega
    · obtain rfl : k = len := by omega
      exact Nat.le_refl _
  obtain ⟨px, cx, ex, hlm, hat⟩ := hx.sl.at
  rw [genI_other (t := .mk op n len kid) h2 h7 (by show op ≠ 0; omega)]
  simp only [It.kid, It.op, It.n, It.len]
  obtain ⟨W, hW⟩ : ∃ W, W = w.alloc (.cells #[.int .i64 op, .int .i64 n, xv] 48) := ⟨_, rfl⟩
  obtain ⟨N, hN⟩ : ∃ N, N = w.heap.size := ⟨_, rfl⟩
  have bW : Below w.heap.size w W := by rw [hW]; exact newb w _
  have hbx : W.heap[N]? = some (.cells #[.int .i64 op, .int .i64 n, xv] 48 (0, 0)) := by rw [hW, hN]; exact heap_alloc_new w _
  have HBG : Hid (Beg w0 w W Q N v l sl F cap op n xv) := ⟨hin.below bW, GK.of_below bW, ⟨(Array.getElem?_eq_some_iff.1 hbx).1, by have := hin.st.lt; omega, fun e => by have := (hin.st.own_ge e).2; omega⟩, hbx⟩
  have HWW : Hid (W = w.alloc (.cells #[.int .i64 op, .int .i64 n, xv] 48) ∧ N = w.heap.size) := ⟨hW, hN⟩
  have HKD : Hid (∀ i, i < len → ∃ b o u, px = some ⟨b, o, none⟩ ∧ HeadI w0 b (o + i * 3) (kid i) u ∧ (kid i).In w0 u) := hat
  have HRR : Hid (∀ i, i < len → rightI nb kb at_ (kid i) sl.length = true) := hrk'
  have HIH : Hid (∀ i, IrAt14 (kid i)) := ih
  have ex' : xv = .slice px len cx := ex
  have HFK : Hid (∀ k, kidsG (fun i s => genI (kid i) sl (d + i) s) (k + 1) l.length = kidsG (fun i s => genI (kid i) sl (d + i) s) k l.length ++ genI (kid k) sl (d + k) (l.length + (kidsG (fun i s => genI (kid i) sl (d + i) s) k l.length).length)) := fun k => rfl
  have hlen30 : len ≤ 1073741824 := by
    have : ∀ k, k ≤ sumTo (fun i => (kid i).count) k := by
      intro k
      induction k with
      | zero => exact Nat.zero_le _
      | succ k ihk => simp only [sumTo]; have := (kid k).count_pos; omega
    have := this len
    omega
  have hd30 : d + len ≤ 1073741824 := by
    have : ∀ k, k ≤ sumTo (fun i => (kid i).count) k := by
      intro k
      induction k with
      | zero => exact Nat.zero_le _
      | succ k ihk => simp only [sumTo]; have := (kid k).count_pos; omega
    have := this len
    omega
  have HNU : Hid (∀ k, k < len → (l ++ kidsG (fun i s => genI (kid i) sl (d + i) s) k l.length).length + 2 * (kid k).count ≤ 1073741824 ∧ d + k + (kid k).count ≤ 1073741824 ∧ sl.length + (kid k).count ≤ 1073741824) := fun k hk => by
    have a1 := hbd k (by omega)
    have a2 := hsum k hk
    have a3 := kid_count (len := len) (kid := kid) len k hk (Nat.le_refl _)
    rw [List.length_append]
    refine ⟨?_, ?_, ?_⟩ <;> omega
  have HLE : Hid ((l ++ kidsG (fun i s => genI (kid i) sl (d + i) s) len l.length).length ≤ 1073741824) := by
    have a1 := hbd len (Nat.le_refl _)
    show _ ≤ _
    rw [List.length_append]; omega
  obtain ⟨FIN, hFIN⟩ : ∃ FIN, FIN = l ++ (kidsG (fun i s => genI (kid i) sl (d + i) s) len l.length ++ [oneG op n sl len]) := ⟨_, rfl⟩
  rw [← hFIN]
  have HFIN : Hid (FIN = l ++ kidsG (fun i s => genI (kid i) sl (d + i) s) len l.length ++ [oneG op n sl len]) := by rw [hFIN, List.append_assoc]; rfl
  generalize hKG : (fun i s => genI (kid i) sl (d + i) s) = KG at *
  have HKG : Hid ((fun i s => genI (kid i) sl (d + i) s) = KG) := hKG
  obtain ⟨c0, c1, c2⟩ := HBG.out.cells (GK.refl Q v W)
  have g8 : (op == 8) = false := by simpa using h2'.1
  have g17 : (op == 17) = false := by simpa using h2'.2.1
  have g18 : (op == 18) = false := by simpa using h2'.2.2
  have g7 : (op == 7) = false := by simpa using h7
  unfold maxLen at hlm
  clear hW hN hbx bW hin hx hat hr hrk hrk' hop hnum hbit ih ex hd hsl hc hl hbd hsum hmono hFIN hKG h2
  subst ex'
  go_enter Tryd.func15, Tryd.ntmps15
  go_upto_region 1 with fail
  rw [← HWW.out.1, ← HWW.out.2]
  go_wp2_with fail
  go_loopw [11] (fun x wr => ∃ (k : Nat) (v' : Value), x = .int .i64 k ∧ k ≤ len ∧ GSt 44 w0.heap.size Q v' (l ++ kidsG KG k l.length) wr ∧ GK Q v W v' wr) (fun x _ => len - (intOf x).toNat)
  case atStart => exact ⟨0, v, rfl, Nat.zero_le _, by simpa [kidsG] using HBG.out.inn.st, GK.refl Q v W⟩
  case round =>
    obtain ⟨k, v', rfl, hk, hst, hgk⟩ := hrel
    have HST : Hid (GSt 44 w0.heap.size Q v' (l ++ kidsG KG k l.length) wr) := hst
    have HGK : Hid (GK Q v W v' wr) := hgk
    clear hst hgk c0 c1 c2
    obtain ⟨c0, c1, c2⟩ := HBG.out.cells HGK.out
    by_cases hlt : (k : Int) < len
    · have hlt' : k < len := by omega
      obtain ⟨b, o, u, ep, hd0, hi0⟩ := HKD.out k hlt'
      subst ep
      obtain ⟨pu, cu, eu⟩ := hi0.sl.shape
      subst eu
      have HIN : Hid (IrIn w0 wr Q v' (l ++ kidsG KG k l.length) sl F cap) := HBG.out.inn.keep HST.out HGK.out
      obtain ⟨d0, d1, d2⟩ := hd0.below HIN.out.bel
      have HCL : Hid (Calls Tryd.prog 15 #[.pointer (some ⟨Q, 0, none⟩), .agg #[.int .i64 (kid k).op, .int .i64 (kid k).n, .slice pu (kid k).len cu], .slice (some ⟨F, 0, none⟩) sl.length cap, .int .i64 ((d : Int) + k)] wr (IrPost w0.heap.size Q v' (l ++ kidsG KG (k + 1) l.length) wr)) := by
        have := HIH.out k w0 wr Q v' _ _ sl F cap (d + k) nb kb at_ hi0 HIN.out (HRR.out k hlt') (HNU.out k hlt').1 (HNU.out k hlt').2.1 (HNU.out k hlt').2.2
        rw [HFK.out k, ← List.append_assoc]
        rw [List.length_append] at this
        exact this
      clear hd0 hi0
      go_wp2_with fail
      refine HCL.out.mono ?_
      rintro e w2 ⟨rfl, v2, hs2, hg2⟩
      have HS2 : Hid (GSt 44 w0.heap.size Q v2 (l ++ kidsG KG (k + 1) l.length) w2) := hs2
      have HG2 : Hid (GK Q v W v2 w2) := HGK.out.trans hg2
      clear hs2 hg2
      go_wp2_with fail
      go_roundw
      case rel => exact ⟨k + 1, v2, by go_num, by omega, HS2.out, HG2.out⟩
      case measure => simp [intOf]; omega
    · have hke : k = len := by omega
      subst hke
      have HPUT : Hid (∀ (c a m : Int), (⟨c, a, m⟩ : O3) = oneG op n sl k → Calls Tryd.prog 16 #[.pointer (some ⟨Q, 0, none⟩), .int .i64 c, .int .i64 a, .int .i64 m] wr (fun e w' => (∃ z : Int, e = .returned (.int .i64 z)) ∧ IrPost w0.heap.size Q v FIN w (.returned (.tuple #[])) w')) := fun c a m e => by
        refine (spec_put14 w0.heap.size Q v' _ c a m wr HST.out HLE.out).mono fun e' w' ⟨he, v2, hs2, hg2⟩ => ⟨⟨_, he⟩, rfl, v2, ?_, HBG.out.gk.trans (HGK.out.trans hg2)⟩
        rw [HFIN.out, ← e]
        exact hs2
      by_cases h2 : op = 2
      · obtain ⟨n0, n1⟩ := hnum' h2
        subst h2
        obtain ⟨j, rfl⟩ : ∃ j : Nat, n = j := ⟨n.toNat, by omega⟩
        have hj : j < sl.length := by omega
        have HIN : Hid (IrIn w0 wr Q v' (l ++ kidsG KG k l.length) sl F cap) := HBG.out.inn.keep HST.out HGK.out
        have hz : sl[j]? = some sl[j] := List.getElem?_eq_getElem hj
        have s0 := HIN.out.row j _ hz
        have HZ : Hid ((⟨2, sl[j], 0⟩ : O3) = oneG 2 (j : Int) sl k) := by
          show _ = (⟨2, sl.getD (j : Int).toNat 0, 0⟩ : O3)
          rw [Int.toNat_natCast, List.getD_eq_getElem?_getD, hz]; rfl
        clear hz
        generalize sl[j] = Z at *
        go_wp2_with fail
        refine (HPUT.out 2 Z 0 HZ.out).mono ?_
        rintro e w2 ⟨⟨z, rfl⟩, hp⟩
        have HP : Hid (IrPost w0.heap.size Q v FIN w (.returned (.tuple #[])) w2) := hp
        clear hp
        go_wp2_with fail
        first
          | (go_end0; exact HP.out)
          | (refine bodyPost_ret (results_none rfl _ _ _) rfl ?_; exact HP.out)
      clear hnum'
      by_cases h1 : op = 1
      · subst h1
        go_wp2_with fail
        refine (HPUT.out 1 n 0 rfl).mono ?_
        rintro e w2 ⟨⟨z, rfl⟩, hp⟩
        have HP : Hid (IrPost w0.heap.size Q v FIN w (.returned (.tuple #[])) w2) := hp
        clear hp
        go_wp2_with fail
        first
          | (go_end0; exact HP.out)
          | (refine bodyPost_ret (results_none rfl _ _ _) rfl ?_; exact HP.out)
      by_cases h3 : op = 3
      · subst h3
        go_wp2_with fail
        refine (HPUT.out 3 n 0 rfl).mono ?_
        rintro e w2 ⟨⟨z, rfl⟩, hp⟩
        have HP : Hid (IrPost w0.heap.size Q v FIN w (.returned (.tuple #[])) w2) := hp
        clear hp
        go_wp2_with fail
        first
          | (go_end0; exact HP.out)
          | (refine bodyPost_ret (results_none rfl _ _ _) rfl ?_; exact HP.out)
      by_cases h4 : op = 4
      · subst h4
        go_wp2_with fail
        refine (HPUT.out 4 n 0 rfl).mono ?_
        rintro e w2 ⟨⟨z, rfl⟩, hp⟩
        have HP : Hid (IrPost w0.heap.size Q v FIN w (.returned (.tuple #[])) w2) := hp
        clear hp
        go_wp2_with fail
        first
          | (go_end0; exact HP.out)
          | (refine bodyPost_ret (results_none rfl _ _ _) rfl ?_; exact HP.out)
      by_cases h5 : op = 5
      · subst h5
        go_wp2_with fail
        refine (HPUT.out 5 n k rfl).mono ?_
        rintro e w2 ⟨⟨z, rfl⟩, hp⟩
        have HP : Hid (IrPost w0.heap.size Q v FIN w (.returned (.tuple #[])) w2) := hp
        clear hp
        go_wp2_with fail
        first
          | (go_end0; exact HP.out)
          | (refine bodyPost_ret (results_none rfl _ _ _) rfl ?_; exact HP.out)
      by_cases h6 : op = 6
      · subst h6
        go_wp2_with fail
        refine (HPUT.out 6 0 0 rfl).mono ?_
        rintro e w2 ⟨⟨z, rfl⟩, hp⟩
        have HP : Hid (IrPost w0.heap.size Q v FIN w (.returned (.tuple #[])) w2) := hp
        clear hp
        go_wp2_with fail
        first
          | (go_end0; exact HP.out)
          | (refine bodyPost_ret (results_none rfl _ _ _) rfl ?_; exact HP.out)
      by_cases h14 : op = 14
      · subst h14
        go_wp2_with fail
        refine (HPUT.out 8 n k rfl).mono ?_
        rintro e w2 ⟨⟨z, rfl⟩, hp⟩
        have HP : Hid (IrPost w0.heap.size Q v FIN w (.returned (.tuple #[])) w2) := hp
        clear hp
        go_wp2_with fail
        first
          | (go_end0; exact HP.out)
          | (refine bodyPost_ret (results_none rfl _ _ _) rfl ?_; exact HP.out)
      by_cases h15 : op = 15
      · subst h15
        go_wp2_with fail
        refine (HPUT.out 17 0 0 rfl).mono ?_
        rintro e w2 ⟨⟨z, rfl⟩, hp⟩
        have HP : Hid (IrPost w0.heap.size Q v FIN w (.returned (.tuple #[])) w2) := hp
        clear hp
        go_wp2_with fail
        first
          | (go_end0; exact HP.out)
          | (refine bodyPost_ret (results_none rfl _ _ _) rfl ?_; exact HP.out)
      by_cases h16 : op = 16
      · subst h16
        go_wp2_with fail
        refine (HPUT.out 9 n 0 rfl).mono ?_
        rintro e w2 ⟨⟨z, rfl⟩, hp⟩
        have HP : Hid (IrPost w0.heap.size Q v FIN w (.returned (.tuple #[])) w2) := hp
        clear hp
        go_wp2_with fail
        first
          | (go_end0; exact HP.out)
          | (refine bodyPost_ret (results_none rfl _ _ _) rfl ?_; exact HP.out)
      by_cases h19 : op = 19
      · subst h19
        go_wp2_with fail
        refine (HPUT.out 21 0 0 rfl).mono ?_
        rintro e w2 ⟨⟨z, rfl⟩, hp⟩
        have HP : Hid (IrPost w0.heap.size Q v FIN w (.returned (.tuple #[])) w2) := hp
        clear hp
        go_wp2_with fail
        first
          | (go_end0; exact HP.out)
          | (refine bodyPost_ret (results_none rfl _ _ _) rfl ?_; exact HP.out)
      have hr9 : 9 ≤ op ∧ op ≤ 13 := by omega
      have HZ : Hid ((⟨12 + op - 9, 0, 0⟩ : O3) = oneG op n sl k) := by
        show _ = _
        unfold oneG
        rw [if_neg (by omega), if_neg h2, if_neg h5, if_neg h6, if_neg h14, if_neg h15, if_neg h16, if_neg h19]
        congr 1
        omega
      have e1 : (op == 1) = false := by simpa using h1
      have e2 : (op == 2) = false := by simpa using h2
      have e3 : (op == 3) = false := by simpa using h3
      have e4 : (op == 4) = false := by simpa using h4
      have e5 : (op == 5) = false := by simpa using h5
      have e6 : (op == 6) = false := by simpa using h6
      have e14 : (op == 14) = false := by simpa using h14
      have e15 : (op == 15) = false := by simpa using h15
      have e16 : (op == 16) = false := by simpa using h16
      have e19 : (op == 19) = false := by simpa using h19
      have o1 := hr9.1
      have o2 := hr9.2
      clear h1 h2 h3 h4 h5 h6 h14 h15 h16 h19 hr9
      go_wp2_with fail
      refine (HPUT.out (12 + op - 9) 0 0 HZ.out).mono ?_
      rintro e w2 ⟨⟨z, rfl⟩, hp⟩
      have HP : Hid (IrPost w0.heap.size Q v FIN w (.returned (.tuple #[])) w2) := hp
      clear hp
      go_wp2_with fail
      first
        | (go_end0; exact HP.out)
        | (refine bodyPost_ret (results_none rfl _ _ _) rfl ?_; exact HP.out)

/-- spec.l14Ir at every body. -/
theorem spec_ir14 (t : It) : IrAt14 t := by
  induction t with
  | no => intro w0 w Q v l xv sl F cap d nb kb at_ hx; exact hx.elim
  | mk op n len kid ih =>
    intro w0 w Q v l xv sl F cap d nb kb at_ hx hin hr
    cases h2 : twoB op with
    | true =>
      obtain rfl : len = 3 := right_two hr h2
      exact spec_if14 op n kid ih h2 w0 w Q v l xv sl F cap d nb kb at_ hx hin hr
    | false =>
      by_cases h7 : op = 7
      · subst h7
        obtain rfl : len = 2 := right_let hr rfl
        exact spec_let14 n kid ih w0 w Q v l xv sl F cap d nb kb at_ hx hin hr
      · exact spec_other14 op n len kid ih h2 h7 w0 w Q v l xv sl F cap d nb kb at_ hx hin hr
end Go.Proofs.YthnhdmanmmdoiaaDoor

/- The numbers of the places that are made are ints. Conditions: the body is right, its numbers are ints. -/
namespace Go.Proofs.YthnhdmanmmdoiaaDoor
open Go.ChangeShapes Go.WideShapes Go.ChangeAt Go.RowKit

/-- All numbers of it are ints. -/
def AllN : It → Prop
  | .no => True
  | .mk _ n len kid => I64 n ∧ ∀ i, i < len → AllN (kid i)
theorem AllN.of_in {w : World} (t : It) : ∀ {v : Value}, t.In w v → AllN t := by
  induction t with
  | no => intro v _; trivial
  | mk op n len kid ih =>
    intro v h
    refine ⟨h.num, fun i hi => ?_⟩
    obtain ⟨p, cap, _, _, hat⟩ := h.sl.at
    obtain ⟨b, o, u, _, _, hin⟩ := hat i hi
    exact ih i hin
theorem I64.small {z : Int} (h0 : -1073741825 ≤ z) (h1 : z ≤ 1073741900) : I64 z := by unfold I64; omega

theorem I64.nat {k : Nat} (h : k ≤ 1073741824) : I64 (k : Int) := I64.small (by omega) (by omega)
theorem okK {c n m : Int} (h : -100 ≤ c ∧ c ≤ 100) (hn : I64 n) (hm : I64 m) : O3.Ok ⟨c, n, m⟩ := ⟨I64.small (by show _ ≤ c; omega) (by show c ≤ _; omega), hn, hm⟩
theorem kidsG_mem {f : Nat → Nat → List O3} {P : O3 → Prop} : ∀ (k s : Nat), (∀ i, i < k → ∀ q ∈ f i (s + (kidsG f i s).length), P q) → ∀ q ∈ kidsG f k s, P q
  | 0, _, _, q, hq => by simp [kidsG] at hq
  | k + 1, s, h, q, hq => by
    simp only [kidsG, List.mem_append] at hq
    rcases hq with hq | hq
    · exact kidsG_mem k s (fun i hi => h i (by omega)) q hq
    · exact h k (by omega) q hq
theorem getD_mem0 {sl : List Int} (h : ∀ z ∈ sl, I64 z) (j : Nat) : I64 (sl.getD j 0) := by
  rw [List.getD_eq_getElem?_getD]
  cases e : sl[j]? with
  | none => exact I64.small (by decide) (by decide)
  | some z => exact h z (List.mem_of_getElem? e)
theorem oneG_ok {op n : Int} {sl : List Int} {len : Nat} (h1 : 1 ≤ op ∧ op ≤ 19) (hn : I64 n) (hs : ∀ z ∈ sl, I64 z) (hl : len ≤ 1073741824) : (oneG op n sl len).Ok := by
  have z0 : I64 0 := I64.small (by decide) (by decide)
  have ho : I64 op := I64.small (by omega) (by omega)
  have hlen : I64 (len : Int) := I64.small (by omega) (by omega)
  unfold oneG
  split
  · exact ⟨ho, hn, z0⟩
  split
  · exact okK (by decide) (getD_mem0 hs _) z0
  split
  · exact okK (by decide) hn hlen
  split
  · exact okK (by decide) z0 z0
  split
  · exact okK (by decide) hn hlen
  split
  · exact okK (by decide) z0 z0
  split
  · exact okK (by decide) hn z0
  split
  · exact okK (by decide) z0 z0
  · exact okK (by omega) z0 z0
theorem count_len (t : It) : t.len ≤ t.count := by
  rw [It.count_eq]
  have : ∀ k, k ≤ sumTo (fun i => (t.kid i).count) k := by
    intro k
    induction k with
    | zero => exact Nat.zero_le _
    | succ k ih => simp only [sumTo]; have := (t.kid k).count_pos; omega
  have := this t.len
  omega

theorem gen_ok {nb : Nat} {kb : Nat → Kb} {at_ : Nat} (t : It) : ∀ (sl : List Int) (d s deep : Nat), rightI nb kb at_ t deep = true → AllN t → (∀ z ∈ sl, I64 z) → d + t.count ≤ 1073741824 → s + 2 * t.count ≤ 1073741824 → ∀ q ∈ genI t sl d s, q.Ok := by
  induction t with
  | no => intro sl d s deep h; simp [rightI] at h
  | mk op n len kid ih =>
    intro sl d s deep h hn hs hd hb
    obtain ⟨hop, _, hk, _⟩ := right_node h
    have hk' : ∀ i, i < len → rightI nb kb at_ (kid i) (deep + bitI op i) = true := hk
    have hop' : 1 ≤ op ∧ op ≤ 19 := by have : opB op = true := hop; unfold opB at this; simpa using this
    have hc : (It.mk op n len kid).count = 1 + sumTo (fun i => (kid i).count) len := rfl
    have z0 : I64 0 := I64.small (by decide) (by decide)
    obtain ⟨hn1, hn2⟩ := hn
    cases h2 : twoB op with
    | true =>
      have hl : len = 3 := right_two (t := .mk op n len kid) h h2
      subst hl
      rw [hc, sum3] at hd hb
      have l0 := genI_len (kid 0) sl d s _ (hk' 0 (by omega))
      have l1 := genI_len (kid 1) sl d (s + (genI (kid 0) sl d s).length + 1) _ (hk' 1 (by omega))
      have l2 := genI_len (kid 2) sl d (s + (genI (kid 0) sl d s).length + 1 + (genI (kid 1) sl d (s + (genI (kid 0) sl d s).length + 1)).length + 1) _ (hk' 2 (by omega))
      have i0 := ih 0 sl d s _ (hk' 0 (by omega)) (hn2 0 (by omega)) hs (by omega) (by omega)
      have i1 := ih 1 sl d (s + (genI (kid 0) sl d s).length + 1) _ (hk' 1 (by omega)) (hn2 1 (by omega)) hs (by omega) (by omega)
      have i2 := ih 2 sl d (s + (genI (kid 0) sl d s).length + 1 + (genI (kid 1) sl d (s + (genI (kid 0) sl d s).length + 1)).length + 1) _ (hk' 2 (by omega)) (hn2 2 (by omega)) hs (by omega) (by omega)
      rw [genI_two (t := .mk op n 3 kid) h2]
      simp only [It.kid, It.op, It.n]
      intro q hq
      simp only [List.mem_append, List.mem_singleton] at hq
      rcases hq with (((hq | hq) | hq) | hq) | hq
      · exact i0 q hq
      · subst hq
        unfold testG
        split
        · exact okK (by decide) (I64.nat (by omega)) z0
        · exact okK (by omega) hn1 (I64.nat (by omega))
      · exact i1 q hq
      · subst hq
        exact okK (by decide) (I64.nat (by omega)) z0
      · exact i2 q hq
    | false =>
      by_cases h7 : op = 7
      · have hl : len = 2 := right_let (t := .mk op n len kid) h h7
        subst hl
        rw [hc, sum2] at hd hb
        have l0 := genI_len (kid 0) sl d s _ (hk' 0 (by omega))
        have i0 := ih 0 sl d s _ (hk' 0 (by omega)) (hn2 0 (by omega)) hs (by omega) (by omega)
        have i1 := ih 1 (sl ++ [(d : Int)]) (d + 1) (s + (genI (kid 0) sl d s).length) _ (hk' 1 (by omega)) (hn2 1 (by omega)) (fun z hz => by
          rcases List.mem_append.1 hz with hz | hz
          · exact hs z hz
          · simp only [List.mem_singleton] at hz
            subst hz
            exact I64.small (by omega) (by omega)) (by omega) (by omega)
        rw [genI_let (t := .mk op n 2 kid) h7]
        simp only [It.kid]
        intro q hq
        simp only [List.mem_append, List.mem_singleton] at hq
        rcases hq with (hq | hq) | hq
        · exact i0 q hq
        · exact i1 q hq
        · subst hq
          exact okK (by decide) z0 z0
      · rw [genI_other (t := .mk op n len kid) h2 h7 (by show op ≠ 0; omega)]
        simp only [It.kid, It.op, It.n, It.len]
        have hlen := count_len (It.mk op n len kid)
        have hlen' : len ≤ (It.mk op n len kid).count := hlen
        intro q hq
        rcases List.mem_append.1 hq with hq | hq
        · refine kidsG_mem (P := O3.Ok) len s (fun i hi => ?_) q hq
          have a1 : (kidsG (fun i s => genI (kid i) sl (d + i) s) i s).length ≤ 2 * sumTo (fun i => (kid i).count) i := by
            have key : ∀ k, k ≤ len → (kidsG (fun i s => genI (kid i) sl (d + i) s) k s).length ≤ 2 * sumTo (fun i => (kid i).count) k := by
              intro k
              induction k with
              | zero => intro _; exact Nat.zero_le _
              | succ k ihk =>
                intro hkl
                have b1 := ihk (by omega)
                have b2 := genI_len (kid k) sl (d + k) (s + (kidsG (fun i s => genI (kid i) sl (d + i) s) k s).length) _ (hk' k (by omega))
                simp only [kidsG, List.length_append, sumTo]
                omega
            exact key i (by omega)
          have a2 := sumTo_at (fun i => (kid i).count) i len hi
          have a3 : i ≤ sumTo (fun i => (kid i).count) i := by
            have : ∀ k, k ≤ sumTo (fun i => (kid i).count) k := by
              intro k
              induction k with
              | zero => exact Nat.zero_le _
              | succ k ihk => simp only [sumTo]; have := (kid k).count_pos; omega
            exact this i
          rw [hc] at hd hb
          exact ih i sl (d + i) _ _ (hk' i hi) (hn2 i hi) hs (by omega) (by omega)
        · simp only [List.mem_singleton] at hq
          subst hq
          exact oneG_ok hop' hn1 hs (by omega)

/-- The function of a block. -/
def opsG (t : Kb) : List O3 := genI t.bd [0] 1 0 ++ [⟨7, 0, 0⟩]
def genF (t : Kb) : Fu := ⟨t.fr, (opsG t).length, fun j => (opsG t).getD j default⟩
theorem blk_right {nb : Nat} {kb : Nat → Kb} (h : blksB nb kb = true) : (1 ≤ nb ∧ nb ≤ 60) ∧ ∀ i, i < nb → rightI nb kb i (kb i).bd 1 = true ∧ (kb i).bd.count ≤ 4000 := by
  unfold blksB at h
  simp only [Bool.and_eq_true, decide_eq_true_eq] at h
  refine ⟨h.2.1, fun i hi => ?_⟩
  have := allTo_true.1 h.1 i hi
  unfold blkI okI at this
  simp only [Bool.and_eq_true, decide_eq_true_eq] at this
  exact ⟨this.2.2, this.2.1⟩
theorem opsG_ok {nb : Nat} {kb : Nat → Kb} (h : blksB nb kb = true) {i : Nat} (hi : i < nb) (hn : AllN (kb i).bd) : ∀ q ∈ opsG (kb i), q.Ok := by
  obtain ⟨h1, h2⟩ := (blk_right h).2 i hi
  intro q hq
  rcases List.mem_append.1 hq with hq | hq
  · exact gen_ok (kb i).bd [0] 1 0 1 h1 hn (fun z hz => by simp only [List.mem_singleton] at hz; subst hz; exact I64.small (by decide) (by decide)) (by omega) (by omega) q hq
  · simp only [List.mem_singleton] at hq
    subst hq
    exact okK (by decide) (I64.small (by decide) (by decide)) (I64.small (by decide) (by decide))
end Go.Proofs.YthnhdmanmmdoiaaDoor
