/- (*funGen).tree at every body that is right: the places that are put. Conditions: at most 2^30 places, values and locals; the table of codes reads as its text lays it. -/
import Derived.Test.YthnhdmanmmdoiaaDoorZG29HWays14
import Derived.Test.YthnhdmanmmdoiaaDoorZG18GenOk
namespace Go.Proofs.YthnhdmanmmdoiaaDoor
open Go.ChangeShapes Go.WideShapes Go.ChangeAt Go.RowKit

theorem HPost.after {B Q : Nat} {v sv v1 sv1 : Value} {l : List O3} {sl : List Int} {w w1 : World} {e : Ending} {w' : World} (h : HPost B Q v1 sv1 l sl w1 e w') (k : HK Q v sv w v1 sv1 w1) : HPost B Q v sv l sl w e w' :=
  ⟨h.1, by obtain ⟨v', sv', hs, hk⟩ := h.2; exact ⟨v', sv', hs, k.trans hk⟩⟩
theorem head_one {nb : Nat} {kb : Nat → Kb} {at_ : Nat} {op n : Int} {sl : List Int} {len deep : Nat} (h : numI nb kb at_ op n len deep = true) (ho : 1 ≤ op ∧ op ≤ 19) (h7 : op ≠ 7) (h8 : op ≠ 8) (h17 : op ≠ 17) (h18 : op ≠ 18) : headG op n sl len = oneG op n sl len := by
  obtain ⟨i, rfl⟩ : ∃ i : Nat, op = i := ⟨op.toNat, by omega⟩
  have hi : 1 ≤ i ∧ i ≤ 19 := by omega
  have hz : ((i : Int) = 6 ∨ (i : Int) = 7 ∨ (i : Int) = 8 ∨ (9 ≤ (i : Int) ∧ (i : Int) ≤ 13) ∨ (i : Int) = 15 ∨ (i : Int) = 19) → n = 0 := fun e => num_none h e
  match i, hi with
  | 1, _ => rfl
  | 2, _ => rfl
  | 3, _ => rfl
  | 4, _ => rfl
  | 5, _ => rfl
  | 6, _ => rw [hz (by omega)]; rfl
  | 7, _ => omega
  | 8, _ => omega
  | 9, _ => rw [hz (by omega)]; rfl
  | 10, _ => rw [hz (by omega)]; rfl
  | 11, _ => rw [hz (by omega)]; rfl
  | 12, _ => rw [hz (by omega)]; rfl
  | 13, _ => rw [hz (by omega)]; rfl
  | 14, _ => rfl
  | 15, _ => rw [hz (by omega)]; rfl
  | 16, _ => rfl
  | 17, _ => omega
  | 18, _ => omega
  | 19, _ => rw [hz (by omega)]; rfl
  | 0, h => omega
  | n + 20, h => omega

set_option maxRecDepth 100000 in
set_option maxHeartbeats 8000000 in
theorem tree_let14 (n : Int) (kid : Nat → It) (ih : ∀ i, HrAt14 (kid i)) : HrAt14 (.mk 7 n 2 kid) := by
  intro w0 w Q v sv l xv sl d nb kb at_ hx hin htab hr hl hd hsl
  obtain ⟨px, cx, ex⟩ := hx.sl.shape
  have hbg := HBeg.begin 7 n xv hin
  obtain ⟨W, hW⟩ : ∃ W, W = w.alloc (.cells #[.int .i64 7, .int .i64 n, xv] 48) := ⟨_, rfl⟩
  obtain ⟨N, hN⟩ : ∃ N, N = w.heap.size := ⟨_, rfl⟩
  rw [← hW, ← hN] at hbg
  have HWW : Hid (W = w.alloc (.cells #[.int .i64 7, .int .i64 n, xv] 48) ∧ N = w.heap.size) := ⟨hW, hN⟩
  obtain ⟨c0, c1, c2⟩ := hbg.cells (HK.refl Q v sv W)
  obtain ⟨POST, hPO⟩ : ∃ POST, POST = HPost w0.heap.size Q v sv (l ++ genI (.mk 7 n 2 kid) sl d l.length) sl w := ⟨_, rfl⟩
  have HC : Hid (Calls Tryd.prog 49 #[.pointer (some ⟨Q, 0, none⟩), .agg #[.int .i64 7, .int .i64 n, xv], .int .i64 d] W (fun e w' => e = .returned (.tuple #[]) ∧ POST e w')) :=
    (impl_let14 n kid ih w0 W Q v sv l xv sl d nb kb at_ hx hbg.inn htab hr hl hd hsl).mono fun e w' h => ⟨h.1, by rw [hPO]; exact h.after hbg.gk⟩
  rw [← hPO]
  simp only [It.op, It.n]
  have ex' : xv = .slice px 2 cx := ex
  clear hW hN hbg hx hin htab hr hl hd hsl ex hPO
  subst ex'
  go_enter Tryd.func35, Tryd.ntmps35
  go_upto_region 1 with fail
  rw [← HWW.out.1, ← HWW.out.2]
  go_wp2_with fail
  refine HC.out.mono ?_
  rintro e w1 ⟨rfl, hp⟩
  have HP : Hid (POST (.returned (.tuple #[])) w1) := hp
  clear hp
  go_wp2_with fail
  first
    | (go_end0; exact HP.out)
    | (refine bodyPost_ret (results_none rfl _ _ _) rfl ?_; exact HP.out)

set_option maxRecDepth 100000 in
set_option maxHeartbeats 8000000 in
theorem tree_two14 (op n : Int) (kid : Nat → It) (ih : ∀ i, HrAt14 (kid i)) (h2 : twoB op = true) : HrAt14 (.mk op n 3 kid) := by
  intro w0 w Q v sv l xv sl d nb kb at_ hx hin htab hr hl hd hsl
  obtain ⟨px, cx, ex⟩ := hx.sl.shape
  have hbg := HBeg.begin op n xv hin
  obtain ⟨W, hW⟩ : ∃ W, W = w.alloc (.cells #[.int .i64 op, .int .i64 n, xv] 48) := ⟨_, rfl⟩
  obtain ⟨N, hN⟩ : ∃ N, N = w.heap.size := ⟨_, rfl⟩
  rw [← hW, ← hN] at hbg
  have HWW : Hid (W = w.alloc (.cells #[.int .i64 op, .int .i64 n, xv] 48) ∧ N = w.heap.size) := ⟨hW, hN⟩
  obtain ⟨c0, c1, c2⟩ := hbg.cells (HK.refl Q v sv W)
  obtain ⟨POST, hPO⟩ : ∃ POST, POST = HPost w0.heap.size Q v sv (l ++ genI (.mk op n 3 kid) sl d l.length) sl w := ⟨_, rfl⟩
  have HC : Hid (Calls Tryd.prog 50 #[.pointer (some ⟨Q, 0, none⟩), .agg #[.int .i64 op, .int .i64 n, xv], .int .i64 d] W (fun e w' => e = .returned (.tuple #[]) ∧ POST e w')) :=
    (impl_ways14 op n kid ih h2 w0 W Q v sv l xv sl d nb kb at_ hx hbg.inn htab hr hl hd hsl).mono fun e w' h => ⟨h.1, by rw [hPO]; exact h.after hbg.gk⟩
  rw [← hPO]
  simp only [It.op, It.n]
  have ex' : xv = .slice px 3 cx := ex
  have h2' : op = 8 ∨ op = 17 ∨ op = 18 := by unfold twoB at h2; simpa using h2
  clear hW hN hbg hx hin htab hr hl hd hsl ex hPO h2
  subst ex'
  rcases h2' with rfl | rfl | rfl
  all_goals
    go_enter Tryd.func35, Tryd.ntmps35
    go_upto_region 1 with fail
    rw [← HWW.out.1, ← HWW.out.2]
    go_wp2_with fail
    refine HC.out.mono ?_
    rintro e w1 ⟨rfl, hp⟩
    have HP : Hid (POST (.returned (.tuple #[])) w1) := hp
    clear hp
    go_wp2_with fail
    first
      | (go_end0; exact HP.out)
      | (refine bodyPost_ret (results_none rfl _ _ _) rfl ?_; exact HP.out)

set_option maxRecDepth 100000 in
set_option maxHeartbeats 8000000 in
theorem tree_other14 (op n : Int) (len : Nat) (kid : Nat → It) (ih : ∀ i, HrAt14 (kid i)) (h2 : twoB op = false) (h7 : op ≠ 7) : HrAt14 (.mk op n len kid) := by
  intro w0 w Q v sv l xv sl d nb kb at_ hx hin htab hr hl hd hsl
  have hc : (It.mk op n len kid).count = 1 + sumTo (fun i => (kid i).count) len := rfl
  obtain ⟨hop, -, hrk, hnum⟩ := right_node hr
  have hop' : 1 ≤ op ∧ op ≤ 19 := by
    have : opB op = true := hop
    unfold opB at this
    simpa using this
  have hbit : ∀ i, bitI op i = 0 := fun i => by unfold bitI; rw [if_neg]; rintro ⟨h, _⟩; exact h7 h
  have hrk' : ∀ i, i < len → rightI nb kb at_ (kid i) sl.length = true := fun i hi => by have := hrk i hi; simpa [It.op, It.kid, hbit] using this
  have hnum' : op = 2 → 0 ≤ n ∧ n < sl.length := fun e => by
    have h : numI nb kb at_ op n len sl.length = true := hnum
    rw [e, num_local] at h
    simp only [Bool.and_eq_true, decide_eq_true_eq] at h
    omega
  have h2' : op ≠ 8 ∧ op ≠ 17 ∧ op ≠ 18 := by
    unfold twoB at h2
    simp only [decide_eq_false_iff_not] at h2
    omega
  have hone : headG op n sl len = oneG op n sl len := head_one (op := op) (len := len) hnum hop' h7 h2'.1 h2'.2.1 h2'.2.2
  have hbd : ∀ k, k ≤ len → (kidsG (fun i s => genI (kid i) sl (d + i) s) k l.length).length ≤ 2 * sumTo (fun i => (kid i).count) k := by
    intro k
    induction k with
    | zero => intro _; exact Nat.zero_le _
    | succ k ihk =>
      intro hkl
      have a1 := ihk (by omega)
      have a2 := genI_len (kid k) sl (d + k) (l.length + (kidsG (fun i s => genI (kid i) sl (d + i) s) k l.length).length) _ (hrk' k (by omega))
      simp only [kidsG, List.length_append, sumTo]
      omega
  have hsum : ∀ k, k < len → sumTo (fun i => (kid i).count) k + (kid k).count ≤ sumTo (fun i => (kid i).count) len := fun k hk => by have := sumTo_at (fun i => (kid i).count) k len hk; omega
  obtain ⟨px, cx, ex, hlm, hat⟩ := hx.sl.at
  rw [genI_other (t := .mk op n len kid) h2 h7 (by show op ≠ 0; omega)]
  simp only [It.kid, It.op, It.n, It.len]
  have hbg := HBeg.begin op n xv hin
  obtain ⟨W, hW⟩ : ∃ W, W = w.alloc (.cells #[.int .i64 op, .int .i64 n, xv] 48) := ⟨_, rfl⟩
  obtain ⟨N, hN⟩ : ∃ N, N = w.heap.size := ⟨_, rfl⟩
  rw [← hW, ← hN] at hbg
  have HBG : Hid (HBeg w0 w W Q N v sv l sl op n xv) := hbg
  have HWW : Hid (W = w.alloc (.cells #[.int .i64 op, .int .i64 n, xv] 48) ∧ N = w.heap.size) := ⟨hW, hN⟩
  have HKD : Hid (∀ i, i < len → ∃ b o u, px = some ⟨b, o, none⟩ ∧ HeadI w0 b (o + i * 3) (kid i) u ∧ (kid i).In w0 u) := hat
  have HRR : Hid (∀ i, i < len → rightI nb kb at_ (kid i) sl.length = true) := hrk'
  have HIH : Hid (∀ i, HrAt14 (kid i)) := ih
  have HTB : Hid (CodeTab w0) := htab
  have ex' : xv = .slice px len cx := ex
  have HFK : Hid (∀ k, kidsG (fun i s => genI (kid i) sl (d + i) s) (k + 1) l.length = kidsG (fun i s => genI (kid i) sl (d + i) s) k l.length ++ genI (kid k) sl (d + k) (l.length + (kidsG (fun i s => genI (kid i) sl (d + i) s) k l.length).length)) := fun k => rfl
  have hpos : ∀ k, k ≤ sumTo (fun i => (kid i).count) k := by
    intro k
    induction k with
    | zero => exact Nat.zero_le _
    | succ k ihk => simp only [sumTo]; have := (kid k).count_pos; omega
  have hlen30 : len ≤ 1073741824 := by have := hpos len; omega
  have hd30 : d + len ≤ 1073741824 := by have := hpos len; omega
  have HNU : Hid (∀ k, k < len → (l ++ kidsG (fun i s => genI (kid i) sl (d + i) s) k l.length).length + 2 * (kid k).count ≤ 1073741824 ∧ d + k + (kid k).count ≤ 1073741824 ∧ sl.length + (kid k).count ≤ 1073741824) := fun k hk => by
    have a1 := hbd k (by omega)
    have a2 := hsum k hk
    have a3 := kid_count (len := len) (kid := kid) len k hk (Nat.le_refl _)
    rw [List.length_append]
    refine ⟨?_, ?_, ?_⟩ <;> omega
  have HLE : Hid ((l ++ kidsG (fun i s => genI (kid i) sl (d + i) s) len l.length).length ≤ 1073741824) := by
    have a1 := hbd len (Nat.le_refl _)
    show _ ≤ _
    rw [List.length_append]; omega
  obtain ⟨FIN, hFIN⟩ : ∃ FIN, FIN = l ++ (kidsG (fun i s => genI (kid i) sl (d + i) s) len l.length ++ [oneG op n sl len]) := ⟨_, rfl⟩
  rw [← hFIN]
  have HFIN : Hid (FIN = l ++ kidsG (fun i s => genI (kid i) sl (d + i) s) len l.length ++ [oneG op n sl len]) := by rw [hFIN, List.append_assoc]; rfl
  generalize hKG : (fun i s => genI (kid i) sl (d + i) s) = KG at *
  have HKG : Hid ((fun i s => genI (kid i) sl (d + i) s) = KG) := hKG
  have HHD : Hid (∀ w1, HSt w0.heap.size Q v sv l sl w1 → True) := fun _ _ => trivial
  have HON : Hid (headG op n sl len = oneG op n sl len ∧ (1 ≤ op ∧ op ≤ 19) ∧ (op = 2 → 0 ≤ n ∧ n < sl.length)) := ⟨hone, hop', hnum'⟩
  obtain ⟨c0, c1, c2⟩ := HBG.out.cells (HK.refl Q v sv W)
  have g8 : (op == 8) = false := by simpa using h2'.1
  have g17 : (op == 17) = false := by simpa using h2'.2.1
  have g18 : (op == 18) = false := by simpa using h2'.2.2
  have g7 : (op == 7) = false := by simpa using h7
  unfold maxLen at hlm
  clear hW hN hbg hin hx hat hr hrk hrk' hop hnum hbit ih ex hd hsl hc hl hbd hsum hFIN hKG h2 hone hop' hnum' h7 h2' hpos htab HHD
  subst ex'
  go_enter Tryd.func35, Tryd.ntmps35
  go_upto_region 1 with fail
  rw [← HWW.out.1, ← HWW.out.2]
  go_wp2_with fail
  go_loopw [13] (fun x wr => ∃ (k : Nat) (v' sv' : Value), x = .int .i64 k ∧ k ≤ len ∧ HSt w0.heap.size Q v' sv' (l ++ kidsG KG k l.length) sl wr ∧ HK Q v sv W v' sv' wr) (fun x _ => len - (intOf x).toNat)
  case atStart => exact ⟨0, v, sv, rfl, Nat.zero_le _, by simpa [kidsG] using HBG.out.inn.st, HK.refl Q v sv W⟩
  case round =>
    obtain ⟨k, v', sv', rfl, hk, hst, hgk⟩ := hrel
    have HIN : Hid (HIn w0 wr Q v' sv' (l ++ kidsG KG k l.length) sl) := HBG.out.inn.keep hst hgk
    have HGK : Hid (HK Q v sv W v' sv' wr) := hgk
    clear hst hgk c0 c1 c2
    obtain ⟨c0, c1, c2⟩ := HBG.out.cells HGK.out
    by_cases hlt : (k : Int) < len
    · have hlt' : k < len := by omega
      obtain ⟨b, o, u, ep, hd0, hi0⟩ := HKD.out k hlt'
      subst ep
      obtain ⟨pu, cu, eu⟩ := hi0.sl.shape
      subst eu
      obtain ⟨d0, d1, d2⟩ := hd0.below HIN.out.bel
      obtain ⟨V, hV⟩ : ∃ V, V = wr.alloc (.cells #[.int .i64 (kid k).op, .int .i64 (kid k).n, .slice pu (kid k).len cu] 48) := ⟨_, rfl⟩
      have bV : Below wr.heap.size wr V := by rw [hV]; exact newb wr _
      have hv : V.heap[wr.heap.size]? = some (.cells #[.int .i64 (kid k).op, .int .i64 (kid k).n, .slice pu (kid k).len cu] 48 (0, 0)) := by rw [hV]; exact heap_alloc_new wr _
      have v0 : V.cell? ⟨wr.heap.size, 0, none⟩ = some (.int .i64 (kid k).op) := cell_of_row V _ 0 _ _ _ hv
      have v1 : V.cell? ⟨wr.heap.size, 1, none⟩ = some (.int .i64 (kid k).n) := cell_of_row V _ 1 _ _ _ hv
      have v2 : V.cell? ⟨wr.heap.size, 2, none⟩ = some (.slice pu (kid k).len cu) := cell_of_row V _ 2 _ _ _ hv
      have HVV : Hid (V = wr.alloc (.cells #[.int .i64 (kid k).op, .int .i64 (kid k).n, .slice pu (kid k).len cu] 48)) := hV
      have HIV : Hid (HIn w0 V Q v' sv' (l ++ kidsG KG k l.length) sl) := HIN.out.below bV
      have HGV : Hid (HK Q v sv W v' sv' V) := HGK.out.trans (HK.of_below bV)
      have HCL : Hid (Calls Tryd.prog 35 #[.pointer (some ⟨Q, 0, none⟩), .agg #[.int .i64 (kid k).op, .int .i64 (kid k).n, .slice pu (kid k).len cu], .int .i64 ((d : Int) + k)] V (HPost w0.heap.size Q v' sv' (l ++ kidsG KG (k + 1) l.length) sl V)) := by
        have := HIH.out k w0 V Q v' sv' _ _ sl (d + k) nb kb at_ hi0 HIV.out HTB.out (HRR.out k hlt') (HNU.out k hlt').1 (HNU.out k hlt').2.1 (HNU.out k hlt').2.2
        rw [HFK.out k, ← List.append_assoc]
        rw [List.length_append] at this
        exact this
      clear hd0 hi0 hV bV hv HIN HGK
      go_upto_region 5 with fail
      rw [← HVV.out]
      go_wp2_with fail
      refine HCL.out.mono ?_
      rintro e w2 ⟨rfl, v2', sv2', hs2, hg2⟩
      have HS2 : Hid (HSt w0.heap.size Q v2' sv2' (l ++ kidsG KG (k + 1) l.length) sl w2) := hs2
      have HG2 : Hid (HK Q v sv W v2' sv2' w2) := HGV.out.trans hg2
      clear hs2 hg2
      go_wp2_with fail
      go_roundw
      case rel => exact ⟨k + 1, v2', sv2', by go_num, by omega, HS2.out, HG2.out⟩
      case measure => simp [intOf]; omega
    · have hke : k = len := by omega
      subst hke
      go_wp2_with fail
      refine (impl_head14 w0.heap.size Q v' sv' _ sl wr HIN.out.st (HTB.out.below HIN.out.bel) op n k px cx HON.out.2.1 HON.out.2.2).mono ?_
      rintro e w5 ⟨rfl, hb5⟩
      have HI5 : Hid (HIn w0 w5 Q v' sv' (l ++ kidsG KG k l.length) sl) := HIN.out.below hb5
      have HG5 : Hid (HK Q v sv W v' sv' w5) := HGK.out.trans (HK.of_below hb5)
      clear hb5 c0 c1 c2
      have HPU : Hid (Calls Tryd.prog 36 #[.pointer (some ⟨Q, 0, none⟩), .slice (some ⟨w5.heap.size, 0, none⟩) 1 1] (w5.alloc (.cells #[.int .i64 (headG op n sl k).c, .int .i64 (headG op n sl k).n, .int .i64 (headG op n sl k).m] 68)) (fun e w' => (∃ z : Int, e = .returned (.int .i64 z)) ∧ HPost w0.heap.size Q v sv FIN sl w (.returned (.tuple #[])) w')) := by
        refine (put_new14 w0.heap.size Q v' sv' _ sl (headG op n sl k) w5 HI5.out.st HLE.out).mono fun e' w' ⟨he, v2, hs2, hg2⟩ => ⟨⟨_, he⟩, rfl, v2, sv', ?_, HBG.out.gk.trans (HG5.out.trans hg2)⟩
        rw [HFIN.out, ← HON.out.1]
        exact hs2
      generalize (headG op n sl k).c = x0 at *
      generalize (headG op n sl k).n = x1 at *
      generalize (headG op n sl k).m = x2 at *
      go_wp2_with fail
      refine HPU.out.mono ?_
      rintro e w6 ⟨⟨z, rfl⟩, hp6⟩
      have HP : Hid (HPost w0.heap.size Q v sv FIN sl w (.returned (.tuple #[])) w6) := hp6
      clear hp6
      go_wp2_with fail
      first
        | (go_end0; exact HP.out)
        | (refine bodyPost_ret (results_none rfl _ _ _) rfl ?_; exact HP.out)

/-- (*funGen).tree at every body. -/
theorem impl_tree14 (t : It) : HrAt14 t := by
  induction t with
  | no => intro w0 w Q v sv l xv sl d nb kb at_ hx; exact hx.elim
  | mk op n len kid ih =>
    intro w0 w Q v sv l xv sl d nb kb at_ hx hin htab hr
    cases h2 : twoB op with
    | true =>
      obtain rfl : len = 3 := right_two hr h2
      exact tree_two14 op n kid ih h2 w0 w Q v sv l xv sl d nb kb at_ hx hin htab hr
    | false =>
      by_cases h7 : op = 7
      · subst h7
        obtain rfl : len = 2 := right_let hr rfl
        exact tree_let14 n kid ih w0 w Q v sv l xv sl d nb kb at_ hx hin htab hr
      · exact tree_other14 op n len kid ih h2 h7 w0 w Q v sv l xv sl d nb kb at_ hx hin htab hr
end Go.Proofs.YthnhdmanmmdoiaaDoor

/- impl.genFun: the function of a block that is right. Conditions: the block is right; the table of codes reads as its text lays it. -/
namespace Go.Proofs.YthnhdmanmmdoiaaDoor
open Go.ChangeShapes Go.WideShapes Go.ChangeAt Go.RowKit

/-- What stands when genFun has laid its maker. -/
structure FBeg (w W : World) (fr op n : Int) (xv : Value) : Prop where
  size : W.heap.size = w.heap.size + 4
  bel : Below w.heap.size w W
  blk : W.heap[w.heap.size]? = some (.cells #[.int .i64 fr, .int .i64 op, .int .i64 n, xv] 50 (0, 0))
  res : W.heap[w.heap.size + 1]? = some (.cells #[.int .i64 0, .slice none 0 0] 54 (0, 0))
  ints : W.heap[w.heap.size + 2]? = some (.cells #[.int .i64 0] 3 (0, 0))
  box : W.heap[w.heap.size + 3]? = some (.cells #[.slice none 0 0, .slice (some ⟨w.heap.size + 2, 0, none⟩) 1 1] 75 (0, 0))
theorem fbeg (w : World) (fr op n : Int) (xv : Value) : FBeg w ((((w.alloc (.cells #[.int .i64 fr, .int .i64 op, .int .i64 n, xv] 50)).alloc (.cells #[.int .i64 0, .slice none 0 0] 54)).alloc (.cells #[.int .i64 0] 3)).alloc (.cells #[.slice none 0 0, .slice (some ⟨w.heap.size + 2, 0, none⟩) 1 1] 75)) fr op n xv := by
  have b1 := newb w (.cells #[.int .i64 fr, .int .i64 op, .int .i64 n, xv] 50)
  have n1 := heap_alloc_new w (.cells #[.int .i64 fr, .int .i64 op, .int .i64 n, xv] 50)
  have s1 : (w.alloc (.cells #[.int .i64 fr, .int .i64 op, .int .i64 n, xv] 50)).heap.size = w.heap.size + 1 := by simp
  generalize w.alloc (.cells #[.int .i64 fr, .int .i64 op, .int .i64 n, xv] 50) = w1 at *
  have b2 := newb w1 (.cells #[.int .i64 0, .slice none 0 0] 54)
  have n2 := heap_alloc_new w1 (.cells #[.int .i64 0, .slice none 0 0] 54)
  have s2 : (w1.alloc (.cells #[.int .i64 0, .slice none 0 0] 54)).heap.size = w.heap.size + 2 := by simp [s1]
  generalize w1.alloc (.cells #[.int .i64 0, .slice none 0 0] 54) = w2 at *
  have b3 := newb w2 (.cells #[.int .i64 0] 3)
  have n3 := heap_alloc_new w2 (.cells #[.int .i64 0] 3)
  have s3 : (w2.alloc (.cells #[.int .i64 0] 3)).heap.size = w.heap.size + 3 := by simp [s2]
  generalize w2.alloc (.cells #[.int .i64 0] 3) = w3 at *
  have b4 := newb w3 (.cells #[.slice none 0 0, .slice (some ⟨w.heap.size + 2, 0, none⟩) 1 1] 75)
  have n4 := heap_alloc_new w3 (.cells #[.slice none 0 0, .slice (some ⟨w.heap.size + 2, 0, none⟩) 1 1] 75)
  have s4 : (w3.alloc (.cells #[.slice none 0 0, .slice (some ⟨w.heap.size + 2, 0, none⟩) 1 1] 75)).heap.size = w.heap.size + 4 := by simp [s3]
  generalize w3.alloc (.cells #[.slice none 0 0, .slice (some ⟨w.heap.size + 2, 0, none⟩) 1 1] 75) = w4 at *
  rw [s1] at n2 b2
  rw [s2] at n3 b3
  rw [s3] at n4 b4
  refine ⟨s4, ((b1.trans (b2.mono (by omega))).trans (b3.mono (by omega))).trans (b4.mono (by omega)), ?_, ?_, ?_, n4⟩
  · rw [b4.block _ (by omega), b3.block _ (by omega), b2.block _ (by omega)]; exact n1
  · rw [b4.block _ (by omega), b3.block _ (by omega)]; exact n2
  · rw [b4.block _ (by omega)]; exact n3
theorem FBeg.st {w W : World} {fr op n : Int} {xv : Value} (h : FBeg w W fr op n xv) : HIn w W (w.heap.size + 3) (.slice none 0 0) (.slice (some ⟨w.heap.size + 2, 0, none⟩) 1 1) [] [0] :=
  ⟨h.bel, ⟨h.box, ⟨rfl, .inl ⟨rfl, rfl⟩⟩, ⟨rfl, .inr ⟨w.heap.size + 2, 1, #[.int .i64 0], rfl, by omega, h.ints, Nat.le_refl _, by unfold maxLen; omega, rfl, rfl⟩⟩, (fun e => by cases e), (fun e => by injection e with e; have e' : w.heap.size + 2 = w.heap.size + 3 := e; omega), (fun g e => by cases e), (by omega)⟩⟩
/-- What stands of the begin when only the maker turned. -/
theorem FBeg.keep {w W : World} {fr op n : Int} {xv : Value} (h : FBeg w W fr op n xv) {v sv : Value} {w' : World} (k : HK (w.heap.size + 3) (.slice none 0 0) (.slice (some ⟨w.heap.size + 2, 0, none⟩) 1 1) W v sv w') :
    w'.heap[w.heap.size]? = some (.cells #[.int .i64 fr, .int .i64 op, .int .i64 n, xv] 50 (0, 0)) ∧ w'.heap[w.heap.size + 1]? = some (.cells #[.int .i64 0, .slice none 0 0] 54 (0, 0)) := by
  refine ⟨(k.block _ (by rw [h.size]; omega) (by omega) (by intro e; cases e) (by intro e; injection e with e; have e' : w.heap.size + 2 = w.heap.size := e; omega)).trans h.blk,
    (k.block _ (by rw [h.size]; omega) (by omega) (by intro e; cases e) (by intro e; injection e with e; have e' : w.heap.size + 2 = w.heap.size + 1 := e; omega)).trans h.res⟩

/-- What genFun answers. -/
def FunPost (t : Kb) (w : World) (e : Ending) (w' : World) : Prop := ∃ u, e = .returned (.agg #[.int .i64 t.fr, u]) ∧ Below w.heap.size w w' ∧ w'.ownsRow w.heap.size 68 3 u (opsG t).length (orows (opsG t))
theorem FBeg.done {w W : World} {t : Kb} {xv : Value} (h : FBeg w W t.fr t.bd.op t.bd.n xv) {v sv : Value} {w' : World} (hs : HSt w.heap.size (w.heap.size + 3) v sv (opsG t) [0] w') (k : HK (w.heap.size + 3) (.slice none 0 0) (.slice (some ⟨w.heap.size + 2, 0, none⟩) 1 1) W v sv w') :
    FunPost t w (.returned (.agg #[.int .i64 t.fr, v])) ((w'.setCell ⟨w.heap.size + 1, 0, none⟩ (.int .i64 t.fr)).setCell ⟨w.heap.size + 1, 1, none⟩ v) := by
  have hb := k.old h.st.st h.bel
  refine ⟨v, rfl, (hb.setCell (by show _ ≤ w.heap.size + 1; omega) _).setCell (by show _ ≤ w.heap.size + 1; omega) _, own_keep hs.row (fun g e => ?_)⟩
  have hg : g ≠ w.heap.size + 1 := by
    rcases k.own g e with h1 | h1
    · cases h1
    · have := h.size; omega
  rw [Below.heap_setCell _ ⟨w.heap.size + 1, 1, none⟩ _ g hg, Below.heap_setCell _ ⟨w.heap.size + 1, 0, none⟩ _ g hg]

set_option maxRecDepth 100000 in
set_option maxHeartbeats 8000000 in
theorem impl_gen_fun (t : Kb) (nb : Nat) (kb : Nat → Kb) (at_ : Nat) (w : World) (xv : Value) (hx : t.In w xv) (htab : CodeTab w) (hr : rightI nb kb at_ t.bd 1 = true) (hc : t.bd.count ≤ 4000) :
    Calls Tryd.prog 20 #[.agg #[.int .i64 t.fr, .int .i64 t.bd.op, .int .i64 t.bd.n, xv]] w (FunPost t w) := by
  have hfb := fbeg w t.fr t.bd.op t.bd.n xv
  obtain ⟨W, hW⟩ : ∃ W, W = ((((w.alloc (.cells #[.int .i64 t.fr, .int .i64 t.bd.op, .int .i64 t.bd.n, xv] 50)).alloc (.cells #[.int .i64 0, .slice none 0 0] 54)).alloc (.cells #[.int .i64 0] 3)).alloc (.cells #[.slice none 0 0, .slice (some ⟨w.heap.size + 2, 0, none⟩) 1 1] 75)) := ⟨_, rfl⟩
  rw [← hW] at hfb
  obtain ⟨px, cx, ex⟩ := hx.sl.shape
  have HFB : Hid (FBeg w W t.fr t.bd.op t.bd.n xv) := hfb
  have hlen := genI_len t.bd [0] 1 0 1 hr
  have HL : Hid ((genI t.bd [0] 1 0).length ≤ 1073741824) := by show _ ≤ _; omega
  have HTR : Hid (Calls Tryd.prog 35 #[.pointer (some ⟨w.heap.size + 3, 0, none⟩), .agg #[.int .i64 t.bd.op, .int .i64 t.bd.n, xv], .int .i64 1] W (HPost w.heap.size (w.heap.size + 3) (.slice none 0 0) (.slice (some ⟨w.heap.size + 2, 0, none⟩) 1 1) (genI t.bd [0] 1 0) [0] W)) := by
    have := impl_tree14 t.bd w W (w.heap.size + 3) _ _ [] xv [0] 1 nb kb at_ hx.2 hfb.st htab hr (by simp; omega) (by omega) (by simp; omega)
    simp only [List.nil_append, List.length_nil] at this
    exact this
  have HOP : Hid (opsG t = genI t.bd [0] 1 0 ++ [⟨7, 0, 0⟩]) := rfl
  have HWW : Hid (W = ((((w.alloc (.cells #[.int .i64 t.fr, .int .i64 t.bd.op, .int .i64 t.bd.n, xv] 50)).alloc (.cells #[.int .i64 0, .slice none 0 0] 54)).alloc (.cells #[.int .i64 0] 3)).alloc (.cells #[.slice none 0 0, .slice (some ⟨w.heap.size + 2, 0, none⟩) 1 1] 75))) := hW
  have b1 : W.cell? ⟨w.heap.size, 1, none⟩ = some (.int .i64 t.bd.op) := cell_of_row W _ 1 _ _ _ hfb.blk
  have b2 : W.cell? ⟨w.heap.size, 2, none⟩ = some (.int .i64 t.bd.n) := cell_of_row W _ 2 _ _ _ hfb.blk
  have b3 : W.cell? ⟨w.heap.size, 3, none⟩ = some xv := cell_of_row W _ 3 _ _ _ hfb.blk
  generalize genI t.bd [0] 1 0 = GI at *
  obtain ⟨P, hP⟩ : ∃ P, P = FunPost t w := ⟨_, rfl⟩
  have HPP : Hid (∀ v sv w', HSt w.heap.size (w.heap.size + 3) v sv (opsG t) [0] w' → HK (w.heap.size + 3) (.slice none 0 0) (.slice (some ⟨w.heap.size + 2, 0, none⟩) 1 1) W v sv w' →
      P (.returned (.agg #[.int .i64 t.fr, v])) ((w'.setCell ⟨w.heap.size + 1, 0, none⟩ (.int .i64 t.fr)).setCell ⟨w.heap.size + 1, 1, none⟩ v)) := fun v sv w' hs k => by rw [hP]; exact hfb.done hs k
  rw [← hP]
  clear hP hW hfb hx htab hr hc hlen
  subst ex
  go_enter Tryd.func20, Tryd.ntmps20
  go_upto_region 2 with fail
  rw [← HWW.out]
  go_wp2_with fail
  refine HTR.out.mono ?_
  rintro e w1 ⟨rfl, v1, sv1, hs1, hk1⟩
  have HS1 : Hid (HSt w.heap.size (w.heap.size + 3) v1 sv1 GI [0] w1) := hs1
  have HK1 : Hid (HK (w.heap.size + 3) (.slice none 0 0) (.slice (some ⟨w.heap.size + 2, 0, none⟩) 1 1) W v1 sv1 w1) := hk1
  clear hs1 hk1 b1 b2 b3
  have HPU : Hid (Calls Tryd.prog 36 #[.pointer (some ⟨w.heap.size + 3, 0, none⟩), .slice (some ⟨w1.heap.size, 0, none⟩) 1 1] (w1.alloc (.cells #[.int .i64 7, .int .i64 0, .int .i64 0] 68)) (fun e w' => (∃ z : Int, e = .returned (.int .i64 z)) ∧ ∃ v', HSt w.heap.size (w.heap.size + 3) v' sv1 (opsG t) [0] w' ∧ HK (w.heap.size + 3) v1 sv1 w1 v' sv1 w')) := by
    refine (put_new14 w.heap.size (w.heap.size + 3) v1 sv1 GI [0] ⟨7, 0, 0⟩ w1 HS1.out HL.out).mono fun e w' ⟨he, v', hs, hk⟩ => ⟨⟨_, he⟩, v', ?_, hk⟩
    rw [HOP.out]; exact hs
  go_wp2_with fail
  refine HPU.out.mono ?_
  rintro e w2 ⟨⟨z, rfl⟩, v2, hs2, hk2⟩
  have HS2 : Hid (HSt w.heap.size (w.heap.size + 3) v2 sv1 (opsG t) [0] w2) := hs2
  have HK2 : Hid (HK (w.heap.size + 3) (.slice none 0 0) (.slice (some ⟨w.heap.size + 2, 0, none⟩) 1 1) W v2 sv1 w2) := HK1.out.trans hk2
  have HE : Hid (P (.returned (.agg #[.int .i64 t.fr, v2])) ((w2.setCell ⟨w.heap.size + 1, 0, none⟩ (.int .i64 t.fr)).setCell ⟨w.heap.size + 1, 1, none⟩ v2)) := HPP.out v2 sv1 w2 hs2 HK2.out
  clear hs2 hk2 HPU
  obtain ⟨r0, r1⟩ := HFB.out.keep HK2.out
  have b0 : w2.cell? ⟨w.heap.size, 0, none⟩ = some (.int .i64 t.fr) := cell_of_row w2 _ 0 _ _ _ r0
  have e0 : w2.cell? ⟨w.heap.size + 1, 0, none⟩ = some (.int .i64 0) := cell_of_row w2 _ 0 _ _ _ r1
  have e1 : w2.cell? ⟨w.heap.size + 1, 1, none⟩ = some (.slice none 0 0) := cell_of_row w2 _ 1 _ _ _ r1
  have ef : ∀ j, w2.frozen? ⟨w.heap.size + 1, j, none⟩ = false := fun j => frozen_of_row w2 _ j _ _ r1
  have k0 := HS2.out.cell.1
  obtain ⟨p2, c2, ev2⟩ := HS2.out.row_shape
  clear r0 r1
  subst ev2
  go_wp2_with fail
  refine bodyPost_ret (v := .agg #[.int .i64 t.fr, .slice p2 (opsG t).length c2]) (by rw [results_cell1 (p := 2) (ty := 54) (by kernel_rfl)]; simp [go_sem, e0, e1]) rfl HE.out
end Go.Proofs.YthnhdmanmmdoiaaDoor
