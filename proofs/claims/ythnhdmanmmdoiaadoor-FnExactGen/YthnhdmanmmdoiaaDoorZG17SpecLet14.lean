/- spec.l14Ir at every body that is right: the places that it makes. Conditions: at most 2^30 places, values and locals. -/
import Derived.Test.YthnhdmanmmdoiaaDoorZG15SetsP
import Derived.Test.YthnhdmanmmdoiaaDoorZG16IntsOwn
namespace Go.Proofs.YthnhdmanmmdoiaaDoor
open Go.ChangeShapes Go.WideShapes Go.ChangeAt Go.RowKit

theorem kid_count {len : Nat} {kid : Nat → It} : ∀ (n i : Nat), i < n → n ≤ len → i + (kid i).count ≤ sumTo (fun i => (kid i).count) n
  | 0, _, h, _ => absurd h (Nat.not_lt_zero _)
  | n + 1, i, h, hn => by
    rcases Nat.lt_or_ge i n with h1 | h1
    · have := kid_count (len := len) (kid := kid) n i h1 (by omega); simp only [sumTo]; omega
    · obtain rfl : i = n := by omega
      have hs : ∀ k, k ≤ sumTo (fun i => (kid i).count) k := by
        intro k
        induction k with
        | zero => exact Nat.zero_le _
        | succ k ih => simp only [sumTo]; have := (kid k).count_pos; omega
      have := hs i
      simp only [sumTo]; omega
theorem set_end (A : List O3) (y q : O3) (J : Nat) (hJ : J = A.length) : (A ++ [y]).set J q = A ++ [q] := by
  have := set_mid A [] y q J hJ
  simpa using this
theorem getD_end (A : List O3) (y : O3) (J : Nat) (hJ : J = A.length) : (A ++ [y]).getD J default = y := by
  subst hJ; simp

/-- What stands of the call at its begin. -/
structure Beg (w0 w W : World) (Q N : Nat) (v : Value) (l : List O3) (sl : List Int) (F cap : Nat) (op n : Int) (xv : Value) : Prop where
  inn : IrIn w0 W Q v l sl F cap
  gk : GK Q v w v W
  fr : Free Q v W N
  row : W.heap[N]? = some (.cells #[.int .i64 op, .int .i64 n, xv] 48 (0, 0))
theorem Beg.cells {w0 w W : World} {Q N : Nat} {v : Value} {l : List O3} {sl : List Int} {F cap : Nat} {op n : Int} {xv : Value} (h : Beg w0 w W Q N v l sl F cap op n xv) {v' : Value} {w' : World} (k : GK Q v W v' w') :
    w'.cell? ⟨N, 0, none⟩ = some (.int .i64 op) ∧ w'.cell? ⟨N, 1, none⟩ = some (.int .i64 n) ∧ w'.cell? ⟨N, 2, none⟩ = some xv := by
  have e := (k.block N h.fr.1 h.fr.2.1 h.fr.2.2).trans h.row
  exact ⟨cell_of_row w' N 0 _ _ _ e, cell_of_row w' N 1 _ _ _ e, cell_of_row w' N 2 _ _ _ e⟩

set_option maxRecDepth 100000 in
set_option maxHeartbeats 8000000 in
theorem spec_if14 (op n : Int) (kid : Nat → It) (ih : ∀ i, IrAt14 (kid i)) (h2 : twoB op = true) : IrAt14 (.mk op n 3 kid) := by
  intro w0 w Q v l xv sl F cap d nb kb at_ hx hin hr hl hd hsl
  have hc : (It.mk op n 3 kid).count = 1 + ((kid 0).count + (kid 1).count + (kid 2).count) := by rw [It.count_eq]; exact congrArg (1 + ·) (sum3 _)
  obtain ⟨-, -, hrk, -⟩ := right_node hr
  have hbit : bitI op 0 = 0 := by unfold bitI; rw [if_neg]; rintro ⟨_, h⟩; cases h
  have hr0 : rightI nb kb at_ (kid 0) sl.length = true := by have := hrk 0 (by show 0 < 3; omega); simpa [It.op, It.kid, hbit] using this
  have g0 := genI_len (kid 0) sl d l.length _ hr0
  obtain ⟨px, cx, ex, -, hat⟩ := hx.sl.at
  obtain ⟨b, o, u0, ep, hd0, hi0⟩ := hat 0 (by show 0 < 3; omega)
  subst ep
  obtain ⟨pu0, cu0, eu0⟩ := hi0.sl.shape
  have eA := genI_two (t := .mk op n 3 kid) (sl := sl) (d := d) (s := l.length) h2
  rw [eA]
  simp only [It.kid, It.op, It.n]
  obtain ⟨W, hW⟩ : ∃ W, W = w.alloc (.cells #[.int .i64 op, .int .i64 n, xv] 48) := ⟨_, rfl⟩
  obtain ⟨N, hN⟩ : ∃ N, N = w.heap.size := ⟨_, rfl⟩
  have bW : Below w.heap.size w W := by rw [hW]; exact newb w _
  have hbx : W.heap[N]? = some (.cells #[.int .i64 op, .int .i64 n, xv] 48 (0, 0)) := by rw [hW, hN]; exact heap_alloc_new w _
  have HBG : Hid (Beg w0 w W Q N v l sl F cap op n xv) := ⟨hin.below bW, GK.of_below bW, ⟨(Array.getElem?_eq_some_iff.1 hbx).1, by have := hin.st.lt; omega, fun e => by have := (hin.st.own_ge e).2; omega⟩, hbx⟩
  have HWW : Hid (W = w.alloc (.cells #[.int .i64 op, .int .i64 n, xv] 48) ∧ N = w.heap.size) := ⟨hW, hN⟩
  have HX : Hid ((It.mk op n 3 kid).In w0 xv) := hx
  have HI0 : Hid ((kid 0).In w0 u0 ∧ HeadI w0 b (o + 0 * 3) (kid 0) u0) := ⟨hi0, hd0⟩
  have HRR : Hid (rightI nb kb at_ (.mk op n 3 kid) sl.length = true ∧ rightI nb kb at_ (kid 0) sl.length = true) := ⟨hr, hr0⟩
  have HIH : Hid (∀ i, IrAt14 (kid i)) := ih
  have ex' : xv = .slice (some ⟨b, o, none⟩) 3 cx := ex
  obtain ⟨c0, c1, c2⟩ := HBG.out.cells (GK.refl Q v W)
  obtain ⟨d0, d1, d2⟩ := hd0.below HBG.out.inn.bel
  have HNU : Hid (d + (It.mk op n 3 kid).count ≤ 1073741824 ∧ sl.length + (It.mk op n 3 kid).count ≤ 1073741824 ∧ d + (kid 0).count ≤ 1073741824 ∧ sl.length + (kid 0).count ≤ 1073741824) := by refine ⟨hd, hsl, ?_, ?_⟩ <;> omega
  rw [hc] at hl
  clear hW hN hbx bW hin hx hat hd0 hi0 hr hr0 hrk hbit ih ex eA hd hsl hc
  simp only [Nat.zero_mul, Nat.add_zero] at d0 d1 d2
  subst eu0 ex'
  obtain ⟨A, hA⟩ : ∃ A, A = genI (kid 0) sl d l.length := ⟨_, rfl⟩
  rw [← hA] at g0 ⊢
  have HAA : Hid (A = genI (kid 0) sl d l.length) := hA
  clear hA
  obtain ⟨s1, hs1⟩ : ∃ s1, s1 = l.length + A.length + 1 := ⟨_, rfl⟩
  rw [← hs1]
  obtain ⟨FIN, hFIN⟩ : ∃ FIN, FIN = l ++ (A ++ [testG op n (s1 + (genI (kid 1) sl d s1).length + 1)] ++ genI (kid 1) sl d s1 ++ [⟨19, (s1 + (genI (kid 1) sl d s1).length + 1 + (genI (kid 2) sl d (s1 + (genI (kid 1) sl d s1).length + 1)).length : Nat), 0⟩] ++ genI (kid 2) sl d (s1 + (genI (kid 1) sl d s1).length + 1)) := ⟨_, rfl⟩
  rw [← hFIN]
  have HFIN : Hid (FIN = l ++ (A ++ [testG op n (s1 + (genI (kid 1) sl d s1).length + 1)] ++ genI (kid 1) sl d s1 ++ [⟨19, (s1 + (genI (kid 1) sl d s1).length + 1 + (genI (kid 2) sl d (s1 + (genI (kid 1) sl d s1).length + 1)).length : Nat), 0⟩] ++ genI (kid 2) sl d (s1 + (genI (kid 1) sl d s1).length + 1))) := hFIN
  have HS1 : Hid (s1 = l.length + A.length + 1) := hs1
  clear hFIN
  have hLA : (l ++ A).length ≤ 1073741824 := by rw [List.length_append]; omega
  have HL1 : Hid (s1 + 2 * (kid 1).count + 2 * (kid 2).count + 1 ≤ 1073741824) := by show _ ≤ _; omega
  clear hs1
  obtain ⟨J, hJ⟩ : ∃ J, J = (l ++ A).length := ⟨_, rfl⟩
  have HJ : Hid (J = (l ++ A).length) := hJ
  have HB : Hid (∀ (q : O3) (z : Bool) v2 w2, updO z q (s1 + (genI (kid 1) sl d s1).length + 1) = testG op n (s1 + (genI (kid 1) sl d s1).length + 1) → IrIn w0 w2 Q v2 (l ++ A ++ [q]) sl F cap → GK Q v W v2 w2 →
      Calls Tryd.prog 31 #[.pointer (some ⟨Q, 0, none⟩), .int .i64 J, .bool z, .agg #[.int .i64 op, .int .i64 n, .slice (some ⟨b, o, none⟩) 3 cx], .slice (some ⟨F, 0, none⟩) sl.length cap, .int .i64 d] w2 (fun e w' => IrPost w0.heap.size Q v FIN w e w')) := fun q z v2 w2 hq hin2 hg2 => by
    have hlen : (l ++ A ++ [q]).length = s1 := by rw [HS1.out]; simp only [List.length_append, List.length_cons, List.length_nil]
    have := spec_both14 (.mk op n 3 kid) (HIH.out 1) (HIH.out 2) h2 w0 w2 Q v2 (l ++ A ++ [q]) _ sl F cap d nb kb at_ HX.out hin2 HRR.out.1 (by rw [hlen]; exact HL1.out) HNU.out.1 HNU.out.2.1 J (by rw [hlen, HS1.out, HJ.out, List.length_append]; omega) z
    refine this.mono fun e w' ⟨he, v', hs', hg'⟩ => ⟨he, v', ?_, HBG.out.gk.trans (hg2.trans hg')⟩
    simp only [It.kid] at hs'
    rw [hlen, getD_end (l ++ A) q J HJ.out, hq, set_end (l ++ A) q _ J HJ.out] at hs'
    rw [HFIN.out]
    simpa using hs'
  clear hJ
  have h2' : op = 8 ∨ op = 17 ∨ op = 18 := by unfold twoB at h2; simpa using h2
  clear h2
  rcases h2' with h8 | h17 | h18
  · subst h8
    go_enter Tryd.func15, Tryd.ntmps15
    go_upto_region 1 with fail
    rw [← HWW.out.1, ← HWW.out.2]
    go_wp2_with fail
    refine (HIH.out 0 w0 W Q v l _ sl F cap d nb kb at_ HI0.out.1 HBG.out.inn HRR.out.2 (by omega) HNU.out.2.2.1 HNU.out.2.2.2).mono ?_
    rintro e w1 ⟨rfl, v1, hs1, hg1⟩
    rw [← HAA.out] at hs1
    have HI1 : Hid (IrIn w0 w1 Q v1 (l ++ A) sl F cap) := HBG.out.inn.keep hs1 hg1
    have HG1 : Hid (GK Q v W v1 w1) := hg1
    clear hs1 hg1 c0 c1 c2 d0 d1 d2
    obtain ⟨c0, c1, c2⟩ := HBG.out.cells HG1.out
    go_wp2_with fail
    refine (spec_put14 w0.heap.size Q v1 (l ++ A) 18 0 0 w1 HI1.out.st hLA).mono ?_
    rintro e w2 ⟨rfl, v2, hs2, hg2⟩
    rw [← HJ.out]
    have HI2 : Hid (IrIn w0 w2 Q v2 (l ++ A ++ [⟨18, 0, 0⟩]) sl F cap) := HI1.out.keep hs2 hg2
    have HG2 : Hid (GK Q v W v2 w2) := HG1.out.trans hg2
    clear hs2 hg2 c0 c1 c2
    obtain ⟨c0, c1, c2⟩ := HBG.out.cells HG2.out
    go_wp2_with fail
    refine (HB.out ⟨18, 0, 0⟩ true v2 w2 rfl HI2.out HG2.out).mono ?_
    rintro e w3 ⟨rfl, hpost⟩
    have HP : Hid (IrPost w0.heap.size Q v FIN w (.returned (.tuple #[])) w3) := ⟨rfl, hpost⟩
    clear hpost
    go_wp2_with fail
    first
      | (go_end0; exact HP.out)
      | (refine bodyPost_ret (results_none rfl _ _ _) rfl ?_; exact HP.out)
  · subst h17
    go_enter Tryd.func15, Tryd.ntmps15
    go_upto_region 1 with fail
    rw [← HWW.out.1, ← HWW.out.2]
    go_wp2_with fail
    refine (HIH.out 0 w0 W Q v l _ sl F cap d nb kb at_ HI0.out.1 HBG.out.inn HRR.out.2 (by omega) HNU.out.2.2.1 HNU.out.2.2.2).mono ?_
    rintro e w1 ⟨rfl, v1, hs1, hg1⟩
    rw [← HAA.out] at hs1
    have HI1 : Hid (IrIn w0 w1 Q v1 (l ++ A) sl F cap) := HBG.out.inn.keep hs1 hg1
    have HG1 : Hid (GK Q v W v1 w1) := hg1
    clear hs1 hg1 c0 c1 c2 d0 d1 d2
    obtain ⟨c0, c1, c2⟩ := HBG.out.cells HG1.out
    go_wp2_with fail
    refine (spec_put14 w0.heap.size Q v1 (l ++ A) 10 n 0 w1 HI1.out.st hLA).mono ?_
    rintro e w2 ⟨rfl, v2, hs2, hg2⟩
    rw [← HJ.out]
    have HI2 : Hid (IrIn w0 w2 Q v2 (l ++ A ++ [⟨10, n, 0⟩]) sl F cap) := HI1.out.keep hs2 hg2
    have HG2 : Hid (GK Q v W v2 w2) := HG1.out.trans hg2
    clear hs2 hg2 c0 c1 c2
    obtain ⟨c0, c1, c2⟩ := HBG.out.cells HG2.out
    go_wp2_with fail
    refine (HB.out ⟨10, n, 0⟩ false v2 w2 rfl HI2.out HG2.out).mono ?_
    rintro e w3 ⟨rfl, hpost⟩
    have HP : Hid (IrPost w0.heap.size Q v FIN w (.returned (.tuple #[])) w3) := ⟨rfl, hpost⟩
    clear hpost
    go_wp2_with fail
    first
      | (go_end0; exact HP.out)
      | (refine bodyPost_ret (results_none rfl _ _ _) rfl ?_; exact HP.out)
  · subst h18
    go_enter Tryd.func15, Tryd.ntmps15
    go_upto_region 1 with fail
    rw [← HWW.out.1, ← HWW.out.2]
    go_wp2_with fail
    refine (HIH.out 0 w0 W Q v l _ sl F cap d nb kb at_ HI0.out.1 HBG.out.inn HRR.out.2 (by omega) HNU.out.2.2.1 HNU.out.2.2.2).mono ?_
    rintro e w1 ⟨rfl, v1, hs1, hg1⟩
    rw [← HAA.out] at hs1
    have HI1 : Hid (IrIn w0 w1 Q v1 (l ++ A) sl F cap) := HBG.out.inn.keep hs1 hg1
    have HG1 : Hid (GK Q v W v1 w1) := hg1
    clear hs1 hg1 c0 c1 c2 d0 d1 d2
    obtain ⟨c0, c1, c2⟩ := HBG.out.cells HG1.out
    go_wp2_with fail
    refine (spec_put14 w0.heap.size Q v1 (l ++ A) 11 n 0 w1 HI1.out.st hLA).mono ?_
    rintro e w2 ⟨rfl, v2, hs2, hg2⟩
    rw [← HJ.out]
    have HI2 : Hid (IrIn w0 w2 Q v2 (l ++ A ++ [⟨11, n, 0⟩]) sl F cap) := HI1.out.keep hs2 hg2
    have HG2 : Hid (GK Q v W v2 w2) := HG1.out.trans hg2
    clear hs2 hg2 c0 c1 c2
    obtain ⟨c0, c1, c2⟩ := HBG.out.cells HG2.out
    go_wp2_with fail
    refine (HB.out ⟨11, n, 0⟩ false v2 w2 rfl HI2.out HG2.out).mono ?_
    rintro e w3 ⟨rfl, hpost⟩
    have HP : Hid (IrPost w0.heap.size Q v FIN w (.returned (.tuple #[])) w3) := ⟨rfl, hpost⟩
    clear hpost
    go_wp2_with fail
    first
      | (go_end0; exact HP.out)
      | (refine bodyPost_ret (results_none rfl _ _ _) rfl ?_; exact HP.out)
end Go.Proofs.YthnhdmanmmdoiaaDoor

/- spec.l14Ir at a let that is right. Conditions: those of its kids' contract. -/
namespace Go.Proofs.YthnhdmanmmdoiaaDoor
open Go.ChangeShapes Go.WideShapes Go.ChangeAt Go.RowKit

theorem grown_below {w1 w w' : World} {row : Option Nat} (hb : Below w1.heap.size w1 w) (hg : w.grownBy w' row) (hr : ∀ k, row = some k → w1.heap.size ≤ k) : Below w1.heap.size w1 w' :=
  ⟨hg.os.trans hb.os, hg.tape.trans hb.tape, hg.output.trans hb.output, Nat.le_trans hb.size hg.size, fun k hk => (hg.block k (Nat.lt_of_lt_of_le hk hb.size) (fun e => by have := hr k e.symm; omega)).trans (hb.block k hk)⟩
theorem own_base {w : World} {B e k n : Nat} {v : Value} {xs : List Value} (h : w.ownsRow B e k v n xs) : ∀ g, v.ownBlock = some g → B ≤ g := fun g hg => by
  rcases h.2 with ⟨e, _⟩ | ⟨g', cap, cur, e, hb, _⟩
  · rw [e] at hg; cases hg
  · rw [e] at hg
    injection hg with hg
    have : g' = g := hg
    omega
theorem own_empty (w : World) (e : TypeId) : (w.alloc (.cells #[] e)).ownsRow w.heap.size e 1 (.slice (some ⟨w.heap.size, 0, none⟩) 0 0) 0 [] :=
  ⟨rfl, .inr ⟨w.heap.size, 0, #[], rfl, Nat.le_refl _, heap_alloc_new w _, Nat.le_refl _, Nat.zero_le _, rfl, rfl⟩⟩
/-- A row of one's own is where it may be read. -/
theorem IrIn.more {w0 w1 w2 : World} {Q : Nat} {v : Value} {l : List O3} {sl sl' : List Int} {F cap : Nat} {m : Value} {n : Nat} (h : IrIn w0 w1 Q v l sl F cap) (hb : Below w1.heap.size w1 w2) (ho : w2.ownsRow w1.heap.size 3 1 m n (sl'.map (Value.int .i64))) (hn : n = sl'.length) (h0 : 0 < n) :
    ∃ F' cap', m = .slice (some ⟨F', 0, none⟩) sl'.length cap' ∧ IrIn w0 w2 Q v l sl' F' cap' := by
  subst hn
  rcases ho.2 with ⟨_, e⟩ | ⟨g, c, cur, e, hbg, hh, hc, hm, _⟩
  · omega
  · subst e
    refine ⟨g, c, rfl, ⟨(h.below hb).bel, h.st.below hb, fun j z hz => ?_, ⟨(Array.getElem?_eq_some_iff.1 hh).1, ?_, fun e => ?_⟩, ⟨hc, hm⟩⟩⟩
    · have hj := (List.getElem?_eq_some_iff.1 hz).1
      have := ho.cellAt j (by omega)
      rw [List.getElem?_map, hz] at this
      exact this
    · have := h.st.lt; omega
    · have := (h.st.own_ge e).2; omega

theorem one_new14 (w : World) (x : Value) (t : TypeId) : ∀ ad, some (⟨w.heap.size, 0, none⟩ : Addr) = some ad → ∀ j u, [x][j]? = some u → (w.alloc (.cells #[x] t)).cell? (ad.add j) = some u := by
  intro ad e j u hj
  injection e with e
  subst e
  have hlt := (List.getElem?_eq_some_iff.1 hj).1
  have hj0 : j = 0 := by simp at hlt; omega
  subst hj0
  have := cell_of_row (w.alloc (.cells #[x] t)) w.heap.size 0 _ _ _ (heap_alloc_new w _)
  simpa [Addr.add] using this.trans hj
theorem let_first {w1 w3 : World} {v' : Value} {sl : List Int} (h : w3.ownsRow w1.heap.size 3 1 v' (0 + sl.length) ([] ++ sl.map (Value.int .i64))) (hg : (w1.alloc (.cells #[] 3)).grownBy w3 (Value.slice (some ⟨w1.heap.size, 0, none⟩) 0 0).ownBlock) :
    Hid (Below w1.heap.size w1 w3) ∧ Hid (w3.ownsRow w1.heap.size 3 1 v' sl.length (sl.map (Value.int .i64))) :=
  ⟨grown_below (newb w1 _) hg (fun k e => by injection e with e; have : w1.heap.size = k := e; omega), by rw [Nat.zero_add, List.nil_append] at h; exact h⟩
theorem let_second {w0 w1 w3 w5 : World} {Q : Nat} {v1 : Value} {l : List O3} {sl : List Int} {F cap d : Nat} {p3 : Option Addr} {c3 : Nat} {v5 : Value} (hin : IrIn w0 w1 Q v1 l sl F cap) (hb : Below w1.heap.size w1 w3) (ho : w3.ownsRow w1.heap.size 3 1 (.slice p3 sl.length c3) sl.length (sl.map (Value.int .i64)))
    (h : w5.ownsRow w1.heap.size 3 1 v5 (sl.length + 1) (sl.map (Value.int .i64) ++ [.int .i64 (d : Int)])) (hg : (w3.alloc (.cells #[.int .i64 (d : Int)] 3)).grownBy w5 (Value.slice p3 sl.length c3).ownBlock) :
    Hid (Below w1.heap.size w1 w5) ∧ ∃ F' cap', v5 = .slice (some ⟨F', 0, none⟩) (sl ++ [(d : Int)]).length cap' ∧ IrIn w0 w5 Q v1 l (sl ++ [(d : Int)]) F' cap' := by
  have hb5 : Below w1.heap.size w1 w5 := grown_below (hb.trans ((newb w3 _).mono hb.size)) hg (own_base ho)
  refine ⟨hb5, hin.more hb5 (n := sl.length + 1) ?_ (by simp) (by omega)⟩
  have e : (sl ++ [(d : Int)]).map (Value.int .i64) = sl.map (Value.int .i64) ++ [.int .i64 (d : Int)] := by simp
  rw [e]
  exact h

set_option maxRecDepth 100000 in
set_option maxHeartbeats 8000000 in
theorem spec_let14 (n : Int) (kid : Nat → It) (ih : ∀ i, IrAt14 (kid i)) : IrAt14 (.mk 7 n 2 kid) := by
  intro w0 w Q v l xv sl F cap d nb kb at_ hx hin hr hl hd hsl
  have hc : (It.mk 7 n 2 kid).count = 1 + ((kid 0).count + (kid 1).count) := by rw [It.count_eq]; exact congrArg (1 + ·) (sum2 _)
  obtain ⟨-, -, hrk, -⟩ := right_node hr
  have hr0 : rightI nb kb at_ (kid 0) sl.length = true := hrk 0 (by show 0 < 2; omega)
  have hr1 : rightI nb kb at_ (kid 1) (sl ++ [(d : Int)]).length = true := by
    have := hrk 1 (by show 1 < 2; omega)
    rw [List.length_append]
    exact this
  have g0 := genI_len (kid 0) sl d l.length _ hr0
  obtain ⟨px, cx, ex, -, hat⟩ := hx.sl.at
  obtain ⟨b, o, u0, ep, hd0, hi0⟩ := hat 0 (by show 0 < 2; omega)
  obtain ⟨b2, o2, u1, ep2, hd1, hi1⟩ := hat 1 (by show 1 < 2; omega)
  rw [ep] at ep2
  injection ep2 with ep2
  injection ep2 with eb eo _
  subst ep eb eo
  obtain ⟨pu0, cu0, eu0⟩ := hi0.sl.shape
  obtain ⟨pu1, cu1, eu1⟩ := hi1.sl.shape
  rw [genI_let (t := .mk 7 n 2 kid) rfl]
  simp only [It.kid, It.op, It.n]
  obtain ⟨W, hW⟩ : ∃ W, W = w.alloc (.cells #[.int .i64 7, .int .i64 n, xv] 48) := ⟨_, rfl⟩
  obtain ⟨N, hN⟩ : ∃ N, N = w.heap.size := ⟨_, rfl⟩
  have bW : Below w.heap.size w W := by rw [hW]; exact newb w _
  have hbx : W.heap[N]? = some (.cells #[.int .i64 7, .int .i64 n, xv] 48 (0, 0)) := by rw [hW, hN]; exact heap_alloc_new w _
  have HBG : Hid (Beg w0 w W Q N v l sl F cap 7 n xv) := ⟨hin.below bW, GK.of_below bW, ⟨(Array.getElem?_eq_some_iff.1 hbx).1, by have := hin.st.lt; omega, fun e => by have := (hin.st.own_ge e).2; omega⟩, hbx⟩
  have HWW : Hid (W = w.alloc (.cells #[.int .i64 7, .int .i64 n, xv] 48) ∧ N = w.heap.size) := ⟨hW, hN⟩
  have HI0 : Hid ((kid 0).In w0 u0 ∧ (kid 1).In w0 u1 ∧ HeadI w0 b (o + 1 * 3) (kid 1) u1) := ⟨hi0, hi1, hd1⟩
  have HRR : Hid (rightI nb kb at_ (kid 0) sl.length = true ∧ rightI nb kb at_ (kid 1) (sl ++ [(d : Int)]).length = true) := ⟨hr0, hr1⟩
  have HIH : Hid (∀ i, IrAt14 (kid i)) := ih
  have ex' : xv = .slice (some ⟨b, o, none⟩) 2 cx := ex
  obtain ⟨c0, c1, c2⟩ := HBG.out.cells (GK.refl Q v W)
  obtain ⟨d0, d1, d2⟩ := hd0.below HBG.out.inn.bel
  have HNU : Hid (d + (kid 0).count ≤ 1073741824 ∧ sl.length + (kid 0).count ≤ 1073741824 ∧ d + 1 + (kid 1).count ≤ 1073741824 ∧ (sl ++ [(d : Int)]).length + (kid 1).count ≤ 1073741824) := by
    rw [List.length_append, List.length_cons, List.length_nil]
    refine ⟨?_, ?_, ?_, ?_⟩ <;> omega
  have hsl30 : sl.length ≤ 1073741824 := by omega
  have hd30 : d + 1 ≤ 1073741824 := by omega
  rw [hc] at hl
  clear hW hN hbx bW hin hx hat hd0 hi0 hd1 hi1 hr hr0 hr1 hrk ih ex hd hsl hc
  simp only [Nat.zero_mul, Nat.add_zero] at d0 d1 d2
  subst eu0 eu1 ex'
  obtain ⟨A, hA⟩ : ∃ A, A = genI (kid 0) sl d l.length := ⟨_, rfl⟩
  rw [← hA] at g0 ⊢
  have HAA : Hid (A = genI (kid 0) sl d l.length) := hA
  clear hA
  obtain ⟨FIN, hFIN⟩ : ∃ FIN, FIN = l ++ (A ++ genI (kid 1) (sl ++ [(d : Int)]) (d + 1) (l.length + A.length) ++ [⟨20, 0, 0⟩]) := ⟨_, rfl⟩
  rw [← hFIN]
  have HFIN : Hid (FIN = l ++ (A ++ genI (kid 1) (sl ++ [(d : Int)]) (d + 1) (l.length + A.length) ++ [⟨20, 0, 0⟩])) := hFIN
  clear hFIN
  have g1 := genI_len (kid 1) (sl ++ [(d : Int)]) (d + 1) (l ++ A).length _ HRR.out.2
  have HLA : Hid ((l ++ A).length + 2 * (kid 1).count ≤ 1073741824 ∧ (l ++ A ++ genI (kid 1) (sl ++ [(d : Int)]) (d + 1) (l ++ A).length).length ≤ 1073741824) := by
    have e1 : (l ++ A).length = l.length + A.length := List.length_append
    have e2 : (l ++ A ++ genI (kid 1) (sl ++ [(d : Int)]) (d + 1) (l ++ A).length).length = (l ++ A).length + (genI (kid 1) (sl ++ [(d : Int)]) (d + 1) (l ++ A).length).length := List.length_append
    refine ⟨?_, ?_⟩ <;> omega
  clear g1
  obtain ⟨i0, hi, hz0, hz1, hz2⟩ := info_parts int_info
  go_enter Tryd.func15, Tryd.ntmps15
  go_upto_region 1 with fail
  rw [← HWW.out.1, ← HWW.out.2]
  go_wp2_with fail
  refine (HIH.out 0 w0 W Q v l _ sl F cap d nb kb at_ HI0.out.1 HBG.out.inn HRR.out.1 (by omega) HNU.out.1 HNU.out.2.1).mono ?_
  rintro e w1 ⟨rfl, v1, hs1, hg1⟩
  rw [← HAA.out] at hs1
  have HI1 : Hid (IrIn w0 w1 Q v1 (l ++ A) sl F cap) := HBG.out.inn.keep hs1 hg1
  have HG1 : Hid (GK Q v W v1 w1) := hg1
  clear hs1 hg1 c0 c1 c2 d0 d1 d2
  have HSL : Hid (∀ j u, (sl.map (Value.int .i64))[j]? = some u → (w1.alloc (.cells #[] 3)).cell? ((⟨F, 0, none⟩ : Addr).add j) = some u) := fun j u hj => by
    rw [List.getElem?_map] at hj
    obtain ⟨z, hz, rfl⟩ := Option.map_eq_some_iff.1 hj
    have e : (⟨F, 0, none⟩ : Addr).add j = ⟨F, j, none⟩ := by cases j <;> simp [Addr.add]
    rw [e]
    exact keeps (newb w1 _) _ _ (HI1.out.row j z hz)
  have HOE : Hid ((w1.alloc (.cells #[] 3)).ownsRow w1.heap.size 3 1 (.slice (some ⟨w1.heap.size, 0, none⟩) 0 0) 0 []) := own_empty w1 _
  have tok1 : True := trivial
  go_wp2_with (first
    | (clear tok1; at_builtin; refine wpList_append_any _ rfl (.tmp 67) (.tmp 68) 51 rfl w1.heap.size 3 i0 (.int .i64 0) 1 8 Tryd.underlying51 hi hz0 hz1 hz2 rfl (by decide) (.slice (some ⟨w1.heap.size, 0, none⟩) 0 0) 0 [] rfl HOE.out (some ⟨F, 0, none⟩) sl.length cap (sl.map (Value.int .i64)) rfl (by simp) (by simp) (fun ad ead => by injection ead with ead; subst ead; exact HSL.out) (by simp [Value.oneCell']) (by unfold maxLen; omega) (by omega) (by simp) ?_; intro v' w3 hown3 hg3; obtain ⟨HB3, HO3⟩ := let_first hown3.out hg3.out; clear hown3 hg3; obtain ⟨p3, c3, e3⟩ := own_shape3 HO3.out; subst e3)
    | (at_builtin; refine wpList_append_any _ rfl (.tmp 70) (.tmp 72) 51 rfl w1.heap.size 3 i0 (.int .i64 0) 1 8 Tryd.underlying51 hi hz0 hz1 hz2 rfl (by decide) (.slice p3 sl.length c3) sl.length (sl.map (Value.int .i64)) rfl (World.ownsRow.alloc HO3.out _) (some ⟨w3.heap.size, 0, none⟩) 1 1 [.int .i64 d] rfl rfl (by simp) (one_new14 w3 _ _) (by simp [Value.oneCell']) (by unfold maxLen; omega) (by omega) (by have := HB3.out.size; simp; omega) ?_; intro v5 w5 hown5 hg5; obtain ⟨HB5, F', cap', e5, hin5⟩ := let_second HI1.out HB3.out HO3.out hown5.out hg5.out; clear hown5 hg5; subst e5; have HI5 : Hid (IrIn w0 w5 Q v1 (l ++ A) (sl ++ [(d : Int)]) F' cap') := hin5; clear hin5; obtain ⟨c0, c1, c2⟩ := HBG.out.cells (HG1.out.trans (GK.of_below HB5.out)); obtain ⟨d0, d1, d2⟩ := HI0.out.2.2.below HI5.out.bel))
  have HC1 : Hid (Calls Tryd.prog 15 #[.pointer (some ⟨Q, 0, none⟩), .agg #[.int .i64 (kid 1).op, .int .i64 (kid 1).n, .slice pu1 ((It.mk 7 n 2 kid).kid 1).len cu1], .slice (some ⟨F', 0, none⟩) (sl.length + 1) cap', .int .i64 ((d : Int) + 1)] w5 (IrPost w0.heap.size Q v1 (l ++ A ++ genI (kid 1) (sl ++ [(d : Int)]) (d + 1) (l ++ A).length) w5)) := by
    have := HIH.out 1 w0 w5 Q v1 (l ++ A) _ (sl ++ [(d : Int)]) F' cap' (d + 1) nb kb at_ HI0.out.2.1 HI5.out HRR.out.2 HLA.out.1 HNU.out.2.2.1 HNU.out.2.2.2
    rw [show (sl ++ [(d : Int)]).length = sl.length + 1 from by simp] at this
    exact this
  refine HC1.out.mono ?_
  rintro e w6 ⟨rfl, v6, hs6, hg6⟩
  have HG6 : Hid (GK Q v W v6 w6) := (HG1.out.trans (GK.of_below HB5.out)).trans hg6
  have HS6 : Hid (GSt 44 w0.heap.size Q v6 (l ++ A ++ genI (kid 1) (sl ++ [(d : Int)]) (d + 1) (l ++ A).length) w6) := hs6
  clear hs6 hg6 c0 c1 c2 d0 d1 d2
  go_wp2_with fail
  refine (spec_put14 w0.heap.size Q v6 _ 20 0 0 w6 HS6.out HLA.out.2).mono ?_
  rintro e w7 ⟨rfl, v7, hs7, hg7⟩
  have HP : Hid (IrPost w0.heap.size Q v FIN w (.returned (.tuple #[])) w7) := by
    refine ⟨rfl, v7, ?_, HBG.out.gk.trans (HG6.out.trans hg7)⟩
    rw [HFIN.out]
    rw [show (l ++ A).length = l.length + A.length from List.length_append] at hs7
    simpa using hs7
  clear hs7 hg7
  go_wp2_with fail
  first
    | (go_end0; exact HP.out)
    | (refine bodyPost_ret (results_none rfl _ _ _) rfl ?_; exact HP.out)
end Go.Proofs.YthnhdmanmmdoiaaDoor
