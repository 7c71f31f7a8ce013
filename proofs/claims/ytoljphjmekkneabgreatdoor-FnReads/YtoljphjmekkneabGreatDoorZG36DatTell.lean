/- spec.DrawSameDat: two data in memory of the call's own. Condition: the code's bytes can be read. -/
import Derived.Test.YtoljphjmekkneabGreatDoorZG35DrawDat6
import Derived.Test.YtoljphjmekkneabGreatDoorZG0Dat
import Derived.Test.YtoljphjmekkneabGreatDoorZG2FrS
namespace Go.Proofs.YtoljphjmekkneabGreatDoor
open Go.ChangeShapes Go.WideShapes Go.ChangeAt Go.RowKit

set_option maxRecDepth 100000 in
set_option maxHeartbeats 4000000 in
theorem drawSameDat_any (a : Option Addr) (len cap : Nat) (w : World) (hc : CodeOk a len w.heap.size w) :
    Calls Tryz.prog 10 #[.slice a len cap] w fun e w' => ∃ (t : D) (v : Value) (t' : D) (v' : Value), e = .returned (.tuple #[.agg #[.int .i64 t.op, .int .i64 t.at_, .int .i64 t.n, .string t.s, v], .agg #[.int .i64 t'.op, .int .i64 t'.at_, .int .i64 t'.n, .string t'.s, v']]) ∧ (t.In w' v ∧ t'.In w' v' ∧ Below w.heap.size w w') ∧ t.weight ≤ 60000 ∧ t'.weight ≤ 60000 := by
  have hs0 : ((w.alloc zeroObj).alloc zeroObj).heap.size = w.heap.size + 2 := by simp
  have hc1 := code_below3 (code_below3 hc (newb w zeroObj)) (newb (w.alloc zeroObj) zeroObj)
  obtain ⟨R2, hR2⟩ : ∃ R, R = w.heap.size := ⟨_, rfl⟩
  obtain ⟨R3, hR3⟩ : ∃ R, R = w.heap.size + 1 := ⟨_, rfl⟩
  go_enter Tryz.func10, Tryz.ntmps10
  go_wp2_with fail
  refine (l1New_any a len cap _ hc1).mono ?_
  rintro e w1 ⟨rfl, hb, hcur, hs1⟩
  have HZ1 : Hid (zeroBlk w1 R2 ∧ zeroBlk w1 R3 ∧ Below w.heap.size w w1 ∧ w1.heap.size = w.heap.size + 3) := by
    refine ⟨?_, ?_, ?_, by rw [hs1, hs0]⟩
    · show _ = _
      rw [hR2]
      exact (hb.block _ (by simp; omega)).trans ((Below.heap_alloc _ _ _ (by simp)).trans (heap_alloc_new w _))
    · show _ = _
      rw [hR3]
      have := heap_alloc_new (w.alloc zeroObj) zeroObj
      rw [show (w.alloc zeroObj).heap.size = w.heap.size + 1 by simp] at this
      exact (hb.block _ (by simp)).trans this
    · exact (newb w zeroObj).trans (((newb _ zeroObj).mono (by simp)).trans (hb.mono (by simp; omega)))
  rw [hs0] at hcur ⊢
  have HC0 : Hid (CodeOk a len w.heap.size w) := hc
  clear hb hs1 hc1 hc hs0
  go_wp2_with fail
  refine (drawDat_any (w.heap.size + 2) a len cap w1 hcur).mono ?_
  rintro e w2 ⟨t, v, rfl, hin, hwt, hext, hcur2⟩
  obtain ⟨pv, cv, hv⟩ := hin.sl.shape
  subst hv
  have HZ2 : Hid (zeroBlk w2 R2 ∧ zeroBlk w2 R3 ∧ Below w.heap.size w w2 ∧ w.heap.size + 3 ≤ w2.heap.size ∧ t.InB (w.heap.size + 3) w2 (.slice pv t.len cv) ∧ t.weight ≤ 60000) :=
    ⟨(hext.block R2 (Array.getElem?_eq_some_iff.1 HZ1.out.1).1 (by omega)).trans HZ1.out.1, (hext.block R3 (Array.getElem?_eq_some_iff.1 HZ1.out.2.1).1 (by omega)).trans HZ1.out.2.1, HZ1.out.2.2.1.trans (hext.below (by omega) (by have := HZ1.out.2.2.2; omega)), by have := hext.size; have := HZ1.out.2.2.2; omega, by rw [← HZ1.out.2.2.2]; exact hin, hwt⟩
  clear hin hwt hext hcur HZ1
  go_wp2_with fail
  refine (l1Once_any (w.heap.size + 2) a len cap 2 (by omega) _ (hcur2.alloc _)).mono ?_
  rintro e w3 ⟨⟨bb, rfl⟩, hx3, hcur3⟩
  obtain ⟨A, hA⟩ : ∃ A, A = w2.heap.size := ⟨_, rfl⟩
  have HS3 : Hid (Same3 w w3 R2 R3 A t (.slice pv t.len cv)) := by
    obtain ⟨h1, h2, h3, h4, h5, h6⟩ := HZ2.out
    have nb := newb w2 (datObj t (.slice pv t.len cv))
    have l2 := (Array.getElem?_eq_some_iff.1 h1).1
    have l3 := (Array.getElem?_eq_some_iff.1 h2).1
    refine ⟨(h3.trans (nb.mono (by omega))).trans (hx3.below (by omega) (by simp; omega)), hR2, hR3, by omega, ?_, ?_, ?_, ?_, h6⟩
    · exact (hx3.block R2 (by simp; omega) (by omega)).trans ((nb.block R2 l2).trans h1)
    · exact (hx3.block R3 (by simp; omega) (by omega)).trans ((nb.block R3 l3).trans h2)
    · rw [hA]
      exact (hx3.block _ (by simp) (by omega)).trans (heap_alloc_new w2 _)
    · exact (h5.below nb).ext hx3 (by omega)
  obtain ⟨C, hC⟩ : ∃ C, C = w.heap.size + 2 := ⟨_, rfl⟩
  rw [← hC] at hcur3 ⊢
  rw [← hR3, ← hR2, ← hA]
  have HSC : Hid (R2 = w.heap.size ∧ R3 = w.heap.size + 1 ∧ w.heap.size + 3 ≤ A ∧ C = w.heap.size + 2) := ⟨hR2, hR3, HS3.out.aw, hC⟩
  have n23 : ¬ R2 = R3 := by omega
  have n32 : ¬ R3 = R2 := by omega
  have n2A : ¬ R2 = A := by have := HS3.out.aw; omega
  have nA2 : ¬ A = R2 := by have := HS3.out.aw; omega
  have n3A : ¬ R3 = A := by have := HS3.out.aw; omega
  have nA3 : ¬ A = R3 := by have := HS3.out.aw; omega
  have l2 := (Array.getElem?_eq_some_iff.1 HS3.out.z2).1
  have l3 := (Array.getElem?_eq_some_iff.1 HS3.out.z3).1
  have lA := (Array.getElem?_eq_some_iff.1 HS3.out.a).1
  clear hA hR2 hR3 hC hcur2 hx3 HZ2
  obtain ⟨x0, x1, x2, x3, x4⟩ := row5 HS3.out.z2
  obtain ⟨fx0, fx1, fx2, fx3, fx4⟩ := frz5 HS3.out.z2
  obtain ⟨y0, y1, y2, y3, y4⟩ := row5 HS3.out.z3
  obtain ⟨fy0, fy1, fy2, fy3, fy4⟩ := frz5 HS3.out.z3
  obtain ⟨a0, a1, a2, a3, a4⟩ := row5 HS3.out.a
  cases bb
  · have HC1 : Hid (CurAt C a len cap w3.drew) := hcur3
    have HC2 : Hid (CurAt C a len cap (put5 w3 R2 t (.slice pv t.len cv)).drew) := cur_put (W := (put5 w3 R2 t (.slice pv t.len cv)).drew) HC0.out hcur3 (HS3.out.bel.trans (five_below w3 w.heap.size R2 (by have := HSC.out.1; omega) _ _ _ _ _).drew) (put5_same w3 R2 t _ C (by have := HSC.out; omega)) (by have := HSC.out; omega)
    have nC2 : ¬ R2 = C := by have := HSC.out; omega
    have nC3 : ¬ R3 = C := by have := HSC.out; omega
    have nCA : ¬ A = C := by have := HSC.out; omega
    clear hcur3
    go_wp2_with fail
    go_region_with (first
      | (go_at_call 25; refine (drawDat_any C a len cap w3.drew HC1.out).mono ?_; rintro e w4 ⟨t4, v4, rfl, hin4, hwt4, hx4, hcur4⟩; have hw4 : Ext C w3 w4 := ⟨hx4.os, hx4.tape, hx4.output, hx4.size, hx4.block⟩; have HP4 : Hid (Ext C w3 w4 ∧ t4.InB w3.heap.size w4 v4 ∧ t4.weight ≤ 60000) := ⟨hw4, hin4, hwt4⟩; obtain ⟨p4, q4, hv4⟩ := hin4.sl.shape; subst hv4; obtain ⟨b0, b1, b2, b3, b4⟩ := row5 ((hw4.block R2 l2 nC2).trans HS3.out.z2); obtain ⟨g0, g1, g2, g3, g4⟩ := frz5 ((hw4.block R2 l2 nC2).trans HS3.out.z2); obtain ⟨c0, c1, c2, c3, c4⟩ := row5 ((hw4.block R3 l3 nC3).trans HS3.out.z3); obtain ⟨h0, h1, h2, h3, h4⟩ := frz5 ((hw4.block R3 l3 nC3).trans HS3.out.z3); obtain ⟨d0, d1, d2, d3, d4⟩ := row5 ((hw4.block A lA nCA).trans HS3.out.a); clear hin4 hwt4 hx4 hcur4 hw4)
      | (go_at_call 25; refine (drawDat_any C a len cap _ HC2.out).mono ?_; rintro e w4 ⟨t4, v4, rfl, hin4, hwt4, hx4, hcur4⟩; have hw4 : Ext C (put5 w3 R2 t (.slice pv t.len cv)) w4 := ⟨hx4.os, hx4.tape, hx4.output, hx4.size, hx4.block⟩; have HP5 : Hid (Ext C (put5 w3 R2 t (.slice pv t.len cv)) w4 ∧ t4.InB w3.heap.size w4 v4 ∧ t4.weight ≤ 60000) := ⟨hw4, hin4.mono (put5_b w3 R2 t (.slice pv t.len cv)).size, hwt4⟩; obtain ⟨p4, q4, hv4⟩ := hin4.sl.shape; subst hv4; have k2 : datBlk w4 R2 t (.slice pv t.len cv) := (hw4.block R2 (Nat.lt_of_lt_of_le l2 (put5_b w3 R2 t (.slice pv t.len cv)).size) nC2).trans (put5_blk HS3.out.z2 t _); obtain ⟨b0, b1, b2, b3, b4⟩ := row5 k2; have k3 : zeroBlk w4 R3 := (hw4.block R3 (Nat.lt_of_lt_of_le l3 (put5_b w3 R2 t (.slice pv t.len cv)).size) nC3).trans ((put5_same w3 R2 t _ R3 n32).trans HS3.out.z3); obtain ⟨c0, c1, c2, c3, c4⟩ := row5 k3; obtain ⟨h0, h1, h2, h3, h4⟩ := frz5 k3; clear hin4 hwt4 hx4 hcur4 hw4))
    all_goals
      go_wp2_with fail
      refine bodyPost_ret (v := .tuple #[.agg #[.int .i64 t.op, .int .i64 t.at_, .int .i64 t.n, .string t.s, .slice pv t.len cv], .agg #[.int .i64 t4.op, .int .i64 t4.at_, .int .i64 t4.n, .string t4.s, .slice p4 t4.len q4]]) (by rw [results_cells2 (p := 2) (q := 3) (ty := 30) (tz := 30) (by kernel_rfl)]; first | (simp [go_sem, b0, b1, b2, b3, b4, c0, c1, c2, c3, c4]; done) | (simp [go_sem, b0, b1, b2, b3, b4, c0, c1, c2, c3, c4, n23]; done) | (simp [go_sem, b0, b1, b2, b3, b4, c0, c1, c2, c3, c4, n32]; done)) rfl ?_
      first
        | exact ⟨t, _, t4, _, rfl, endE_plain HS3.out HSC.out.2.2.2 HP4.out.1 HP4.out.2.1, HS3.out.wt, HP4.out.2.2⟩
        | exact ⟨t, _, t4, _, rfl, endE_plain' HS3.out HSC.out.2.2.2 HP4.out.1 HP4.out.2.1, HS3.out.wt, HP4.out.2.2⟩
        | exact ⟨t, _, t4, _, rfl, endE_after HS3.out HSC.out.2.2.2 HP5.out.1 HP5.out.2.1, HS3.out.wt, HP5.out.2.2⟩
  · have HC1 : Hid (Calls Tryz.prog 27 #[.agg #[.int .i64 t.op, .int .i64 t.at_, .int .i64 t.n, .string t.s, .slice pv t.len cv]] w3.drew _) := copy_all t w3.drew _ (HS3.out.inn.all.below (Below.refl _ w3).drew) (by have := HS3.out.wt; omega)
    have HC2 : Hid (Calls Tryz.prog 27 #[.agg #[.int .i64 t.op, .int .i64 t.at_, .int .i64 t.n, .string t.s, .slice pv t.len cv]] (put5 w3 R2 t (.slice pv t.len cv)).drew _) := copy_all t (put5 w3 R2 t (.slice pv t.len cv)).drew _ ((InB_high (w' := put5 w3 R2 t (.slice pv t.len cv)) HS3.out.inn (fun x hx _ => five_same w3 R2 _ _ _ _ _ x (by have := HSC.out.1; omega))).all.below (Below.refl _ _).drew) (by have := HS3.out.wt; omega)
    go_wp2_with fail
    go_region_with (first
      | (go_at_call 27; refine HC1.out.mono ?_; rintro e w4 ⟨v4, T4, rfl, hb4, hd4, hn4, hT4⟩; have hw4 : Below w3.heap.size w3 w4 := ⟨hb4.os, hb4.tape, hb4.output, hb4.size, hb4.block⟩; have HP4 : Hid (Below w3.heap.size w3 w4 ∧ DOwn w4 t v4 T4 ∧ (∀ x ∈ T4, w3.heap.size ≤ x)) := ⟨hw4, hd4, hT4⟩; obtain ⟨p4, q4, hv4⟩ := hd4.in'.sl.shape; subst hv4; obtain ⟨b0, b1, b2, b3, b4⟩ := row5 ((hw4.block R2 l2).trans HS3.out.z2); obtain ⟨g0, g1, g2, g3, g4⟩ := frz5 ((hw4.block R2 l2).trans HS3.out.z2); obtain ⟨c0, c1, c2, c3, c4⟩ := row5 ((hw4.block R3 l3).trans HS3.out.z3); obtain ⟨h0, h1, h2, h3, h4⟩ := frz5 ((hw4.block R3 l3).trans HS3.out.z3); obtain ⟨d0, d1, d2, d3, d4⟩ := row5 ((hw4.block A lA).trans HS3.out.a); clear hb4 hd4 hn4 hT4 hw4)
      | (go_at_call 27; refine HC2.out.mono ?_; rintro e w4 ⟨v4, T4, rfl, hb4, hd4, hn4, hT4⟩; have hw4 : Below (put5 w3 R2 t (.slice pv t.len cv)).heap.size (put5 w3 R2 t (.slice pv t.len cv)) w4 := ⟨hb4.os, hb4.tape, hb4.output, hb4.size, hb4.block⟩; have HP5 : Hid (Below (put5 w3 R2 t (.slice pv t.len cv)).heap.size (put5 w3 R2 t (.slice pv t.len cv)) w4 ∧ DOwn w4 t v4 T4 ∧ (∀ x ∈ T4, w3.heap.size ≤ x)) := ⟨hw4, hd4, fun x hx => by have := hT4 x hx; simpa using this⟩; obtain ⟨p4, q4, hv4⟩ := hd4.in'.sl.shape; subst hv4; have k2 : datBlk w4 R2 t (.slice pv t.len cv) := (hw4.block R2 (by simpa using l2)).trans (put5_blk HS3.out.z2 t _); obtain ⟨b0, b1, b2, b3, b4⟩ := row5 k2; have k3 : zeroBlk w4 R3 := (hw4.block R3 (by simpa using l3)).trans ((five_same w3 R2 _ _ _ _ _ R3 n32).trans HS3.out.z3); obtain ⟨c0, c1, c2, c3, c4⟩ := row5 k3; obtain ⟨h0, h1, h2, h3, h4⟩ := frz5 k3; clear hb4 hd4 hn4 hT4 hw4))
    all_goals
      go_wp2_with fail
      refine bodyPost_ret (v := .tuple #[.agg #[.int .i64 t.op, .int .i64 t.at_, .int .i64 t.n, .string t.s, .slice pv t.len cv], .agg #[.int .i64 t.op, .int .i64 t.at_, .int .i64 t.n, .string t.s, .slice p4 t.len q4]]) (by rw [results_cells2 (p := 2) (q := 3) (ty := 30) (tz := 30) (by kernel_rfl)]; first | (simp [go_sem, b0, b1, b2, b3, b4, c0, c1, c2, c3, c4]; done) | (simp [go_sem, b0, b1, b2, b3, b4, c0, c1, c2, c3, c4, n23]; done) | (simp [go_sem, b0, b1, b2, b3, b4, c0, c1, c2, c3, c4, n32]; done)) rfl ?_
      refine ⟨t, _, t, _, rfl, ?_, HS3.out.wt, HS3.out.wt⟩
      first
        | exact end_plain HS3.out HP4.out.1 HP4.out.2.1 HP4.out.2.2
        | exact end_plain' HS3.out HP4.out.1 HP4.out.2.1 HP4.out.2.2
        | exact end_after HS3.out HP5.out.1 HP5.out.2.1 HP5.out.2.2
end Go.Proofs.YtoljphjmekkneabGreatDoor

/- Plain facts on the text of a datum; also by a list of open lists that are told on. No conditions. -/
namespace Go.Proofs.YtoljphjmekkneabGreatDoor
open Go.ChangeShapes Go.WideShapes Go.ChangeAt Go.RowKit

/-- A blank parts what is not first. -/
def sep (k : Nat) : List UInt8 := if k = 0 then [] else [32]
def joinTo (f : Nat → List UInt8) : Nat → List UInt8
  | 0 => []
  | k + 1 => joinTo f k ++ (sep k ++ f k)
def joinFrom (f : Nat → List UInt8) : Nat → Nat → List UInt8
  | _, 0 => []
  | k, m + 1 => sep k ++ (f k ++ joinFrom f (k + 1) m)

theorem join_split (f : Nat → List UInt8) (m : Nat) : ∀ k, joinTo f (k + m) = joinTo f k ++ joinFrom f k m := by
  induction m with
  | zero => intro k; simp [joinFrom]
  | succ m ih =>
    intro k
    rw [show k + (m + 1) = (k + 1) + m from by omega, ih (k + 1)]
    simp [joinTo, joinFrom]
theorem join_all (f : Nat → List UInt8) (m : Nat) : joinTo f m = joinFrom f 0 m := by
  have := join_split f m 0
  simpa [joinTo] using this

/-- The text of a datum. -/
def D.text : D → List UInt8
  | .no => [63]
  | .mk op _ n s len kid => if op = 1 then Lib.itoa n else if op = 2 then s.data.toList else if op = 3 then 40 :: (joinTo (fun i => (kid i).text) len ++ [41]) else [63]

theorem D.text_mk (op a n : Int) (s : ByteArray) (len : Nat) (kid : Nat → D) : (D.mk op a n s len kid).text = if op = 1 then Lib.itoa n else if op = 2 then s.data.toList else if op = 3 then 40 :: (joinTo (fun i => (kid i).text) len ++ [41]) else [63] := rfl
theorem D.text_num (t : D) (h : t.op = 1) : t.text = Lib.itoa t.n := by
  cases t with
  | no => simp [D.op] at h
  | mk op a n s len kid => simp only [D.op] at h; unfold text; rw [if_pos h]; rfl
theorem D.text_sym (t : D) (h : t.op = 2) : t.text = t.s.data.toList := by
  cases t with
  | no => simp [D.op] at h
  | mk op a n s len kid => simp only [D.op] at h; unfold text; rw [if_neg (by omega), if_pos h]; rfl
theorem D.text_list (t : D) (h : t.op = 3) : t.text = 40 :: (joinTo (fun i => (t.kid i).text) t.len ++ [41]) := by
  cases t with
  | no => simp [D.op] at h
  | mk op a n s len kid => simp only [D.op] at h; rw [D.text_mk, if_neg (by omega), if_neg (by omega), if_pos h]; rfl
theorem D.text_none (t : D) (h1 : t.op ≠ 1) (h2 : t.op ≠ 2) (h3 : t.op ≠ 3) : t.text = [63] := by
  cases t with
  | no => rfl
  | mk op a n s len kid => simp only [D.op] at h1 h2 h3; unfold text; rw [if_neg h1, if_neg h2, if_neg h3]

theorem sep_len (k : Nat) : (sep k).length ≤ 1 := by unfold sep; split <;> simp

theorem itoa_len (n : Int) (h : -9223372036854775808 ≤ n ∧ n ≤ 9223372036854775807) : (Lib.itoa n).length ≤ 21 := by
  unfold Lib.itoa
  have : ∀ k : Nat, k < 18446744073709551616 → (Lib.decDigits k).length ≤ 20 := fun k hk => by rw [Lib.decDigits_length]; exact Lib.nDigits_le20 k hk
  split
  · have := this n.natAbs (by omega)
    simp only [List.length_cons]; omega
  · have := this n.toNat (by omega)
    omega

theorem D.text_len (w : World) (t : D) : ∀ v, t.In w v → t.text.length + 1 ≤ 22 * t.count + t.weight := by
  induction t with
  | no => intro v h; exact h.elim
  | mk op a n s len kid ih =>
    intro v hin
    have hn := hin.num
    have hsl := hin.sl
    have key : ∀ k, k ≤ len → (joinTo (fun i => (kid i).text) k).length ≤ 22 * sumTo (fun i => (kid i).count) k + sumTo (fun i => (kid i).weight) k := by
      intro k
      induction k with
      | zero => intro _; simp [joinTo]
      | succ k ihk =>
        intro hk
        have h1 := ihk (by omega)
        have h2 : (kid k).text.length + 1 ≤ 22 * (kid k).count + (kid k).weight := by
          rcases hsl with ⟨h0, _⟩ | ⟨b, o, cap, V, _, _, _, _, h4⟩
          · have h0' : len = 0 := h0
            omega
          · exact ih k _ (h4 k (by show k < len; omega)).2
        have h3 := sep_len k
        simp only [joinTo, sumTo, List.length_append]
        omega
    have hk := key len (Nat.le_refl _)
    have hi := itoa_len n hn
    unfold text count weight
    split
    · omega
    split
    · have : s.data.toList.length = s.size := by simp
      omega
    split
    · simp only [List.length_cons, List.length_append, List.length_nil]; omega
    · simp only [List.length_cons, List.length_nil]; omega

/-- Rounds that a datum takes behind its beginning. -/
def D.goes : D → Nat
  | .no => 0
  | .mk op _ _ _ len kid => if op = 3 then 1 + sumTo (fun i => 1 + (kid i).goes) len else 0
theorem D.goes_mk (op a n : Int) (s : ByteArray) (len : Nat) (kid : Nat → D) : (D.mk op a n s len kid).goes = if op = 3 then 1 + sumTo (fun i => 1 + (kid i).goes) len else 0 := rfl
theorem D.goes_list (t : D) (h : t.op = 3) : t.goes = 1 + sumTo (fun i => 1 + (t.kid i).goes) t.len := by
  cases t with
  | no => simp [D.op] at h
  | mk op a n s len kid => simp only [D.op] at h; rw [D.goes_mk, if_pos h]; rfl
theorem D.goes_else (t : D) (h : t.op ≠ 3) : t.goes = 0 := by
  cases t with
  | no => rfl
  | mk op a n s len kid => simp only [D.op] at h; unfold goes; rw [if_neg h]
theorem D.goes_count (t : D) : t.goes + 1 ≤ 2 * t.count := by
  induction t with
  | no => simp [goes, count]
  | mk op a n s len kid ih =>
    unfold goes count
    have : ∀ k, sumTo (fun i => 1 + (kid i).goes) k ≤ 2 * sumTo (fun i => (kid i).count) k := by
      intro k
      induction k with
      | zero => simp [sumTo]
      | succ k ihk => simp only [sumTo]; have := ih k; omega
    have := this len
    split <;> omega

def sumFrom (f : Nat → Nat) : Nat → Nat → Nat
  | _, 0 => 0
  | k, m + 1 => f k + sumFrom f (k + 1) m
theorem sum_split (f : Nat → Nat) (m : Nat) : ∀ k, sumTo f (k + m) = sumTo f k + sumFrom f k m := by
  induction m with
  | zero => intro k; simp [sumFrom]
  | succ m ih =>
    intro k
    rw [show k + (m + 1) = (k + 1) + m from by omega, ih (k + 1)]
    simp [sumTo, sumFrom]; omega
theorem sum_all (f : Nat → Nat) (m : Nat) : sumTo f m = sumFrom f 0 m := by
  have := sum_split f m 0
  simpa [sumTo] using this

/-- An open list: the datum, the slice of its kids, the next of them. -/
structure Op where
  t : D
  v : Value
  k : Nat

def Op.cells (q : Op) : List Value := [q.v, .int .i64 q.k]
def orows (st : List Op) : List Value := st.flatMap Op.cells
theorem orows_append (a b : List Op) : orows (a ++ b) = orows a ++ orows b := by simp [orows]
theorem orows_length (st : List Op) : (orows st).length = st.length * 2 := by
  induction st with
  | nil => rfl
  | cons t r ih => simp only [orows, List.flatMap_cons, List.length_append, List.length_cons] at ih ⊢; rw [ih]; simp [Op.cells]; omega

/-- What is still told of an open list. -/
def Op.left (q : Op) : List UInt8 := joinFrom (fun i => (q.t.kid i).text) q.k (q.t.len - q.k) ++ [41]
def Op.goes (q : Op) : Nat := 1 + sumFrom (fun i => 1 + (q.t.kid i).goes) q.k (q.t.len - q.k)
/-- What is still told, the innermost first; it stands last. -/
def leftAll (st : List Op) : List UInt8 := (st.reverse.map Op.left).flatten
def goesAll (st : List Op) : Nat := (st.map Op.goes).sum

theorem leftAll_snoc (r : List Op) (q : Op) : leftAll (r ++ [q]) = q.left ++ leftAll r := by simp [leftAll]
theorem goesAll_snoc (r : List Op) (q : Op) : goesAll (r ++ [q]) = goesAll r + q.goes := by simp [goesAll]
theorem goesAll_len (st : List Op) : st.length ≤ goesAll st := by
  induction st with
  | nil => simp
  | cons q r ih =>
    simp only [goesAll, List.map_cons, List.sum_cons, List.length_cons] at ih ⊢
    have : 1 ≤ q.goes := by unfold Op.goes; omega
    omega

theorem Op.left_end (q : Op) (h : q.k = q.t.len) : q.left = [41] := by unfold Op.left; rw [h]; simp [joinFrom]
theorem Op.goes_end (q : Op) (h : q.k = q.t.len) : q.goes = 1 := by unfold Op.goes; rw [h]; simp [sumFrom]
theorem Op.left_next (t : D) (v : Value) (k : Nat) (h : k < t.len) : (Op.mk t v k).left = sep k ++ ((t.kid k).text ++ (Op.mk t v (k + 1)).left) := by
  unfold Op.left
  simp only
  rw [show t.len - k = (t.len - (k + 1)) + 1 from by omega]
  simp [joinFrom]
theorem Op.goes_next (t : D) (v : Value) (k : Nat) (h : k < t.len) : (Op.mk t v k).goes = (1 + (t.kid k).goes) + (Op.mk t v (k + 1)).goes := by
  unfold Op.goes
  simp only
  rw [show t.len - k = (t.len - (k + 1)) + 1 from by omega]
  simp only [sumFrom]; omega
theorem Op.left_new (t : D) (v : Value) (h : t.op = 3) : 40 :: (Op.mk t v 0).left = t.text := by
  rw [t.text_list h, join_all]; rfl
theorem Op.goes_new (t : D) (v : Value) (h : t.op = 3) : (Op.mk t v 0).goes = t.goes := by
  rw [t.goes_list h, sum_all]; rfl

/-- The open lists lie in w. -/
def OpsIn (w : World) (st : List Op) : Prop := ∀ q ∈ st, q.t.In w q.v ∧ q.k ≤ q.t.len
theorem OpsIn.below {w w' : World} {st : List Op} (h : OpsIn w st) (hb : Below w.heap.size w w') : OpsIn w' st := fun q hq => ⟨(h q hq).1.below hb, (h q hq).2⟩
end Go.Proofs.YtoljphjmekkneabGreatDoor
