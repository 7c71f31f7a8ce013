/- laws.toDat and laws.toDatS: a datum, laid anew, each row in a block of its own. Condition: at most 2^20 of it. -/
import Derived.Test.YtoifhaakieigcaaRows
import Derived.Test.YtoifhaakieigcaaDatOwn
import Derived.Test.YtoifhaakieigcaaToDat
import Derived.WalkKit
import Derived.ProofKit
namespace Go.Proofs.Ytoifhaakieigcaa
open Go.ChangeShapes Go.WideShapes Go.ChangeAt Go.RowKit

theorem own_baseD {w : World} {base B e size n : Nat} {v : Value} {xs : List Value} (h : w.ownsRow base e size v n xs) (hB : ∀ g, v.ownBlock = some g → B ≤ g) : w.ownsRow B e size v n xs := by
  refine ⟨h.1, ?_⟩
  rcases h.2 with hn | ⟨g, cap, cur, rfl, hbg, rest⟩
  · exact .inl hn
  · exact .inr ⟨g, cap, cur, rfl, hB g rfl, rest⟩

/-- The rows so far: each is owned, in blocks from B on. -/
structure DAcc (B : Nat) (w : World) (kid : Nat → D) (l : List (D × Value)) (SS : List (List Nat)) : Prop where
  len : SS.length = l.length
  ks : Ks kid l
  each : ∀ i, i < l.length → ∃ u T, l[i]? = some (kid i, u) ∧ SS[i]? = some T ∧ DOwn w (kid i) u T
  nd : SS.flatten.Nodup
  ge : ∀ x ∈ SS.flatten, B ≤ x
theorem DAcc.nil (B : Nat) (w : World) (kid : Nat → D) : DAcc B w kid [] [] := ⟨rfl, Ks.nil _, fun i hi => by simp at hi, by simp, by simp⟩
theorem DAcc.lt {B : Nat} {w : World} {kid : Nat → D} {l : List (D × Value)} {SS : List (List Nat)} (h : DAcc B w kid l SS) : ∀ x ∈ SS.flatten, x < w.heap.size := by
  intro x hx
  obtain ⟨T, hT, hxT⟩ := List.mem_flatten.1 hx
  obtain ⟨i, hi, rfl⟩ := List.mem_iff_getElem.1 hT
  obtain ⟨u, T', k1, k2, k3⟩ := h.each i (by rw [← h.len]; exact hi)
  rw [List.getElem?_eq_getElem hi] at k2
  injection k2 with k2
  exact k3.there _ x (by rw [← k2]; exact hxT)
theorem DAcc.same {B : Nat} {w w' : World} {kid : Nat → D} {l : List (D × Value)} {SS : List (List Nat)} (h : DAcc B w kid l SS) (hs : ∀ x, B ≤ x → x < w.heap.size → w'.heap[x]? = w.heap[x]?) : DAcc B w' kid l SS :=
  ⟨h.len, h.ks, fun i hi => by
    obtain ⟨u, T, k1, k2, k3⟩ := h.each i hi
    exact ⟨u, T, k1, k2, k3.same _ (fun x hx => hs x (h.ge x (mem_flat k2 hx)) (h.lt x (mem_flat k2 hx)))⟩, h.nd, h.ge⟩
theorem DAcc.snoc {B : Nat} {w : World} {kid : Nat → D} {l : List (D × Value)} {SS : List (List Nat)} (h : DAcc B w kid l SS) {u : Value} {T : List Nat} (hv : DOwn w (kid l.length) u T) (hn : T.Nodup) (hge : ∀ x ∈ T, B ≤ x) (hd : ∀ x ∈ T, x ∉ SS.flatten) : DAcc B w kid (l ++ [(kid l.length, u)]) (SS ++ [T]) := by
  refine ⟨by simp [h.len], h.ks.snoc u, fun i hi => ?_, ?_, ?_⟩
  · rcases Nat.lt_or_ge i l.length with h1 | h1
    · obtain ⟨u', T', k1, k2, k3⟩ := h.each i h1
      exact ⟨u', T', by rw [List.getElem?_append_left h1]; exact k1, by rw [List.getElem?_append_left (by rw [h.len]; exact h1)]; exact k2, k3⟩
    · have hi' : i = l.length := by simp at hi; omega
      subst hi'
      exact ⟨u, T, by simp, by rw [← h.len]; simp, hv⟩
  · rw [List.flatten_append]
    simp only [List.flatten_cons, List.flatten_nil, List.append_nil]
    exact List.nodup_append.2 ⟨h.nd, hn, fun a ha b hb e => hd b hb (e ▸ ha)⟩
  · intro x hx
    rw [List.flatten_append] at hx
    simp only [List.flatten_cons, List.flatten_nil, List.append_nil] at hx
    rcases List.mem_append.1 hx with hx | hx
    · exact h.ge x hx
    · exact hge x hx

/-- A row goes on by one node that is owned. -/
theorem row_stepD {w wr w2 : World} {e n cap : Nat} {l : List (D × Value)} {junk : List Value} {kid : Nat → D} {v : Value} {SS : List (List Nat)} {T : List Nat}
    (hown : wr.ownsRow w.heap.size e 5 (.slice (some ⟨w.heap.size, 0, none⟩) n cap) n (drows l ++ junk)) (hj : 5 ≤ junk.length) (hacc : DAcc (w.heap.size + 1) wr kid l SS)
    (hbel : Below w.heap.size w wr) (hsz : w.heap.size < wr.heap.size) (hb : Below wr.heap.size wr w2) (hv : DOwn w2 (kid l.length) v T) (hn : T.Nodup) (hT : ∀ x ∈ T, wr.heap.size ≤ x) :
    (st5 w2 w.heap.size (l.length * 5) (kid l.length) v).ownsRow w.heap.size e 5 (.slice (some ⟨w.heap.size, 0, none⟩) n cap) n (drows (l ++ [(kid l.length, v)]) ++ junk.drop 5) ∧
    DAcc (w.heap.size + 1) (st5 w2 w.heap.size (l.length * 5) (kid l.length) v) kid (l ++ [(kid l.length, v)]) (SS ++ [T]) ∧ Below w.heap.size w (st5 w2 w.heap.size (l.length * 5) (kid l.length) v) ∧ w.heap.size < (st5 w2 w.heap.size (l.length * 5) (kid l.length) v).heap.size := by
  obtain ⟨q, g⟩ := stored5 (own_below5 hown hb) hj (kid l.length) v
  have hb2 : Below w.heap.size w w2 := hbel.trans (hb.mono (by omega))
  have hlt := hacc.lt
  have a2 : DAcc (w.heap.size + 1) w2 kid l SS := hacc.same (fun x _ hx => hb.block x hx)
  have a3 := a2.snoc hv hn (fun x hx => by have := hT x hx; omega) (fun x hx hx' => by have := hT x hx; have := hlt x hx'; omega)
  refine ⟨q, a3.same (fun x hx hx' => g.block x hx' (by intro e; injection e with e; omega)), hb2.trans ⟨g.os, g.tape, g.output, g.size, fun k hk => g.block k (by have := hb2.size; omega) (by intro e; injection e with e; omega)⟩, Nat.lt_of_lt_of_le hsz (Nat.le_trans hb.size g.size)⟩

/-- Rows that are done. -/
theorem DAcc.done {w : World} {base g cap n B : Nat} {kid : Nat → D} {l : List (D × Value)} {SS : List (List Nat)} (h : DAcc B w kid l SS) (hown : w.ownsRow base 33 5 (.slice (some ⟨g, 0, none⟩) n cap) n (drows l)) (hl : l.length = n) (hg : g < B) :
    SOwn w n kid (.slice (some ⟨g, 0, none⟩) n cap) (g :: SS.flatten) ∧ (g :: SS.flatten).Nodup ∧ ∀ x ∈ g :: SS.flatten, g ≤ x := by
  refine ⟨.inr ⟨g, cap, l, SS, rfl, own_baseD hown (fun _ _ => Nat.zero_le _), hl, by rw [h.len]; exact hl, h.ks, rfl, fun i hi => h.each i (by omega)⟩, List.nodup_cons.2 ⟨fun hx => by have := h.ge g hx; omega, h.nd⟩, fun x hx => ?_⟩
  rcases List.mem_cons.1 hx with rfl | hx
  · exact Nat.le_refl _
  · have := h.ge x hx; omega

/-- The contract of toDat at a datum. -/
def ToDOwn (t : D) : Prop := ∀ (w : World) (v : Value), t.In w v → t.weight ≤ 1048576 →
  Calls Try.prog 11 #[.agg #[.int .i64 t.op, .int .i64 t.at_, .int .i64 t.n, .string t.s, v]] w fun e w' => ∃ u S, e = .returned (.agg #[.int .i64 t.op, .int .i64 t.at_, .int .i64 t.n, .string t.s, u]) ∧ Below w.heap.size w w' ∧ DOwn w' t u S ∧ S.Nodup ∧ ∀ x ∈ S, w.heap.size ≤ x

set_option maxRecDepth 100000 in
set_option maxHeartbeats 2000000 in
theorem to_dats_own (len : Nat) (kid : Nat → D) (ih : ∀ i, i < len → ToDOwn (kid i)) (w : World) (v : Value) (hv : Sl w len kid v) (hw : kidsWeight len kid ≤ 1048576) :
    Calls Try.prog 35 #[v] w fun e w' => ∃ u S, e = .returned u ∧ Below w.heap.size w w' ∧ SOwn w' len kid u S ∧ S.Nodup ∧ ∀ x ∈ S, w.heap.size ≤ x := by
  obtain ⟨p, cap, rfl, hlen, hat⟩ := hv.at
  have HC : Hid (∀ i, i < len → ∃ b o u, p = some ⟨b, o, none⟩ ∧ Head w b (o + i * 5) (kid i) u ∧ (kid i).In w u) := hat
  have IH : Hid (∀ i, i < len → ToDOwn (kid i)) := ih
  have HW : Hid (∀ i, i < len → (kid i).weight ≤ 1048576) := fun i hi => by
    have := sumTo_at (fun i => (kid i).weight) i len hi
    unfold kidsWeight at hw; omega
  have hl2 : len ≤ 1048576 := by unfold kidsWeight at hw; omega
  clear hat ih hv hw hlen
  obtain ⟨i0, hi, hz0, hz1, hz2⟩ := info_parts dat_info
  obtain ⟨w1, hrun, hown, hg⟩ := run_make_full (P := Try.prog) w w.heap.size 31 33 i0 _ 5 Try.underlying31 hi hz0 hz1 .i64 .i64 len (by rw [hz2]; omega) (by unfold maxLen; omega) (Nat.le_refl _)
  have HO : Hid (∃ junk : List Value, junk.length = len * 5 ∧ w1.ownsRow w.heap.size 33 5 (.slice (some ⟨w.heap.size, 0, none⟩) len len) len (drows [] ++ junk)) := ⟨_, by simp [size_madeCells], hown⟩
  have HG : Hid (Below w.heap.size w w1 ∧ w.heap.size < w1.heap.size) := ⟨⟨hg.os, hg.tape, hg.output, hg.size, fun k hk => hg.block k hk (by simp)⟩, (hown.lt _ rfl).2⟩
  clear hown hg hi hz0 hz1 hz2
  go_enter Try.func35, Try.ntmps35
  go_wp2_with fail
  clear hrun
  go_loopw [4] (fun i wr => ∃ (l : List (D × Value)) (junk : List Value) (SS : List (List Nat)), i = .int .i64 l.length ∧ l.length ≤ len ∧ l.length * 5 + junk.length = len * 5 ∧ wr.ownsRow w.heap.size 33 5 (.slice (some ⟨w.heap.size, 0, none⟩) len len) len (drows l ++ junk) ∧ DAcc (w.heap.size + 1) wr kid l SS ∧ Below w.heap.size w wr ∧ w.heap.size < wr.heap.size) (fun i _ => len - (intOf i).toNat)
  case atStart =>
    obtain ⟨junk, h1, h2⟩ := HO.out
    exact ⟨[], junk, [], rfl, Nat.zero_le _, by simpa using h1, h2, DAcc.nil _ _ _, HG.out.1, HG.out.2⟩
  case round =>
    obtain ⟨l, junk, SS, rfl, hl, hjl, hown, hin, hbel, hsz⟩ := hrel
    have HOW : Hid (wr.ownsRow w.heap.size 33 5 (.slice (some ⟨w.heap.size, 0, none⟩) len len) len (drows l ++ junk)) := hown
    have HIN : Hid (DAcc (w.heap.size + 1) wr kid l SS) := hin
    have HBL : Hid (Below w.heap.size w wr) := hbel
    have HSZ : Hid (w.heap.size < wr.heap.size) := hsz
    clear hown hin hbel hsz HO HG
    generalize hk : l.length = k at *
    have HK : Hid (l.length = k) := hk
    clear hk
    by_cases hlt : (k : Int) < len
    · have hlt' : k < len := by omega
      obtain ⟨b, o, u, hp, hd, hinu⟩ := HC.out k hlt'
      subst hp
      obtain ⟨c0, c1, c2, c3, c4⟩ := hd.below HBL.out
      have HI : Hid ((kid k).In wr u) := hinu.below HBL.out
      clear hd hinu
      go_wp2_with fail
      refine (IH.out k hlt' wr u HI.out (HW.out k hlt')).mono ?_
      rintro e w2 ⟨v, T, rfl, hb2, hinv, hnT, hgT⟩
      obtain ⟨pv, cv, hvv⟩ := hinv.in'.sl.shape
      clear c0 c1 c2 c3 c4
      have q0 := own_below5 HOW.out hb2
      have hf : ∀ j, w2.frozen? ⟨w.heap.size, j, none⟩ = false := fun j => q0.frozenAt j
      have hcl : ∀ j, j < 5 → ∃ u, w2.cell? ⟨w.heap.size, k * 5 + j, none⟩ = some u := by
        intro j hj
        have hl : k * 5 + j < (drows l ++ junk).length := by rw [List.length_append, drows_length, HK.out]; omega
        exact ⟨_, (q0.cellAt (k * 5 + j) (by omega)).trans (List.getElem?_eq_getElem hl)⟩
      obtain ⟨u0, hu0⟩ := hcl 0 (by omega)
      obtain ⟨u1, hu1⟩ := hcl 1 (by omega)
      obtain ⟨u2, hu2⟩ := hcl 2 (by omega)
      obtain ⟨u3, hu3⟩ := hcl 3 (by omega)
      obtain ⟨u4, hu4⟩ := hcl 4 (by omega)
      rw [Nat.add_zero] at hu0
      have N := row_stepD (kid := kid) (v := v) HOW.out (by omega) HIN.out HBL.out HSZ.out hb2 (by rw [HK.out]; exact hinv) hnT hgT
      rw [HK.out] at N
      have HN : Hid _ := N
      clear N hinv hb2 q0 hcl HI hnT hgT
      subst hvv
      go_wp2_with fail
      go_roundw
      case rel =>
        obtain ⟨n1, n2, n4, n5⟩ := HN.out
        have h := HK.out
        exact ⟨l ++ [(kid k, _)], junk.drop 5, SS ++ [T], by rw [List.length_append, h]; go_num, by rw [List.length_append, h]; simp; omega, by rw [List.length_append, h]; simp; omega, n1, n2, n4, n5⟩
      case measure => simp [intOf]; omega
    · have hke : k = len := by omega
      subst hke
      go_wp2
      go_ret
      have hj : junk = [] := List.eq_nil_of_length_eq_zero (by omega)
      subst hj
      have h1 := HOW.out
      rw [List.append_nil] at h1
      obtain ⟨d1, d2, d3⟩ := HIN.out.done h1 HK.out (Nat.lt_succ_self _)
      exact ⟨_, rfl, HBL.out, _, d1, d2, d3⟩

set_option maxRecDepth 100000 in
set_option maxHeartbeats 2000000 in
theorem to_dat_own (t : D) : ToDOwn t := by
  induction t with
  | no => intro w v h _; exact h.elim
  | mk op a n s len kid ih =>
    intro w v hin hwt
    have hs := hin.size
    have hn := hin.num
    have hsl := hin.sl
    simp only [D.op, D.at_, D.n, D.s, D.len, D.kid] at hs hn hsl ⊢
    obtain ⟨p, cap, hv⟩ := hsl.shape
    have HSL : Hid (Sl w len kid v) := hsl
    have IH : Hid (∀ i, ToDOwn (kid i)) := ih
    have HS : Hid (s.size ≤ maxLen ∧ -9223372036854775808 ≤ n ∧ n ≤ 9223372036854775807) := ⟨hs, hn⟩
    have HW : Hid (kidsWeight len kid ≤ 1048576) := by
      have e : (D.mk op a n s len kid).weight = s.size + kidsWeight len kid := rfl
      show _ ≤ _
      omega
    clear hin hsl ih hs hn hwt
    subst hv
    go_enter Try.func11, Try.ntmps11
    go_wp2_with fail
    refine (to_dats_own len kid (fun i _ => IH.out i) _ _ (HSL.out.below ((newb w _).trans (((newb _ _).mono (by simp)).trans ((newb _ _).mono (by simp; omega))))) HW.out).mono ?_
    rintro e w1 ⟨u, S, rfl, hb1, hsl1, hnd1, hge1⟩
    obtain ⟨pu, cu, hu⟩ := hsl1.sl.shape
    subst hu
    obtain ⟨h1, h2, h3, h4, h5⟩ := three hb1
    have HSU : Hid (SOwn w1 len kid (.slice pu len cu) S ∧ S.Nodup ∧ ∀ x ∈ S, w.heap.size + 3 ≤ x) := ⟨hsl1, hnd1, fun x hx => by have := hge1 x hx; simp at this; omega⟩
    have HB : Hid (Below w.heap.size w w1) := h5
    have hf1 : ∀ j, w1.frozen? ⟨w.heap.size + 1, j, none⟩ = false := fun j => frozen_of_row w1 _ j _ _ h2
    have hf2 : ∀ j, w1.frozen? ⟨w.heap.size + 1 + 1, j, none⟩ = false := fun j => frozen_of_row w1 _ j _ _ h3
    have b0 : w1.cell? ⟨w.heap.size + 1, 0, none⟩ = some (.int .i64 0) := cell_of_row w1 _ 0 _ _ _ h2
    have b1 : w1.cell? ⟨w.heap.size + 1, 1, none⟩ = some (.int .i64 0) := cell_of_row w1 _ 1 _ _ _ h2
    have b2 : w1.cell? ⟨w.heap.size + 1, 2, none⟩ = some (.int .i64 0) := cell_of_row w1 _ 2 _ _ _ h2
    have b3 : w1.cell? ⟨w.heap.size + 1, 3, none⟩ = some (.string ⟨#[]⟩) := cell_of_row w1 _ 3 _ _ _ h2
    have b4 : w1.cell? ⟨w.heap.size + 1, 4, none⟩ = some (.slice none 0 0) := cell_of_row w1 _ 4 _ _ _ h2
    have c0 : w1.cell? ⟨w.heap.size + 1 + 1, 0, none⟩ = some (.int .i64 op) := cell_of_row w1 _ 0 _ _ _ h3
    have c1 : w1.cell? ⟨w.heap.size + 1 + 1, 1, none⟩ = some (.int .i64 a) := cell_of_row w1 _ 1 _ _ _ h3
    have c2 : w1.cell? ⟨w.heap.size + 1 + 1, 2, none⟩ = some (.int .i64 n) := cell_of_row w1 _ 2 _ _ _ h3
    have c3 : w1.cell? ⟨w.heap.size + 1 + 1, 3, none⟩ = some (.string s) := cell_of_row w1 _ 3 _ _ _ h3
    have c4 : w1.cell? ⟨w.heap.size + 1 + 1, 4, none⟩ = some (.slice none 0 0) := cell_of_row w1 _ 4 _ _ _ h3
    clear hb1 hsl1 hnd1 hge1 h1 h2 h3 h4 h5 HSL
    go_wp2_with fail
    refine bodyPost_ret (v := .agg #[.int .i64 op, .int .i64 a, .int .i64 n, .string s, .slice pu len cu]) (by rw [results_cell1 (p := 2) (ty := 33) (by kernel_rfl)]; simp [go_sem, b0, b1, b2, b3, b4]) rfl ⟨_, S, rfl, ?_, ⟨HS.out, HSU.out.1.same (fun g hg => ?_)⟩, HSU.out.2.1, fun x hx => by have := HSU.out.2.2 x hx; omega⟩
    · exact ((((((HB.out.setCell (by show _ ≤ _ + 1 + 1; omega) _).setCell (by show _ ≤ _ + 1; omega) _).setCell (by show _ ≤ _ + 1; omega) _).setCell (by show _ ≤ _ + 1; omega) _).setCell (by show _ ≤ _ + 1; omega) _).setCell (by show _ ≤ _ + 1; omega) _)
    · have := HSU.out.2.2 g hg
      rw [Below.heap_setCell _ _ _ _ (by simp only; omega), Below.heap_setCell _ _ _ _ (by simp only; omega), Below.heap_setCell _ _ _ _ (by simp only; omega), Below.heap_setCell _ _ _ _ (by simp only; omega), Below.heap_setCell _ _ _ _ (by simp only; omega), Below.heap_setCell _ _ _ _ (by simp only; omega)]
end Go.Proofs.Ytoifhaakieigcaa
