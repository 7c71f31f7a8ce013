/- laws.toBind and laws.toBindS: binds, laid anew, in memory of the call's own. Condition: at most 2^20 of them. -/
import Derived.Test.YtgbfflpdpfgnbaaBindP
import Derived.Test.YtgbfflpdpfgnbaaStxRows
import Derived.Test.YtgbfflpdpfgnbaaIntsLaw
namespace Go.Proofs.Ytgbfflpdpfgnbaa
open Go.ChangeShapes Go.WideShapes Go.ChangeAt Go.RowKit

/-- A row of a slice of binds: the bind and its set's slice. -/
abbrev BR : Type := Bd × Value
def bcells (q : BR) : List Value := [.string q.1.name, q.2, .int .i64 q.1.kind, .int .i64 q.1.n, .int .i64 q.1.at_]
def brows (l : List BR) : List Value := l.flatMap bcells
theorem brows_append (a b : List BR) : brows (a ++ b) = brows a ++ brows b := by simp [brows]
theorem brows_length (l : List BR) : (brows l).length = l.length * 5 := by
  induction l with
  | nil => rfl
  | cons t r ih => simp only [brows, List.flatMap_cons, List.length_append, List.length_cons] at ih ⊢; rw [ih]; simp [bcells]; omega
def BKs (bd : Nat → Bd) (l : List BR) : Prop := ∀ i q, l[i]? = some q → q.1 = bd i
theorem BKs.nil (bd : Nat → Bd) : BKs bd [] := fun i q h => by simp at h
theorem BKs.snoc {bd : Nat → Bd} {l : List BR} (h : BKs bd l) (v : Value) : BKs bd (l ++ [(bd l.length, v)]) := by
  intro i q hq
  rcases Nat.lt_trichotomy i l.length with hi | hi | hi
  · rw [List.getElem?_append_left hi] at hq; exact h i q hq
  · subst hi; simp at hq; subst hq; rfl
  · rw [List.getElem?_eq_none (by simp; omega)] at hq; cases hq
theorem brows_at (l : List BR) (junk : List Value) : ∀ (i : Nat) (q : BR), l[i]? = some q → ∀ j, j < 5 → (brows l ++ junk)[i * 5 + j]? = (bcells q)[j]? := by
  induction l with
  | nil => intro i q h; simp at h
  | cons x r ih =>
    intro i q h j hj
    have e : brows (x :: r) ++ junk = bcells x ++ (brows r ++ junk) := by simp [brows]
    have hl : (bcells x).length = 5 := rfl
    rw [e]
    cases i with
    | zero =>
      simp at h; subst h
      rw [List.getElem?_append_left (by omega)]; congr 1; omega
    | succ i =>
      simp at h
      rw [List.getElem?_append_right (by omega), hl]
      have := ih i q h j hj
      rw [← this]; congr 1; omega
theorem setB5 (l : List BR) (junk : List Value) (hj : 5 ≤ junk.length) (t : Bd) (sv : Value) :
    (((((brows l ++ junk).set (l.length * 5) (.string t.name)).set (l.length * 5 + 1) sv).set (l.length * 5 + 2) (.int .i64 t.kind)).set (l.length * 5 + 3) (.int .i64 t.n)).set (l.length * 5 + 4) (.int .i64 t.at_) = brows (l ++ [(t, sv)]) ++ junk.drop 5 := by
  have hl := brows_length l
  have s : ∀ (c : List Value) (j : Nat) (x : Value), (brows l ++ c).set (l.length * 5 + j) x = brows l ++ c.set j x := by
    intro c j x
    rw [List.set_append_right _ _ (by omega), hl]
    congr 2; omega
  have s0 := s junk 0 (.string t.name)
  rw [Nat.add_zero] at s0
  rw [s0, s, s, s, s, brows_append]
  match junk, hj with
  | a :: b :: c :: d :: e :: r, _ => simp [brows, bcells]
theorem BsB.of_own {R : World → Value → List Int → Prop} {w : World} {base e B n : Nat} {v : Value} {bd : Nat → Bd} {l : List BR} (h : w.ownsRow base e 5 v n (brows l)) (hl : l.length = n) (hB : B ≤ base) (hk : BKs bd l) (hin : ∀ q ∈ l, R w q.2 q.1.set ∧ q.1.Fits) : BsB R B w n bd v := by
  rcases h.2 with ⟨rfl, rfl⟩ | ⟨g, cap, cur, rfl, hbg, hgg, hc, hm, hs, ht⟩
  · exact .inl ⟨rfl, _, _, rfl⟩
  · refine .inr ⟨g, 0, cap, fun i => ((l[i]?).getD (default, .bool false)).2, rfl, by omega, hc, hm, fun i hi => ?_⟩
    have hi' : i < l.length := by omega
    have hq : l[i]? = some l[i] := List.getElem?_eq_getElem hi'
    have hkid := hk i _ hq
    have cell : ∀ j, j < 5 → w.cell? ⟨g, 0 + i * 5 + j, none⟩ = (bcells l[i])[j]? := by
      intro j hj
      have := h.cellAt (i * 5 + j) (by omega)
      rw [Nat.zero_add, this]
      have := brows_at l [] i _ hq j hj
      simpa using this
    simp only [hq, Option.getD_some]
    rw [← hkid]
    exact ⟨⟨cell 0 (by omega), cell 1 (by omega), cell 2 (by omega), cell 3 (by omega), cell 4 (by omega)⟩, hin _ (List.getElem_mem hi')⟩
abbrev stB5 (w : World) (g p : Nat) (t : Bd) (sv : Value) : World :=
  ((((w.setCell ⟨g, p, none⟩ (.string t.name)).setCell ⟨g, p + 1, none⟩ sv).setCell ⟨g, p + 2, none⟩ (.int .i64 t.kind)).setCell ⟨g, p + 3, none⟩ (.int .i64 t.n)).setCell ⟨g, p + 4, none⟩ (.int .i64 t.at_)
theorem storedB5 {w : World} {base e g cap n : Nat} {l : List BR} {junk : List Value} (h : w.ownsRow base e 5 (.slice (some ⟨g, 0, none⟩) n cap) n (brows l ++ junk)) (hj : 5 ≤ junk.length) (t : Bd) (sv : Value) :
    (stB5 w g (l.length * 5) t sv).ownsRow base e 5 (.slice (some ⟨g, 0, none⟩) n cap) n (brows (l ++ [(t, sv)]) ++ junk.drop 5) ∧ w.grownBy (stB5 w g (l.length * 5) t sv) (some g) := by
  obtain ⟨q1, g1⟩ := h.stored (l.length * 5) (.string t.name)
  obtain ⟨q2, g2⟩ := q1.stored (l.length * 5 + 1) sv
  obtain ⟨q3, g3⟩ := q2.stored (l.length * 5 + 2) (.int .i64 t.kind)
  obtain ⟨q4, g4⟩ := q3.stored (l.length * 5 + 3) (.int .i64 t.n)
  obtain ⟨q5, g5⟩ := q4.stored (l.length * 5 + 4) (.int .i64 t.at_)
  rw [setB5 l junk hj t sv] at q5
  exact ⟨q5, grownX (grownX (grownX (grownX g1 g2) g3) g4) g5⟩
theorem row_stepB {w wr w2 : World} {e n cap : Nat} {l : List BR} {junk : List Value} {bd : Nat → Bd} {sv : Value}
    (hown : wr.ownsRow w.heap.size e 5 (.slice (some ⟨w.heap.size, 0, none⟩) n cap) n (brows l ++ junk)) (hj : 5 ≤ junk.length) (hks : BKs bd l) (hin : ∀ q ∈ l, SetB (w.heap.size + 1) wr q.2 q.1.set ∧ q.1.Fits)
    (hbel : Below w.heap.size w wr) (hsz : w.heap.size < wr.heap.size) (hb : Below wr.heap.size wr w2) (hv : SetB wr.heap.size w2 sv (bd l.length).set ∧ (bd l.length).Fits) :
    (stB5 w2 w.heap.size (l.length * 5) (bd l.length) sv).ownsRow w.heap.size e 5 (.slice (some ⟨w.heap.size, 0, none⟩) n cap) n (brows (l ++ [(bd l.length, sv)]) ++ junk.drop 5) ∧ BKs bd (l ++ [(bd l.length, sv)]) ∧
    (∀ q ∈ l ++ [(bd l.length, sv)], SetB (w.heap.size + 1) (stB5 w2 w.heap.size (l.length * 5) (bd l.length) sv) q.2 q.1.set ∧ q.1.Fits) ∧ Below w.heap.size w (stB5 w2 w.heap.size (l.length * 5) (bd l.length) sv) ∧ w.heap.size < (stB5 w2 w.heap.size (l.length * 5) (bd l.length) sv).heap.size := by
  obtain ⟨q, g⟩ := storedB5 (own_belowX hown hb) hj (bd l.length) sv
  have hk : ∀ a u, w.heap.size + 1 ≤ a.block → w2.cell? a = some u → (stB5 w2 w.heap.size (l.length * 5) (bd l.length) sv).cell? a = some u := fun a u ha hc => keepX g a u (by omega) hc
  have hb2 : Below w.heap.size w w2 := hbel.trans (hb.mono (by omega))
  refine ⟨q, hks.snoc sv, ?_, hb2.trans ⟨g.os, g.tape, g.output, g.size, fun k hk => g.block k (by have := hb2.size; omega) (by intro e; injection e with e; omega)⟩, Nat.lt_of_lt_of_le hsz (Nat.le_trans hb.size g.size)⟩
  intro x hx
  rcases List.mem_append.1 hx with hx | hx
  · exact ⟨(hin x hx).1.kept (Nat.le_refl _) (fun a u ha hc => hk a u ha (keepsX hb a u hc)), (hin x hx).2⟩
  · simp only [List.mem_singleton] at hx
    subst hx
    exact ⟨hv.1.kept (by omega) (fun a u ha hc => hk a u (by omega) hc), hv.2⟩

theorem bind_info : (Try.prog.info? 46).map (fun i => (i.zero, i.size, i.bytes)) = some (some (.agg #[.string ⟨#[]⟩, .slice none 0 0, .int .i64 0, .int .i64 0, .int .i64 0]), 5, 64) := by kernel_rfl

set_option maxRecDepth 100000 in
set_option maxHeartbeats 2000000 in
theorem to_bind (t : Bd) (w : World) (sv : Value) (hset : SetR w sv t.set) (hl : t.set.length ≤ 4194304) :
    Calls Try.prog 19 #[.agg #[.string t.name, sv, .int .i64 t.kind, .int .i64 t.n, .int .i64 t.at_]] w fun e w' => ∃ su, e = .returned (.agg #[.string t.name, su, .int .i64 t.kind, .int .i64 t.n, .int .i64 t.at_]) ∧ Below w.heap.size w w' ∧ SetB w.heap.size w' su t.set := by
  obtain ⟨s, set, kd, n, a⟩ := t
  simp only at hset hl ⊢
  obtain ⟨p2, cap2, hv2⟩ := hset.shape
  have HST : Hid (Rs w sv set) := hset
  clear hset
  subst hv2
  go_enter Try.func19, Try.ntmps19
  go_wp2_with fail
  refine (to_ints set _ _ (HST.out.below ((newx w _).trans (((newx _ _).mono (by simp)).trans ((newx _ _).mono (by simp; omega))))) hl).mono ?_
  rintro e w1 ⟨su, rfl, hb1, hown⟩
  obtain ⟨h1, h2, h3, h4, h5⟩ := threeX hb1
  have hsb : SetB (w.heap.size + 3) w1 su set := hown.setB (by simp)
  obtain ⟨ps, cs, hsu⟩ := hsb.shape
  subst hsu
  have HSB : Hid (SetB (w.heap.size + 3) w1 (.slice ps set.length cs) set) := hsb
  have HB1 : Hid (Below w.heap.size w w1) := h5
  have hf1 : ∀ j, w1.frozen? ⟨w.heap.size + 1, j, none⟩ = false := fun j => frozen_of_row w1 _ j _ _ h2
  have hf2 : ∀ j, w1.frozen? ⟨w.heap.size + 1 + 1, j, none⟩ = false := fun j => frozen_of_row w1 _ j _ _ h3
  have a2 : w1.cell? ⟨w.heap.size, 2, none⟩ = some (.int .i64 kd) := cell_of_row w1 _ 2 _ _ _ h1
  have a3 : w1.cell? ⟨w.heap.size, 3, none⟩ = some (.int .i64 n) := cell_of_row w1 _ 3 _ _ _ h1
  have a4 : w1.cell? ⟨w.heap.size, 4, none⟩ = some (.int .i64 a) := cell_of_row w1 _ 4 _ _ _ h1
  have b0 : w1.cell? ⟨w.heap.size + 1, 0, none⟩ = some (.string ⟨#[]⟩) := cell_of_row w1 _ 0 _ _ _ h2
  have b1 : w1.cell? ⟨w.heap.size + 1, 1, none⟩ = some (.slice none 0 0) := cell_of_row w1 _ 1 _ _ _ h2
  have b2 : w1.cell? ⟨w.heap.size + 1, 2, none⟩ = some (.int .i64 0) := cell_of_row w1 _ 2 _ _ _ h2
  have b3 : w1.cell? ⟨w.heap.size + 1, 3, none⟩ = some (.int .i64 0) := cell_of_row w1 _ 3 _ _ _ h2
  have b4 : w1.cell? ⟨w.heap.size + 1, 4, none⟩ = some (.int .i64 0) := cell_of_row w1 _ 4 _ _ _ h2
  have c0 : w1.cell? ⟨w.heap.size + 1 + 1, 0, none⟩ = some (.string s) := cell_of_row w1 _ 0 _ _ _ h3
  have c1 : w1.cell? ⟨w.heap.size + 1 + 1, 1, none⟩ = some (.slice none 0 0) := cell_of_row w1 _ 1 _ _ _ h3
  have c2 : w1.cell? ⟨w.heap.size + 1 + 1, 2, none⟩ = some (.int .i64 0) := cell_of_row w1 _ 2 _ _ _ h3
  have c3 : w1.cell? ⟨w.heap.size + 1 + 1, 3, none⟩ = some (.int .i64 0) := cell_of_row w1 _ 3 _ _ _ h3
  have c4 : w1.cell? ⟨w.heap.size + 1 + 1, 4, none⟩ = some (.int .i64 0) := cell_of_row w1 _ 4 _ _ _ h3
  clear hb1 hown hsb h1 h2 h3 h4 h5 HST
  have HNE : Hid (∀ (x : Addr) (y : Value) (W : World) (k j : Nat) (z : Value), w.heap.size + 3 ≤ x.block → k < w.heap.size + 3 → W.cell? x = some y → (W.setCell ⟨k, j, none⟩ z).cell? x = some y) := fun x y W k j z hx hk h =>
    (World.cell?_of_block (w := W) (Below.heap_setCell W ⟨k, j, none⟩ z x.block (by simp only; omega))).trans h
  go_wp2_with fail
  refine bodyPost_ret (v := .agg #[.string s, .slice ps set.length cs, .int .i64 kd, .int .i64 n, .int .i64 a]) (by rw [results_cellX (p := 2) (ty := 46) (by kernel_rfl)]; simp [go_sem, b0, b1, b2, b3, b4]) rfl ⟨_, rfl, ?_, ?_⟩
  · exact ((((((((HB1.out.setCell (by show _ ≤ _ + 1 + 1; omega) _).setCell (by show _ ≤ _ + 1 + 1; omega) _).setCell (by show _ ≤ _ + 1 + 1; omega) _).setCell (by show _ ≤ _ + 1 + 1; omega) _).setCell (by show _ ≤ _ + 1; omega) _).setCell (by show _ ≤ _ + 1; omega) _).setCell (by show _ ≤ _ + 1; omega) _).setCell (by show _ ≤ _ + 1; omega) _).setCell (by show _ ≤ _ + 1; omega) _
  · refine SetB.kept (B := w.heap.size + 3) (w := w1) (by omega) ?_ HSB.out
    intro x y hx hc
    exact HNE.out x y _ _ _ _ hx (by omega) (HNE.out x y _ _ _ _ hx (by omega) (HNE.out x y _ _ _ _ hx (by omega) (HNE.out x y _ _ _ _ hx (by omega) (HNE.out x y _ _ _ _ hx (by omega) (HNE.out x y _ _ _ _ hx (by omega) (HNE.out x y _ _ _ _ hx (by omega) (HNE.out x y _ _ _ _ hx (by omega) (HNE.out x y _ _ _ _ hx (by omega) hc))))))))

set_option maxRecDepth 100000 in
set_option maxHeartbeats 2000000 in
theorem to_binds (len : Nat) (bd : Nat → Bd) (w : World) (v : Value) (hv : BsOf w len bd v) (hw : bdsWeight len bd ≤ 1048576) :
    Calls Try.prog 7 #[v] w fun e w' => ∃ u, e = .returned u ∧ Below w.heap.size w w' ∧ BsAt w.heap.size w' len bd u := by
  obtain ⟨p, cap, rfl, hlen, hat⟩ := hv.at
  have HC : Hid (∀ i, i < len → ∃ b o sv, p = some ⟨b, o, none⟩ ∧ HeadB w b (o + i * 5) (bd i) sv ∧ SetR w sv (bd i).set ∧ (bd i).Fits) := hat
  have HW : Hid (∀ i, i < len → (bd i).set.length ≤ 4194304) := fun i hi => by
    have := bds_at (bd := bd) i hi
    unfold Bd.weight at this; omega
  have hl2 : len ≤ 1048576 := by unfold bdsWeight at hw; omega
  clear hat hv hw hlen
  obtain ⟨i0, hi, hz0, hz1, hz2⟩ := info_parts bind_info
  obtain ⟨w1, hrun, hown, hg⟩ := run_make_full (P := Try.prog) w w.heap.size 27 46 i0 _ 5 Try.underlying27 hi hz0 hz1 .i64 .i64 len (by rw [hz2]; omega) (by unfold maxLen; omega) (Nat.le_refl _)
  have HO : Hid (∃ junk : List Value, junk.length = len * 5 ∧ w1.ownsRow w.heap.size 46 5 (.slice (some ⟨w.heap.size, 0, none⟩) len len) len (brows [] ++ junk)) := ⟨_, by simp [size_madeCells], hown⟩
  have HG : Hid (Below w.heap.size w w1 ∧ w.heap.size < w1.heap.size) := ⟨⟨hg.os, hg.tape, hg.output, hg.size, fun k hk => hg.block k hk (by simp)⟩, (hown.lt _ rfl).2⟩
  clear hown hg hi hz0 hz1 hz2
  go_enter Try.func7, Try.ntmps7
  go_wp2_with fail
  clear hrun
  go_loopw [4] (fun i wr => ∃ (l : List BR) (junk : List Value), i = .int .i64 l.length ∧ l.length ≤ len ∧ l.length * 5 + junk.length = len * 5 ∧ wr.ownsRow w.heap.size 46 5 (.slice (some ⟨w.heap.size, 0, none⟩) len len) len (brows l ++ junk) ∧ BKs bd l ∧ (∀ q ∈ l, SetB (w.heap.size + 1) wr q.2 q.1.set ∧ q.1.Fits) ∧ Below w.heap.size w wr ∧ w.heap.size < wr.heap.size) (fun i _ => len - (intOf i).toNat)
  case atStart =>
    obtain ⟨junk, h1, h2⟩ := HO.out
    exact ⟨[], junk, rfl, Nat.zero_le _, by simpa using h1, h2, BKs.nil _, by simp, HG.out.1, HG.out.2⟩
  case round =>
    obtain ⟨l, junk, rfl, hl, hjl, hown, hks, hin, hbel, hsz⟩ := hrel
    have HOW : Hid (wr.ownsRow w.heap.size 46 5 (.slice (some ⟨w.heap.size, 0, none⟩) len len) len (brows l ++ junk)) := hown
    have HIN : Hid (∀ q ∈ l, SetB (w.heap.size + 1) wr q.2 q.1.set ∧ q.1.Fits) := hin
    have HBL : Hid (Below w.heap.size w wr) := hbel
    have HKS : Hid (BKs bd l) := hks
    have HSZ : Hid (w.heap.size < wr.heap.size) := hsz
    clear hown hin hbel hks hsz HO HG
    generalize hk : l.length = k at *
    have HK : Hid (l.length = k) := hk
    clear hk
    by_cases hlt : (k : Int) < len
    · have hlt' : k < len := by omega
      obtain ⟨b, o, su, hp, hd, hinu, hft⟩ := HC.out k hlt'
      subst hp
      obtain ⟨c0, c1, c2, c3, c4⟩ := hd.below HBL.out
      have HI : Hid (SetR wr su (bd k).set ∧ (bd k).Fits) := ⟨SetR.below HBL.out hinu, hft⟩
      clear hd hinu hft
      go_wp2_with fail
      refine (to_bind (bd k) wr su HI.out.1 (HW.out k hlt')).mono ?_
      rintro e w2 ⟨sv, rfl, hb2, hinv⟩
      obtain ⟨ps, cs, hss⟩ := hinv.shape
      clear c0 c1 c2 c3 c4
      have q0 := own_belowX HOW.out hb2
      have hf : ∀ j, w2.frozen? ⟨w.heap.size, j, none⟩ = false := fun j => q0.frozenAt j
      have hcl : ∀ j, j < 5 → ∃ u, w2.cell? ⟨w.heap.size, k * 5 + j, none⟩ = some u := by
        intro j hj
        have hl : k * 5 + j < (brows l ++ junk).length := by rw [List.length_append, brows_length, HK.out]; omega
        exact ⟨_, (q0.cellAt (k * 5 + j) (by omega)).trans (List.getElem?_eq_getElem hl)⟩
      obtain ⟨u0, hu0⟩ := hcl 0 (by omega)
      obtain ⟨u1, hu1⟩ := hcl 1 (by omega)
      obtain ⟨u2, hu2⟩ := hcl 2 (by omega)
      obtain ⟨u3, hu3⟩ := hcl 3 (by omega)
      obtain ⟨u4, hu4⟩ := hcl 4 (by omega)
      rw [Nat.add_zero] at hu0
      have N := row_stepB (bd := bd) (sv := sv) HOW.out (by omega) HKS.out HIN.out HBL.out HSZ.out hb2 (by rw [HK.out]; exact ⟨hinv, HI.out.2⟩)
      rw [HK.out] at N
      have HN : Hid _ := N
      clear N hinv hb2 q0 hcl HI
      subst hss
      go_wp2_with fail
      go_roundw
      case rel =>
        obtain ⟨n1, n2, n3, n4, n5⟩ := HN.out
        have h := HK.out
        exact ⟨l ++ [(bd k, _)], junk.drop 5, by rw [List.length_append, h]; go_num, by rw [List.length_append, h]; simp; omega, by rw [List.length_append, h]; simp; omega, n1, n2, n3, n4, n5⟩
      case measure => simp [intOf]; omega
    · have hke : k = len := by omega
      subst hke
      go_wp2
      go_ret
      have hj : junk = [] := List.eq_nil_of_length_eq_zero (by omega)
      subst hj
      have h1 := HOW.out
      rw [List.append_nil] at h1
      exact ⟨_, rfl, HBL.out, BsB.of_own h1 HK.out (Nat.le_refl _) HKS.out (fun q hq => ⟨(HIN.out q hq).1.kept (by omega) (fun _ _ _ h => h), (HIN.out q hq).2⟩)⟩
end Go.Proofs.Ytgbfflpdpfgnbaa
