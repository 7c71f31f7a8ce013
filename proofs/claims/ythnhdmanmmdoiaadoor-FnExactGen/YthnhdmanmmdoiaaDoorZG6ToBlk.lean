/- Rows of blocks of one's own that may be written. No conditions. -/
import Derived.Test.YthnhdmanmmdoiaaDoorZG4IrMark
import Derived.Test.YthnhdmanmmdoiaaDoorZG5ToIrM
namespace Go.Proofs.YthnhdmanmmdoiaaDoor
open Go.ChangeShapes Go.WideShapes Go.ChangeAt Go.RowKit

/-- v is a row of blocks, in blocks from B up to C that may be written. -/
def MBl (B C : Nat) (w : World) (len : Nat) (kid : Nat → Kb) (v : Value) : Prop := (len = 0 ∧ ∃ p cap, v = .slice p 0 cap) ∨
     ∃ (b o cap : Nat) (V : Nat → Value), v = .slice (some ⟨b, o, none⟩) len cap ∧ (B ≤ b ∧ b < C) ∧ len ≤ maxLen ∧ (∀ j, w.frozen? ⟨b, j, none⟩ = false) ∧
       ∀ i, i < len → ((∃ a, w.cell? ⟨b, o + i * 4, none⟩ = some (.int .i64 a)) ∧ (∃ a, w.cell? ⟨b, o + i * 4 + 1, none⟩ = some (.int .i64 a)) ∧ (∃ a, w.cell? ⟨b, o + i * 4 + 2, none⟩ = some (.int .i64 a)) ∧ w.cell? ⟨b, o + i * 4 + 3, none⟩ = some (V i)) ∧ MIr B C w (kid i).bd (V i)
theorem MBl.shape {B C : Nat} {w : World} {len : Nat} {kid : Nat → Kb} {v : Value} (h : MBl B C w len kid v) : ∃ p cap, v = .slice p len cap := by
  rcases h with ⟨rfl, p, cap, rfl⟩ | ⟨b, o, cap, V, rfl, _⟩
  · exact ⟨_, _, rfl⟩
  · exact ⟨_, _, rfl⟩
theorem MBl.keep {B C : Nat} {w w' : World} (k : MK B C w w') {len : Nat} {kid : Nat → Kb} {v : Value} (h : MBl B C w len kid v) : MBl B C w' len kid v := by
  rcases h with h0 | ⟨b, o, cap, V, h1, h2, h3, h4, h5⟩
  · exact .inl h0
  · refine .inr ⟨b, o, cap, V, h1, h2, h3, fun j => (k.fz b j h2.2).trans (h4 j), fun i hi => ?_⟩
    obtain ⟨⟨a1, a2, a3, a4⟩, a5⟩ := h5 i hi
    obtain ⟨p, c, e⟩ := a5.shape
    refine ⟨⟨k.int _ _ a1, k.int _ _ a2, k.int _ _ a3, ?_⟩, a5.keep k⟩
    rw [e] at a4 ⊢
    exact k.sl _ _ _ _ _ a4
theorem MBl.mono {B C B' C' : Nat} (hB : B' ≤ B) (hC : C ≤ C') {w : World} {len : Nat} {kid : Nat → Kb} {v : Value} (h : MBl B C w len kid v) : MBl B' C' w len kid v := by
  rcases h with h0 | ⟨b, o, cap, V, h1, h2, h3, h4, h5⟩
  · exact .inl h0
  · exact .inr ⟨b, o, cap, V, h1, ⟨by omega, by omega⟩, h3, h4, fun i hi => ⟨(h5 i hi).1, (h5 i hi).2.mono hB hC⟩⟩

def Kb.OB (B : Nat) (w : World) (t : Kb) (v : Value) : Prop := (-9223372036854775808 ≤ t.fr ∧ t.fr ≤ 9223372036854775807) ∧ t.bd.OB B w v
def KlO (B : Nat) (w : World) (len : Nat) (kid : Nat → Kb) (v : Value) : Prop := KlB B w len kid v ∧ MBl B w.heap.size w len kid v
theorem Kb.OB.in {B : Nat} {w : World} {t : Kb} {v : Value} (h : t.OB B w v) : t.InB B w v := ⟨h.1, h.2.1⟩
theorem Kb.OB.below {B : Nat} {w w' : World} (hb : Below w.heap.size w w') {t : Kb} {v : Value} (h : t.OB B w v) : t.OB B w' v := ⟨h.1, h.2.below hb⟩
theorem Kb.OB.mono {B B' : Nat} (hB : B' ≤ B) {w : World} {t : Kb} {v : Value} (h : t.OB B w v) : t.OB B' w v := ⟨h.1, h.2.mono hB⟩
theorem Kb.OB.same {B : Nat} {w w' : World} (hs : w.heap.size ≤ w'.heap.size) (hk : ∀ k, B ≤ k → k < w.heap.size → w'.heap[k]? = w.heap[k]?) {t : Kb} {v : Value} (h : t.OB B w v) : t.OB B w' v := ⟨h.1, h.2.same hs hk⟩
/-- What a call owns lies in memory, and may be written. -/
theorem KlO.of_own {w : World} {base e B n : Nat} {v : Value} {kid : Nat → Kb} {l : List (Kb × Value)} (h : w.ownsRow base e 4 v n (krows l)) (hl : l.length = n) (hB : B ≤ base) (hk : KKs kid l) (hin : ∀ q ∈ l, q.1.OB B w q.2) : KlO B w n kid v := by
  refine ⟨KlB.of_own h hl hB hk (fun q hq => (hin q hq).in), ?_⟩
  have h' := h
  rcases h.2 with ⟨rfl, rfl⟩ | ⟨g, cap, cur, rfl, hbg, hgg, hc, hm, hs, ht⟩
  · exact .inl ⟨rfl, _, _, rfl⟩
  · refine .inr ⟨g, 0, cap, fun i => ((l[i]?).getD (default, .bool false)).2, rfl, ⟨by omega, (Array.getElem?_eq_some_iff.1 hgg).1⟩, Nat.le_trans hc hm, fun j => h'.frozenAt j, fun i hi => ?_⟩
    have hi' : i < l.length := by omega
    have hq : l[i]? = some l[i] := List.getElem?_eq_getElem hi'
    have hkid := hk i _ hq
    have cell : ∀ j, j < 4 → w.cell? ⟨g, 0 + i * 4 + j, none⟩ = (kcells l[i])[j]? := by
      intro j hj
      have := h.cellAt (i * 4 + j) (by omega)
      rw [Nat.zero_add, this]
      have := krows_at l [] i _ hq j hj
      simpa using this
    simp only [hq, Option.getD_some]
    rw [← hkid]
    exact ⟨⟨⟨_, cell 0 (by omega)⟩, ⟨_, cell 1 (by omega)⟩, ⟨_, cell 2 (by omega)⟩, cell 3 (by omega)⟩, (hin _ (List.getElem_mem hi')).2.2⟩
/-- A row goes on by one block. -/
theorem row_stepKO {w wr w2 : World} {e n cap : Nat} {l : List (Kb × Value)} {junk : List Value} {kid : Nat → Kb} {v : Value}
    (hown : wr.ownsRow w.heap.size e 4 (.slice (some ⟨w.heap.size, 0, none⟩) n cap) n (krows l ++ junk)) (hj : 4 ≤ junk.length) (hks : KKs kid l) (hin : ∀ q ∈ l, q.1.OB (w.heap.size + 1) wr q.2)
    (hbel : Below w.heap.size w wr) (hsz : w.heap.size < wr.heap.size) (hb : Below wr.heap.size wr w2) (hv : (kid l.length).OB wr.heap.size w2 v) :
    (stK4 w2 w.heap.size (l.length * 4) (kid l.length) v).ownsRow w.heap.size e 4 (.slice (some ⟨w.heap.size, 0, none⟩) n cap) n (krows (l ++ [(kid l.length, v)]) ++ junk.drop 4) ∧ KKs kid (l ++ [(kid l.length, v)]) ∧
    (∀ q ∈ l ++ [(kid l.length, v)], q.1.OB (w.heap.size + 1) (stK4 w2 w.heap.size (l.length * 4) (kid l.length) v) q.2) ∧ Below w.heap.size w (stK4 w2 w.heap.size (l.length * 4) (kid l.length) v) ∧ w.heap.size < (stK4 w2 w.heap.size (l.length * 4) (kid l.length) v).heap.size := by
  obtain ⟨q, g⟩ := storedK4 (own_below5 hown hb) hj (kid l.length) v
  have hk : ∀ k, w.heap.size + 1 ≤ k → k < w2.heap.size → (stK4 w2 w.heap.size (l.length * 4) (kid l.length) v).heap[k]? = w2.heap[k]? := fun k h1 h2 => g.block k h2 (by intro e; injection e with e; omega)
  have hb2 : Below w.heap.size w w2 := hbel.trans (hb.mono (by omega))
  refine ⟨q, hks.snoc v, ?_, hb2.trans ⟨g.os, g.tape, g.output, g.size, fun k hk => g.block k (by have := hb2.size; omega) (by intro e; injection e with e; omega)⟩, Nat.lt_of_lt_of_le hsz (Nat.le_trans hb.size g.size)⟩
  intro x hx
  rcases List.mem_append.1 hx with hx | hx
  · exact Kb.OB.same g.size hk ((hin x hx).below hb)
  · simp only [List.mem_singleton] at hx
    subst hx
    exact Kb.OB.same g.size hk (hv.mono (by omega))
end Go.Proofs.YthnhdmanmmdoiaaDoor

/- laws.toBlock and laws.toBlockS: blocks laid anew, in memory of the call's own. Condition: at most 2^20 of them. -/
namespace Go.Proofs.YthnhdmanmmdoiaaDoor
open Go.ChangeShapes Go.WideShapes Go.ChangeAt Go.RowKit

def ToKAt (t : Kb) : Prop := ∀ (w : World) (v : Value), t.In w v → t.weight ≤ 1048576 →
  Calls Tryd.prog 18 #[.agg #[.int .i64 t.fr, .int .i64 t.bd.op, .int .i64 t.bd.n, v]] w fun e w' => ∃ u, e = .returned (.agg #[.int .i64 t.fr, .int .i64 t.bd.op, .int .i64 t.bd.n, u]) ∧ Below w.heap.size w w' ∧ t.InB w.heap.size w' u

theorem blk_info : (Tryd.prog.info? 50).map (fun i => (i.zero, i.size, i.bytes)) = some (some (.agg #[.int .i64 0, .int .i64 0, .int .i64 0, .slice none 0 0]), 4, 48) := by kernel_rfl

set_option maxRecDepth 100000 in
set_option maxHeartbeats 2000000 in
theorem to_blk (t : Kb) : ToKAt t := by
  intro w v hin hwt
  obtain ⟨p, cap, e⟩ := hin.sl.shape
  have HF : Hid (-9223372036854775808 ≤ t.fr ∧ t.fr ≤ 9223372036854775807) := hin.1
  have HT : Hid (∀ w1, Below w.heap.size w w1 → Calls Tryd.prog 33 #[.agg #[.int .i64 t.bd.op, .int .i64 t.bd.n, v]] w1 fun e w' => ∃ u, e = .returned (.agg #[.int .i64 t.bd.op, .int .i64 t.bd.n, u]) ∧ Below w1.heap.size w1 w' ∧ t.bd.InB w1.heap.size w' u) :=
    fun w1 h => to_ir t.bd w1 v (hin.2.below h) hwt
  clear hin hwt
  subst e
  go_enter Tryd.func18, Tryd.ntmps18
  go_wp2_with fail
  refine (HT.out _ ?_).mono ?_
  · first | exact ((newb w _).trans (((newb _ _).mono (by simp)).trans ((newb _ _).mono (by simp; omega)))) | exact (((newb w _).trans (((newb _ _).mono (by simp)).trans ((newb _ _).mono (by simp; omega)))).setCell (by simp; omega) _)
  rintro e w1 ⟨u, rfl, hb1, hin1⟩
  obtain ⟨pu, cu, hu⟩ := hin1.sl.shape
  subst hu
  obtain ⟨h1, h2, h3, h4, h5⟩ := three hb1
  have HSU : Hid (t.bd.InB (w.heap.size + 3) w1 (.slice pu t.bd.len cu)) := hin1.mono (by simp)
  have HB : Hid (Below w.heap.size w w1) := h5
  have hf1 : ∀ j, w1.frozen? ⟨w.heap.size + 1, j, none⟩ = false := fun j => frozen_of_row w1 _ j _ _ h2
  have hf2 : ∀ j, w1.frozen? ⟨w.heap.size + 1 + 1, j, none⟩ = false := fun j => frozen_of_row w1 _ j _ _ h3
  have b0 : w1.cell? ⟨w.heap.size + 1, 0, none⟩ = some (.int .i64 0) := cell_of_row w1 _ 0 _ _ _ h2
  have b1 : w1.cell? ⟨w.heap.size + 1, 1, none⟩ = some (.int .i64 0) := cell_of_row w1 _ 1 _ _ _ h2
  have b2 : w1.cell? ⟨w.heap.size + 1, 2, none⟩ = some (.int .i64 0) := cell_of_row w1 _ 2 _ _ _ h2
  have b3 : w1.cell? ⟨w.heap.size + 1, 3, none⟩ = some (.slice none 0 0) := cell_of_row w1 _ 3 _ _ _ h2
  have c0 : w1.cell? ⟨w.heap.size + 1 + 1, 0, none⟩ = some (.int .i64 t.fr) := cell_of_row w1 _ 0 _ _ _ h3
  have c1 : w1.cell? ⟨w.heap.size + 1 + 1, 1, none⟩ = some (.int .i64 0) := cell_of_row w1 _ 1 _ _ _ h3
  have c2 : w1.cell? ⟨w.heap.size + 1 + 1, 2, none⟩ = some (.int .i64 0) := cell_of_row w1 _ 2 _ _ _ h3
  have c3 : w1.cell? ⟨w.heap.size + 1 + 1, 3, none⟩ = some (.slice none 0 0) := cell_of_row w1 _ 3 _ _ _ h3
  clear hb1 hin1 h1 h2 h3 h4 h5 HT
  go_wp2_with fail
  refine bodyPost_ret (v := .agg #[.int .i64 t.fr, .int .i64 t.bd.op, .int .i64 t.bd.n, .slice pu t.bd.len cu]) (by rw [results_cell1 (p := 2) (ty := 50) (by kernel_rfl)]; simp [go_sem, b0, b1, b2, b3]) rfl ⟨_, rfl, ?_, ?_⟩
  · exact (((((((HB.out.setCell (by show _ ≤ _ + 1 + 1; omega) _).setCell (by show _ ≤ _ + 1 + 1; omega) _).setCell (by show _ ≤ _ + 1 + 1; omega) _).setCell (by show _ ≤ _ + 1; omega) _).setCell (by show _ ≤ _ + 1; omega) _).setCell (by show _ ≤ _ + 1; omega) _).setCell (by show _ ≤ _ + 1; omega) _)
  · refine ⟨HF.out, It.InB.mono (B := w.heap.size + 3) (by omega) _ (It.InB.kept (B := w.heap.size + 3) (w := w1) ?_ _ HSU.out)⟩
    intro x y hx hc
    have ne : ∀ (W : World) (k j : Nat) (z : Value), k < w.heap.size + 3 → W.cell? x = some y → (W.setCell ⟨k, j, none⟩ z).cell? x = some y := fun W k j z hk h =>
      (World.cell?_of_block (w := W) (Below.heap_setCell W ⟨k, j, none⟩ z x.block (by simp only; omega))).trans h
    exact (ne _ _ _ _ (by omega) (ne _ _ _ _ (by omega) (ne _ _ _ _ (by omega) (ne _ _ _ _ (by omega) (ne _ _ _ _ (by omega) (ne _ _ _ _ (by omega) (ne _ _ _ _ (by omega) hc)))))))

set_option maxRecDepth 100000 in
set_option maxHeartbeats 2000000 in
theorem to_blksOf (len : Nat) (kid : Nat → Kb) (ih : ∀ i, i < len → ToKAt (kid i)) (w : World) (v : Value) (hv : Kl w len kid v) (hw : kidsWeightK len kid ≤ 1048576) :
    Calls Tryd.prog 6 #[v] w fun e w' => ∃ u, e = .returned u ∧ Below w.heap.size w w' ∧ KlB w.heap.size w' len kid u := by
  obtain ⟨p, cap, rfl, hlen, hat⟩ := hv.at
  have HC : Hid (∀ i, i < len → ∃ b o u, p = some ⟨b, o, none⟩ ∧ HeadK w b (o + i * 4) (kid i) u ∧ (kid i).In w u) := hat
  have IH : Hid (∀ i, i < len → ToKAt (kid i)) := ih
  have HW : Hid (∀ i, i < len → (kid i).weight ≤ 1048576) := fun i hi => by
    have := sumTo_at (fun i => (kid i).weight) i len hi
    unfold kidsWeightK at hw; omega
  have hl2 : len ≤ 1048576 := by unfold kidsWeightK at hw; omega
  clear hat ih hv hw hlen
  obtain ⟨i0, hi, hz0, hz1, hz2⟩ := info_parts blk_info
  obtain ⟨w1, hrun, hown, hg⟩ := run_make_full (P := Tryd.prog) w w.heap.size 27 50 i0 _ 4 Tryd.underlying27 hi hz0 hz1 .i64 .i64 len (by rw [hz2]; omega) (by unfold maxLen; omega) (Nat.le_refl _)
  have HO : Hid (∃ junk : List Value, junk.length = len * 4 ∧ w1.ownsRow w.heap.size 50 4 (.slice (some ⟨w.heap.size, 0, none⟩) len len) len (krows [] ++ junk)) := ⟨_, by simp [size_madeCells], hown⟩
  have HG : Hid (Below w.heap.size w w1 ∧ w.heap.size < w1.heap.size) := ⟨⟨hg.os, hg.tape, hg.output, hg.size, fun k hk => hg.block k hk (by simp)⟩, (hown.lt _ rfl).2⟩
  clear hown hg hi hz0 hz1 hz2
  go_enter Tryd.func6, Tryd.ntmps6
  go_wp2_with fail
  clear hrun
  go_loopw [4] (fun i wr => ∃ (l : List (Kb × Value)) (junk : List Value), i = .int .i64 l.length ∧ l.length ≤ len ∧ l.length * 4 + junk.length = len * 4 ∧ wr.ownsRow w.heap.size 50 4 (.slice (some ⟨w.heap.size, 0, none⟩) len len) len (krows l ++ junk) ∧ KKs kid l ∧ (∀ q ∈ l, q.1.InB (w.heap.size + 1) wr q.2) ∧ Below w.heap.size w wr ∧ w.heap.size < wr.heap.size) (fun i _ => len - (intOf i).toNat)
  case atStart =>
    obtain ⟨junk, h1, h2⟩ := HO.out
    exact ⟨[], junk, rfl, Nat.zero_le _, by simpa using h1, h2, KKs.nil _, by simp, HG.out.1, HG.out.2⟩
  case round =>
    obtain ⟨l, junk, rfl, hl, hjl, hown, hks, hin, hbel, hsz⟩ := hrel
    have HOW : Hid (wr.ownsRow w.heap.size 50 4 (.slice (some ⟨w.heap.size, 0, none⟩) len len) len (krows l ++ junk)) := hown
    have HIN : Hid (∀ q ∈ l, q.1.InB (w.heap.size + 1) wr q.2) := hin
    have HBL : Hid (Below w.heap.size w wr) := hbel
    have HKS : Hid (KKs kid l) := hks
    have HSZ : Hid (w.heap.size < wr.heap.size) := hsz
    clear hown hin hbel hks hsz HO HG
    generalize hk : l.length = k at *
    have HK : Hid (l.length = k) := hk
    clear hk
    by_cases hlt : (k : Int) < len
    · have hlt' : k < len := by omega
      obtain ⟨b, o, u, hp, hd, hinu⟩ := HC.out k hlt'
      subst hp
      obtain ⟨c0, c1, c2, c3⟩ := hd.below HBL.out
      have HI : Hid ((kid k).In wr u) := hinu.below HBL.out
      clear hd hinu
      go_wp2_with fail
      refine (IH.out k hlt' wr u HI.out (HW.out k hlt')).mono ?_
      rintro e w2 ⟨v, rfl, hb2, hinv⟩
      obtain ⟨pv, cv, hvv⟩ := hinv.sl.shape
      clear c0 c1 c2 c3
      have q0 := own_below5 HOW.out hb2
      have hf : ∀ j, w2.frozen? ⟨w.heap.size, j, none⟩ = false := fun j => q0.frozenAt j
      have hcl : ∀ j, j < 4 → ∃ u, w2.cell? ⟨w.heap.size, k * 4 + j, none⟩ = some u := by
        intro j hj
        have hl : k * 4 + j < (krows l ++ junk).length := by rw [List.length_append, krows_length, HK.out]; omega
        exact ⟨_, (q0.cellAt (k * 4 + j) (by omega)).trans (List.getElem?_eq_getElem hl)⟩
      obtain ⟨u0, hu0⟩ := hcl 0 (by omega)
      obtain ⟨u1, hu1⟩ := hcl 1 (by omega)
      obtain ⟨u2, hu2⟩ := hcl 2 (by omega)
      obtain ⟨u3, hu3⟩ := hcl 3 (by omega)
      rw [Nat.add_zero] at hu0
      have N := row_stepK (kid := kid) (v := v) HOW.out (by omega) HKS.out HIN.out HBL.out HSZ.out hb2 (by rw [HK.out]; exact hinv)
      rw [HK.out] at N
      have HN : Hid _ := N
      clear N hinv hb2 q0 hcl HI
      subst hvv
      go_wp2_with fail
      go_roundw
      case rel =>
        obtain ⟨n1, n2, n3, n4, n5⟩ := HN.out
        have h := HK.out
        exact ⟨l ++ [(kid k, _)], junk.drop 4, by rw [List.length_append, h]; go_num, by rw [List.length_append, h]; simp; omega, by rw [List.length_append, h]; simp; omega, n1, n2, n3, n4, n5⟩
      case measure => simp [intOf]; omega
    · have hke : k = len := by omega
      subst hke
      go_wp2
      go_ret
      have hj : junk = [] := List.eq_nil_of_length_eq_zero (by omega)
      subst hj
      have h1 := HOW.out
      rw [List.append_nil] at h1
      exact ⟨_, rfl, HBL.out, KlB.of_own h1 HK.out (Nat.le_refl _) HKS.out (fun q hq => (HIN.out q hq).mono (by omega))⟩

theorem to_blks (len : Nat) (kid : Nat → Kb) (w : World) (v : Value) (hv : Kl w len kid v) (hw : kidsWeightK len kid ≤ 1048576) :
    Calls Tryd.prog 6 #[v] w fun e w' => ∃ u, e = .returned u ∧ Below w.heap.size w w' ∧ KlB w.heap.size w' len kid u := to_blksOf len kid (fun i _ => to_blk (kid i)) w v hv hw
end Go.Proofs.YthnhdmanmmdoiaaDoor
