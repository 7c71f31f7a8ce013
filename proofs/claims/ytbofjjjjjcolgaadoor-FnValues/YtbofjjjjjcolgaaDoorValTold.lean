/- impl.toldText of values, by what their pieces are. Condition: at most 2^20 in all. -/
import Derived.Test.YtbofjjjjjcolgaaDoorValRev
import Derived.Test.YtbofjjjjjcolgaaDoorBldEnd
import Derived.Deep.AppendLies
import Derived.Laws.OwnMore
import Derived.OwnWalk
import Derived.Deep.Cut
namespace Go.Proofs.YtbofjjjjjcolgaaDoor
open Go.ChangeShapes Go.WideShapes Go.ChangeAt Go.RowKit

/-- What a datum's pieces come as. -/
def PcsAreV (w1 W : World) (t : Vt) (e : Ending) (w' : World) : Prop :=
  ∃ (g cap : Nat) (ps : List PcV), e = .returned (.slice (some ⟨g, 0, none⟩) ps.length cap) ∧ w'.ownsRow W.heap.size 51 2 (.slice (some ⟨g, 0, none⟩) ps.length cap) ps.length (pcrowsV ps) ∧ Below W.heap.size W w' ∧ PcsOfV w1 t ps
/-- The contract of valuePieces. -/
def PiecesAtV (w : World) : Prop := ∀ (w1 W : World) (t : Vt) (v : Value), Below w.heap.size w w1 → Below w1.heap.size w1 W → t.In w1 v → t.weight ≤ 1048576 →
  Calls Tryd.prog 14 #[.agg #[.int .i64 t.op, .int .i64 t.n, v]] W (PcsAreV w1 W t)

theorem piece_infoV : (Tryd.prog.info? 51).map (fun i => (i.zero, i.size, i.bytes)) = some (some (.agg #[.string ⟨#[]⟩, .pointer none]), 2, 24) := by kernel_rfl

theorem own_somePcV {w : World} {base e size n : Nat} {v : Value} {xs : List Value} (h : w.ownsRow base e size v n xs) (hn : 0 < n) : ∃ g cap, v = .slice (some ⟨g, 0, none⟩) n cap ∧ n ≤ cap ∧ cap ≤ maxLen := by
  rcases h.2 with ⟨_, h0⟩ | ⟨g, cap, cur, he, _, _, hc, hm, _, _⟩
  · omega
  · exact ⟨g, cap, he, hc, hm⟩
theorem pcs_oneCellV (l : List PcV) : ∀ u ∈ pcrowsV l, u.oneCell' = true := by
  intro u hu
  simp only [pcrowsV, List.mem_flatMap, PcV.cells, List.mem_cons, List.not_mem_nil, or_false] at hu
  obtain ⟨p, _, rfl | rfl⟩ := hu
  · rfl
  · rfl
/-- A row that is owned stays where another row's blocks alone have turned. -/
theorem own_tfrV {w w' : World} {base e size n K : Nat} {v bv : Value} {xs : List Value} (h : w.ownsRow base e size v n xs) (hf : TFr w w' K bv) (hK : K < base) (hne : v.ownBlock = none ∨ v.ownBlock ≠ bv.ownBlock) : w'.ownsRow base e size v n xs := by
  refine ⟨h.1, ?_⟩
  rcases h.2 with hn | ⟨g, cap, cur, rfl, hbg, hgg, rest⟩
  · exact .inl hn
  · refine .inr ⟨g, cap, cur, rfl, hbg, (hf.block g (Array.getElem?_eq_some_iff.1 hgg).1 (by omega) (fun e => ?_)).trans hgg, rest⟩
    rcases hne with h0 | h0
    · simp [Value.ownBlock] at h0
    · exact h0 (by rw [e]; rfl)
theorem own_grownV {w w' : World} {base e size n : Nat} {v x : Value} {xs : List Value} (h : w.ownsRow base e size v n xs) (hg : w.grownBy w' x.ownBlock) (hne : v.ownBlock = none ∨ v.ownBlock ≠ x.ownBlock) : w'.ownsRow base e size v n xs := h.kept hg hne

theorem hid_ofPV {p : Prop} (h : p) : Hid p := h
/-- What the loop keeps. -/
structure TLV (w1 : World) (K : Nat) (XT : List UInt8) (wr : World) (bv : Value) (txt : List UInt8) (st : List PcV) (g cap : Nat) : Prop where
  tell : ∃ p, (p = .pointer none ∨ p = self K) ∧ Tell wr K p bv txt
  all : txt ++ leftPV st = XT
  ins : PcsInV w1 st
  own : wr.ownsRow (K + 1) 51 2 (.slice (some ⟨g, 0, none⟩) st.length cap) st.length (pcrowsV st)
  bel : Below w1.heap.size w1 wr

theorem Tell.grown {w w' : World} {K : Nat} {p bv : Value} {txt : List UInt8} {x : Value} (h : Tell w K p bv txt) (hg : w.grownBy w' x.ownBlock) (hK : x.ownBlock ≠ some K) (hne : bv.ownBlock = none ∨ bv.ownBlock ≠ x.ownBlock) : Tell w' K p bv txt :=
  ⟨(hg.block K h.lt (fun e => hK e.symm)).trans h.blk, h.buf.kept hg hne⟩
theorem grown_belowV {w w' : World} {K : Nat} {x : Value} (hg : w.grownBy w' x.ownBlock) (hs : K ≤ w.heap.size) (hK : ∀ b, x.ownBlock = some b → K ≤ b) : Below K w w' :=
  ⟨hg.os, hg.tape, hg.output, hg.size, fun j hj => hg.block j (by omega) (fun e => by have := hK j e.symm; omega)⟩

theorem own_monoPcV {w : World} {base base' e size n : Nat} {v : Value} {xs : List Value} (h : w.ownsRow base e size v n xs) (hb : base' ≤ base) : w.ownsRow base' e size v n xs := by
  refine ⟨h.1, ?_⟩
  rcases h.2 with hn | ⟨g, cap, cur, rfl, hbg, rest⟩
  · exact .inl hn
  · exact .inr ⟨g, cap, cur, rfl, Nat.le_trans hb hbg, rest⟩
/-- What a loop that makes pieces keeps. -/
structure PLV (W wr : World) (l : List PcV) (g cap : Nat) : Prop where
  own : wr.ownsRow W.heap.size 51 2 (.slice (some ⟨g, 0, none⟩) l.length cap) l.length (pcrowsV l)
  bel : Below W.heap.size W wr
/-- One piece more. -/
theorem PLV.more {W wr w1 w2 : World} {l ps : List PcV} {g cap : Nat} {v' : Value} (h : PLV W wr l g cap) (hb : Below wr.heap.size wr w1) (ho : w2.ownsRow W.heap.size 51 2 v' (l.length + ps.length) (pcrowsV l ++ pcrowsV ps)) (hg : w1.grownBy w2 (Value.slice (some ⟨g, 0, none⟩) l.length cap).ownBlock) (hp : 0 < ps.length) :
    ∃ g2 cap2, v' = .slice (some ⟨g2, 0, none⟩) ((l ++ ps).length : Nat) cap2 ∧ PLV W w2 (l ++ ps) g2 cap2 := by
  obtain ⟨g2, cap2, rfl, -, -⟩ := own_somePcV ho (by omega)
  have h1 := h.bel.trans (hb.mono h.bel.size)
  refine ⟨g2, cap2, by rw [List.length_append], ⟨by rw [List.length_append, pcrowsV_append]; exact ho, h1.trans (grown_belowV hg h1.size (fun b e => ?_))⟩⟩
  simp only [Value.ownBlock, Option.some.injEq] at e
  have := (own_room h.own).2.2.1
  omega

set_option maxRecDepth 100000 in
set_option maxHeartbeats 2000000 in
theorem told_textV (t : Vt) (w : World) (v : Value) (hin : t.In w v) (hw : t.weight ≤ 1048576) (hP : PiecesAtV w) :
    Calls Tryd.prog 13 #[.agg #[.int .i64 t.op, .int .i64 t.n, v], .func (.func 14) #[] #[]] w fun e w' => e = .returned (.string ⟨t.text.toArray⟩) ∧ Below w.heap.size w w' := by
  obtain ⟨i0, hi, hz0, hz1, hz2⟩ := info_parts piece_infoV
  obtain ⟨pv, cv, ev⟩ := hin.sl.shape
  have htx : t.text.length ≤ 33554432 := by
    have h1 := t.text_len w v hin
    have h2 := t.count_weight
    omega
  have hst : t.steps + 1 ≤ 16777216 := by
    have h1 := t.steps_count
    have h2 := t.count_weight
    omega
  obtain ⟨w1, hw1⟩ : ∃ w1, w1 = w.alloc (.cells #[.int .i64 t.op, .int .i64 t.n, v] 26) := ⟨_, rfl⟩
  have nb : Below w.heap.size w w1 := by rw [hw1]; exact newb w _
  have hb0 : w1.heap[w.heap.size]? = some (.cells #[.int .i64 t.op, .int .i64 t.n, v] 26 (0, 0)) := by rw [hw1]; exact heap_alloc_new w _
  have HPC : Hid (∀ (W : World) (t : Vt) (v : Value), Below w1.heap.size w1 W → t.In w1 v → t.weight ≤ 1048576 → Calls Tryd.prog 14 #[.agg #[.int .i64 t.op, .int .i64 t.n, v]] W (PcsAreV w1 W t)) := fun W t v h1 h2 h3 => hP w1 W t v nb h1 h2 h3
  have H0 : Hid (leftPV [PcV.tree t v w.heap.size 0] = t.text ∧ goesPV [PcV.tree t v w.heap.size 0] = t.steps + 1 ∧ PcsInV w1 [PcV.tree t v w.heap.size 0]) := by
    refine ⟨by simp [leftPV, toldAllV, PcV.told, PcV.tree], by simp [goesPV, PcV.goes, PcV.tree]; omega, PcsInV.one (hin.below nb) ⟨?_, ?_, ?_⟩ hw⟩
    · exact cell_of_row w1 _ 0 _ _ _ hb0
    · exact cell_of_row w1 _ 1 _ _ _ hb0
    · exact cell_of_row w1 _ 2 _ _ _ hb0
  obtain ⟨K, hK⟩ : ∃ K, K = w1.heap.size := ⟨_, rfl⟩
  obtain ⟨w2, hw2⟩ : ∃ w2, w2 = w1.alloc (.cells #[.pointer none, .slice none 0 0] 48) := ⟨_, rfl⟩
  obtain ⟨w3, hw3⟩ : ∃ w3, w3 = w2.alloc (.cells #[.string ⟨#[]⟩, .pointer (some ⟨w.heap.size, 0, none⟩)] 51) := ⟨_, rfl⟩
  have hs2 : w2.heap.size = K + 1 := by rw [hw2, hK]; simp
  have HS : Hid (TLV w1 K t.text w3 (.slice none 0 0) [] [PcV.tree t v w.heap.size 0] (K + 1) 1) := by
    have b2 : Below w1.heap.size w1 w2 := by rw [hw2]; exact newb w1 _
    have b3 : Below w2.heap.size w2 w3 := by rw [hw3]; exact newb w2 _
    have hk2 : w2.heap[K]? = some (.cells #[.pointer none, .slice none 0 0] 48 (0, 0)) := by rw [hw2, hK]; exact heap_alloc_new w1 _
    refine ⟨⟨.pointer none, .inl rfl, ⟨(b3.block _ (by omega)).trans hk2, ⟨by simp [Lib.byteCells], .inl ⟨rfl, rfl⟩⟩⟩⟩, by rw [List.nil_append]; exact H0.out.1, H0.out.2.2, ?_, b2.trans (b3.mono b2.size)⟩
    rw [hw3]
    exact own_new rfl hs2 (Nat.le_refl _) rfl rfl (by unfold maxLen; omega)
  have HK : Hid (K = w1.heap.size ∧ w2.heap.size = K + 1 ∧ w1.heap.size = w.heap.size + 1 ∧ Below w.heap.size w w1) := ⟨hK, hs2, by rw [hw1]; simp, nb⟩
  have HG0 : Hid (goesPV [PcV.tree t v w.heap.size 0] = t.steps + 1) := H0.out.2.1
  have W1 := hid_ofPV hw1
  have W2 := hid_ofPV hw2
  have W3 := hid_ofPV hw3
  clear hin hw hP nb hb0 hw1 hw2 hw3 hK hs2 H0
  subst ev
  generalize t.text = XT at *
  generalize t.steps + 1 = n0 at *
  go_enter Tryd.func13, Tryd.ntmps13
  go_wp2_with fail
  rw [show w.heap.size + 1 = K from by have := HK.out; omega, ← W1.out, ← W2.out, ← W3.out]
  go_loopg [6] n0 (fun k lv wr => ∃ (bv : Value) (txt : List UInt8) (st : List PcV) (g cap : Nat), goesPV st = k ∧ k ≤ 16777216 ∧ lv = .slice (some ⟨g, 0, none⟩) st.length cap ∧ TLV w1 K XT wr bv txt st g cap)
  case atStart => exact ⟨_, _, _, _, _, HG0.out, hst, rfl, HS.out⟩
  case round =>
    obtain ⟨bv, txt, st, g, gc, hgo, hk, rfl, hL⟩ := hrel
    have HL : Hid (TLV w1 K XT wr bv txt st g gc) := hL
    have HGO : Hid (goesPV st = gk) := hgo
    clear hL hgo HS HG0 W1 W2 W3
    rcases List.eq_nil_or_concat st with hnil | ⟨r, q, hstq⟩
    · subst hnil
      obtain ⟨p, -, hT⟩ := HL.out.tell
      have HX : Hid (txt = XT) := by
        show _ = _
        rw [← HL.out.all]; simp [leftPV, toldAllV]
      have HT : Hid (Tell wr K p bv txt) := hT
      have HB : Hid (Below w.heap.size w wr) := HK.out.2.2.2.trans (HL.out.bel.mono HK.out.2.2.2.size)
      clear hT HL HGO
      go_wp2_with fail
      refine (tell_end wr K _ _ _ HT.out).mono ?_
      rintro e w2 ⟨rfl, hb2⟩
      rw [HX.out]
      have HB2 : Hid (Below w.heap.size w w2) := HB.out.trans (hb2.mono (by have := HK.out; omega))
      clear hb2
      go_wp2_with fail
      go_ret
      exact ⟨rfl, HB2.out⟩
    · rw [List.concat_eq_append] at hstq
      subst hstq
      have hlen : (r ++ [q]).length = r.length + 1 := by simp
      have hgr : goesPV r + q.goes = gk := by have := HGO.out; rw [goesPV_append] at this; simpa [goesPV] using this
      have hrl : r.length ≤ 16777216 := by have := goesPV_len r; omega
      obtain ⟨hr1, hr2, hr3, hr4⟩ := own_room HL.out.own
      have hat := pcrowsV_at (r ++ [q]) r.length q (by simp)
      have l0 : wr.cell? ⟨g, r.length * 2, none⟩ = some (.string q.tx) := (HL.out.own.cellAt _ (by rw [hlen]; omega)).trans hat.1
      have l1 : wr.cell? ⟨g, r.length * 2 + 1, none⟩ = some (.pointer q.adr) := (HL.out.own.cellAt _ (by rw [hlen]; omega)).trans hat.2
      have HO1 : Hid (wr.ownsRow (K + 1) 51 2 (.slice (some ⟨g, 0, none⟩) r.length gc) r.length (pcrowsV r)) := by
        have h9 := HL.out.own
        rw [pcrowsV_append] at h9
        exact own_cut (n := r.length) h9 (pcrowsV_length r) (by rw [hlen]; omega)
      have HALL : Hid (txt ++ q.told ++ leftPV r = XT) := by
        have := HL.out.all
        rw [leftPV_snoc] at this
        show _ = _
        rw [List.append_assoc]; exact this
      have hql : txt.length + q.told.length ≤ 33554432 := by
        have := congrArg List.length HALL.out
        rw [List.length_append, List.length_append] at this
        omega
      have HIN : Hid (PcsInV w1 r ∧ ∀ x, q.tr = some x → x.1.In w1 x.2.1 ∧ HeadV w1 x.2.2.1 x.2.2.2 x.1 x.2.1 ∧ x.1.weight ≤ 1048576) := ⟨HL.out.ins.left, HL.out.ins q (by simp)⟩
      obtain ⟨p, hpp, hT⟩ := HL.out.tell
      have HT : Hid (Tell wr K p bv txt) := hT
      have HBL : Hid (Below w1.heap.size w1 wr) := HL.out.bel
      rw [hlen] at hr1 ⊢
      unfold maxLen at hr2
      clear HL hlen hat hT
      generalize hrn : r.length = rn at *
      have HRN : Hid (r.length = rn) := hrn
      clear hrn
      obtain ⟨qt, qr⟩ := q
      have hqt : qt.data.toList.length ≤ (PcV.mk qt qr).told.length := by simp [PcV.told]
      have hqs : qt.data.toList.length = qt.size := by simp
      simp only at l0
      generalize hadr : (PcV.mk qt qr).adr = ad at *
      have HAD : Hid ((PcV.mk qt qr).adr = ad) := hadr
      clear hadr
      have hsz : txt.length + qt.size ≤ 1099511627776 := by omega
      obtain ⟨N, hN⟩ : ∃ N, N = wr.heap.size := ⟨_, rfl⟩
      obtain ⟨W, hW⟩ : ∃ W, W = wr.alloc (.cells #[.string qt, .pointer ad] 51) := ⟨_, rfl⟩
      have nbW : Below wr.heap.size wr W := by rw [hW]; exact newb wr _
      have hNW : W.heap[N]? = some (.cells #[.string qt, .pointer ad] 51 (0, 0)) := by rw [hW, hN]; exact heap_alloc_new wr _
      have HWF : Hid (Below wr.heap.size wr W ∧ W.heap[N]? = some (.cells #[.string qt, .pointer ad] 51 (0, 0)) ∧ N = wr.heap.size) := ⟨nbW, hNW, hN⟩
      have n0' : W.cell? ⟨N, 0, none⟩ = some (.string qt) := cell_of_row W N 0 _ _ _ hNW
      have WE := hid_ofPV hW
      have NE := hid_ofPV hN
      clear nbW hNW hW hN hqt hqs
      go_upto_region 6 with fail
      rw [← WE.out, ← NE.out]
      go_wp2_with fail
      refine (tell_string W K p bv txt qt (HT.out.below HWF.out.1) hpp hsz).mono ?_
      rintro e w2 ⟨rfl, ⟨bv2, hT2⟩, hb2, hf2⟩
      have HT2 : Hid (Tell w2 K (self K) bv2 (txt ++ qt.data.toList)) := hT2
      have hbn : ∀ j, wr.heap.size ≤ j → bv.ownBlock ≠ some j := fun j hj e => by have := (HT.out.buf.lt j e).2; omega
      have hKl := HT.out.lt
      have hN2 : w2.heap[N]? = some (.cells #[.string qt, .pointer ad] 51 (0, 0)) := (hf2.block N (Array.getElem?_eq_some_iff.1 HWF.out.2.1).1 (by have := HWF.out.2.2; omega) (hbn N (by have := HWF.out.2.2; omega))).trans HWF.out.2.1
      have n1 : w2.cell? ⟨N, 1, none⟩ = some (.pointer ad) := cell_of_row w2 N 1 _ _ _ hN2
      have HO2 : Hid (w2.ownsRow (K + 1) 51 2 (.slice (some ⟨g, 0, none⟩) rn gc) rn (pcrowsV r)) := own_tfrV (own_below5 HO1.out HWF.out.1) hf2 (by omega) (rows_ne HO1.out HT.out.buf (by decide))
      have HB2 : Hid (Below w1.heap.size w1 w2 ∧ wr.heap.size ≤ w2.heap.size) := ⟨(HBL.out.trans (HWF.out.1.mono HBL.out.size)).trans (hb2.mono (by have := HK.out; omega)), Nat.le_trans HWF.out.1.size hf2.size⟩
      clear hT2 hb2 hf2 hN2 hbn l0 l1 n0' HO1
      cases qr with
      | none =>
        have had : ad = none := HAD.out.symm
        subst had
        have HN : Hid (goesPV r < gk ∧ TLV w1 K XT w2 bv2 (txt ++ qt.data.toList) r g gc) := by
          refine ⟨by have : 1 ≤ (PcV.mk qt none).goes := by unfold PcV.goes; omega
                     omega, ⟨⟨self K, .inr rfl, HT2.out⟩, ?_, HIN.out.1, ?_, HB2.out.1⟩⟩
          · have := HALL.out
            simpa [PcV.told] using this
          · rw [HRN.out]; exact HO2.out
        go_wp2_with fail
        go_roundg (goesPV r)
        case measure => exact HN.out.1
        case rel => exact ⟨bv2, _, r, g, gc, rfl, by have := HN.out.1; omega, by rw [HRN.out], HN.out.2⟩
      | some x =>
        obtain ⟨ta, v', b, o⟩ := x
        have had : ad = some ⟨b, o, none⟩ := HAD.out.symm
        subst had
        obtain ⟨hx1, hx2, hx3⟩ := HIN.out.2 _ rfl
        simp only at hx1 hx2 hx3
        obtain ⟨c0, c1, c2⟩ := hx2.below HB2.out.1
        obtain ⟨p', c', e'⟩ := hx1.sl.shape
        subst e'
        have HPP : Hid (Calls Tryd.prog 14 #[.agg #[.int .i64 ta.op, .int .i64 ta.n, .slice p' ta.len c']] w2 (PcsAreV w1 w2 ta)) := HPC.out w2 ta _ HB2.out.1 hx1 hx3
        have hst' : ta.steps ≤ 16777216 := by
          have h1 := ta.steps_count
          have h2 := ta.count_weight
          omega
        clear hx1 hx2
        go_wp2_with fail
        refine HPP.out.mono ?_
        rintro e w3 ⟨g3, cap3, ps, rfl, ho3, hb3, hof⟩
        have hpl : ps.length ≤ 16777216 := by have h1 := goesPV_len ps; have h2 := hof.goes; omega
        have hg3 := own_room ho3
        have HF3 : Hid (w3.ownsRow w2.heap.size 51 2 (.slice (some ⟨g3, 0, none⟩) ps.length cap3) ps.length (pcrowsV ps) ∧ Below w2.heap.size w2 w3 ∧ PcsOfV w1 ta ps) := ⟨ho3, hb3, hof⟩
        clear ho3 hb3 hof c0 c1 c2 n1
        unfold maxLen at hg3
        go_wp2_with fail
        refine (rev_pcsV ps w3 _ g3 cap3 HF3.out.1).mono ?_
        rintro e w4 ⟨rfl, ho4, hg4⟩
        have hg4' : w3.grownBy w4 (Value.slice (some ⟨g3, 0, none⟩) ps.length cap3).ownBlock := hg4
        have hne3 : g ≠ g3 := by have := (own_room HO2.out).2.2.2; omega
        have HO4 : Hid (w4.ownsRow (K + 1) 51 2 (.slice (some ⟨g, 0, none⟩) rn gc) rn (pcrowsV r)) := (own_below5 HO2.out HF3.out.2.1).kept hg4' (.inr (by simp only [Value.ownBlock]; intro e; injection e with e; exact hne3 e))
        have HT4 : Hid (Tell w4 K (self K) bv2 (txt ++ qt.data.toList)) := (HT2.out.below HF3.out.2.1).grown hg4' (by simp only [Value.ownBlock]; intro e; injection e with e; have := HT2.out.lt; omega) (rows_ne (own_below5 HT2.out.buf HF3.out.2.1) HF3.out.1 (by decide))
        have HB4 : Hid (Below w1.heap.size w1 w4 ∧ K < w4.heap.size) := by
          have h1 := HB2.out.1.trans (HF3.out.2.1.mono HB2.out.1.size)
          have h2 := HK.out.1
          have h3 := HT2.out.lt
          exact ⟨h1.trans (grown_belowV hg4' h1.size (fun b e => by simp only [Value.ownBlock, Option.some.injEq] at e; omega)), HT4.out.lt⟩
        have HNW : Hid (∀ j u, (pcrowsV ps.reverse)[j]? = some u → w4.cell? ((⟨g3, 0, none⟩ : Addr).add j) = some u) := fun j u hu => ho4.cells (g := g3) rfl j u hu
        clear hg4 hg4' ho4 hpp
        go_wp2_with (at_builtin; refine wpList_append_own _ rfl _ _ 52 rfl (K + 1) 51 i0 (.agg #[.string ⟨#[]⟩, .pointer none]) 2 24 Tryd.underlying52 hi hz0 hz1 hz2 rfl (by decide) _ _ _ rfl HO4.out ⟨g3, 0, none⟩ ps.length cap3 (pcrowsV ps.reverse) rfl ?c0 HNW.out ?c2 ?c3 ?c4 ?c5 ?_)
        case c0 => rw [pcrowsV_length, List.length_reverse]
        case c2 => exact pcs_oneCellV _
        case c3 => unfold maxLen; omega
        case c4 => omega
        case c5 => exact HB4.out.2
        intro v5 w5 hown5 hgrow5 hnil5
        have HL5 : Hid (∃ g5 cap5, v5 = .slice (some ⟨g5, 0, none⟩) ((rn + ps.length : Nat)) cap5 ∧ TLV w1 K XT w5 bv2 (txt ++ qt.data.toList) (r ++ ps.reverse) g5 cap5) := by
          have hlen5 : (r ++ ps.reverse).length = rn + ps.length := by rw [List.length_append, List.length_reverse, HRN.out]
          have h5 := hown5
          rw [← pcrowsV_append] at h5
          rcases h5.2 with ⟨hv, hz⟩ | ⟨g5, cap5, cur5, hv5, -⟩
          · exact (hnil5 hv).elim
          · refine ⟨g5, cap5, hv5, ⟨⟨self K, .inr rfl, HT4.out.grown hgrow5 ?_ (rows_ne HT4.out.buf HO4.out (by decide))⟩, ?_, HIN.out.1.append HF3.out.2.2.ins.rev, ?_, HB4.out.1.trans (grown_belowV hgrow5 HB4.out.1.size (fun b e => ?_))⟩⟩
            · simp only [Value.ownBlock]; intro e; injection e with e; have := (own_room HO4.out).2.2.1; omega
            · rw [leftPV_pushed, HF3.out.2.2.told]
              have := HALL.out
              simpa [PcV.told] using this
            · rw [hlen5, ← hv5]; exact h5
            · simp only [Value.ownBlock, Option.some.injEq] at e
              have h1 := (own_room HO4.out).2.2.1
              have h2 := HK.out.1
              omega
        have HM : Hid (goesPV (r ++ ps.reverse) < gk) := by
          show _ < _
          rw [goesPV_append, goesPV_reverse]
          have h1 := HF3.out.2.2.goes
          have h2 : (PcV.mk qt (some (ta, Value.slice p' ta.len c', b, o))).goes = 1 + ta.steps := rfl
          omega
        clear hown5 hgrow5 hnil5
        obtain ⟨g5, cap5, hv5, hTL5⟩ := HL5.out
        have HTL : Hid (TLV w1 K XT w5 bv2 (txt ++ qt.data.toList) (r ++ ps.reverse) g5 cap5) := hTL5
        clear hTL5 HL5
        subst hv5
        go_wp2_with fail
        go_roundg (goesPV (r ++ ps.reverse))
        case measure => exact HM.out
        case rel => exact ⟨bv2, _, r ++ ps.reverse, g5, cap5, rfl, by have := HM.out; omega, by rw [List.length_append, List.length_reverse, HRN.out], HTL.out⟩
end Go.Proofs.YtbofjjjjjcolgaaDoor
