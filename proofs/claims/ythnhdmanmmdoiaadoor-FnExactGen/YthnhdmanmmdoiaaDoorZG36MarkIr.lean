/- impl.Gen at every list of blocks: for each block its function, in memory of its own, where the blocks and the functions are right. Conditions: at most 2^20 in all; the tables read as their texts lay them. -/
import Derived.Test.YthnhdmanmmdoiaaDoorZG30HFun14
import Derived.Test.YthnhdmanmmdoiaaDoorZG31MarkFun
import Derived.Test.YthnhdmanmmdoiaaDoorZG34ImplBlk4
import Derived.Test.YthnhdmanmmdoiaaDoorZG35ImplFunsOk2
import Derived.Test.YthnhdmanmmdoiaaDoorZG6ToBlk
import Derived.WalkKit
import Derived.ProofKit
namespace Go.Proofs.YthnhdmanmmdoiaaDoor
open Go.ChangeShapes Go.WideShapes Go.ChangeAt Go.RowKit

theorem ferows_append (a b : List Fe) : ferows (a ++ b) = ferows a ++ ferows b := by simp [ferows]
theorem own_baseT14 {w : World} {base base' e size n : Nat} {v : Value} {xs : List Value} (h : w.ownsRow base e size v n xs) (hb : base' ≤ base) : w.ownsRow base' e size v n xs := by
  refine ⟨h.1, ?_⟩
  rcases h.2 with hn | ⟨g, cap, cur, rfl, hbg, rest⟩
  · exact .inl hn
  · exact .inr ⟨g, cap, cur, rfl, Nat.le_trans hb hbg, rest⟩
/-- One function more, whose ops lie in a block that is new. -/
theorem FOwn.pushed {B : Nat} {w1 w2 w3 w5 : World} {vo vo' u : Value} {le : List Fe} {fr : Int} {ol : List O3} (h : FOwn B w1 vo le) (hB : B ≤ w1.heap.size) (hb2 : Below w1.heap.size w1 w2) (hu : w2.ownsRow w1.heap.size 68 3 u ol.length (orows ol)) (hb3 : Below w2.heap.size w2 w3)
    (hrow : w5.ownsRow B 54 2 vo' (le.length + 1) (ferows le ++ [.int .i64 fr, u])) (hg : w3.grownBy w5 vo.ownBlock) (hat : vo'.ownBlock = vo.ownBlock ∨ vo'.ownBlock = some w3.heap.size) : FOwn B w5 vo' (le ++ [⟨fr, ol, u⟩]) := by
  have hs2 := hb2.size
  have hs3 := hb3.size
  have hvo : ∀ g, vo.ownBlock = some g → g < w1.heap.size := fun g e => (own_between h.row e).2
  have hub : ∀ g, u.ownBlock = some g → w1.heap.size ≤ g ∧ g < w2.heap.size := fun g e => own_between hu e
  have hle : ∀ (i : Nat) (e : Fe), le[i]? = some e → ∀ g, e.u.ownBlock = some g → B ≤ g ∧ g < w1.heap.size := fun i e hi g hg => own_between (h.el i e hi) hg
  have key : ∀ (i : Nat) (e : Fe), (le ++ [⟨fr, ol, u⟩])[i]? = some e → (i < le.length ∧ le[i]? = some e) ∨ (i = le.length ∧ e = ⟨fr, ol, u⟩) := fun i e hi => by
    rcases Nat.lt_trichotomy i le.length with h1 | h1 | h1
    · rw [List.getElem?_append_left h1] at hi; exact .inl ⟨h1, hi⟩
    · subst h1; simp at hi; exact .inr ⟨rfl, hi.symm⟩
    · rw [List.getElem?_eq_none (by simp; omega)] at hi; cases hi
  have hvo' : ∀ g, vo'.ownBlock = some g → vo.ownBlock = some g ∨ w3.heap.size ≤ g := fun g e => by
    rcases hat with h1 | h1
    · exact .inl (h1 ▸ e)
    · rw [h1] at e; injection e with e; exact .inr (by omega)
  refine ⟨?_, fun i e hi => ?_, fun i j ei ej hi hj hij g hg1 hg2 => ?_, fun i e hi g hg1 hg2 => ?_⟩
  · have e1 : (le ++ [(⟨fr, ol, u⟩ : Fe)]).length = le.length + 1 := by simp
    have e2 : ferows (le ++ [⟨fr, ol, u⟩]) = ferows le ++ [.int .i64 fr, u] := by simp [ferows, fecells]
    rw [e1, e2]; exact hrow
  · rcases key i e hi with ⟨_, h1⟩ | ⟨_, rfl⟩
    · refine own_keep (h.el i e h1) (fun g hg1 => ?_)
      have h2 := (hle i e h1 g hg1).2
      rw [hg.block g (by omega) (fun e2 => h.ne i e h1 g hg1 e2.symm), hb3.block g (by omega), hb2.block g (by omega)]
    · refine own_baseT14 (own_keep hu (fun g hg1 => ?_)) hB
      have h2 := hub g hg1
      rw [hg.block g (by omega) (fun e2 => by have := hvo g e2.symm; omega), hb3.block g (by omega)]
  · rcases key i ei hi with ⟨h0, h1⟩ | ⟨h0, rfl⟩ <;> rcases key j ej hj with ⟨k0, k1⟩ | ⟨k0, rfl⟩
    · exact h.apart i j ei ej h1 k1 hij g hg1 hg2
    · have := (hle i ei h1 g hg1).2; have := (hub g hg2).1; omega
    · have := (hle j ej k1 g hg2).2; have := (hub g hg1).1; omega
    · omega
  · rcases key i e hi with ⟨h0, h1⟩ | ⟨h0, rfl⟩
    · rcases hvo' g hg2 with h2 | h2
      · exact h.ne i e h1 g hg1 h2
      · have := (hle i e h1 g hg1).2; omega
    · have h3 := hub g hg1
      rcases hvo' g hg2 with h2 | h2
      · have := hvo g h2; omega
      · omega
/-- The functions are those of the blocks. -/
def FEs (kb : Nat → Kb) (le : List Fe) : Prop := ∀ i e, le[i]? = some e → e.fr = (kb i).fr ∧ e.ol = opsG (kb i)
theorem FEs.snoc {kb : Nat → Kb} {le : List Fe} (h : FEs kb le) (u : Value) : FEs kb (le ++ [⟨(kb le.length).fr, opsG (kb le.length), u⟩]) := fun i e hi => by
  rcases Nat.lt_trichotomy i le.length with h1 | h1 | h1
  · rw [List.getElem?_append_left h1] at hi; exact h i e hi
  · subst h1; simp at hi; subst hi; exact ⟨rfl, rfl⟩
  · rw [List.getElem?_eq_none (by simp; omega)] at hi; cases hi
/-- What is owned lies in memory. -/
theorem FOwn.fl {B : Nat} {w : World} {vo : Value} {le : List Fe} (h : FOwn B w vo le) {kb : Nat → Kb} (he : FEs kb le) (hn : ∀ i, i < le.length → I64 (kb i).fr ∧ ∀ q ∈ opsG (kb i), q.Ok) : FlB B w le.length (fun i => genF (kb i)) vo := by
  rcases h.row.2 with ⟨e, h0⟩ | ⟨g, cap, cur, e, hbg, hh, hc, hm, _⟩
  · rw [h0]; exact .inl ⟨rfl, none, 0, e⟩
  · refine .inr ⟨g, 0, cap, fun i => ((le[i]?).map Fe.u).getD (.bool false), e, hbg, hc, hm, fun i hi => ?_⟩
    have hq : le[i]? = some le[i] := List.getElem?_eq_getElem hi
    obtain ⟨a1, a2⟩ := he i _ hq
    have hr := h.row
    rw [e] at hr
    have cell : ∀ j, j < 2 → w.cell? ⟨g, 0 + i * 2 + j, none⟩ = (fecells le[i])[j]? := by
      intro j hj
      rw [Nat.zero_add, hr.cellAt (i * 2 + j) (by omega)]
      exact ferows_at le i _ hq j hj
    have c0 := cell 0 (by omega)
    have c1 := cell 1 (by omega)
    rw [Nat.add_zero] at c0
    simp only [fecells, List.getElem?_cons_zero, List.getElem?_cons_succ] at c0 c1
    simp only [hq, Option.map_some, Option.getD_some]
    have hel := h.el i _ hq
    refine ⟨⟨by rw [c0, a1]; rfl, c1⟩, (hn i hi).1, ?_⟩
    rw [a2] at hel
    exact OlB.of_own hel rfl (Nat.le_refl _) (fun j q hj => by show q = (opsG (kb i)).getD j default; rw [List.getD_eq_getElem?_getD, hj]; rfl) (fun j hj => by
      have hj' : j < (opsG (kb i)).length := hj
      refine (hn i hi).2 _ ?_
      show (opsG (kb i)).getD j default ∈ _
      rw [List.getD_eq_getElem?_getD, List.getElem?_eq_getElem hj']
      exact List.getElem_mem hj')

theorem hid_of14 {P : Prop} (h : P) : Hid P := h
/-- What Gen answers. -/
def HGenPost (nb : Nat) (kb : Nat → Kb) (w : World) (e : Ending) (w' : World) : Prop := ∃ u ok, e = .returned (.tuple #[u, .bool ok]) ∧ Below w.heap.size w w' ∧
  ((ok = true ∧ (blksB nb kb = true ∧ FunsP nb (fun i => genF (kb i))) ∧ ∃ le, le.length = nb ∧ FEs kb le ∧ FOwn w.heap.size w' u le) ∨ (ok = false ∧ ¬ (blksB nb kb = true ∧ FunsP nb (fun i => genF (kb i))) ∧ u = .slice none 0 0))

theorem fun_infoH : (Tryd.prog.info? 54).map (fun i => (i.zero, i.size, i.bytes)) = some (some (.agg #[.int .i64 0, .slice none 0 0]), 2, 32) := by kernel_rfl

set_option maxRecDepth 100000 in
set_option maxHeartbeats 8000000 in
theorem impl_gen14 (nb : Nat) (kb : Nat → Kb) (w : World) (v : Value) (hv : Kl w nb kb v) (hk : KidTab w) (hc : CodeTab w) (ht : NameTab w) (hw : kidsWeightK nb kb ≤ 1048576) : Calls Tryd.prog 7 #[v] w (HGenPost nb kb w) := by
  have HBO : Hid (Calls Tryd.prog 19 #[v] w fun e w' => e = .returned (.bool (blksB nb kb)) ∧ Below w.heap.size w w') := impl_blks_ok nb kb w v hv hk hw
  obtain ⟨p, cap, ev, hlen, hat⟩ := hv.at
  subst ev
  unfold maxLen at hlen
  cases hb : blksB nb kb with
  | false =>
    have HNO : Hid (¬ (blksB nb kb = true ∧ FunsP nb (fun i => genF (kb i)))) := fun h => by rw [hb] at h; cases h.1
    rw [hb] at HBO
    clear hb hv hk hc ht hw hat
    go_enter Tryd.func7, Tryd.ntmps7
    go_wp2_with fail
    refine HBO.out.mono ?_
    rintro e w1 ⟨rfl, hb1⟩
    have HB1 : Hid (Below w.heap.size w w1) := hb1
    clear hb1
    go_wp2_with fail
    go_ret2
    exact ⟨_, _, rfl, HB1.out, .inr ⟨rfl, HNO.out, rfl⟩⟩
  | true =>
    have HBK : Hid (blksB nb kb = true) := hb
    rw [hb] at HBO
    have HCA : Hid (∀ i, i < nb → ∃ b o u, p = some ⟨b, o, none⟩ ∧ HeadK w b (o + i * 4) (kb i) u ∧ (kb i).In w u) := hat
    have HRT : Hid (∀ i, i < nb → rightI nb kb i (kb i).bd 1 = true ∧ (kb i).bd.count ≤ 4000) := (blk_right hb).2
    have hn60 : nb ≤ 60 := (blk_right hb).1.2
    have HOK : Hid (∀ i, i < nb → I64 (kb i).fr ∧ ∀ q ∈ opsG (kb i), q.Ok) := fun i hi => by
      obtain ⟨b, o, u, _, _, hin⟩ := hat i hi
      exact ⟨hin.1, opsG_ok hb hi (AllN.of_in _ hin.2)⟩
    have HTB : Hid (CodeTab w ∧ NameTab w) := ⟨hc, ht⟩
    obtain ⟨i0, hi0, hz0, hz1, hz2⟩ := info_parts fun_infoH
    clear hb hv hk hc ht hw hat
    go_enter Tryd.func7, Tryd.ntmps7
    go_wp2_with fail
    refine HBO.out.mono ?_
    rintro e w0 ⟨rfl, hb0⟩
    have HB0 : Hid (Below w.heap.size w w0) := hb0
    clear hb0
    go_wp2_with fail
    go_loopw [4, 12] (fun f i wr => ∃ (k : Nat) (le : List Fe), i = .int .i64 k ∧ k ≤ nb ∧ le.length = k ∧ FEs kb le ∧ FOwn w.heap.size wr f le ∧ Below w.heap.size w wr) (fun _ i _ => nb - (intOf i).toNat)
    case atStart => exact ⟨0, [], rfl, Nat.zero_le _, rfl, (fun i e h => by simp at h), ⟨⟨rfl, .inl ⟨rfl, rfl⟩⟩, (fun i e h => by simp at h), (fun i j ei ej h => by simp at h), (fun i e h => by simp at h)⟩, HB0.out⟩
    case round =>
      obtain ⟨k, le, rfl, hk, hle, hfe, hfo, hbw⟩ := hrel
      have HLE : Hid (le.length = k ∧ FEs kb le) := ⟨hle, hfe⟩
      have HFO : Hid (FOwn w.heap.size wr u4 le) := hfo
      have HBW : Hid (Below w.heap.size w wr) := hbw
      obtain ⟨po, co, eo⟩ := own_shape3 hfo.row
      rw [hle] at eo
      clear hle hfe hfo hbw
      subst eo
      by_cases hlt : (k : Int) < nb
      · have hlt' : k < nb := by omega
        obtain ⟨b, o, u, ep, hd, hin⟩ := HCA.out k hlt'
        subst ep
        obtain ⟨pu, cu, eu⟩ := hin.sl.shape
        subst eu
        obtain ⟨d0, d1, d2, d3⟩ := hd.below HBW.out
        obtain ⟨V, hV⟩ : ∃ V, V = wr.alloc (.cells #[.int .i64 (kb k).fr, .int .i64 (kb k).bd.op, .int .i64 (kb k).bd.n, .slice pu (kb k).bd.len cu] 50) := ⟨_, rfl⟩
        have bV : Below wr.heap.size wr V := by rw [hV]; exact newb wr _
        have hv : V.heap[wr.heap.size]? = some (.cells #[.int .i64 (kb k).fr, .int .i64 (kb k).bd.op, .int .i64 (kb k).bd.n, .slice pu (kb k).bd.len cu] 50 (0, 0)) := by rw [hV]; exact heap_alloc_new wr _
        have v0 : V.cell? ⟨wr.heap.size, 0, none⟩ = some (.int .i64 (kb k).fr) := cell_of_row V _ 0 _ _ _ hv
        have v1 : V.cell? ⟨wr.heap.size, 1, none⟩ = some (.int .i64 (kb k).bd.op) := cell_of_row V _ 1 _ _ _ hv
        have v2 : V.cell? ⟨wr.heap.size, 2, none⟩ = some (.int .i64 (kb k).bd.n) := cell_of_row V _ 2 _ _ _ hv
        have v3 : V.cell? ⟨wr.heap.size, 3, none⟩ = some (.slice pu (kb k).bd.len cu) := cell_of_row V _ 3 _ _ _ hv
        have HVV : Hid (V = wr.alloc (.cells #[.int .i64 (kb k).fr, .int .i64 (kb k).bd.op, .int .i64 (kb k).bd.n, .slice pu (kb k).bd.len cu] 50)) := hV
        have HBV : Hid (Below wr.heap.size wr V) := bV
        have hwV := HBW.out.trans (bV.mono HBW.out.size)
        have HGF : Hid (Calls Tryd.prog 20 #[.agg #[.int .i64 (kb k).fr, .int .i64 (kb k).bd.op, .int .i64 (kb k).bd.n, .slice pu (kb k).bd.len cu]] V (FunPost (kb k) V)) :=
          impl_gen_fun (kb k) nb kb k V _ (hin.below hwV) (HTB.out.1.below hwV) (HRT.out k hlt').1 (HRT.out k hlt').2
        clear hd hin hV bV hv hwV
        go_upto_region 7 with fail
        rw [← HVV.out]
        go_wp2_with fail
        refine HGF.out.mono ?_
        rintro e w2 ⟨u2, rfl, hb2, hu2⟩
        obtain ⟨p2, c2, eu2⟩ := own_shape3 hu2
        subst eu2
        have nb2 := newb w2 (.cells #[.int .i64 (kb k).fr, .slice p2 (opsG (kb k)).length c2] 54)
        have hn2 := heap_alloc_new w2 (.cells #[.int .i64 (kb k).fr, .slice p2 (opsG (kb k)).length c2] 54)
        obtain ⟨W2, hW2⟩ : ∃ W2, W2 = w2.alloc (.cells #[.int .i64 (kb k).fr, .slice p2 (opsG (kb k)).length c2] 54) := ⟨_, rfl⟩
        rw [← hW2] at nb2 hn2
        have HW2 : Hid (W2 = w2.alloc (.cells #[.int .i64 (kb k).fr, .slice p2 (opsG (kb k)).length c2] 54)) := hW2
        have hbR := HBV.out.trans (hb2.mono HBV.out.size)
        have hsz2 := hbR.size
        have HROW : Hid (W2.ownsRow w.heap.size 54 2 (.slice po k co) k (ferows le)) := by
          have h1 := HFO.out.row
          rw [HLE.out.1] at h1
          exact own_below5 (own_below5 h1 hbR) nb2
        have HNEW : Hid (∀ j u, [Value.int .i64 (kb k).fr, .slice p2 (opsG (kb k)).length c2][j]? = some u → W2.cell? ((⟨w2.heap.size, 0, none⟩ : Addr).add j) = some u) := fun j u hj => by
          have hjl : j < 2 := by simpa using (List.getElem?_eq_some_iff.1 hj).1
          have e : (⟨w2.heap.size, 0, none⟩ : Addr).add j = ⟨w2.heap.size, j, none⟩ := by cases j <;> simp [Addr.add]
          rw [e, cell_of_row W2 w2.heap.size j _ _ _ hn2]
          match j, hjl with
          | 0, _ => exact hj
          | 1, _ => exact hj
        have HBN : Hid (w.heap.size ≤ W2.heap.size) := by
          have a1 := HBW.out.size
          have a2 := nb2.size
          show _ ≤ _; omega
        have HOUT : Hid (∀ v' w', w'.ownsRow w.heap.size 54 2 v' (k + 1) (ferows le ++ [.int .i64 (kb k).fr, .slice p2 (opsG (kb k)).length c2]) → W2.grownBy w' (Value.slice po k co).ownBlock → (v'.ownBlock = (Value.slice po k co).ownBlock ∨ v'.ownBlock = some W2.heap.size) →
            ∃ le', le'.length = k + 1 ∧ FEs kb le' ∧ FOwn w.heap.size w' v' le' ∧ Below w.heap.size w w') := fun v' w' h1 h2 h3 => by
          have hl := HLE.out.1
          have hf := HLE.out.2.snoc (.slice p2 (opsG (kb k)).length c2)
          rw [hl] at hf
          have h1' := h1
          rw [← hl] at h1'
          refine ⟨_, by rw [List.length_append, hl]; rfl, hf, HFO.out.pushed (w1 := wr) (w2 := w2) (w3 := W2) HBW.out.size hbR (own_baseT14 hu2 HBV.out.size) nb2 (by rw [hl]; exact h1) h2 h3, ?_⟩
          exact grown_below (HBW.out.trans ((hbR.trans (nb2.mono hsz2)).mono HBW.out.size)) h2 (fun g e => own_base HROW.out g e)
        clear nb2 hn2 hW2 hbR hsz2 hb2 hu2 v0 v1 v2 v3 d0 d1 d2 d3 HGF
        have hbw2 : Hid (∀ v' w', W2.grownBy w' v' → w2.heap.size ≤ w'.heap.size) := fun v' w' h => by
          have h1 := h.size
          have : W2.heap.size = w2.heap.size + 1 := by rw [HW2.out]; simp
          omega
        go_wp2_with (at_builtin; rw [← HW2.out]; refine wpList_append_1 _ rfl (.tmp 16) (.tmp 19) 24 rfl w.heap.size 54 i0 _ 2 32 Tryd.underlying24 hi0 hz0 hz1 hz2 rfl (by omega) (.slice po k co) k (ferows le) rfl HROW.out ⟨w2.heap.size, 0, none⟩ 1 1 [.int .i64 (kb k).fr, .slice p2 (opsG (kb k)).length c2] rfl rfl HNEW.out (by intro y hy; simp only [List.mem_cons, List.not_mem_nil, or_false] at hy; rcases hy with rfl | rfl <;> rfl) (by unfold maxLen; omega) (by omega) HBN.out (by omega) ?_; intro v' w' hown2 hg2 hat2; (have HEN := hid_of14 (HOUT.out v' w' hown2.out hg2.out hat2.out)); (obtain ⟨pv, cv, epv⟩ := own_shape3 hown2.out); subst epv)
        go_roundw
        case rel =>
          obtain ⟨le', a1, a2, a3, a4⟩ := HEN.out
          exact ⟨k + 1, le', by go_num, by omega, a1, a2, a3, a4⟩
        case measure => simp [intOf]; omega
      · have hke : k = nb := by omega
        subst hke
        have HFL : Hid (Fl wr k (fun i => genF (kb i)) (.slice po k co)) := by
          have h := (HFO.out.fl HLE.out.2 (fun i hi => HOK.out i (by rw [HLE.out.1] at hi; exact hi))).all
          rw [HLE.out.1] at h
          exact h
        by_cases hfp : FunsP k (fun i => genF (kb i))
        · have HFK : Hid (Calls Tryd.prog 21 #[.slice po k co] wr fun e w' => e = .returned (.bool true) ∧ Below wr.heap.size wr w') := impl_funs_ok k _ wr _ HFL.out (HTB.out.2.below HBW.out) true ⟨fun _ => hfp, fun _ => rfl⟩
          have HYE : Hid (blksB k kb = true ∧ FunsP k (fun i => genF (kb i))) := ⟨HBK.out, hfp⟩
          clear hfp
          go_wp2_with fail
          refine HFK.out.mono ?_
          rintro e w2 ⟨rfl, hb2⟩
          have HB2 : Hid (Below wr.heap.size wr w2) := hb2
          clear hb2
          go_wp2_with fail
          go_ret2
          refine ⟨_, _, rfl, HBW.out.trans (HB2.out.mono HBW.out.size), .inl ⟨rfl, HYE.out, le, HLE.out.1, HLE.out.2, ?_⟩⟩
          exact ⟨own_below5 HFO.out.row HB2.out, fun i e hi => own_below5 (HFO.out.el i e hi) HB2.out, HFO.out.apart, HFO.out.ne⟩
        · have HFK : Hid (Calls Tryd.prog 21 #[.slice po k co] wr fun e w' => e = .returned (.bool false) ∧ Below wr.heap.size wr w') := impl_funs_ok k _ wr _ HFL.out (HTB.out.2.below HBW.out) false ⟨fun h => (by cases h), fun h => absurd h hfp⟩
          have HNO : Hid (¬ (blksB k kb = true ∧ FunsP k (fun i => genF (kb i)))) := fun h => hfp h.2
          clear hfp
          go_wp2_with fail
          refine HFK.out.mono ?_
          rintro e w2 ⟨rfl, hb2⟩
          have HB2 : Hid (Below wr.heap.size wr w2) := hb2
          clear hb2
          go_wp2_with fail
          go_ret2
          exact ⟨_, _, rfl, HBW.out.trans (HB2.out.mono HBW.out.size), .inr ⟨rfl, HNO.out, rfl⟩⟩
end Go.Proofs.YthnhdmanmmdoiaaDoor

/- laws.markIrS, laws.markBlockS: only ints of what is marked turn. Conditions: at most 2^40 marks. -/
namespace Go.Proofs.YthnhdmanmmdoiaaDoor
open Go.ChangeShapes Go.WideShapes Go.ChangeAt Go.RowKit

theorem hid_ofM {p : Prop} (h : p) : Hid p := h
def MarkIAt (t : It) : Prop := ∀ (B C : Nat) (w : World) (v : Value) (k : Nat), MIr B C w t v → k + 2 * sumTo (fun i => (t.kid i).count) t.len ≤ 1099511627776 →
  Calls Tryd.prog 24 #[v, .int .i64 k] w fun e w' => e = .returned (.int .i64 (k + 2 * sumTo (fun i => (t.kid i).count) t.len : Nat)) ∧ MK B C w w'

set_option maxRecDepth 100000 in
set_option maxHeartbeats 4000000 in
theorem mark_irs (t : It) : MarkIAt t := by
  induction t with
  | no => intro B C w v k h; exact h.elim
  | mk op n len kid ih =>
    intro B C w v k hm hk
    have hk' : k + 2 * sumTo (fun i => (kid i).count) len ≤ 1099511627776 := hk
    have HM : Hid (MSl B C w len kid v) := hm.sl
    have hlm : len ≤ 9223372036854775807 := by
      rcases HM.out with ⟨h, _⟩ | ⟨b, o, cap, V, _, _, h, _⟩
      · omega
      · exact h
    obtain ⟨p, cap, ev⟩ := hm.shape
    have ev' : v = .slice p len cap := ev
    have IH : Hid (∀ i, MarkIAt (kid i)) := ih
    have HB : Hid (∀ j, j ≤ len → k + 2 * sumTo (fun i => (kid i).count) j ≤ 1099511627776) := fun j hj => by
      have : ∀ m, j ≤ m → sumTo (fun i => (kid i).count) j ≤ sumTo (fun i => (kid i).count) m := by
        intro m hm
        induction m with
        | zero => obtain rfl : j = 0 := by omega
                  exact Nat.le_refl _
        | succ m ihm =>
          rcases Nat.lt_or_ge j (m + 1) with h1 | h1
          · have := ihm (by omega); simp only [sumTo]; omega
          · obtain rfl : j = m + 1 := by omega
            exact Nat.le_refl _
      have := this len hj
      show _ ≤ _; omega
    clear hm ev ih hk hk'
    subst ev'
    simp only [It.kid, It.len]
    obtain ⟨FIN, hFIN⟩ : ∃ FIN : Nat, FIN = k + 2 * sumTo (fun i => (kid i).count) len := ⟨_, rfl⟩
    rw [← hFIN]
    have HFIN : Hid (FIN = k + 2 * sumTo (fun i => (kid i).count) len) := hFIN
    clear hFIN
    go_enter Tryd.func24, Tryd.ntmps24
    go_wp2_with fail
    go_loopw [1, 5] (fun x i wr => ∃ j c : Nat, i = .int .i64 j ∧ x = .int .i64 c ∧ j ≤ len ∧ c = k + 2 * sumTo (fun i => (kid i).count) j ∧ MK B C w wr) (fun _ i _ => len - (intOf i).toNat)
    case atStart => exact ⟨0, k, rfl, rfl, Nat.zero_le _, by simp [sumTo], MK.refl _ _ _⟩
    case round =>
      obtain ⟨j, c, rfl, rfl, hj, hc, hmk⟩ := hrel
      have HMK : Hid (MK B C w wr) := hmk
      have HCC : Hid (c = k + 2 * sumTo (fun i => (kid i).count) j) := hc
      clear hc hmk
      have hcb : c ≤ 1099511627776 := by have h1 := HB.out j hj; have h2 := HCC.out; omega
      by_cases hlt : (j : Int) < len
      · have hlt' : j < len := by omega
        rcases HM.out.keep HMK.out with ⟨h0, _⟩ | ⟨b, o, cap', V, he, hbc, _, hfz, hat⟩
        · omega
        injection he with he1 _ he2
        subst he1 he2
        obtain ⟨⟨⟨a0, c0⟩, ⟨a1, c1⟩, c2⟩, hmi⟩ := hat j hlt'
        obtain ⟨pu, cu, eu⟩ := hmi.shape
        rw [eu] at hmi c2
        have k1 := MK.store hbc.1 hbc.2 c0 (c : Int)
        obtain ⟨a1', c1'⟩ := k1.int _ _ ⟨a1, c1⟩
        have k2 := k1.trans (MK.store hbc.1 hbc.2 c1' ((c : Int) + 1))
        have hm2 := hmi.keep k2
        have HK2 : Hid (MK B C wr (((wr.setCell ⟨b, o + j * 3, none⟩ (.int .i64 (c : Int))).setCell ⟨b, o + j * 3 + 1, none⟩ (.int .i64 ((c : Int) + 1))))) := k2
        have hb2 := HB.out (j + 1) (by omega)
        have HS : Hid (sumTo (fun i => (kid i).count) (j + 1) = sumTo (fun i => (kid i).count) j + (kid j).count) := rfl
        rw [HS.out] at hb2
        have hce := (kid j).count_eq
        have HCE : Hid ((kid j).count = 1 + sumTo (fun i => ((kid j).kid i).count) (kid j).len) := hce
        have HCL : Hid (Calls Tryd.prog 24 #[.slice pu (kid j).len cu, .int .i64 ((c : Int) + 1 + 1)] ((wr.setCell ⟨b, o + j * 3, none⟩ (.int .i64 (c : Int))).setCell ⟨b, o + j * 3 + 1, none⟩ (.int .i64 ((c : Int) + 1))) (fun e w' => e = .returned (.int .i64 (c + 2 * (kid j).count : Nat)) ∧ MK B C w w')) := by
          have := IH.out j B C _ _ (c + 2) hm2 (by have h2 := HCC.out; have h3 := HCE.out; omega)
          rw [show ((c + 2 : Nat) : Int) = (c : Int) + 1 + 1 by omega] at this
          refine this.mono fun e w' ⟨h1, h2⟩ => ⟨?_, HMK.out.trans (HK2.out.trans h2)⟩
          rw [h1]
          congr 2
          have := HCE.out
          omega
        clear k1 k2 c1' hm2 hmi hat hce
        generalize (kid j).count = K at *
        generalize (kid j).len = L at *
        have hKb : c + 2 * K ≤ 1099511627776 := by have h2 := HCC.out; omega
        go_wp2_with fail
        refine HCL.out.mono ?_
        rintro e w3 ⟨rfl, hk3⟩
        have HK3 : Hid (MK B C w w3) := hk3
        clear hk3
        go_wp2_with fail
        go_roundw
        case rel => exact ⟨j + 1, c + 2 * K, by go_num, rfl, by omega, by rw [HS.out, HCC.out]; omega, HK3.out⟩
        case measure => simp [intOf]; omega
      · have hje : j = len := by omega
        have hcf : c = FIN := by rw [HCC.out, HFIN.out, hje]
        clear HCC HFIN
        subst hcf
        go_wp2_with fail
        go_ret
        exact ⟨rfl, HMK.out⟩

/-- How many marks blocks take. -/
def cntB14 (kid : Nat → Kb) (k : Nat) : Nat := sumTo (fun i => 1 + 2 * (kid i).bd.count) k

set_option maxRecDepth 100000 in
set_option maxHeartbeats 4000000 in
theorem mark_blks (B C : Nat) (w : World) (len : Nat) (kid : Nat → Kb) (v : Value) (k : Nat) (hm : MBl B C w len kid v) (hk : ∀ j, j ≤ len → k + cntB14 kid j ≤ 1099511627776) :
    Calls Tryd.prog 10 #[v, .int .i64 k] w fun e w' => e = .returned (.int .i64 (k + cntB14 kid len : Nat)) ∧ MK B C w w' := by
  have HM : Hid (MBl B C w len kid v) := hm
  have hlm : len ≤ 9223372036854775807 := by
    rcases HM.out with ⟨h, _⟩ | ⟨b, o, cap, V, _, _, h, _⟩
    · omega
    · exact h
  obtain ⟨p, cap, ev⟩ := hm.shape
  have HB : Hid (∀ j, j ≤ len → k + cntB14 kid j ≤ 1099511627776) := hk
  clear hm hk
  subst ev
  obtain ⟨FIN, hFIN⟩ : ∃ FIN : Nat, FIN = k + cntB14 kid len := ⟨_, rfl⟩
  rw [← hFIN]
  have HFIN : Hid (FIN = k + cntB14 kid len) := hFIN
  clear hFIN
  go_enter Tryd.func10, Tryd.ntmps10
  go_wp2_with fail
  go_loopw [1, 5] (fun x i wr => ∃ j c : Nat, i = .int .i64 j ∧ x = .int .i64 c ∧ j ≤ len ∧ c = k + cntB14 kid j ∧ MK B C w wr) (fun _ i _ => len - (intOf i).toNat)
  case atStart => exact ⟨0, k, rfl, rfl, Nat.zero_le _, by simp [cntB14, sumTo], MK.refl _ _ _⟩
  case round =>
    obtain ⟨j, c, rfl, rfl, hj, hc, hmk⟩ := hrel
    have HMK : Hid (MK B C w wr) := hmk
    have HCC : Hid (c = k + cntB14 kid j) := hc
    clear hc hmk
    have hcb : c ≤ 1099511627776 := by have h1 := HB.out j hj; have h2 := HCC.out; omega
    by_cases hlt : (j : Int) < len
    · have hlt' : j < len := by omega
      rcases HM.out.keep HMK.out with ⟨h0, _⟩ | ⟨b, o, cap', V, he, hbc, _, hfz, hat⟩
      · omega
      injection he with he1 _ he2
      subst he1 he2
      obtain ⟨⟨⟨a0, c0⟩, ⟨a1, c1⟩, ⟨a2, c2⟩, c3⟩, hmi⟩ := hat j hlt'
      obtain ⟨pu, cu, eu⟩ := hmi.shape
      rw [eu] at hmi c3
      have k1 := MK.store hbc.1 hbc.2 c0 (c : Int)
      obtain ⟨a1', c1'⟩ := k1.int _ _ ⟨a1, c1⟩
      have k2 := k1.trans (MK.store hbc.1 hbc.2 c1' ((c : Int) + 1))
      obtain ⟨a2', c2'⟩ := k2.int _ _ ⟨a2, c2⟩
      have k3 := k2.trans (MK.store hbc.1 hbc.2 c2' ((c : Int) + 1 + 1))
      have hm2 := hmi.keep k3
      have HK2 := hid_ofM k3
      have hb2 := HB.out (j + 1) (by omega)
      have HS : Hid (cntB14 kid (j + 1) = cntB14 kid j + (1 + 2 * (kid j).bd.count)) := rfl
      rw [HS.out] at hb2
      have hce := (kid j).bd.count_eq
      have HCE : Hid ((kid j).bd.count = 1 + sumTo (fun i => ((kid j).bd.kid i).count) (kid j).bd.len) := hce
      have HCL : Hid (Calls Tryd.prog 24 #[.slice pu (kid j).bd.len cu, .int .i64 ((c : Int) + 1 + 1 + 1)] (((wr.setCell ⟨b, o + j * 4, none⟩ (.int .i64 (c : Int))).setCell ⟨b, o + j * 4 + 1, none⟩ (.int .i64 ((c : Int) + 1))).setCell ⟨b, o + j * 4 + 2, none⟩ (.int .i64 ((c : Int) + 1 + 1))) (fun e w' => e = .returned (.int .i64 (c + 1 + 2 * (kid j).bd.count : Nat)) ∧ MK B C w w')) := by
        have := mark_irs (kid j).bd B C _ _ (c + 3) hm2 (by have h2 := HCC.out; have h3 := HCE.out; omega)
        rw [show ((c + 3 : Nat) : Int) = (c : Int) + 1 + 1 + 1 by omega] at this
        refine this.mono fun e w' ⟨h1, h2⟩ => ⟨?_, HMK.out.trans (HK2.out.trans h2)⟩
        rw [h1]
        congr 2
        have := HCE.out
        omega
      clear k1 k2 k3 c1' c2' hm2 hmi hat hce
      generalize (kid j).bd.count = K at *
      generalize (kid j).bd.len = L at *
      have hKb : c + 1 + 2 * K ≤ 1099511627776 := by have h2 := HCC.out; omega
      go_wp2_with fail
      refine HCL.out.mono ?_
      rintro e w3 ⟨rfl, hk3⟩
      have HK3 : Hid (MK B C w w3) := hk3
      clear hk3
      go_wp2_with fail
      go_roundw
      case rel => exact ⟨j + 1, c + 1 + 2 * K, by go_num, rfl, by omega, by rw [HS.out, HCC.out]; omega, HK3.out⟩
      case measure => simp [intOf]; omega
    · have hje : j = len := by omega
      have hcf : c = FIN := by rw [HCC.out, HFIN.out, hje]
      clear HCC HFIN
      subst hcf
      go_wp2_with fail
      go_ret
      exact ⟨rfl, HMK.out⟩
end Go.Proofs.YthnhdmanmmdoiaaDoor
