/- spec.Gen at every list of blocks: for each block its function, where the blocks and the functions are right. Condition: at most 2^20 in all. Written by wip/tools/mkgen14b.py. -/
import Derived.Test.YthnhdmanmmdoiaaDoorZG18GenOk
import Derived.Test.YthnhdmanmmdoiaaDoorZG19SpecBlk0
import Derived.Test.YthnhdmanmmdoiaaDoorZG21SpecBlk2
import Derived.Test.YthnhdmanmmdoiaaDoorZG25SpecFunsOk
import Derived.Test.YthnhdmanmmdoiaaDoorRows
import Derived.WalkKit
import Derived.ProofKit
import Derived.OwnWalk
import Derived.Laws.OwnMore
import Derived.Laws.ResultCell
namespace Go.Proofs.YthnhdmanmmdoiaaDoor
open Go.ChangeShapes Go.WideShapes Go.ChangeAt Go.RowKit

/-- A function that was made: its row of ops lies in a block that is not the row's of functions. -/
def El (B : Nat) (w : World) (vo : Value) (q : Fu × Value) : Prop := I64 q.1.fr ∧ ∃ g cap, q.2 = .slice (some ⟨g, 0, none⟩) q.1.len cap ∧ B ≤ g ∧ g < w.heap.size ∧ vo.ownBlock ≠ some g ∧ q.1.len ≤ cap ∧ cap ≤ maxLen ∧ ∀ i, i < q.1.len → HeadO w g (0 + i * 3) (q.1.op i) ∧ (q.1.op i).Ok
theorem El.keep {B : Nat} {w w' : World} {vo vo' : Value} {q : Fu × Value} (h : El B w vo q) (hk : ∀ k, k < w.heap.size → vo.ownBlock ≠ some k → w'.heap[k]? = w.heap[k]?) (hs : w.heap.size ≤ w'.heap.size) (ho : ∀ g, vo'.ownBlock = some g → vo.ownBlock = some g ∨ w.heap.size ≤ g) : El B w' vo' q := by
  obtain ⟨h1, g, cap, e, hb, hg, hn, hc, hm, hat⟩ := h
  refine ⟨h1, g, cap, e, hb, Nat.lt_of_lt_of_le hg hs, fun e2 => ?_, hc, hm, fun i hi => ⟨(hat i hi).1.kept (fun a u ha hc => (World.cell?_of_block (w := w) (by rw [ha]; exact hk g hg hn)).trans hc), (hat i hi).2⟩⟩
  rcases ho g e2 with h2 | h2
  · exact hn h2
  · omega
theorem El.in {B : Nat} {w : World} {vo : Value} {q : Fu × Value} (h : El B w vo q) : q.1.InB B w q.2 := by
  obtain ⟨h1, g, cap, e, hb, hg, hn, hc, hm, hat⟩ := h
  exact ⟨h1, .inr ⟨g, 0, cap, e, hb, hc, hm, hat⟩⟩
/-- The row of functions, k of them. -/
def GO (B : Nat) (w : World) (vo : Value) (kid : Nat → Fu) (k : Nat) : Prop := ∃ la : List (Fu × Value), la.length = k ∧ FKs kid la ∧ w.ownsRow B 54 2 vo k (frows la) ∧ ∀ q ∈ la, El B w vo q
theorem GO.fl {B : Nat} {w : World} {vo : Value} {kid : Nat → Fu} {k : Nat} (h : GO B w vo kid k) : FlB B w k kid vo := by
  obtain ⟨la, h1, h2, h3, h4⟩ := h
  exact FlB.of_own h3 h1 (Nat.le_refl _) h2 (fun q hq => (h4 q hq).in)
theorem GO.shape {B : Nat} {w : World} {vo : Value} {kid : Nat → Fu} {k : Nat} (h : GO B w vo kid k) : ∃ p c, vo = .slice p k c := by
  obtain ⟨la, h1, h2, h3, h4⟩ := h
  exact own_shape3 h3
theorem GO.empty (w : World) (kid : Nat → Fu) : GO w.heap.size (w.alloc (.cells #[] 54)) (.slice (some ⟨w.heap.size, 0, none⟩) 0 0) kid 0 :=
  ⟨[], rfl, FKs.nil _, ⟨rfl, .inr ⟨w.heap.size, 0, #[], rfl, Nat.le_refl _, heap_alloc_new w _, Nat.le_refl _, Nat.zero_le _, rfl, rfl⟩⟩, by simp⟩
/-- One function more. -/
theorem GO.pushed {B : Nat} {w3 w5 : World} {vo vo' u : Value} {kid : Nat → Fu} {k : Nat} {la : List (Fu × Value)} (hl : la.length = k) (hk : FKs kid la) (he : ∀ q ∈ la, El B w3 vo q) (hown : w5.ownsRow B 54 2 vo' (k + 1) (frows la ++ [.int .i64 (kid k).fr, u])) (hg : w3.grownBy w5 vo.ownBlock)
    (hat : vo'.ownBlock = vo.ownBlock ∨ vo'.ownBlock = some w3.heap.size) (hu : El B w3 vo (kid k, u)) : GO B w5 vo' kid (k + 1) := by
  subst hl
  have key : ∀ q, El B w3 vo q → El B w5 vo' q := fun q h => h.keep (fun j hj hn => hg.block j hj (fun e => hn e.symm)) hg.size (fun g hgg => by
    rcases hat with e | e
    · exact .inl (e ▸ hgg)
    · rw [e] at hgg; injection hgg with hgg; exact .inr (by omega))
  refine ⟨la ++ [(kid la.length, u)], by simp, hk.snoc u, ?_, fun q hq => ?_⟩
  · rw [frows_append]; simpa [frows, fcells] using hown
  · rcases List.mem_append.1 hq with h | h
    · exact key q (he q h)
    · simp only [List.mem_singleton] at h
      subst h
      exact key _ hu
theorem fun_info14 : (Tryd.prog.info? 54).map (fun i => (i.zero, i.size, i.bytes)) = some (some (.agg #[.int .i64 0, .slice none 0 0]), 2, 32) := by kernel_rfl

/-- What Gen answers. -/
def GenPost (nb : Nat) (kb : Nat → Kb) (w : World) (e : Ending) (w' : World) : Prop := ∃ u ok, e = .returned (.tuple #[u, .bool ok]) ∧ Below w.heap.size w w' ∧
  ((ok = true ∧ (blksB nb kb = true ∧ FunsP nb (fun i => genF (kb i))) ∧ Fl w' nb (fun i => genF (kb i)) u) ∨ (ok = false ∧ ¬ (blksB nb kb = true ∧ FunsP nb (fun i => genF (kb i))) ∧ Fl w' 0 (fun _ => default) u))

set_option maxRecDepth 100000 in
set_option maxHeartbeats 8000000 in
theorem spec_gen14 (nb : Nat) (kb : Nat → Kb) (w : World) (v : Value) (hv : Kl w nb kb v) (hw : kidsWeightK nb kb ≤ 1048576) : Calls Tryd.prog 5 #[v] w (GenPost nb kb w) := by
  have HBO : Hid (Calls Tryd.prog 14 #[v] w fun e w' => e = .returned (.bool (blksB nb kb)) ∧ Below w.heap.size w w') := spec_blks_ok nb kb w v hv hw
  have HEMP : Hid (∀ w1 : World, Fl (w1.alloc (.cells #[] 54)) 0 (fun _ => default) (.slice (some ⟨w1.heap.size, 0, none⟩) 0 0)) := fun w1 => .inl ⟨rfl, _, _, rfl⟩
  obtain ⟨p, cap, ev, hlen, hat⟩ := hv.at
  subst ev
  cases hb : blksB nb kb with
  | false =>
    rw [hb] at HBO
    have HNO : Hid (¬ (blksB nb kb = true ∧ FunsP nb (fun i => genF (kb i)))) := fun h => by rw [hb] at h; cases h.1
    clear hb hv hat
    go_enter Tryd.func5, Tryd.ntmps5
    go_wp2_with fail
    refine HBO.out.mono ?_
    rintro e w1 ⟨rfl, hb1⟩
    have HB1 : Hid (Below w.heap.size w w1) := hb1
    clear hb1
    go_wp2_with fail
    go_ret2
    exact ⟨_, _, rfl, HB1.out.trans ((newb w1 _).mono HB1.out.size), .inr ⟨rfl, HNO.out, HEMP.out w1⟩⟩
  | true =>
    rw [hb] at HBO
    have HBK : Hid (blksB nb kb = true) := hb
    obtain ⟨hnb, hrt⟩ := blk_right hb
    have HRT : Hid (∀ i, i < nb → rightI nb kb i (kb i).bd 1 = true ∧ (kb i).bd.count ≤ 4000) := hrt
    have HC : Hid (∀ i, i < nb → ∃ b o u, p = some ⟨b, o, none⟩ ∧ HeadK w b (o + i * 4) (kb i) u ∧ (kb i).In w u) := hat
    unfold maxLen at hlen
    obtain ⟨b, o, u0, ep, -, -⟩ := hat 0 (by omega)
    subst ep
    have HCB : Hid (∀ i, i < nb → ∃ u, HeadK w b (o + i * 4) (kb i) u ∧ (kb i).In w u) := fun i hi => by
      obtain ⟨b2, o2, u, e2, h2, h3⟩ := HC.out i hi
      injection e2 with e2
      injection e2 with e3 e4 _
      subst e3 e4
      exact ⟨u, h2, h3⟩
    obtain ⟨i0, hi0, hz0, hz1, hz2⟩ := info_parts fun_info14
    have HN60 : Hid (1 ≤ nb ∧ nb ≤ 60) := hnb
    have hn60 := hnb.2
    clear hb hv hat hrt hnb HC
    go_enter Tryd.func5, Tryd.ntmps5
    go_wp2_with fail
    refine HBO.out.mono ?_
    rintro e w1 ⟨rfl, hb1⟩
    have HB1 : Hid (Below w.heap.size w w1) := hb1
    have HG0 : Hid (GO w1.heap.size (w1.alloc (.cells #[] 54)) (.slice (some ⟨w1.heap.size, 0, none⟩) 0 0) (fun i => genF (kb i)) 0) := GO.empty w1 _
    clear hb1
    go_wp2_with fail
    go_loopw [4, 5] (fun vo x wr => ∃ k : Nat, x = .int .i64 k ∧ k ≤ nb ∧ GO w1.heap.size wr vo (fun i => genF (kb i)) k ∧ Below w1.heap.size w1 wr) (fun _ x _ => nb - (intOf x).toNat)
    case atStart => exact ⟨0, rfl, Nat.zero_le _, HG0.out, newb w1 _⟩
    case round =>
      obtain ⟨k, rfl, hk, hgo, hbel⟩ := hrel
      have HGO : Hid (GO w1.heap.size wr u4 (fun i => genF (kb i)) k) := hgo
      have HBR : Hid (Below w1.heap.size w1 wr) := hbel
      have HBW : Hid (Below w.heap.size w wr) := HB1.out.trans (hbel.mono HB1.out.size)
      obtain ⟨po, co, eo⟩ := hgo.shape
      subst eo
      clear hgo hbel
      by_cases hlt : (k : Int) < nb
      · have hlt' : k < nb := by omega
        obtain ⟨u, hhd, hin⟩ := HCB.out k hlt'
        obtain ⟨pu, cu, eu⟩ := hin.sl.shape
        subst eu
        obtain ⟨c0, c1, c2, c3⟩ := hhd.below HBW.out
        obtain ⟨hrk, hck⟩ := HRT.out k hlt'
        have HIB : Hid ((kb k).bd.In wr (.slice pu (kb k).bd.len cu)) := hin.2.below HBW.out
        have HOK : Hid (∀ q ∈ opsG (kb k), q.Ok) := opsG_ok HBK.out hlt' (AllN.of_in _ hin.2)
        have HFR : Hid (I64 (kb k).fr) := hin.1
        have HLO : Hid ((genI (kb k).bd [0] 1 0).length ≤ 8000) := by have := genI_len (kb k).bd [0] 1 0 _ hrk; show _ ≤ _; omega
        obtain ⟨Q, hQ⟩ : ∃ Q, Q = wr.heap.size := ⟨_, rfl⟩
        obtain ⟨W2, hW2⟩ : ∃ W2, W2 = (wr.alloc (.cells #[.slice none 0 0] 44)).alloc (.cells #[.int .i64 0] 3) := ⟨_, rfl⟩
        have hb2 : Below wr.heap.size wr W2 := by rw [hW2]; exact (newb wr _).trans ((newb _ _).mono (by simp))
        have hx1 : W2.heap[Q]? = some (.cells #[.slice none 0 0] 44 (0, 0)) := by rw [hW2, hQ, Below.heap_alloc _ _ _ (by simp)]; exact heap_alloc_new wr _
        have hx2 : W2.heap[Q + 1]? = some (.cells #[.int .i64 0] 3 (0, 0)) := by
          rw [hW2, hQ]
          have := heap_alloc_new (wr.alloc (.cells #[.slice none 0 0] 44)) (.cells #[.int .i64 0] 3)
          simpa using this
        have HIN : Hid (IrIn wr W2 Q (.slice none 0 0) [] [0] (Q + 1) 1) := by
          refine ⟨hb2, ⟨hx1, ⟨rfl, .inl ⟨rfl, rfl⟩⟩, fun e => (by cases e), by omega⟩, fun j z hz => ?_, ⟨(Array.getElem?_eq_some_iff.1 hx2).1, by omega, fun e => (by cases e)⟩, ⟨Nat.le_refl _, by unfold maxLen; decide⟩⟩
          have hj := (List.getElem?_eq_some_iff.1 hz).1
          have hj0 : j = 0 := by simp at hj; omega
          subst hj0
          simp at hz
          subst hz
          exact cell_of_row W2 (Q + 1) 0 _ _ _ hx2
        have HCL : Hid (Calls Tryd.prog 15 #[.pointer (some ⟨Q, 0, none⟩), .agg #[.int .i64 (kb k).bd.op, .int .i64 (kb k).bd.n, .slice pu (kb k).bd.len cu], .slice (some ⟨Q + 1, 0, none⟩) 1 1, .int .i64 1] W2 (IrPost wr.heap.size Q (.slice none 0 0) (genI (kb k).bd [0] 1 0) W2)) :=
          spec_ir14 (kb k).bd wr W2 Q (.slice none 0 0) [] _ [0] (Q + 1) 1 1 nb kb k HIB.out HIN.out hrk (by show 0 + _ ≤ _; omega) (by omega) (by show 1 + _ ≤ _; omega)
        have HWW : Hid (W2 = (wr.alloc (.cells #[.slice none 0 0] 44)).alloc (.cells #[.int .i64 0] 3) ∧ Q = wr.heap.size) := ⟨hW2, hQ⟩
        have e1 : ∀ ob, (wr.alloc ob).cell? ⟨b, o + k * 4 + 1, none⟩ = some (.int .i64 (kb k).bd.op) := fun ob => keeps (newb wr ob) _ _ c1
        have e2 : ∀ ob, (wr.alloc ob).cell? ⟨b, o + k * 4 + 1 + 1, none⟩ = some (.int .i64 (kb k).bd.n) := fun ob => keeps (newb wr ob) _ _ c2
        have e3 : ∀ ob, (wr.alloc ob).cell? ⟨b, o + k * 4 + 1 + 2, none⟩ = some (.slice pu (kb k).bd.len cu) := fun ob => keeps (newb wr ob) _ _ c3
        clear hhd hin hrk hck hQ hW2 hb2 hx1 hx2
        go_wp2_with fail
        rw [← HWW.out.1, ← HWW.out.2]
        refine HCL.out.mono ?_
        rintro e w2 ⟨rfl, v2, hs2, hg2⟩
        have HI2 : Hid (IrIn wr w2 Q v2 (genI (kb k).bd [0] 1 0) [0] (Q + 1) 1) := HIN.out.keep hs2 hg2
        clear hs2 hg2 c0 c1 c2 c3 e1 e2 e3
        go_wp2_with fail
        refine (spec_put14 wr.heap.size Q v2 _ 7 0 0 w2 HI2.out.st (by have := HLO.out; omega)).mono ?_
        rintro e w3 ⟨rfl, v3, hs3, hg3⟩
        have HB3 : Hid (Below wr.heap.size wr w3) := hg3.old HI2.out.st HI2.out.bel
        have hLg : (genI (kb k).bd [0] 1 0 ++ [(⟨7, 0, 0⟩ : O3)]).length = (genF (kb k)).len := rfl
        obtain ⟨g, cv, ev3, hgQ, hown3, hfz, hcl⟩ := not_empty hs3 (by simp)
        rw [hLg] at ev3
        have HS3 : Hid (GSt 44 wr.heap.size Q v3 (opsG (kb k)) w3) := hs3
        have kq := hs3.cell.1
        obtain ⟨u', hhd, -⟩ := HCB.out k hlt'
        have f0 : w3.cell? ⟨b, o + k * 4, none⟩ = some (.int .i64 (kb k).fr) := (hhd.below (HBW.out.trans (HB3.out.mono HBW.out.size))).c0
        have HIO : Hid (OlB wr.heap.size w3 (genF (kb k)).len (genF (kb k)).op v3) := OlB.of_own HS3.out.row rfl (Nat.le_refl _) (fun i q hq => by show q = (opsG (kb k)).getD i default; rw [List.getD_eq_getElem?_getD, hq]; rfl) (fun i hi => by
          show ((opsG (kb k)).getD i default).Ok
          have hi' : i < (opsG (kb k)).length := hi
          rw [List.getD_eq_getElem?_getD, List.getElem?_eq_getElem hi']
          exact HOK.out _ (List.getElem_mem hi'))
        obtain ⟨la, hla, hks, hrow, hel⟩ := HGO.out
        have hogw : ∀ g', (Value.slice po k co).ownBlock = some g' → w1.heap.size ≤ g' ∧ g' < wr.heap.size := fun g' e => by
          rcases hrow.2 with ⟨e0, _⟩ | ⟨g2, cap2, cur, e0, hb0, hh0, _⟩
          · rw [e0] at e; cases e
          · rw [e0] at e
            injection e with e
            have e' : g2 = g' := e
            subst e'
            exact ⟨hb0, (Array.getElem?_eq_some_iff.1 hh0).1⟩
        have HEL : El w1.heap.size w3 (.slice po k co) (genF (kb k), v3) := by
          have hg := HS3.out.own_ge hown3
          rcases HIO.out with ⟨h0, _⟩ | ⟨b', o', cap', e', hb', hc', hm', hat'⟩
          · have : (opsG (kb k)).length = 0 := h0
            simp [opsG] at this
          · rw [ev3] at e'
            injection e' with e1 _ e2
            injection e1 with e1
            injection e1 with e3 e4 _
            subst e2 e3 e4
            refine ⟨HFR.out, g, cv, ev3, ?_, hg.2, fun e => ?_, hc', hm', hat'⟩
            · have := HBR.out.size; omega
            · have := (hogw g e).2; omega
        rw [ev3] at kq HEL
        obtain ⟨OB, hOB⟩ : ∃ OB, OB = Obj.cells #[.int .i64 (kb k).fr, .slice (some ⟨g, 0, none⟩) (genF (kb k)).len cv] 54 := ⟨_, rfl⟩
        have bX : Below w3.heap.size w3 (w3.alloc OB).drew := (newb w3 OB).drew
        have HSZ : Hid (w1.heap.size ≤ (w3.alloc OB).drew.heap.size) := Nat.le_trans HBR.out.size (Nat.le_trans HB3.out.size bX.size)
        have HRX : Hid ((w3.alloc OB).drew.ownsRow w1.heap.size 54 2 (.slice po k co) k (frows la)) := own_below5 (own_below5 hrow HB3.out) bX
        have hXN : (w3.alloc OB).drew.heap[w3.heap.size]? = some OB := heap_alloc_new w3 OB
        have HNX : Hid (∀ j y, [Value.int .i64 (kb k).fr, .slice (some ⟨g, 0, none⟩) (genF (kb k)).len cv][j]? = some y → (w3.alloc OB).drew.cell? ((⟨w3.heap.size, 0, none⟩ : Addr).add j) = some y) := fun j y hj => by
          have e : (⟨w3.heap.size, 0, none⟩ : Addr).add j = ⟨w3.heap.size, j, none⟩ := by cases j <;> simp [Addr.add]
          rw [hOB] at hXN
          rw [e, hOB, cell_of_row _ w3.heap.size j _ _ _ hXN]
          have hlt := (List.getElem?_eq_some_iff.1 hj).1
          match j, hlt with
          | 0, _ => exact hj
          | 1, _ => exact hj
        have HS1 : (w3.alloc OB).drew.cell? ⟨b, o + k * 4, none⟩ = some (.int .i64 (kb k).fr) ∧ (w3.alloc OB).drew.cell? ⟨Q, 0, none⟩ = some (.slice (some ⟨g, 0, none⟩) (genF (kb k)).len cv) := ⟨keeps bX _ _ f0, keeps bX _ _ kq⟩
        have HBB : Hid (b < w1.heap.size ∧ wr.heap.size ≤ Q) := ⟨Nat.lt_of_lt_of_le (World.block_lt_of_cell? w _ hhd.c0) HB1.out.size, HS3.out.le⟩
        have HSK : Hid (∀ w5, (w3.alloc OB).drew.grownBy w5 (Value.slice po k co).ownBlock → w5.cell? ⟨b, o + k * 4, none⟩ = some (.int .i64 (kb k).fr) ∧ w5.cell? ⟨Q, 0, none⟩ = some (.slice (some ⟨g, 0, none⟩) (genF (kb k)).len cv)) := fun w5 hg5 =>
          ⟨(World.cell?_of_block (w := (w3.alloc OB).drew) (hg5.block b (World.block_lt_of_cell? _ _ HS1.1) (fun e => by have := (hogw b e.symm).1; have := HBB.out.1; omega))).trans HS1.1,
           (World.cell?_of_block (w := (w3.alloc OB).drew) (hg5.block Q (World.block_lt_of_cell? _ _ HS1.2) (fun e => by have := (hogw Q e.symm).2; have := HBB.out.2; omega))).trans HS1.2⟩
        have HGN : Hid (∀ v5 w5, w5.ownsRow w1.heap.size 54 2 v5 (k + 1) (frows la ++ [.int .i64 (kb k).fr, .slice (some ⟨g, 0, none⟩) (genF (kb k)).len cv]) → (w3.alloc OB).drew.grownBy w5 (Value.slice po k co).ownBlock → (v5.ownBlock = (Value.slice po k co).ownBlock ∨ v5.ownBlock = some (w3.alloc OB).drew.heap.size) →
            GO w1.heap.size w5 v5 (fun i => genF (kb i)) (k + 1) ∧ Below w1.heap.size w1 w5) := fun v5 w5 h1 h2 h3 => by
          have kp : ∀ q, El w1.heap.size w3 (.slice po k co) q → El w1.heap.size (w3.alloc OB).drew (.slice po k co) q := fun q h => h.keep (fun j hj _ => bX.block j hj) bX.size (fun _ h => .inl h)
          refine ⟨GO.pushed (w3 := (w3.alloc OB).drew) hla hks (fun q hq => kp q ((hel q hq).keep (fun j hj _ => HB3.out.block j hj) HB3.out.size (fun _ h => .inl h))) h1 h2 h3 (kp _ HEL), ?_⟩
          have bb : Below w1.heap.size w1 (w3.alloc OB).drew := HBR.out.trans ((HB3.out.trans (bX.mono HB3.out.size)).mono HBR.out.size)
          exact grown_below bb h2 (fun j e => (hogw j e).1)
        clear hhd hLg hfz hcl hs3 hg3 hown3 bX hXN HEL hel hrow hks
        subst hOB
        go_upto_region 10 with fail
        refine wp_region_held_drew (S := fun wq => wq.cell? ⟨b, o + k * 4, none⟩ = some (.int .i64 (kb k).fr) ∧ wq.cell? ⟨Q, 0, none⟩ = some (.slice (some ⟨g, 0, none⟩) (genF (kb k)).len cv)) (by kernel_rfl) ⟨f0, kq⟩ (fun HS0 => ?_)
        refine wpAnyH_take (i := 0) (oi := { dst := some 30, op := Op.move (Operand.tmp 4), type := 24, pos := "l14_gen.go:83", after := #[], guard := none }) (v := (.slice po k co)) rfl (by kernel_rfl) (by kernel_rfl) (by kernel_rfl) (fun _ _ _ h => h) (Or.inl ⟨by rfl, ?_⟩) HS0 ?_
        · intro wq hSq
          clear hSq
          go_simp
        try simp only [Act.put, List.setIfInBounds_toArray, List.set_cons_zero, List.set_cons_succ]
        refine wpAnyH_take (i := 1) (oi := { dst := some 31, op := Op.move (Operand.tmp 0), type := 27, pos := "l14_gen.go:83", after := #[], guard := none }) (v := (.slice (some ⟨b, o, none⟩) nb cap)) rfl (by kernel_rfl) (by kernel_rfl) (by kernel_rfl) (fun _ _ _ h => h) (Or.inl ⟨by rfl, ?_⟩) HS0 ?_
        · intro wq hSq
          clear hSq
          go_simp
        try simp only [Act.put, List.setIfInBounds_toArray, List.set_cons_zero, List.set_cons_succ]
        refine wpAnyH_take (i := 2) (oi := { dst := some 32, op := Op.move (Operand.tmp 5), type := 3, pos := "l14_gen.go:83", after := #[], guard := none }) (v := (.int .i64 k)) rfl (by kernel_rfl) (by kernel_rfl) (by kernel_rfl) (fun _ _ _ h => h) (Or.inl ⟨by rfl, ?_⟩) HS0 ?_
        · intro wq hSq
          clear hSq
          go_simp
        try simp only [Act.put, List.setIfInBounds_toArray, List.set_cons_zero, List.set_cons_succ]
        refine wpAnyH_take (i := 3) (oi := { dst := some 33, op := Op.indexAddr 27 (Operand.tmp 31) (Operand.tmp 32), type := 0, pos := "l14_gen.go:83", after := #[{ on := 1, ground := Ground.data }, { on := 2, ground := Ground.data }], guard := none }) (v := (.pointer (some ⟨b, o + k * 4, none⟩))) rfl (by kernel_rfl) (by kernel_rfl) (by kernel_rfl) (fun _ _ _ h => h) (Or.inl ⟨by rfl, ?_⟩) HS0 ?_
        · intro wq hSq
          clear hSq
          go_simp; first | done | (intro h; exact absurd h (by omega)) | omega
        try simp only [Act.put, List.setIfInBounds_toArray, List.set_cons_zero, List.set_cons_succ]
        refine wpAnyH_take (i := 4) (oi := { dst := some 34, op := Op.fieldAddr 50 (Operand.tmp 33) 0, type := 0, pos := "l14_gen.go:83", after := #[{ on := 3, ground := Ground.data }], guard := none }) (v := (.pointer (some ⟨b, o + k * 4, none⟩))) rfl (by kernel_rfl) (by kernel_rfl) (by kernel_rfl) (fun _ _ _ h => h) (Or.inl ⟨by rfl, ?_⟩) HS0 ?_
        · intro wq hSq
          clear hSq
          go_simp
        try simp only [Act.put, List.setIfInBounds_toArray, List.set_cons_zero, List.set_cons_succ]
        refine wpAnyH_take (i := 5) (oi := { dst := some 35, op := Op.load 3 (Operand.tmp 34), type := 3, pos := "l14_gen.go:83", after := #[{ on := 4, ground := Ground.data }], guard := none }) (v := (.int .i64 (kb k).fr)) rfl (by kernel_rfl) (by kernel_rfl) (by kernel_rfl) (fun _ _ _ h => h) (Or.inl ⟨by rfl, ?_⟩) HS0 ?_
        · intro wq hSq
          have cq := hSq.1
          clear hSq
          go_simp
        try simp only [Act.put, List.setIfInBounds_toArray, List.set_cons_zero, List.set_cons_succ]
        refine wpAnyH_take (i := 6) (oi := { dst := some 36, op := Op.move (Operand.tmp 6), type := 41, pos := "l14_gen.go:83", after := #[], guard := none }) (v := (.pointer (some ⟨Q, 0, none⟩))) rfl (by kernel_rfl) (by kernel_rfl) (by kernel_rfl) (fun _ _ _ h => h) (Or.inl ⟨by rfl, ?_⟩) HS0 ?_
        · intro wq hSq
          clear hSq
          go_simp
        try simp only [Act.put, List.setIfInBounds_toArray, List.set_cons_zero, List.set_cons_succ]
        refine wpAnyH_take (i := 7) (oi := { dst := some 37, op := Op.nilCheck (Operand.tmp 36), type := 0, pos := "l14_gen.go:83", after := #[{ on := 6, ground := Ground.data }], guard := none }) (v := (.pointer (some ⟨Q, 0, none⟩))) rfl (by kernel_rfl) (by kernel_rfl) (by kernel_rfl) (fun _ _ _ h => h) (Or.inl ⟨by rfl, ?_⟩) HS0 ?_
        · intro wq hSq
          clear hSq
          go_simp
        try simp only [Act.put, List.setIfInBounds_toArray, List.set_cons_zero, List.set_cons_succ]
        refine wpAnyH_take (i := 8) (oi := { dst := some 38, op := Op.fieldAddr 44 (Operand.tmp 37) 0, type := 0, pos := "l14_gen.go:83", after := #[{ on := 7, ground := Ground.data }], guard := none }) (v := (.pointer (some ⟨Q, 0, none⟩))) rfl (by kernel_rfl) (by kernel_rfl) (by kernel_rfl) (fun _ _ _ h => h) (Or.inl ⟨by rfl, ?_⟩) HS0 ?_
        · intro wq hSq
          clear hSq
          go_simp
        try simp only [Act.put, List.setIfInBounds_toArray, List.set_cons_zero, List.set_cons_succ]
        refine wpAnyH_take (i := 9) (oi := { dst := some 39, op := Op.load 42 (Operand.tmp 38), type := 42, pos := "l14_gen.go:83", after := #[{ on := 8, ground := Ground.data }], guard := none }) (v := (.slice (some ⟨g, 0, none⟩) (genF (kb k)).len cv)) rfl (by kernel_rfl) (by kernel_rfl) (by kernel_rfl) (fun _ _ _ h => h) (Or.inl ⟨by rfl, ?_⟩) HS0 ?_
        · intro wq hSq
          have cq := hSq.2
          clear hSq
          go_simp
        try simp only [Act.put, List.setIfInBounds_toArray, List.set_cons_zero, List.set_cons_succ]
        refine wpAnyH_take (i := 10) (oi := { dst := some 40, op := Op.build 54 #[(0, Operand.tmp 35), (1, Operand.tmp 39)], type := 54, pos := "l14_gen.go:83", after := #[{ on := 5, ground := Ground.data }, { on := 9, ground := Ground.data }], guard := none }) (v := (.agg #[.int .i64 (kb k).fr, .slice (some ⟨g, 0, none⟩) (genF (kb k)).len cv])) rfl (by kernel_rfl) (by kernel_rfl) (by kernel_rfl) (fun _ _ _ h => h) (Or.inl ⟨by rfl, ?_⟩) HS0 ?_
        · intro wq hSq
          clear hSq
          go_simp
        try simp only [Act.put, List.setIfInBounds_toArray, List.set_cons_zero, List.set_cons_succ]
        refine wpAnyH_ready (rs := [11]) (by kernel_rfl) (by simp) ?_
        refine AllReadyH.cons (o := { dst := some 41, op := Op.buildSlice 24 1 #[(0, Operand.tmp 40)], type := 24, pos := "l14_gen.go:83", after := #[{ on := 10, ground := Ground.data }], guard := none }) rfl (fun KK hK => ?_) AllReadyH.nil
        go_simp
        refine hK.out _ _ HS1 (fun _ => ?_)
        clear hK KK
        try simp only [Act.put, List.setIfInBounds_toArray, List.set_cons_zero, List.set_cons_succ]
        refine wpAnyH_ready (rs := [12]) (by kernel_rfl) (by simp) ?_
        refine AllReadyH.cons (o := { dst := some 42, op := Op.call { callee := Callee.builtin Builtin.append, args := #[Operand.tmp 30, Operand.tmp 41], argTypes := #[24, 24] }, type := 24, pos := "l14_gen.go:83", after := #[{ on := 0, ground := Ground.data }, { on := 11, ground := Ground.data }], guard := none }) rfl (fun KK hK => ?_) AllReadyH.nil
        refine step_append_at (by rfl) (.tmp 30) (.tmp 41) 24 (by rfl) w1.heap.size 54 i0 _ 2 32 Tryd.underlying24 hi0 hz0 hz1 hz2 rfl (by decide) (.slice po k co) k (frows la) (by rfl) HRX.out ⟨w3.heap.size, 0, none⟩ 1 1 [.int .i64 (kb k).fr, .slice (some ⟨g, 0, none⟩) (genF (kb k)).len cv] (by rfl) rfl HNX.out (by intro y hy; simp only [List.mem_cons, List.not_mem_nil, or_false] at hy; rcases hy with rfl | rfl <;> rfl) (by unfold maxLen; omega) (by omega) HSZ.out (by omega) ?_
        intro v5 w5 hown5 hg5 hat5
        have HS5 := HSK.out w5 hg5.out
        refine hK.out _ _ HS5 (fun _ => ?_)
        clear hK KK
        try simp only [Act.put, List.setIfInBounds_toArray, List.set_cons_zero, List.set_cons_succ]
        obtain ⟨p5, c5, e5⟩ := own_shape3 hown5.out
        have HEND := HGN.out v5 w5 hown5.out hg5.out hat5.out
        subst e5
        refine wpAnyH_take (i := 13) (oi := { dst := some 4, op := Op.assign (Operand.tmp 42), type := 24, pos := "l14_gen.go:83", after := #[{ on := 12, ground := Ground.data }, { on := 12, ground := Ground.chain }, { on := 0, ground := Ground.phase }, { on := 1, ground := Ground.phase }, { on := 2, ground := Ground.phase }, { on := 3, ground := Ground.phase }, { on := 4, ground := Ground.phase }, { on := 5, ground := Ground.phase }, { on := 6, ground := Ground.phase }, { on := 7, ground := Ground.phase }, { on := 8, ground := Ground.phase }, { on := 9, ground := Ground.phase }, { on := 10, ground := Ground.phase }, { on := 11, ground := Ground.phase }, { on := 12, ground := Ground.phase }], guard := none }) (v := (.slice p5 (k + 1) c5)) rfl (by kernel_rfl) (by kernel_rfl) (by kernel_rfl) (fun _ _ _ h => h) (Or.inl ⟨by rfl, ?_⟩) HS5 ?_
        · intro wq hSq
          clear hSq
          go_simp
        try simp only [Act.put, List.setIfInBounds_toArray, List.set_cons_zero, List.set_cons_succ]
        refine wpAnyH_done (by kernel_rfl) ?_ _
        have HE2 : Hid (GO w1.heap.size w5 (.slice p5 (k + 1) c5) (fun i => genF (kb i)) (k + 1) ∧ Below w1.heap.size w1 w5) := HEND
        clear HEND HS5 hown5 hg5 hat5 HS1 HS0 kq f0
        go_wp2_with fail
        go_roundw
        case rel => exact ⟨k + 1, by go_num, by omega, HE2.out.1, HE2.out.2⟩
        case measure => simp [intOf]; omega
      · have hke : k = nb := by omega
        subst hke
        have HFL : Hid (∀ w', Below wr.heap.size wr w' → Fl w' k (fun i => genF (kb i)) (.slice po k co)) := fun w' h => (HGO.out.fl.all).below h
        by_cases hfp : FunsP k (fun i => genF (kb i))
        · have HFO : Hid (Calls Tryd.prog 17 #[.slice po k co] wr fun e w' => e = .returned (.bool true) ∧ Below wr.heap.size wr w') := spec_funs_ok k _ wr _ (HFL.out wr (Below.refl _ _)) true ⟨fun _ => hfp, fun _ => rfl⟩
          have HYE : Hid (blksB k kb = true ∧ FunsP k (fun i => genF (kb i))) := ⟨HBK.out, hfp⟩
          clear hfp
          go_wp2_with fail
          refine HFO.out.mono ?_
          rintro e w2 ⟨rfl, hb2⟩
          have HB2 : Hid (Below wr.heap.size wr w2) := hb2
          clear hb2
          go_wp2_with fail
          go_ret2
          exact ⟨_, _, rfl, HBW.out.trans (HB2.out.mono HBW.out.size), .inl ⟨rfl, HYE.out, HFL.out w2 HB2.out⟩⟩
        · have HFO : Hid (Calls Tryd.prog 17 #[.slice po k co] wr fun e w' => e = .returned (.bool false) ∧ Below wr.heap.size wr w') := spec_funs_ok k _ wr _ (HFL.out wr (Below.refl _ _)) false ⟨fun h => (by cases h), fun h => absurd h hfp⟩
          have HNO : Hid (¬ (blksB k kb = true ∧ FunsP k (fun i => genF (kb i)))) := fun h => hfp h.2
          clear hfp
          go_wp2_with fail
          refine HFO.out.mono ?_
          rintro e w2 ⟨rfl, hb2⟩
          have HB2 : Hid (Below w.heap.size w w2) := HBW.out.trans (hb2.mono HBW.out.size)
          clear hb2
          go_wp2_with fail
          go_ret2
          exact ⟨_, _, rfl, HB2.out.trans ((newb w2 _).mono HB2.out.size), .inr ⟨rfl, HNO.out, HEMP.out w2⟩⟩
end Go.Proofs.YthnhdmanmmdoiaaDoor

/- Rows that are owned: the last elements left off; their room; a row that is new. No conditions. -/
namespace Go.Proofs.YthnhdmanmmdoiaaDoor
open Go.ChangeShapes Go.WideShapes Go.ChangeAt Go.RowKit

/-- A row of which the last elements are left off. -/
theorem own_cut {w : World} {base e size g n m cap : Nat} {xs ys : List Value} (h : w.ownsRow base e size (.slice (some ⟨g, 0, none⟩) m cap) m (xs ++ ys)) (hx : xs.length = n * size) (hm : n ≤ m) :
    w.ownsRow base e size (.slice (some ⟨g, 0, none⟩) n cap) n xs := by
  refine ⟨hx, ?_⟩
  rcases h.2 with ⟨h0, _⟩ | ⟨g', cap', cur, he, hbg, hgg, hc, hmx, hs, ht⟩
  · cases h0
  · injection he with h1 h2 h3
    injection h1 with h1
    injection h1 with h1
    subst h1 h3
    refine .inr ⟨_, _, cur, rfl, hbg, hgg, by omega, hmx, hs, ?_⟩
    have h9 := congrArg (List.take (n * size)) ht
    rw [List.take_take, Nat.min_eq_left (Nat.mul_le_mul_right _ hm), List.take_append_of_le_length (by omega)] at h9
    rw [h9, List.take_of_length_le (by omega)]

theorem own_room {w : World} {base e size g n cap : Nat} {xs : List Value} (h : w.ownsRow base e size (.slice (some ⟨g, 0, none⟩) n cap) n xs) : n ≤ cap ∧ cap ≤ maxLen ∧ base ≤ g ∧ g < w.heap.size := by
  rcases h.2 with ⟨h0, _⟩ | ⟨g', cap', cur, he, hbg, hgg, hc, hmx, hs, ht⟩
  · cases h0
  · injection he with h1 h2 h3
    injection h1 with h1
    injection h1 with h1
    subst h1 h3
    exact ⟨hc, hmx, hbg, (Array.getElem?_eq_some_iff.1 hgg).1⟩

/-- A row that is one block. -/
theorem own_new {w : World} {base e size cap g n : Nat} {cs : Array Value} {xs : List Value} (hcs : cs.toList = xs) (hg : w.heap.size = g) (hb : base ≤ g) (hl : xs.length = n * size) (hc : n = cap) (hm : cap ≤ maxLen) :
    (w.alloc (.cells cs e)).ownsRow base e size (.slice (some ⟨g, 0, none⟩) n cap) n xs := by
  subst hc hg hcs
  exact ⟨hl, .inr ⟨w.heap.size, n, cs, rfl, hb, heap_alloc_new w _, Nat.le_refl _, hm, by simpa using hl, by rw [← hl]; exact List.take_length⟩⟩
end Go.Proofs.YthnhdmanmmdoiaaDoor
