/- (*impl.datTeller).begin. Conditions: what is told is small; those of impl.Digits. -/
import Derived.Test.YtafpbcdgcgffeabGreatDoorZTellEnd
import Derived.Test.YtafpbcdgcgffeabGreatDoorZImplDigits
import Derived.BigQuiet
import Derived.Deep.QuietTactic
import Derived.Deep.RegionWith
import Derived.Deep.RegionLaw
namespace Go.Proofs.YtafpbcdgcgffeabGreatDoor
open Go.ChangeShapes Go.WideShapes Go.ChangeAt Go.RowKit

def begunT (d : D) : List UInt8 := if d.op = 3 then [40] else d.text
def begunS (d : D) (v : Value) : List Op := if d.op = 3 then [⟨d, v, 0⟩] else []

theorem open_info : (Tryz.prog.info? 102).map (fun i => (i.zero, i.size, i.bytes)) = some (some (.agg #[.slice none 0 0, .int .i64 0]), 2, 32) := by kernel_rfl

/-- One more open list. -/
theorem Tell.more {w w1 w2 : World} {K : Nat} {q bv ov ov' : Value} {txt : List UInt8} {st st' : List Op} (h : Tell w K q bv ov txt st) (hb : Below w.heap.size w w1) (hg : w1.grownBy w2 ov.ownBlock)
    (hown : w2.ownsRow (K + 1) 102 2 ov' st'.length (orows st')) : Tell (w2.setCell ⟨K, 2, none⟩ ov') K q bv ov' txt st' ∧ w2.cell? ⟨K, 2, none⟩ = some ov ∧ w2.frozen? ⟨K, 2, none⟩ = false ∧ Below K w (w2.setCell ⟨K, 2, none⟩ ov') := by
  have h1 := h.below hb
  have hlt := h1.lt
  have hne : some K ≠ ov.ownBlock := fun e => by have := (h.opn.lt K e.symm).1; omega
  have hk : w2.heap[K]? = some (.cells #[q, bv, ov] 66 (0, 0)) := (hg.block K hlt hne).trans h1.blk
  have ho := h1.buf.kept hg (rows_ne h1.buf h1.opn (by decide))
  refine ⟨⟨heap_setCell_same w2 K 2 _ _ ov' hk, own_setK ho ov', own_setK hown ov'⟩, cell_of_row w2 K 2 _ _ _ hk, frozen_of_row w2 K 2 _ _ hk, ?_⟩
  have hlt0 := h.lt
  have b1 : Below K w w1 := hb.mono (by omega)
  refine (b1.trans ⟨hg.os, hg.tape, hg.output, hg.size, fun k hk' => hg.block k (by omega) (fun e => by have := (h.opn.lt k e.symm).1; omega)⟩).setCell (Nat.le_refl _) _

/-- What begin does. -/
def Begun (w0 : World) (K : Nat) (txt : List UInt8) (st : List Op) (d : D) (v : Value) (e : Ending) (w' : World) : Prop :=
  e = .returned (.tuple #[]) ∧ Below w0.heap.size w0 w' ∧ ∃ bv' ov', Tell w' K (self K) bv' ov' (txt ++ begunT d) (st ++ begunS d v)

section
variable (w0 w : World) (K : Nat) (hK : w0.heap.size ≤ K) (ht : PowTab w0) (d : D) (pd : Option Addr) (cd : Nat) (p bv ov : Value) (txt : List UInt8) (st : List Op)

set_option maxRecDepth 100000 in
set_option maxHeartbeats 2000000 in
theorem begin_num (hK : w0.heap.size ≤ K) (ht : PowTab w0) (h1 : d.op = 1) (hn : -9223372036854775808 ≤ d.n ∧ d.n ≤ 9223372036854775807) (hbel : Below w0.heap.size w0 w) (T : Tell w K p bv ov txt st) (hp : p = .pointer none ∨ p = self K) (hl : txt.length ≤ 549755813888) :
    Calls Tryz.prog 34 #[self K, .agg #[.int .i64 d.op, .int .i64 d.at_, .int .i64 d.n, .string d.s, .slice pd d.len cd]] w (Begun w0 K txt st d (.slice pd d.len cd)) := by
  have HB0 : Hid (begunT d = Lib.itoa d.n ∧ begunS d (.slice pd d.len cd) = []) := ⟨by unfold begunT; rw [if_neg (by omega), d.text_num h1], by unfold begunS; rw [if_neg (by omega)]⟩
  have hil : (⟨(Lib.itoa d.n).toArray⟩ : ByteArray).size ≤ 21 := itoa_len d.n hn
  have HIL : Hid (txt.length + (⟨(Lib.itoa d.n).toArray⟩ : ByteArray).size ≤ 1099511627776) := by show _ ≤ _; omega
  have HBL : Hid (Below w0.heap.size w0 w) := hbel
  have HT : Hid (Tell w K p bv ov txt st) := T
  have HP : Hid (∀ w1, Below w0.heap.size w0 w1 → PowTab w1) := fun w1 h => ht.below h
  rw [h1]
  clear hbel T ht hil
  go_enter Tryz.func34, Tryz.ntmps34
  go_wp2_with fail
  go_region_with (first
    | (go_at_call 53; refine (impl_digits d.n hn.1 hn.2 _ (HP.out _ ?_)).mono ?_; exact (HBL.out.alloc HBL.out.size _).drew; rintro e w1 ⟨rfl, hb1⟩; have T1 : Hid (Tell w1 K p bv ov txt st ∧ Below w0.heap.size w0 w1) := ⟨((HT.out.below (newb w _)).drew).below hb1, ((HBL.out.alloc HBL.out.size _).drew).trans (hb1.mono (Nat.le_trans HBL.out.size (newb w _).size))⟩; clear hb1)
    | (go_at_call 52; refine (tell_string _ K p bv ov txt st _ T1.out.1 hp HIL.out).mono ?_; rintro e w2 ⟨rfl, ⟨bv', hT2⟩, hB2, -⟩; have T2 : Hid (Tell w2 K (self K) bv' ov (txt ++ Lib.itoa d.n) st ∧ Below w0.heap.size w0 w2) := ⟨hT2, T1.out.2.trans (hB2.mono hK)⟩; clear hT2 hB2))
  all_goals
    go_wp2_with fail
    go_end0
    exact ⟨rfl, T2.out.2, bv', ov, by rw [HB0.out.1, HB0.out.2, List.append_nil]; exact T2.out.1⟩

set_option maxRecDepth 100000 in
set_option maxHeartbeats 2000000 in
theorem begin_sym (hK : w0.heap.size ≤ K) (h1 : d.op = 2) (hbel : Below w0.heap.size w0 w) (T : Tell w K p bv ov txt st) (hp : p = .pointer none ∨ p = self K) (hl : txt.length + d.s.size ≤ 1099511627776) :
    Calls Tryz.prog 34 #[self K, .agg #[.int .i64 d.op, .int .i64 d.at_, .int .i64 d.n, .string d.s, .slice pd d.len cd]] w (Begun w0 K txt st d (.slice pd d.len cd)) := by
  have HB0 : Hid (begunT d = d.s.data.toList ∧ begunS d (.slice pd d.len cd) = []) := ⟨by unfold begunT; rw [if_neg (by omega), d.text_sym h1], by unfold begunS; rw [if_neg (by omega)]⟩
  have HBL : Hid (Below w0.heap.size w0 w) := hbel
  have HT : Hid (Tell w K p bv ov txt st) := T
  rw [h1]
  clear hbel T
  go_enter Tryz.func34, Tryz.ntmps34
  go_wp2_with fail
  go_region_with (
    (go_at_call 52; refine (tell_string _ K p bv ov txt st _ ?_ hp hl).mono ?_; exact (HT.out.below (newb w _)).drew; rintro e w2 ⟨rfl, ⟨bv', hT2⟩, hB2, -⟩; have T2 : Hid (Tell w2 K (self K) bv' ov (txt ++ d.s.data.toList) st ∧ Below w0.heap.size w0 w2) := ⟨hT2, ((HBL.out.alloc HBL.out.size _).drew).trans (hB2.mono hK)⟩; clear hT2 hB2))
  all_goals
    go_wp2_with fail
    go_end0
    exact ⟨rfl, T2.out.2, bv', ov, by rw [HB0.out.1, HB0.out.2, List.append_nil]; exact T2.out.1⟩

set_option maxRecDepth 100000 in
set_option maxHeartbeats 2000000 in
theorem begin_none (hK : w0.heap.size ≤ K) (h1 : d.op ≠ 1) (h2 : d.op ≠ 2) (h3 : d.op ≠ 3) (hbel : Below w0.heap.size w0 w) (T : Tell w K p bv ov txt st) (hp : p = .pointer none ∨ p = self K) (hl : txt.length ≤ 1099511627776) :
    Calls Tryz.prog 34 #[self K, .agg #[.int .i64 d.op, .int .i64 d.at_, .int .i64 d.n, .string d.s, .slice pd d.len cd]] w (Begun w0 K txt st d (.slice pd d.len cd)) := by
  have HB0 : Hid (begunT d = [63] ∧ begunS d (.slice pd d.len cd) = []) := ⟨by unfold begunT; rw [if_neg h3, d.text_none h1 h2 h3], by unfold begunS; rw [if_neg h3]⟩
  have HBL : Hid (Below w0.heap.size w0 w) := hbel
  have HT : Hid (Tell w K p bv ov txt st) := T
  have g1 : (d.op == 1) = false := by simpa using h1
  have g2 : (d.op == 2) = false := by simpa using h2
  have g3 : (d.op == 3) = false := by simpa using h3
  clear hbel T h1 h2 h3
  go_enter Tryz.func34, Tryz.ntmps34
  go_wp2_with fail
  refine (tell_byte _ K p bv ov txt st 63 (HT.out.below (newb w _)) hp hl).mono ?_
  rintro e w2 ⟨rfl, ⟨bv', hT2⟩, hB2, -⟩
  have T2 : Hid (Tell w2 K (self K) bv' ov (txt ++ [63]) st ∧ Below w0.heap.size w0 w2) := ⟨hT2, (HBL.out.alloc HBL.out.size _).trans (hB2.mono hK)⟩
  clear hT2 hB2
  go_wp2_with fail
  go_end0
  exact ⟨rfl, T2.out.2, bv', ov, by rw [HB0.out.1, HB0.out.2, List.append_nil]; exact T2.out.1⟩

set_option maxRecDepth 100000 in
set_option maxHeartbeats 2000000 in
theorem begin_list (hK : w0.heap.size ≤ K) (h1 : d.op = 3) (hbel : Below w0.heap.size w0 w) (T : Tell w K p bv ov txt st) (hp : p = .pointer none ∨ p = self K) (hl : txt.length ≤ 1099511627776) (hs : st.length ≤ 4194304) :
    Calls Tryz.prog 34 #[self K, .agg #[.int .i64 d.op, .int .i64 d.at_, .int .i64 d.n, .string d.s, .slice pd d.len cd]] w (Begun w0 K txt st d (.slice pd d.len cd)) := by
  obtain ⟨i0, hi, hz0, hz1, hz2⟩ := info_parts open_info
  have HB0 : Hid (begunT d = [40] ∧ begunS d (.slice pd d.len cd) = [⟨d, .slice pd d.len cd, 0⟩]) := ⟨by unfold begunT; rw [if_pos h1], by unfold begunS; rw [if_pos h1]⟩
  have HBL : Hid (Below w0.heap.size w0 w) := hbel
  have HT : Hid (Tell w K p bv ov txt st) := T
  have HOR : Hid (orows st ++ [.slice pd d.len cd, .int .i64 0] = orows (st ++ [⟨d, .slice pd d.len cd, 0⟩])) := by
    show _ = _
    rw [orows_append]; rfl
  rw [h1]
  have hdB : some w.heap.size ≠ bv.ownBlock := fun e => by have := (T.buf.lt _ e.symm).2; omega
  have hKlt := T.lt
  clear hbel T
  go_enter Tryz.func34, Tryz.ntmps34
  go_wp2_with fail
  refine (tell_byte _ K p bv ov txt st 40 (HT.out.below (newb w _)) hp hl).mono ?_
  rintro e W ⟨rfl, ⟨bv', hT2⟩, hB2, hF⟩
  have hbk : W.heap[w.heap.size]? = some (.cells #[.int .i64 3, .int .i64 d.at_, .int .i64 d.n, .string d.s, .slice pd d.len cd] 30 (0, 0)) := (hF.block w.heap.size (by simp) (by omega) (fun e => hdB e.symm)).trans (heap_alloc_new w _)
  have k4 : W.cell? ⟨w.heap.size, 4, none⟩ = some (.slice pd d.len cd) := cell_of_row W _ 4 _ _ _ hbk
  have o2 := hT2.c2
  have T2 : Hid (Tell W K (self K) bv' ov (txt ++ [40]) st ∧ Below w0.heap.size w0 W) := ⟨hT2, (HBL.out.alloc HBL.out.size _).trans (hB2.mono hK)⟩
  have hKW : K < W.heap.size := hT2.lt
  clear hT2 hB2 hF hbk HT
  go_wp2_with fail
  go_region_law
    ((refine step_append_lies _ (by rfl) _ _ _ (by rfl) (K + 1) 102 i0 _ 2 32 Tryz.underlying64 hi hz0 hz1 hz2 rfl (by omega) ov st.length (orows st) (by rfl) ((T2.out.1.opn.alloc _).drew) ⟨W.heap.size, 0, none⟩ 1 1 [.slice pd d.len cd, .int .i64 0] (by rfl) (by rfl) (World.news_of_block (cs := #[.slice pd d.len cd, .int .i64 0]) (t := 102) (fr := (0, 0)) (heap_alloc_new W _)) (by simp [Value.oneCell']) (by omega) (by unfold maxLen; omega) (by omega) (by simp; omega) (W.heap.size + 1) (by simp) ?_; intro gg cap3 w3 hown3 hgrow hat hlt3; obtain ⟨q1, q2, q3, q4⟩ := (T2.out.1.more (w1 := (W.alloc _).drew) (newb W _).drew hgrow (st' := st ++ [⟨d, .slice pd d.len cd, 0⟩]) (by rw [← HOR.out, List.length_append]; exact hown3)); have Q : Hid (Tell (w3.setCell ⟨K, 2, none⟩ (.slice (some ⟨gg, 0, none⟩) (st.length + 1) cap3)) K (self K) bv' (.slice (some ⟨gg, 0, none⟩) (st.length + 1) cap3) (txt ++ [40]) (st ++ [⟨d, .slice pd d.len cd, 0⟩]) ∧ Below w0.heap.size w0 (w3.setCell ⟨K, 2, none⟩ (.slice (some ⟨gg, 0, none⟩) (st.length + 1) cap3))) := ⟨q1, T2.out.2.trans (q4.mono hK)⟩; clear q1 q4 hown3 hgrow hat hlt3))
  all_goals
    go_wp2_with fail
    go_end0
    exact ⟨rfl, Q.out.2, bv', _, by rw [HB0.out.1, HB0.out.2]; exact Q.out.1⟩
end
end Go.Proofs.YtafpbcdgcgffeabGreatDoor
