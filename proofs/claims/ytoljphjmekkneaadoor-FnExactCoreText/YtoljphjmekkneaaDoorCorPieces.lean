/- impl.bracketPieces, impl.corePieces and impl.CoreText. Conditions: at most 2^20 in all; those of impl.Digits and impl.shapeOf. -/
import Derived.Test.YtoljphjmekkneaaDoorCorTold
import Derived.Test.YtoljphjmekkneaaDoorShapes
import Derived.Test.YtoljphjmekkneaaDoorImplDigits
import Derived.Deep.Cut
namespace Go.Proofs.YtoljphjmekkneaaDoor
open Go.ChangeShapes Go.WideShapes Go.ChangeAt Go.RowKit

/-- The word of an op that stands in brackets. -/
theorem word_at (op : Int) (h1 : op ≠ 1) (h2 : op ≠ 2) (h3 : op ≠ 13) : ∃ (s : List UInt8) (a b : Int), shapesL[shapeAt op]? = some (s, a, b) ∧ wordC op = ⟨s.toArray⟩ := by
  cases h : isOpB op with
  | true =>
    obtain ⟨i, rfl, hi1, hi2⟩ := isOp_yes h
    have e : shapeAt (i : Int) = i := by unfold shapeAt; rw [if_pos h]; simp
    rw [e]
    clear h e
    have hi3 : i < 19 := by omega
    clear hi2
    match i, hi1, hi3, h1, h2, h3 with
    | 3, _, _, _, _, _ => exact ⟨_, _, _, rfl, by decide⟩
    | 4, _, _, _, _, _ => exact ⟨_, _, _, rfl, by decide⟩
    | 5, _, _, _, _, _ => exact ⟨_, _, _, rfl, by decide⟩
    | 6, _, _, _, _, _ => exact ⟨_, _, _, rfl, by decide⟩
    | 7, _, _, _, _, _ => exact ⟨_, _, _, rfl, by decide⟩
    | 8, _, _, _, _, _ => exact ⟨_, _, _, rfl, by decide⟩
    | 9, _, _, _, _, _ => exact ⟨_, _, _, rfl, by decide⟩
    | 10, _, _, _, _, _ => exact ⟨_, _, _, rfl, by decide⟩
    | 11, _, _, _, _, _ => exact ⟨_, _, _, rfl, by decide⟩
    | 12, _, _, _, _, _ => exact ⟨_, _, _, rfl, by decide⟩
    | 14, _, _, _, _, _ => exact ⟨_, _, _, rfl, by decide⟩
    | 15, _, _, _, _, _ => exact ⟨_, _, _, rfl, by decide⟩
    | 16, _, _, _, _, _ => exact ⟨_, _, _, rfl, by decide⟩
    | 17, _, _, _, _, _ => exact ⟨_, _, _, rfl, by decide⟩
    | 18, _, _, _, _, _ => exact ⟨_, _, _, rfl, by decide⟩
    | 1, _, _, h, _, _ => exact absurd rfl h
    | 2, _, _, _, h, _ => exact absurd rfl h
    | 13, _, _, _, _, h => exact absurd rfl h
    | n + 19, _, h, _, _, _ => omega
  | false =>
    have e : shapeAt op = 0 := by unfold shapeAt; rw [if_neg (by rw [h]; simp)]
    rw [e]
    refine ⟨_, _, _, rfl, ?_⟩
    unfold isOpB at h
    have hh : op < 1 ∨ 18 < op := by
      simp only [Bool.and_eq_false_iff, decide_eq_false_iff_not] at h
      omega
    unfold wordC
    repeat rw [if_neg (by omega)]

/-- The pieces of the first k names. -/
def nmTo (s t2 : ByteArray) : Nat → List PcC
  | 0 => []
  | 1 => namePcs s
  | _ + 2 => namePcs s ++ namePcs t2
theorem nmTo_len (s t2 : ByteArray) (k : Nat) : (nmTo s t2 k).length ≤ 4 := by
  have h1 := namePcs_len s
  have h2 := namePcs_len t2
  match k with
  | 0 => simp [nmTo]
  | 1 => simp only [nmTo]; omega
  | _ + 2 => simp only [nmTo, List.length_append]; omega
theorem nmTo_succ (s t2 : ByteArray) (k : Nat) (hk : k < 2) : nmTo s t2 (k + 1) = nmTo s t2 k ++ namePcs (if k = 0 then s else t2) := by
  match k, hk with
  | 0, _ => simp [nmTo]
  | 1, _ => simp [nmTo]
theorem namePcs_yes (s : ByteArray) (h : s ≠ ⟨#[]⟩) : namePcs s = [PcC.of ⟨#[32]⟩, PcC.of s] := by
  unfold namePcs
  rw [if_neg ?_]
  intro e
  apply h
  apply ByteArray.ext
  exact Array.eq_empty_of_size_eq_zero e
theorem no_name {s : ByteArray} (h : s ≠ ⟨#[]⟩) : (s.toList == ([] : List UInt8)) = false := by
  rw [ByteArray.toList_eq s, beq_eq_false_iff_ne]
  intro e
  apply h
  apply ByteArray.ext
  exact Array.toList_inj.1 (by simpa using e)
theorem namePcs_no : namePcs ⟨#[]⟩ = [] := rfl

/-- A block of another type stays where the row of pieces turns. -/
theorem keep_blk {wr w1 w2 : World} {X base g n cap : Nat} {cs : Array Value} {ty : TypeId} {fr : Nat × Nat} {xs : List Value} (h : wr.heap[X]? = some (.cells cs ty fr)) (hb : Below wr.heap.size wr w1) (ho : wr.ownsRow base 55 2 (.slice (some ⟨g, 0, none⟩) n cap) n xs) (hg : w1.grownBy w2 (Value.slice (some ⟨g, 0, none⟩) n cap).ownBlock) (hty : ty ≠ 55) : w2.heap[X]? = some (.cells cs ty fr) := by
  have hX := (Array.getElem?_eq_some_iff.1 h).1
  refine (hg.block X (Nat.lt_of_lt_of_le hX hb.size) (fun e => ?_)).trans ((hb.block X hX).trans h)
  simp only [Value.ownBlock, Option.some.injEq] at e
  subst e
  rcases ho.2 with ⟨h0, _⟩ | ⟨g', cap', cur, he, _, hgg, _⟩
  · cases h0
  · injection he with h1 _ _
    injection h1 with h1
    injection h1 with h1
    subst h1
    rw [h] at hgg
    injection hgg with h2
    injection h2 with _ h2
    exact hty h2

set_option maxRecDepth 100000 in
set_option maxHeartbeats 2000000 in
theorem bracket_pieces (t : C) (v : Value) (w1 W : World) (hin : t.In w1 v) (hb : Below w1.heap.size w1 W) (hw : t.weight ≤ 1048576) (hS : ShapeTab w1) (h1 : t.op ≠ 1) (h2 : t.op ≠ 2) (h3 : t.op ≠ 13) :
    Calls Tryd.prog 30 #[.agg #[.int .i64 t.op, .int .i64 t.n, .string t.s, .string t.t2, v]] W (PcsAreC w1 W t) := by
  obtain ⟨i0, hi, hz0, hz1, hz2⟩ := info_parts piece_infoC
  obtain ⟨sw, sa, sb, hsh, hwd⟩ := word_at t.op h1 h2 h3
  have hno : t ≠ .no := fun e => by subst e; exact hin.elim
  have htx := t.text_else hno h1 h2 h3
  have hst := t.steps_eq hno
  have hsl := hin.sl
  have hwe := t.weight_eq
  obtain ⟨p, cap, b, o, V, ev, hlen, hbo, hat⟩ : ∃ (p : Option Addr) (cap b o : Nat) (V : Nat → Value), v = .slice p t.len cap ∧ t.len ≤ maxLen ∧ (0 < t.len → p = some ⟨b, o, none⟩) ∧ ∀ i, i < t.len → HeadC w1 b (o + i * 5) (t.kid i) (V i) ∧ (t.kid i).In w1 (V i) := by
    rcases hsl with ⟨h0, p, cap, rfl⟩ | ⟨b, o, cap, V, rfl, _, h1, h2, h4⟩
    · exact ⟨p, cap, 0, 0, fun _ => .bool false, by rw [h0], by rw [h0]; exact Nat.zero_le _, fun h => by omega, fun i hi => by omega⟩
    · exact ⟨_, cap, b, o, V, rfl, Nat.le_trans h1 h2, fun _ => rfl, h4⟩
  have hl20 : t.len ≤ 1048576 := by unfold kidsWeightC at hwe; omega
  have HF : Hid (PcsOfC w1 t (brPcs t.op t.s t.t2 t.kid V b o t.len)) := by
    refine ⟨(brPcs_told t.op t.s t.t2 t.kid V b o t.len).trans htx.symm, by rw [hst]; exact brPcs_goes t.op t.s t.t2 t.kid V b o t.len, brPcs_in (fun i hi => ⟨(hat i hi).1, (hat i hi).2, ?_⟩)⟩
    have := sumTo_at (fun i => (t.kid i).weight) i t.len hi
    unfold kidsWeightC at hwe
    omega
  have HSH : Hid (∀ W', Below W.heap.size W W' → Calls Tryd.prog 37 #[.int .i64 t.op] W' fun e w' => e = .returned (.agg #[.string ⟨sw.toArray⟩, .int .i64 sa, .int .i64 sb]) ∧ Below W'.heap.size W' w') := fun W' h => shape_of t.op sw sa sb hsh W' ((hS.below hb).below h)
  have HWD : Hid (wordC t.op = ⟨sw.toArray⟩) := hwd
  have hs1 : t.s.size ≤ 1048576 := by omega
  have hs2 : t.t2.size ≤ 1048576 := by omega
  clear hin hb hw hS hsl hat htx hst hwe hsh hwd hno h1 h2 h3
  unfold maxLen at hlen
  subst ev
  have HNB : Hid (∀ o, Below W.heap.size W (W.alloc o)) := fun o => newb W o
  obtain ⟨TB, hTB⟩ : ∃ TB, TB = W.heap.size := ⟨_, rfl⟩
  obtain ⟨W1, hW1⟩ : ∃ W1, W1 = W.alloc (.cells #[.int .i64 t.op, .int .i64 t.n, .string t.s, .string t.t2, .slice p t.len cap] 29) := ⟨_, rfl⟩
  have HW1 : Hid (W1 = W.alloc (.cells #[.int .i64 t.op, .int .i64 t.n, .string t.s, .string t.t2, .slice p t.len cap] 29) ∧ TB = W.heap.size) := ⟨hW1, hTB⟩
  have HT1 : Hid (Below W.heap.size W W1 ∧ W1.heap[TB]? = some (.cells #[.int .i64 t.op, .int .i64 t.n, .string t.s, .string t.t2, .slice p t.len cap] 29 (0, 0))) := ⟨by rw [hW1]; exact newb W _, by rw [hW1, hTB]; exact heap_alloc_new W _⟩
  have q0 : W1.cell? ⟨TB, 0, none⟩ = some (.int .i64 t.op) := cell_of_row W1 TB 0 _ _ _ HT1.out.2
  clear hTB hW1
  have hfd : ∀ wx : World, (Instr.field 69 (.agg #[.string ⟨sw.toArray⟩, .int .i64 sa, .int .i64 sb]) 0).run Tryd.prog wx = .ok (.string ⟨sw.toArray⟩) wx := fun _ => by kernel_rfl
  go_enter Tryd.func30, Tryd.ntmps30
  go_upto_region 1 with fail
  rw [← HW1.out.1, ← HW1.out.2]
  go_wp2_with fail
  refine (HSH.out _ HT1.out.1).mono ?_
  rintro e w2 ⟨rfl, hb2⟩
  have HT2 : Hid (Below W.heap.size W w2 ∧ w2.heap[TB]? = some (.cells #[.int .i64 t.op, .int .i64 t.n, .string t.s, .string t.t2, .slice p t.len cap] 29 (0, 0))) := ⟨HT1.out.1.trans (hb2.mono HT1.out.1.size), (hb2.block _ (Array.getElem?_eq_some_iff.1 HT1.out.2).1).trans HT1.out.2⟩
  clear hb2 q0
  go_upto_region 2 with fail
  clear hfd
  obtain ⟨hd, hhd⟩ : ∃ hd, hd = [PcC.of ⟨#[40]⟩, PcC.of (wordC t.op)] := ⟨_, rfl⟩
  obtain ⟨w3, hw3⟩ : ∃ w3, w3 = w2.alloc (.cells #[.string ⟨#[40]⟩, .pointer none, .string ⟨sw.toArray⟩, .pointer none] 55) := ⟨_, rfl⟩
  obtain ⟨G1, hG1⟩ : ∃ G1, G1 = w2.heap.size := ⟨_, rfl⟩
  have HP3 : Hid (PLC W w3 hd G1 2 ∧ w3.heap[TB]? = some (.cells #[.int .i64 t.op, .int .i64 t.n, .string t.s, .string t.t2, .slice p t.len cap] 29 (0, 0)) ∧ hd.length = 2) := by
    refine ⟨⟨?_, ?_⟩, ?_, by rw [hhd]; rfl⟩
    · rw [hw3, hhd, HWD.out]
      exact own_new rfl hG1.symm (by have := HT2.out.1.size; omega) rfl rfl (by unfold maxLen; omega)
    · rw [hw3]; exact HT2.out.1.trans ((newb _ _).mono HT2.out.1.size)
    · rw [hw3, Below.heap_alloc _ _ _ (Array.getElem?_eq_some_iff.1 HT2.out.2).1]; exact HT2.out.2
  have HHD : Hid (hd = [PcC.of ⟨#[40]⟩, PcC.of (wordC t.op)]) := hhd
  rw [← hw3, ← hG1]
  have W3E := hid_ofPC hw3
  have G1E := hid_ofPC hG1
  clear hhd hw3 hG1 HT2
  obtain ⟨NB, hNB⟩ : ∃ NB, NB = w3.heap.size := ⟨_, rfl⟩
  obtain ⟨w4, hw4⟩ : ∃ w4, w4 = w3.alloc (.cells #[.string t.s, .string t.t2] 9) := ⟨_, rfl⟩
  have HP4 : Hid (PLC W w4 hd G1 2 ∧ w4.heap[TB]? = some (.cells #[.int .i64 t.op, .int .i64 t.n, .string t.s, .string t.t2, .slice p t.len cap] 29 (0, 0)) ∧ w4.heap[NB]? = some (.cells #[.string t.s, .string t.t2] 9 (0, 0))) := by
    have nb : Below w3.heap.size w3 w4 := by rw [hw4]; exact newb _ _
    exact ⟨⟨own_below5 HP3.out.1.own nb, HP3.out.1.bel.trans (nb.mono HP3.out.1.bel.size)⟩, (nb.block _ (Array.getElem?_eq_some_iff.1 HP3.out.2.1).1).trans HP3.out.2.1, by rw [hw4, hNB]; exact heap_alloc_new w3 _⟩
  have q2 : w3.cell? ⟨TB, 2, none⟩ = some (.string t.s) := cell_of_row w3 TB 2 _ _ _ HP3.out.2.1
  have q3 : w3.cell? ⟨TB, 3, none⟩ = some (.string t.t2) := cell_of_row w3 TB 3 _ _ _ HP3.out.2.1
  have N4E := hid_ofPC hNB
  have W4E := hid_ofPC hw4
  clear hNB hw4
  go_wp2_with fail
  rw [← W4E.out, ← N4E.out]
  clear q2 q3
  go_loopw [3, 20] (fun lv i wr => ∃ (k g cp : Nat), i = .int .i64 k ∧ k ≤ 2 ∧ lv = .slice (some ⟨g, 0, none⟩) (hd ++ nmTo t.s t.t2 k).length cp ∧ PLC W wr (hd ++ nmTo t.s t.t2 k) g cp ∧ wr.heap[TB]? = some (.cells #[.int .i64 t.op, .int .i64 t.n, .string t.s, .string t.t2, .slice p t.len cap] 29 (0, 0)) ∧ wr.heap[NB]? = some (.cells #[.string t.s, .string t.t2] 9 (0, 0))) (fun _ i _ => 2 - (intOf i).toNat)
  case atStart =>
    have e0 : hd ++ nmTo t.s t.t2 0 = hd := List.append_nil _
    refine ⟨0, G1, 2, rfl, Nat.zero_le _, ?_, ?_, HP4.out.2.1, HP4.out.2.2⟩
    · rw [e0, HP3.out.2.2]
    · rw [e0]; exact HP4.out.1
  case round =>
    obtain ⟨k, g, gc, rfl, hk, rfl, hL, hT, hN⟩ := hrel
    have HL : Hid (PLC W wr (hd ++ nmTo t.s t.t2 k) g gc ∧ wr.heap[TB]? = some (.cells #[.int .i64 t.op, .int .i64 t.n, .string t.s, .string t.t2, .slice p t.len cap] 29 (0, 0)) ∧ wr.heap[NB]? = some (.cells #[.string t.s, .string t.t2] 9 (0, 0))) := ⟨hL, hT, hN⟩
    have hcl : (hd ++ nmTo t.s t.t2 k).length ≤ 6 := by have h1 := nmTo_len t.s t.t2 k; have h2 := HP3.out.2.2; rw [List.length_append]; omega
    obtain ⟨hr1, hr2, hr3, hr4⟩ := own_room hL.own
    unfold maxLen at hr2
    have hWS : W.heap.size ≤ wr.heap.size := hL.bel.size
    by_cases hlt : (k : Int) < 2
    · have hlt' : k < 2 := by omega
      obtain ⟨nm, hnm, hcell⟩ : ∃ nm, nm = (if k = 0 then t.s else t.t2) ∧ wr.cell? ⟨NB, k, none⟩ = some (.string nm) := by
        refine ⟨_, rfl, ?_⟩
        match k, hlt' with
        | 0, _ => exact cell_of_row wr NB 0 _ _ _ hN
        | 1, _ => exact cell_of_row wr NB 1 _ _ _ hN
      have hnx := nmTo_succ t.s t.t2 k hlt'
      rw [← hnm] at hnx
      have HNX : Hid (hd ++ nmTo t.s t.t2 (k + 1) = (hd ++ nmTo t.s t.t2 k) ++ namePcs nm) := by show _ = _; rw [hnx, List.append_assoc]
      clear hnx hnm hL hT hN HP4
      by_cases hz : nm = ⟨#[]⟩
      · subst hz
        go_wp2_with fail
        go_roundw
        case rel =>
          have e1 := HNX.out
          rw [namePcs_no, List.append_nil] at e1
          obtain ⟨a1, a2, a3⟩ := HL.out
          rw [← e1] at a1
          first | exact ⟨k + 1, g, gc, by go_num, by omega, by rw [e1], a1, a2, a3⟩ | ((repeat apply Exists.intro); exact ⟨⟨k + 1, g, gc, by go_num, by omega, by rw [e1], a1, a2, a3⟩, rfl⟩)
        case measure => simp [intOf]; omega
      · have z1 : (nm.toList == ([] : List UInt8)) = false := no_name hz
        have z2 : (nm.toList != ([] : List UInt8)) = true := by rw [bne, z1]; rfl
        have HNY : Hid (hd ++ nmTo t.s t.t2 (k + 1) = (hd ++ nmTo t.s t.t2 k) ++ [PcC.of ⟨#[32]⟩, PcC.of nm]) := by show _ = _; rw [HNX.out, namePcs_yes nm hz]
        clear HNX
        generalize hd ++ nmTo t.s t.t2 k = l at *
        obtain ⟨l2, hl2⟩ : ∃ l2, l2 = hd ++ nmTo t.s t.t2 (k + 1) := ⟨_, rfl⟩
        have HE2 := hid_ofPC hl2
        rw [← hl2] at HNY
        clear hl2
        go_wp2_with (at_builtin; refine wpList_append_own _ rfl _ _ 56 rfl W.heap.size 55 i0 (.agg #[.string ⟨#[]⟩, .pointer none]) 2 24 Tryd.underlying56 hi hz0 hz1 hz2 rfl (by decide) _ _ _ rfl (HL.out.1.own.alloc _) ⟨wr.heap.size, 0, none⟩ 2 2 (pcrowsC [PcC.of ⟨#[32]⟩, PcC.of nm]) rfl rfl ?d1 (pcs_oneCellC _) ?d3 ?d4 ?d5 ?_)
        case d1 => first | exact fun j u h => h | exact World.news_of_block (cs := #[.string ⟨#[32]⟩, .pointer none, .string nm, .pointer none]) (t := 55) (fr := (0, 0)) (heap_alloc_new wr _)
        case d3 => unfold maxLen; omega
        case d4 => omega
        case d5 => first | omega | (simp; omega)
        intro v3 w5 hown3 hgrow3 _
        obtain ⟨g3, cap3, rfl, hL3⟩ := HL.out.1.more (newb wr _) (ps := [PcC.of ⟨#[32]⟩, PcC.of nm]) hown3 hgrow3 (by simp)
        rw [← HNY.out] at hL3 ⊢
        have HL3 : Hid (PLC W w5 l2 g3 cap3 ∧ w5.heap[TB]? = some (.cells #[.int .i64 t.op, .int .i64 t.n, .string t.s, .string t.t2, .slice p t.len cap] 29 (0, 0)) ∧ w5.heap[NB]? = some (.cells #[.string t.s, .string t.t2] 9 (0, 0))) := ⟨hL3, keep_blk HL.out.2.1 (newb wr _) HL.out.1.own hgrow3 (by decide), keep_blk HL.out.2.2 (newb wr _) HL.out.1.own hgrow3 (by decide)⟩
        clear hown3 hgrow3 hL3 HL
        go_wp2_with fail
        go_roundw
        case rel =>
          obtain ⟨a1, a2, a3⟩ := HL3.out
          rw [HE2.out] at a1
          first | exact ⟨k + 1, g3, cap3, by go_num, by omega, by rw [HE2.out], a1, a2, a3⟩ | ((repeat apply Exists.intro); exact ⟨⟨k + 1, g3, cap3, by go_num, by omega, by rw [HE2.out], a1, a2, a3⟩, rfl⟩)
        case measure => simp [intOf]; omega
    · have hke : k = 2 := by omega
      subst hke
      have HHP : Hid (hd ++ nmTo t.s t.t2 2 = headPcs t.op t.s t.t2) := by show _ = _; rw [HHD.out]; rfl
      have q4 : wr.cell? ⟨TB, 4, none⟩ = some (.slice p t.len cap) := cell_of_row wr TB 4 _ _ _ hT
      have HHL : Hid ((headPcs t.op t.s t.t2).length ≤ 6) := by rw [← HHP.out]; exact hcl
      rw [HHP.out]
      rw [HHP.out] at HL
      clear hL hT hN HP4 hcl hr1
      have HBR : Hid (brPcs t.op t.s t.t2 t.kid V b o t.len = (headPcs t.op t.s t.t2 ++ kidPcsC t.kid V b o t.len) ++ [PcC.of ⟨#[41]⟩]) := rfl
      generalize brPcs t.op t.s t.t2 t.kid V b o t.len = BR at *
      generalize headPcs t.op t.s t.t2 = hp at *
      have e0 : hp ++ kidPcsC t.kid V b o 0 = hp := List.append_nil _
      have HE0 := hid_ofPC e0
      clear e0
      go_wp2_with fail
      go_loopw [3, 36] (fun lv i wr => ∃ (k g cp : Nat), i = .int .i64 k ∧ k ≤ t.len ∧ lv = .slice (some ⟨g, 0, none⟩) (hp ++ kidPcsC t.kid V b o k).length cp ∧ PLC W wr (hp ++ kidPcsC t.kid V b o k) g cp ∧ wr.heap[TB]? = some (.cells #[.int .i64 t.op, .int .i64 t.n, .string t.s, .string t.t2, .slice p t.len cap] 29 (0, 0))) (fun _ i _ => t.len - (intOf i).toNat)
      case atStart =>
        refine ⟨0, g, gc, rfl, Nat.zero_le _, ?_, ?_, HL.out.2.1⟩
        · rw [HE0.out]
        · rw [HE0.out]; exact HL.out.1
      case round =>
        obtain ⟨k, g, gc, rfl, hk, rfl, hL, hT⟩ := hrel
        have HL2 : Hid (PLC W wr (hp ++ kidPcsC t.kid V b o k) g gc ∧ wr.heap[TB]? = some (.cells #[.int .i64 t.op, .int .i64 t.n, .string t.s, .string t.t2, .slice p t.len cap] 29 (0, 0))) := ⟨hL, hT⟩
        have hcl : (hp ++ kidPcsC t.kid V b o k).length ≤ 3000000 := by have h1 := kidPcsC_len t.kid V b o k; have h2 := HHL.out; rw [List.length_append]; omega
        obtain ⟨hr1, hr2, hr3, hr4⟩ := own_room hL.own
        unfold maxLen at hr2
        have hWS : W.heap.size ≤ wr.heap.size := hL.bel.size
        have q5 : wr.cell? ⟨TB, 4, none⟩ = some (.slice p t.len cap) := cell_of_row wr TB 4 _ _ _ hT
        have hTl : TB < wr.heap.size := (Array.getElem?_eq_some_iff.1 hT).1
        clear hL hT HL q4
        by_cases hlt : (k : Int) < t.len
        · have hlt' : k < t.len := by omega
          obtain rfl := hbo (by omega)
          have HNX : Hid ((hp ++ kidPcsC t.kid V b o k) ++ [PcC.of ⟨#[32]⟩, PcC.tree (t.kid k) (V k) b (o + k * 5)] = hp ++ kidPcsC t.kid V b o (k + 1)) := by
            show _ = hp ++ (kidPcsC t.kid V b o k ++ [PcC.of ⟨#[32]⟩, PcC.tree (t.kid k) (V k) b (o + k * 5)])
            rw [List.append_assoc]
          generalize hp ++ kidPcsC t.kid V b o k = l at *
          obtain ⟨l2, hl2⟩ : ∃ l2, l2 = hp ++ kidPcsC t.kid V b o (k + 1) := ⟨_, rfl⟩
          have HE2 := hid_ofPC hl2
          rw [← hl2] at HNX
          clear hl2
          go_wp2_with (at_builtin; refine wpList_append_own _ rfl _ _ 56 rfl W.heap.size 55 i0 (.agg #[.string ⟨#[]⟩, .pointer none]) 2 24 Tryd.underlying56 hi hz0 hz1 hz2 rfl (by decide) _ _ _ rfl (HL2.out.1.own.alloc _) ⟨wr.heap.size, 0, none⟩ 2 2 (pcrowsC [PcC.of ⟨#[32]⟩, PcC.tree (t.kid k) (V k) b (o + k * 5)]) rfl rfl ?d1 (pcs_oneCellC _) ?d3 ?d4 ?d5 ?_)
          case d1 => first | exact fun j u h => h | exact World.news_of_block (cs := #[.string ⟨#[32]⟩, .pointer none, .string ⟨#[]⟩, .pointer (some ⟨b, o + k * 5, none⟩)]) (t := 55) (fr := (0, 0)) (heap_alloc_new wr _)
          case d3 => unfold maxLen; omega
          case d4 => omega
          case d5 => first | omega | (simp; omega)
          intro v3 w5 hown3 hgrow3 _
          obtain ⟨g3, cap3, rfl, hL3⟩ := HL2.out.1.more (newb wr _) (ps := [PcC.of ⟨#[32]⟩, PcC.tree (t.kid k) (V k) b (o + k * 5)]) hown3 hgrow3 (by simp)
          rw [HNX.out] at hL3 ⊢
          have HL3 : Hid (PLC W w5 l2 g3 cap3 ∧ w5.heap[TB]? = some (.cells #[.int .i64 t.op, .int .i64 t.n, .string t.s, .string t.t2, .slice (some ⟨b, o, none⟩) t.len cap] 29 (0, 0))) := ⟨hL3, keep_blk HL2.out.2 (newb wr _) HL2.out.1.own hgrow3 (by decide)⟩
          clear hown3 hgrow3 hL3 HL2
          go_wp2_with fail
          go_roundw
          case rel =>
            obtain ⟨a1, a2⟩ := HL3.out
            rw [HE2.out] at a1
            first | exact ⟨k + 1, g3, cap3, by go_num, by omega, by rw [HE2.out], a1, a2⟩ | ((repeat apply Exists.intro); exact ⟨⟨k + 1, g3, cap3, by go_num, by omega, by rw [HE2.out], a1, a2⟩, rfl⟩)
          case measure => simp [intOf]; omega
        · have hke : k = t.len := by omega
          have HNX : Hid ((hp ++ kidPcsC t.kid V b o k) ++ [PcC.of ⟨#[41]⟩] = BR) := by rw [hke]; exact HBR.out.symm
          generalize hp ++ kidPcsC t.kid V b o k = l at *
          go_wp2_with (at_builtin; refine wpList_append_own _ rfl _ _ 56 rfl W.heap.size 55 i0 (.agg #[.string ⟨#[]⟩, .pointer none]) 2 24 Tryd.underlying56 hi hz0 hz1 hz2 rfl (by decide) _ _ _ rfl (HL2.out.1.own.alloc _) ⟨wr.heap.size, 0, none⟩ 1 1 (pcrowsC [PcC.of ⟨#[41]⟩]) rfl rfl ?d1 (pcs_oneCellC _) ?d3 ?d4 ?d5 ?_)
          case d1 => first | exact fun j u h => h | exact World.news_of_block (cs := #[.string ⟨#[41]⟩, .pointer none]) (t := 55) (fr := (0, 0)) (heap_alloc_new wr _)
          case d3 => unfold maxLen; omega
          case d4 => omega
          case d5 => first | omega | (simp; omega)
          intro v3 w5 hown3 hgrow3 _
          obtain ⟨g3, cap3, rfl, hL3⟩ := HL2.out.1.more (newb wr _) (ps := [PcC.of ⟨#[41]⟩]) hown3 hgrow3 (by simp)
          rw [HNX.out] at hL3 ⊢
          have HL3 : Hid (PLC W w5 BR g3 cap3) := hL3
          clear hown3 hgrow3 hL3 HL2
          go_wp2_with fail
          go_ret
          exact ⟨g3, cap3, BR, rfl, HL3.out.own, HL3.out.bel, HF.out⟩

set_option maxRecDepth 100000 in
set_option maxHeartbeats 2000000 in
theorem core_pieces (w : World) (ht : PowTab w) (hS : ShapeTab w) : PiecesAtC w := by
  intro w1 W t v hb0 hb1 hin hw
  obtain ⟨pv, cv, ev⟩ := hin.sl.shape
  have hn := hin.num
  have HP : Hid (∀ W', Below W.heap.size W W' → PowTab W') := fun W' h => (ht.below (hb0.trans (hb1.mono hb0.size))).below h
  have HNB : Hid (∀ o, Below W.heap.size W (W.alloc o)) := fun o => newb W o
  by_cases c1 : t.op = 1
  · have HT : Hid (t.text = Lib.itoa t.n) := t.text_num c1
    rw [c1]
    clear hin hb0 hb1 ht hS
    subst ev
    go_enter Tryd.func17, Tryd.ntmps17
    go_wp2_with fail
    refine (impl_digits t.n hn.1 hn.2 _ (HP.out _ (HNB.out _))).mono ?_
    rintro e w2 ⟨rfl, hb2⟩
    have HB2 : Hid (Below W.heap.size W w2) := (HNB.out _).trans (hb2.mono (HNB.out _).size)
    clear hb2
    go_wp2_with fail
    go_ret
    refine ⟨w2.heap.size, 1, [PcC.of ⟨(Lib.itoa t.n).toArray⟩], rfl, own_new rfl rfl HB2.out.size rfl rfl (by unfold maxLen; omega), HB2.out.trans ((newb _ _).mono HB2.out.size), PcsOfC.one (by rw [HT.out])⟩
  by_cases c2 : t.op = 2
  · have HT : Hid (t.text = t.s.data.toList) := t.text_var c2
    rw [c2]
    clear hin hb0 hb1 ht hS
    subst ev
    go_enter Tryd.func17, Tryd.ntmps17
    go_wp2_with fail
    go_ret
    refine ⟨W.heap.size + 1, 1, [PcC.of t.s], by simp, own_new rfl (by simp) (by omega) rfl rfl (by unfold maxLen; omega), (HNB.out _).trans ((newb _ _).mono (by simp)), PcsOfC.one (by rw [HT.out])⟩
  by_cases c3 : t.op = 13
  · have HT : Hid (t.text = [40, 41]) := t.text_nil c3
    rw [c3]
    clear hin hb0 hb1 ht hS
    subst ev
    go_enter Tryd.func17, Tryd.ntmps17
    go_wp2_with fail
    go_ret
    refine ⟨W.heap.size + 1, 1, [PcC.of ⟨#[40, 41]⟩], by simp, own_new rfl (by simp) (by omega) rfl rfl (by unfold maxLen; omega), (HNB.out _).trans ((newb _ _).mono (by simp)), PcsOfC.one (by rw [HT.out])⟩
  · have HBP : Hid (∀ o, Calls Tryd.prog 30 #[.agg #[.int .i64 t.op, .int .i64 t.n, .string t.s, .string t.t2, v]] (W.alloc o) (PcsAreC w1 (W.alloc o) t)) := fun o => bracket_pieces t v w1 _ hin (hb1.trans ((newb W o).mono hb1.size)) hw (hS.below hb0) c1 c2 c3
    have g1 : (t.op == 1) = false := by simpa using c1
    have g2 : (t.op == 2) = false := by simpa using c2
    have g3 : (t.op == 13) = false := by simpa using c3
    clear hin hb0 hb1 ht hS
    subst ev
    go_enter Tryd.func17, Tryd.ntmps17
    go_wp2_with fail
    refine (HBP.out _).mono ?_
    rintro e w2 ⟨g, cap, ps, rfl, ho, hb, hof⟩
    have HF : Hid (PcsAreC w1 W t (.returned (.slice (some ⟨g, 0, none⟩) ps.length cap)) w2) := by
      have hnb := newb W (.cells #[.int .i64 t.op, .int .i64 t.n, .string t.s, .string t.t2, .slice pv t.len cv] 29)
      exact ⟨g, cap, ps, rfl, own_monoPcC ho hnb.size, hnb.trans (hb.mono hnb.size), hof⟩
    clear ho hb hof
    go_wp2_with fail
    go_ret
    exact HF.out

set_option maxRecDepth 100000 in
set_option maxHeartbeats 2000000 in
theorem impl_ctext (x : C) (w : World) (v : Value) (hin : x.In w v) (hw : x.weight ≤ 1048576) (ht : PowTab w) (hS : ShapeTab w) :
    Calls Tryd.prog 8 #[.agg #[.int .i64 x.op, .int .i64 x.n, .string x.s, .string x.t2, v]] w fun e w' => e = .returned (.string ⟨x.text.toArray⟩) ∧ Below w.heap.size w w' := by
  obtain ⟨pv, cv, ev⟩ := hin.sl.shape
  have HC : Hid (∀ o, Calls Tryd.prog 16 #[.agg #[.int .i64 x.op, .int .i64 x.n, .string x.s, .string x.t2, v], .func (.func 17) #[] #[]] (w.alloc o) fun e w' => e = .returned (.string ⟨x.text.toArray⟩) ∧ Below w.heap.size w w') :=
    fun o => (told_textC x _ v (hin.below (newb w o)) hw (core_pieces _ (ht.below (newb w o)) (hS.below (newb w o)))).mono (fun e w' h => ⟨h.1, (newb w o).trans (h.2.mono (newb w o).size)⟩)
  clear hin hw ht hS
  subst ev
  generalize x.text = T at *
  go_enter Tryd.func8, Tryd.ntmps8
  go_wp2_with fail
  refine (HC.out _).mono ?_
  rintro e w1 ⟨rfl, hb1⟩
  have HB1 : Hid (Below w.heap.size w w1) := hb1
  clear hb1
  go_wp2_with fail
  go_ret
  exact ⟨rfl, HB1.out⟩
end Go.Proofs.YtoljphjmekkneaaDoor
