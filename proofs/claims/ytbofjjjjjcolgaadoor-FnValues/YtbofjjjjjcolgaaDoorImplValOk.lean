/- impl.ValueOk. Condition: at most 2^20 values. -/
import Derived.Test.YtbofjjjjjcolgaaDoorImplAllOf
import Derived.Test.YtbofjjjjjcolgaaDoorImplKidLists
import Derived.Deep.LoopGhost
namespace Go.Proofs.YtbofjjjjjcolgaaDoor
open Go.ChangeShapes Go.WideShapes Go.ChangeAt Go.RowKit

/-- What stands between rounds. -/
structure VS (w wr : World) (t : Vt) (deep : Nat) (lv : Value) (L : List Lst) : Prop where
  own : ∃ base, w.heap.size ≤ base ∧ wr.ownsRow base 24 1 lv L.length (valsV L)
  ins : ∀ e ∈ L, VlP 0 wr e.len e.kid e.v ∧ 0 < e.len
  wt : wL L ≤ 2097152
  ok : okV 200 t = okL (200 - deep) L
  bel : Below w.heap.size w wr

theorem VS.shape {w wr : World} {t : Vt} {deep : Nat} {lv : Value} {L : List Lst} (h : VS w wr t deep lv L) : ∃ p cap, lv = .slice p L.length cap := by
  obtain ⟨base, _, h⟩ := h.own
  rcases h.2 with ⟨e, h0⟩ | ⟨g, cap, cur, he, _⟩
  · exact ⟨none, 0, by rw [e, h0]⟩
  · exact ⟨_, _, he⟩
theorem VS.below {w wr w' : World} {t : Vt} {deep : Nat} {lv : Value} {L : List Lst} (h : VS w wr t deep lv L) (hb : Below wr.heap.size wr w') : VS w w' t deep lv L := by
  obtain ⟨base, h1, h2⟩ := h.own
  exact ⟨⟨base, h1, own_below5 h2 hb⟩, fun e he => ⟨(h.ins e he).1.below hb, (h.ins e he).2⟩, h.wt, h.ok, h.bel.trans (hb.mono h.bel.size)⟩

/-- All lists that were asked so far are right by their fields. -/
def fieldsTo (L : List Lst) (k : Nat) : Prop := ∀ m e, m < k → L[m]? = some e → ∀ i, i < e.len → fieldsV (e.kid i) = true

set_option maxRecDepth 100000 in
set_option maxHeartbeats 4000000 in
theorem impl_value_ok (t : Vt) (w : World) (v : Value) (hin : t.InP 0 w v) (hw : t.weight ≤ 1048576) :
    Calls Tryd.prog 9 #[.agg #[.int .i64 t.op, .int .i64 t.n, v]] w fun e w' => e = .returned (.bool (valueB t)) ∧ Below w.heap.size w w' := by
  obtain ⟨p, cap, eu⟩ := hin.sl.shape
  have hcw := t.count_weight
  have hnum := hin.inB.num
  obtain ⟨w1, hw1⟩ : ∃ w1, w1 = w.alloc (.cells #[.int .i64 t.op, .int .i64 t.n, v] 26) := ⟨_, rfl⟩
  obtain ⟨w2, hw2⟩ : ∃ w2, w2 = w1.alloc (.cells #[.int .i64 t.op, .int .i64 t.n, v] 26) := ⟨_, rfl⟩
  obtain ⟨w3, hw3⟩ : ∃ w3, w3 = w2.alloc (.cells #[.slice (some ⟨w1.heap.size, 0, none⟩) 1 1] 24) := ⟨_, rfl⟩
  have b1 : Below w.heap.size w w1 := by rw [hw1]; exact newb w _
  have b2 : Below w1.heap.size w1 w2 := by rw [hw2]; exact newb w1 _
  have b3 : Below w2.heap.size w2 w3 := by rw [hw3]; exact newb w2 _
  have hn2 : w2.heap[w1.heap.size]? = some (.cells #[.int .i64 t.op, .int .i64 t.n, v] 26 (0, 0)) := by rw [hw2]; exact heap_alloc_new w1 _
  have hn3 : w3.heap[w1.heap.size]? = some (.cells #[.int .i64 t.op, .int .i64 t.n, v] 26 (0, 0)) := (b3.block _ (Array.getElem?_eq_some_iff.1 hn2).1).trans hn2
  have bb : Below w.heap.size w w3 := (b1.trans (b2.mono b1.size)).trans (b3.mono (Nat.le_trans b1.size b2.size))
  have HV0 : Hid (VS w w3 t 0 (.slice (some ⟨w2.heap.size, 0, none⟩) 1 1) [⟨1, fun _ => t, .slice (some ⟨w1.heap.size, 0, none⟩) 1 1⟩]) := by
    refine ⟨⟨w2.heap.size, Nat.le_trans b1.size b2.size, ?_⟩, ?_, ?_, ?_, bb⟩
    · rw [hw3]; exact own_new rfl rfl (Nat.le_refl _) rfl rfl (by unfold maxLen; omega)
    · intro e he
      simp only [List.mem_singleton] at he
      subst he
      refine ⟨.inr ⟨w1.heap.size, 0, 1, fun _ => v, rfl, Nat.zero_le _, ⟨_, _, hn3⟩, Nat.le_refl _, by unfold maxLen; omega, fun i hi => ?_⟩, by simp⟩
      simp only at hi
      have hi0 : i = 0 := by omega
      subst hi0
      exact ⟨⟨cell_of_row w3 _ 0 _ _ _ hn3, cell_of_row w3 _ 1 _ _ _ hn3, cell_of_row w3 _ 2 _ _ _ hn3⟩, hin.below bb⟩
    · simp [wL, sumTo]; omega
    · simp [okL, okLst, allTo]
  have HWE : Hid (w1 = w.alloc (.cells #[.int .i64 t.op, .int .i64 t.n, v] 26) ∧ w2 = w1.alloc (.cells #[.int .i64 t.op, .int .i64 t.n, v] 26) ∧ w3 = w2.alloc (.cells #[.slice (some ⟨w1.heap.size, 0, none⟩) 1 1] 24) ∧ w1.heap.size = w.heap.size + 1 ∧ w2.heap.size = w.heap.size + 1 + 1) := ⟨hw1, hw2, hw3, by rw [hw1]; simp, by rw [hw2, hw1]; simp⟩
  have HVB : Hid (valueB t = okV 200 t) := rfl
  generalize valueB t = R at *
  clear hin hw hcw hw1 hw2 hw3 b1 b2 b3 hn2 hn3 bb
  subst eu
  go_enter Tryd.func9, Tryd.ntmps9
  go_wp2_with fail
  rw [← HWE.out.1, ← HWE.out.2.2.2.1, ← HWE.out.2.1, ← HWE.out.2.2.1]
  go_loopw [3, 4] (fun lv i wr => ∃ (deep : Nat) (L : List Lst), i = .int .i64 deep ∧ deep ≤ 200 ∧ VS w wr t deep lv L) (fun _ i _ => 201 - (intOf i).toNat)
  case atStart =>
    have h := HV0.out
    rw [show w2.heap.size = w1.heap.size + 1 from by have := HWE.out.2.2.2; omega] at h
    exact ⟨0, _, rfl, by omega, h⟩
  case round =>
    obtain ⟨deep, L, rfl, hdp, hvs⟩ := hrel
    obtain ⟨pl, cl, esh⟩ := hvs.shape
    have HVS := hid_ofK hvs
    have hll : L.length ≤ 2097152 := by have := wL_len (fun e he => (hvs.ins e he).2); have := hvs.wt; omega
    clear hvs HV0 HWE
    subst esh
    cases L with
    | nil =>
      have HR : Hid (R = true) := HVB.out.trans (HVS.out.ok.trans rfl)
      go_wp2_with fail
      go_ret
      exact ⟨ret_bool HR.out.symm, HVS.out.bel⟩
    | cons e0 r0 =>
      obtain ⟨L, hL⟩ : ∃ L, L = e0 :: r0 := ⟨_, rfl⟩
      rw [← hL] at HVS hll ⊢
      have hne : L ≠ [] := by rw [hL]; simp
      have hlp : 0 < L.length := List.length_pos_iff.2 hne
      have HNE := hid_ofK hne
      clear hL hne
      obtain ⟨base, hbase, hown⟩ := HVS.out.own
      obtain ⟨g, cp, elv, hc1, hc2⟩ := own_someV hown hlp
      injection elv with elv1 elv2 elv3
      subst elv1 elv3
      have HC : Hid (∀ (k : Nat) (e : Lst), L[k]? = some e → wr.cell? ⟨g, k, none⟩ = some e.v) := by
        intro k e he
        have hk : k < L.length := (List.getElem?_eq_some_iff.1 he).1
        have h1 := hown.cellAt k (by omega)
        rw [h1]
        unfold valsV
        rw [List.getElem?_map, he]; rfl
      clear hown hbase elv2
      unfold maxLen at hc2
      generalize hln : L.length = ln at *
      have HLN := hid_ofK hln
      clear hln
      have hlz : (0 : Int) < ln := by omega
      by_cases hd : deep = 200
      · subst hd
        have HR : Hid (R = false) := HVB.out.trans (HVS.out.ok.trans (okL_zero HNE.out (fun e he => (HVS.out.ins e he).2)))
        go_wp2_with fail
        go_ret
        exact ⟨ret_bool HR.out.symm, HVS.out.bel⟩
      · have hd2 : ((deep : Int) == 200) = false := by simp; omega
        obtain ⟨dd, hdd⟩ : ∃ dd, 200 - deep = dd + 1 := ⟨199 - deep, by omega⟩
        have HDD := hid_ofK hdd
        clear hdd
        obtain ⟨WO, hWO⟩ : ∃ WO, WO = wr := ⟨_, rfl⟩
        subst hWO
        go_wp2_with fail
        go_loopw [6, 19] (fun q i wi => ∃ k : Nat, i = .int .i64 k ∧ k ≤ ln ∧ fieldsTo L k ∧ Below WO.heap.size WO wi) (fun _ i _ => ln - (intOf i).toNat)
        case atStart => exact ⟨0, rfl, Nat.zero_le _, fun m e h => by omega, Below.refl _ _⟩
        case round =>
          obtain ⟨k, rfl, hk, hft, hbel⟩ := hrel
          have HFT := hid_ofK hft
          have HVW : Hid (VS w wr t deep (.slice (some ⟨g, 0, none⟩) ln cl) L) := HVS.out.below hbel
          have HBL := hid_ofK hbel
          clear hft hbel
          by_cases hlt : (k : Int) < ln
          · have hlt' : k < L.length := by have := HLN.out; omega
            obtain ⟨e, he⟩ : ∃ e, L[k]? = some e := ⟨_, List.getElem?_eq_getElem hlt'⟩
            have HE := hid_ofK he
            have hins := HVW.out.ins e (List.mem_of_getElem? he)
            obtain ⟨pe, ce, ev⟩ := hins.1.shape
            have l0 : wr.cell? ⟨g, k, none⟩ = some (.slice pe e.len ce) := by rw [← ev]; exact keeps HBL.out _ _ (HC.out k e he)
            have HVE : Hid (Vl wr e.len e.kid (.slice pe e.len ce)) := by rw [← ev]; exact hins.1.vlB
            have hel : e.len ≤ 1099511627776 := by
              have h1 := sumTo_pos (fun i => (e.kid i).count) (fun i => (e.kid i).count_pos) e.len
              have h3 : L[k] = e := by rw [List.getElem?_eq_getElem hlt'] at he; exact Option.some.inj he
              have h2 : L = L.take k ++ e :: L.drop (k + 1) := by rw [← h3, List.getElem_cons_drop, List.take_append_drop]
              have h4 : wL L = wL (L.take k) + (sumTo (fun i => (e.kid i).count) e.len + wL (L.drop (k + 1))) := by
                conv => lhs; rw [h2]
                rw [wL_append]
                simp [wL]
              have h5 := HVW.out.wt
              omega
            clear he hins ev
            cases hall : allTo (fun i => fieldsV (e.kid i)) e.len with
            | true =>
              have HN : Hid (fieldsTo L (k + 1)) := by
                intro m e1 hm h1 i hi
                rcases Nat.lt_or_ge m k with h2 | h2
                · exact HFT.out m e1 h2 h1 i hi
                · have hmk : m = k := by omega
                  subst hmk
                  have := HE.out.symm.trans h1
                  have := Option.some.inj this
                  subst this
                  exact allTo_true.1 hall i hi
              have HAL := hid_ofK hall
              clear hall
              go_wp2_with fail
              refine (all_fields e.len e.kid wr _ HVE.out hel).mono ?_
              rintro q w4 ⟨rfl, hb4⟩
              rw [HAL.out]
              have HB4 : Hid (Below WO.heap.size WO w4) := HBL.out.trans (hb4.mono HBL.out.size)
              clear hb4 l0
              go_wp2_with fail
              go_roundw
              case rel => exact ⟨k + 1, by go_num, by omega, HN.out, HB4.out⟩
              case measure => simp [intOf]; omega
            | false =>
              have HR : Hid (R = false) := by
                obtain ⟨i, hi, hfi⟩ : ∃ i, i < e.len ∧ fieldsV (e.kid i) = false := by
                  apply Classical.byContradiction
                  intro hno
                  have : allTo (fun i => fieldsV (e.kid i)) e.len = true := allTo_true.2 (fun i hi => by
                    cases hq : fieldsV (e.kid i) with
                    | true => rfl
                    | false => exact absurd ⟨i, hi, hq⟩ hno)
                  rw [this] at hall
                  cases hall
                have h1 := HVW.out.ok
                rw [HDD.out, okL_field (List.mem_of_getElem? HE.out) hi hfi] at h1
                exact HVB.out.trans h1
              have HAL := hid_ofK hall
              clear hall
              go_wp2_with fail
              refine (all_fields e.len e.kid wr _ HVE.out hel).mono ?_
              rintro q w4 ⟨rfl, hb4⟩
              rw [HAL.out]
              have HB4 : Hid (Below w.heap.size w w4) := HVW.out.bel.trans (hb4.mono HVW.out.bel.size)
              clear hb4 l0
              go_wp2_with fail
              go_ret
              exact ⟨ret_bool HR.out.symm, HB4.out⟩
          · have hke : k = ln := by omega
            subst hke
            have HFA : Hid (∀ e ∈ L, ∀ i, i < e.len → fieldsV (e.kid i) = true) := by
              intro e he i hi
              obtain ⟨m, hm⟩ := List.getElem?_of_mem he
              exact HFT.out m e (by have := (List.getElem?_eq_some_iff.1 hm).1; have := HLN.out; omega) hm i hi
            obtain ⟨base, hbase, hown⟩ := HVW.out.own
            have HKL := hid_ofK (kid_lists L wr _ base hown HNE.out HVW.out.ins HFA.out HVW.out.wt)
            clear hown
            go_wp2_with fail
            refine HKL.out.mono ?_
            rintro q w4 ⟨L', u, rfl, hb4, ho4, hi4, hw4, hok4⟩
            have HN : Hid (VS w w4 t (deep + 1) u L') := by
              refine ⟨⟨wr.heap.size, HVW.out.bel.size, ho4⟩, fun e he => ⟨(hi4 e he).1.below hb4, (hi4 e he).2⟩, Nat.le_trans hw4 HVW.out.wt, ?_, HVW.out.bel.trans (hb4.mono HVW.out.bel.size)⟩
              rw [HVW.out.ok, HDD.out, hok4 dd]
              congr 1
              have := HDD.out
              omega
            clear hb4 ho4 hi4 hw4 hok4 HKL
            obtain ⟨pu, cu, eu⟩ := HN.out.shape
            subst eu
            go_wp2_with fail
            go_roundw
            case rel => exact ⟨deep + 1, L', by go_num, by omega, HN.out⟩
            case measure => simp [intOf]; omega
end Go.Proofs.YtbofjjjjjcolgaaDoor
