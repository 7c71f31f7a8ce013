/- impl.kidLists. Condition: at most 2^21 values in the level. -/
import Derived.Test.YtbofjjjjjcolgaaDoorRows
import Derived.Test.YtbofjjjjjcolgaaDoorLevP
import Derived.Test.YtbofjjjjjcolgaaDoorPtrMap
import Derived.Test.YtbofjjjjjcolgaaDoorOwnCut
import Derived.WalkKit
import Derived.ProofKit
import Derived.OwnWalk
import Derived.Laws.OwnMore
import Derived.Deep.Cut
import Derived.Maps.OwnOps
import Derived.Deep.AppendLies
namespace Go.Proofs.YtbofjjjjjcolgaaDoor
open Go.ChangeShapes Go.WideShapes Go.ChangeAt Go.RowKit

theorem list_infoV : (Tryd.prog.info? 24).map (fun i => (i.zero, i.size, i.bytes)) = some (some (.slice none 0 0), 1, 24) := by kernel_rfl
theorem value_infoV : (Tryd.prog.info? 26).map (fun i => i.size) = some 3 := by kernel_rfl
theorem zeroS (w : World) : (zeroValue 62).run Tryd.prog w = .ok (.agg #[]) w := by kernel_rfl
theorem hid_ofK {p : Prop} (h : p) : Hid p := h

theorem own_someV {w : World} {base e size n : Nat} {v : Value} {xs : List Value} (h : w.ownsRow base e size v n xs) (hn : 0 < n) : ∃ g cap, v = .slice (some ⟨g, 0, none⟩) n cap ∧ n ≤ cap ∧ cap ≤ maxLen := by
  rcases h.2 with ⟨_, h0⟩ | ⟨g, cap, cur, he, _, _, hc, hm, _, _⟩
  · omega
  · exact ⟨g, cap, he, hc, hm⟩

/-- What stands between rounds. -/
structure KS (w wr : World) (M : Nat) (lv : Value) (Lo : List Lst) : Prop where
  own : wr.ownsRow w.heap.size 24 1 lv Lo.length (valsV Lo)
  set : PSet w wr M (Lo.map Lst.at_)
  bel : Below w.heap.size w wr
  map : w.heap.size ≤ M

theorem KS.shape {w wr : World} {M : Nat} {lv : Value} {Lo : List Lst} (h : KS w wr M lv Lo) : ∃ p cap, lv = .slice p Lo.length cap := by
  rcases h.own.2 with ⟨e, h0⟩ | ⟨g, cap, cur, he, _⟩
  · exact ⟨none, 0, by rw [e, h0]⟩
  · exact ⟨_, _, he⟩
theorem KS.below {w wr w' : World} {M : Nat} {lv : Value} {Lo : List Lst} (h : KS w wr M lv Lo) (hb : Below wr.heap.size wr w') : KS w w' M lv Lo :=
  ⟨own_below5 h.own hb, h.set.below hb, h.bel.trans (hb.mono h.bel.size), h.map⟩
theorem KS.neM {w wr : World} {M : Nat} {lv : Value} {Lo : List Lst} (h : KS w wr M lv Lo) : lv.ownBlock = none ∨ lv.ownBlock ≠ some M := by
  rcases h.own.2 with ⟨e, _⟩ | ⟨g, cap, cur, he, _, hgg, _⟩
  · left; rw [e]; rfl
  · right
    rw [he]
    simp only [Value.ownBlock]
    intro e
    injection e with e
    exact h.set.noRow hgg e

/-- One list more. -/
theorem KS.more {w w5 w51 w6 : World} {M : Nat} {lv v6 : Value} {Lo : List Lst} {x : Lst} {a : Addr} (ho : w5.ownsRow w.heap.size 24 1 lv Lo.length (valsV Lo)) (hs : PSet w w5 M (Lo.map Lst.at_ ++ [a])) (hb : Below w.heap.size w w5) (hM : w.heap.size ≤ M) (hn : Below w5.heap.size w5 w51)
    (h6 : w6.ownsRow w.heap.size 24 1 v6 (Lo.length + 1) (valsV Lo ++ [x.v])) (hg : w51.grownBy w6 lv.ownBlock) (ha : x.at_ = a) : KS w w6 M v6 (Lo ++ [x]) := by
  have hne : some M ≠ lv.ownBlock := by
    rcases ho.2 with ⟨e, _⟩ | ⟨g, cap, cur, he, _, hgg, _⟩
    · rw [e]; simp [Value.ownBlock]
    · rw [he]
      simp only [Value.ownBlock]
      intro e
      injection e with e
      exact hs.noRow hgg e.symm
  have hb1 := hb.trans (hn.mono hb.size)
  refine ⟨by rw [List.length_append, valsV_append]; exact h6, ?_, hb1.trans ⟨hg.os, hg.tape, hg.output, hg.size, fun q hq => hg.block q (Nat.lt_of_lt_of_le hq hb1.size) ?_⟩, hM⟩
  · rw [List.map_append, List.map_cons, List.map_nil, ha]
    have hl := hs.lt
    exact (hs.below hn).same (hg.block M (Nat.lt_of_lt_of_le hl hn.size) hne)
  · intro e
    rcases ho.2 with ⟨e2, _⟩ | ⟨g, cap, cur, he, hbg, _⟩
    · rw [e2] at e; cases e
    · rw [he] at e
      simp only [Value.ownBlock] at e
      injection e with e
      omega

set_option maxRecDepth 100000 in
set_option maxHeartbeats 4000000 in
theorem kid_lists (L : List Lst) (w : World) (lv : Value) (base : Nat) (hown : w.ownsRow base 24 1 lv L.length (valsV L)) (hne : L ≠ []) (hin : ∀ e ∈ L, VlP 0 w e.len e.kid e.v ∧ 0 < e.len) (hf : ∀ e ∈ L, ∀ i, i < e.len → fieldsV (e.kid i) = true) (hw : wL L ≤ 2097152) :
    Calls Tryd.prog 18 #[lv] w fun e w' => ∃ (L' : List Lst) (u : Value), e = .returned u ∧ Below w.heap.size w w' ∧ w'.ownsRow w.heap.size 24 1 u L'.length (valsV L') ∧ (∀ e ∈ L', VlP 0 w e.len e.kid e.v ∧ 0 < e.len) ∧ wL L' ≤ wL L ∧ ∀ d, okL (d + 1) L = okL d L' := by
  obtain ⟨i0, hi, hz0, hz1, hz2⟩ := info_parts list_infoV
  obtain ⟨j0, hj, hjs⟩ : ∃ j0, Tryd.prog.info? 26 = some j0 ∧ j0.size ≠ 0 := by
    have := value_infoV
    cases h : Tryd.prog.info? 26 with
    | none => rw [h] at this; cases this
    | some j => rw [h] at this; exact ⟨j, rfl, by have := Option.some.inj this; simp only at this; omega⟩
  have hlp : 0 < L.length := List.length_pos_iff.2 hne
  have hll : L.length ≤ 2097152 := by have := wL_len (fun e he => (hin e he).2); omega
  obtain ⟨g, cap, elv, hc1, hc2⟩ := own_someV hown hlp
  subst elv
  have HC : Hid (∀ k e, L[k]? = some e → w.cell? ⟨g, k, none⟩ = some e.v) := by
    intro k e he
    have hk : k < L.length := (List.getElem?_eq_some_iff.1 he).1
    have h1 := hown.cellAt k (by omega)
    rw [h1]
    unfold valsV
    rw [List.getElem?_map, he]; rfl
  have HIN : Hid (∀ e ∈ L, VlP 0 w e.len e.kid e.v ∧ 0 < e.len) := hin
  have HF : Hid (∀ e ∈ L, ∀ i, i < e.len → fieldsV (e.kid i) = true) := hf
  have HEL : Hid (∀ (k : Nat) (e : Lst), L[k]? = some e → e.len ≤ 2097152) := by
    intro k e he
    have h1 := sumTo_pos (fun i => (e.kid i).count) (fun i => (e.kid i).count_pos) e.len
    have hk : k < L.length := (List.getElem?_eq_some_iff.1 he).1
    have h3 : L[k] = e := by rw [List.getElem?_eq_getElem hk] at he; exact Option.some.inj he
    have h2 : L = L.take k ++ e :: L.drop (k + 1) := by rw [← h3, List.getElem_cons_drop, List.take_append_drop]
    have h4 : wL L = wL (L.take k) + (sumTo (fun i => (e.kid i).count) e.len + wL (L.drop (k + 1))) := by
      conv => lhs; rw [h2]
      rw [wL_append]
      simp [wL]
    omega
  have hmm := @run_makeMap Tryd.prog
  unfold maxLen at hc2
  have HK0 : Hid (KS w (w.alloc (.map #[] 0)) w.heap.size (.slice none 0 0) []) := ⟨⟨by simp [valsV], .inl ⟨rfl, rfl⟩⟩, PSet.made w w, newb w _, Nat.le_refl _⟩
  clear hown hne hin hf
  generalize hln : L.length = ln at *
  have HLN : Hid (L.length = ln) := hln
  clear hln
  go_enter Tryd.func18, Tryd.ntmps18
  go_wp2_with fail
  obtain ⟨M, hM⟩ : ∃ M, M = w.heap.size := ⟨_, rfl⟩
  rw [← hM] at HK0 ⊢
  have HM := hid_ofK hM
  clear hM hmm
  go_loopw [3, 14] (fun lv i wr => ∃ (k : Nat) (Lo : List Lst), i = .int .i64 k ∧ k ≤ ln ∧ KL w L k 0 Lo ∧ KS w wr M lv Lo) (fun _ i _ => ln - (intOf i).toNat)
  case atStart => exact ⟨0, [], rfl, Nat.zero_le _, KL.start w L, HK0.out⟩
  case round =>
    obtain ⟨k, Lo, rfl, hk, hkl, hks⟩ := hrel
    have HKL : Hid (KL w L k 0 Lo) := hkl
    obtain ⟨pl, cl, esh⟩ := hks.shape
    have HKS := hid_ofK hks
    clear hkl hks HK0
    subst esh
    by_cases hlt : (k : Int) < ln
    · have hlt' : k < L.length := by have := HLN.out; omega
      obtain ⟨e, he⟩ : ∃ e, L[k]? = some e := ⟨_, List.getElem?_eq_getElem hlt'⟩
      have HE := hid_ofK he
      obtain ⟨hv, hpos⟩ := HIN.out e (List.mem_of_getElem? he)
      obtain ⟨pe, ce, ev, hle, hat⟩ := hv.at
      have HAT : Hid (∀ i, i < e.len → ∃ b o u, pe = some ⟨b, o, none⟩ ∧ PlainB w b ∧ HeadV w b (o + i * 3) (e.kid i) u ∧ (e.kid i).InP 0 w u) := hat
      have l0 : wr.cell? ⟨g, k, none⟩ = some (.slice pe e.len ce) := by rw [← ev]; exact keeps HKS.out.bel _ _ (HC.out k e he)
      have hel := HEL.out k e he
      clear he hv hat ev hle
      go_wp2_with fail
      go_loopw [3, 20] (fun lv i wi => ∃ (j : Nat) (Lo : List Lst), i = .int .i64 j ∧ j ≤ e.len ∧ KL w L k j Lo ∧ KS w wi M lv Lo) (fun _ i _ => e.len - (intOf i).toNat)
      case atStart => exact ⟨0, Lo, rfl, Nat.zero_le _, HKL.out, HKS.out⟩
      case round =>
        clear HKL HKS l0
        obtain ⟨j, Lo, rfl, hjl, hkl, hks⟩ := hrel
        have HKL : Hid (KL w L k j Lo) := hkl
        obtain ⟨pl, cl, esh⟩ := hks.shape
        have HKS := hid_ofK hks
        have hlo : Lo.length ≤ 2097152 := by
          have h1 := hkl.weight HE.out hjl
          have h2 := wL_len hkl.pos
          omega
        clear hkl hks
        subst esh
        by_cases hjt : (j : Int) < e.len
        · have hjt' : j < e.len := by omega
          obtain ⟨b, o, u, hp, hpb, hd, hinu⟩ := HAT.out j hjt'
          subst hp
          obtain ⟨c0, c1, c2⟩ := hd.below HKS.out.bel
          have hfl := fieldsV_len (HF.out e (List.mem_of_getElem? HE.out) j hjt')
          have hsl := hinu.sl
          clear hd hinu hpb
          generalize hx : e.kid j = x at *
          have HX := hid_ofK hx
          clear hx
          rcases hfl with hx0 | hx2
          · rw [hx0] at hsl
            obtain ⟨pu, cu, eu, _, _⟩ := hsl.at
            subst eu
            have HN : Hid (KL w L k (j + 1) Lo) := HKL.out.skip HE.out (fun h => by rw [HX.out] at h; omega)
            have HKN : Hid (∀ o, KS w (wr.alloc o) M (.slice pl Lo.length cl) Lo) := fun o => HKS.out.below (newb wr o)
            clear hsl hx0
            go_wp2_with fail
            go_roundw
            case rel => exact ⟨j + 1, Lo, by go_num, by omega, HN.out, HKN.out _⟩
            case measure => simp [intOf]; omega
          · rw [hx2] at hsl
            obtain ⟨b2, o2, cu, V, eu, _, hP2, hcu, hcm, _⟩ : ∃ (b o cap : Nat) (V : Nat → Value), u = .slice (some ⟨b, o, none⟩) 2 cap ∧ 0 ≤ b ∧ PlainB w b ∧ 2 ≤ cap ∧ cap ≤ maxLen ∧ ∀ i, i < 2 → HeadV w b (o + i * 3) (x.kid i) (V i) ∧ (x.kid i).InP 0 w (V i) := by
              rcases hsl with ⟨h0, _⟩ | h
              · omega
              · exact h
            have HVL : Hid (VlP 0 w 2 x.kid u) := hsl
            clear hsl
            subst eu
            have HP2 := hid_ofK hP2
            obtain ⟨BB, hBB⟩ : ∃ BB : Bool, BB = decide ((⟨b2, o2, none⟩ : Addr) ∈ Lo.map Lst.at_) := ⟨_, rfl⟩
            have HBB : Hid (BB = true ↔ (⟨b2, o2, none⟩ : Addr) ∈ Lo.map Lst.at_) := by rw [hBB]; exact decide_eq_true_iff
            clear hBB hP2
            obtain ⟨W1, hW1⟩ : ∃ W1, W1 = wr.alloc (.cells #[.int .i64 x.op, .int .i64 x.n, .slice (some ⟨b2, o2, none⟩) 2 cu] 26) := ⟨_, rfl⟩
            obtain ⟨N1, hN1⟩ : ∃ N1, N1 = wr.heap.size := ⟨_, rfl⟩
            have hnew : W1.heap[N1]? = some (.cells #[.int .i64 x.op, .int .i64 x.n, .slice (some ⟨b2, o2, none⟩) 2 cu] 26 (0, 0)) := by rw [hW1, hN1]; exact heap_alloc_new wr _
            have HS1 : Hid (KS w W1 M (.slice pl Lo.length cl) Lo ∧ W1.heap[N1]? = some (.cells #[.int .i64 x.op, .int .i64 x.n, .slice (some ⟨b2, o2, none⟩) 2 cu] 26 (0, 0))) := ⟨by rw [hW1]; exact HKS.out.below (newb wr _), hnew⟩
            have m2 : W1.cell? ⟨N1, 2, none⟩ = some (.slice (some ⟨b2, o2, none⟩) 2 cu) := cell_of_row W1 _ 2 _ _ _ hnew
            have WE := hid_ofK hW1
            have NE := hid_ofK hN1
            clear hnew hW1 hN1
            go_upto_region 9 with fail
            rw [← WE.out, ← NE.out]
            clear c0 c1 c2
            cases BB with
            | true =>
              have HN : Hid (KL w L k (j + 1) Lo) := HKL.out.skip HE.out (fun _ => by rw [HX.out]; exact HKL.out.known hx2 HVL.out rfl (HBB.out.1 rfl))
              have HKN : Hid (∀ o, KS w (W1.alloc o) M (.slice pl Lo.length cl) Lo) := fun o => HS1.out.1.below (newb W1 o)
              go_wp2_with (at_lookup; refine wpList_lookup_set _ rfl _ _ rfl HS1.out.1.set HS1.out.1.bel Tryd.underlying61 Tryd.underlying49 hj hjs (zeroS _) ⟨b2, o2, none⟩ rfl rfl HP2.out true HBB.out ?_)
              go_roundw
              case rel => exact ⟨j + 1, Lo, by go_num, by omega, HN.out, HKN.out _⟩
              case measure => simp [intOf]; omega
            | false =>
              have hna : (⟨b2, o2, none⟩ : Addr) ∉ Lo.map Lst.at_ := fun h => by have := HBB.out.2 h; cases this
              have HNA := hid_ofK hna
              have HVL2 : Hid (VlP 0 w 2 (e.kid j).kid (.slice (some ⟨b2, o2, none⟩) 2 cu)) := by rw [HX.out]; exact HVL.out
              have HN : Hid (KL w L k (j + 1) (Lo ++ [⟨2, (e.kid j).kid, .slice (some ⟨b2, o2, none⟩) 2 cu⟩])) := HKL.out.add HE.out hjt' (by rw [HX.out]; exact hx2) HVL2.out
              have m3 : (W1.alloc (.cells #[] 62)).cell? ⟨N1, 2, none⟩ = some (.slice (some ⟨b2, o2, none⟩) 2 cu) := keeps (newb W1 _) _ _ m2
              have HS2 : Hid (KS w (W1.alloc (.cells #[] 62)) M (.slice pl Lo.length cl) Lo ∧ (W1.alloc (.cells #[] 62)).heap[N1]? = some (.cells #[.int .i64 x.op, .int .i64 x.n, .slice (some ⟨b2, o2, none⟩) 2 cu] 26 (0, 0))) := ⟨HS1.out.1.below (newb W1 _), ((newb W1 _).block _ (Array.getElem?_eq_some_iff.1 HS1.out.2).1).trans HS1.out.2⟩
              clear hna
              go_wp2_with (first
                | (at_lookup; refine wpList_lookup_set _ rfl _ _ rfl HS1.out.1.set HS1.out.1.bel Tryd.underlying61 Tryd.underlying49 hj hjs (zeroS _) ⟨b2, o2, none⟩ rfl rfl HP2.out false HBB.out ?_)
                | (at_mapUpdate; refine wpList_update_set _ rfl _ _ _ rfl HS2.out.1.set HS2.out.1.bel Tryd.underlying61 Tryd.underlying49 hj hjs ⟨b2, o2, none⟩ rfl rfl rfl HP2.out HNA.out ?_; intro w5 hset5 hgr5; have HN5 : Hid (w5.heap[N1]? = some (.cells #[.int .i64 x.op, .int .i64 x.n, .slice (some ⟨b2, o2, none⟩) 2 cu] 26 (0, 0))) := (hgr5.block N1 (Array.getElem?_eq_some_iff.1 HS2.out.2).1 (by intro q; injection q with q; exact HS2.out.1.set.noRow HS2.out.2 q)).trans HS2.out.2; have m5 : w5.cell? ⟨N1, 2, none⟩ = some (.slice (some ⟨b2, o2, none⟩) 2 cu) := cell_of_row w5 _ 2 _ _ _ HN5.out; have HO5 : Hid (w5.ownsRow w.heap.size 24 1 (.slice pl Lo.length cl) Lo.length (valsV Lo)) := HS2.out.1.own.kept hgr5 HS2.out.1.neM; have HB5 : Hid (Below w.heap.size w w5) := HS2.out.1.bel.trans ⟨hgr5.os, hgr5.tape, hgr5.output, hgr5.size, fun q hq => hgr5.block q (Nat.lt_of_lt_of_le hq HS2.out.1.bel.size) (by intro q2; injection q2 with q2; have := HS2.out.1.map; omega)⟩; have HT5 : Hid (PSet w w5 M (Lo.map Lst.at_ ++ [⟨b2, o2, none⟩])) := hset5; clear hset5 hgr5 m3)
                | (at_builtin; refine wpList_append_own _ rfl _ _ 36 rfl w.heap.size 24 i0 (.slice none 0 0) 1 24 Tryd.underlying36 hi hz0 hz1 hz2 rfl (by decide) _ _ _ rfl (HO5.out.alloc _) ⟨w5.heap.size, 0, none⟩ 1 1 [.slice (some ⟨b2, o2, none⟩) 2 cu] rfl rfl ?c1 ?c2 ?c3 ?c4 ?c5 ?_)
                | go_in)
              case c1 => first | exact fun j u h => h | exact World.news_of_block (cs := #[.slice (some ⟨b2, o2, none⟩) 2 cu]) (t := 24) (fr := (0, 0)) (heap_alloc_new w5 _)
              case c2 => intro q hq; simp only [List.mem_singleton] at hq; subst hq; rfl
              case c3 => unfold maxLen; omega
              case c4 => omega
              case c5 => have := HB5.out.size; simp; omega
              intro v6 w6 hown6 hgrow6 _
              obtain ⟨g6, cap6, ev6, _, _⟩ := own_someV hown6 (by omega)
              subst ev6
              have HKN : Hid (KS w w6 M (.slice (some ⟨g6, 0, none⟩) (Lo.length + 1 : Nat) cap6) (Lo ++ [⟨2, (e.kid j).kid, .slice (some ⟨b2, o2, none⟩) 2 cu⟩])) := KS.more HO5.out HT5.out HB5.out HKS.out.map (newb w5 _) hown6 hgrow6 rfl
              clear hown6 hgrow6
              go_wp2_with fail
              go_roundw
              case rel => exact ⟨j + 1, _, by go_num, by omega, HN.out, HKN.out⟩
              case measure => simp [intOf]; omega
        · have hje : j = e.len := by omega
          subst hje
          have HN : Hid (KL w L (k + 1) 0 Lo) := HKL.out.turn HE.out
          go_wp2_with fail
          go_roundw
          case rel => exact ⟨k + 1, Lo, by go_num, by omega, HN.out, HKS.out⟩
          case measure => simp [intOf]; omega
    · have hke : k = L.length := by have := HLN.out; omega
      have HKF : Hid (KL w L L.length 0 Lo) := by rw [← hke]; exact HKL.out
      go_wp2_with fail
      go_ret
      refine ⟨Lo, _, rfl, HKS.out.bel, HKS.out.own, fun e he => ⟨(HKF.out.ins e he).1, HKF.out.pos e he⟩, HKF.out.weightAll, fun d => HKF.out.done HF.out d⟩
end Go.Proofs.YtbofjjjjjcolgaaDoor
