/- spec.FunsOf at any bytes. Condition: at most 2^22 of them. -/
import Derived.Test.YtocdpgogoadfnaaDoorSpecOfSt
import Derived.Test.YtocdpgogoadfnaaDoorSpecFunsOk
import Derived.Deep.Cut
namespace Go.Proofs.YtocdpgogoadfnaaDoor
open Go.ChangeShapes Go.WideShapes Go.ChangeAt Go.RowKit

/-- What spec.FunsOf answers. -/
def OfS (xs : List Nat) (w : World) (e : Ending) (w' : World) : Prop := ∃ L ok u, e = .returned (.tuple #[u, .bool ok]) ∧ AnsF xs L ok ∧ Fl w' L.length (kidL L) u ∧ Below w.heap.size w w'
theorem fown_okL {xs : List Nat} {p k q : Nat} {le : List Fe} (h : getFs 2147483647 xs p k = some (strip le, q)) : ∀ e ∈ strip le, FOk e := getFs_ok h

set_option maxRecDepth 100000 in
set_option maxHeartbeats 8000000 in
theorem spec_funs_of (xs : List Nat) (hx : ∀ x ∈ xs, x < 256) (v : Value) (w : World) (hv : RdY w v xs) (hl : xs.length ≤ 4194304) :
    Calls Tryd.prog 14 #[v] w (OfS xs w) := by
  obtain ⟨i0, hi, hz0, hz1, hz2⟩ := info_parts op_info16
  obtain ⟨i1, hj, hy0, hy1, hy2⟩ := info_parts fun_info16
  obtain ⟨b0, cap, ev, -⟩ := hv.shape
  obtain ⟨K, hK⟩ : ∃ K, K = w.heap.size := ⟨_, rfl⟩
  obtain ⟨W, hW⟩ : ∃ W, W = (w.alloc (.cells #[v, .int .i64 0, .bool true] 55)).alloc (.cells #[] 45) := ⟨_, rfl⟩
  have hbw : Below K w W := by rw [hW, hK]; exact (newb w _).trans ((newb _ _).mono (by simp))
  have hcu : CurY W K v ((0 : Nat) : Int) true := by
    show W.heap[K]? = _
    rw [hW, hK, Below.heap_alloc _ _ _ (by simp)]
    exact heap_alloc_new w _
  have HW0 : Hid (Below K w W ∧ CurY W K v ((0 : Nat) : Int) true ∧ FOwn (K + 1) W (.slice (some ⟨K + 1, 0, none⟩) 0 0) []) := by
    refine ⟨hbw, hcu, ?_⟩
    have := fown_lit (w.alloc (.cells #[v, .int .i64 0, .bool true] 55)) (K + 1) (by rw [hK]; simp)
    rw [hW, hK]
    rw [hK] at this
    simpa using this
  have HNUM : Hid (∀ (p : Nat) (ok : Bool) (w1 : World), Below K w w1 → CurY w1 K v p ok → Calls Tryd.prog 27 #[.pointer (some ⟨K, 0, none⟩)] w1 fun e w' => ∃ z q ok', e = .returned (.int .i64 z) ∧ w1.grownBy w' (some K) ∧ CurY w' K v (q : Nat) ok' ∧ NumR xs p ok z q ok') := fun p ok w1 hb hc =>
    spec_num xs hx p ok K v w1 (fun w' hg => hv.below (by rw [← hK]; exact below_grownK hb hg (by have := hc.lt; omega))) hc hl
  have HWW : Hid ((w.alloc (.cells #[v, .int .i64 0, .bool true] 55)).alloc (.cells #[] 45) = W) := hW.symm
  have HKK : Hid (w.heap.size = K) := hK.symm
  have HFE : Hid (∀ w1 : World, Fl (w1.alloc (.cells #[] 45)) ([] : List FO).length (kidL []) (.slice (some ⟨w1.heap.size, 0, none⟩) 0 0)) := fun w1 => .inl ⟨rfl, _, _, rfl⟩
  obtain ⟨POST, hPOST⟩ : ∃ POST, POST = OfS xs w := ⟨_, rfl⟩
  rw [← hPOST]
  have HNO : Hid ((¬ ∃ L, Parsed xs L) → ∀ w1, Below K w w1 → POST (.returned (.tuple #[.slice (some ⟨w1.heap.size, 0, none⟩) 0 0, .bool false])) (w1.alloc (.cells #[] 45))) := fun h w1 hb => by
    rw [hPOST]; exact ⟨[], false, _, rfl, .inr ⟨rfl, rfl, h⟩, HFE.out w1, by rw [hK] at hb; exact hb.trans ((newb w1 _).mono hb.size)⟩
  have HYES : Hid (∀ (le : List Fe) (u : Value) (w' : World), Parsed xs (strip le) → Fl w' le.length (kidL (strip le)) u → Below K w w' → POST (.returned (.tuple #[u, .bool true])) w') := fun le u w' h ho hb => by
    rw [hPOST]; exact ⟨_, true, u, rfl, .inl ⟨rfl, h⟩, by rw [strip_len]; exact ho, by rw [← hK]; exact hb⟩
  clear hPOST hbw hcu hx hv hW hK HFE
  subst ev
  go_enter Tryd.func14, Tryd.ntmps14
  go_wp2_with fail
  rw [HWW.out, HKK.out]
  refine (HNUM.out 0 true W HW0.out.1 HW0.out.2.1).mono ?_
  rintro e w2 ⟨z, q0, ok0, rfl, hg2, hc2, hn2⟩
  have HZ : Hid (OutGB xs z [] q0 ok0) := OutGB.begin hn2
  have hzb := hn2.bounds
  have H2 : Hid (Below K w w2 ∧ CurY w2 K (.slice b0 xs.length cap) q0 ok0 ∧ FOwn (K + 1) w2 (.slice (some ⟨K + 1, 0, none⟩) 0 0) []) := by
    refine ⟨below_grownK HW0.out.1 hg2 (by have := HW0.out.2.1.lt; omega), hc2, HW0.out.2.2.keptZ (fun k h1 h2 => hg2.block k h2 (by intro e; injection e with e; omega))⟩
  clear hg2 hc2 hn2 HW0
  go_wp2_with fail
  go_loopw [5, 7] (fun r i wr => ∃ (le : List Fe) (r0 : Value) (q : Nat) (ok : Bool), r0 = r ∧ i = .int .i64 (le.length : Nat) ∧ (le.length : Int) ≤ z ∧ FOwn (K + 1) wr r0 le ∧ CurY wr K (.slice b0 xs.length cap) q ok ∧ Below K w wr ∧ OutGB xs z le q ok) (fun _ i _ => z.toNat - (intOf i).toNat)
  case atStart => exact ⟨[], _, q0, ok0, rfl, rfl, by simp only [List.length_nil]; omega, H2.out.2.2, H2.out.2.1, H2.out.1, HZ.out⟩
  case round =>
    obtain ⟨le, r0, q, ok, rfl, rfl, hle, hfo, hcu, hbe, hgb⟩ := hrel
    have HFO : Hid (FOwn (K + 1) wr r0 le) := hfo
    have HCU : Hid (CurY wr K (.slice b0 xs.length cap) q ok) := hcu
    have HBE : Hid (Below K w wr) := hbe
    have HGB : Hid (OutGB xs z le q ok) := hgb
    obtain ⟨c0, c1, c2, f0⟩ := hcu.cells
    have hKw := hcu.lt
    clear hfo hcu hbe hgb H2 HZ
    cases ok with
    | false =>
      have HN : Hid (¬ ∃ L, Parsed xs L) := by
        show ¬ _
        rcases HGB.out with ⟨h, _⟩ | ⟨_, h⟩
        · cases h
        · exact h
      by_cases hlt : (le.length : Int) < z
      · go_wp2_with fail
        exact HNO.out HN.out _ HBE.out
      · go_wp2_with fail
        exact HNO.out HN.out _ HBE.out
    | true =>
      by_cases hlt : (le.length : Int) < z
      · obtain ⟨F, hF⟩ : ∃ F, F = wr.heap.size := ⟨_, rfl⟩
        obtain ⟨W1, hW1⟩ : ∃ W1, W1 = wr.alloc (.cells #[.int .i64 0, .slice none 0 0] 45) := ⟨_, rfl⟩
        have HW1 : Hid (wr.alloc (.cells #[.int .i64 0, .slice none 0 0] 45) = W1) := hW1.symm
        have HFF : Hid (wr.heap.size = F) := hF.symm
        have HS1 : Hid (FSt wr K F (.slice b0 xs.length cap) 0 (.slice none 0 0) [] q true W1) := by rw [hW1, hF]; exact FSt.begin HCU.out
        have hKF : K < F := by omega
        have HBK : Hid (∀ w1, wr.grownBy w1 (some K) → Below K w w1) := fun w1 hg => below_grownK HBE.out hg (by omega)
        clear hF hW1 c0 c1 hKw
        go_wp2_with fail
        rw [HW1.out, HFF.out]
        refine (HNUM.out q true W1 (HBK.out _ HS1.out.gr) HS1.out.cur).mono ?_
        rintro e w3 ⟨zf, q1, ok1, rfl, hg3, hc3, hn3⟩
        have HN3 : Hid (NumR xs q true zf q1 ok1) := hn3
        have HS3 : Hid (FSt wr K F (.slice b0 xs.length cap) 0 (.slice none 0 0) [] q1 ok1 w3) := HS1.out.num hg3 hc3
        obtain ⟨d0, d1, g0⟩ := HS3.out.cells
        clear hg3 hc3 hn3 HS1 c2 f0
        go_wp2_with fail
        have HS3f : Hid (FSt wr K F (.slice b0 xs.length cap) zf (.slice none 0 0) [] q1 ok1 (w3.setCell ⟨F, 0, none⟩ (.int .i64 zf))) := HS3.out.free zf
        refine (HNUM.out q1 ok1 (w3.setCell ⟨F, 0, none⟩ (.int .i64 zf)) (HBK.out _ HS3f.out.gr) HS3f.out.cur).mono ?_
        rintro e w4 ⟨zm, q2, ok2, rfl, hg4, hc4, hn4⟩
        have HIN0 : Hid (InGB xs q zf zm [] q2 ok2) := InGB.begin HN3.out hn4
        have hmb := hn4.bounds
        have HS4 : Hid (FSt wr K F (.slice b0 xs.length cap) zf (.slice none 0 0) [] q2 ok2 w4) := HS3f.out.num hg4 hc4
        clear hg4 hc4 hn4 HN3 HS3 HS3f d0 d1 g0
        obtain ⟨wf, rfl⟩ : ∃ x, x = wr := ⟨_, rfl⟩
        go_wp2_with fail
        go_loopw [10] (fun j wr => ∃ (ol : List O3) (u : Value) (q' : Nat) (ok : Bool), j = .int .i64 (ol.length : Nat) ∧ (ol.length : Int) ≤ zm ∧ FSt wf K F (.slice b0 xs.length cap) zf u ol q' ok wr ∧ InGB xs q zf zm ol q' ok) (fun j _ => zm.toNat - (intOf j).toNat)
        case atStart => exact ⟨[], _, q2, ok2, rfl, by simp only [List.length_nil]; omega, HS4.out, HIN0.out⟩
        case round =>
          obtain ⟨ol, u, q', ok, rfl, hol, hst, hin⟩ := hrel
          have HST : Hid (FSt wf K F (.slice b0 xs.length cap) zf u ol q' ok wr) := hst
          have HIN : Hid (InGB xs q zf zm ol q' ok) := hin
          obtain ⟨pu, cu, eu⟩ := hst.ushape
          subst eu
          obtain ⟨c0, c1, c2, f0⟩ := hst.cur.cells
          obtain ⟨d0, d1, g0⟩ := hst.cells
          have hFw := hst.lt
          clear hst hin HS4 HIN0
          by_cases hgo : (ol.length : Int) < zm ∧ ok = true
          · obtain ⟨hlm, rfl⟩ := hgo
            obtain ⟨O, hO⟩ : ∃ O, O = wr.heap.size := ⟨_, rfl⟩
            obtain ⟨W5, hW5⟩ : ∃ W5, W5 = wr.alloc (.cells #[.int .i64 0, .int .i64 0, .int .i64 0] 47) := ⟨_, rfl⟩
            have HW5 : Hid (wr.alloc (.cells #[.int .i64 0, .int .i64 0, .int .i64 0] 47) = W5) := hW5.symm
            have HOO : Hid (wr.heap.size = O) := hO.symm
            have HS5 : Hid (FSt wf K F (.slice b0 xs.length cap) zf (.slice pu ol.length cu) ol q' true W5) := by rw [hW5]; exact HST.out.new _
            have HO5 : Hid (OSt O 0 0 0 W5) := by show W5.heap[O]? = _; rw [hW5, hO]; exact heap_alloc_new wr _
            have hFO : F < O := by omega
            have HUO : Hid ((Value.slice pu ol.length cu).ownBlock ≠ some O) := fun e => by have := (own_betweenZ HST.out.own e).2; omega
            clear hO hW5 c0 c1 d0 d1 g0 hFw
            go_wp2_with fail
            rw [HW5.out, HOO.out]
            refine (HNUM.out q' true W5 (HBK.out _ HS5.out.gr) HS5.out.cur).mono ?_
            rintro e w6 ⟨z0, q3, ok3, rfl, hg6, hc6, hn6⟩
            have HN6 : Hid (NumR xs q' true z0 q3 ok3) := hn6
            have HS6 : Hid (FSt wf K F (.slice b0 xs.length cap) zf (.slice pu ol.length cu) ol q3 ok3 (w6.setCell ⟨O, 0, none⟩ (.int .i64 z0))) := (HS5.out.num hg6 hc6).off hFO HUO.out 0 _
            have hO6 : OSt O 0 0 0 w6 := HO5.out.num hg6 (by omega)
            have HO6 : Hid (OSt O z0 0 0 (w6.setCell ⟨O, 0, none⟩ (.int .i64 z0))) := hO6.set0 z0
            obtain ⟨⟨o0, o1, o2⟩, of⟩ := hO6.cells
            clear hg6 hc6 hn6 hO6 HS5 HO5 c2 f0 HST
            go_wp2_with fail
            refine (HNUM.out q3 ok3 (w6.setCell ⟨O, 0, none⟩ (.int .i64 z0)) (HBK.out _ HS6.out.gr) HS6.out.cur).mono ?_
            rintro e w7 ⟨z1, q4, ok4, rfl, hg7, hc7, hn7⟩
            have HN7 : Hid (NumR xs q3 ok3 z1 q4 ok4) := hn7
            have hz1b := hn7.bounds
            have HS7 : Hid (FSt wf K F (.slice b0 xs.length cap) zf (.slice pu ol.length cu) ol q4 ok4 (w7.setCell ⟨O, 1, none⟩ (.int .i64 (z1 - 1073741824)))) := (HS6.out.num hg7 hc7).off hFO HUO.out 1 _
            have hO7 : OSt O z0 0 0 w7 := HO6.out.num hg7 (by omega)
            have HO7 : Hid (OSt O z0 (z1 - 1073741824) 0 (w7.setCell ⟨O, 1, none⟩ (.int .i64 (z1 - 1073741824)))) := hO7.set1 _
            obtain ⟨⟨o0, o1, o2⟩, of⟩ := hO7.cells
            clear hg7 hc7 hn7 hO7 HS6 HO6
            go_wp2_with fail
            refine (HNUM.out q4 ok4 (w7.setCell ⟨O, 1, none⟩ (.int .i64 (z1 - 1073741824))) (HBK.out _ HS7.out.gr) HS7.out.cur).mono ?_
            rintro e w8 ⟨z2, q5, ok5, rfl, hg8, hc8, hn8⟩
            have HOP : Hid ((ok5 = true ∧ getO xs q' = some (⟨z0, z1 - 1073741824, z2⟩, q5)) ∨ (ok5 = false ∧ getO xs q' = none)) := NumR.op HN6.out HN7.out hn8
            have HS8a : FSt wf K F (.slice b0 xs.length cap) zf (.slice pu ol.length cu) ol q5 ok5 w8 := HS7.out.num hg8 hc8
            have HS8 : Hid (FSt wf K F (.slice b0 xs.length cap) zf (.slice pu ol.length cu) ol q5 ok5 (w8.setCell ⟨O, 2, none⟩ (.int .i64 z2))) := HS8a.off hFO HUO.out 2 _
            have hO8 : OSt O z0 (z1 - 1073741824) 0 w8 := HO7.out.num hg8 (by omega)
            obtain ⟨⟨o0, o1, o2⟩, of⟩ := hO8.cells
            obtain ⟨d0, d1, g0⟩ := HS8a.cells
            have hFO2 : F ≠ O := by omega
            clear hg8 hc8 hn8 hO8 HS7 HO7 HN6 HN7 HS8a
            have HROW : Hid (((w8.setCell ⟨O, 2, none⟩ (.int .i64 z2)).alloc (.cells #[.int .i64 z0, .int .i64 (z1 - 1073741824), .int .i64 z2] 47)).ownsRow (F + 1) 47 3 (.slice pu ol.length cu) ol.length (orows ol)) := (HS8.out.new _).own
            have HSN : Hid (F + 1 ≤ w8.heap.size) := by have := HS8.out.lt; simp at this; show _ ≤ _; omega
            have HNEW : Hid (∀ j u, [Value.int .i64 z0, .int .i64 (z1 - 1073741824), .int .i64 z2][j]? = some u → ((w8.setCell ⟨O, 2, none⟩ (.int .i64 z2)).alloc (.cells #[.int .i64 z0, .int .i64 (z1 - 1073741824), .int .i64 z2] 47)).cell? ((⟨w8.heap.size, 0, none⟩ : Addr).add j) = some u) := fun j u h => by
              have h2 := one_newO (w8.setCell ⟨O, 2, none⟩ (.int .i64 z2)) _ _ _ 47 j u h
              simpa using h2
            go_wp2_with (
              at_builtin
              refine wpList_append_1 _ rfl (.tmp 58) (.tmp 60) 43 rfl (F + 1) 47 i0 (.agg #[.int .i64 0, .int .i64 0, .int .i64 0]) 3 24 Tryd.underlying43 hi hz0 hz1 hz2 rfl (by decide) (.slice pu ol.length cu) ol.length (orows ol) rfl HROW.out ⟨w8.heap.size, 0, none⟩ 1 1 [.int .i64 z0, .int .i64 (z1 - 1073741824), .int .i64 z2] rfl rfl HNEW.out (by simp [Value.oneCell']) (by unfold maxLen; omega) (by omega) (by have := HSN.out; simp; omega) (by decide) ?_
              intro v9 w9 hown9 hg9 hat9
              obtain ⟨d1, g0⟩ := (HS8.out.new _).pushed hg9
              obtain ⟨p9, c9, e9⟩ : ∃ p c, v9 = .slice p (ol.length + 1) c := by
                rcases hown9.2 with ⟨e, h0⟩ | ⟨g', cap', cur, e, _⟩
                · omega
                · exact ⟨_, cap', e⟩
              subst e9
              have HS9 : Hid (FSt wf K F (.slice b0 xs.length cap) zf (.slice p9 (ol.length + 1) c9) (ol ++ [⟨z0, z1 - 1073741824, z2⟩]) q5 ok5 (w9.setCell ⟨F, 1, none⟩ (.slice p9 (ol.length + 1) c9))) := (HS8.out.new _).push (o := ⟨z0, z1 - 1073741824, z2⟩) hown9 hg9
              clear hown9 hg9 hat9 d0 o0 o1 o2 of)
            have HI9 : Hid (InGB xs q zf zm (ol ++ [⟨z0, z1 - 1073741824, z2⟩]) q5 ok5) := HIN.out.step hlm HOP.out
            go_wp2_with fail
            go_roundw
            case rel => exact ⟨ol ++ [⟨z0, z1 - 1073741824, z2⟩], _, q5, ok5, by rw [List.length_append]; go_num, by rw [List.length_append]; simp only [List.length_cons, List.length_nil]; omega, HS9.out, HI9.out⟩
            case measure => simp [intOf]; omega
          · have HDN : Hid ((ok = true ∧ getF 2147483647 xs q = some ((zf, ol), q')) ∨ (ok = false ∧ getF 2147483647 xs q = none)) := HIN.out.done (fun h => by
              rcases Int.lt_or_le (ol.length : Int) zm with h1 | h1
              · exact absurd ⟨h1, h⟩ hgo
              · omega)
            have hgr := HST.out.gr
            have hkk := HST.out.kf
            have hfw := HST.out.fw
            have HOB : Hid (wr.ownsRow wf.heap.size 47 3 (.slice pu ol.length cu) ol.length (orows ol)) := own_baseZ HST.out.own (by omega)
            have HRW : Hid (wr.ownsRow (K + 1) 45 2 r0 le.length (ferows le)) := own_grown HFO.out.row hgr (fun g e e2 => by injection e2 with e2; have := (own_betweenZ HFO.out.row e).1; omega)
            have HNEW : Hid (∀ j u, [Value.int .i64 zf, .slice pu ol.length cu][j]? = some u → (wr.alloc (.cells #[.int .i64 zf, .slice pu ol.length cu] 45)).cell? ((⟨wr.heap.size, 0, none⟩ : Addr).add j) = some u) := one_newF wr _ _ 45
            have hKf : K + 1 ≤ wf.heap.size := by have := HCU.out.lt; omega
            have hKw : K + 1 ≤ wr.heap.size := Nat.le_trans hKf hgr.size
            have HPU : Hid (∀ (w5 : World) (v5 : Value), w5.ownsRow (K + 1) 45 2 v5 (le.length + 1) (ferows le ++ [.int .i64 zf, .slice pu ol.length cu]) → (wr.alloc (.cells #[.int .i64 zf, .slice pu ol.length cu] 45)).grownBy w5 r0.ownBlock → (v5.ownBlock = r0.ownBlock ∨ v5.ownBlock = some (wr.alloc (.cells #[.int .i64 zf, .slice pu ol.length cu] 45)).heap.size) → FOwn (K + 1) w5 v5 (le ++ [⟨zf, ol, .slice pu ol.length cu⟩])) := fun w5 v5 h2 h3 h4 =>
              FOwn.pushedZ HFO.out hKf hgr.size (fun k h5 h6 => hgr.block k h6 (by intro e; injection e with e; omega)) HOB.out (newb wr _) h2 h3 h4
            have HBR : Hid (Below K w wr) := HBK.out wr hgr
            have HCR : Hid (CurY wr K (.slice b0 xs.length cap) q' ok) := HST.out.cur
            have HGN : Hid (OutGB xs z (le ++ [⟨zf, ol, .slice pu ol.length cu⟩]) q' ok) := OutGB.step HGB.out hlt HDN.out
            clear hgr HST HDN HIN HOB
            cases ok with
            | false =>
              by_cases hlm : (ol.length : Int) < zm
              · go_wp2_with (
                  at_builtin
                  refine wpList_append_1 _ rfl (.tmp 63) (.tmp 65) 26 rfl (K + 1) 45 i1 (.agg #[.int .i64 0, .slice none 0 0]) 2 32 Tryd.underlying26 hj hy0 hy1 hy2 rfl (by decide) r0 le.length (ferows le) rfl (World.ownsRow.alloc HRW.out _) ⟨wr.heap.size, 0, none⟩ 1 1 [.int .i64 zf, .slice pu ol.length cu] rfl rfl HNEW.out (by simp [Value.oneCell']) (by unfold maxLen; omega) (by omega) (by simp; omega) (by decide) ?_
                  intro v9 w9 hown9 hg9 hat9
                  have HF9 : Hid (FOwn (K + 1) w9 v9 (le ++ [⟨zf, ol, .slice pu ol.length cu⟩])) := HPU.out _ _ hown9 hg9 hat9
                  have HB9 : Hid (Below K w w9) := (HBR.out.trans ((newb wr _).mono (by omega))).grown hg9 (by simp; omega) (fun k hk => by have := (own_betweenZ HRW.out hk).1; omega)
                  have HC9 : Hid (CurY w9 K (.slice b0 xs.length cap) q' false) := (HCR.out.kept (Below.heap_alloc wr _ K (by omega))).kept (hg9.block K (by simp; omega) (fun e => by have := (own_betweenZ HRW.out e.symm).1; omega))
                  clear hown9 hg9 hat9)
                go_wp2_with fail
                go_roundw
                case rel => exact ⟨le ++ [⟨zf, ol, .slice pu ol.length cu⟩], _, q', false, rfl, by rw [List.length_append]; go_num, by rw [List.length_append]; simp only [List.length_cons, List.length_nil]; omega, HF9.out, HC9.out, HB9.out, HGN.out⟩
                case measure => simp [intOf]; omega
              · go_wp2_with (
                  at_builtin
                  refine wpList_append_1 _ rfl (.tmp 63) (.tmp 65) 26 rfl (K + 1) 45 i1 (.agg #[.int .i64 0, .slice none 0 0]) 2 32 Tryd.underlying26 hj hy0 hy1 hy2 rfl (by decide) r0 le.length (ferows le) rfl (World.ownsRow.alloc HRW.out _) ⟨wr.heap.size, 0, none⟩ 1 1 [.int .i64 zf, .slice pu ol.length cu] rfl rfl HNEW.out (by simp [Value.oneCell']) (by unfold maxLen; omega) (by omega) (by simp; omega) (by decide) ?_
                  intro v9 w9 hown9 hg9 hat9
                  have HF9 : Hid (FOwn (K + 1) w9 v9 (le ++ [⟨zf, ol, .slice pu ol.length cu⟩])) := HPU.out _ _ hown9 hg9 hat9
                  have HB9 : Hid (Below K w w9) := (HBR.out.trans ((newb wr _).mono (by omega))).grown hg9 (by simp; omega) (fun k hk => by have := (own_betweenZ HRW.out hk).1; omega)
                  have HC9 : Hid (CurY w9 K (.slice b0 xs.length cap) q' false) := (HCR.out.kept (Below.heap_alloc wr _ K (by omega))).kept (hg9.block K (by simp; omega) (fun e => by have := (own_betweenZ HRW.out e.symm).1; omega))
                  clear hown9 hg9 hat9)
                go_wp2_with fail
                go_roundw
                case rel => exact ⟨le ++ [⟨zf, ol, .slice pu ol.length cu⟩], _, q', false, rfl, by rw [List.length_append]; go_num, by rw [List.length_append]; simp only [List.length_cons, List.length_nil]; omega, HF9.out, HC9.out, HB9.out, HGN.out⟩
                case measure => simp [intOf]; omega
            | true =>
              have hlm : ¬ (ol.length : Int) < zm := fun h => hgo ⟨h, rfl⟩
              go_wp2_with (
                at_builtin
                refine wpList_append_1 _ rfl (.tmp 63) (.tmp 65) 26 rfl (K + 1) 45 i1 (.agg #[.int .i64 0, .slice none 0 0]) 2 32 Tryd.underlying26 hj hy0 hy1 hy2 rfl (by decide) r0 le.length (ferows le) rfl (World.ownsRow.alloc HRW.out _) ⟨wr.heap.size, 0, none⟩ 1 1 [.int .i64 zf, .slice pu ol.length cu] rfl rfl HNEW.out (by simp [Value.oneCell']) (by unfold maxLen; omega) (by omega) (by simp; omega) (by decide) ?_
                intro v9 w9 hown9 hg9 hat9
                have HF9 : Hid (FOwn (K + 1) w9 v9 (le ++ [⟨zf, ol, .slice pu ol.length cu⟩])) := HPU.out _ _ hown9 hg9 hat9
                have HB9 : Hid (Below K w w9) := (HBR.out.trans ((newb wr _).mono (by omega))).grown hg9 (by simp; omega) (fun k hk => by have := (own_betweenZ HRW.out hk).1; omega)
                have HC9 : Hid (CurY w9 K (.slice b0 xs.length cap) q' true) := (HCR.out.kept (Below.heap_alloc wr _ K (by omega))).kept (hg9.block K (by simp; omega) (fun e => by have := (own_betweenZ HRW.out e.symm).1; omega))
                clear hown9 hg9 hat9)
              go_wp2_with fail
              go_roundw
              case rel => exact ⟨le ++ [⟨zf, ol, .slice pu ol.length cu⟩], _, q', true, rfl, by rw [List.length_append]; go_num, by rw [List.length_append]; simp only [List.length_cons, List.length_nil]; omega, HF9.out, HC9.out, HB9.out, HGN.out⟩
              case measure => simp [intOf]; omega
      · have hle2 : (le.length : Int) = z := by omega
        obtain ⟨n, p, hn, hg1, hg2⟩ : ∃ n p : Nat, z = n ∧ getN xs 0 = some (n, p) ∧ getFs 2147483647 xs p n = some (strip le, q) := by
          rcases HGB.out with ⟨_, n, p, e, h1, h2⟩ | ⟨h, _⟩
          · refine ⟨n, p, e, h1, ?_⟩
            have e2 : le.length = n := by omega
            rw [e2] at h2
            exact h2
          · cases h
        have HG1 : Hid (getN xs 0 = some (n, p)) := hg1
        have HG2 : Hid (getFs 2147483647 xs p n = some (strip le, q)) := hg2
        clear hg1 hg2
        by_cases hq : q = xs.length
        · obtain ⟨R, hR⟩ : ∃ R : Bool, R = true ↔ FunsP le.length (kidL (strip le)) := by
            by_cases h : FunsP le.length (kidL (strip le))
            · exact ⟨true, by simp [h]⟩
            · exact ⟨false, by simp [h]⟩
          have HR : Hid (R = true ↔ FunsP le.length (kidL (strip le))) := hR
          have HFL : Hid (Fl wr le.length (kidL (strip le)) r0) := (HFO.out.flZ (fown_okL HG2.out)).all
          have HK2 : Hid (Calls Tryd.prog 19 #[r0] wr fun e w' => e = .returned (.bool R) ∧ Below wr.heap.size wr w') := spec_funs_ok le.length (kidL (strip le)) wr r0 HFL.out R hR
          have HQ : Hid (q = xs.length) := hq
          have hq2 : ((q : Int) != xs.length) = false := by simp; omega
          clear hR hq
          cases R with
          | false =>
            have HN : Hid (¬ ∃ L, Parsed xs L) := no_parse2 HG1.out HG2.out (fun h => by
              have := HR.out.2 (by rw [← strip_len]; exact h.2)
              cases this)
            go_wp2_with (go_at_call 19; refine (HK2.out).mono ?_; rintro e w3 ⟨rfl, hb3⟩; have H3 : Hid (Below K w w3) := HBE.out.trans (hb3.mono (by omega)); clear hb3)
            exact HNO.out HN.out _ H3.out
          | true =>
            have HP : Hid (Parsed xs (strip le)) := ⟨n, p, HG1.out, by rw [← HQ.out]; exact HG2.out, by rw [strip_len]; exact HR.out.1 rfl⟩
            go_wp2_with (go_at_call 19; refine (HK2.out).mono ?_; rintro e w3 ⟨rfl, hb3⟩; have H3 : Hid (Below K w w3 ∧ Fl w3 le.length (kidL (strip le)) r0) := ⟨HBE.out.trans (hb3.mono (by omega)), HFL.out.below hb3⟩; clear hb3)
            exact HYES.out le _ _ HP.out H3.out.2 H3.out.1
        · have HN : Hid (¬ ∃ L, Parsed xs L) := no_parse2 HG1.out HG2.out (fun h => hq h.1)
          have hq2 : ((q : Int) != xs.length) = true := by simp; omega
          go_wp2_with fail
          exact HNO.out HN.out _ HBE.out
end Go.Proofs.YtocdpgogoadfnaaDoor
