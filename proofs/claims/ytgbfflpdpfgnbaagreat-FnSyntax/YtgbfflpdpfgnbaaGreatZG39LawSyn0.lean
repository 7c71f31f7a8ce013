/- spec.SameDat. No conditions. -/
import Derived.Test.YtgbfflpdpfgnbaaGreatRows
import Derived.Test.YtgbfflpdpfgnbaaGreatZG16ReadW
import Derived.Test.YtgbfflpdpfgnbaaGreatZG10DatOwn
import Derived.Test.YtgbfflpdpfgnbaaGreatZG28StxParts
import Derived.Test.YtgbfflpdpfgnbaaGreatZG24SpecFlipAll
import Derived.Test.YtgbfflpdpfgnbaaGreatZG25ToDat
import Derived.Test.YtgbfflpdpfgnbaaGreatZG26SpecDatOf
import Derived.Test.YtgbfflpdpfgnbaaGreatZG27HolesX
import Derived.Test.YtgbfflpdpfgnbaaGreatZG31ImplWithAll
import Derived.Test.YtgbfflpdpfgnbaaGreatZG33RemD
import Derived.Test.YtgbfflpdpfgnbaaGreatZG35RuneHigh
import Derived.Test.YtgbfflpdpfgnbaaGreatZG37ImplStxOk
import Derived.Test.YtgbfflpdpfgnbaaGreatZG38SpecSameStx
import Derived.WalkKit
import Derived.ProofKit
import Derived.OwnWalk
import Derived.BigQuiet
import Derived.Deep.QuietTactic
import Derived.Deep.RegionWith
import Derived.Deep.RegionLaw
import Derived.Deep.AppendLies
import Derived.Deep.LoopGhost
import Derived.Laws.OwnMore
namespace Go.Proofs.YtgbfflpdpfgnbaaGreat
open Go.ChangeShapes Go.WideShapes Go.ChangeAt Go.RowKit

/-- The tests ahead, one by one. -/
theorem headB_cases (a b : D) : (headB a b = true ∧ a.op = b.op ∧ a.n = b.n ∧ a.s = b.s ∧ a.len = b.len) ∨
    (headB a b = false ∧ (a.op ≠ b.op ∨ (a.op = b.op ∧ (a.n ≠ b.n ∨ (a.n = b.n ∧ ((a.s.toList == b.s.toList) = false ∨ (a.s = b.s ∧ a.len ≠ b.len))))))) := by
  unfold headB
  by_cases h1 : a.op = b.op
  · by_cases h2 : a.n = b.n
    · by_cases h3 : a.s.toList = b.s.toList
      · have h3' : a.s = b.s := bytes_inj (by rw [← ByteArray.toList_eq, ← ByteArray.toList_eq, h3])
        by_cases h4 : a.len = b.len
        · exact .inl (by simp [h1, h2, h3', h4])
        · exact .inr (by simp [h1, h2, h3', h4])
      · exact .inr (by simp [h1, h2, h3])
    · exact .inr (by simp [h1, h2])
  · exact .inr (by simp [h1])

end Go.Proofs.YtgbfflpdpfgnbaaGreat

/- impl.SameDat. Condition: at most 2^20 data. -/
namespace Go.Proofs.YtgbfflpdpfgnbaaGreat
open Go.ChangeShapes Go.WideShapes Go.ChangeAt Go.RowKit

set_option maxRecDepth 100000 in
set_option maxHeartbeats 4000000 in
theorem impl_head (x y : D) (p q : Option Addr) (c1 c2 : Nat) (w : World) :
    Calls Tryz.prog 49 #[.agg #[.int .i64 x.op, .int .i64 x.at_, .int .i64 x.n, .string x.s, .slice p x.len c1, .int .i64 y.op, .int .i64 y.at_, .int .i64 y.n, .string y.s, .slice q y.len c2]] w fun e w' => e = .returned (.bool (headB x y)) ∧ Below w.heap.size w w' := by
  have hh := headB_cases x y
  generalize headB x y = R at *
  generalize x.op = op at *
  generalize x.at_ = a at *
  generalize x.n = n at *
  generalize x.s = s at *
  generalize x.len = len at *
  generalize y.op = op2 at *
  generalize y.at_ = a2 at *
  generalize y.n = n2 at *
  generalize y.s = s2 at *
  generalize y.len = len2 at *
  have HB : Hid (∀ o1, Below w.heap.size w (w.alloc o1)) := fun o1 => newb w _
  rcases hh with ⟨hR, t0, t1, t2, t3⟩ | ⟨hR, c | ⟨c0, c | ⟨c1, c | ⟨c2, c⟩⟩⟩⟩
  · subst hR t0 t1 t2 t3
    go_enter Tryz.func49, Tryz.ntmps49
    go_wp2_with fail
    go_ret
    exact ⟨rfl, HB.out _⟩
  · subst hR
    have d1 : (op == op2) = false := by simpa using c
    go_enter Tryz.func49, Tryz.ntmps49
    go_wp2_with fail
    go_ret
    exact ⟨rfl, HB.out _⟩
  · subst hR c0
    have d1 : (n == n2) = false := by simpa using c
    go_enter Tryz.func49, Tryz.ntmps49
    go_wp2_with fail
    go_ret
    exact ⟨rfl, HB.out _⟩
  · subst hR c0 c1
    go_enter Tryz.func49, Tryz.ntmps49
    go_wp2_with fail
    go_ret
    exact ⟨rfl, HB.out _⟩
  · subst hR c0 c1 c2
    have d1 : ((len : Int) == (len2 : Int)) = false := by rw [beq_eq_false_iff_ne]; omega
    go_enter Tryz.func49, Tryz.ntmps49
    go_wp2_with fail
    go_ret
    exact ⟨rfl, HB.out _⟩

theorem pair_info : (Tryz.prog.info? 70).map (fun i => (i.zero, i.size, i.bytes)) = some (some (.agg #[.int .i64 0, .int .i64 0, .int .i64 0, .string ⟨#[]⟩, .slice none 0 0, .int .i64 0, .int .i64 0, .int .i64 0, .string ⟨#[]⟩, .slice none 0 0]), 10, 128) := by kernel_rfl

theorem app_step {w wr w3 : World} {o1 o2 : Obj} {g' PB : Nat} {x : Value} (hbel : Below w.heap.size w wr) (hg : ((wr.alloc o1).alloc o2).drew.grownBy w3 (some g')) (hb3 : w.heap.size + 2 ≤ g') (hsz : PB < wr.heap.size) (hne : g' ≠ PB) (hq : wr.cell? ⟨PB, 9, none⟩ = some x) :
    Below w.heap.size w w3 ∧ PB < w3.heap.size ∧ w3.cell? ⟨PB, 9, none⟩ = some x := by
  have h1 : Below wr.heap.size wr ((wr.alloc o1).alloc o2).drew := ((newb wr o1).trans ((newb _ o2).mono (by simp))).drew
  have h2 := hg.size
  have h3 := h1.size
  have h4 := hbel.size
  refine ⟨(hbel.trans (h1.mono h4)).trans ⟨hg.os, hg.tape, hg.output, hg.size, fun j hj => hg.block j (by omega) (by intro e; injection e with e; omega)⟩, by omega, hg.cell (keeps h1 _ _ hq) (by simpa using fun e => hne e.symm)⟩

/-- What the loop keeps. -/
structure Left (w wr : World) (R : Bool) (st : List Pr) (g cap : Nat) : Prop where
  all : allSame st = R
  ins : PrsIn w st
  own : wr.ownsRow (w.heap.size + 2) 70 10 (.slice (some ⟨g, 0, none⟩) st.length cap) st.length (prows st)
  bel : Below w.heap.size w wr
  size : w.heap.size + 2 ≤ wr.heap.size

set_option maxRecDepth 100000 in
set_option maxHeartbeats 4000000 in
theorem impl_same (x y : D) (w : World) (u v : Value) (hu : x.In w u) (hv : y.In w v) (hc : x.count ≤ 1048577) :
    Calls Tryz.prog 20 #[.agg #[.int .i64 x.op, .int .i64 x.at_, .int .i64 x.n, .string x.s, u], .agg #[.int .i64 y.op, .int .i64 y.at_, .int .i64 y.n, .string y.s, v]] w fun e w' => e = .returned (.bool (sameD x y)) ∧ Below w.heap.size w w' := by
  obtain ⟨i0, hi, hz0, hz1, hz2⟩ := info_parts pair_info
  obtain ⟨p, cap, e1⟩ := hu.sl.shape
  obtain ⟨q, cap2, e2⟩ := hv.sl.shape
  have H0 : Hid (allSame [(x, y, u, v)] = sameD x y ∧ total [(x, y, u, v)] ≤ 1048577 ∧ PrsIn w [(x, y, u, v)]) := ⟨by simp [allSame], by simpa [total] using hc, by intro q hq; simp only [List.mem_singleton] at hq; subst hq; exact ⟨hu, hv⟩⟩
  clear hu hv hc
  generalize hR : sameD x y = R at *
  generalize hn : total [(x, y, u, v)] = n0 at *
  have HN : Hid (total [(x, y, u, v)] = n0) := hn
  clear hR hn
  subst e1 e2
  go_enter Tryz.func20, Tryz.ntmps20
  go_wp2_with fail
  go_loopg [5] n0 (fun k lv wr => ∃ (st : List Pr) (g cap : Nat), total st = k ∧ k ≤ 1048577 ∧ lv = .slice (some ⟨g, 0, none⟩) st.length cap ∧ Left w wr R st g cap)
  case atStart =>
    have hb : ∀ o1 o2 o3, Below w.heap.size w (((w.alloc o1).alloc o2).alloc o3) ∧ w.heap.size + 2 ≤ (((w.alloc o1).alloc o2).alloc o3).heap.size := fun o1 o2 o3 => ⟨Below.trans (newb w _) (Below.trans ((newb _ _).mono (B' := w.heap.size) (by simp)) ((newb _ _).mono (B' := w.heap.size) (by simp; omega))), by simp⟩
    refine ⟨_, _, _, HN.out, H0.out.2.1, rfl, H0.out.1, H0.out.2.2, ?_, (hb _ _ _).1, (hb _ _ _).2⟩
    exact own_new rfl (by simp) (by omega) rfl rfl (by unfold maxLen; omega)
  case round =>
    obtain ⟨st, g, gc, hst, hk, rfl, hL⟩ := hrel
    have HST : Hid (total st = gk) := hst
    have HL : Hid (Left w wr R st g gc) := hL
    clear hst hL H0 HN
    rcases List.eq_nil_or_concat st with hnil | ⟨r, pr, hst⟩
    · subst hnil
      have HRR : Hid (R = true) := HL.out.all.symm
      have HB : Hid (Below w.heap.size w wr) := HL.out.bel
      clear HL HST
      go_wp2_with fail
      go_ret
      exact ⟨by rw [HRR.out]; rfl, HB.out⟩
    · rw [List.concat_eq_append] at hst
      subst hst
      obtain ⟨a, b, ua, ub⟩ := pr
      have hins := HL.out.ins (a, b, ua, ub) (by simp)
      obtain ⟨pa, ca, U, ea, hla, hata⟩ := hins.1.sl.fn
      obtain ⟨pb, cb, V, eb, hlb, hatb⟩ := hins.2.sl.fn
      simp only at ea eb
      subst ea eb
      have HA : Hid (∀ i, i < a.len → ∃ b o, pa = some ⟨b, o, none⟩ ∧ Head w b (o + i * 5) (a.kid i) (U i) ∧ (a.kid i).In w (U i)) := hata
      have HBB : Hid (∀ i, i < b.len → ∃ b' o, pb = some ⟨b', o, none⟩ ∧ Head w b' (o + i * 5) (b.kid i) (V i) ∧ (b.kid i).In w (V i)) := hatb
      clear hata hatb hins
      have hcell : ∀ j, j < 10 → wr.cell? ⟨g, r.length * 10 + j, none⟩ = (Pr.cells (a, b, .slice pa a.len ca, .slice pb b.len cb))[j]? := by
        intro j hj
        have h1 := HL.out.own.cellAt (r.length * 10 + j) (by simp; omega)
        rw [h1, prows_append, List.getElem?_append_right (by rw [prows_length]; omega), prows_length]
        simp [prows]
      have l0 := hcell 0 (by omega); have l1 := hcell 1 (by omega); have l2 := hcell 2 (by omega); have l3 := hcell 3 (by omega); have l4 := hcell 4 (by omega)
      have l5 := hcell 5 (by omega); have l6 := hcell 6 (by omega); have l7 := hcell 7 (by omega); have l8 := hcell 8 (by omega); have l9 := hcell 9 (by omega)
      simp only [Pr.cells, Nat.add_zero, List.getElem?_cons_zero, List.getElem?_cons_succ] at l0 l1 l2 l3 l4 l5 l6 l7 l8 l9
      clear hcell
      obtain ⟨hr1, hr2, hr3, hr4⟩ := own_room HL.out.own
      have hlen : (r ++ [(a, b, Value.slice pa a.len ca, Value.slice pb b.len cb)]).length = r.length + 1 := by simp
      have hrl : r.length < 1048577 := by have := total_len (r ++ [(a, b, Value.slice pa a.len ca, Value.slice pb b.len cb)]); rw [HST.out] at this; omega
      rw [hlen] at hr1 ⊢
      unfold maxLen at hr2 hla hlb
      clear hlen
      generalize hrn : r.length = rn at *
      have HRN : Hid (r.length = rn) := hrn
      clear hrn
      have hO1 := own_cut (n := rn) (xs := prows r) (ys := prows [(a, b, Value.slice pa a.len ca, Value.slice pb b.len cb)]) (by rw [← prows_append]; exact HL.out.own) (by rw [prows_length, HRN.out]) (by simp [HRN.out])
      have HO1 : Hid (wr.ownsRow (w.heap.size + 2) 70 10 (.slice (some ⟨g, 0, none⟩) rn gc) rn (prows r)) := hO1
      clear hO1
      have HBL : Hid (Below w.heap.size w wr) := HL.out.bel
      go_wp2_with fail
      refine (impl_head a b pa pb ca cb _).mono ?_
      rintro e w1 ⟨rfl, hb1⟩
      have hnb := newb wr (.cells #[.int .i64 a.op, .int .i64 a.at_, .int .i64 a.n, .string a.s, .slice pa a.len ca, .int .i64 b.op, .int .i64 b.at_, .int .i64 b.n, .string b.s, .slice pb b.len cb] 70)
      have HO2 : Hid (w1.ownsRow (w.heap.size + 2) 70 10 (.slice (some ⟨g, 0, none⟩) rn gc) rn (prows r)) := own_below5 (own_below5 HO1.out hnb) hb1
      have hb2 : Below wr.heap.size wr w1 := hnb.trans (hb1.mono hnb.size)
      have HB1 : Hid (Below w.heap.size w w1) := HBL.out.trans (hb2.mono HBL.out.size)
      have hP : w1.heap[wr.heap.size]? = some (.cells #[.int .i64 a.op, .int .i64 a.at_, .int .i64 a.n, .string a.s, .slice pa a.len ca, .int .i64 b.op, .int .i64 b.at_, .int .i64 b.n, .string b.s, .slice pb b.len cb] 70 (0, 0)) := (hb1.block _ (by simp)).trans (heap_alloc_new wr _)
      have hp4 : w1.cell? ⟨wr.heap.size, 4, none⟩ = some (.slice pa a.len ca) := cell_of_row w1 _ 4 _ _ _ hP
      have hp9 : w1.cell? ⟨wr.heap.size, 9, none⟩ = some (.slice pb b.len cb) := cell_of_row w1 _ 9 _ _ _ hP
      have hPs : wr.heap.size < w1.heap.size := (Array.getElem?_eq_some_iff.1 hP).1
      clear hb1 hb2 hnb hP HO1 HBL l0 l1 l2 l3 l4 l5 l6 l7 l8 l9
      have hh := headB_cases a b
      rcases hh with ⟨hR, -, -, -, hab⟩ | ⟨hR, -⟩
      · rw [hR]
        have HPS : Hid (∀ k, allSame (r ++ pushed a b U V k) = allSame (r ++ pushed a b U V k)) := fun _ => rfl
        have HAL : Hid (allSame (r ++ pushed a b U V a.len) = R) := (pop_same r a b _ _ U V hR).symm.trans HL.out.all
        have HTT : Hid (total (r ++ pushed a b U V a.len) + 1 = gk) := (pop_total r a b _ _ U V).trans HST.out
        have HIN : Hid (PrsIn w (r ++ pushed a b U V a.len)) := by
          intro z hz
          rcases List.mem_append.1 hz with hz | hz
          · exact HL.out.ins z (List.mem_append_left _ hz)
          · simp only [pushed, List.mem_map, List.mem_range] at hz
            obtain ⟨j, hj, rfl⟩ := hz
            obtain ⟨_, _, _, _, h1⟩ := HA.out j hj
            obtain ⟨_, _, _, _, h2⟩ := HBB.out j (by omega)
            exact ⟨h1, h2⟩
        have hal : a.len ≤ 1048577 := by
          have h1 := total_len (r ++ pushed a b U V a.len)
          have h2 := HTT.out
          rw [List.length_append, pushed_len] at h1
          omega
        have hral : rn + a.len ≤ 1048577 := by
          have h1 := total_len (r ++ pushed a b U V a.len)
          have h2 := HTT.out
          have h3 := HRN.out
          rw [List.length_append, pushed_len] at h1
          omega
        have HSZ : Hid (w.heap.size + 2 ≤ wr.heap.size) := HL.out.size
        clear hR HPS HL HST hla hlb
        generalize hbl : b.len = bl at *
        subst hab
        clear hbl
        generalize wr.heap.size = PB at *
        go_wp2_with fail
        go_loopw [5, 34] (fun lv i wi => ∃ (k g' c' : Nat), i = .int .i64 k ∧ k ≤ a.len ∧ lv = .slice (some ⟨g', 0, none⟩) ((rn + k : Nat)) c' ∧ g' ≠ PB ∧ wi.ownsRow (w.heap.size + 2) 70 10 (.slice (some ⟨g', 0, none⟩) ((rn + k : Nat)) c') (rn + k) (prows (r ++ pushed a b U V k)) ∧ Below w.heap.size w wi ∧ PB < wi.heap.size ∧ wi.cell? ⟨PB, 9, none⟩ = some (.slice pb a.len cb)) (fun _ i _ => a.len - (intOf i).toNat)
        case atStart => exact ⟨0, g, gc, rfl, Nat.zero_le _, rfl, by omega, by simpa [pushed] using HO2.out, HB1.out, hPs, hp9⟩
        case round =>
          obtain ⟨k, g', c', rfl, hka, rfl, hgne, hown, hbel, hsz, hq9⟩ := hrel
          have HOW : Hid (wr.ownsRow (w.heap.size + 2) 70 10 (.slice (some ⟨g', 0, none⟩) (rn + k) c') (rn + k) (prows (r ++ pushed a b U V k))) := hown
          have HBW : Hid (Below w.heap.size w wr) := hbel
          obtain ⟨-, -, hb3, hb4⟩ := own_room hown
          clear hown hbel HO2 HB1 hp4 hp9 hPs hr1 hr2 hr3 hr4
          by_cases hlt : (k : Int) < a.len
          · have hlt' : k < a.len := by omega
            obtain ⟨ba, oa, hpa, hda, -⟩ := HA.out k hlt'
            obtain ⟨bb, ob, hpb, hdb, -⟩ := HBB.out k hlt'
            subst hpa hpb
            obtain ⟨c0, c1, c2, c3, c4⟩ := hda.below HBW.out
            obtain ⟨d0, d1, d2, d3, d4⟩ := hdb.below HBW.out
            obtain ⟨pu, cu, eu⟩ := (HIN.out ((a.kid k), (b.kid k), U k, V k) (by refine List.mem_append_right _ ?_; simp only [pushed, List.mem_map, List.mem_range]; exact ⟨k, hlt', rfl⟩)).1.sl.shape
            obtain ⟨pv, cv, ev⟩ := (HIN.out ((a.kid k), (b.kid k), U k, V k) (by refine List.mem_append_right _ ?_; simp only [pushed, List.mem_map, List.mem_range]; exact ⟨k, hlt', rfl⟩)).2.sl.shape
            simp only at eu ev
            rw [eu] at c4
            rw [ev] at d4
            have HEU : Hid (U k = .slice pu (a.kid k).len cu ∧ V k = .slice pv (b.kid k).len cv) := ⟨eu, ev⟩
            clear eu ev hda hdb
            go_wp2_with fail
            generalize hW : wr.alloc (.cells #[.int .i64 (a.kid k).op, .int .i64 (a.kid k).at_, .int .i64 (a.kid k).n, .string (a.kid k).s, .slice pu (a.kid k).len cu] 26) = W
            have hWb : Below wr.heap.size wr W := by rw [← hW]; exact newb _ _
            have hWk : W.heap[wr.heap.size]? = some (.cells #[.int .i64 (a.kid k).op, .int .i64 (a.kid k).at_, .int .i64 (a.kid k).n, .string (a.kid k).s, .slice pu (a.kid k).len cu] 26 (0, 0)) := by rw [← hW]; exact heap_alloc_new _ _
            have hWs : W.heap.size = wr.heap.size + 1 := by rw [← hW]; simp
            have k0 : W.cell? ⟨wr.heap.size, 0, none⟩ = some (.int .i64 (a.kid k).op) := cell_of_row W _ 0 _ _ _ hWk
            have k1 : W.cell? ⟨wr.heap.size, 1, none⟩ = some (.int .i64 (a.kid k).at_) := cell_of_row W _ 1 _ _ _ hWk
            have k2 : W.cell? ⟨wr.heap.size, 2, none⟩ = some (.int .i64 (a.kid k).n) := cell_of_row W _ 2 _ _ _ hWk
            have k3 : W.cell? ⟨wr.heap.size, 3, none⟩ = some (.string (a.kid k).s) := cell_of_row W _ 3 _ _ _ hWk
            have k4 : W.cell? ⟨wr.heap.size, 4, none⟩ = some (.slice pu (a.kid k).len cu) := cell_of_row W _ 4 _ _ _ hWk
            have m0 := keeps hWb _ _ d0; have m1 := keeps hWb _ _ d1; have m2 := keeps hWb _ _ d2; have m3 := keeps hWb _ _ d3; have m4 := keeps hWb _ _ d4; have m9 := keeps hWb _ _ hq9
            have HWO : Hid (W.ownsRow (w.heap.size + 2) 70 10 (.slice (some ⟨g', 0, none⟩) (rn + k) c') (rn + k) (prows (r ++ pushed a b U V k))) := own_below5 HOW.out hWb
            have HQ9 : Hid (wr.cell? ⟨PB, 9, none⟩ = some (.slice (some ⟨bb, ob, none⟩) a.len cb)) := hq9
            have hWS : Hid (W.heap.size = wr.heap.size + 1) := hWs
            have HWE : Hid (wr.alloc (.cells #[.int .i64 (a.kid k).op, .int .i64 (a.kid k).at_, .int .i64 (a.kid k).n, .string (a.kid k).s, .slice pu (a.kid k).len cu] 26) = W) := hW
            have HBS : Hid (w.heap.size + 1 ≤ W.heap.size) := by
              show _ ≤ _
              omega
            clear hW hWb hWk c0 c1 c2 c3 c4 d0 d1 d2 d3 d4 hq9 hWs
            go_region_law
              ((refine step_append_lies _ (by rfl) _ _ _ (by rfl) (w.heap.size + 2) 70 i0 _ 10 128 Tryz.underlying71 hi hz0 hz1 hz2 rfl (by omega) (.slice (some ⟨g', 0, none⟩) (rn + k) c') (rn + k) (prows (r ++ pushed a b U V k)) (by rfl) ((HWO.out.alloc _).drew) ⟨W.heap.size, 0, none⟩ 1 1 [.int .i64 (a.kid k).op, .int .i64 (a.kid k).at_, .int .i64 (a.kid k).n, .string (a.kid k).s, .slice pu (a.kid k).len cu, .int .i64 (b.kid k).op, .int .i64 (b.kid k).at_, .int .i64 (b.kid k).n, .string (b.kid k).s, .slice pv (b.kid k).len cv] (by rfl) (by rfl) (World.news_of_block (cs := #[.int .i64 (a.kid k).op, .int .i64 (a.kid k).at_, .int .i64 (a.kid k).n, .string (a.kid k).s, .slice pu (a.kid k).len cu, .int .i64 (b.kid k).op, .int .i64 (b.kid k).at_, .int .i64 (b.kid k).n, .string (b.kid k).s, .slice pv (b.kid k).len cv]) (t := 70) (fr := (0, 0)) (heap_alloc_new W _)) (by simp [Value.oneCell']) (by omega) (by unfold maxLen; omega) (by omega) (by simp; exact HBS.out) (W.heap.size + 1) (by simp) ?_; intro gg cap3 w3 hown3 hgrow hat hlt3))
            all_goals
              have hpp : prows (r ++ pushed a b U V k) ++ [.int .i64 (a.kid k).op, .int .i64 (a.kid k).at_, .int .i64 (a.kid k).n, .string (a.kid k).s, .slice pu (a.kid k).len cu, .int .i64 (b.kid k).op, .int .i64 (b.kid k).at_, .int .i64 (b.kid k).n, .string (b.kid k).s, .slice pv (b.kid k).len cv] = prows (r ++ pushed a b U V (k + 1)) := by
                rw [pushed_succ, ← List.append_assoc, prows_append _ [_], HEU.out.1, HEU.out.2]; rfl
              rw [hpp] at hown3
              have hgg : gg ≠ PB := by
                rcases hat with h | h
                · have : g' = gg := by simpa [Value.ownBlock] using h
                  omega
                · have := hWS.out; omega
              have HS3 : Hid (Below w.heap.size w w3 ∧ PB < w3.heap.size ∧ w3.cell? ⟨PB, 9, none⟩ = some (.slice (some ⟨bb, ob, none⟩) a.len cb)) := by
                have h := hgrow
                rw [← HWE.out] at h
                exact app_step HBW.out h hb3 hsz hgne HQ9.out
              have HO3 : Hid (w3.ownsRow (w.heap.size + 2) 70 10 (.slice (some ⟨gg, 0, none⟩) (rn + k + 1) cap3) (rn + k + 1) (prows (r ++ pushed a b U V (k + 1)))) := hown3
              have HGG : Hid (gg ≠ PB) := hgg
              clear hown3 hpp hgrow hat hlt3 hgg
              go_wp2_with fail
              go_roundw
              case rel => first | exact ⟨k + 1, gg, cap3, by go_num, by omega, rfl, HGG.out, HO3.out, HS3.out.1, HS3.out.2.1, HS3.out.2.2⟩ | ((repeat apply Exists.intro); exact ⟨⟨k + 1, gg, cap3, by go_num, by omega, rfl, HGG.out, HO3.out, HS3.out.1, HS3.out.2.1, HS3.out.2.2⟩, rfl⟩)
              case measure => simp [intOf]; omega
          · have hke : k = a.len := by omega
            go_wp2_with fail
            go_roundg (total (r ++ pushed a b U V a.len))
            case measure => have := HTT.out; omega
            case rel =>
              subst hke
              have h1 := HTT.out
              have h2 := HOW.out
              have h3 := HRN.out
              refine ⟨r ++ pushed a b U V a.len, g', c', rfl, by omega, by rw [List.length_append, pushed_len, h3], HAL.out, HIN.out, ?_, HBW.out, by have := HSZ.out; omega⟩
              rw [List.length_append, pushed_len, h3]; exact h2
      · rw [hR]
        have HRR : Hid (R = false) := HL.out.all.symm.trans (pop_no r a b _ _ hR)
        clear HL HST HO2
        go_wp2_with fail
        go_ret
        exact ⟨by rw [HRR.out]; rfl, HB1.out⟩
end Go.Proofs.YtgbfflpdpfgnbaaGreat

/- The callees of laws.FnSyntax, each in one form: what it answers can be read, and is new memory. Condition: a drawn node or datum. -/
namespace Go.Proofs.YtgbfflpdpfgnbaaGreat
open Go.ChangeShapes Go.WideShapes Go.ChangeAt Go.RowKit

theorem sameD_selfX (t : D) : sameD t t = true := by
  induction t with
  | no => rw [sameD_eq]; simp [headB, D.op, D.n, D.s, D.len, allTo]
  | mk op a n s len kid ih =>
    rw [sameD_eq]
    have h : allTo (fun i => sameD (kid i) (kid i)) len = true := allTo_true.2 fun i _ => ih i
    simp only [D.kid, D.len] at h ⊢
    rw [h]
    simp [headB, D.op, D.n, D.s, D.len]

/-- A node that was drawn, or made of one that was drawn. -/
structure Fine (t : X) : Prop where
  wt : (datX t).weight ≤ 60000
  sets : t.SetsLe 11
theorem Fine.weight {t : X} (h : Fine t) : t.weight ≤ 1048576 := by
  have := X.weight_sets (m := 11) _ h.sets
  have := h.wt
  omega
theorem Fine.small {t : X} (h : Fine t) : t.Small := t.small_of_weight (by have := h.weight; omega)
theorem Fine.count {t : X} (h : Fine t) : t.count ≤ 1048577 := by have := t.count_weight; have := h.weight; omega
theorem fine_got {t : X} (h : (datX t).weight ≤ 60000) (hs : t.SetsLe 9) (n : Int) : Fine t ∧ Fine (t.flip n) ∧ Fine ((t.flip n).flip n) ∧ Fine (t.withAll n) :=
  have h1 := X.SetsLe.turn (f := fun s => flipL s n) (fun s => flip_len s n) t hs
  have h2 := X.SetsLe.turn (f := fun s => withL s n) (fun s => with_len s n) t hs
  ⟨⟨h, X.SetsLe.mono (by omega) _ hs⟩, ⟨by rw [datX_flip]; exact h, X.SetsLe.mono (by omega) _ h1⟩, ⟨by rw [datX_flip, datX_flip]; exact h, X.SetsLe.turn (f := fun s => flipL s n) (fun s => flip_len s n) _ h1⟩, ⟨by rw [show datX (t.withAll n) = datX t from datX_turn _ t]; exact h, X.SetsLe.mono (by omega) _ h2⟩⟩
theorem fine_stx {d : D} {xs : List Int} (h : d.weight ≤ 60000) (hl : xs.length ≤ 8) : Fine (stxD xs d) :=
  ⟨by rw [datX_stxD]; exact h, X.SetsLe.mono (by omega) _ (stxD_setsLe xs d)⟩

/-- The answer is this node, to be read, in new memory. -/
def RetX (W : World) (T : X) (e : Ending) (w' : World) : Prop := ∃ (p q : Option Addr) (c k : Nat), e = .returned (.agg #[.int .i64 T.op, .int .i64 T.at_, .int .i64 T.n, .string T.s, .slice p T.set.length c, .slice q T.len k]) ∧ Below W.heap.size W w' ∧ T.At 0 w' (.slice p T.set.length c) (.slice q T.len k)
def RetD (W : World) (T : D) (e : Ending) (w' : World) : Prop := ∃ (q : Option Addr) (k : Nat), e = .returned (.agg #[.int .i64 T.op, .int .i64 T.at_, .int .i64 T.n, .string T.s, .slice q T.len k]) ∧ Below W.heap.size W w' ∧ T.In w' (.slice q T.len k)
def RetB (W : World) (b : Bool) (e : Ending) (w' : World) : Prop := e = .returned (.bool b) ∧ Below W.heap.size W w'

theorem retX {W : World} {T : X} {a b c : Int} {s : ByteArray} {e : Ending} {w' : World} (ha : T.op = a) (hb : T.at_ = b) (hc : T.n = c) (hs : T.s = s) (h : ∃ su u S, e = .returned (.agg #[.int .i64 a, .int .i64 b, .int .i64 c, .string s, su, u]) ∧ Below W.heap.size W w' ∧ XOwn w' T su u S ∧ S.Nodup ∧ ∀ x ∈ S, W.heap.size ≤ x) : RetX W T e w' := by
  obtain ⟨su, u, S, he, hB, hX, -, -⟩ := h
  obtain ⟨q, k, hv⟩ := hX.at0.xs.shape
  obtain ⟨p, c', hw⟩ := hX.at0.sets.shape
  subst hv hw ha hb hc hs
  exact ⟨p, q, c', k, he, hB, hX.at0⟩
theorem retD {W : World} {T : D} {a b c : Int} {s : ByteArray} {e : Ending} {w' : World} (ha : T.op = a) (hb : T.at_ = b) (hc : T.n = c) (hs : T.s = s) (h : ∃ u S, e = .returned (.agg #[.int .i64 a, .int .i64 b, .int .i64 c, .string s, u]) ∧ Below W.heap.size W w' ∧ DOwn w' T u S ∧ S.Nodup ∧ ∀ x ∈ S, W.heap.size ≤ x) : RetD W T e w' := by
  obtain ⟨u, S, he, hB, hX, -, -⟩ := h
  obtain ⟨q, k, hv⟩ := hX.in'.sl.shape
  subst hv ha hb hc hs
  exact ⟨q, k, he, hB, hX.in'⟩
theorem datX_heads (t : X) : (datX t).op = t.op ∧ (datX t).at_ = t.at_ ∧ (datX t).n = t.n ∧ (datX t).s = t.s := by cases t <;> exact ⟨rfl, rfl, rfl, rfl⟩

theorem i_stx (xs : List Int) (d : D) (v sv : Value) (w : World) (hin : d.In w v) (hs : Rd w sv xs) (hl : xs.length ≤ 8) (hw : d.weight ≤ 60000) :
    Calls Tryz.prog 6 #[.agg #[.int .i64 d.op, .int .i64 d.at_, .int .i64 d.n, .string d.s, v], sv] w fun e w' => RetX w (stxD xs d) e w' :=
  (impl_stx_of xs d v sv w hin hs (by omega) (by have := d.count_weight; omega)).mono fun _ _ h => retX (stxD_heads xs d).1 (stxD_heads xs d).2.1 (stxD_heads xs d).2.2.1 (stxD_heads xs d).2.2.2 h
theorem i_flip (m : Int) (t : X) (su u : Value) (w : World) (hin : t.At 0 w su u) (hf : Fine t) :
    Calls Tryz.prog 12 #[.agg #[.int .i64 t.op, .int .i64 t.at_, .int .i64 t.n, .string t.s, su, u], .int .i64 m] w fun e w' => RetX w (t.flip m) e w' :=
  have hd := datX_head (datX_flip t m)
  (impl_flip_all m t su u w hin hf.small hf.count).mono fun _ _ h => retX hd.1 hd.2.1 hd.2.2.1 hd.2.2.2 h
theorem i_with (m : Int) (t : X) (su u : Value) (w : World) (hin : t.At 0 w su u) (hf : Fine t) :
    Calls Tryz.prog 16 #[.agg #[.int .i64 t.op, .int .i64 t.at_, .int .i64 t.n, .string t.s, su, u], .int .i64 m] w fun e w' => RetX w (t.withAll m) e w' :=
  have hd := datX_head (show datX (t.withAll m) = datX t from datX_turn _ t)
  (impl_with_all m t su u w hin hf.small hf.count).mono fun _ _ h => retX hd.1 hd.2.1 hd.2.2.1 hd.2.2.2 h
theorem i_dat (t : X) (su u : Value) (w : World) (hin : t.At 0 w su u) (hf : Fine t) :
    Calls Tryz.prog 21 #[.agg #[.int .i64 t.op, .int .i64 t.at_, .int .i64 t.n, .string t.s, su, u]] w fun e w' => RetD w (datX t) e w' :=
  (impl_dat_of t su u w hin hf.count).mono fun _ _ h => retD (datX_heads t).1 (datX_heads t).2.1 (datX_heads t).2.2.1 (datX_heads t).2.2.2 h
theorem i_ok (t : X) (su u : Value) (w : World) (hin : t.At 0 w su u) (hf : Fine t) {b : Bool} (hb : stxOkB t = b) :
    Calls Tryz.prog 18 #[.agg #[.int .i64 t.op, .int .i64 t.at_, .int .i64 t.n, .string t.s, su, u]] w fun e w' => RetB w b e w' := by subst hb; exact impl_stx_ok t w su u hin hf.weight
theorem s_stx (xs : List Int) (d : D) (v sv : Value) (w : World) (hin : d.In w v) (hs : Rd w sv xs) (hl : xs.length ≤ 8) (hw : d.weight ≤ 60000) :
    Calls Tryz.prog 14 #[.agg #[.int .i64 d.op, .int .i64 d.at_, .int .i64 d.n, .string d.s, v], sv] w fun e w' => RetX w (stxD xs d) e w' :=
  (spec_stx_of xs (by omega) d w v sv hin hs (by omega)).mono fun _ _ h => retX (stxD_heads xs d).1 (stxD_heads xs d).2.1 (stxD_heads xs d).2.2.1 (stxD_heads xs d).2.2.2 h
theorem s_flip (m : Int) (t : X) (su u : Value) (w : World) (hin : t.At 0 w su u) (hf : Fine t) :
    Calls Tryz.prog 15 #[.agg #[.int .i64 t.op, .int .i64 t.at_, .int .i64 t.n, .string t.s, su, u], .int .i64 m] w fun e w' => RetX w (t.flip m) e w' :=
  have hd := datX_head (datX_flip t m)
  (spec_flip_all m t w su u hin hf.weight).mono fun _ _ h => retX hd.1 hd.2.1 hd.2.2.1 hd.2.2.2 h
theorem s_with (m : Int) (t : X) (su u : Value) (w : World) (hin : t.At 0 w su u) (hf : Fine t) :
    Calls Tryz.prog 17 #[.agg #[.int .i64 t.op, .int .i64 t.at_, .int .i64 t.n, .string t.s, su, u], .int .i64 m] w fun e w' => RetX w (t.withAll m) e w' :=
  have hd := datX_head (show datX (t.withAll m) = datX t from datX_turn _ t)
  (spec_with_all m t w su u hin hf.weight).mono fun _ _ h => retX hd.1 hd.2.1 hd.2.2.1 hd.2.2.2 h
theorem s_dat (t : X) (su u : Value) (w : World) (hin : t.At 0 w su u) (hf : Fine t) :
    Calls Tryz.prog 22 #[.agg #[.int .i64 t.op, .int .i64 t.at_, .int .i64 t.n, .string t.s, su, u]] w fun e w' => RetD w (datX t) e w' :=
  (spec_dat_of t w su u hin hf.weight).mono fun _ _ h => retD (datX_heads t).1 (datX_heads t).2.1 (datX_heads t).2.2.1 (datX_heads t).2.2.2 h
theorem s_ok (t : X) (su u : Value) (w : World) (hin : t.At 0 w su u) (hf : Fine t) {b : Bool} (hb : stxOkB t = b) :
    Calls Tryz.prog 19 #[.agg #[.int .i64 t.op, .int .i64 t.at_, .int .i64 t.n, .string t.s, su, u]] w fun e w' => RetB w b e w' := by subst hb; exact spec_stx_ok t w su u hin hf.weight
theorem i_same (x y : X) (su u sv v : Value) (w : World) (hx : x.At 0 w su u) (hy : y.At 0 w sv v) (fx : Fine x) (fy : Fine y) {b : Bool} (hb : sameX x y = b) :
    Calls Tryz.prog 13 #[.agg #[.int .i64 x.op, .int .i64 x.at_, .int .i64 x.n, .string x.s, su, u], .agg #[.int .i64 y.op, .int .i64 y.at_, .int .i64 y.n, .string y.s, sv, v]] w fun e w' => RetB w b e w' := by subst hb; exact impl_same_x x y w su u sv v hx hy fx.small fy.small fx.count
theorem s_same (x y : X) (su u sv v : Value) (w : World) (hx : x.At 0 w su u) (hy : y.At 0 w sv v) (fx : Fine x) (fy : Fine y) {b : Bool} (hb : sameX x y = b) :
    Calls Tryz.prog 23 #[.agg #[.int .i64 x.op, .int .i64 x.at_, .int .i64 x.n, .string x.s, su, u], .agg #[.int .i64 y.op, .int .i64 y.at_, .int .i64 y.n, .string y.s, sv, v]] w fun e w' => RetB w b e w' := by subst hb; exact (spec_same_stx x).at' y w su u sv v hx hy fx.small fy.small
theorem i_sameD (x y : D) (u v : Value) (w : World) (hx : x.In w u) (hy : y.In w v) (fx : x.weight ≤ 60000) {b : Bool} (hb : sameD x y = b) :
    Calls Tryz.prog 20 #[.agg #[.int .i64 x.op, .int .i64 x.at_, .int .i64 x.n, .string x.s, u], .agg #[.int .i64 y.op, .int .i64 y.at_, .int .i64 y.n, .string y.s, v]] w fun e w' => RetB w b e w' := by subst hb; exact impl_same x y w u v hx hy (by have := x.count_weight; omega)
end Go.Proofs.YtgbfflpdpfgnbaaGreat
