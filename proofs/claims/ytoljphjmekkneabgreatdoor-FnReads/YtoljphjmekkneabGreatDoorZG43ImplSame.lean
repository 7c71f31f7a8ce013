/- spec.SameDat. No conditions. -/
import Derived.Test.YtoljphjmekkneabGreatDoorRows
import Derived.Test.YtoljphjmekkneabGreatDoorZG11DatOkP
import Derived.Test.YtoljphjmekkneabGreatDoorZG1DatOwn
import Derived.Test.YtoljphjmekkneabGreatDoorZG39PcRev
import Derived.WalkKit
import Derived.ProofKit
import Derived.OwnWalk
import Derived.BigQuiet
import Derived.Deep.QuietTactic
import Derived.Deep.RegionWith
import Derived.Deep.RegionLaw
import Derived.Deep.AppendLies
import Derived.Deep.LoopGhost
import Derived.Laws.OwnMore
namespace Go.Proofs.YtoljphjmekkneabGreatDoor
open Go.ChangeShapes Go.WideShapes Go.ChangeAt Go.RowKit

def SameAt (t : D) : Prop := ∀ (s : D) (w : World) (u v : Value), t.In w u → s.In w v →
  Calls Tryz.prog 16 #[.agg #[.int .i64 t.op, .int .i64 t.at_, .int .i64 t.n, .string t.s, u], .agg #[.int .i64 s.op, .int .i64 s.at_, .int .i64 s.n, .string s.s, v]] w fun e w' => e = .returned (.bool (sameD t s)) ∧ Below w.heap.size w w'

/-- The tests ahead, one by one. -/
theorem headB_cases (a b : D) : (headB a b = true ∧ a.op = b.op ∧ a.n = b.n ∧ a.s = b.s ∧ a.len = b.len) ∨
    (headB a b = false ∧ (a.op ≠ b.op ∨ (a.op = b.op ∧ (a.n ≠ b.n ∨ (a.n = b.n ∧ ((a.s.toList == b.s.toList) = false ∨ (a.s = b.s ∧ a.len ≠ b.len))))))) := by
  unfold headB
  by_cases h1 : a.op = b.op
  · by_cases h2 : a.n = b.n
    · by_cases h3 : a.s.toList = b.s.toList
      · have h3' : a.s = b.s := bytes_inj (by rw [← ByteArray.toList_eq, ← ByteArray.toList_eq, h3])
        by_cases h4 : a.len = b.len
        · exact .inl (by simp [h1, h2, h3', h4])
        · exact .inr (by simp [h1, h2, h3', h4])
      · exact .inr (by simp [h1, h2, h3])
    · exact .inr (by simp [h1, h2])
  · exact .inr (by simp [h1])

set_option maxRecDepth 100000 in
set_option maxHeartbeats 4000000 in
theorem spec_same (t : D) : SameAt t := by
  induction t with
  | no => intro s w u v h _; exact h.elim
  | mk op a n s len kid ih =>
    intro b w u v hu hv
    cases b with
    | no => exact hv.elim
    | mk op2 a2 n2 s2 len2 kid2 =>
    have h1 := hu.sl
    have h2 := hv.sl
    have H0 : Hid (sameD (.mk op a n s len kid) (.mk op2 a2 n2 s2 len2 kid2) = (headB (.mk op a n s len kid) (.mk op2 a2 n2 s2 len2 kid2) && allTo (fun i => sameD (kid i) (kid2 i)) len)) := rfl
    have hh := headB_cases (.mk op a n s len kid) (.mk op2 a2 n2 s2 len2 kid2)
    simp only [D.op, D.at_, D.n, D.s, D.len, D.kid] at h1 h2 hh ⊢
    obtain ⟨p, cap, e1, hlen, hat⟩ := h1.at
    obtain ⟨q, cap2, e2, hlen2, hat2⟩ := h2.at
    have HC : Hid (∀ i, i < len → ∃ b o u, p = some ⟨b, o, none⟩ ∧ Head w b (o + i * 5) (kid i) u ∧ (kid i).In w u) := hat
    have HD : Hid (∀ i, i < len2 → ∃ b' o u, q = some ⟨b', o, none⟩ ∧ Head w b' (o + i * 5) (kid2 i) u ∧ (kid2 i).In w u) := hat2
    have IH : Hid (∀ i, SameAt (kid i)) := ih
    clear hu hv h1 h2 hat hat2 ih
    unfold maxLen at hlen hlen2
    subst e1 e2
    rcases hh with ⟨hh, t0, t1, t2, t3⟩ | ⟨hh, hh2⟩
    · have HR : Hid (sameD (.mk op a n s len kid) (.mk op2 a2 n2 s2 len2 kid2) = allTo (fun i => sameD (kid i) (kid2 i)) len) := by
        have := H0.out
        rw [hh, Bool.true_and] at this
        exact this
      clear hh H0
      generalize sameD (.mk op a n s len kid) (.mk op2 a2 n2 s2 len2 kid2) = R at *
      subst t0 t1 t2 t3
      go_enter Tryz.func16, Tryz.ntmps16
      go_wp2_with fail
      go_loopw [5] (fun i wr => ∃ k : Nat, i = .int .i64 k ∧ k ≤ len ∧ allTo (fun i => sameD (kid i) (kid2 i)) k = true ∧ wr.cell? ⟨w.heap.size, 4, none⟩ = some (.slice p len cap) ∧ wr.cell? ⟨w.heap.size + 1, 4, none⟩ = some (.slice q len cap2) ∧ Below w.heap.size w wr) (fun i _ => len - (intOf i).toNat)
      case atStart => exact ⟨0, rfl, Nat.zero_le _, rfl, by simp, by simp, (newb w _).trans ((newb _ _).mono (by simp))⟩
      case round =>
        obtain ⟨k, rfl, hk, hall, hc1, hc2, hbel⟩ := hrel
        have HBL : Hid (Below w.heap.size w wr) := hbel
        have HA : Hid (allTo (fun i => sameD (kid i) (kid2 i)) k = true) := hall
        clear hbel hall
        by_cases hlt : (k : Int) < len
        · have hlt' : k < len := by omega
          obtain ⟨b, o, x, hp, hd, hin⟩ := HC.out k hlt'
          obtain ⟨b2, o2, y, hq, hd2, hin2⟩ := HD.out k hlt'
          subst hp hq
          obtain ⟨c0, c1, c2, c3, c4⟩ := hd.below HBL.out
          obtain ⟨d0, d1, d2, d3, d4⟩ := hd2.below HBL.out
          have HI : Hid ((kid k).In wr x ∧ (kid2 k).In wr y) := ⟨hin.below HBL.out, hin2.below HBL.out⟩
          clear hd hin hd2 hin2
          have hcl := fun (w1 : World) (h1 : Below wr.heap.size wr w1) => IH.out k (kid2 k) w1 x y (HI.out.1.below h1) (HI.out.2.below h1)
          cases hsm : sameD (kid k) (kid2 k) with
          | true =>
            rw [hsm] at hcl
            have HCL : Hid (∀ w1 : World, Below wr.heap.size wr w1 → Calls Tryz.prog 16 #[.agg #[.int .i64 (kid k).op, .int .i64 (kid k).at_, .int .i64 (kid k).n, .string (kid k).s, x], .agg #[.int .i64 (kid2 k).op, .int .i64 (kid2 k).at_, .int .i64 (kid2 k).n, .string (kid2 k).s, y]] w1 fun e w' => e = .returned (.bool true) ∧ Below w1.heap.size w1 w') := hcl
            have HN : Hid (allTo (fun i => sameD (kid i) (kid2 i)) (k + 1) = true) := by
              show _ = _
              simp only [allTo, HA.out, hsm, Bool.and_self]
            clear hcl hsm HA
            go_wp2_with fail
            go_region_with ((go_at_call 16; refine (HCL.out _ ?_).mono ?_; exact (Below.refl _ _).drew; rintro e w1 ⟨rfl, hb1⟩))
            all_goals
              have hbw : Below wr.heap.size wr w1 := ⟨hb1.os, hb1.tape, hb1.output, hb1.size, fun j hj => hb1.block j hj⟩
              have HB1 : Hid (Below w.heap.size w w1) := HBL.out.trans (hbw.mono HBL.out.size)
              have HX : Hid (w1.cell? ⟨w.heap.size, 4, none⟩ = some (.slice (some ⟨b, o, none⟩) len cap) ∧ w1.cell? ⟨w.heap.size + 1, 4, none⟩ = some (.slice (some ⟨b2, o2, none⟩) len cap2)) := ⟨keeps hbw _ _ hc1, keeps hbw _ _ hc2⟩
              clear hb1 hbw
              go_wp2_with fail
              go_roundw
              case rel => first | exact ⟨k + 1, by go_num, by omega, HN.out, HX.out.1, HX.out.2, HB1.out⟩ | ((repeat apply Exists.intro); exact ⟨⟨k + 1, by go_num, by omega, HN.out, HX.out.1, HX.out.2, HB1.out⟩, rfl⟩)
              case measure => simp [intOf]; omega
          | false =>
            rw [hsm] at hcl
            have HCL : Hid (∀ w1 : World, Below wr.heap.size wr w1 → Calls Tryz.prog 16 #[.agg #[.int .i64 (kid k).op, .int .i64 (kid k).at_, .int .i64 (kid k).n, .string (kid k).s, x], .agg #[.int .i64 (kid2 k).op, .int .i64 (kid2 k).at_, .int .i64 (kid2 k).n, .string (kid2 k).s, y]] w1 fun e w' => e = .returned (.bool false) ∧ Below w1.heap.size w1 w') := hcl
            have HN : Hid (R = false) := HR.out.trans (allTo_false hlt' hsm)
            clear hcl hsm HA HR
            go_wp2_with fail
            go_region_with ((go_at_call 16; refine (HCL.out _ ?_).mono ?_; exact (Below.refl _ _).drew; rintro e w1 ⟨rfl, hb1⟩))
            all_goals
              have hbw : Below wr.heap.size wr w1 := ⟨hb1.os, hb1.tape, hb1.output, hb1.size, fun j hj => hb1.block j hj⟩
              have HB1 : Hid (Below w.heap.size w w1) := HBL.out.trans (hbw.mono HBL.out.size)
              clear hb1 hbw
              go_wp2_with fail
              go_ret
              exact ⟨by rw [HN.out]; rfl, HB1.out⟩
        · have hke : k = len := by omega
          subst hke
          have HN : Hid (R = true) := HR.out.trans HA.out
          clear HA HR
          go_wp2_with fail
          go_ret
          exact ⟨by rw [HN.out]; rfl, HBL.out⟩
    · have HR : Hid (sameD (.mk op a n s len kid) (.mk op2 a2 n2 s2 len2 kid2) = false) := by
        have := H0.out
        rw [hh, Bool.false_and] at this
        exact this
      clear hh H0 HC HD IH
      generalize sameD (.mk op a n s len kid) (.mk op2 a2 n2 s2 len2 kid2) = R at *
      have HB : Hid (∀ o1 o2, Below w.heap.size w ((w.alloc o1).alloc o2)) := fun o1 o2 => (newb w _).trans ((newb _ _).mono (by simp))
      rcases hh2 with c | ⟨c0, c | ⟨c1, c | ⟨c2, c⟩⟩⟩
      · have d1 : (op == op2) = false := by simpa using c
        go_enter Tryz.func16, Tryz.ntmps16
        go_wp2_with fail
        go_ret
        exact ⟨by rw [HR.out]; rfl, HB.out _ _⟩
      · subst c0
        have d1 : (n == n2) = false := by simpa using c
        go_enter Tryz.func16, Tryz.ntmps16
        go_wp2_with fail
        go_ret
        exact ⟨by rw [HR.out]; rfl, HB.out _ _⟩
      · subst c0 c1
        go_enter Tryz.func16, Tryz.ntmps16
        go_wp2_with fail
        go_ret
        exact ⟨by rw [HR.out]; rfl, HB.out _ _⟩
      · subst c0 c1 c2
        have d1 : ((len : Int) == (len2 : Int)) = false := by rw [beq_eq_false_iff_ne]; omega
        go_enter Tryz.func16, Tryz.ntmps16
        go_wp2_with fail
        go_ret
        exact ⟨by rw [HR.out]; rfl, HB.out _ _⟩
end Go.Proofs.YtoljphjmekkneabGreatDoor

/- impl.SameDat. Condition: at most 2^20 data. -/
namespace Go.Proofs.YtoljphjmekkneabGreatDoor
open Go.ChangeShapes Go.WideShapes Go.ChangeAt Go.RowKit

set_option maxRecDepth 100000 in
set_option maxHeartbeats 4000000 in
theorem impl_head (x y : D) (p q : Option Addr) (c1 c2 : Nat) (w : World) :
    Calls Tryz.prog 37 #[.agg #[.int .i64 x.op, .int .i64 x.at_, .int .i64 x.n, .string x.s, .slice p x.len c1, .int .i64 y.op, .int .i64 y.at_, .int .i64 y.n, .string y.s, .slice q y.len c2]] w fun e w' => e = .returned (.bool (headB x y)) ∧ Below w.heap.size w w' := by
  have hh := headB_cases x y
  generalize headB x y = R at *
  generalize x.op = op at *
  generalize x.at_ = a at *
  generalize x.n = n at *
  generalize x.s = s at *
  generalize x.len = len at *
  generalize y.op = op2 at *
  generalize y.at_ = a2 at *
  generalize y.n = n2 at *
  generalize y.s = s2 at *
  generalize y.len = len2 at *
  have HB : Hid (∀ o1, Below w.heap.size w (w.alloc o1)) := fun o1 => newb w _
  rcases hh with ⟨hR, t0, t1, t2, t3⟩ | ⟨hR, c | ⟨c0, c | ⟨c1, c | ⟨c2, c⟩⟩⟩⟩
  · subst hR t0 t1 t2 t3
    go_enter Tryz.func37, Tryz.ntmps37
    go_wp2_with fail
    go_ret
    exact ⟨rfl, HB.out _⟩
  · subst hR
    have d1 : (op == op2) = false := by simpa using c
    go_enter Tryz.func37, Tryz.ntmps37
    go_wp2_with fail
    go_ret
    exact ⟨rfl, HB.out _⟩
  · subst hR c0
    have d1 : (n == n2) = false := by simpa using c
    go_enter Tryz.func37, Tryz.ntmps37
    go_wp2_with fail
    go_ret
    exact ⟨rfl, HB.out _⟩
  · subst hR c0 c1
    go_enter Tryz.func37, Tryz.ntmps37
    go_wp2_with fail
    go_ret
    exact ⟨rfl, HB.out _⟩
  · subst hR c0 c1 c2
    have d1 : ((len : Int) == (len2 : Int)) = false := by rw [beq_eq_false_iff_ne]; omega
    go_enter Tryz.func37, Tryz.ntmps37
    go_wp2_with fail
    go_ret
    exact ⟨rfl, HB.out _⟩

theorem pair_info : (Tryz.prog.info? 65).map (fun i => (i.zero, i.size, i.bytes)) = some (some (.agg #[.int .i64 0, .int .i64 0, .int .i64 0, .string ⟨#[]⟩, .slice none 0 0, .int .i64 0, .int .i64 0, .int .i64 0, .string ⟨#[]⟩, .slice none 0 0]), 10, 128) := by kernel_rfl

theorem app_step {w wr w3 : World} {o1 o2 : Obj} {g' PB : Nat} {x : Value} (hbel : Below w.heap.size w wr) (hg : ((wr.alloc o1).alloc o2).drew.grownBy w3 (some g')) (hb3 : w.heap.size + 2 ≤ g') (hsz : PB < wr.heap.size) (hne : g' ≠ PB) (hq : wr.cell? ⟨PB, 9, none⟩ = some x) :
    Below w.heap.size w w3 ∧ PB < w3.heap.size ∧ w3.cell? ⟨PB, 9, none⟩ = some x := by
  have h1 : Below wr.heap.size wr ((wr.alloc o1).alloc o2).drew := ((newb wr o1).trans ((newb _ o2).mono (by simp))).drew
  have h2 := hg.size
  have h3 := h1.size
  have h4 := hbel.size
  refine ⟨(hbel.trans (h1.mono h4)).trans ⟨hg.os, hg.tape, hg.output, hg.size, fun j hj => hg.block j (by omega) (by intro e; injection e with e; omega)⟩, by omega, hg.cell (keeps h1 _ _ hq) (by simpa using fun e => hne e.symm)⟩

/-- What the loop keeps. -/
structure Left (w wr : World) (R : Bool) (st : List Pr) (g cap : Nat) : Prop where
  all : allSame st = R
  ins : PrsIn w st
  own : wr.ownsRow (w.heap.size + 2) 65 10 (.slice (some ⟨g, 0, none⟩) st.length cap) st.length (prows st)
  bel : Below w.heap.size w wr
  size : w.heap.size + 2 ≤ wr.heap.size

set_option maxRecDepth 100000 in
set_option maxHeartbeats 4000000 in
theorem impl_same (x y : D) (w : World) (u v : Value) (hu : x.In w u) (hv : y.In w v) (hc : x.count ≤ 1048577) :
    Calls Tryz.prog 15 #[.agg #[.int .i64 x.op, .int .i64 x.at_, .int .i64 x.n, .string x.s, u], .agg #[.int .i64 y.op, .int .i64 y.at_, .int .i64 y.n, .string y.s, v]] w fun e w' => e = .returned (.bool (sameD x y)) ∧ Below w.heap.size w w' := by
  obtain ⟨i0, hi, hz0, hz1, hz2⟩ := info_parts pair_info
  obtain ⟨p, cap, e1⟩ := hu.sl.shape
  obtain ⟨q, cap2, e2⟩ := hv.sl.shape
  have H0 : Hid (allSame [(x, y, u, v)] = sameD x y ∧ total [(x, y, u, v)] ≤ 1048577 ∧ PrsIn w [(x, y, u, v)]) := ⟨by simp [allSame], by simpa [total] using hc, by intro q hq; simp only [List.mem_singleton] at hq; subst hq; exact ⟨hu, hv⟩⟩
  clear hu hv hc
  generalize hR : sameD x y = R at *
  generalize hn : total [(x, y, u, v)] = n0 at *
  have HN : Hid (total [(x, y, u, v)] = n0) := hn
  clear hR hn
  subst e1 e2
  go_enter Tryz.func15, Tryz.ntmps15
  go_wp2_with fail
  go_loopg [5] n0 (fun k lv wr => ∃ (st : List Pr) (g cap : Nat), total st = k ∧ k ≤ 1048577 ∧ lv = .slice (some ⟨g, 0, none⟩) st.length cap ∧ Left w wr R st g cap)
  case atStart =>
    have hb : ∀ o1 o2 o3, Below w.heap.size w (((w.alloc o1).alloc o2).alloc o3) ∧ w.heap.size + 2 ≤ (((w.alloc o1).alloc o2).alloc o3).heap.size := fun o1 o2 o3 => ⟨Below.trans (newb w _) (Below.trans ((newb _ _).mono (B' := w.heap.size) (by simp)) ((newb _ _).mono (B' := w.heap.size) (by simp; omega))), by simp⟩
    refine ⟨_, _, _, HN.out, H0.out.2.1, rfl, H0.out.1, H0.out.2.2, ?_, (hb _ _ _).1, (hb _ _ _).2⟩
    exact own_new rfl (by simp) (by omega) rfl rfl (by unfold maxLen; omega)
  case round =>
    obtain ⟨st, g, gc, hst, hk, rfl, hL⟩ := hrel
    have HST : Hid (total st = gk) := hst
    have HL : Hid (Left w wr R st g gc) := hL
    clear hst hL H0 HN
    rcases List.eq_nil_or_concat st with hnil | ⟨r, pr, hst⟩
    · subst hnil
      have HRR : Hid (R = true) := HL.out.all.symm
      have HB : Hid (Below w.heap.size w wr) := HL.out.bel
      clear HL HST
      go_wp2_with fail
      go_ret
      exact ⟨by rw [HRR.out]; rfl, HB.out⟩
    · rw [List.concat_eq_append] at hst
      subst hst
      obtain ⟨a, b, ua, ub⟩ := pr
      have hins := HL.out.ins (a, b, ua, ub) (by simp)
      obtain ⟨pa, ca, U, ea, hla, hata⟩ := hins.1.sl.fn
      obtain ⟨pb, cb, V, eb, hlb, hatb⟩ := hins.2.sl.fn
      simp only at ea eb
      subst ea eb
      have HA : Hid (∀ i, i < a.len → ∃ b o, pa = some ⟨b, o, none⟩ ∧ Head w b (o + i * 5) (a.kid i) (U i) ∧ (a.kid i).In w (U i)) := hata
      have HBB : Hid (∀ i, i < b.len → ∃ b' o, pb = some ⟨b', o, none⟩ ∧ Head w b' (o + i * 5) (b.kid i) (V i) ∧ (b.kid i).In w (V i)) := hatb
      clear hata hatb hins
      have hcell : ∀ j, j < 10 → wr.cell? ⟨g, r.length * 10 + j, none⟩ = (Pr.cells (a, b, .slice pa a.len ca, .slice pb b.len cb))[j]? := by
        intro j hj
        have h1 := HL.out.own.cellAt (r.length * 10 + j) (by simp; omega)
        rw [h1, prows_append, List.getElem?_append_right (by rw [prows_length]; omega), prows_length]
        simp [prows]
      have l0 := hcell 0 (by omega); have l1 := hcell 1 (by omega); have l2 := hcell 2 (by omega); have l3 := hcell 3 (by omega); have l4 := hcell 4 (by omega)
      have l5 := hcell 5 (by omega); have l6 := hcell 6 (by omega); have l7 := hcell 7 (by omega); have l8 := hcell 8 (by omega); have l9 := hcell 9 (by omega)
      simp only [Pr.cells, Nat.add_zero, List.getElem?_cons_zero, List.getElem?_cons_succ] at l0 l1 l2 l3 l4 l5 l6 l7 l8 l9
      clear hcell
      obtain ⟨hr1, hr2, hr3, hr4⟩ := own_room HL.out.own
      have hlen : (r ++ [(a, b, Value.slice pa a.len ca, Value.slice pb b.len cb)]).length = r.length + 1 := by simp
      have hrl : r.length < 1048577 := by have := total_len (r ++ [(a, b, Value.slice pa a.len ca, Value.slice pb b.len cb)]); rw [HST.out] at this; omega
      rw [hlen] at hr1 ⊢
      unfold maxLen at hr2 hla hlb
      clear hlen
      generalize hrn : r.length = rn at *
      have HRN : Hid (r.length = rn) := hrn
      clear hrn
      have hO1 := own_cut (n := rn) (xs := prows r) (ys := prows [(a, b, Value.slice pa a.len ca, Value.slice pb b.len cb)]) (by rw [← prows_append]; exact HL.out.own) (by rw [prows_length, HRN.out]) (by simp [HRN.out])
      have HO1 : Hid (wr.ownsRow (w.heap.size + 2) 65 10 (.slice (some ⟨g, 0, none⟩) rn gc) rn (prows r)) := hO1
      clear hO1
      have HBL : Hid (Below w.heap.size w wr) := HL.out.bel
      go_wp2_with fail
      refine (impl_head a b pa pb ca cb _).mono ?_
      rintro e w1 ⟨rfl, hb1⟩
      have hnb := newb wr (.cells #[.int .i64 a.op, .int .i64 a.at_, .int .i64 a.n, .string a.s, .slice pa a.len ca, .int .i64 b.op, .int .i64 b.at_, .int .i64 b.n, .string b.s, .slice pb b.len cb] 65)
      have HO2 : Hid (w1.ownsRow (w.heap.size + 2) 65 10 (.slice (some ⟨g, 0, none⟩) rn gc) rn (prows r)) := own_below5 (own_below5 HO1.out hnb) hb1
      have hb2 : Below wr.heap.size wr w1 := hnb.trans (hb1.mono hnb.size)
      have HB1 : Hid (Below w.heap.size w w1) := HBL.out.trans (hb2.mono HBL.out.size)
      have hP : w1.heap[wr.heap.size]? = some (.cells #[.int .i64 a.op, .int .i64 a.at_, .int .i64 a.n, .string a.s, .slice pa a.len ca, .int .i64 b.op, .int .i64 b.at_, .int .i64 b.n, .string b.s, .slice pb b.len cb] 65 (0, 0)) := (hb1.block _ (by simp)).trans (heap_alloc_new wr _)
      have hp4 : w1.cell? ⟨wr.heap.size, 4, none⟩ = some (.slice pa a.len ca) := cell_of_row w1 _ 4 _ _ _ hP
      have hp9 : w1.cell? ⟨wr.heap.size, 9, none⟩ = some (.slice pb b.len cb) := cell_of_row w1 _ 9 _ _ _ hP
      have hPs : wr.heap.size < w1.heap.size := (Array.getElem?_eq_some_iff.1 hP).1
      clear hb1 hb2 hnb hP HO1 HBL l0 l1 l2 l3 l4 l5 l6 l7 l8 l9
      have hh := headB_cases a b
      rcases hh with ⟨hR, -, -, -, hab⟩ | ⟨hR, -⟩
      · rw [hR]
        have HPS : Hid (∀ k, allSame (r ++ pushed a b U V k) = allSame (r ++ pushed a b U V k)) := fun _ => rfl
        have HAL : Hid (allSame (r ++ pushed a b U V a.len) = R) := (pop_same r a b _ _ U V hR).symm.trans HL.out.all
        have HTT : Hid (total (r ++ pushed a b U V a.len) + 1 = gk) := (pop_total r a b _ _ U V).trans HST.out
        have HIN : Hid (PrsIn w (r ++ pushed a b U V a.len)) := by
          intro z hz
          rcases List.mem_append.1 hz with hz | hz
          · exact HL.out.ins z (List.mem_append_left _ hz)
          · simp only [pushed, List.mem_map, List.mem_range] at hz
            obtain ⟨j, hj, rfl⟩ := hz
            obtain ⟨_, _, _, _, h1⟩ := HA.out j hj
            obtain ⟨_, _, _, _, h2⟩ := HBB.out j (by omega)
            exact ⟨h1, h2⟩
        have hal : a.len ≤ 1048577 := by
          have h1 := total_len (r ++ pushed a b U V a.len)
          have h2 := HTT.out
          rw [List.length_append, pushed_len] at h1
          omega
        have hral : rn + a.len ≤ 1048577 := by
          have h1 := total_len (r ++ pushed a b U V a.len)
          have h2 := HTT.out
          have h3 := HRN.out
          rw [List.length_append, pushed_len] at h1
          omega
        have HSZ : Hid (w.heap.size + 2 ≤ wr.heap.size) := HL.out.size
        clear hR HPS HL HST hla hlb
        generalize hbl : b.len = bl at *
        subst hab
        clear hbl
        generalize wr.heap.size = PB at *
        go_wp2_with fail
        go_loopw [5, 34] (fun lv i wi => ∃ (k g' c' : Nat), i = .int .i64 k ∧ k ≤ a.len ∧ lv = .slice (some ⟨g', 0, none⟩) ((rn + k : Nat)) c' ∧ g' ≠ PB ∧ wi.ownsRow (w.heap.size + 2) 65 10 (.slice (some ⟨g', 0, none⟩) ((rn + k : Nat)) c') (rn + k) (prows (r ++ pushed a b U V k)) ∧ Below w.heap.size w wi ∧ PB < wi.heap.size ∧ wi.cell? ⟨PB, 9, none⟩ = some (.slice pb a.len cb)) (fun _ i _ => a.len - (intOf i).toNat)
        case atStart => exact ⟨0, g, gc, rfl, Nat.zero_le _, rfl, by omega, by simpa [pushed] using HO2.out, HB1.out, hPs, hp9⟩
        case round =>
          obtain ⟨k, g', c', rfl, hka, rfl, hgne, hown, hbel, hsz, hq9⟩ := hrel
          have HOW : Hid (wr.ownsRow (w.heap.size + 2) 65 10 (.slice (some ⟨g', 0, none⟩) (rn + k) c') (rn + k) (prows (r ++ pushed a b U V k))) := hown
          have HBW : Hid (Below w.heap.size w wr) := hbel
          obtain ⟨-, -, hb3, hb4⟩ := own_room hown
          clear hown hbel HO2 HB1 hp4 hp9 hPs hr1 hr2 hr3 hr4
          by_cases hlt : (k : Int) < a.len
          · have hlt' : k < a.len := by omega
            obtain ⟨ba, oa, hpa, hda, -⟩ := HA.out k hlt'
            obtain ⟨bb, ob, hpb, hdb, -⟩ := HBB.out k hlt'
            subst hpa hpb
            obtain ⟨c0, c1, c2, c3, c4⟩ := hda.below HBW.out
            obtain ⟨d0, d1, d2, d3, d4⟩ := hdb.below HBW.out
            obtain ⟨pu, cu, eu⟩ := (HIN.out ((a.kid k), (b.kid k), U k, V k) (by refine List.mem_append_right _ ?_; simp only [pushed, List.mem_map, List.mem_range]; exact ⟨k, hlt', rfl⟩)).1.sl.shape
            obtain ⟨pv, cv, ev⟩ := (HIN.out ((a.kid k), (b.kid k), U k, V k) (by refine List.mem_append_right _ ?_; simp only [pushed, List.mem_map, List.mem_range]; exact ⟨k, hlt', rfl⟩)).2.sl.shape
            simp only at eu ev
            rw [eu] at c4
            rw [ev] at d4
            have HEU : Hid (U k = .slice pu (a.kid k).len cu ∧ V k = .slice pv (b.kid k).len cv) := ⟨eu, ev⟩
            clear eu ev hda hdb
            go_wp2_with fail
            generalize hW : wr.alloc (.cells #[.int .i64 (a.kid k).op, .int .i64 (a.kid k).at_, .int .i64 (a.kid k).n, .string (a.kid k).s, .slice pu (a.kid k).len cu] 30) = W
            have hWb : Below wr.heap.size wr W := by rw [← hW]; exact newb _ _
            have hWk : W.heap[wr.heap.size]? = some (.cells #[.int .i64 (a.kid k).op, .int .i64 (a.kid k).at_, .int .i64 (a.kid k).n, .string (a.kid k).s, .slice pu (a.kid k).len cu] 30 (0, 0)) := by rw [← hW]; exact heap_alloc_new _ _
            have hWs : W.heap.size = wr.heap.size + 1 := by rw [← hW]; simp
            have k0 : W.cell? ⟨wr.heap.size, 0, none⟩ = some (.int .i64 (a.kid k).op) := cell_of_row W _ 0 _ _ _ hWk
            have k1 : W.cell? ⟨wr.heap.size, 1, none⟩ = some (.int .i64 (a.kid k).at_) := cell_of_row W _ 1 _ _ _ hWk
            have k2 : W.cell? ⟨wr.heap.size, 2, none⟩ = some (.int .i64 (a.kid k).n) := cell_of_row W _ 2 _ _ _ hWk
            have k3 : W.cell? ⟨wr.heap.size, 3, none⟩ = some (.string (a.kid k).s) := cell_of_row W _ 3 _ _ _ hWk
            have k4 : W.cell? ⟨wr.heap.size, 4, none⟩ = some (.slice pu (a.kid k).len cu) := cell_of_row W _ 4 _ _ _ hWk
            have m0 := keeps hWb _ _ d0; have m1 := keeps hWb _ _ d1; have m2 := keeps hWb _ _ d2; have m3 := keeps hWb _ _ d3; have m4 := keeps hWb _ _ d4; have m9 := keeps hWb _ _ hq9
            have HWO : Hid (W.ownsRow (w.heap.size + 2) 65 10 (.slice (some ⟨g', 0, none⟩) (rn + k) c') (rn + k) (prows (r ++ pushed a b U V k))) := own_below5 HOW.out hWb
            have HQ9 : Hid (wr.cell? ⟨PB, 9, none⟩ = some (.slice (some ⟨bb, ob, none⟩) a.len cb)) := hq9
            have hWS : Hid (W.heap.size = wr.heap.size + 1) := hWs
            have HWE : Hid (wr.alloc (.cells #[.int .i64 (a.kid k).op, .int .i64 (a.kid k).at_, .int .i64 (a.kid k).n, .string (a.kid k).s, .slice pu (a.kid k).len cu] 30) = W) := hW
            have HBS : Hid (w.heap.size + 1 ≤ W.heap.size) := by
              show _ ≤ _
              omega
            clear hW hWb hWk c0 c1 c2 c3 c4 d0 d1 d2 d3 d4 hq9 hWs
            go_region_law
              ((refine step_append_lies _ (by rfl) _ _ _ (by rfl) (w.heap.size + 2) 65 i0 _ 10 128 Tryz.underlying66 hi hz0 hz1 hz2 rfl (by omega) (.slice (some ⟨g', 0, none⟩) (rn + k) c') (rn + k) (prows (r ++ pushed a b U V k)) (by rfl) ((HWO.out.alloc _).drew) ⟨W.heap.size, 0, none⟩ 1 1 [.int .i64 (a.kid k).op, .int .i64 (a.kid k).at_, .int .i64 (a.kid k).n, .string (a.kid k).s, .slice pu (a.kid k).len cu, .int .i64 (b.kid k).op, .int .i64 (b.kid k).at_, .int .i64 (b.kid k).n, .string (b.kid k).s, .slice pv (b.kid k).len cv] (by rfl) (by rfl) (World.news_of_block (cs := #[.int .i64 (a.kid k).op, .int .i64 (a.kid k).at_, .int .i64 (a.kid k).n, .string (a.kid k).s, .slice pu (a.kid k).len cu, .int .i64 (b.kid k).op, .int .i64 (b.kid k).at_, .int .i64 (b.kid k).n, .string (b.kid k).s, .slice pv (b.kid k).len cv]) (t := 65) (fr := (0, 0)) (heap_alloc_new W _)) (by simp [Value.oneCell']) (by omega) (by unfold maxLen; omega) (by omega) (by simp; exact HBS.out) (W.heap.size + 1) (by simp) ?_; intro gg cap3 w3 hown3 hgrow hat hlt3))
            all_goals
              have hpp : prows (r ++ pushed a b U V k) ++ [.int .i64 (a.kid k).op, .int .i64 (a.kid k).at_, .int .i64 (a.kid k).n, .string (a.kid k).s, .slice pu (a.kid k).len cu, .int .i64 (b.kid k).op, .int .i64 (b.kid k).at_, .int .i64 (b.kid k).n, .string (b.kid k).s, .slice pv (b.kid k).len cv] = prows (r ++ pushed a b U V (k + 1)) := by
                rw [pushed_succ, ← List.append_assoc, prows_append _ [_], HEU.out.1, HEU.out.2]; rfl
              rw [hpp] at hown3
              have hgg : gg ≠ PB := by
                rcases hat with h | h
                · have : g' = gg := by simpa [Value.ownBlock] using h
                  omega
                · have := hWS.out; omega
              have HS3 : Hid (Below w.heap.size w w3 ∧ PB < w3.heap.size ∧ w3.cell? ⟨PB, 9, none⟩ = some (.slice (some ⟨bb, ob, none⟩) a.len cb)) := by
                have h := hgrow
                rw [← HWE.out] at h
                exact app_step HBW.out h hb3 hsz hgne HQ9.out
              have HO3 : Hid (w3.ownsRow (w.heap.size + 2) 65 10 (.slice (some ⟨gg, 0, none⟩) (rn + k + 1) cap3) (rn + k + 1) (prows (r ++ pushed a b U V (k + 1)))) := hown3
              have HGG : Hid (gg ≠ PB) := hgg
              clear hown3 hpp hgrow hat hlt3 hgg
              go_wp2_with fail
              go_roundw
              case rel => first | exact ⟨k + 1, gg, cap3, by go_num, by omega, rfl, HGG.out, HO3.out, HS3.out.1, HS3.out.2.1, HS3.out.2.2⟩ | ((repeat apply Exists.intro); exact ⟨⟨k + 1, gg, cap3, by go_num, by omega, rfl, HGG.out, HO3.out, HS3.out.1, HS3.out.2.1, HS3.out.2.2⟩, rfl⟩)
              case measure => simp [intOf]; omega
          · have hke : k = a.len := by omega
            go_wp2_with fail
            go_roundg (total (r ++ pushed a b U V a.len))
            case measure => have := HTT.out; omega
            case rel =>
              subst hke
              have h1 := HTT.out
              have h2 := HOW.out
              have h3 := HRN.out
              refine ⟨r ++ pushed a b U V a.len, g', c', rfl, by omega, by rw [List.length_append, pushed_len, h3], HAL.out, HIN.out, ?_, HBW.out, by have := HSZ.out; omega⟩
              rw [List.length_append, pushed_len, h3]; exact h2
      · rw [hR]
        have HRR : Hid (R = false) := HL.out.all.symm.trans (pop_no r a b _ _ hR)
        clear HL HST HO2
        go_wp2_with fail
        go_ret
        exact ⟨by rw [HRR.out]; rfl, HB1.out⟩
end Go.Proofs.YtoljphjmekkneabGreatDoor
