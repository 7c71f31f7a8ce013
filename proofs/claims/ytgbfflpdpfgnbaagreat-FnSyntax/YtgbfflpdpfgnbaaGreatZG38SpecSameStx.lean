/- Pairs of what is written that are left to be compared. No conditions. -/
import Derived.Test.YtgbfflpdpfgnbaaGreatZG6StxP
import Derived.Test.YtgbfflpdpfgnbaaGreatRows
import Derived.Test.YtgbfflpdpfgnbaaGreatZG29IntsLaw
import Derived.Test.YtgbfflpdpfgnbaaGreatZG1StxOwn
import Derived.Test.YtgbfflpdpfgnbaaGreatZG28StxParts
import Derived.Deep.RegionLaw
import Derived.Deep.AppendLies
import Derived.Deep.LoopGhost
import Derived.Laws.OwnMore
import Derived.WalkKit
import Derived.ProofKit
import Derived.OwnWalk
import Derived.BigQuiet
import Derived.Deep.QuietTactic
import Derived.Deep.RegionWith
namespace Go.Proofs.YtgbfflpdpfgnbaaGreat
open Go.ChangeShapes Go.WideShapes Go.ChangeAt Go.RowKit

/-- Pairs that are left. -/
abbrev XP := X × X × (Value × Value) × (Value × Value)

def XP.cells (q : XP) : List Value := [.int .i64 q.1.op, .int .i64 q.1.at_, .int .i64 q.1.n, .string q.1.s, q.2.2.1.1, q.2.2.1.2, .int .i64 q.2.1.op, .int .i64 q.2.1.at_, .int .i64 q.2.1.n, .string q.2.1.s, q.2.2.2.1, q.2.2.2.2]
def xprows (st : List XP) : List Value := st.flatMap XP.cells
theorem xprows_append (a b : List XP) : xprows (a ++ b) = xprows a ++ xprows b := by simp [xprows]
theorem xprows_length (st : List XP) : (xprows st).length = st.length * 12 := by
  induction st with
  | nil => rfl
  | cons t r ih => simp only [xprows, List.flatMap_cons, List.length_append, List.length_cons] at ih ⊢; rw [ih]; simp [XP.cells]; omega

def allSameX (st : List XP) : Bool := st.all fun q => sameX q.1 q.2.1
def totalX (st : List XP) : Nat := (st.map fun q => q.1.count).sum

theorem totalX_append (a b : List XP) : totalX (a ++ b) = totalX a + totalX b := by simp [totalX]
theorem totalX_len (st : List XP) : st.length ≤ totalX st := by
  induction st with
  | nil => simp
  | cons q r ih =>
    simp only [totalX, List.map_cons, List.sum_cons, List.length_cons] at ih ⊢
    have : 1 ≤ q.1.count := by rw [X.count_eq]; omega
    omega

/-- The first k pairs of kids. -/
def pushedX (x y : X) (U V : Nat → Value × Value) (k : Nat) : List XP := (List.range k).map fun i => (x.kid i, y.kid i, U i, V i)
theorem pushedX_succ (x y : X) (U V : Nat → Value × Value) (k : Nat) : pushedX x y U V (k + 1) = pushedX x y U V k ++ [(x.kid k, y.kid k, U k, V k)] := by simp [pushedX, List.range_succ]
theorem pushedX_len (x y : X) (U V : Nat → Value × Value) (k : Nat) : (pushedX x y U V k).length = k := by simp [pushedX]
theorem pushedX_totalX (x y : X) (U V : Nat → Value × Value) (k : Nat) : totalX (pushedX x y U V k) = sumX (fun i => (x.kid i).count) k := by
  induction k with
  | zero => rfl
  | succ k ih => rw [pushedX_succ, totalX_append, ih]; simp [totalX, sumX]
theorem pushedX_same (x y : X) (U V : Nat → Value × Value) (k : Nat) : allSameX (pushedX x y U V k) = allX (fun i => sameX (x.kid i) (y.kid i)) k := by
  induction k with
  | zero => rfl
  | succ k ih => rw [pushedX_succ]; simp only [allSameX, List.all_append] at ih ⊢; rw [ih]; simp [allX]

theorem popX_same (r : List XP) (x y : X) (u v : Value × Value) (U V : Nat → Value × Value) (h : headX x y = true) : allSameX (r ++ [(x, y, u, v)]) = allSameX (r ++ pushedX x y U V x.len) := by
  have h1 := pushedX_same x y U V x.len
  simp only [allSameX, List.all_append] at h1 ⊢
  rw [h1, ← Bool.true_and (allX _ _), ← h, ← sameX_eq]
  simp
theorem popX_no (r : List XP) (x y : X) (u v : Value × Value) (h : headX x y = false) : allSameX (r ++ [(x, y, u, v)]) = false := by
  simp only [allSameX, List.all_append]
  simp [sameX_eq x y, h]
theorem popX_totalX (r : List XP) (x y : X) (u v : Value × Value) (U V : Nat → Value × Value) : totalX (r ++ pushedX x y U V x.len) + 1 = totalX (r ++ [(x, y, u, v)]) := by
  rw [totalX_append, totalX_append, pushedX_totalX]
  simp only [totalX, List.map_cons, List.map_nil, List.sum_cons, List.sum_nil]
  rw [X.count_eq x]; omega

/-- The pairs lie in w, each of them small. -/
def XPsIn (w : World) (st : List XP) : Prop := ∀ q ∈ st, (q.1.At 0 w q.2.2.1.1 q.2.2.1.2 ∧ q.1.Small) ∧ (q.2.1.At 0 w q.2.2.2.1 q.2.2.2.2 ∧ q.2.1.Small)
end Go.Proofs.YtgbfflpdpfgnbaaGreat

/- impl.SameStx. Condition: at most 2^20 data, each set of at most 2^22. -/
namespace Go.Proofs.YtgbfflpdpfgnbaaGreat
open Go.ChangeShapes Go.WideShapes Go.ChangeAt Go.RowKit

theorem XsB.fn {R : World → Value → List Int → Prop} {B : Nat} {w : World} {len : Nat} {kid : Nat → X} {v : Value} (h : XsB R B w len kid v) : ∃ (p : Option Addr) (cap : Nat) (U : Nat → Value × Value), v = .slice p len cap ∧ len ≤ maxLen ∧
    ∀ i, i < len → ∃ b o, p = some ⟨b, o, none⟩ ∧ Head6 w b (o + i * 6) (kid i) (U i).1 (U i).2 ∧ (kid i).InB R B w (U i).1 (U i).2 := by
  rcases h with ⟨rfl, p, cap, rfl⟩ | ⟨b, o, cap, U, V, rfl, hB, h1, h2, h3⟩
  · exact ⟨p, cap, fun _ => (.nilIface, .nilIface), rfl, Nat.zero_le _, fun i hi => by omega⟩
  · exact ⟨_, cap, fun i => (U i, V i), rfl, Nat.le_trans h1 h2, fun i hi => ⟨b, o, rfl, h3 i hi⟩⟩
theorem X.Small.set {t : X} (h : t.Small) : t.set.length ≤ 4194304 := by
  cases t with
  | no => simp [X.set]
  | mk op a n s set len kid => exact h.1
theorem X.Small.kid {t : X} (h : t.Small) (i : Nat) (hi : i < t.len) : (t.kid i).Small := by
  cases t with
  | no => simp [X.len] at hi
  | mk op a n s set len kid => exact h.2 i hi

set_option maxRecDepth 100000 in
set_option maxHeartbeats 4000000 in
theorem impl_headX (x y : X) (p q : Option Addr) (c1 c2 : Nat) (su sv : Value) (w : World) (hsu : SetB 0 w su x.set) (hsv : SetB 0 w sv y.set) (hl1 : x.set.length ≤ 4194304) (hl2 : y.set.length ≤ 4194304) :
    Calls Tryz.prog 39 #[.agg #[.int .i64 x.op, .int .i64 x.at_, .int .i64 x.n, .string x.s, su, .slice p x.len c1, .int .i64 y.op, .int .i64 y.at_, .int .i64 y.n, .string y.s, sv, .slice q y.len c2]] w fun e w' => e = .returned (.bool (headX x y)) ∧ Below w.heap.size w w' := by
  have hh := headX_cases x y
  have HSS : Hid (∀ w1, Below w.heap.size w w1 → Calls Tryz.prog 62 #[su, sv] w1 fun e w' => e = .returned (.bool (sameB x.set y.set)) ∧ Below w1.heap.size w1 w') := fun w1 hb => impl_same_set _ _ _ _ w1 (hsu.rd.below hb) (hsv.rd.below hb) hl1 hl2
  clear hsu hsv hl1 hl2
  generalize headX x y = R at *
  generalize sameB x.set y.set = SB at *
  generalize x.op = op at *
  generalize x.at_ = a at *
  generalize x.n = n at *
  generalize x.s = s at *
  generalize x.len = len at *
  generalize y.op = op2 at *
  generalize y.at_ = a2 at *
  generalize y.n = n2 at *
  generalize y.s = s2 at *
  generalize y.len = len2 at *
  have HB : Hid (∀ o1, Below w.heap.size w (w.alloc o1)) := fun o1 => newx w _
  rcases hh with ⟨hR, t0, t1, t2, t5, t3⟩ | ⟨hR, c | ⟨c0, c | ⟨c1, c | ⟨c2, c | ⟨c5, c⟩⟩⟩⟩⟩
  · subst hR t0 t1 t2 t5 t3
    go_enter Tryz.func39, Tryz.ntmps39
    go_wp2_with fail
    refine (HSS.out _ (newx w _)).mono ?_
    rintro e w1 ⟨rfl, hb1⟩
    have hP : w1.heap[w.heap.size]? = some (.cells #[.int .i64 op, .int .i64 a, .int .i64 n, .string s, su, .slice p len c1, .int .i64 op, .int .i64 a2, .int .i64 n, .string s, sv, .slice q len c2] 61 (0, 0)) := (hb1.block _ (by simp)).trans (heap_alloc_new w _)
    have p5 : w1.cell? ⟨w.heap.size, 5, none⟩ = some (.slice p len c1) := cell_of_row w1 _ 5 _ _ _ hP
    have p11 : w1.cell? ⟨w.heap.size, 11, none⟩ = some (.slice q len c2) := cell_of_row w1 _ 11 _ _ _ hP
    have HB1 : Hid (Below w.heap.size w w1) := (newx w _).trans (hb1.mono (by simp))
    clear hb1 hP
    go_wp2_with fail
    go_ret
    exact ⟨rfl, HB1.out⟩
  · subst hR
    have d1 : (op == op2) = false := by simpa using c
    go_enter Tryz.func39, Tryz.ntmps39
    go_wp2_with fail
    go_ret
    exact ⟨rfl, HB.out _⟩
  · subst hR c0
    have d1 : (n == n2) = false := by simpa using c
    go_enter Tryz.func39, Tryz.ntmps39
    go_wp2_with fail
    go_ret
    exact ⟨rfl, HB.out _⟩
  · subst hR c0 c1
    go_enter Tryz.func39, Tryz.ntmps39
    go_wp2_with fail
    go_ret
    exact ⟨rfl, HB.out _⟩
  · subst hR c0 c1 c2 c
    go_enter Tryz.func39, Tryz.ntmps39
    go_wp2_with fail
    refine (HSS.out _ (newx w _)).mono ?_
    rintro e w1 ⟨rfl, hb1⟩
    have HB1 : Hid (Below w.heap.size w w1) := (newx w _).trans (hb1.mono (by simp))
    clear hb1
    go_wp2_with fail
    go_ret
    exact ⟨rfl, HB1.out⟩
  · subst hR c0 c1 c2 c5
    have d1 : ((len : Int) == (len2 : Int)) = false := by rw [beq_eq_false_iff_ne]; omega
    go_enter Tryz.func39, Tryz.ntmps39
    go_wp2_with fail
    refine (HSS.out _ (newx w _)).mono ?_
    rintro e w1 ⟨rfl, hb1⟩
    have hP : w1.heap[w.heap.size]? = some (.cells #[.int .i64 op, .int .i64 a, .int .i64 n, .string s, su, .slice p len c1, .int .i64 op, .int .i64 a2, .int .i64 n, .string s, sv, .slice q len2 c2] 61 (0, 0)) := (hb1.block _ (by simp)).trans (heap_alloc_new w _)
    have p5 : w1.cell? ⟨w.heap.size, 5, none⟩ = some (.slice p len c1) := cell_of_row w1 _ 5 _ _ _ hP
    have p11 : w1.cell? ⟨w.heap.size, 11, none⟩ = some (.slice q len2 c2) := cell_of_row w1 _ 11 _ _ _ hP
    have HB1 : Hid (Below w.heap.size w w1) := (newx w _).trans (hb1.mono (by simp))
    clear hb1 hP
    go_wp2_with fail
    go_ret
    exact ⟨rfl, HB1.out⟩

theorem pairX_info : (Tryz.prog.info? 61).map (fun i => (i.zero, i.size, i.bytes)) = some (some (.agg #[.int .i64 0, .int .i64 0, .int .i64 0, .string ⟨#[]⟩, .slice none 0 0, .slice none 0 0, .int .i64 0, .int .i64 0, .int .i64 0, .string ⟨#[]⟩, .slice none 0 0, .slice none 0 0]), 12, 176) := by kernel_rfl

theorem app_stepX {w wr w3 : World} {o1 o2 : Obj} {g' PB j : Nat} {x : Value} (hbel : Below w.heap.size w wr) (hg : ((wr.alloc o1).alloc o2).drew.grownBy w3 (some g')) (hb3 : w.heap.size + 2 ≤ g') (hsz : PB < wr.heap.size) (hne : g' ≠ PB) (hq : wr.cell? ⟨PB, j, none⟩ = some x) :
    Below w.heap.size w w3 ∧ PB < w3.heap.size ∧ w3.cell? ⟨PB, j, none⟩ = some x := by
  have h1 : Below wr.heap.size wr ((wr.alloc o1).alloc o2).drew := ((newx wr o1).trans ((newx _ o2).mono (by simp))).drew
  have h2 := hg.size
  have h3 := h1.size
  have h4 := hbel.size
  refine ⟨(hbel.trans (h1.mono h4)).trans ⟨hg.os, hg.tape, hg.output, hg.size, fun j hj => hg.block j (by omega) (by intro e; injection e with e; omega)⟩, by omega, hg.cell (keepsX h1 _ _ hq) (by simpa using fun e => hne e.symm)⟩

/-- What the loop keeps. -/
structure LeftX (w wr : World) (R : Bool) (st : List XP) (g cap : Nat) : Prop where
  all : allSameX st = R
  ins : XPsIn w st
  own : wr.ownsRow (w.heap.size + 2) 61 12 (.slice (some ⟨g, 0, none⟩) st.length cap) st.length (xprows st)
  bel : Below w.heap.size w wr
  size : w.heap.size + 2 ≤ wr.heap.size

set_option maxRecDepth 100000 in
set_option maxHeartbeats 4000000 in
theorem impl_same_x (x y : X) (w : World) (su u sv v : Value) (hu : x.At 0 w su u) (hv : y.At 0 w sv v) (hsx : x.Small) (hsy : y.Small) (hc : x.count ≤ 1048577) :
    Calls Tryz.prog 13 #[.agg #[.int .i64 x.op, .int .i64 x.at_, .int .i64 x.n, .string x.s, su, u], .agg #[.int .i64 y.op, .int .i64 y.at_, .int .i64 y.n, .string y.s, sv, v]] w fun e w' => e = .returned (.bool (sameX x y)) ∧ Below w.heap.size w w' := by
  obtain ⟨i0, hi, hz0, hz1, hz2⟩ := info_parts pairX_info
  obtain ⟨p, cap, e1⟩ := hu.xs.shape
  obtain ⟨ps, caps, e3⟩ := hu.sets.shape
  obtain ⟨q, cap2, e2⟩ := hv.xs.shape
  obtain ⟨qs, cap2s, e4⟩ := hv.sets.shape
  have H0 : Hid (allSameX [(x, y, (su, u), (sv, v))] = sameX x y ∧ totalX [(x, y, (su, u), (sv, v))] ≤ 1048577 ∧ XPsIn w [(x, y, (su, u), (sv, v))]) := ⟨by simp [allSameX], by simpa [totalX] using hc, by intro q hq; simp only [List.mem_singleton] at hq; subst hq; exact ⟨⟨hu, hsx⟩, ⟨hv, hsy⟩⟩⟩
  clear hu hv hc hsx hsy
  generalize hR : sameX x y = R at *
  generalize hn : totalX [(x, y, (su, u), (sv, v))] = n0 at *
  have HN : Hid (totalX [(x, y, (su, u), (sv, v))] = n0) := hn
  clear hR hn
  subst e1 e2 e3 e4
  go_enter Tryz.func13, Tryz.ntmps13
  go_wp2_with fail
  go_loopg [5] n0 (fun k lv wr => ∃ (st : List XP) (g cap : Nat), totalX st = k ∧ k ≤ 1048577 ∧ lv = .slice (some ⟨g, 0, none⟩) st.length cap ∧ LeftX w wr R st g cap)
  case atStart =>
    have hb : ∀ o1 o2 o3, Below w.heap.size w (((w.alloc o1).alloc o2).alloc o3) ∧ w.heap.size + 2 ≤ (((w.alloc o1).alloc o2).alloc o3).heap.size := fun o1 o2 o3 => ⟨Below.trans (newx w _) (Below.trans ((newx _ _).mono (B' := w.heap.size) (by simp)) ((newx _ _).mono (B' := w.heap.size) (by simp; omega))), by simp⟩
    refine ⟨_, _, _, HN.out, H0.out.2.1, rfl, H0.out.1, H0.out.2.2, ?_, (hb _ _ _).1, (hb _ _ _).2⟩
    exact own_new rfl (by simp) (by omega) rfl rfl (by unfold maxLen; omega)
  case round =>
    obtain ⟨st, g, gc, hst, hk, rfl, hL⟩ := hrel
    have HST : Hid (totalX st = gk) := hst
    have HL : Hid (LeftX w wr R st g gc) := hL
    clear hst hL H0 HN
    rcases List.eq_nil_or_concat st with hnil | ⟨r, pr, hst⟩
    · subst hnil
      have HRR : Hid (R = true) := HL.out.all.symm
      have HB : Hid (Below w.heap.size w wr) := HL.out.bel
      clear HL HST
      go_wp2_with fail
      go_ret
      exact ⟨by rw [HRR.out]; rfl, HB.out⟩
    · rw [List.concat_eq_append] at hst
      subst hst
      obtain ⟨a, b, ⟨sa, ua⟩, ⟨sb, ub⟩⟩ := pr
      have hins := HL.out.ins (a, b, (sa, ua), (sb, ub)) (by simp)
      obtain ⟨pa, ca, U, ea, hla, hata⟩ := hins.1.1.xs.fn
      obtain ⟨pb, cb, V, eb, hlb, hatb⟩ := hins.2.1.xs.fn
      obtain ⟨pas, cas, eas⟩ := hins.1.1.sets.shape
      obtain ⟨pbs, cbs, ebs⟩ := hins.2.1.sets.shape
      simp only at ea eb eas ebs
      have HSE : Hid ((SetB 0 w (.slice pas a.set.length cas) a.set ∧ SetB 0 w (.slice pbs b.set.length cbs) b.set) ∧ (a.Small ∧ b.Small)) := ⟨⟨by rw [← eas]; exact hins.1.1.sets, by rw [← ebs]; exact hins.2.1.sets⟩, hins.1.2, hins.2.2⟩
      subst ea eb eas ebs
      have HA : Hid (∀ i, i < a.len → ∃ b o, pa = some ⟨b, o, none⟩ ∧ Head6 w b (o + i * 6) (a.kid i) (U i).1 (U i).2 ∧ (a.kid i).At 0 w (U i).1 (U i).2) := hata
      have HBB : Hid (∀ i, i < b.len → ∃ b' o, pb = some ⟨b', o, none⟩ ∧ Head6 w b' (o + i * 6) (b.kid i) (V i).1 (V i).2 ∧ (b.kid i).At 0 w (V i).1 (V i).2) := hatb
      clear hata hatb hins
      have hcell : ∀ j, j < 12 → wr.cell? ⟨g, r.length * 12 + j, none⟩ = (XP.cells (a, b, (.slice pas a.set.length cas, .slice pa a.len ca), (.slice pbs b.set.length cbs, .slice pb b.len cb)))[j]? := by
        intro j hj
        have h1 := HL.out.own.cellAt (r.length * 12 + j) (by simp; omega)
        rw [h1, xprows_append, List.getElem?_append_right (by rw [xprows_length]; omega), xprows_length]
        simp [xprows]
      have l0 := hcell 0 (by omega); have l1 := hcell 1 (by omega); have l2 := hcell 2 (by omega); have l3 := hcell 3 (by omega); have l4 := hcell 4 (by omega)
      have l5 := hcell 5 (by omega); have l6 := hcell 6 (by omega); have l7 := hcell 7 (by omega); have l8 := hcell 8 (by omega); have l9 := hcell 9 (by omega); have l10 := hcell 10 (by omega); have l11 := hcell 11 (by omega)
      simp only [XP.cells, Nat.add_zero, List.getElem?_cons_zero, List.getElem?_cons_succ] at l0 l1 l2 l3 l4 l5 l6 l7 l8 l9 l10 l11
      clear hcell
      obtain ⟨hr1, hr2, hr3, hr4⟩ := own_room HL.out.own
      have hlen : (r ++ [(a, b, (Value.slice pas a.set.length cas, Value.slice pa a.len ca), (Value.slice pbs b.set.length cbs, Value.slice pb b.len cb))]).length = r.length + 1 := by simp
      have hrl : r.length < 1048577 := by have := totalX_len (r ++ [(a, b, (Value.slice pas a.set.length cas, Value.slice pa a.len ca), (Value.slice pbs b.set.length cbs, Value.slice pb b.len cb))]); rw [HST.out] at this; omega
      rw [hlen] at hr1 ⊢
      unfold maxLen at hr2 hla hlb
      clear hlen
      generalize hrn : r.length = rn at *
      have HRN : Hid (r.length = rn) := hrn
      clear hrn
      have hO1 := own_cut (n := rn) (xs := xprows r) (ys := xprows [(a, b, (Value.slice pas a.set.length cas, Value.slice pa a.len ca), (Value.slice pbs b.set.length cbs, Value.slice pb b.len cb))]) (by rw [← xprows_append]; exact HL.out.own) (by rw [xprows_length, HRN.out]) (by simp [HRN.out])
      have HO1 : Hid (wr.ownsRow (w.heap.size + 2) 61 12 (.slice (some ⟨g, 0, none⟩) rn gc) rn (xprows r)) := hO1
      clear hO1
      have HBL : Hid (Below w.heap.size w wr) := HL.out.bel
      go_wp2_with fail
      refine (impl_headX a b pa pb ca cb _ _ _ (HSE.out.1.1.kept (Nat.le_refl _) (fun x u _ => keepsX (HBL.out.trans ((newx wr _).mono HBL.out.size)) x u)) (HSE.out.1.2.kept (Nat.le_refl _) (fun x u _ => keepsX (HBL.out.trans ((newx wr _).mono HBL.out.size)) x u)) HSE.out.2.1.set HSE.out.2.2.set).mono ?_
      rintro e w1 ⟨rfl, hb1⟩
      have hnb := newx wr (.cells #[.int .i64 a.op, .int .i64 a.at_, .int .i64 a.n, .string a.s, .slice pas a.set.length cas, .slice pa a.len ca, .int .i64 b.op, .int .i64 b.at_, .int .i64 b.n, .string b.s, .slice pbs b.set.length cbs, .slice pb b.len cb] 61)
      have HO2 : Hid (w1.ownsRow (w.heap.size + 2) 61 12 (.slice (some ⟨g, 0, none⟩) rn gc) rn (xprows r)) := own_belowX (own_belowX HO1.out hnb) hb1
      have hb2 : Below wr.heap.size wr w1 := hnb.trans (hb1.mono hnb.size)
      have HB1 : Hid (Below w.heap.size w w1) := HBL.out.trans (hb2.mono HBL.out.size)
      have hP : w1.heap[wr.heap.size]? = some (.cells #[.int .i64 a.op, .int .i64 a.at_, .int .i64 a.n, .string a.s, .slice pas a.set.length cas, .slice pa a.len ca, .int .i64 b.op, .int .i64 b.at_, .int .i64 b.n, .string b.s, .slice pbs b.set.length cbs, .slice pb b.len cb] 61 (0, 0)) := (hb1.block _ (by simp)).trans (heap_alloc_new wr _)
      have hp4 : w1.cell? ⟨wr.heap.size, 5, none⟩ = some (.slice pa a.len ca) := cell_of_row w1 _ 5 _ _ _ hP
      have hp9 : w1.cell? ⟨wr.heap.size, 11, none⟩ = some (.slice pb b.len cb) := cell_of_row w1 _ 11 _ _ _ hP
      have hPs : wr.heap.size < w1.heap.size := (Array.getElem?_eq_some_iff.1 hP).1
      clear hb1 hb2 hnb hP HO1 HBL l0 l1 l2 l3 l4 l5 l6 l7 l8 l9 l10 l11
      have hh := headX_cases a b
      rcases hh with ⟨hR, -, -, -, -, hab⟩ | ⟨hR, -⟩
      · rw [hR]
        have HPS : Hid (∀ k, allSameX (r ++ pushedX a b U V k) = allSameX (r ++ pushedX a b U V k)) := fun _ => rfl
        have HAL : Hid (allSameX (r ++ pushedX a b U V a.len) = R) := (popX_same r a b _ _ U V hR).symm.trans HL.out.all
        have HTT : Hid (totalX (r ++ pushedX a b U V a.len) + 1 = gk) := (popX_totalX r a b _ _ U V).trans HST.out
        have HIN : Hid (XPsIn w (r ++ pushedX a b U V a.len)) := by
          intro z hz
          rcases List.mem_append.1 hz with hz | hz
          · exact HL.out.ins z (List.mem_append_left _ hz)
          · simp only [pushedX, List.mem_map, List.mem_range] at hz
            obtain ⟨j, hj, rfl⟩ := hz
            obtain ⟨_, _, _, _, h1⟩ := HA.out j hj
            obtain ⟨_, _, _, _, h2⟩ := HBB.out j (by omega)
            exact ⟨⟨h1, HSE.out.2.1.kid j hj⟩, ⟨h2, HSE.out.2.2.kid j (by omega)⟩⟩
        have hal : a.len ≤ 1048577 := by
          have h1 := totalX_len (r ++ pushedX a b U V a.len)
          have h2 := HTT.out
          rw [List.length_append, pushedX_len] at h1
          omega
        have hral : rn + a.len ≤ 1048577 := by
          have h1 := totalX_len (r ++ pushedX a b U V a.len)
          have h2 := HTT.out
          have h3 := HRN.out
          rw [List.length_append, pushedX_len] at h1
          omega
        have HSZ : Hid (w.heap.size + 2 ≤ wr.heap.size) := HL.out.size
        clear hR HPS HL HST hla hlb
        generalize hbl : b.len = bl at *
        subst hab
        clear hbl
        generalize wr.heap.size = PB at *
        go_wp2_with fail
        go_loopw [5, 34] (fun lv i wi => ∃ (k g' c' : Nat), i = .int .i64 k ∧ k ≤ a.len ∧ lv = .slice (some ⟨g', 0, none⟩) ((rn + k : Nat)) c' ∧ g' ≠ PB ∧ wi.ownsRow (w.heap.size + 2) 61 12 (.slice (some ⟨g', 0, none⟩) ((rn + k : Nat)) c') (rn + k) (xprows (r ++ pushedX a b U V k)) ∧ Below w.heap.size w wi ∧ PB < wi.heap.size ∧ wi.cell? ⟨PB, 11, none⟩ = some (.slice pb a.len cb)) (fun _ i _ => a.len - (intOf i).toNat)
        case atStart => exact ⟨0, g, gc, rfl, Nat.zero_le _, rfl, by omega, by simpa [pushedX] using HO2.out, HB1.out, hPs, hp9⟩
        case round =>
          obtain ⟨k, g', c', rfl, hka, rfl, hgne, hown, hbel, hsz, hq9⟩ := hrel
          have HOW : Hid (wr.ownsRow (w.heap.size + 2) 61 12 (.slice (some ⟨g', 0, none⟩) (rn + k) c') (rn + k) (xprows (r ++ pushedX a b U V k))) := hown
          have HBW : Hid (Below w.heap.size w wr) := hbel
          obtain ⟨-, -, hb3, hb4⟩ := own_room hown
          clear hown hbel HO2 HB1 hp4 hp9 hPs hr1 hr2 hr3 hr4
          by_cases hlt : (k : Int) < a.len
          · have hlt' : k < a.len := by omega
            obtain ⟨ba, oa, hpa, hda, -⟩ := HA.out k hlt'
            obtain ⟨bb, ob, hpb, hdb, -⟩ := HBB.out k hlt'
            subst hpa hpb
            obtain ⟨c0, c1, c2, c3, c4, c5⟩ := hda.below HBW.out
            obtain ⟨d0, d1, d2, d3, d4, d5⟩ := hdb.below HBW.out
            have hmem := HIN.out ((a.kid k), (b.kid k), U k, V k) (by refine List.mem_append_right _ ?_; simp only [pushedX, List.mem_map, List.mem_range]; exact ⟨k, hlt', rfl⟩)
            obtain ⟨pu, cu, eu⟩ := hmem.1.1.xs.shape
            obtain ⟨pv, cv, ev⟩ := hmem.2.1.xs.shape
            obtain ⟨pus, cus, eus⟩ := hmem.1.1.sets.shape
            obtain ⟨pvs, cvs, evs⟩ := hmem.2.1.sets.shape
            simp only at eu ev eus evs
            rw [eu] at c5
            rw [ev] at d5
            rw [eus] at c4
            rw [evs] at d4
            have HEU : Hid (U k = (.slice pus (a.kid k).set.length cus, .slice pu (a.kid k).len cu) ∧ V k = (.slice pvs (b.kid k).set.length cvs, .slice pv (b.kid k).len cv)) := ⟨by rw [← eus, ← eu], by rw [← evs, ← ev]⟩
            clear eu ev eus evs hda hdb hmem
            go_wp2_with fail
            generalize hW : wr.alloc (.cells #[.int .i64 (a.kid k).op, .int .i64 (a.kid k).at_, .int .i64 (a.kid k).n, .string (a.kid k).s, .slice pus (a.kid k).set.length cus, .slice pu (a.kid k).len cu] 32) = W
            have hWb : Below wr.heap.size wr W := by rw [← hW]; exact newx _ _
            have hWk : W.heap[wr.heap.size]? = some (.cells #[.int .i64 (a.kid k).op, .int .i64 (a.kid k).at_, .int .i64 (a.kid k).n, .string (a.kid k).s, .slice pus (a.kid k).set.length cus, .slice pu (a.kid k).len cu] 32 (0, 0)) := by rw [← hW]; exact heap_alloc_new _ _
            have hWs : W.heap.size = wr.heap.size + 1 := by rw [← hW]; simp
            have k0 : W.cell? ⟨wr.heap.size, 0, none⟩ = some (.int .i64 (a.kid k).op) := cell_of_row W _ 0 _ _ _ hWk
            have k1 : W.cell? ⟨wr.heap.size, 1, none⟩ = some (.int .i64 (a.kid k).at_) := cell_of_row W _ 1 _ _ _ hWk
            have k2 : W.cell? ⟨wr.heap.size, 2, none⟩ = some (.int .i64 (a.kid k).n) := cell_of_row W _ 2 _ _ _ hWk
            have k3 : W.cell? ⟨wr.heap.size, 3, none⟩ = some (.string (a.kid k).s) := cell_of_row W _ 3 _ _ _ hWk
            have k4 : W.cell? ⟨wr.heap.size, 4, none⟩ = some (.slice pus (a.kid k).set.length cus) := cell_of_row W _ 4 _ _ _ hWk
            have k5 : W.cell? ⟨wr.heap.size, 5, none⟩ = some (.slice pu (a.kid k).len cu) := cell_of_row W _ 5 _ _ _ hWk
            have m0 := keepsX hWb _ _ d0; have m1 := keepsX hWb _ _ d1; have m2 := keepsX hWb _ _ d2; have m3 := keepsX hWb _ _ d3; have m4 := keepsX hWb _ _ d4; have m5 := keepsX hWb _ _ d5; have m9 := keepsX hWb _ _ hq9
            have HWO : Hid (W.ownsRow (w.heap.size + 2) 61 12 (.slice (some ⟨g', 0, none⟩) (rn + k) c') (rn + k) (xprows (r ++ pushedX a b U V k))) := own_belowX HOW.out hWb
            have HQ9 : Hid (wr.cell? ⟨PB, 11, none⟩ = some (.slice (some ⟨bb, ob, none⟩) a.len cb)) := hq9
            have hWS : Hid (W.heap.size = wr.heap.size + 1) := hWs
            have HWE : Hid (wr.alloc (.cells #[.int .i64 (a.kid k).op, .int .i64 (a.kid k).at_, .int .i64 (a.kid k).n, .string (a.kid k).s, .slice pus (a.kid k).set.length cus, .slice pu (a.kid k).len cu] 32) = W) := hW
            have HBS : Hid (w.heap.size + 1 ≤ W.heap.size) := by
              show _ ≤ _
              omega
            clear hW hWb hWk c0 c1 c2 c3 c4 c5 d0 d1 d2 d3 d4 d5 hq9 hWs
            go_region_law
              ((refine step_append_lies _ (by rfl) _ _ _ (by rfl) (w.heap.size + 2) 61 i0 _ 12 176 Tryz.underlying62 hi hz0 hz1 hz2 rfl (by omega) (.slice (some ⟨g', 0, none⟩) (rn + k) c') (rn + k) (xprows (r ++ pushedX a b U V k)) (by rfl) ((HWO.out.alloc _).drew) ⟨W.heap.size, 0, none⟩ 1 1 [.int .i64 (a.kid k).op, .int .i64 (a.kid k).at_, .int .i64 (a.kid k).n, .string (a.kid k).s, .slice pus (a.kid k).set.length cus, .slice pu (a.kid k).len cu, .int .i64 (b.kid k).op, .int .i64 (b.kid k).at_, .int .i64 (b.kid k).n, .string (b.kid k).s, .slice pvs (b.kid k).set.length cvs, .slice pv (b.kid k).len cv] (by rfl) (by rfl) (World.news_of_block (cs := #[.int .i64 (a.kid k).op, .int .i64 (a.kid k).at_, .int .i64 (a.kid k).n, .string (a.kid k).s, .slice pus (a.kid k).set.length cus, .slice pu (a.kid k).len cu, .int .i64 (b.kid k).op, .int .i64 (b.kid k).at_, .int .i64 (b.kid k).n, .string (b.kid k).s, .slice pvs (b.kid k).set.length cvs, .slice pv (b.kid k).len cv]) (t := 61) (fr := (0, 0)) (heap_alloc_new W _)) (by simp [Value.oneCell']) (by omega) (by unfold maxLen; omega) (by omega) (by simp; exact HBS.out) (W.heap.size + 1) (by simp) ?_; intro gg cap3 w3 hown3 hgrow hat hlt3))
            all_goals
              have hpp : xprows (r ++ pushedX a b U V k) ++ [.int .i64 (a.kid k).op, .int .i64 (a.kid k).at_, .int .i64 (a.kid k).n, .string (a.kid k).s, .slice pus (a.kid k).set.length cus, .slice pu (a.kid k).len cu, .int .i64 (b.kid k).op, .int .i64 (b.kid k).at_, .int .i64 (b.kid k).n, .string (b.kid k).s, .slice pvs (b.kid k).set.length cvs, .slice pv (b.kid k).len cv] = xprows (r ++ pushedX a b U V (k + 1)) := by
                rw [pushedX_succ, ← List.append_assoc, xprows_append _ [_], HEU.out.1, HEU.out.2]; rfl
              rw [hpp] at hown3
              have hgg : gg ≠ PB := by
                rcases hat with h | h
                · have : g' = gg := by simpa [Value.ownBlock] using h
                  omega
                · have := hWS.out; omega
              have HS3 : Hid (Below w.heap.size w w3 ∧ PB < w3.heap.size ∧ w3.cell? ⟨PB, 11, none⟩ = some (.slice (some ⟨bb, ob, none⟩) a.len cb)) := by
                have h := hgrow
                rw [← HWE.out] at h
                exact app_stepX HBW.out h hb3 hsz hgne HQ9.out
              have HO3 : Hid (w3.ownsRow (w.heap.size + 2) 61 12 (.slice (some ⟨gg, 0, none⟩) (rn + k + 1) cap3) (rn + k + 1) (xprows (r ++ pushedX a b U V (k + 1)))) := hown3
              have HGG : Hid (gg ≠ PB) := hgg
              clear hown3 hpp hgrow hat hlt3 hgg
              go_wp2_with fail
              go_roundw
              case rel => first | exact ⟨k + 1, gg, cap3, by go_num, by omega, rfl, HGG.out, HO3.out, HS3.out.1, HS3.out.2.1, HS3.out.2.2⟩ | ((repeat apply Exists.intro); exact ⟨⟨k + 1, gg, cap3, by go_num, by omega, rfl, HGG.out, HO3.out, HS3.out.1, HS3.out.2.1, HS3.out.2.2⟩, rfl⟩)
              case measure => simp [intOf]; omega
          · have hke : k = a.len := by omega
            go_wp2_with fail
            go_roundg (totalX (r ++ pushedX a b U V a.len))
            case measure => have := HTT.out; omega
            case rel =>
              subst hke
              have h1 := HTT.out
              have h2 := HOW.out
              have h3 := HRN.out
              refine ⟨r ++ pushedX a b U V a.len, g', c', rfl, by omega, by rw [List.length_append, pushedX_len, h3], HAL.out, HIN.out, ?_, HBW.out, by have := HSZ.out; omega⟩
              rw [List.length_append, pushedX_len, h3]; exact h2
      · rw [hR]
        have HRR : Hid (R = false) := HL.out.all.symm.trans (popX_no r a b _ _ hR)
        clear HL HST HO2
        go_wp2_with fail
        go_ret
        exact ⟨by rw [HRR.out]; rfl, HB1.out⟩
end Go.Proofs.YtgbfflpdpfgnbaaGreat

/- spec.SameStx. Condition: no set of more than 2^22. -/
namespace Go.Proofs.YtgbfflpdpfgnbaaGreat
open Go.ChangeShapes Go.WideShapes Go.ChangeAt Go.RowKit

def SameXAt (t : X) : Prop := ∀ (s : X) (w : World) (su u sv v : Value), t.At 0 w su u → s.At 0 w sv v → t.Small → s.Small →
  Calls Tryz.prog 23 #[.agg #[.int .i64 t.op, .int .i64 t.at_, .int .i64 t.n, .string t.s, su, u], .agg #[.int .i64 s.op, .int .i64 s.at_, .int .i64 s.n, .string s.s, sv, v]] w fun e w' => e = .returned (.bool (sameX t s)) ∧ Below w.heap.size w w'

theorem SameXAt.at' {t : X} (h : SameXAt t) (s : X) (w : World) (su u sv v : Value) (h1 : t.At 0 w su u) (h2 : s.At 0 w sv v) (h3 : t.Small) (h4 : s.Small) : Calls Tryz.prog 23 #[.agg #[.int .i64 t.op, .int .i64 t.at_, .int .i64 t.n, .string t.s, su, u], .agg #[.int .i64 s.op, .int .i64 s.at_, .int .i64 s.n, .string s.s, sv, v]] w fun e w' => e = .returned (.bool (sameX t s)) ∧ Below w.heap.size w w' := h s w su u sv v h1 h2 h3 h4

set_option maxRecDepth 100000 in
set_option maxHeartbeats 4000000 in
theorem spec_same_stx (t : X) : SameXAt t := by
  induction t with
  | no => intro s w su u sv v h _ _ _; exact h.elim
  | mk op a n s set len kid ih =>
    intro b w su u sv v hu hv hsm hsm2
    cases b with
    | no => exact hv.elim
    | mk op2 a2 n2 s2 set2 len2 kid2 =>
    have h1 := hu.xs
    have h2 := hv.xs
    have r1 := hu.sets
    have r2 := hv.sets
    have H0 : Hid (sameX (.mk op a n s set len kid) (.mk op2 a2 n2 s2 set2 len2 kid2) = (headX (.mk op a n s set len kid) (.mk op2 a2 n2 s2 set2 len2 kid2) && allX (fun i => sameX (kid i) (kid2 i)) len)) := rfl
    have hh := headX_cases (.mk op a n s set len kid) (.mk op2 a2 n2 s2 set2 len2 kid2)
    simp only [X.op, X.at_, X.n, X.s, X.set, X.len, X.kid] at h1 h2 r1 r2 hh ⊢
    obtain ⟨p, cap, e1, hlen, hat⟩ := h1.at
    obtain ⟨q, cap2, e2, hlen2, hat2⟩ := h2.at
    have HC : Hid (∀ i, i < len → ∃ b o sv u, p = some ⟨b, o, none⟩ ∧ Head6 w b (o + i * 6) (kid i) sv u ∧ (kid i).At 0 w sv u) := hat
    have HD : Hid (∀ i, i < len2 → ∃ b' o sv u, q = some ⟨b', o, none⟩ ∧ Head6 w b' (o + i * 6) (kid2 i) sv u ∧ (kid2 i).At 0 w sv u) := hat2
    obtain ⟨ps, cs, e3⟩ := r1.shape
    obtain ⟨qs, cs2, e4⟩ := r2.shape
    have R1 : Hid (Rd w su set) := r1.rd
    have R2 : Hid (Rd w sv set2) := r2.rd
    have HSM : Hid (set.length ≤ 4194304 ∧ ∀ i, i < len → (kid i).Small) := hsm
    have HSM2 : Hid (set2.length ≤ 4194304 ∧ ∀ i, i < len2 → (kid2 i).Small) := hsm2
    have IH : Hid (∀ i, SameXAt (kid i)) := ih
    clear hu hv h1 h2 hat hat2 ih r1 r2 hsm hsm2
    unfold maxLen at hlen hlen2
    subst e1 e2 e3 e4
    have HS : Hid (∀ o1 o2, Calls Tryz.prog 52 #[.slice ps set.length cs, .slice qs set2.length cs2] ((w.alloc o1).alloc o2) fun e w' => e = .returned (.bool (sameB set set2)) ∧ Below ((w.alloc o1).alloc o2).heap.size ((w.alloc o1).alloc o2) w') := fun o1 o2 =>
      have hb0 : Below w.heap.size w ((w.alloc o1).alloc o2) := (newx w _).trans ((newx _ _).mono (by simp))
      spec_same_set set set2 _ _ _ (R1.out.below hb0) (R2.out.below hb0) HSM.out.1 HSM2.out.1
    clear R1 R2
    rcases hh with ⟨hh, t0, t1, t2, t4, t3⟩ | ⟨hh, hh2⟩
    · have HR : Hid (sameX (.mk op a n s set len kid) (.mk op2 a2 n2 s2 set2 len2 kid2) = allX (fun i => sameX (kid i) (kid2 i)) len) := by
        have := H0.out
        rw [hh, Bool.true_and] at this
        exact this
      clear hh H0
      generalize sameX (.mk op a n s set len kid) (.mk op2 a2 n2 s2 set2 len2 kid2) = R at *
      subst t0 t1 t2 t3
      go_enter Tryz.func23, Tryz.ntmps23
      rw [t4] at HS
      clear t4
      go_wp2_with fail
      refine (HS.out _ _).mono ?_
      rintro e w1 ⟨rfl, hb1⟩
      have HB1 : Hid (Below w.heap.size w w1) := ((newx w _).trans ((newx _ _).mono (by simp))).trans (hb1.mono (by simp; omega))
      have a5 : w1.cell? ⟨w.heap.size, 5, none⟩ = some (.slice p len cap) := keepsX hb1 _ _ (by simp [go_sem])
      have b5 : w1.cell? ⟨w.heap.size + 1, 5, none⟩ = some (.slice q len cap2) := keepsX hb1 _ _ (by simp [go_sem])
      clear hb1 HS
      go_wp2_with fail
      go_loopw [5] (fun i wr => ∃ k : Nat, i = .int .i64 k ∧ k ≤ len ∧ allX (fun i => sameX (kid i) (kid2 i)) k = true ∧ wr.cell? ⟨w.heap.size, 5, none⟩ = some (.slice p len cap) ∧ wr.cell? ⟨w.heap.size + 1, 5, none⟩ = some (.slice q len cap2) ∧ Below w.heap.size w wr) (fun i _ => len - (intOf i).toNat)
      case atStart => exact ⟨0, rfl, Nat.zero_le _, rfl, a5, b5, HB1.out⟩
      case round =>
        obtain ⟨k, rfl, hk, hall, hc1, hc2, hbel⟩ := hrel
        have HBL : Hid (Below w.heap.size w wr) := hbel
        have HA : Hid (allX (fun i => sameX (kid i) (kid2 i)) k = true) := hall
        clear hbel hall
        by_cases hlt : (k : Int) < len
        · have hlt' : k < len := by omega
          obtain ⟨b, o, sx, x, hp, hd, hin⟩ := HC.out k hlt'
          obtain ⟨b2, o2, sy, y, hq, hd2, hin2⟩ := HD.out k hlt'
          subst hp hq
          obtain ⟨c0, c1, c2, c3, c4, c5⟩ := hd.below HBL.out
          obtain ⟨d0, d1, d2, d3, d4, d5⟩ := hd2.below HBL.out
          have HI : Hid ((kid k).At 0 wr sx x ∧ (kid2 k).At 0 wr sy y) := ⟨X.At.below HBL.out hin, X.At.below HBL.out hin2⟩
          clear hd hin hd2 hin2
          have hcl := fun (w1 : World) (h1 : Below wr.heap.size wr w1) => (IH.out k).at' (kid2 k) w1 sx x sy y (X.At.below h1 HI.out.1) (X.At.below h1 HI.out.2) (HSM.out.2 k hlt') (HSM2.out.2 k hlt')
          cases hsm : sameX (kid k) (kid2 k) with
          | true =>
            rw [hsm] at hcl
            have HCL : Hid (∀ w1 : World, Below wr.heap.size wr w1 → Calls Tryz.prog 23 #[.agg #[.int .i64 (kid k).op, .int .i64 (kid k).at_, .int .i64 (kid k).n, .string (kid k).s, sx, x], .agg #[.int .i64 (kid2 k).op, .int .i64 (kid2 k).at_, .int .i64 (kid2 k).n, .string (kid2 k).s, sy, y]] w1 fun e w' => e = .returned (.bool true) ∧ Below w1.heap.size w1 w') := hcl
            have HN : Hid (allX (fun i => sameX (kid i) (kid2 i)) (k + 1) = true) := by
              show _ = _
              simp only [allX, HA.out, hsm, Bool.and_self]
            clear hcl hsm HA
            go_wp2_with fail
            go_region_with ((go_at_call 23; refine (HCL.out _ ?_).mono ?_; exact (Below.refl _ _).drew; rintro e w1 ⟨rfl, hb1⟩))
            all_goals
              have hbw : Below wr.heap.size wr w1 := ⟨hb1.os, hb1.tape, hb1.output, hb1.size, fun j hj => hb1.block j hj⟩
              have HB1 : Hid (Below w.heap.size w w1) := HBL.out.trans (hbw.mono HBL.out.size)
              have HX : Hid (w1.cell? ⟨w.heap.size, 5, none⟩ = some (.slice (some ⟨b, o, none⟩) len cap) ∧ w1.cell? ⟨w.heap.size + 1, 5, none⟩ = some (.slice (some ⟨b2, o2, none⟩) len cap2)) := ⟨keepsX hbw _ _ hc1, keepsX hbw _ _ hc2⟩
              clear hb1 hbw
              go_wp2_with fail
              go_roundw
              case rel => first | exact ⟨k + 1, by go_num, by omega, HN.out, HX.out.1, HX.out.2, HB1.out⟩ | ((repeat apply Exists.intro); exact ⟨⟨k + 1, by go_num, by omega, HN.out, HX.out.1, HX.out.2, HB1.out⟩, rfl⟩)
              case measure => simp [intOf]; omega
          | false =>
            rw [hsm] at hcl
            have HCL : Hid (∀ w1 : World, Below wr.heap.size wr w1 → Calls Tryz.prog 23 #[.agg #[.int .i64 (kid k).op, .int .i64 (kid k).at_, .int .i64 (kid k).n, .string (kid k).s, sx, x], .agg #[.int .i64 (kid2 k).op, .int .i64 (kid2 k).at_, .int .i64 (kid2 k).n, .string (kid2 k).s, sy, y]] w1 fun e w' => e = .returned (.bool false) ∧ Below w1.heap.size w1 w') := hcl
            have HN : Hid (R = false) := HR.out.trans (allX_false hlt' hsm)
            clear hcl hsm HA HR
            go_wp2_with fail
            go_region_with ((go_at_call 23; refine (HCL.out _ ?_).mono ?_; exact (Below.refl _ _).drew; rintro e w1 ⟨rfl, hb1⟩))
            all_goals
              have hbw : Below wr.heap.size wr w1 := ⟨hb1.os, hb1.tape, hb1.output, hb1.size, fun j hj => hb1.block j hj⟩
              have HB1 : Hid (Below w.heap.size w w1) := HBL.out.trans (hbw.mono HBL.out.size)
              clear hb1 hbw
              go_wp2_with fail
              go_ret
              exact ⟨by rw [HN.out]; rfl, HB1.out⟩
        · have hke : k = len := by omega
          subst hke
          have HN : Hid (R = true) := HR.out.trans HA.out
          clear HA HR
          go_wp2_with fail
          go_ret
          exact ⟨by rw [HN.out]; rfl, HBL.out⟩
    · have HR : Hid (sameX (.mk op a n s set len kid) (.mk op2 a2 n2 s2 set2 len2 kid2) = false) := by
        have := H0.out
        rw [hh, Bool.false_and] at this
        exact this
      clear hh H0 HC HD IH
      generalize sameX (.mk op a n s set len kid) (.mk op2 a2 n2 s2 set2 len2 kid2) = R at *
      have HB : Hid (∀ o1 o2, Below w.heap.size w ((w.alloc o1).alloc o2)) := fun o1 o2 => (newx w _).trans ((newx _ _).mono (by simp))
      rcases hh2 with c | ⟨c0, c | ⟨c1, c | ⟨c2, c | ⟨c3, c⟩⟩⟩⟩
      · have d1 : (op == op2) = false := by simpa using c
        go_enter Tryz.func23, Tryz.ntmps23
        go_wp2_with fail
        go_ret
        exact ⟨by rw [HR.out]; rfl, HB.out _ _⟩
      · subst c0
        have d1 : (n == n2) = false := by simpa using c
        go_enter Tryz.func23, Tryz.ntmps23
        go_wp2_with fail
        go_ret
        exact ⟨by rw [HR.out]; rfl, HB.out _ _⟩
      · subst c0 c1
        go_enter Tryz.func23, Tryz.ntmps23
        go_wp2_with fail
        go_ret
        exact ⟨by rw [HR.out]; rfl, HB.out _ _⟩
      · subst c0 c1 c2
        rw [c] at HS
        clear c
        go_enter Tryz.func23, Tryz.ntmps23
        go_wp2_with fail
        refine (HS.out _ _).mono ?_
        rintro e w1 ⟨rfl, hb1⟩
        have HB1 : Hid (Below w.heap.size w w1) := (HB.out _ _).trans (hb1.mono (by simp; omega))
        clear hb1
        go_wp2_with fail
        go_ret
        exact ⟨by rw [HR.out]; rfl, HB1.out⟩
      · subst c0 c1 c2
        rw [c3] at HS
        clear c3
        have d1 : ((len : Int) == (len2 : Int)) = false := by rw [beq_eq_false_iff_ne]; omega
        go_enter Tryz.func23, Tryz.ntmps23
        go_wp2_with fail
        refine (HS.out _ _).mono ?_
        rintro e w1 ⟨rfl, hb1⟩
        have HB1 : Hid (Below w.heap.size w w1) := (HB.out _ _).trans (hb1.mono (by simp; omega))
        have a5 : w1.cell? ⟨w.heap.size, 5, none⟩ = some (.slice p len cap) := keepsX hb1 _ _ (by simp [go_sem])
        have b5 : w1.cell? ⟨w.heap.size + 1, 5, none⟩ = some (.slice q len2 cap2) := keepsX hb1 _ _ (by simp [go_sem])
        clear hb1
        go_wp2_with fail
        go_ret
        exact ⟨by rw [HR.out]; rfl, HB1.out⟩
end Go.Proofs.YtgbfflpdpfgnbaaGreat
