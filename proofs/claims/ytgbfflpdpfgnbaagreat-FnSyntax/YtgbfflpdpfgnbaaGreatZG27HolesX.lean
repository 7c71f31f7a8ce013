/- Plain facts on what is right as it is written: by a count of what may still come. No conditions. -/
import Derived.Test.YtgbfflpdpfgnbaaGreatZG7Cur
import Derived.Test.YtgbfflpdpfgnbaaGreatZG16ReadW
import Derived.Test.YtgbfflpdpfgnbaaGreatZG20SpecDats
import Derived.Test.YtgbfflpdpfgnbaaGreatZG26SpecDatOf
import Derived.Test.YtgbfflpdpfgnbaaGreatZG5IntsRead
import Derived.Test.YtgbfflpdpfgnbaaGreatZG2Holes
import Derived.Test.YtgbfflpdpfgnbaaGreatZG1StxOwn
namespace Go.Proofs.YtgbfflpdpfgnbaaGreat
open Go.ChangeShapes Go.WideShapes Go.ChangeAt Go.RowKit

/-- What is told of one but for its kids, by its tests. -/
def gB (a op : Int) (wb sb e n0 l0 z0 st : Bool) : Bool :=
  decide (0 ≤ a) && (if op = 1 then wb && (e && (z0 && l0)) else if op = 2 then sb && (n0 && (st && l0)) else if op = 3 then n0 && (e && z0) else false)
def nodeB (t : X) : Bool := (decide (t.op = 2) && setB t.set) || decide (t.set.length = 0)
def fieldsXB (t : X) : Bool := fieldsB (datX t) && nodeB t

theorem datX_parts (t : X) : (datX t).op = t.op ∧ (datX t).at_ = t.at_ ∧ (datX t).n = t.n ∧ (datX t).s = t.s ∧ (datX t).len = t.len := by cases t <;> exact ⟨rfl, rfl, rfl, rfl, rfl⟩
theorem datX_kid (t : X) (i : Nat) : (datX t).kid i = datX (t.kid i) := by cases t <;> rfl

theorem fieldsXB_eq (t : X) : fieldsXB t = gB t.at_ t.op (decide (-1073741824 ≤ t.n ∧ t.n ≤ 1073741823)) (symB t.s.data.toList) (t.s.toList == []) (t.n == 0) ((t.len : Int) == 0) ((t.set.length : Int) == 0) (setB t.set) := by
  obtain ⟨h1, h2, h3, h4, h5⟩ := datX_parts t
  unfold fieldsXB fieldsB nodeB
  rw [h1, h2, h3, h4, h5]
  have hz : (((t.set.length : Nat) : Int) == 0) = decide (t.set.length = 0) := by
    by_cases h : t.set.length = 0
    · simp [h]
    · rw [decide_eq_false h, beq_eq_false_iff_ne]; omega
  have hst : t.set.length = 0 → setB t.set = true := fun h => by rw [List.eq_nil_of_length_eq_zero h]; exact setB_nil
  rw [hz]
  generalize decide (-1073741824 ≤ t.n ∧ t.n ≤ 1073741823) = wb
  generalize symB t.s.data.toList = sb
  generalize (t.s.toList == []) = e
  generalize (t.n == 0) = n0
  generalize ((t.len : Int) == 0) = l0
  generalize setB t.set = st at *
  unfold fB gB
  by_cases hz0 : t.set.length = 0
  · rw [hst hz0, decide_eq_true hz0]
    by_cases h1 : t.op = 1
    · simp [h1]
    · by_cases h2 : t.op = 2
      · simp [h2]
      · by_cases h3 : t.op = 3
        · simp [h3]
        · simp [h1, h2, h3]
  · rw [decide_eq_false hz0]
    by_cases h1 : t.op = 1
    · simp [h1]
    · by_cases h2 : t.op = 2
      · simp only [h2, decide_true, Bool.true_and, Bool.or_false]
        cases decide (0 ≤ t.at_) <;> cases sb <;> cases n0 <;> cases st <;> cases l0 <;> rfl
      · by_cases h3 : t.op = 3
        · simp [h3]
        · simp [h1, h2, h3]

def foldX (g : X → Nat → Option Nat) (kid : Nat → X) (left : Nat) : Nat → Option Nat
  | 0 => some left
  | k + 1 => (foldX g kid left k).bind (g (kid k))
theorem foldX_none {g : X → Nat → Option Nat} {kid : Nat → X} {left k n : Nat} (h : foldX g kid left k = none) (hk : k ≤ n) : foldX g kid left n = none := by
  induction n with
  | zero => obtain rfl : k = 0 := by omega
            exact h
  | succ n ih =>
    rcases Nat.lt_or_ge n k with h1 | h1
    · obtain rfl : k = n + 1 := by omega
      exact h
    · simp [foldX, ih h1]
/-- How many may come behind a list, if it is right and no deeper than nest. -/
def lookX : Nat → Nat → Nat → (Nat → X) → Option Nat
  | 0, left, len, _ => if len = 0 then some left else none
  | nest + 1, left, len, kid => if left < len then none else foldX (fun d l => if fieldsXB d = true then lookX nest l d.len d.kid else none) kid (left - len) len

theorem setsB_node (t : X) : t.setsB = (allX (fun i => (t.kid i).setsB) t.len && nodeB t) := by
  cases t with
  | no => rfl
  | mk op a n s set len kid => rfl

theorem lookX_eq (nest : Nat) : ∀ left len kid, lookX nest left len kid = if allX (fun i => (kid i).setsB) len = true then look nest left len (fun i => datX (kid i)) else none := by
  induction nest with
  | zero =>
    intro left len kid
    unfold lookX look
    by_cases h : len = 0
    · subst h; simp [allX]
    · rw [if_neg h]; simp
  | succ nest ih =>
    intro left len kid
    have hone : ∀ (d : X) (l : Nat), (if fieldsXB d = true then lookX nest l d.len d.kid else none) = if d.setsB = true then (if fieldsB (datX d) = true then look nest l (datX d).len (datX d).kid else none) else none := by
      intro d l
      have hk : (datX d).kid = fun i => datX (d.kid i) := by funext i; exact datX_kid d i
      rw [ih, setsB_node d, (datX_parts d).2.2.2.2, hk]
      unfold fieldsXB
      cases fieldsB (datX d) <;> cases nodeB d <;> cases allX (fun i => (d.kid i).setsB) d.len <;> simp
    have hf : ∀ k, foldX (fun d l => if fieldsXB d = true then lookX nest l d.len d.kid else none) kid (left - len) k = if allX (fun i => (kid i).setsB) k = true then foldTo (fun d l => if fieldsB d = true then look nest l d.len d.kid else none) (fun i => datX (kid i)) (left - len) k else none := by
      intro k
      induction k with
      | zero => simp [foldX, foldTo, allX]
      | succ k ihk =>
        unfold foldX foldTo
        rw [ihk, show allX (fun i => (kid i).setsB) (k + 1) = (allX (fun i => (kid i).setsB) k && (kid k).setsB) from rfl]
        by_cases ha : allX (fun i => (kid i).setsB) k = true
        · rw [if_pos ha, ha, Bool.true_and]
          generalize foldTo (fun d l => if fieldsB d = true then look nest l d.len d.kid else none) (fun i => datX (kid i)) (left - len) k = o
          cases o with
          | none => simp
          | some l => exact hone (kid k) l
        · have hb : allX (fun i => (kid i).setsB) k = false := by simpa using ha
          rw [if_neg ha, hb]
          simp
    unfold lookX look
    by_cases h : left < len
    · rw [if_pos h, if_pos h]; simp
    · rw [if_neg h, if_neg h]
      exact hf len

/-- All is right. -/
def stxOkB (t : X) : Bool := t.setsB && datsB 1 (fun _ => datX t)
theorem stxOk_look (t : X) : stxOkB t = (lookX 20 1500 1 (fun _ => t)).isSome := by
  unfold stxOkB
  rw [lookX_eq, look_datsB]
  simp only [allX, Bool.true_and]
  cases t.setsB <;> simp
end Go.Proofs.YtgbfflpdpfgnbaaGreat

/- spec.l5Sets and spec.StxOk. Condition: at most 2^20 of it. -/
namespace Go.Proofs.YtgbfflpdpfgnbaaGreat
open Go.ChangeShapes Go.WideShapes Go.ChangeAt Go.RowKit

theorem one_slice {W : World} {g : Nat} {t : D} {v : Value} (h : Five W g t.op t.at_ t.n t.s v 26) (hin : t.In W v) : Sl W 1 (fun _ => t) (.slice (some ⟨g, 0, none⟩) 1 1) := by
  refine .inr ⟨g, 0, 1, fun _ => v, rfl, Nat.zero_le _, Nat.le_refl _, by unfold maxLen; omega, fun i hi => ⟨?_, hin⟩⟩
  obtain rfl : i = 0 := by omega
  obtain ⟨h0, h1, h2, h3, h4⟩ := h.cells
  exact ⟨h0, h1, h2, h3, h4⟩

def SetsAt (t : X) : Prop := ∀ (w : World) (sv v : Value), t.At 0 w sv v → t.weight ≤ 1048576 → Calls Tryz.prog 47 #[.agg #[.int .i64 t.op, .int .i64 t.at_, .int .i64 t.n, .string t.s, sv, v]] w fun e w' => e = .returned (.bool t.setsB) ∧ Below w.heap.size w w'

set_option maxRecDepth 100000 in
set_option maxHeartbeats 4000000 in
theorem spec_sets (t : X) : SetsAt t := by
  induction t with
  | no => intro w sv v h; exact h.elim
  | mk op a n s set len kid ih =>
    intro w sv v hin hwt
    have hsl : XsAt 0 w len kid v := hin.xs
    have hss : SetB 0 w sv set := hin.sets
    obtain ⟨p, cap, rfl, -, hat⟩ := hsl.at
    obtain ⟨ps, cps, hsv⟩ := hss.shape
    subst hsv
    have hwe : (X.mk op a n s set len kid).weight = s.size + (set.length + (len + sumX (fun i => (kid i).weight) len)) := rfl
    have hlen : len ≤ 1048576 := by omega
    have IH : Hid (∀ i, i < len → ∀ (w : World) (sv v : Value), (kid i).At 0 w sv v → Calls Tryz.prog 47 #[.agg #[.int .i64 (kid i).op, .int .i64 (kid i).at_, .int .i64 (kid i).n, .string (kid i).s, sv, v]] w fun e w' => e = .returned (.bool (kid i).setsB) ∧ Below w.heap.size w w') := fun i hi w sv v h => ih i w sv v h (by
        have h1 := sumX_at (fun i => (kid i).weight) i len hi
        omega)
    have HAT : Hid (∀ i, i < len → ∃ b o su u, p = some ⟨b, o, none⟩ ∧ Head6 w b (o + i * 6) (kid i) su u ∧ (kid i).At 0 w su u) := hat
    have HSO : Hid (∀ w1, Below w.heap.size w w1 → Calls Tryz.prog 69 #[.slice ps set.length cps] w1 fun e w' => e = .returned (.bool (setB set)) ∧ Below w1.heap.size w1 w') := fun w1 hb => spec_setok set _ w1 (hss.rd.below hb) (by omega)
    obtain ⟨RR, hRR⟩ : ∃ RR, RR = (X.mk op a n s set len kid).setsB := ⟨_, rfl⟩
    have HRR : Hid (RR = (allX (fun i => (kid i).setsB) len && ((decide (op = 2) && setB set) || decide (set.length = 0)))) := hRR
    rw [← hRR]
    simp only [X.op, X.at_, X.n, X.s]
    have HA0 : Hid (Six (w.alloc (.cells #[.int .i64 op, .int .i64 a, .int .i64 n, .string s, .slice ps set.length cps, .slice p len cap] 32)) w.heap.size op a n s (.slice ps set.length cps) (.slice p len cap) 32 ∧ Below w.heap.size w (w.alloc (.cells #[.int .i64 op, .int .i64 a, .int .i64 n, .string s, .slice ps set.length cps, .slice p len cap] 32))) := ⟨heap_alloc_new w _, newx w _⟩
    clear hin hsl ih hat hwe hwt hss hRR
    go_enter Tryz.func47, Tryz.ntmps47
    go_wp2_with fail
    go_loopw [3] (fun v3 wr => ∃ k : Nat, v3 = .int .i64 k ∧ k ≤ len ∧ allX (fun i => (kid i).setsB) k = true ∧ Six wr w.heap.size op a n s (.slice ps set.length cps) (.slice p len cap) 32 ∧ Below w.heap.size w wr) (fun v3 _ => len - (intOf v3).toNat)
    case atStart => exact ⟨0, rfl, Nat.zero_le _, rfl, HA0.out.1, HA0.out.2⟩
    case round =>
      obtain ⟨k, rfl, hk, hall, h6, hbel⟩ := hrel
      have HALL : Hid (allX (fun i => (kid i).setsB) k = true) := hall
      have H6 : Hid (Six wr w.heap.size op a n s (.slice ps set.length cps) (.slice p len cap) 32 ∧ Below w.heap.size w wr) := ⟨h6, hbel⟩
      obtain ⟨q0, q1, q2, q3, q4, q5⟩ := h6.cells
      clear hall h6 hbel HA0
      by_cases hkl : (k : Int) < len
      · obtain ⟨b, o, ux, u, hp, hd, hinu⟩ := HAT.out k (by omega)
        subst hp
        obtain ⟨c0, c1, c2, c3, c4, c5⟩ := hd.below H6.out.2
        have HIN : Hid ((kid k).At 0 wr ux u) := X.At.below H6.out.2 hinu
        have hkl' : k < len := by omega
        clear hd hinu
        go_wp2_with fail
        refine (IH.out k hkl' wr ux u HIN.out).mono ?_
        rintro e w1 ⟨rfl, hb1⟩
        have H7 : Hid (Six w1 w.heap.size op a n s (.slice ps set.length cps) (.slice (some ⟨b, o, none⟩) len cap) 32 ∧ Below w.heap.size w w1) := ⟨H6.out.1.below hb1, H6.out.2.trans (hb1.mono H6.out.2.size)⟩
        clear hb1 q0 q1 q2 q3 q4 q5 c0 c1 c2 c3 c4 c5
        cases hsb : (kid k).setsB with
        | true =>
          have HN : Hid (allX (fun i => (kid i).setsB) (k + 1) = true) := by
            show (allX (fun i => (kid i).setsB) k && (kid k).setsB) = true
            rw [HALL.out, hsb]; rfl
          clear hsb
          go_wp2_with fail
          go_roundw
          case rel => exact ⟨k + 1, by go_num, by omega, HN.out, H7.out.1, H7.out.2⟩
          case measure => simp [intOf]; omega
        | false =>
          have HN : Hid (RR = false) := by
            show RR = false
            rw [HRR.out, allX_false hkl' hsb]; rfl
          clear hsb
          go_wp2_with fail
          go_ret
          exact ⟨by rw [HN.out]; rfl, H7.out.2⟩
      · obtain rfl : k = len := by omega
        have HR2 : Hid (RR = ((decide (op = 2) && setB set) || decide (set.length = 0))) := by
          show RR = _
          rw [HRR.out, HALL.out, Bool.true_and]
        by_cases h2 : op = 2
        · subst h2
          go_wp2_with fail
          refine (HSO.out _ H6.out.2).mono ?_
          rintro e w1 ⟨rfl, hb1⟩
          have H7 : Hid (Below w.heap.size w w1) := H6.out.2.trans (hb1.mono H6.out.2.size)
          have h7 := H6.out.1.below hb1
          clear hb1 q0 q1 q2 q3 q4 q5
          obtain ⟨q0, q1, q2, q3, q4, q5⟩ := h7.cells
          clear h7
          cases hst : setB set with
          | true =>
            have HN : Hid (RR = true) := by show RR = true; rw [HR2.out, hst]; rfl
            go_wp2_with fail
            go_ret
            exact ⟨by rw [HN.out]; rfl, H7.out⟩
          | false =>
            by_cases hz : ((set.length : Int) == 0) = true
            · have HN : Hid (RR = true) := by
                have : set.length = 0 := by simpa using hz
                show RR = true; rw [HR2.out, hst, decide_eq_true this]; rfl
              go_wp2_with fail
              go_ret
              exact ⟨by rw [HN.out]; rfl, H7.out⟩
            · have hz' : ((set.length : Int) == 0) = false := by simpa using hz
              have HN : Hid (RR = false) := by
                have : ¬ set.length = 0 := by intro h; rw [h] at hz'; simp at hz'
                show RR = false; rw [HR2.out, hst, decide_eq_false this]; rfl
              go_wp2_with fail
              go_ret
              exact ⟨by rw [HN.out]; rfl, H7.out⟩
        · have d2 : (op == 2) = false := by simpa using h2
          by_cases hz : ((set.length : Int) == 0) = true
          · have HN : Hid (RR = true) := by
              have : set.length = 0 := by simpa using hz
              show RR = true; rw [HR2.out, decide_eq_true this, Bool.or_true]
            clear h2
            go_wp2_with fail
            go_ret
            exact ⟨by rw [HN.out]; rfl, H6.out.2⟩
          · have hz' : ((set.length : Int) == 0) = false := by simpa using hz
            have HN : Hid (RR = false) := by
              have : ¬ set.length = 0 := by intro h; rw [h] at hz'; simp at hz'
              show RR = false; rw [HR2.out, decide_eq_false h2, decide_eq_false this]; rfl
            clear h2
            go_wp2_with fail
            go_ret
            exact ⟨by rw [HN.out]; rfl, H6.out.2⟩

set_option maxRecDepth 100000 in
set_option maxHeartbeats 2000000 in
theorem spec_stx_ok (t : X) (w : World) (sv v : Value) (hin : t.At 0 w sv v) (hwt : t.weight ≤ 1048576) :
    Calls Tryz.prog 19 #[.agg #[.int .i64 t.op, .int .i64 t.at_, .int .i64 t.n, .string t.s, sv, v]] w fun e w' => e = .returned (.bool (stxOkB t)) ∧ Below w.heap.size w w' := by
  obtain ⟨p, cap, hv⟩ := hin.xs.shape
  obtain ⟨ps, cps, hsv⟩ := hin.sets.shape
  subst hv hsv
  have HIN : Hid (∀ w1, Below w.heap.size w w1 → t.At 0 w1 (.slice ps t.set.length cps) (.slice p t.len cap)) := fun w1 hb => X.At.below hb hin
  have HWT : Hid (t.weight ≤ 1048576) := hwt
  have HB0 : Hid (∀ o, Below w.heap.size w (w.alloc o)) := fun o => newx w o
  have hcn : (datX t).count ≤ 1099511627776 := by rw [datX_count]; have := t.count_weight; omega
  have HCN : Hid (sumTo (fun i => ((fun _ => datX t) i).count) 1 ≤ 1099511627776) := by show sumTo (fun _ => (datX t).count) 1 ≤ _; simp only [sumTo]; omega
  obtain ⟨RR, hRR⟩ : ∃ RR, RR = stxOkB t := ⟨_, rfl⟩
  have HRR : Hid (RR = (t.setsB && datsB 1 (fun _ => datX t))) := hRR
  rw [← hRR]
  clear hin hwt hRR hcn
  go_enter Tryz.func19, Tryz.ntmps19
  go_wp2_with fail
  refine (spec_sets t _ _ _ (HIN.out _ (HB0.out _)) HWT.out).mono ?_
  rintro e w1 ⟨rfl, hb1⟩
  have h6 : Six w1 w.heap.size t.op t.at_ t.n t.s (.slice ps t.set.length cps) (.slice p t.len cap) 32 := (hb1.block _ (by simp)).trans (heap_alloc_new w _)
  have HB1 : Hid (Below w.heap.size w w1) := (HB0.out _).trans (hb1.mono (by simp))
  obtain ⟨q0, q1, q2, q3, q4, q5⟩ := h6.cells
  clear hb1 h6
  cases hsb : t.setsB with
  | false =>
    have HN : Hid (RR = false) := by show RR = false; rw [HRR.out, hsb]; rfl
    go_wp2_with fail
    go_ret
    exact ⟨by rw [HN.out]; rfl, HB1.out⟩
  | true =>
    have HN : Hid (RR = datsB 1 (fun _ => datX t)) := by show RR = _; rw [HRR.out, hsb]; rfl
    go_wp2_with fail
    refine (spec_dat_of t w1 _ _ (HIN.out _ HB1.out) HWT.out).mono ?_
    rintro e w2 ⟨u, S, rfl, hb2, ho2, -, -⟩
    obtain ⟨pu, cu, hu⟩ := ho2.sown.sl.shape
    subst hu
    have hf := datX_parts t
    have hnb := newx w2 (.cells #[.int .i64 t.op, .int .i64 t.at_, .int .i64 t.n, .string t.s, .slice pu (datX t).len cu] 26)
    have HB2 : Hid (Below w.heap.size w (w2.alloc (.cells #[.int .i64 t.op, .int .i64 t.at_, .int .i64 t.n, .string t.s, .slice pu (datX t).len cu] 26))) := (HB1.out.trans (hb2.mono HB1.out.size)).trans (hnb.mono (by have := HB1.out.size; have := hb2.size; omega))
    have hrow : Five (w2.alloc (.cells #[.int .i64 t.op, .int .i64 t.at_, .int .i64 t.n, .string t.s, .slice pu (datX t).len cu] 26)) w2.heap.size (datX t).op (datX t).at_ (datX t).n (datX t).s (.slice pu (datX t).len cu) 26 := by
      rw [hf.1, hf.2.1, hf.2.2.1, hf.2.2.2.1]; exact heap_alloc_new w2 _
    have HSL : Hid (Sl (w2.alloc (.cells #[.int .i64 t.op, .int .i64 t.at_, .int .i64 t.n, .string t.s, .slice pu (datX t).len cu] 26)) 1 (fun _ => datX t) (.slice (some ⟨w2.heap.size, 0, none⟩) 1 1)) := one_slice hrow ((ho2.in' _).below hnb)
    clear hb2 ho2 hnb hrow hf q0 q1 q2 q3 q4 q5
    go_wp2_with fail
    refine (spec_dats 1 (fun _ => datX t) _ _ HSL.out HCN.out).mono ?_
    rintro e w3 ⟨rfl, hb3⟩
    have HB3 : Hid (Below w.heap.size w w3) := HB2.out.trans (hb3.mono HB2.out.size)
    clear hb3
    rw [← HN.out]
    go_wp2_with fail
    go_ret
    exact ⟨rfl, HB3.out⟩
end Go.Proofs.YtgbfflpdpfgnbaaGreat

/- What is written that is being made, row by row. No conditions. -/
namespace Go.Proofs.YtgbfflpdpfgnbaaGreat
open Go.ChangeShapes Go.WideShapes Go.ChangeAt Go.RowKit

/-- The first rows of one that is being filled. -/
def RowsX (kid : Nat → X) (l : List XR) (w : World) (S : List Nat) : Prop :=
  ∃ SS : List (List Nat), SS.length = l.length ∧ S = SS.flatten ∧ ∀ i, i < l.length → ∃ su u T, l[i]? = some (kid i, su, u) ∧ SS[i]? = some T ∧ XOwn w (kid i) su u T

theorem RowsX.nil (kid : Nat → X) (w : World) : RowsX kid [] w [] := ⟨[], rfl, rfl, fun i hi => by simp at hi⟩
theorem RowsX.snoc {kid : Nat → X} {l : List XR} {w : World} {S : List Nat} (h : RowsX kid l w S) {su u : Value} {T : List Nat} (hv : XOwn w (kid l.length) su u T) : RowsX kid (l ++ [(kid l.length, su, u)]) w (S ++ T) := by
  obtain ⟨SS, hl, rfl, he⟩ := h
  refine ⟨SS ++ [T], by simp [hl], by simp, fun i hi => ?_⟩
  rcases Nat.lt_or_ge i l.length with h1 | h1
  · obtain ⟨su', u', T', k1, k2, k3⟩ := he i h1
    exact ⟨su', u', T', by rw [List.getElem?_append_left h1]; exact k1, by rw [List.getElem?_append_left (by rw [hl]; exact h1)]; exact k2, k3⟩
  · have hi' : i = l.length := by simp at hi; omega
    subst hi'
    exact ⟨su, u, T, by simp, by rw [← hl]; simp, hv⟩
theorem RowsX.own {kid : Nat → X} {l : List XR} {w : World} {S : List Nat} {g n cap : Nat} (h : RowsX kid l w S) (hk : XKs kid l) (hl : l.length = n) (hown : w.ownsRow 0 32 6 (.slice (some ⟨g, 0, none⟩) n cap) n (xrows l)) : XsOwn w n kid (.slice (some ⟨g, 0, none⟩) n cap) (g :: S) := by
  obtain ⟨SS, h1, rfl, he⟩ := h
  exact .inr ⟨g, cap, l, SS, rfl, hown, hl, by omega, hk, rfl, fun i hi => he i (by omega)⟩

/-- The target's rows that are to be filled. -/
abbrev WandX (w : World) (R : List Nat) (es : List (Ent X)) (P : World → List Nat → Prop) : Prop := Wand XsOwn w R es P

theorem WandX.leaf {w : World} {R : List Nat} {es : List (Ent X)} {kid : Nat → X} {l : List XR} {sv : Value} (h : WandX w R es (RowsX kid l)) (hne : kid l.length ≠ .no) (hpl : (kid l.length).s.size ≤ maxLen ∧ (-9223372036854775808 ≤ (kid l.length).n ∧ (kid l.length).n ≤ 9223372036854775807) ∧ (kid l.length).set.length ≤ maxLen)
    (hs : Own w 0 sv (kid l.length).set) (h0 : (kid l.length).len = 0) : WandX w (R ++ sv.ownBlock.toList) (es ++ []) (RowsX kid (l ++ [(kid l.length, sv, .slice none 0 0)])) := by
  refine Wand.more h (fun w' S SS hx hP hF => ?_)
  cases SS with
  | cons x xs => exact hF.elim
  | nil =>
    have hs' : Own w' 0 sv (kid l.length).set := hs.sameX (fun g hg => hx g (mem_own hg))
    refine hP.snoc ?_
    generalize kid l.length = t at *
    cases t with
    | no => exact absurd rfl hne
    | mk op a n s set len kd => exact XOwn.mk' hpl hs' (.inl ⟨h0, rfl, rfl⟩)
theorem WandX.node {w : World} {R : List Nat} {es : List (Ent X)} {kid : Nat → X} {l : List XR} {sv v : Value} (h : WandX w R es (RowsX kid l)) (hne : kid l.length ≠ .no) (hpl : (kid l.length).s.size ≤ maxLen ∧ (-9223372036854775808 ≤ (kid l.length).n ∧ (kid l.length).n ≤ 9223372036854775807) ∧ (kid l.length).set.length ≤ maxLen)
    (hs : Own w 0 sv (kid l.length).set) : WandX w (R ++ sv.ownBlock.toList) (es ++ [⟨(kid l.length).len, (kid l.length).kid, v⟩]) (RowsX kid (l ++ [(kid l.length, sv, v)])) := by
  refine Wand.more h (fun w' S SS hx hP hF => ?_)
  cases SS with
  | nil => exact hF.elim
  | cons T TS => cases TS with
    | cons y ys => exact hF.2.elim
    | nil =>
      have hs' : Own w' 0 sv (kid l.length).set := hs.sameX (fun g hg => hx g (mem_own hg))
      have hT := hF.1
      refine hP.snoc ?_
      simp only [List.flatten_cons, List.flatten_nil, List.append_nil]
      generalize kid l.length = t at *
      cases t with
      | no => exact absurd rfl hne
      | mk op a n s set len kd => exact XOwn.mk' hpl hs' hT
theorem WandX.filled {w : World} {R Ri : List Nat} {es en : List (Ent X)} {n g cap : Nat} {kid : Nat → X} {l : List XR} {P : World → List Nat → Prop} (h : WandX w R (es ++ [⟨n, kid, .slice (some ⟨g, 0, none⟩) n cap⟩]) P) (hi : WandX w Ri en (RowsX kid l)) (hk : XKs kid l) (hl : l.length = n) (hown : w.ownsRow 0 32 6 (.slice (some ⟨g, 0, none⟩) n cap) n (xrows l)) :
    WandX w (R ++ g :: Ri) (es ++ en) P :=
  Wand.next h hi (fun w' S hg hP => hP.own hk hl (own_sameX hown (fun x hx => by simp only [Value.ownBlock, Option.some.injEq] at hx; subst hx; exact hg)))

/-- A row of one. -/
theorem row_oneX {W : World} {f : X} {g : Nat} {S : List Nat} (h : XsOwn W 1 (fun _ => f) (.slice (some ⟨g, 0, none⟩) 1 1) S) (hn : S.Nodup) :
    ∃ su u T, (W.cell? ⟨g, 0, none⟩ = some (.int .i64 f.op) ∧ W.cell? ⟨g, 1, none⟩ = some (.int .i64 f.at_) ∧ W.cell? ⟨g, 2, none⟩ = some (.int .i64 f.n) ∧ W.cell? ⟨g, 3, none⟩ = some (.string f.s) ∧ W.cell? ⟨g, 4, none⟩ = some su ∧ W.cell? ⟨g, 5, none⟩ = some u) ∧ XOwn W f su u T ∧ T.Nodup ∧ ∀ x ∈ T, x ∈ S := by
  rcases h with ⟨h0, _⟩ | ⟨g', cap', l, SS, he, hown, hl, hSl, hks, hSe, heach⟩
  · cases h0
  injection he with h1 _ h2
  injection h1 with h1
  injection h1 with h1
  subst h1 h2
  obtain ⟨su, u, T, k1, k2, k3⟩ := heach 0 (by omega)
  have hl1 : l = [(f, su, u)] := by
    match l, hl, k1 with
    | [q], _, k1 => simp at k1; rw [k1]
  subst hl1
  have hc : ∀ j, j < 6 → W.cell? ⟨g, j, none⟩ = (xcells (f, su, u))[j]? := by
    intro j hj
    have := hown.cellAt j (by omega)
    rw [this]
    simp [xrows]
  have hT : ∀ x ∈ T, x ∈ S := fun x hx => by rw [hSe]; exact List.mem_cons_of_mem _ (mem_flatX k2 hx)
  refine ⟨su, u, T, ⟨hc 0 (by omega), hc 1 (by omega), hc 2 (by omega), hc 3 (by omega), hc 4 (by omega), hc 5 (by omega)⟩, k3, ?_, hT⟩
  have hSS : SS = [T] := by
    match SS, hSl, k2 with
    | [q], _, k2 => simp at k2; rw [k2]
  rw [hSe, hSS] at hn
  simp at hn
  exact hn.2
end Go.Proofs.YtgbfflpdpfgnbaaGreat
