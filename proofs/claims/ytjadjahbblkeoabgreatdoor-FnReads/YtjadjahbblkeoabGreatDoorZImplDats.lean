/- impl.DatsOk. Condition: at most 2^20 in all. -/
import Derived.Test.YtjadjahbblkeoabGreatDoorZFieldsOk
import Derived.Test.YtjadjahbblkeoabGreatDoorZBase
import Derived.OwnWalk
namespace Go.Proofs.YtjadjahbblkeoabGreatDoor
open Go.ChangeShapes Go.WideShapes Go.ChangeAt Go.RowKit

/-- Block K holds the count. -/
def Cnt (w : World) (K left : Nat) : Prop := w.heap[K]? = some (.cells #[.int .i64 left] 56 (0, 0))
theorem Cnt.below {w w' : World} {K left : Nat} (h : Cnt w K left) (hb : Below w.heap.size w w') : Cnt w' K left := (hb.block _ (Array.getElem?_eq_some_iff.1 h).1).trans h
theorem Cnt.cell {w : World} {K left : Nat} (h : Cnt w K left) : w.cell? ⟨K, 0, none⟩ = some (.int .i64 left) := cell_of_row w K 0 _ _ _ h
theorem Cnt.fr {w : World} {K left : Nat} (h : Cnt w K left) : w.frozen? ⟨K, 0, none⟩ = false := frozen_of_row w K 0 _ _ h
theorem Cnt.lt {w : World} {K left : Nat} (h : Cnt w K left) : K < w.heap.size := (Array.getElem?_eq_some_iff.1 h).1
theorem Cnt.set {w : World} {K left : Nat} (h : Cnt w K left) (l : Nat) : Cnt (w.setCell ⟨K, 0, none⟩ (.int .i64 l)) K l := heap_setCell_same w K 0 _ _ (.int .i64 l) h

/-- What the contract of listOk says. -/
def LookSays (w0 : World) (K nest left len : Nat) (kid : Nat → D) (e : Ending) (w' : World) : Prop :=
  e = .returned (.bool (look nest left len kid).isSome) ∧ Below w0.heap.size w0 w' ∧ ∃ l, l ≤ 1500 ∧ Cnt w' K l ∧ ∀ l', look nest left len kid = some l' → l = l'

def lookOne (nest : Nat) (d : D) (l : Nat) : Option Nat := if fieldsB d = true then look nest l d.len d.kid else none
theorem look_succ (nest left len : Nat) (kid : Nat → D) (h : ¬ left < len) : look (nest + 1) left len kid = foldTo (lookOne nest) kid (left - len) len := by
  show (if left < len then none else _) = _
  rw [if_neg h]; rfl

theorem look_empty (nest left : Nat) (kid : Nat → D) : look nest left 0 kid = some left := by
  cases nest with
  | zero => rfl
  | succ n => rw [look_succ n left 0 kid (by omega)]; rfl

set_option maxRecDepth 100000 in
set_option maxHeartbeats 4000000 in
theorem list_empty (w0 : World) (K : Nat) (hK : w0.heap.size ≤ K) (nest left : Nat) (kid : Nat → D) (p : Option Addr) (cap : Nat) (w : World) (hbel : Below w0.heap.size w0 w) (hcnt : Cnt w K left) (hleft : left ≤ 1500) :
    Calls Tryz.prog 28 #[.pointer (some ⟨K, 0, none⟩), .slice p 0 cap, .int .i64 nest] w (LookSays w0 K nest left 0 kid) := by
  have k0 := hcnt.cell
  have kf := hcnt.fr
  have HB : Hid (Below w0.heap.size w0 w) := hbel
  have HCN : Hid (Cnt w K left) := hcnt
  have HL : Hid (look nest left 0 kid = some left) := look_empty nest left kid
  clear hbel hcnt
  go_enter Tryz.func28, Tryz.ntmps28
  go_wp2_with fail
  go_loop [36] (fun i => i = .int .i64 0) (fun _ => 0)
  case atStart => rfl
  case round =>
    obtain rfl := hrel
    go_wp2_with fail
    go_ret
    refine ⟨by rw [HL.out]; rfl, ?_, left, hleft, ?_, fun l' h => by rw [HL.out] at h; exact Option.some.inj h⟩
    · exact HB.out.setCell hK _
    · have := HCN.out.set left
      simpa using this

set_option maxRecDepth 100000 in
set_option maxHeartbeats 4000000 in
theorem list_ok (w0 : World) (K : Nat) (hK : w0.heap.size ≤ K) (nest : Nat) : ∀ (left len : Nat) (kid : Nat → D) (v : Value) (w : World), Sl w0 len kid v → Below w0.heap.size w0 w → Cnt w K left → left ≤ 1500 → nest ≤ 20 → kidsWeight len kid ≤ 1048576 →
    Calls Tryz.prog 28 #[.pointer (some ⟨K, 0, none⟩), v, .int .i64 nest] w (LookSays w0 K nest left len kid) := by
  induction nest with
  | zero =>
    intro left len kid v w hv hbel hcnt hleft _ _
    obtain ⟨p, cap, rfl, hlen, -⟩ := hv.at
    by_cases h0 : len = 0
    · subst h0
      exact list_empty w0 K hK 0 left kid p cap w hbel hcnt hleft
    · have k0 := hcnt.cell
      have HB : Hid (Below w0.heap.size w0 w) := hbel
      have HCN : Hid (Cnt w K left) := hcnt
      clear hv hbel hcnt
      unfold maxLen at hlen
      have HL : Hid (look 0 left len kid = none) := by show _ = _; unfold look; rw [if_neg h0]
      have hpos : 0 < len := by omega
      go_enter Tryz.func28, Tryz.ntmps28
      go_wp2_with fail
      go_ret
      exact ⟨by rw [HL.out]; rfl, HB.out, left, hleft, HCN.out, fun l' h => by rw [HL.out] at h; cases h⟩
  | succ nest ih =>
    intro left len kid v w hv hbel hcnt hleft hnest hwt
    obtain ⟨p, cap, rfl, hlen, hat⟩ := hv.at
    by_cases hz : len = 0
    · subst hz
      exact list_empty w0 K hK (nest + 1) left kid p cap w hbel hcnt hleft
    have k0 := hcnt.cell
    have kf := hcnt.fr
    have HB : Hid (Below w0.heap.size w0 w) := hbel
    have HCN : Hid (Cnt w K left) := hcnt
    have HC : Hid (∀ i, i < len → ∃ b o u, p = some ⟨b, o, none⟩ ∧ Head w0 b (o + i * 5) (kid i) u ∧ (kid i).In w0 u) := hat
    have IH : Hid (∀ (left len : Nat) (kid : Nat → D) (v : Value) (w : World), Sl w0 len kid v → Below w0.heap.size w0 w → Cnt w K left → left ≤ 1500 → nest ≤ 20 → kidsWeight len kid ≤ 1048576 →
      Calls Tryz.prog 28 #[.pointer (some ⟨K, 0, none⟩), v, .int .i64 nest] w (LookSays w0 K nest left len kid)) := ih
    have HWT : Hid (∀ i, i < len → (kid i).s.size ≤ 1048576 ∧ kidsWeight (kid i).len (kid i).kid ≤ 1048576) := fun i hi => by
      have h1 := sumTo_at (fun i => (kid i).weight) i len hi
      have h2 := (kid i).weight_eq
      unfold kidsWeight at hwt
      omega
    clear hv hbel hcnt hat ih hwt
    unfold maxLen at hlen
    have hpos : 0 < len := by omega
    have hn0 : (((nest : Int) + 1) == 0) = false := by rw [beq_eq_false_iff_ne]; omega
    by_cases h0 : (left : Int) < len
    · have HL : Hid (look (nest + 1) left len kid = none) := by
        show (if left < len then none else _) = _
        rw [if_pos (by omega)]
      go_enter Tryz.func28, Tryz.ntmps28
      go_wp2_with fail
      go_ret
      exact ⟨by rw [HL.out]; rfl, HB.out, left, hleft, HCN.out, fun l' h => by rw [HL.out] at h; cases h⟩
    · have HL : Hid (look (nest + 1) left len kid = foldTo (lookOne nest) kid (left - len) len) := look_succ nest left len kid (by omega)
      have hx : (left : Int) - len = ((left - len : Nat) : Int) := by omega
      have hx1 : left - len ≤ 1500 := by omega
      have HCS : Hid (Cnt (w.setCell ⟨K, 0, none⟩ (.int .i64 ((left - len : Nat) : Int))) K (left - len)) := HCN.out.set (left - len)
      generalize left - len = lf at *
      go_enter Tryz.func28, Tryz.ntmps28
      go_wp2_with fail
      go_loopw [36] (fun i wr => ∃ k l : Nat, i = .int .i64 k ∧ k ≤ len ∧ foldTo (lookOne nest) kid lf k = some l ∧ l ≤ 1500 ∧ Cnt wr K l ∧ Below w0.heap.size w0 wr) (fun i _ => len - (intOf i).toNat)
      case atStart => exact ⟨0, lf, rfl, Nat.zero_le _, rfl, hx1, HCS.out, HB.out.setCell hK _⟩
      case round =>
        obtain ⟨k, l, rfl, hk, hfold, hl, hcnt, hbel⟩ := hrel
        have HBL : Hid (Below w0.heap.size w0 wr) := hbel
        have HCT : Hid (Cnt wr K l) := hcnt
        have HF : Hid (foldTo (lookOne nest) kid lf k = some l) := hfold
        clear hbel hcnt hfold HCS HCN k0 kf HB
        by_cases hlt : (k : Int) < len
        · have hlt' : k < len := by omega
          obtain ⟨b, o, u, hp, hd, hin⟩ := HC.out k hlt'
          subst hp
          obtain ⟨pu, cu, eu⟩ := hin.sl.shape
          subst eu
          obtain ⟨c0, c1, c2, c3, c4⟩ := hd.below HBL.out
          have HI : Hid (Sl w0 (kid k).len (kid k).kid (.slice pu (kid k).len cu)) := hin.sl
          have HNX : Hid (foldTo (lookOne nest) kid lf (k + 1) = lookOne nest (kid k) l) := by
            show (foldTo (lookOne nest) kid lf k).bind _ = _
            rw [HF.out]; rfl
          clear hd hin
          cases hfb : fieldsB (kid k) with
          | false =>
            have HN : Hid (look (nest + 1) left len kid = none) := HL.out.trans (fold_none (HNX.out.trans (by unfold lookOne; rw [hfb]; rfl)) (by omega))
            have HFB : Hid (fieldsB (kid k) = false) := hfb
            clear hfb
            go_wp2_with fail
            refine (fields_ok (kid k) _ pu cu (HWT.out k hlt').1).mono ?_
            rintro e w1 ⟨rfl, hb1⟩
            rw [HFB.out]
            have hnb := newb wr (.cells #[.int .i64 (kid k).op, .int .i64 (kid k).at_, .int .i64 (kid k).n, .string (kid k).s, .slice pu (kid k).len cu] 30)
            have HC1 : Hid (Cnt w1 K l) := (HCT.out.below hnb).below hb1
            have HB1 : Hid (Below w0.heap.size w0 w1) := (HBL.out.trans (hnb.mono HBL.out.size)).trans (hb1.mono (Nat.le_trans HBL.out.size hnb.size))
            clear hb1 hnb c0 c1 c2 c3 c4
            go_wp2_with fail
            go_ret
            exact ⟨by rw [HN.out]; rfl, HB1.out, l, hl, HC1.out, fun l' h => by rw [HN.out] at h; cases h⟩
          | true =>
            have HFB : Hid (fieldsB (kid k) = true) := hfb
            have HON : Hid (lookOne nest (kid k) l = look nest l (kid k).len (kid k).kid) := by show (if _ then _ else _) = _; rw [if_pos hfb]
            clear hfb
            go_wp2_with fail
            refine (fields_ok (kid k) _ pu cu (HWT.out k hlt').1).mono ?_
            rintro e w1 ⟨rfl, hb1⟩
            rw [HFB.out]
            have hnb := newb wr (.cells #[.int .i64 (kid k).op, .int .i64 (kid k).at_, .int .i64 (kid k).n, .string (kid k).s, .slice pu (kid k).len cu] 30)
            have HC1 : Hid (Cnt w1 K l) := (HCT.out.below hnb).below hb1
            have HB1 : Hid (Below w0.heap.size w0 w1) := (HBL.out.trans (hnb.mono HBL.out.size)).trans (hb1.mono (Nat.le_trans HBL.out.size hnb.size))
            have hbk : w1.heap[wr.heap.size]? = some (.cells #[.int .i64 (kid k).op, .int .i64 (kid k).at_, .int .i64 (kid k).n, .string (kid k).s, .slice pu (kid k).len cu] 30 (0, 0)) := (hb1.block _ (by simp)).trans (heap_alloc_new wr _)
            have k4 : w1.cell? ⟨wr.heap.size, 4, none⟩ = some (.slice pu (kid k).len cu) := cell_of_row w1 _ 4 _ _ _ hbk
            clear hb1 hnb c0 c1 c2 c3 c4 hbk
            go_wp2_with fail
            refine (IH.out l (kid k).len (kid k).kid _ w1 HI.out HB1.out HC1.out hl (by omega) (HWT.out k hlt').2).mono ?_
            rintro e w2 ⟨rfl, hb2, l2, hl2, hc2, hlk⟩
            cases hres : look nest l (kid k).len (kid k).kid with
            | none =>
              have HN : Hid (look (nest + 1) left len kid = none) := HL.out.trans (fold_none (HNX.out.trans (HON.out.trans hres)) (by omega))
              have HB2 : Hid (Below w0.heap.size w0 w2) := hb2
              have HC2 : Hid (Cnt w2 K l2) := hc2
              clear hb2 hc2 hlk hres
              go_wp2_with fail
              go_ret
              exact ⟨by rw [HN.out]; rfl, HB2.out, l2, hl2, HC2.out, fun l' h => by rw [HN.out] at h; cases h⟩
            | some l3 =>
              have hl3 := hlk l3 hres
              subst hl3
              have HN : Hid (foldTo (lookOne nest) kid lf (k + 1) = some l2) := HNX.out.trans (HON.out.trans hres)
              have HB2 : Hid (Below w0.heap.size w0 w2) := hb2
              have HC2 : Hid (Cnt w2 K l2) := hc2
              clear hb2 hc2 hlk hres k4
              go_wp2_with fail
              go_roundw
              case rel => exact ⟨k + 1, l2, by go_num, by omega, HN.out, hl2, HC2.out, HB2.out⟩
              case measure => simp [intOf]; omega
        · have hke : k = len := by omega
          have HN : Hid (look (nest + 1) left len kid = some l) := HL.out.trans (by rw [← hke]; exact HF.out)
          go_wp2_with fail
          go_ret
          exact ⟨by rw [HN.out]; rfl, HBL.out, l, hl, HCT.out, fun l' h => by rw [HN.out] at h; exact Option.some.inj h⟩

set_option maxRecDepth 100000 in
set_option maxHeartbeats 4000000 in
theorem impl_dats (len : Nat) (kid : Nat → D) (w : World) (v : Value) (hv : Sl w len kid v) (hw : kidsWeight len kid ≤ 1048576) :
    Calls Tryz.prog 11 #[v] w fun e w' => e = .returned (.bool (datsB len kid)) ∧ Below w.heap.size w w' := by
  obtain ⟨p, cap, hp⟩ := hv.shape
  have HL : Hid (∀ w1, Below w.heap.size w w1 → Cnt w1 w.heap.size 1500 → Calls Tryz.prog 28 #[.pointer (some ⟨w.heap.size, 0, none⟩), v, .int .i64 20] w1 (LookSays w w.heap.size 20 1500 len kid)) :=
    fun w1 h1 h2 => list_ok w w.heap.size (Nat.le_refl _) 20 1500 len kid v w1 hv h1 h2 (by omega) (by omega) hw
  have HR : Hid (datsB len kid = (look 20 1500 len kid).isSome) := look_datsB len kid
  have HN : Hid (Cnt (w.alloc (.cells #[.int .i64 1500] 56)) w.heap.size 1500) := heap_alloc_new w _
  clear hv hw
  subst hp
  go_enter Tryz.func11, Tryz.ntmps11
  go_wp2_with fail
  refine (HL.out _ (newb w _) HN.out).mono ?_
  rintro e w1 ⟨rfl, hb1, -⟩
  have HB : Hid (Below w.heap.size w w1) := hb1
  clear hb1
  go_wp2_with fail
  go_ret
  exact ⟨by rw [HR.out]; rfl, HB.out⟩
end Go.Proofs.YtjadjahbblkeoabGreatDoor
