/- impl.treeLook.listOk, of cores. Conditions: at most 2^20 in all; that of impl.shapeOf. -/
import Derived.Test.YtefjnhkaampmcaaDoorZFieldsCor
import Derived.Test.YtefjnhkaampmcaaDoorZCorRows
import Derived.Test.YtefjnhkaampmcaaDoorZCorParts
import Derived.Test.YtefjnhkaampmcaaDoorZG14Jobs
import Derived.Test.YtefjnhkaampmcaaDoorZLater
import Derived.Deep.RegionWith
import Derived.Deep.RegionHeld3
import Derived.OwnWalk
import Derived.Deep.Cut
import Derived.Deep.CutRange
namespace Go.Proofs.YtefjnhkaampmcaaDoor
open Go.ChangeShapes Go.WideShapes Go.ChangeAt Go.RowKit

def FiveC (w : World) (g : Nat) (a b : Int) (s t2 : ByteArray) (v : Value) (ty : TypeId) : Prop := w.heap[g]? = some (.cells #[.int .i64 a, .int .i64 b, .string s, .string t2, v] ty (0, 0))
theorem FiveC.lt {w : World} {g : Nat} {a b : Int} {s t2 : ByteArray} {v : Value} {ty : TypeId} (h : FiveC w g a b s t2 v ty) : g < w.heap.size := (Array.getElem?_eq_some_iff.1 h).1
theorem FiveC.below {w w' : World} {g : Nat} {a b : Int} {s t2 : ByteArray} {v : Value} {ty : TypeId} (h : FiveC w g a b s t2 v ty) (hb : Below w.heap.size w w') : FiveC w' g a b s t2 v ty := (hb.block _ h.lt).trans h
theorem FiveC.cells {w : World} {g : Nat} {a b : Int} {s t2 : ByteArray} {v : Value} {ty : TypeId} (h : FiveC w g a b s t2 v ty) :
    w.cell? ⟨g, 0, none⟩ = some (.int .i64 a) ∧ w.cell? ⟨g, 1, none⟩ = some (.int .i64 b) ∧ w.cell? ⟨g, 2, none⟩ = some (.string s) ∧ w.cell? ⟨g, 3, none⟩ = some (.string t2) ∧ w.cell? ⟨g, 4, none⟩ = some v :=
  ⟨cell_of_row w g 0 _ _ _ h, cell_of_row w g 1 _ _ _ h, cell_of_row w g 2 _ _ _ h, cell_of_row w g 3 _ _ _ h, cell_of_row w g 4 _ _ _ h⟩

/-- Block K holds the count. -/
def CntC (w : World) (K left : Nat) : Prop := w.heap[K]? = some (.cells #[.int .i64 left, .func (.func 14) #[] #[], .func (.func 15) #[] #[]] 40 (0, 0))
theorem CntC.below {w w' : World} {K left : Nat} (h : CntC w K left) (hb : Below w.heap.size w w') : CntC w' K left := (hb.block _ (Array.getElem?_eq_some_iff.1 h).1).trans h
theorem CntC.cell {w : World} {K left : Nat} (h : CntC w K left) : w.cell? ⟨K, 0, none⟩ = some (.int .i64 left) := cell_of_row w K 0 _ _ _ h
theorem CntC.fr {w : World} {K left : Nat} (h : CntC w K left) : w.frozen? ⟨K, 0, none⟩ = false := frozen_of_row w K 0 _ _ h
theorem CntC.lt {w : World} {K left : Nat} (h : CntC w K left) : K < w.heap.size := (Array.getElem?_eq_some_iff.1 h).1
theorem CntC.set {w : World} {K left : Nat} (h : CntC w K left) (l : Nat) : CntC (w.setCell ⟨K, 0, none⟩ (.int .i64 l)) K l := heap_setCell_same w K 0 _ _ (.int .i64 l) h

/-- What stays of the world: what was there, and one row of the call's own. -/
structure GdC (w0 : World) (TB : Nat) (oT : Option Obj) (W : World) : Prop where
  bel : Below w0.heap.size w0 W
  top : W.heap[TB]? = oT ∧ (oT.isSome = true → TB < W.heap.size)
theorem GdC.fr {w0 W W' : World} {TB K : Nat} {oT : Option Obj} (h : GdC w0 TB oT W) (ho : oT.isSome = true) (hf : Fr [K] W W') (hK : w0.heap.size ≤ K) (hne : TB ≠ K) : GdC w0 TB oT W' := by
  have hl := h.top.2 ho
  have hs := hf.size
  have hw := h.bel.size
  exact ⟨⟨hf.os.trans h.bel.os, hf.tape.trans h.bel.tape, hf.output.trans h.bel.output, by omega, fun x hx => (hf.block x (by omega) (by simp; omega)).trans (h.bel.block x hx)⟩, (hf.block TB hl (by simpa using hne)).trans h.top.1, fun _ => by omega⟩
/-- Where a list's nodes lie. -/
def SrcC (w0 : World) (TB : Nat) (oT : Option Obj) (len : Nat) (kid : Nat → C) (v : Value) : Prop := ∃ p cap, v = .slice p len cap ∧ len ≤ maxLen ∧ ∀ W, GdC w0 TB oT W → ∀ i, i < len → ∃ b o u, p = some ⟨b, o, none⟩ ∧ HeadC W b (o + i * 5) (kid i) u ∧ (kid i).In w0 u
theorem SrcC.of {w0 : World} {TB : Nat} {oT : Option Obj} {len : Nat} {kid : Nat → C} {v : Value} (h : Cl w0 len kid v) : SrcC w0 TB oT len kid v := by
  obtain ⟨p, cap, e, hl, hat⟩ := h.at
  exact ⟨p, cap, e, hl, fun W hW i hi => by obtain ⟨b, o, u, hp, hd, hin⟩ := hat i hi; exact ⟨b, o, u, hp, hd.below hW.bel, hin⟩⟩

/-- What the contract of listOk says. -/
def LookSaysC (w : World) (K nest left len : Nat) (kid : Nat → C) (e : Ending) (w' : World) : Prop :=
  e = .returned (.bool (lookC nest left len kid).isSome) ∧ Fr [K] w w' ∧ ∃ l, l ≤ 3000 ∧ CntC w' K l ∧ ∀ l', lookC nest left len kid = some l' → l = l'

theorem fr_setC (w : World) (K : Nat) (v : Value) : Fr [K] w (w.setCell ⟨K, 0, none⟩ v) :=
  ⟨rfl, rfl, rfl, by simp, fun x _ hx => Below.heap_setCell w ⟨K, 0, none⟩ v x (by simpa using hx)⟩
theorem look_cellsC {W : World} {K OB l : Nat} {a b : Int} {s t2 : ByteArray} {v : Value} (h : CntC W K l) (h6 : FiveC W OB a b s t2 v 29) :
    W.cell? ⟨K, 1, none⟩ = some (.func (.func 14) #[] #[]) ∧ W.cell? ⟨K, 2, none⟩ = some (.func (.func 15) #[] #[]) ∧ W.cell? ⟨OB, 0, none⟩ = some (.int .i64 a) ∧ W.cell? ⟨OB, 1, none⟩ = some (.int .i64 b) ∧ W.cell? ⟨OB, 2, none⟩ = some (.string s) ∧ W.cell? ⟨OB, 3, none⟩ = some (.string t2) ∧ W.cell? ⟨OB, 4, none⟩ = some v :=
  ⟨cell_of_row W K 1 _ _ _ h, cell_of_row W K 2 _ _ _ h, h6.cells⟩
theorem look_cellsCE {W : World} {K OB : Nat} {Q : Nat → Prop} {a b : Int} {s t2 : ByteArray} {v : Value} (h : ∃ l2, l2 ≤ 3000 ∧ CntC W K l2 ∧ Q l2) (h6 : FiveC W OB a b s t2 v 29) :
    W.cell? ⟨K, 1, none⟩ = some (.func (.func 14) #[] #[]) ∧ W.cell? ⟨K, 2, none⟩ = some (.func (.func 15) #[] #[]) ∧ W.cell? ⟨OB, 0, none⟩ = some (.int .i64 a) ∧ W.cell? ⟨OB, 1, none⟩ = some (.int .i64 b) ∧ W.cell? ⟨OB, 2, none⟩ = some (.string s) ∧ W.cell? ⟨OB, 3, none⟩ = some (.string t2) ∧ W.cell? ⟨OB, 4, none⟩ = some v := by
  obtain ⟨l2, _, hc, _⟩ := h
  exact look_cellsC hc h6
theorem fiveC_fr {W W' : World} {K OB : Nat} {a b : Int} {s t2 : ByteArray} {v : Value} {ty : TypeId} (h : FiveC W OB a b s t2 v ty) (hf : Fr [K] W W') (hne : OB ≠ K) : FiveC W' OB a b s t2 v ty := (hf.block OB h.lt (by simpa using hne)).trans h
def lookOneC (nest : Nat) (d : C) (l : Nat) : Option Nat := if fieldsCB d = true then lookC nest l d.len d.kid else none
theorem lookC_succ (nest left len : Nat) (kid : Nat → C) (h : ¬ left < len) : lookC (nest + 1) left len kid = foldC (lookOneC nest) kid (left - len) len := by
  show (if left < len then none else _) = _
  rw [if_neg h]; rfl

theorem lookC_empty (nest left : Nat) (kid : Nat → C) : lookC nest left 0 kid = some left := by
  cases nest with
  | zero => rfl
  | succ n => rw [lookC_succ n left 0 kid (by omega)]; rfl

set_option maxRecDepth 100000 in
set_option maxHeartbeats 4000000 in
theorem list_emptyC (K : Nat) (nest left : Nat) (kid : Nat → C) (p : Option Addr) (cap : Nat) (w : World) (hcnt : CntC w K left) (hleft : left ≤ 3000) :
    Calls Tryd.prog 16 #[.pointer (some ⟨K, 0, none⟩), .slice p 0 cap, .int .i64 nest] w (LookSaysC w K nest left 0 kid) := by
  have k0 := hcnt.cell
  have kf := hcnt.fr
  have HCN : Hid (CntC w K left) := hcnt
  have HL : Hid (lookC nest left 0 kid = some left) := lookC_empty nest left kid
  clear hcnt
  go_enter Tryd.func16, Tryd.ntmps16
  go_wp2_with fail
  go_loop [36] (fun i => i = .int .i64 0) (fun _ => 0)
  case atStart => rfl
  case round =>
    obtain rfl := hrel
    go_wp2_with fail
    go_ret
    refine ⟨by rw [HL.out]; rfl, ?_, left, hleft, ?_, fun l' h => by rw [HL.out] at h; exact Option.some.inj h⟩
    · exact fr_setC w K _
    · have := HCN.out.set left
      simpa using this

set_option maxRecDepth 100000 in
set_option maxHeartbeats 12000000 in
theorem list_okC (w0 : World) (TB : Nat) (oT : Option Obj) (hoT : oT.isSome = true) (K : Nat) (hK : w0.heap.size ≤ K) (hTK : TB ≠ K) (hST : ShapeTab w0) (nest : Nat) : ∀ (left len : Nat) (kid : Nat → C) (v : Value) (w : World), SrcC w0 TB oT len kid v → GdC w0 TB oT w → CntC w K left → left ≤ 3000 → nest ≤ 150 → kidsWeightC len kid ≤ 1048577 →
    Calls Tryd.prog 16 #[.pointer (some ⟨K, 0, none⟩), v, .int .i64 nest] w (LookSaysC w K nest left len kid) := by
  induction nest with
  | zero =>
    intro left len kid v w hv hbel hcnt hleft _ _
    obtain ⟨p, cap, rfl, hlen, -⟩ := hv
    by_cases h0 : len = 0
    · subst h0
      exact list_emptyC K 0 left kid p cap w hcnt hleft
    · have k0 := hcnt.cell
      have HCN : Hid (CntC w K left) := hcnt
      clear hbel hcnt
      unfold maxLen at hlen
      have HL : Hid (lookC 0 left len kid = none) := by show _ = _; unfold lookC; rw [if_neg h0]
      have hpos : 0 < len := by omega
      go_enter Tryd.func16, Tryd.ntmps16
      go_wp2_with fail
      go_ret
      exact ⟨by rw [HL.out]; rfl, Fr.refl _ _, left, hleft, HCN.out, fun l' h => by rw [HL.out] at h; cases h⟩
  | succ nest ih =>
    intro left len kid v w hv hbel hcnt hleft hnest hwt
    obtain ⟨p, cap, rfl, hlen, hat⟩ := hv
    by_cases hz : len = 0
    · subst hz
      exact list_emptyC K (nest + 1) left kid p cap w hcnt hleft
    have k0 := hcnt.cell
    have kf := hcnt.fr
    have HB : Hid (GdC w0 TB oT w) := hbel
    have HCN : Hid (CntC w K left) := hcnt
    have HC : Hid (∀ W, GdC w0 TB oT W → ∀ i, i < len → ∃ b o u, p = some ⟨b, o, none⟩ ∧ HeadC W b (o + i * 5) (kid i) u ∧ (kid i).In w0 u) := hat
    have HST : Hid (∀ W, GdC w0 TB oT W → ShapeTab W) := fun W h => hST.below h.bel
    have IH : Hid (∀ (left len : Nat) (kid : Nat → C) (v : Value) (w : World), SrcC w0 TB oT len kid v → GdC w0 TB oT w → CntC w K left → left ≤ 3000 → nest ≤ 150 → kidsWeightC len kid ≤ 1048577 →
      Calls Tryd.prog 16 #[.pointer (some ⟨K, 0, none⟩), v, .int .i64 nest] w (LookSaysC w K nest left len kid)) := ih
    have HWT : Hid (∀ i, i < len → kidsWeightC (kid i).len (kid i).kid ≤ 1048576) := fun i hi => by
      have h1 := sumTo_at (fun i => (kid i).weight) i len hi
      have h2 := (kid i).weight_eq
      unfold kidsWeightC at hwt
      omega
    clear hbel hcnt hat ih hwt
    unfold maxLen at hlen
    have hpos : 0 < len := by omega
    have hn0 : (((nest : Int) + 1) == 0) = false := by rw [beq_eq_false_iff_ne]; omega
    by_cases h0 : (left : Int) < len
    · have HL : Hid (lookC (nest + 1) left len kid = none) := by
        show (if left < len then none else _) = _
        rw [if_pos (by omega)]
      go_enter Tryd.func16, Tryd.ntmps16
      go_wp2_with fail
      go_ret
      exact ⟨by rw [HL.out]; rfl, Fr.refl _ _, left, hleft, HCN.out, fun l' h => by rw [HL.out] at h; cases h⟩
    · have HL : Hid (lookC (nest + 1) left len kid = foldC (lookOneC nest) kid (left - len) len) := lookC_succ nest left len kid (by omega)
      have hx : (left : Int) - len = ((left - len : Nat) : Int) := by omega
      have hx1 : left - len ≤ 3000 := by omega
      have HCS : Hid (CntC (w.setCell ⟨K, 0, none⟩ (.int .i64 ((left - len : Nat) : Int))) K (left - len)) := HCN.out.set (left - len)
      generalize left - len = lf at *
      go_enter Tryd.func16, Tryd.ntmps16
      go_wp2_with fail
      go_loopw [36] (fun i wr => ∃ k l : Nat, i = .int .i64 k ∧ k ≤ len ∧ foldC (lookOneC nest) kid lf k = some l ∧ l ≤ 3000 ∧ CntC wr K l ∧ Fr [K] w wr) (fun i _ => len - (intOf i).toNat)
      case atStart => exact ⟨0, lf, rfl, Nat.zero_le _, rfl, hx1, HCS.out, fr_setC w K _⟩
      case round =>
        obtain ⟨k, l, rfl, hk, hfold, hl, hcnt, hbel⟩ := hrel
        have HBL : Hid (Fr [K] w wr ∧ GdC w0 TB oT wr) := ⟨hbel, HB.out.fr hoT hbel hK hTK⟩
        have HCT : Hid (CntC wr K l) := hcnt
        have HF : Hid (foldC (lookOneC nest) kid lf k = some l) := hfold
        clear hbel hcnt hfold HCS HCN k0 kf
        by_cases hlt : (k : Int) < len
        · have hlt' : k < len := by omega
          obtain ⟨b, o, u, hp, hd, hin⟩ := HC.out wr HBL.out.2 k hlt'
          subst hp
          obtain ⟨pu, cu, eu⟩ := hin.sl.shape
          subst eu
          obtain ⟨c0, c1, c2, c3, c4⟩ := hd
          have HI : Hid (SrcC w0 TB oT (kid k).len (kid k).kid (.slice pu (kid k).len cu)) := SrcC.of hin.sl
          have HNX : Hid (foldC (lookOneC nest) kid lf (k + 1) = lookOneC nest (kid k) l) := by
            show (foldC (lookOneC nest) kid lf k).bind _ = _
            rw [HF.out]; rfl
          have hK1 : wr.cell? ⟨K, 1, none⟩ = some (.func (.func 14) #[] #[]) := cell_of_row wr K 1 _ _ _ HCT.out
          have hnb := newb wr (.cells #[.int .i64 (kid k).op, .int .i64 (kid k).n, .string (kid k).s, .string (kid k).t2, .slice pu (kid k).len cu] 29)
          have hCn : CntC (wr.alloc (.cells #[.int .i64 (kid k).op, .int .i64 (kid k).n, .string (kid k).s, .string (kid k).t2, .slice pu (kid k).len cu] 29)) K l := HCT.out.below hnb
          have HBn : Hid (Fr [K] w (wr.alloc (.cells #[.int .i64 (kid k).op, .int .i64 (kid k).n, .string (kid k).s, .string (kid k).t2, .slice pu (kid k).len cu] 29)) ∧ GdC w0 TB oT (wr.alloc (.cells #[.int .i64 (kid k).op, .int .i64 (kid k).n, .string (kid k).s, .string (kid k).t2, .slice pu (kid k).len cu] 29))) := ⟨HBL.out.1.trans (Fr.below hnb _), HBL.out.2.fr hoT (Fr.below hnb _) hK hTK⟩
          have kn0 : (wr.alloc (.cells #[.int .i64 (kid k).op, .int .i64 (kid k).n, .string (kid k).s, .string (kid k).t2, .slice pu (kid k).len cu] 29)).cell? ⟨K, 1, none⟩ = some (.func (.func 14) #[] #[]) := cell_of_row _ K 1 _ _ _ hCn
          have HCn : Hid (CntC (wr.alloc (.cells #[.int .i64 (kid k).op, .int .i64 (kid k).n, .string (kid k).s, .string (kid k).t2, .slice pu (kid k).len cu] 29)) K l) := hCn
          have HKB : Hid (K < wr.heap.size) := HCT.out.lt
          have hKne : K ≠ wr.heap.size := by have := HKB.out; omega
          have HOn : Hid (FiveC (wr.alloc (.cells #[.int .i64 (kid k).op, .int .i64 (kid k).n, .string (kid k).s, .string (kid k).t2, .slice pu (kid k).len cu] 29)) wr.heap.size (kid k).op (kid k).n (kid k).s (kid k).t2 (.slice pu (kid k).len cu) 29) := heap_alloc_new wr _
          clear hin hCn hnb hK1 kn0 hKne HKB
          cases hfb : fieldsCB (kid k) with
          | false =>
            have HN : Hid (lookC (nest + 1) left len kid = none) := HL.out.trans (foldC_none (HNX.out.trans (by unfold lookOneC; rw [hfb]; rfl)) (by omega))
            have HFB : Hid (fieldsCB (kid k) = false) := hfb
            clear hfb
            go_upto_region 7 with fail
            generalize wr.alloc (.cells #[.int .i64 (kid k).op, .int .i64 (kid k).n, .string (kid k).s, .string (kid k).t2, .slice pu (kid k).len cu] 29) = W at *
            clear c0 c1 c2 c3 c4
            generalize wr.heap.size = OB at *
            obtain ⟨q0, q1, q2, q3, q4⟩ := HOn.out.cells
            have hone := Later.one W
            have y0 := fun x : Later W => x.cell q0
            have y1 := fun x : Later W => x.cell q1
            have y2 := fun x : Later W => x.cell q2
            have y3 := fun x : Later W => x.cell q3
            have y4 := fun x : Later W => x.cell q4
            have yk := fun x : Later W => x.cell (cell_of_row W K 1 _ _ _ HCn.out : W.cell? ⟨K, 1, none⟩ = some (.func (.func 14) #[] #[]))
            have HFX : Hid (∀ x : Later W, Calls Tryd.prog 14 #[.agg #[.int .i64 (kid k).op, .int .i64 (kid k).n, .string (kid k).s, .string (kid k).t2, .slice pu (kid k).len cu]] x.w fun e w' => e = .returned (.bool false) ∧ Below x.w.heap.size x.w w') := by
              intro x
              have h := core_fields (kid k) x.w pu cu ((HST.out _ HBn.out.2).below x.le)
              rw [HFB.out] at h
              exact h
            clear q0 q1 q2 q3 q4
            refine wp_region_later (by kernel_rfl) (by kernel_rfl) ?_
            repeat (go_big_quiet_step ((go_at_call 14; refine calls_later (HFX.out _))))
            refine wpQuiet_nil ?_
            rintro _ ⟨x, rfl⟩
            have HX : Hid (Fr [K] w x.w ∧ CntC x.w K l) := ⟨HBn.out.1.trans (Fr.below x.le _), HCn.out.below x.le⟩
            clear y0 y1 y2 y3 y4 yk
            go_wp2_with fail
            go_ret
            exact ⟨by rw [HN.out]; rfl, HX.out.1, l, hl, HX.out.2, fun l' h => by rw [HN.out] at h; cases h⟩
          | true =>
            have HFB : Hid (fieldsCB (kid k) = true) := hfb
            have HON : Hid (lookOneC nest (kid k) l = lookC nest l (kid k).len (kid k).kid) := by show (if _ then _ else _) = _; rw [if_pos hfb]
            clear hfb
            go_upto_region 7 with fail
            generalize wr.alloc (.cells #[.int .i64 (kid k).op, .int .i64 (kid k).n, .string (kid k).s, .string (kid k).t2, .slice pu (kid k).len cu] 29) = W at *
            clear c0 c1 c2 c3 c4
            generalize wr.heap.size = OB at *
            have hS0 := look_cellsC HCn.out HOn.out
            have HFX : Hid (Calls Tryd.prog 14 #[.agg #[.int .i64 (kid k).op, .int .i64 (kid k).n, .string (kid k).s, .string (kid k).t2, .slice pu (kid k).len cu]] W.drew fun e w' => e = .returned (.bool true) ∧ Below W.heap.size W w') := by
              have h := core_fields (kid k) W.drew pu cu ((HST.out _ HBn.out.2).below (Below.refl _ _).drew)
              rw [HFB.out] at h
              exact h.mono (fun _ _ h => ⟨h.1, ⟨h.2.os, h.2.tape, h.2.output, h.2.size, h.2.block⟩⟩)
            generalize hRR : (lookC nest l (kid k).len (kid k).kid).isSome = RR at *
            have HIH : Hid (∀ (w2 : World) (z : Int), z = (nest : Int) → GdC w0 TB oT w2 → CntC w2 K l → Calls Tryd.prog 16 #[.pointer (some ⟨K, 0, none⟩), .slice pu (kid k).len cu, .int .i64 z] w2 fun e w' => e = .returned (.bool RR) ∧ Fr [K] w2 w' ∧ ∃ l2, l2 ≤ 3000 ∧ CntC w' K l2 ∧ ∀ l', lookC nest l (kid k).len (kid k).kid = some l' → l2 = l') := by
              intro w2 z hz h2 h3
              rw [← hRR, hz]
              exact IH.out l (kid k).len (kid k).kid _ w2 HI.out h2 h3 hl (by omega) (by have := HWT.out k hlt'; omega)
            have HRR : Hid ((lookC nest l (kid k).len (kid k).kid).isSome = RR) := hRR
            have HOB : Hid (OB ≠ K) := by show OB ≠ K; intro e; have h1 := HOn.out; rw [e] at h1; have h2 : W.heap[K]? = _ := h1; rw [HCn.out] at h2; injection h2 with h2; injection h2 with _ h2; exact absurd h2 (by decide)
            clear hRR
            go_cut [59] from 40 to 60 (fun z wx => z = .bool (!RR) ∧ Fr [K] w wx ∧ ∃ l2, l2 ≤ 3000 ∧ CntC wx K l2 ∧ ∀ l', lookC nest l (kid k).len (kid k).kid = some l' → l2 = l')
            case first =>
              go_region_held3 (fun w' => w'.cell? ⟨K, 1, none⟩ = some (.func (.func 14) #[] #[]) ∧ w'.cell? ⟨K, 2, none⟩ = some (.func (.func 15) #[] #[]) ∧ w'.cell? ⟨OB, 0, none⟩ = some (.int .i64 (kid k).op) ∧ w'.cell? ⟨OB, 1, none⟩ = some (.int .i64 (kid k).n) ∧ w'.cell? ⟨OB, 2, none⟩ = some (.string (kid k).s) ∧ w'.cell? ⟨OB, 3, none⟩ = some (.string (kid k).t2) ∧ w'.cell? ⟨OB, 4, none⟩ = some (.slice pu (kid k).len cu))
                (first | go_keep | (with_reducible exact hS0) | (with_reducible exact hS1) | (with_reducible exact hS2) | (with_reducible exact hS3)) (first
                | (go_at_call 14; refine HFX.out.mono ?_; rintro e w1 ⟨rfl, hb1⟩; have HC1 : Hid (CntC w1 K l) := HCn.out.below hb1; have HB1 : Hid (Fr [K] w w1 ∧ GdC w0 TB oT w1) := ⟨HBn.out.1.trans (Fr.below hb1 _), HBn.out.2.fr hoT (Fr.below hb1 _) hK hTK⟩; have HO1 : Hid (FiveC w1 OB (kid k).op (kid k).n (kid k).s (kid k).t2 (.slice pu (kid k).len cu) 29) := HOn.out.below hb1; have hS1 := look_cellsC HC1.out HO1.out; clear hb1)
                | (go_at_call 15; refine (core_kids (kid k).op (kid k).n (kid k).s (kid k).t2 (.slice pu (kid k).len cu) _).mono ?_; rintro e w2 ⟨rfl, hb2⟩; have HC2 : Hid (CntC w2 K l) := HC1.out.below hb2; have HB2 : Hid (Fr [K] w w2 ∧ GdC w0 TB oT w2) := ⟨HB1.out.1.trans (Fr.below hb2 _), HB1.out.2.fr hoT (Fr.below hb2 _) hK hTK⟩; have HO2 : Hid (FiveC w2 OB (kid k).op (kid k).n (kid k).s (kid k).t2 (.slice pu (kid k).len cu) 29) := HO1.out.below hb2; have hS2 := look_cellsC HC2.out HO2.out; clear hb2)
                | (go_at_call 16; refine (HIH.out w2 _ ?_ HB2.out.2 HC2.out).mono ?_; (first | omega | (simp [IntKind.wrap_i64]; done) | (simp only [IntKind.wrap_i64]; omega)); rintro e w3 ⟨rfl, hf3, hE⟩; have hS3 := look_cellsCE hE (fiveC_fr HO2.out hf3 HOB.out); have HE : Hid (Fr [K] w w3 ∧ ∃ l2, l2 ≤ 3000 ∧ CntC w3 K l2 ∧ ∀ l', lookC nest l (kid k).len (kid k).kid = some l' → l2 = l') := And.intro (HB2.out.1.trans hf3) hE; clear hf3 hE))
              all_goals
                go_wp2_with fail
                go_meet
                exact ⟨rfl, HE.out.1, HE.out.2⟩
            case rest =>
            obtain ⟨rfl, hb2, l2, hl2, hc2, hlk⟩ := hcut
            cases hres : lookC nest l (kid k).len (kid k).kid with
            | none =>
              have hR0 : RR = false := by rw [← HRR.out, hres]; rfl
              subst hR0
              have HN : Hid (lookC (nest + 1) left len kid = none) := HL.out.trans (foldC_none (HNX.out.trans (HON.out.trans hres)) (by omega))
              have HB2 : Hid (Fr [K] w wc) := hb2
              have HC2 : Hid (CntC wc K l2) := hc2
              clear hb2 hc2 hlk hres
              simp only [Bool.not_false]
              go_wp2_with fail
              go_ret
              exact ⟨by rw [HN.out]; rfl, HB2.out, l2, hl2, HC2.out, fun l' h => by rw [HN.out] at h; cases h⟩
            | some l3 =>
              have hl3 := hlk l3 hres
              subst hl3
              have hR0 : RR = true := by rw [← HRR.out, hres]; rfl
              subst hR0
              have HN : Hid (foldC (lookOneC nest) kid lf (k + 1) = some l2) := HNX.out.trans (HON.out.trans hres)
              have HB2 : Hid (Fr [K] w wc) := hb2
              have HC2 : Hid (CntC wc K l2) := hc2
              clear hb2 hc2 hlk hres
              simp only [Bool.not_true]
              go_wp2_with fail
              go_roundw
              case rel => exact ⟨k + 1, l2, by go_num, by omega, HN.out, hl2, HC2.out, HB2.out⟩
              case measure => simp [intOf]; omega
        · have hke : k = len := by omega
          have HN : Hid (lookC (nest + 1) left len kid = some l) := HL.out.trans (by rw [← hke]; exact HF.out)
          go_wp2_with fail
          go_ret
          exact ⟨by rw [HN.out]; rfl, HBL.out.1, l, hl, HCT.out, fun l' h => by rw [HN.out] at h; exact Option.some.inj h⟩
end Go.Proofs.YtefjnhkaampmcaaDoor
