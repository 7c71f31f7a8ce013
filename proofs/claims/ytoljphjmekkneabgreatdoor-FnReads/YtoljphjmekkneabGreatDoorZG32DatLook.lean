/- A region that draws its order, whose operations only read and whose callees only make new memory: one walk in the text's order. No conditions of our own. -/
import Derived.Test.YtoljphjmekkneabGreatDoorRows
import Derived.Test.YtoljphjmekkneabGreatDoorZG29FieldsOk
import Derived.Test.YtoljphjmekkneabGreatDoorZG1DatOwn
import Derived.Test.YtoljphjmekkneabGreatDoorZG30FiveCells
import Derived.Test.YtoljphjmekkneabGreatDoorZG31Jobs
import Derived.WalkKit
import Derived.ProofKit
import Derived.Below
import Derived.Deep.QuietTactic
import Derived.BigQuiet
import Derived.Deep.RegionWith
import Derived.Deep.RegionHeld3
import Derived.OwnWalk
import Derived.Deep.Cut
import Derived.Deep.CutRange
namespace Go.Proofs.YtoljphjmekkneabGreatDoor
open Go.ChangeShapes Go.WideShapes Go.ChangeAt Go.RowKit

/-- A world that is W but for new memory. -/
structure Later (W : World) where
  w : World
  le : Below W.heap.size W w

theorem Later.one (W : World) : Nonempty (Later W) := ⟨⟨W, Below.refl _ _⟩⟩

theorem Later.cell {W : World} (x : Later W) {a : Addr} {v : Value} (h : W.cell? a = some v) : x.w.cell? a = some v :=
  (x.le.cell (World.block_lt_of_cell? W _ h)).trans h

theorem calls_later {P : Program} {f : FuncId} {args : Array Value} {W : World} {x : Later W} {v : Value}
    (h : Calls P f args x.w fun e w' => e = .returned v ∧ Below x.w.heap.size x.w w') : Calls P f args x.w fun e w' => e = .returned v ∧ ∃ y : Later W, w' = y.w :=
  h.mono fun _ w' ⟨he, hb⟩ => ⟨he, ⟨w', x.le.trans (hb.mono x.le.size)⟩, rfl⟩

theorem calls_later_same {P : Program} {f : FuncId} {args : Array Value} {W : World} {x : Later W} {v : Value}
    (h : Calls P f args x.w fun e w' => e = .returned v ∧ w' = x.w) : Calls P f args x.w fun e w' => e = .returned v ∧ ∃ y : Later W, w' = y.w :=
  h.mono fun _ _ ⟨he, hb⟩ => ⟨he, x, hb⟩

theorem wp_region_later {P : Program} {id : Nat} {Q : Exit → Act → World → Prop} {a : Act} {w : World} {l : List Oper} (hm : P.follows .mixedOrders = true) (hB : Region.lexB .any l.toArray = true)
    (h : wpQuiet P l.toArray (fun w' => ∃ x : Later w, w' = x.w) (fun a' => ∀ w', (∃ x : Later w, w' = x.w) → Q .normal a' w') l a) : (Code.region id l.toArray true).wp P Q a w :=
  wp_region_quiet (C := fun w' => ∃ x : Later w, w' = x.w) hm hB ⟨⟨{ w with drawn := w.drawn + 1 }, ⟨rfl, rfl, rfl, Nat.le_refl _, fun _ _ => rfl⟩⟩, rfl⟩ (by simpa using h)
end Go.Proofs.YtoljphjmekkneabGreatDoor

/- impl.treeLook.listOk, of data. Condition: at most 2^20 in all. -/
namespace Go.Proofs.YtoljphjmekkneabGreatDoor
open Go.ChangeShapes Go.WideShapes Go.ChangeAt Go.RowKit

/-- Block K holds the count. -/
def CntD (w : World) (K left : Nat) : Prop := w.heap[K]? = some (.cells #[.int .i64 left, .func (.func 28) #[] #[], .func (.func 29) #[] #[]] 58 (0, 0))
theorem CntD.below {w w' : World} {K left : Nat} (h : CntD w K left) (hb : Below w.heap.size w w') : CntD w' K left := (hb.block _ (Array.getElem?_eq_some_iff.1 h).1).trans h
theorem CntD.cell {w : World} {K left : Nat} (h : CntD w K left) : w.cell? ⟨K, 0, none⟩ = some (.int .i64 left) := cell_of_row w K 0 _ _ _ h
theorem CntD.fr {w : World} {K left : Nat} (h : CntD w K left) : w.frozen? ⟨K, 0, none⟩ = false := frozen_of_row w K 0 _ _ h
theorem CntD.lt {w : World} {K left : Nat} (h : CntD w K left) : K < w.heap.size := (Array.getElem?_eq_some_iff.1 h).1
theorem CntD.set {w : World} {K left : Nat} (h : CntD w K left) (l : Nat) : CntD (w.setCell ⟨K, 0, none⟩ (.int .i64 l)) K l := heap_setCell_same w K 0 _ _ (.int .i64 l) h

/-- What stays of the world: what was there. -/
def GdD (w0 W : World) : Prop := Below w0.heap.size w0 W
theorem GdD.fr {w0 W W' : World} {K : Nat} (h : GdD w0 W) (hf : Fr [K] W W') (hK : w0.heap.size ≤ K) : GdD w0 W' := by
  have hs := hf.size
  have hw := h.size
  exact ⟨hf.os.trans h.os, hf.tape.trans h.tape, hf.output.trans h.output, by omega, fun x hx => (hf.block x (by omega) (by simp; omega)).trans (h.block x hx)⟩

/-- What the contract of listOk says. -/
def LookSaysD (w : World) (K nest left len : Nat) (kid : Nat → D) (e : Ending) (w' : World) : Prop :=
  e = .returned (.bool (look nest left len kid).isSome) ∧ Fr [K] w w' ∧ ∃ l, l ≤ 1500 ∧ CntD w' K l ∧ ∀ l', look nest left len kid = some l' → l = l'

theorem fr_set (w : World) (K : Nat) (v : Value) : Fr [K] w (w.setCell ⟨K, 0, none⟩ v) :=
  ⟨rfl, rfl, rfl, by simp, fun x _ hx => Below.heap_setCell w ⟨K, 0, none⟩ v x (by simpa using hx)⟩
theorem look_cells {W : World} {K OB l : Nat} {a b c : Int} {s : ByteArray} {v : Value} (h : CntD W K l) (h6 : Five W OB a b c s v 30) :
    W.cell? ⟨K, 1, none⟩ = some (.func (.func 28) #[] #[]) ∧ W.cell? ⟨K, 2, none⟩ = some (.func (.func 29) #[] #[]) ∧ W.cell? ⟨OB, 0, none⟩ = some (.int .i64 a) ∧ W.cell? ⟨OB, 1, none⟩ = some (.int .i64 b) ∧ W.cell? ⟨OB, 2, none⟩ = some (.int .i64 c) ∧ W.cell? ⟨OB, 3, none⟩ = some (.string s) ∧ W.cell? ⟨OB, 4, none⟩ = some v :=
  ⟨cell_of_row W K 1 _ _ _ h, cell_of_row W K 2 _ _ _ h, h6.cells⟩
theorem look_cellsE {W : World} {K OB : Nat} {Q : Nat → Prop} {a b c : Int} {s : ByteArray} {v : Value} (h : ∃ l2, l2 ≤ 1500 ∧ CntD W K l2 ∧ Q l2) (h6 : Five W OB a b c s v 30) :
    W.cell? ⟨K, 1, none⟩ = some (.func (.func 28) #[] #[]) ∧ W.cell? ⟨K, 2, none⟩ = some (.func (.func 29) #[] #[]) ∧ W.cell? ⟨OB, 0, none⟩ = some (.int .i64 a) ∧ W.cell? ⟨OB, 1, none⟩ = some (.int .i64 b) ∧ W.cell? ⟨OB, 2, none⟩ = some (.int .i64 c) ∧ W.cell? ⟨OB, 3, none⟩ = some (.string s) ∧ W.cell? ⟨OB, 4, none⟩ = some v := by
  obtain ⟨l2, _, hc, _⟩ := h
  exact look_cells hc h6
theorem five_fr {W W' : World} {K OB : Nat} {a b c : Int} {s : ByteArray} {v : Value} {ty : TypeId} (h : Five W OB a b c s v ty) (hf : Fr [K] W W') (hne : OB ≠ K) : Five W' OB a b c s v ty := (hf.block OB h.lt (by simpa using hne)).trans h
def lookOneD (nest : Nat) (d : D) (l : Nat) : Option Nat := if fieldsB d = true then look nest l d.len d.kid else none
theorem look_succ (nest left len : Nat) (kid : Nat → D) (h : ¬ left < len) : look (nest + 1) left len kid = foldTo (lookOneD nest) kid (left - len) len := by
  show (if left < len then none else _) = _
  rw [if_neg h]; rfl

theorem look_empty (nest left : Nat) (kid : Nat → D) : look nest left 0 kid = some left := by
  cases nest with
  | zero => rfl
  | succ n => rw [look_succ n left 0 kid (by omega)]; rfl

set_option maxRecDepth 100000 in
set_option maxHeartbeats 4000000 in
theorem list_emptyD (K : Nat) (nest left : Nat) (kid : Nat → D) (p : Option Addr) (cap : Nat) (w : World) (hcnt : CntD w K left) (hleft : left ≤ 1500) :
    Calls Tryz.prog 30 #[.pointer (some ⟨K, 0, none⟩), .slice p 0 cap, .int .i64 nest] w (LookSaysD w K nest left 0 kid) := by
  have k0 := hcnt.cell
  have kf := hcnt.fr
  have HCN : Hid (CntD w K left) := hcnt
  have HL : Hid (look nest left 0 kid = some left) := look_empty nest left kid
  clear hcnt
  go_enter Tryz.func30, Tryz.ntmps30
  go_wp2_with fail
  go_loop [36] (fun i => i = .int .i64 0) (fun _ => 0)
  case atStart => rfl
  case round =>
    obtain rfl := hrel
    go_wp2_with fail
    go_ret
    refine ⟨by rw [HL.out]; rfl, ?_, left, hleft, ?_, fun l' h => by rw [HL.out] at h; exact Option.some.inj h⟩
    · exact fr_set w K _
    · have := HCN.out.set left
      simpa using this

set_option maxRecDepth 100000 in
set_option maxHeartbeats 12000000 in
theorem list_okD (w0 : World) (K : Nat) (hK : w0.heap.size ≤ K) (nest : Nat) : ∀ (left len : Nat) (kid : Nat → D) (v : Value) (w : World), Sl w0 len kid v → GdD w0 w → CntD w K left → left ≤ 1500 → nest ≤ 20 → kidsWeight len kid ≤ 1048576 →
    Calls Tryz.prog 30 #[.pointer (some ⟨K, 0, none⟩), v, .int .i64 nest] w (LookSaysD w K nest left len kid) := by
  induction nest with
  | zero =>
    intro left len kid v w hv hbel hcnt hleft _ _
    obtain ⟨p, cap, rfl, hlen, -⟩ := hv.at
    by_cases h0 : len = 0
    · subst h0
      exact list_emptyD K 0 left kid p cap w hcnt hleft
    · have k0 := hcnt.cell
      have HCN : Hid (CntD w K left) := hcnt
      clear hv hbel hcnt
      unfold maxLen at hlen
      have HL : Hid (look 0 left len kid = none) := by show _ = _; unfold look; rw [if_neg h0]
      have hpos : 0 < len := by omega
      go_enter Tryz.func30, Tryz.ntmps30
      go_wp2_with fail
      go_ret
      exact ⟨by rw [HL.out]; rfl, Fr.refl _ _, left, hleft, HCN.out, fun l' h => by rw [HL.out] at h; cases h⟩
  | succ nest ih =>
    intro left len kid v w hv hbel hcnt hleft hnest hwt
    obtain ⟨p, cap, rfl, hlen, hat⟩ := hv.at
    by_cases hz : len = 0
    · subst hz
      exact list_emptyD K (nest + 1) left kid p cap w hcnt hleft
    have k0 := hcnt.cell
    have kf := hcnt.fr
    have HB : Hid (GdD w0 w) := hbel
    have HCN : Hid (CntD w K left) := hcnt
    have HC : Hid (∀ i, i < len → ∃ b o u, p = some ⟨b, o, none⟩ ∧ Head w0 b (o + i * 5) (kid i) u ∧ (kid i).In w0 u) := hat
    have IH : Hid (∀ (left len : Nat) (kid : Nat → D) (v : Value) (w : World), Sl w0 len kid v → GdD w0 w → CntD w K left → left ≤ 1500 → nest ≤ 20 → kidsWeight len kid ≤ 1048576 →
      Calls Tryz.prog 30 #[.pointer (some ⟨K, 0, none⟩), v, .int .i64 nest] w (LookSaysD w K nest left len kid)) := ih
    have HWT : Hid (∀ i, i < len → (kid i).s.size ≤ 1048576 ∧ kidsWeight (kid i).len (kid i).kid ≤ 1048576) := fun i hi => by
      have h1 := sumTo_at (fun i => (kid i).weight) i len hi
      have h2 := (kid i).weight_eq
      unfold kidsWeight at hwt
      omega
    clear hv hbel hcnt hat ih hwt
    unfold maxLen at hlen
    have hpos : 0 < len := by omega
    have hn0 : (((nest : Int) + 1) == 0) = false := by rw [beq_eq_false_iff_ne]; omega
    by_cases h0 : (left : Int) < len
    · have HL : Hid (look (nest + 1) left len kid = none) := by
        show (if left < len then none else _) = _
        rw [if_pos (by omega)]
      go_enter Tryz.func30, Tryz.ntmps30
      go_wp2_with fail
      go_ret
      exact ⟨by rw [HL.out]; rfl, Fr.refl _ _, left, hleft, HCN.out, fun l' h => by rw [HL.out] at h; cases h⟩
    · have HL : Hid (look (nest + 1) left len kid = foldTo (lookOneD nest) kid (left - len) len) := look_succ nest left len kid (by omega)
      have hx : (left : Int) - len = ((left - len : Nat) : Int) := by omega
      have hx1 : left - len ≤ 1500 := by omega
      have HCS : Hid (CntD (w.setCell ⟨K, 0, none⟩ (.int .i64 ((left - len : Nat) : Int))) K (left - len)) := HCN.out.set (left - len)
      generalize left - len = lf at *
      go_enter Tryz.func30, Tryz.ntmps30
      go_wp2_with fail
      go_loopw [36] (fun i wr => ∃ k l : Nat, i = .int .i64 k ∧ k ≤ len ∧ foldTo (lookOneD nest) kid lf k = some l ∧ l ≤ 1500 ∧ CntD wr K l ∧ Fr [K] w wr) (fun i _ => len - (intOf i).toNat)
      case atStart => exact ⟨0, lf, rfl, Nat.zero_le _, rfl, hx1, HCS.out, fr_set w K _⟩
      case round =>
        obtain ⟨k, l, rfl, hk, hfold, hl, hcnt, hbel⟩ := hrel
        have HBL : Hid (Fr [K] w wr ∧ GdD w0 wr) := ⟨hbel, HB.out.fr hbel hK⟩
        have HCT : Hid (CntD wr K l) := hcnt
        have HF : Hid (foldTo (lookOneD nest) kid lf k = some l) := hfold
        clear hbel hcnt hfold HCS HCN k0 kf
        by_cases hlt : (k : Int) < len
        · have hlt' : k < len := by omega
          obtain ⟨b, o, u, hp, hd, hin⟩ := HC.out k hlt'
          subst hp
          obtain ⟨pu, cu, eu⟩ := hin.sl.shape
          subst eu
          obtain ⟨c0, c1, c2, c3, c4⟩ := hd.below HBL.out.2
          have HI : Hid (Sl w0 (kid k).len (kid k).kid (.slice pu (kid k).len cu)) := hin.sl
          have HNX : Hid (foldTo (lookOneD nest) kid lf (k + 1) = lookOneD nest (kid k) l) := by
            show (foldTo (lookOneD nest) kid lf k).bind _ = _
            rw [HF.out]; rfl
          have hK1 : wr.cell? ⟨K, 1, none⟩ = some (.func (.func 28) #[] #[]) := cell_of_row wr K 1 _ _ _ HCT.out
          have hnb := newb wr (.cells #[.int .i64 (kid k).op, .int .i64 (kid k).at_, .int .i64 (kid k).n, .string (kid k).s, .slice pu (kid k).len cu] 30)
          have hCn : CntD (wr.alloc (.cells #[.int .i64 (kid k).op, .int .i64 (kid k).at_, .int .i64 (kid k).n, .string (kid k).s, .slice pu (kid k).len cu] 30)) K l := HCT.out.below hnb
          have HBn : Hid (Fr [K] w (wr.alloc (.cells #[.int .i64 (kid k).op, .int .i64 (kid k).at_, .int .i64 (kid k).n, .string (kid k).s, .slice pu (kid k).len cu] 30)) ∧ GdD w0 (wr.alloc (.cells #[.int .i64 (kid k).op, .int .i64 (kid k).at_, .int .i64 (kid k).n, .string (kid k).s, .slice pu (kid k).len cu] 30))) := ⟨HBL.out.1.trans (Fr.below hnb _), HBL.out.2.fr (Fr.below hnb _) hK⟩
          have kn0 : (wr.alloc (.cells #[.int .i64 (kid k).op, .int .i64 (kid k).at_, .int .i64 (kid k).n, .string (kid k).s, .slice pu (kid k).len cu] 30)).cell? ⟨K, 1, none⟩ = some (.func (.func 28) #[] #[]) := cell_of_row _ K 1 _ _ _ hCn
          have HCn : Hid (CntD (wr.alloc (.cells #[.int .i64 (kid k).op, .int .i64 (kid k).at_, .int .i64 (kid k).n, .string (kid k).s, .slice pu (kid k).len cu] 30)) K l) := hCn
          have HKB : Hid (K < wr.heap.size) := HCT.out.lt
          have hKne : K ≠ wr.heap.size := by have := HKB.out; omega
          have HOn : Hid (Five (wr.alloc (.cells #[.int .i64 (kid k).op, .int .i64 (kid k).at_, .int .i64 (kid k).n, .string (kid k).s, .slice pu (kid k).len cu] 30)) wr.heap.size (kid k).op (kid k).at_ (kid k).n (kid k).s (.slice pu (kid k).len cu) 30) := heap_alloc_new wr _
          clear hd hin hCn hnb hK1 kn0 hKne HKB
          cases hfb : fieldsB (kid k) with
          | false =>
            have HN : Hid (look (nest + 1) left len kid = none) := HL.out.trans (fold_none (HNX.out.trans (by unfold lookOneD; rw [hfb]; rfl)) (by omega))
            have HFB : Hid (fieldsB (kid k) = false) := hfb
            clear hfb
            go_upto_region 7 with fail
            generalize wr.alloc (.cells #[.int .i64 (kid k).op, .int .i64 (kid k).at_, .int .i64 (kid k).n, .string (kid k).s, .slice pu (kid k).len cu] 30) = W at *
            clear c0 c1 c2 c3 c4
            generalize wr.heap.size = OB at *
            obtain ⟨q0, q1, q2, q3, q4⟩ := HOn.out.cells
            have hone := Later.one W
            have y0 := fun x : Later W => x.cell q0
            have y1 := fun x : Later W => x.cell q1
            have y2 := fun x : Later W => x.cell q2
            have y3 := fun x : Later W => x.cell q3
            have y4 := fun x : Later W => x.cell q4
            have yk := fun x : Later W => x.cell (cell_of_row W K 1 _ _ _ HCn.out : W.cell? ⟨K, 1, none⟩ = some (.func (.func 28) #[] #[]))
            have HFX : Hid (∀ x : Later W, Calls Tryz.prog 28 #[.agg #[.int .i64 (kid k).op, .int .i64 (kid k).at_, .int .i64 (kid k).n, .string (kid k).s, .slice pu (kid k).len cu]] x.w fun e w' => e = .returned (.bool false) ∧ Below x.w.heap.size x.w w') := by
              intro x
              have h := fields_ok (kid k) x.w pu cu (HWT.out k hlt').1
              rw [HFB.out] at h
              exact h
            clear q0 q1 q2 q3 q4
            refine wp_region_later (by kernel_rfl) (by kernel_rfl) ?_
            repeat (go_big_quiet_step ((go_at_call 28; refine calls_later (HFX.out _))))
            refine wpQuiet_nil ?_
            rintro _ ⟨x, rfl⟩
            have HX : Hid (Fr [K] w x.w ∧ CntD x.w K l) := ⟨HBn.out.1.trans (Fr.below x.le _), HCn.out.below x.le⟩
            clear y0 y1 y2 y3 y4 yk
            go_wp2_with fail
            go_ret
            exact ⟨by rw [HN.out]; rfl, HX.out.1, l, hl, HX.out.2, fun l' h => by rw [HN.out] at h; cases h⟩
          | true =>
            have HFB : Hid (fieldsB (kid k) = true) := hfb
            have HON : Hid (lookOneD nest (kid k) l = look nest l (kid k).len (kid k).kid) := by show (if _ then _ else _) = _; rw [if_pos hfb]
            clear hfb
            go_upto_region 7 with fail
            generalize wr.alloc (.cells #[.int .i64 (kid k).op, .int .i64 (kid k).at_, .int .i64 (kid k).n, .string (kid k).s, .slice pu (kid k).len cu] 30) = W at *
            clear c0 c1 c2 c3 c4
            generalize wr.heap.size = OB at *
            have hS0 := look_cells HCn.out HOn.out
            have HFX : Hid (Calls Tryz.prog 28 #[.agg #[.int .i64 (kid k).op, .int .i64 (kid k).at_, .int .i64 (kid k).n, .string (kid k).s, .slice pu (kid k).len cu]] W.drew fun e w' => e = .returned (.bool true) ∧ Below W.heap.size W w') := by
              have h := fields_ok (kid k) W.drew pu cu (HWT.out k hlt').1
              rw [HFB.out] at h
              exact h.mono (fun _ _ h => ⟨h.1, ⟨h.2.os, h.2.tape, h.2.output, h.2.size, h.2.block⟩⟩)
            generalize hRR : (look nest l (kid k).len (kid k).kid).isSome = RR at *
            have HIH : Hid (∀ (w2 : World) (z : Int), z = (nest : Int) → GdD w0 w2 → CntD w2 K l → Calls Tryz.prog 30 #[.pointer (some ⟨K, 0, none⟩), .slice pu (kid k).len cu, .int .i64 z] w2 fun e w' => e = .returned (.bool RR) ∧ Fr [K] w2 w' ∧ ∃ l2, l2 ≤ 1500 ∧ CntD w' K l2 ∧ ∀ l', look nest l (kid k).len (kid k).kid = some l' → l2 = l') := by
              intro w2 z hz h2 h3
              rw [← hRR, hz]
              exact IH.out l (kid k).len (kid k).kid _ w2 HI.out h2 h3 hl (by omega) (by have := (HWT.out k hlt').2; omega)
            have HRR : Hid ((look nest l (kid k).len (kid k).kid).isSome = RR) := hRR
            have HOB : Hid (OB ≠ K) := by show OB ≠ K; intro e; have h1 := HOn.out; rw [e] at h1; have h2 : W.heap[K]? = _ := h1; rw [HCn.out] at h2; injection h2 with h2; injection h2 with _ h2; exact absurd h2 (by decide)
            clear hRR
            go_cut [59] from 40 to 60 (fun z wx => z = .bool (!RR) ∧ Fr [K] w wx ∧ ∃ l2, l2 ≤ 1500 ∧ CntD wx K l2 ∧ ∀ l', look nest l (kid k).len (kid k).kid = some l' → l2 = l')
            case first =>
              go_region_held3 (fun w' => w'.cell? ⟨K, 1, none⟩ = some (.func (.func 28) #[] #[]) ∧ w'.cell? ⟨K, 2, none⟩ = some (.func (.func 29) #[] #[]) ∧ w'.cell? ⟨OB, 0, none⟩ = some (.int .i64 (kid k).op) ∧ w'.cell? ⟨OB, 1, none⟩ = some (.int .i64 (kid k).at_) ∧ w'.cell? ⟨OB, 2, none⟩ = some (.int .i64 (kid k).n) ∧ w'.cell? ⟨OB, 3, none⟩ = some (.string (kid k).s) ∧ w'.cell? ⟨OB, 4, none⟩ = some (.slice pu (kid k).len cu))
                (first | go_keep | (with_reducible exact hS0) | (with_reducible exact hS1) | (with_reducible exact hS2) | (with_reducible exact hS3)) (first
                | (go_at_call 28; refine HFX.out.mono ?_; rintro e w1 ⟨rfl, hb1⟩; have HC1 : Hid (CntD w1 K l) := HCn.out.below hb1; have HB1 : Hid (Fr [K] w w1 ∧ GdD w0 w1) := ⟨HBn.out.1.trans (Fr.below hb1 _), HBn.out.2.fr (Fr.below hb1 _) hK⟩; have HO1 : Hid (Five w1 OB (kid k).op (kid k).at_ (kid k).n (kid k).s (.slice pu (kid k).len cu) 30) := HOn.out.below hb1; have hS1 := look_cells HC1.out HO1.out; clear hb1)
                | (go_at_call 29; refine (dat_kids (kid k).op (kid k).at_ (kid k).n (kid k).s (.slice pu (kid k).len cu) _).mono ?_; rintro e w2 ⟨rfl, hb2⟩; have HC2 : Hid (CntD w2 K l) := HC1.out.below hb2; have HB2 : Hid (Fr [K] w w2 ∧ GdD w0 w2) := ⟨HB1.out.1.trans (Fr.below hb2 _), HB1.out.2.fr (Fr.below hb2 _) hK⟩; have HO2 : Hid (Five w2 OB (kid k).op (kid k).at_ (kid k).n (kid k).s (.slice pu (kid k).len cu) 30) := HO1.out.below hb2; have hS2 := look_cells HC2.out HO2.out; clear hb2)
                | (go_at_call 30; refine (HIH.out w2 _ ?_ HB2.out.2 HC2.out).mono ?_; (first | omega | (simp [IntKind.wrap_i64]; done) | (simp only [IntKind.wrap_i64]; omega)); rintro e w3 ⟨rfl, hf3, hE⟩; have hS3 := look_cellsE hE (five_fr HO2.out hf3 HOB.out); have HE : Hid (Fr [K] w w3 ∧ ∃ l2, l2 ≤ 1500 ∧ CntD w3 K l2 ∧ ∀ l', look nest l (kid k).len (kid k).kid = some l' → l2 = l') := And.intro (HB2.out.1.trans hf3) hE; clear hf3 hE))
              all_goals
                go_wp2_with fail
                go_meet
                exact ⟨rfl, HE.out.1, HE.out.2⟩
            case rest =>
            obtain ⟨rfl, hb2, l2, hl2, hc2, hlk⟩ := hcut
            cases hres : look nest l (kid k).len (kid k).kid with
            | none =>
              have hR0 : RR = false := by rw [← HRR.out, hres]; rfl
              subst hR0
              have HN : Hid (look (nest + 1) left len kid = none) := HL.out.trans (fold_none (HNX.out.trans (HON.out.trans hres)) (by omega))
              have HB2 : Hid (Fr [K] w wc) := hb2
              have HC2 : Hid (CntD wc K l2) := hc2
              clear hb2 hc2 hlk hres
              simp only [Bool.not_false]
              go_wp2_with fail
              go_ret
              exact ⟨by rw [HN.out]; rfl, HB2.out, l2, hl2, HC2.out, fun l' h => by rw [HN.out] at h; cases h⟩
            | some l3 =>
              have hl3 := hlk l3 hres
              subst hl3
              have hR0 : RR = true := by rw [← HRR.out, hres]; rfl
              subst hR0
              have HN : Hid (foldTo (lookOneD nest) kid lf (k + 1) = some l2) := HNX.out.trans (HON.out.trans hres)
              have HB2 : Hid (Fr [K] w wc) := hb2
              have HC2 : Hid (CntD wc K l2) := hc2
              clear hb2 hc2 hlk hres
              simp only [Bool.not_true]
              go_wp2_with fail
              go_roundw
              case rel => exact ⟨k + 1, l2, by go_num, by omega, HN.out, hl2, HC2.out, HB2.out⟩
              case measure => simp [intOf]; omega
        · have hke : k = len := by omega
          have HN : Hid (look (nest + 1) left len kid = some l) := HL.out.trans (by rw [← hke]; exact HF.out)
          go_wp2_with fail
          go_ret
          exact ⟨by rw [HN.out]; rfl, HBL.out.1, l, hl, HCT.out, fun l' h => by rw [HN.out] at h; exact Option.some.inj h⟩
end Go.Proofs.YtoljphjmekkneabGreatDoor
