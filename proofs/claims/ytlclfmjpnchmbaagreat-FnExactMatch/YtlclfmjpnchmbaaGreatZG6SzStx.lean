/- Blocks of six cells: what they hold, and stored whole. No conditions. -/
import Derived.Test.YtlclfmjpnchmbaaGreatZG1StxOwn
import Derived.Test.YtlclfmjpnchmbaaGreatZG5MarkStx
import Derived.Test.YtlclfmjpnchmbaaGreatRows
import Derived.WalkKit
import Derived.ProofKit
import Derived.Below
import Derived.OwnWalk
namespace Go.Proofs.YtlclfmjpnchmbaaGreat
open Go.ChangeShapes Go.WideShapes Go.ChangeAt Go.RowKit

def Six (w : World) (g : Nat) (a b c : Int) (s : ByteArray) (u v : Value) (ty : TypeId) : Prop := w.heap[g]? = some (.cells #[.int .i64 a, .int .i64 b, .int .i64 c, .string s, u, v] ty (0, 0))
theorem Six.lt {w : World} {g : Nat} {a b c : Int} {s : ByteArray} {u v : Value} {ty : TypeId} (h : Six w g a b c s u v ty) : g < w.heap.size := (Array.getElem?_eq_some_iff.1 h).1
theorem Six.below {w w' : World} {g : Nat} {a b c : Int} {s : ByteArray} {u v : Value} {ty : TypeId} (h : Six w g a b c s u v ty) (hb : Below w.heap.size w w') : Six w' g a b c s u v ty := (hb.block _ h.lt).trans h
theorem Six.cells {w : World} {g : Nat} {a b c : Int} {s : ByteArray} {u v : Value} {ty : TypeId} (h : Six w g a b c s u v ty) :
    w.cell? ⟨g, 0, none⟩ = some (.int .i64 a) ∧ w.cell? ⟨g, 1, none⟩ = some (.int .i64 b) ∧ w.cell? ⟨g, 2, none⟩ = some (.int .i64 c) ∧ w.cell? ⟨g, 3, none⟩ = some (.string s) ∧ w.cell? ⟨g, 4, none⟩ = some u ∧ w.cell? ⟨g, 5, none⟩ = some v :=
  ⟨cell_of_row w g 0 _ _ _ h, cell_of_row w g 1 _ _ _ h, cell_of_row w g 2 _ _ _ h, cell_of_row w g 3 _ _ _ h, cell_of_row w g 4 _ _ _ h, cell_of_row w g 5 _ _ _ h⟩
theorem Six.fr {w : World} {g : Nat} {a b c : Int} {s : ByteArray} {u v : Value} {ty : TypeId} (h : Six w g a b c s u v ty) (j : Nat) : w.frozen? ⟨g, j, none⟩ = false := frozen_of_row w g j _ _ h
theorem Six.set4 {w : World} {g : Nat} {a b c : Int} {s : ByteArray} {u v : Value} {ty : TypeId} (h : Six w g a b c s u v ty) (u' : Value) : Six (w.setCell ⟨g, 4, none⟩ u') g a b c s u' v ty := heap_setCell_same w g 4 _ _ u' h
theorem Six.set5 {w : World} {g : Nat} {a b c : Int} {s : ByteArray} {u v : Value} {ty : TypeId} (h : Six w g a b c s u v ty) (v' : Value) : Six (w.setCell ⟨g, 5, none⟩ v') g a b c s u v' ty := heap_setCell_same w g 5 _ _ v' h

/-- Six stores into a block. -/
abbrev put6 (w : World) (g : Nat) (a b c : Int) (s : ByteArray) (u v : Value) : World :=
  (((((w.setCell ⟨g, 0, none⟩ (.int .i64 a)).setCell ⟨g, 1, none⟩ (.int .i64 b)).setCell ⟨g, 2, none⟩ (.int .i64 c)).setCell ⟨g, 3, none⟩ (.string s)).setCell ⟨g, 4, none⟩ u).setCell ⟨g, 5, none⟩ v
theorem put6_other (w : World) (g : Nat) (a b c : Int) (s : ByteArray) (u v : Value) (x : Nat) (hx : x ≠ g) : (put6 w g a b c s u v).heap[x]? = w.heap[x]? := by
  unfold put6
  rw [Below.heap_setCell _ _ _ _ (by exact hx), Below.heap_setCell _ _ _ _ (by exact hx), Below.heap_setCell _ _ _ _ (by exact hx), Below.heap_setCell _ _ _ _ (by exact hx), Below.heap_setCell _ _ _ _ (by exact hx), Below.heap_setCell _ _ _ _ (by exact hx)]
theorem put6_below {B : Nat} {w0 w : World} (hb : Below B w0 w) (g : Nat) (hg : B ≤ g) (a b c : Int) (s : ByteArray) (u v : Value) : Below B w0 (put6 w g a b c s u v) :=
  (((((hb.setCell hg _).setCell hg _).setCell hg _).setCell hg _).setCell hg _).setCell hg _

def Five (w : World) (g : Nat) (a b c : Int) (s : ByteArray) (v : Value) (ty : TypeId) : Prop := w.heap[g]? = some (.cells #[.int .i64 a, .int .i64 b, .int .i64 c, .string s, v] ty (0, 0))
theorem Five.lt {w : World} {g : Nat} {a b c : Int} {s : ByteArray} {v : Value} {ty : TypeId} (h : Five w g a b c s v ty) : g < w.heap.size := (Array.getElem?_eq_some_iff.1 h).1
theorem Five.below {w w' : World} {g : Nat} {a b c : Int} {s : ByteArray} {v : Value} {ty : TypeId} (h : Five w g a b c s v ty) (hb : Below w.heap.size w w') : Five w' g a b c s v ty := (hb.block _ h.lt).trans h
theorem Five.cells {w : World} {g : Nat} {a b c : Int} {s : ByteArray} {v : Value} {ty : TypeId} (h : Five w g a b c s v ty) :
    w.cell? ⟨g, 0, none⟩ = some (.int .i64 a) ∧ w.cell? ⟨g, 1, none⟩ = some (.int .i64 b) ∧ w.cell? ⟨g, 2, none⟩ = some (.int .i64 c) ∧ w.cell? ⟨g, 3, none⟩ = some (.string s) ∧ w.cell? ⟨g, 4, none⟩ = some v :=
  ⟨cell_of_row w g 0 _ _ _ h, cell_of_row w g 1 _ _ _ h, cell_of_row w g 2 _ _ _ h, cell_of_row w g 3 _ _ _ h, cell_of_row w g 4 _ _ _ h⟩
theorem Five.fr {w : World} {g : Nat} {a b c : Int} {s : ByteArray} {v : Value} {ty : TypeId} (h : Five w g a b c s v ty) (j : Nat) : w.frozen? ⟨g, j, none⟩ = false := frozen_of_row w g j _ _ h
abbrev put5 (w : World) (g : Nat) (a b c : Int) (s : ByteArray) (v : Value) : World :=
  ((((w.setCell ⟨g, 0, none⟩ (.int .i64 a)).setCell ⟨g, 1, none⟩ (.int .i64 b)).setCell ⟨g, 2, none⟩ (.int .i64 c)).setCell ⟨g, 3, none⟩ (.string s)).setCell ⟨g, 4, none⟩ v
theorem put5_other (w : World) (g : Nat) (a b c : Int) (s : ByteArray) (v : Value) (x : Nat) (hx : x ≠ g) : (put5 w g a b c s v).heap[x]? = w.heap[x]? := by
  unfold put5
  rw [Below.heap_setCell _ _ _ _ (by exact hx), Below.heap_setCell _ _ _ _ (by exact hx), Below.heap_setCell _ _ _ _ (by exact hx), Below.heap_setCell _ _ _ _ (by exact hx), Below.heap_setCell _ _ _ _ (by exact hx)]
theorem put5_below {B : Nat} {w0 w : World} (hb : Below B w0 w) (g : Nat) (hg : B ≤ g) (a b c : Int) (s : ByteArray) (v : Value) : Below B w0 (put5 w g a b c s v) :=
  ((((hb.setCell hg _).setCell hg _).setCell hg _).setCell hg _).setCell hg _
/-- Two new blocks, behind a call. -/
theorem twoX {w w1 : World} {o1 o2 : Obj} (hb : Below ((w.alloc o1).alloc o2).heap.size ((w.alloc o1).alloc o2) w1) :
    w1.heap[w.heap.size]? = some o1 ∧ w1.heap[w.heap.size + 1]? = some o2 ∧ w.heap.size + 2 ≤ w1.heap.size ∧ Below w.heap.size w w1 := by
  have e1 : (w.alloc o1).heap.size = w.heap.size + 1 := by simp
  have e2 : ((w.alloc o1).alloc o2).heap.size = w.heap.size + 1 + 1 := by simp
  have n2 := heap_alloc_new (w.alloc o1) o2
  have n1 := heap_alloc_new w o1
  rw [e1] at n2
  refine ⟨?_, ?_, by have := hb.size; omega, ((newx w o1).trans ((newx _ o2).mono (by omega))).trans (hb.mono (by omega))⟩
  · rw [hb.block _ (by omega), Below.heap_alloc _ _ _ (by omega)]; exact n1
  · rw [hb.block _ (by omega)]; exact n2
end Go.Proofs.YtlclfmjpnchmbaaGreat

/- laws.markStx and laws.heldStx. Condition: marks up to 10^14, no set of more than 2^22. -/
namespace Go.Proofs.YtlclfmjpnchmbaaGreat
open Go.ChangeShapes Go.WideShapes Go.ChangeAt Go.RowKit

/-- How many marks. -/
def X.tops (t : X) : Nat := t.set.length + sumX (fun i => (t.kid i).marks) t.len
/-- Its set and its kids are marked from k on. -/
def Marked (w : World) (t : X) (sv v : Value) (k : Nat) : Prop := Rd w sv (marksI k t.set.length) ∧ XsAt 0 w t.len (markXK t.kid (k + t.set.length)) v
theorem Marked.below {w w' : World} {t : X} {sv v : Value} {k : Nat} (h : Marked w t sv v k) (hb : Below w.heap.size w w') : Marked w' t sv v k := ⟨h.1.below hb, XsAt.below hb h.2⟩

theorem small_parts {t : X} (h : t.Small) : t.set.length ≤ 4194304 ∧ ∀ i, i < t.len → (t.kid i).Small := h.parts

set_option maxRecDepth 100000 in
set_option maxHeartbeats 1000000 in
theorem mark_stx (t : X) (w : World) (sv v : Value) (S : List Nat) (k : Nat) (h : XOwn w t sv v S) (hn : S.Nodup) (hsm : t.Small) (hk0 : 0 < k) (hk : k + t.tops ≤ 90000000000000) :
    Calls Tryz.prog 10 #[.agg #[.int .i64 t.op, .int .i64 t.at_, .int .i64 t.n, .string t.s, sv, v], .int .i64 k] w fun e w' => e = .returned (.int .i64 ((k + t.tops : Nat) : Int)) ∧ Marked w' t sv v k ∧ FrX w w' S := by
  obtain ⟨p, cap, hv⟩ := h.at0.xs.shape
  obtain ⟨ps, cps, hsv⟩ := h.at0.sets.shape
  subst hv hsv
  obtain ⟨hset, S2, rfl, hrows⟩ := h.parts
  have hsp := hsm.parts
  have hS2 := (List.nodup_append.1 hn).2.1
  have hdis : ∀ g, (Value.slice ps t.set.length cps).ownBlock = some g → g ∉ S2 := fun g hg hx => (List.nodup_append.1 hn).2.2 g (mem_own hg) g hx rfl
  have hnb := newx w (.cells #[.int .i64 t.op, .int .i64 t.at_, .int .i64 t.n, .string t.s, .slice ps t.set.length cps, .slice p t.len cap] 32)
  have H1 : Hid (Own (w.alloc (.cells #[.int .i64 t.op, .int .i64 t.at_, .int .i64 t.n, .string t.s, .slice ps t.set.length cps, .slice p t.len cap] 32)) 0 (.slice ps t.set.length cps) t.set) := hset.below hnb
  have H2 : Hid (XsOwn w t.len t.kid (.slice p t.len cap) S2 ∧ S2.Nodup ∧ (∀ i, i < t.len → (t.kid i).Small) ∧ ∀ g, (Value.slice ps t.set.length cps).ownBlock = some g → g ∉ S2) := ⟨hrows, hS2, hsp.2, hdis⟩
  have H3 : Hid (t.set.length ≤ 4194304 ∧ k + (t.set.length + sumX (fun i => (t.kid i).marks) t.len) ≤ 90000000000000) := ⟨hsp.1, hk⟩
  obtain ⟨M, hM⟩ : ∃ M, M = k + t.tops := ⟨_, rfl⟩
  have HM : Hid (k + t.set.length + sumX (fun i => (t.kid i).marks) t.len = M) := by show _ = _; rw [hM]; unfold X.tops; omega
  rw [← hM]
  clear hM
  have HL : Hid (∀ g, (Value.slice ps t.set.length cps).ownBlock = some g → g < w.heap.size) := fun g hg => (World.ownsRow.lt hset g hg).2
  have hki : ((k + t.set.length : Nat) : Int) = (k : Int) + t.set.length := by omega
  clear h hset hrows hsp hS2 hdis hn hsm hk hnb
  go_enter Tryz.func10, Tryz.ntmps10
  go_wp2_with fail
  refine (mark_ints (.slice ps t.set.length cps) 0 t.set k _ H1.out H3.out.1 (by have := H3.out.2; omega)).mono ?_
  rintro e w1 ⟨rfl, ho1, hg1⟩
  have hA : Six w1 w.heap.size t.op t.at_ t.n t.s (.slice ps t.set.length cps) (.slice p t.len cap) 32 := (hg1.block _ (by simp) (fun e => by have := HL.out _ e.symm; omega)).trans (heap_alloc_new w _)
  have a5 := hA.cells.2.2.2.2.2
  have hfr : FrX w w1 (Value.slice ps t.set.length cps).ownBlock.toList := (FrX.below (newx w _) _).trans (FrX.grown hg1 (fun g hg => hg))
  have H4 : Hid (Own w1 0 (.slice ps t.set.length cps) (marksI k t.set.length) ∧ FrX w w1 (Value.slice ps t.set.length cps).ownBlock.toList ∧ XsOwn w1 t.len t.kid (.slice p t.len cap) S2) := ⟨ho1, hfr, H2.out.1.same (fun g hg => hfr.block g (H2.out.1.lt g hg) (fun hx => H2.out.2.2.2 g (by simpa using hx) hg))⟩
  clear ho1 hg1 hA hfr H1
  go_wp2_with fail
  rw [← hki]
  refine (markX_all t w1 _ S2 (k + t.set.length) H4.out.2.2 H2.out.2.1 H2.out.2.2.1 (by omega) (by have := H3.out.2; omega)).mono ?_
  rintro e w2 ⟨rfl, hx2, hf2⟩
  have hS2t : ∀ g ∈ S2, g < w1.heap.size := H4.out.2.2.lt
  have HR : Hid (Marked w2 t (.slice ps t.set.length cps) (.slice p t.len cap) k ∧ FrX w w2 ((Value.slice ps t.set.length cps).ownBlock.toList ++ S2)) :=
    ⟨⟨(H4.out.1.sameX (fun g hg => hf2.block g (World.ownsRow.lt H4.out.1 g hg).2 (H2.out.2.2.2 g hg))).rd, hx2.at0⟩, (H4.out.2.1.mono (fun g hg => List.mem_append_left _ hg)).trans (hf2.mono (fun g hg => List.mem_append_right _ hg))⟩
  clear hx2 hf2 hS2t H4 a5
  rw [HM.out]
  go_wp2_with fail
  go_ret
  exact ⟨rfl, HR.out.1, HR.out.2⟩

end Go.Proofs.YtlclfmjpnchmbaaGreat

/- laws.szIntS, laws.szStx and laws.szStxS: what is left behind what is written. Condition: at most 2^20 may come. -/
namespace Go.Proofs.YtlclfmjpnchmbaaGreat
open Go.ChangeShapes Go.WideShapes Go.ChangeAt Go.RowKit

/-- What is left. -/
def szX (left total : Nat) : Int := if total ≤ left then (left : Int) - total else -1
theorem szX_yes {left total : Nat} (h : total ≤ left) : szX left total = ((left - total : Nat) : Int) := by unfold szX; rw [if_pos h]; omega
theorem szX_no {left total : Nat} (h : left < total) : szX left total = -1 := by unfold szX; rw [if_neg (by omega)]

/-- The contract of szStx at a datum. -/
def SzXAt (t : X) : Prop := ∀ (w : World) (sv v : Value) (left : Nat), t.Of w sv v → left ≤ 1048576 →
  Calls Tryz.prog 4 #[.agg #[.int .i64 t.op, .int .i64 t.at_, .int .i64 t.n, .string t.s, sv, v], .int .i64 left] w fun e w' => e = .returned (.int .i64 (szX left t.weight)) ∧ Below w.heap.size w w'

set_option maxRecDepth 100000 in
set_option maxHeartbeats 1000000 in
theorem sz_ints (a : Option Addr) (len cap left : Nat) (w : World) (hlen : len ≤ maxLen) (hl : left ≤ 1048576) :
    Calls Tryz.prog 13 #[.slice a len cap, .int .i64 left] w fun e w' => e = .returned (.int .i64 (szX left len)) ∧ w' = w := by
  unfold maxLen at hlen
  by_cases h0 : (left : Int) - len < 0
  · have HR : Hid (szX left len = -1) := szX_no (by omega)
    go_enter Tryz.func13, Tryz.ntmps13
    go_wp2_with fail
    go_ret
    exact ⟨by rw [HR.out]; rfl, rfl⟩
  · have HR : Hid (szX left len = (left : Int) - len) := by show _ = _; unfold szX; rw [if_pos (by omega)]
    go_enter Tryz.func13, Tryz.ntmps13
    go_wp2_with fail
    go_ret
    exact ⟨by rw [HR.out]; rfl, rfl⟩

set_option maxRecDepth 100000 in
set_option maxHeartbeats 2000000 in
theorem sz_stxs (len : Nat) (kid : Nat → X) (ih : ∀ i, i < len → SzXAt (kid i)) (w : World) (v : Value) (left : Nat) (hv : XsOf w len kid v) (hl : left ≤ 1048576) :
    Calls Tryz.prog 14 #[v, .int .i64 left] w fun e w' => e = .returned (.int .i64 (szX left (kidsWeightX len kid))) ∧ Below w.heap.size w w' := by
  obtain ⟨p, cap, rfl, hlen, hat⟩ := hv.at
  have HC : Hid (∀ i, i < len → ∃ b o sv u, p = some ⟨b, o, none⟩ ∧ Head6 w b (o + i * 6) (kid i) sv u ∧ (kid i).Of w sv u) := hat
  have IH : Hid (∀ i, i < len → SzXAt (kid i)) := ih
  clear hat ih hv
  unfold maxLen at hlen
  by_cases h0 : (left : Int) - len < 0
  · have HR : Hid (szX left (kidsWeightX len kid) = -1) := szX_no (by unfold kidsWeightX; omega)
    go_enter Tryz.func14, Tryz.ntmps14
    go_wp2_with fail
    go_ret
    exact ⟨by rw [HR.out]; rfl, Below.refl _ _⟩
  · go_enter Tryz.func14, Tryz.ntmps14
    go_wp2_with fail
    go_loopw [1, 5] (fun x i wr => ∃ k r : Nat, i = .int .i64 k ∧ x = .int .i64 r ∧ k ≤ len ∧ r + len + sumX (fun i => (kid i).weight) k = left ∧ Below w.heap.size w wr) (fun _ i _ => len - (intOf i).toNat)
    case atStart => exact ⟨0, left - len, rfl, by congr 1; omega, Nat.zero_le _, by simp [sumX]; omega, Below.refl _ _⟩
    case round =>
      obtain ⟨k, r, rfl, rfl, hk, hsum, hbel⟩ := hrel
      have HBL : Hid (Below w.heap.size w wr) := hbel
      have HS : Hid (r + len + sumX (fun i => (kid i).weight) k = left) := hsum
      have hr : r ≤ 1048576 := by omega
      clear hbel hsum
      by_cases hlt : (k : Int) < len
      · have hlt' : k < len := by omega
        obtain ⟨b, o, su, u, hp, hd, hin⟩ := HC.out k hlt'
        subst hp
        have hd1 := hd.below HBL.out
        have hin1 := X.Of.below HBL.out hin
        obtain ⟨c0, c1, c2, c3, c4, c5⟩ := hd1
        clear hd hin
        have HI : Hid ((kid k).Of wr su u) := hin1
        clear hin1
        by_cases hw : (kid k).weight ≤ r
        · have HN : Hid ((r - (kid k).weight) + len + sumX (fun i => (kid i).weight) (k + 1) = left) := by
            have := HS.out
            show _ = _
            simp only [sumX]; omega
          have e1 := szX_yes hw
          generalize hx : r - (kid k).weight = x at *
          have hx0 : (0 : Int) ≤ (x : Int) := by omega
          clear hx hw
          have E1 : Hid (szX r (kid k).weight = (x : Int)) := e1
          clear e1
          go_wp2_with fail
          refine (IH.out k hlt' wr su u r HI.out hr).mono ?_
          rintro e w1 ⟨rfl, hb1⟩
          rw [E1.out]
          have HB1 : Hid (Below w.heap.size w w1) := HBL.out.trans (hb1.mono HBL.out.size)
          clear hb1 c0 c1 c2 c3 c4 c5
          go_wp2_with fail
          go_roundw
          case rel => exact ⟨k + 1, x, by go_num, rfl, by omega, HN.out, HB1.out⟩
          case measure => simp [intOf]; omega
        · have HR : Hid (szX left (kidsWeightX len kid) = -1) := by
            refine szX_no ?_
            have h1 := HS.out
            have h2 := sumX_at (fun i => (kid i).weight) k len hlt'
            unfold kidsWeightX; omega
          have E1 : Hid (szX r (kid k).weight = -1) := szX_no (by omega)
          clear hw
          go_wp2_with fail
          refine (IH.out k hlt' wr su u r HI.out hr).mono ?_
          rintro e w1 ⟨rfl, hb1⟩
          rw [E1.out]
          have HB1 : Hid (Below w.heap.size w w1) := HBL.out.trans (hb1.mono HBL.out.size)
          clear hb1 c0 c1 c2 c3 c4 c5
          go_wp2_with fail
          go_ret
          exact ⟨by rw [HR.out]; rfl, HB1.out⟩
      · have hke : k = len := by omega
        subst hke
        go_wp2
        go_ret
        refine ⟨?_, HBL.out⟩
        have h1 := HS.out
        have e : szX left (kidsWeightX k kid) = (r : Int) := by
          rw [szX_yes (by unfold kidsWeightX; omega)]
          congr 1; unfold kidsWeightX; omega
        rw [e]; rfl

set_option maxRecDepth 100000 in
set_option maxHeartbeats 2000000 in
theorem sz_stx (t : X) : SzXAt t := by
  induction t with
  | no => intro w sv v left h _; exact h.elim
  | mk op a n s set len kid ih =>
    intro w sv v left hin hl
    have hs := hin.size
    have hsl := hin.xs
    have hset := hin.sets
    have hsm := hin.setLen
    unfold maxLen at hs
    simp only [X.op, X.at_, X.n, X.s, X.set, X.len, X.kid] at hs hsl hset hsm ⊢
    obtain ⟨p, cap, hv⟩ := hsl.shape
    obtain ⟨p2, cap2, hv2⟩ := hset.shape
    have HSL : Hid (XsOf w len kid v) := hsl
    have IH : Hid (∀ i, SzXAt (kid i)) := ih
    have HW : Hid ((X.mk op a n s set len kid).weight = s.size + (set.length + kidsWeightX len kid)) := rfl
    have HT : Hid (∀ (left : Nat) (w : World), left ≤ 1048576 → Calls Tryz.prog 13 #[.slice p2 set.length cap2, .int .i64 left] w fun e w' => e = .returned (.int .i64 (szX left set.length)) ∧ w' = w) := fun left w h => sz_ints p2 set.length cap2 left w hsm h
    clear hin hsl ih hset hsm
    subst hv hv2
    generalize set.length = m at *
    by_cases h0 : (left : Int) - s.size < 0
    · have HR : Hid (szX left (X.mk op a n s set len kid).weight = -1) := szX_no (by rw [HW.out]; omega)
      go_enter Tryz.func4, Tryz.ntmps4
      go_wp2_with fail
      go_ret
      exact ⟨by rw [HR.out]; rfl, newx w _⟩
    have hx1 : left - s.size ≤ 1048576 := by omega
    have hx : (left : Int) - s.size = ((left - s.size : Nat) : Int) := by omega
    by_cases h1 : m ≤ left - s.size
    · have E0 : Hid (szX (left - s.size) m = ((left - s.size - m : Nat) : Int)) := szX_yes h1
      have hy1 : left - s.size - m ≤ 1048576 := by omega
      by_cases hw : kidsWeightX len kid ≤ left - s.size - m
      · have HR : Hid (szX left (X.mk op a n s set len kid).weight = ((left - s.size - m - kidsWeightX len kid : Nat) : Int)) := by
          show _ = _
          rw [szX_yes (by rw [HW.out]; omega)]; congr 1; rw [HW.out]; omega
        have E1 : Hid (szX (left - s.size - m) (kidsWeightX len kid) = ((left - s.size - m - kidsWeightX len kid : Nat) : Int)) := szX_yes hw
        generalize left - s.size - m - kidsWeightX len kid = z at *
        generalize left - s.size - m = y at *
        generalize left - s.size = x at *
        clear hw h1
        go_enter Tryz.func4, Tryz.ntmps4
        go_wp2_with fail
        refine (HT.out x _ hx1).mono ?_
        rintro e w0 ⟨rfl, rfl⟩
        rw [E0.out]
        go_wp2_with fail
        refine (sz_stxs len kid (fun i _ => IH.out i) _ _ y (XsOf.below (newx w _) HSL.out) hy1).mono ?_
        rintro e w1 ⟨rfl, hb1⟩
        rw [E1.out]
        have HB1 : Hid (Below w.heap.size w w1) := (newx w _).trans (hb1.mono (newx w _).size)
        clear hb1
        go_wp2_with fail
        go_ret
        exact ⟨by rw [HR.out]; rfl, HB1.out⟩
      · have HR : Hid (szX left (X.mk op a n s set len kid).weight = -1) := szX_no (by rw [HW.out]; omega)
        have E1 : Hid (szX (left - s.size - m) (kidsWeightX len kid) = -1) := szX_no (by omega)
        clear hw h1
        generalize left - s.size - m = y at *
        generalize left - s.size = x at *
        go_enter Tryz.func4, Tryz.ntmps4
        go_wp2_with fail
        refine (HT.out x _ hx1).mono ?_
        rintro e w0 ⟨rfl, rfl⟩
        rw [E0.out]
        go_wp2_with fail
        refine (sz_stxs len kid (fun i _ => IH.out i) _ _ y (XsOf.below (newx w _) HSL.out) hy1).mono ?_
        rintro e w1 ⟨rfl, hb1⟩
        rw [E1.out]
        have HB1 : Hid (Below w.heap.size w w1) := (newx w _).trans (hb1.mono (newx w _).size)
        clear hb1
        go_wp2_with fail
        go_ret
        exact ⟨by rw [HR.out]; rfl, HB1.out⟩
    · have HR : Hid (szX left (X.mk op a n s set len kid).weight = -1) := szX_no (by rw [HW.out]; omega)
      have E0 : Hid (szX (left - s.size) m = -1) := szX_no (by omega)
      clear h1
      generalize left - s.size = x at *
      go_enter Tryz.func4, Tryz.ntmps4
      go_wp2_with fail
      refine (HT.out x _ hx1).mono ?_
      rintro e w0 ⟨rfl, rfl⟩
      rw [E0.out]
      go_wp2_with fail
      go_ret
      exact ⟨by rw [HR.out]; rfl, newx w _⟩
end Go.Proofs.YtlclfmjpnchmbaaGreat
