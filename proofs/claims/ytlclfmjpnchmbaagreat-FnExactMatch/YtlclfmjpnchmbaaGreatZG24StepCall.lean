/- A node whose kids are appended one by one: what the loop keeps. No conditions. -/
import Derived.Test.YtlclfmjpnchmbaaGreatZG2StxP
import Derived.Test.YtlclfmjpnchmbaaGreatZG6SzStx
import Derived.Test.YtlclfmjpnchmbaaGreatZG23Jobs
import Derived.Test.YtlclfmjpnchmbaaGreatRows
import Derived.Deep.AppendLies
import Derived.Deep.RegionLaw
import Derived.Tactics
namespace Go.Proofs.YtlclfmjpnchmbaaGreat
open Go.ChangeShapes Go.WideShapes Go.ChangeAt Go.RowKit

theorem Fr.toBelow {w w' : World} (h : Fr [] w w') : Below w.heap.size w w' := ⟨h.os, h.tape, h.output, h.size, fun x hx => h.block x hx (by simp)⟩
theorem Fr.setCell {cs : List Nat} {w w' : World} (h : Fr cs w w') (a : Addr) (v : Value) (ha : w.heap.size ≤ a.block) : Fr cs w (w'.setCell a v) :=
  ⟨h.os, h.tape, h.output, by have := h.size; simp; omega, fun x hx hc => (Below.heap_setCell w' a v x (by omega)).trans (h.block x hx hc)⟩

/-- What the loop keeps: the argument's block C, the result's R, the node's own O; its set; the kids so far, all from block B on. -/
structure XLoop (cs : List Nat) (w wr : World) (B C R O : Nat) (oA : Obj) (op a n : Int) (s : ByteArray) (set : List Int) (sv : Value) (kid : Nat → X) (k : Nat) (lv : Value) (la : List XR) (SS : List (List Nat)) : Prop where
  bel : Fr cs w wr
  size : B ≤ wr.heap.size
  ord : (∀ x ∈ cs, x < w.heap.size) ∧ w.heap.size ≤ C ∧ w.heap.size ≤ R ∧ w.heap.size ≤ O ∧ C < B ∧ R < B ∧ O < B ∧ C ≠ O ∧ R ≠ O
  arg : wr.heap[C]? = some oA
  res : Six wr R 0 0 0 ⟨#[]⟩ (.slice none 0 0) (.slice none 0 0) 32
  out : Six wr O op a n s sv lv 32
  sets : Own wr 0 sv set ∧ ∀ g, sv.ownBlock = some g → w.heap.size ≤ g ∧ g < B ∧ g ≠ O ∧ g ≠ R
  rows : XBuild B wr kid k lv la SS

theorem XLoop.next {cs : List Nat} {w wr w1 w3 : World} {B C R O : Nat} {oA : Obj} {op a n : Int} {s : ByteArray} {set : List Int} {sv : Value} {kid : Nat → X} {k : Nat} {lv : Value} {la : List XR} {SS : List (List Nat)}
    (hL : XLoop cs w wr B C R O oA op a n s set sv kid k lv la SS) {su v' : Value} {T : List Nat} (hb : Fr cs wr w1) (hd : XOwn w1 (kid k) su v' T) (hn : T.Nodup) (hT : ∀ x ∈ T, wr.heap.size ≤ x) {o : Obj} {g cap : Nat}
    (hown : w3.ownsRow 0 32 6 (.slice (some ⟨g, 0, none⟩) (k + 1) cap) (k + 1) (xrows la ++ xcells (kid k, su, v'))) (hg : (w1.alloc o).grownBy w3 lv.ownBlock) (hat : lv.ownBlock = some g ∨ g = w1.heap.size + 1) :
    (w3.heap[O]? = wr.heap[O]?) ∧ XLoop cs w (w3.setCell ⟨O, 5, none⟩ (.slice (some ⟨g, 0, none⟩) (k + 1) cap)) B C R O oA op a n s set sv kid (k + 1) (.slice (some ⟨g, 0, none⟩) (k + 1) cap) (la ++ [(kid k, su, v')]) (SS ++ [T]) := by
  obtain ⟨o0, o1, o2, o3, o4, o5, o6, o7, o8⟩ := hL.ord
  have hs := hL.size
  have hbs := hb.size
  have hcs : ∀ x, w.heap.size ≤ x → x ∉ cs := fun x hx hc => by have := o0 x hc; omega
  have hws := hL.bel.size
  have hA1 : XBuild B w1 kid k lv la SS := hL.rows.same (fun x hx hx' => hb.block x hx' (hcs x (by omega)))
  have hlt := hL.rows.rows.lt
  have hlv : ∀ x, lv.ownBlock = some x → B ≤ x ∧ x < wr.heap.size := fun x hx => ⟨(hL.rows.out x hx).2, (hL.rows.own.lt x hx).2⟩
  have hA3 := hA1.app (o := o) (g := g) (cap := cap) hd hn (fun x hx hx' => by have := hT x hx; have := hlt x hx'; omega) (fun x hx e => by have := hT x hx; have := (hlv x e).2; omega) (fun x hx => by have := hT x hx; omega) (by omega) hown hg hat
  have hs1 : (w1.alloc o).heap.size = w1.heap.size + 1 := by simp
  have low : ∀ x, w.heap.size ≤ x → x < B → w3.heap[x]? = wr.heap[x]? := fun x hw hx =>
    (hg.block x (by omega) (fun e => by have := (hlv x e.symm).1; omega)).trans ((Below.heap_alloc w1 o x (by omega)).trans (hb.block x (by omega) (hcs x hw)))
  have hset : ∀ x, x ≠ O → (w3.setCell ⟨O, 5, none⟩ (.slice (some ⟨g, 0, none⟩) (k + 1) cap)).heap[x]? = w3.heap[x]? := fun x hx => Below.heap_setCell w3 ⟨O, 5, none⟩ _ x hx
  have hgs := hg.size
  have hO3 := low O o3 o6
  have e : (w3.setCell ⟨O, 5, none⟩ (.slice (some ⟨g, 0, none⟩) (k + 1) cap)).heap.size = w3.heap.size := by simp
  have hfr : Fr cs w w3 := ⟨hg.os.trans (hb.os.trans hL.bel.os), hg.tape.trans (hb.tape.trans hL.bel.tape), hg.output.trans (hb.output.trans hL.bel.output), by omega, fun x hx hc => (hg.block x (by omega) (fun e => by have := (hlv x e.symm).1; omega)).trans ((Below.heap_alloc w1 o x (by omega)).trans ((hb.block x (by omega) hc).trans (hL.bel.block x hx hc)))⟩
  refine ⟨hO3, hfr.setCell _ _ (by exact o3), by omega, hL.ord, (hset C o7).trans ((low C o1 o4).trans hL.arg), (hset R o8).trans ((low R o2 o5).trans hL.res), ?_, ⟨hL.sets.1.sameX (fun x hx => ?_), hL.sets.2⟩, hA3.same (fun x hx _ => hset x (by omega))⟩
  · have h1 : Six w3 O op a n s sv lv 32 := hO3.trans hL.out
    exact h1.set5 _
  · obtain ⟨q1, q2, q3, q4⟩ := hL.sets.2 x hx
    exact (hset x q3).trans (low x q1 q2)

theorem XLoop.done {cs : List Nat} {w wr : World} {B C R O : Nat} {oA : Obj} {op a n : Int} {s : ByteArray} {set : List Int} {sv : Value} {kid : Nat → X} {k : Nat} {lv : Value} {la : List XR} {SS : List (List Nat)}
    (hL : XLoop cs w wr B C R O oA op a n s set sv kid k lv la SS) (hp : s.size ≤ maxLen ∧ (-9223372036854775808 ≤ n ∧ n ≤ 9223372036854775807) ∧ set.length ≤ maxLen) :
    Fr cs w (put6 wr R op a n s sv lv) ∧ ∃ S, XOwn (put6 wr R op a n s sv lv) (.mk op a n s set k kid) sv lv S ∧ S.Nodup ∧ ∀ x ∈ S, w.heap.size ≤ x := by
  obtain ⟨o0, o1, o2, o3, o4, o5, o6, o7, o8⟩ := hL.ord
  have hoth := put6_other wr R op a n s sv lv
  obtain ⟨S, h1, h2, h3⟩ := hL.rows.xsown
  have hwB : w.heap.size ≤ B := by omega
  refine ⟨(((((hL.bel.setCell _ _ (by exact o2)).setCell _ _ (by exact o2)).setCell _ _ (by exact o2)).setCell _ _ (by exact o2)).setCell _ _ (by exact o2)).setCell _ _ (by exact o2), sv.ownBlock.toList ++ S, XOwn.mk' hp (hL.sets.1.sameX (fun x hx => hoth x (hL.sets.2 x hx).2.2.2)) (h1.same (fun x hx => hoth x (by have := h3 x hx; omega))), ?_, ?_⟩
  · refine List.nodup_append.2 ⟨by cases sv.ownBlock <;> simp, h2, fun x hx y hy e => ?_⟩
    subst e
    simp only [Option.mem_toList] at hx
    have := (hL.sets.2 x hx).2.1
    have := h3 x hy
    omega
  · intro x hx
    rcases List.mem_append.1 hx with hx | hx
    · simp only [Option.mem_toList] at hx
      exact (hL.sets.2 x hx).1
    · have := h3 x hx; omega
end Go.Proofs.YtlclfmjpnchmbaaGreat

/- Rows of data that are being built, each owned; a datum whose kids are appended. No conditions. -/
namespace Go.Proofs.YtlclfmjpnchmbaaGreat
open Go.ChangeShapes Go.WideShapes Go.ChangeAt Go.RowKit

/-- The list so far, k long, at the value lv; its elements' blocks. -/
structure DBuild (B : Nat) (w : World) (kid : Nat → D) (k : Nat) (lv : Value) (la : List (D × Value)) (SS : List (List Nat)) : Prop where
  own : w.ownsRow 0 60 5 lv k (drows la)
  num : la.length = k
  rows : DAcc B w kid la SS
  out : ∀ g, lv.ownBlock = some g → g ∉ SS.flatten ∧ B ≤ g
theorem DBuild.nil (B : Nat) (w : World) (kid : Nat → D) : DBuild B w kid 0 (.slice none 0 0) [] [] :=
  ⟨⟨rfl, .inl ⟨rfl, rfl⟩⟩, rfl, DAcc.nil _ _ _, fun g h => by simp [Value.ownBlock] at h⟩
theorem DBuild.same {B : Nat} {w w' : World} {kid : Nat → D} {k : Nat} {lv : Value} {la : List (D × Value)} {SS : List (List Nat)} (h : DBuild B w kid k lv la SS) (hs : ∀ x, B ≤ x → x < w.heap.size → w'.heap[x]? = w.heap[x]?) : DBuild B w' kid k lv la SS :=
  ⟨own_same h.own (fun g hg => hs g (h.out g hg).2 (h.own.lt g hg).2), h.num, h.rows.same hs, h.out⟩
/-- One more. -/
theorem DBuild.app {B : Nat} {w w3 : World} {kid : Nat → D} {k : Nat} {lv v : Value} {la : List (D × Value)} {SS : List (List Nat)} {T : List Nat} {o : Obj} {g cap : Nat} (h : DBuild B w kid k lv la SS) (hd : DOwn w (kid k) v T) (hT : T.Nodup) (hTS : ∀ x ∈ T, x ∉ SS.flatten) (hTl : ∀ x ∈ T, lv.ownBlock ≠ some x) (hTB : ∀ x ∈ T, B ≤ x) (hB : B ≤ w.heap.size)
    (hown : w3.ownsRow 0 60 5 (.slice (some ⟨g, 0, none⟩) (k + 1) cap) (k + 1) (drows la ++ dcells (kid k, v))) (hg : (w.alloc o).grownBy w3 lv.ownBlock) (hat : lv.ownBlock = some g ∨ g = w.heap.size + 1) :
    DBuild B w3 kid (k + 1) (.slice (some ⟨g, 0, none⟩) (k + 1) cap) (la ++ [(kid k, v)]) (SS ++ [T]) := by
  have hlt := h.rows.lt
  have hTt := hd.there
  have hsz : (w.alloc o).heap.size = w.heap.size + 1 := by simp
  have keep : ∀ x, x < w.heap.size → lv.ownBlock ≠ some x → w3.heap[x]? = w.heap[x]? := fun x hx hne =>
    (hg.block x (by omega) (fun e => hne e.symm)).trans (Below.heap_alloc w o x hx)
  have hfl : (SS ++ [T]).flatten = SS.flatten ++ T := by simp
  have hd' : DOwn w (kid la.length) v T := by rw [h.num]; exact hd
  have a1 := h.rows.snoc hd' hT hTB hTS
  rw [h.num] at a1
  refine ⟨by rw [drows_append]; exact hown, by simp [h.num], ⟨a1.len, a1.ks, fun i hi => ?_, a1.nd, a1.ge⟩, ?_⟩
  · obtain ⟨u', T', k1, k2, k3⟩ := a1.each i hi
    refine ⟨u', T', k1, k2, k3.same _ (fun x hx => keep x (k3.there _ x hx) (fun e => ?_))⟩
    have hx' := mem_flat k2 hx
    rw [hfl, List.mem_append] at hx'
    exact hx'.elim (h.out x e).1 (fun hx => hTl x hx e)
  · intro x hx
    simp only [Value.ownBlock, Option.some.injEq] at hx
    subst hx
    rw [hfl, List.mem_append]
    rcases hat with hat | hat
    · exact ⟨fun hx => hx.elim (h.out g hat).1 (fun hx => hTl g hx hat), (h.out g hat).2⟩
    · refine ⟨fun hx => ?_, by omega⟩
      rcases hx with hx | hx
      · have := hlt g hx; omega
      · have := hTt g hx; omega
/-- The list as it stands. -/
theorem DBuild.xsown {B : Nat} {w : World} {kid : Nat → D} {k : Nat} {lv : Value} {la : List (D × Value)} {SS : List (List Nat)} (h : DBuild B w kid k lv la SS) : ∃ S, SOwn w k kid lv S ∧ S.Nodup ∧ ∀ x ∈ S, B ≤ x := by
  rcases h.own.2 with ⟨h1, h2⟩ | ⟨g, cap, cur, h1, hb, hg, hc, hm, hs, ht⟩
  · exact ⟨[], .inl ⟨h2, h1, rfl⟩, by simp, fun x hx => by simp at hx⟩
  · subst h1
    refine ⟨g :: SS.flatten, .inr ⟨g, cap, la, SS, rfl, h.own, h.num, by rw [h.rows.len]; exact h.num, h.rows.ks, rfl, fun i hi => h.rows.each i (by rw [h.num]; exact hi)⟩, List.nodup_cons.2 ⟨(h.out g rfl).1, h.rows.nd⟩, fun x hx => ?_⟩
    rcases List.mem_cons.1 hx with rfl | hx
    · exact (h.out x rfl).2
    · exact h.rows.ge x hx

/-- What the loop keeps: the argument's block C, the result's R, the datum's own O; the kids so far, all from block B on. -/
structure DLoop (w wr : World) (B C R O : Nat) (oA : Obj) (op a n : Int) (s : ByteArray) (kid : Nat → D) (k : Nat) (lv : Value) (la : List (D × Value)) (SS : List (List Nat)) : Prop where
  bel : Fr [] w wr
  size : B ≤ wr.heap.size
  ord : w.heap.size ≤ C ∧ w.heap.size ≤ R ∧ w.heap.size ≤ O ∧ C < B ∧ R < B ∧ O < B ∧ C ≠ O ∧ R ≠ O
  arg : wr.heap[C]? = some oA
  res : Five wr R 0 0 0 ⟨#[]⟩ (.slice none 0 0) 60
  out : Five wr O op a n s lv 60
  rows : DBuild B wr kid k lv la SS

theorem DLoop.next {w wr w1 w3 : World} {B C R O : Nat} {oA : Obj} {op a n : Int} {s : ByteArray} {kid : Nat → D} {k : Nat} {lv : Value} {la : List (D × Value)} {SS : List (List Nat)}
    (hL : DLoop w wr B C R O oA op a n s kid k lv la SS) {v' : Value} {T : List Nat} (hb : Fr [] wr w1) (hd : DOwn w1 (kid k) v' T) (hn : T.Nodup) (hT : ∀ x ∈ T, wr.heap.size ≤ x) {o : Obj} {g cap : Nat}
    (hown : w3.ownsRow 0 60 5 (.slice (some ⟨g, 0, none⟩) (k + 1) cap) (k + 1) (drows la ++ dcells (kid k, v'))) (hg : (w1.alloc o).grownBy w3 lv.ownBlock) (hat : lv.ownBlock = some g ∨ g = w1.heap.size + 1) :
    (w3.heap[O]? = wr.heap[O]?) ∧ DLoop w (w3.setCell ⟨O, 4, none⟩ (.slice (some ⟨g, 0, none⟩) (k + 1) cap)) B C R O oA op a n s kid (k + 1) (.slice (some ⟨g, 0, none⟩) (k + 1) cap) (la ++ [(kid k, v')]) (SS ++ [T]) := by
  obtain ⟨o1, o2, o3, o4, o5, o6, o7, o8⟩ := hL.ord
  have hs := hL.size
  have hbs := hb.size
  have hcs : ∀ x : Nat, x ∉ ([] : List Nat) := fun x => by simp
  have hws := hL.bel.size
  have hA1 : DBuild B w1 kid k lv la SS := hL.rows.same (fun x hx hx' => hb.block x hx' (hcs x))
  have hlt := hL.rows.rows.lt
  have hlv : ∀ x, lv.ownBlock = some x → B ≤ x ∧ x < wr.heap.size := fun x hx => ⟨(hL.rows.out x hx).2, (hL.rows.own.lt x hx).2⟩
  have hA3 := hA1.app (o := o) (g := g) (cap := cap) hd hn (fun x hx hx' => by have := hT x hx; have := hlt x hx'; omega) (fun x hx e => by have := hT x hx; have := (hlv x e).2; omega) (fun x hx => by have := hT x hx; omega) (by omega) hown hg hat
  have hs1 : (w1.alloc o).heap.size = w1.heap.size + 1 := by simp
  have low : ∀ x, x < B → w3.heap[x]? = wr.heap[x]? := fun x hx =>
    (hg.block x (by omega) (fun e => by have := (hlv x e.symm).1; omega)).trans ((Below.heap_alloc w1 o x (by omega)).trans (hb.block x (by omega) (hcs x)))
  have hset : ∀ x, x ≠ O → (w3.setCell ⟨O, 4, none⟩ (.slice (some ⟨g, 0, none⟩) (k + 1) cap)).heap[x]? = w3.heap[x]? := fun x hx => Below.heap_setCell w3 ⟨O, 4, none⟩ _ x hx
  have hgs := hg.size
  have hO3 := low O o6
  have e : (w3.setCell ⟨O, 4, none⟩ (.slice (some ⟨g, 0, none⟩) (k + 1) cap)).heap.size = w3.heap.size := by simp
  have hfr : Fr [] w w3 := ⟨hg.os.trans (hb.os.trans hL.bel.os), hg.tape.trans (hb.tape.trans hL.bel.tape), hg.output.trans (hb.output.trans hL.bel.output), by omega, fun x hx hc => (low x (by omega)).trans (hL.bel.block x hx hc)⟩
  refine ⟨hO3, hfr.setCell _ _ (by exact o3), by omega, hL.ord, (hset C o7).trans ((low C o4).trans hL.arg), (hset R o8).trans ((low R o5).trans hL.res), ?_, hA3.same (fun x hx _ => hset x (by omega))⟩
  have h1 : Five w3 O op a n s lv 60 := hO3.trans hL.out
  exact heap_setCell_same w3 O 4 _ _ _ h1

theorem DLoop.done {w wr : World} {B C R O : Nat} {oA : Obj} {op a n : Int} {s : ByteArray} {kid : Nat → D} {k : Nat} {lv : Value} {la : List (D × Value)} {SS : List (List Nat)}
    (hL : DLoop w wr B C R O oA op a n s kid k lv la SS) (hp : s.size ≤ maxLen ∧ (-9223372036854775808 ≤ n ∧ n ≤ 9223372036854775807)) :
    Fr [] w (put5 wr R op a n s lv) ∧ ∃ S, DOwn (put5 wr R op a n s lv) (.mk op a n s k kid) lv S ∧ S.Nodup ∧ ∀ x ∈ S, w.heap.size ≤ x := by
  obtain ⟨o1, o2, o3, o4, o5, o6, o7, o8⟩ := hL.ord
  have hoth := put5_other wr R op a n s lv
  obtain ⟨S, h1, h2, h3⟩ := hL.rows.xsown
  refine ⟨((((hL.bel.setCell _ _ (by exact o2)).setCell _ _ (by exact o2)).setCell _ _ (by exact o2)).setCell _ _ (by exact o2)).setCell _ _ (by exact o2), S, ⟨hp, h1.same (fun x hx => hoth x (by have := h3 x hx; omega))⟩, h2, fun x hx => by have := h3 x hx; omega⟩

theorem dat_start (w : World) (oA : Obj) (op a n : Int) (s : ByteArray) (kid : Nat → D) :
    DLoop w (((w.alloc oA).alloc (.cells #[.int .i64 0, .int .i64 0, .int .i64 0, .string ⟨#[]⟩, .slice none 0 0] 60)).alloc (.cells #[.int .i64 op, .int .i64 a, .int .i64 n, .string s, .slice none 0 0] 60)) (w.heap.size + 3) w.heap.size (w.heap.size + 1) (w.heap.size + 1 + 1) oA op a n s kid 0 (.slice none 0 0) [] [] := by
  obtain ⟨h1, h2, h3, h4, h5⟩ := threeX (Below.refl (((w.alloc oA).alloc (.cells #[.int .i64 0, .int .i64 0, .int .i64 0, .string ⟨#[]⟩, .slice none 0 0] 60)).alloc (.cells #[.int .i64 op, .int .i64 a, .int .i64 n, .string s, .slice none 0 0] 60)).heap.size _)
  exact ⟨Fr.below h5 _, h4, ⟨by omega, by omega, by omega, by omega, by omega, by omega, by omega, by omega⟩, h1, h2, h3, DBuild.nil _ _ _⟩
end Go.Proofs.YtlclfmjpnchmbaaGreat

/- A call of a Go function as one step of a region that draws its order, by its contract. No conditions. -/
namespace Go.Proofs.YtlclfmjpnchmbaaGreat

theorem step_call1 {P : Program} {ops : Array Oper} {o : Oper} {a : Act} {w : World} {K : Act → World → Prop} {Q : Exit → Act → World → Prop} {E : Prop} (hgd : o.guard = none) (f : FuncId) (x : Operand) (t : TypeId)
    (ho : o.op = .call { callee := .value (.func f), args := #[x], argTypes := #[t] }) (hcf : ∀ (vs : Array Value) (w : World), (callFunc f vs).run P w = .ok (.enter f vs) w) (vx : Value) (hx : a.eval x = vx) (R : Ending → World → Prop) (hc : Calls P f #[vx] w R)
    (h : ∀ e w', R e w' → ∃ v, e = .returned v ∧ K (a.put o.dst v) w') : if Region.wanted o (yielded ops a.tmps) = true then Oper.wp P o a w K Q else E := by
  have hw : Region.wanted o (yielded ops a.tmps) = true := by simp [Region.wanted, hgd]
  rw [if_pos hw]
  have hrun : (execOp a.eval o).run P w = .ok (.enter f #[vx]) w := by
    have e : execOp a.eval o = callFunc f (#[] ++ #[x].map a.eval ++ #[]) := by
      obtain ⟨dst, op, ty, pos, after, guard⟩ := o
      simp only at ho
      subst ho
      rfl
    rw [e, hcf]
    simp [hx]
  unfold Oper.wp
  rw [hrun, Oper.upon_enter]
  refine hc.mono fun e w' hr => ?_
  obtain ⟨v, rfl, hk⟩ := h e w' hr
  exact hk
end Go.Proofs.YtlclfmjpnchmbaaGreat
