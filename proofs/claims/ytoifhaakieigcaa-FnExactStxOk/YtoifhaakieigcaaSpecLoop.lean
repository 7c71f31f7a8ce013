/- A node whose kids are appended one by one: what the loop keeps. No conditions. -/
import Derived.Test.YtoifhaakieigcaaStxAcc
import Derived.Test.YtoifhaakieigcaaSixCells
import Derived.Test.YtoifhaakieigcaaJobs
namespace Go.Proofs.Ytoifhaakieigcaa
open Go.ChangeShapes Go.WideShapes Go.ChangeAt Go.RowKit

theorem Fr.toBelow {w w' : World} (h : Fr [] w w') : Below w.heap.size w w' := ⟨h.os, h.tape, h.output, h.size, fun x hx => h.block x hx (by simp)⟩
theorem Fr.setCell {cs : List Nat} {w w' : World} (h : Fr cs w w') (a : Addr) (v : Value) (ha : w.heap.size ≤ a.block) : Fr cs w (w'.setCell a v) :=
  ⟨h.os, h.tape, h.output, by have := h.size; simp; omega, fun x hx hc => (Below.heap_setCell w' a v x (by omega)).trans (h.block x hx hc)⟩

/-- What the loop keeps: the argument's block C, the result's R, the node's own O; its set; the kids so far, all from block B on. -/
structure XLoop (cs : List Nat) (w wr : World) (B C R O : Nat) (oA : Obj) (op a n : Int) (s : ByteArray) (set : List Int) (sv : Value) (kid : Nat → X) (k : Nat) (lv : Value) (la : List XR) (SS : List (List Nat)) : Prop where
  bel : Fr cs w wr
  size : B ≤ wr.heap.size
  ord : (∀ x ∈ cs, x < w.heap.size) ∧ w.heap.size ≤ C ∧ w.heap.size ≤ R ∧ w.heap.size ≤ O ∧ C < B ∧ R < B ∧ O < B ∧ C ≠ O ∧ R ≠ O
  arg : wr.heap[C]? = some oA
  res : Six wr R 0 0 0 ⟨#[]⟩ (.slice none 0 0) (.slice none 0 0) 29
  out : Six wr O op a n s sv lv 29
  sets : Own wr 0 sv set ∧ ∀ g, sv.ownBlock = some g → w.heap.size ≤ g ∧ g < B ∧ g ≠ O ∧ g ≠ R
  rows : XBuild B wr kid k lv la SS

theorem XLoop.next {cs : List Nat} {w wr w1 w3 : World} {B C R O : Nat} {oA : Obj} {op a n : Int} {s : ByteArray} {set : List Int} {sv : Value} {kid : Nat → X} {k : Nat} {lv : Value} {la : List XR} {SS : List (List Nat)}
    (hL : XLoop cs w wr B C R O oA op a n s set sv kid k lv la SS) {su v' : Value} {T : List Nat} (hb : Fr cs wr w1) (hd : XOwn w1 (kid k) su v' T) (hn : T.Nodup) (hT : ∀ x ∈ T, wr.heap.size ≤ x) {o : Obj} {g cap : Nat}
    (hown : w3.ownsRow 0 29 6 (.slice (some ⟨g, 0, none⟩) (k + 1) cap) (k + 1) (xrows la ++ xcells (kid k, su, v'))) (hg : (w1.alloc o).grownBy w3 lv.ownBlock) (hat : lv.ownBlock = some g ∨ g = w1.heap.size + 1) :
    (w3.heap[O]? = wr.heap[O]?) ∧ XLoop cs w (w3.setCell ⟨O, 5, none⟩ (.slice (some ⟨g, 0, none⟩) (k + 1) cap)) B C R O oA op a n s set sv kid (k + 1) (.slice (some ⟨g, 0, none⟩) (k + 1) cap) (la ++ [(kid k, su, v')]) (SS ++ [T]) := by
  obtain ⟨o0, o1, o2, o3, o4, o5, o6, o7, o8⟩ := hL.ord
  have hs := hL.size
  have hbs := hb.size
  have hcs : ∀ x, w.heap.size ≤ x → x ∉ cs := fun x hx hc => by have := o0 x hc; omega
  have hws := hL.bel.size
  have hA1 : XBuild B w1 kid k lv la SS := hL.rows.same (fun x hx hx' => hb.block x hx' (hcs x (by omega)))
  have hlt := hL.rows.rows.lt
  have hlv : ∀ x, lv.ownBlock = some x → B ≤ x ∧ x < wr.heap.size := fun x hx => ⟨(hL.rows.out x hx).2, (hL.rows.own.lt x hx).2⟩
  have hA3 := hA1.app (o := o) (g := g) (cap := cap) hd hn (fun x hx hx' => by have := hT x hx; have := hlt x hx'; omega) (fun x hx e => by have := hT x hx; have := (hlv x e).2; omega) (fun x hx => by have := hT x hx; omega) (by omega) hown hg hat
  have hs1 : (w1.alloc o).heap.size = w1.heap.size + 1 := by simp
  have low : ∀ x, w.heap.size ≤ x → x < B → w3.heap[x]? = wr.heap[x]? := fun x hw hx =>
    (hg.block x (by omega) (fun e => by have := (hlv x e.symm).1; omega)).trans ((Below.heap_alloc w1 o x (by omega)).trans (hb.block x (by omega) (hcs x hw)))
  have hset : ∀ x, x ≠ O → (w3.setCell ⟨O, 5, none⟩ (.slice (some ⟨g, 0, none⟩) (k + 1) cap)).heap[x]? = w3.heap[x]? := fun x hx => Below.heap_setCell w3 ⟨O, 5, none⟩ _ x hx
  have hgs := hg.size
  have hO3 := low O o3 o6
  have e : (w3.setCell ⟨O, 5, none⟩ (.slice (some ⟨g, 0, none⟩) (k + 1) cap)).heap.size = w3.heap.size := by simp
  have hfr : Fr cs w w3 := ⟨hg.os.trans (hb.os.trans hL.bel.os), hg.tape.trans (hb.tape.trans hL.bel.tape), hg.output.trans (hb.output.trans hL.bel.output), by omega, fun x hx hc => (hg.block x (by omega) (fun e => by have := (hlv x e.symm).1; omega)).trans ((Below.heap_alloc w1 o x (by omega)).trans ((hb.block x (by omega) hc).trans (hL.bel.block x hx hc)))⟩
  refine ⟨hO3, hfr.setCell _ _ (by exact o3), by omega, hL.ord, (hset C o7).trans ((low C o1 o4).trans hL.arg), (hset R o8).trans ((low R o2 o5).trans hL.res), ?_, ⟨hL.sets.1.sameX (fun x hx => ?_), hL.sets.2⟩, hA3.same (fun x hx _ => hset x (by omega))⟩
  · have h1 : Six w3 O op a n s sv lv 29 := hO3.trans hL.out
    exact h1.set5 _
  · obtain ⟨q1, q2, q3, q4⟩ := hL.sets.2 x hx
    exact (hset x q3).trans (low x q1 q2)

theorem XLoop.done {cs : List Nat} {w wr : World} {B C R O : Nat} {oA : Obj} {op a n : Int} {s : ByteArray} {set : List Int} {sv : Value} {kid : Nat → X} {k : Nat} {lv : Value} {la : List XR} {SS : List (List Nat)}
    (hL : XLoop cs w wr B C R O oA op a n s set sv kid k lv la SS) (hp : s.size ≤ maxLen ∧ (-9223372036854775808 ≤ n ∧ n ≤ 9223372036854775807) ∧ set.length ≤ maxLen) :
    Fr cs w (put6 wr R op a n s sv lv) ∧ ∃ S, XOwn (put6 wr R op a n s sv lv) (.mk op a n s set k kid) sv lv S ∧ S.Nodup ∧ ∀ x ∈ S, w.heap.size ≤ x := by
  obtain ⟨o0, o1, o2, o3, o4, o5, o6, o7, o8⟩ := hL.ord
  have hoth := put6_other wr R op a n s sv lv
  obtain ⟨S, h1, h2, h3⟩ := hL.rows.xsown
  have hwB : w.heap.size ≤ B := by omega
  refine ⟨(((((hL.bel.setCell _ _ (by exact o2)).setCell _ _ (by exact o2)).setCell _ _ (by exact o2)).setCell _ _ (by exact o2)).setCell _ _ (by exact o2)).setCell _ _ (by exact o2), sv.ownBlock.toList ++ S, XOwn.mk' hp (hL.sets.1.sameX (fun x hx => hoth x (hL.sets.2 x hx).2.2.2)) (h1.same (fun x hx => hoth x (by have := h3 x hx; omega))), ?_, ?_⟩
  · refine List.nodup_append.2 ⟨by cases sv.ownBlock <;> simp, h2, fun x hx y hy e => ?_⟩
    subst e
    simp only [Option.mem_toList] at hx
    have := (hL.sets.2 x hx).2.1
    have := h3 x hy
    omega
  · intro x hx
    rcases List.mem_append.1 hx with hx | hx
    · simp only [Option.mem_toList] at hx
      exact (hL.sets.2 x hx).1
    · have := h3 x hx; omega
end Go.Proofs.Ytoifhaakieigcaa
