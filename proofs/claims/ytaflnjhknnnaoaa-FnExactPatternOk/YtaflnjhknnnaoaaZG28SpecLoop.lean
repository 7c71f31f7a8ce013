/- Rows of what is written that are being built, each owned. No conditions. -/
import Derived.Test.YtaflnjhknnnaoaaZG8StxOwn
import Derived.Test.YtaflnjhknnnaoaaZG9ImplDots
import Derived.Test.YtaflnjhknnnaoaaZG20Jobs
import Derived.Deep.AppendLies
namespace Go.Proofs.Ytaflnjhknnnaoaa
open Go.ChangeShapes Go.WideShapes Go.ChangeAt Go.RowKit

/-- The rows so far: each is owned, in blocks from B on. -/
structure XAcc (B : Nat) (w : World) (kid : Nat → X) (l : List XR) (SS : List (List Nat)) : Prop where
  len : SS.length = l.length
  ks : XKs kid l
  each : ∀ i, i < l.length → ∃ su u T, l[i]? = some (kid i, su, u) ∧ SS[i]? = some T ∧ XOwn w (kid i) su u T
  nd : SS.flatten.Nodup
  ge : ∀ x ∈ SS.flatten, B ≤ x
theorem XAcc.nil (B : Nat) (w : World) (kid : Nat → X) : XAcc B w kid [] [] := ⟨rfl, XKs.nil _, fun i hi => by simp at hi, by simp, by simp⟩
theorem XAcc.lt {B : Nat} {w : World} {kid : Nat → X} {l : List XR} {SS : List (List Nat)} (h : XAcc B w kid l SS) : ∀ x ∈ SS.flatten, x < w.heap.size := by
  intro x hx
  obtain ⟨T, hT, hxT⟩ := List.mem_flatten.1 hx
  obtain ⟨i, hi, rfl⟩ := List.mem_iff_getElem.1 hT
  obtain ⟨su, u, T', k1, k2, k3⟩ := h.each i (by rw [← h.len]; exact hi)
  rw [List.getElem?_eq_getElem hi] at k2
  injection k2 with k2
  exact k3.there _ x (by rw [← k2]; exact hxT)
theorem XAcc.same {B : Nat} {w w' : World} {kid : Nat → X} {l : List XR} {SS : List (List Nat)} (h : XAcc B w kid l SS) (hs : ∀ x, B ≤ x → x < w.heap.size → w'.heap[x]? = w.heap[x]?) : XAcc B w' kid l SS :=
  ⟨h.len, h.ks, fun i hi => by
    obtain ⟨su, u, T, k1, k2, k3⟩ := h.each i hi
    exact ⟨su, u, T, k1, k2, k3.same _ (fun x hx => hs x (h.ge x (mem_flatX k2 hx)) (h.lt x (mem_flatX k2 hx)))⟩, h.nd, h.ge⟩
theorem XAcc.snoc {B : Nat} {w : World} {kid : Nat → X} {l : List XR} {SS : List (List Nat)} (h : XAcc B w kid l SS) {su u : Value} {T : List Nat} (hv : XOwn w (kid l.length) su u T) (hn : T.Nodup) (hge : ∀ x ∈ T, B ≤ x) (hd : ∀ x ∈ T, x ∉ SS.flatten) : XAcc B w kid (l ++ [(kid l.length, su, u)]) (SS ++ [T]) := by
  refine ⟨by simp [h.len], h.ks.snoc (su, u), fun i hi => ?_, ?_, ?_⟩
  · rcases Nat.lt_or_ge i l.length with h1 | h1
    · obtain ⟨su', u', T', k1, k2, k3⟩ := h.each i h1
      exact ⟨su', u', T', by rw [List.getElem?_append_left h1]; exact k1, by rw [List.getElem?_append_left (by rw [h.len]; exact h1)]; exact k2, k3⟩
    · have hi' : i = l.length := by simp at hi; omega
      subst hi'
      exact ⟨su, u, T, by simp, by rw [← h.len]; simp, hv⟩
  · rw [List.flatten_append]
    simp only [List.flatten_cons, List.flatten_nil, List.append_nil]
    exact List.nodup_append.2 ⟨h.nd, hn, fun a ha b hb e => hd b hb (e ▸ ha)⟩
  · intro x hx
    rw [List.flatten_append] at hx
    simp only [List.flatten_cons, List.flatten_nil, List.append_nil] at hx
    rcases List.mem_append.1 hx with hx | hx
    · exact h.ge x hx
    · exact hge x hx

/-- A row goes on by one node that is owned. -/
theorem row_stepO {w wr w2 : World} {e n cap : Nat} {l : List XR} {junk : List Value} {kid : Nat → X} {sv v : Value} {SS : List (List Nat)} {T : List Nat}
    (hown : wr.ownsRow w.heap.size e 6 (.slice (some ⟨w.heap.size, 0, none⟩) n cap) n (xrows l ++ junk)) (hj : 6 ≤ junk.length) (hacc : XAcc (w.heap.size + 1) wr kid l SS)
    (hbel : Below w.heap.size w wr) (hsz : w.heap.size < wr.heap.size) (hb : Below wr.heap.size wr w2) (hv : XOwn w2 (kid l.length) sv v T) (hn : T.Nodup) (hT : ∀ x ∈ T, wr.heap.size ≤ x) :
    (st6 w2 w.heap.size (l.length * 6) (kid l.length) sv v).ownsRow w.heap.size e 6 (.slice (some ⟨w.heap.size, 0, none⟩) n cap) n (xrows (l ++ [(kid l.length, sv, v)]) ++ junk.drop 6) ∧
    XAcc (w.heap.size + 1) (st6 w2 w.heap.size (l.length * 6) (kid l.length) sv v) kid (l ++ [(kid l.length, sv, v)]) (SS ++ [T]) ∧ Below w.heap.size w (st6 w2 w.heap.size (l.length * 6) (kid l.length) sv v) ∧ w.heap.size < (st6 w2 w.heap.size (l.length * 6) (kid l.length) sv v).heap.size := by
  obtain ⟨q, g⟩ := stored6 (own_belowX hown hb) hj (kid l.length) sv v
  have hb2 : Below w.heap.size w w2 := hbel.trans (hb.mono (by omega))
  have hlt := hacc.lt
  have a2 : XAcc (w.heap.size + 1) w2 kid l SS := hacc.same (fun x _ hx => hb.block x hx)
  have a3 := a2.snoc hv hn (fun x hx => by have := hT x hx; omega) (fun x hx hx' => by have := hT x hx; have := hlt x hx'; omega)
  refine ⟨q, a3.same (fun x hx hx' => g.block x hx' (by intro e; injection e with e; omega)), hb2.trans ⟨g.os, g.tape, g.output, g.size, fun k hk => g.block k (by have := hb2.size; omega) (by intro e; injection e with e; omega)⟩, Nat.lt_of_lt_of_le hsz (Nat.le_trans hb.size g.size)⟩

/-- Rows that are done. -/
theorem XAcc.done {w : World} {base g cap n B : Nat} {kid : Nat → X} {l : List XR} {SS : List (List Nat)} (h : XAcc B w kid l SS) (hown : w.ownsRow base 35 6 (.slice (some ⟨g, 0, none⟩) n cap) n (xrows l)) (hl : l.length = n) (hg : g < B) :
    XsOwn w n kid (.slice (some ⟨g, 0, none⟩) n cap) (g :: SS.flatten) ∧ (g :: SS.flatten).Nodup ∧ ∀ x ∈ g :: SS.flatten, g ≤ x := by
  refine ⟨.inr ⟨g, cap, l, SS, rfl, own_base hown (fun _ _ => Nat.zero_le _), hl, by rw [h.len]; exact hl, h.ks, rfl, fun i hi => h.each i (by omega)⟩, List.nodup_cons.2 ⟨fun hx => by have := h.ge g hx; omega, h.nd⟩, fun x hx => ?_⟩
  rcases List.mem_cons.1 hx with rfl | hx
  · exact Nat.le_refl _
  · have := h.ge x hx; omega

/-- The list so far, k long, at the value lv; its elements' blocks. -/
structure XBuild (B : Nat) (w : World) (kid : Nat → X) (k : Nat) (lv : Value) (la : List XR) (SS : List (List Nat)) : Prop where
  own : w.ownsRow 0 35 6 lv k (xrows la)
  num : la.length = k
  rows : XAcc B w kid la SS
  out : ∀ g, lv.ownBlock = some g → g ∉ SS.flatten ∧ B ≤ g
theorem XBuild.nil (B : Nat) (w : World) (kid : Nat → X) : XBuild B w kid 0 (.slice none 0 0) [] [] :=
  ⟨⟨rfl, .inl ⟨rfl, rfl⟩⟩, rfl, XAcc.nil _ _ _, fun g h => by simp [Value.ownBlock] at h⟩
theorem XBuild.same {B : Nat} {w w' : World} {kid : Nat → X} {k : Nat} {lv : Value} {la : List XR} {SS : List (List Nat)} (h : XBuild B w kid k lv la SS) (hs : ∀ x, B ≤ x → x < w.heap.size → w'.heap[x]? = w.heap[x]?) : XBuild B w' kid k lv la SS :=
  ⟨own_sameX h.own (fun g hg => hs g (h.out g hg).2 (h.own.lt g hg).2), h.num, h.rows.same hs, h.out⟩
/-- One more. -/
theorem XBuild.app {B : Nat} {w w3 : World} {kid : Nat → X} {k : Nat} {lv su v : Value} {la : List XR} {SS : List (List Nat)} {T : List Nat} {o : Obj} {g cap : Nat} (h : XBuild B w kid k lv la SS) (hd : XOwn w (kid k) su v T) (hT : T.Nodup) (hTS : ∀ x ∈ T, x ∉ SS.flatten) (hTl : ∀ x ∈ T, lv.ownBlock ≠ some x) (hTB : ∀ x ∈ T, B ≤ x) (hB : B ≤ w.heap.size)
    (hown : w3.ownsRow 0 35 6 (.slice (some ⟨g, 0, none⟩) (k + 1) cap) (k + 1) (xrows la ++ xcells (kid k, su, v))) (hg : (w.alloc o).grownBy w3 lv.ownBlock) (hat : lv.ownBlock = some g ∨ g = w.heap.size + 1) :
    XBuild B w3 kid (k + 1) (.slice (some ⟨g, 0, none⟩) (k + 1) cap) (la ++ [(kid k, su, v)]) (SS ++ [T]) := by
  have hlt := h.rows.lt
  have hTt := hd.there
  have hsz : (w.alloc o).heap.size = w.heap.size + 1 := by simp
  have keep : ∀ x, x < w.heap.size → lv.ownBlock ≠ some x → w3.heap[x]? = w.heap[x]? := fun x hx hne =>
    (hg.block x (by omega) (fun e => hne e.symm)).trans (Below.heap_alloc w o x hx)
  have hfl : (SS ++ [T]).flatten = SS.flatten ++ T := by simp
  have hd' : XOwn w (kid la.length) su v T := by rw [h.num]; exact hd
  have a1 := h.rows.snoc hd' hT hTB hTS
  rw [h.num] at a1
  refine ⟨by rw [xrows_append]; exact hown, by simp [h.num], ⟨a1.len, a1.ks, fun i hi => ?_, a1.nd, a1.ge⟩, ?_⟩
  · obtain ⟨su', u', T', k1, k2, k3⟩ := a1.each i hi
    refine ⟨su', u', T', k1, k2, k3.same _ (fun x hx => keep x (k3.there _ x hx) (fun e => ?_))⟩
    have hx' := mem_flatX k2 hx
    rw [hfl, List.mem_append] at hx'
    exact hx'.elim (h.out x e).1 (fun hx => hTl x hx e)
  · intro x hx
    simp only [Value.ownBlock, Option.some.injEq] at hx
    subst hx
    rw [hfl, List.mem_append]
    rcases hat with hat | hat
    · exact ⟨fun hx => hx.elim (h.out g hat).1 (fun hx => hTl g hx hat), (h.out g hat).2⟩
    · refine ⟨fun hx => ?_, by omega⟩
      rcases hx with hx | hx
      · have := hlt g hx; omega
      · have := hTt g hx; omega
/-- The list as it stands. -/
theorem XBuild.xsown {B : Nat} {w : World} {kid : Nat → X} {k : Nat} {lv : Value} {la : List XR} {SS : List (List Nat)} (h : XBuild B w kid k lv la SS) : ∃ S, XsOwn w k kid lv S ∧ S.Nodup ∧ ∀ x ∈ S, B ≤ x := by
  rcases h.own.2 with ⟨h1, h2⟩ | ⟨g, cap, cur, h1, hb, hg, hc, hm, hs, ht⟩
  · exact ⟨[], .inl ⟨h2, h1, rfl⟩, by simp, fun x hx => by simp at hx⟩
  · subst h1
    refine ⟨g :: SS.flatten, .inr ⟨g, cap, la, SS, rfl, h.own, h.num, by rw [h.rows.len]; exact h.num, h.rows.ks, rfl, fun i hi => h.rows.each i (by rw [h.num]; exact hi)⟩, List.nodup_cons.2 ⟨(h.out g rfl).1, h.rows.nd⟩, fun x hx => ?_⟩
    rcases List.mem_cons.1 hx with rfl | hx
    · exact (h.out x rfl).2
    · exact h.rows.ge x hx
end Go.Proofs.Ytaflnjhknnnaoaa

/- A node whose kids are appended one by one: what the loop keeps. No conditions. -/
namespace Go.Proofs.Ytaflnjhknnnaoaa
open Go.ChangeShapes Go.WideShapes Go.ChangeAt Go.RowKit

theorem Fr.toBelow {w w' : World} (h : Fr [] w w') : Below w.heap.size w w' := ⟨h.os, h.tape, h.output, h.size, fun x hx => h.block x hx (by simp)⟩
theorem Fr.setCell {cs : List Nat} {w w' : World} (h : Fr cs w w') (a : Addr) (v : Value) (ha : w.heap.size ≤ a.block) : Fr cs w (w'.setCell a v) :=
  ⟨h.os, h.tape, h.output, by have := h.size; simp; omega, fun x hx hc => (Below.heap_setCell w' a v x (by omega)).trans (h.block x hx hc)⟩

/-- What the loop keeps: the argument's block C, the result's R, the node's own O; its set; the kids so far, all from block B on. -/
structure XLoop (cs : List Nat) (w wr : World) (B C R O : Nat) (oA : Obj) (op a n : Int) (s : ByteArray) (set : List Int) (sv : Value) (kid : Nat → X) (k : Nat) (lv : Value) (la : List XR) (SS : List (List Nat)) : Prop where
  bel : Fr cs w wr
  size : B ≤ wr.heap.size
  ord : (∀ x ∈ cs, x < w.heap.size) ∧ w.heap.size ≤ C ∧ w.heap.size ≤ R ∧ w.heap.size ≤ O ∧ C < B ∧ R < B ∧ O < B ∧ C ≠ O ∧ R ≠ O
  arg : wr.heap[C]? = some oA
  res : Six wr R 0 0 0 ⟨#[]⟩ (.slice none 0 0) (.slice none 0 0) 35
  out : Six wr O op a n s sv lv 35
  sets : Own wr 0 sv set ∧ ∀ g, sv.ownBlock = some g → w.heap.size ≤ g ∧ g < B ∧ g ≠ O ∧ g ≠ R
  rows : XBuild B wr kid k lv la SS

theorem XLoop.next {cs : List Nat} {w wr w1 w3 : World} {B C R O : Nat} {oA : Obj} {op a n : Int} {s : ByteArray} {set : List Int} {sv : Value} {kid : Nat → X} {k : Nat} {lv : Value} {la : List XR} {SS : List (List Nat)}
    (hL : XLoop cs w wr B C R O oA op a n s set sv kid k lv la SS) {su v' : Value} {T : List Nat} (hb : Fr cs wr w1) (hd : XOwn w1 (kid k) su v' T) (hn : T.Nodup) (hT : ∀ x ∈ T, wr.heap.size ≤ x) {o : Obj} {g cap : Nat}
    (hown : w3.ownsRow 0 35 6 (.slice (some ⟨g, 0, none⟩) (k + 1) cap) (k + 1) (xrows la ++ xcells (kid k, su, v'))) (hg : (w1.alloc o).grownBy w3 lv.ownBlock) (hat : lv.ownBlock = some g ∨ g = w1.heap.size + 1) :
    (w3.heap[O]? = wr.heap[O]?) ∧ XLoop cs w (w3.setCell ⟨O, 5, none⟩ (.slice (some ⟨g, 0, none⟩) (k + 1) cap)) B C R O oA op a n s set sv kid (k + 1) (.slice (some ⟨g, 0, none⟩) (k + 1) cap) (la ++ [(kid k, su, v')]) (SS ++ [T]) := by
  obtain ⟨o0, o1, o2, o3, o4, o5, o6, o7, o8⟩ := hL.ord
  have hs := hL.size
  have hbs := hb.size
  have hcs : ∀ x, w.heap.size ≤ x → x ∉ cs := fun x hx hc => by have := o0 x hc; omega
  have hws := hL.bel.size
  have hA1 : XBuild B w1 kid k lv la SS := hL.rows.same (fun x hx hx' => hb.block x hx' (hcs x (by omega)))
  have hlt := hL.rows.rows.lt
  have hlv : ∀ x, lv.ownBlock = some x → B ≤ x ∧ x < wr.heap.size := fun x hx => ⟨(hL.rows.out x hx).2, (hL.rows.own.lt x hx).2⟩
  have hA3 := hA1.app (o := o) (g := g) (cap := cap) hd hn (fun x hx hx' => by have := hT x hx; have := hlt x hx'; omega) (fun x hx e => by have := hT x hx; have := (hlv x e).2; omega) (fun x hx => by have := hT x hx; omega) (by omega) hown hg hat
  have hs1 : (w1.alloc o).heap.size = w1.heap.size + 1 := by simp
  have low : ∀ x, w.heap.size ≤ x → x < B → w3.heap[x]? = wr.heap[x]? := fun x hw hx =>
    (hg.block x (by omega) (fun e => by have := (hlv x e.symm).1; omega)).trans ((Below.heap_alloc w1 o x (by omega)).trans (hb.block x (by omega) (hcs x hw)))
  have hset : ∀ x, x ≠ O → (w3.setCell ⟨O, 5, none⟩ (.slice (some ⟨g, 0, none⟩) (k + 1) cap)).heap[x]? = w3.heap[x]? := fun x hx => Below.heap_setCell w3 ⟨O, 5, none⟩ _ x hx
  have hgs := hg.size
  have hO3 := low O o3 o6
  have e : (w3.setCell ⟨O, 5, none⟩ (.slice (some ⟨g, 0, none⟩) (k + 1) cap)).heap.size = w3.heap.size := by simp
  have hfr : Fr cs w w3 := ⟨hg.os.trans (hb.os.trans hL.bel.os), hg.tape.trans (hb.tape.trans hL.bel.tape), hg.output.trans (hb.output.trans hL.bel.output), by omega, fun x hx hc => (hg.block x (by omega) (fun e => by have := (hlv x e.symm).1; omega)).trans ((Below.heap_alloc w1 o x (by omega)).trans ((hb.block x (by omega) hc).trans (hL.bel.block x hx hc)))⟩
  refine ⟨hO3, hfr.setCell _ _ (by exact o3), by omega, hL.ord, (hset C o7).trans ((low C o1 o4).trans hL.arg), (hset R o8).trans ((low R o2 o5).trans hL.res), ?_, ⟨hL.sets.1.sameX (fun x hx => ?_), hL.sets.2⟩, hA3.same (fun x hx _ => hset x (by omega))⟩
  · have h1 : Six w3 O op a n s sv lv 35 := hO3.trans hL.out
    exact h1.set5 _
  · obtain ⟨q1, q2, q3, q4⟩ := hL.sets.2 x hx
    exact (hset x q3).trans (low x q1 q2)

theorem XLoop.done {cs : List Nat} {w wr : World} {B C R O : Nat} {oA : Obj} {op a n : Int} {s : ByteArray} {set : List Int} {sv : Value} {kid : Nat → X} {k : Nat} {lv : Value} {la : List XR} {SS : List (List Nat)}
    (hL : XLoop cs w wr B C R O oA op a n s set sv kid k lv la SS) (hp : s.size ≤ maxLen ∧ (-9223372036854775808 ≤ n ∧ n ≤ 9223372036854775807) ∧ set.length ≤ maxLen) :
    Fr cs w (put6 wr R op a n s sv lv) ∧ ∃ S, XOwn (put6 wr R op a n s sv lv) (.mk op a n s set k kid) sv lv S ∧ S.Nodup ∧ ∀ x ∈ S, w.heap.size ≤ x := by
  obtain ⟨o0, o1, o2, o3, o4, o5, o6, o7, o8⟩ := hL.ord
  have hoth := put6_other wr R op a n s sv lv
  obtain ⟨S, h1, h2, h3⟩ := hL.rows.xsown
  have hwB : w.heap.size ≤ B := by omega
  refine ⟨(((((hL.bel.setCell _ _ (by exact o2)).setCell _ _ (by exact o2)).setCell _ _ (by exact o2)).setCell _ _ (by exact o2)).setCell _ _ (by exact o2)).setCell _ _ (by exact o2), sv.ownBlock.toList ++ S, XOwn.mk' hp (hL.sets.1.sameX (fun x hx => hoth x (hL.sets.2 x hx).2.2.2)) (h1.same (fun x hx => hoth x (by have := h3 x hx; omega))), ?_, ?_⟩
  · refine List.nodup_append.2 ⟨by cases sv.ownBlock <;> simp, h2, fun x hx y hy e => ?_⟩
    subst e
    simp only [Option.mem_toList] at hx
    have := (hL.sets.2 x hx).2.1
    have := h3 x hy
    omega
  · intro x hx
    rcases List.mem_append.1 hx with hx | hx
    · simp only [Option.mem_toList] at hx
      exact (hL.sets.2 x hx).1
    · have := h3 x hx; omega
end Go.Proofs.Ytaflnjhknnnaoaa
