/- Rows of what is written that are being built, each owned. No conditions. -/
import Derived.Test.YtoifhaakieigcaaStxOwn
import Derived.Deep.AppendLies
namespace Go.Proofs.Ytoifhaakieigcaa
open Go.ChangeShapes Go.WideShapes Go.ChangeAt Go.RowKit

/-- The rows so far: each is owned, in blocks from B on. -/
structure XAcc (B : Nat) (w : World) (kid : Nat → X) (l : List XR) (SS : List (List Nat)) : Prop where
  len : SS.length = l.length
  ks : XKs kid l
  each : ∀ i, i < l.length → ∃ su u T, l[i]? = some (kid i, su, u) ∧ SS[i]? = some T ∧ XOwn w (kid i) su u T
  nd : SS.flatten.Nodup
  ge : ∀ x ∈ SS.flatten, B ≤ x
theorem XAcc.nil (B : Nat) (w : World) (kid : Nat → X) : XAcc B w kid [] [] := ⟨rfl, XKs.nil _, fun i hi => by simp at hi, by simp, by simp⟩
theorem XAcc.lt {B : Nat} {w : World} {kid : Nat → X} {l : List XR} {SS : List (List Nat)} (h : XAcc B w kid l SS) : ∀ x ∈ SS.flatten, x < w.heap.size := by
  intro x hx
  obtain ⟨T, hT, hxT⟩ := List.mem_flatten.1 hx
  obtain ⟨i, hi, rfl⟩ := List.mem_iff_getElem.1 hT
  obtain ⟨su, u, T', k1, k2, k3⟩ := h.each i (by rw [← h.len]; exact hi)
  rw [List.getElem?_eq_getElem hi] at k2
  injection k2 with k2
  exact k3.there _ x (by rw [← k2]; exact hxT)
theorem XAcc.same {B : Nat} {w w' : World} {kid : Nat → X} {l : List XR} {SS : List (List Nat)} (h : XAcc B w kid l SS) (hs : ∀ x, B ≤ x → x < w.heap.size → w'.heap[x]? = w.heap[x]?) : XAcc B w' kid l SS :=
  ⟨h.len, h.ks, fun i hi => by
    obtain ⟨su, u, T, k1, k2, k3⟩ := h.each i hi
    exact ⟨su, u, T, k1, k2, k3.same _ (fun x hx => hs x (h.ge x (mem_flatX k2 hx)) (h.lt x (mem_flatX k2 hx)))⟩, h.nd, h.ge⟩
theorem XAcc.snoc {B : Nat} {w : World} {kid : Nat → X} {l : List XR} {SS : List (List Nat)} (h : XAcc B w kid l SS) {su u : Value} {T : List Nat} (hv : XOwn w (kid l.length) su u T) (hn : T.Nodup) (hge : ∀ x ∈ T, B ≤ x) (hd : ∀ x ∈ T, x ∉ SS.flatten) : XAcc B w kid (l ++ [(kid l.length, su, u)]) (SS ++ [T]) := by
  refine ⟨by simp [h.len], h.ks.snoc (su, u), fun i hi => ?_, ?_, ?_⟩
  · rcases Nat.lt_or_ge i l.length with h1 | h1
    · obtain ⟨su', u', T', k1, k2, k3⟩ := h.each i h1
      exact ⟨su', u', T', by rw [List.getElem?_append_left h1]; exact k1, by rw [List.getElem?_append_left (by rw [h.len]; exact h1)]; exact k2, k3⟩
    · have hi' : i = l.length := by simp at hi; omega
      subst hi'
      exact ⟨su, u, T, by simp, by rw [← h.len]; simp, hv⟩
  · rw [List.flatten_append]
    simp only [List.flatten_cons, List.flatten_nil, List.append_nil]
    exact List.nodup_append.2 ⟨h.nd, hn, fun a ha b hb e => hd b hb (e ▸ ha)⟩
  · intro x hx
    rw [List.flatten_append] at hx
    simp only [List.flatten_cons, List.flatten_nil, List.append_nil] at hx
    rcases List.mem_append.1 hx with hx | hx
    · exact h.ge x hx
    · exact hge x hx

/-- A row goes on by one node that is owned. -/
theorem row_stepO {w wr w2 : World} {e n cap : Nat} {l : List XR} {junk : List Value} {kid : Nat → X} {sv v : Value} {SS : List (List Nat)} {T : List Nat}
    (hown : wr.ownsRow w.heap.size e 6 (.slice (some ⟨w.heap.size, 0, none⟩) n cap) n (xrows l ++ junk)) (hj : 6 ≤ junk.length) (hacc : XAcc (w.heap.size + 1) wr kid l SS)
    (hbel : Below w.heap.size w wr) (hsz : w.heap.size < wr.heap.size) (hb : Below wr.heap.size wr w2) (hv : XOwn w2 (kid l.length) sv v T) (hn : T.Nodup) (hT : ∀ x ∈ T, wr.heap.size ≤ x) :
    (st6 w2 w.heap.size (l.length * 6) (kid l.length) sv v).ownsRow w.heap.size e 6 (.slice (some ⟨w.heap.size, 0, none⟩) n cap) n (xrows (l ++ [(kid l.length, sv, v)]) ++ junk.drop 6) ∧
    XAcc (w.heap.size + 1) (st6 w2 w.heap.size (l.length * 6) (kid l.length) sv v) kid (l ++ [(kid l.length, sv, v)]) (SS ++ [T]) ∧ Below w.heap.size w (st6 w2 w.heap.size (l.length * 6) (kid l.length) sv v) ∧ w.heap.size < (st6 w2 w.heap.size (l.length * 6) (kid l.length) sv v).heap.size := by
  obtain ⟨q, g⟩ := stored6 (own_belowX hown hb) hj (kid l.length) sv v
  have hb2 : Below w.heap.size w w2 := hbel.trans (hb.mono (by omega))
  have hlt := hacc.lt
  have a2 : XAcc (w.heap.size + 1) w2 kid l SS := hacc.same (fun x _ hx => hb.block x hx)
  have a3 := a2.snoc hv hn (fun x hx => by have := hT x hx; omega) (fun x hx hx' => by have := hT x hx; have := hlt x hx'; omega)
  refine ⟨q, a3.same (fun x hx hx' => g.block x hx' (by intro e; injection e with e; omega)), hb2.trans ⟨g.os, g.tape, g.output, g.size, fun k hk => g.block k (by have := hb2.size; omega) (by intro e; injection e with e; omega)⟩, Nat.lt_of_lt_of_le hsz (Nat.le_trans hb.size g.size)⟩

/-- Rows that are done. -/
theorem XAcc.done {w : World} {base g cap n B : Nat} {kid : Nat → X} {l : List XR} {SS : List (List Nat)} (h : XAcc B w kid l SS) (hown : w.ownsRow base 29 6 (.slice (some ⟨g, 0, none⟩) n cap) n (xrows l)) (hl : l.length = n) (hg : g < B) :
    XsOwn w n kid (.slice (some ⟨g, 0, none⟩) n cap) (g :: SS.flatten) ∧ (g :: SS.flatten).Nodup ∧ ∀ x ∈ g :: SS.flatten, g ≤ x := by
  refine ⟨.inr ⟨g, cap, l, SS, rfl, own_base hown (fun _ _ => Nat.zero_le _), hl, by rw [h.len]; exact hl, h.ks, rfl, fun i hi => h.each i (by omega)⟩, List.nodup_cons.2 ⟨fun hx => by have := h.ge g hx; omega, h.nd⟩, fun x hx => ?_⟩
  rcases List.mem_cons.1 hx with rfl | hx
  · exact Nat.le_refl _
  · have := h.ge x hx; omega

/-- The list so far, k long, at the value lv; its elements' blocks. -/
structure XBuild (B : Nat) (w : World) (kid : Nat → X) (k : Nat) (lv : Value) (la : List XR) (SS : List (List Nat)) : Prop where
  own : w.ownsRow 0 29 6 lv k (xrows la)
  num : la.length = k
  rows : XAcc B w kid la SS
  out : ∀ g, lv.ownBlock = some g → g ∉ SS.flatten ∧ B ≤ g
theorem XBuild.nil (B : Nat) (w : World) (kid : Nat → X) : XBuild B w kid 0 (.slice none 0 0) [] [] :=
  ⟨⟨rfl, .inl ⟨rfl, rfl⟩⟩, rfl, XAcc.nil _ _ _, fun g h => by simp [Value.ownBlock] at h⟩
theorem XBuild.same {B : Nat} {w w' : World} {kid : Nat → X} {k : Nat} {lv : Value} {la : List XR} {SS : List (List Nat)} (h : XBuild B w kid k lv la SS) (hs : ∀ x, B ≤ x → x < w.heap.size → w'.heap[x]? = w.heap[x]?) : XBuild B w' kid k lv la SS :=
  ⟨own_sameX h.own (fun g hg => hs g (h.out g hg).2 (h.own.lt g hg).2), h.num, h.rows.same hs, h.out⟩
/-- One more. -/
theorem XBuild.app {B : Nat} {w w3 : World} {kid : Nat → X} {k : Nat} {lv su v : Value} {la : List XR} {SS : List (List Nat)} {T : List Nat} {o : Obj} {g cap : Nat} (h : XBuild B w kid k lv la SS) (hd : XOwn w (kid k) su v T) (hT : T.Nodup) (hTS : ∀ x ∈ T, x ∉ SS.flatten) (hTl : ∀ x ∈ T, lv.ownBlock ≠ some x) (hTB : ∀ x ∈ T, B ≤ x) (hB : B ≤ w.heap.size)
    (hown : w3.ownsRow 0 29 6 (.slice (some ⟨g, 0, none⟩) (k + 1) cap) (k + 1) (xrows la ++ xcells (kid k, su, v))) (hg : (w.alloc o).grownBy w3 lv.ownBlock) (hat : lv.ownBlock = some g ∨ g = w.heap.size + 1) :
    XBuild B w3 kid (k + 1) (.slice (some ⟨g, 0, none⟩) (k + 1) cap) (la ++ [(kid k, su, v)]) (SS ++ [T]) := by
  have hlt := h.rows.lt
  have hTt := hd.there
  have hsz : (w.alloc o).heap.size = w.heap.size + 1 := by simp
  have keep : ∀ x, x < w.heap.size → lv.ownBlock ≠ some x → w3.heap[x]? = w.heap[x]? := fun x hx hne =>
    (hg.block x (by omega) (fun e => hne e.symm)).trans (Below.heap_alloc w o x hx)
  have hfl : (SS ++ [T]).flatten = SS.flatten ++ T := by simp
  have hd' : XOwn w (kid la.length) su v T := by rw [h.num]; exact hd
  have a1 := h.rows.snoc hd' hT hTB hTS
  rw [h.num] at a1
  refine ⟨by rw [xrows_append]; exact hown, by simp [h.num], ⟨a1.len, a1.ks, fun i hi => ?_, a1.nd, a1.ge⟩, ?_⟩
  · obtain ⟨su', u', T', k1, k2, k3⟩ := a1.each i hi
    refine ⟨su', u', T', k1, k2, k3.same _ (fun x hx => keep x (k3.there _ x hx) (fun e => ?_))⟩
    have hx' := mem_flatX k2 hx
    rw [hfl, List.mem_append] at hx'
    exact hx'.elim (h.out x e).1 (fun hx => hTl x hx e)
  · intro x hx
    simp only [Value.ownBlock, Option.some.injEq] at hx
    subst hx
    rw [hfl, List.mem_append]
    rcases hat with hat | hat
    · exact ⟨fun hx => hx.elim (h.out g hat).1 (fun hx => hTl g hx hat), (h.out g hat).2⟩
    · refine ⟨fun hx => ?_, by omega⟩
      rcases hx with hx | hx
      · have := hlt g hx; omega
      · have := hTt g hx; omega
/-- The list as it stands. -/
theorem XBuild.xsown {B : Nat} {w : World} {kid : Nat → X} {k : Nat} {lv : Value} {la : List XR} {SS : List (List Nat)} (h : XBuild B w kid k lv la SS) : ∃ S, XsOwn w k kid lv S ∧ S.Nodup ∧ ∀ x ∈ S, B ≤ x := by
  rcases h.own.2 with ⟨h1, h2⟩ | ⟨g, cap, cur, h1, hb, hg, hc, hm, hs, ht⟩
  · exact ⟨[], .inl ⟨h2, h1, rfl⟩, by simp, fun x hx => by simp at hx⟩
  · subst h1
    refine ⟨g :: SS.flatten, .inr ⟨g, cap, la, SS, rfl, h.own, h.num, by rw [h.rows.len]; exact h.num, h.rows.ks, rfl, fun i hi => h.rows.each i (by rw [h.num]; exact hi)⟩, List.nodup_cons.2 ⟨(h.out g rfl).1, h.rows.nd⟩, fun x hx => ?_⟩
    rcases List.mem_cons.1 hx with rfl | hx
    · exact (h.out x rfl).2
    · exact h.rows.ge x hx
end Go.Proofs.Ytoifhaakieigcaa
