/- Rows of what is written that are being built, each owned. No conditions. -/
import Derived.Test.YtgbfflpdpfgnbaaGreatZG1StxOwn
import Derived.Test.YtgbfflpdpfgnbaaGreatRows
import Derived.Deep.AppendLies
import Derived.WalkKit
import Derived.ProofKit
import Derived.OwnWalk
import Derived.Laws.OwnMore
import Derived.Laws.ResultCell
namespace Go.Proofs.YtgbfflpdpfgnbaaGreat
open Go.ChangeShapes Go.WideShapes Go.ChangeAt Go.RowKit

/-- The rows so far: each is owned, in blocks from B on. -/
structure XAcc (B : Nat) (w : World) (kid : Nat → X) (l : List XR) (SS : List (List Nat)) : Prop where
  len : SS.length = l.length
  ks : XKs kid l
  each : ∀ i, i < l.length → ∃ su u T, l[i]? = some (kid i, su, u) ∧ SS[i]? = some T ∧ XOwn w (kid i) su u T
  nd : SS.flatten.Nodup
  ge : ∀ x ∈ SS.flatten, B ≤ x
theorem XAcc.nil (B : Nat) (w : World) (kid : Nat → X) : XAcc B w kid [] [] := ⟨rfl, XKs.nil _, fun i hi => by simp at hi, by simp, by simp⟩
theorem XAcc.lt {B : Nat} {w : World} {kid : Nat → X} {l : List XR} {SS : List (List Nat)} (h : XAcc B w kid l SS) : ∀ x ∈ SS.flatten, x < w.heap.size := by
  intro x hx
  obtain ⟨T, hT, hxT⟩ := List.mem_flatten.1 hx
  obtain ⟨i, hi, rfl⟩ := List.mem_iff_getElem.1 hT
  obtain ⟨su, u, T', k1, k2, k3⟩ := h.each i (by rw [← h.len]; exact hi)
  rw [List.getElem?_eq_getElem hi] at k2
  injection k2 with k2
  exact k3.there _ x (by rw [← k2]; exact hxT)
theorem XAcc.same {B : Nat} {w w' : World} {kid : Nat → X} {l : List XR} {SS : List (List Nat)} (h : XAcc B w kid l SS) (hs : ∀ x, B ≤ x → x < w.heap.size → w'.heap[x]? = w.heap[x]?) : XAcc B w' kid l SS :=
  ⟨h.len, h.ks, fun i hi => by
    obtain ⟨su, u, T, k1, k2, k3⟩ := h.each i hi
    exact ⟨su, u, T, k1, k2, k3.same _ (fun x hx => hs x (h.ge x (mem_flatX k2 hx)) (h.lt x (mem_flatX k2 hx)))⟩, h.nd, h.ge⟩
theorem XAcc.snoc {B : Nat} {w : World} {kid : Nat → X} {l : List XR} {SS : List (List Nat)} (h : XAcc B w kid l SS) {su u : Value} {T : List Nat} (hv : XOwn w (kid l.length) su u T) (hn : T.Nodup) (hge : ∀ x ∈ T, B ≤ x) (hd : ∀ x ∈ T, x ∉ SS.flatten) : XAcc B w kid (l ++ [(kid l.length, su, u)]) (SS ++ [T]) := by
  refine ⟨by simp [h.len], h.ks.snoc (su, u), fun i hi => ?_, ?_, ?_⟩
  · rcases Nat.lt_or_ge i l.length with h1 | h1
    · obtain ⟨su', u', T', k1, k2, k3⟩ := h.each i h1
      exact ⟨su', u', T', by rw [List.getElem?_append_left h1]; exact k1, by rw [List.getElem?_append_left (by rw [h.len]; exact h1)]; exact k2, k3⟩
    · have hi' : i = l.length := by simp at hi; omega
      subst hi'
      exact ⟨su, u, T, by simp, by rw [← h.len]; simp, hv⟩
  · rw [List.flatten_append]
    simp only [List.flatten_cons, List.flatten_nil, List.append_nil]
    exact List.nodup_append.2 ⟨h.nd, hn, fun a ha b hb e => hd b hb (e ▸ ha)⟩
  · intro x hx
    rw [List.flatten_append] at hx
    simp only [List.flatten_cons, List.flatten_nil, List.append_nil] at hx
    rcases List.mem_append.1 hx with hx | hx
    · exact h.ge x hx
    · exact hge x hx

/-- A row goes on by one node that is owned. -/
theorem row_stepO {w wr w2 : World} {e n cap : Nat} {l : List XR} {junk : List Value} {kid : Nat → X} {sv v : Value} {SS : List (List Nat)} {T : List Nat}
    (hown : wr.ownsRow w.heap.size e 6 (.slice (some ⟨w.heap.size, 0, none⟩) n cap) n (xrows l ++ junk)) (hj : 6 ≤ junk.length) (hacc : XAcc (w.heap.size + 1) wr kid l SS)
    (hbel : Below w.heap.size w wr) (hsz : w.heap.size < wr.heap.size) (hb : Below wr.heap.size wr w2) (hv : XOwn w2 (kid l.length) sv v T) (hn : T.Nodup) (hT : ∀ x ∈ T, wr.heap.size ≤ x) :
    (st6 w2 w.heap.size (l.length * 6) (kid l.length) sv v).ownsRow w.heap.size e 6 (.slice (some ⟨w.heap.size, 0, none⟩) n cap) n (xrows (l ++ [(kid l.length, sv, v)]) ++ junk.drop 6) ∧
    XAcc (w.heap.size + 1) (st6 w2 w.heap.size (l.length * 6) (kid l.length) sv v) kid (l ++ [(kid l.length, sv, v)]) (SS ++ [T]) ∧ Below w.heap.size w (st6 w2 w.heap.size (l.length * 6) (kid l.length) sv v) ∧ w.heap.size < (st6 w2 w.heap.size (l.length * 6) (kid l.length) sv v).heap.size := by
  obtain ⟨q, g⟩ := stored6 (own_belowX hown hb) hj (kid l.length) sv v
  have hb2 : Below w.heap.size w w2 := hbel.trans (hb.mono (by omega))
  have hlt := hacc.lt
  have a2 : XAcc (w.heap.size + 1) w2 kid l SS := hacc.same (fun x _ hx => hb.block x hx)
  have a3 := a2.snoc hv hn (fun x hx => by have := hT x hx; omega) (fun x hx hx' => by have := hT x hx; have := hlt x hx'; omega)
  refine ⟨q, a3.same (fun x hx hx' => g.block x hx' (by intro e; injection e with e; omega)), hb2.trans ⟨g.os, g.tape, g.output, g.size, fun k hk => g.block k (by have := hb2.size; omega) (by intro e; injection e with e; omega)⟩, Nat.lt_of_lt_of_le hsz (Nat.le_trans hb.size g.size)⟩

/-- Rows that are done. -/
theorem XAcc.done {w : World} {base g cap n B : Nat} {kid : Nat → X} {l : List XR} {SS : List (List Nat)} (h : XAcc B w kid l SS) (hown : w.ownsRow base 32 6 (.slice (some ⟨g, 0, none⟩) n cap) n (xrows l)) (hl : l.length = n) (hg : g < B) :
    XsOwn w n kid (.slice (some ⟨g, 0, none⟩) n cap) (g :: SS.flatten) ∧ (g :: SS.flatten).Nodup ∧ ∀ x ∈ g :: SS.flatten, g ≤ x := by
  refine ⟨.inr ⟨g, cap, l, SS, rfl, own_base hown (fun _ _ => Nat.zero_le _), hl, by rw [h.len]; exact hl, h.ks, rfl, fun i hi => h.each i (by omega)⟩, List.nodup_cons.2 ⟨fun hx => by have := h.ge g hx; omega, h.nd⟩, fun x hx => ?_⟩
  rcases List.mem_cons.1 hx with rfl | hx
  · exact Nat.le_refl _
  · have := h.ge x hx; omega

/-- The list so far, k long, at the value lv; its elements' blocks. -/
structure XBuild (B : Nat) (w : World) (kid : Nat → X) (k : Nat) (lv : Value) (la : List XR) (SS : List (List Nat)) : Prop where
  own : w.ownsRow 0 32 6 lv k (xrows la)
  num : la.length = k
  rows : XAcc B w kid la SS
  out : ∀ g, lv.ownBlock = some g → g ∉ SS.flatten ∧ B ≤ g
theorem XBuild.nil (B : Nat) (w : World) (kid : Nat → X) : XBuild B w kid 0 (.slice none 0 0) [] [] :=
  ⟨⟨rfl, .inl ⟨rfl, rfl⟩⟩, rfl, XAcc.nil _ _ _, fun g h => by simp [Value.ownBlock] at h⟩
theorem XBuild.same {B : Nat} {w w' : World} {kid : Nat → X} {k : Nat} {lv : Value} {la : List XR} {SS : List (List Nat)} (h : XBuild B w kid k lv la SS) (hs : ∀ x, B ≤ x → x < w.heap.size → w'.heap[x]? = w.heap[x]?) : XBuild B w' kid k lv la SS :=
  ⟨own_sameX h.own (fun g hg => hs g (h.out g hg).2 (h.own.lt g hg).2), h.num, h.rows.same hs, h.out⟩
/-- One more. -/
theorem XBuild.app {B : Nat} {w w3 : World} {kid : Nat → X} {k : Nat} {lv su v : Value} {la : List XR} {SS : List (List Nat)} {T : List Nat} {o : Obj} {g cap : Nat} (h : XBuild B w kid k lv la SS) (hd : XOwn w (kid k) su v T) (hT : T.Nodup) (hTS : ∀ x ∈ T, x ∉ SS.flatten) (hTl : ∀ x ∈ T, lv.ownBlock ≠ some x) (hTB : ∀ x ∈ T, B ≤ x) (hB : B ≤ w.heap.size)
    (hown : w3.ownsRow 0 32 6 (.slice (some ⟨g, 0, none⟩) (k + 1) cap) (k + 1) (xrows la ++ xcells (kid k, su, v))) (hg : (w.alloc o).grownBy w3 lv.ownBlock) (hat : lv.ownBlock = some g ∨ g = w.heap.size + 1) :
    XBuild B w3 kid (k + 1) (.slice (some ⟨g, 0, none⟩) (k + 1) cap) (la ++ [(kid k, su, v)]) (SS ++ [T]) := by
  have hlt := h.rows.lt
  have hTt := hd.there
  have hsz : (w.alloc o).heap.size = w.heap.size + 1 := by simp
  have keep : ∀ x, x < w.heap.size → lv.ownBlock ≠ some x → w3.heap[x]? = w.heap[x]? := fun x hx hne =>
    (hg.block x (by omega) (fun e => hne e.symm)).trans (Below.heap_alloc w o x hx)
  have hfl : (SS ++ [T]).flatten = SS.flatten ++ T := by simp
  have hd' : XOwn w (kid la.length) su v T := by rw [h.num]; exact hd
  have a1 := h.rows.snoc hd' hT hTB hTS
  rw [h.num] at a1
  refine ⟨by rw [xrows_append]; exact hown, by simp [h.num], ⟨a1.len, a1.ks, fun i hi => ?_, a1.nd, a1.ge⟩, ?_⟩
  · obtain ⟨su', u', T', k1, k2, k3⟩ := a1.each i hi
    refine ⟨su', u', T', k1, k2, k3.same _ (fun x hx => keep x (k3.there _ x hx) (fun e => ?_))⟩
    have hx' := mem_flatX k2 hx
    rw [hfl, List.mem_append] at hx'
    exact hx'.elim (h.out x e).1 (fun hx => hTl x hx e)
  · intro x hx
    simp only [Value.ownBlock, Option.some.injEq] at hx
    subst hx
    rw [hfl, List.mem_append]
    rcases hat with hat | hat
    · exact ⟨fun hx => hx.elim (h.out g hat).1 (fun hx => hTl g hx hat), (h.out g hat).2⟩
    · refine ⟨fun hx => ?_, by omega⟩
      rcases hx with hx | hx
      · have := hlt g hx; omega
      · have := hTt g hx; omega
/-- The list as it stands. -/
theorem XBuild.xsown {B : Nat} {w : World} {kid : Nat → X} {k : Nat} {lv : Value} {la : List XR} {SS : List (List Nat)} (h : XBuild B w kid k lv la SS) : ∃ S, XsOwn w k kid lv S ∧ S.Nodup ∧ ∀ x ∈ S, B ≤ x := by
  rcases h.own.2 with ⟨h1, h2⟩ | ⟨g, cap, cur, h1, hb, hg, hc, hm, hs, ht⟩
  · exact ⟨[], .inl ⟨h2, h1, rfl⟩, by simp, fun x hx => by simp at hx⟩
  · subst h1
    refine ⟨g :: SS.flatten, .inr ⟨g, cap, la, SS, rfl, h.own, h.num, by rw [h.rows.len]; exact h.num, h.rows.ks, rfl, fun i hi => h.rows.each i (by rw [h.num]; exact hi)⟩, List.nodup_cons.2 ⟨(h.out g rfl).1, h.rows.nd⟩, fun x hx => ?_⟩
    rcases List.mem_cons.1 hx with rfl | hx
    · exact (h.out x rfl).2
    · exact h.rows.ge x hx
end Go.Proofs.YtgbfflpdpfgnbaaGreat

/- Blocks of six cells: what they hold, and stored whole. No conditions. -/
namespace Go.Proofs.YtgbfflpdpfgnbaaGreat
open Go.ChangeShapes Go.WideShapes Go.ChangeAt Go.RowKit

def Six (w : World) (g : Nat) (a b c : Int) (s : ByteArray) (u v : Value) (ty : TypeId) : Prop := w.heap[g]? = some (.cells #[.int .i64 a, .int .i64 b, .int .i64 c, .string s, u, v] ty (0, 0))
theorem Six.lt {w : World} {g : Nat} {a b c : Int} {s : ByteArray} {u v : Value} {ty : TypeId} (h : Six w g a b c s u v ty) : g < w.heap.size := (Array.getElem?_eq_some_iff.1 h).1
theorem Six.below {w w' : World} {g : Nat} {a b c : Int} {s : ByteArray} {u v : Value} {ty : TypeId} (h : Six w g a b c s u v ty) (hb : Below w.heap.size w w') : Six w' g a b c s u v ty := (hb.block _ h.lt).trans h
theorem Six.cells {w : World} {g : Nat} {a b c : Int} {s : ByteArray} {u v : Value} {ty : TypeId} (h : Six w g a b c s u v ty) :
    w.cell? ⟨g, 0, none⟩ = some (.int .i64 a) ∧ w.cell? ⟨g, 1, none⟩ = some (.int .i64 b) ∧ w.cell? ⟨g, 2, none⟩ = some (.int .i64 c) ∧ w.cell? ⟨g, 3, none⟩ = some (.string s) ∧ w.cell? ⟨g, 4, none⟩ = some u ∧ w.cell? ⟨g, 5, none⟩ = some v :=
  ⟨cell_of_row w g 0 _ _ _ h, cell_of_row w g 1 _ _ _ h, cell_of_row w g 2 _ _ _ h, cell_of_row w g 3 _ _ _ h, cell_of_row w g 4 _ _ _ h, cell_of_row w g 5 _ _ _ h⟩
theorem Six.fr {w : World} {g : Nat} {a b c : Int} {s : ByteArray} {u v : Value} {ty : TypeId} (h : Six w g a b c s u v ty) (j : Nat) : w.frozen? ⟨g, j, none⟩ = false := frozen_of_row w g j _ _ h
theorem Six.set4 {w : World} {g : Nat} {a b c : Int} {s : ByteArray} {u v : Value} {ty : TypeId} (h : Six w g a b c s u v ty) (u' : Value) : Six (w.setCell ⟨g, 4, none⟩ u') g a b c s u' v ty := heap_setCell_same w g 4 _ _ u' h
theorem Six.set5 {w : World} {g : Nat} {a b c : Int} {s : ByteArray} {u v : Value} {ty : TypeId} (h : Six w g a b c s u v ty) (v' : Value) : Six (w.setCell ⟨g, 5, none⟩ v') g a b c s u v' ty := heap_setCell_same w g 5 _ _ v' h

/-- Six stores into a block. -/
abbrev put6 (w : World) (g : Nat) (a b c : Int) (s : ByteArray) (u v : Value) : World :=
  (((((w.setCell ⟨g, 0, none⟩ (.int .i64 a)).setCell ⟨g, 1, none⟩ (.int .i64 b)).setCell ⟨g, 2, none⟩ (.int .i64 c)).setCell ⟨g, 3, none⟩ (.string s)).setCell ⟨g, 4, none⟩ u).setCell ⟨g, 5, none⟩ v
theorem put6_other (w : World) (g : Nat) (a b c : Int) (s : ByteArray) (u v : Value) (x : Nat) (hx : x ≠ g) : (put6 w g a b c s u v).heap[x]? = w.heap[x]? := by
  unfold put6
  rw [Below.heap_setCell _ _ _ _ (by exact hx), Below.heap_setCell _ _ _ _ (by exact hx), Below.heap_setCell _ _ _ _ (by exact hx), Below.heap_setCell _ _ _ _ (by exact hx), Below.heap_setCell _ _ _ _ (by exact hx), Below.heap_setCell _ _ _ _ (by exact hx)]
theorem put6_below {B : Nat} {w0 w : World} (hb : Below B w0 w) (g : Nat) (hg : B ≤ g) (a b c : Int) (s : ByteArray) (u v : Value) : Below B w0 (put6 w g a b c s u v) :=
  (((((hb.setCell hg _).setCell hg _).setCell hg _).setCell hg _).setCell hg _).setCell hg _

def Five (w : World) (g : Nat) (a b c : Int) (s : ByteArray) (v : Value) (ty : TypeId) : Prop := w.heap[g]? = some (.cells #[.int .i64 a, .int .i64 b, .int .i64 c, .string s, v] ty (0, 0))
theorem Five.lt {w : World} {g : Nat} {a b c : Int} {s : ByteArray} {v : Value} {ty : TypeId} (h : Five w g a b c s v ty) : g < w.heap.size := (Array.getElem?_eq_some_iff.1 h).1
theorem Five.below {w w' : World} {g : Nat} {a b c : Int} {s : ByteArray} {v : Value} {ty : TypeId} (h : Five w g a b c s v ty) (hb : Below w.heap.size w w') : Five w' g a b c s v ty := (hb.block _ h.lt).trans h
theorem Five.cells {w : World} {g : Nat} {a b c : Int} {s : ByteArray} {v : Value} {ty : TypeId} (h : Five w g a b c s v ty) :
    w.cell? ⟨g, 0, none⟩ = some (.int .i64 a) ∧ w.cell? ⟨g, 1, none⟩ = some (.int .i64 b) ∧ w.cell? ⟨g, 2, none⟩ = some (.int .i64 c) ∧ w.cell? ⟨g, 3, none⟩ = some (.string s) ∧ w.cell? ⟨g, 4, none⟩ = some v :=
  ⟨cell_of_row w g 0 _ _ _ h, cell_of_row w g 1 _ _ _ h, cell_of_row w g 2 _ _ _ h, cell_of_row w g 3 _ _ _ h, cell_of_row w g 4 _ _ _ h⟩
theorem Five.fr {w : World} {g : Nat} {a b c : Int} {s : ByteArray} {v : Value} {ty : TypeId} (h : Five w g a b c s v ty) (j : Nat) : w.frozen? ⟨g, j, none⟩ = false := frozen_of_row w g j _ _ h
abbrev put5 (w : World) (g : Nat) (a b c : Int) (s : ByteArray) (v : Value) : World :=
  ((((w.setCell ⟨g, 0, none⟩ (.int .i64 a)).setCell ⟨g, 1, none⟩ (.int .i64 b)).setCell ⟨g, 2, none⟩ (.int .i64 c)).setCell ⟨g, 3, none⟩ (.string s)).setCell ⟨g, 4, none⟩ v
theorem put5_other (w : World) (g : Nat) (a b c : Int) (s : ByteArray) (v : Value) (x : Nat) (hx : x ≠ g) : (put5 w g a b c s v).heap[x]? = w.heap[x]? := by
  unfold put5
  rw [Below.heap_setCell _ _ _ _ (by exact hx), Below.heap_setCell _ _ _ _ (by exact hx), Below.heap_setCell _ _ _ _ (by exact hx), Below.heap_setCell _ _ _ _ (by exact hx), Below.heap_setCell _ _ _ _ (by exact hx)]
theorem put5_below {B : Nat} {w0 w : World} (hb : Below B w0 w) (g : Nat) (hg : B ≤ g) (a b c : Int) (s : ByteArray) (v : Value) : Below B w0 (put5 w g a b c s v) :=
  ((((hb.setCell hg _).setCell hg _).setCell hg _).setCell hg _).setCell hg _
/-- Two new blocks, behind a call. -/
theorem twoX {w w1 : World} {o1 o2 : Obj} (hb : Below ((w.alloc o1).alloc o2).heap.size ((w.alloc o1).alloc o2) w1) :
    w1.heap[w.heap.size]? = some o1 ∧ w1.heap[w.heap.size + 1]? = some o2 ∧ w.heap.size + 2 ≤ w1.heap.size ∧ Below w.heap.size w w1 := by
  have e1 : (w.alloc o1).heap.size = w.heap.size + 1 := by simp
  have e2 : ((w.alloc o1).alloc o2).heap.size = w.heap.size + 1 + 1 := by simp
  have n2 := heap_alloc_new (w.alloc o1) o2
  have n1 := heap_alloc_new w o1
  rw [e1] at n2
  refine ⟨?_, ?_, by have := hb.size; omega, ((newx w o1).trans ((newx _ o2).mono (by omega))).trans (hb.mono (by omega))⟩
  · rw [hb.block _ (by omega), Below.heap_alloc _ _ _ (by omega)]; exact n1
  · rw [hb.block _ (by omega)]; exact n2
end Go.Proofs.YtgbfflpdpfgnbaaGreat

/- A tree that is being made: rows that are still to be filled, and what is owned once they are. No conditions. -/
namespace Go.Proofs.YtgbfflpdpfgnbaaGreat
open Go.ChangeShapes Go.WideShapes Go.ChangeAt Go.RowKit

/-- A row that is to hold these. -/
structure Ent (T : Type) where
  len : Nat
  kid : Nat → T
  v : Value

/-- How rows of a kind are owned. -/
abbrev RowQ (T : Type) : Type := World → Nat → (Nat → T) → Value → List Nat → Prop

def Filled {T : Type} (Q : RowQ T) (w : World) : List (Ent T) → List (List Nat) → Prop
  | [], [] => True
  | e :: es, S :: SS => Q w e.len e.kid e.v S ∧ Filled Q w es SS
  | _, _ => False

theorem Filled.append {T : Type} {Q : RowQ T} {w : World} {a b : List (Ent T)} {A B : List (List Nat)} (h1 : Filled Q w a A) (h2 : Filled Q w b B) : Filled Q w (a ++ b) (A ++ B) := by
  induction a generalizing A with
  | nil => cases A with
    | nil => exact h2
    | cons x xs => exact h1.elim
  | cons e es ih => cases A with
    | nil => exact h1.elim
    | cons x xs => exact ⟨h1.1, ih h1.2⟩
theorem Filled.parts {T : Type} {Q : RowQ T} {w : World} {a b : List (Ent T)} {SS : List (List Nat)} (h : Filled Q w (a ++ b) SS) : ∃ A B, SS = A ++ B ∧ Filled Q w a A ∧ Filled Q w b B := by
  induction a generalizing SS with
  | nil => exact ⟨[], SS, rfl, trivial, h⟩
  | cons e es ih => cases SS with
    | nil => exact h.elim
    | cons x xs =>
      obtain ⟨A, B, rfl, h1, h2⟩ := ih h.2
      exact ⟨x :: A, B, rfl, ⟨h.1, h1⟩, h2⟩

/-- Once the rows es are filled, and the blocks R as they are, P holds; its blocks are R and theirs. -/
def Wand {T : Type} (Q : RowQ T) (w : World) (R : List Nat) (es : List (Ent T)) (P : World → List Nat → Prop) : Prop :=
  ∀ (w' : World) (SS : List (List Nat)), (∀ x ∈ R, w'.heap[x]? = w.heap[x]?) → Filled Q w' es SS → ∃ S, P w' S ∧ S.Perm (R ++ SS.flatten)

theorem Wand.same {T : Type} {Q : RowQ T} {w w1 : World} {R : List Nat} {es : List (Ent T)} {P : World → List Nat → Prop} (h : Wand Q w R es P) (hs : ∀ x ∈ R, w1.heap[x]? = w.heap[x]?) : Wand Q w1 R es P :=
  fun w' SS h1 h2 => h w' SS (fun x hx => (h1 x hx).trans (hs x hx)) h2

theorem Wand.start {T : Type} (Q : RowQ T) (w : World) (e : Ent T) : Wand Q w [] [e] (fun w' S => Q w' e.len e.kid e.v S) := by
  intro w' SS _ h2
  cases SS with
  | nil => exact h2.elim
  | cons x xs => cases xs with
    | nil => exact ⟨x, h2.1, by simp⟩
    | cons y ys => exact h2.2.elim
theorem Wand.done {T : Type} {Q : RowQ T} {w : World} {R : List Nat} {P : World → List Nat → Prop} (h : Wand Q w R [] P) : ∃ S, P w S ∧ S.Perm R := by
  obtain ⟨S, h1, h2⟩ := h w [] (fun _ _ => rfl) trivial
  exact ⟨S, h1, by simpa using h2⟩

/-- One row is filled: its own rows are to be filled now. -/
theorem Wand.next {T : Type} {Q : RowQ T} {w : World} {R Ri : List Nat} {es en : List (Ent T)} {e : Ent T} {g : Nat} {P Pi : World → List Nat → Prop} (h : Wand Q w R (es ++ [e]) P) (hi : Wand Q w Ri en Pi)
    (hQ : ∀ w' S, w'.heap[g]? = w.heap[g]? → Pi w' S → Q w' e.len e.kid e.v (g :: S)) : Wand Q w (R ++ g :: Ri) (es ++ en) P := by
  intro w' SS h1 h2
  obtain ⟨A, B, rfl, hA, hB⟩ := h2.parts
  obtain ⟨Si, hPi, hSi⟩ := hi w' B (fun x hx => h1 x (by simp [hx])) hB
  obtain ⟨S, hP, hS⟩ := h w' (A ++ [g :: Si]) (fun x hx => h1 x (by simp [hx])) (hA.append (b := [e]) (B := [g :: Si]) ⟨hQ w' Si (h1 g (by simp)) hPi, trivial⟩)
  refine ⟨S, hP, hS.trans ?_⟩
  rw [List.perm_iff_count] at hSi ⊢
  intro x
  have := hSi x
  simp only [List.flatten_append, List.flatten_cons, List.flatten_nil, List.append_nil, List.count_append, List.count_cons] at this ⊢
  omega

/-- A node more, its own blocks Rn. -/
theorem Wand.more {T : Type} {Q : RowQ T} {w : World} {R Rn : List Nat} {es en : List (Ent T)} {P P' : World → List Nat → Prop} (h : Wand Q w R es P) (hn : ∀ w' S SS, (∀ x ∈ Rn, w'.heap[x]? = w.heap[x]?) → P w' S → Filled Q w' en SS → P' w' (S ++ (Rn ++ SS.flatten))) : Wand Q w (R ++ Rn) (es ++ en) P' := by
  intro w' SS h1 h2
  obtain ⟨A, B, rfl, hA, hB⟩ := h2.parts
  obtain ⟨S, hP, hS⟩ := h w' A (fun x hx => h1 x (by simp [hx])) hA
  refine ⟨_, hn w' S B (fun x hx => h1 x (by simp [hx])) hP hB, ?_⟩
  rw [List.perm_iff_count] at hS ⊢
  intro x
  have := hS x
  simp only [List.flatten_append, List.count_append] at this ⊢
  omega
end Go.Proofs.YtgbfflpdpfgnbaaGreat
