/- The cells of a list of tokens. No conditions. -/
import Derived.Test.YtoljphjmekkneabGreatDoorRows
import Derived.Test.YtoljphjmekkneabGreatDoorZG4TokGood
import Derived.Test.YtoljphjmekkneabGreatDoorZG2FrS
import Derived.WalkKit
import Derived.ProofKit
import Derived.Below
import Derived.OwnWalk
import Derived.Deep.AppendLies
namespace Go.Proofs.YtoljphjmekkneabGreatDoor
open Go.ChangeShapes Go.WideShapes Go.ChangeAt Go.RowKit

/-- The cells of a list of tokens at the value v. -/
def TokCells (w : World) (v : Value) (ts : List Tok) : Prop :=
  (v = .slice none 0 0 ∧ ts = []) ∨ ∃ g cap, v = .slice (some ⟨g, 0, none⟩) ts.length cap ∧ ts.length ≤ cap ∧ ∀ j u, (rows ts)[j]? = some u → w.cell? ⟨g, j, none⟩ = some u

theorem TokCells.of_own {w : World} {base : Nat} {v : Value} {ts : List Tok} (h : w.ownsRow base 78 4 v ts.length (rows ts)) : TokCells w v ts := by
  rcases h.2 with ⟨h1, h2⟩ | ⟨g, cap, cur, rfl, _, hgg, hcap, _, _, htake⟩
  · exact .inl ⟨h1, List.eq_nil_of_length_eq_zero h2⟩
  · refine .inr ⟨g, cap, rfl, hcap, ?_⟩
    intro j u hu
    rw [cell_of_row w g j cur _ _ hgg]
    rw [← htake, List.getElem?_take] at hu
    split at hu
    · simpa using hu
    · cases hu

theorem TokCells.below {w w' : World} {v : Value} {ts : List Tok} (h : TokCells w v ts) (hb : Below w.heap.size w w') : TokCells w' v ts := by
  rcases h with h | ⟨g, cap, h1, h2, h3⟩
  · exact .inl h
  · refine .inr ⟨g, cap, h1, h2, fun j u hu => ?_⟩
    have := h3 j u hu
    exact (hb.cell (World.block_lt_of_cell? w _ this)).trans this

theorem rows_at (ts : List Tok) (k : Nat) (h : k < ts.length) : (rows ts)[k * 4]? = some (.int .i64 ts[k].kind) ∧ (rows ts)[k * 4 + 1]? = some (.int .i64 ts[k].at_) ∧ (rows ts)[k * 4 + 2]? = some (.int .i64 ts[k].n) ∧ (rows ts)[k * 4 + 3]? = some (.string ts[k].text) := by
  induction ts generalizing k with
  | nil => simp at h
  | cons t r ih =>
    cases k with
    | zero => exact ⟨rfl, rfl, rfl, rfl⟩
    | succ k =>
      have := ih k (by simpa using h)
      have e : ∀ j, (rows (t :: r))[(k + 1) * 4 + j]? = (rows r)[k * 4 + j]? := by
        intro j
        have : rows (t :: r) = t.cells ++ rows r := rfl
        rw [this, List.getElem?_append_right (by simp [Tok.cells]; omega)]
        congr 1
        simp [Tok.cells]; omega
      have e0 := e 0; have e1 := e 1; have e2 := e 2; have e3 := e 3
      simp only [Nat.add_zero] at e0
      rw [e0, e1, e2, e3]
      exact this

theorem below_new (w : World) (o : Obj) : Below w.heap.size w (w.alloc o) :=
  ⟨rfl, rfl, rfl, by simp, fun k hk => (World.grownBy_alloc w o none).block k hk (by simp)⟩

end Go.Proofs.YtoljphjmekkneabGreatDoor

/- A list of data that is being built, its rows owned. No conditions. -/
namespace Go.Proofs.YtoljphjmekkneabGreatDoor
open Go.ChangeShapes Go.WideShapes Go.ChangeAt Go.RowKit

theorem kidsOf_snoc_lt (acc : List D) (d : D) (i : Nat) (h : i < acc.length) : kidsOf (acc ++ [d]) i = kidsOf acc i := by
  unfold kidsOf
  simp [List.getD, List.getElem?_append_left h]
theorem kidsOf_snoc_at (acc : List D) (d : D) : kidsOf (acc ++ [d]) acc.length = d := by
  unfold kidsOf
  simp [List.getD]

/-- The list so far, at the value lv; its elements' blocks. -/
structure Acc (B : Nat) (w : World) (acc : List D) (lv : Value) (la : List (D × Value)) (SS : List (List Nat)) : Prop where
  own : w.ownsRow 0 30 5 lv acc.length (drows la)
  len : la.length = acc.length
  sl : SS.length = acc.length
  each : ∀ i, i < acc.length → ∃ u T, la[i]? = some (kidsOf acc i, u) ∧ SS[i]? = some T ∧ DOwn w (kidsOf acc i) u T
  nd : SS.flatten.Nodup
  out : ∀ g, lv.ownBlock = some g → g ∉ SS.flatten ∧ B ≤ g
  up : ∀ x ∈ SS.flatten, B ≤ x

theorem Acc.nil (B : Nat) (w : World) : Acc B w [] (.slice none 0 0) [] [] :=
  ⟨⟨rfl, .inl ⟨rfl, rfl⟩⟩, rfl, rfl, fun i hi => by simp at hi, by simp, fun g h => by simp [Value.ownBlock] at h, fun x hx => by simp at hx⟩

theorem Acc.lt {B : Nat} {w : World} {acc : List D} {lv : Value} {la : List (D × Value)} {SS : List (List Nat)} (h : Acc B w acc lv la SS) : ∀ x ∈ SS.flatten, x < w.heap.size := by
  intro x hx
  obtain ⟨T, hT, hxT⟩ := List.mem_flatten.1 hx
  obtain ⟨i, hi, rfl⟩ := List.mem_iff_getElem.1 hT
  obtain ⟨u, T', k1, k2, k3⟩ := h.each i (by have := h.sl; omega)
  rw [List.getElem?_eq_getElem hi] at k2
  injection k2 with k2
  exact k3.there _ x (by rw [← k2]; exact hxT)

theorem Acc.same {B : Nat} {w w' : World} {acc : List D} {lv : Value} {la : List (D × Value)} {SS : List (List Nat)} (h : Acc B w acc lv la SS) (hs : ∀ x, B ≤ x → x < w.heap.size → w'.heap[x]? = w.heap[x]?) : Acc B w' acc lv la SS :=
  ⟨own_same h.own (fun g hg => hs g (h.out g hg).2 (h.own.lt g hg).2), h.len, h.sl, fun i hi => by
    obtain ⟨u, T, k1, k2, k3⟩ := h.each i hi
    exact ⟨u, T, k1, k2, k3.same _ (fun x hx => hs x (h.up x (mem_flat k2 hx)) (k3.there _ x hx))⟩, h.nd, h.out, h.up⟩

theorem Acc.app {B : Nat} {w w3 : World} {acc : List D} {lv v : Value} {la : List (D × Value)} {SS : List (List Nat)} {d : D} {T : List Nat} {o : Obj} {g cap : Nat} (h : Acc B w acc lv la SS) (hd : DOwn w d v T) (hT : T.Nodup) (hTS : ∀ x ∈ T, x ∉ SS.flatten) (hTl : ∀ x ∈ T, lv.ownBlock ≠ some x) (hTB : ∀ x ∈ T, B ≤ x) (hB : B ≤ w.heap.size)
    (hown : w3.ownsRow 0 30 5 (.slice (some ⟨g, 0, none⟩) (acc.length + 1) cap) (acc.length + 1) (drows la ++ dcells (d, v))) (hg : (w.alloc o).grownBy w3 lv.ownBlock) (hat : lv.ownBlock = some g ∨ g = w.heap.size + 1) :
    Acc B w3 (acc ++ [d]) (.slice (some ⟨g, 0, none⟩) (acc.length + 1) cap) (la ++ [(d, v)]) (SS ++ [T]) := by
  have hlt := h.lt
  have hTt := hd.there
  have hsz : (w.alloc o).heap.size = w.heap.size + 1 := by simp
  have keep : ∀ x, x < w.heap.size → lv.ownBlock ≠ some x → w3.heap[x]? = w.heap[x]? := fun x hx hne =>
    (hg.block x (by omega) (fun e => hne e.symm)).trans (Below.heap_alloc w o x hx)
  have hfl : (SS ++ [T]).flatten = SS.flatten ++ T := by simp
  refine ⟨by rw [List.length_append]; rw [drows_append]; exact hown, by simp [h.len], by simp [h.sl], fun i hi => ?_, ?_, ?_, ?_⟩
  · rw [List.length_append, List.length_singleton] at hi
    rcases Nat.lt_or_ge i acc.length with hia | hia
    · obtain ⟨u, U, k1, k2, k3⟩ := h.each i hia
      rw [kidsOf_snoc_lt acc d i hia]
      refine ⟨u, U, by rw [List.getElem?_append_left (by rw [h.len]; exact hia)]; exact k1, by rw [List.getElem?_append_left (by rw [h.sl]; exact hia)]; exact k2, ?_⟩
      exact k3.same _ (fun x hx => keep x (k3.there _ x hx) (fun e => (h.out x e).1 (mem_flat k2 hx)))
    · obtain rfl : i = acc.length := by omega
      rw [kidsOf_snoc_at]
      refine ⟨v, T, ?_, ?_, hd.same _ (fun x hx => keep x (hTt x hx) (hTl x hx))⟩
      · rw [List.getElem?_append_right (by rw [h.len]; exact Nat.le_refl _), h.len, Nat.sub_self]; rfl
      · rw [List.getElem?_append_right (by rw [h.sl]; exact Nat.le_refl _), h.sl, Nat.sub_self]; rfl
  · rw [hfl, List.nodup_append]
    exact ⟨h.nd, hT, fun a ha b hb e => hTS b hb (by rw [← e]; exact ha)⟩
  · intro x hx
    simp only [Value.ownBlock, Option.some.injEq] at hx
    subst hx
    rw [hfl, List.mem_append]
    rcases hat with hat | hat
    · exact ⟨fun hx => hx.elim (h.out g hat).1 (fun hx => hTl g hx hat), (h.out g hat).2⟩
    · refine ⟨fun hx => ?_, by omega⟩
      rcases hx with hx | hx
      · have := hlt g hx; omega
      · have := hTt g hx; omega
  · intro x hx
    rw [hfl, List.mem_append] at hx
    exact hx.elim (h.up x) (hTB x)

/-- The list as it stands. -/
theorem Acc.sown {B : Nat} {w : World} {acc : List D} {lv : Value} {la : List (D × Value)} {SS : List (List Nat)} (h : Acc B w acc lv la SS) (hl : lv = .slice none 0 0 ∨ acc ≠ []) : ∃ S, SOwn w acc.length (kidsOf acc) lv S ∧ S.Nodup ∧ ∀ x ∈ S, B ≤ x := by
  rcases h.own.2 with ⟨h1, h2⟩ | ⟨g, cap, cur, h1, hb, hg, hc, hm, hs, ht⟩
  · exact ⟨[], .inl ⟨h2, h1, rfl⟩, by simp, fun x hx => by simp at hx⟩
  · subst h1
    refine ⟨g :: SS.flatten, .inr ⟨g, cap, la, SS, rfl, h.own, h.len, h.sl, fun i q hq => ?_, rfl, h.each⟩, List.nodup_cons.2 ⟨(h.out g rfl).1, h.nd⟩, fun x hx => ?_⟩
    · have hi : i < acc.length := by have := (List.getElem?_eq_some_iff.1 hq).1; have := h.len; omega
      obtain ⟨u, T, k1, _, _⟩ := h.each i hi
      rw [hq] at k1
      injection k1 with k1
      rw [k1]
    · rcases List.mem_cons.1 hx with rfl | hx
      · exact (h.out x rfl).2
      · exact h.up x hx

/-- Block K is a reader at token i. -/
def RdAt (w : World) (K : Nat) (tv : Value) (i E : Nat) : Prop := w.heap[K]? = some (.cells #[tv, .int .i64 i, .int .i64 E] 75 (0, 0))
theorem RdAt.c0 {w : World} {K : Nat} {tv : Value} {i E : Nat} (h : RdAt w K tv i E) : w.cell? ⟨K, 0, none⟩ = some tv := cell_of_row w K 0 _ _ _ h
theorem RdAt.c1 {w : World} {K : Nat} {tv : Value} {i E : Nat} (h : RdAt w K tv i E) : w.cell? ⟨K, 1, none⟩ = some (.int .i64 i) := cell_of_row w K 1 _ _ _ h
theorem RdAt.c2 {w : World} {K : Nat} {tv : Value} {i E : Nat} (h : RdAt w K tv i E) : w.cell? ⟨K, 2, none⟩ = some (.int .i64 E) := cell_of_row w K 2 _ _ _ h
theorem RdAt.fr {w : World} {K : Nat} {tv : Value} {i E : Nat} (h : RdAt w K tv i E) (j : Nat) : w.frozen? ⟨K, j, none⟩ = false := frozen_of_row w K j _ _ h
theorem RdAt.lt {w : World} {K : Nat} {tv : Value} {i E : Nat} (h : RdAt w K tv i E) : K < w.heap.size := (Array.getElem?_eq_some_iff.1 h).1
theorem RdAt.below {w w' : World} {K : Nat} {tv : Value} {i E : Nat} (h : RdAt w K tv i E) (hb : Below w.heap.size w w') : RdAt w' K tv i E := (hb.block _ h.lt).trans h
theorem RdAt.next {w : World} {K : Nat} {tv : Value} {i E : Nat} (h : RdAt w K tv i E) : RdAt (w.setCell ⟨K, 1, none⟩ (.int .i64 ((i : Int) + 1))) K tv (i + 1) E := by
  have := heap_setCell_same w K 1 _ _ (.int .i64 ((i : Int) + 1)) h
  exact this

/-- How a reading may end by a panic. -/
abbrev misfit (p : Int) : Ending := .panicked [{ v := .iface 41 (.int .i64 p), recovered := false }]

def OneSays (w : World) (K : Nat) (tv : Value) (ts : List Tok) (E : Nat) (res : Rdr D) (e : Ending) (w' : World) : Prop :=
  FrS w w' [K] ∧ match res with
    | .bad p => e = misfit p
    | .ok d r => ∃ v T i', e = .returned (.agg #[.int .i64 d.op, .int .i64 d.at_, .int .i64 d.n, .string d.s, v]) ∧ DOwn w' d v T ∧ T.Nodup ∧ (∀ x ∈ T, w.heap.size ≤ x) ∧ r = ts.drop i' ∧ i' ≤ ts.length ∧ RdAt w' K tv i' E

def KidsSay (w : World) (K : Nat) (tv : Value) (ts : List Tok) (E : Nat) (res : Rdr (List D)) (e : Ending) (w' : World) : Prop :=
  FrS w w' [K] ∧ match res with
    | .bad p => e = misfit p
    | .ok ds r => ∃ v T i', e = .returned v ∧ SOwn w' ds.length (kidsOf ds) v T ∧ T.Nodup ∧ (∀ x ∈ T, w.heap.size ≤ x) ∧ r = ts.drop i' ∧ i' ≤ ts.length ∧ RdAt w' K tv i' E

/-- What is told of the tokens. -/
def TokOk (ts : List Tok) : Prop := ∀ t ∈ ts, (1 ≤ t.kind ∧ t.kind ≤ 4) ∧ (-1073741824 ≤ t.n ∧ t.n ≤ 1073741823) ∧ t.text.size ≤ 4000

def OneAt (w0 : World) (K : Nat) (tv : Value) (ts : List Tok) (E f : Nat) : Prop := ∀ (w : World) (i : Nat), Below w0.heap.size w0 w → RdAt w K tv i E → i < ts.length → ts.length - i ≤ f →
  Calls Tryz.prog 59 #[.pointer (some ⟨K, 0, none⟩)] w (OneSays w K tv ts E (one E f (ts.drop i)))
def KidsAt (w0 : World) (K : Nat) (tv : Value) (ts : List Tok) (E f : Nat) : Prop := ∀ (w : World) (i : Nat), Below w0.heap.size w0 w → RdAt w K tv i E → i ≤ ts.length → ts.length - i ≤ f →
  Calls Tryz.prog 71 #[.pointer (some ⟨K, 0, none⟩)] w (KidsSay w K tv ts E (kidsL E (one E f) ((ts.drop i).length + 1) [] (ts.drop i)))

theorem FrS.below0 {w0 w w' : World} {K : Nat} (hb : Below w0.heap.size w0 w) (h : FrS w w' [K]) (hK : w0.heap.size ≤ K) : Below w0.heap.size w0 w' :=
  hb.trans ⟨h.os, h.tape, h.output, h.size, fun k hk => h.block k (by have := hb.size; omega) (by simp only [List.mem_singleton]; omega)⟩
end Go.Proofs.YtoljphjmekkneabGreatDoor
