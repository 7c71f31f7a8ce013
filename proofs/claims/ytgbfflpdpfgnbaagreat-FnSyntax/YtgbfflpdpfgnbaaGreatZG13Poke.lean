/- The cells of a list of tokens. No conditions. -/
import Derived.Test.YtgbfflpdpfgnbaaGreatRows
import Derived.Test.YtgbfflpdpfgnbaaGreatZG12TokGood
import Derived.Test.YtgbfflpdpfgnbaaGreatZG11PlainNumber
import Derived.WalkKit
import Derived.ProofKit
import Derived.Below
import Derived.OwnWalk
import Derived.Deep.AppendLies
namespace Go.Proofs.YtgbfflpdpfgnbaaGreat
open Go.ChangeShapes Go.WideShapes Go.ChangeAt Go.RowKit

/-- The cells of a list of tokens at the value v. -/
def TokCells (w : World) (v : Value) (ts : List Tok) : Prop :=
  (v = .slice none 0 0 ∧ ts = []) ∨ ∃ g cap, v = .slice (some ⟨g, 0, none⟩) ts.length cap ∧ ts.length ≤ cap ∧ ∀ j u, (rows ts)[j]? = some u → w.cell? ⟨g, j, none⟩ = some u

theorem TokCells.of_own {w : World} {base : Nat} {v : Value} {ts : List Tok} (h : w.ownsRow base 134 4 v ts.length (rows ts)) : TokCells w v ts := by
  rcases h.2 with ⟨h1, h2⟩ | ⟨g, cap, cur, rfl, _, hgg, hcap, _, _, htake⟩
  · exact .inl ⟨h1, List.eq_nil_of_length_eq_zero h2⟩
  · refine .inr ⟨g, cap, rfl, hcap, ?_⟩
    intro j u hu
    rw [cell_of_row w g j cur _ _ hgg]
    rw [← htake, List.getElem?_take] at hu
    split at hu
    · simpa using hu
    · cases hu

theorem TokCells.below {w w' : World} {v : Value} {ts : List Tok} (h : TokCells w v ts) (hb : Below w.heap.size w w') : TokCells w' v ts := by
  rcases h with h | ⟨g, cap, h1, h2, h3⟩
  · exact .inl h
  · refine .inr ⟨g, cap, h1, h2, fun j u hu => ?_⟩
    have := h3 j u hu
    exact (hb.cell (World.block_lt_of_cell? w _ this)).trans this

theorem rows_at (ts : List Tok) (k : Nat) (h : k < ts.length) : (rows ts)[k * 4]? = some (.int .i64 ts[k].kind) ∧ (rows ts)[k * 4 + 1]? = some (.int .i64 ts[k].at_) ∧ (rows ts)[k * 4 + 2]? = some (.int .i64 ts[k].n) ∧ (rows ts)[k * 4 + 3]? = some (.string ts[k].text) := by
  induction ts generalizing k with
  | nil => simp at h
  | cons t r ih =>
    cases k with
    | zero => exact ⟨rfl, rfl, rfl, rfl⟩
    | succ k =>
      have := ih k (by simpa using h)
      have e : ∀ j, (rows (t :: r))[(k + 1) * 4 + j]? = (rows r)[k * 4 + j]? := by
        intro j
        have : rows (t :: r) = t.cells ++ rows r := rfl
        rw [this, List.getElem?_append_right (by simp [Tok.cells]; omega)]
        congr 1
        simp [Tok.cells]; omega
      have e0 := e 0; have e1 := e 1; have e2 := e 2; have e3 := e 3
      simp only [Nat.add_zero] at e0
      rw [e0, e1, e2, e3]
      exact this

theorem below_new (w : World) (o : Obj) : Below w.heap.size w (w.alloc o) :=
  ⟨rfl, rfl, rfl, by simp, fun k hk => (World.grownBy_alloc w o none).block k hk (by simp)⟩

end Go.Proofs.YtgbfflpdpfgnbaaGreat

/- A list of data that is being built, its rows owned. No conditions. -/
namespace Go.Proofs.YtgbfflpdpfgnbaaGreat
open Go.ChangeShapes Go.WideShapes Go.ChangeAt Go.RowKit

theorem kidsOf_snoc_lt (acc : List D) (d : D) (i : Nat) (h : i < acc.length) : kidsOf (acc ++ [d]) i = kidsOf acc i := by
  unfold kidsOf
  simp [List.getD, List.getElem?_append_left h]
theorem kidsOf_snoc_at (acc : List D) (d : D) : kidsOf (acc ++ [d]) acc.length = d := by
  unfold kidsOf
  simp [List.getD]

/-- The list so far, at the value lv; its elements' blocks. -/
structure Acc (B : Nat) (w : World) (acc : List D) (lv : Value) (la : List (D × Value)) (SS : List (List Nat)) : Prop where
  own : w.ownsRow 0 26 5 lv acc.length (drows la)
  len : la.length = acc.length
  sl : SS.length = acc.length
  each : ∀ i, i < acc.length → ∃ u T, la[i]? = some (kidsOf acc i, u) ∧ SS[i]? = some T ∧ DOwn w (kidsOf acc i) u T
  nd : SS.flatten.Nodup
  out : ∀ g, lv.ownBlock = some g → g ∉ SS.flatten ∧ B ≤ g
  up : ∀ x ∈ SS.flatten, B ≤ x

theorem Acc.nil (B : Nat) (w : World) : Acc B w [] (.slice none 0 0) [] [] :=
  ⟨⟨rfl, .inl ⟨rfl, rfl⟩⟩, rfl, rfl, fun i hi => by simp at hi, by simp, fun g h => by simp [Value.ownBlock] at h, fun x hx => by simp at hx⟩

theorem Acc.lt {B : Nat} {w : World} {acc : List D} {lv : Value} {la : List (D × Value)} {SS : List (List Nat)} (h : Acc B w acc lv la SS) : ∀ x ∈ SS.flatten, x < w.heap.size := by
  intro x hx
  obtain ⟨T, hT, hxT⟩ := List.mem_flatten.1 hx
  obtain ⟨i, hi, rfl⟩ := List.mem_iff_getElem.1 hT
  obtain ⟨u, T', k1, k2, k3⟩ := h.each i (by have := h.sl; omega)
  rw [List.getElem?_eq_getElem hi] at k2
  injection k2 with k2
  exact k3.there _ x (by rw [← k2]; exact hxT)

theorem Acc.same {B : Nat} {w w' : World} {acc : List D} {lv : Value} {la : List (D × Value)} {SS : List (List Nat)} (h : Acc B w acc lv la SS) (hs : ∀ x, B ≤ x → x < w.heap.size → w'.heap[x]? = w.heap[x]?) : Acc B w' acc lv la SS :=
  ⟨own_same h.own (fun g hg => hs g (h.out g hg).2 (h.own.lt g hg).2), h.len, h.sl, fun i hi => by
    obtain ⟨u, T, k1, k2, k3⟩ := h.each i hi
    exact ⟨u, T, k1, k2, k3.same _ (fun x hx => hs x (h.up x (mem_flat k2 hx)) (k3.there _ x hx))⟩, h.nd, h.out, h.up⟩

theorem Acc.app {B : Nat} {w w3 : World} {acc : List D} {lv v : Value} {la : List (D × Value)} {SS : List (List Nat)} {d : D} {T : List Nat} {o : Obj} {g cap : Nat} (h : Acc B w acc lv la SS) (hd : DOwn w d v T) (hT : T.Nodup) (hTS : ∀ x ∈ T, x ∉ SS.flatten) (hTl : ∀ x ∈ T, lv.ownBlock ≠ some x) (hTB : ∀ x ∈ T, B ≤ x) (hB : B ≤ w.heap.size)
    (hown : w3.ownsRow 0 26 5 (.slice (some ⟨g, 0, none⟩) (acc.length + 1) cap) (acc.length + 1) (drows la ++ dcells (d, v))) (hg : (w.alloc o).grownBy w3 lv.ownBlock) (hat : lv.ownBlock = some g ∨ g = w.heap.size + 1) :
    Acc B w3 (acc ++ [d]) (.slice (some ⟨g, 0, none⟩) (acc.length + 1) cap) (la ++ [(d, v)]) (SS ++ [T]) := by
  have hlt := h.lt
  have hTt := hd.there
  have hsz : (w.alloc o).heap.size = w.heap.size + 1 := by simp
  have keep : ∀ x, x < w.heap.size → lv.ownBlock ≠ some x → w3.heap[x]? = w.heap[x]? := fun x hx hne =>
    (hg.block x (by omega) (fun e => hne e.symm)).trans (Below.heap_alloc w o x hx)
  have hfl : (SS ++ [T]).flatten = SS.flatten ++ T := by simp
  refine ⟨by rw [List.length_append]; rw [drows_append]; exact hown, by simp [h.len], by simp [h.sl], fun i hi => ?_, ?_, ?_, ?_⟩
  · rw [List.length_append, List.length_singleton] at hi
    rcases Nat.lt_or_ge i acc.length with hia | hia
    · obtain ⟨u, U, k1, k2, k3⟩ := h.each i hia
      rw [kidsOf_snoc_lt acc d i hia]
      refine ⟨u, U, by rw [List.getElem?_append_left (by rw [h.len]; exact hia)]; exact k1, by rw [List.getElem?_append_left (by rw [h.sl]; exact hia)]; exact k2, ?_⟩
      exact k3.same _ (fun x hx => keep x (k3.there _ x hx) (fun e => (h.out x e).1 (mem_flat k2 hx)))
    · obtain rfl : i = acc.length := by omega
      rw [kidsOf_snoc_at]
      refine ⟨v, T, ?_, ?_, hd.same _ (fun x hx => keep x (hTt x hx) (hTl x hx))⟩
      · rw [List.getElem?_append_right (by rw [h.len]; exact Nat.le_refl _), h.len, Nat.sub_self]; rfl
      · rw [List.getElem?_append_right (by rw [h.sl]; exact Nat.le_refl _), h.sl, Nat.sub_self]; rfl
  · rw [hfl, List.nodup_append]
    exact ⟨h.nd, hT, fun a ha b hb e => hTS b hb (by rw [← e]; exact ha)⟩
  · intro x hx
    simp only [Value.ownBlock, Option.some.injEq] at hx
    subst hx
    rw [hfl, List.mem_append]
    rcases hat with hat | hat
    · exact ⟨fun hx => hx.elim (h.out g hat).1 (fun hx => hTl g hx hat), (h.out g hat).2⟩
    · refine ⟨fun hx => ?_, by omega⟩
      rcases hx with hx | hx
      · have := hlt g hx; omega
      · have := hTt g hx; omega
  · intro x hx
    rw [hfl, List.mem_append] at hx
    exact hx.elim (h.up x) (hTB x)

/-- The list as it stands. -/
theorem Acc.sown {B : Nat} {w : World} {acc : List D} {lv : Value} {la : List (D × Value)} {SS : List (List Nat)} (h : Acc B w acc lv la SS) (hl : lv = .slice none 0 0 ∨ acc ≠ []) : ∃ S, SOwn w acc.length (kidsOf acc) lv S ∧ S.Nodup ∧ ∀ x ∈ S, B ≤ x := by
  rcases h.own.2 with ⟨h1, h2⟩ | ⟨g, cap, cur, h1, hb, hg, hc, hm, hs, ht⟩
  · exact ⟨[], .inl ⟨h2, h1, rfl⟩, by simp, fun x hx => by simp at hx⟩
  · subst h1
    refine ⟨g :: SS.flatten, .inr ⟨g, cap, la, SS, rfl, h.own, h.len, h.sl, fun i q hq => ?_, rfl, h.each⟩, List.nodup_cons.2 ⟨(h.out g rfl).1, h.nd⟩, fun x hx => ?_⟩
    · have hi : i < acc.length := by have := (List.getElem?_eq_some_iff.1 hq).1; have := h.len; omega
      obtain ⟨u, T, k1, _, _⟩ := h.each i hi
      rw [hq] at k1
      injection k1 with k1
      rw [k1]
    · rcases List.mem_cons.1 hx with rfl | hx
      · exact (h.out x rfl).2
      · exact h.up x hx

/-- What is told of the tokens. -/
def TokOk (ts : List Tok) : Prop := ∀ t ∈ ts, (1 ≤ t.kind ∧ t.kind ≤ 4) ∧ (-1073741824 ≤ t.n ∧ t.n ≤ 1073741823) ∧ t.text.size ≤ 4000

theorem FrS.below0 {w0 w w' : World} {K : Nat} (hb : Below w0.heap.size w0 w) (h : FrS w w' [K]) (hK : w0.heap.size ≤ K) : Below w0.heap.size w0 w' :=
  hb.trans ⟨h.os, h.tape, h.output, h.size, fun k hk => h.block k (by have := hb.size; omega) (by simp only [List.mem_singleton]; omega)⟩
end Go.Proofs.YtgbfflpdpfgnbaaGreat

/- Owned data of which one node is put anew. No conditions. -/
namespace Go.Proofs.YtgbfflpdpfgnbaaGreat
open Go.ChangeShapes Go.WideShapes Go.ChangeAt Go.RowKit

structure Row (w : World) (len : Nat) (kid : Nat → D) (v : Value) (S : List Nat) (g cap : Nat) (l : List (D × Value)) (SS : List (List Nat)) : Prop where
  val : v = .slice (some ⟨g, 0, none⟩) len cap
  own : w.ownsRow 0 26 5 (.slice (some ⟨g, 0, none⟩) len cap) len (drows l)
  ll : l.length = len
  sl : SS.length = len
  ks : Ks kid l
  eq : S = g :: SS.flatten
  each : ∀ i, i < len → ∃ u T, l[i]? = some (kid i, u) ∧ SS[i]? = some T ∧ DOwn w (kid i) u T

theorem Row.sown {w : World} {len : Nat} {kid : Nat → D} {v : Value} {S : List Nat} {g cap : Nat} {l : List (D × Value)} {SS : List (List Nat)} (h : Row w len kid v S g cap l SS) : SOwn w len kid v S :=
  .inr ⟨g, cap, l, SS, h.val, h.own, h.ll, h.sl, h.ks, h.eq, h.each⟩
theorem SOwn.row {w : World} {len : Nat} {kid : Nat → D} {v : Value} {S : List Nat} (h : SOwn w len kid v S) (h0 : 0 < len) : ∃ g cap l SS, Row w len kid v S g cap l SS := by
  rcases h with ⟨h, _⟩ | ⟨g, cap, l, SS, h1, h2, h3, h4, h5, h6, h7⟩
  · omega
  · exact ⟨g, cap, l, SS, h1, h2, h3, h4, h5, h6, h7⟩

/-- A list of kids with one put anew. -/
def setK (kid : Nat → D) (i : Nat) (d : D) : Nat → D := fun k => if k = i then d else kid k
theorem setK_at (kid : Nat → D) (i : Nat) (d : D) : setK kid i d i = d := if_pos rfl
theorem setK_ne (kid : Nat → D) {i k : Nat} (d : D) (h : k ≠ i) : setK kid i d k = kid k := if_neg h

theorem sumTo_setK (f : D → Nat) (kid : Nat → D) (i : Nat) (d : D) : ∀ len, i < len → sumTo (fun k => f (setK kid i d k)) len + f (kid i) = sumTo (fun k => f (kid k)) len + f d := by
  have low : ∀ len, len ≤ i → sumTo (fun k => f (setK kid i d k)) len = sumTo (fun k => f (kid k)) len := by
    intro len
    induction len with
    | zero => intro _; rfl
    | succ n ih =>
      intro h
      simp only [sumTo]
      rw [ih (by omega), setK_ne kid d (by omega)]
  intro len
  induction len with
  | zero => intro h; omega
  | succ n ih =>
    intro h
    simp only [sumTo]
    by_cases hn : n = i
    · subst hn
      rw [low n (Nat.le_refl _), setK_at]
      omega
    · rw [setK_ne kid d hn]
      have := ih (by omega)
      omega

theorem mem_set {SS : List (List Nat)} {i : Nat} {T' : List Nat} {b : Nat} (h : b ∈ (SS.set i T').flatten) : b ∈ SS.flatten ∨ b ∈ T' := by
  obtain ⟨U, hU, hb⟩ := List.mem_flatten.1 h
  rcases List.mem_or_eq_of_mem_set hU with h1 | h1
  · exact .inl (List.mem_flatten.2 ⟨U, h1, hb⟩)
  · exact .inr (h1 ▸ hb)

theorem nodup_set : ∀ (SS : List (List Nat)) (i : Nat) (T T' : List Nat), SS.flatten.Nodup → SS[i]? = some T → T'.Nodup → (∀ b ∈ T', b ∈ T ∨ b ∉ SS.flatten) → (SS.set i T').flatten.Nodup := by
  intro SS
  induction SS with
  | nil => intro i T T' _ h _ _; simp at h
  | cons U SS ih =>
    intro i T T' hn hi hT hb
    rw [List.flatten_cons, List.nodup_append] at hn
    obtain ⟨n1, n2, n3⟩ := hn
    cases i with
    | zero =>
      simp only [List.getElem?_cons_zero, Option.some.injEq] at hi
      subst hi
      rw [List.set_cons_zero, List.flatten_cons, List.nodup_append]
      refine ⟨hT, n2, fun a ha b hb' e => ?_⟩
      subst e
      rcases hb a ha with h | h
      · exact n3 a h a hb' rfl
      · exact h (by rw [List.flatten_cons, List.mem_append]; exact .inr hb')
    | succ i =>
      simp only [List.getElem?_cons_succ] at hi
      rw [List.set_cons_succ, List.flatten_cons, List.nodup_append]
      refine ⟨n1, ih i T T' n2 hi hT (fun b h => ?_), fun a ha b hb' e => ?_⟩
      · rcases hb b h with h1 | h1
        · exact .inl h1
        · exact .inr (fun h2 => h1 (by rw [List.flatten_cons, List.mem_append]; exact .inr h2))
      · subst e
        rcases mem_set hb' with h | h
        · exact n3 a ha a h rfl
        · rcases hb a h with h1 | h1
          · exact n3 a ha a (List.mem_flatten.2 ⟨T, List.mem_of_getElem? hi, h1⟩) rfl
          · exact h1 (by rw [List.flatten_cons, List.mem_append]; exact .inl ha)

/-- Blocks of two kids are apart. -/
theorem flat_apart : ∀ (SS : List (List Nat)) (i k : Nat) (T U : List Nat), SS.flatten.Nodup → i ≠ k → SS[i]? = some T → SS[k]? = some U → ∀ b ∈ T, b ∉ U := by
  intro SS
  induction SS with
  | nil => intro i k T U _ _ h _; simp at h
  | cons W SS ih =>
    intro i k T U hn hik hi hk b hT hU
    rw [List.flatten_cons, List.nodup_append] at hn
    obtain ⟨n1, n2, n3⟩ := hn
    cases i with
    | zero =>
      cases k with
      | zero => exact hik rfl
      | succ k =>
        simp only [List.getElem?_cons_zero, Option.some.injEq] at hi
        simp only [List.getElem?_cons_succ] at hk
        subst hi
        exact n3 b hT b (mem_flat hk hU) rfl
    | succ i =>
      cases k with
      | zero =>
        simp only [List.getElem?_cons_zero, Option.some.injEq] at hk
        simp only [List.getElem?_cons_succ] at hi
        subst hk
        exact n3 b hU b (mem_flat hi hT) rfl
      | succ k =>
        simp only [List.getElem?_cons_succ] at hi hk
        exact ih i k T U n2 (by omega) hi hk b hT hU

/-- One kid put anew. -/
theorem Row.set {w w' : World} {len : Nat} {kid : Nat → D} {v : Value} {S : List Nat} {g cap : Nat} {l : List (D × Value)} {SS : List (List Nat)} (h : Row w len kid v S g cap l SS) (hn : S.Nodup) {i : Nat} (hi : i < len) {T T' : List Nat} (hT : SS[i]? = some T) {d' : D} {u' : Value}
    (hown : w'.ownsRow 0 26 5 (.slice (some ⟨g, 0, none⟩) len cap) len (drows (l.set i (d', u')))) (hd : DOwn w' d' u' T') (hT' : T'.Nodup) (hnew : ∀ b ∈ T', b ∈ T ∨ b ∉ S) (hk : ∀ b ∈ S, b ≠ g → b ∉ T → w'.heap[b]? = w.heap[b]?) :
    Row w' len (setK kid i d') v (g :: (SS.set i T').flatten) g cap (l.set i (d', u')) (SS.set i T') ∧ (g :: (SS.set i T').flatten).Nodup := by
  have hn' := hn
  rw [h.eq, List.nodup_cons] at hn'
  refine ⟨⟨h.val, hown, by rw [List.length_set]; exact h.ll, by rw [List.length_set]; exact h.sl, ?_, rfl, ?_⟩, ?_⟩
  · intro k q hq
    by_cases hki : k = i
    · subst hki
      rw [List.getElem?_set_self (by rw [h.ll]; exact hi)] at hq
      injection hq with hq
      rw [← hq, setK_at]
    · rw [List.getElem?_set_ne (by omega)] at hq
      rw [setK_ne kid d' hki]
      exact h.ks k q hq
  · intro k hkl
    by_cases hki : k = i
    · subst hki
      rw [setK_at]
      exact ⟨u', T', List.getElem?_set_self (by rw [h.ll]; exact hi), List.getElem?_set_self (by rw [h.sl]; exact hi), hd⟩
    · obtain ⟨u, U, k1, k2, k3⟩ := h.each k hkl
      rw [setK_ne kid d' hki]
      refine ⟨u, U, by rw [List.getElem?_set_ne (by omega)]; exact k1, by rw [List.getElem?_set_ne (by omega)]; exact k2, k3.same _ (fun b hb => ?_)⟩
      have hbS : b ∈ SS.flatten := mem_flat k2 hb
      refine hk b (by rw [h.eq]; exact List.mem_cons_of_mem _ hbS) (fun e => hn'.1 (e ▸ hbS)) (fun hbT => ?_)
      exact flat_apart SS i k T U hn'.2 (by omega) hT k2 b hbT hb
  · rw [List.nodup_cons]
    refine ⟨fun hg => ?_, nodup_set SS i T T' hn'.2 hT hT' (fun b hb => ?_)⟩
    · rcases mem_set hg with h1 | h1
      · exact hn'.1 h1
      · rcases hnew g h1 with h2 | h2
        · exact hn'.1 (mem_flat hT h2)
        · exact h2 (by rw [h.eq]; simp)
    · rcases hnew b hb with h1 | h1
      · exact .inl h1
      · exact .inr (fun h2 => h1 (by rw [h.eq]; exact List.mem_cons_of_mem _ h2))
end Go.Proofs.YtgbfflpdpfgnbaaGreat
