/- (*strings.Builder).WriteString, of a builder in a block of its own. Condition: at most 2^40 bytes. -/
import Derived.Test.YtbofjjjjjcolgaaDoorRows
import Derived.Test.YtbofjjjjjcolgaaDoorDatRows
import Derived.Shelf.RegionOpenPlain
import Derived.Lib.Strings
import Derived.Lib.Slices
import Derived.Lib.Walk
import Derived.Lib.Builder
import Derived.Lib.AppendStr
import Derived.Lib.UnsafeStr
import Derived.WalkKit
import Derived.ProofKit
import Derived.Laws.Externs
import Derived.Deep.AppendLies
namespace Go.Proofs.YtbofjjjjjcolgaaDoor
open Go.ChangeShapes Go.WideShapes Go.ChangeAt Go.RowKit

/-- Block K is a builder: its text so far. -/
structure Tell (w : World) (K : Nat) (p bv : Value) (txt : List UInt8) : Prop where
  blk : w.heap[K]? = some (.cells #[p, bv] 48 (0, 0))
  buf : w.ownsRow (K + 1) 5 1 bv txt.length (Lib.byteCells txt)

section
variable {w : World} {K : Nat} {p bv : Value} {txt : List UInt8}
theorem Tell.c0 (h : Tell w K p bv txt) : w.cell? ⟨K, 0, none⟩ = some p := cell_of_row w K 0 _ _ _ h.blk
theorem Tell.c1 (h : Tell w K p bv txt) : w.cell? ⟨K, 1, none⟩ = some bv := cell_of_row w K 1 _ _ _ h.blk
theorem Tell.fr (h : Tell w K p bv txt) (j : Nat) : w.frozen? ⟨K, j, none⟩ = false := frozen_of_row w K j _ _ h.blk
theorem Tell.lt (h : Tell w K p bv txt) : K < w.heap.size := (Array.getElem?_eq_some_iff.1 h.blk).1
theorem Tell.shape (h : Tell w K p bv txt) : w.shape? K = some (48, 2) := by simp [World.shape?, h.blk]
theorem Tell.drew (h : Tell w K p bv txt) : Tell w.drew K p bv txt := ⟨h.blk, h.buf.drew⟩
theorem Tell.below (h : Tell w K p bv txt) {w' : World} (hb : Below w.heap.size w w') : Tell w' K p bv txt :=
  ⟨(hb.block _ h.lt).trans h.blk, own_below5 h.buf hb⟩

theorem own_setK {w : World} {e size n : Nat} {v : Value} {xs : List Value} {K j : Nat} (h : w.ownsRow (K + 1) e size v n xs) (u : Value) : (w.setCell ⟨K, j, none⟩ u).ownsRow (K + 1) e size v n xs :=
  ownsRow_setCell_below h (by simp) u

/-- Rows of two types are two blocks. -/
theorem rows_ne {w : World} {b1 b2 e1 e2 s1 s2 n1 n2 : Nat} {v1 v2 : Value} {x1 x2 : List Value} (h1 : w.ownsRow b1 e1 s1 v1 n1 x1) (h2 : w.ownsRow b2 e2 s2 v2 n2 x2) (hne : e1 ≠ e2) : v1.ownBlock = none ∨ v1.ownBlock ≠ v2.ownBlock := by
  rcases h1.2 with ⟨rfl, _⟩ | ⟨g, cap, cur, rfl, _, hg, _⟩
  · exact .inl rfl
  · right
    rcases h2.2 with ⟨rfl, _⟩ | ⟨g', cap', cur', rfl, _, hg', _⟩
    · simp [Value.ownBlock]
    · intro e
      simp only [Value.ownBlock, Option.some.injEq] at e
      subst e
      rw [hg] at hg'
      injection hg' with h
      injection h with _ h
      exact hne h

theorem Tell.put0 (h : Tell w K p bv txt) (q : Value) : Tell (w.setCell ⟨K, 0, none⟩ q) K q bv txt :=
  ⟨heap_setCell_same w K 0 _ _ q h.blk, own_setK h.buf q⟩
end

/-- What is kept: every block but K and that of the row v. -/
structure TFr (w w' : World) (K : Nat) (v : Value) : Prop where
  size : w.heap.size ≤ w'.heap.size
  block : ∀ g, g < w.heap.size → g ≠ K → v.ownBlock ≠ some g → w'.heap[g]? = w.heap[g]?
theorem TFr.refl (w : World) (K : Nat) (v : Value) : TFr w w K v := ⟨Nat.le_refl _, fun _ _ _ _ => rfl⟩
theorem TFr.trans {w w1 w2 : World} {K : Nat} {v : Value} (h : TFr w w1 K v) (h2 : TFr w1 w2 K v) : TFr w w2 K v := ⟨Nat.le_trans h.size h2.size, fun g a b c => (h2.block g (Nat.lt_of_lt_of_le a h.size) b c).trans (h.block g a b c)⟩
theorem TFr.set (w : World) (K j : Nat) (u v : Value) : TFr w (w.setCell ⟨K, j, none⟩ u) K v := ⟨by simp [World.setCell], fun g _ b _ => Below.heap_setCell w ⟨K, j, none⟩ u g b⟩
theorem TFr.below {w w' : World} (h : Below w.heap.size w w') (K : Nat) (v : Value) : TFr w w' K v := ⟨h.size, fun g a _ _ => h.block g a⟩
theorem TFr.grown {w w' : World} {v : Value} (h : w.grownBy w' v.ownBlock) (K : Nat) : TFr w w' K v := ⟨h.size, fun g a _ c => h.block g a (fun e => c e.symm)⟩

theorem builder_info : (Tryd.prog.info? 48).map (·.size) = some 2 := by kernel_rfl
theorem builder_lies : liesAt Tryd.prog Tryd.prog.depth 48 (2 / Tryd.prog.cellsOf 48) 0 48 1 = true := by kernel_rfl
theorem byte_info : (Tryd.prog.info? 5).map (fun i => (i.zero, i.size, i.bytes)) = some (some (.int .u8 0), 1, 1) := by kernel_rfl

abbrev self (K : Nat) : Value := .pointer (some ⟨K, 0, none⟩)

set_option maxRecDepth 100000 in
set_option maxHeartbeats 2000000 in
theorem tell_check (w : World) (K : Nat) (p bv : Value) (txt : List UInt8) (h : Tell w K p bv txt) (hp : p = .pointer none ∨ p = self K) :
    Calls Tryd.prog 36 #[self K] w fun e w' => e = .returned (.tuple #[]) ∧ Tell w' K (self K) bv txt ∧ Below K w w' ∧ TFr w w' K bv := by
  obtain ⟨j, hj, hjs⟩ := Option.map_eq_some_iff.1 builder_info
  have hsh := h.shape
  have h0 := h.c0
  have hf := h.fr 0
  have H : Hid (Tell w K p bv txt) := h
  clear h
  rcases hp with rfl | rfl
  · go_enter Tryd.func36, Tryd.ntmps36
    go_wp2
    rw [Lib.run_to_unsafe w ⟨K, 0, none⟩ Tryd.underlying46 Tryd.underlying73 hj (by rw [hjs]; decide) hsh (by show 0 < 2; omega)]
    simp only [Result.andThen]
    rw [Oper.upon_value]
    go_wp2
    rw [run_callFunc_extern Tryd.func41 (by kernel_rfl) (by kernel_rfl) (by kernel_rfl) (e := Extern.AbiNoEscape.same) (by kernel_rfl)]
    rw [Lib.run_noEscape]
    simp only [Result.andThen]
    rw [Oper.upon_value]
    go_wp2
    rw [Lib.run_from_unsafe w ⟨K, 0, none⟩ Tryd.underlying73 Tryd.underlying46 hj hsh builder_lies]
    simp only [Result.andThen]
    rw [Oper.upon_value]
    go_wp2
    go_end0
    exact ⟨rfl, H.out.put0 _, (Below.refl K w).setCell (p := ⟨K, 0, none⟩) (Nat.le_refl _) _, TFr.set _ _ _ _ _⟩
  · go_enter Tryd.func36, Tryd.ntmps36
    go_wp2
    rw [Lib.run_neq_ptr_same w _ Tryd.underlying46 hj]
    go_wp2
    go_end0
    exact ⟨rfl, H.out, Below.refl _ _, TFr.refl _ _ _⟩

/-- A longer text: the buffer has turned, the rest is as it was. -/
theorem Tell.longer {w w1 w2 : World} {K : Nat} {q bv bv' : Value} {txt txt' : List UInt8} (h : Tell w K q bv txt) (hb : Below w.heap.size w w1) (hg : w1.grownBy w2 bv.ownBlock)
    (hown : w2.ownsRow (K + 1) 5 1 bv' txt'.length (Lib.byteCells txt')) : Tell (w2.setCell ⟨K, 1, none⟩ bv') K q bv' txt' ∧ w2.cell? ⟨K, 1, none⟩ = some bv ∧ w2.frozen? ⟨K, 1, none⟩ = false ∧ Below K w (w2.setCell ⟨K, 1, none⟩ bv') ∧ TFr w (w2.setCell ⟨K, 1, none⟩ bv') K bv := by
  have h1 := h.below hb
  have hlt := h1.lt
  have hne : some K ≠ bv.ownBlock := fun e => by have := (h.buf.lt K e.symm).1; omega
  have hk : w2.heap[K]? = some (.cells #[q, bv] 48 (0, 0)) := (hg.block K hlt hne).trans h1.blk
  refine ⟨⟨heap_setCell_same w2 K 1 _ _ bv' hk, own_setK hown bv'⟩, cell_of_row w2 K 1 _ _ _ hk, frozen_of_row w2 K 1 _ _ hk, ?_, ((TFr.below hb K bv).trans (TFr.grown hg K)).trans (TFr.set _ _ _ _ _)⟩
  have hlt0 := h.lt
  have b1 : Below K w w1 := hb.mono (by omega)
  refine (b1.trans ⟨hg.os, hg.tape, hg.output, hg.size, fun k hk' => hg.block k (by omega) (fun e => by have := (h.buf.lt k e.symm).1; omega)⟩).setCell (Nat.le_refl _) _

theorem slice_of_own {w : World} {base e size n : Nat} {v : Value} {xs : List Value} (h : w.ownsRow base e size v n xs) : ∃ ao m cap, v = .slice ao m cap := by
  rcases h.2 with ⟨rfl, rfl⟩ | ⟨g, cap, cur, rfl, _⟩
  · exact ⟨_, _, _, rfl⟩
  · exact ⟨_, _, _, rfl⟩

theorem byteCells_snoc (l : List UInt8) (c : UInt8) : Lib.byteCells l ++ [.int .u8 (c.toNat : Int)] = Lib.byteCells (l ++ [c]) := by simp [Lib.byteCells]
theorem byteCells_app (l : List UInt8) (s : ByteArray) : Lib.byteCells l ++ Lib.strCells s = Lib.byteCells (l ++ s.data.toList) := by
  simp [Lib.byteCells, Lib.strCells]

set_option maxRecDepth 100000 in
set_option maxHeartbeats 2000000 in
theorem tell_string (w : World) (K : Nat) (p bv : Value) (txt : List UInt8) (s : ByteArray) (h : Tell w K p bv txt) (hp : p = .pointer none ∨ p = self K) (hl : txt.length + s.size ≤ 1099511627776) :
    Calls Tryd.prog 24 #[self K, .string s] w fun e w' => e = .returned (.tuple #[.int .i64 s.size, .nilIface]) ∧ (∃ bv', Tell w' K (self K) bv' (txt ++ s.data.toList)) ∧ Below K w w' ∧ TFr w w' K bv := by
  obtain ⟨i0, hi, hz0, hz1, hz2⟩ := info_parts byte_info
  have H : Hid (Tell w K p bv txt) := h
  clear h
  go_enter Tryd.func24, Tryd.ntmps24
  go_wp2_with fail
  refine (tell_check w K p bv txt H.out hp).mono ?_
  rintro e w1 ⟨rfl, h1, hb1, hf1⟩
  have c1 := h1.c1
  have H1 : Hid (Tell w1 K (self K) bv txt) := h1
  have HB1 : Hid (Below K w w1 ∧ TFr w w1 K bv) := ⟨hb1, hf1⟩
  have hK : K < w1.heap.size := h1.lt
  clear h1 hb1 hf1 H
  go_wp2_with (at_builtin; refine Lib.wpList_append_own_string _ rfl _ _ 22 9 rfl (K + 1) 5 i0 Tryd.underlying22 Tryd.underlying9 hi hz0 hz1 hz2 _ _ _ rfl H1.out.buf s rfl ?c3 ?c4 ?c5 ?_)
  case c3 => unfold maxLen; omega
  case c4 => omega
  case c5 => omega
  intro v' w2 hown' hgrow _
  have hown2 : w2.ownsRow (K + 1) 5 1 v' (txt ++ s.data.toList).length (Lib.byteCells (txt ++ s.data.toList)) := by
    rw [← byteCells_app, List.length_append]; simpa using hown'
  obtain ⟨q1, d1, f1, q4, q5⟩ := H1.out.longer (Below.refl _ _) hgrow hown2
  obtain ⟨ao, L, cp, hvv⟩ := slice_of_own hown2
  have Q : Hid (Tell (w2.setCell ⟨K, 1, none⟩ v') K (self K) v' (txt ++ s.data.toList) ∧ Below K w (w2.setCell ⟨K, 1, none⟩ v') ∧ TFr w (w2.setCell ⟨K, 1, none⟩ v') K bv) := ⟨q1, HB1.out.1.trans q4, HB1.out.2.trans q5⟩
  clear q1 q4 q5 hown2 hown' hgrow c1
  subst hvv
  go_wp2_with fail
  go_ret2
  exact ⟨rfl, ⟨_, Q.out.1⟩, Q.out.2⟩
end Go.Proofs.YtbofjjjjjcolgaaDoor
