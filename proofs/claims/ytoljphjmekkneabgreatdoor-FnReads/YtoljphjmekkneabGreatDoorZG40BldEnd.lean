/- (*strings.Builder).WriteString, of a builder in a block of its own. Condition: at most 2^40 bytes. -/
import Derived.Test.YtoljphjmekkneabGreatDoorRows
import Derived.Test.YtoljphjmekkneabGreatDoorZG1DatOwn
import Derived.Shelf.RegionOpenPlain
import Derived.Lib.Strings
import Derived.Lib.Slices
import Derived.Lib.Walk
import Derived.Lib.Builder
import Derived.Lib.AppendStr
import Derived.Lib.UnsafeStr
import Derived.WalkKit
import Derived.ProofKit
import Derived.Laws.Externs
import Derived.Deep.AppendLies
namespace Go.Proofs.YtoljphjmekkneabGreatDoor
open Go.ChangeShapes Go.WideShapes Go.ChangeAt Go.RowKit

/-- Block K is a builder: its text so far. -/
structure Tell (w : World) (K : Nat) (p bv : Value) (txt : List UInt8) : Prop where
  blk : w.heap[K]? = some (.cells #[p, bv] 91 (0, 0))
  buf : w.ownsRow (K + 1) 5 1 bv txt.length (Lib.byteCells txt)

section
variable {w : World} {K : Nat} {p bv : Value} {txt : List UInt8}
theorem Tell.c0 (h : Tell w K p bv txt) : w.cell? ⟨K, 0, none⟩ = some p := cell_of_row w K 0 _ _ _ h.blk
theorem Tell.c1 (h : Tell w K p bv txt) : w.cell? ⟨K, 1, none⟩ = some bv := cell_of_row w K 1 _ _ _ h.blk
theorem Tell.fr (h : Tell w K p bv txt) (j : Nat) : w.frozen? ⟨K, j, none⟩ = false := frozen_of_row w K j _ _ h.blk
theorem Tell.lt (h : Tell w K p bv txt) : K < w.heap.size := (Array.getElem?_eq_some_iff.1 h.blk).1
theorem Tell.shape (h : Tell w K p bv txt) : w.shape? K = some (91, 2) := by simp [World.shape?, h.blk]
theorem Tell.drew (h : Tell w K p bv txt) : Tell w.drew K p bv txt := ⟨h.blk, h.buf.drew⟩
theorem Tell.below (h : Tell w K p bv txt) {w' : World} (hb : Below w.heap.size w w') : Tell w' K p bv txt :=
  ⟨(hb.block _ h.lt).trans h.blk, own_below5 h.buf hb⟩

theorem own_setK {w : World} {e size n : Nat} {v : Value} {xs : List Value} {K j : Nat} (h : w.ownsRow (K + 1) e size v n xs) (u : Value) : (w.setCell ⟨K, j, none⟩ u).ownsRow (K + 1) e size v n xs :=
  ownsRow_setCell_below h (by simp) u

/-- Rows of two types are two blocks. -/
theorem rows_ne {w : World} {b1 b2 e1 e2 s1 s2 n1 n2 : Nat} {v1 v2 : Value} {x1 x2 : List Value} (h1 : w.ownsRow b1 e1 s1 v1 n1 x1) (h2 : w.ownsRow b2 e2 s2 v2 n2 x2) (hne : e1 ≠ e2) : v1.ownBlock = none ∨ v1.ownBlock ≠ v2.ownBlock := by
  rcases h1.2 with ⟨rfl, _⟩ | ⟨g, cap, cur, rfl, _, hg, _⟩
  · exact .inl rfl
  · right
    rcases h2.2 with ⟨rfl, _⟩ | ⟨g', cap', cur', rfl, _, hg', _⟩
    · simp [Value.ownBlock]
    · intro e
      simp only [Value.ownBlock, Option.some.injEq] at e
      subst e
      rw [hg] at hg'
      injection hg' with h
      injection h with _ h
      exact hne h

theorem Tell.put0 (h : Tell w K p bv txt) (q : Value) : Tell (w.setCell ⟨K, 0, none⟩ q) K q bv txt :=
  ⟨heap_setCell_same w K 0 _ _ q h.blk, own_setK h.buf q⟩
end

/-- What is kept: every block but K and that of the row v. -/
structure TFr (w w' : World) (K : Nat) (v : Value) : Prop where
  size : w.heap.size ≤ w'.heap.size
  block : ∀ g, g < w.heap.size → g ≠ K → v.ownBlock ≠ some g → w'.heap[g]? = w.heap[g]?
theorem TFr.refl (w : World) (K : Nat) (v : Value) : TFr w w K v := ⟨Nat.le_refl _, fun _ _ _ _ => rfl⟩
theorem TFr.trans {w w1 w2 : World} {K : Nat} {v : Value} (h : TFr w w1 K v) (h2 : TFr w1 w2 K v) : TFr w w2 K v := ⟨Nat.le_trans h.size h2.size, fun g a b c => (h2.block g (Nat.lt_of_lt_of_le a h.size) b c).trans (h.block g a b c)⟩
theorem TFr.set (w : World) (K j : Nat) (u v : Value) : TFr w (w.setCell ⟨K, j, none⟩ u) K v := ⟨by simp [World.setCell], fun g _ b _ => Below.heap_setCell w ⟨K, j, none⟩ u g b⟩
theorem TFr.below {w w' : World} (h : Below w.heap.size w w') (K : Nat) (v : Value) : TFr w w' K v := ⟨h.size, fun g a _ _ => h.block g a⟩
theorem TFr.grown {w w' : World} {v : Value} (h : w.grownBy w' v.ownBlock) (K : Nat) : TFr w w' K v := ⟨h.size, fun g a _ c => h.block g a (fun e => c e.symm)⟩

theorem builder_info : (Tryz.prog.info? 91).map (·.size) = some 2 := by kernel_rfl
theorem builder_lies : liesAt Tryz.prog Tryz.prog.depth 91 (2 / Tryz.prog.cellsOf 91) 0 91 1 = true := by kernel_rfl
theorem byte_info : (Tryz.prog.info? 5).map (fun i => (i.zero, i.size, i.bytes)) = some (some (.int .u8 0), 1, 1) := by kernel_rfl

abbrev self (K : Nat) : Value := .pointer (some ⟨K, 0, none⟩)

set_option maxRecDepth 100000 in
set_option maxHeartbeats 2000000 in
theorem tell_check (w : World) (K : Nat) (p bv : Value) (txt : List UInt8) (h : Tell w K p bv txt) (hp : p = .pointer none ∨ p = self K) :
    Calls Tryz.prog 66 #[self K] w fun e w' => e = .returned (.tuple #[]) ∧ Tell w' K (self K) bv txt ∧ Below K w w' ∧ TFr w w' K bv := by
  obtain ⟨j, hj, hjs⟩ := Option.map_eq_some_iff.1 builder_info
  have hsh := h.shape
  have h0 := h.c0
  have hf := h.fr 0
  have H : Hid (Tell w K p bv txt) := h
  clear h
  rcases hp with rfl | rfl
  · go_enter Tryz.func66, Tryz.ntmps66
    go_wp2
    rw [Lib.run_to_unsafe w ⟨K, 0, none⟩ Tryz.underlying89 Tryz.underlying119 hj (by rw [hjs]; decide) hsh (by show 0 < 2; omega)]
    simp only [Result.andThen]
    rw [Oper.upon_value]
    go_wp2
    rw [run_callFunc_extern Tryz.func74 (by kernel_rfl) (by kernel_rfl) (by kernel_rfl) (e := Extern.AbiNoEscape.same) (by kernel_rfl)]
    rw [Lib.run_noEscape]
    simp only [Result.andThen]
    rw [Oper.upon_value]
    go_wp2
    rw [Lib.run_from_unsafe w ⟨K, 0, none⟩ Tryz.underlying119 Tryz.underlying89 hj hsh builder_lies]
    simp only [Result.andThen]
    rw [Oper.upon_value]
    go_wp2
    go_end0
    exact ⟨rfl, H.out.put0 _, (Below.refl K w).setCell (p := ⟨K, 0, none⟩) (Nat.le_refl _) _, TFr.set _ _ _ _ _⟩
  · go_enter Tryz.func66, Tryz.ntmps66
    go_wp2
    rw [Lib.run_neq_ptr_same w _ Tryz.underlying89 hj]
    go_wp2
    go_end0
    exact ⟨rfl, H.out, Below.refl _ _, TFr.refl _ _ _⟩

/-- A longer text: the buffer has turned, the rest is as it was. -/
theorem Tell.longer {w w1 w2 : World} {K : Nat} {q bv bv' : Value} {txt txt' : List UInt8} (h : Tell w K q bv txt) (hb : Below w.heap.size w w1) (hg : w1.grownBy w2 bv.ownBlock)
    (hown : w2.ownsRow (K + 1) 5 1 bv' txt'.length (Lib.byteCells txt')) : Tell (w2.setCell ⟨K, 1, none⟩ bv') K q bv' txt' ∧ w2.cell? ⟨K, 1, none⟩ = some bv ∧ w2.frozen? ⟨K, 1, none⟩ = false ∧ Below K w (w2.setCell ⟨K, 1, none⟩ bv') ∧ TFr w (w2.setCell ⟨K, 1, none⟩ bv') K bv := by
  have h1 := h.below hb
  have hlt := h1.lt
  have hne : some K ≠ bv.ownBlock := fun e => by have := (h.buf.lt K e.symm).1; omega
  have hk : w2.heap[K]? = some (.cells #[q, bv] 91 (0, 0)) := (hg.block K hlt hne).trans h1.blk
  refine ⟨⟨heap_setCell_same w2 K 1 _ _ bv' hk, own_setK hown bv'⟩, cell_of_row w2 K 1 _ _ _ hk, frozen_of_row w2 K 1 _ _ hk, ?_, ((TFr.below hb K bv).trans (TFr.grown hg K)).trans (TFr.set _ _ _ _ _)⟩
  have hlt0 := h.lt
  have b1 : Below K w w1 := hb.mono (by omega)
  refine (b1.trans ⟨hg.os, hg.tape, hg.output, hg.size, fun k hk' => hg.block k (by omega) (fun e => by have := (h.buf.lt k e.symm).1; omega)⟩).setCell (Nat.le_refl _) _

theorem slice_of_own {w : World} {base e size n : Nat} {v : Value} {xs : List Value} (h : w.ownsRow base e size v n xs) : ∃ ao m cap, v = .slice ao m cap := by
  rcases h.2 with ⟨rfl, rfl⟩ | ⟨g, cap, cur, rfl, _⟩
  · exact ⟨_, _, _, rfl⟩
  · exact ⟨_, _, _, rfl⟩

theorem byteCells_snoc (l : List UInt8) (c : UInt8) : Lib.byteCells l ++ [.int .u8 (c.toNat : Int)] = Lib.byteCells (l ++ [c]) := by simp [Lib.byteCells]
theorem byteCells_app (l : List UInt8) (s : ByteArray) : Lib.byteCells l ++ Lib.strCells s = Lib.byteCells (l ++ s.data.toList) := by
  simp [Lib.byteCells, Lib.strCells]

set_option maxRecDepth 100000 in
set_option maxHeartbeats 2000000 in
theorem tell_string (w : World) (K : Nat) (p bv : Value) (txt : List UInt8) (s : ByteArray) (h : Tell w K p bv txt) (hp : p = .pointer none ∨ p = self K) (hl : txt.length + s.size ≤ 1099511627776) :
    Calls Tryz.prog 51 #[self K, .string s] w fun e w' => e = .returned (.tuple #[.int .i64 s.size, .nilIface]) ∧ (∃ bv', Tell w' K (self K) bv' (txt ++ s.data.toList)) ∧ Below K w w' ∧ TFr w w' K bv := by
  obtain ⟨i0, hi, hz0, hz1, hz2⟩ := info_parts byte_info
  have H : Hid (Tell w K p bv txt) := h
  clear h
  go_enter Tryz.func51, Tryz.ntmps51
  go_wp2_with fail
  refine (tell_check w K p bv txt H.out hp).mono ?_
  rintro e w1 ⟨rfl, h1, hb1, hf1⟩
  have c1 := h1.c1
  have H1 : Hid (Tell w1 K (self K) bv txt) := h1
  have HB1 : Hid (Below K w w1 ∧ TFr w w1 K bv) := ⟨hb1, hf1⟩
  have hK : K < w1.heap.size := h1.lt
  clear h1 hb1 hf1 H
  go_wp2_with (at_builtin; refine Lib.wpList_append_own_string _ rfl _ _ 22 9 rfl (K + 1) 5 i0 Tryz.underlying22 Tryz.underlying9 hi hz0 hz1 hz2 _ _ _ rfl H1.out.buf s rfl ?c3 ?c4 ?c5 ?_)
  case c3 => unfold maxLen; omega
  case c4 => omega
  case c5 => omega
  intro v' w2 hown' hgrow _
  have hown2 : w2.ownsRow (K + 1) 5 1 v' (txt ++ s.data.toList).length (Lib.byteCells (txt ++ s.data.toList)) := by
    rw [← byteCells_app, List.length_append]; simpa using hown'
  obtain ⟨q1, d1, f1, q4, q5⟩ := H1.out.longer (Below.refl _ _) hgrow hown2
  obtain ⟨ao, L, cp, hvv⟩ := slice_of_own hown2
  have Q : Hid (Tell (w2.setCell ⟨K, 1, none⟩ v') K (self K) v' (txt ++ s.data.toList) ∧ Below K w (w2.setCell ⟨K, 1, none⟩ v') ∧ TFr w (w2.setCell ⟨K, 1, none⟩ v') K bv) := ⟨q1, HB1.out.1.trans q4, HB1.out.2.trans q5⟩
  clear q1 q4 q5 hown2 hown' hgrow c1
  subst hvv
  go_wp2_with fail
  go_ret2
  exact ⟨rfl, ⟨_, Q.out.1⟩, Q.out.2⟩
end Go.Proofs.YtoljphjmekkneabGreatDoor

/- (*strings.Builder).String of a builder in a block of its own. No conditions. -/
namespace Go.Proofs.YtoljphjmekkneabGreatDoor
open Go.ChangeShapes Go.WideShapes Go.ChangeAt Go.RowKit

theorem us_none (W : World) (q : Option Addr) : (Builtin.unsafeString_ #[111, 3] 9 #[.pointer q, .int .i64 0]).run Tryz.prog W = .ok (.string .empty) W :=
  Lib.run_unsafeString_none W _ _ _ q

theorem cells_byte : Tryz.prog.cellsOf 5 = 1 := by kernel_rfl


set_option maxRecDepth 100000 in
set_option maxHeartbeats 1000000 in
theorem end_nil (w : World) (K : Nat) (c1 : w.cell? ⟨K, 1, none⟩ = some (.slice none 0 0)) :
    Calls Tryz.prog 53 #[self K] w fun e w' => e = .returned (.string ⟨#[]⟩) ∧ Below K w w' := by
  have hUS := us_none
  have hSD : ∀ W : World, (Builtin.unsafeSliceData_ #[22] 111 #[.slice none 0 0]).run Tryz.prog W = .ok (.pointer none) W := fun _ => rfl
  go_enter Tryz.func53, Tryz.ntmps53
  go_wp2
  go_region
  all_goals (go_wp2; go_ret; exact ⟨rfl, Below.drew (Below.refl K w)⟩)

set_option maxRecDepth 100000 in
set_option maxHeartbeats 1000000 in
theorem end_room (w : World) (K g cap : Nat) (hc0 : cap ≠ 0) (c1 : w.cell? ⟨K, 1, none⟩ = some (.slice (some ⟨g, 0, none⟩) 0 cap)) :
    Calls Tryz.prog 53 #[self K] w fun e w' => e = .returned (.string ⟨#[]⟩) ∧ Below K w w' := by
  have hUS := us_none
  have hSD : ∀ W : World, (Builtin.unsafeSliceData_ #[22] 111 #[.slice (some ⟨g, 0, none⟩) 0 cap]).run Tryz.prog W = .ok (.pointer (some ⟨g, 0, none⟩)) W := fun W => Lib.run_unsafeSliceData_row _ _ _ _ _ _ hc0
  clear hc0
  go_enter Tryz.func53, Tryz.ntmps53
  go_wp2
  go_region
  all_goals (go_wp2; go_ret; exact ⟨rfl, Below.drew (Below.refl K w)⟩)

set_option maxRecDepth 100000 in
set_option maxHeartbeats 1000000 in
theorem end_some (w : World) (K g cap : Nat) (l : List UInt8) (hKg : K ≤ g) (hc0 : cap ≠ 0) (c1 : w.cell? ⟨K, 1, none⟩ = some (.slice (some ⟨g, 0, none⟩) l.length cap))
    (hUS : (Builtin.unsafeString_ #[111, 3] 9 #[.pointer (some ⟨g, 0, none⟩), .int .i64 l.length]).run Tryz.prog w.drew = .ok (.string ⟨l.toArray⟩) (w.drew.freeze ⟨g, 0, none⟩ l.length)) :
    Calls Tryz.prog 53 #[self K] w fun e w' => e = .returned (.string ⟨l.toArray⟩) ∧ Below K w w' := by
  have hSD : ∀ W : World, (Builtin.unsafeSliceData_ #[22] 111 #[.slice (some ⟨g, 0, none⟩) l.length cap]).run Tryz.prog W = .ok (.pointer (some ⟨g, 0, none⟩)) W := fun W => Lib.run_unsafeSliceData_row _ _ _ _ _ _ hc0
  have HBG : Hid (K ≤ g) := hKg
  clear hc0 hKg
  go_enter Tryz.func53, Tryz.ntmps53
  go_wp2
  go_region
  all_goals (go_wp2; go_ret; exact ⟨rfl, Lib.below_freeze (Below.drew (Below.refl K w)) (p := ⟨g, 0, none⟩) HBG.out _⟩)

set_option maxRecDepth 100000 in
set_option maxHeartbeats 1000000 in
theorem end_noroom (w : World) (K g : Nat) (cur : Array Value) (hK : K < w.heap.size) (c1 : w.cell? ⟨K, 1, none⟩ = some (.slice (some ⟨g, 0, none⟩) 0 0)) (hg : w.heap[g]? = some (.cells cur 5 (0, 0))) :
    Calls Tryz.prog 53 #[self K] w fun e w' => e = .returned (.string ⟨#[]⟩) ∧ Below K w w' := by
  have hUS := us_none
  have hSD : (Builtin.unsafeSliceData_ #[22] 111 #[.slice (some ⟨g, 0, none⟩) 0 0]).run Tryz.prog w.drew = .ok (.pointer (some ⟨w.drew.heap.size, 0, none⟩)) (w.drew.alloc (.view ⟨g, 0, none⟩ 5)) :=
    Lib.run_unsafeSliceData_zero w.drew _ _ 5 Tryz.underlying111 ⟨g, 0, none⟩ 0 (5, cur.size) (by have hg' : w.drew.heap[g]? = some (.cells cur 5 (0, 0)) := hg; simp [World.shape?, hg'])
  have c2 : (w.drew.alloc (.view ⟨g, 0, none⟩ 5)).cell? ⟨K, 1, none⟩ = some (.slice (some ⟨g, 0, none⟩) 0 0) := keeps (newb _ _) _ _ c1
  have c3 : (w.alloc (.view ⟨g, 0, none⟩ 5)).drew.cell? ⟨K, 1, none⟩ = some (.slice (some ⟨g, 0, none⟩) 0 0) := c2
  have HK : Hid (K ≤ w.drew.heap.size) := by show K ≤ w.heap.size; omega
  clear hg hK
  go_enter Tryz.func53, Tryz.ntmps53
  go_wp2
  go_region
  all_goals (go_wp2; go_ret; exact ⟨rfl, (Below.drew (Below.refl K w)).alloc HK.out _⟩)

theorem tell_end (w : World) (K : Nat) (p bv : Value) (txt : List UInt8) (h : Tell w K p bv txt) :
    Calls Tryz.prog 53 #[self K] w fun e w' => e = .returned (.string ⟨txt.toArray⟩) ∧ Below K w w' := by
  have c1 := h.c1
  have hown := h.buf
  cases txt with
  | nil =>
    rcases hown.2 with ⟨rfl, _⟩ | ⟨g, cap, cur, rfl, hbg, hg, _, _, _, _⟩
    · exact end_nil w K c1
    · by_cases hc0 : cap = 0
      · subst hc0
        exact end_noroom w K g cur h.lt c1 hg
      · exact end_room w K g cap hc0 c1
  | cons x r =>
    have h0 : (x :: r) ≠ [] := by simp
    generalize hl : x :: r = l at *
    have hl0 : l.length ≠ 0 := by simpa using h0
    obtain ⟨g, cap, cur, rfl, hbg, hg, hnc, hcm, hcs, htake⟩ : ∃ g cap cur, bv = .slice (some ⟨g, 0, none⟩) l.length cap ∧ K + 1 ≤ g ∧ w.heap[g]? = some (.cells cur 5 (0, 0)) ∧ l.length ≤ cap ∧ cap ≤ maxLen ∧ cur.size = cap * 1 ∧ cur.toList.take (l.length * 1) = Lib.byteCells l := by
      rcases hown.2 with ⟨_, hz⟩ | ⟨g, cap, cur, hv, r⟩
      · exact absurd hz hl0
      · exact ⟨g, cap, cur, hv, r⟩
    refine end_some w K g cap l (by omega) (by omega) c1 ?_
    refine Lib.run_unsafeString_row w.drew 111 3 9 5 Tryz.underlying111 cells_byte g cur.size (by have hg' : w.drew.heap[g]? = some (.cells cur 5 (0, 0)) := hg; simp [World.shape?, hg']) l h0 (by omega) (by unfold maxLen at hcm; omega) ?_
    intro j x hx
    have := hown.cells (g := g) rfl j (.int .u8 x.toNat) (by simp [Lib.byteCells, hx])
    exact this
end Go.Proofs.YtoljphjmekkneabGreatDoor
