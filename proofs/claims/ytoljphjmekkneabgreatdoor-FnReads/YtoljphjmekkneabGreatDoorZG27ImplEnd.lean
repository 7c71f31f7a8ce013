/- impl.wordToken at every text: the token of a word, or none. Conditions: as impl.readWord's. -/
import Derived.Test.YtoljphjmekkneabGreatDoorZG24ImplSym2
import Derived.Test.YtoljphjmekkneabGreatDoorZG26ImplRead
import Derived.Test.YtoljphjmekkneabGreatDoorZG4TokGood
import Derived.OwnWalk
import Derived.Laws.ResultCell
import Derived.Deep.RegionHeld3
import Derived.Deep.RegionLaw
import Derived.Deep.AppendLies
import Derived.Deep.DrawnRows
import Derived.Lib.OthersKept
namespace Go.Proofs.YtoljphjmekkneabGreatDoor
open Go.ChangeShapes Go.WideShapes Go.ChangeAt Go.RowKit

def tokVal (t : Tok) : Value := .agg #[.int .i64 t.kind, .int .i64 t.at_, .int .i64 t.n, .string t.text]

theorem below_alloc (w : World) (o : Obj) : Below w.heap.size w (w.alloc o) :=
  ⟨rfl, rfl, rfl, by simp, fun k hk => (World.grownBy_alloc w o none).block k hk (by simp)⟩

theorem below_set {B : Nat} {w w' : World} (h : Below B w w') {a : Addr} (ha : B ≤ a.block) (u : Value) : Below B w (w'.setCell a u) :=
  ⟨h.os, h.tape, h.output, by simpa using h.size, fun k hk => (heap_setCell_other w' a k u (by omega)).trans (h.block k hk)⟩

theorem impl_clone (s : ByteArray) (hs : s.size ≤ 1048576) (w : World) : Calls Tryz.prog 78 #[.string s] w fun e w' => e = .returned (.string s) ∧ Below w.heap.size w w' := by
  have HC : Hid (Calls Tryz.prog 87 #[.string s] w fun e w' => e = .returned (.string s) ∧ Below w.heap.size w w') := Tryz.stringslite_Clone s w (by omega)
  go_enter Tryz.func78, Tryz.ntmps78
  go_wp2_with (go_at_call 87; refine HC.out.mono ?_; rintro e w1 ⟨rfl, hb1⟩)
  go_ret
  exact ⟨rfl, hb1⟩

set_option maxHeartbeats 1000000 in
theorem token_num (x : ByteArray) (hx : x.size ≤ 1048576) (b : Nat) (w : World) (ht : PowTab w) (hv : ErrVars w) (v : Int) (h : wordV x.data.toList = some v) :
    Calls Tryz.prog 70 #[.string x, .int .i64 b] w fun e w' => e = .returned (.tuple #[tokVal ⟨3, b, v, x⟩, .bool true]) ∧ Below w.heap.size w w' := by
  have HR : Hid (wordRes x.data.toList = .tuple #[.int .i64 v, .bool true]) := wordRes_yes h
  have HT : Hid (PowTab w) := ht
  have HV : Hid (ErrVars w) := hv
  clear ht hv h
  go_enter Tryz.func70, Tryz.ntmps70
  go_wp2_with fail
  refine (impl_read x hx _ (HT.out.below (below_alloc _ _)) (HV.out.below (below_alloc _ _))).mono ?_
  rintro e w1 ⟨rfl, hb1⟩
  rw [HR.out]
  have hk : w1.heap[w.heap.size]? = some (Obj.cells #[.int .i64 0, .int .i64 0, .int .i64 0, .string ⟨#[]⟩] 78) := (hb1.block _ (by simp)).trans (heap_alloc_new w _)
  have HKw1 : Hid (w1.heap[w.heap.size]? = some (Obj.cells #[.int .i64 0, .int .i64 0, .int .i64 0, .string ⟨#[]⟩] 78)) := hk
  have HB1 : Hid (Below w.heap.size w w1) := (below_alloc w _).trans (hb1.mono (by simp))
  clear hb1 hk
  go_wp2_with fail
  refine (impl_clone x hx _).mono ?_
  rintro e w2 ⟨rfl, hb2⟩
  have hk : w2.heap[w.heap.size]? = some (Obj.cells #[.int .i64 0, .int .i64 0, .int .i64 0, .string ⟨#[]⟩] 78) := (hb2.block _ (Array.getElem?_eq_some_iff.1 HKw1.out).1).trans HKw1.out
  have HKw2 : Hid (w2.heap[w.heap.size]? = some (Obj.cells #[.int .i64 0, .int .i64 0, .int .i64 0, .string ⟨#[]⟩] 78)) := hk
  have HBX : Hid (Below w.heap.size w w2) := HB1.out.trans (hb2.mono HB1.out.size)
  have hc0 : w2.cell? ⟨w.heap.size, 0, none⟩ = some (.int .i64 0) := cell_of_row w2 w.heap.size 0 _ _ _ hk
  have hc1 : w2.cell? ⟨w.heap.size, 1, none⟩ = some (.int .i64 0) := cell_of_row w2 w.heap.size 1 _ _ _ hk
  have hc2 : w2.cell? ⟨w.heap.size, 2, none⟩ = some (.int .i64 0) := cell_of_row w2 w.heap.size 2 _ _ _ hk
  have hc3 : w2.cell? ⟨w.heap.size, 3, none⟩ = some (.string ⟨#[]⟩) := cell_of_row w2 w.heap.size 3 _ _ _ hk
  have hf : ∀ j, w2.frozen? ⟨w.heap.size, j, none⟩ = false := fun j => frozen_of_row w2 w.heap.size j _ _ hk
  clear hb2 hk
  go_wp2
  refine bodyPost_ret (v := .tuple #[tokVal ⟨3, b, v, x⟩, .bool true]) (by rw [results_cell_tmp (p := 4) (u := 5) (ty := 78) (by kernel_rfl)]; simp [go_sem, tokVal, hc0, hc1, hc2, hc3]) rfl ⟨rfl, ?_⟩
  exact below_set (below_set (below_set (below_set HBX.out (Nat.le_refl _) _) (Nat.le_refl _) _) (Nat.le_refl _) _) (Nat.le_refl _) _

set_option maxHeartbeats 1000000 in
theorem token_sym (x : ByteArray) (hx : x.size ≤ 1048576) (b : Nat) (w : World) (ht : PowTab w) (hv : ErrVars w) (h : wordV x.data.toList = none) (hs : symB x.data.toList = true) :
    Calls Tryz.prog 70 #[.string x, .int .i64 b] w fun e w' => e = .returned (.tuple #[tokVal ⟨4, b, 0, x⟩, .bool true]) ∧ Below w.heap.size w w' := by
  have HR : Hid (wordRes x.data.toList = .tuple #[.int .i64 0, .bool false]) := wordRes_no h
  have HS : Hid (symB x.data.toList = true) := hs
  have HT : Hid (PowTab w) := ht
  have HV : Hid (ErrVars w) := hv
  clear ht hv h hs
  go_enter Tryz.func70, Tryz.ntmps70
  go_wp2_with fail
  refine (impl_read x hx _ (HT.out.below (below_alloc _ _)) (HV.out.below (below_alloc _ _))).mono ?_
  rintro e w1 ⟨rfl, hb1⟩
  rw [HR.out]
  have hk : w1.heap[w.heap.size]? = some (Obj.cells #[.int .i64 0, .int .i64 0, .int .i64 0, .string ⟨#[]⟩] 78) := (hb1.block _ (by simp)).trans (heap_alloc_new w _)
  have HKw1 : Hid (w1.heap[w.heap.size]? = some (Obj.cells #[.int .i64 0, .int .i64 0, .int .i64 0, .string ⟨#[]⟩] 78)) := hk
  have HB1 : Hid (Below w.heap.size w w1) := (below_alloc w _).trans (hb1.mono (by simp))
  clear hb1 hk
  go_wp2_with fail
  refine (impl_sym x hx _).mono ?_
  rintro e w2 ⟨rfl, hb2⟩
  rw [HS.out]
  have hk : w2.heap[w.heap.size]? = some (Obj.cells #[.int .i64 0, .int .i64 0, .int .i64 0, .string ⟨#[]⟩] 78) := (hb2.block _ (Array.getElem?_eq_some_iff.1 HKw1.out).1).trans HKw1.out
  have HKw2 : Hid (w2.heap[w.heap.size]? = some (Obj.cells #[.int .i64 0, .int .i64 0, .int .i64 0, .string ⟨#[]⟩] 78)) := hk
  have HB2 : Hid (Below w.heap.size w w2) := HB1.out.trans (hb2.mono HB1.out.size)
  clear hb2 hk
  go_wp2_with fail
  refine (impl_clone x hx _).mono ?_
  rintro e w3 ⟨rfl, hb3⟩
  have hk : w3.heap[w.heap.size]? = some (Obj.cells #[.int .i64 0, .int .i64 0, .int .i64 0, .string ⟨#[]⟩] 78) := (hb3.block _ (Array.getElem?_eq_some_iff.1 HKw2.out).1).trans HKw2.out
  have HKw3 : Hid (w3.heap[w.heap.size]? = some (Obj.cells #[.int .i64 0, .int .i64 0, .int .i64 0, .string ⟨#[]⟩] 78)) := hk
  have HBX : Hid (Below w.heap.size w w3) := HB2.out.trans (hb3.mono HB2.out.size)
  have hc0 : w3.cell? ⟨w.heap.size, 0, none⟩ = some (.int .i64 0) := cell_of_row w3 w.heap.size 0 _ _ _ hk
  have hc1 : w3.cell? ⟨w.heap.size, 1, none⟩ = some (.int .i64 0) := cell_of_row w3 w.heap.size 1 _ _ _ hk
  have hc2 : w3.cell? ⟨w.heap.size, 2, none⟩ = some (.int .i64 0) := cell_of_row w3 w.heap.size 2 _ _ _ hk
  have hc3 : w3.cell? ⟨w.heap.size, 3, none⟩ = some (.string ⟨#[]⟩) := cell_of_row w3 w.heap.size 3 _ _ _ hk
  have hf : ∀ j, w3.frozen? ⟨w.heap.size, j, none⟩ = false := fun j => frozen_of_row w3 w.heap.size j _ _ hk
  clear hb3 hk
  go_wp2
  refine bodyPost_ret (v := .tuple #[tokVal ⟨4, b, 0, x⟩, .bool true]) (by rw [results_cell_tmp (p := 4) (u := 5) (ty := 78) (by kernel_rfl)]; simp [go_sem, tokVal, hc0, hc1, hc2, hc3]) rfl ⟨rfl, ?_⟩
  exact below_set (below_set (below_set (below_set HBX.out (Nat.le_refl _) _) (Nat.le_refl _) _) (Nat.le_refl _) _) (Nat.le_refl _) _

set_option maxHeartbeats 1000000 in
theorem token_none (x : ByteArray) (hx : x.size ≤ 1048576) (b : Nat) (w : World) (ht : PowTab w) (hv : ErrVars w) (h : wordV x.data.toList = none) (hs : symB x.data.toList = false) :
    Calls Tryz.prog 70 #[.string x, .int .i64 b] w fun e w' => e = .returned (.tuple #[tokVal ⟨0, 0, 0, ⟨#[]⟩⟩, .bool false]) ∧ Below w.heap.size w w' := by
  have HR : Hid (wordRes x.data.toList = .tuple #[.int .i64 0, .bool false]) := wordRes_no h
  have HS : Hid (symB x.data.toList = false) := hs
  have HT : Hid (PowTab w) := ht
  have HV : Hid (ErrVars w) := hv
  clear ht hv h hs
  go_enter Tryz.func70, Tryz.ntmps70
  go_wp2_with fail
  refine (impl_read x hx _ (HT.out.below (below_alloc _ _)) (HV.out.below (below_alloc _ _))).mono ?_
  rintro e w1 ⟨rfl, hb1⟩
  rw [HR.out]
  have hk : w1.heap[w.heap.size]? = some (Obj.cells #[.int .i64 0, .int .i64 0, .int .i64 0, .string ⟨#[]⟩] 78) := (hb1.block _ (by simp)).trans (heap_alloc_new w _)
  have HKw1 : Hid (w1.heap[w.heap.size]? = some (Obj.cells #[.int .i64 0, .int .i64 0, .int .i64 0, .string ⟨#[]⟩] 78)) := hk
  have HB1 : Hid (Below w.heap.size w w1) := (below_alloc w _).trans (hb1.mono (by simp))
  clear hb1 hk
  go_wp2_with fail
  refine (impl_sym x hx _).mono ?_
  rintro e w2 ⟨rfl, hb2⟩
  rw [HS.out]
  have hk : w2.heap[w.heap.size]? = some (Obj.cells #[.int .i64 0, .int .i64 0, .int .i64 0, .string ⟨#[]⟩] 78) := (hb2.block _ (Array.getElem?_eq_some_iff.1 HKw1.out).1).trans HKw1.out
  have HKw2 : Hid (w2.heap[w.heap.size]? = some (Obj.cells #[.int .i64 0, .int .i64 0, .int .i64 0, .string ⟨#[]⟩] 78)) := hk
  have HBX : Hid (Below w.heap.size w w2) := HB1.out.trans (hb2.mono HB1.out.size)
  have hc0 : w2.cell? ⟨w.heap.size, 0, none⟩ = some (.int .i64 0) := cell_of_row w2 w.heap.size 0 _ _ _ hk
  have hc1 : w2.cell? ⟨w.heap.size, 1, none⟩ = some (.int .i64 0) := cell_of_row w2 w.heap.size 1 _ _ _ hk
  have hc2 : w2.cell? ⟨w.heap.size, 2, none⟩ = some (.int .i64 0) := cell_of_row w2 w.heap.size 2 _ _ _ hk
  have hc3 : w2.cell? ⟨w.heap.size, 3, none⟩ = some (.string ⟨#[]⟩) := cell_of_row w2 w.heap.size 3 _ _ _ hk
  have hf : ∀ j, w2.frozen? ⟨w.heap.size, j, none⟩ = false := fun j => frozen_of_row w2 w.heap.size j _ _ hk
  clear hb2 hk
  go_wp2
  refine bodyPost_ret (v := .tuple #[tokVal ⟨0, 0, 0, ⟨#[]⟩⟩, .bool false]) (by rw [results_cell_tmp (p := 4) (u := 5) (ty := 78) (by kernel_rfl)]; simp [go_sem, tokVal, hc0, hc1, hc2, hc3]) rfl ⟨rfl, ?_⟩
  exact below_set (below_set (below_set (below_set HBX.out (Nat.le_refl _) _) (Nat.le_refl _) _) (Nat.le_refl _) _) (Nat.le_refl _) _

theorem token_some (x : ByteArray) (hx : x.size ≤ 1048576) (b : Nat) (w : World) (ht : PowTab w) (hv : ErrVars w) (t : Tok) (h : tokOf x b = some t) :
    Calls Tryz.prog 70 #[.string x, .int .i64 b] w fun e w' => e = .returned (.tuple #[.agg #[.int .i64 t.kind, .int .i64 t.at_, .int .i64 t.n, .string t.text], .bool true]) ∧ Below w.heap.size w w' := by
  unfold tokOf at h
  cases e : wordV x.data.toList with
  | some v => rw [e] at h; simp only [Option.some.injEq] at h; subst h; exact token_num x hx b w ht hv v e
  | none =>
    rw [e] at h
    simp only at h
    split at h
    · rename_i hs
      simp only [Option.some.injEq] at h
      subst h
      exact token_sym x hx b w ht hv e hs
    · cases h

theorem token_no (x : ByteArray) (hx : x.size ≤ 1048576) (b : Nat) (w : World) (ht : PowTab w) (hv : ErrVars w) (h : tokOf x b = none) :
    Calls Tryz.prog 70 #[.string x, .int .i64 b] w fun e w' => e = .returned (.tuple #[.agg #[.int .i64 0, .int .i64 0, .int .i64 0, .string ⟨#[]⟩], .bool false]) ∧ Below w.heap.size w w' := by
  unfold tokOf at h
  cases e : wordV x.data.toList with
  | some v => rw [e] at h; cases h
  | none =>
    rw [e] at h
    simp only at h
    split at h
    · cases h
    · rename_i hs
      exact token_none x hx b w ht hv e (by simpa using hs)
end Go.Proofs.YtoljphjmekkneabGreatDoor

/- (*impl.tokenCut).endWord: the word now gone through is ended: its token is behind the list, or the word is none. Conditions: the cut lies in its block, its list is the call's own; those of impl.readWord. -/
namespace Go.Proofs.YtoljphjmekkneabGreatDoor
open Go.ChangeShapes Go.WideShapes Go.ChangeAt Go.RowKit
attribute [local go_sem ↓] Go.wp_at_zero Go.wp_at_succ

/-- The cut lies in block C: the text, where the word begins, the list. -/
structure CutAt (w : World) (C : Nat) (s : ByteArray) (b : Int) (acc : List Tok) (lv : Value) : Prop where
  blk : w.heap[C]? = some (.cells #[.string s, .int .i64 b, lv] 104 (0, 0))
  own : w.ownsRow (C + 2) 78 4 lv acc.length (rows acc)

theorem CutAt.c0 {w : World} {C : Nat} {s : ByteArray} {b : Int} {acc : List Tok} {lv : Value} (h : CutAt w C s b acc lv) : w.cell? ⟨C, 0, none⟩ = some (.string s) := cell_of_row w C 0 _ _ _ h.blk
theorem CutAt.c1 {w : World} {C : Nat} {s : ByteArray} {b : Int} {acc : List Tok} {lv : Value} (h : CutAt w C s b acc lv) : w.cell? ⟨C, 1, none⟩ = some (.int .i64 b) := cell_of_row w C 1 _ _ _ h.blk
theorem CutAt.c2 {w : World} {C : Nat} {s : ByteArray} {b : Int} {acc : List Tok} {lv : Value} (h : CutAt w C s b acc lv) : w.cell? ⟨C, 2, none⟩ = some lv := cell_of_row w C 2 _ _ _ h.blk
theorem CutAt.fr {w : World} {C : Nat} {s : ByteArray} {b : Int} {acc : List Tok} {lv : Value} (h : CutAt w C s b acc lv) (j : Nat) : w.frozen? ⟨C, j, none⟩ = false := frozen_of_row w C j _ _ h.blk

theorem CutAt.below {w w' : World} {C : Nat} {s : ByteArray} {b : Int} {acc : List Tok} {lv : Value} (h : CutAt w C s b acc lv) (hb : Below w.heap.size w w') : CutAt w' C s b acc lv := by
  refine ⟨(hb.block _ (Array.getElem?_eq_some_iff.1 h.blk).1).trans h.blk, h.own.1, ?_⟩
  rcases h.own.2 with hn | ⟨g, cap, cur, rfl, hbg, hgg, rest⟩
  · exact .inl hn
  · exact .inr ⟨g, cap, cur, rfl, hbg, (hb.block g (Array.getElem?_eq_some_iff.1 hgg).1).trans hgg, rest⟩

theorem tok_info : (Tryz.prog.info? 78).map (fun i => (i.zero, i.size, i.bytes)) = some (some (.agg #[.int .i64 0, .int .i64 0, .int .i64 0, .string ⟨#[]⟩]), 4, 40) := by kernel_rfl

theorem below_alloc_drew (w : World) (o : Obj) : Below w.heap.size w (w.alloc o).drew := ⟨rfl, rfl, rfl, (below_alloc w o).size, (below_alloc w o).block⟩

theorem far4 {w : World} {D C j : Nat} {v0 v1 v2 v3 u : Value} (h : w.cell? ⟨C, j, none⟩ = some u) (hne : C ≠ D) :
    ((((w.setCell ⟨D, 0, none⟩ v0).setCell ⟨D, 1, none⟩ v1).setCell ⟨D, 2, none⟩ v2).setCell ⟨D, 3, none⟩ v3).cell? ⟨C, j, none⟩ = some u := by
  rw [World.cell?_of_block (w := w)]
  · exact h
  · simp only
    rw [heap_setCell_other _ _ _ _ hne, heap_setCell_other _ _ _ _ hne, heap_setCell_other _ _ _ _ hne, heap_setCell_other _ _ _ _ hne]

theorem alloc_cell {w : World} {a : Addr} {u : Value} (h : w.cell? a = some u) (o : Obj) : (w.alloc o).cell? a = some u :=
  ((below_alloc w o).cell (World.block_lt_of_cell? w a h)).trans h

/-- Four stores into a block of four cells. -/
theorem stored4 {w : World} {D : Nat} {c0 c1 c2 c3 v0 v1 v2 v3 : Value} {t : TypeId} (h : w.heap[D]? = some (.cells #[c0, c1, c2, c3] t (0, 0))) :
    ((((w.setCell ⟨D, 0, none⟩ v0).setCell ⟨D, 1, none⟩ v1).setCell ⟨D, 2, none⟩ v2).setCell ⟨D, 3, none⟩ v3).heap[D]? = some (.cells #[v0, v1, v2, v3] t (0, 0)) :=
  heap_setCell_same _ D 3 _ t v3 (heap_setCell_same _ D 2 _ t v2 (heap_setCell_same _ D 1 _ t v1 (heap_setCell_same _ D 0 _ t v0 h)))

theorem below4 {B : Nat} {w w1 : World} {D : Nat} {v0 v1 v2 v3 : Value} (h : Below B w w1) (hD : B ≤ D) :
    Below B w ((((w1.setCell ⟨D, 0, none⟩ v0).setCell ⟨D, 1, none⟩ v1).setCell ⟨D, 2, none⟩ v2).setCell ⟨D, 3, none⟩ v3) :=
  below_set (below_set (below_set (below_set h hD _) hD _) hD _) hD _

theorem new_kept {w w1 : World} {cs : Array Value} {t : TypeId} (hb : Below (w.alloc (.cells cs t)).drew.heap.size (w.alloc (.cells cs t)).drew w1) : w1.heap[w.heap.size]? = some (.cells cs t (0, 0)) :=
  (hb.block _ (by simp)).trans (heap_alloc_new w _)
theorem new_cell {w w1 : World} {cs : Array Value} {t : TypeId} (hb : Below (w.alloc (.cells cs t)).drew.heap.size (w.alloc (.cells cs t)).drew w1) (j : Nat) : w1.cell? ⟨w.heap.size, j, none⟩ = cs[j]? :=
  cell_of_row w1 w.heap.size j _ _ _ (new_kept hb)
theorem new_fr {w w1 : World} {cs : Array Value} {t : TypeId} (hb : Below (w.alloc (.cells cs t)).drew.heap.size (w.alloc (.cells cs t)).drew w1) : ∀ j, w1.frozen? ⟨w.heap.size, j, none⟩ = false :=
  fun j => frozen_of_row w1 w.heap.size j _ _ (new_kept hb)

theorem far_kept {W w3 : World} {o : Obj} {row : Option Nat} (hg : (W.alloc o).drew.grownBy w3 row) {k : Nat} (hk : k < W.heap.size) (hne : some k ≠ row) : w3.heap[k]? = W.heap[k]? :=
  (hg.block k (Nat.lt_of_lt_of_le hk (below_alloc_drew W o).size) hne).trans ((below_alloc_drew W o).block k hk)

theorem cut_kept {W w3 : World} {o : Obj} {C : Nat} {s : ByteArray} {b : Int} {acc : List Tok} {lv : Value} (hc : CutAt W C s b acc lv) (hg : (W.alloc o).drew.grownBy w3 lv.ownBlock) :
    w3.heap[C]? = some (.cells #[.string s, .int .i64 b, lv] 104 (0, 0)) := by
  have hCW : C < W.heap.size := (Array.getElem?_eq_some_iff.1 hc.blk).1
  have hne : some C ≠ lv.ownBlock := by intro e; have := (hc.own.lt C e.symm).1; omega
  have h1 : (W.alloc o).drew.heap[C]? = W.heap[C]? := (below_alloc_drew W o).block C hCW
  rw [hg.block C (Nat.lt_of_lt_of_le hCW (below_alloc_drew W o).size) hne, h1, hc.blk]

theorem cut_done {W w3 : World} {o : Obj} {C : Nat} {s : ByteArray} {b : Int} {acc : List Tok} {lv L : Value} {t : Tok} (hc : CutAt W C s b acc lv)
    (ho : w3.ownsRow (C + 2) 78 4 L (acc.length + 1) (rows acc ++ [.int .i64 t.kind, .int .i64 t.at_, .int .i64 t.n, .string t.text]))
    (hg : (W.alloc o).drew.grownBy w3 lv.ownBlock) (hC1 : C + 1 < W.heap.size) :
    CutAt ((w3.setCell ⟨C, 2, none⟩ L).setCell ⟨C, 1, none⟩ (.int .i64 (-1))) C s (-1) (acc ++ [t]) L ∧ Below C W ((w3.setCell ⟨C, 2, none⟩ L).setCell ⟨C, 1, none⟩ (.int .i64 (-1))) ∧
      ((w3.setCell ⟨C, 2, none⟩ L).setCell ⟨C, 1, none⟩ (.int .i64 (-1))).heap[C + 1]? = W.heap[C + 1]? := by
  have hk := cut_kept hc hg
  have hrow : ∀ k, k < C + 2 → some k ≠ lv.ownBlock := by intro k hk e; have := (hc.own.lt k e.symm).1; omega
  have hold : ∀ k, k < C + 2 → w3.heap[k]? = W.heap[k]? := by
    intro k hk
    rw [hg.block k (Nat.lt_of_lt_of_le (by omega : k < W.heap.size) (below_alloc_drew W o).size) (hrow k hk)]
    exact (below_alloc_drew W o).block k (by omega)
  have hoth : ∀ k, k ≠ C → ((w3.setCell ⟨C, 2, none⟩ L).setCell ⟨C, 1, none⟩ (.int .i64 (-1))).heap[k]? = w3.heap[k]? := by
    intro k hne
    rw [heap_setCell_other _ _ _ _ hne, heap_setCell_other _ _ _ _ hne]
  refine ⟨⟨heap_setCell_same _ C 1 _ _ _ (heap_setCell_same _ C 2 _ _ _ hk), ?_, ?_⟩, ⟨hg.os, hg.tape, hg.output, ?_, ?_⟩, ?_⟩
  · rw [rows_length]
  · have hl : (acc ++ [t]).length = acc.length + 1 := by simp
    have hr : rows (acc ++ [t]) = rows acc ++ [.int .i64 t.kind, .int .i64 t.at_, .int .i64 t.n, .string t.text] := by rw [rows_append]; rfl
    rw [hl, hr]
    rcases ho.2 with hn | ⟨g, cap, cur, rfl, hbg, hgg, rest⟩
    · exact .inl hn
    · exact .inr ⟨g, cap, cur, rfl, hbg, (hoth g (by omega)).trans hgg, rest⟩
  · have h1 := hg.size
    have h2 := (below_alloc_drew W o).size
    simp only [World.setCell, Array.size_modify]
    omega
  · intro k hk
    rw [hoth k (by omega), hold k (by omega)]
  · rw [hoth _ (by omega), hold _ (by omega)]

set_option maxHeartbeats 1000000 in
theorem end_out (C : Nat) (s : ByteArray) (p : Int) (acc : List Tok) (lv : Value) (w : World) (hc : CutAt w C s (-1) acc lv) :
    Calls Tryz.prog 58 #[.pointer (some ⟨C, 0, none⟩), .int .i64 p] w fun e w' => e = .returned (.bool true) ∧ w' = w := by
  have h1 := hc.c1
  clear hc
  go_enter Tryz.func58, Tryz.ntmps58
  go_wp2
  go_ret
  exact ⟨rfl, rfl⟩

set_option maxRecDepth 100000 in
set_option maxHeartbeats 4000000 in
theorem end_no (C : Nat) (s : ByteArray) (b p : Nat) (acc : List Tok) (lv : Value) (w : World) (hc : CutAt w C s b acc lv) (hbp : b < p) (hp : p ≤ s.size) (hs : s.size ≤ 4000) (ht : PowTab w) (hv : ErrVars w) (h : tokOf (s.extract b p) b = none) :
    Calls Tryz.prog 58 #[.pointer (some ⟨C, 0, none⟩), .int .i64 p] w fun e w' => e = .returned (.bool false) ∧ Below w.heap.size w w' := by
  have h0 := hc.c0
  have h1 := hc.c1
  have hx : (s.extract b p).size ≤ 1048576 := by rw [size_extract' s b p (by omega) hp]; omega
  have HT : Hid (PowTab w) := ht
  have HV : Hid (ErrVars w) := hv
  have HH : Hid (tokOf (s.extract b p) b = none) := h
  have hlt : C < w.heap.size := (Array.getElem?_eq_some_iff.1 hc.blk).1
  have hb0 : ((b : Int) == -1) = false := by rw [beq_eq_false_iff_ne]; omega
  have hi0 : (0 : Int) ≤ (b : Int) := by omega
  have hi1 : (b : Int) ≤ (p : Int) := by omega
  have hi2 : (p : Int) ≤ (s.size : Int) := by omega
  have hne1 : C ≠ w.heap.size := by omega
  clear hc ht hv h
  go_enter Tryz.func58, Tryz.ntmps58
  go_wp2_with fail
  go_region_held3 (fun w' => w'.cell? ⟨C, 0, none⟩ = some (.string s) ∧ w'.cell? ⟨C, 1, none⟩ = some (.int .i64 b))
    (first | go_keep | exact ⟨far4 hs0 hne1, far4 hs1 hne1⟩ | exact ⟨far4 (alloc_cell hs0 _) hnw, far4 (alloc_cell hs1 _) hnw⟩)
    ((go_at_call 70; refine (token_no (s.extract b p) hx b _ (by first | exact HT.out | exact HT.out.below (below_alloc_drew w _)) (by first | exact HV.out | exact HV.out.below (below_alloc_drew w _)) HH.out).mono ?_; rintro e w1 ⟨rfl, hb1⟩; have hbw : Below w.heap.size w w1 := (by first | exact ⟨hb1.os, hb1.tape, hb1.output, hb1.size, hb1.block⟩ | exact (below_alloc_drew w _).trans (hb1.mono (by simp))); have hs0 : w1.cell? ⟨C, 0, none⟩ = some (.string s) := (hbw.cell (by exact hlt)).trans h0; have hs1 : w1.cell? ⟨C, 1, none⟩ = some (.int .i64 b) := (hbw.cell (by exact hlt)).trans h1; have hnw : C ≠ w1.heap.size := (by have hq := hbw.size; omega); first | (have hn0 := new_cell hb1 0; have hn1 := new_cell hb1 1; have hn2 := new_cell hb1 2; have hn3 := new_cell hb1 3; have hnf := new_fr hb1) | skip))
  all_goals
    go_wp2
    go_ret
    refine ⟨rfl, ?_⟩
    first
      | exact below4 hbw (Nat.le_refl _)
      | exact hbw.trans ((below_alloc w1 _).mono hbw.size)

set_option maxRecDepth 100000 in
set_option maxHeartbeats 4000000 in
theorem end_yes (C : Nat) (s : ByteArray) (b p : Nat) (acc : List Tok) (lv : Value) (t : Tok) (w : World) (hc : CutAt w C s b acc lv) (hC1 : C + 1 < w.heap.size) (hacc : acc.length ≤ 4000) (hbp : b < p) (hp : p ≤ s.size) (hs : s.size ≤ 4000) (ht : PowTab w) (hv : ErrVars w) (h : tokOf (s.extract b p) b = some t) :
    Calls Tryz.prog 58 #[.pointer (some ⟨C, 0, none⟩), .int .i64 p] w fun e w' => e = .returned (.bool true) ∧ Below C w w' ∧ w'.heap[C + 1]? = w.heap[C + 1]? ∧ ∃ lv', CutAt w' C s (-1) (acc ++ [t]) lv' := by
  obtain ⟨i0, hi, hz0, hz1, hz2⟩ := info_parts tok_info
  have h0 := hc.c0
  have h1 := hc.c1
  have hx : (s.extract b p).size ≤ 1048576 := by rw [size_extract' s b p (by omega) hp]; omega
  have HT : Hid (PowTab w) := ht
  have HV : Hid (ErrVars w) := hv
  have HH : Hid (tokOf (s.extract b p) b = some t) := h
  have hlt : C < w.heap.size := (Array.getElem?_eq_some_iff.1 hc.blk).1
  have hb0 : ((b : Int) == -1) = false := by rw [beq_eq_false_iff_ne]; omega
  have hi0 : (0 : Int) ≤ (b : Int) := by omega
  have hi1 : (b : Int) ≤ (p : Int) := by omega
  have hi2 : (p : Int) ≤ (s.size : Int) := by omega
  have hne1 : C ≠ w.heap.size := by omega
  have HC : Hid (CutAt w C s b acc lv) := hc
  clear hc ht hv h
  go_enter Tryz.func58, Tryz.ntmps58
  go_wp2_with fail
  go_region_held3 (fun w' => w'.cell? ⟨C, 0, none⟩ = some (.string s) ∧ w'.cell? ⟨C, 1, none⟩ = some (.int .i64 b))
    (first | go_keep | exact ⟨far4 hs0 hne1, far4 hs1 hne1⟩ | exact ⟨far4 (alloc_cell hs0 _) hnw, far4 (alloc_cell hs1 _) hnw⟩)
    ((go_at_call 70; refine (token_some (s.extract b p) hx b _ (by first | exact HT.out | exact HT.out.below (below_alloc_drew w _)) (by first | exact HV.out | exact HV.out.below (below_alloc_drew w _)) t HH.out).mono ?_; rintro e w1 ⟨rfl, hb1⟩; have hbw : Below w.heap.size w w1 := (by first | exact ⟨hb1.os, hb1.tape, hb1.output, hb1.size, hb1.block⟩ | exact (below_alloc_drew w _).trans (hb1.mono (by simp))); have hs0 : w1.cell? ⟨C, 0, none⟩ = some (.string s) := (hbw.cell (by exact hlt)).trans h0; have hs1 : w1.cell? ⟨C, 1, none⟩ = some (.int .i64 b) := (hbw.cell (by exact hlt)).trans h1; have hnw : C ≠ w1.heap.size := (by have hq := hbw.size; omega); first | (have hn0 := new_cell hb1 0; have hn1 := new_cell hb1 1; have hn2 := new_cell hb1 2; have hn3 := new_cell hb1 3; have hnf := new_fr hb1) | skip))
  · go_wp2_with fail
    generalize hW : w1.alloc (.cells #[.int .i64 t.kind, .int .i64 t.at_, .int .i64 t.n, .string t.text] 78) = W
    have hWb : Below w.heap.size w W := by rw [← hW]; exact hbw.trans ((below_alloc w1 _).mono hbw.size)
    have hWd : W.heap[w1.heap.size]? = some (.cells #[.int .i64 t.kind, .int .i64 t.at_, .int .i64 t.n, .string t.text] 78 (0, 0)) := by rw [← hW]; exact heap_alloc_new w1 _
    clear hW
    generalize hD : w1.heap.size = D at hWd ⊢
    have hDge : w.heap.size ≤ D := by have := hbw.size; omega
    clear hD
    have hcut : CutAt W C s b acc lv := HC.out.below hWb
    have h2 := hcut.c2
    have d0 : W.cell? ⟨D, 0, none⟩ = some (.int .i64 t.kind) := cell_of_row W D 0 _ _ _ hWd
    have d1 : W.cell? ⟨D, 1, none⟩ = some (.int .i64 t.at_) := cell_of_row W D 1 _ _ _ hWd
    have d2 : W.cell? ⟨D, 2, none⟩ = some (.int .i64 t.n) := cell_of_row W D 2 _ _ _ hWd
    have d3 : W.cell? ⟨D, 3, none⟩ = some (.string t.text) := cell_of_row W D 3 _ _ _ hWd
    have hCW : C < W.heap.size := (Array.getElem?_eq_some_iff.1 hcut.blk).1
    have hDW : D < W.heap.size := (Array.getElem?_eq_some_iff.1 hWd).1
    have hCD : C ≠ D := by omega
    have ag : lv.ownBlock ≠ some C := by intro e; have := (HC.out.own.lt C e).1; omega
    have ad : lv.ownBlock ≠ some D := by intro e; have := (HC.out.own.lt D e).2; omega
    have HCUT : Hid (CutAt W C s b acc lv) := hcut
    have HWB : Hid (Below w.heap.size w W) := hWb
    have HWD : Hid (W.heap[D]? = some (.cells #[.int .i64 t.kind, .int .i64 t.at_, .int .i64 t.n, .string t.text] 78 (0, 0))) := hWd
    clear hcut hWb hWd hb1 hbw hs0 hs1 hnw h0 h1 hne1
    go_region_law
      ((refine step_append_lies _ (by rfl) _ _ _ (by rfl) (C + 2) 78 i0 _ 4 40 Tryz.underlying44 hi hz0 hz1 hz2 rfl (by omega) lv acc.length (rows acc) (by rfl) ((HCUT.out.own.alloc _).drew) ⟨W.heap.size, 0, none⟩ 1 1 [.int .i64 t.kind, .int .i64 t.at_, .int .i64 t.n, .string t.text] (by rfl) (by rfl) (World.news_of_block (cs := #[.int .i64 t.kind, .int .i64 t.at_, .int .i64 t.n, .string t.text]) (t := 78) (fr := (0, 0)) (heap_alloc_new W _)) (by simp [Value.oneCell']) (by omega) (by unfold maxLen; omega) (by omega) (by simp; omega) (W.heap.size + 1) (by simp) ?_; intro gg cap w3 hown3 hgrow hat hlt3; have hblk3 := cut_kept HCUT.out hgrow; have hblkD := (far_kept hgrow hDW (Ne.symm ad)).trans HWD.out; have g0 : w3.cell? ⟨D, 0, none⟩ = some (.int .i64 t.kind) := cell_of_row w3 D 0 _ _ _ hblkD; have g1 : w3.cell? ⟨D, 1, none⟩ = some (.int .i64 t.at_) := cell_of_row w3 D 1 _ _ _ hblkD; have g2 : w3.cell? ⟨D, 2, none⟩ = some (.int .i64 t.n) := cell_of_row w3 D 2 _ _ _ hblkD; have g3 : w3.cell? ⟨D, 3, none⟩ = some (.string t.text) := cell_of_row w3 D 3 _ _ _ hblkD; have e1 : w3.cell? ⟨C, 1, none⟩ = some (.int .i64 b) := cell_of_row w3 C 1 _ _ _ hblk3; have e2 : w3.cell? ⟨C, 2, none⟩ = some lv := cell_of_row w3 C 2 _ _ _ hblk3; have ef : ∀ j, w3.frozen? ⟨C, j, none⟩ = false := fun j => frozen_of_row w3 C j _ _ hblk3))
    all_goals
      go_wp2
      go_ret
      obtain ⟨q1, q2, q3⟩ := cut_done (t := t) HCUT.out hown3 hgrow (by have := HWB.out.size; omega)
      exact ⟨rfl, (HWB.out.mono (by omega)).trans q2, q3.trans (HWB.out.block _ hC1), _, q1⟩
  · go_wp2_with fail
    have hk := new_kept hb1
    generalize hW : ((((w1.setCell ⟨w.heap.size, 0, none⟩ (.int .i64 t.kind)).setCell ⟨w.heap.size, 1, none⟩ (.int .i64 t.at_)).setCell ⟨w.heap.size, 2, none⟩ (.int .i64 t.n)).setCell ⟨w.heap.size, 3, none⟩ (.string t.text)) = W
    have hWb : Below w.heap.size w W := by rw [← hW]; exact below4 hbw (Nat.le_refl _)
    have hWd : W.heap[w.heap.size]? = some (.cells #[.int .i64 t.kind, .int .i64 t.at_, .int .i64 t.n, .string t.text] 78 (0, 0)) := by rw [← hW]; exact stored4 hk
    clear hW hk hn0 hn1 hn2 hn3 hnf
    generalize hD : w.heap.size = D at hWd ⊢
    have hDge : w.heap.size ≤ D := by omega
    have hcut : CutAt W C s b acc lv := HC.out.below hWb
    have h2 := hcut.c2
    have d0 : W.cell? ⟨D, 0, none⟩ = some (.int .i64 t.kind) := cell_of_row W D 0 _ _ _ hWd
    have d1 : W.cell? ⟨D, 1, none⟩ = some (.int .i64 t.at_) := cell_of_row W D 1 _ _ _ hWd
    have d2 : W.cell? ⟨D, 2, none⟩ = some (.int .i64 t.n) := cell_of_row W D 2 _ _ _ hWd
    have d3 : W.cell? ⟨D, 3, none⟩ = some (.string t.text) := cell_of_row W D 3 _ _ _ hWd
    have hCW : C < W.heap.size := (Array.getElem?_eq_some_iff.1 hcut.blk).1
    have hDW : D < W.heap.size := (Array.getElem?_eq_some_iff.1 hWd).1
    have hCD : C ≠ D := by omega
    have ag : lv.ownBlock ≠ some C := by intro e; have := (HC.out.own.lt C e).1; omega
    have ad : lv.ownBlock ≠ some D := by intro e; have := (HC.out.own.lt D e).2; omega
    have HCUT : Hid (CutAt W C s b acc lv) := hcut
    have HWB : Hid (Below w.heap.size w W) := hWb
    have HWD : Hid (W.heap[D]? = some (.cells #[.int .i64 t.kind, .int .i64 t.at_, .int .i64 t.n, .string t.text] 78 (0, 0))) := hWd
    clear hcut hWb hWd hb1 hbw hs0 hs1 hnw h0 h1 hne1
    go_region_law
      ((refine step_append_lies _ (by rfl) _ _ _ (by rfl) (C + 2) 78 i0 _ 4 40 Tryz.underlying44 hi hz0 hz1 hz2 rfl (by omega) lv acc.length (rows acc) (by rfl) ((HCUT.out.own.alloc _).drew) ⟨W.heap.size, 0, none⟩ 1 1 [.int .i64 t.kind, .int .i64 t.at_, .int .i64 t.n, .string t.text] (by rfl) (by rfl) (World.news_of_block (cs := #[.int .i64 t.kind, .int .i64 t.at_, .int .i64 t.n, .string t.text]) (t := 78) (fr := (0, 0)) (heap_alloc_new W _)) (by simp [Value.oneCell']) (by omega) (by unfold maxLen; omega) (by omega) (by simp; omega) (W.heap.size + 1) (by simp) ?_; intro gg cap w3 hown3 hgrow hat hlt3; have hblk3 := cut_kept HCUT.out hgrow; have hblkD := (far_kept hgrow hDW (Ne.symm ad)).trans HWD.out; have g0 : w3.cell? ⟨D, 0, none⟩ = some (.int .i64 t.kind) := cell_of_row w3 D 0 _ _ _ hblkD; have g1 : w3.cell? ⟨D, 1, none⟩ = some (.int .i64 t.at_) := cell_of_row w3 D 1 _ _ _ hblkD; have g2 : w3.cell? ⟨D, 2, none⟩ = some (.int .i64 t.n) := cell_of_row w3 D 2 _ _ _ hblkD; have g3 : w3.cell? ⟨D, 3, none⟩ = some (.string t.text) := cell_of_row w3 D 3 _ _ _ hblkD; have e1 : w3.cell? ⟨C, 1, none⟩ = some (.int .i64 b) := cell_of_row w3 C 1 _ _ _ hblk3; have e2 : w3.cell? ⟨C, 2, none⟩ = some lv := cell_of_row w3 C 2 _ _ _ hblk3; have ef : ∀ j, w3.frozen? ⟨C, j, none⟩ = false := fun j => frozen_of_row w3 C j _ _ hblk3))
    all_goals
      go_wp2
      go_ret
      obtain ⟨q1, q2, q3⟩ := cut_done (t := t) HCUT.out hown3 hgrow (by have := HWB.out.size; omega)
      exact ⟨rfl, (HWB.out.mono (by omega)).trans q2, q3.trans (HWB.out.block _ hC1), _, q1⟩
end Go.Proofs.YtoljphjmekkneabGreatDoor
