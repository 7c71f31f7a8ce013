/- impl.wordToken at every text: the token of a word, or none. Conditions: as impl.readWord's. -/
import Derived.Test.YtafpbcdgcgffeabGreatDoorZSym
import Derived.Test.YtafpbcdgcgffeabGreatDoorZImplRead
import Derived.Test.YtafpbcdgcgffeabGreatDoorZBase
import Derived.OwnWalk
import Derived.Laws.ResultCell
namespace Go.Proofs.YtafpbcdgcgffeabGreatDoor
open Go.ChangeShapes Go.WideShapes Go.ChangeAt Go.RowKit

def tokVal (t : Tok) : Value := .agg #[.int .i64 t.kind, .int .i64 t.at_, .int .i64 t.n, .string t.text]

theorem below_alloc (w : World) (o : Obj) : Below w.heap.size w (w.alloc o) :=
  ⟨rfl, rfl, rfl, by simp, fun k hk => (World.grownBy_alloc w o none).block k hk (by simp)⟩

theorem below_set {B : Nat} {w w' : World} (h : Below B w w') {a : Addr} (ha : B ≤ a.block) (u : Value) : Below B w (w'.setCell a u) :=
  ⟨h.os, h.tape, h.output, by simpa using h.size, fun k hk => (heap_setCell_other w' a k u (by omega)).trans (h.block k hk)⟩

theorem impl_clone (s : ByteArray) (hs : s.size ≤ 1048576) (w : World) : Calls Tryz.prog 77 #[.string s] w fun e w' => e = .returned (.string s) ∧ Below w.heap.size w w' := by
  have HC : Hid (Calls Tryz.prog 86 #[.string s] w fun e w' => e = .returned (.string s) ∧ Below w.heap.size w w') := Tryz.stringslite_Clone s w (by omega)
  go_enter Tryz.func77, Tryz.ntmps77
  go_wp2_with (go_at_call 86; refine HC.out.mono ?_; rintro e w1 ⟨rfl, hb1⟩)
  go_ret
  exact ⟨rfl, hb1⟩

set_option maxHeartbeats 1000000 in
theorem token_num (x : ByteArray) (hx : x.size ≤ 1048576) (b : Nat) (w : World) (ht : PowTab w) (hv : ErrVars w) (v : Int) (h : wordV x.data.toList = some v) :
    Calls Tryz.prog 69 #[.string x, .int .i64 b] w fun e w' => e = .returned (.tuple #[tokVal ⟨3, b, v, x⟩, .bool true]) ∧ Below w.heap.size w w' := by
  have HR : Hid (wordRes x.data.toList = .tuple #[.int .i64 v, .bool true]) := wordRes_yes h
  have HT : Hid (PowTab w) := ht
  have HV : Hid (ErrVars w) := hv
  clear ht hv h
  go_enter Tryz.func69, Tryz.ntmps69
  go_wp2_with fail
  refine (impl_read x hx _ (HT.out.below (below_alloc _ _)) (HV.out.below (below_alloc _ _))).mono ?_
  rintro e w1 ⟨rfl, hb1⟩
  rw [HR.out]
  have hk : w1.heap[w.heap.size]? = some (Obj.cells #[.int .i64 0, .int .i64 0, .int .i64 0, .string ⟨#[]⟩] 84) := (hb1.block _ (by simp)).trans (heap_alloc_new w _)
  have HKw1 : Hid (w1.heap[w.heap.size]? = some (Obj.cells #[.int .i64 0, .int .i64 0, .int .i64 0, .string ⟨#[]⟩] 84)) := hk
  have HB1 : Hid (Below w.heap.size w w1) := (below_alloc w _).trans (hb1.mono (by simp))
  clear hb1 hk
  go_wp2_with fail
  refine (impl_clone x hx _).mono ?_
  rintro e w2 ⟨rfl, hb2⟩
  have hk : w2.heap[w.heap.size]? = some (Obj.cells #[.int .i64 0, .int .i64 0, .int .i64 0, .string ⟨#[]⟩] 84) := (hb2.block _ (Array.getElem?_eq_some_iff.1 HKw1.out).1).trans HKw1.out
  have HKw2 : Hid (w2.heap[w.heap.size]? = some (Obj.cells #[.int .i64 0, .int .i64 0, .int .i64 0, .string ⟨#[]⟩] 84)) := hk
  have HBX : Hid (Below w.heap.size w w2) := HB1.out.trans (hb2.mono HB1.out.size)
  have hc0 : w2.cell? ⟨w.heap.size, 0, none⟩ = some (.int .i64 0) := cell_of_row w2 w.heap.size 0 _ _ _ hk
  have hc1 : w2.cell? ⟨w.heap.size, 1, none⟩ = some (.int .i64 0) := cell_of_row w2 w.heap.size 1 _ _ _ hk
  have hc2 : w2.cell? ⟨w.heap.size, 2, none⟩ = some (.int .i64 0) := cell_of_row w2 w.heap.size 2 _ _ _ hk
  have hc3 : w2.cell? ⟨w.heap.size, 3, none⟩ = some (.string ⟨#[]⟩) := cell_of_row w2 w.heap.size 3 _ _ _ hk
  have hf : ∀ j, w2.frozen? ⟨w.heap.size, j, none⟩ = false := fun j => frozen_of_row w2 w.heap.size j _ _ hk
  clear hb2 hk
  go_wp2
  refine bodyPost_ret (v := .tuple #[tokVal ⟨3, b, v, x⟩, .bool true]) (by rw [results_cell_tmp (p := 4) (u := 5) (ty := 84) (by kernel_rfl)]; simp [go_sem, tokVal, hc0, hc1, hc2, hc3]) rfl ⟨rfl, ?_⟩
  exact below_set (below_set (below_set (below_set HBX.out (Nat.le_refl _) _) (Nat.le_refl _) _) (Nat.le_refl _) _) (Nat.le_refl _) _

set_option maxHeartbeats 1000000 in
theorem token_sym (x : ByteArray) (hx : x.size ≤ 1048576) (b : Nat) (w : World) (ht : PowTab w) (hv : ErrVars w) (h : wordV x.data.toList = none) (hs : symB x.data.toList = true) :
    Calls Tryz.prog 69 #[.string x, .int .i64 b] w fun e w' => e = .returned (.tuple #[tokVal ⟨4, b, 0, x⟩, .bool true]) ∧ Below w.heap.size w w' := by
  have HR : Hid (wordRes x.data.toList = .tuple #[.int .i64 0, .bool false]) := wordRes_no h
  have HS : Hid (symB x.data.toList = true) := hs
  have HT : Hid (PowTab w) := ht
  have HV : Hid (ErrVars w) := hv
  clear ht hv h hs
  go_enter Tryz.func69, Tryz.ntmps69
  go_wp2_with fail
  refine (impl_read x hx _ (HT.out.below (below_alloc _ _)) (HV.out.below (below_alloc _ _))).mono ?_
  rintro e w1 ⟨rfl, hb1⟩
  rw [HR.out]
  have hk : w1.heap[w.heap.size]? = some (Obj.cells #[.int .i64 0, .int .i64 0, .int .i64 0, .string ⟨#[]⟩] 84) := (hb1.block _ (by simp)).trans (heap_alloc_new w _)
  have HKw1 : Hid (w1.heap[w.heap.size]? = some (Obj.cells #[.int .i64 0, .int .i64 0, .int .i64 0, .string ⟨#[]⟩] 84)) := hk
  have HB1 : Hid (Below w.heap.size w w1) := (below_alloc w _).trans (hb1.mono (by simp))
  clear hb1 hk
  go_wp2_with fail
  refine (impl_sym x hx _).mono ?_
  rintro e w2 ⟨rfl, hb2⟩
  rw [HS.out]
  have hk : w2.heap[w.heap.size]? = some (Obj.cells #[.int .i64 0, .int .i64 0, .int .i64 0, .string ⟨#[]⟩] 84) := (hb2.block _ (Array.getElem?_eq_some_iff.1 HKw1.out).1).trans HKw1.out
  have HKw2 : Hid (w2.heap[w.heap.size]? = some (Obj.cells #[.int .i64 0, .int .i64 0, .int .i64 0, .string ⟨#[]⟩] 84)) := hk
  have HB2 : Hid (Below w.heap.size w w2) := HB1.out.trans (hb2.mono HB1.out.size)
  clear hb2 hk
  go_wp2_with fail
  refine (impl_clone x hx _).mono ?_
  rintro e w3 ⟨rfl, hb3⟩
  have hk : w3.heap[w.heap.size]? = some (Obj.cells #[.int .i64 0, .int .i64 0, .int .i64 0, .string ⟨#[]⟩] 84) := (hb3.block _ (Array.getElem?_eq_some_iff.1 HKw2.out).1).trans HKw2.out
  have HKw3 : Hid (w3.heap[w.heap.size]? = some (Obj.cells #[.int .i64 0, .int .i64 0, .int .i64 0, .string ⟨#[]⟩] 84)) := hk
  have HBX : Hid (Below w.heap.size w w3) := HB2.out.trans (hb3.mono HB2.out.size)
  have hc0 : w3.cell? ⟨w.heap.size, 0, none⟩ = some (.int .i64 0) := cell_of_row w3 w.heap.size 0 _ _ _ hk
  have hc1 : w3.cell? ⟨w.heap.size, 1, none⟩ = some (.int .i64 0) := cell_of_row w3 w.heap.size 1 _ _ _ hk
  have hc2 : w3.cell? ⟨w.heap.size, 2, none⟩ = some (.int .i64 0) := cell_of_row w3 w.heap.size 2 _ _ _ hk
  have hc3 : w3.cell? ⟨w.heap.size, 3, none⟩ = some (.string ⟨#[]⟩) := cell_of_row w3 w.heap.size 3 _ _ _ hk
  have hf : ∀ j, w3.frozen? ⟨w.heap.size, j, none⟩ = false := fun j => frozen_of_row w3 w.heap.size j _ _ hk
  clear hb3 hk
  go_wp2
  refine bodyPost_ret (v := .tuple #[tokVal ⟨4, b, 0, x⟩, .bool true]) (by rw [results_cell_tmp (p := 4) (u := 5) (ty := 84) (by kernel_rfl)]; simp [go_sem, tokVal, hc0, hc1, hc2, hc3]) rfl ⟨rfl, ?_⟩
  exact below_set (below_set (below_set (below_set HBX.out (Nat.le_refl _) _) (Nat.le_refl _) _) (Nat.le_refl _) _) (Nat.le_refl _) _

set_option maxHeartbeats 1000000 in
theorem token_none (x : ByteArray) (hx : x.size ≤ 1048576) (b : Nat) (w : World) (ht : PowTab w) (hv : ErrVars w) (h : wordV x.data.toList = none) (hs : symB x.data.toList = false) :
    Calls Tryz.prog 69 #[.string x, .int .i64 b] w fun e w' => e = .returned (.tuple #[tokVal ⟨0, 0, 0, ⟨#[]⟩⟩, .bool false]) ∧ Below w.heap.size w w' := by
  have HR : Hid (wordRes x.data.toList = .tuple #[.int .i64 0, .bool false]) := wordRes_no h
  have HS : Hid (symB x.data.toList = false) := hs
  have HT : Hid (PowTab w) := ht
  have HV : Hid (ErrVars w) := hv
  clear ht hv h hs
  go_enter Tryz.func69, Tryz.ntmps69
  go_wp2_with fail
  refine (impl_read x hx _ (HT.out.below (below_alloc _ _)) (HV.out.below (below_alloc _ _))).mono ?_
  rintro e w1 ⟨rfl, hb1⟩
  rw [HR.out]
  have hk : w1.heap[w.heap.size]? = some (Obj.cells #[.int .i64 0, .int .i64 0, .int .i64 0, .string ⟨#[]⟩] 84) := (hb1.block _ (by simp)).trans (heap_alloc_new w _)
  have HKw1 : Hid (w1.heap[w.heap.size]? = some (Obj.cells #[.int .i64 0, .int .i64 0, .int .i64 0, .string ⟨#[]⟩] 84)) := hk
  have HB1 : Hid (Below w.heap.size w w1) := (below_alloc w _).trans (hb1.mono (by simp))
  clear hb1 hk
  go_wp2_with fail
  refine (impl_sym x hx _).mono ?_
  rintro e w2 ⟨rfl, hb2⟩
  rw [HS.out]
  have hk : w2.heap[w.heap.size]? = some (Obj.cells #[.int .i64 0, .int .i64 0, .int .i64 0, .string ⟨#[]⟩] 84) := (hb2.block _ (Array.getElem?_eq_some_iff.1 HKw1.out).1).trans HKw1.out
  have HKw2 : Hid (w2.heap[w.heap.size]? = some (Obj.cells #[.int .i64 0, .int .i64 0, .int .i64 0, .string ⟨#[]⟩] 84)) := hk
  have HBX : Hid (Below w.heap.size w w2) := HB1.out.trans (hb2.mono HB1.out.size)
  have hc0 : w2.cell? ⟨w.heap.size, 0, none⟩ = some (.int .i64 0) := cell_of_row w2 w.heap.size 0 _ _ _ hk
  have hc1 : w2.cell? ⟨w.heap.size, 1, none⟩ = some (.int .i64 0) := cell_of_row w2 w.heap.size 1 _ _ _ hk
  have hc2 : w2.cell? ⟨w.heap.size, 2, none⟩ = some (.int .i64 0) := cell_of_row w2 w.heap.size 2 _ _ _ hk
  have hc3 : w2.cell? ⟨w.heap.size, 3, none⟩ = some (.string ⟨#[]⟩) := cell_of_row w2 w.heap.size 3 _ _ _ hk
  have hf : ∀ j, w2.frozen? ⟨w.heap.size, j, none⟩ = false := fun j => frozen_of_row w2 w.heap.size j _ _ hk
  clear hb2 hk
  go_wp2
  refine bodyPost_ret (v := .tuple #[tokVal ⟨0, 0, 0, ⟨#[]⟩⟩, .bool false]) (by rw [results_cell_tmp (p := 4) (u := 5) (ty := 84) (by kernel_rfl)]; simp [go_sem, tokVal, hc0, hc1, hc2, hc3]) rfl ⟨rfl, ?_⟩
  exact below_set (below_set (below_set (below_set HBX.out (Nat.le_refl _) _) (Nat.le_refl _) _) (Nat.le_refl _) _) (Nat.le_refl _) _

theorem token_some (x : ByteArray) (hx : x.size ≤ 1048576) (b : Nat) (w : World) (ht : PowTab w) (hv : ErrVars w) (t : Tok) (h : tokOf x b = some t) :
    Calls Tryz.prog 69 #[.string x, .int .i64 b] w fun e w' => e = .returned (.tuple #[.agg #[.int .i64 t.kind, .int .i64 t.at_, .int .i64 t.n, .string t.text], .bool true]) ∧ Below w.heap.size w w' := by
  unfold tokOf at h
  cases e : wordV x.data.toList with
  | some v => rw [e] at h; simp only [Option.some.injEq] at h; subst h; exact token_num x hx b w ht hv v e
  | none =>
    rw [e] at h
    simp only at h
    split at h
    · rename_i hs
      simp only [Option.some.injEq] at h
      subst h
      exact token_sym x hx b w ht hv e hs
    · cases h

theorem token_no (x : ByteArray) (hx : x.size ≤ 1048576) (b : Nat) (w : World) (ht : PowTab w) (hv : ErrVars w) (h : tokOf x b = none) :
    Calls Tryz.prog 69 #[.string x, .int .i64 b] w fun e w' => e = .returned (.tuple #[.agg #[.int .i64 0, .int .i64 0, .int .i64 0, .string ⟨#[]⟩], .bool false]) ∧ Below w.heap.size w w' := by
  unfold tokOf at h
  cases e : wordV x.data.toList with
  | some v => rw [e] at h; cases h
  | none =>
    rw [e] at h
    simp only at h
    split at h
    · cases h
    · rename_i hs
      exact token_none x hx b w ht hv e (by simpa using hs)
end Go.Proofs.YtafpbcdgcgffeabGreatDoor
