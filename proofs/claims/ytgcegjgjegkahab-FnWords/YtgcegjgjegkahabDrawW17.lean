/- What the draws of a word, of a place, and of what is read from words answer: some int. Condition: the code's bytes can be read. -/
import Derived.Test.YtgcegjgjegkahabCur2
namespace Go.Proofs.Ytgcegjgjegkahab
open Go.ChangeShapes Go.WideShapes Go.ChangeAt Go.RowKit

theorem intsAt_alloc (w : World) (zs : List Int) (t : TypeId) : IntsAt w.heap.size zs (w.alloc (.cells (zs.map (Value.int .i64)).toArray t)) := by
  intro j hj
  rw [World.cell?_alloc_mark]
  simp [List.getElem?_map, List.getElem?_eq_getElem hj, List.getD_eq_getElem?_getD]
theorem CurAt.alloc {c : Nat} {a : Option Addr} {len cap : Nat} {w : World} (h : CurAt c a len cap w) (o : Obj) : CurAt c a len cap (w.alloc o) :=
  h.keep (d := w.heap.size) ((Ext.refl _ w).alloc o) h.lt
theorem CurAt.below {c : Nat} {a : Option Addr} {len cap : Nat} {w w' : World} (h : CurAt c a len cap w) (hb : Below w.heap.size w w') : CurAt c a len cap w' :=
  h.keep (d := w.heap.size) (Ext.of_below hb (Nat.le_refl _)) h.lt

def anyInts : List Int := [0, 1, -1, 5, 1073741823, 1073741824, -1073741824, -1073741825, 9223372036854775807, -9223372036854775808]

set_option maxHeartbeats 1000000 in
theorem l1DrawAny_any (c : Nat) (a : Option Addr) (len cap : Nat) (w : World) (hc : CurAt c a len cap w) :
    Calls Try.prog 76 #[.pointer (some ⟨c, 0, none⟩)] w fun e w' => (∃ n : Int, -9223372036854775808 ≤ n ∧ n ≤ 9223372036854775807 ∧ e = .returned (.int .i64 n)) ∧ Ext c w w' ∧ CurAt c a len cap w' := by
  have hlt := hc.lt
  go_enter Try.func76, Try.ntmps76
  go_wp2_with fail
  refine (l1PickInt_any c a len cap w.heap.size anyInts (w.alloc (.cells (anyInts.map (Value.int .i64)).toArray 3)) (hc.alloc _) (by omega) 10 rfl (by omega) (by omega) (intsAt_alloc w anyInts _)).mono ?_
  rintro e w1 ⟨⟨z, hz, rfl⟩, hx, hcur⟩
  have hbd : ∀ z ∈ anyInts, -9223372036854775808 ≤ z ∧ z ≤ 9223372036854775807 := by decide
  have hzb := hbd z hz
  clear hbd hz
  go_wp2
  go_ret
  exact ⟨⟨z, hzb.1, hzb.2, rfl⟩, ((Ext.refl c w).alloc _).trans hx, hcur⟩

theorem drawIntWord_any (a : Option Addr) (len cap : Nat) (w : World) (hc : CodeOk a len w.heap.size w) :
    Calls Try.prog 35 #[.slice a len cap] w fun e w' => (∃ n : Int, e = .returned (.int .i64 n)) ∧ Below w.heap.size w w' := by
  go_enter Try.func35, Try.ntmps35
  go_wp2_with fail
  refine (l1New_any a len cap w hc).mono ?_
  rintro e w1 ⟨rfl, hb, hcur, -⟩
  go_wp2_with fail
  refine (l1DrawAny_any w.heap.size a len cap _ hcur).mono ?_
  rintro e w2 ⟨⟨n, n0, n1, rfl⟩, hx, hcur2⟩
  go_wp2
  go_ret
  exact ⟨⟨n, rfl⟩, hb.trans (hx.below (Nat.le_refl _) hb.size)⟩

def intsDrawRefWord : List Int := [0, 1, 5, 6000, 6001, -1, 9223372036854775807]
set_option maxRecDepth 100000 in
set_option maxHeartbeats 1000000 in
theorem dDrawRefWord_any (a : Option Addr) (len cap : Nat) (w : World) (hc : CodeOk a len w.heap.size w) :
    Calls Try.prog 36 #[.slice a len cap] w fun e w' => (∃ n : Int, e = .returned (.int .i64 n)) ∧ Below w.heap.size w w' := by
  go_enter Try.func36, Try.ntmps36
  go_wp2_with fail
  refine (l1New_any a len cap w hc).mono ?_
  rintro e w1 ⟨rfl, hb, hcur, -⟩
  have hlt := hcur.lt
  have hsz := hb.size
  go_wp2_with fail
  refine (l1PickInt_any w.heap.size a len cap w1.heap.size intsDrawRefWord (w1.alloc (.cells (intsDrawRefWord.map (Value.int .i64)).toArray 3)) (hcur.alloc _) (by omega) 7 rfl (by omega) (by omega) (intsAt_alloc w1 intsDrawRefWord _)).mono ?_
  rintro e w2 ⟨⟨z, hz, rfl⟩, hx, hcur2⟩
  clear hz
  go_wp2
  go_ret
  exact ⟨⟨z, rfl⟩, (hb.alloc hb.size _).trans (hx.below (Nat.le_refl _) (by simp; omega))⟩

def intsDrawIsRef : List Int := [0, 1, 2, 3, -1, -2, 9223372036854775807]
set_option maxRecDepth 100000 in
set_option maxHeartbeats 1000000 in
theorem dDrawIsRef_any (a : Option Addr) (len cap : Nat) (w : World) (hc : CodeOk a len w.heap.size w) :
    Calls Try.prog 41 #[.slice a len cap] w fun e w' => (∃ n : Int, e = .returned (.int .i64 n)) ∧ Below w.heap.size w w' := by
  go_enter Try.func41, Try.ntmps41
  go_wp2_with fail
  refine (l1New_any a len cap w hc).mono ?_
  rintro e w1 ⟨rfl, hb, hcur, -⟩
  have hlt := hcur.lt
  have hsz := hb.size
  go_wp2_with fail
  refine (l1PickInt_any w.heap.size a len cap w1.heap.size intsDrawIsRef (w1.alloc (.cells (intsDrawIsRef.map (Value.int .i64)).toArray 3)) (hcur.alloc _) (by omega) 7 rfl (by omega) (by omega) (intsAt_alloc w1 intsDrawIsRef _)).mono ?_
  rintro e w2 ⟨⟨z, hz, rfl⟩, hx, hcur2⟩
  clear hz
  go_wp2
  go_ret
  exact ⟨⟨z, rfl⟩, (hb.alloc hb.size _).trans (hx.below (Nat.le_refl _) (by simp; omega))⟩

def intsDrawWordInt : List Int := [0, 1, 3, -1, -3, 11, 9223372036854775807, -9223372036854775808]
set_option maxRecDepth 100000 in
set_option maxHeartbeats 1000000 in
theorem dDrawWordInt_any (a : Option Addr) (len cap : Nat) (w : World) (hc : CodeOk a len w.heap.size w) :
    Calls Try.prog 39 #[.slice a len cap] w fun e w' => (∃ n : Int, e = .returned (.int .i64 n)) ∧ Below w.heap.size w w' := by
  go_enter Try.func39, Try.ntmps39
  go_wp2_with fail
  refine (l1New_any a len cap w hc).mono ?_
  rintro e w1 ⟨rfl, hb, hcur, -⟩
  have hlt := hcur.lt
  have hsz := hb.size
  go_wp2_with fail
  refine (l1PickInt_any w.heap.size a len cap w1.heap.size intsDrawWordInt (w1.alloc (.cells (intsDrawWordInt.map (Value.int .i64)).toArray 3)) (hcur.alloc _) (by omega) 8 rfl (by omega) (by omega) (intsAt_alloc w1 intsDrawWordInt _)).mono ?_
  rintro e w2 ⟨⟨z, hz, rfl⟩, hx, hcur2⟩
  clear hz
  go_wp2
  go_ret
  exact ⟨⟨z, rfl⟩, (hb.alloc hb.size _).trans (hx.below (Nat.le_refl _) (by simp; omega))⟩

theorem dDrawWordRef_any (a : Option Addr) (len cap : Nat) (w : World) (hc : CodeOk a len w.heap.size w) :
    Calls Try.prog 40 #[.slice a len cap] w fun e w' => (∃ n : Int, e = .returned (.int .i64 n)) ∧ Below w.heap.size w w' := by
  go_enter Try.func40, Try.ntmps40
  go_wp2_with fail
  refine (dDrawWordInt_any a len cap w hc).mono ?_
  rintro e w1 ⟨⟨n, rfl⟩, hb⟩
  go_wp2
  go_ret
  exact ⟨⟨n, rfl⟩, hb⟩
end Go.Proofs.Ytgcegjgjegkahab
