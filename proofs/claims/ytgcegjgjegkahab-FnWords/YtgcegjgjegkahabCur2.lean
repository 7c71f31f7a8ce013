/- Drawing a number below n, one of a list of ints or of texts, and the making of a cursor. Conditions: as the theorems say: the cursor lies in its block, the list's cells are there. -/
import Derived.Test.YtgcegjgjegkahabCur
namespace Go.Proofs.Ytgcegjgjegkahab
open Go.ChangeShapes Go.WideShapes Go.ChangeAt Go.RowKit

set_option maxHeartbeats 1000000 in
theorem l1Below_any (c : Nat) (a : Option Addr) (len cap : Nat) (n : Int) (hn : n ≤ 9223372036854775807) (w : World) (hc : CurAt c a len cap w) :
    Calls Try.prog 72 #[.pointer (some ⟨c, 0, none⟩), .int .i64 n] w fun e w' => (∃ x : Int, 0 ≤ x ∧ (n ≤ 0 → x = 0) ∧ (0 < n → x < n) ∧ e = .returned (.int .i64 x)) ∧ Ext c w w' ∧ CurAt c a len cap w' := by
  by_cases h0 : n ≤ 0
  · go_enter Try.func72, Try.ntmps72
    go_wp2
    go_ret
    exact ⟨⟨0, by omega, fun _ => rfl, fun h => by omega, rfl⟩, Ext.refl _ _, hc⟩
  by_cases h1 : n ≤ 256
  · go_enter Try.func72, Try.ntmps72
    go_wp2_with fail
    refine (l1Byte_any c a len cap _ hc).mono ?_
    rintro e w1 ⟨⟨x, x0, x1, rfl⟩, hx, hcur⟩
    have hz : ¬ n = 0 := by omega
    have hz2 : (n == 0) = false := by simp; omega
    go_wp2
    go_ret
    exact ⟨⟨_, Int.emod_nonneg _ (by omega), fun h => by omega, fun h => Int.emod_lt_of_pos _ h, rfl⟩, hx, hcur⟩
  · go_enter Try.func72, Try.ntmps72
    go_wp2_with fail
    refine (l1Byte_any c a len cap _ hc).mono ?_
    rintro e w1 ⟨⟨x, x0, x1, rfl⟩, hx, hcur⟩
    go_wp2_with fail
    refine (l1Byte_any c a len cap _ hcur).mono ?_
    rintro e w2 ⟨⟨y, y0, y1, rfl⟩, hy, hcur2⟩
    go_wp2_with fail
    refine (l1Byte_any c a len cap _ hcur2).mono ?_
    rintro e w3 ⟨⟨z, z0, z1, rfl⟩, hz, hcur3⟩
    go_wp2_with fail
    refine (l1Byte_any c a len cap _ hcur3).mono ?_
    rintro e w4 ⟨⟨u, u0, u1, rfl⟩, hu, hcur4⟩
    have hz2 : (n == 0) = false := by simp; omega
    go_wp2
    go_ret
    exact ⟨⟨_, Int.emod_nonneg _ (by omega), fun h => by omega, fun h => Int.emod_lt_of_pos _ h, rfl⟩, ((hx.trans hy).trans hz).trans hu, hcur4⟩

theorem getD_mem {α : Type} {l : List α} {k : Nat} (h : k < l.length) (d : α) : l.getD k d ∈ l := by
  rw [List.getD_eq_getElem?_getD, List.getElem?_eq_getElem h, Option.getD_some]
  exact List.getElem_mem _

/-- The cells of a list of ints, from its first on. -/
def IntsAt (b : Nat) (zs : List Int) (w : World) : Prop := ∀ j, j < zs.length → w.cell? ⟨b, j, none⟩ = some (.int .i64 (zs.getD j 0))
def TextsAt (b : Nat) (ss : List ByteArray) (w : World) : Prop := ∀ j, j < ss.length → w.cell? ⟨b, j, none⟩ = some (.string (ss.getD j ⟨#[]⟩))

set_option maxHeartbeats 1000000 in
theorem l1PickInt_any (c : Nat) (a : Option Addr) (len cap : Nat) (b : Nat) (zs : List Int) (w : World) (hc : CurAt c a len cap w) (hbc : b ≠ c) (m : Nat) (hm : zs.length = m) (h1 : 0 < m) (h2 : m ≤ 256) (hz : IntsAt b zs w) :
    Calls Try.prog 74 #[.pointer (some ⟨c, 0, none⟩), .slice (some ⟨b, 0, none⟩) m m] w fun e w' => (∃ z ∈ zs, e = .returned (.int .i64 z)) ∧ Ext c w w' ∧ CurAt c a len cap w' := by
  have HL : Hid (zs.length = m) := hm
  clear hm
  go_enter Try.func74, Try.ntmps74
  go_wp2_with fail
  refine (l1Below_any c a len cap (m : Int) (by omega) _ hc).mono ?_
  rintro e w1 ⟨⟨x, x0, _, x1, rfl⟩, hx, hcur⟩
  have hxm := x1 (by omega)
  have hcell : w1.cell? ⟨b, x.toNat, none⟩ = some (.int .i64 (zs.getD x.toNat 0)) := by
    have := hz x.toNat (by rw [HL.out]; omega)
    rw [cell_same (hx.block b (cell_lt this) hbc)]
    exact this
  clear x1
  go_wp2
  go_ret
  refine ⟨⟨zs.getD x.toNat 0, ?_, rfl⟩, hx, hcur⟩
  have hlt : x.toNat < zs.length := by rw [HL.out]; omega
  exact getD_mem hlt _

set_option maxHeartbeats 1000000 in
/-- spec.l1New: a cursor in a new block. -/
theorem l1New_any (a : Option Addr) (len cap : Nat) (w : World) (hc : CodeOk a len w.heap.size w) :
    Calls Try.prog 70 #[.slice a len cap] w fun e w' => e = .returned (.pointer (some ⟨w.heap.size, 0, none⟩)) ∧ Below w.heap.size w w' ∧ CurAt w.heap.size a len cap w' ∧ w'.heap.size = w.heap.size + 1 := by
  have HC : Hid (CodeOk a len w.heap.size w) := hc
  obtain ⟨hl, hk⟩ := hc
  go_enter Try.func70, Try.ntmps70
  go_wp2
  go_loop [3, 4] (fun h i => ∃ (k : Nat) (x : Int), k ≤ len ∧ i = .int .i64 k ∧ h = .int .i64 x) (fun _ i => len - (intOf i).toNat)
  case atStart => exact ⟨0, _, Nat.zero_le _, rfl, rfl⟩
  case round =>
    obtain ⟨k, x, hkl, rfl, rfl⟩ := hrel
    by_cases hlt : (k : Int) < len
    · by_cases h4 : (k : Int) < 4000
      · rcases hk with h | ⟨b, off, rfl, hb, hz⟩
        · omega
        obtain ⟨z, z0, z1, hcz⟩ := hz k (by omega)
        clear hz
        go_wp2
        exact ⟨⟨k + 1, _, by omega, by go_num, rfl⟩, by simp [intOf]; omega⟩
      · have h5 : decide ((k : Int) < 4000) = false := by simpa using h4
        go_wp2
        go_ret
        have hB := (Below.refl w.heap.size w).alloc (Nat.le_refl _) (.cells #[.slice a len cap, .int .i64 0, .int .i64 x] 101)
        exact ⟨rfl, hB, ⟨HC.out.keep fun k hk _ => hB.block k hk, 0, x, by omega, (MapKept.heap_alloc w _).1⟩, by simp⟩
    · go_wp2
      go_ret
      have hB := (Below.refl w.heap.size w).alloc (Nat.le_refl _) (.cells #[.slice a len cap, .int .i64 0, .int .i64 x] 101)
      exact ⟨rfl, hB, ⟨HC.out.keep fun k hk _ => hB.block k hk, 0, x, by omega, (MapKept.heap_alloc w _).1⟩, by simp⟩
end Go.Proofs.Ytgcegjgjegkahab
