/- Two lists of ints held against each other, one by one: spec.SameSet, laws.sameInts, laws.eqIntS, slices.Equal. Condition: at most 2^22 of them. -/
import Derived.Test.YtgcegjgjegkahabInts
import Derived.Deep.QuietTactic
import Derived.BigQuiet
import Derived.WalkSpells
import Derived.WalkSmall
namespace Go.Proofs.Ytgcegjgjegkahab
open Go.ChangeShapes Go.WideShapes Go.ChangeAt Go.RowKit

set_option maxHeartbeats 1000000 in
theorem same_ints (xs ys : List Int) (v u : Value) (w : World) (hv : Rd w v xs) (hu : Rd w u ys) (hl : xs.length ≤ 4194304) (_hl2 : ys.length ≤ 4194304) :
    Calls Try.prog 34 #[v, u] w fun e w' => e = .returned (.bool (sameB xs ys)) ∧ Below w.heap.size w w' := by
  obtain ⟨a, cap, rfl, hc⟩ := hv.shape
  obtain ⟨a2, cap2, rfl, hc2⟩ := hu.shape
  have HC : Hid (∀ j, j < xs.length → ∃ b off, a = some ⟨b, off, none⟩ ∧ w.cell? ⟨b, off + j, none⟩ = some (.int .i64 (xs.getD j 0))) := hc
  have HC2 : Hid (∀ j, j < ys.length → ∃ b off, a2 = some ⟨b, off, none⟩ ∧ w.cell? ⟨b, off + j, none⟩ = some (.int .i64 (ys.getD j 0))) := hc2
  clear hc hv hc2 hu
  by_cases hne : xs.length = ys.length
  · rw [← hne] at HC2 ⊢
    have HNE : Hid (xs.length = ys.length) := hne
    clear hne
    obtain ⟨m, hm⟩ : ∃ m, m = xs.length := ⟨_, rfl⟩
    rw [← hm] at HC HC2 hl ⊢
    have HM : Hid (m = xs.length) := hm
    clear hm
    go_enter Try.func34, Try.ntmps34
    go_wp2
    go_loopw [5] (fun i wr => ∃ k : Nat, k ≤ m ∧ i = .int .i64 k ∧ (∀ j, j < k → xs.getD j 0 = ys.getD j 0) ∧ Below w.heap.size w wr) (fun i _ => m - (intOf i).toNat)
    case atStart => exact ⟨0, by omega, rfl, fun j hj => by omega, Below.refl _ _⟩
    case round =>
      obtain ⟨k, hk, rfl, hno, hb⟩ := hrel
      have HNO : Hid (∀ j, j < k → xs.getD j 0 = ys.getD j 0) := hno
      have HB : Hid (Below w.heap.size w wr) := hb
      clear hno hb
      by_cases hlt : (k : Int) < m
      · obtain ⟨b, off, rfl, hcell⟩ := HC.out k (by omega)
        obtain ⟨b2, off2, rfl, hcell2⟩ := HC2.out k (by omega)
        generalize hx : xs.getD k 0 = x at hcell
        generalize hy : ys.getD k 0 = y at hcell2
        have HX : Hid (xs.getD k 0 = x) := hx
        have HY : Hid (ys.getD k 0 = y) := hy
        clear hx hy
        have c1 := cell_later HB.out hcell
        have c2 := cell_later HB.out hcell2
        clear hcell hcell2
        cases he : (x != y)
        · go_wp2_with fail
          go_quiet (fail)
          go_wp2
          go_roundw
          case rel =>
            refine ⟨k + 1, by omega, by go_num, fun j hj => ?_, below_drewN HB.out _⟩
            by_cases hjk : j = k
            · subst hjk; rw [HX.out, HY.out]; simpa using he
            · exact HNO.out j (by omega)
          case measure => simp [intOf]; omega
        · go_wp2_with fail
          go_quiet (fail)
          go_wp2
          go_ret
          rw [same_no k (by rw [HX.out, HY.out]; simpa using he)]
          exact ⟨rfl, below_drewN HB.out _⟩
      · go_wp2
        go_ret
        have hke : k = m := by omega
        subst hke
        rw [same_yes HNE.out (fun i hi => HNO.out i (by rw [HM.out]; exact hi))]
        exact ⟨rfl, HB.out⟩
  · have HS : Hid (sameB xs ys = false) := same_len hne
    have hd : ((xs.length : Int) != (ys.length : Int)) = true := by simp; omega
    generalize xs.length = m at *
    generalize ys.length = m2 at *
    clear HC HC2
    go_enter Try.func34, Try.ntmps34
    go_wp2
    go_ret
    rw [HS.out]
    exact ⟨rfl, Below.refl _ _⟩

set_option maxHeartbeats 1000000 in
theorem eq_ints (xs ys : List Int) (v u : Value) (w : World) (hv : Rd w v xs) (hu : Rd w u ys) (hl : xs.length ≤ 4194304) (_hl2 : ys.length ≤ 4194304) :
    Calls Try.prog 16 #[v, u] w fun e w' => e = .returned (.bool (sameB xs ys)) ∧ Below w.heap.size w w' := by
  obtain ⟨a, cap, rfl, hc⟩ := hv.shape
  obtain ⟨a2, cap2, rfl, hc2⟩ := hu.shape
  have HC : Hid (∀ j, j < xs.length → ∃ b off, a = some ⟨b, off, none⟩ ∧ w.cell? ⟨b, off + j, none⟩ = some (.int .i64 (xs.getD j 0))) := hc
  have HC2 : Hid (∀ j, j < ys.length → ∃ b off, a2 = some ⟨b, off, none⟩ ∧ w.cell? ⟨b, off + j, none⟩ = some (.int .i64 (ys.getD j 0))) := hc2
  clear hc hv hc2 hu
  by_cases hne : xs.length = ys.length
  · rw [← hne] at HC2 ⊢
    have HNE : Hid (xs.length = ys.length) := hne
    clear hne
    obtain ⟨m, hm⟩ : ∃ m, m = xs.length := ⟨_, rfl⟩
    rw [← hm] at HC HC2 hl ⊢
    have HM : Hid (m = xs.length) := hm
    clear hm
    go_enter Try.func16, Try.ntmps16
    go_wp2
    go_loopw [5] (fun i wr => ∃ k : Nat, k ≤ m ∧ i = .int .i64 k ∧ (∀ j, j < k → xs.getD j 0 = ys.getD j 0) ∧ Below w.heap.size w wr) (fun i _ => m - (intOf i).toNat)
    case atStart => exact ⟨0, by omega, rfl, fun j hj => by omega, Below.refl _ _⟩
    case round =>
      obtain ⟨k, hk, rfl, hno, hb⟩ := hrel
      have HNO : Hid (∀ j, j < k → xs.getD j 0 = ys.getD j 0) := hno
      have HB : Hid (Below w.heap.size w wr) := hb
      clear hno hb
      by_cases hlt : (k : Int) < m
      · obtain ⟨b, off, rfl, hcell⟩ := HC.out k (by omega)
        obtain ⟨b2, off2, rfl, hcell2⟩ := HC2.out k (by omega)
        generalize hx : xs.getD k 0 = x at hcell
        generalize hy : ys.getD k 0 = y at hcell2
        have HX : Hid (xs.getD k 0 = x) := hx
        have HY : Hid (ys.getD k 0 = y) := hy
        clear hx hy
        have c1 := cell_later HB.out hcell
        have c2 := cell_later HB.out hcell2
        clear hcell hcell2
        cases he : (x != y)
        · go_wp2_with fail
          go_quiet (fail)
          go_wp2
          go_roundw
          case rel =>
            refine ⟨k + 1, by omega, by go_num, fun j hj => ?_, below_drewN HB.out _⟩
            by_cases hjk : j = k
            · subst hjk; rw [HX.out, HY.out]; simpa using he
            · exact HNO.out j (by omega)
          case measure => simp [intOf]; omega
        · go_wp2_with fail
          go_quiet (fail)
          go_wp2
          go_ret
          rw [same_no k (by rw [HX.out, HY.out]; simpa using he)]
          exact ⟨rfl, below_drewN HB.out _⟩
      · go_wp2
        go_ret
        have hke : k = m := by omega
        subst hke
        rw [same_yes HNE.out (fun i hi => HNO.out i (by rw [HM.out]; exact hi))]
        exact ⟨rfl, HB.out⟩
  · have HS : Hid (sameB xs ys = false) := same_len hne
    have hd : ((xs.length : Int) != (ys.length : Int)) = true := by simp; omega
    generalize xs.length = m at *
    generalize ys.length = m2 at *
    clear HC HC2
    go_enter Try.func16, Try.ntmps16
    go_wp2
    go_ret
    rw [HS.out]
    exact ⟨rfl, Below.refl _ _⟩

end Go.Proofs.Ytgcegjgjegkahab
