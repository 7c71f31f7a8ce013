/- spec.l4Has, spec.SetOk, spec.Within, spec.SameSet at every list of ints. Condition: at most 2^22 of them. -/
import Derived.Test.YtgcegjgjegkahabInts
import Derived.Deep.QuietTactic
import Derived.BigQuiet
import Derived.WalkSpells
import Derived.WalkSmall
namespace Go.Proofs.Ytgcegjgjegkahab
open Go.ChangeShapes Go.WideShapes Go.ChangeAt Go.RowKit

set_option maxHeartbeats 1000000 in
theorem spec_has (xs : List Int) (v : Value) (n : Int) (w : World) (hv : Rd w v xs) (hl : xs.length ≤ 4194304) :
    Calls Try.prog 83 #[v, .int .i64 n] w fun e w' => e = .returned (.bool (hasB xs n)) ∧ w' = w := by
  obtain ⟨a, cap, rfl, hc⟩ := hv.shape
  have HC : Hid (∀ j, j < xs.length → ∃ b off, a = some ⟨b, off, none⟩ ∧ w.cell? ⟨b, off + j, none⟩ = some (.int .i64 (xs.getD j 0))) := hc
  clear hc hv
  obtain ⟨m, hm⟩ : ∃ m, m = xs.length := ⟨_, rfl⟩
  rw [← hm] at HC hl ⊢
  have HM : Hid (m = xs.length) := hm
  clear hm
  go_enter Try.func83, Try.ntmps83
  go_wp2
  go_loop [5] (fun i => ∃ k : Nat, k ≤ m ∧ i = .int .i64 k ∧ ∀ j, j < k → (xs.getD j 0 == n) = false) (fun i => m - (intOf i).toNat)
  case atStart => exact ⟨0, by omega, rfl, fun j hj => by omega⟩
  case round =>
    obtain ⟨k, hk, rfl, hno⟩ := hrel
    have HNO : Hid (∀ j, j < k → (xs.getD j 0 == n) = false) := hno
    clear hno
    by_cases hlt : (k : Int) < m
    · obtain ⟨b, off, rfl, hcell⟩ := HC.out k (by omega)
      generalize hx : xs.getD k 0 = x at hcell
      have HX : Hid (xs.getD k 0 = x) := hx
      clear hx
      cases he : (x == n)
      · go_wp2
        go_round
        case rel =>
          refine ⟨k + 1, by omega, by go_num, fun j hj => ?_⟩
          by_cases hjk : j = k
          · subst hjk; rw [HX.out]; exact he
          · exact HNO.out j (by omega)
        case measure => simp [intOf]; omega
      · go_wp2
        go_ret
        have hh : k < xs.length := by rw [← HM.out]; omega
        rw [has_yes k hh (by rw [HX.out]; exact he)]
        exact ⟨rfl, rfl⟩
    · go_wp2
      go_ret
      have hke : k = m := by omega
      subst hke
      rw [has_no (fun i hi => HNO.out i (by rw [HM.out]; exact hi))]
      exact ⟨rfl, rfl⟩

end Go.Proofs.Ytgcegjgjegkahab
