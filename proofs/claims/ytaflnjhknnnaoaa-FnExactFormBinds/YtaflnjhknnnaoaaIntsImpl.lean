/- impl's sets of ints, what only reads: has, okFrom, placeFor, within, and slices.Index, slices.Contains. Condition: at most 2^22 of them. -/
import Derived.Test.YtaflnjhknnnaoaaInts
import Derived.Deep.QuietTactic
import Derived.BigQuiet
import Derived.WalkSpells
import Derived.WalkSmall
namespace Go.Proofs.Ytaflnjhknnnaoaa
open Go.ChangeShapes Go.WideShapes Go.ChangeAt Go.RowKit

set_option maxHeartbeats 1000000 in
theorem impl_okfrom (xs : List Int) (v : Value) (w : World) (hv : Rd w v xs) (hl : xs.length ≤ 4194304) :
    Calls Try.prog 60 #[v, .int .i64 0] w fun e w' => e = .returned (.bool (setB xs)) ∧ w' = w := by
  obtain ⟨a, cap, rfl, hc⟩ := hv.shape
  have HC : Hid (∀ j, j < xs.length → ∃ b off, a = some ⟨b, off, none⟩ ∧ w.cell? ⟨b, off + j, none⟩ = some (.int .i64 (xs.getD j 0))) := hc
  clear hc hv
  obtain ⟨m, hm⟩ : ∃ m, m = xs.length := ⟨_, rfl⟩
  rw [← hm] at HC hl ⊢
  have HM : Hid (m = xs.length) := hm
  clear hm
  go_enter Try.func60, Try.ntmps60
  go_wp2
  go_loop [9] (fun i => ∃ k : Nat, k ≤ m ∧ i = .int .i64 k ∧ (∀ j, j < k → standsB xs j = true)) (fun i => m - (intOf i).toNat)
  case atStart => exact ⟨0, by omega, rfl, fun j hj => by omega⟩
  case round =>
    obtain ⟨k, hk, rfl, hno⟩ := hrel
    have HNO : Hid (∀ j, j < k → standsB xs j = true) := hno
    clear hno
    have hup : ∀ (b : Bool), standsB xs k = b → b = true → ∀ j, j < k + 1 → standsB xs j = true := by
      intro b h1 h2 j hj
      by_cases hjk : j = k
      · subst hjk; rw [h1, h2]
      · exact HNO.out j (by omega)
    have HUP : Hid (∀ (b : Bool), standsB xs k = b → b = true → ∀ j, j < k + 1 → standsB xs j = true) := hup
    clear hup
    by_cases hlt : (k : Int) < m
    · have HK : Hid (k < xs.length) := by show k < _; rw [← HM.out]; omega
      obtain ⟨b, off, rfl, hcell⟩ := HC.out k (by omega)
      generalize hx : xs.getD k 0 = x at hcell
      have HX : Hid (xs.getD k 0 = x) := hx
      clear hx
      by_cases h0 : x < 0
      · have d0 : decide (x < 0) = true := by simpa using h0
        go_wp2
        go_ret
        have hs : standsB xs k = false := by unfold standsB; rw [HX.out]; simp; omega
        rw [set_no k HK.out hs]
        exact ⟨rfl, rfl⟩
      · have d0 : decide (x < 0) = false := by simpa using h0
        by_cases hk0 : 0 < k
        · have dk : decide (0 < k) = true := by simpa using hk0
          obtain ⟨b', off', hbb, hcell2⟩ := HC.out (k - 1) (by omega)
          simp only [Option.some.injEq, Addr.mk.injEq, and_true] at hbb
          obtain ⟨rfl, rfl⟩ := hbb
          generalize hy : xs.getD (k - 1) 0 = y at hcell2
          have HY : Hid (xs.getD (k - 1) 0 = y) := hy
          clear hy
          have hs : standsB xs k = decide (y < x) := by
            unfold standsB; rw [HX.out, HY.out, decide_eq_true (by omega : 0 ≤ x), decide_eq_false (by omega : ¬ k = 0)]; simp
          have HS : Hid (standsB xs k = decide (y < x)) := hs
          clear hs
          have e1 : (((k : Int) - 1).toNat) = k - 1 := by omega
          by_cases hyx : x ≤ y
          · go_wp2
            go_ret
            rw [set_no k HK.out (by rw [HS.out]; simp; omega)]
            exact ⟨rfl, rfl⟩
          · have d1 : decide (x ≤ y) = false := by simpa using hyx
            go_wp2
            go_round
            case rel => exact ⟨k + 1, by omega, by go_num, HUP.out _ HS.out (by simp; omega)⟩
            case measure => simp [intOf]; omega
        · have dk : decide (0 < k) = false := by simpa using hk0
          have hs : standsB xs k = true := by
            unfold standsB; rw [HX.out, decide_eq_true (by omega : 0 ≤ x), decide_eq_true (by omega : k = 0)]; rfl
          have HS : Hid (standsB xs k = true) := hs
          clear hs
          go_wp2
          go_round
          case rel => exact ⟨k + 1, by omega, by go_num, HUP.out _ HS.out rfl⟩
          case measure => simp [intOf]; omega
    · go_wp2
      go_ret
      have hke : k = m := by omega
      subst hke
      rw [set_yes (fun i hi => HNO.out i (by rw [HM.out]; exact hi))]
      exact ⟨rfl, rfl⟩

set_option maxHeartbeats 400000 in
theorem impl_setok (xs : List Int) (v : Value) (w : World) (hv : Rd w v xs) (hl : xs.length ≤ 4194304) :
    Calls Try.prog 49 #[v] w fun e w' => e = .returned (.bool (setB xs)) ∧ w' = w := by
  go_enter Try.func49, Try.ntmps49
  go_wp2_with fail
  refine (impl_okfrom xs v w hv hl).mono ?_
  rintro e w1 ⟨rfl, hw1⟩
  subst hw1
  go_wp2
  go_ret
  exact ⟨rfl, rfl⟩

end Go.Proofs.Ytaflnjhknnnaoaa
