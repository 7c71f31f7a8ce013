/- impl.Places at every list of functions: how many places there are in all. Condition: at most 2^20 of them. -/
import Derived.Test.YthnhdmanmmdoiaaSpecPlaces
import Derived.Deep.Cut
namespace Go.Proofs.Ythnhdmanmmdoiaa
open Go.ChangeShapes Go.WideShapes Go.ChangeAt Go.RowKit

set_option maxRecDepth 100000 in
set_option maxHeartbeats 2000000 in
theorem impl_places : ImplPlaces := by
  intro nf kid w v hv hw
  obtain ⟨p, cap, rfl, hlen, hat⟩ := hv.at
  have HC : Hid (∀ i, i < nf → ∃ b o u, p = some ⟨b, o, none⟩ ∧ HeadF w b (o + i * 2) (kid i) u ∧ (kid i).In w u) := hat
  have HM : Hid (∀ k, k ≤ nf → sumF (fun i => (kid i).len) k ≤ 1048576) := fun k hk => places_most hw hk
  have HP : Hid (placesN nf kid = sumF (fun i => (kid i).len) nf) := rfl
  unfold maxLen at hlen
  clear hv hat hw
  rw [HP.out]
  go_enter Try.func7, Try.ntmps7
  go_wp2_with fail
  go_loopw [3, 8] (fun n i wr => ∃ k : Nat, i = .int .i64 k ∧ n = .int .i64 (sumF (fun i => (kid i).len) k : Nat) ∧ k ≤ nf ∧ Below w.heap.size w wr) (fun _ i _ => nf - (intOf i).toNat)
  case atStart => exact ⟨0, rfl, rfl, Nat.zero_le _, Below.refl _ _⟩
  case round =>
    obtain ⟨k, rfl, rfl, hk, hbel⟩ := hrel
    have HBL : Hid (Below w.heap.size w wr) := hbel
    clear hbel
    by_cases hlt : (k : Int) < nf
    · have hlt' : k < nf := by omega
      obtain ⟨b, o, u, hp, hd, hin⟩ := HC.out k hlt'
      obtain ⟨pu, cu, eu, -, -⟩ := hin.sl.at
      subst hp eu
      have c0 := (hd.below HBL.out).c0
      have c1 := (hd.below HBL.out).c1
      obtain ⟨F, hF⟩ : ∃ F, F = (kid k).fr := ⟨_, rfl⟩
      rw [← hF] at c0
      have h1 := HM.out (k + 1) (by omega)
      have HS : Hid (sumF (fun i => (kid i).len) (k + 1) = sumF (fun i => (kid i).len) k + (kid k).len) := rfl
      rw [HS.out] at h1
      clear hd hin hF
      generalize sumF (fun i => (kid i).len) k = S at *
      generalize (kid k).len = L at *
      have v1 : (wr.alloc (.cells #[.int .i64 F, .slice pu L cu] 35)).cell? ⟨wr.heap.size, 1, none⟩ = some (.slice pu L cu) :=
        cell_of_row _ _ 1 _ _ _ (heap_alloc_new wr _)
      have HB2 : Hid (Below w.heap.size w (wr.alloc (.cells #[.int .i64 F, .slice pu L cu] 35))) := HBL.out.trans ((newb wr _).mono HBL.out.size)
      go_wp2_with fail
      go_roundw
      case rel => exact ⟨k + 1, by go_num, by rw [HS.out]; go_num, by omega, HB2.out⟩
      case measure => simp [intOf]; omega
    · have hke : k = nf := by omega
      subst hke
      go_wp2_with fail
      go_ret
      exact ⟨rfl, HBL.out⟩
end Go.Proofs.Ythnhdmanmmdoiaa
