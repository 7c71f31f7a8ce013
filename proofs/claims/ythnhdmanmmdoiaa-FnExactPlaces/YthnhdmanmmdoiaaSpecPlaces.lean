/- spec.Places at every list of functions: how many places there are in all. Condition: at most 2^20 of them. -/
import Derived.Test.YthnhdmanmmdoiaaRows
import Derived.Test.YthnhdmanmmdoiaaFun
import Derived.WalkKit
import Derived.ProofKit
namespace Go.Proofs.Ythnhdmanmmdoiaa
open Go.ChangeShapes Go.WideShapes Go.ChangeAt Go.RowKit

/-- What Places answers. -/
def placesN (nf : Nat) (kid : Nat → Fu) : Nat := sumF (fun i => (kid i).len) nf
theorem places_most {nf : Nat} {kid : Nat → Fu} (h : funsWeight nf kid ≤ 1048576) {k : Nat} (hk : k ≤ nf) : sumF (fun i => (kid i).len) k ≤ 1048576 := by
  have mono : ∀ m, k ≤ m → sumF (fun i => (kid i).len) k ≤ sumF (fun i => (kid i).len) m := by
    intro m hm
    induction m with
    | zero =>
      obtain rfl : k = 0 := by omega
      exact Nat.le_refl _
    | succ m ih =>
      rcases Nat.lt_or_ge k (m + 1) with h1 | h1
      · have := ih (by omega); simp only [sumF]; omega
      · obtain rfl : k = m + 1 := by omega
        exact Nat.le_refl _
  have := mono nf hk
  unfold funsWeight at h
  have e : sumF (fun i => (kid i).weight) nf = sumF (fun i => (kid i).len) nf := rfl
  omega
/-- What the program must answer. -/
def ImplPlaces : Prop := ∀ (nf : Nat) (kid : Nat → Fu) (w : World) (v : Value), Fl w nf kid v → funsWeight nf kid ≤ 1048576 →
  Calls Try.prog 7 #[v] w fun e w' => e = .returned (.int .i64 (placesN nf kid : Nat)) ∧ Below w.heap.size w w'

set_option maxRecDepth 100000 in
set_option maxHeartbeats 2000000 in
theorem spec_places (nf : Nat) (kid : Nat → Fu) (w : World) (v : Value) (hv : Fl w nf kid v) (hw : funsWeight nf kid ≤ 1048576) :
    Calls Try.prog 5 #[v] w fun e w' => e = .returned (.int .i64 (placesN nf kid : Nat)) ∧ Below w.heap.size w w' := by
  obtain ⟨p, cap, rfl, hlen, hat⟩ := hv.at
  have HC : Hid (∀ i, i < nf → ∃ b o u, p = some ⟨b, o, none⟩ ∧ HeadF w b (o + i * 2) (kid i) u ∧ (kid i).In w u) := hat
  have HM : Hid (∀ k, k ≤ nf → sumF (fun i => (kid i).len) k ≤ 1048576) := fun k hk => places_most hw hk
  have HP : Hid (placesN nf kid = sumF (fun i => (kid i).len) nf) := rfl
  unfold maxLen at hlen
  clear hv hat hw
  rw [HP.out]
  go_enter Try.func5, Try.ntmps5
  go_wp2_with fail
  go_loopw [3, 4] (fun n i wr => ∃ k : Nat, i = .int .i64 k ∧ n = .int .i64 (sumF (fun i => (kid i).len) k : Nat) ∧ k ≤ nf ∧ Below w.heap.size w wr) (fun _ i _ => nf - (intOf i).toNat)
  case atStart => exact ⟨0, rfl, rfl, Nat.zero_le _, Below.refl _ _⟩
  case round =>
    obtain ⟨k, rfl, rfl, hk, hbel⟩ := hrel
    have HBL : Hid (Below w.heap.size w wr) := hbel
    clear hbel
    by_cases hlt : (k : Int) < nf
    · have hlt' : k < nf := by omega
      obtain ⟨b, o, u, hp, hd, hin⟩ := HC.out k hlt'
      obtain ⟨pu, cu, eu, -, -⟩ := hin.sl.at
      subst hp eu
      have c1 := (hd.below HBL.out).c1
      have h1 := HM.out (k + 1) (by omega)
      have HS : Hid (sumF (fun i => (kid i).len) (k + 1) = sumF (fun i => (kid i).len) k + (kid k).len) := rfl
      rw [HS.out] at h1
      clear hd hin
      generalize sumF (fun i => (kid i).len) k = S at *
      generalize (kid k).len = L at *
      go_wp2_with fail
      go_roundw
      case rel => exact ⟨k + 1, by go_num, by rw [HS.out]; go_num, by omega, HBL.out⟩
      case measure => simp [intOf]; omega
    · have hke : k = nf := by omega
      subst hke
      go_wp2_with fail
      go_ret
      exact ⟨rfl, HBL.out⟩
end Go.Proofs.Ythnhdmanmmdoiaa
