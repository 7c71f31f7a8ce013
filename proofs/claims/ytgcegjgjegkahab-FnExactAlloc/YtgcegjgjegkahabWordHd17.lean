/- The header's word: (impl.blockHead).word, spec.l17Head. Conditions: a tag from 0 to 3000, at most 20 kids. -/
import Derived.Test.YtgcegjgjegkahabNewWork17
namespace Go.Proofs.Ytgcegjgjegkahab
open Go.ChangeShapes Go.WideShapes Go.ChangeAt Go.RowKit

/-- The header. -/
def hdW (f : Bool) (t k : Int) : Int := 2 * (2 * (64 * t + k) + (if f then 1 else 0)) + 1
theorem hd_parts {f : Bool} {t k : Int} (h0 : 0 ≤ t) (h1 : 0 ≤ k) (h2 : k < 64) : funW (hdW f t k) = f ∧ tagW (hdW f t k) = t ∧ manyW (hdW f t k) = k ∧ 0 ≤ hdW f t k ∧ evenW (hdW f t k) = false := by
  unfold funW tagW manyW hdW evenW
  cases f with
  | true =>
    refine ⟨?_, ?_, ?_, ?_, ?_⟩
    · rw [beq_iff_eq]; simp only [if_true]; omega
    · simp only [if_true]; omega
    · simp only [if_true]; omega
    · simp only [if_true]; omega
    · rw [beq_eq_false_iff_ne]; simp only [if_true]; omega
  | false =>
    refine ⟨?_, ?_, ?_, ?_, ?_⟩
    · rw [beq_eq_false_iff_ne]; simp; try omega
    · simp; try omega
    · simp; try omega
    · simp; try omega
    · rw [beq_eq_false_iff_ne]; simp; try omega

set_option maxRecDepth 100000 in
set_option maxHeartbeats 1000000 in
theorem impl_word17 (f : Bool) (t k : Int) (w : World) (h0 : 0 ≤ t) (h1 : t ≤ 3000) (h2 : 0 ≤ k) (h3 : k ≤ 20) :
    Calls Try.prog 91 #[bhV f t k] w fun e w' => e = .returned (.int .i64 (hdW f t k)) ∧ Below w.heap.size w w' := by
  cases f with
  | true =>
    have HI : Hid (∀ w, Calls Try.prog 37 #[.int .i64 (2 * (t * 64 + k) + 1)] w fun e w' => e = .returned (.int .i64 (hdW true t k)) ∧ w' = w) := fun w => by
      have := impl_intWord (2 * (t * 64 + k) + 1) w
      have e : intW (2 * (t * 64 + k) + 1) = hdW true t k := by
        unfold intW
        rw [if_pos (show wokB (2 * (t * 64 + k) + 1) = true by unfold wokB; rw [decide_eq_true_eq]; omega)]
        unfold hdW; simp only [if_true]; omega
      rw [e] at this
      exact this
    go_enter Try.func91, Try.ntmps91
    go_wp2_with fail
    refine (HI.out _).mono ?_
    rintro e w1 ⟨rfl, rfl⟩
    go_wp2_with fail
    go_ret
    exact ⟨rfl, new_below _ _⟩
  | false =>
    have HI : Hid (∀ w, Calls Try.prog 37 #[.int .i64 (2 * (t * 64 + k))] w fun e w' => e = .returned (.int .i64 (hdW false t k)) ∧ w' = w) := fun w => by
      have := impl_intWord (2 * (t * 64 + k)) w
      have e : intW (2 * (t * 64 + k)) = hdW false t k := by
        unfold intW
        rw [if_pos (show wokB (2 * (t * 64 + k)) = true by unfold wokB; rw [decide_eq_true_eq]; omega)]
        unfold hdW; simp; omega
      rw [e] at this
      exact this
    go_enter Try.func91, Try.ntmps91
    go_wp2_with fail
    refine (HI.out _).mono ?_
    rintro e w1 ⟨rfl, rfl⟩
    go_wp2_with fail
    go_ret
    exact ⟨rfl, new_below _ _⟩

theorem spec_bit17 (f : Bool) (w : World) : Calls Try.prog 96 #[.bool f] w fun e w' => e = .returned (.int .i64 (if f then 1 else 0)) ∧ w' = w := by
  cases f with
  | true =>
    go_enter Try.func96, Try.ntmps96
    go_wp2
    go_ret
    exact ⟨rfl, rfl⟩
  | false =>
    go_enter Try.func96, Try.ntmps96
    go_wp2
    go_ret
    exact ⟨rfl, rfl⟩
set_option maxRecDepth 100000 in
theorem spec_head17 (f : Bool) (t k : Int) (w : World) (h0 : 0 ≤ t) (h1 : t ≤ 3000) (h2 : 0 ≤ k) (h3 : k ≤ 20) :
    Calls Try.prog 86 #[.bool f, .int .i64 t, .int .i64 k] w fun e w' => e = .returned (.int .i64 (hdW f t k)) ∧ w' = w := by
  have HB : Hid (∀ w, Calls Try.prog 96 #[.bool f] w fun e w' => e = .returned (.int .i64 (if f then 1 else 0)) ∧ w' = w) := fun w => spec_bit17 f w
  have HE : Hid (hdW f t k = 2 * (2 * (64 * t + k) + (if f then 1 else 0)) + 1) := rfl
  obtain ⟨b, hb⟩ : ∃ b : Int, b = if f then 1 else 0 := ⟨_, rfl⟩
  have hb2 : 0 ≤ b ∧ b ≤ 1 := by rw [hb]; cases f <;> simp
  rw [← hb] at HB HE
  have hb3 := hb2.1
  have hb4 := hb2.2
  clear hb hb2
  go_enter Try.func86, Try.ntmps86
  go_wp2_with fail
  refine (HB.out _).mono ?_
  rintro e w1 ⟨rfl, rfl⟩
  go_wp2_with fail
  go_ret
  exact ⟨by rw [HE.out]; rfl, rfl⟩
end Go.Proofs.Ytgcegjgjegkahab
