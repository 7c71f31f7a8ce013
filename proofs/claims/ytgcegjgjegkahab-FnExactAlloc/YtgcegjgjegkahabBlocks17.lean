/- impl.halvesOk, impl.blocksInUse, impl.heapBlocks, impl.HeapOk. Conditions: ints of 64 bits; at most 2^22 words. -/
import Derived.Test.YtgcegjgjegkahabKids17
namespace Go.Proofs.Ytgcegjgjegkahab
open Go.ChangeShapes Go.WideShapes Go.ChangeAt Go.RowKit

set_option maxRecDepth 100000 in
set_option maxHeartbeats 1000000 in
theorem impl_halves (h : Hp) (v : Value) (w : World) (hv : Rd w v h.ws) :
    Calls Try.prog 81 #[heapV v h] w fun e w' => e = .returned (.bool (halvesB h)) ∧ Below w.heap.size w w' := by
  obtain ⟨ws, half, base, next⟩ := h
  obtain ⟨p, cap, rfl, -⟩ := hv.shape
  clear hv
  have HNO : Hid (¬ ((1 ≤ half ∧ half ≤ 3000) ∧ (ws.length : Int) = 2 * half ∧ (base = 0 ∨ base = half) ∧ base ≤ next ∧ next ≤ base + half) → halvesB ⟨ws, half, base, next⟩ = false) := fun hn => by
    cases hh : halvesB ⟨ws, half, base, next⟩ with
    | true => exact absurd (halves_iff.1 hh) hn
    | false => rfl
  have HYES : Hid (((1 ≤ half ∧ half ≤ 3000) ∧ (ws.length : Int) = 2 * half ∧ (base = 0 ∨ base = half) ∧ base ≤ next ∧ next ≤ base + half) → halvesB ⟨ws, half, base, next⟩ = true) := fun hn => halves_iff.2 hn
  by_cases h1 : 1 ≤ half
  case neg =>
    have HR := HNO.out (fun hh => h1 hh.1.1)
    rw [HR]
    clear HR
    go_enter Try.func81, Try.ntmps81
    go_wp2
    go_ret
    exact ⟨rfl, new_below _ _⟩
  by_cases h2 : half ≤ 3000
  case neg =>
    have HR := HNO.out (fun hh => h2 hh.1.2)
    rw [HR]
    clear HR
    go_enter Try.func81, Try.ntmps81
    go_wp2
    go_ret
    exact ⟨rfl, new_below _ _⟩
  by_cases h3 : (ws.length : Int) = 2 * half
  case neg =>
    have HR := HNO.out (fun hh => h3 hh.2.1)
    rw [HR]
    clear HR
    have hd : ((ws.length : Int) == 2 * half) = false := by rw [beq_eq_false_iff_ne]; exact h3
    clear h3
    go_enter Try.func81, Try.ntmps81
    go_wp2
    go_ret
    exact ⟨rfl, new_below _ _⟩
  have hd3 : ((ws.length : Int) == 2 * half) = true := by rw [beq_iff_eq]; exact h3
  have HH3 : Hid ((ws.length : Int) = 2 * half) := h3
  clear h3
  by_cases h4 : base = 0 ∨ base = half
  case neg =>
    have HR := HNO.out (fun hh => h4 hh.2.2.1)
    rw [HR]
    clear HR
    have hd : (base == 0) = false := by rw [beq_eq_false_iff_ne]; omega
    have hd2 : (base == half) = false := by rw [beq_eq_false_iff_ne]; omega
    clear h4
    go_enter Try.func81, Try.ntmps81
    go_wp2
    go_ret
    exact ⟨rfl, new_below _ _⟩
  have h4a : (base == 0) = true ∨ (base == 0) = false ∧ (base == half) = true := by
    rcases h4 with rfl | rfl
    · exact .inl rfl
    · right; exact ⟨by rw [beq_eq_false_iff_ne]; omega, by rw [beq_iff_eq]⟩
  have h4b : 0 ≤ base ∧ base ≤ 3000 := by omega
  have HH4 : Hid (base = 0 ∨ base = half) := h4
  have H4 := HH4.out
  clear h4
  have HF : Hid (∀ b, b = (decide (base ≤ next) && decide (next ≤ base + half)) → halvesB ⟨ws, half, base, next⟩ = b) := fun b hb => by
    by_cases h5 : base ≤ next ∧ next ≤ base + half
    · rw [HYES.out ⟨⟨h1, h2⟩, HH3.out, HH4.out, h5⟩, hb, decide_eq_true h5.1, decide_eq_true h5.2]; rfl
    · rw [HNO.out (fun hh => h5 hh.2.2.2), hb, eq_comm, Bool.and_eq_false_iff, decide_eq_false_iff_not, decide_eq_false_iff_not]; omega
  clear H4
  by_cases h5 : base ≤ next
  case neg =>
    rw [HF.out false (by rw [decide_eq_false h5]; rfl)]
    rcases h4a with e1 | ⟨e1, e2⟩
    · go_enter Try.func81, Try.ntmps81
      go_wp2
      go_ret
      exact ⟨rfl, new_below _ _⟩
    · go_enter Try.func81, Try.ntmps81
      go_wp2
      go_ret
      exact ⟨rfl, new_below _ _⟩
  rw [HF.out (decide (next ≤ base + half)) (by rw [decide_eq_true h5]; rfl)]
  rcases h4a with e1 | ⟨e1, e2⟩
  · go_enter Try.func81, Try.ntmps81
    go_wp2
    go_ret
    exact ⟨rfl, new_below _ _⟩
  · go_enter Try.func81, Try.ntmps81
    go_wp2
    go_ret
    exact ⟨rfl, new_below _ _⟩
end Go.Proofs.Ytgcegjgjegkahab
