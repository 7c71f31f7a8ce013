/- Room, of the program and of the specification. Conditions: ints of 64 bits; at most 2^22 words. -/
import Derived.Test.YtgcegjgjegkahabImplHeapOk17
namespace Go.Proofs.Ytgcegjgjegkahab
open Go.ChangeShapes Go.WideShapes Go.ChangeAt Go.RowKit

def roomH (h : Hp) : Int := if hpOkB h then h.base + h.half - h.next else 0
theorem ok_half {h : Hp} (hh : hpOkB h = true) : halvesB h = true := by
  cases h1 : halvesB h with
  | true => rfl
  | false => rw [ok_no h1] at hh; cases hh

set_option maxRecDepth 100000 in
theorem impl_room (h : Hp) (v : Value) (w : World) (hv : Rd w v h.ws) (hbig : Small64 h.ws) :
    Calls Try.prog 25 #[heapV v h] w fun e w' => e = .returned (.int .i64 (roomH h)) ∧ Below w.heap.size w w' := by
  have HC : Hid (∀ wq, Below w.heap.size w wq → Calls Try.prog 12 #[heapV v h] wq fun e w' => e = .returned (.bool (hpOkB h)) ∧ Below wq.heap.size wq w') := fun wq hq => impl_heapok h v wq (hv.below hq) hbig
  have HR : Hid (roomH h = if hpOkB h then h.base + h.half - h.next else 0) := rfl
  have HH : Hid (hpOkB h = true → (1 ≤ h.half ∧ h.half ≤ 3000) ∧ (h.ws.length : Int) = 2 * h.half ∧ (h.base = 0 ∨ h.base = h.half) ∧ h.base ≤ h.next ∧ h.next ≤ h.base + h.half) := fun hh => halves_iff.1 (ok_half hh)
  obtain ⟨ws, half, base, next⟩ := h
  obtain ⟨p, cap, rfl, -⟩ := hv.shape
  obtain ⟨A, hA⟩ : ∃ A, A = w.alloc (hpO (.slice p ws.length cap) ⟨ws, half, base, next⟩) := ⟨_, rfl⟩
  obtain ⟨sA, bA, rA⟩ := box_new w (.slice p ws.length cap) ⟨ws, half, base, next⟩ hA
  have HA : Hid (A.heap.size = w.heap.size + 1 ∧ Below w.heap.size w A ∧ BoxAt A w.heap.size (.slice p ws.length cap) ⟨ws, half, base, next⟩) := ⟨sA, bA, rA⟩
  clear sA bA rA hv hbig
  cases hh : hpOkB ⟨ws, half, base, next⟩ with
  | true =>
    rw [hh] at HC HR
    obtain ⟨g1, g2, g3, g4, g5⟩ := HH.out hh
    have hb0 : 0 ≤ base ∧ base ≤ 3000 := by simp only at g1 g3; omega
    simp only at g1 g4 g5
    clear g2 g3 hh
    go_enter Try.func25, Try.ntmps25
    go_wp2_with fail
    rw [← hA]
    clear hA
    refine (HC.out A HA.out.2.1).mono ?_
    rintro e w1 ⟨rfl, hb1⟩
    obtain ⟨c0, c1, c2, c3⟩ := (HA.out.2.2.below hb1 HA.out.2.2.lt).cells
    have HB1 : Hid (Below w.heap.size w w1) := HA.out.2.1.trans (hb1.mono HA.out.2.1.size)
    clear hb1
    go_wp2_with fail
    go_ret
    exact ⟨by rw [HR.out]; rfl, HB1.out⟩
  | false =>
    rw [hh] at HC HR
    clear hh
    go_enter Try.func25, Try.ntmps25
    go_wp2_with fail
    rw [← hA]
    clear hA
    refine (HC.out A HA.out.2.1).mono ?_
    rintro e w1 ⟨rfl, hb1⟩
    have HB1 : Hid (Below w.heap.size w w1) := HA.out.2.1.trans (hb1.mono HA.out.2.1.size)
    clear hb1
    go_wp2_with fail
    go_ret
    exact ⟨by rw [HR.out]; rfl, HB1.out⟩

set_option maxRecDepth 100000 in
theorem spec_room (h : Hp) (v : Value) (w : World) (hv : Rd w v h.ws) (hl : h.ws.length ≤ 4194304) (hbig : Small64 h.ws) :
    Calls Try.prog 24 #[heapV v h] w fun e w' => e = .returned (.int .i64 (roomH h)) ∧ Below w.heap.size w w' := by
  have HC : Hid (∀ wq, Below w.heap.size w wq → Calls Try.prog 10 #[heapV v h] wq fun e w' => e = .returned (.bool (hpOkB h)) ∧ Below wq.heap.size wq w') := fun wq hq => spec_heapok h v wq (hv.below hq) hl (fun j => (hbig j).2)
  have HR : Hid (roomH h = if hpOkB h then h.base + h.half - h.next else 0) := rfl
  have HH : Hid (hpOkB h = true → (1 ≤ h.half ∧ h.half ≤ 3000) ∧ (h.ws.length : Int) = 2 * h.half ∧ (h.base = 0 ∨ h.base = h.half) ∧ h.base ≤ h.next ∧ h.next ≤ h.base + h.half) := fun hh => halves_iff.1 (ok_half hh)
  obtain ⟨ws, half, base, next⟩ := h
  obtain ⟨p, cap, rfl, -⟩ := hv.shape
  obtain ⟨A, hA⟩ : ∃ A, A = w.alloc (hpO (.slice p ws.length cap) ⟨ws, half, base, next⟩) := ⟨_, rfl⟩
  obtain ⟨sA, bA, rA⟩ := box_new w (.slice p ws.length cap) ⟨ws, half, base, next⟩ hA
  have HA : Hid (A.heap.size = w.heap.size + 1 ∧ Below w.heap.size w A ∧ BoxAt A w.heap.size (.slice p ws.length cap) ⟨ws, half, base, next⟩) := ⟨sA, bA, rA⟩
  clear sA bA rA hv hbig hl
  cases hh : hpOkB ⟨ws, half, base, next⟩ with
  | true =>
    rw [hh] at HC HR
    obtain ⟨g1, g2, g3, g4, g5⟩ := HH.out hh
    have hb0 : 0 ≤ base ∧ base ≤ 3000 := by simp only at g1 g3; omega
    simp only at g1 g4 g5
    clear g2 g3 hh
    go_enter Try.func24, Try.ntmps24
    go_wp2_with fail
    rw [← hA]
    clear hA
    refine (HC.out A HA.out.2.1).mono ?_
    rintro e w1 ⟨rfl, hb1⟩
    obtain ⟨c0, c1, c2, c3⟩ := (HA.out.2.2.below hb1 HA.out.2.2.lt).cells
    have HB1 : Hid (Below w.heap.size w w1) := HA.out.2.1.trans (hb1.mono HA.out.2.1.size)
    clear hb1
    go_wp2_with fail
    go_ret
    exact ⟨by rw [HR.out]; rfl, HB1.out⟩
  | false =>
    rw [hh] at HC HR
    clear hh
    go_enter Try.func24, Try.ntmps24
    go_wp2_with fail
    rw [← hA]
    clear hA
    refine (HC.out A HA.out.2.1).mono ?_
    rintro e w1 ⟨rfl, hb1⟩
    have HB1 : Hid (Below w.heap.size w w1) := HA.out.2.1.trans (hb1.mono HA.out.2.1.size)
    clear hb1
    go_wp2_with fail
    go_ret
    exact ⟨by rw [HR.out]; rfl, HB1.out⟩
end Go.Proofs.Ytgcegjgjegkahab
