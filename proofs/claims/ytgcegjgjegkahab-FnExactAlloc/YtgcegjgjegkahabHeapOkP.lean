/- Blocks of a heap, plainly: headers, the places of blocks, what each holds, a heap that is right. No conditions. -/
import Derived.Test.YtgcegjgjegkahabHeapP
import Derived.Test.YtgcegjgjegkahabSetsP
namespace Go.Proofs.Ytgcegjgjegkahab
open Go.ChangeShapes Go.WideShapes Go.ChangeAt Go.RowKit

/-- The parts of a header. -/
def manyW (w : Int) : Int := w / 2 / 2 % 64
def tagW (w : Int) : Int := w / 2 / 2 / 64
def funW (w : Int) : Bool := w / 2 % 2 == 1
def headB (w : Int) : Bool := decide (0 ≤ w) && (!evenW w && (decide (tagW w ≤ 3000) && decide (manyW w ≤ 20)))
theorem many_nonneg (w : Int) : 0 ≤ manyW w := by unfold manyW; omega
theorem many_lt (w : Int) : manyW w < 64 := by unfold manyW; omega
theorem tag_nonneg {w : Int} (h : 0 ≤ w) : 0 ≤ tagW w := by unfold tagW; omega
theorem head_iff {w : Int} : headB w = true ↔ 0 ≤ w ∧ evenW w = false ∧ tagW w ≤ 3000 ∧ manyW w ≤ 20 := by
  unfold headB
  rw [Bool.and_eq_true, Bool.and_eq_true, Bool.and_eq_true, decide_eq_true_eq, decide_eq_true_eq, decide_eq_true_eq, Bool.not_eq_true']

/-- Whether a block may begin at a, of words that are in use up to n. -/
def blockB (ws : List Int) (a n : Nat) : Bool := headB (ws.getD a 0) && decide (manyW (ws.getD a 0) < (n : Int) - (a : Int))
/-- Where the next one begins. -/
def nextA (ws : List Int) (a : Nat) : Nat := a + 1 + (manyW (ws.getD a 0)).toNat
/-- The places of blocks from a on. -/
def placesL (ws : List Int) (a n : Nat) : Option (List Int) :=
  if a < n then (if blockB ws a n then (placesL ws (nextA ws a) n).map (fun L => (a : Int) :: L) else none) else some []
termination_by n - a
decreasing_by unfold nextA; omega

theorem places_end {ws : List Int} {a n : Nat} (h : ¬ a < n) : placesL ws a n = some [] := by rw [placesL, if_neg h]
theorem places_bad {ws : List Int} {a n : Nat} (h : a < n) (hb : blockB ws a n = false) : placesL ws a n = none := by rw [placesL, if_pos h, if_neg (by rw [hb]; decide)]
theorem places_more {ws : List Int} {a n : Nat} (h : a < n) (hb : blockB ws a n = true) : placesL ws a n = (placesL ws (nextA ws a) n).map (fun L => (a : Int) :: L) := by rw [placesL, if_pos h, if_pos hb]
theorem next_le {ws : List Int} {a n : Nat} (hb : blockB ws a n = true) : nextA ws a ≤ n := by
  unfold blockB at hb
  rw [Bool.and_eq_true, decide_eq_true_eq] at hb
  unfold nextA; have := many_nonneg (ws.getD a 0); omega
theorem next_gt (ws : List Int) (a : Nat) : a < nextA ws a := by unfold nextA; omega

/-- Facts of the places. -/
theorem places_facts : ∀ (f : Nat) (ws : List Int) (a n : Nat) (L : List Int), n - a ≤ f → a ≤ n → placesL ws a n = some L →
    L.length ≤ n - a ∧ (∀ x ∈ L, (a : Int) ≤ x ∧ x < n ∧ blockB ws x.toNat n = true) ∧ L.Pairwise (· < ·) := by
  intro f
  induction f with
  | zero =>
    intro ws a n L hf ha h
    rw [places_end (by omega)] at h
    injection h with h; subst h
    exact ⟨by simp, by simp, List.Pairwise.nil⟩
  | succ f ih =>
    intro ws a n L hf ha h
    by_cases hlt : a < n
    · cases hb : blockB ws a n with
      | false => rw [places_bad hlt hb] at h; cases h
      | true =>
        rw [places_more hlt hb] at h
        cases hp : placesL ws (nextA ws a) n with
        | none => rw [hp] at h; cases h
        | some M =>
          rw [hp] at h
          injection h with h
          have hg := next_gt ws a
          obtain ⟨h1, h2, h3⟩ := ih ws (nextA ws a) n M (by omega) (next_le hb) hp
          subst h
          refine ⟨by rw [List.length_cons]; omega, fun x hx => ?_, List.pairwise_cons.2 ⟨fun x hx => by have := (h2 x hx).1; omega, h3⟩⟩
          rcases List.mem_cons.1 hx with rfl | hx
          · exact ⟨by omega, by omega, by rw [Int.toNat_natCast]; exact hb⟩
          · have := h2 x hx; exact ⟨by omega, this.2.1, this.2.2⟩
    · rw [places_end hlt] at h
      injection h with h; subst h
      exact ⟨by simp, by simp, List.Pairwise.nil⟩

/-- A word that may stand: an int of a word, or one of the blocks. -/
def thereB (L : List Int) (w : Int) : Bool := if evenW w then hasB L (w / 2) else wokB (w / 2)
/-- All of these words may. -/
def allB (L : List Int) (xs : List Int) : Bool := xs.all (thereB L)
/-- The kids of the block at p. -/
def kidsW (ws : List Int) (p : Nat) : List Int := (ws.drop (p + 1)).take (manyW (ws.getD p 0)).toNat
/-- Halves as they must be. -/
def halvesB (h : Hp) : Bool := (decide (1 ≤ h.half) && decide (h.half ≤ 3000)) && ((h.ws.length : Int) == 2 * h.half && ((h.base == 0 || h.base == h.half) && (decide (h.base ≤ h.next) && decide (h.next ≤ h.base + h.half))))
/-- The places of a heap that is right. -/
def blocksB (h : Hp) : Option (List Int) :=
  if halvesB h then
    match placesL h.ws h.base.toNat h.next.toNat with
    | none => none
    | some L => if L.all (fun p => allB L (kidsW h.ws p.toNat)) then some L else none
  else none
def hpOkB (h : Hp) : Bool := (blocksB h).isSome

theorem halves_iff {h : Hp} : halvesB h = true ↔ (1 ≤ h.half ∧ h.half ≤ 3000) ∧ (h.ws.length : Int) = 2 * h.half ∧ (h.base = 0 ∨ h.base = h.half) ∧ h.base ≤ h.next ∧ h.next ≤ h.base + h.half := by
  unfold halvesB
  simp only [Bool.and_eq_true, Bool.or_eq_true, decide_eq_true_eq, beq_iff_eq]
theorem all_no {α : Type} {f : α → Bool} {xs : List α} {x : α} (hx : x ∈ xs) (h : f x = false) : xs.all f = false := by
  rw [List.all_eq_false]; exact ⟨x, hx, by rw [h]; decide⟩
end Go.Proofs.Ytgcegjgjegkahab
