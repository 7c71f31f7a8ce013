/- spec.Verify at every list of functions: whether all places of all functions are right. Condition: the list is not too long. -/
import Derived.Test.YtkbbfgfmlilfbaaDoorSpecDepths15
namespace Go.Proofs.YtkbbfgfmlilfbaaDoor
open Go.ChangeShapes Go.WideShapes Go.ChangeAt Go.RowKit

/-- What Verify tells. -/
def VerP (nf : Nat) (kid : Nat → Fu) : Prop := FunsP nf kid ∧ ∀ i, i < nf → DepOk (kid i)

set_option maxRecDepth 100000 in
set_option maxHeartbeats 4000000 in
theorem spec_verify15 (nf : Nat) (kid : Nat → Fu) (w : World) (v : Value) (hv : Fl w nf kid v) (hnf : nf ≤ 1048576) (R : Bool) (hR : R = true ↔ VerP nf kid) :
    Calls Tryd.prog 18 #[v] w fun e w' => e = .returned (.bool R) ∧ Below w.heap.size w w' := by
  have HV : Hid (∀ w1, Below w.heap.size w w1 → Fl w1 nf kid v) := fun w1 h => hv.below h
  obtain ⟨p, cap, ev⟩ := hv.shape
  have HR : Hid (R = true ↔ VerP nf kid) := hR
  clear hv hR
  subst ev
  go_enter Tryd.func18, Tryd.ntmps18
  go_wp2_with fail
  go_loopw [3] (fun x wr => ∃ k : Nat, x = .int .i64 k ∧ k ≤ nf ∧ (∀ i, i < k → FunsP nf kid ∧ DepOk (kid i)) ∧ Below w.heap.size w wr) (fun x _ => nf - (intOf x).toNat)
  case atStart => exact ⟨0, rfl, Nat.zero_le _, fun i hi => absurd hi (Nat.not_lt_zero _), Below.refl _ _⟩
  case round =>
    obtain ⟨k, rfl, hk, hdone, hbel⟩ := hrel
    have HBL : Hid (Below w.heap.size w wr) := hbel
    have HDN : Hid (∀ i, i < k → FunsP nf kid ∧ DepOk (kid i)) := hdone
    clear hbel hdone
    by_cases hlt : (k : Int) < nf
    · have hlt' : k < nf := by omega
      have HCL : Hid (Calls Tryd.prog 10 #[.slice p nf cap, .int .i64 k] wr (DepsPost nf kid (k : Int) wr)) := spec_depths15 nf kid k wr _ (HV.out _ HBL.out) hnf
      go_wp2_with fail
      refine HCL.out.mono ?_
      rintro e w2 ⟨u, b, D, rfl, hb2, -, hd⟩
      have HB2 : Hid (Below w.heap.size w w2) := HBL.out.trans (hb2.mono HBL.out.size)
      unfold DepsOf at hd
      rw [Int.toNat_natCast] at hd
      clear hb2 HCL
      rcases hd with ⟨rfl, ⟨h1, _, _, h2⟩, _⟩ | ⟨rfl, h1, _⟩
      · have HD2 : Hid (FunsP nf kid ∧ DepOk (kid k)) := ⟨h1, h2⟩
        clear h1 h2
        go_wp2_with fail
        go_roundw
        case rel => exact ⟨k + 1, by go_num, by omega, fun i hi => by
          rcases Nat.lt_or_ge i k with h | h
          · exact HDN.out i h
          · obtain rfl : i = k := by omega
            exact HD2.out, HB2.out⟩
        case measure => simp [intOf]; omega
      · have HR2 : Hid (R = false) := by
          show _ = _
          cases R with
          | false => rfl
          | true => exact absurd ⟨(HR.out.1 rfl).1, by omega, by omega, (HR.out.1 rfl).2 k hlt'⟩ h1
        clear h1
        go_wp2_with fail
        go_ret
        exact ⟨by rw [HR2.out]; rfl, HB2.out⟩
    · have hke : k = nf := by omega
      subst hke
      have HFO : Hid (Calls Tryd.prog 22 #[.slice p k cap] wr fun e w' => e = .returned (.bool R) ∧ Below wr.heap.size wr w') := spec_funs_ok k kid wr _ (HV.out _ HBL.out) R ⟨fun h => (HR.out.1 h).1, fun h => HR.out.2 ⟨h, fun i hi => (HDN.out i hi).2⟩⟩
      go_wp2_with fail
      refine HFO.out.mono ?_
      rintro e w2 ⟨rfl, hb2⟩
      have HB2 : Hid (Below w.heap.size w w2) := HBL.out.trans (hb2.mono HBL.out.size)
      clear hb2
      go_wp2_with fail
      go_ret
      exact ⟨rfl, HB2.out⟩
end Go.Proofs.YtkbbfgfmlilfbaaDoor
