/- impl.Number at every text: the word that it spells and true, or 0 and false. Conditions: as impl.readWord's. -/
import Derived.Test.YtmldognpldfdjagDoorImplRead
import Derived.Test.YtmldognpldfdjagDoorSpecNumber
namespace Go.Proofs.YtmldognpldfdjagDoor
open Go.ChangeShapes Go.WideShapes Go.ChangeAt Go.RowKit

set_option maxHeartbeats 1000000 in
theorem impl_number (s : ByteArray) (hs : s.size ≤ 1048576) (w : World) (ht : PowTab w) (hv : ErrVars w) :
    Calls Tryd.prog 7 #[.string s] w fun e w' => e = .returned (numRes s.data.toList) ∧ Below w.heap.size w w' := by
  have HC : Hid (Calls Tryd.prog 20 #[.string s] w fun e w' => e = .returned (wordRes s.data.toList) ∧ Below w.heap.size w w') := impl_read s hs w ht hv
  clear ht hv
  obtain ⟨hn1, hn2⟩ := numB_wordV s.data.toList
  cases e : wordV s.data.toList with
  | none =>
    have HN : Hid (numB s.data.toList = false) := by
      cases e2 : numB s.data.toList with
      | false => rfl
      | true => obtain ⟨v, h, _⟩ := hn1.1 e2; rw [e] at h; cases h
    have hr := wordRes_no e
    rw [hr] at HC
    clear hn1 hn2 e hr
    go_enter Tryd.func7, Tryd.ntmps7
    go_wp2_with (go_at_call 20; refine HC.out.mono ?_; rintro e w1 ⟨rfl, hb1⟩)
    go_ret2
    exact ⟨by rw [numRes_no HN.out]; rfl, hb1⟩
  | some v =>
    have hr := wordRes_yes e
    rw [hr] at HC
    clear hr
    by_cases hv : v < 0
    · have HN : Hid (numB s.data.toList = false) := by
        cases e2 : numB s.data.toList with
        | false => rfl
        | true => obtain ⟨u, h, hu⟩ := hn1.1 e2; rw [e] at h; injection h with h; omega
      clear hn1 hn2 e
      go_enter Tryd.func7, Tryd.ntmps7
      go_wp2_with (go_at_call 20; refine HC.out.mono ?_; rintro e w1 ⟨rfl, hb1⟩)
      go_ret2
      exact ⟨by rw [numRes_no HN.out]; rfl, hb1⟩
    · have HN : Hid (numB s.data.toList = true ∧ (val s.data.toList : Int) = v) := ⟨hn1.2 ⟨v, e, by omega⟩, hn2 v e (by omega)⟩
      clear hn1 hn2 e
      go_enter Tryd.func7, Tryd.ntmps7
      go_wp2_with (go_at_call 20; refine HC.out.mono ?_; rintro e w1 ⟨rfl, hb1⟩)
      go_ret2
      exact ⟨by rw [numRes_yes HN.out.1, HN.out.2]; rfl, hb1⟩
end Go.Proofs.YtmldognpldfdjagDoor
