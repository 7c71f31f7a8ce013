/- laws.markText. Condition: a number from 1 to 10^15. -/
import Derived.Test.YtaflnjhknnnaoaaOneByte
import Derived.Test.YtaflnjhknnnaoaaMarkB
import Derived.WalkKit
import Derived.ProofKit
import Derived.Below
import Derived.OwnWalk
namespace Go.Proofs.Ytaflnjhknnnaoaa
open Go.ChangeShapes Go.WideShapes Go.ChangeAt Go.RowKit

theorem join_mark (l : List UInt8) : ((⟨#[109]⟩ : ByteArray) ++ ⟨l.toArray⟩) = ⟨(109 :: l).toArray⟩ := join_one 109 l

set_option maxRecDepth 100000 in
set_option maxHeartbeats 1000000 in
theorem mark_text (n : Nat) (h0 : 0 < n) (h1 : n ≤ 1000000000000000) (w : World) :
    Calls Try.prog 18 #[.int .i64 n] w fun e w' => e = .returned (.string (markB n)) ∧ Below w.heap.size w w' := by
  have t0 : ¬ ((n : Int) ≤ 0) := by omega
  go_enter Try.func18, Try.ntmps18
  go_wp2
  go_loopw [0, 3] (fun x o w1 => ∃ (k : Nat) (l : List UInt8), k ≤ n ∧ x = .int .i64 k ∧ o = .string ⟨l.toArray⟩ ∧ decD k ++ l = Lib.decDigits n ∧ Below w.heap.size w w1) (fun x _ _ => (intOf x).toNat)
  case atStart => exact ⟨n, [], Nat.le_refl _, rfl, rfl, by rw [decD_pos n h0]; simp, Below.refl _ _⟩
  case round =>
    obtain ⟨k, l, hk, rfl, rfl, hl, hg⟩ := hrel
    have hlen := acc_len k n l (by omega) hl
    have HL : Hid (decD k ++ l = Lib.decDigits n) := hl
    clear hl
    by_cases hz : (k : Int) > 0
    · have hr := one_byte wr (48 + (k : Int) % 10) _ (digit_byte k)
      go_wp2
      refine ⟨⟨k / 10, (48 + UInt8.ofNat (k % 10)) :: l, by omega, by simp, by rw [join_one], acc_step k n (by omega) l HL.out, hg.alloc hg.size _⟩, ?_⟩
      simp [intOf]; omega
    · have hk0 : k = 0 := by omega
      subst hk0
      go_wp2
      go_ret
      have e := HL.out
      rw [decD_zero, List.nil_append] at e
      subst e
      exact ⟨by rw [← join_mark]; rfl, hg⟩

theorem mark_text_int (z : Int) (h0 : 0 < z) (h1 : z ≤ 1000000000000000) (w : World) :
    Calls Try.prog 18 #[.int .i64 z] w fun e w' => e = .returned (.string (markB z.toNat)) ∧ Below w.heap.size w w' := by
  have := mark_text z.toNat (by omega) (by omega) w
  rwa [show ((z.toNat : Nat) : Int) = z from by omega] at this

end Go.Proofs.Ytaflnjhknnnaoaa
