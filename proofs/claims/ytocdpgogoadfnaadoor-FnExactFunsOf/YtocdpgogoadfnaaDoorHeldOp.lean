/- laws.heldOpS: a row of ops that is marked holds its marks. Condition: at most 2^40. -/
import Derived.Test.YtocdpgogoadfnaaDoorMarkOp
import Derived.Deep.Cut
namespace Go.Proofs.YtocdpgogoadfnaaDoor
open Go.ChangeShapes Go.WideShapes Go.ChangeAt Go.RowKit

set_option maxRecDepth 100000 in
set_option maxHeartbeats 4000000 in
theorem held_ops (n : Nat) (w : World) (v : Value) (c : Nat) (h : Ol w n (mkO c) v) (hc : c + n * 3 ≤ 1099511627776) :
    Calls Tryd.prog 30 #[v, .int .i64 c] w fun e w' => e = .returned (.int .i64 (c + n * 3 : Nat)) ∧ Below w.heap.size w w' := by
  obtain ⟨p, cap, rfl, hlen, hat⟩ := h.at
  have HC : Hid (∀ i, i < n → ∃ b o, p = some ⟨b, o, none⟩ ∧ HeadO w b (o + i * 3) (mkO c i) ∧ (mkO c i).Ok) := hat
  unfold maxLen at hlen
  clear h hat
  go_enter Tryd.func30, Tryd.ntmps30
  go_wp2_with fail
  go_loopw [1, 5] (fun x i wr => ∃ k : Nat, x = .int .i64 (c + k * 3 : Nat) ∧ i = .int .i64 k ∧ k ≤ n ∧ Below w.heap.size w wr) (fun _ i _ => n - (intOf i).toNat)
  case atStart => exact ⟨0, by simp, rfl, Nat.zero_le _, Below.refl _ _⟩
  case round =>
    obtain ⟨k, rfl, rfl, hk, hbel⟩ := hrel
    have HBL : Hid (Below w.heap.size w wr) := hbel
    clear hbel
    by_cases hlt : (k : Int) < n
    · have hlt' : k < n := by omega
      obtain ⟨b, o, hp, hd, -⟩ := HC.out k hlt'
      subst hp
      obtain ⟨d0, d1, d2⟩ := hd.below HBL.out
      obtain ⟨X, hX⟩ : ∃ X, X = c + k * 3 := ⟨_, rfl⟩
      have hX40 : X + 3 ≤ 1099511627776 := by omega
      have HX : Hid (X = c + k * 3) := hX
      have em : mkO c k = ⟨(X : Int), (X : Int) + 1, (X : Int) + 1 + 1⟩ := by
        rw [hX]
        unfold mkO
        congr 1
      rw [em] at d0 d1 d2
      simp only at d0 d1 d2
      rw [← hX]
      clear hd em hX
      go_wp2_with fail
      go_roundw
      case rel => exact ⟨k + 1, by have := HX.out; congr 1; omega, by go_num, by omega, HBL.out⟩
      case measure => simp [intOf]; omega
    · have hke : k = n := by omega
      subst hke
      go_wp2_with fail
      go_ret
      exact ⟨rfl, HBL.out⟩
end Go.Proofs.YtocdpgogoadfnaaDoor
