/- laws.markOpS, laws.markFunS: only ints of what is marked turn. Condition: at most 2^40 marks. -/
import Derived.Test.YtocdpgogoadfnaaDoorFunMark
import Derived.WalkKit
import Derived.ProofKit
namespace Go.Proofs.YtocdpgogoadfnaaDoor
open Go.ChangeShapes Go.WideShapes Go.ChangeAt Go.RowKit

theorem hid_ofF {p : Prop} (h : p) : Hid p := h

set_option maxRecDepth 100000 in
set_option maxHeartbeats 4000000 in
theorem mark_ops_m (B C : Nat) (w : World) (len : Nat) (v : Value) (k : Nat) (hm : MOl B C w len v) (hk : k + 3 * len ≤ 1099511627776) :
    Calls Tryd.prog 26 #[v, .int .i64 k] w fun e w' => e = .returned (.int .i64 (k + 3 * len : Nat)) ∧ MK B C w w' := by
  have HM : Hid (MOl B C w len v) := hm
  obtain ⟨p, cap, ev⟩ := hm.shape
  have hlm : len ≤ 1099511627776 := by omega
  clear hm
  subst ev
  go_enter Tryd.func26, Tryd.ntmps26
  go_wp2_with fail
  go_loopw [1, 5] (fun x i wr => ∃ j : Nat, i = .int .i64 j ∧ x = .int .i64 (k + 3 * j : Nat) ∧ j ≤ len ∧ MK B C w wr) (fun _ i _ => len - (intOf i).toNat)
  case atStart => exact ⟨0, rfl, rfl, Nat.zero_le _, MK.refl _ _ _⟩
  case round =>
    obtain ⟨j, rfl, rfl, hj, hmk⟩ := hrel
    have HMK : Hid (MK B C w wr) := hmk
    clear hmk
    by_cases hlt : (j : Int) < len
    · have hlt' : j < len := by omega
      rcases HM.out.keep HMK.out with ⟨h0, _⟩ | ⟨b, o, cap', he, hbc, _, hfz, hat⟩
      · omega
      injection he with he1 _ he2
      subst he1 he2
      obtain ⟨⟨a0, c0⟩, ⟨a1, c1⟩, ⟨a2, c2⟩⟩ := hat j hlt'
      obtain ⟨c, hc⟩ : ∃ c, c = k + 3 * j := ⟨_, rfl⟩
      have k1 := MK.store hbc.1 hbc.2 c0 (c : Int)
      obtain ⟨a1', c1'⟩ := k1.int _ _ ⟨a1, c1⟩
      have k2 := k1.trans (MK.store hbc.1 hbc.2 c1' ((c : Int) + 1))
      obtain ⟨a2', c2'⟩ := k2.int _ _ ⟨a2, c2⟩
      have HK3 := hid_ofF (HMK.out.trans (k2.trans (MK.store hbc.1 hbc.2 c2' ((c : Int) + 1 + 1))))
      rw [← hc]
      have HC : Hid (c = k + 3 * j) := hc
      have hcb : c ≤ 1099511627776 := by omega
      have hcb3 : c + 3 ≤ 1099511627776 := by omega
      clear k1 k2 c1' c2' hat hc
      go_wp2_with fail
      go_roundw
      case rel => exact ⟨j + 1, by go_num, by rw [show k + 3 * (j + 1) = c + 3 by have := HC.out; omega]; go_num, by omega, HK3.out⟩
      case measure => simp [intOf]; omega
    · have hje : j = len := by omega
      subst hje
      go_wp2_with fail
      go_ret
      exact ⟨rfl, HMK.out⟩

/-- How many marks functions take. -/
def cntF15 (kid : Nat → Fu) : Nat → Nat
  | 0 => 0
  | k + 1 => cntF15 kid k + 1 + 3 * (kid k).len

set_option maxRecDepth 100000 in
set_option maxHeartbeats 4000000 in
theorem mark_funs_m (B C : Nat) (w : World) (len : Nat) (kid : Nat → Fu) (v : Value) (k : Nat) (hm : MFl B C w len kid v) (hk : ∀ j, j ≤ len → k + cntF15 kid j ≤ 1099511627776) :
    Calls Tryd.prog 11 #[v, .int .i64 k] w fun e w' => e = .returned (.int .i64 (k + cntF15 kid len : Nat)) ∧ MK B C w w' := by
  have HM : Hid (MFl B C w len kid v) := hm
  have hlm : len ≤ 9223372036854775807 := by
    rcases HM.out with ⟨h, _⟩ | ⟨b, o, cap, V, _, _, h, _⟩
    · omega
    · exact h
  obtain ⟨p, cap, ev⟩ := hm.shape
  have HB : Hid (∀ j, j ≤ len → k + cntF15 kid j ≤ 1099511627776) := hk
  clear hm hk
  subst ev
  obtain ⟨FIN, hFIN⟩ : ∃ FIN : Nat, FIN = k + cntF15 kid len := ⟨_, rfl⟩
  rw [← hFIN]
  have HFIN : Hid (FIN = k + cntF15 kid len) := hFIN
  clear hFIN
  go_enter Tryd.func11, Tryd.ntmps11
  go_wp2_with fail
  go_loopw [1, 5] (fun x i wr => ∃ j c : Nat, i = .int .i64 j ∧ x = .int .i64 c ∧ j ≤ len ∧ c = k + cntF15 kid j ∧ MK B C w wr) (fun _ i _ => len - (intOf i).toNat)
  case atStart => exact ⟨0, k, rfl, rfl, Nat.zero_le _, rfl, MK.refl _ _ _⟩
  case round =>
    obtain ⟨j, c, rfl, rfl, hj, hc, hmk⟩ := hrel
    have HMK : Hid (MK B C w wr) := hmk
    have HCC : Hid (c = k + cntF15 kid j) := hc
    clear hc hmk
    have hcb : c ≤ 1099511627776 := by have h1 := HB.out j hj; have h2 := HCC.out; omega
    by_cases hlt : (j : Int) < len
    · have hlt' : j < len := by omega
      rcases HM.out.keep HMK.out with ⟨h0, _⟩ | ⟨b, o, cap', V, he, hbc, _, hfz, hat⟩
      · omega
      injection he with he1 _ he2
      subst he1 he2
      obtain ⟨⟨⟨a0, c0⟩, c1⟩, hmi⟩ := hat j hlt'
      obtain ⟨pu, cu, eu⟩ := hmi.shape
      rw [eu] at hmi c1
      have k1 := MK.store hbc.1 hbc.2 c0 (c : Int)
      have hm2 := hmi.keep k1
      have HK1 := hid_ofF (HMK.out.trans k1)
      have hb2 := HB.out (j + 1) (by omega)
      have HS : Hid (cntF15 kid (j + 1) = cntF15 kid j + 1 + 3 * (kid j).len) := rfl
      rw [HS.out] at hb2
      have HCL : Hid (Calls Tryd.prog 26 #[.slice pu (kid j).len cu, .int .i64 ((c : Int) + 1)] (wr.setCell ⟨b, o + j * 2, none⟩ (.int .i64 (c : Int))) (fun e w' => e = .returned (.int .i64 (c + 1 + 3 * (kid j).len : Nat)) ∧ MK B C w w')) := by
        have := mark_ops_m B C _ (kid j).len _ (c + 1) hm2 (by have h2 := HCC.out; omega)
        rw [show ((c + 1 : Nat) : Int) = (c : Int) + 1 by omega] at this
        exact this.mono fun e w' ⟨h1, h2⟩ => ⟨h1, HK1.out.trans h2⟩
      clear k1 hm2 hmi hat
      generalize (kid j).len = L at *
      have hKb : c + 1 + 3 * L ≤ 1099511627776 := by have h2 := HCC.out; omega
      go_wp2_with fail
      refine HCL.out.mono ?_
      rintro e w3 ⟨rfl, hk3⟩
      have HK3 : Hid (MK B C w w3) := hk3
      clear hk3
      go_wp2_with fail
      go_roundw
      case rel => exact ⟨j + 1, c + 1 + 3 * L, by go_num, rfl, by omega, by rw [HS.out, HCC.out]; omega, HK3.out⟩
      case measure => simp [intOf]; omega
    · have hje : j = len := by omega
      have hcf : c = FIN := by rw [HCC.out, HFIN.out, hje]
      clear HCC HFIN
      subst hcf
      go_wp2_with fail
      go_ret
      exact ⟨rfl, HMK.out⟩
end Go.Proofs.YtocdpgogoadfnaaDoor
