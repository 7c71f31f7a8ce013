/- spec.GetNum: the number that begins at a place of a row of bytes. Condition: at most 2^22 bytes. -/
import Derived.Test.YtocdpgogoadfnaaDoorBysLaw
import Derived.WalkKit
import Derived.ProofKit
import Derived.OwnWalk
import Derived.Laws.BitsLemmas
namespace Go.Proofs.YtocdpgogoadfnaaDoor
open Go.ChangeShapes Go.WideShapes Go.ChangeAt Go.RowKit

theorem or_low (i : Nat) (n x : Int) (h0 : 0 ≤ n) (hn : n < 2 ^ i) (hi : n < 2 ^ 62) (hx0 : 0 ≤ x) (hx : x % 2 ^ i = 0) (hx1 : x < 2 ^ 62) : bits .or .i64 n x = n + x := by
  have hc : bits .or .i64 n x = bits .or .i64 x n := by simp only [bits, BitVec.or_comm]
  rw [hc, bits_join .i64 62 (by decide) (fun m h0 h1 => by rw [IntKind.wrap_i64]; omega) i x n hx0 hx hx1 h0 hn hi]
  omega

/-- What GetNum answers. -/
def getE (xs : List Nat) (a : Int) : Value := match numAt xs a with
  | some (n, k) => .tuple #[.int .i64 n, .int .i64 (a + k), .bool true]
  | none => .tuple #[.int .i64 0, .int .i64 0, .bool false]

theorem numB_lt : ∀ (f k n : Nat) (b : List Nat), k + f ≤ 5 → ∀ m c, numB f k n b = some (m, c) → m ≤ 2147483647 ∧ k < c ∧ c ≤ k + b.length ∧ c ≤ 5
  | 0, k, n, b, _, m, c, h => by cases h
  | f + 1, k, n, [], _, m, c, h => by rw [numB_nil] at h; cases h
  | f + 1, k, n, d :: r, hk, m, c, h => by
    by_cases hd : d < 128
    · by_cases hb : (0 < k ∧ d = 0) ∨ 2147483647 < n + d % 128 * 128 ^ k
      · rw [numB_bad hd hb] at h; cases h
      · rw [numB_yes hd hb] at h
        injection h with h; injection h with h1 h2
        subst h1 h2
        simp only [List.length_cons]
        omega
    · rw [numB_more (by omega)] at h
      have := numB_lt f (k + 1) _ r (by omega) m c h
      simp only [List.length_cons]
      omega

theorem getE_none {xs : List Nat} {a : Int} (h : numAt xs a = none) : getE xs a = .tuple #[.int .i64 0, .int .i64 0, .bool false] := by unfold getE; rw [h]
theorem getE_some {xs : List Nat} {a : Int} {n k : Nat} (h : numAt xs a = some (n, k)) : getE xs a = .tuple #[.int .i64 n, .int .i64 (a + k), .bool true] := by unfold getE; rw [h]

theorem num_in {xs : List Nat} {p : Nat} (h : p < xs.length) : numAt xs p = numB 5 0 0 (xs.drop p) := by
  unfold numAt
  rw [if_pos ⟨by omega, by omega⟩, Int.toNat_natCast]
theorem num_out {xs : List Nat} {a : Int} (h : ¬ (0 ≤ a ∧ a < xs.length)) : numAt xs a = none := by unfold numAt; rw [if_neg h]

set_option maxRecDepth 100000 in
set_option maxHeartbeats 1000000 in
theorem spec_get_out (xs : List Nat) (a : Int) (v : Value) (w : World) (hv : RdY w v xs) (hl : xs.length ≤ 4194304) (ha : ¬ (0 ≤ a ∧ a < xs.length)) :
    Calls Tryd.prog 38 #[v, .int .i64 a] w fun e w' => e = .returned (getE xs a) ∧ w' = w := by
  obtain ⟨p, cap, rfl, hc⟩ := hv.shape
  have HG : Hid (getE xs a = .tuple #[.int .i64 0, .int .i64 0, .bool false]) := getE_none (num_out ha)
  clear hc hv
  generalize xs.length = m at *
  by_cases h0 : a < 0
  · go_enter Tryd.func38, Tryd.ntmps38
    go_wp2_with fail
    go_loop [8] (fun i => i = .int .i64 0) (fun _ => 0)
    case atStart => rfl
    case round =>
      subst hrel
      go_wp2
      go_ret3
      exact ⟨HG.out.symm ▸ rfl, rfl⟩
  · have h1 : (m : Int) ≤ a := by omega
    go_enter Tryd.func38, Tryd.ntmps38
    go_wp2_with fail
    go_loop [8] (fun i => i = .int .i64 0) (fun _ => 0)
    case atStart => rfl
    case round =>
      subst hrel
      go_wp2
      go_ret3
      exact ⟨HG.out.symm ▸ rfl, rfl⟩

set_option maxRecDepth 100000 in
set_option maxHeartbeats 2000000 in
theorem spec_get (xs : List Nat) (hx : ∀ x ∈ xs, x < 256) (a : Int) (v : Value) (w : World) (hv : RdY w v xs) (hl : xs.length ≤ 4194304) :
    Calls Tryd.prog 38 #[v, .int .i64 a] w fun e w' => e = .returned (getE xs a) ∧ w' = w := by
  by_cases hin : ¬ (0 ≤ a ∧ a < xs.length)
  · exact spec_get_out xs a v w hv hl hin
  obtain ⟨p, rfl⟩ : ∃ p : Nat, a = p := ⟨a.toNat, by omega⟩
  have hp : p < xs.length := by omega
  obtain ⟨b0, cap, rfl, hc⟩ := hv.shape
  have HC : Hid (∀ j, j < xs.length → ∃ b off, b0 = some ⟨b, off, none⟩ ∧ w.cell? ⟨b, off + j, none⟩ = some (.int .u8 (xs.getD j 0 : Nat))) := hc
  have HX : Hid (∀ q, xs.getD q 0 < 256) := fun q => getD_byte hx q
  have HD : Hid (∀ q, q < xs.length → xs.drop q = xs.getD q 0 :: xs.drop (q + 1)) := fun q h => drop_cons h
  have HE : Hid (∀ q, xs.length ≤ q → xs.drop q = []) := fun q h => List.drop_eq_nil_of_le h
  have HN : Hid (numAt xs p = numB 5 0 0 (xs.drop p)) := num_in hp
  have HL : Hid (xs.length = xs.length) := rfl
  clear hc hv hx hin
  generalize hm : xs.length = m at *
  clear HL hm
  go_enter Tryd.func38, Tryd.ntmps38
  go_wp2_with fail
  go_loop [7, 8] (fun n i => ∃ k N : Nat, i = .int .i64 k ∧ n = .int .i64 N ∧ k ≤ 5 ∧ N < 128 ^ k ∧ numAt xs p = numB (5 - k) k N (xs.drop (p + k))) (fun _ i => 5 - (intOf i).toNat)
  case atStart => exact ⟨0, 0, rfl, rfl, by omega, by simp, HN.out⟩
  case round =>
    obtain ⟨k, N, rfl, rfl, hk, hN, hnum⟩ := hrel
    have HNN : Hid (numAt xs p = numB (5 - k) k N (xs.drop (p + k))) := hnum
    clear hnum HN
    by_cases hk5 : k = 5
    · subst hk5
      have HG : Hid (getE xs p = .tuple #[.int .i64 0, .int .i64 0, .bool false]) := getE_none HNN.out
      go_wp2
      go_ret3
      exact ⟨HG.out.symm ▸ rfl, rfl⟩
    by_cases hpk : m ≤ p + k
    · have HG : Hid (getE xs p = .tuple #[.int .i64 0, .int .i64 0, .bool false]) := getE_none (by rw [HNN.out, HE.out _ hpk, numB_nil])
      have hi : ¬ ((p : Int) < (m : Int) - k) := by omega
      go_wp2
      go_ret3
      exact ⟨HG.out.symm ▸ rfl, rfl⟩
    have hi : ((p : Int) < (m : Int) - k) := by omega
    obtain ⟨b, off, rfl, hcell⟩ := HC.out (p + k) (by omega)
    have hd := HX.out (p + k)
    have HN2 : Hid (numAt xs p = numB (4 - k + 1) k N (xs.getD (p + k) 0 :: xs.drop (p + k + 1))) := by
      show _ = _
      rw [HNN.out, ← HD.out _ (by omega), show 5 - k = 4 - k + 1 by omega]
    clear HNN
    generalize xs.getD (p + k) 0 = d at hcell hd HN2
    obtain ⟨S, hS⟩ : ∃ S : Nat, S = d % 128 * 128 ^ k := ⟨_, rfl⟩
    have HS : Hid (S = d % 128 * 128 ^ k) := hS
    have hk4 : k ≤ 4 := by omega
    have hS2 : S < 128 ^ (k + 1) := by rw [hS, Nat.pow_succ, Nat.mul_comm]; exact Nat.mul_lt_mul_of_pos_left (by omega) (Nat.pow_pos (by omega))
    have hS3 : S % 128 ^ k = 0 := by rw [hS]; exact Nat.mul_mod_left _ _
    have e7 : (2 : Int) ^ (7 * (k : Int)).toNat = ((128 ^ k : Nat) : Int) := by
      rw [show (7 * (k : Int)).toNat = 7 * k by omega, Int.pow_mul]; norm_cast
    have hp5 : 128 ^ (k + 1) ≤ 34359738368 := Nat.le_trans (Nat.pow_le_pow_right (by omega) (show k + 1 ≤ 5 by omega)) (by decide)
    have hp4 : (2 : Int) ^ (7 * k) = ((128 ^ k : Nat) : Int) := by rw [Int.pow_mul]; norm_cast
    have hN2 : N < 128 ^ (k + 1) := Nat.lt_of_lt_of_le hN (Nat.pow_le_pow_right (by omega) (by omega))
    have HSH : IntKind.i64.wrap ((d : Int) % 128 * 2 ^ (7 * (k : Int)).toNat) = S := by
      rw [e7, show ((d : Int) % 128 * ((128 ^ k : Nat) : Int)) = ((S : Nat) : Int) by rw [hS]; push_cast; rfl, IntKind.wrap_i64]
      omega
    have HOR : bits .or .i64 (N : Int) (S : Int) = N + S := or_low (7 * k) N S (by omega) (by rw [hp4]; exact_mod_cast hN) (by omega) (by omega) (by rw [hp4]; exact_mod_cast hS3) (by omega)
    have HSUM : Hid (N + S < 128 ^ (k + 1)) := by
      show _ < _
      have h1 : (d % 128 + 1) * 128 ^ k ≤ 128 * 128 ^ k := Nat.mul_le_mul_right _ (by omega)
      rw [Nat.pow_succ, Nat.mul_comm, hS, Nat.add_comm]
      rw [Nat.add_mul, Nat.one_mul] at h1
      omega
    have hsum : N + S < 34359738368 := Nat.lt_of_lt_of_le HSUM.out hp5
    clear hS hS2 hS3 e7 hp5 hp4 hN hN2
    by_cases hdm : (d : Int) < 128
    · by_cases hbad : (0 < k ∧ d = 0) ∨ 2147483647 < N + S
      · have HG : Hid (getE xs p = .tuple #[.int .i64 0, .int .i64 0, .bool false]) := getE_none (by rw [HN2.out, numB_bad (by omega) (by rw [← HS.out]; exact hbad)])
        by_cases hk0 : (0 : Int) < k
        · by_cases hd0 : d = 0
          · have hd1 : ((d : Int) == 0) = true := by simp [hd0]
            go_wp2
            go_ret3
            exact ⟨HG.out.symm ▸ rfl, rfl⟩
          · have hd1 : ((d : Int) == 0) = false := by simp; omega
            have hb2 : (2147483647 : Int) < (N : Int) + S := by omega
            go_wp2
            go_ret3
            exact ⟨HG.out.symm ▸ rfl, rfl⟩
        · have hb2 : (2147483647 : Int) < (N : Int) + S := by omega
          go_wp2
          go_ret3
          exact ⟨HG.out.symm ▸ rfl, rfl⟩
      · have HG : Hid (getE xs p = .tuple #[.int .i64 ((N : Int) + S), .int .i64 ((p : Int) + k + 1), .bool true]) := by
          show _ = _
          rw [getE_some (n := N + S) (k := k + 1) (by rw [HN2.out, numB_yes (by omega) (by rw [← HS.out]; exact hbad), ← HS.out])]
          rw [show ((N + S : Nat) : Int) = (N : Int) + S by omega, show ((p : Int) + ((k + 1 : Nat) : Int)) = (p : Int) + k + 1 by omega]
        have hb2 : ¬ (2147483647 : Int) < (N : Int) + S := by omega
        by_cases hk0 : (0 : Int) < k
        · have hd1 : ((d : Int) == 0) = false := by simp; omega
          go_wp2
          go_ret3
          exact ⟨HG.out.symm ▸ rfl, rfl⟩
        · go_wp2
          go_ret3
          exact ⟨HG.out.symm ▸ rfl, rfl⟩
    · go_wp2
      go_round
      case rel =>
        refine ⟨k + 1, N + S, by go_num, by go_num, by omega, HSUM.out, ?_⟩
        rw [HN2.out, numB_more (by omega), ← HS.out, show 5 - (k + 1) = 4 - k by omega, Nat.add_assoc]
      case measure => simp [intOf]; omega
end Go.Proofs.YtocdpgogoadfnaaDoor
