/- impl.takeNum, impl.GetNum: the number that begins at a place, which is moved behind it. Condition: at most 2^22 bytes; the place lies in a block that the bytes do not lie in. -/
import Derived.Test.YtocdpgogoadfnaaDoorGetNum16
import Derived.OwnWalk
import Derived.Deep.QuietTactic
import Derived.BigQuiet
namespace Go.Proofs.YtocdpgogoadfnaaDoor
open Go.ChangeShapes Go.WideShapes Go.ChangeAt Go.RowKit

theorem is_below16 (n e : Int) (R : Bool) (hR : R = (decide (0 ≤ n) && decide (n < e))) (w : World) : Calls Tryd.prog 35 #[.int .i64 n, .int .i64 e] w fun r w' => r = .returned (.bool R) ∧ w' = w := by
  by_cases h1 : 0 ≤ n
  · by_cases h2 : n < e
    · have HR : Hid (R = true) := by show _ = _; rw [hR, decide_eq_true h1, decide_eq_true h2]; rfl
      clear hR
      go_enter Tryd.func35, Tryd.ntmps35
      go_wp2
      go_ret
      exact ⟨by rw [HR.out]; rfl, rfl⟩
    · have HR : Hid (R = false) := by show _ = _; rw [hR, decide_eq_true h1, decide_eq_false h2]; rfl
      clear hR
      go_enter Tryd.func35, Tryd.ntmps35
      go_wp2
      go_ret
      exact ⟨by rw [HR.out]; rfl, rfl⟩
  · have HR : Hid (R = false) := by show _ = _; rw [hR, decide_eq_false h1]; rfl
    clear hR
    go_enter Tryd.func35, Tryd.ntmps35
    go_wp2
    go_ret
    exact ⟨by rw [HR.out]; rfl, rfl⟩

/-- The bytes are read so whatever becomes of block K. -/
def RdO (K : Nat) (w : World) (v : Value) (xs : List Nat) : Prop := ∀ w', w.grownBy w' (some K) → RdY w' v xs
/-- In block K there is a. -/
def AtP (w : World) (K : Nat) (a : Int) : Prop := w.cell? ⟨K, 0, none⟩ = some (.int .i64 a) ∧ w.frozen? ⟨K, 0, none⟩ = false

theorem grown_trans {w w1 w2 : World} {K : Nat} (h1 : w.grownBy w1 (some K)) (h2 : w1.grownBy w2 (some K)) : w.grownBy w2 (some K) :=
  ⟨h2.os.trans h1.os, h2.tape.trans h1.tape, h2.output.trans h1.output, Nat.le_trans h1.size h2.size, fun k hk hn => (h2.block k (Nat.lt_of_lt_of_le hk h1.size) hn).trans (h1.block k hk hn)⟩
theorem RdO.now {K : Nat} {w : World} {v : Value} {xs : List Nat} (h : RdO K w v xs) : RdY w v xs := h w (World.grownBy.refl _ _)
theorem RdO.go {K : Nat} {w w1 : World} {v : Value} {xs : List Nat} (h : RdO K w v xs) (hg : w.grownBy w1 (some K)) : RdO K w1 v xs := fun w' h' => h w' (grown_trans hg h')
theorem AtP.lt {w : World} {K : Nat} {a : Int} (h : AtP w K a) : K < w.heap.size := World.block_lt_of_cell? w _ h.1
theorem grown_set {w : World} {K : Nat} {a : Int} (_h : AtP w K a) (u : Value) : w.grownBy (w.setCell ⟨K, 0, none⟩ u) (some K) :=
  ⟨rfl, rfl, rfl, by simp, fun k _ hn => Below.heap_setCell w ⟨K, 0, none⟩ _ k (by show k ≠ K; intro e; exact hn (by rw [e]))⟩
theorem AtP.set {w : World} {K : Nat} {a : Int} (h : AtP w K a) (c : Int) : AtP (w.setCell ⟨K, 0, none⟩ (.int .i64 c)) K c :=
  ⟨World.cell?_setCell_same w _ _ h.1, by have := h.2; simpa using this⟩

/-- What takeNum answers. -/
def TakeP (R : Option (Nat × Nat)) (K : Nat) (a : Int) (e : Ending) (w' : World) : Prop := match R with
  | some (n, k) => e = .returned (.tuple #[.int .i64 n, .bool true]) ∧ AtP w' K (a + k)
  | none => ∃ n c : Int, e = .returned (.tuple #[.int .i64 n, .bool false]) ∧ AtP w' K c
theorem takeP_none {R : Option (Nat × Nat)} {K : Nat} {a : Int} {e : Ending} {w' : World} (h : R = none) (n c : Int) (he : e = .returned (.tuple #[.int .i64 n, .bool false])) (ha : AtP w' K c) : TakeP R K a e w' := by subst h; exact ⟨n, c, he, ha⟩
theorem takeP_some {R : Option (Nat × Nat)} {K : Nat} {a : Int} {e : Ending} {w' : World} {n k : Nat} (h : R = some (n, k)) (he : e = .returned (.tuple #[.int .i64 n, .bool true])) (ha : AtP w' K (a + k)) : TakeP R K a e w' := by subst h; exact ⟨he, ha⟩

set_option maxRecDepth 100000 in
set_option maxHeartbeats 1000000 in
theorem take_out (xs : List Nat) (a : Int) (K : Nat) (v : Value) (w : World) (hv : RdO K w v xs) (hp : AtP w K a) (ha : ¬ (0 ≤ a ∧ a < xs.length)) :
    Calls Tryd.prog 39 #[v, .pointer (some ⟨K, 0, none⟩)] w fun e w' => e = .returned (.tuple #[.int .i64 0, .bool false]) ∧ w' = w := by
  obtain ⟨p, cap, rfl, hc⟩ := hv.now.shape
  obtain ⟨c0, f0⟩ := hp
  have HI : Hid (∀ w, Calls Tryd.prog 35 #[.int .i64 a, .int .i64 xs.length] w fun e w' => e = .returned (.bool false) ∧ w' = w) := fun w => is_below16 a xs.length false (by
    rcases Int.lt_or_le a 0 with h | h
    · simp; omega
    · simp; omega) w
  clear hc hv ha
  generalize xs.length = m at *
  go_enter Tryd.func39, Tryd.ntmps39
  go_wp2_with fail
  go_loop [7] (fun i => i = .int .i64 0) (fun _ => 0)
  case atStart => rfl
  case round =>
    subst hrel
    go_wp2_with (go_at_call 35; refine (HI.out _).mono ?_; rintro e w1 ⟨rfl, rfl⟩)
    go_ret2
    exact ⟨rfl, rfl⟩

set_option maxRecDepth 100000 in
set_option maxHeartbeats 2000000 in
theorem take_num (xs : List Nat) (hx : ∀ x ∈ xs, x < 256) (a : Int) (K : Nat) (v : Value) (w : World) (hv : RdO K w v xs) (hp : AtP w K a) (hl : xs.length ≤ 4194304) :
    Calls Tryd.prog 39 #[v, .pointer (some ⟨K, 0, none⟩)] w fun e w' => w.grownBy w' (some K) ∧ TakeP (numAt xs a) K a e w' := by
  by_cases hin : ¬ (0 ≤ a ∧ a < xs.length)
  · refine (take_out xs a K v w hv hp hin).mono ?_
    rintro e w' ⟨rfl, rfl⟩
    exact ⟨World.grownBy.refl _ _, takeP_none (num_out hin) 0 a rfl hp⟩
  obtain ⟨p, rfl⟩ : ∃ p : Nat, a = p := ⟨a.toNat, by omega⟩
  have hpl : p < xs.length := by omega
  have HV : Hid (∀ wr, w.grownBy wr (some K) → RdY wr v xs) := hv
  obtain ⟨b0, cap, rfl, -⟩ := hv.now.shape
  have HX : Hid (∀ q, xs.getD q 0 < 256) := fun q => getD_byte hx q
  have HD : Hid (∀ q, q < xs.length → xs.drop q = xs.getD q 0 :: xs.drop (q + 1)) := fun q h => drop_cons h
  have HE : Hid (∀ q, xs.length ≤ q → xs.drop q = []) := fun q h => List.drop_eq_nil_of_le h
  have HN : Hid (numAt xs p = numB 5 0 0 (xs.drop p)) := num_in hpl
  have HC : Hid (∀ wr, w.grownBy wr (some K) → ∀ j, j < xs.length → ∃ b off, b0 = some ⟨b, off, none⟩ ∧ wr.cell? ⟨b, off + j, none⟩ = some (.int .u8 (xs.getD j 0 : Nat))) := by
    intro wr hg j hj
    obtain ⟨b1, c1, e1, h1⟩ := (HV.out wr hg).shape
    injection e1 with e1 _ _
    subst e1
    exact h1 j hj
  have HP0 : Hid (AtP w K p) := hp
  have HIB : Hid (∀ (k : Nat) (R : Bool), R = decide (p + k < xs.length) → ∀ w, Calls Tryd.prog 35 #[.int .i64 ((p : Int) + k), .int .i64 xs.length] w fun e w' => e = .returned (.bool R) ∧ w' = w) := fun k R hR w => is_below16 ((p : Int) + k) xs.length R (by rw [hR, decide_eq_true (show (0 : Int) ≤ (p : Int) + k by omega), Bool.true_and]; exact decide_eq_decide.2 (by omega)) w
  obtain ⟨R, HR⟩ : ∃ R : Option (Nat × Nat), Hid (numAt xs p = R) := ⟨_, rfl⟩
  rw [HR.out]
  have HNO : Hid (R = none → ∀ (w' : World) (e : Ending) (n c : Int), e = .returned (.tuple #[.int .i64 n, .bool false]) → AtP w' K c → TakeP R K p e w') := fun h w' e n c he ha => takeP_none h n c he ha
  have HYES : Hid (∀ n k : Nat, R = some (n, k) → ∀ (w' : World) (e : Ending), e = .returned (.tuple #[.int .i64 n, .bool true]) → AtP w' K ((p : Int) + k) → TakeP R K p e w') := fun n k h w' e he ha => takeP_some h he ha
  generalize hPO : TakeP R K p = PO at *
  clear hPO
  clear hx hin hv hp HV
  generalize xs.length = m at *
  go_enter Tryd.func39, Tryd.ntmps39
  go_wp2_with fail
  go_loopw [6, 7] (fun n i wr => ∃ k N : Nat, i = .int .i64 k ∧ n = .int .i64 N ∧ k ≤ 5 ∧ N < 128 ^ k ∧ R = numB (5 - k) k N (xs.drop (p + k)) ∧ AtP wr K ((p : Int) + k) ∧ w.grownBy wr (some K)) (fun _ i _ => 5 - (intOf i).toNat)
  case atStart => exact ⟨0, 0, rfl, rfl, by omega, by simp, HR.out.symm.trans HN.out, HP0.out, World.grownBy.refl _ _⟩
  case round =>
    obtain ⟨k, N, rfl, rfl, hk, hN, hnum, hat, hg⟩ := hrel
    have HNN : Hid (R = numB (5 - k) k N (xs.drop (p + k))) := hnum
    have HAT : Hid (AtP wr K ((p : Int) + k)) := hat
    have HG : Hid (w.grownBy wr (some K)) := hg
    have hlt := hat.lt
    obtain ⟨c0, f0⟩ := hat
    clear hnum HN hg HP0 HR
    by_cases hk5 : k = 5
    · subst hk5
      have HF : Hid (R = none) := HNN.out
      go_wp2_with fail
      go_ret2
      exact ⟨HG.out, HNO.out HF.out _ _ 0 _ rfl HAT.out⟩
    by_cases hpk : m ≤ p + k
    · have HF : Hid (R = none) := HNN.out.trans (by rw [HE.out _ hpk, numB_nil])
      have HI : Hid (∀ w, Calls Tryd.prog 35 #[.int .i64 ((p : Int) + k), .int .i64 m] w fun e w' => e = .returned (.bool false) ∧ w' = w) := HIB.out k false (by simp; omega)
      go_wp2_with (go_at_call 35; refine (HI.out _).mono ?_; rintro e w1 ⟨rfl, rfl⟩)
      go_ret2
      exact ⟨HG.out, HNO.out HF.out _ _ 0 _ rfl HAT.out⟩
    have HI : Hid (∀ w, Calls Tryd.prog 35 #[.int .i64 ((p : Int) + k), .int .i64 m] w fun e w' => e = .returned (.bool true) ∧ w' = w) := HIB.out k true (by simp; omega)
    obtain ⟨b, off, rfl, hcell⟩ := HC.out wr HG.out (p + k) (by omega)
    have hd := HX.out (p + k)
    have HN2 : Hid (R = numB (4 - k + 1) k N (xs.getD (p + k) 0 :: xs.drop (p + k + 1))) := by
      show _ = _
      rw [HNN.out, ← HD.out _ (by omega), show 5 - k = 4 - k + 1 by omega]
    clear HNN
    generalize xs.getD (p + k) 0 = d at hcell hd HN2
    obtain ⟨S, hS⟩ : ∃ S : Nat, S = d % 128 * 128 ^ k := ⟨_, rfl⟩
    have HS : Hid (S = d % 128 * 128 ^ k) := hS
    have hk4 : k ≤ 4 := by omega
    have hS2 : S < 128 ^ (k + 1) := by rw [hS, Nat.pow_succ, Nat.mul_comm]; exact Nat.mul_lt_mul_of_pos_left (by omega) (Nat.pow_pos (by omega))
    have e7 : (2 : Int) ^ ((k : Int) * 7).toNat = ((128 ^ k : Nat) : Int) := by
      rw [show ((k : Int) * 7).toNat = 7 * k by omega, Int.pow_mul]; norm_cast
    have hp5 : 128 ^ (k + 1) ≤ 34359738368 := Nat.le_trans (Nat.pow_le_pow_right (by omega) (show k + 1 ≤ 5 by omega)) (by decide)
    have HSH : IntKind.i64.wrap ((d : Int) % 128 * 2 ^ ((k : Int) * 7).toNat) = S := by
      rw [e7, show ((d : Int) % 128 * ((128 ^ k : Nat) : Int)) = ((S : Nat) : Int) by rw [hS]; push_cast; rfl, IntKind.wrap_i64]
      omega
    have HSUM : Hid (N + S < 128 ^ (k + 1)) := by
      show _ < _
      have h1 : (d % 128 + 1) * 128 ^ k ≤ 128 * 128 ^ k := Nat.mul_le_mul_right _ (by omega)
      rw [Nat.pow_succ, Nat.mul_comm, hS, Nat.add_comm]
      rw [Nat.add_mul, Nat.one_mul] at h1
      omega
    have hsum : N + S < 34359738368 := Nat.lt_of_lt_of_le HSUM.out hp5
    have HSET : Hid (∀ c : Int, AtP (wr.setCell ⟨K, 0, none⟩ (.int .i64 c)) K c ∧ w.grownBy (wr.setCell ⟨K, 0, none⟩ (.int .i64 c)) (some K)) := fun c => ⟨HAT.out.set c, grown_trans HG.out (grown_set HAT.out _)⟩
    clear hS hS2 e7 hp5 hN
    by_cases hdm : (d : Int) < 128
    · by_cases hbad : (0 < k ∧ d = 0) ∨ 2147483647 < N + S
      · have HF : Hid (R = none) := HN2.out.trans (numB_bad (by omega) (by rw [← HS.out]; exact hbad))
        by_cases hle : (N : Int) + S ≤ 2147483647
        · have hk0 : ((k : Int) == 0) = false := by simp; omega
          have hd1 : ¬ (0 : Int) < d := by omega
          go_wp2_with (go_at_call 35; refine (HI.out _).mono ?_; rintro e w1 ⟨rfl, rfl⟩)
          go_ret2
          exact ⟨(HSET.out _).2, HNO.out HF.out _ _ ((N : Int) + S) _ rfl (HSET.out _).1⟩
        · go_wp2_with (go_at_call 35; refine (HI.out _).mono ?_; rintro e w1 ⟨rfl, rfl⟩)
          go_ret2
          exact ⟨(HSET.out _).2, HNO.out HF.out _ _ ((N : Int) + S) _ rfl (HSET.out _).1⟩
      · have HF : Hid (R = some (N + S, k + 1)) := HN2.out.trans (by rw [numB_yes (by omega) (by rw [← HS.out]; exact hbad), ← HS.out])
        have hle : (N : Int) + S ≤ 2147483647 := by omega
        have HSM : Hid (Ending.returned (.tuple #[.int .i64 ((N : Int) + S), .bool true]) = Ending.returned (.tuple #[.int .i64 ((N + S : Nat) : Int), .bool true])) := by
          show _ = _
          rw [show ((N + S : Nat) : Int) = (N : Int) + S by omega]
        have HEND : Hid (AtP (wr.setCell ⟨K, 0, none⟩ (.int .i64 ((p : Int) + k + 1))) K ((p : Int) + ((k + 1 : Nat) : Int))) := by
          have := (HSET.out ((p : Int) + k + 1)).1
          rw [show ((p : Int) + k + 1) = (p : Int) + ((k + 1 : Nat) : Int) by omega] at this ⊢
          exact this
        by_cases hd1 : (0 : Int) < d
        · go_wp2_with (go_at_call 35; refine (HI.out _).mono ?_; rintro e w1 ⟨rfl, rfl⟩)
          go_ret2
          exact ⟨(HSET.out _).2, HYES.out _ _ HF.out _ _ HSM.out HEND.out⟩
        · have hk0 : ((k : Int) == 0) = true := by simp; omega
          go_wp2_with (go_at_call 35; refine (HI.out _).mono ?_; rintro e w1 ⟨rfl, rfl⟩)
          go_ret2
          exact ⟨(HSET.out _).2, HYES.out _ _ HF.out _ _ HSM.out HEND.out⟩
    · go_wp2_with (go_at_call 35; refine (HI.out _).mono ?_; rintro e w1 ⟨rfl, rfl⟩)
      go_roundw
      case rel =>
        refine ⟨k + 1, N + S, by go_num, by go_num, by omega, HSUM.out, ?_, (HSET.out _).1, (HSET.out _).2⟩
        rw [HN2.out, numB_more (by omega), ← HS.out, show 5 - (k + 1) = 4 - k by omega, Nat.add_assoc]
      case measure => simp [intOf]; omega

end Go.Proofs.YtocdpgogoadfnaaDoor
