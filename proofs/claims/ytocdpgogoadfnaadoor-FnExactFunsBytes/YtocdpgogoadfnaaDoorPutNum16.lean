/- spec.PutNum, impl.appendNum, impl.PutNum: the bytes of a number. Conditions: a row of one's own of at most 2^40 bytes grows. -/
import Derived.Test.YtocdpgogoadfnaaDoorBysOwn
import Derived.Test.YtocdpgogoadfnaaDoorSpecIn13
import Derived.WalkKit
import Derived.ProofKit
import Derived.OwnWalk
namespace Go.Proofs.YtocdpgogoadfnaaDoor
open Go.ChangeShapes Go.WideShapes Go.ChangeAt Go.RowKit

theorem u8_of {n : Int} (h0 : 0 ≤ n) (h1 : n < 256) : IntKind.u8.wrap n = n := by rw [IntKind.wrap_u8]; omega

theorem put_len (M L : List Nat) (m n : Nat) (h : M ++ putN m = L ++ putN n) (hn : n ≤ 9223372036854775807) : M.length ≤ L.length + 10 := by
  have h1 := congrArg List.length h
  rw [List.length_append, List.length_append] at h1
  have := putN_len 9 n (by omega)
  omega

set_option maxRecDepth 100000 in
set_option maxHeartbeats 1000000 in
theorem append_num (n : Nat) (B : Nat) (v : Value) (L : List Nat) (w : World) (hown : OwnY w B v L) (hB : B ≤ w.heap.size) (hL : L.length ≤ 1099511627776) (hn : n ≤ 9223372036854775807) :
    Calls Tryd.prog 23 #[v, .int .i64 n] w fun e w' => ∃ u, e = .returned u ∧ OwnY w' B u (L ++ putN n) ∧ Below B w w' := by
  obtain ⟨i0, hi, hz0, hz1, hz2⟩ := info_parts by_info
  have HO : Hid (OwnY w B v L) := hown
  have HN : Hid (n ≤ 9223372036854775807) := hn
  clear hown
  go_enter Tryd.func23, Tryd.ntmps23
  go_wp2_with fail
  go_loopw [0, 1] (fun r i wr => ∃ (m : Nat) (r0 : Value) (M : List Nat), r0 = r ∧ i = .int .i64 m ∧ m ≤ n ∧ OwnY wr B r0 M ∧ M ++ putN m = L ++ putN n ∧ Below B w wr) (fun _ i _ => (intOf i).toNat)
  case atStart => exact ⟨n, _, L, rfl, rfl, by omega, HO.out, rfl, Below.refl _ _⟩
  case round =>
    obtain ⟨m, r0, M, rfl, rfl, hm, hown, hput, hbel⟩ := hrel
    have HOW : Hid (OwnY wr B r0 M) := hown
    have HP : Hid (M ++ putN m = L ++ putN n) := hput
    have HB : Hid (Below B w wr) := hbel
    have hml := put_len M L m n hput hn
    have HSZ : Hid (B ≤ wr.heap.size) := Nat.le_trans hB hbel.size
    clear hown hput hbel HO
    by_cases hlt : (128 : Int) ≤ m
    · have hm0 : (0 : Int) ≤ m := by omega
      go_wp2_with (at_builtin; refine wpList_append_own _ rfl (.tmp 7) (.tmp 12) 24 rfl B 5 i0 (.int .u8 0) 1 1 Tryd.underlying24 hi hz0 hz1 hz2 rfl (by decide) r0 M.length (M.map byV) rfl (World.ownsRow.alloc HOW.out _) ⟨wr.heap.size, 0, none⟩ 1 1 [.int .u8 ((m : Int) % 128 + 128)] rfl rfl (one_newY wr _ _) (by simp [Value.oneCell']) (by unfold maxLen; omega) (by omega) (by have := HSZ.out; simp; omega) ?_; intro v' w2 hown2 hg2 _)
      have R := own_pushY (x := m % 128 + 128) (y := (m : Int) % 128 + 128) (by omega) HOW.out HB.out (Nat.le_refl _) HSZ.out hown2 hg2
      have HR : Hid (OwnY w2 B v' (M ++ [m % 128 + 128]) ∧ Below B w w2) := R
      clear R hown2 hg2
      go_wp2_with fail
      go_roundw
      case rel =>
        refine ⟨m / 128, _, _, rfl, by go_num, by omega, HR.out.1, ?_, HR.out.2⟩
        rw [← HP.out, putN_big (n := m) (by omega), List.append_assoc]; rfl
      case measure => simp [intOf]; omega
    · have hm0 : (m : Int) < 128 := by omega
      go_wp2_with (at_builtin; refine wpList_append_own _ rfl (.tmp 16) (.tmp 19) 24 rfl B 5 i0 (.int .u8 0) 1 1 Tryd.underlying24 hi hz0 hz1 hz2 rfl (by decide) r0 M.length (M.map byV) rfl (World.ownsRow.alloc HOW.out _) ⟨wr.heap.size, 0, none⟩ 1 1 [.int .u8 (m : Int)] rfl rfl (one_newY wr _ _) (by simp [Value.oneCell']) (by unfold maxLen; omega) (by omega) (by have := HSZ.out; simp; omega) ?_; intro v' w2 hown2 hg2 _)
      have R := own_pushY (x := m) rfl HOW.out HB.out (Nat.le_refl _) HSZ.out hown2 hg2
      have HR : Hid (OwnY w2 B v' (M ++ [m]) ∧ Below B w w2) := R
      clear R hown2 hg2
      go_ret
      refine ⟨_, rfl, ?_, HR.out.2⟩
      rw [← HP.out, putN_small (n := m) (by omega)]
      exact HR.out.1

set_option maxRecDepth 100000 in
set_option maxHeartbeats 1000000 in
theorem spec_put (n : Int) (w : World) (hn : n ≤ 9223372036854775807) :
    Calls Tryd.prog 20 #[.int .i64 n] w fun e w' => ∃ u, e = .returned u ∧ OwnY w' w.heap.size u (putI n) ∧ Below w.heap.size w w' := by
  obtain ⟨i0, hi, hz0, hz1, hz2⟩ := info_parts by_info
  by_cases hin : 0 ≤ n ∧ n ≤ 2147483647
  · obtain ⟨q, rfl⟩ : ∃ m : Nat, n = m := ⟨n.toNat, by omega⟩
    have HF : Hid (putI q = putN q) := by show _ = _; rw [putI, if_pos hin, Int.toNat_natCast]
    have hq : q ≤ 2147483647 := by omega
    go_enter Tryd.func20, Tryd.ntmps20
    go_wp2_with fail
    refine (spec_in13 q 0 2147483647 true (by simp; omega) _).mono ?_
    rintro e w1 ⟨rfl, rfl⟩
    go_wp2_with fail
    go_loopw [3, 0] (fun r i wr => ∃ (m : Nat) (r0 : Value) (M : List Nat), r0 = r ∧ i = .int .i64 m ∧ m ≤ q ∧ OwnY wr w.heap.size r0 M ∧ M ++ putN m = putN q ∧ Below w.heap.size w wr) (fun _ i _ => (intOf i).toNat)
    case atStart => exact ⟨q, _, [], rfl, rfl, by omega, own_litY w w.heap.size (Nat.le_refl _), rfl, new_belowY w _⟩
    case round =>
      obtain ⟨m, r0, M, rfl, rfl, hm, hown, hput, hbel⟩ := hrel
      have HOW : Hid (OwnY wr w.heap.size r0 M) := hown
      have HP : Hid (M ++ putN m = putN q) := hput
      have HB : Hid (Below w.heap.size w wr) := hbel
      have hml := put_len M [] m q hput (by omega)
      rw [List.length_nil] at hml
      have HSZ : Hid (w.heap.size ≤ wr.heap.size) := hbel.size
      clear hown hput hbel
      by_cases hlt : (127 : Int) < m
      · go_wp2_with (at_builtin; refine wpList_append_own _ rfl (.tmp 11) (.tmp 16) 24 rfl w.heap.size 5 i0 (.int .u8 0) 1 1 Tryd.underlying24 hi hz0 hz1 hz2 rfl (by decide) r0 M.length (M.map byV) rfl (World.ownsRow.alloc HOW.out _) ⟨wr.heap.size, 0, none⟩ 1 1 [.int .u8 ((m : Int) % 128 + 128)] rfl rfl (one_newY wr _ _) (by simp [Value.oneCell']) (by unfold maxLen; omega) (by omega) (by have := HSZ.out; simp; omega) ?_; intro v' w2 hown2 hg2 _)
        have R := own_pushY (x := m % 128 + 128) (y := (m : Int) % 128 + 128) (by omega) HOW.out HB.out (Nat.le_refl _) HSZ.out hown2 hg2
        have HR : Hid (OwnY w2 w.heap.size v' (M ++ [m % 128 + 128]) ∧ Below w.heap.size w w2) := R
        clear R hown2 hg2
        go_wp2_with fail
        go_roundw
        case rel =>
          refine ⟨m / 128, _, _, rfl, by go_num, by omega, HR.out.1, ?_, HR.out.2⟩
          rw [← HP.out, putN_big (n := m) (by omega), List.append_assoc]; rfl
        case measure => simp [intOf]; omega
      · have hm0 : (m : Int) < 128 := by omega
        go_wp2_with (at_builtin; refine wpList_append_own _ rfl (.tmp 20) (.tmp 23) 24 rfl w.heap.size 5 i0 (.int .u8 0) 1 1 Tryd.underlying24 hi hz0 hz1 hz2 rfl (by decide) r0 M.length (M.map byV) rfl (World.ownsRow.alloc HOW.out _) ⟨wr.heap.size, 0, none⟩ 1 1 [.int .u8 (m : Int)] rfl rfl (one_newY wr _ _) (by simp [Value.oneCell']) (by unfold maxLen; omega) (by omega) (by have := HSZ.out; simp; omega) ?_; intro v' w2 hown2 hg2 _)
        have R := own_pushY (x := m) rfl HOW.out HB.out (Nat.le_refl _) HSZ.out hown2 hg2
        have HR : Hid (OwnY w2 w.heap.size v' (M ++ [m]) ∧ Below w.heap.size w w2) := R
        clear R hown2 hg2
        go_ret
        refine ⟨_, rfl, ?_, HR.out.2⟩
        rw [HF.out, ← HP.out, putN_small (n := m) (by omega)]
        exact HR.out.1
  · have HF : Hid (putI n = []) := by show _ = _; rw [putI, if_neg hin]
    have hR : (decide (0 ≤ n) && decide (n ≤ 2147483647)) = false := by
      rcases Int.lt_or_le n 0 with h | h
      · simp; omega
      · simp; omega
    go_enter Tryd.func20, Tryd.ntmps20
    go_wp2_with fail
    refine (spec_in13 n 0 2147483647 false hR.symm _).mono ?_
    rintro e w1 ⟨rfl, rfl⟩
    go_wp2_with fail
    go_ret
    refine ⟨_, rfl, ?_, new_belowY w _⟩
    rw [HF.out]
    exact own_litY w w.heap.size (Nat.le_refl _)
end Go.Proofs.YtocdpgogoadfnaaDoor
