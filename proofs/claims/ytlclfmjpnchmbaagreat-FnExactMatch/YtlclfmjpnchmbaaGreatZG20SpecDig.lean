/- spec.l3Size, spec.l3Deep and spec.l1Max. Condition: at most 2^40 data. -/
import Derived.Test.YtlclfmjpnchmbaaGreatRows
import Derived.Test.YtlclfmjpnchmbaaGreatZG10StxOkP
import Derived.WalkKit
import Derived.ProofKit
import Derived.OwnWalk
import Derived.Below
namespace Go.Proofs.YtlclfmjpnchmbaaGreat
open Go.ChangeShapes Go.WideShapes Go.ChangeAt Go.RowKit

theorem spec_max (a b : Nat) (w : World) : Calls Tryz.prog 63 #[.int .i64 a, .int .i64 b] w fun e w' => e = .returned (.int .i64 ((max a b : Nat) : Int)) ∧ w' = w := by
  by_cases h : (b : Int) < a
  · have H : Hid (max a b = a) := by show _ = _; omega
    go_enter Tryz.func63, Tryz.ntmps63
    go_wp2
    go_ret
    exact ⟨by rw [H.out]; rfl, rfl⟩
  · have H : Hid (max a b = b) := by show _ = _; omega
    go_enter Tryz.func63, Tryz.ntmps63
    go_wp2
    go_ret
    exact ⟨by rw [H.out]; rfl, rfl⟩

def SizeAt (t : D) : Prop := ∀ (w : World) (v : Value), t.In w v → t.count ≤ 1099511627776 →
  Calls Tryz.prog 47 #[.agg #[.int .i64 t.op, .int .i64 t.at_, .int .i64 t.n, .string t.s, v]] w fun e w' => e = .returned (.int .i64 t.count) ∧ Below w.heap.size w w'
def DeepAt (t : D) : Prop := ∀ (w : World) (v : Value), t.In w v → t.count ≤ 1099511627776 →
  Calls Tryz.prog 48 #[.agg #[.int .i64 t.op, .int .i64 t.at_, .int .i64 t.n, .string t.s, v]] w fun e w' => e = .returned (.int .i64 t.deep) ∧ Below w.heap.size w w'

set_option maxRecDepth 100000 in
set_option maxHeartbeats 2000000 in
theorem spec_size (t : D) : SizeAt t := by
  induction t with
  | no => intro w v h _; exact h.elim
  | mk op a n s len kid ih =>
    intro w v hin hc
    have h1 := hin.sl
    have HCE : Hid ((D.mk op a n s len kid).count = 1 + sumTo (fun i => (kid i).count) len) := rfl
    simp only [D.op, D.at_, D.n, D.s, D.len, D.kid] at h1 ⊢
    generalize (D.mk op a n s len kid).count = C at *
    obtain ⟨p, cap, e1, hlen, hat⟩ := h1.at
    have HC : Hid (∀ i, i < len → ∃ b o u, p = some ⟨b, o, none⟩ ∧ Head w b (o + i * 5) (kid i) u ∧ (kid i).In w u) := hat
    have IH : Hid (∀ i, SizeAt (kid i)) := ih
    clear hin h1 hat ih
    unfold maxLen at hlen
    subst e1
    go_enter Tryz.func47, Tryz.ntmps47
    go_wp2_with fail
    go_loopw [3, 4] (fun x i wr => ∃ k c : Nat, i = .int .i64 k ∧ x = .int .i64 c ∧ k ≤ len ∧ c = 1 + sumTo (fun i => (kid i).count) k ∧ wr.cell? ⟨w.heap.size, 4, none⟩ = some (.slice p len cap) ∧ Below w.heap.size w wr) (fun _ i _ => len - (intOf i).toNat)
    case atStart => exact ⟨0, 1, rfl, rfl, Nat.zero_le _, rfl, by simp, newb w _⟩
    case round =>
      obtain ⟨k, c, rfl, rfl, hk, hcc, hc1, hbel⟩ := hrel
      have HBL : Hid (Below w.heap.size w wr) := hbel
      have HS : Hid (c = 1 + sumTo (fun i => (kid i).count) k) := hcc
      clear hbel hcc
      by_cases hlt : (k : Int) < len
      · have hlt' : k < len := by omega
        obtain ⟨b, o, u, hp, hd, hin⟩ := HC.out k hlt'
        subst hp
        obtain ⟨c0, c1, c2, c3, c4⟩ := hd.below HBL.out
        have HI : Hid ((kid k).In wr u) := hin.below HBL.out
        have hsum : c + (kid k).count ≤ C := by
          have h1 := sumTo_at (fun i => (kid i).count) k len hlt'
          have h2 := HS.out
          have h3 := HCE.out
          omega
        have hck : (kid k).count ≤ 1099511627776 := by omega
        clear hd hin
        go_wp2_with fail
        refine (IH.out k wr u HI.out hck).mono ?_
        rintro e w1 ⟨rfl, hb1⟩
        have HB1 : Hid (Below w.heap.size w w1) := HBL.out.trans (hb1.mono HBL.out.size)
        have HX : Hid (w1.cell? ⟨w.heap.size, 4, none⟩ = some (.slice (some ⟨b, o, none⟩) len cap)) := keeps hb1 _ _ hc1
        clear hb1 c0 c1 c2 c3 c4
        go_wp2_with fail
        go_roundw
        case rel => exact ⟨k + 1, c + (kid k).count, by go_num, by go_num, by omega, by rw [HS.out]; simp only [sumTo]; omega, HX.out, HB1.out⟩
        case measure => simp [intOf]; omega
      · have hke : k = len := by omega
        subst hke
        have HE : Hid (c = C) := HS.out.trans HCE.out.symm
        go_wp2_with fail
        go_ret
        exact ⟨by rw [← HE.out]; rfl, HBL.out⟩

set_option maxRecDepth 100000 in
set_option maxHeartbeats 2000000 in
theorem spec_deep (t : D) : DeepAt t := by
  induction t with
  | no => intro w v h _; exact h.elim
  | mk op a n s len kid ih =>
    intro w v hin hc
    have h1 := hin.sl
    have HCE : Hid ((D.mk op a n s len kid).count = 1 + sumTo (fun i => (kid i).count) len) := rfl
    have HDE : Hid ((D.mk op a n s len kid).deep = maxTo (fun i => (kid i).deep) len + 1) := rfl
    have hdc := (D.mk op a n s len kid).deep_count
    simp only [D.op, D.at_, D.n, D.s, D.len, D.kid] at h1 ⊢
    generalize (D.mk op a n s len kid).count = C at *
    generalize (D.mk op a n s len kid).deep = E at *
    obtain ⟨p, cap, e1, hlen, hat⟩ := h1.at
    have HC : Hid (∀ i, i < len → ∃ b o u, p = some ⟨b, o, none⟩ ∧ Head w b (o + i * 5) (kid i) u ∧ (kid i).In w u) := hat
    have IH : Hid (∀ i, DeepAt (kid i)) := ih
    clear hin h1 hat ih
    unfold maxLen at hlen
    subst e1
    go_enter Tryz.func48, Tryz.ntmps48
    go_wp2_with fail
    go_loopw [3, 4] (fun x i wr => ∃ k c : Nat, i = .int .i64 k ∧ x = .int .i64 c ∧ k ≤ len ∧ c = maxTo (fun i => (kid i).deep) k ∧ wr.cell? ⟨w.heap.size, 4, none⟩ = some (.slice p len cap) ∧ Below w.heap.size w wr) (fun _ i _ => len - (intOf i).toNat)
    case atStart => exact ⟨0, 0, rfl, rfl, Nat.zero_le _, rfl, by simp, newb w _⟩
    case round =>
      obtain ⟨k, c, rfl, rfl, hk, hcc, hc1, hbel⟩ := hrel
      have HBL : Hid (Below w.heap.size w wr) := hbel
      have HS : Hid (c = maxTo (fun i => (kid i).deep) k) := hcc
      clear hbel hcc
      by_cases hlt : (k : Int) < len
      · have hlt' : k < len := by omega
        obtain ⟨b, o, u, hp, hd, hin⟩ := HC.out k hlt'
        subst hp
        obtain ⟨c0, c1, c2, c3, c4⟩ := hd.below HBL.out
        have HI : Hid ((kid k).In wr u) := hin.below HBL.out
        have hck : (kid k).count ≤ 1099511627776 := by
          have h1 := sumTo_at (fun i => (kid i).count) k len hlt'
          have h3 := HCE.out
          omega
        clear hd hin
        go_wp2_with fail
        refine (IH.out k wr u HI.out hck).mono ?_
        rintro e w1 ⟨rfl, hb1⟩
        have HB1 : Hid (Below w.heap.size w w1) := HBL.out.trans (hb1.mono HBL.out.size)
        have HX : Hid (w1.cell? ⟨w.heap.size, 4, none⟩ = some (.slice (some ⟨b, o, none⟩) len cap)) := keeps hb1 _ _ hc1
        clear hb1 c0 c1 c2 c3 c4
        go_wp2_with fail
        refine (spec_max c (kid k).deep _).mono ?_
        rintro e w2 ⟨rfl, hw2⟩
        subst hw2
        go_wp2_with fail
        go_roundw
        case rel => exact ⟨k + 1, max c (kid k).deep, by go_num, rfl, by omega, by rw [HS.out]; rfl, HX.out, HB1.out⟩
        case measure => simp [intOf]; omega
      · have hke : k = len := by omega
        subst hke
        have HE : Hid (c + 1 = E) := by
          have h1 := HS.out
          have h2 := HDE.out
          show _ = _
          omega
        have hcb : c ≤ 1099511627776 := by have := HE.out; omega
        go_wp2_with fail
        go_ret
        exact ⟨by rw [← HE.out]; rfl, HBL.out⟩
end Go.Proofs.YtlclfmjpnchmbaaGreat

/- WordOk of both packages at every int: the same answers, the world as it was. No conditions. -/
namespace Go.Proofs.YtlclfmjpnchmbaaGreat
open Go.ChangeShapes Go.WideShapes Go.ChangeAt Go.RowKit

def wokB (n : Int) : Bool := decide (-1073741824 ≤ n ∧ n ≤ 1073741823)

theorem wokB_yes {n : Int} (h0 : -1073741824 ≤ n) (h1 : n ≤ 1073741823) : wokB n = true := by simp [wokB, h0, h1]
theorem wokB_lo {n : Int} (h : ¬ -1073741824 ≤ n) : wokB n = false := by unfold wokB; rw [decide_eq_false_iff_not]; omega
theorem wokB_hi {n : Int} (h : ¬ n ≤ 1073741823) : wokB n = false := by unfold wokB; rw [decide_eq_false_iff_not]; omega
theorem ret_int {k : IntKind} {a b : Int} (h : a = b) : Ending.returned (.int k a) = .returned (.int k b) := by rw [h]
theorem ret_bool {a b : Bool} (h : a = b) : Ending.returned (.bool a) = .returned (.bool b) := by rw [h]

theorem spec_wordOk (n : Int) (w : World) : Calls Tryz.prog 64 #[.int .i64 n] w fun e w' => e = .returned (.bool (wokB n)) ∧ w' = w := by
  by_cases c1 : -1073741824 ≤ n
  · by_cases c2 : n ≤ 1073741823
    · have H : Hid (wokB n = true) := wokB_yes c1 c2
      go_enter Tryz.func64, Tryz.ntmps64
      go_wp2
      go_ret
      exact ⟨ret_bool (by rw [H.out]), rfl⟩
    · have H : Hid (wokB n = false) := wokB_hi c2
      go_enter Tryz.func64, Tryz.ntmps64
      go_wp2
      go_ret
      exact ⟨ret_bool (by rw [H.out]), rfl⟩
  · have H : Hid (wokB n = false) := wokB_lo c1
    go_enter Tryz.func64, Tryz.ntmps64
    go_wp2
    go_ret
    exact ⟨ret_bool (by rw [H.out]), rfl⟩

theorem impl_wordOk (n : Int) (w : World) : Calls Tryz.prog 55 #[.int .i64 n] w fun e w' => e = .returned (.bool (wokB n)) ∧ w' = w := by
  by_cases c1 : -1073741824 ≤ n
  · by_cases c2 : n ≤ 1073741823
    · have H : Hid (wokB n = true) := wokB_yes c1 c2
      go_enter Tryz.func55, Tryz.ntmps55
      go_wp2
      go_ret
      exact ⟨ret_bool (by rw [H.out]), rfl⟩
    · have H : Hid (wokB n = false) := wokB_hi c2
      go_enter Tryz.func55, Tryz.ntmps55
      go_wp2
      go_ret
      exact ⟨ret_bool (by rw [H.out]), rfl⟩
  · have H : Hid (wokB n = false) := wokB_lo c1
    go_enter Tryz.func55, Tryz.ntmps55
    go_wp2
    go_ret
    exact ⟨ret_bool (by rw [H.out]), rfl⟩

end Go.Proofs.YtlclfmjpnchmbaaGreat

/- spec.l2Digit, and small facts on the bytes of a text. No conditions. -/
namespace Go.Proofs.YtlclfmjpnchmbaaGreat
open Go.ChangeShapes Go.WideShapes Go.ChangeAt Go.RowKit

theorem take_snoc (s : ByteArray) (k : Nat) (h : k < s.size) : s.data.toList.take (k + 1) = s.data.toList.take k ++ [s[k]] := by
  rw [List.take_succ_eq_append_getElem (by simpa using h)]; rfl

theorem byte_mem (s : ByteArray) (k : Nat) (h : k < s.size) : s[k] ∈ s.data.toList := by
  have : s[k] = s.data.toList[k]'(by simpa using h) := rfl
  rw [this]; exact List.getElem_mem _

theorem spec_digit (c : UInt8) (w : World) : Calls Tryz.prog 81 #[.int .u8 c.toNat] w fun e w' => e = .returned (.bool (digB c)) ∧ w' = w := by
  have hc : c.toNat < 256 := c.toNat_lt
  by_cases h1 : (48 : Int) ≤ c.toNat
  · by_cases h2 : (c.toNat : Int) ≤ 57
    · have HN : Hid (digB c = true) := show digB c = true by unfold digB; simp only [Bool.and_eq_true, decide_eq_true_eq]; omega
      go_enter Tryz.func81, Tryz.ntmps81
      go_wp2
      go_ret
      exact ⟨by rw [HN.out]; rfl, rfl⟩
    · have HN : Hid (digB c = false) := show digB c = false by unfold digB; rw [Bool.and_eq_false_iff, decide_eq_false_iff_not, decide_eq_false_iff_not]; omega
      go_enter Tryz.func81, Tryz.ntmps81
      go_wp2
      go_ret
      exact ⟨by rw [HN.out]; rfl, rfl⟩
  · have HN : Hid (digB c = false) := show digB c = false by unfold digB; rw [Bool.and_eq_false_iff, decide_eq_false_iff_not, decide_eq_false_iff_not]; omega
    go_enter Tryz.func81, Tryz.ntmps81
    go_wp2
    go_ret
    exact ⟨by rw [HN.out]; rfl, rfl⟩

theorem digB_dig {c : UInt8} (h : digB c = true) : isDig c := by
  unfold digB at h; unfold isDig; simp only [Bool.and_eq_true, decide_eq_true_eq] at h; exact h
theorem digB_no {c : UInt8} (h : digB c = false) : ¬ isDig c := by
  intro hd; unfold isDig at hd; unfold digB at h; rw [Bool.and_eq_false_iff, decide_eq_false_iff_not, decide_eq_false_iff_not] at h; omega

end Go.Proofs.YtlclfmjpnchmbaaGreat
