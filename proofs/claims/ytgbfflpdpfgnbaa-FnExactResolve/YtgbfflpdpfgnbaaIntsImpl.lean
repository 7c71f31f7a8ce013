/- impl's sets of ints, what only reads: has, okFrom, placeFor, within, and slices.Index, slices.Contains. Condition: at most 2^22 of them. -/
import Derived.Test.YtgbfflpdpfgnbaaInts
import Derived.Deep.QuietTactic
import Derived.BigQuiet
import Derived.WalkSpells
import Derived.WalkSmall
namespace Go.Proofs.Ytgbfflpdpfgnbaa
open Go.ChangeShapes Go.WideShapes Go.ChangeAt Go.RowKit

set_option maxHeartbeats 1000000 in
theorem slices_index (xs : List Int) (v : Value) (n : Int) (w : World) (hv : Rd w v xs) (hl : xs.length ≤ 4194304) :
    Calls Try.prog 36 #[v, .int .i64 n] w fun e w' => ∃ r : Int, e = .returned (.int .i64 r) ∧ w' = w ∧ ((r = -1 ∧ hasB xs n = false) ∨ (0 ≤ r ∧ r < xs.length ∧ hasB xs n = true)) := by
  obtain ⟨a, cap, rfl, hc⟩ := hv.shape
  have HC : Hid (∀ j, j < xs.length → ∃ b off, a = some ⟨b, off, none⟩ ∧ w.cell? ⟨b, off + j, none⟩ = some (.int .i64 (xs.getD j 0))) := hc
  clear hc hv
  obtain ⟨m, hm⟩ : ∃ m, m = xs.length := ⟨_, rfl⟩
  rw [← hm] at HC hl ⊢
  have HM : Hid (m = xs.length) := hm
  clear hm
  go_enter Try.func36, Try.ntmps36
  go_wp2
  go_loop [8] (fun i => ∃ k : Nat, k ≤ m ∧ i = .int .i64 k ∧ ∀ j, j < k → (xs.getD j 0 == n) = false) (fun i => m - (intOf i).toNat)
  case atStart => exact ⟨0, by omega, rfl, fun j hj => by omega⟩
  case round =>
    obtain ⟨k, hk, rfl, hno⟩ := hrel
    have HNO : Hid (∀ j, j < k → (xs.getD j 0 == n) = false) := hno
    clear hno
    by_cases hlt : (k : Int) < m
    · obtain ⟨b, off, rfl, hcell⟩ := HC.out k (by omega)
      generalize hx : xs.getD k 0 = x at hcell
      have HX : Hid (xs.getD k 0 = x) := hx
      clear hx
      cases he : (n == x)
      · go_wp2
        go_round
        case rel =>
          refine ⟨k + 1, by omega, by go_num, fun j hj => ?_⟩
          by_cases hjk : j = k
          · subst hjk; rw [HX.out, Bool.beq_comm]; exact he
          · exact HNO.out j (by omega)
        case measure => simp [intOf]; omega
      · go_wp2
        go_ret
        have hh : k < xs.length := by rw [← HM.out]; omega
        exact ⟨_, rfl, rfl, .inr ⟨by omega, by omega, has_yes k hh (by rw [HX.out, Bool.beq_comm]; exact he)⟩⟩
    · go_wp2
      go_ret
      have hke : k = m := by omega
      subst hke
      exact ⟨_, rfl, rfl, .inl ⟨rfl, has_no (fun i hi => HNO.out i (by rw [HM.out]; exact hi))⟩⟩

theorem has_drop {ys : List Int} {p : Nat} {x : Int} (h : hasB (ys.drop p) x = true) : hasB ys x = true := by
  rw [has_iff] at h ⊢
  exact List.mem_of_mem_drop h

theorem Rd.drop {w : World} {b off cap m r : Nat} {xs : List Int} (hm : m = xs.length) (hr : r < m)
    (h : Rd w (.slice (some ⟨b, off, none⟩) m cap) xs) : Rd w (.slice (some ⟨b, off + r, none⟩) (m - r) (cap - r)) (xs.drop r) := by
  subst hm
  rcases h with ⟨h, _⟩ | ⟨b', off', cap', h, hl, hc⟩
  · simp at h
  · simp only [Value.slice.injEq, Option.some.injEq, Addr.mk.injEq, and_true, true_and] at h
    obtain ⟨⟨rfl, rfl⟩, rfl⟩ := h
    refine .inr ⟨b, off + r, cap - r, by rw [List.length_drop], by rw [List.length_drop]; omega, fun j hj => ?_⟩
    rw [List.length_drop] at hj
    rw [Nat.add_assoc, hc (r + j) (by omega)]
    simp [List.getD_eq_getElem?_getD, List.getElem?_drop]

theorem Rd.addr {w : World} {a : Option Addr} {m cap : Nat} {xs : List Int} (h : Rd w (.slice a m cap) xs) (h0 : 0 < m) : ∃ b off, a = some ⟨b, off, none⟩ ∧ m ≤ cap := by
  rcases h with ⟨h, _⟩ | ⟨b', off', cap', h, hl, hc⟩
  · simp only [Value.slice.injEq] at h; omega
  · simp only [Value.slice.injEq] at h
    obtain ⟨rfl, rfl, rfl⟩ := h
    exact ⟨b', off', rfl, hl⟩
theorem Rd.len {w : World} {a : Option Addr} {m cap : Nat} {xs : List Int} (h : Rd w (.slice a m cap) xs) : m = xs.length := by
  rcases h with ⟨h, rfl⟩ | ⟨b', off', cap', h, hl, hc⟩
  · simp only [Value.slice.injEq] at h; simp [h.2.1]
  · simp only [Value.slice.injEq] at h; exact h.2.1

set_option maxHeartbeats 1000000 in
theorem impl_within_m (xs ys : List Int) (v u : Value) (w : World) (hv : Rd w v xs) (hu : Rd w u ys) (hl : xs.length ≤ 4194304) (hl2 : ys.length ≤ 4194304) :
    Calls Try.prog 35 #[v, u] w fun e w' => e = .returned (.bool (withinB xs ys)) ∧ w' = w := by
  obtain ⟨a, cap, rfl, hc⟩ := hv.shape
  have HC : Hid (∀ j, j < xs.length → ∃ b off, a = some ⟨b, off, none⟩ ∧ w.cell? ⟨b, off + j, none⟩ = some (.int .i64 (xs.getD j 0))) := hc
  obtain ⟨a2, cap2, hu2, _⟩ := hu.shape
  subst hu2
  have HU0 : Hid (Rd w (.slice a2 ys.length cap2) ys ∧ ys.length ≤ 4194304) := ⟨hu, hl2⟩
  clear hc hv hu hl2
  generalize ys.length = m2 at HU0 ⊢
  have HU : Hid (Rd w (.slice a2 m2 cap2) ys) := HU0.out.1
  have HL : Hid (ys.length ≤ 4194304) := by show _ ≤ _; rw [← HU.out.len]; exact HU0.out.2
  clear HU0
  obtain ⟨m, hm⟩ : ∃ m, m = xs.length := ⟨_, rfl⟩
  rw [← hm] at HC hl ⊢
  have HM : Hid (m = xs.length) := hm
  clear hm
  go_enter Try.func35, Try.ntmps35
  go_wp2
  go_loop [5, 12] (fun r i => ∃ (k p : Nat) (r0 : Value), r0 = r ∧ k ≤ m ∧ i = .int .i64 k ∧ Rd w r0 (ys.drop p) ∧ ∀ j, j < k → hasB ys (xs.getD j 0) = true) (fun _ i => m - (intOf i).toNat)
  case atStart => exact ⟨0, 0, _, rfl, by omega, rfl, by simpa using HU.out, fun j hj => by omega⟩
  case round =>
    obtain ⟨k, p, r, rfl, hk, rfl, hr, hno⟩ := hrel
    have HNO : Hid (∀ j, j < k → hasB ys (xs.getD j 0) = true) := hno
    have HR : Hid (Rd w r (ys.drop p)) := hr
    clear hno hr
    by_cases hlt : (k : Int) < m
    · obtain ⟨b, off, rfl, hcell⟩ := HC.out k (by omega)
      generalize hx : xs.getD k 0 = x at hcell
      have HX : Hid (xs.getD k 0 = x) := hx
      clear hx
      have HUP : Hid (hasB ys x = true → ∀ j, j < k + 1 → hasB ys (xs.getD j 0) = true) := fun h j hj => by
        by_cases hjk : j = k
        · subst hjk; rw [HX.out]; exact h
        · exact HNO.out j (by omega)
      go_wp2_with fail
      refine (slices_index (ys.drop p) r x w HR.out (by have := HL.out; rw [List.length_drop]; omega)).mono ?_
      rintro e w1 ⟨q, rfl, hw1, hq⟩
      subst hw1
      rcases hq with ⟨rfl, hq⟩ | ⟨q0, q1, hq⟩
      · clear hq
        go_wp2_with fail
        refine (slices_index ys _ x _ HU.out HL.out).mono ?_
        rintro e w1 ⟨q, rfl, hw1, hq⟩
        subst hw1
        rcases hq with ⟨rfl, hq⟩ | ⟨q0, q1, hq⟩
        · go_wp2
          go_ret
          have hh : k < xs.length := by rw [← HM.out]; omega
          rw [within_no k hh (by rw [HX.out]; exact hq)]
          exact ⟨rfl, rfl⟩
        · obtain ⟨c, rfl⟩ : ∃ c : Nat, q = c := ⟨q.toNat, by omega⟩
          rw [← HU.out.len] at q1
          obtain ⟨b2, off2, rfl, hcap2⟩ := HU.out.addr (by omega)
          have HD : Hid (Rd w1 (.slice (some ⟨b2, off2 + c, none⟩) (m2 - c) (cap2 - c)) (ys.drop c)) := Rd.drop HU.out.len (by omega) HU.out
          have HHas : Hid (hasB ys x = true) := hq
          clear hq
          go_wp2
          go_round
          case rel => exact ⟨k + 1, c, _, rfl, by omega, by go_num, HD.out, HUP.out HHas.out⟩
          case measure => simp [intOf]; omega
      · obtain ⟨c, rfl⟩ : ∃ c : Nat, q = c := ⟨q.toNat, by omega⟩
        rcases HR.out with ⟨_, h⟩ | ⟨b2, off2, cap2, rfl, hcap2, hc2⟩
        · rw [h] at q1; simp at q1; omega
        have HD : Hid (Rd w1 (.slice (some ⟨b2, off2 + c, none⟩) ((ys.drop p).length - c) (cap2 - c)) ((ys.drop p).drop c)) := Rd.drop rfl (by omega) (.inr ⟨b2, off2, cap2, rfl, hcap2, hc2⟩)
        have HHas : Hid (hasB ys x = true) := has_drop hq
        clear hc2 hq
        rw [List.drop_drop] at HD
        generalize (ys.drop p).length = m2 at *
        go_wp2
        go_round
        case rel => exact ⟨k + 1, p + c, _, rfl, by omega, by go_num, HD.out, HUP.out HHas.out⟩
        case measure => simp [intOf]; omega
    · go_wp2
      go_ret
      have hke : k = m := by omega
      subst hke
      rw [within_yes (fun i hi => HNO.out i (by rw [HM.out]; exact hi))]
      exact ⟨rfl, rfl⟩

set_option maxHeartbeats 400000 in
theorem impl_within (xs ys : List Int) (v u : Value) (w : World) (hv : Rd w v xs) (hu : Rd w u ys) (hl : xs.length ≤ 4194304) (hl2 : ys.length ≤ 4194304) :
    Calls Try.prog 32 #[v, u] w fun e w' => e = .returned (.bool (withinB xs ys)) ∧ w' = w := by
  go_enter Try.func32, Try.ntmps32
  go_wp2_with fail
  refine (impl_within_m xs ys v u w hv hu hl hl2).mono ?_
  rintro e w1 ⟨rfl, hw1⟩
  subst hw1
  go_wp2
  go_ret
  exact ⟨rfl, rfl⟩

end Go.Proofs.Ytgbfflpdpfgnbaa
