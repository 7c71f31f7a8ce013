/- impl's and the specification's sets of ints: without a number, flipped. Condition: at most 2^22 of them. -/
import Derived.Test.YtoifhaakieigcaaIntsWith
namespace Go.Proofs.Ytoifhaakieigcaa
open Go.ChangeShapes Go.WideShapes Go.ChangeAt Go.RowKit

theorem one_new (w : World) (x : Value) (t : TypeId) : ∀ ad, some (⟨w.heap.size, 0, none⟩ : Addr) = some ad → ∀ j u, [x][j]? = some u → (w.alloc (.cells #[x] t)).cell? (ad.add j) = some u := by
  intro ad h j u hu
  obtain rfl := Option.some.inj h
  match j, hu with
  | 0, hu =>
    simp at hu
    subst hu
    rw [Addr.add_lit, cell_of_row _ _ _ _ _ _ (heap_alloc_new w (.cells #[x] t))]
    rfl

theorem own_push {B : Nat} {w wr w1 : World} {r0 v' : Value} {L : List Int} {x : Int} {t : TypeId} (h : Own wr B r0 L) (hb : Below B w wr) (hB : B ≤ wr.heap.size)
    (h1 : w1.ownsRow B 3 1 v' (L.length + 1) (L.map (Value.int .i64) ++ [.int .i64 x])) (hg : (wr.alloc (.cells #[.int .i64 x] t)).grownBy w1 r0.ownBlock) : Own w1 B v' (L ++ [x]) ∧ Below B w w1 := by
  refine ⟨?_, ?_⟩
  · unfold Own
    rw [List.length_append, List.length_singleton, List.map_append]
    exact h1
  · exact (hb.alloc hB _).grown hg (by simp; omega) (fun k hk => (h.lt k hk).1)

set_option maxRecDepth 100000 in
set_option maxHeartbeats 1000000 in
theorem impl_without_m (xs : List Int) (n : Int) (v : Value) (w : World) (hv : Rd w v xs) (hl : xs.length ≤ 4194304) :
    Calls Try.prog 92 #[v, .int .i64 n] w fun e w' => ∃ u, e = .returned u ∧ Below w.heap.size w w' ∧ Own w' w.heap.size u (withoutL xs n) := by
  obtain ⟨a, cap, rfl, hc⟩ := hv.shape
  have HC : Hid (∀ j, j < xs.length → ∃ b off, a = some ⟨b, off, none⟩ ∧ w.cell? ⟨b, off + j, none⟩ = some (.int .i64 (xs.getD j 0))) := hc
  clear hc hv
  obtain ⟨m, hm⟩ : ∃ m, m = xs.length := ⟨_, rfl⟩
  rw [← hm] at HC hl ⊢
  have HM : Hid (m = xs.length) := hm
  clear hm
  obtain ⟨i0, hi, hz0, hz1, hz2⟩ := info_parts int_info
  obtain ⟨w1, hrun, hown, hg⟩ := run_make_own (P := Try.prog) w w.heap.size 58 3 i0 _ 1 Try.underlying58 hi hz0 hz1 .i64 .i64 m (by rw [hz2]; omega) (by unfold maxLen; omega) (Nat.le_refl _)
  have HW : Hid (Own w1 w.heap.size (.slice (some ⟨w.heap.size, 0, none⟩) 0 m) [] ∧ Below w.heap.size w w1) := ⟨hown, ⟨hg.os, hg.tape, hg.output, hg.size, fun k hk => hg.block k hk (by simp)⟩⟩
  clear hown hg
  go_enter Try.func92, Try.ntmps92
  go_wp2_with fail
  clear hrun
  go_loopw [5, 13] (fun r i wr => ∃ (k : Nat) (r0 : Value), r0 = r ∧ i = .int .i64 k ∧ k ≤ m ∧ Own wr w.heap.size r0 (withoutL (xs.take k) n) ∧ Below w.heap.size w wr) (fun _ i _ => m - (intOf i).toNat)
  case atStart => exact ⟨0, _, rfl, rfl, by omega, by simpa [withoutL] using HW.out.1, HW.out.2⟩
  case round =>
    obtain ⟨k, r0, rfl, rfl, hk, hown, hbel⟩ := hrel
    have HOW : Hid (Own wr w.heap.size r0 (withoutL (xs.take k) n)) := hown
    have HB : Hid (Below w.heap.size w wr) := hbel
    clear hown hbel HW
    by_cases hlt : (k : Int) < m
    · have HK : Hid (k < xs.length) := by show k < _; rw [← HM.out]; omega
      have hlen : (withoutL (xs.take k) n).length ≤ m := by
        have := without_len (xs.take k) n
        have h2 := HK.out
        rw [List.length_take] at this
        omega
      obtain ⟨b, off, rfl, hcell⟩ := HC.out k (by omega)
      have HS := without_succ xs n k HK.out
      generalize hx : xs.getD k 0 = x at hcell HS
      have hcell1 := cell_later HB.out hcell
      generalize withoutL (xs.take k) n = L at *
      have HSS : Hid (withoutL (xs.take (k + 1)) n = L ++ if (x != n) = true then [x] else []) := HS
      clear hcell hx HS
      cases he : (x != n)
      · go_wp2
        go_roundw
        case rel =>
          have h := HSS.out
          rw [if_neg (by simp [he]), List.append_nil] at h
          exact ⟨k + 1, _, rfl, by go_num, by omega, by rw [h]; exact HOW.out, HB.out⟩
        case measure => simp [intOf]; omega
      · have HSZ : Hid (w.heap.size ≤ wr.heap.size) := HB.out.size
        go_wp2_with (at_builtin; refine wpList_append_any _ rfl (.tmp 20) (.tmp 22) 58 rfl w.heap.size 3 i0 (.int .i64 0) 1 8 Try.underlying58 hi hz0 hz1 hz2 rfl (by decide) r0 L.length (L.map (Value.int .i64)) rfl (World.ownsRow.alloc HOW.out _) (some ⟨wr.heap.size, 0, none⟩) 1 1 [.int .i64 x] rfl rfl (by simp) (one_new wr _ _) (by simp [Value.oneCell']) (by unfold maxLen; omega) (by omega) (by have := HSZ.out; simp; omega) ?_; intro v' w2 hown2 hg2)
        have R := own_push HOW.out HB.out HSZ.out hown2.out hg2.out
        have HR : Hid (Own w2 w.heap.size v' (L ++ [x]) ∧ Below w.heap.size w w2) := R
        clear R hown2 hg2
        go_roundw
        case rel =>
          have h := HSS.out
          rw [if_pos he] at h
          exact ⟨k + 1, _, rfl, by go_num, by omega, by rw [h]; exact HR.out.1, HR.out.2⟩
        case measure => simp [intOf]; omega
    · go_wp2
      go_ret
      have hke : k = m := by omega
      have h := HOW.out
      rw [hke, HM.out, List.take_length] at h
      exact ⟨_, rfl, HB.out, h⟩

set_option maxRecDepth 100000 in
set_option maxHeartbeats 1000000 in
theorem impl_flip_m (xs : List Int) (n : Int) (v : Value) (w : World) (hv : Rd w v xs) (hl : xs.length ≤ 4194304) :
    Calls Try.prog 81 #[v, .int .i64 n] w fun e w' => ∃ u, e = .returned u ∧ Below w.heap.size w w' ∧ Own w' w.heap.size u (flipL xs n) := by
  have HH := impl_has xs v n w hv hl
  cases hh : hasB xs n with
  | true =>
    rw [hh] at HH
    have HF : Hid (flipL xs n = withoutL xs n) := flip_yes hh
    clear hh
    go_enter Try.func81, Try.ntmps81
    go_wp2_with fail
    refine HH.mono ?_
    rintro e w1 ⟨rfl, hw1⟩
    subst w1
    go_wp2_with fail
    refine (impl_without_m xs n v w hv hl).mono ?_
    rintro e w2 ⟨u, rfl, hb, ho⟩
    have HB : Hid (Below w.heap.size w w2 ∧ Own w2 w.heap.size u (withoutL xs n)) := ⟨hb, ho⟩
    clear hb ho
    go_wp2
    go_ret
    exact ⟨_, rfl, HB.out.1, by rw [HF.out]; exact HB.out.2⟩
  | false =>
    rw [hh] at HH
    have HF : Hid (flipL xs n = withL xs n) := flip_no hh
    clear hh
    go_enter Try.func81, Try.ntmps81
    go_wp2_with fail
    refine HH.mono ?_
    rintro e w1 ⟨rfl, hw1⟩
    subst w1
    go_wp2_with fail
    refine (impl_with_m xs n v w hv hl).mono ?_
    rintro e w2 ⟨u, rfl, hb, ho⟩
    have HB : Hid (Below w.heap.size w w2 ∧ Own w2 w.heap.size u (withL xs n)) := ⟨hb, ho⟩
    clear hb ho
    go_wp2
    go_ret
    exact ⟨_, rfl, HB.out.1, by rw [HF.out]; exact HB.out.2⟩

set_option maxHeartbeats 1000000 in
theorem impl_flip (xs : List Int) (n : Int) (v : Value) (w : World) (hv : Rd w v xs) (hl : xs.length ≤ 4194304) :
    Calls Try.prog 61 #[v, .int .i64 n] w fun e w' => ∃ u, e = .returned u ∧ Below w.heap.size w w' ∧ Own w' w.heap.size u (flipL xs n) := by
  go_enter Try.func61, Try.ntmps61
  go_wp2_with fail
  refine (impl_flip_m xs n v w hv hl).mono ?_
  rintro e w2 ⟨u, rfl, hb, ho⟩
  have HB : Hid (Below w.heap.size w w2 ∧ Own w2 w.heap.size u (flipL xs n)) := ⟨hb, ho⟩
  clear hb ho
  go_wp2
  go_ret
  exact ⟨_, rfl, HB.out⟩
end Go.Proofs.Ytoifhaakieigcaa
