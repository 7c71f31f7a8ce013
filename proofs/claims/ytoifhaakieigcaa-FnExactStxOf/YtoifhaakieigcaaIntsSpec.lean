/- The specification's sets of ints: with a number, without it, flipped. Condition: at most 2^22 of them. -/
import Derived.Test.YtoifhaakieigcaaIntsWithout
import Derived.Test.YtoifhaakieigcaaIntsRead
namespace Go.Proofs.Ytoifhaakieigcaa
open Go.ChangeShapes Go.WideShapes Go.ChangeAt Go.RowKit

theorem own_lit (w : World) (B : Nat) (hB : B ≤ w.heap.size) : Own (w.alloc (.cells #[] 3)) B (.slice (some ⟨w.heap.size, 0, none⟩) 0 0) [] :=
  World.ownsRow_lit w #[] 0 hB (Nat.zero_le _) rfl

theorem own_join {B : Nat} {w wr w1 : World} {r0 v' : Value} {L M : List Int} (h : Own wr B r0 L) (hb : Below B w wr) (hB : B ≤ wr.heap.size)
    (h1 : w1.ownsRow B 3 1 v' (L.length + M.length) (L.map (Value.int .i64) ++ M.map (Value.int .i64))) (hg : wr.grownBy w1 r0.ownBlock) : Own w1 B v' (L ++ M) ∧ Below B w w1 := by
  refine ⟨?_, ?_⟩
  · unfold Own
    rw [List.length_append, List.map_append]
    exact h1
  · exact hb.grown hg hB (fun k hk => (h.lt k hk).1)

set_option maxRecDepth 100000 in
set_option maxHeartbeats 1000000 in
theorem spec_without (xs : List Int) (n : Int) (v : Value) (w : World) (hv : Rd w v xs) (hl : xs.length ≤ 4194304) :
    Calls Try.prog 77 #[v, .int .i64 n] w fun e w' => ∃ u, e = .returned u ∧ Below w.heap.size w w' ∧ Own w' w.heap.size u (withoutL xs n) := by
  obtain ⟨a, cap, rfl, hc⟩ := hv.shape
  have HC : Hid (∀ j, j < xs.length → ∃ b off, a = some ⟨b, off, none⟩ ∧ w.cell? ⟨b, off + j, none⟩ = some (.int .i64 (xs.getD j 0))) := hc
  clear hc hv
  obtain ⟨m, hm⟩ : ∃ m, m = xs.length := ⟨_, rfl⟩
  rw [← hm] at HC hl ⊢
  have HM : Hid (m = xs.length) := hm
  clear hm
  obtain ⟨i0, hi, hz0, hz1, hz2⟩ := info_parts int_info
  go_enter Try.func77, Try.ntmps77
  go_wp2_with fail
  go_loopw [5, 6] (fun r i wr => ∃ (k : Nat) (r0 : Value), r0 = r ∧ i = .int .i64 k ∧ k ≤ m ∧ Own wr w.heap.size r0 (withoutL (xs.take k) n) ∧ Below w.heap.size w wr) (fun _ i _ => m - (intOf i).toNat)
  case atStart => exact ⟨0, _, rfl, rfl, by omega, by simpa [withoutL] using own_lit w w.heap.size (Nat.le_refl _), new_below w _⟩
  case round =>
    obtain ⟨k, r0, rfl, rfl, hk, hown, hbel⟩ := hrel
    have HOW : Hid (Own wr w.heap.size r0 (withoutL (xs.take k) n)) := hown
    have HB : Hid (Below w.heap.size w wr) := hbel
    clear hown hbel
    by_cases hlt : (k : Int) < m
    · have HK : Hid (k < xs.length) := by show k < _; rw [← HM.out]; omega
      have hlen : (withoutL (xs.take k) n).length ≤ m := by
        have := without_len (xs.take k) n
        have h2 := HK.out
        rw [List.length_take] at this
        omega
      obtain ⟨b, off, rfl, hcell⟩ := HC.out k (by omega)
      have HS := without_succ xs n k HK.out
      generalize hx : xs.getD k 0 = x at hcell HS
      have hcell1 := cell_later HB.out hcell
      generalize withoutL (xs.take k) n = L at *
      have HSS : Hid (withoutL (xs.take (k + 1)) n = L ++ if (x != n) = true then [x] else []) := HS
      clear hcell hx HS
      cases he : (x != n)
      · go_wp2
        go_roundw
        case rel =>
          have h := HSS.out
          rw [if_neg (by simp [he]), List.append_nil] at h
          exact ⟨k + 1, _, rfl, by go_num, by omega, by rw [h]; exact HOW.out, HB.out⟩
        case measure => simp [intOf]; omega
      · have HSZ : Hid (w.heap.size ≤ wr.heap.size) := HB.out.size
        go_wp2_with (at_builtin; refine wpList_append_any _ rfl (.tmp 20) (.tmp 25) 25 rfl w.heap.size 3 i0 (.int .i64 0) 1 8 Try.underlying25 hi hz0 hz1 hz2 rfl (by decide) r0 L.length (L.map (Value.int .i64)) rfl (World.ownsRow.alloc HOW.out _) (some ⟨wr.heap.size, 0, none⟩) 1 1 [.int .i64 x] rfl rfl (by simp) (one_new wr _ _) (by simp [Value.oneCell']) (by unfold maxLen; omega) (by omega) (by have := HSZ.out; simp; omega) ?_; intro v' w2 hown2 hg2)
        have R := own_push HOW.out HB.out HSZ.out hown2.out hg2.out
        have HR : Hid (Own w2 w.heap.size v' (L ++ [x]) ∧ Below w.heap.size w w2) := R
        clear R hown2 hg2
        go_roundw
        case rel =>
          have h := HSS.out
          rw [if_pos he] at h
          exact ⟨k + 1, _, rfl, by go_num, by omega, by rw [h]; exact HR.out.1, HR.out.2⟩
        case measure => simp [intOf]; omega
    · go_wp2
      go_ret
      have hke : k = m := by omega
      have h := HOW.out
      rw [hke, HM.out, List.take_length] at h
      exact ⟨_, rfl, HB.out, h⟩

theorem Rd.src {w : World} {a : Option Addr} {m cap : Nat} {xs : List Int} (h : Rd w (.slice a m cap) xs) : (a = none → m = 0 ∧ cap = 0) ∧ ∀ ad, a = some ad → ∀ j u, (xs.map (Value.int .i64))[j]? = some u → w.cell? (ad.add j) = some u := by
  rcases h with ⟨h, rfl⟩ | ⟨b, off, cap', h, _, hc⟩
  · simp only [Value.slice.injEq] at h
    obtain ⟨rfl, rfl, rfl⟩ := h
    exact ⟨fun _ => ⟨rfl, rfl⟩, fun ad h => by cases h⟩
  · simp only [Value.slice.injEq] at h
    obtain ⟨rfl, rfl, rfl⟩ := h
    refine ⟨fun h => (by cases h), fun ad h j u hu => ?_⟩
    obtain rfl := Option.some.inj h
    have hj : j < xs.length := by
      have := (List.getElem?_eq_some_iff.1 hu).1
      simpa using this
    rw [Addr.add_lit, hc j hj, getD_int xs j hj]
    simpa [List.getElem?_eq_getElem hj] using hu

set_option maxRecDepth 100000 in
set_option maxHeartbeats 1000000 in
theorem spec_with_yes (xs : List Int) (n : Int) (v : Value) (w : World) (hv : Rd w v xs) (hl : xs.length ≤ 4194304) (hh : hasB xs n = true) :
    Calls Try.prog 62 #[v, .int .i64 n] w fun e w' => ∃ u, e = .returned u ∧ Below w.heap.size w w' ∧ Own w' w.heap.size u (withL xs n) := by
  have HH := spec_has xs v n w hv hl
  rw [hh] at HH
  obtain ⟨a, cap, rfl, -⟩ := hv.shape
  have hs := (hv.below (new_below w (.cells #[] 3))).src
  have HS : Hid ((a = none → xs.length = 0 ∧ cap = 0) ∧ ∀ ad, a = some ad → ∀ j u, (xs.map (Value.int .i64))[j]? = some u → (w.alloc (.cells #[] 3)).cell? (ad.add j) = some u) := hs
  have HW : Hid (withL xs n = xs) := with_yes hh
  clear hs hh hv
  obtain ⟨i0, hi, hz0, hz1, hz2⟩ := info_parts int_info
  go_enter Try.func62, Try.ntmps62
  go_wp2_with fail
  refine HH.mono ?_
  rintro e w1 ⟨rfl, hw1⟩
  subst w1
  go_wp2_with (at_builtin; refine wpList_append_any _ rfl (.tmp 10) (.tmp 11) 25 rfl w.heap.size 3 i0 (.int .i64 0) 1 8 Try.underlying25 hi hz0 hz1 hz2 rfl (by decide) (.slice (some ⟨w.heap.size, 0, none⟩) 0 0) 0 [] rfl (own_lit w w.heap.size (Nat.le_refl _)) a xs.length cap (xs.map (Value.int .i64)) rfl (by simp) HS.out.1 HS.out.2 (ints_cells xs) (by unfold maxLen; omega) (by omega) (by simp) ?_; intro v' w2 hown2 hg2)
  have R := own_join (M := xs) (own_lit w w.heap.size (Nat.le_refl _)) (new_below w _) (by simp) hown2.out hg2.out
  have HR : Hid (Own w2 w.heap.size v' ([] ++ xs) ∧ Below w.heap.size w w2) := R
  clear R hown2 hg2
  go_ret
  exact ⟨_, rfl, HR.out.2, by rw [HW.out]; exact HR.out.1⟩

set_option maxRecDepth 100000 in
set_option maxHeartbeats 1000000 in
theorem spec_with_nil (n : Int) (w : World) :
    Calls Try.prog 62 #[.slice none 0 0, .int .i64 n] w fun e w' => ∃ u, e = .returned u ∧ Below w.heap.size w w' ∧ Own w' w.heap.size u [n] := by
  have HH := spec_has [] (.slice none 0 0) n w (.inl ⟨rfl, rfl⟩) (by simp)
  rw [show hasB [] n = false from rfl] at HH
  obtain ⟨i0, hi, hz0, hz1, hz2⟩ := info_parts int_info
  have HO1 : Hid (Own (w.alloc (.cells #[] 3)) w.heap.size (.slice (some ⟨w.heap.size, 0, none⟩) 0 0) []) := own_lit w w.heap.size (Nat.le_refl _)
  go_enter Try.func62, Try.ntmps62
  go_wp2_with fail
  refine HH.mono ?_
  rintro e w1 ⟨rfl, hw1⟩
  subst w1
  go_wp2_with fail
  go_loop [5] (fun i => i = .int .i64 0) (fun _ => 0)
  case atStart => rfl
  case round =>
    obtain rfl := hrel
    go_wp2_with (first | (at_builtin; refine wpList_append_any _ rfl (.tmp 27) (.tmp 30) 25 rfl w.heap.size 3 i0 (.int .i64 0) 1 8 Try.underlying25 hi hz0 hz1 hz2 rfl (by decide) (.slice (some ⟨w.heap.size, 0, none⟩) 0 0) 0 [] rfl HO1.out none 0 0 [] rfl rfl (by simp) (fun ad h => by cases h) (by simp) (by unfold maxLen; omega) (by omega) (by simp) ?_; intro v2 w2 hown2 hg2; have R := own_join (M := []) HO1.out (new_below w _) (by simp) hown2.out hg2.out; have HR : Hid (Own w2 w.heap.size v2 [] ∧ Below w.heap.size w w2) := R; clear R hown2 hg2) | (at_builtin; refine wpList_append_any _ rfl (.tmp 32) (.tmp 34) 25 rfl w.heap.size 3 i0 (.int .i64 0) 1 8 Try.underlying25 hi hz0 hz1 hz2 rfl (by decide) v2 0 [] rfl (World.ownsRow.alloc HR.out.1 _) (some ⟨w2.heap.size, 0, none⟩) 1 1 [.int .i64 n] rfl rfl (by simp) (one_new w2 _ _) (by simp [Value.oneCell']) (by unfold maxLen; omega) (by omega) (by have := HR.out.2.size; simp; omega) ?_; intro v3 w3 hown3 hg3; have R3 := own_push HR.out.1 HR.out.2 HR.out.2.size hown3.out hg3.out; have HR3 : Hid (Own w3 w.heap.size v3 [n] ∧ Below w.heap.size w w3) := R3; clear R3 hown3 hg3) | (at_builtin; refine wpList_append_any _ rfl (.tmp 36) (.tmp 39) 25 rfl w.heap.size 3 i0 (.int .i64 0) 1 8 Try.underlying25 hi hz0 hz1 hz2 rfl (by decide) v3 1 [.int .i64 n] rfl HR3.out.1 none 0 0 [] rfl rfl (by simp) (fun ad h => by cases h) (by simp) (by unfold maxLen; omega) (by omega) HR3.out.2.size ?_; intro v4 w4 hown4 hg4; have R4 := own_join (M := []) HR3.out.1 HR3.out.2 HR3.out.2.size hown4.out hg4.out; have HR4 : Hid (Own w4 w.heap.size v4 [n] ∧ Below w.heap.size w w4) := R4; clear R4 hown4 hg4))
    go_ret
    exact ⟨_, rfl, HR4.out.2, HR4.out.1⟩

theorem drop_src {w : World} {b off cap p : Nat} {xs : List Int} (hl : xs.length ≤ cap) (hc : ∀ j, j < xs.length → w.cell? ⟨b, off + j, none⟩ = some (.int .i64 (xs.getD j 0))) {ao : Option Addr} (hao : ¬ cap = p → ao = some ⟨b, off + p, none⟩) :
    ∀ ad, ao = some ad → ∀ j u, ((xs.drop p).map (Value.int .i64))[j]? = some u → w.cell? (ad.add j) = some u :=
  cells_from rfl hl hc hao

set_option maxRecDepth 100000 in
set_option maxHeartbeats 2000000 in
theorem spec_with_no (xs : List Int) (n : Int) (b off cap : Nat) (w : World) (hv : Rd w (.slice (some ⟨b, off, none⟩) xs.length cap) xs) (hl : xs.length ≤ 4194304) (hh : hasB xs n = false) :
    Calls Try.prog 62 #[.slice (some ⟨b, off, none⟩) xs.length cap, .int .i64 n] w fun e w' => ∃ u, e = .returned u ∧ Below w.heap.size w w' ∧ Own w' w.heap.size u (withL xs n) := by
  have HH := spec_has xs _ n w hv hl
  rw [hh] at HH
  have hcap : xs.length ≤ cap := by
    rcases hv with ⟨h, _⟩ | ⟨b', off', cap', h, hl, _⟩
    · simp at h
    · simp only [Value.slice.injEq, true_and] at h; rw [h.2]; exact hl
  have hc : ∀ j, j < xs.length → w.cell? ⟨b, off + j, none⟩ = some (.int .i64 (xs.getD j 0)) := by
    rcases hv with ⟨h, _⟩ | ⟨b', off', cap', h, _, hc⟩
    · simp at h
    · simp only [Value.slice.injEq, Option.some.injEq, Addr.mk.injEq, and_true, true_and] at h
      obtain ⟨⟨rfl, rfl⟩, _⟩ := h
      exact hc
  have HC : Hid (∀ j, j < xs.length → w.cell? ⟨b, off + j, none⟩ = some (.int .i64 (xs.getD j 0))) := hc
  have HW : Hid (withL xs n = xs.take (placeL xs n) ++ n :: xs.drop (placeL xs n)) := with_no hh
  clear hc hv hh
  obtain ⟨m, hm⟩ : ∃ m, m = xs.length := ⟨_, rfl⟩
  rw [← hm] at hl hcap HH ⊢
  have HM : Hid (m = xs.length) := hm
  clear hm
  obtain ⟨i0, hi, hz0, hz1, hz2⟩ := info_parts int_info
  go_enter Try.func62, Try.ntmps62
  go_wp2_with fail
  refine HH.mono ?_
  rintro e w1 ⟨rfl, hw1⟩
  subst w1
  go_wp2_with fail
  go_loop [5] (fun i => ∃ k : Nat, k ≤ m ∧ i = .int .i64 k ∧ ∀ j, j < k → xs.getD j 0 < n) (fun i => m - (intOf i).toNat)
  case atStart => exact ⟨0, by omega, rfl, fun j hj => by omega⟩
  case round =>
    obtain ⟨k, hk, rfl, hno⟩ := hrel
    have HNO : Hid (∀ j, j < k → xs.getD j 0 < n) := hno
    clear hno
    by_cases hgo : ∃ h : k < m, xs.getD k 0 < n
    · obtain ⟨hlt, hx⟩ := hgo
      have hcell := HC.out k (by rw [← HM.out]; exact hlt)
      have HX : Hid (xs.getD k 0 < n) := hx
      generalize xs.getD k 0 = x at hcell hx
      have d1 : decide (k < m) = true := by simpa using hlt
      go_wp2
      go_round
      case rel =>
        refine ⟨k + 1, by omega, by go_num, fun j hj => ?_⟩
        by_cases hjk : j = k
        · subst hjk; exact HX.out
        · exact HNO.out j (by omega)
      case measure => simp [intOf]; omega
    · have HP : Hid (placeL xs n = k) := place_is xs n k (by rw [← HM.out]; exact hk) HNO.out (fun h hx => hgo ⟨by rw [HM.out]; exact h, hx⟩)
      have HO1 : Hid (Own (w.alloc (.cells #[] 3)) w.heap.size (.slice (some ⟨w.heap.size, 0, none⟩) 0 0) []) := own_lit w w.heap.size (Nat.le_refl _)
      have HCB : Hid (∀ w2 : World, Below w.heap.size w w2 → ∀ j, j < xs.length → w2.cell? ⟨b, off + j, none⟩ = some (.int .i64 (xs.getD j 0))) := fun w2 hb j hj => cell_later hb (HC.out j hj)
      have HS1 : Hid (∀ w2 : World, Below w.heap.size w w2 → ∀ ad, some (⟨b, off, none⟩ : Addr) = some ad → ∀ j u, ((xs.take k).map (Value.int .i64))[j]? = some u → w2.cell? (ad.add j) = some u) := by
        intro w2 hb ad h j u hu
        obtain rfl := Option.some.inj h
        have hj : j < k ∧ j < xs.length := by
          have := (List.getElem?_eq_some_iff.1 hu).1
          simpa [Nat.lt_min] using this
        rw [Addr.add_lit, HCB.out w2 hb j hj.2, getD_int xs j hj.2]
        simpa [List.getElem?_take, hj.1, List.getElem?_eq_getElem hj.2] using hu
      have HL : Hid ((xs.take k).length = k ∧ (xs.drop k).length = m - k) := by
        have := HM.out
        exact ⟨by rw [List.length_take]; omega, by rw [List.length_drop]; omega⟩
      have HT : Hid (withL xs n = (xs.take k ++ [n]) ++ xs.drop k) := by show _ = _; rw [HW.out, HP.out]; simp
      have HS2 : Hid (∀ w2 : World, Below w.heap.size w w2 → ∀ ao : Option Addr, (¬ cap = k → ao = some ⟨b, off + k, none⟩) → ∀ ad, ao = some ad → ∀ j u, ((xs.drop k).map (Value.int .i64))[j]? = some u → w2.cell? (ad.add j) = some u) := fun w2 hb ao hao => drop_src (by rw [← HM.out]; exact hcap) (HCB.out w2 hb) hao
      obtain ⟨T, hT⟩ : ∃ T, T = xs.take k := ⟨_, rfl⟩
      obtain ⟨D, hD⟩ : ∃ D, D = xs.drop k := ⟨_, rfl⟩
      rw [← hT] at HS1 HL HT
      rw [← hD] at HS2 HL HT
      clear hT hD HCB HW
      have d0 : ∀ x : Int, xs.getD k 0 = x → k < m → decide (x < n) = false := by
        intro x hx hkm
        rw [decide_eq_false_iff_not]
        intro h
        exact hgo ⟨hkm, by rw [hx]; exact h⟩
      by_cases hkm : k < m
      · have hcell := HC.out k (by rw [← HM.out]; exact hkm)
        generalize hx : xs.getD k 0 = x at hcell
        have d2 := d0 x hx hkm
        have d1 : decide (k < m) = true := by simpa using hkm
        clear d0 hx hgo
        go_wp2_with (first | (at_builtin; (refine wpList_append_any _ rfl (.tmp 27) (.tmp 30) 25 rfl w.heap.size 3 i0 (.int .i64 0) 1 8 Try.underlying25 hi hz0 hz1 hz2 rfl (by decide) (.slice (some ⟨w.heap.size, 0, none⟩) 0 0) 0 [] rfl HO1.out (some ⟨b, off, none⟩) k cap (T.map (Value.int .i64)) rfl (by rw [List.length_map, HL.out.1, Nat.mul_one]) (fun h => by cases h) (HS1.out _ (new_below w _)) (ints_cells T) (by unfold maxLen; omega) (by omega) (by simp) ?_); intro v2 w2 hown2 hg2; rw [← HL.out.1] at hown2; have R := own_join (M := T) HO1.out (new_below w _) (by simp) hown2.out hg2.out; have HR : Hid (Own w2 w.heap.size v2 T ∧ Below w.heap.size w w2) := R; clear R hown2 hg2) | (at_builtin; (refine wpList_append_any _ rfl (.tmp 32) (.tmp 34) 25 rfl w.heap.size 3 i0 (.int .i64 0) 1 8 Try.underlying25 hi hz0 hz1 hz2 rfl (by decide) v2 T.length (T.map (Value.int .i64)) rfl (World.ownsRow.alloc HR.out.1 _) (some ⟨w2.heap.size, 0, none⟩) 1 1 [.int .i64 n] rfl rfl (by simp) (one_new w2 _ _) (by simp [Value.oneCell']) (by rw [HL.out.1]; unfold maxLen; omega) (by rw [HL.out.1]; omega) (by have := HR.out.2.size; simp; omega) ?_); intro v3 w3 hown3 hg3; have R3 := own_push HR.out.1 HR.out.2 HR.out.2.size hown3.out hg3.out; have HR3 : Hid (Own w3 w.heap.size v3 (T ++ [n]) ∧ Below w.heap.size w w3) := R3; clear R3 hown3 hg3) | (at_builtin; (refine wpList_append_any _ rfl (.tmp 36) (.tmp 39) 25 rfl w.heap.size 3 i0 (.int .i64 0) 1 8 Try.underlying25 hi hz0 hz1 hz2 rfl (by decide) v3 (T ++ [n]).length ((T ++ [n]).map (Value.int .i64)) rfl HR3.out.1 _ (m - k) (cap - k) (D.map (Value.int .i64)) rfl (by rw [List.length_map, HL.out.2, Nat.mul_one]) (by intro h; first | cases h | (split at h <;> cases h)) (HS2.out _ HR3.out.2 _ (by intro h; first | rfl | simp [h])) (ints_cells D) (by rw [List.length_append, HL.out.1]; unfold maxLen; simp; omega) (by rw [List.length_append, HL.out.1]; simp; omega) HR3.out.2.size ?_); intro v4 w4 hown4 hg4; rw [← HL.out.2] at hown4; have R4 := own_join (M := D) HR3.out.1 HR3.out.2 HR3.out.2.size hown4.out hg4.out; have HR4 : Hid (Own w4 w.heap.size v4 ((T ++ [n]) ++ D) ∧ Below w.heap.size w w4) := R4; clear R4 hown4 hg4))
        go_ret
        exact ⟨_, rfl, HR4.out.2, by rw [HT.out]; exact HR4.out.1⟩
      · have hke : k = m := by omega
        subst hke
        have d1 : decide (k < k) = false := by simp
        have HD : Hid (D.length = k - k) := HL.out.2
        clear d0 hgo
        go_wp2_with (first | (at_builtin; (refine wpList_append_any _ rfl (.tmp 27) (.tmp 30) 25 rfl w.heap.size 3 i0 (.int .i64 0) 1 8 Try.underlying25 hi hz0 hz1 hz2 rfl (by decide) (.slice (some ⟨w.heap.size, 0, none⟩) 0 0) 0 [] rfl HO1.out (some ⟨b, off, none⟩) k cap (T.map (Value.int .i64)) rfl (by rw [List.length_map, HL.out.1, Nat.mul_one]) (fun h => by cases h) (HS1.out _ (new_below w _)) (ints_cells T) (by unfold maxLen; omega) (by omega) (by simp) ?_); intro v2 w2 hown2 hg2; rw [← HL.out.1] at hown2; have R := own_join (M := T) HO1.out (new_below w _) (by simp) hown2.out hg2.out; have HR : Hid (Own w2 w.heap.size v2 T ∧ Below w.heap.size w w2) := R; clear R hown2 hg2) | (at_builtin; (refine wpList_append_any _ rfl (.tmp 32) (.tmp 34) 25 rfl w.heap.size 3 i0 (.int .i64 0) 1 8 Try.underlying25 hi hz0 hz1 hz2 rfl (by decide) v2 T.length (T.map (Value.int .i64)) rfl (World.ownsRow.alloc HR.out.1 _) (some ⟨w2.heap.size, 0, none⟩) 1 1 [.int .i64 n] rfl rfl (by simp) (one_new w2 _ _) (by simp [Value.oneCell']) (by rw [HL.out.1]; unfold maxLen; omega) (by rw [HL.out.1]; omega) (by have := HR.out.2.size; simp; omega) ?_); intro v3 w3 hown3 hg3; have R3 := own_push HR.out.1 HR.out.2 HR.out.2.size hown3.out hg3.out; have HR3 : Hid (Own w3 w.heap.size v3 (T ++ [n]) ∧ Below w.heap.size w w3) := R3; clear R3 hown3 hg3) | (at_builtin; (refine wpList_append_any _ rfl (.tmp 36) (.tmp 39) 25 rfl w.heap.size 3 i0 (.int .i64 0) 1 8 Try.underlying25 hi hz0 hz1 hz2 rfl (by decide) v3 (T ++ [n]).length ((T ++ [n]).map (Value.int .i64)) rfl HR3.out.1 _ 0 (cap - k) (D.map (Value.int .i64)) rfl (by rw [List.length_map, HL.out.2]; simp) (by intro h; first | cases h | (split at h <;> cases h)) (HS2.out _ HR3.out.2 _ (by intro h; first | rfl | simp [h])) (ints_cells D) (by rw [List.length_append, HL.out.1]; unfold maxLen; simp; omega) (by rw [List.length_append, HL.out.1]; simp; omega) HR3.out.2.size ?_); intro v4 w4 hown4 hg4; rw [show 0 = D.length from by rw [HD.out]; omega] at hown4; have R4 := own_join (M := D) HR3.out.1 HR3.out.2 HR3.out.2.size hown4.out hg4.out; have HR4 : Hid (Own w4 w.heap.size v4 ((T ++ [n]) ++ D) ∧ Below w.heap.size w w4) := R4; clear R4 hown4 hg4))
        all_goals
          go_ret
          exact ⟨_, rfl, HR4.out.2, by rw [HT.out]; exact HR4.out.1⟩

theorem spec_with (xs : List Int) (n : Int) (v : Value) (w : World) (hv : Rd w v xs) (hl : xs.length ≤ 4194304) :
    Calls Try.prog 62 #[v, .int .i64 n] w fun e w' => ∃ u, e = .returned u ∧ Below w.heap.size w w' ∧ Own w' w.heap.size u (withL xs n) := by
  cases hh : hasB xs n with
  | true => exact spec_with_yes xs n v w hv hl hh
  | false =>
    have hv' := hv
    rcases hv with ⟨rfl, rfl⟩ | ⟨b, off, cap, rfl, _⟩
    · exact spec_with_nil n w
    · exact spec_with_no xs n b off cap w hv' hl hh

set_option maxRecDepth 100000 in
set_option maxHeartbeats 1000000 in
theorem spec_flip (xs : List Int) (n : Int) (v : Value) (w : World) (hv : Rd w v xs) (hl : xs.length ≤ 4194304) :
    Calls Try.prog 58 #[v, .int .i64 n] w fun e w' => ∃ u, e = .returned u ∧ Below w.heap.size w w' ∧ Own w' w.heap.size u (flipL xs n) := by
  have HH := spec_has xs v n w hv hl
  cases hh : hasB xs n with
  | true =>
    rw [hh] at HH
    have HF : Hid (flipL xs n = withoutL xs n) := flip_yes hh
    clear hh
    go_enter Try.func58, Try.ntmps58
    go_wp2_with fail
    refine HH.mono ?_
    rintro e w1 ⟨rfl, hw1⟩
    subst w1
    go_wp2_with fail
    refine (spec_without xs n v w hv hl).mono ?_
    rintro e w2 ⟨u, rfl, hb, ho⟩
    have HB : Hid (Below w.heap.size w w2 ∧ Own w2 w.heap.size u (withoutL xs n)) := ⟨hb, ho⟩
    clear hb ho
    go_wp2
    go_ret
    exact ⟨_, rfl, HB.out.1, by rw [HF.out]; exact HB.out.2⟩
  | false =>
    rw [hh] at HH
    have HF : Hid (flipL xs n = withL xs n) := flip_no hh
    clear hh
    go_enter Try.func58, Try.ntmps58
    go_wp2_with fail
    refine HH.mono ?_
    rintro e w1 ⟨rfl, hw1⟩
    subst w1
    go_wp2_with fail
    refine (spec_with xs n v w hv hl).mono ?_
    rintro e w2 ⟨u, rfl, hb, ho⟩
    have HB : Hid (Below w.heap.size w w2 ∧ Own w2 w.heap.size u (withL xs n)) := ⟨hb, ho⟩
    clear hb ho
    go_wp2
    go_ret
    exact ⟨_, rfl, HB.out.1, by rw [HF.out]; exact HB.out.2⟩

end Go.Proofs.Ytoifhaakieigcaa
