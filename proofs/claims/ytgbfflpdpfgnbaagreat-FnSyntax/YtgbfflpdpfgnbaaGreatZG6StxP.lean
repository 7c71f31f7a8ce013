/- The specification's sets of ints: with a number, without it, flipped. Condition: at most 2^22 of them. -/
import Derived.Test.YtgbfflpdpfgnbaaGreatZG5IntsRead
import Derived.Test.YtgbfflpdpfgnbaaGreatZG0Stx
namespace Go.Proofs.YtgbfflpdpfgnbaaGreat
open Go.ChangeShapes Go.WideShapes Go.ChangeAt Go.RowKit

theorem own_lit (w : World) (B : Nat) (hB : B ≤ w.heap.size) : Own (w.alloc (.cells #[] 3)) B (.slice (some ⟨w.heap.size, 0, none⟩) 0 0) [] :=
  World.ownsRow_lit w #[] 0 hB (Nat.zero_le _) rfl

theorem own_join {B : Nat} {w wr w1 : World} {r0 v' : Value} {L M : List Int} (h : Own wr B r0 L) (hb : Below B w wr) (hB : B ≤ wr.heap.size)
    (h1 : w1.ownsRow B 3 1 v' (L.length + M.length) (L.map (Value.int .i64) ++ M.map (Value.int .i64))) (hg : wr.grownBy w1 r0.ownBlock) : Own w1 B v' (L ++ M) ∧ Below B w w1 := by
  refine ⟨?_, ?_⟩
  · unfold Own
    rw [List.length_append, List.map_append]
    exact h1
  · exact hb.grown hg hB (fun k hk => (h.lt k hk).1)

set_option maxRecDepth 100000 in
set_option maxHeartbeats 1000000 in
theorem spec_without (xs : List Int) (n : Int) (v : Value) (w : World) (hv : Rd w v xs) (hl : xs.length ≤ 4194304) :
    Calls Tryz.prog 64 #[v, .int .i64 n] w fun e w' => ∃ u, e = .returned u ∧ Below w.heap.size w w' ∧ Own w' w.heap.size u (withoutL xs n) := by
  obtain ⟨a, cap, rfl, hc⟩ := hv.shape
  have HC : Hid (∀ j, j < xs.length → ∃ b off, a = some ⟨b, off, none⟩ ∧ w.cell? ⟨b, off + j, none⟩ = some (.int .i64 (xs.getD j 0))) := hc
  clear hc hv
  obtain ⟨m, hm⟩ : ∃ m, m = xs.length := ⟨_, rfl⟩
  rw [← hm] at HC hl ⊢
  have HM : Hid (m = xs.length) := hm
  clear hm
  obtain ⟨i0, hi, hz0, hz1, hz2⟩ := info_parts int_info
  go_enter Tryz.func64, Tryz.ntmps64
  go_wp2_with fail
  go_loopw [5, 6] (fun r i wr => ∃ (k : Nat) (r0 : Value), r0 = r ∧ i = .int .i64 k ∧ k ≤ m ∧ Own wr w.heap.size r0 (withoutL (xs.take k) n) ∧ Below w.heap.size w wr) (fun _ i _ => m - (intOf i).toNat)
  case atStart => exact ⟨0, _, rfl, rfl, by omega, by simpa [withoutL] using own_lit w w.heap.size (Nat.le_refl _), new_below w _⟩
  case round =>
    obtain ⟨k, r0, rfl, rfl, hk, hown, hbel⟩ := hrel
    have HOW : Hid (Own wr w.heap.size r0 (withoutL (xs.take k) n)) := hown
    have HB : Hid (Below w.heap.size w wr) := hbel
    clear hown hbel
    by_cases hlt : (k : Int) < m
    · have HK : Hid (k < xs.length) := by show k < _; rw [← HM.out]; omega
      have hlen : (withoutL (xs.take k) n).length ≤ m := by
        have := without_len (xs.take k) n
        have h2 := HK.out
        rw [List.length_take] at this
        omega
      obtain ⟨b, off, rfl, hcell⟩ := HC.out k (by omega)
      have HS := without_succ xs n k HK.out
      generalize hx : xs.getD k 0 = x at hcell HS
      have hcell1 := cell_later HB.out hcell
      generalize withoutL (xs.take k) n = L at *
      have HSS : Hid (withoutL (xs.take (k + 1)) n = L ++ if (x != n) = true then [x] else []) := HS
      clear hcell hx HS
      cases he : (x != n)
      · go_wp2
        go_roundw
        case rel =>
          have h := HSS.out
          rw [if_neg (by simp [he]), List.append_nil] at h
          exact ⟨k + 1, _, rfl, by go_num, by omega, by rw [h]; exact HOW.out, HB.out⟩
        case measure => simp [intOf]; omega
      · have HSZ : Hid (w.heap.size ≤ wr.heap.size) := HB.out.size
        go_wp2_with (at_builtin; refine wpList_append_any _ rfl (.tmp 20) (.tmp 25) 27 rfl w.heap.size 3 i0 (.int .i64 0) 1 8 Tryz.underlying27 hi hz0 hz1 hz2 rfl (by decide) r0 L.length (L.map (Value.int .i64)) rfl (World.ownsRow.alloc HOW.out _) (some ⟨wr.heap.size, 0, none⟩) 1 1 [.int .i64 x] rfl rfl (by simp) (one_new wr _ _) (by simp [Value.oneCell']) (by unfold maxLen; omega) (by omega) (by have := HSZ.out; simp; omega) ?_; intro v' w2 hown2 hg2)
        have R := own_push HOW.out HB.out HSZ.out hown2.out hg2.out
        have HR : Hid (Own w2 w.heap.size v' (L ++ [x]) ∧ Below w.heap.size w w2) := R
        clear R hown2 hg2
        go_roundw
        case rel =>
          have h := HSS.out
          rw [if_pos he] at h
          exact ⟨k + 1, _, rfl, by go_num, by omega, by rw [h]; exact HR.out.1, HR.out.2⟩
        case measure => simp [intOf]; omega
    · go_wp2
      go_ret
      have hke : k = m := by omega
      have h := HOW.out
      rw [hke, HM.out, List.take_length] at h
      exact ⟨_, rfl, HB.out, h⟩

theorem Rd.src {w : World} {a : Option Addr} {m cap : Nat} {xs : List Int} (h : Rd w (.slice a m cap) xs) : (a = none → m = 0 ∧ cap = 0) ∧ ∀ ad, a = some ad → ∀ j u, (xs.map (Value.int .i64))[j]? = some u → w.cell? (ad.add j) = some u := by
  rcases h with ⟨h, rfl⟩ | ⟨b, off, cap', h, _, hc⟩
  · simp only [Value.slice.injEq] at h
    obtain ⟨rfl, rfl, rfl⟩ := h
    exact ⟨fun _ => ⟨rfl, rfl⟩, fun ad h => by cases h⟩
  · simp only [Value.slice.injEq] at h
    obtain ⟨rfl, rfl, rfl⟩ := h
    refine ⟨fun h => (by cases h), fun ad h j u hu => ?_⟩
    obtain rfl := Option.some.inj h
    have hj : j < xs.length := by
      have := (List.getElem?_eq_some_iff.1 hu).1
      simpa using this
    rw [Addr.add_lit, hc j hj, getD_int xs j hj]
    simpa [List.getElem?_eq_getElem hj] using hu

set_option maxRecDepth 100000 in
set_option maxHeartbeats 1000000 in
theorem spec_with_yes (xs : List Int) (n : Int) (v : Value) (w : World) (hv : Rd w v xs) (hl : xs.length ≤ 4194304) (hh : hasB xs n = true) :
    Calls Tryz.prog 43 #[v, .int .i64 n] w fun e w' => ∃ u, e = .returned u ∧ Below w.heap.size w w' ∧ Own w' w.heap.size u (withL xs n) := by
  have HH := spec_has xs v n w hv hl
  rw [hh] at HH
  obtain ⟨a, cap, rfl, -⟩ := hv.shape
  have hs := (hv.below (new_below w (.cells #[] 3))).src
  have HS : Hid ((a = none → xs.length = 0 ∧ cap = 0) ∧ ∀ ad, a = some ad → ∀ j u, (xs.map (Value.int .i64))[j]? = some u → (w.alloc (.cells #[] 3)).cell? (ad.add j) = some u) := hs
  have HW : Hid (withL xs n = xs) := with_yes hh
  clear hs hh hv
  obtain ⟨i0, hi, hz0, hz1, hz2⟩ := info_parts int_info
  go_enter Tryz.func43, Tryz.ntmps43
  go_wp2_with fail
  refine HH.mono ?_
  rintro e w1 ⟨rfl, hw1⟩
  subst w1
  go_wp2_with (at_builtin; refine wpList_append_any _ rfl (.tmp 10) (.tmp 11) 27 rfl w.heap.size 3 i0 (.int .i64 0) 1 8 Tryz.underlying27 hi hz0 hz1 hz2 rfl (by decide) (.slice (some ⟨w.heap.size, 0, none⟩) 0 0) 0 [] rfl (own_lit w w.heap.size (Nat.le_refl _)) a xs.length cap (xs.map (Value.int .i64)) rfl (by simp) HS.out.1 HS.out.2 (ints_cells xs) (by unfold maxLen; omega) (by omega) (by simp) ?_; intro v' w2 hown2 hg2)
  have R := own_join (M := xs) (own_lit w w.heap.size (Nat.le_refl _)) (new_below w _) (by simp) hown2.out hg2.out
  have HR : Hid (Own w2 w.heap.size v' ([] ++ xs) ∧ Below w.heap.size w w2) := R
  clear R hown2 hg2
  go_ret
  exact ⟨_, rfl, HR.out.2, by rw [HW.out]; exact HR.out.1⟩

set_option maxRecDepth 100000 in
set_option maxHeartbeats 1000000 in
theorem spec_with_nil (n : Int) (w : World) :
    Calls Tryz.prog 43 #[.slice none 0 0, .int .i64 n] w fun e w' => ∃ u, e = .returned u ∧ Below w.heap.size w w' ∧ Own w' w.heap.size u [n] := by
  have HH := spec_has [] (.slice none 0 0) n w (.inl ⟨rfl, rfl⟩) (by simp)
  rw [show hasB [] n = false from rfl] at HH
  obtain ⟨i0, hi, hz0, hz1, hz2⟩ := info_parts int_info
  have HO1 : Hid (Own (w.alloc (.cells #[] 3)) w.heap.size (.slice (some ⟨w.heap.size, 0, none⟩) 0 0) []) := own_lit w w.heap.size (Nat.le_refl _)
  go_enter Tryz.func43, Tryz.ntmps43
  go_wp2_with fail
  refine HH.mono ?_
  rintro e w1 ⟨rfl, hw1⟩
  subst w1
  go_wp2_with fail
  go_loop [5] (fun i => i = .int .i64 0) (fun _ => 0)
  case atStart => rfl
  case round =>
    obtain rfl := hrel
    go_wp2_with (first | (at_builtin; refine wpList_append_any _ rfl (.tmp 27) (.tmp 30) 27 rfl w.heap.size 3 i0 (.int .i64 0) 1 8 Tryz.underlying27 hi hz0 hz1 hz2 rfl (by decide) (.slice (some ⟨w.heap.size, 0, none⟩) 0 0) 0 [] rfl HO1.out none 0 0 [] rfl rfl (by simp) (fun ad h => by cases h) (by simp) (by unfold maxLen; omega) (by omega) (by simp) ?_; intro v2 w2 hown2 hg2; have R := own_join (M := []) HO1.out (new_below w _) (by simp) hown2.out hg2.out; have HR : Hid (Own w2 w.heap.size v2 [] ∧ Below w.heap.size w w2) := R; clear R hown2 hg2) | (at_builtin; refine wpList_append_any _ rfl (.tmp 32) (.tmp 34) 27 rfl w.heap.size 3 i0 (.int .i64 0) 1 8 Tryz.underlying27 hi hz0 hz1 hz2 rfl (by decide) v2 0 [] rfl (World.ownsRow.alloc HR.out.1 _) (some ⟨w2.heap.size, 0, none⟩) 1 1 [.int .i64 n] rfl rfl (by simp) (one_new w2 _ _) (by simp [Value.oneCell']) (by unfold maxLen; omega) (by omega) (by have := HR.out.2.size; simp; omega) ?_; intro v3 w3 hown3 hg3; have R3 := own_push HR.out.1 HR.out.2 HR.out.2.size hown3.out hg3.out; have HR3 : Hid (Own w3 w.heap.size v3 [n] ∧ Below w.heap.size w w3) := R3; clear R3 hown3 hg3) | (at_builtin; refine wpList_append_any _ rfl (.tmp 36) (.tmp 39) 27 rfl w.heap.size 3 i0 (.int .i64 0) 1 8 Tryz.underlying27 hi hz0 hz1 hz2 rfl (by decide) v3 1 [.int .i64 n] rfl HR3.out.1 none 0 0 [] rfl rfl (by simp) (fun ad h => by cases h) (by simp) (by unfold maxLen; omega) (by omega) HR3.out.2.size ?_; intro v4 w4 hown4 hg4; have R4 := own_join (M := []) HR3.out.1 HR3.out.2 HR3.out.2.size hown4.out hg4.out; have HR4 : Hid (Own w4 w.heap.size v4 [n] ∧ Below w.heap.size w w4) := R4; clear R4 hown4 hg4))
    go_ret
    exact ⟨_, rfl, HR4.out.2, HR4.out.1⟩

theorem drop_src {w : World} {b off cap p : Nat} {xs : List Int} (hl : xs.length ≤ cap) (hc : ∀ j, j < xs.length → w.cell? ⟨b, off + j, none⟩ = some (.int .i64 (xs.getD j 0))) {ao : Option Addr} (hao : ¬ cap = p → ao = some ⟨b, off + p, none⟩) :
    ∀ ad, ao = some ad → ∀ j u, ((xs.drop p).map (Value.int .i64))[j]? = some u → w.cell? (ad.add j) = some u :=
  cells_from rfl hl hc hao

set_option maxRecDepth 100000 in
set_option maxHeartbeats 2000000 in
theorem spec_with_no (xs : List Int) (n : Int) (b off cap : Nat) (w : World) (hv : Rd w (.slice (some ⟨b, off, none⟩) xs.length cap) xs) (hl : xs.length ≤ 4194304) (hh : hasB xs n = false) :
    Calls Tryz.prog 43 #[.slice (some ⟨b, off, none⟩) xs.length cap, .int .i64 n] w fun e w' => ∃ u, e = .returned u ∧ Below w.heap.size w w' ∧ Own w' w.heap.size u (withL xs n) := by
  have HH := spec_has xs _ n w hv hl
  rw [hh] at HH
  have hcap : xs.length ≤ cap := by
    rcases hv with ⟨h, _⟩ | ⟨b', off', cap', h, hl, _⟩
    · simp at h
    · simp only [Value.slice.injEq, true_and] at h; rw [h.2]; exact hl
  have hc : ∀ j, j < xs.length → w.cell? ⟨b, off + j, none⟩ = some (.int .i64 (xs.getD j 0)) := by
    rcases hv with ⟨h, _⟩ | ⟨b', off', cap', h, _, hc⟩
    · simp at h
    · simp only [Value.slice.injEq, Option.some.injEq, Addr.mk.injEq, and_true, true_and] at h
      obtain ⟨⟨rfl, rfl⟩, _⟩ := h
      exact hc
  have HC : Hid (∀ j, j < xs.length → w.cell? ⟨b, off + j, none⟩ = some (.int .i64 (xs.getD j 0))) := hc
  have HW : Hid (withL xs n = xs.take (placeL xs n) ++ n :: xs.drop (placeL xs n)) := with_no hh
  clear hc hv hh
  obtain ⟨m, hm⟩ : ∃ m, m = xs.length := ⟨_, rfl⟩
  rw [← hm] at hl hcap HH ⊢
  have HM : Hid (m = xs.length) := hm
  clear hm
  obtain ⟨i0, hi, hz0, hz1, hz2⟩ := info_parts int_info
  go_enter Tryz.func43, Tryz.ntmps43
  go_wp2_with fail
  refine HH.mono ?_
  rintro e w1 ⟨rfl, hw1⟩
  subst w1
  go_wp2_with fail
  go_loop [5] (fun i => ∃ k : Nat, k ≤ m ∧ i = .int .i64 k ∧ ∀ j, j < k → xs.getD j 0 < n) (fun i => m - (intOf i).toNat)
  case atStart => exact ⟨0, by omega, rfl, fun j hj => by omega⟩
  case round =>
    obtain ⟨k, hk, rfl, hno⟩ := hrel
    have HNO : Hid (∀ j, j < k → xs.getD j 0 < n) := hno
    clear hno
    by_cases hgo : ∃ h : k < m, xs.getD k 0 < n
    · obtain ⟨hlt, hx⟩ := hgo
      have hcell := HC.out k (by rw [← HM.out]; exact hlt)
      have HX : Hid (xs.getD k 0 < n) := hx
      generalize xs.getD k 0 = x at hcell hx
      have d1 : decide (k < m) = true := by simpa using hlt
      go_wp2
      go_round
      case rel =>
        refine ⟨k + 1, by omega, by go_num, fun j hj => ?_⟩
        by_cases hjk : j = k
        · subst hjk; exact HX.out
        · exact HNO.out j (by omega)
      case measure => simp [intOf]; omega
    · have HP : Hid (placeL xs n = k) := place_is xs n k (by rw [← HM.out]; exact hk) HNO.out (fun h hx => hgo ⟨by rw [HM.out]; exact h, hx⟩)
      have HO1 : Hid (Own (w.alloc (.cells #[] 3)) w.heap.size (.slice (some ⟨w.heap.size, 0, none⟩) 0 0) []) := own_lit w w.heap.size (Nat.le_refl _)
      have HCB : Hid (∀ w2 : World, Below w.heap.size w w2 → ∀ j, j < xs.length → w2.cell? ⟨b, off + j, none⟩ = some (.int .i64 (xs.getD j 0))) := fun w2 hb j hj => cell_later hb (HC.out j hj)
      have HS1 : Hid (∀ w2 : World, Below w.heap.size w w2 → ∀ ad, some (⟨b, off, none⟩ : Addr) = some ad → ∀ j u, ((xs.take k).map (Value.int .i64))[j]? = some u → w2.cell? (ad.add j) = some u) := by
        intro w2 hb ad h j u hu
        obtain rfl := Option.some.inj h
        have hj : j < k ∧ j < xs.length := by
          have := (List.getElem?_eq_some_iff.1 hu).1
          simpa [Nat.lt_min] using this
        rw [Addr.add_lit, HCB.out w2 hb j hj.2, getD_int xs j hj.2]
        simpa [List.getElem?_take, hj.1, List.getElem?_eq_getElem hj.2] using hu
      have HL : Hid ((xs.take k).length = k ∧ (xs.drop k).length = m - k) := by
        have := HM.out
        exact ⟨by rw [List.length_take]; omega, by rw [List.length_drop]; omega⟩
      have HT : Hid (withL xs n = (xs.take k ++ [n]) ++ xs.drop k) := by show _ = _; rw [HW.out, HP.out]; simp
      have HS2 : Hid (∀ w2 : World, Below w.heap.size w w2 → ∀ ao : Option Addr, (¬ cap = k → ao = some ⟨b, off + k, none⟩) → ∀ ad, ao = some ad → ∀ j u, ((xs.drop k).map (Value.int .i64))[j]? = some u → w2.cell? (ad.add j) = some u) := fun w2 hb ao hao => drop_src (by rw [← HM.out]; exact hcap) (HCB.out w2 hb) hao
      obtain ⟨T, hT⟩ : ∃ T, T = xs.take k := ⟨_, rfl⟩
      obtain ⟨D, hD⟩ : ∃ D, D = xs.drop k := ⟨_, rfl⟩
      rw [← hT] at HS1 HL HT
      rw [← hD] at HS2 HL HT
      clear hT hD HCB HW
      have d0 : ∀ x : Int, xs.getD k 0 = x → k < m → decide (x < n) = false := by
        intro x hx hkm
        rw [decide_eq_false_iff_not]
        intro h
        exact hgo ⟨hkm, by rw [hx]; exact h⟩
      by_cases hkm : k < m
      · have hcell := HC.out k (by rw [← HM.out]; exact hkm)
        generalize hx : xs.getD k 0 = x at hcell
        have d2 := d0 x hx hkm
        have d1 : decide (k < m) = true := by simpa using hkm
        clear d0 hx hgo
        go_wp2_with (first | (at_builtin; (refine wpList_append_any _ rfl (.tmp 27) (.tmp 30) 27 rfl w.heap.size 3 i0 (.int .i64 0) 1 8 Tryz.underlying27 hi hz0 hz1 hz2 rfl (by decide) (.slice (some ⟨w.heap.size, 0, none⟩) 0 0) 0 [] rfl HO1.out (some ⟨b, off, none⟩) k cap (T.map (Value.int .i64)) rfl (by rw [List.length_map, HL.out.1, Nat.mul_one]) (fun h => by cases h) (HS1.out _ (new_below w _)) (ints_cells T) (by unfold maxLen; omega) (by omega) (by simp) ?_); intro v2 w2 hown2 hg2; rw [← HL.out.1] at hown2; have R := own_join (M := T) HO1.out (new_below w _) (by simp) hown2.out hg2.out; have HR : Hid (Own w2 w.heap.size v2 T ∧ Below w.heap.size w w2) := R; clear R hown2 hg2) | (at_builtin; (refine wpList_append_any _ rfl (.tmp 32) (.tmp 34) 27 rfl w.heap.size 3 i0 (.int .i64 0) 1 8 Tryz.underlying27 hi hz0 hz1 hz2 rfl (by decide) v2 T.length (T.map (Value.int .i64)) rfl (World.ownsRow.alloc HR.out.1 _) (some ⟨w2.heap.size, 0, none⟩) 1 1 [.int .i64 n] rfl rfl (by simp) (one_new w2 _ _) (by simp [Value.oneCell']) (by rw [HL.out.1]; unfold maxLen; omega) (by rw [HL.out.1]; omega) (by have := HR.out.2.size; simp; omega) ?_); intro v3 w3 hown3 hg3; have R3 := own_push HR.out.1 HR.out.2 HR.out.2.size hown3.out hg3.out; have HR3 : Hid (Own w3 w.heap.size v3 (T ++ [n]) ∧ Below w.heap.size w w3) := R3; clear R3 hown3 hg3) | (at_builtin; (refine wpList_append_any _ rfl (.tmp 36) (.tmp 39) 27 rfl w.heap.size 3 i0 (.int .i64 0) 1 8 Tryz.underlying27 hi hz0 hz1 hz2 rfl (by decide) v3 (T ++ [n]).length ((T ++ [n]).map (Value.int .i64)) rfl HR3.out.1 _ (m - k) (cap - k) (D.map (Value.int .i64)) rfl (by rw [List.length_map, HL.out.2, Nat.mul_one]) (by intro h; first | cases h | (split at h <;> cases h)) (HS2.out _ HR3.out.2 _ (by intro h; first | rfl | simp [h])) (ints_cells D) (by rw [List.length_append, HL.out.1]; unfold maxLen; simp; omega) (by rw [List.length_append, HL.out.1]; simp; omega) HR3.out.2.size ?_); intro v4 w4 hown4 hg4; rw [← HL.out.2] at hown4; have R4 := own_join (M := D) HR3.out.1 HR3.out.2 HR3.out.2.size hown4.out hg4.out; have HR4 : Hid (Own w4 w.heap.size v4 ((T ++ [n]) ++ D) ∧ Below w.heap.size w w4) := R4; clear R4 hown4 hg4))
        go_ret
        exact ⟨_, rfl, HR4.out.2, by rw [HT.out]; exact HR4.out.1⟩
      · have hke : k = m := by omega
        subst hke
        have d1 : decide (k < k) = false := by simp
        have HD : Hid (D.length = k - k) := HL.out.2
        clear d0 hgo
        go_wp2_with (first | (at_builtin; (refine wpList_append_any _ rfl (.tmp 27) (.tmp 30) 27 rfl w.heap.size 3 i0 (.int .i64 0) 1 8 Tryz.underlying27 hi hz0 hz1 hz2 rfl (by decide) (.slice (some ⟨w.heap.size, 0, none⟩) 0 0) 0 [] rfl HO1.out (some ⟨b, off, none⟩) k cap (T.map (Value.int .i64)) rfl (by rw [List.length_map, HL.out.1, Nat.mul_one]) (fun h => by cases h) (HS1.out _ (new_below w _)) (ints_cells T) (by unfold maxLen; omega) (by omega) (by simp) ?_); intro v2 w2 hown2 hg2; rw [← HL.out.1] at hown2; have R := own_join (M := T) HO1.out (new_below w _) (by simp) hown2.out hg2.out; have HR : Hid (Own w2 w.heap.size v2 T ∧ Below w.heap.size w w2) := R; clear R hown2 hg2) | (at_builtin; (refine wpList_append_any _ rfl (.tmp 32) (.tmp 34) 27 rfl w.heap.size 3 i0 (.int .i64 0) 1 8 Tryz.underlying27 hi hz0 hz1 hz2 rfl (by decide) v2 T.length (T.map (Value.int .i64)) rfl (World.ownsRow.alloc HR.out.1 _) (some ⟨w2.heap.size, 0, none⟩) 1 1 [.int .i64 n] rfl rfl (by simp) (one_new w2 _ _) (by simp [Value.oneCell']) (by rw [HL.out.1]; unfold maxLen; omega) (by rw [HL.out.1]; omega) (by have := HR.out.2.size; simp; omega) ?_); intro v3 w3 hown3 hg3; have R3 := own_push HR.out.1 HR.out.2 HR.out.2.size hown3.out hg3.out; have HR3 : Hid (Own w3 w.heap.size v3 (T ++ [n]) ∧ Below w.heap.size w w3) := R3; clear R3 hown3 hg3) | (at_builtin; (refine wpList_append_any _ rfl (.tmp 36) (.tmp 39) 27 rfl w.heap.size 3 i0 (.int .i64 0) 1 8 Tryz.underlying27 hi hz0 hz1 hz2 rfl (by decide) v3 (T ++ [n]).length ((T ++ [n]).map (Value.int .i64)) rfl HR3.out.1 _ 0 (cap - k) (D.map (Value.int .i64)) rfl (by rw [List.length_map, HL.out.2]; simp) (by intro h; first | cases h | (split at h <;> cases h)) (HS2.out _ HR3.out.2 _ (by intro h; first | rfl | simp [h])) (ints_cells D) (by rw [List.length_append, HL.out.1]; unfold maxLen; simp; omega) (by rw [List.length_append, HL.out.1]; simp; omega) HR3.out.2.size ?_); intro v4 w4 hown4 hg4; rw [show 0 = D.length from by rw [HD.out]; omega] at hown4; have R4 := own_join (M := D) HR3.out.1 HR3.out.2 HR3.out.2.size hown4.out hg4.out; have HR4 : Hid (Own w4 w.heap.size v4 ((T ++ [n]) ++ D) ∧ Below w.heap.size w w4) := R4; clear R4 hown4 hg4))
        all_goals
          go_ret
          exact ⟨_, rfl, HR4.out.2, by rw [HT.out]; exact HR4.out.1⟩

theorem spec_with (xs : List Int) (n : Int) (v : Value) (w : World) (hv : Rd w v xs) (hl : xs.length ≤ 4194304) :
    Calls Tryz.prog 43 #[v, .int .i64 n] w fun e w' => ∃ u, e = .returned u ∧ Below w.heap.size w w' ∧ Own w' w.heap.size u (withL xs n) := by
  cases hh : hasB xs n with
  | true => exact spec_with_yes xs n v w hv hl hh
  | false =>
    have hv' := hv
    rcases hv with ⟨rfl, rfl⟩ | ⟨b, off, cap, rfl, _⟩
    · exact spec_with_nil n w
    · exact spec_with_no xs n b off cap w hv' hl hh

set_option maxRecDepth 100000 in
set_option maxHeartbeats 1000000 in
theorem spec_flip (xs : List Int) (n : Int) (v : Value) (w : World) (hv : Rd w v xs) (hl : xs.length ≤ 4194304) :
    Calls Tryz.prog 40 #[v, .int .i64 n] w fun e w' => ∃ u, e = .returned u ∧ Below w.heap.size w w' ∧ Own w' w.heap.size u (flipL xs n) := by
  have HH := spec_has xs v n w hv hl
  cases hh : hasB xs n with
  | true =>
    rw [hh] at HH
    have HF : Hid (flipL xs n = withoutL xs n) := flip_yes hh
    clear hh
    go_enter Tryz.func40, Tryz.ntmps40
    go_wp2_with fail
    refine HH.mono ?_
    rintro e w1 ⟨rfl, hw1⟩
    subst w1
    go_wp2_with fail
    refine (spec_without xs n v w hv hl).mono ?_
    rintro e w2 ⟨u, rfl, hb, ho⟩
    have HB : Hid (Below w.heap.size w w2 ∧ Own w2 w.heap.size u (withoutL xs n)) := ⟨hb, ho⟩
    clear hb ho
    go_wp2
    go_ret
    exact ⟨_, rfl, HB.out.1, by rw [HF.out]; exact HB.out.2⟩
  | false =>
    rw [hh] at HH
    have HF : Hid (flipL xs n = withL xs n) := flip_no hh
    clear hh
    go_enter Tryz.func40, Tryz.ntmps40
    go_wp2_with fail
    refine HH.mono ?_
    rintro e w1 ⟨rfl, hw1⟩
    subst w1
    go_wp2_with fail
    refine (spec_with xs n v w hv hl).mono ?_
    rintro e w2 ⟨u, rfl, hb, ho⟩
    have HB : Hid (Below w.heap.size w w2 ∧ Own w2 w.heap.size u (withL xs n)) := ⟨hb, ho⟩
    clear hb ho
    go_wp2
    go_ret
    exact ⟨_, rfl, HB.out.1, by rw [HF.out]; exact HB.out.2⟩

end Go.Proofs.YtgbfflpdpfgnbaaGreat

/- Plain facts on sets of numbers: flipped twice a set is as it was; with a number it has it, without it not. No conditions but that the list is a set. -/
namespace Go.Proofs.YtgbfflpdpfgnbaaGreat

/-- The same by recursion: each is above what went ahead of it. -/
def ascL : Int → List Int → Prop
  | _, [] => True
  | m, x :: r => m < x ∧ ascL x r

theorem asc_mono {m k : Int} {xs : List Int} (h : ascL m xs) (hk : k ≤ m) : ascL k xs := by
  cases xs with
  | nil => trivial
  | cons x r => exact ⟨by have := h.1; omega, h.2⟩
theorem asc_mem {m : Int} {xs : List Int} (h : ascL m xs) : ∀ x ∈ xs, m < x := by
  induction xs generalizing m with
  | nil => intro x hx; cases hx
  | cons y r ih =>
    intro x hx
    rcases List.mem_cons.1 hx with rfl | hx
    · exact h.1
    · have := ih h.2 x hx; have := h.1; omega

theorem asc_of (xs : List Int) (m : Int) (h : ∀ i, i < xs.length → m < xs.getD i 0 ∧ (0 < i → xs.getD (i - 1) 0 < xs.getD i 0)) : ascL m xs := by
  induction xs generalizing m with
  | nil => trivial
  | cons x r ih =>
    refine ⟨by simpa using (h 0 (by simp)).1, ih x fun i hi => ?_⟩
    have h1 := h (i + 1) (by simpa using hi)
    have h2 := h1.2 (by omega)
    simp only [Nat.add_sub_cancel, List.getD_cons_succ] at h2
    refine ⟨?_, fun h0 => ?_⟩
    · have : ∀ j, j ≤ i → j < r.length → x < r.getD j 0 := by
        intro j
        induction j with
        | zero =>
          intro _ hj
          have := (h 1 (by simp; omega)).2 (by omega)
          simpa using this
        | succ j ihj =>
          intro hj hl
          have a := ihj (by omega) (by omega)
          have b := (h (j + 2) (by simp; omega)).2 (by omega)
          simp only [Nat.add_one_sub_one, List.getD_cons_succ] at b
          omega
      exact this i (Nat.le_refl _) hi
    · obtain ⟨k, rfl⟩ : ∃ k, i = k + 1 := ⟨i - 1, by omega⟩
      simpa using h2

theorem asc_to (xs : List Int) (m : Int) (h : ascL m xs) : ∀ i, i < xs.length → m < xs.getD i 0 ∧ (0 < i → xs.getD (i - 1) 0 < xs.getD i 0) := by
  induction xs generalizing m with
  | nil => intro i hi; simp at hi
  | cons x r ih =>
    intro i hi
    match i with
    | 0 => exact ⟨by simpa using h.1, fun h0 => by omega⟩
    | i + 1 =>
      have hi' : i < r.length := by simpa using hi
      have := ih x h.2 i hi'
      have h1 := h.1
      refine ⟨by simp only [List.getD_cons_succ]; omega, fun _ => ?_⟩
      match i with
      | 0 => simpa using this.1
      | i + 1 => simpa using this.2 (by omega)

theorem set_asc (xs : List Int) : setB xs = true ↔ ascL (-1) xs := by
  constructor
  · intro h
    refine asc_of xs (-1) fun i hi => ?_
    have := set_at h i hi
    unfold standsB at this
    simp only [Bool.and_eq_true, Bool.or_eq_true, decide_eq_true_eq] at this
    exact ⟨by omega, fun h0 => this.2.resolve_left (by omega)⟩
  · intro h
    refine set_yes fun i hi => ?_
    have := asc_to xs (-1) h i hi
    unfold standsB
    simp only [Bool.and_eq_true, Bool.or_eq_true, decide_eq_true_eq]
    refine ⟨by omega, ?_⟩
    by_cases h0 : i = 0
    · exact .inl h0
    · exact .inr (this.2 (by omega))

/-- n put in where it belongs. -/
def insL : List Int → Int → List Int
  | [], n => [n]
  | x :: r, n => if x < n then x :: insL r n else n :: x :: r
theorem ins_place (xs : List Int) (n : Int) : xs.take (placeL xs n) ++ n :: xs.drop (placeL xs n) = insL xs n := by
  induction xs with
  | nil => rfl
  | cons x r ih =>
    unfold placeL insL
    split
    · simp [ih]
    · simp
theorem ins_mem (xs : List Int) (n : Int) : n ∈ insL xs n := by
  induction xs with
  | nil => simp [insL]
  | cons x r ih => unfold insL; split <;> simp [ih]
theorem ins_sub (xs : List Int) (n : Int) : ∀ x ∈ xs, x ∈ insL xs n := by
  induction xs with
  | nil => intro x hx; cases hx
  | cons y r ih =>
    intro x hx
    unfold insL
    split
    · rcases List.mem_cons.1 hx with rfl | hx
      · simp
      · exact List.mem_cons_of_mem _ (ih x hx)
    · exact List.mem_cons_of_mem _ hx
theorem ins_asc {m : Int} {xs : List Int} {n : Int} (h : ascL m xs) (hm : m < n) (hn : n ∉ xs) : ascL m (insL xs n) := by
  induction xs generalizing m with
  | nil => exact ⟨hm, trivial⟩
  | cons x r ih =>
    unfold insL
    have hx : n ≠ x := fun e => hn (by simp [e])
    split
    · rename_i hlt
      exact ⟨h.1, ih h.2 hlt (fun hr => hn (List.mem_cons_of_mem _ hr))⟩
    · exact ⟨hm, by omega, h.2⟩
theorem without_same (ys : List Int) (n : Int) (hy : n ∉ ys) : withoutL ys n = ys := by
  unfold withoutL
  rw [List.filter_eq_self]
  intro x hx
  have : x ≠ n := fun e => hy (by rw [← e]; exact hx)
  simpa using this
theorem without_cons (x n : Int) (r : List Int) (h : x ≠ n) : withoutL (x :: r) n = x :: withoutL r n := by
  unfold withoutL
  rw [List.filter_cons, if_pos (by simpa using h)]
theorem without_head (n : Int) (r : List Int) : withoutL (n :: r) n = withoutL r n := by
  unfold withoutL
  rw [List.filter_cons, if_neg (by simp)]
theorem without_ins {xs : List Int} {n : Int} (hn : n ∉ xs) : withoutL (insL xs n) n = xs := by
  induction xs with
  | nil => simp [insL, withoutL]
  | cons x r ih =>
    have hx : x ≠ n := fun e => hn (by simp [e])
    have hr : n ∉ r := fun hr => hn (List.mem_cons_of_mem _ hr)
    unfold insL
    split
    · rw [without_cons x n _ hx, ih hr]
    · rw [without_head, without_same _ _ hn]
theorem without_mem (xs : List Int) (n x : Int) : x ∈ withoutL xs n ↔ x ∈ xs ∧ x ≠ n := by
  unfold withoutL
  rw [List.mem_filter]
  simp
theorem without_asc {m : Int} {xs : List Int} (n : Int) (h : ascL m xs) : ascL m (withoutL xs n) := by
  induction xs generalizing m with
  | nil => trivial
  | cons x r ih =>
    by_cases hx : x = n
    · subst hx
      rw [without_head]
      exact asc_mono (ih h.2) (by have := h.1; omega)
    · rw [without_cons x n r hx]
      exact ⟨h.1, ih h.2⟩
theorem ins_without {m : Int} {xs : List Int} {n : Int} (h : ascL m xs) (hn : n ∈ xs) : insL (withoutL xs n) n = xs := by
  induction xs generalizing m with
  | nil => cases hn
  | cons x r ih =>
    by_cases hx : x = n
    · subst hx
      have hnr : x ∉ r := fun hr => by have := asc_mem h.2 x hr; omega
      rw [without_head, without_same _ _ hnr]
      cases r with
      | nil => rfl
      | cons y t =>
        unfold insL
        rw [if_neg (by have := h.2.1; omega)]
    · have hr : n ∈ r := by
        rcases List.mem_cons.1 hn with e | hr
        · exact absurd e.symm hx
        · exact hr
      have hlt := asc_mem h.2 n hr
      rw [without_cons x n r hx]
      unfold insL
      rw [if_pos hlt, ih h.2 hr]

theorem with_ins {xs : List Int} {n : Int} (h : hasB xs n = false) : withL xs n = insL xs n := by rw [with_no h, ins_place]
theorem has_not {xs : List Int} {n : Int} (h : hasB xs n = false) : n ∉ xs := fun e => by rw [(has_iff xs n).2 e] at h; cases h
theorem not_has {xs : List Int} {n : Int} (h : n ∉ xs) : hasB xs n = false := by
  cases e : hasB xs n with
  | false => rfl
  | true => exact absurd ((has_iff xs n).1 e) h

theorem flip_set {s : List Int} {n : Int} (h : setB s = true) (hn : 0 ≤ n) : setB (flipL s n) = true := by
  rw [set_asc] at h ⊢
  cases e : hasB s n with
  | true => rw [flip_yes e]; exact without_asc n h
  | false => rw [flip_no e, with_ins e]; exact ins_asc h (by omega) (has_not e)
theorem flip_flip {s : List Int} {n : Int} (h : setB s = true) : flipL (flipL s n) n = s := by
  rw [set_asc] at h
  cases e : hasB s n with
  | true =>
    have e2 : hasB (withoutL s n) n = false := not_has fun hm => ((without_mem s n n).1 hm).2 rfl
    rw [flip_yes e, flip_no e2, with_ins e2, ins_without h ((has_iff s n).1 e)]
  | false =>
    have e2 : hasB (insL s n) n = true := (has_iff _ _).2 (ins_mem s n)
    rw [flip_no e, with_ins e, flip_yes e2, without_ins (has_not e)]
theorem with_has (s : List Int) (n : Int) : withinB [n] (withL s n) = true := by
  have : hasB (withL s n) n = true := by
    cases e : hasB s n with
    | true => rw [with_yes e]; exact e
    | false => rw [with_ins e]; exact (has_iff _ _).2 (ins_mem s n)
  simp [withinB, this]
theorem without_has (s : List Int) (n : Int) : withinB [n] (withoutL s n) = false := by
  have : hasB (withoutL s n) n = false := not_has fun hm => ((without_mem s n n).1 hm).2 rfl
  simp [withinB, this]
theorem without_within (s : List Int) (n : Int) : withinB (withoutL s n) s = true := by
  unfold withinB
  rw [List.all_eq_true]
  intro x hx
  exact (has_iff _ _).2 ((without_mem s n x).1 hx).1
theorem within_with (s : List Int) (n : Int) : withinB s (withL s n) = true := by
  unfold withinB
  rw [List.all_eq_true]
  intro x hx
  cases e : hasB s n with
  | true => rw [with_yes e]; exact (has_iff _ _).2 hx
  | false => rw [with_ins e]; exact (has_iff _ _).2 (ins_sub s n x hx)
end Go.Proofs.YtgbfflpdpfgnbaaGreat

/- Plain facts on what is written: the same but for places; its sets turned; how great it is. No conditions. -/
namespace Go.Proofs.YtgbfflpdpfgnbaaGreat
open Go.ChangeShapes Go.WideShapes Go.ChangeAt Go.RowKit

/-- No set of more than 2^22. -/
def X.Small : X → Prop
  | .no => True
  | .mk _ _ _ _ set len kid => set.length ≤ 4194304 ∧ ∀ i, i < len → (kid i).Small
theorem X.small_of_weight (t : X) : t.weight ≤ 4194304 → t.Small := by
  induction t with
  | no => intro _; trivial
  | mk op a n s set len kid ih =>
    intro h
    have e : (X.mk op a n s set len kid).weight = s.size + (set.length + (len + sumX (fun i => (kid i).weight) len)) := rfl
    refine ⟨by omega, fun i hi => ih i ?_⟩
    have := sumX_at (fun i => (kid i).weight) i len hi
    omega

/-- All of the first k. -/
def allX (p : Nat → Bool) : Nat → Bool
  | 0 => true
  | k + 1 => allX p k && p k
theorem allX_true {p : Nat → Bool} {k : Nat} : allX p k = true ↔ ∀ i, i < k → p i = true := by
  induction k with
  | zero => simp [allX]
  | succ k ih =>
    simp only [allX, Bool.and_eq_true, ih]
    constructor
    · rintro ⟨h1, h2⟩ i hi
      rcases Nat.lt_or_ge i k with h | h
      · exact h1 i h
      · obtain rfl : i = k := by omega
        exact h2
    · intro h
      exact ⟨fun i hi => h i (by omega), h k (by omega)⟩
theorem allX_false {p : Nat → Bool} {n k : Nat} (hk : k < n) (h : p k = false) : allX p n = false := by
  cases e : allX p n with
  | false => rfl
  | true => rw [allX_true] at e; rw [e k hk] at h; cases h

/-- The same op, number, text, set and number of kids. -/
def headX (a b : X) : Bool := (a.op == b.op) && ((a.n == b.n) && ((a.s.toList == b.s.toList) && (sameB a.set b.set && (a.len == b.len))))
/-- The same but for places. -/
def sameX : X → X → Bool
  | .no, b => headX .no b
  | .mk op a n s set len kid, b => headX (.mk op a n s set len kid) b && allX (fun i => sameX (kid i) (b.kid i)) len
theorem sameX_eq (a b : X) : sameX a b = (headX a b && allX (fun i => sameX (a.kid i) (b.kid i)) a.len) := by
  cases a with
  | no => simp [sameX, X.len, allX]
  | mk op a n s set len kid => rfl

theorem bytes_injX {a b : ByteArray} (h : a.toList = b.toList) : a = b := by
  rw [ByteArray.toList_eq, ByteArray.toList_eq] at h
  cases a; cases b; simp only at h; congr; exact Array.toList_inj.1 h

/-- The tests ahead, one by one. -/
theorem headX_cases (a b : X) : (headX a b = true ∧ a.op = b.op ∧ a.n = b.n ∧ a.s = b.s ∧ sameB a.set b.set = true ∧ a.len = b.len) ∨
    (headX a b = false ∧ (a.op ≠ b.op ∨ (a.op = b.op ∧ (a.n ≠ b.n ∨ (a.n = b.n ∧ ((a.s.toList == b.s.toList) = false ∨ (a.s = b.s ∧ (sameB a.set b.set = false ∨ (sameB a.set b.set = true ∧ a.len ≠ b.len))))))))) := by
  unfold headX
  by_cases h1 : a.op = b.op
  · by_cases h2 : a.n = b.n
    · by_cases h3 : a.s.toList = b.s.toList
      · have h3' : a.s = b.s := bytes_injX h3
        cases h5 : sameB a.set b.set with
        | false => exact .inr (by simp [h1, h2, h3'])
        | true =>
          by_cases h4 : a.len = b.len
          · exact .inl (by simp [h1, h2, h3', h4])
          · exact .inr (by simp [h1, h2, h3', h4])
      · exact .inr (by simp [h1, h2, h3])
    · exact .inr (by simp [h1, h2])
  · exact .inr (by simp [h1])

theorem sameX_self (t : X) : sameX t t = true := by
  induction t with
  | no => simp [sameX, headX, same_self]
  | mk op a n s set len kid ih =>
    rw [sameX_eq]
    have h1 : headX (.mk op a n s set len kid) (.mk op a n s set len kid) = true := by simp [headX, same_self]
    rw [h1, Bool.true_and, allX_true]
    exact fun i _ => ih i

/-- Sets turned at symbols. -/
def X.turn (f : List Int → List Int) : X → X
  | .no => .no
  | .mk op a n s set len kid => .mk op a n s (if op = 2 then f set else set) len (fun i => (kid i).turn f)
def X.flip (t : X) (n : Int) : X := t.turn fun s => flipL s n
def X.withAll (t : X) (n : Int) : X := t.turn fun s => withL s n
theorem X.turn_mk (f : List Int → List Int) (op a n : Int) (s : ByteArray) (set : List Int) (len : Nat) (kid : Nat → X) : (X.mk op a n s set len kid).turn f = .mk op a n s (if op = 2 then f set else set) len (fun i => (kid i).turn f) := rfl
theorem X.turn_ne (f : List Int → List Int) (t : X) (h : t ≠ .no) : t.turn f ≠ .no := by
  cases t with
  | no => exact absurd rfl h
  | mk op a n s set len kid => intro e; cases e
theorem X.turn_count (f : List Int → List Int) (t : X) : (t.turn f).count = t.count := by
  induction t with
  | no => rfl
  | mk op a n s set len kid ih => rw [turn_mk]; unfold count; simp only [ih]

/-- All sets are right: at symbols sets, elsewhere none. -/
def X.setsB : X → Bool
  | .no => true
  | .mk op _ _ _ set len kid => allX (fun i => (kid i).setsB) len && ((decide (op = 2) && setB set) || decide (set.length = 0))
theorem X.setsB_mk (op a n : Int) (s : ByteArray) (set : List Int) (len : Nat) (kid : Nat → X) : (X.mk op a n s set len kid).setsB = (allX (fun i => (kid i).setsB) len && ((decide (op = 2) && setB set) || decide (set.length = 0))) := rfl

theorem setB_nil : setB [] = true := by simp [setB]
/-- Flipped twice it is as it was. -/
theorem X.flip_flip (t : X) (m : Int) : t.setsB = true → sameX ((t.flip m).flip m) t = true := by
  induction t with
  | no => intro _; exact sameX_self .no
  | mk op a n s set len kid ih =>
    intro h
    rw [setsB_mk, Bool.and_eq_true, allX_true] at h
    obtain ⟨hk, hs⟩ := h
    have hset : (if op = 2 then flipL (if op = 2 then flipL set m else set) m else (if op = 2 then flipL set m else set)) = set := by
      by_cases h2 : op = 2
      · simp only [if_pos h2]
        rcases Bool.or_eq_true _ _ ▸ hs with h3 | h3
        · rw [Bool.and_eq_true] at h3; exact Go.Proofs.YtgbfflpdpfgnbaaGreat.flip_flip h3.2
        · have h0 : set = [] := List.eq_nil_of_length_eq_zero (of_decide_eq_true h3)
          subst h0
          exact Go.Proofs.YtgbfflpdpfgnbaaGreat.flip_flip setB_nil
      · simp only [if_neg h2]
    have e : ((X.mk op a n s set len kid).flip m).flip m = .mk op a n s set len (fun i => ((kid i).flip m).flip m) := by
      unfold X.flip
      rw [turn_mk, turn_mk, hset]
    rw [e, sameX_eq]
    have h1 : headX (.mk op a n s set len (fun i => ((kid i).flip m).flip m)) (.mk op a n s set len kid) = true := by simp [headX, same_self, X.op, X.n, X.s, X.set, X.len]
    rw [h1, Bool.true_and, allX_true]
    exact fun i hi => ih i (hk i hi)

/-- How many numbers its sets have, in all. -/
def X.nums : X → Nat | .no => 0 | .mk _ _ _ _ set len kid => set.length + sumX (fun i => (kid i).nums) len
theorem sumX_le2 {f g : Nat → Nat} (h : ∀ i, f i ≤ g i) (k : Nat) : sumX f k ≤ sumX g k := by
  induction k with
  | zero => exact Nat.le_refl _
  | succ k ih => simp only [sumX]; have := h k; omega
theorem sumX_add (f g : Nat → Nat) (k : Nat) : sumX (fun i => f i + g i) k = sumX f k + sumX g k := by
  induction k with
  | zero => rfl
  | succ k ih => simp only [sumX, ih]; omega
theorem sumX_mul (c : Nat) (f : Nat → Nat) (k : Nat) : sumX (fun i => c * f i) k = c * sumX f k := by
  induction k with
  | zero => rfl
  | succ k ih => simp only [sumX, ih, Nat.mul_add]
theorem X.nums_weight (t : X) : t.nums ≤ t.weight := by
  induction t with
  | no => exact Nat.le_refl _
  | mk op a n s set len kid ih =>
    unfold nums weight
    have := sumX_le2 ih len
    omega
theorem X.turn_nums (f : List Int → List Int) (hf : ∀ s, (f s).length ≤ s.length + 1) (t : X) : (t.turn f).nums ≤ t.nums + t.count := by
  induction t with
  | no => simp [turn, nums]
  | mk op a n s set len kid ih =>
    rw [turn_mk]
    unfold nums count
    have h1 := sumX_le2 ih len
    rw [sumX_add] at h1
    have h2 := hf set
    by_cases h : op = 2
    · simp only [if_pos h]; omega
    · simp only [if_neg h]; omega
/-- No set of more than m. -/
def X.SetsLe (m : Nat) : X → Prop
  | .no => True
  | .mk _ _ _ _ set len kid => set.length ≤ m ∧ ∀ i, i < len → (kid i).SetsLe m
theorem X.setsLe_weight {m : Nat} (t : X) : t.weight ≤ m → t.SetsLe m := by
  induction t with
  | no => intro _; trivial
  | mk op a n s set len kid ih =>
    intro h
    have e : (X.mk op a n s set len kid).weight = s.size + (set.length + (len + sumX (fun i => (kid i).weight) len)) := rfl
    refine ⟨by omega, fun i hi => ih i ?_⟩
    have := sumX_at (fun i => (kid i).weight) i len hi
    omega
theorem X.SetsLe.small {m : Nat} (hm : m ≤ 4194304) (t : X) : t.SetsLe m → t.Small := by
  induction t with
  | no => intro _; trivial
  | mk op a n s set len kid ih => intro h; exact ⟨Nat.le_trans h.1 hm, fun i hi => ih i (h.2 i hi)⟩
theorem X.SetsLe.turn {m : Nat} {f : List Int → List Int} (hf : ∀ s, (f s).length ≤ s.length + 1) (t : X) : t.SetsLe m → (t.turn f).SetsLe (m + 1) := by
  induction t with
  | no => intro _; trivial
  | mk op a n s set len kid ih =>
    intro h
    refine ⟨?_, fun i hi => ih i (h.2 i hi)⟩
    have h1 := h.1
    have h2 := hf set
    by_cases h3 : op = 2
    · simp only [if_pos h3]; omega
    · simp only [if_neg h3]; omega
theorem X.turn_small {f : List Int → List Int} (hf : ∀ s, (f s).length ≤ s.length + 1) (t : X) (h : t.weight ≤ 1048576) : (t.turn f).Small := X.SetsLe.small (m := 1048577) (by omega) _ ((X.setsLe_weight t h).turn hf)
end Go.Proofs.YtgbfflpdpfgnbaaGreat
