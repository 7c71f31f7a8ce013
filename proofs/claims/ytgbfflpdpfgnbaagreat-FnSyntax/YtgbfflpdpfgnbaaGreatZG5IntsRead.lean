/- impl's sets of ints, what makes a new list: copied, with. Condition: at most 2^22 of them. -/
import Derived.Test.YtgbfflpdpfgnbaaGreatZG1StxOwn
import Derived.Test.YtgbfflpdpfgnbaaGreatZG4IntsImpl
import Derived.Test.YtgbfflpdpfgnbaaGreatZG0Stx
import Derived.Deep.QuietTactic
import Derived.BigQuiet
import Derived.WalkSpells
import Derived.WalkSmall
namespace Go.Proofs.YtgbfflpdpfgnbaaGreat
open Go.ChangeShapes Go.WideShapes Go.ChangeAt Go.RowKit

set_option maxRecDepth 100000 in
set_option maxHeartbeats 1000000 in
theorem impl_copied (xs : List Int) (v : Value) (w : World) (hv : Rd w v xs) (hl : xs.length ≤ 4194304) :
    Calls Tryz.prog 31 #[v] w fun e w' => ∃ u, e = .returned u ∧ Below w.heap.size w w' ∧ Own w' w.heap.size u xs := by
  obtain ⟨a, cap, rfl, hc⟩ := hv.shape
  have HC : Hid (∀ j, j < xs.length → ∃ b off, a = some ⟨b, off, none⟩ ∧ w.cell? ⟨b, off + j, none⟩ = some (.int .i64 (xs.getD j 0))) := hc
  clear hc hv
  obtain ⟨m, hm⟩ : ∃ m, m = xs.length := ⟨_, rfl⟩
  rw [← hm] at HC hl ⊢
  have HM : Hid (m = xs.length) := hm
  clear hm
  obtain ⟨Z, hZ, hZl⟩ := made_ints m
  have hrun := run_make_row' (P := Tryz.prog) 50 3 (.int .i64 0) 8 Tryz.underlying50 int_info rfl .i64 .i64 m (by omega) (by omega) w
  rw [hZ] at hrun
  obtain ⟨X, hX⟩ : ∃ X, X = xs.map (Value.int .i64) := ⟨_, rfl⟩
  have HX : Hid (X = xs.map (Value.int .i64)) := hX
  have HZ : Hid (Z.length = m ∧ X.length = m) := ⟨hZl, by rw [hX, List.length_map, HM.out]⟩
  have HXC : Hid (∀ v ∈ X, v.oneCell' = true) := by show ∀ v ∈ X, _; rw [hX]; exact ints_cells xs
  have HP : Hid (∀ w2 : World, Below w.heap.size w w2 → 0 < X.length → ∃ ad, a = some ad ∧ ∀ j v, X[j]? = some v → w2.cell? (ad.add j) = some v) := by
    intro w2 hb h0
    rw [HZ.out.2] at h0
    obtain ⟨b, off, rfl, _⟩ := HC.out 0 h0
    refine ⟨_, rfl, fun j u hu => ?_⟩
    have hj : j < m := by rw [← HZ.out.2]; exact (List.getElem?_eq_some_iff.1 hu).1
    obtain ⟨b', off', he, hcell⟩ := HC.out j hj
    simp only [Option.some.injEq, Addr.mk.injEq, and_true] at he
    obtain ⟨rfl, rfl⟩ := he
    rw [Addr.add_lit, cell_later hb hcell]
    rw [hX] at hu
    rw [HM.out] at hj
    rw [getD_int xs j hj]
    simpa [List.getElem?_eq_getElem hj] using hu
  clear hZ hZl hX
  go_enter Tryz.func31, Tryz.ntmps31
  go_wp2_with (refine wpList_copy_splice rfl (.tmp 7) (.tmp 8) 50 50 rfl 3 Tryz.underlying50 (by kernel_rfl) (some ⟨w.heap.size, 0, none⟩) a m m m cap rfl rfl w.heap.size 0 Z 3 (heap_alloc_new w _) X (by rw [HZ.out.2]; simp) (fun h0 => ⟨rfl, HP.out _ (new_below w _) h0⟩) (by rw [HZ.out.1, HZ.out.2]; omega) HXC.out w.heap.size w (new_below w _) (Nat.le_refl _) ?_; intro w2 hg2 hb2)
  go_ret
  refine ⟨_, rfl, hb2, ?_⟩
  have h := hg2.out
  rw [splice_all (by rw [HZ.out.1, HZ.out.2]), HX.out] at h
  have := own_heap (base := w.heap.size) h (Nat.le_refl _) (by rw [← HM.out]; unfold maxLen; omega)
  rw [← HM.out] at this
  exact this

theorem row_facts {w : World} {g : Nat} {L : List Value} {at_ : Nat} (hg : w.heap[g]? = some (.cells L.toArray 3 (0, 0))) (h : at_ < L.length) :
    (∃ u, w.cell? ⟨g, at_, none⟩ = some u) ∧ w.frozen? ⟨g, at_, none⟩ = false := by
  refine ⟨⟨L[at_], ?_⟩, frozen_of_row w g at_ _ _ hg⟩
  rw [cell_of_row w g at_ _ _ _ hg]
  simp [h]

theorem row_set {w : World} {g : Nat} {L : List Value} {at_ : Nat} {u : Value} (hg : w.heap[g]? = some (.cells L.toArray 3 (0, 0))) :
    (w.setCell ⟨g, at_, none⟩ u).heap[g]? = some (.cells (L.set at_ u).toArray 3 (0, 0)) := by
  have := heap_setCell_same w g at_ L.toArray 3 u hg
  simpa using this

set_option maxRecDepth 100000 in
set_option maxHeartbeats 2000000 in
theorem impl_with_no (xs : List Int) (n : Int) (b off cap : Nat) (w : World) (hv : Rd w (.slice (some ⟨b, off, none⟩) xs.length cap) xs) (hl : xs.length ≤ 4194304) (hh : hasB xs n = false) :
    Calls Tryz.prog 65 #[.slice (some ⟨b, off, none⟩) xs.length cap, .int .i64 n] w fun e w' => ∃ u, e = .returned u ∧ Below w.heap.size w w' ∧ Own w' w.heap.size u (withL xs n) := by
  have HV : Hid (Rd w (.slice (some ⟨b, off, none⟩) xs.length cap) xs) := hv
  have HH : Hid (hasB xs n = false) := hh
  have hcap : xs.length ≤ cap := by
    rcases hv with ⟨h, _⟩ | ⟨b', off', cap', h, hl, _⟩
    · simp at h
    · simp only [Value.slice.injEq, true_and] at h; rw [h.2]; exact hl
  have hc : ∀ j, j < xs.length → w.cell? ⟨b, off + j, none⟩ = some (.int .i64 (xs.getD j 0)) := by
    rcases hv with ⟨h, _⟩ | ⟨b', off', cap', h, _, hc⟩
    · simp at h
    · simp only [Value.slice.injEq, Option.some.injEq, Addr.mk.injEq, and_true, true_and] at h
      obtain ⟨⟨rfl, rfl⟩, _⟩ := h
      exact hc
  have HW : Hid (withL xs n = xs.take (placeL xs n) ++ n :: xs.drop (placeL xs n)) := with_no hh
  have hat := place_le xs n
  have HPC : Hid (∀ w, Rd w (.slice (some ⟨b, off, none⟩) xs.length cap) xs → Calls Tryz.prog 79 #[.slice (some ⟨b, off, none⟩) xs.length cap, .int .i64 n] w fun e w' => e = .returned (.int .i64 (placeL xs n : Int)) ∧ w' = w) := fun w h => impl_place xs _ n w h hl
  have HHC : Hid (Calls Tryz.prog 76 #[.slice (some ⟨b, off, none⟩) xs.length cap, .int .i64 n] w fun e w' => e = .returned (.bool false) ∧ w' = w) := by
    have := impl_has xs _ n w hv hl
    rw [hh] at this
    exact this
  generalize placeL xs n = p at *
  obtain ⟨X1, hX1⟩ : ∃ X, X = (xs.take p).map (Value.int .i64) := ⟨_, rfl⟩
  obtain ⟨X2, hX2⟩ : ∃ X, X = (xs.drop p).map (Value.int .i64) := ⟨_, rfl⟩
  have h1 : X1.length = p := by rw [hX1]; simp; omega
  have h2 : X2.length = xs.length - p := by rw [hX2]; simp
  have HX : Hid ((withL xs n).map (Value.int .i64) = X1 ++ .int .i64 n :: X2) := by show _ = _; rw [HW.out, hX1, hX2]; simp
  have HC1 : Hid (∀ v ∈ X1, v.oneCell' = true) := by show ∀ v ∈ X1, _; rw [hX1]; exact ints_cells _
  have HC2 : Hid (∀ v ∈ X2, v.oneCell' = true) := by show ∀ v ∈ X2, _; rw [hX2]; exact ints_cells _
  have HS1 : Hid (∀ w2 : World, Below w.heap.size w w2 → ∀ j v, X1[j]? = some v → w2.cell? ((⟨b, off, none⟩ : Addr).add j) = some v) := by
    intro w2 hb j u hu
    have hj : j < p := by rw [← h1]; exact (List.getElem?_eq_some_iff.1 hu).1
    have hj2 : j < xs.length := by omega
    rw [Addr.add_lit, cell_later hb (hc j hj2), getD_int xs j hj2]
    rw [hX1] at hu
    simpa [List.getElem?_take, hj, List.getElem?_eq_getElem hj2] using hu
  have HS2 : Hid (∀ w2 : World, Below w.heap.size w w2 → ∀ j v, X2[j]? = some v → w2.cell? ((⟨b, off + p, none⟩ : Addr).add j) = some v) := by
    intro w2 hb j u hu
    have hj : j < xs.length - p := by rw [← h2]; exact (List.getElem?_eq_some_iff.1 hu).1
    have hj2 : p + j < xs.length := by omega
    rw [Addr.add_lit, Nat.add_assoc, cell_later hb (hc (p + j) hj2), getD_int xs (p + j) hj2]
    rw [hX2] at hu
    simpa [List.getElem?_drop, List.getElem?_eq_getElem hj2] using hu
  have HWL : Hid ((withL xs n).length = xs.length + 1) := by show _ = _; rw [HW.out]; simp; omega
  have HL1 : Hid (X1.length = p) := h1
  have HL2 : Hid (X2.length = xs.length - p) := h2
  clear hX1 hX2 h1 h2 hc hv hh HW
  obtain ⟨m, hm⟩ : ∃ m, m = xs.length := ⟨_, rfl⟩
  rw [← hm] at hl hcap hat HL2 HWL HV HPC HHC ⊢
  clear hm
  obtain ⟨Z, hZ, hZl⟩ := made_ints (m + 1)
  have hrun := run_make_row' (P := Tryz.prog) 50 3 (.int .i64 0) 8 Tryz.underlying50 int_info rfl .i64 .i64 (m + 1) (by omega) (by omega) w
  rw [hZ, show ((m + 1 : Nat) : Int) = (m : Int) + 1 from by omega] at hrun
  have HZ : Hid (Z.length = m + 1) := hZl
  clear hZ hZl
  obtain ⟨g, hg⟩ : ∃ g, g = w.heap.size := ⟨_, rfl⟩
  have HG : Hid (g = w.heap.size) := hg
  clear hg
  go_enter Tryz.func65, Tryz.ntmps65
  go_wp2_with fail
  refine HHC.out.mono ?_
  rintro e w1 ⟨rfl, hw1⟩
  subst w1
  go_wp2_with fail
  refine (HPC.out _ HV.out).mono ?_
  rintro e w2 ⟨rfl, hw2⟩
  subst w2
  go_wp2_with (refine wpList_copy_splice rfl (.tmp 19) (.tmp 22) 50 50 rfl 3 Tryz.underlying50 (by kernel_rfl) (some ⟨w.heap.size, 0, none⟩) (some ⟨b, off, none⟩) (m + 1) (m + 1) p cap rfl rfl w.heap.size 0 Z 3 (heap_alloc_new w _) X1 (by rw [HL1.out]; exact (Nat.min_eq_left (by omega)).symm) (fun h0 => ⟨rfl, _, rfl, HS1.out _ (new_below w _)⟩) (by rw [HZ.out, HL1.out]; omega) HC1.out w.heap.size w (new_below w _) (Nat.le_refl _) ?_; intro w2 hg2 hb2; obtain ⟨⟨u2, hu2⟩, hf2⟩ := row_facts hg2.out (show p < (splice Z 0 X1).length by rw [length_splice _ _ _ (by rw [HZ.out, HL1.out]; omega), HZ.out]; omega))
  have hg3 := row_set (at_ := p) (u := .int .i64 n) hg2.out
  have hb3 : Below w.heap.size w (w2.setCell ⟨w.heap.size, p, none⟩ (.int .i64 n)) := hb2.setCell (Nat.le_refl _) _
  have HW3 : Hid ((w2.setCell ⟨w.heap.size, p, none⟩ (.int .i64 n)).heap[w.heap.size]? = some (.cells ((splice Z 0 X1).set p (.int .i64 n)).toArray 3 (0, 0)) ∧ Below w.heap.size w (w2.setCell ⟨w.heap.size, p, none⟩ (.int .i64 n))) := ⟨hg3, hb3⟩
  clear hg3 hb3 hg2 hb2 hu2 hf2
  generalize w2.setCell ⟨w.heap.size, p, none⟩ (.int .i64 n) = w3 at *
  have hwr : IntKind.i64.wrap ((p : Int) + 1) = (p : Int) + 1 := by rw [IntKind.wrap_i64]; omega
  have hp0 : (0 : Int) ≤ (p : Int) + 1 := by omega
  have hp1 : (p : Int) + 1 ≤ (m : Int) + 1 := by omega
  have hpn : ((p : Int) + 1).toNat = p + 1 := by omega
  by_cases hpm : p < m
  · have hcp : ¬ cap = p := by omega
    have hmp : ¬ m = p := by omega
    have HN : Hid (X2.length = Nat.min (m - p) (m - p)) := by show _ = _; rw [HL2.out]; exact (Nat.min_eq_left (Nat.le_refl _)).symm
    have HPOS : Hid (0 < X2.length → (some (⟨w.heap.size, p + 1, none⟩ : Addr)) = some ⟨w.heap.size, p + 1, none⟩ ∧ ∃ ad, (some (⟨b, off + p, none⟩ : Addr)) = some ad ∧ ∀ j v, X2[j]? = some v → w3.drew.cell? (ad.add j) = some v) := fun _ => ⟨rfl, _, rfl, HS2.out _ HW3.out.2.drew⟩
    have HFIT : Hid (p + 1 + X2.length ≤ ((splice Z 0 X1).set p (.int .i64 n)).length) := by
      show _ ≤ _
      rw [List.length_set, length_splice _ _ _ (by rw [HZ.out, HL1.out]; omega), HZ.out, HL2.out]; omega
    obtain ⟨w4, hcopy, hg4, hb4⟩ := copy_run (P := Tryz.prog) 50 50 3 3 Tryz.underlying50 (by kernel_rfl) (some ⟨w.heap.size, p + 1, none⟩) (some ⟨b, off + p, none⟩) (m - p) (m - p) (m - p) (cap - p) w.heap.size (p + 1) ((splice Z 0 X1).set p (.int .i64 n)) 3 (w := w3.drew) HW3.out.1 X2 HN.out HPOS.out HFIT.out HC2.out w.heap.size w HW3.out.2.drew (Nat.le_refl _)
    have HW4 : Hid (w4.heap[w.heap.size]? = some (.cells (splice ((splice Z 0 X1).set p (.int .i64 n)) (p + 1) X2).toArray 3 (0, 0)) ∧ Below w.heap.size w w4) := ⟨hg4, hb4⟩
    clear hg4 hb4
    go_region
    all_goals
      go_wp2
      go_ret
      refine ⟨_, rfl, HW4.out.2, ?_⟩
      have h := HW4.out.1
      rw [splice_two HL1.out (by rw [HZ.out, HL2.out]; omega), ← HX.out] at h
      have := own_heap (base := w.heap.size) h (Nat.le_refl _) (by rw [HWL.out]; unfold maxLen; omega)
      rw [HWL.out] at this
      exact this
  · have hpe : p = m := by omega
    subst hpe
    have hX2 : X2 = [] := List.eq_nil_of_length_eq_zero (by rw [HL2.out]; omega)
    subst hX2
    have hcopy : ∀ dp sp dCap sCap, (Builtin.copy_ #[50, 50] 3 #[.slice dp 0 dCap, .slice sp 0 sCap]).run Tryz.prog w3.drew = .ok (.int .i64 0) w3.drew := fun dp sp dCap sCap => run_copy_none (P := Tryz.prog) w3.drew 50 50 3 3 dp sp 0 dCap 0 sCap Tryz.underlying50 (by kernel_rfl) (by simp)
    go_region
    all_goals go_wp2
    all_goals
      go_ret
      refine ⟨_, rfl, HW3.out.2.drew, ?_⟩
      have h := HW3.out.1
      rw [show (splice Z 0 X1).set p (.int .i64 n) = splice ((splice Z 0 X1).set p (.int .i64 n)) (p + 1) [] from by unfold splice; simp, splice_two HL1.out (by rw [HZ.out]; simp), ← HX.out] at h
      have := own_heap (base := w.heap.size) h (Nat.le_refl _) (by rw [HWL.out]; unfold maxLen; omega)
      rw [HWL.out] at this
      exact this

set_option maxRecDepth 100000 in
set_option maxHeartbeats 2000000 in
theorem impl_with_nil (n : Int) (w : World) :
    Calls Tryz.prog 65 #[.slice none 0 0, .int .i64 n] w fun e w' => ∃ u, e = .returned u ∧ Below w.heap.size w w' ∧ Own w' w.heap.size u [n] := by
  have hrun := run_make_row' (P := Tryz.prog) 50 3 (.int .i64 0) 8 Tryz.underlying50 int_info rfl .i64 .i64 1 (by omega) (by omega) w
  obtain ⟨Z, hZ, hZl⟩ := made_ints 1
  rw [hZ, show ((1 : Nat) : Int) = 1 from rfl] at hrun
  obtain ⟨z, rfl⟩ : ∃ z, Z = [z] := by
    match Z, hZl with
    | [z], _ => exact ⟨z, rfl⟩
  have hcopy : ∀ W dp sp dLen dCap sCap, (Builtin.copy_ #[50, 50] 3 #[.slice dp dLen dCap, .slice sp 0 sCap]).run Tryz.prog W = .ok (.int .i64 0) W := fun W dp sp dLen dCap sCap => run_copy_none (P := Tryz.prog) W 50 50 3 3 dp sp dLen dCap 0 sCap Tryz.underlying50 (by kernel_rfl) (by simp)
  have HH := impl_has [] (.slice none 0 0) n w (.inl ⟨rfl, rfl⟩) (by simp)
  have HP := impl_place [] (.slice none 0 0) n w (.inl ⟨rfl, rfl⟩) (by simp)
  rw [show hasB [] n = false from rfl] at HH
  rw [show placeL [] n = 0 from rfl] at HP
  clear hZ hZl
  go_enter Tryz.func65, Tryz.ntmps65
  go_wp2_with fail
  refine HH.mono ?_
  rintro e w1 ⟨rfl, hw1⟩
  subst w1
  go_wp2_with fail
  refine HP.mono ?_
  rintro e w2 ⟨rfl, hw2⟩
  subst w2
  go_wp2_with fail
  go_region
  all_goals
    go_wp2
    go_ret
    exact ⟨_, rfl, (new_below w _).drew, own_heap (xs := [n]) (base := w.heap.size) (heap_alloc_new w _) (Nat.le_refl _) (by unfold maxLen; simp)⟩

set_option maxRecDepth 100000 in
set_option maxHeartbeats 1000000 in
theorem impl_with_yes (xs : List Int) (n : Int) (v : Value) (w : World) (hv : Rd w v xs) (hl : xs.length ≤ 4194304) (hh : hasB xs n = true) :
    Calls Tryz.prog 65 #[v, .int .i64 n] w fun e w' => ∃ u, e = .returned u ∧ Below w.heap.size w w' ∧ Own w' w.heap.size u (withL xs n) := by
  have HH := impl_has xs v n w hv hl
  rw [hh] at HH
  go_enter Tryz.func65, Tryz.ntmps65
  go_wp2_with fail
  refine HH.mono ?_
  rintro e w1 ⟨rfl, hw1⟩
  subst w1
  go_wp2_with fail
  refine (impl_copied xs v w hv hl).mono ?_
  rintro e w2 ⟨u, rfl, hb, ho⟩
  have HB : Hid (Below w.heap.size w w2 ∧ Own w2 w.heap.size u xs) := ⟨hb, ho⟩
  clear hb ho
  go_wp2
  go_ret
  exact ⟨_, rfl, HB.out.1, by rw [with_yes hh]; exact HB.out.2⟩

theorem impl_with_m (xs : List Int) (n : Int) (v : Value) (w : World) (hv : Rd w v xs) (hl : xs.length ≤ 4194304) :
    Calls Tryz.prog 65 #[v, .int .i64 n] w fun e w' => ∃ u, e = .returned u ∧ Below w.heap.size w w' ∧ Own w' w.heap.size u (withL xs n) := by
  cases hh : hasB xs n with
  | true => exact impl_with_yes xs n v w hv hl hh
  | false =>
    have hv' := hv
    rcases hv with ⟨rfl, rfl⟩ | ⟨b, off, cap, rfl, _⟩
    · exact impl_with_nil n w
    · exact impl_with_no xs n b off cap w hv' hl hh

set_option maxHeartbeats 1000000 in
theorem impl_with (xs : List Int) (n : Int) (v : Value) (w : World) (hv : Rd w v xs) (hl : xs.length ≤ 4194304) :
    Calls Tryz.prog 42 #[v, .int .i64 n] w fun e w' => ∃ u, e = .returned u ∧ Below w.heap.size w w' ∧ Own w' w.heap.size u (withL xs n) := by
  go_enter Tryz.func42, Tryz.ntmps42
  go_wp2_with fail
  refine (impl_with_m xs n v w hv hl).mono ?_
  rintro e w2 ⟨u, rfl, hb, ho⟩
  have HB : Hid (Below w.heap.size w w2 ∧ Own w2 w.heap.size u (withL xs n)) := ⟨hb, ho⟩
  clear hb ho
  go_wp2
  go_ret
  exact ⟨_, rfl, HB.out⟩
end Go.Proofs.YtgbfflpdpfgnbaaGreat

/- impl's and the specification's sets of ints: without a number, flipped. Condition: at most 2^22 of them. -/
namespace Go.Proofs.YtgbfflpdpfgnbaaGreat
open Go.ChangeShapes Go.WideShapes Go.ChangeAt Go.RowKit

theorem one_new (w : World) (x : Value) (t : TypeId) : ∀ ad, some (⟨w.heap.size, 0, none⟩ : Addr) = some ad → ∀ j u, [x][j]? = some u → (w.alloc (.cells #[x] t)).cell? (ad.add j) = some u := by
  intro ad h j u hu
  obtain rfl := Option.some.inj h
  match j, hu with
  | 0, hu =>
    simp at hu
    subst hu
    rw [Addr.add_lit, cell_of_row _ _ _ _ _ _ (heap_alloc_new w (.cells #[x] t))]
    rfl

theorem own_push {B : Nat} {w wr w1 : World} {r0 v' : Value} {L : List Int} {x : Int} {t : TypeId} (h : Own wr B r0 L) (hb : Below B w wr) (hB : B ≤ wr.heap.size)
    (h1 : w1.ownsRow B 3 1 v' (L.length + 1) (L.map (Value.int .i64) ++ [.int .i64 x])) (hg : (wr.alloc (.cells #[.int .i64 x] t)).grownBy w1 r0.ownBlock) : Own w1 B v' (L ++ [x]) ∧ Below B w w1 := by
  refine ⟨?_, ?_⟩
  · unfold Own
    rw [List.length_append, List.length_singleton, List.map_append]
    exact h1
  · exact (hb.alloc hB _).grown hg (by simp; omega) (fun k hk => (h.lt k hk).1)

set_option maxRecDepth 100000 in
set_option maxHeartbeats 1000000 in
theorem impl_without_m (xs : List Int) (n : Int) (v : Value) (w : World) (hv : Rd w v xs) (hl : xs.length ≤ 4194304) :
    Calls Tryz.prog 77 #[v, .int .i64 n] w fun e w' => ∃ u, e = .returned u ∧ Below w.heap.size w w' ∧ Own w' w.heap.size u (withoutL xs n) := by
  obtain ⟨a, cap, rfl, hc⟩ := hv.shape
  have HC : Hid (∀ j, j < xs.length → ∃ b off, a = some ⟨b, off, none⟩ ∧ w.cell? ⟨b, off + j, none⟩ = some (.int .i64 (xs.getD j 0))) := hc
  clear hc hv
  obtain ⟨m, hm⟩ : ∃ m, m = xs.length := ⟨_, rfl⟩
  rw [← hm] at HC hl ⊢
  have HM : Hid (m = xs.length) := hm
  clear hm
  obtain ⟨i0, hi, hz0, hz1, hz2⟩ := info_parts int_info
  obtain ⟨w1, hrun, hown, hg⟩ := run_make_own (P := Tryz.prog) w w.heap.size 50 3 i0 _ 1 Tryz.underlying50 hi hz0 hz1 .i64 .i64 m (by rw [hz2]; omega) (by unfold maxLen; omega) (Nat.le_refl _)
  have HW : Hid (Own w1 w.heap.size (.slice (some ⟨w.heap.size, 0, none⟩) 0 m) [] ∧ Below w.heap.size w w1) := ⟨hown, ⟨hg.os, hg.tape, hg.output, hg.size, fun k hk => hg.block k hk (by simp)⟩⟩
  clear hown hg
  go_enter Tryz.func77, Tryz.ntmps77
  go_wp2_with fail
  clear hrun
  go_loopw [5, 13] (fun r i wr => ∃ (k : Nat) (r0 : Value), r0 = r ∧ i = .int .i64 k ∧ k ≤ m ∧ Own wr w.heap.size r0 (withoutL (xs.take k) n) ∧ Below w.heap.size w wr) (fun _ i _ => m - (intOf i).toNat)
  case atStart => exact ⟨0, _, rfl, rfl, by omega, by simpa [withoutL] using HW.out.1, HW.out.2⟩
  case round =>
    obtain ⟨k, r0, rfl, rfl, hk, hown, hbel⟩ := hrel
    have HOW : Hid (Own wr w.heap.size r0 (withoutL (xs.take k) n)) := hown
    have HB : Hid (Below w.heap.size w wr) := hbel
    clear hown hbel HW
    by_cases hlt : (k : Int) < m
    · have HK : Hid (k < xs.length) := by show k < _; rw [← HM.out]; omega
      have hlen : (withoutL (xs.take k) n).length ≤ m := by
        have := without_len (xs.take k) n
        have h2 := HK.out
        rw [List.length_take] at this
        omega
      obtain ⟨b, off, rfl, hcell⟩ := HC.out k (by omega)
      have HS := without_succ xs n k HK.out
      generalize hx : xs.getD k 0 = x at hcell HS
      have hcell1 := cell_later HB.out hcell
      generalize withoutL (xs.take k) n = L at *
      have HSS : Hid (withoutL (xs.take (k + 1)) n = L ++ if (x != n) = true then [x] else []) := HS
      clear hcell hx HS
      cases he : (x != n)
      · go_wp2
        go_roundw
        case rel =>
          have h := HSS.out
          rw [if_neg (by simp [he]), List.append_nil] at h
          exact ⟨k + 1, _, rfl, by go_num, by omega, by rw [h]; exact HOW.out, HB.out⟩
        case measure => simp [intOf]; omega
      · have HSZ : Hid (w.heap.size ≤ wr.heap.size) := HB.out.size
        go_wp2_with (at_builtin; refine wpList_append_any _ rfl (.tmp 20) (.tmp 22) 50 rfl w.heap.size 3 i0 (.int .i64 0) 1 8 Tryz.underlying50 hi hz0 hz1 hz2 rfl (by decide) r0 L.length (L.map (Value.int .i64)) rfl (World.ownsRow.alloc HOW.out _) (some ⟨wr.heap.size, 0, none⟩) 1 1 [.int .i64 x] rfl rfl (by simp) (one_new wr _ _) (by simp [Value.oneCell']) (by unfold maxLen; omega) (by omega) (by have := HSZ.out; simp; omega) ?_; intro v' w2 hown2 hg2)
        have R := own_push HOW.out HB.out HSZ.out hown2.out hg2.out
        have HR : Hid (Own w2 w.heap.size v' (L ++ [x]) ∧ Below w.heap.size w w2) := R
        clear R hown2 hg2
        go_roundw
        case rel =>
          have h := HSS.out
          rw [if_pos he] at h
          exact ⟨k + 1, _, rfl, by go_num, by omega, by rw [h]; exact HR.out.1, HR.out.2⟩
        case measure => simp [intOf]; omega
    · go_wp2
      go_ret
      have hke : k = m := by omega
      have h := HOW.out
      rw [hke, HM.out, List.take_length] at h
      exact ⟨_, rfl, HB.out, h⟩

set_option maxRecDepth 100000 in
set_option maxHeartbeats 1000000 in
theorem impl_flip_m (xs : List Int) (n : Int) (v : Value) (w : World) (hv : Rd w v xs) (hl : xs.length ≤ 4194304) :
    Calls Tryz.prog 61 #[v, .int .i64 n] w fun e w' => ∃ u, e = .returned u ∧ Below w.heap.size w w' ∧ Own w' w.heap.size u (flipL xs n) := by
  have HH := impl_has xs v n w hv hl
  cases hh : hasB xs n with
  | true =>
    rw [hh] at HH
    have HF : Hid (flipL xs n = withoutL xs n) := flip_yes hh
    clear hh
    go_enter Tryz.func61, Tryz.ntmps61
    go_wp2_with fail
    refine HH.mono ?_
    rintro e w1 ⟨rfl, hw1⟩
    subst w1
    go_wp2_with fail
    refine (impl_without_m xs n v w hv hl).mono ?_
    rintro e w2 ⟨u, rfl, hb, ho⟩
    have HB : Hid (Below w.heap.size w w2 ∧ Own w2 w.heap.size u (withoutL xs n)) := ⟨hb, ho⟩
    clear hb ho
    go_wp2
    go_ret
    exact ⟨_, rfl, HB.out.1, by rw [HF.out]; exact HB.out.2⟩
  | false =>
    rw [hh] at HH
    have HF : Hid (flipL xs n = withL xs n) := flip_no hh
    clear hh
    go_enter Tryz.func61, Tryz.ntmps61
    go_wp2_with fail
    refine HH.mono ?_
    rintro e w1 ⟨rfl, hw1⟩
    subst w1
    go_wp2_with fail
    refine (impl_with_m xs n v w hv hl).mono ?_
    rintro e w2 ⟨u, rfl, hb, ho⟩
    have HB : Hid (Below w.heap.size w w2 ∧ Own w2 w.heap.size u (withL xs n)) := ⟨hb, ho⟩
    clear hb ho
    go_wp2
    go_ret
    exact ⟨_, rfl, HB.out.1, by rw [HF.out]; exact HB.out.2⟩

set_option maxHeartbeats 1000000 in
theorem impl_flip (xs : List Int) (n : Int) (v : Value) (w : World) (hv : Rd w v xs) (hl : xs.length ≤ 4194304) :
    Calls Tryz.prog 38 #[v, .int .i64 n] w fun e w' => ∃ u, e = .returned u ∧ Below w.heap.size w w' ∧ Own w' w.heap.size u (flipL xs n) := by
  go_enter Tryz.func38, Tryz.ntmps38
  go_wp2_with fail
  refine (impl_flip_m xs n v w hv hl).mono ?_
  rintro e w2 ⟨u, rfl, hb, ho⟩
  have HB : Hid (Below w.heap.size w w2 ∧ Own w2 w.heap.size u (flipL xs n)) := ⟨hb, ho⟩
  clear hb ho
  go_wp2
  go_ret
  exact ⟨_, rfl, HB.out⟩
end Go.Proofs.YtgbfflpdpfgnbaaGreat

/- spec.l4Has, spec.SetOk, spec.Within, spec.SameSet at every list of ints. Condition: at most 2^22 of them. -/
namespace Go.Proofs.YtgbfflpdpfgnbaaGreat
open Go.ChangeShapes Go.WideShapes Go.ChangeAt Go.RowKit

set_option maxHeartbeats 1000000 in
theorem spec_has (xs : List Int) (v : Value) (n : Int) (w : World) (hv : Rd w v xs) (hl : xs.length ≤ 4194304) :
    Calls Tryz.prog 63 #[v, .int .i64 n] w fun e w' => e = .returned (.bool (hasB xs n)) ∧ w' = w := by
  obtain ⟨a, cap, rfl, hc⟩ := hv.shape
  have HC : Hid (∀ j, j < xs.length → ∃ b off, a = some ⟨b, off, none⟩ ∧ w.cell? ⟨b, off + j, none⟩ = some (.int .i64 (xs.getD j 0))) := hc
  clear hc hv
  obtain ⟨m, hm⟩ : ∃ m, m = xs.length := ⟨_, rfl⟩
  rw [← hm] at HC hl ⊢
  have HM : Hid (m = xs.length) := hm
  clear hm
  go_enter Tryz.func63, Tryz.ntmps63
  go_wp2
  go_loop [5] (fun i => ∃ k : Nat, k ≤ m ∧ i = .int .i64 k ∧ ∀ j, j < k → (xs.getD j 0 == n) = false) (fun i => m - (intOf i).toNat)
  case atStart => exact ⟨0, by omega, rfl, fun j hj => by omega⟩
  case round =>
    obtain ⟨k, hk, rfl, hno⟩ := hrel
    have HNO : Hid (∀ j, j < k → (xs.getD j 0 == n) = false) := hno
    clear hno
    by_cases hlt : (k : Int) < m
    · obtain ⟨b, off, rfl, hcell⟩ := HC.out k (by omega)
      generalize hx : xs.getD k 0 = x at hcell
      have HX : Hid (xs.getD k 0 = x) := hx
      clear hx
      cases he : (x == n)
      · go_wp2
        go_round
        case rel =>
          refine ⟨k + 1, by omega, by go_num, fun j hj => ?_⟩
          by_cases hjk : j = k
          · subst hjk; rw [HX.out]; exact he
          · exact HNO.out j (by omega)
        case measure => simp [intOf]; omega
      · go_wp2
        go_ret
        have hh : k < xs.length := by rw [← HM.out]; omega
        rw [has_yes k hh (by rw [HX.out]; exact he)]
        exact ⟨rfl, rfl⟩
    · go_wp2
      go_ret
      have hke : k = m := by omega
      subst hke
      rw [has_no (fun i hi => HNO.out i (by rw [HM.out]; exact hi))]
      exact ⟨rfl, rfl⟩

set_option maxHeartbeats 1000000 in
theorem spec_setok (xs : List Int) (v : Value) (w : World) (hv : Rd w v xs) (hl : xs.length ≤ 4194304) :
    Calls Tryz.prog 69 #[v] w fun e w' => e = .returned (.bool (setB xs)) ∧ Below w.heap.size w w' := by
  obtain ⟨a, cap, rfl, hc⟩ := hv.shape
  have HC : Hid (∀ j, j < xs.length → ∃ b off, a = some ⟨b, off, none⟩ ∧ w.cell? ⟨b, off + j, none⟩ = some (.int .i64 (xs.getD j 0))) := hc
  clear hc hv
  obtain ⟨m, hm⟩ : ∃ m, m = xs.length := ⟨_, rfl⟩
  rw [← hm] at HC hl ⊢
  have HM : Hid (m = xs.length) := hm
  clear hm
  go_enter Tryz.func69, Tryz.ntmps69
  go_wp2
  go_loopw [3] (fun i wr => ∃ k : Nat, k ≤ m ∧ i = .int .i64 k ∧ (∀ j, j < k → standsB xs j = true) ∧ Below w.heap.size w wr) (fun i _ => m - (intOf i).toNat)
  case atStart => exact ⟨0, by omega, rfl, fun j hj => by omega, Below.refl _ _⟩
  case round =>
    obtain ⟨k, hk, rfl, hno, hb⟩ := hrel
    have HNO : Hid (∀ j, j < k → standsB xs j = true) := hno
    have HB : Hid (Below w.heap.size w wr) := hb
    clear hno hb
    have hup : ∀ (b : Bool), standsB xs k = b → b = true → ∀ j, j < k + 1 → standsB xs j = true := by
      intro b h1 h2 j hj
      by_cases hjk : j = k
      · subst hjk; rw [h1, h2]
      · exact HNO.out j (by omega)
    have HUP : Hid (∀ (b : Bool), standsB xs k = b → b = true → ∀ j, j < k + 1 → standsB xs j = true) := hup
    clear hup
    by_cases hlt : (k : Int) < m
    · have HK : Hid (k < xs.length) := by show k < _; rw [← HM.out]; omega
      obtain ⟨b, off, rfl, hcell⟩ := HC.out k (by omega)
      generalize hx : xs.getD k 0 = x at hcell
      have HX : Hid (xs.getD k 0 = x) := hx
      clear hx
      have hcell1 := cell_later HB.out hcell
      clear hcell
      by_cases h0 : x < 0
      · have d0 : decide (x < 0) = true := by simpa using h0
        go_wp2_with fail
        go_quiet (fail)
        go_wp2
        go_ret
        have hs : standsB xs k = false := by unfold standsB; rw [HX.out]; simp; omega
        rw [set_no k HK.out hs]
        exact ⟨rfl, below_drewN HB.out _⟩
      · have d0 : decide (x < 0) = false := by simpa using h0
        by_cases hk0 : 0 < k
        · have dk : decide (0 < k) = true := by simpa using hk0
          obtain ⟨b', off', hbb, hcell⟩ := HC.out (k - 1) (by omega)
          simp only [Option.some.injEq, Addr.mk.injEq, and_true] at hbb
          obtain ⟨rfl, rfl⟩ := hbb
          generalize hy : xs.getD (k - 1) 0 = y at hcell
          have HY : Hid (xs.getD (k - 1) 0 = y) := hy
          clear hy
          have hcell2 := cell_later HB.out hcell
          clear hcell
          have hs : standsB xs k = decide (y < x) := by
            unfold standsB; rw [HX.out, HY.out, decide_eq_true (by omega : 0 ≤ x), decide_eq_false (by omega : ¬ k = 0)]; simp
          have HS : Hid (standsB xs k = decide (y < x)) := hs
          clear hs
          have e1 : (((k : Int) - 1).toNat) = k - 1 := by omega
          by_cases hyx : x ≤ y
          · go_wp2_with fail
            go_quiet (fail)
            go_wp2
            go_ret
            rw [set_no k HK.out (by rw [HS.out]; simp; omega)]
            exact ⟨rfl, below_drewN HB.out _⟩
          · have d1 : decide (x ≤ y) = false := by simpa using hyx
            go_wp2_with fail
            go_quiet (fail)
            go_wp2
            go_roundw
            case rel => exact ⟨k + 1, by omega, by go_num, HUP.out _ HS.out (by simp; omega), below_drewN HB.out _⟩
            case measure => simp [intOf]; omega
        · have dk : decide (0 < k) = false := by simpa using hk0
          have hs : standsB xs k = true := by
            unfold standsB; rw [HX.out, decide_eq_true (by omega : 0 ≤ x), decide_eq_true (by omega : k = 0)]; rfl
          have HS : Hid (standsB xs k = true) := hs
          clear hs
          go_wp2_with fail
          go_quiet (fail)
          go_wp2
          go_roundw
          case rel => exact ⟨k + 1, by omega, by go_num, HUP.out _ HS.out rfl, below_drewN HB.out _⟩
          case measure => simp [intOf]; omega
    · go_wp2
      go_ret
      have hke : k = m := by omega
      subst hke
      rw [set_yes (fun i hi => HNO.out i (by rw [HM.out]; exact hi))]
      exact ⟨rfl, HB.out⟩

end Go.Proofs.YtgbfflpdpfgnbaaGreat
