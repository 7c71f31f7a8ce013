/- slices.Repeat of a slice of one int: a row of one's own. Conditions: once at least, at most 2^30 times. -/
import Derived.Test.YtkbbfgfmlilfbaaDoorRows
import Derived.Test.YtkbbfgfmlilfbaaDoorMul
import Derived.Test.YtkbbfgfmlilfbaaDoorIntsOwn
import Derived.Test.YtkbbfgfmlilfbaaDoorDat
import Derived.Test.YtkbbfgfmlilfbaaDoorAppendOne
import Derived.Deep.RegionWith
import Derived.Deep.CutRange
namespace Go.Proofs.YtkbbfgfmlilfbaaDoor
open Go.ChangeShapes Go.WideShapes Go.ChangeAt Go.RowKit

/-- A row of m ints of which the first n are z. -/
def Filled (g m n : Nat) (z : Int) (w : World) : Prop := ∃ L : List Value, w.heap[g]? = some (.cells L.toArray 3 (0, 0)) ∧ L.length = m ∧ ∀ i, i < n → L[i]? = some (.int .i64 z)
theorem splice_filled {L : List Value} {m n c : Nat} {z : Int} (hl : L.length = m) (hf : ∀ i, i < n → L[i]? = some (.int .i64 z)) (hc : n + c ≤ m) :
    (splice L n (List.replicate c (.int .i64 z))).length = m ∧ ∀ i, i < n + c → (splice L n (List.replicate c (.int .i64 z)))[i]? = some (.int .i64 z) := by
  refine ⟨by rw [length_splice _ _ _ (by rw [List.length_replicate]; omega), hl], fun i hi => ?_⟩
  unfold splice
  rw [List.length_replicate]
  by_cases h : i < n
  · rw [List.getElem?_append_left (by rw [List.length_take]; omega), List.getElem?_take, if_pos h, hf i h]
  · rw [List.getElem?_append_right (by rw [List.length_take]; omega), List.length_take, Nat.min_eq_left (by omega), List.getElem?_append_left (by rw [List.length_replicate]; omega), List.getElem?_replicate, if_pos (by omega)]
theorem filled_own {w : World} {g m B : Nat} {z : Int} (h : Filled g m m z w) (hb : B ≤ g) (hm : m ≤ maxLen) : w.ownsRow B 3 1 (.slice (some ⟨g, 0, none⟩) m m) m ((List.replicate m z).map (Value.int .i64)) := by
  obtain ⟨L, hg, hl, hf⟩ := h
  have e : L = (List.replicate m z).map (Value.int .i64) := by
    apply List.ext_getElem?
    intro i
    by_cases hi : i < m
    · rw [hf i hi, List.getElem?_map, List.getElem?_replicate, if_pos hi]; rfl
    · rw [List.getElem?_eq_none (by omega), List.getElem?_eq_none (by simp; omega)]
  subst e
  have := own_heap (base := B) hg hb (by rw [List.length_replicate]; exact hm)
  rw [List.length_replicate] at this
  have h2 : w.ownsRow B 3 1 (.slice (some ⟨g, 0, none⟩) m m) (List.replicate m z).length ((List.replicate m z).map (Value.int .i64)) := this
  rw [List.length_replicate] at h2
  exact h2

set_option maxRecDepth 100000 in
set_option maxHeartbeats 8000000 in
theorem impl_repeat15 (z : Int) (m : Nat) (hm : 1 ≤ m) (hm2 : m ≤ 1073741824) (w : World) (b o : Nat) (hx : w.cell? ⟨b, o, none⟩ = some (.int .i64 z)) :
    Calls Tryd.prog 44 #[.slice (some ⟨b, o, none⟩) 1 1, .int .i64 m] w fun e w' => ∃ v, e = .returned v ∧ Below w.heap.size w w' ∧ w'.ownsRow w.heap.size 3 1 v m ((List.replicate m z).map (Value.int .i64)) := by
  obtain ⟨XS, hXS⟩ : ∃ XS, XS = (List.replicate m z).map (Value.int .i64) := ⟨_, rfl⟩
  rw [← hXS]
  have HXS : Hid (XS = (List.replicate m z).map (Value.int .i64)) := hXS
  clear hXS
  have HMU : Hid (Calls Tryd.prog 52 #[.int .u64 1, .int .u64 m] w fun e w' => e = .returned (.tuple #[.int .u64 0, .int .u64 m]) ∧ w = w') := by
    have h := Tryd.bits_Mul 1 m (by omega) (by omega) w
    rw [Nat.one_mul, Nat.div_eq_of_lt (by omega), Nat.mod_eq_of_lt (by omega)] at h
    exact h.mono fun e w' ⟨h1, h2⟩ => ⟨h1, h2.symm⟩
  have hw1 : IntKind.u64.wrap (m : Int) = (m : Int) := by unfold IntKind.wrap; simp [IntKind.bits]; omega
  have hw2 : IntKind.i64.wrap (m : Int) = (m : Int) := by rw [IntKind.wrap_i64]; omega
  obtain ⟨Z, hZ, hZl⟩ := made_ints m
  have hrun := run_make_row' (P := Tryd.prog) 31 3 (.int .i64 0) 8 Tryd.underlying31 int_info rfl .i64 .i64 m (by omega) (by omega) w
  rw [hZ] at hrun
  have HZL : Hid (Z.length = m) := hZl
  have HSRC : Hid (∀ j v, [Value.int .i64 z][j]? = some v → (w.alloc (.cells Z.toArray 3)).cell? ((⟨b, o, none⟩ : Addr).add j) = some v) := fun j v hj => by
    have hj0 : j = 0 := by have := (List.getElem?_eq_some_iff.1 hj).1; simp at this; omega
    subst hj0
    have := keeps (newb w (.cells Z.toArray 3)) _ _ hx
    simpa [Addr.add] using this.trans hj
  have HC1 : Hid (∀ v ∈ [Value.int .i64 z], v.oneCell' = true) := fun v hv => by simp only [List.mem_singleton] at hv; subst hv; rfl
  clear hZ hZl
  obtain ⟨g, hg⟩ : ∃ g, g = w.heap.size := ⟨_, rfl⟩
  have HG : Hid (g = w.heap.size) := hg
  clear hg
  go_enter Tryd.func44, Tryd.ntmps44
  go_wp2_with fail
  refine HMU.out.mono ?_
  rintro e w1 ⟨rfl, rfl⟩
  go_wp2_with (refine wpList_copy_splice rfl (.tmp 31) (.tmp 32) 31 31 rfl 3 Tryd.underlying31 (by kernel_rfl) (some ⟨w.heap.size, 0, none⟩) (some ⟨b, o, none⟩) m m 1 1 rfl rfl w.heap.size 0 Z 3 (heap_alloc_new w _) [.int .i64 z] (Nat.min_eq_left hm).symm (fun _ => ⟨rfl, _, rfl, HSRC.out⟩) (by rw [HZL.out]; exact hm) HC1.out w.heap.size w (newb w _) (Nat.le_refl _) ?_; intro w2 hg2 hb2)
  have HF2 : Hid (Filled g m 1 z w2) := by
    refine ⟨_, by rw [HG.out]; exact hg2.out, ?_⟩
    have h := splice_filled (L := Z) (m := m) (n := 0) (c := 1) (z := z) HZL.out (fun i hi => absurd hi (Nat.not_lt_zero _)) (by omega)
    exact ⟨h.1, fun i hi => h.2 i (by omega)⟩
  have HB2 : Hid (Below w.heap.size w w2) := hb2
  clear hg2 hb2 HSRC HMU hrun hx
  rw [← HG.out]
  go_loopw [8] (fun x wr => ∃ n : Nat, x = .int .i64 n ∧ 1 ≤ n ∧ n ≤ m ∧ Filled g m n z wr ∧ Below w.heap.size w wr) (fun x _ => m - (intOf x).toNat)
  case atStart => exact ⟨1, rfl, Nat.le_refl _, hm, HF2.out, HB2.out⟩
  case round =>
    obtain ⟨n, rfl, hn1, hnm, hfil, hbel⟩ := hrel
    have HFL : Hid (Filled g m n z wr ∧ Below w.heap.size w wr) := ⟨hfil, hbel⟩
    clear hfil hbel
    by_cases hlt : (n : Int) < m
    · have hlt' : n < m := by omega
      obtain ⟨L, hgL, hlL, hfL⟩ := HFL.out.1
      obtain ⟨c, hc⟩ : ∃ c, c = Nat.min n (m - n) := ⟨_, rfl⟩
      have hc0 : 1 ≤ c ∧ c ≤ n ∧ c ≤ m - n := by
        rw [hc]
        exact ⟨Nat.le_min.2 ⟨hn1, by omega⟩, Nat.min_le_left _ _, Nat.min_le_right _ _⟩
      have HSF := hid_of1 (splice_filled (c := c) hlL hfL (by omega))
      obtain ⟨w4, hcopy, hg4, hb4⟩ := copy_run (P := Tryd.prog) 31 31 3 3 Tryd.underlying31 (by kernel_rfl) (some ⟨g, n, none⟩) (some ⟨g, 0, none⟩) (m - n) (m - n) n m g n L 3 (w := wr.drew) hgL (List.replicate c (.int .i64 z)) (by rw [List.length_replicate]; exact hc) (fun _ => ⟨rfl, _, rfl, fun j v hj => by
        rw [List.getElem?_replicate] at hj
        split at hj
        · rename_i hjc
          injection hj with hj
          subst hj
          have e : (⟨g, 0, none⟩ : Addr).add j = ⟨g, j, none⟩ := by cases j <;> simp [Addr.add]
          rw [e]
          have := cell_of_row wr.drew g j _ _ _ hgL
          rw [this]
          simpa using hfL j (by omega)
        · cases hj⟩) (by rw [List.length_replicate, hlL]; omega) (fun v hv => by rw [List.eq_of_mem_replicate hv]; rfl) w.heap.size w HFL.out.2.drew (by rw [HG.out]; exact Nat.le_refl _)
      have HW4 : Hid (Filled g m (n + c) z w4 ∧ Below w.heap.size w w4) := ⟨⟨_, hg4, HSF.out.1, HSF.out.2⟩, hb4⟩
      rw [List.length_replicate] at hcopy
      have hmn : ¬ m = n := by omega
      clear hg4 hb4 hgL hlL hfL HSF
      have hwr : IntKind.i64.wrap ((n : Int) + (c : Int)) = (n : Int) + c := by rw [IntKind.wrap_i64]; omega
      have HC : Hid (1 ≤ c ∧ c ≤ n ∧ c ≤ m - n) := hc0
      clear hc hc0
      go_upto_region 9 with fail
      go_region
      go_wp2_with fail
      go_roundw
      case rel => exact ⟨n + c, by go_num, by omega, by have := HC.out; omega, HW4.out.1, HW4.out.2⟩
      case measure => have := HC.out; simp [intOf]; omega
    · have hke : n = m := by omega
      subst hke
      have HE : Hid (Below w.heap.size w wr ∧ wr.ownsRow w.heap.size 3 1 (.slice (some ⟨g, 0, none⟩) n n) n XS) := ⟨HFL.out.2, by rw [HXS.out]; exact filled_own HFL.out.1 (by rw [HG.out]; exact Nat.le_refl _) (by unfold maxLen; omega)⟩
      go_wp2_with fail
      go_ret
      exact ⟨_, rfl, HE.out.1, HE.out.2⟩
end Go.Proofs.YtkbbfgfmlilfbaaDoor
