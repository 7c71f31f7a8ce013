/- (*blockLook).kidCountOk. Conditions: the table reads as its text lays it; the op is one; a closure's number is one of the list. -/
import Derived.Test.YtmobpjokmngdgaaDoorImplBlk1
namespace Go.Proofs.YtmobpjokmngdgaaDoor
open Go.ChangeShapes Go.WideShapes Go.ChangeAt Go.RowKit

set_option maxRecDepth 100000 in
set_option maxHeartbeats 4000000 in
theorem kid_count_ok (nb : Nat) (kb : Nat → Kb) (at_ : Nat) (op n : Int) (hop : opB op = true) (hcl : op = 5 → 1 ≤ n ∧ n < nb) (w : World) (K : Nat) (lv v : Value) (left : Int) (p : Option Addr) (len cap : Nat) (hv : v = .slice p len cap) (hlv : Kl w nb kb lv) (hK : Look w K lv at_ left) (ht : KidTab w) :
    Calls Tryd.prog 22 #[.pointer (some ⟨K, 0, none⟩), .agg #[.int .i64 op, .int .i64 n, v]] w fun e w' => e = .returned (.bool (kidJ kb op n len)) ∧ Below w.heap.size w w' := by
  obtain ⟨pl, cl, el, hll, hal⟩ := hlv.at
  obtain ⟨W, hW⟩ : ∃ W, W = w.alloc (.cells #[.int .i64 op, .int .i64 n, v] 37) := ⟨_, rfl⟩
  obtain ⟨TB, hTB⟩ : ∃ TB, TB = w.heap.size := ⟨_, rfl⟩
  have nb1 : Below w.heap.size w W := by rw [hW]; exact newb w _
  have HBL : Hid (Below w.heap.size w W) := nb1
  have hbx : W.heap[TB]? = some (.cells #[.int .i64 op, .int .i64 n, v] 37 (0, 0)) := by rw [hW, hTB]; exact heap_alloc_new w _
  have q0 : W.cell? ⟨TB, 0, none⟩ = some (.int .i64 op) := cell_of_row W TB 0 _ _ _ hbx
  have q1 : W.cell? ⟨TB, 1, none⟩ = some (.int .i64 n) := cell_of_row W TB 1 _ _ _ hbx
  have q2 : W.cell? ⟨TB, 2, none⟩ = some v := cell_of_row W TB 2 _ _ _ hbx
  obtain ⟨k0, -, -⟩ := (hK.below nb1).cells
  have HL : Hid (∀ i, i < nb → ∃ b o, pl = some ⟨b, o, none⟩ ∧ W.cell? ⟨b, o + i * 4, none⟩ = some (.int .i64 (kb i).fr)) := fun i hi => by
    obtain ⟨b, o, u, hp, hd, -⟩ := hal i hi
    exact ⟨b, o, hp, (hd.below nb1).c0⟩
  have HWW : Hid (W = w.alloc (.cells #[.int .i64 op, .int .i64 n, v] 37) ∧ TB = w.heap.size) := ⟨hW, hTB⟩
  have HT : Hid (KidTab W) := ht.below nb1
  obtain ⟨R, hR⟩ : ∃ R, kidJ kb op n len = R := ⟨_, rfl⟩
  rw [hR]
  have HR : Hid (R = kidJ kb op n len) := hR.symm
  have HOP : Hid (opB op = true) := hop
  clear hW hTB hbx hal hlv hK nb1 ht hR hop
  unfold maxLen at hll
  subst hv el
  by_cases h14 : op = 14
  · subst h14
    have HR2 : Hid (R = true) := HR.out
    clear HR hcl
    go_enter Tryd.func22, Tryd.ntmps22
    go_upto_region 1 with fail
    rw [← HWW.out.1, ← HWW.out.2]
    go_wp2_with fail
    go_ret
    exact ⟨by rw [HR2.out]; rfl, HBL.out⟩
  by_cases h5 : op = 5
  · subst h5
    obtain ⟨hn0, hn1⟩ := hcl rfl
    have HR2 : Hid (R = ((len : Int) == (kb n.toNat).fr)) := HR.out
    obtain ⟨m, rfl⟩ : ∃ m : Nat, n = m := ⟨n.toNat, by omega⟩
    obtain ⟨b, o, hp, c0⟩ := HL.out m (by omega)
    subst hp
    rw [Int.toNat_natCast] at HR2
    generalize (kb m).fr = F at *
    clear HR HL hcl
    have hone := Later.one W
    have y0 := fun x : Later W => x.cell q0
    have y1 := fun x : Later W => x.cell q1
    have y2 := fun x : Later W => x.cell q2
    have y3 := fun x : Later W => x.cell k0
    have y4 := fun x : Later W => x.cell c0
    go_enter Tryd.func22, Tryd.ntmps22
    go_upto_region 1 with fail
    rw [← HWW.out.1, ← HWW.out.2]
    go_upto_region 5 with fail
    clear q0 q1 q2 k0 c0
    refine wp_region_later (by kernel_rfl) (by kernel_rfl) ?_
    repeat (go_big_quiet_step (fail))
    refine wpQuiet_nil ?_
    rintro _ ⟨x, rfl⟩
    go_wp2_with fail
    go_ret
    exact ⟨by rw [HR2.out]; rfl, HBL.out.trans (x.le.mono HBL.out.size)⟩
  obtain ⟨i, rfl, hi1, hi2⟩ := op_cases HOP.out
  have g14 : ((i : Int) == 14) = false := by simpa using h14
  have g5 : ((i : Int) == 5) = false := by simpa using h5
  have c0 := HT.out i (by omega)
  have HR2 : Hid (R = ((len : Int) == kidTab.getD i 0)) := HR.out.trans (by unfold kidJ; rw [if_neg h14, if_neg h5, Int.toNat_natCast])
  generalize kidTab.getD i 0 = F at *
  have hi3 : (i : Int) < 20 := by omega
  clear HR HL hcl h14 h5
  have hone := Later.one W
  have y0 := fun x : Later W => x.cell q0
  have y1 := fun x : Later W => x.cell q1
  have y2 := fun x : Later W => x.cell q2
  have y4 := fun x : Later W => x.cell c0
  go_enter Tryd.func22, Tryd.ntmps22
  go_upto_region 1 with fail
  rw [← HWW.out.1, ← HWW.out.2]
  go_upto_region 6 with fail
  clear q0 q1 q2 k0 c0
  refine wp_region_later (by kernel_rfl) (by kernel_rfl) ?_
  repeat (go_big_quiet_step (fail))
  refine wpQuiet_nil ?_
  rintro _ ⟨x, rfl⟩
  go_wp2_with fail
  go_ret
  exact ⟨by rw [HR2.out]; rfl, HBL.out.trans (x.le.mono HBL.out.size)⟩
end Go.Proofs.YtmobpjokmngdgaaDoor
