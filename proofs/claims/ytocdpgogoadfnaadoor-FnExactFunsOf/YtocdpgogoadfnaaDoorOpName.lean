/- The program's table of the names of ops, impl.isBelow, impl.nameOfCode, opName.isEmpty. Condition: the table reads as its text lays it. -/
import Derived.Test.YtocdpgogoadfnaaDoorRows
import Derived.Test.YtocdpgogoadfnaaDoorLaid
import Derived.Test.YtocdpgogoadfnaaDoorDatRows
import Derived.OpenShut
import Derived.WalkKit
import Derived.ProofKit
import Derived.Below
import Derived.Stop.BytesEq
namespace Go.Proofs.YtocdpgogoadfnaaDoor
open Go.ChangeShapes Go.WideShapes Go.ChangeAt Go.RowKit

/-- The names by their code. -/
def opL : List (List UInt8) := [[], [110, 117, 109], [108, 111, 99, 97, 108], [102, 114, 101, 101], [115, 101, 108, 102], [99, 108, 111, 115], [99, 97, 108, 108], [114, 101, 116], [99, 111, 110], [102, 105, 101, 108, 100], [105, 115, 99, 111, 110], [105, 115, 110, 117, 109], [97, 100, 100], [115, 117, 98], [109, 117, 108], [108, 101, 115, 115], [115, 97, 109, 101], [112, 117, 116], [122, 101, 114, 111], [106, 117, 109, 112], [115, 108, 105, 100, 101], [102, 97, 105, 108]]
/-- A name's letters, noughts behind a short one. -/
def five (l : List UInt8) : List UInt8 := [l.getD 0 0, l.getD 1 0, l.getD 2 0, l.getD 3 0, l.getD 4 0]
def nameV (l : List UInt8) : Value := .agg #[.int .u8 (l.getD 0 0).toNat, .int .u8 (l.getD 1 0).toNat, .int .u8 (l.getD 2 0).toNat, .int .u8 (l.getD 3 0).toNat, .int .u8 (l.getD 4 0).toNat]
def dName {H : Type} (l : List UInt8) : DataW H := .agg [.lit (.int .u8 (l.getD 0 0).toNat), .lit (.int .u8 (l.getD 1 0).toNat), .lit (.int .u8 (l.getD 2 0).toNat), .lit (.int .u8 (l.getD 3 0).toNat), .lit (.int .u8 (l.getD 4 0).toNat)]
/-- Which code there is. -/
def codeB (c : Int) : Bool := decide (1 ≤ c) && decide (c ≤ 21)
/-- The name of a code. -/
def nameL (c : Int) : List UInt8 := if codeB c = true then opL.getD c.toNat [] else []

/-- The table lies as its text has it. -/
def NameTab (w : World) : Prop := ∀ (i : Nat), i < 22 → ∀ j, j < 5 → w.cell? ⟨0, i * 5 + j, none⟩ = some (.int .u8 ((opL.getD i []).getD j 0).toNat)
theorem NameTab.below {w w' : World} (h : NameTab w) (hb : Below w.heap.size w w') : NameTab w' := fun i hi j hj => (hb.cell (World.block_lt_of_cell? w _ (h i hi j hj))).trans (h i hi j hj)

theorem gNames : Tryd.prog.globalNamed "loop.example/g00396/impl.opNames" = some 0 := by kernel_rfl
theorem cells_name : Tryd.prog.cellsOf 85 = 5 := by kernel_rfl
theorem cells_u8 : Tryd.prog.cellsOf 5 = 1 := by kernel_rfl

set_option maxRecDepth 100000 in
theorem one_name {enc : TypeId × Value → Unit} {w : World} {base : Nat} {sp : Nat → Bool} {held : Bool} {fuel : Nat} {cs : List Value} {p : List MemPlace} {l : List UInt8} (h : DataW.trod enc Tryd.prog w base sp held fuel 85 cs = some (dName l, p)) :
    ∀ j, j < 5 → cs[j]? = some (.int .u8 (l.getD j 0).toNat) := by
  obtain ⟨xs, m, rfl, hx, hcl, hxl, hi⟩ := DataW.trod_array Tryd.underlying85 h
  have hx1 := congrArg Prod.fst hx
  rw [cells_name] at hcl
  rw [cells_u8] at hi
  match xs, hxl with
  | [x0, x1, x2, x3, x4], _ =>
    have g0 := hi 0 (by omega)
    have g1 := hi 1 (by omega)
    have g2 := hi 2 (by omega)
    have g3 := hi 3 (by omega)
    have g4 := hi 4 (by omega)
    match cs, hcl with
    | [c0, c1, c2, c3, c4], _ =>
      simp only [List.drop_zero, List.drop_succ_cons, List.take_succ_cons, List.take_zero, List.getElem?_cons_zero, List.getElem?_cons_succ, Nat.mul_one] at g0 g1 g2 g3 g4
      obtain ⟨z0, e0, y0, -⟩ := DataW.trod_int Tryd.underlying5 g0
      obtain ⟨z1, e1, y1, -⟩ := DataW.trod_int Tryd.underlying5 g1
      obtain ⟨z2, e2, y2, -⟩ := DataW.trod_int Tryd.underlying5 g2
      obtain ⟨z3, e3, y3, -⟩ := DataW.trod_int Tryd.underlying5 g3
      obtain ⟨z4, e4, y4, -⟩ := DataW.trod_int Tryd.underlying5 g4
      simp only [List.cons.injEq, and_true] at e0 e1 e2 e3 e4
      subst e0 e1 e2 e3 e4 y0 y1 y2 y3 y4
      simp only [dName, List.map_cons, List.map_nil, DataW.agg.injEq, List.cons.injEq, DataW.lit.injEq, Lit.int.injEq, true_and, and_true] at hx1
      obtain ⟨rfl, rfl, rfl, rfl, rfl⟩ := hx1
      intro j hj
      match j, hj with
      | 0, _ => rfl
      | 1, _ => rfl
      | 2, _ => rfl
      | 3, _ => rfl
      | 4, _ => rfl
      | n + 5, h => exact absurd h (by omega)

theorem names_of_head {W : World} {rest : List (String × DataW Unit)} (h : laidMet Tryd.prog (("loop.example/g00396/impl.opNames", .agg (opL.map dName)) :: rest) W) : NameTab W := by
  obtain ⟨ps, ⟨g', t', cs, fuel, p, q, hg', ht', hvar, hd, _, _⟩, _⟩ := h
  obtain rfl := Option.some.inj (gNames.symm.trans hg')
  obtain rfl : 87 = t' := Option.some.inj ((show (Tryd.prog.globals[0]?).map (·.type) = some 87 by kernel_rfl).symm.trans ht')
  obtain ⟨xs, m, rfl, hx, hcl, hxl, hi⟩ := DataW.trod_array Tryd.underlying87 hd
  have hxs : xs.map (·.1) = opL.map dName := by
    have := congrArg Prod.fst hx
    simpa using this.symm
  intro i hlt j hj
  have h1 := hi i hlt
  rw [List.getElem?_eq_getElem (by omega), cells_name] at h1
  have hl : i < opL.length := hlt
  have h2 : (xs.map (·.1))[i]? = some (dName (opL.getD i [])) := by rw [hxs, List.getElem?_map, List.getElem?_eq_getElem hl, List.getD_eq_getElem?_getD, List.getElem?_eq_getElem hl]; rfl
  rw [List.getElem?_map, List.getElem?_eq_getElem (by omega)] at h2
  simp only [Option.map_some, Option.some.injEq] at h2
  obtain ⟨y, hy⟩ : ∃ y, xs[i] = (dName (opL.getD i []), y) := ⟨xs[i].2, by rw [← h2]⟩
  rw [hy] at h1
  have q0 := one_name h1 j hj
  simp only [List.getElem?_take, List.getElem?_drop] at q0
  rw [if_pos hj] at q0
  have := World.var?_cell gNames hvar (i * 5 + j)
  rw [this]
  simpa using q0

theorem is_below (n e : Int) (R : Bool) (hR : R = (decide (0 ≤ n) && decide (n < e))) (w : World) : Calls Tryd.prog 35 #[.int .i64 n, .int .i64 e] w fun r w' => r = .returned (.bool R) ∧ w' = w := by
  by_cases h1 : 0 ≤ n
  · by_cases h2 : n < e
    · have HR : Hid (R = true) := by show _ = _; rw [hR, decide_eq_true h1, decide_eq_true h2]; rfl
      clear hR
      go_enter Tryd.func35, Tryd.ntmps35
      go_wp2
      go_ret
      exact ⟨by rw [HR.out]; rfl, rfl⟩
    · have HR : Hid (R = false) := by show _ = _; rw [hR, decide_eq_true h1, decide_eq_false h2]; rfl
      clear hR
      go_enter Tryd.func35, Tryd.ntmps35
      go_wp2
      go_ret
      exact ⟨by rw [HR.out]; rfl, rfl⟩
  · have HR : Hid (R = false) := by show _ = _; rw [hR, decide_eq_false h1]; rfl
    clear hR
    go_enter Tryd.func35, Tryd.ntmps35
    go_wp2
    go_ret
    exact ⟨by rw [HR.out]; rfl, rfl⟩

theorem code_cases {c : Int} (h : codeB c = true) : ∃ i : Nat, c = i ∧ 1 ≤ i ∧ i ≤ 21 := by
  unfold codeB at h
  simp only [Bool.and_eq_true, decide_eq_true_eq] at h
  exact ⟨c.toNat, by omega, by omega, by omega⟩
theorem nameL_at {i : Nat} (h : i ≤ 21) : nameL i = opL.getD i [] := by
  unfold nameL
  cases hc : codeB i with
  | true => simp
  | false =>
    have : i = 0 := by unfold codeB at hc; simp only [Bool.and_eq_false_iff, decide_eq_false_iff_not] at hc; omega
    subst this
    rfl
theorem nameL_out {c : Int} (h : ¬ (0 ≤ c ∧ c < 22)) : nameL c = [] := by
  unfold nameL
  rw [if_neg]
  unfold codeB
  simp only [Bool.and_eq_true, decide_eq_true_eq]
  omega

set_option maxRecDepth 100000 in
set_option maxHeartbeats 2000000 in
theorem name_of_code (c : Int) (w : World) (ht : NameTab w) :
    Calls Tryd.prog 48 #[.int .i64 c] w fun e w' => e = .returned (nameV (nameL c)) ∧ Below w.heap.size w w' := by
  obtain ⟨W, hW⟩ : ∃ W, W = w.alloc (.cells #[.int .u8 0, .int .u8 0, .int .u8 0, .int .u8 0, .int .u8 0] 85) := ⟨_, rfl⟩
  obtain ⟨K, hK⟩ : ∃ K, K = w.heap.size := ⟨_, rfl⟩
  have bW : Below w.heap.size w W := by rw [hW]; exact newb w _
  have hk : W.heap[K]? = some (.cells #[.int .u8 0, .int .u8 0, .int .u8 0, .int .u8 0, .int .u8 0] 85 (0, 0)) := by rw [hW, hK]; exact heap_alloc_new w _
  have k0 : W.cell? ⟨K, 0, none⟩ = some (.int .u8 0) := cell_of_row W K 0 _ _ _ hk
  have k1 : W.cell? ⟨K, 1, none⟩ = some (.int .u8 0) := cell_of_row W K 1 _ _ _ hk
  have k2 : W.cell? ⟨K, 2, none⟩ = some (.int .u8 0) := cell_of_row W K 2 _ _ _ hk
  have k3 : W.cell? ⟨K, 3, none⟩ = some (.int .u8 0) := cell_of_row W K 3 _ _ _ hk
  have k4 : W.cell? ⟨K, 4, none⟩ = some (.int .u8 0) := cell_of_row W K 4 _ _ _ hk
  have kf : ∀ j, W.frozen? ⟨K, j, none⟩ = false := fun j => frozen_of_row W K j _ _ hk
  have HB : Hid (∀ a b c d e, Below w.heap.size w (((((W.setCell ⟨K, 0, none⟩ a).setCell ⟨K, 1, none⟩ b).setCell ⟨K, 2, none⟩ c).setCell ⟨K, 3, none⟩ d).setCell ⟨K, 4, none⟩ e)) := fun a b c d e =>
    ((((bW.setCell (by show _ ≤ K; omega) _).setCell (by show _ ≤ K; omega) _).setCell (by show _ ≤ K; omega) _).setCell (by show _ ≤ K; omega) _).setCell (by show _ ≤ K; omega) _
  have HWW : Hid (W = w.alloc (.cells #[.int .u8 0, .int .u8 0, .int .u8 0, .int .u8 0, .int .u8 0] 85)) := hW
  have HK : Hid (K = w.heap.size) := hK
  have HT : Hid (NameTab W) := ht.below bW
  clear ht bW hk hW hK
  by_cases hc : 0 ≤ c ∧ c < 22
  · obtain ⟨i, rfl⟩ : ∃ i : Nat, c = i := ⟨c.toNat, by omega⟩
    have hi : i < 22 := by omega
    have EN : Hid (nameL (i : Int) = opL.getD i []) := nameL_at (by omega)
    rw [EN.out]
    have m0 := HT.out i hi 0 (by omega)
    have m1 := HT.out i hi 1 (by omega)
    have m2 := HT.out i hi 2 (by omega)
    have m3 := HT.out i hi 3 (by omega)
    have m4 := HT.out i hi 4 (by omega)
    unfold nameV
    generalize opL.getD i [] = l at *
    clear HT EN
    generalize ((l.getD 0 0).toNat : Int) = z0 at *
    generalize ((l.getD 1 0).toNat : Int) = z1 at *
    generalize ((l.getD 2 0).toNat : Int) = z2 at *
    generalize ((l.getD 3 0).toNat : Int) = z3 at *
    generalize ((l.getD 4 0).toNat : Int) = z4 at *
    simp only [Nat.add_zero] at m0
    go_enter Tryd.func48, Tryd.ntmps48
    go_wp2_with fail
    refine (is_below i 22 true (by simp; omega) _).mono ?_
    rintro e w1 ⟨rfl, rfl⟩
    rw [← HWW.out, ← HK.out]
    go_wp2_with fail
    refine bodyPost_ret (v := .agg #[.int .u8 z0, .int .u8 z1, .int .u8 z2, .int .u8 z3, .int .u8 z4]) (by rw [results_cell1 (p := 2) (ty := 85) (by kernel_rfl)]; simp [go_sem, k0, k1, k2, k3, k4]) rfl ⟨rfl, HB.out _ _ _ _ _⟩
  · have EN : Hid (nameL c = []) := nameL_out hc
    rw [EN.out]
    clear HT EN
    go_enter Tryd.func48, Tryd.ntmps48
    go_wp2_with fail
    refine (is_below c 22 false (by simp; omega) _).mono ?_
    rintro e w1 ⟨rfl, rfl⟩
    rw [← HWW.out, ← HK.out]
    go_wp2_with fail
    refine bodyPost_ret (v := nameV []) (by rw [results_cell1 (p := 2) (ty := 85) (by kernel_rfl)]; simp [go_sem, k0, k1, k2, k3, k4]; rfl) rfl ⟨rfl, HB.out _ _ _ _ _⟩

set_option maxRecDepth 100000 in
set_option maxHeartbeats 2000000 in
theorem is_empty (l : List UInt8) (B : Bool) (hB : B = (five l == [0, 0, 0, 0, 0])) (w : World) :
    Calls Tryd.prog 49 #[nameV l] w fun e w' => e = .returned (.bool B) ∧ Below w.heap.size w w' := by
  have hq : ∀ w', (binOp .eql 85 (nameV l) (.agg #[.int .u8 0, .int .u8 0, .int .u8 0, .int .u8 0, .int .u8 0])).run Tryd.prog w' = .ok (.bool B) w' := fun w' => by
    rw [hB]
    exact run_eql_bytes w' 85 5 5 Tryd.underlying85 Tryd.underlying5 (fun w => by kernel_rfl) (five l) [0, 0, 0, 0, 0] rfl rfl
  have HN : Hid (∀ o, Below w.heap.size w (w.alloc o)) := fun o => newb w o
  clear hB
  unfold nameV at *
  generalize ((l.getD 0 0).toNat : Int) = z0 at *
  generalize ((l.getD 1 0).toNat : Int) = z1 at *
  generalize ((l.getD 2 0).toNat : Int) = z2 at *
  generalize ((l.getD 3 0).toNat : Int) = z3 at *
  generalize ((l.getD 4 0).toNat : Int) = z4 at *
  go_enter Tryd.func49, Tryd.ntmps49
  go_wp2_with fail
  go_ret
  exact ⟨rfl, HN.out _⟩
end Go.Proofs.YtocdpgogoadfnaaDoor
