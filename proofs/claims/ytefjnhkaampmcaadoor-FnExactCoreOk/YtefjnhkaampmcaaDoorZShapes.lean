/- The program's table of shapes, impl.isCoreOp and impl.shapeOf. Condition: the table reads as its text lays it. -/
import Derived.Test.YtefjnhkaampmcaaDoorRows
import Derived.Test.YtefjnhkaampmcaaDoorZCorRows
import Derived.Test.YtefjnhkaampmcaaDoorZG0Dat
import Derived.OpenShut
import Derived.WalkKit
import Derived.ProofKit
namespace Go.Proofs.YtefjnhkaampmcaaDoor
open Go.ChangeShapes Go.WideShapes Go.ChangeAt Go.RowKit

/-- The shapes by their op: the word, how many names, how many kids. -/
def shapesL : List (List UInt8 × Int × Int) := [([63], 0, 0), ([], 0, 0), ([], 1, 0), ([102, 117, 110], 1, 1), ([97, 112, 112], 0, 2), ([108, 101, 116], 1, 2), ([114, 101, 99], 2, 2), ([105, 102], 0, 3), ([43], 0, 2), ([45], 0, 2), ([42], 0, 2), ([60], 0, 2), ([61], 0, 2), ([], 0, 0), ([99, 111, 110, 115], 0, 2), ([99, 97, 114], 0, 1), ([99, 100, 114], 0, 1), ([112, 97, 105, 114, 63], 0, 1), ([112, 117, 116], 0, 1)]
def dShape {H : Type} (x : List UInt8 × Int × Int) : DataW H := .agg [.lit (.string x.1), .lit (.int .i64 x.2.1), .lit (.int .i64 x.2.2)]

/-- The table lies as its text has it. -/
def ShapeTab (w : World) : Prop := ∀ (i : Nat) (s : List UInt8) (a b : Int), shapesL[i]? = some (s, a, b) →
  w.cell? ⟨0, i * 3, none⟩ = some (.string ⟨s.toArray⟩) ∧ w.cell? ⟨0, i * 3 + 1, none⟩ = some (.int .i64 a) ∧ w.cell? ⟨0, i * 3 + 2, none⟩ = some (.int .i64 b)
theorem ShapeTab.below {w w' : World} (h : ShapeTab w) (hb : Below w.heap.size w w') : ShapeTab w' := fun i s a b hs => by
  obtain ⟨h1, h2, h3⟩ := h i s a b hs
  exact ⟨keeps hb _ _ h1, keeps hb _ _ h2, keeps hb _ _ h3⟩

theorem gShapes : Tryd.prog.globalNamed "loop.example/g00396/impl.coreShapes" = some 0 := by kernel_rfl
theorem cells_shape : Tryd.prog.cellsOf 50 = 3 := by kernel_rfl
theorem cells_str : Tryd.prog.cellsOf 9 = 1 := by kernel_rfl
theorem cells_int : Tryd.prog.cellsOf 3 = 1 := by kernel_rfl
theorem shape_fields : ∃ fs : Array Field, Tryd.prog.underlying 50 = some (.struct fs) ∧ fs.size = 3 ∧ (∃ f, fs[0]? = some f ∧ f.type = 9 ∧ f.offset = 0) ∧ (∃ f, fs[1]? = some f ∧ f.type = 3 ∧ f.offset = 1) ∧ (∃ f, fs[2]? = some f ∧ f.type = 3 ∧ f.offset = 2) :=
  ⟨_, Tryd.underlying50, rfl, ⟨_, rfl, rfl, rfl⟩, ⟨_, rfl, rfl, rfl⟩, ⟨_, rfl, rfl, rfl⟩⟩

set_option maxRecDepth 100000 in
theorem one_shape {enc : TypeId × Value → Unit} {w : World} {base : Nat} {sp : Nat → Bool} {held : Bool} {fuel : Nat} {cs : List Value} {p : List MemPlace} {s : List UInt8} {a b : Int} (h : DataW.trod enc Tryd.prog w base sp held fuel 50 cs = some (dShape (s, a, b), p)) :
    cs[0]? = some (.string ⟨s.toArray⟩) ∧ cs[1]? = some (.int .i64 a) ∧ cs[2]? = some (.int .i64 b) := by
  obtain ⟨fs, hu, hfs, ⟨f0, h0, t0, o0⟩, ⟨f1, h1, t1, o1⟩, ⟨f2, h2, t2, o2⟩⟩ := shape_fields
  obtain ⟨xs, n, rfl, hx, hlen, hxl, hf⟩ := DataW.trod_struct hu h
  have g0 := hf 0 f0 h0
  have g1 := hf 1 f1 h1
  have g2 := hf 2 f2 h2
  rw [hfs] at hxl
  rw [cells_shape] at hlen
  rw [t0, o0, cells_str] at g0
  rw [t1, o1, cells_int] at g1
  rw [t2, o2, cells_int] at g2
  match cs, hlen, xs, hxl with
  | [c0, c1, c2], _, [x0, x1, x2], _ =>
    simp only [List.drop_zero, List.drop_succ_cons, List.take_succ_cons, List.take_zero, List.getElem?_cons_zero, List.getElem?_cons_succ] at g0 g1 g2
    obtain ⟨z0, e0, y0, -⟩ := DataW.trod_string Tryd.underlying9 g0
    obtain ⟨z1, e1, y1, -⟩ := DataW.trod_int Tryd.underlying3 g1
    obtain ⟨z2, e2, y2, -⟩ := DataW.trod_int Tryd.underlying3 g2
    simp only [List.cons.injEq, and_true] at e0 e1 e2
    subst e0 e1 e2 y0 y1 y2
    have hx1 := congrArg Prod.fst hx
    simp only [dShape, List.map_cons, List.map_nil, DataW.agg.injEq, List.cons.injEq, DataW.lit.injEq, Lit.string.injEq, Lit.int.injEq, true_and, and_true] at hx1
    obtain ⟨rfl, rfl, rfl⟩ := hx1
    simp

theorem shapes_of_head {W : World} {rest : List (String × DataW Unit)} (h : laidMet Tryd.prog (("loop.example/g00396/impl.coreShapes", .agg (shapesL.map dShape)) :: rest) W) : ShapeTab W := by
  obtain ⟨ps, ⟨g', t', cs, fuel, p, q, hg', ht', hvar, hd, _, _⟩, _⟩ := h
  obtain rfl := Option.some.inj (gShapes.symm.trans hg')
  obtain rfl : 67 = t' := Option.some.inj ((show (Tryd.prog.globals[0]?).map (·.type) = some 67 by kernel_rfl).symm.trans ht')
  obtain ⟨xs, m, rfl, hx, hcl, hxl, hi⟩ := DataW.trod_array Tryd.underlying67 hd
  have hxs : xs.map (·.1) = shapesL.map dShape := by
    have := congrArg Prod.fst hx
    simpa using this.symm
  intro i s a b hs
  have hlt : i < 19 := (List.getElem?_eq_some_iff.1 hs).1
  have h1 := hi i hlt
  rw [List.getElem?_eq_getElem (by omega), cells_shape] at h1
  have h2 : (xs.map (·.1))[i]? = some (dShape (s, a, b)) := by rw [hxs, List.getElem?_map, hs]; rfl
  rw [List.getElem?_map, List.getElem?_eq_getElem (by omega)] at h2
  simp only [Option.map_some, Option.some.injEq] at h2
  obtain ⟨y, hy⟩ : ∃ y, xs[i] = (dShape (s, a, b), y) := ⟨xs[i].2, by rw [← h2]⟩
  rw [hy] at h1
  obtain ⟨q0, q1, q2⟩ := one_shape h1
  simp only [List.getElem?_take, List.getElem?_drop] at q0 q1 q2
  have cell : ∀ k u, cs[k]? = some u → W.cell? ⟨0, k, none⟩ = some u := fun k u hk => by
    have := World.var?_cell gShapes hvar k
    rw [this]
    simpa using hk
  refine ⟨cell _ _ ?_, cell _ _ ?_, cell _ _ ?_⟩
  · simpa using q0
  · simpa using q1
  · simpa using q2

/-- Whether there is such an op. -/
def isOpB (op : Int) : Bool := decide (1 ≤ op) && decide (op ≤ 18)
theorem isOp_yes {op : Int} (h : isOpB op = true) : ∃ i : Nat, op = i ∧ 1 ≤ i ∧ i ≤ 18 := by
  unfold isOpB at h
  simp only [Bool.and_eq_true, decide_eq_true_eq] at h
  exact ⟨op.toNat, by omega, by omega, by omega⟩

theorem is_core_op (op : Int) (w : World) : Calls Tryd.prog 26 #[.int .i64 op] w fun e w' => e = .returned (.bool (isOpB op)) ∧ w' = w := by
  by_cases h1 : 1 ≤ op
  · by_cases h2 : op ≤ 18
    · have H : Hid (isOpB op = true) := by show _ = _; simp [isOpB, h1, h2]
      go_enter Tryd.func26, Tryd.ntmps26
      go_wp2
      go_ret
      exact ⟨by rw [H.out]; rfl, rfl⟩
    · have H : Hid (isOpB op = false) := by show _ = _; simp [isOpB, h1, h2]
      go_enter Tryd.func26, Tryd.ntmps26
      go_wp2
      go_ret
      exact ⟨by rw [H.out]; rfl, rfl⟩
  · have H : Hid (isOpB op = false) := by show _ = _; simp [isOpB, h1]
    go_enter Tryd.func26, Tryd.ntmps26
    go_wp2
    go_ret
    exact ⟨by rw [H.out]; rfl, rfl⟩

/-- The place of an op's shape. -/
def shapeAt (op : Int) : Nat := if isOpB op = true then op.toNat else 0
theorem shapeAt_lt (op : Int) : shapeAt op < 19 := by
  unfold shapeAt
  split
  · rename_i h; obtain ⟨i, rfl, _, _⟩ := isOp_yes h; omega
  · omega

set_option maxRecDepth 100000 in
set_option maxHeartbeats 2000000 in
theorem shape_of (op : Int) (s : List UInt8) (a b : Int) (hs : shapesL[shapeAt op]? = some (s, a, b)) (w : World) (ht : ShapeTab w) :
    Calls Tryd.prog 25 #[.int .i64 op] w fun e w' => e = .returned (.agg #[.string ⟨s.toArray⟩, .int .i64 a, .int .i64 b]) ∧ Below w.heap.size w w' := by
  have nb : ∀ o, Below w.heap.size w (w.alloc o) := fun o => newb w o
  obtain ⟨W, hW⟩ : ∃ W, W = w.alloc (.cells #[.string ⟨#[]⟩, .int .i64 0, .int .i64 0] 50) := ⟨_, rfl⟩
  obtain ⟨K, hK⟩ : ∃ K, K = w.heap.size := ⟨_, rfl⟩
  have bW : Below w.heap.size w W := by rw [hW]; exact nb _
  obtain ⟨m0, m1, m2⟩ := (ht.below bW) _ s a b hs
  have hk : W.heap[K]? = some (.cells #[.string ⟨#[]⟩, .int .i64 0, .int .i64 0] 50 (0, 0)) := by rw [hW, hK]; exact heap_alloc_new w _
  have k0 : W.cell? ⟨K, 0, none⟩ = some (.string ⟨#[]⟩) := cell_of_row W K 0 _ _ _ hk
  have k1 : W.cell? ⟨K, 1, none⟩ = some (.int .i64 0) := cell_of_row W K 1 _ _ _ hk
  have k2 : W.cell? ⟨K, 2, none⟩ = some (.int .i64 0) := cell_of_row W K 2 _ _ _ hk
  have kf : ∀ j, W.frozen? ⟨K, j, none⟩ = false := fun j => frozen_of_row W K j _ _ hk
  have HB : Hid (Below w.heap.size w (((W.setCell ⟨K, 0, none⟩ (.string ⟨s.toArray⟩)).setCell ⟨K, 1, none⟩ (.int .i64 a)).setCell ⟨K, 2, none⟩ (.int .i64 b))) :=
    ((bW.setCell (by show _ ≤ K; omega) _).setCell (by show _ ≤ K; omega) _).setCell (by show _ ≤ K; omega) _
  have HWW : Hid (W = w.alloc (.cells #[.string ⟨#[]⟩, .int .i64 0, .int .i64 0] 50)) := hW
  have HK : Hid (K = w.heap.size) := hK
  have hi19 := shapeAt_lt op
  have HOP : Hid ((isOpB op = true ∧ op = (shapeAt op : Int)) ∨ (isOpB op = false ∧ shapeAt op = 0)) := by
    cases h : isOpB op with
    | true => exact .inl ⟨rfl, by unfold shapeAt; rw [if_pos h]; obtain ⟨i, rfl, _, _⟩ := isOp_yes h; simp⟩
    | false => exact .inr ⟨rfl, by unfold shapeAt; rw [if_neg (by rw [h]; simp)]⟩
  clear ht hs nb bW hk hW hK
  generalize shapeAt op = i at *
  go_enter Tryd.func25, Tryd.ntmps25
  go_wp2_with fail
  refine (is_core_op op _).mono ?_
  rintro e w1 ⟨rfl, rfl⟩
  rw [← HWW.out, ← HK.out]
  rcases HOP.out with ⟨h1, h2⟩ | ⟨h1, h2⟩
  · rw [h1, h2]
    go_wp2_with fail
    refine bodyPost_ret (v := .agg #[.string ⟨s.toArray⟩, .int .i64 a, .int .i64 b]) (by rw [results_cell1 (p := 2) (ty := 50) (by kernel_rfl)]; simp [go_sem, k0, k1, k2]) rfl ⟨rfl, HB.out⟩
  · rw [h1]
    subst h2
    go_wp2_with fail
    refine bodyPost_ret (v := .agg #[.string ⟨s.toArray⟩, .int .i64 a, .int .i64 b]) (by rw [results_cell1 (p := 2) (ty := 50) (by kernel_rfl)]; simp [go_sem, k0, k1, k2]) rfl ⟨rfl, HB.out⟩
end Go.Proofs.YtefjnhkaampmcaaDoor
