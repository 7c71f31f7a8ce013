/- impl.Effect at every op: how many values it takes, and how many it puts. Condition: the table of names reads as its text lays it. Written by wip/tools/mkimpleffect.py. -/
import Derived.Test.YtkbbfgfmlilfbaaDoorRows
import Derived.Test.YtkbbfgfmlilfbaaDoorVerP
import Derived.Test.YtkbbfgfmlilfbaaDoorOpName
import Derived.Test.YtkbbfgfmlilfbaaDoorLater
import Derived.WalkKit
import Derived.ProofKit
import Derived.Deep.Cut
import Derived.Deep.WholeRow
namespace Go.Proofs.YtkbbfgfmlilfbaaDoor
open Go.ChangeShapes Go.WideShapes Go.ChangeAt Go.RowKit

/-- The method that a code has. -/
def effF (c : Int) : FuncId :=
  if 1 ≤ c ∧ c ≤ 4 then 32 else if c = 5 ∨ c = 8 then 33 else if c = 6 ∨ (12 ≤ c ∧ c ≤ 16) ∨ c = 20 then 34
  else if c = 7 ∨ c = 10 ∨ c = 11 ∨ c = 18 then 35 else if c = 9 ∨ c = 17 then 36 else 37
def fnV (f : FuncId) : Value := .func (.func f) #[] #[]
/-- The table of methods. -/
def effA : Array Value := #[.nilFunc, fnV 32, fnV 32, fnV 32, fnV 32, fnV 33, fnV 34, fnV 35, fnV 33, fnV 36, fnV 35, fnV 35, fnV 34, fnV 34, fnV 34, fnV 34, fnV 34, fnV 36, fnV 35, fnV 37, fnV 34, fnV 37]
theorem effA_at (i : Nat) (h1 : 1 ≤ i) (h2 : i ≤ 21) : effA[i]? = some (fnV (effF i)) := by
  match i, h1, h2 with
  | 1, _, _ => rfl
  | 2, _, _ => rfl
  | 3, _, _ => rfl
  | 4, _, _ => rfl
  | 5, _, _ => rfl
  | 6, _, _ => rfl
  | 7, _, _ => rfl
  | 8, _, _ => rfl
  | 9, _, _ => rfl
  | 10, _, _ => rfl
  | 11, _, _ => rfl
  | 12, _, _ => rfl
  | 13, _, _ => rfl
  | 14, _, _ => rfl
  | 15, _, _ => rfl
  | 16, _, _ => rfl
  | 17, _, _ => rfl
  | 18, _, _ => rfl
  | 19, _, _ => rfl
  | 20, _, _ => rfl
  | 21, _, _ => rfl
  | i + 22, _, h => exact absurd h (by omega)
theorem named (i : Nat) (h1 : 1 ≤ i) (h2 : i ≤ 21) : (five (opL.getD i []) == [0, 0, 0, 0, 0]) = false := by
  match i, h1, h2 with
  | 1, _, _ => decide
  | 2, _, _ => decide
  | 3, _, _ => decide
  | 4, _, _ => decide
  | 5, _, _ => decide
  | 6, _, _ => decide
  | 7, _, _ => decide
  | 8, _, _ => decide
  | 9, _, _ => decide
  | 10, _, _ => decide
  | 11, _, _ => decide
  | 12, _, _ => decide
  | 13, _, _ => decide
  | 14, _, _ => decide
  | 15, _, _ => decide
  | 16, _, _ => decide
  | 17, _, _ => decide
  | 18, _, _ => decide
  | 19, _, _ => decide
  | 20, _, _ => decide
  | 21, _, _ => decide
  | i + 22, _, h => exact absurd h (by omega)

theorem wpList_val {P : Program} {ops : Array Oper} {Q : Exit → Act → World → Prop} {a : Act} {w : World} {rest : List Oper} {o : Oper} (hg : o.guard = none) (v : Value) (w' : World) (hr : (execOp a.eval o).run P w = .ok (.value v) w')
    (h : wpList P ops Q rest (a.put o.dst v) w') : wpList P ops Q (o :: rest) a w := wpList_plain hg fun K hK => by
  unfold Oper.wp
  rw [hr, Oper.upon_value]
  exact hK _ _ h
theorem wpList_skp {P : Program} {ops : Array Oper} {Q : Exit → Act → World → Prop} {a : Act} {w : World} {rest : List Oper} {o : Oper} (hg : o.guard = none) (w' : World) (hr : (execOp a.eval o).run P w = .ok .skip w')
    (h : wpList P ops Q rest (a.put o.dst undef) w') : wpList P ops Q (o :: rest) a w := wpList_plain hg fun K hK => by
  unfold Oper.wp
  rw [hr, Oper.upon_skip]
  exact hK _ _ h
/-- The table as it is made. -/
def effN : Array Value := #[.nilFunc, .nilFunc, .nilFunc, .nilFunc, .nilFunc, .nilFunc, .nilFunc, .nilFunc, .nilFunc, .nilFunc, .nilFunc, .nilFunc, .nilFunc, .nilFunc, .nilFunc, .nilFunc, .nilFunc, .nilFunc, .nilFunc, .nilFunc, .nilFunc, .nilFunc]
theorem exec_build {P : Program} {ev : Operand → Value} {o : Oper} {t : TypeId} {parts : Array (Nat × Operand)} (ho : o.op = .build t parts) {v : Value} {w w' : World} (h : (Instr.build t (parts.map fun (i, x) => (i, ev x))).run P w = .ok v w') : (execOp ev o).run P w = .ok (.value v) w' := by
  unfold execOp
  simp only [ho, Sem.run_bind, Sem.run_pure, h, Result.andThen_ok]
theorem exec_alloc {P : Program} {ev : Operand → Value} {o : Oper} {t : TypeId} (ho : o.op = .alloc t) {v : Value} {w w' : World} (h : (Instr.alloc t true (.tuple #[])).run P w = .ok v w') : (execOp ev o).run P w = .ok (.value v) w' := by
  unfold execOp
  simp only [ho, Sem.run_bind, Sem.run_pure, h, Result.andThen_ok]
theorem exec_store {P : Program} {ev : Operand → Value} {o : Oper} {t : TypeId} {x y : Operand} (ho : o.op = .store t x y) {w w' : World} (h : (Instr.storeAt t (ev x) (ev y)).run P w = .ok () w') : (execOp ev o).run P w = .ok .skip w' := by
  unfold execOp
  simp only [ho, Sem.run_bind, Sem.run_pure, h, Result.andThen_ok]
theorem eff_built (a : Act) (w : World) : (Instr.build 63 ((#[(1, Operand.func 32), (2, Operand.func 32), (3, Operand.func 32), (4, Operand.func 32), (5, Operand.func 33), (6, Operand.func 34), (7, Operand.func 35), (8, Operand.func 33), (9, Operand.func 36), (10, Operand.func 35), (11, Operand.func 35), (12, Operand.func 34), (13, Operand.func 34), (14, Operand.func 34), (15, Operand.func 34), (16, Operand.func 34), (17, Operand.func 36), (18, Operand.func 35), (19, Operand.func 37), (20, Operand.func 34), (21, Operand.func 37)] : Array (Nat × Operand)).map fun (i, x) => (i, a.eval x))).run Tryd.prog w = .ok (.agg effA) w := by kernel_rfl
theorem eff_alloc (w : World) : (Instr.alloc 63 true (.tuple #[])).run Tryd.prog w = .ok (.pointer (some ⟨w.heap.size, 0, none⟩)) (w.alloc (.cells effN 63)) := by kernel_rfl
theorem eff_stored (w : World) : (Instr.storeAt 63 (.pointer (some ⟨w.heap.size, 0, none⟩)) (.agg effA)).run Tryd.prog (w.alloc (.cells effN 63)) = .ok () (w.alloc (.cells effA 63)) := run_storeAt_new w _ effN effA (by kernel_rfl) rfl (by kernel_rfl)

set_option maxRecDepth 100000 in
set_option maxHeartbeats 2000000 in
theorem effect_of (c : Int) (w : World) (ht : NameTab w) : Calls Tryd.prog 20 #[.int .i64 c] w fun e w' => e = .returned (fnV (effF c)) ∧ Below w.heap.size w w' := by
  obtain ⟨W, hW⟩ : ∃ W, W = w.alloc (.cells effA 63) := ⟨_, rfl⟩
  obtain ⟨K, hK⟩ : ∃ K, K = w.heap.size := ⟨_, rfl⟩
  have bW : Below w.heap.size w W := by rw [hW]; exact newb w _
  have hk : W.heap[K]? = some (.cells effA 63 (0, 0)) := by rw [hW, hK]; exact heap_alloc_new w _
  have HB : Hid (Below w.heap.size w W) := bW
  have HT : Hid (NameTab W) := ht.below bW
  have HWW : Hid (W = w.alloc (.cells effA 63) ∧ K = w.heap.size) := ⟨hW, hK⟩
  clear hW hK bW ht
  by_cases hc : 1 ≤ c ∧ c ≤ 21
  · obtain ⟨i, rfl⟩ : ∃ i : Nat, c = i := ⟨c.toNat, by omega⟩
    have h1 : 1 ≤ i := by omega
    have h2 : i ≤ 21 := by omega
    have HC : Hid (∀ wq, Below W.heap.size W wq → wq.cell? ⟨K, i, none⟩ = some (fnV (effF i))) := fun wq h => keeps h _ _ ((cell_of_row W K i _ _ _ hk).trans (effA_at i h1 h2))
    have HN : Hid (∀ w, Calls Tryd.prog 39 #[nameV (nameL i)] w fun e w' => e = .returned (.bool false) ∧ Below w.heap.size w w') := fun w => is_empty _ false (by rw [nameL_at h2, named i h1 h2]) w
    clear hk hc
    generalize fnV (effF i) = FV at *
    go_enter Tryd.func20, Tryd.ntmps20
    go_upto_region 1 with fail
    refine wp_region_list ?_
    refine wpList_val rfl (.agg effA) w (exec_build rfl (eff_built _ w)) ?_
    refine wpList_val rfl _ _ (exec_alloc rfl (eff_alloc w)) ?_
    refine wpList_skp rfl _ (exec_store rfl (eff_stored w)) ?_
    refine wpList_nil ?_
    rw [← HWW.out.2, ← HWW.out.1]
    simp only [Act.put, List.setIfInBounds_toArray, List.set_cons_zero, List.set_cons_succ]
    go_upto_region 2 with fail
    generalize effA = EA at *
    go_wp2_with fail
    refine (name_of_code i W HT.out).mono ?_
    rintro e w1 ⟨rfl, hb1⟩
    have B1 : Hid (Below W.heap.size W w1) := hb1
    clear hb1
    have HN1 := HN.out w1
    generalize nameV (nameL i) = NV at *
    go_wp2_with fail
    refine HN1.mono ?_
    rintro e w2 ⟨rfl, hb2⟩
    have B2 : Hid (Below W.heap.size W w2) := B1.out.trans (hb2.mono B1.out.size)
    clear hb2 HN1 B1
    have c0 := HC.out w2 B2.out
    go_wp2_with fail
    go_ret
    exact ⟨rfl, HB.out.trans (B2.out.mono HB.out.size)⟩
  · have HN : Hid (nameL c = []) := by
      show _ = _
      unfold nameL
      rw [if_neg]
      unfold codeB
      simp only [Bool.and_eq_true, decide_eq_true_eq]
      exact hc
    have HF : Hid (effF c = 37) := by
      show _ = _
      unfold effF
      rw [if_neg (by omega), if_neg (by omega), if_neg (by omega), if_neg (by omega), if_neg (by omega)]
    rw [HF.out]
    clear hk hc HF
    unfold fnV
    go_enter Tryd.func20, Tryd.ntmps20
    go_upto_region 1 with fail
    refine wp_region_list ?_
    refine wpList_val rfl (.agg effA) w (exec_build rfl (eff_built _ w)) ?_
    refine wpList_val rfl _ _ (exec_alloc rfl (eff_alloc w)) ?_
    refine wpList_skp rfl _ (exec_store rfl (eff_stored w)) ?_
    refine wpList_nil ?_
    rw [← HWW.out.2, ← HWW.out.1]
    simp only [Act.put, List.setIfInBounds_toArray, List.set_cons_zero, List.set_cons_succ]
    go_upto_region 2 with fail
    generalize effA = EA at *
    go_wp2_with fail
    refine (name_of_code c W HT.out).mono ?_
    rintro e w1 ⟨rfl, hb1⟩
    have B1 : Hid (Below W.heap.size W w1) := hb1
    clear hb1
    rw [HN.out]
    have HN1 := is_empty [] true rfl w1
    generalize nameV [] = NV at *
    go_wp2_with fail
    refine HN1.mono ?_
    rintro e w2 ⟨rfl, hb2⟩
    have B2 : Hid (Below W.heap.size W w2) := B1.out.trans (hb2.mono B1.out.size)
    clear hb2 HN1 B1
    go_wp2_with fail
    go_ret
    exact ⟨rfl, HB.out.trans (B2.out.mono HB.out.size)⟩

theorem eff_puts (c n m : Int) (w : World) : Calls Tryd.prog 32 #[.agg #[.int .i64 c, .int .i64 n, .int .i64 m]] w fun e w' => e = .returned (.tuple #[.int .i64 (0), .int .i64 (1)]) ∧ Below w.heap.size w w' := by
  have HB : Hid (∀ o, Below w.heap.size w (w.alloc o)) := fun o => newb w o
  have HB0 : Hid (Below w.heap.size w w) := Below.refl _ _
  go_enter Tryd.func32, Tryd.ntmps32
  go_wp2_with fail
  first
    | (go_ret2; exact ⟨rfl, HB.out _⟩)
    | (go_ret2; exact ⟨rfl, HB0.out⟩)
theorem eff_gathers (c n m : Int) (w : World) : Calls Tryd.prog 33 #[.agg #[.int .i64 c, .int .i64 n, .int .i64 m]] w fun e w' => e = .returned (.tuple #[.int .i64 (m), .int .i64 (1)]) ∧ Below w.heap.size w w' := by
  have HB : Hid (∀ o, Below w.heap.size w (w.alloc o)) := fun o => newb w o
  have HB0 : Hid (Below w.heap.size w w) := Below.refl _ _
  go_enter Tryd.func33, Tryd.ntmps33
  go_wp2_with fail
  first
    | (go_ret2; exact ⟨rfl, HB.out _⟩)
    | (go_ret2; exact ⟨rfl, HB0.out⟩)
theorem eff_joins (c n m : Int) (w : World) : Calls Tryd.prog 34 #[.agg #[.int .i64 c, .int .i64 n, .int .i64 m]] w fun e w' => e = .returned (.tuple #[.int .i64 (2), .int .i64 (1)]) ∧ Below w.heap.size w w' := by
  have HB : Hid (∀ o, Below w.heap.size w (w.alloc o)) := fun o => newb w o
  have HB0 : Hid (Below w.heap.size w w) := Below.refl _ _
  go_enter Tryd.func34, Tryd.ntmps34
  go_wp2_with fail
  first
    | (go_ret2; exact ⟨rfl, HB.out _⟩)
    | (go_ret2; exact ⟨rfl, HB0.out⟩)
theorem eff_uses (c n m : Int) (w : World) : Calls Tryd.prog 35 #[.agg #[.int .i64 c, .int .i64 n, .int .i64 m]] w fun e w' => e = .returned (.tuple #[.int .i64 (1), .int .i64 (0)]) ∧ Below w.heap.size w w' := by
  have HB : Hid (∀ o, Below w.heap.size w (w.alloc o)) := fun o => newb w o
  have HB0 : Hid (Below w.heap.size w w) := Below.refl _ _
  go_enter Tryd.func35, Tryd.ntmps35
  go_wp2_with fail
  first
    | (go_ret2; exact ⟨rfl, HB.out _⟩)
    | (go_ret2; exact ⟨rfl, HB0.out⟩)
theorem eff_turns (c n m : Int) (w : World) : Calls Tryd.prog 36 #[.agg #[.int .i64 c, .int .i64 n, .int .i64 m]] w fun e w' => e = .returned (.tuple #[.int .i64 (1), .int .i64 (1)]) ∧ Below w.heap.size w w' := by
  have HB : Hid (∀ o, Below w.heap.size w (w.alloc o)) := fun o => newb w o
  have HB0 : Hid (Below w.heap.size w w) := Below.refl _ _
  go_enter Tryd.func36, Tryd.ntmps36
  go_wp2_with fail
  first
    | (go_ret2; exact ⟨rfl, HB.out _⟩)
    | (go_ret2; exact ⟨rfl, HB0.out⟩)
theorem eff_keeps (c n m : Int) (w : World) : Calls Tryd.prog 37 #[.agg #[.int .i64 c, .int .i64 n, .int .i64 m]] w fun e w' => e = .returned (.tuple #[.int .i64 (0), .int .i64 (0)]) ∧ Below w.heap.size w w' := by
  have HB : Hid (∀ o, Below w.heap.size w (w.alloc o)) := fun o => newb w o
  have HB0 : Hid (Below w.heap.size w w) := Below.refl _ _
  go_enter Tryd.func37, Tryd.ntmps37
  go_wp2_with fail
  first
    | (go_ret2; exact ⟨rfl, HB.out _⟩)
    | (go_ret2; exact ⟨rfl, HB0.out⟩)
theorem effs (c n m : Int) (w : World) : Calls Tryd.prog (effF c) #[.agg #[.int .i64 c, .int .i64 n, .int .i64 m]] w fun e w' => e = .returned (.tuple #[.int .i64 (takesO ⟨c, n, m⟩), .int .i64 (putsO ⟨c, n, m⟩)]) ∧ Below w.heap.size w w' := by
  have ht : takesO ⟨c, n, m⟩ = if c = 5 ∨ c = 8 then m else if c = 7 ∨ c = 10 ∨ c = 11 ∨ c = 18 ∨ c = 9 ∨ c = 17 then 1 else if c = 6 ∨ (12 ≤ c ∧ c ≤ 16) ∨ c = 20 then 2 else 0 := rfl
  have hp : putsO ⟨c, n, m⟩ = if (1 ≤ c ∧ c ≤ 6) ∨ c = 8 ∨ c = 9 ∨ (12 ≤ c ∧ c ≤ 17) ∨ c = 20 then 1 else 0 := rfl
  rw [ht, hp]
  clear ht hp
  unfold effF
  by_cases h1 : 1 ≤ c ∧ c ≤ 4
  · rw [if_pos h1, if_neg (by omega), if_neg (by omega), if_neg (by omega), if_pos (by omega)]; exact eff_puts c n m w
  rw [if_neg h1]
  by_cases h2 : c = 5 ∨ c = 8
  · rw [if_pos h2, if_pos h2, if_pos (by omega)]; exact eff_gathers c n m w
  rw [if_neg h2, if_neg h2]
  by_cases h3 : c = 6 ∨ (12 ≤ c ∧ c ≤ 16) ∨ c = 20
  · rw [if_pos h3, if_neg (by omega), if_pos h3, if_pos (by omega)]; exact eff_joins c n m w
  rw [if_neg h3, if_neg h3]
  by_cases h4 : c = 7 ∨ c = 10 ∨ c = 11 ∨ c = 18
  · rw [if_pos h4, if_pos (by omega), if_neg (by omega)]; exact eff_uses c n m w
  rw [if_neg h4]
  by_cases h5 : c = 9 ∨ c = 17
  · rw [if_pos h5, if_pos (by omega), if_pos (by omega)]; exact eff_turns c n m w
  · rw [if_neg h5, if_neg (by omega), if_neg (by omega)]; exact eff_keeps c n m w

set_option maxRecDepth 100000 in
set_option maxHeartbeats 4000000 in
theorem impl_effect (q : O3) (w : World) (ht : NameTab w) : Calls Tryd.prog 8 #[.agg #[.int .i64 q.c, .int .i64 q.n, .int .i64 q.m]] w fun e w' => e = .returned (.tuple #[.int .i64 (takesO q), .int .i64 (putsO q)]) ∧ Below w.heap.size w w' := by
  obtain ⟨c, n, m⟩ := q
  simp only
  obtain ⟨W, hW⟩ : ∃ W, W = w.alloc (.cells #[.int .i64 c, .int .i64 n, .int .i64 m] 26) := ⟨_, rfl⟩
  obtain ⟨K, hK⟩ : ∃ K, K = w.heap.size := ⟨_, rfl⟩
  have bW : Below w.heap.size w W := by rw [hW]; exact newb w _
  have hk : W.heap[K]? = some (.cells #[.int .i64 c, .int .i64 n, .int .i64 m] 26 (0, 0)) := by rw [hW, hK]; exact heap_alloc_new w _
  have hc0 : W.cell? ⟨K, 0, none⟩ = some (.int .i64 c) := cell_of_row W K 0 _ _ _ hk
  have hc1 : W.cell? ⟨K, 1, none⟩ = some (.int .i64 n) := cell_of_row W K 1 _ _ _ hk
  have hc2 : W.cell? ⟨K, 2, none⟩ = some (.int .i64 m) := cell_of_row W K 2 _ _ _ hk
  have k0 := fun x : Later W => x.cell hc0
  have k1 := fun x : Later W => x.cell hc1
  have k2 := fun x : Later W => x.cell hc2
  have HT : Hid (∀ wq, Below w.heap.size w wq → NameTab wq) := fun wq h => ht.below h
  have HWW : Hid (W = w.alloc (.cells #[.int .i64 c, .int .i64 n, .int .i64 m] 26) ∧ K = w.heap.size) := ⟨hW, hK⟩
  have HB : Hid (Below w.heap.size w W) := bW
  have HE : Hid (∀ x : Later W, Calls Tryd.prog 20 #[.int .i64 c] x.w fun e w' => e = .returned (fnV (effF c)) ∧ Below x.w.heap.size x.w w') := fun x => effect_of c x.w (HT.out _ (bW.trans (x.le.mono bW.size)))
  have HF : Hid (∀ w, Calls Tryd.prog (effF c) #[.agg #[.int .i64 c, .int .i64 n, .int .i64 m]] w fun e w' => e = .returned (.tuple #[.int .i64 (takesO ⟨c, n, m⟩), .int .i64 (putsO ⟨c, n, m⟩)]) ∧ Below w.heap.size w w') := effs c n m
  have hcf : ∀ (vs : Array Value) (w : World), (callFunc (effF c) vs).run Tryd.prog w = .ok (.enter (effF c) vs) w := by
    intro vs w
    unfold effF
    split
    · kernel_rfl
    split
    · kernel_rfl
    split
    · kernel_rfl
    split
    · kernel_rfl
    split
    · kernel_rfl
    · kernel_rfl
  clear hk hW hK bW hc0 hc1 hc2 ht
  unfold fnV at HE
  generalize effF c = F at *
  generalize takesO ⟨c, n, m⟩ = ta at *
  generalize putsO ⟨c, n, m⟩ = pu at *
  have hone := Later.one W
  go_enter Tryd.func8, Tryd.ntmps8
  go_upto_region 1 with fail
  rw [← HWW.out.2, ← HWW.out.1]
  refine wp_region_later (by kernel_rfl) (by kernel_rfl) ?_
  repeat (go_big_quiet_step (first | (go_at_call 20; refine calls_later (HE.out _)) | (refine calls_later (HF.out _))))
  refine wpQuiet_nil ?_
  rintro _ ⟨x, rfl⟩
  go_wp2_with fail
  go_ret2
  exact ⟨rfl, HB.out.trans (x.le.mono HB.out.size)⟩
end Go.Proofs.YtkbbfgfmlilfbaaDoor
