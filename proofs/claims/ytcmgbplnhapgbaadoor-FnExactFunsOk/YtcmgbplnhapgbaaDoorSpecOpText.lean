/- spec.OpText at every op: the name of its code, N and M, each behind a blank; the empty text where there is no such code. No conditions. Written by wip/tools/mkoptext.py. -/
import Derived.Test.YtcmgbplnhapgbaaDoorOpName
import Derived.Test.YtcmgbplnhapgbaaDoorSpecDigits
import Derived.Test.YtcmgbplnhapgbaaDoorStepCall
import Derived.Deep.Cut
import Derived.Deep.RegionHeld3
import Derived.Lib.ItoaLen
namespace Go.Proofs.YtcmgbplnhapgbaaDoor
open Go.ChangeShapes Go.WideShapes Go.ChangeAt Go.RowKit

/-- What an op's text is. -/
def opTextB (c n m : Int) : ByteArray := if codeB c = true then ⟨(nameL c ++ [32] ++ Lib.itoa n ++ [32] ++ Lib.itoa m).toArray⟩ else ⟨#[]⟩

section
variable {P : Program} {md : Region.Mode} {ops : Array Oper} {Q : Exit → Act → World → Prop} {S S' : World → Prop}
/-- What is known of the worlds may grow on the way. -/
theorem wpAnyH_more (hS : ∀ w, S' w → S w) : ∀ (fuel : Nat) (listed : Array Bool) (a : Act) (w : World), wpAnyH P md ops Q S' fuel listed a w → wpAnyH P md ops Q S fuel listed a w
  | 0, _, _, _, h => h
  | fuel + 1, _, _, _, h => ⟨h.1, fun i hi => wpOp_mono (fun a' w' h' => ⟨hS _ h'.1, wpAnyH_more hS fuel _ a' w' h'.2⟩) (h.2 i hi)⟩
end

theorem step_call0 {P : Program} {ops : Array Oper} {o : Oper} {a : Act} {w : World} {K : Act → World → Prop} {Q : Exit → Act → World → Prop} {E : Prop} (hgd : o.guard = none) (f : FuncId)
    (ho : o.op = .call { callee := .value (.func f), args := #[], argTypes := #[] }) (hcf : ∀ (vs : Array Value) (w : World), (callFunc f vs).run P w = .ok (.enter f vs) w) (R : Ending → World → Prop) (hc : Calls P f #[] w R)
    (h : ∀ e w', R e w' → ∃ v, e = .returned v ∧ K (a.put o.dst v) w') : if Region.wanted o (yielded ops a.tmps) = true then Oper.wp P o a w K Q else E := by
  have hw : Region.wanted o (yielded ops a.tmps) = true := by simp [Region.wanted, hgd]
  rw [if_pos hw]
  have hrun : (execOp a.eval o).run P w = .ok (.enter f #[]) w := by
    have e : execOp a.eval o = callFunc f (#[] ++ #[].map a.eval ++ #[]) := by
      obtain ⟨dst, op, ty, pos, after, guard⟩ := o
      simp only at ho
      subst ho
      rfl
    rw [e, hcf]
    simp
  unfold Oper.wp
  rw [hrun, Oper.upon_enter]
  refine hc.mono fun e w' hr => ?_
  obtain ⟨v, rfl, hk⟩ := h e w' hr
  exact hk

theorem spec_in13 (k a b : Int) (R : Bool) (hR : R = (decide (a ≤ k) && decide (k ≤ b))) (w : World) : Calls Tryd.prog 14 #[.int .i64 k, .int .i64 a, .int .i64 b] w fun e w' => e = .returned (.bool R) ∧ w' = w := by
  by_cases h1 : a ≤ k
  · by_cases h2 : k ≤ b
    · have HR : Hid (R = true) := by show _ = _; rw [hR, decide_eq_true h1, decide_eq_true h2]; rfl
      clear hR
      go_enter Tryd.func14, Tryd.ntmps14
      go_wp2
      go_ret
      exact ⟨by rw [HR.out]; rfl, rfl⟩
    · have HR : Hid (R = false) := by show _ = _; rw [hR, decide_eq_true h1, decide_eq_false h2]; rfl
      clear hR
      go_enter Tryd.func14, Tryd.ntmps14
      go_wp2
      go_ret
      exact ⟨by rw [HR.out]; rfl, rfl⟩
  · have HR : Hid (R = false) := by show _ = _; rw [hR, decide_eq_false h1]; rfl
    clear hR
    go_enter Tryd.func14, Tryd.ntmps14
    go_wp2
    go_ret
    exact ⟨by rw [HR.out]; rfl, rfl⟩

theorem cat_two (a b : List UInt8) : ((⟨a.toArray⟩ : ByteArray) ++ ⟨b.toArray⟩) = ⟨(a ++ b).toArray⟩ := by
  apply ByteArray.ext
  simp [ByteArray.data_append]
theorem opL_len : ∀ i : Nat, i ≤ 21 → (opL.getD i []).length ≤ 5
  | 0, _ => by decide
  | 1, _ => by decide
  | 2, _ => by decide
  | 3, _ => by decide
  | 4, _ => by decide
  | 5, _ => by decide
  | 6, _ => by decide
  | 7, _ => by decide
  | 8, _ => by decide
  | 9, _ => by decide
  | 10, _ => by decide
  | 11, _ => by decide
  | 12, _ => by decide
  | 13, _ => by decide
  | 14, _ => by decide
  | 15, _ => by decide
  | 16, _ => by decide
  | 17, _ => by decide
  | 18, _ => by decide
  | 19, _ => by decide
  | 20, _ => by decide
  | 21, _ => by decide
  | n + 22, h => absurd h (by omega)

def namesAt (w : World) (g : Nat) : Prop := ∀ i, i < 22 → w.cell? ⟨g, i, none⟩ = some (.string ⟨(opL.getD i []).toArray⟩)
theorem namesAt.below {w w' : World} {g : Nat} (h : namesAt w g) (hb : Below w.heap.size w w') : namesAt w' g := fun i hi => keeps hb _ _ (h i hi)
def namesRow : Array Value := #[.string ⟨#[]⟩, .string ⟨#[110, 117, 109]⟩, .string ⟨#[108, 111, 99, 97, 108]⟩, .string ⟨#[102, 114, 101, 101]⟩, .string ⟨#[115, 101, 108, 102]⟩, .string ⟨#[99, 108, 111, 115]⟩, .string ⟨#[99, 97, 108, 108]⟩, .string ⟨#[114, 101, 116]⟩, .string ⟨#[99, 111, 110]⟩, .string ⟨#[102, 105, 101, 108, 100]⟩, .string ⟨#[105, 115, 99, 111, 110]⟩, .string ⟨#[105, 115, 110, 117, 109]⟩, .string ⟨#[97, 100, 100]⟩, .string ⟨#[115, 117, 98]⟩, .string ⟨#[109, 117, 108]⟩, .string ⟨#[108, 101, 115, 115]⟩, .string ⟨#[115, 97, 109, 101]⟩, .string ⟨#[112, 117, 116]⟩, .string ⟨#[122, 101, 114, 111]⟩, .string ⟨#[106, 117, 109, 112]⟩, .string ⟨#[115, 108, 105, 100, 101]⟩, .string ⟨#[102, 97, 105, 108]⟩]
theorem names_row {w : World} {g : Nat} {ty : TypeId} {z : Nat × Nat} (h : w.heap[g]? = some (.cells namesRow ty z)) : namesAt w g := by
  intro i hi
  match i, hi with
  | 0, _ => exact cell_of_row _ _ 0 _ _ _ h
  | 1, _ => exact cell_of_row _ _ 1 _ _ _ h
  | 2, _ => exact cell_of_row _ _ 2 _ _ _ h
  | 3, _ => exact cell_of_row _ _ 3 _ _ _ h
  | 4, _ => exact cell_of_row _ _ 4 _ _ _ h
  | 5, _ => exact cell_of_row _ _ 5 _ _ _ h
  | 6, _ => exact cell_of_row _ _ 6 _ _ _ h
  | 7, _ => exact cell_of_row _ _ 7 _ _ _ h
  | 8, _ => exact cell_of_row _ _ 8 _ _ _ h
  | 9, _ => exact cell_of_row _ _ 9 _ _ _ h
  | 10, _ => exact cell_of_row _ _ 10 _ _ _ h
  | 11, _ => exact cell_of_row _ _ 11 _ _ _ h
  | 12, _ => exact cell_of_row _ _ 12 _ _ _ h
  | 13, _ => exact cell_of_row _ _ 13 _ _ _ h
  | 14, _ => exact cell_of_row _ _ 14 _ _ _ h
  | 15, _ => exact cell_of_row _ _ 15 _ _ _ h
  | 16, _ => exact cell_of_row _ _ 16 _ _ _ h
  | 17, _ => exact cell_of_row _ _ 17 _ _ _ h
  | 18, _ => exact cell_of_row _ _ 18 _ _ _ h
  | 19, _ => exact cell_of_row _ _ 19 _ _ _ h
  | 20, _ => exact cell_of_row _ _ 20 _ _ _ h
  | 21, _ => exact cell_of_row _ _ 21 _ _ _ h
  | n + 22, h => exact absurd h (by omega)

theorem names_enter (vs : Array Value) (w : World) : (callFunc 20 vs).run Tryd.prog w = .ok (.enter 20 vs) w := by kernel_rfl
theorem digs_enter (vs : Array Value) (w : World) : (callFunc 21 vs).run Tryd.prog w = .ok (.enter 21 vs) w := by kernel_rfl

set_option maxRecDepth 100000 in
set_option maxHeartbeats 2000000 in
theorem spec_names13 (w : World) : Calls Tryd.prog 20 #[] w fun e w' => e = .returned (.slice (some ⟨w.heap.size, 0, none⟩) 22 22) ∧ Below w.heap.size w w' ∧ namesAt w' w.heap.size := by
  have HN : Hid (∀ o, Below w.heap.size w (w.alloc o)) := fun o => newb w o
  have HR : Hid (∀ ty, namesAt (w.alloc (.cells namesRow ty)) w.heap.size) := fun ty => names_row (heap_alloc_new w _)
  go_enter Tryd.func20, Tryd.ntmps20
  go_wp2
  go_ret
  exact ⟨rfl, HN.out _, HR.out _⟩

set_option maxRecDepth 100000 in
set_option maxHeartbeats 4000000 in
theorem spec_optext (c n m : Int) (hn0 : -9223372036854775808 ≤ n) (hn1 : n ≤ 9223372036854775807) (hm0 : -9223372036854775808 ≤ m) (hm1 : m ≤ 9223372036854775807) (w : World) :
    Calls Tryd.prog 10 #[.agg #[.int .i64 c, .int .i64 n, .int .i64 m]] w fun e w' => e = .returned (.string (opTextB c n m)) ∧ Below w.heap.size w w' := by
  obtain ⟨W, hW⟩ : ∃ W, W = w.alloc (.cells #[.int .i64 c, .int .i64 n, .int .i64 m] 32) := ⟨_, rfl⟩
  obtain ⟨K, hK⟩ : ∃ K, K = w.heap.size := ⟨_, rfl⟩
  have bW : Below w.heap.size w W := by rw [hW]; exact newb w _
  have hk : W.heap[K]? = some (.cells #[.int .i64 c, .int .i64 n, .int .i64 m] 32 (0, 0)) := by rw [hW, hK]; exact heap_alloc_new w _
  have k0 : W.cell? ⟨K, 0, none⟩ = some (.int .i64 c) := cell_of_row W K 0 _ _ _ hk
  have k1 : W.cell? ⟨K, 1, none⟩ = some (.int .i64 n) := cell_of_row W K 1 _ _ _ hk
  have k2 : W.cell? ⟨K, 2, none⟩ = some (.int .i64 m) := cell_of_row W K 2 _ _ _ hk
  have HC : Hid (∀ wq, Below W.heap.size W wq → wq.cell? ⟨K, 0, none⟩ = some (.int .i64 c) ∧ wq.cell? ⟨K, 1, none⟩ = some (.int .i64 n) ∧ wq.cell? ⟨K, 2, none⟩ = some (.int .i64 m)) := fun wq h => ⟨keeps h _ _ k0, keeps h _ _ k1, keeps h _ _ k2⟩
  have HWW : Hid (W = w.alloc (.cells #[.int .i64 c, .int .i64 n, .int .i64 m] 32)) := hW
  have HK : Hid (K = w.heap.size) := hK
  have HB : Hid (Below w.heap.size w W) := bW
  have HD : Hid ((∀ wq, Calls Tryd.prog 21 #[.int .i64 n] wq fun e w' => e = .returned (.string ⟨(Lib.itoa n).toArray⟩) ∧ Below wq.heap.size wq w') ∧ (∀ wq, Calls Tryd.prog 21 #[.int .i64 m] wq fun e w' => e = .returned (.string ⟨(Lib.itoa m).toArray⟩) ∧ Below wq.heap.size wq w')) := ⟨fun wq => spec_digits n hn0 hn1 wq, fun wq => spec_digits m hm0 hm1 wq⟩
  have hA := Lib.itoa_length_le n hn0 hn1
  have hBm := Lib.itoa_length_le m hm0 hm1
  clear hk hW hK bW hn0 hn1 hm0 hm1
  have HTT : Hid (opTextB c n m = if codeB c = true then ⟨(nameL c ++ [32] ++ Lib.itoa n ++ [32] ++ Lib.itoa m).toArray⟩ else ⟨#[]⟩) := rfl
  generalize opTextB c n m = T at *
  generalize Lib.itoa n = A at *
  generalize Lib.itoa m = B at *
  cases hc : codeB c with
  | false =>
    have HT : Hid (T = ⟨#[]⟩) := by show _ = _; rw [HTT.out, hc]; rfl
    clear HTT
    have HCB : Hid (codeB c = false) := hc
    clear hc
    rw [HT.out]
    go_enter Tryd.func10, Tryd.ntmps10
    go_upto_region 1 with fail
    rw [← HWW.out, ← HK.out]
    go_wp2_with (go_at_call 14; refine (spec_in13 c 1 21 false HCB.out.symm _).mono ?_; rintro e w1 ⟨rfl, rfl⟩)
    go_ret
    exact ⟨rfl, HB.out⟩
  | true =>
    obtain ⟨i, rfl, hi1, hi2⟩ := code_cases hc
    have HT : Hid (T = ⟨(opL.getD i [] ++ [32] ++ A ++ [32] ++ B).toArray⟩) := by show _ = _; rw [HTT.out, hc, nameL_at (by omega)]; rfl
    clear HTT
    have hl5 := opL_len i hi2
    have HLN : Hid (∀ wq g, namesAt wq g → wq.cell? ⟨g, i, none⟩ = some (.string ⟨(opL.getD i []).toArray⟩)) := fun wq g h => h i (by omega)
    generalize opL.getD i [] = l at *
    have HCB : Hid (codeB i = true) := hc
    clear hc
    rw [HT.out]
    go_enter Tryd.func10, Tryd.ntmps10
    go_upto_region 1 with fail
    rw [← HWW.out, ← HK.out]
    go_upto_region 3 with (go_at_call 14; refine (spec_in13 i 1 21 true HCB.out.symm _).mono ?_; rintro e w1 ⟨rfl, hw1⟩; obtain rfl : W = w1 := hw1.symm)
    refine wp_region_held_drew (S := fun wq => Below W.heap.size W wq) (by kernel_rfl) (Below.refl _ _).drew (fun HS0 => ?_)
    clear k0 k1 k2
    have HBL := (Below.refl W.heap.size W).drew
    generalize W.drew = W0 at HS0 HBL ⊢
    refine wpAnyH_take (i := 1) (oi := { dst := some 8, op := Op.fieldAddr 32 (Operand.tmp 1) 0, type := 0, pos := "l13_code.go:67", after := #[], guard := none }) (v := (.pointer (some ⟨K, 0, none⟩))) rfl (by kernel_rfl) (by kernel_rfl) (by kernel_rfl) (fun _ _ _ h => h) (Or.inl ⟨by rfl, ?_⟩) HS0 ?_
    · intro wq hSq
      clear hSq
      go_simp
    try simp only [Act.put, List.setIfInBounds_toArray, List.set_cons_zero, List.set_cons_succ]
    refine wpAnyH_take (i := 2) (oi := { dst := some 9, op := Op.load 3 (Operand.tmp 8), type := 3, pos := "l13_code.go:67", after := #[{ on := 1, ground := Ground.data }], guard := none }) (v := (.int .i64 i)) rfl (by kernel_rfl) (by kernel_rfl) (by kernel_rfl) (fun _ _ _ h => h) (Or.inl ⟨by rfl, ?_⟩) HS0 ?_
    · intro wq hSq
      obtain ⟨c0, c1, c2⟩ := HC.out wq hSq
      clear hSq
      go_simp
    try simp only [Act.put, List.setIfInBounds_toArray, List.set_cons_zero, List.set_cons_succ]
    refine wpAnyH_take (i := 6) (oi := { dst := some 13, op := Op.fieldAddr 32 (Operand.tmp 1) 1, type := 0, pos := "l13_code.go:67", after := #[], guard := none }) (v := (.pointer (some ⟨K, 1, none⟩))) rfl (by kernel_rfl) (by kernel_rfl) (by kernel_rfl) (fun _ _ _ h => h) (Or.inl ⟨by rfl, ?_⟩) HS0 ?_
    · intro wq hSq
      clear hSq
      go_simp
    try simp only [Act.put, List.setIfInBounds_toArray, List.set_cons_zero, List.set_cons_succ]
    refine wpAnyH_take (i := 7) (oi := { dst := some 14, op := Op.load 3 (Operand.tmp 13), type := 3, pos := "l13_code.go:67", after := #[{ on := 6, ground := Ground.data }], guard := none }) (v := (.int .i64 n)) rfl (by kernel_rfl) (by kernel_rfl) (by kernel_rfl) (fun _ _ _ h => h) (Or.inl ⟨by rfl, ?_⟩) HS0 ?_
    · intro wq hSq
      obtain ⟨c0, c1, c2⟩ := HC.out wq hSq
      clear hSq
      go_simp
    try simp only [Act.put, List.setIfInBounds_toArray, List.set_cons_zero, List.set_cons_succ]
    refine wpAnyH_take (i := 11) (oi := { dst := some 18, op := Op.fieldAddr 32 (Operand.tmp 1) 2, type := 0, pos := "l13_code.go:67", after := #[], guard := none }) (v := (.pointer (some ⟨K, 2, none⟩))) rfl (by kernel_rfl) (by kernel_rfl) (by kernel_rfl) (fun _ _ _ h => h) (Or.inl ⟨by rfl, ?_⟩) HS0 ?_
    · intro wq hSq
      clear hSq
      go_simp
    try simp only [Act.put, List.setIfInBounds_toArray, List.set_cons_zero, List.set_cons_succ]
    refine wpAnyH_take (i := 12) (oi := { dst := some 19, op := Op.load 3 (Operand.tmp 18), type := 3, pos := "l13_code.go:67", after := #[{ on := 11, ground := Ground.data }], guard := none }) (v := (.int .i64 m)) rfl (by kernel_rfl) (by kernel_rfl) (by kernel_rfl) (fun _ _ _ h => h) (Or.inl ⟨by rfl, ?_⟩) HS0 ?_
    · intro wq hSq
      obtain ⟨c0, c1, c2⟩ := HC.out wq hSq
      clear hSq
      go_simp
    try simp only [Act.put, List.setIfInBounds_toArray, List.set_cons_zero, List.set_cons_succ]
    refine wpAnyH_ready (rs := [0]) (by kernel_rfl) (by simp) ?_
    refine AllReadyH.cons (o := { dst := some 7, op := Op.call { callee := Callee.value (Operand.func 20), args := #[], argTypes := #[] }, type := 50, pos := "l13_code.go:67", after := #[], guard := none }) rfl (fun KK hK => ?_) AllReadyH.nil
    refine step_call0 rfl 20 rfl names_enter _ (spec_names13 W0) ?_
    rintro e w1 ⟨rfl, hb1, hn1⟩
    refine ⟨_, rfl, ?_⟩
    have HS1 : Below W.heap.size W w1 := HS0.trans (hb1.mono HS0.size)
    refine hK.out _ _ HS1 (fun _ => ?_)
    clear hK KK
    try simp only [Act.put, List.setIfInBounds_toArray, List.set_cons_zero, List.set_cons_succ]
    generalize W0.heap.size = g at *
    have HN1 : Hid (namesAt w1 g) := hn1
    refine wpAnyH_more (S' := fun wq => Below W.heap.size W wq ∧ namesAt wq g) (fun _ h => h.1) _ _ _ _ ?_
    have HSN : Below W.heap.size W w1 ∧ namesAt w1 g := ⟨HS1, hn1⟩
    clear hb1 hn1 HS0
    refine wpAnyH_take (i := 3) (oi := { dst := some 10, op := Op.indexAddr 50 (Operand.tmp 7) (Operand.tmp 9), type := 0, pos := "l13_code.go:67", after := #[{ on := 0, ground := Ground.data }, { on := 2, ground := Ground.data }], guard := none }) (v := (.pointer (some ⟨g, i, none⟩))) rfl (by kernel_rfl) (by kernel_rfl) (by kernel_rfl) (fun _ _ _ h => h) (Or.inl ⟨by rfl, ?_⟩) HSN ?_
    · intro wq hSq
      clear hSq
      go_simp
      intro h
      exact absurd h (by omega)
    try simp only [Act.put, List.setIfInBounds_toArray, List.set_cons_zero, List.set_cons_succ]
    refine wpAnyH_take (i := 4) (oi := { dst := some 11, op := Op.load 9 (Operand.tmp 10), type := 9, pos := "l13_code.go:67", after := #[{ on := 3, ground := Ground.data }], guard := none }) (v := (.string ⟨(l).toArray⟩)) rfl (by kernel_rfl) (by kernel_rfl) (by kernel_rfl) (fun _ _ _ h => h) (Or.inl ⟨by rfl, ?_⟩) HSN ?_
    · intro wq hSq
      have c0 := HLN.out _ _ hSq.2
      clear hSq
      go_simp
    try simp only [Act.put, List.setIfInBounds_toArray, List.set_cons_zero, List.set_cons_succ]
    refine wpAnyH_take (i := 5) (oi := { dst := some 12, op := Op.binOp BinOp.add 9 (Operand.tmp 11) (Operand.const (Value.string { data := #[32] })) 9, type := 9, pos := "l13_code.go:67", after := #[{ on := 4, ground := Ground.data }], guard := none }) (v := (.string ⟨(l ++ [32]).toArray⟩)) rfl (by kernel_rfl) (by kernel_rfl) (by kernel_rfl) (fun _ _ _ h => h) (Or.inl ⟨by rfl, ?_⟩) HSN ?_
    · intro wq hSq
      clear hSq
      go_simp
      rw [if_neg (by omega)]
      simp [cat_two _ [32]]
    try simp only [Act.put, List.setIfInBounds_toArray, List.set_cons_zero, List.set_cons_succ]
    refine wpAnyH_ready (rs := [8]) (by kernel_rfl) (by simp) ?_
    refine AllReadyH.cons (o := { dst := some 15, op := Op.call { callee := Callee.value (Operand.func 21), args := #[Operand.tmp 14], argTypes := #[3] }, type := 9, pos := "l13_code.go:67", after := #[{ on := 7, ground := Ground.data }, { on := 0, ground := Ground.chain }], guard := none }) rfl (fun KK hK => ?_) AllReadyH.nil
    refine step_call1 rfl 21 _ _ rfl digs_enter _ rfl _ (HD.out.1 w1) ?_
    rintro e w2 ⟨rfl, hb2⟩
    refine ⟨_, rfl, ?_⟩
    have HSM : Below W.heap.size W w2 ∧ namesAt w2 g := ⟨HSN.1.trans (hb2.mono HSN.1.size), HSN.2.below hb2⟩
    refine hK.out _ _ HSM (fun _ => ?_)
    clear hK KK
    try simp only [Act.put, List.setIfInBounds_toArray, List.set_cons_zero, List.set_cons_succ]
    refine wpAnyH_take (i := 9) (oi := { dst := some 16, op := Op.binOp BinOp.add 9 (Operand.tmp 12) (Operand.tmp 15) 9, type := 9, pos := "l13_code.go:67", after := #[{ on := 5, ground := Ground.data }, { on := 8, ground := Ground.data }], guard := none }) (v := (.string ⟨(l ++ [32] ++ A).toArray⟩)) rfl (by kernel_rfl) (by kernel_rfl) (by kernel_rfl) (fun _ _ _ h => h) (Or.inl ⟨by rfl, ?_⟩) HSM ?_
    · intro wq hSq
      clear hSq
      go_simp
      rw [if_neg (by omega)]
      simp [cat_two]
    try simp only [Act.put, List.setIfInBounds_toArray, List.set_cons_zero, List.set_cons_succ]
    refine wpAnyH_take (i := 10) (oi := { dst := some 17, op := Op.binOp BinOp.add 9 (Operand.tmp 16) (Operand.const (Value.string { data := #[32] })) 9, type := 9, pos := "l13_code.go:67", after := #[{ on := 9, ground := Ground.data }], guard := none }) (v := (.string ⟨(l ++ [32] ++ A ++ [32]).toArray⟩)) rfl (by kernel_rfl) (by kernel_rfl) (by kernel_rfl) (fun _ _ _ h => h) (Or.inl ⟨by rfl, ?_⟩) HSM ?_
    · intro wq hSq
      clear hSq
      go_simp
      rw [if_neg (by omega)]
      simp [cat_two _ [32]]
    try simp only [Act.put, List.setIfInBounds_toArray, List.set_cons_zero, List.set_cons_succ]
    refine wpAnyH_ready (rs := [13]) (by kernel_rfl) (by simp) ?_
    refine AllReadyH.cons (o := { dst := some 20, op := Op.call { callee := Callee.value (Operand.func 21), args := #[Operand.tmp 19], argTypes := #[3] }, type := 9, pos := "l13_code.go:67", after := #[{ on := 12, ground := Ground.data }, { on := 8, ground := Ground.chain }], guard := none }) rfl (fun KK hK => ?_) AllReadyH.nil
    refine step_call1 rfl 21 _ _ rfl digs_enter _ rfl _ (HD.out.2 w2) ?_
    rintro e w3 ⟨rfl, hb3⟩
    refine ⟨_, rfl, ?_⟩
    have HSO : Below W.heap.size W w3 ∧ namesAt w3 g := ⟨HSM.1.trans (hb3.mono HSM.1.size), HSM.2.below hb3⟩
    refine hK.out _ _ HSO (fun _ => ?_)
    clear hK KK
    try simp only [Act.put, List.setIfInBounds_toArray, List.set_cons_zero, List.set_cons_succ]
    refine wpAnyH_take (i := 14) (oi := { dst := some 21, op := Op.binOp BinOp.add 9 (Operand.tmp 17) (Operand.tmp 20) 9, type := 9, pos := "l13_code.go:67", after := #[{ on := 10, ground := Ground.data }, { on := 13, ground := Ground.data }], guard := none }) (v := (.string ⟨(l ++ [32] ++ A ++ [32] ++ B).toArray⟩)) rfl (by kernel_rfl) (by kernel_rfl) (by kernel_rfl) (fun _ _ _ h => h) (Or.inl ⟨by rfl, ?_⟩) HSO ?_
    · intro wq hSq
      clear hSq
      go_simp
      rw [if_neg (by omega)]
      simp [cat_two]
    try simp only [Act.put, List.setIfInBounds_toArray, List.set_cons_zero, List.set_cons_succ]
    refine wpAnyH_take (i := 15) (oi := { dst := some 2, op := Op.assign (Operand.tmp 21), type := 9, pos := "l13_code.go:67", after := #[{ on := 14, ground := Ground.data }, { on := 13, ground := Ground.chain }, { on := 0, ground := Ground.phase }, { on := 1, ground := Ground.phase }, { on := 2, ground := Ground.phase }, { on := 3, ground := Ground.phase }, { on := 4, ground := Ground.phase }, { on := 5, ground := Ground.phase }, { on := 6, ground := Ground.phase }, { on := 7, ground := Ground.phase }, { on := 8, ground := Ground.phase }, { on := 9, ground := Ground.phase }, { on := 10, ground := Ground.phase }, { on := 11, ground := Ground.phase }, { on := 12, ground := Ground.phase }, { on := 13, ground := Ground.phase }, { on := 14, ground := Ground.phase }], guard := none }) (v := (.string ⟨(l ++ [32] ++ A ++ [32] ++ B).toArray⟩)) rfl (by kernel_rfl) (by kernel_rfl) (by kernel_rfl) (fun _ _ _ h => h) (Or.inl ⟨by rfl, ?_⟩) HSO ?_
    · intro wq hSq
      clear hSq
      go_simp
    try simp only [Act.put, List.setIfInBounds_toArray, List.set_cons_zero, List.set_cons_succ]
    refine wpAnyH_done (by kernel_rfl) ?_ _
    have HE : Hid (Below w.heap.size w w3) := HB.out.trans (HSO.1.mono HB.out.size)
    clear HSO HSM HSN
    go_wp2_with fail
    go_ret
    exact ⟨by simp, HE.out⟩
end Go.Proofs.YtcmgbplnhapgbaaDoor
