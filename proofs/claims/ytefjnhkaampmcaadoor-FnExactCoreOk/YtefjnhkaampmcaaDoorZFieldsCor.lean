/- impl.coreNumberOk and impl.coreFieldsOk. Condition: that of impl.shapeOf. -/
import Derived.Test.YtefjnhkaampmcaaDoorZShapes
import Derived.Test.YtefjnhkaampmcaaDoorZWordsOk
import Derived.Test.YtefjnhkaampmcaaDoorZCorOkP
import Derived.Deep.Cut
namespace Go.Proofs.YtefjnhkaampmcaaDoor
open Go.ChangeShapes Go.WideShapes Go.ChangeAt Go.RowKit

/-- What the shapes say of an op. -/
theorem shape_facts (op : Int) (s : List UInt8) (a b : Int) (h : shapesL[shapeAt op]? = some (s, a, b)) :
    (a = 0 ∨ a = 1 ∨ a = 2) ∧ (isOpB op = true → kidsN op = b ∧ namedB op = decide (0 < a) ∧ decide (op = 6) = decide (1 < a)) ∧ (isOpB op = false → kidsN op = -1) := by
  cases hop : isOpB op with
  | true =>
    obtain ⟨i, rfl, hi1, hi2⟩ := isOp_yes hop
    have e : shapeAt (i : Int) = i := by unfold shapeAt; rw [if_pos hop]; simp
    rw [e] at h
    clear hop e
    have hi3 : i < 19 := by omega
    clear hi2
    refine ⟨?_, fun _ => ?_, fun h => by cases h⟩
    all_goals
      match i, hi1, hi3, h with
      | 1, _, _, h | 2, _, _, h | 3, _, _, h | 4, _, _, h | 5, _, _, h | 6, _, _, h | 7, _, _, h | 8, _, _, h | 9, _, _, h | 10, _, _, h | 11, _, _, h | 12, _, _, h | 13, _, _, h | 14, _, _, h | 15, _, _, h | 16, _, _, h | 17, _, _, h | 18, _, _, h =>
        have h' := Option.some.inj h
        simp only [Prod.mk.injEq] at h'
        obtain ⟨_, rfl, rfl⟩ := h'
        decide
      | n + 19, _, h, _ => omega
  | false =>
    have e : shapeAt op = 0 := by unfold shapeAt; rw [if_neg (by rw [hop]; simp)]
    rw [e] at h
    have h' := Option.some.inj h
    simp only [Prod.mk.injEq] at h'
    obtain ⟨_, rfl, rfl⟩ := h'
    refine ⟨.inl rfl, (fun h => by cases h), fun _ => ?_⟩
    unfold isOpB at hop
    simp only [Bool.and_eq_false_iff, decide_eq_false_iff_not] at hop
    unfold kidsN
    rw [if_neg (by omega), if_neg (by omega), if_neg (by omega), if_neg (by omega)]

def numB9 (op n : Int) : Bool := !(!(op == 1) && !(n == 0)) && wordCB n

set_option maxRecDepth 100000 in
theorem core_number (t : C) (p : Option Addr) (cap : Nat) (w : World) :
    Calls Tryd.prog 27 #[.agg #[.int .i64 t.op, .int .i64 t.n, .string t.s, .string t.t2, .slice p t.len cap]] w fun e w' => e = .returned (.bool (numB9 t.op t.n)) ∧ Below w.heap.size w w' := by
  have HW : Hid (∀ w, Calls Tryd.prog 34 #[.int .i64 t.n] w fun e w' => e = .returned (.bool (wokB t.n)) ∧ w' = w) := fun w => impl_wordOk t.n w
  have HB : Hid (∀ o1, Below w.heap.size w (w.alloc o1)) := fun o1 => newb w _
  by_cases h1 : t.op = 1
  · have HR : Hid (numB9 t.op t.n = wokB t.n) := by show _ = _; unfold numB9; rw [h1]; simp [wordCB, wokB]
    rw [HR.out, h1]
    go_enter Tryd.func27, Tryd.ntmps27
    go_wp2_with fail
    refine (HW.out _).mono ?_
    rintro e w1 ⟨rfl, rfl⟩
    go_wp2_with fail
    go_ret
    exact ⟨rfl, HB.out _⟩
  · have g1 : (t.op == 1) = false := by simpa using h1
    cases h0 : (t.n == 0) with
    | true =>
      have hn0 : t.n = 0 := by simpa using h0
      have HR : Hid (numB9 t.op t.n = true) := by show _ = _; unfold numB9; rw [hn0]; simp [wordCB]
      rw [HR.out]
      go_enter Tryd.func27, Tryd.ntmps27
      go_wp2_with fail
      go_ret
      exact ⟨rfl, HB.out _⟩
    | false =>
      have HR : Hid (numB9 t.op t.n = false) := by show _ = _; unfold numB9; rw [g1, h0]; rfl
      rw [HR.out]
      go_enter Tryd.func27, Tryd.ntmps27
      go_wp2_with fail
      go_ret
      exact ⟨rfl, HB.out _⟩

set_option maxRecDepth 100000 in
set_option maxHeartbeats 4000000 in
theorem core_fields (t : C) (w : World) (p : Option Addr) (cap : Nat) (hS : ShapeTab w) :
    Calls Tryd.prog 14 #[.agg #[.int .i64 t.op, .int .i64 t.n, .string t.s, .string t.t2, .slice p t.len cap]] w fun e w' => e = .returned (.bool (fieldsCB t)) ∧ Below w.heap.size w w' := by
  obtain ⟨⟨sw, a, b⟩, hsh⟩ : ∃ x, shapesL[shapeAt t.op]? = some x := ⟨_, List.getElem?_eq_getElem (show shapeAt t.op < shapesL.length from shapeAt_lt t.op)⟩
  obtain ⟨ha, hf1, hf2⟩ := shape_facts t.op sw a b hsh
  have HSH : Hid (∀ W, Below w.heap.size w W → Calls Tryd.prog 25 #[.int .i64 t.op] W fun e w' => e = .returned (.agg #[.string ⟨sw.toArray⟩, .int .i64 a, .int .i64 b]) ∧ Below W.heap.size W w') := fun W h => shape_of t.op sw a b hsh W (hS.below h)
  have HNM : Hid (∀ W, Calls Tryd.prog 27 #[.agg #[.int .i64 t.op, .int .i64 t.n, .string t.s, .string t.t2, .slice p t.len cap]] W fun e w' => e = .returned (.bool (numB9 t.op t.n)) ∧ Below W.heap.size W w') := fun W => core_number t p cap W
  have HOP : Hid (∀ W, Calls Tryd.prog 26 #[.int .i64 t.op] W fun e w' => e = .returned (.bool (isOpB t.op)) ∧ w' = W) := fun W => is_core_op t.op W
  have HR : Hid (fieldsCB t = (isOpB t.op && ((decide (0 < a) == !(t.s.toList == ([] : List UInt8))) && ((decide (1 < a) == !(t.t2.toList == ([] : List UInt8))) && (numB9 t.op t.n && ((t.len : Int) == b)))))) := by
    show _ = _
    unfold fieldsCB
    cases hop : isOpB t.op with
    | true =>
      obtain ⟨e1, e2, e3⟩ := hf1 hop
      rw [e1, e2, e3]
      have e4 : (b == (t.len : Int)) = ((t.len : Int) == b) := by rw [Bool.eq_iff_iff, beq_iff_eq, beq_iff_eq]; exact eq_comm
      rw [e4]
      unfold numB9
      generalize ((t.len : Int) == b) = x1
      generalize (decide (0 < a) == !(t.s.toList == ([] : List UInt8))) = x2
      generalize (decide (1 < a) == !(t.t2.toList == ([] : List UInt8))) = x3
      generalize (!(!(t.op == 1) && !(t.n == 0)) && wordCB t.n) = x4
      cases x1 <;> cases x2 <;> cases x3 <;> cases x4 <;> rfl
    | false =>
      have e1 := hf2 hop
      rw [e1]
      have : ((-1 : Int) == (t.len : Int)) = false := by rw [beq_eq_false_iff_ne]; omega
      rw [this]; rfl
  have HB : Hid (∀ o1, Below w.heap.size w (w.alloc o1)) := fun o1 => newb w _
  generalize fieldsCB t = R at *
  generalize numB9 t.op t.n = nb at *
  generalize isOpB t.op = ob at *
  clear hf1 hf2 hsh hS
  generalize t.op = op at *
  generalize t.n = n at *
  generalize t.s = s at *
  generalize t.t2 = t2 at *
  generalize t.len = len at *
  obtain ⟨TB, hTB⟩ : ∃ TB, TB = w.heap.size := ⟨_, rfl⟩
  obtain ⟨W1, hW1⟩ : ∃ W1, W1 = w.alloc (.cells #[.int .i64 op, .int .i64 n, .string s, .string t2, .slice p len cap] 29) := ⟨_, rfl⟩
  have HT1 : Hid (Below w.heap.size w W1 ∧ W1.heap[TB]? = some (.cells #[.int .i64 op, .int .i64 n, .string s, .string t2, .slice p len cap] 29 (0, 0))) := ⟨by rw [hW1]; exact newb w _, by rw [hW1, hTB]; exact heap_alloc_new w _⟩
  have HW1 : Hid (W1 = w.alloc (.cells #[.int .i64 op, .int .i64 n, .string s, .string t2, .slice p len cap] 29) ∧ TB = w.heap.size) := ⟨hW1, hTB⟩
  have q0 : W1.cell? ⟨TB, 0, none⟩ = some (.int .i64 op) := cell_of_row W1 TB 0 _ _ _ HT1.out.2
  clear hW1 hTB
  go_enter Tryd.func14, Tryd.ntmps14
  go_upto_region 1 with fail
  rw [← HW1.out.1, ← HW1.out.2]
  go_wp2_with fail
  refine (HSH.out _ HT1.out.1).mono ?_
  rintro e w2 ⟨rfl, hb2⟩
  have HT2 : Hid (Below w.heap.size w w2 ∧ w2.heap[TB]? = some (.cells #[.int .i64 op, .int .i64 n, .string s, .string t2, .slice p len cap] 29 (0, 0))) := ⟨HT1.out.1.trans (hb2.mono HT1.out.1.size), (hb2.block _ (Array.getElem?_eq_some_iff.1 HT1.out.2).1).trans HT1.out.2⟩
  clear hb2 q0
  obtain ⟨SB, hSB⟩ : ∃ SB, SB = w2.heap.size := ⟨_, rfl⟩
  obtain ⟨w3, hw3⟩ : ∃ w3, w3 = w2.alloc (.cells #[.string ⟨sw.toArray⟩, .int .i64 a, .int .i64 b] 50) := ⟨_, rfl⟩
  have HT3 : Hid (Below w.heap.size w w3 ∧ w3.heap[TB]? = some (.cells #[.int .i64 op, .int .i64 n, .string s, .string t2, .slice p len cap] 29 (0, 0)) ∧ w3.heap[SB]? = some (.cells #[.string ⟨sw.toArray⟩, .int .i64 a, .int .i64 b] 50 (0, 0))) := by
    have nb : Below w2.heap.size w2 w3 := by rw [hw3]; exact newb _ _
    exact ⟨HT2.out.1.trans (nb.mono HT2.out.1.size), (nb.block _ (Array.getElem?_eq_some_iff.1 HT2.out.2).1).trans HT2.out.2, by rw [hw3, hSB]; exact heap_alloc_new _ _⟩
  have HW3 : Hid (w3 = w2.alloc (.cells #[.string ⟨sw.toArray⟩, .int .i64 a, .int .i64 b] 50) ∧ SB = w2.heap.size) := ⟨hw3, hSB⟩
  clear hw3 hSB
  go_upto_region 2 with fail
  rw [← HW3.out.1, ← HW3.out.2]
  have m0 : w3.cell? ⟨TB, 0, none⟩ = some (.int .i64 op) := cell_of_row w3 TB 0 _ _ _ HT3.out.2.1
  have m1 : w3.cell? ⟨TB, 1, none⟩ = some (.int .i64 n) := cell_of_row w3 TB 1 _ _ _ HT3.out.2.1
  have m2 : w3.cell? ⟨TB, 2, none⟩ = some (.string s) := cell_of_row w3 TB 2 _ _ _ HT3.out.2.1
  have m3 : w3.cell? ⟨TB, 3, none⟩ = some (.string t2) := cell_of_row w3 TB 3 _ _ _ HT3.out.2.1
  have m4 : w3.cell? ⟨TB, 4, none⟩ = some (.slice p len cap) := cell_of_row w3 TB 4 _ _ _ HT3.out.2.1
  have k1 : w3.cell? ⟨SB, 1, none⟩ = some (.int .i64 a) := cell_of_row w3 SB 1 _ _ _ HT3.out.2.2
  have k2 : w3.cell? ⟨SB, 2, none⟩ = some (.int .i64 b) := cell_of_row w3 SB 2 _ _ _ HT3.out.2.2
  cases hs0 : (s.toList == ([] : List UInt8)) <;> cases hs1 : (t2.toList == ([] : List UInt8)) <;> rcases ha with rfl | rfl | rfl
  all_goals
    have hn0 : (s.toList != ([] : List UInt8)) = !(s.toList == ([] : List UInt8)) := rfl
    have hn1 : (t2.toList != ([] : List UInt8)) = !(t2.toList == ([] : List UInt8)) := rfl
    rw [hs0] at hn0 HR
    rw [hs1] at hn1 HR
    simp only [Bool.not_false, Bool.not_true] at hn0 hn1
    cases ob
    · have HR2 : Hid (R = false) := HR.out
      clear HR
      go_wp2_with fail
      refine (HOP.out _).mono ?_
      rintro e w4 ⟨rfl, rfl⟩
      go_wp2_with fail
      go_ret
      exact ⟨ret_bool HR2.out.symm, HT3.out.1⟩
    · first
      | (have HR2 : Hid (R = false) := (show R = false from HR.out.trans (by rfl))
         clear HR
         go_wp2_with fail
         refine (HOP.out _).mono ?_
         rintro e w4 ⟨rfl, rfl⟩
         go_wp2_with fail
         go_ret
         exact ⟨ret_bool HR2.out.symm, HT3.out.1⟩)
      | (have HR2 : Hid (R = (nb && ((len : Int) == b))) := (show R = (nb && ((len : Int) == b)) from HR.out.trans (by rfl))
         clear HR
         go_wp2_with fail
         refine (HOP.out _).mono ?_
         rintro e w4 ⟨rfl, rfl⟩
         go_wp2_with fail
         refine (HNM.out _).mono ?_
         rintro e w5 ⟨rfl, hb5⟩
         have m4' := keeps hb5 _ _ m4
         have k2' := keeps hb5 _ _ k2
         have HB5 : Hid (Below w.heap.size w w5) := HT3.out.1.trans (hb5.mono HT3.out.1.size)
         clear hb5 m0 m1 m2 m3 m4 k1 k2
         cases nb
         · have HR3 : Hid (R = false) := HR2.out
           go_wp2_with fail
           go_ret
           exact ⟨ret_bool HR3.out.symm, HB5.out⟩
         · have HR3 : Hid (R = ((len : Int) == b)) := HR2.out.trans (Bool.true_and _)
           cases hz : ((len : Int) == b)
           all_goals
             go_wp2_with fail
             go_ret
             exact ⟨ret_bool (by rw [HR3.out, hz]), HB5.out⟩)
end Go.Proofs.YtefjnhkaampmcaaDoor
