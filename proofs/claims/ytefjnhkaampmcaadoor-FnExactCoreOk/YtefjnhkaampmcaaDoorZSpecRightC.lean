/- spec.l9Right. Condition: at most 2^20 in all. -/
import Derived.Test.YtefjnhkaampmcaaDoorZSpecEnv
import Derived.Test.YtefjnhkaampmcaaDoorZSpecKids
import Derived.Test.YtefjnhkaampmcaaDoorZWordsOk
import Derived.Test.YtefjnhkaampmcaaDoorZLater
import Derived.Test.YtefjnhkaampmcaaDoorZCorLook
import Derived.Deep.RegionHeld3
import Derived.Deep.Cut
import Derived.Deep.CutRange
namespace Go.Proofs.YtefjnhkaampmcaaDoor
open Go.ChangeShapes Go.WideShapes Go.ChangeAt Go.RowKit

theorem hid_ofR {p : Prop} (h : p) : Hid p := h
def RightAt (t : C) : Prop := ∀ (w : World) (v ev : Value) (xs : List ByteArray), t.In w v → EnvS w ev xs → t.count ≤ 1048577 → xs.length + 2 * t.count ≤ 8388608 →
  Calls Tryd.prog 12 #[.agg #[.int .i64 t.op, .int .i64 t.n, .string t.s, .string t.t2, v], ev] w fun e w' => e = .returned (.bool (t.right (envL xs))) ∧ Below w.heap.size w w'

theorem ten_cells {W : World} {TB b o : Nat} {a n : Int} {s t2 : ByteArray} {v : Value} {kd : C} {u : Value} (h : FiveC W TB a n s t2 v 29) (hd : HeadC W b o kd u) :
    W.cell? ⟨TB, 0, none⟩ = some (.int .i64 a) ∧ W.cell? ⟨TB, 1, none⟩ = some (.int .i64 n) ∧ W.cell? ⟨TB, 2, none⟩ = some (.string s) ∧ W.cell? ⟨TB, 3, none⟩ = some (.string t2) ∧ W.cell? ⟨TB, 4, none⟩ = some v ∧
    W.cell? ⟨b, o, none⟩ = some (.int .i64 kd.op) ∧ W.cell? ⟨b, o + 1, none⟩ = some (.int .i64 kd.n) ∧ W.cell? ⟨b, o + 2, none⟩ = some (.string kd.s) ∧ W.cell? ⟨b, o + 3, none⟩ = some (.string kd.t2) ∧ W.cell? ⟨b, o + 4, none⟩ = some u := by
  obtain ⟨h0, h1, h2, h3, h4⟩ := h.cells
  exact ⟨h0, h1, h2, h3, h4, hd.c0, hd.c1, hd.c2, hd.c3, hd.c4⟩

set_option maxRecDepth 100000 in
set_option maxHeartbeats 8000000 in
theorem spec_right (t : C) : RightAt t := by
  induction t with
  | no => intro w v ev xs h; exact h.elim
  | mk op n s t2 len kid ih =>
    intro w v ev xs hin hev hcn hxs
    have h1 := hin.sl
    have hce : (C.mk op n s t2 len kid).count = 1 + sumTo (fun i => (kid i).count) len := rfl
    obtain ⟨p, cap, e1, hlen, hat⟩ := h1.at
    simp only [C.len, C.kid] at e1 hlen hat
    have HC : Hid (∀ i, i < len → ∃ b o u, p = some ⟨b, o, none⟩ ∧ HeadC w b (o + i * 5) (kid i) u ∧ (kid i).In w u) := hat
    have HCN : Hid (∀ i, i < len → (kid i).count ≤ 1048577 ∧ 1 + (kid i).count ≤ (C.mk op n s t2 len kid).count) := fun i hi => by
      have := sumTo_at (fun i => (kid i).count) i len hi
      omega
    have IH : Hid (∀ i, RightAt (kid i)) := ih
    have HRT : Hid ((C.mk op n s t2 len kid).right (envL xs) = ((fieldsCB (.mk op n s t2 len kid) && (!(decide (op = 2)) || (envL xs).contains s.data.toList)) && allTo (fun i => (kid i).right (envL xs ++ bnd op i s t2)) len)) := rfl
    have HFB : Hid (fieldsCB (.mk op n s t2 len kid) = ((kidsN op == (len : Int)) && ((namedB op == !(s.toList == ([] : List UInt8))) && ((decide (op = 6) == !(t2.toList == ([] : List UInt8))) && (!(!(op == 1) && !(n == 0)) && wordCB n))))) := rfl
    generalize (C.mk op n s t2 len kid).right (envL xs) = RT at *
    generalize fieldsCB (.mk op n s t2 len kid) = FB at *
    generalize (C.mk op n s t2 len kid).count = CN at *
    simp only [C.op, C.n, C.s, C.t2] at *
    obtain ⟨W, hW⟩ : ∃ W, W = w.alloc (.cells #[.int .i64 op, .int .i64 n, .string s, .string t2, v] 29) := ⟨_, rfl⟩
    obtain ⟨TB, hTB⟩ : ∃ TB, TB = w.heap.size := ⟨_, rfl⟩
    have HBW : Hid (Below w.heap.size w W ∧ FiveC W TB op n s t2 v 29 ∧ EnvS W ev xs) := by
      have nb : Below w.heap.size w W := by rw [hW]; exact newb w _
      exact ⟨nb, by rw [hW, hTB]; exact heap_alloc_new w _, hev.below nb⟩
    have HWW : Hid (W = w.alloc (.cells #[.int .i64 op, .int .i64 n, .string s, .string t2, v] 29) ∧ TB = w.heap.size) := ⟨hW, hTB⟩
    obtain ⟨-, ge, gc, eev⟩ := hev
    clear hin h1 hat ih hce hW hTB
    unfold maxLen at hlen
    subst e1
    have HKI : Hid (∀ w, Calls Tryd.prog 20 #[.int .i64 op] w fun e w' => e = .returned (.int .i64 (kidsN op)) ∧ w' = w) := fun w => spec_kids op w
    have HNA : Hid (∀ w, Calls Tryd.prog 21 #[.int .i64 op] w fun e w' => e = .returned (.bool (namedB op)) ∧ w' = w) := fun w => spec_named op w
    have HWO : Hid (∀ w, Calls Tryd.prog 22 #[.int .i64 n] w fun e w' => e = .returned (.bool (wordCB n)) ∧ w' = w) := fun w => spec_wordOk n w
    have HIN : Hid (∀ x : Later W, Calls Tryd.prog 23 #[ev, .string s] x.w fun e w' => e = .returned (.bool ((envL xs).contains s.data.toList)) ∧ w' = x.w) := fun x => spec_lin xs s ev x.w (HBW.out.2.2.below x.le)
    obtain ⟨BAD, hBAD⟩ : ∃ BAD, BAD = !(FB && (!(decide (op = 2)) || (envL xs).contains s.data.toList)) := ⟨_, rfl⟩
    have HRT2 : Hid (RT = (!BAD && allTo (fun i => (kid i).right (envL xs ++ bnd op i s t2)) len)) := by show _ = _; rw [HRT.out, hBAD, Bool.not_not]
    have HB0 : Hid (BAD = !(((kidsN op == (len : Int)) && ((namedB op == !(s.toList == ([] : List UInt8))) && ((decide (op = 6) == !(t2.toList == ([] : List UInt8))) && (!(!(op == 1) && !(n == 0)) && wordCB n)))) && (!(decide (op = 2)) || (envL xs).contains s.data.toList))) := by show _ = _; rw [hBAD, HFB.out]
    clear hBAD HRT HFB
    have ELN : Hid (xs.length + 2 * CN ≤ 8388608) := hxs
    subst eev
    generalize hxl : xs.length = xl at *
    have HXL : Hid (xs.length = xl) := hxl
    clear hxl hxs
    go_enter Tryd.func12, Tryd.ntmps12
    go_upto_region 1 with fail
    rw [← HWW.out.1, ← HWW.out.2]
    go_cut [58] from 6 (fun z wx => z = .bool BAD ∧ Below W.heap.size W wx)
    case first =>
      obtain ⟨q0, q1, q2, q3, q4⟩ := HBW.out.2.1.cells
      have hone := Later.one W
      have y0 := fun x : Later W => x.cell q0
      have y1 := fun x : Later W => x.cell q1
      have y2 := fun x : Later W => x.cell q2
      have y3 := fun x : Later W => x.cell q3
      have y4 := fun x : Later W => x.cell q4
      clear q0 q1 q2 q3 q4
      obtain ⟨K, hK⟩ : ∃ K, (kidsN op == (len : Int)) = K := ⟨_, rfl⟩
      obtain ⟨nb, hnb⟩ : ∃ nb, namedB op = nb := ⟨_, rfl⟩
      obtain ⟨ea, hea⟩ : ∃ x, (s.toList == ([] : List UInt8)) = x := ⟨_, rfl⟩
      obtain ⟨eb, heb⟩ : ∃ x, (t2.toList == ([] : List UInt8)) = x := ⟨_, rfl⟩
      obtain ⟨z0, hz0⟩ : ∃ x, (n == 0) = x := ⟨_, rfl⟩
      obtain ⟨wb, hwb⟩ : ∃ x, wordCB n = x := ⟨_, rfl⟩
      obtain ⟨ib, hib⟩ : ∃ x, (envL xs).contains s.data.toList = x := ⟨_, rfl⟩
      have hKn : (kidsN op != (len : Int)) = !K := by rw [bne, hK]
      have hean : (s.toList != ([] : List UInt8)) = !ea := by rw [bne, hea]
      have hebn : (t2.toList != ([] : List UInt8)) = !eb := by rw [bne, heb]
      have hz0n : (n != 0) = !z0 := by rw [bne, hz0]
      rw [hK, hnb, hea, heb, hz0, hwb, hib] at HB0
      rw [hnb] at HNA
      rw [hwb] at HWO
      rw [hib] at HIN
      have HNB := hid_ofR hnb
      have HZW : Hid (z0 = true → wb = true) := by
        intro h
        rw [h] at hz0
        have : n = 0 := by simpa using hz0
        rw [← hwb, this]; rfl
      generalize kidsN op = kn at *
      clear hnb hwb hib
      cases K
      · simp only [Bool.not_false] at hKn
        refine wp_region_later (by kernel_rfl) (by kernel_rfl) ?_
        repeat (go_big_quiet_step (first | (go_at_call 20; refine calls_later_same (HKI.out _)) | (go_at_call 21; refine calls_later_same (HNA.out _)) | (go_at_call 22; refine calls_later_same (HWO.out _)) | (go_at_call 23; refine calls_later_same (HIN.out _))))
        refine wpQuiet_nil ?_
        rintro _ ⟨x, rfl⟩
        go_wp2_with fail
        go_meet
        exact ⟨congrArg Value.bool (show true = BAD from HB0.out.symm), x.le⟩
      simp only [Bool.not_true] at hKn
      by_cases h1 : op = 1
      · subst h1
        obtain rfl : nb = false := HNB.out.symm
        cases ea
        · simp only [Bool.not_false] at hean
          refine wp_region_later (by kernel_rfl) (by kernel_rfl) ?_
          repeat (go_big_quiet_step (first | (go_at_call 20; refine calls_later_same (HKI.out _)) | (go_at_call 21; refine calls_later_same (HNA.out _)) | (go_at_call 22; refine calls_later_same (HWO.out _)) | (go_at_call 23; refine calls_later_same (HIN.out _))))
          refine wpQuiet_nil ?_
          rintro _ ⟨x, rfl⟩
          go_wp2_with fail
          go_meet
          exact ⟨congrArg Value.bool (show true = BAD from HB0.out.symm), x.le⟩
        · simp only [Bool.not_true] at hean
          cases eb
          · simp only [Bool.not_false] at hebn
            refine wp_region_later (by kernel_rfl) (by kernel_rfl) ?_
            repeat (go_big_quiet_step (first | (go_at_call 20; refine calls_later_same (HKI.out _)) | (go_at_call 21; refine calls_later_same (HNA.out _)) | (go_at_call 22; refine calls_later_same (HWO.out _)) | (go_at_call 23; refine calls_later_same (HIN.out _))))
            refine wpQuiet_nil ?_
            rintro _ ⟨x, rfl⟩
            go_wp2_with fail
            go_meet
            exact ⟨congrArg Value.bool (show true = BAD from HB0.out.symm), x.le⟩
          · simp only [Bool.not_true] at hebn
            cases wb
            ·
              refine wp_region_later (by kernel_rfl) (by kernel_rfl) ?_
              repeat (go_big_quiet_step (first | (go_at_call 20; refine calls_later_same (HKI.out _)) | (go_at_call 21; refine calls_later_same (HNA.out _)) | (go_at_call 22; refine calls_later_same (HWO.out _)) | (go_at_call 23; refine calls_later_same (HIN.out _))))
              refine wpQuiet_nil ?_
              rintro _ ⟨x, rfl⟩
              go_wp2_with fail
              go_meet
              exact ⟨congrArg Value.bool (show true = BAD from HB0.out.symm), x.le⟩
            ·
              refine wp_region_later (by kernel_rfl) (by kernel_rfl) ?_
              repeat (go_big_quiet_step (first | (go_at_call 20; refine calls_later_same (HKI.out _)) | (go_at_call 21; refine calls_later_same (HNA.out _)) | (go_at_call 22; refine calls_later_same (HWO.out _)) | (go_at_call 23; refine calls_later_same (HIN.out _))))
              refine wpQuiet_nil ?_
              rintro _ ⟨x, rfl⟩
              go_wp2_with fail
              go_meet
              exact ⟨congrArg Value.bool (show false = BAD from HB0.out.symm), x.le⟩
      by_cases h2 : op = 2
      · subst h2
        obtain rfl : nb = true := HNB.out.symm
        cases ea
        · simp only [Bool.not_false] at hean
          cases eb
          · simp only [Bool.not_false] at hebn
            refine wp_region_later (by kernel_rfl) (by kernel_rfl) ?_
            repeat (go_big_quiet_step (first | (go_at_call 20; refine calls_later_same (HKI.out _)) | (go_at_call 21; refine calls_later_same (HNA.out _)) | (go_at_call 22; refine calls_later_same (HWO.out _)) | (go_at_call 23; refine calls_later_same (HIN.out _))))
            refine wpQuiet_nil ?_
            rintro _ ⟨x, rfl⟩
            go_wp2_with fail
            go_meet
            exact ⟨congrArg Value.bool (show true = BAD from HB0.out.symm), x.le⟩
          · simp only [Bool.not_true] at hebn
            cases z0
            · simp only [Bool.not_false] at hz0n
              refine wp_region_later (by kernel_rfl) (by kernel_rfl) ?_
              repeat (go_big_quiet_step (first | (go_at_call 20; refine calls_later_same (HKI.out _)) | (go_at_call 21; refine calls_later_same (HNA.out _)) | (go_at_call 22; refine calls_later_same (HWO.out _)) | (go_at_call 23; refine calls_later_same (HIN.out _))))
              refine wpQuiet_nil ?_
              rintro _ ⟨x, rfl⟩
              go_wp2_with fail
              go_meet
              exact ⟨congrArg Value.bool (show true = BAD from HB0.out.symm), x.le⟩
            · simp only [Bool.not_true] at hz0n
              obtain rfl := HZW.out rfl
              cases ib
              ·
                refine wp_region_later (by kernel_rfl) (by kernel_rfl) ?_
                repeat (go_big_quiet_step (first | (go_at_call 20; refine calls_later_same (HKI.out _)) | (go_at_call 21; refine calls_later_same (HNA.out _)) | (go_at_call 22; refine calls_later_same (HWO.out _)) | (go_at_call 23; refine calls_later_same (HIN.out _))))
                refine wpQuiet_nil ?_
                rintro _ ⟨x, rfl⟩
                go_wp2_with fail
                go_meet
                exact ⟨congrArg Value.bool (show true = BAD from HB0.out.symm), x.le⟩
              ·
                refine wp_region_later (by kernel_rfl) (by kernel_rfl) ?_
                repeat (go_big_quiet_step (first | (go_at_call 20; refine calls_later_same (HKI.out _)) | (go_at_call 21; refine calls_later_same (HNA.out _)) | (go_at_call 22; refine calls_later_same (HWO.out _)) | (go_at_call 23; refine calls_later_same (HIN.out _))))
                refine wpQuiet_nil ?_
                rintro _ ⟨x, rfl⟩
                go_wp2_with fail
                go_meet
                exact ⟨congrArg Value.bool (show false = BAD from HB0.out.symm), x.le⟩
        · simp only [Bool.not_true] at hean
          refine wp_region_later (by kernel_rfl) (by kernel_rfl) ?_
          repeat (go_big_quiet_step (first | (go_at_call 20; refine calls_later_same (HKI.out _)) | (go_at_call 21; refine calls_later_same (HNA.out _)) | (go_at_call 22; refine calls_later_same (HWO.out _)) | (go_at_call 23; refine calls_later_same (HIN.out _))))
          refine wpQuiet_nil ?_
          rintro _ ⟨x, rfl⟩
          go_wp2_with fail
          go_meet
          exact ⟨congrArg Value.bool (show true = BAD from HB0.out.symm), x.le⟩
      by_cases h6 : op = 6
      · subst h6
        obtain rfl : nb = true := HNB.out.symm
        cases ea
        · simp only [Bool.not_false] at hean
          cases eb
          · simp only [Bool.not_false] at hebn
            cases z0
            · simp only [Bool.not_false] at hz0n
              refine wp_region_later (by kernel_rfl) (by kernel_rfl) ?_
              repeat (go_big_quiet_step (first | (go_at_call 20; refine calls_later_same (HKI.out _)) | (go_at_call 21; refine calls_later_same (HNA.out _)) | (go_at_call 22; refine calls_later_same (HWO.out _)) | (go_at_call 23; refine calls_later_same (HIN.out _))))
              refine wpQuiet_nil ?_
              rintro _ ⟨x, rfl⟩
              go_wp2_with fail
              go_meet
              exact ⟨congrArg Value.bool (show true = BAD from HB0.out.symm), x.le⟩
            · simp only [Bool.not_true] at hz0n
              obtain rfl := HZW.out rfl
              refine wp_region_later (by kernel_rfl) (by kernel_rfl) ?_
              repeat (go_big_quiet_step (first | (go_at_call 20; refine calls_later_same (HKI.out _)) | (go_at_call 21; refine calls_later_same (HNA.out _)) | (go_at_call 22; refine calls_later_same (HWO.out _)) | (go_at_call 23; refine calls_later_same (HIN.out _))))
              refine wpQuiet_nil ?_
              rintro _ ⟨x, rfl⟩
              go_wp2_with fail
              go_meet
              exact ⟨congrArg Value.bool (show false = BAD from HB0.out.symm), x.le⟩
          · simp only [Bool.not_true] at hebn
            refine wp_region_later (by kernel_rfl) (by kernel_rfl) ?_
            repeat (go_big_quiet_step (first | (go_at_call 20; refine calls_later_same (HKI.out _)) | (go_at_call 21; refine calls_later_same (HNA.out _)) | (go_at_call 22; refine calls_later_same (HWO.out _)) | (go_at_call 23; refine calls_later_same (HIN.out _))))
            refine wpQuiet_nil ?_
            rintro _ ⟨x, rfl⟩
            go_wp2_with fail
            go_meet
            exact ⟨congrArg Value.bool (show true = BAD from HB0.out.symm), x.le⟩
        · simp only [Bool.not_true] at hean
          refine wp_region_later (by kernel_rfl) (by kernel_rfl) ?_
          repeat (go_big_quiet_step (first | (go_at_call 20; refine calls_later_same (HKI.out _)) | (go_at_call 21; refine calls_later_same (HNA.out _)) | (go_at_call 22; refine calls_later_same (HWO.out _)) | (go_at_call 23; refine calls_later_same (HIN.out _))))
          refine wpQuiet_nil ?_
          rintro _ ⟨x, rfl⟩
          go_wp2_with fail
          go_meet
          exact ⟨congrArg Value.bool (show true = BAD from HB0.out.symm), x.le⟩
      have g1 : (op == 1) = false := by simpa using h1
      have g2 : (op == 2) = false := by simpa using h2
      have g6 : (op == 6) = false := by simpa using h6
      have g1n : (op != 1) = true := by rw [bne, g1]; rfl
      rw [g1, decide_eq_false h6, decide_eq_false h2] at HB0
      cases nb
      ·
        cases ea
        · simp only [Bool.not_false] at hean
          refine wp_region_later (by kernel_rfl) (by kernel_rfl) ?_
          repeat (go_big_quiet_step (first | (go_at_call 20; refine calls_later_same (HKI.out _)) | (go_at_call 21; refine calls_later_same (HNA.out _)) | (go_at_call 22; refine calls_later_same (HWO.out _)) | (go_at_call 23; refine calls_later_same (HIN.out _))))
          refine wpQuiet_nil ?_
          rintro _ ⟨x, rfl⟩
          go_wp2_with fail
          go_meet
          exact ⟨congrArg Value.bool (show true = BAD from HB0.out.symm), x.le⟩
        · simp only [Bool.not_true] at hean
          cases eb
          · simp only [Bool.not_false] at hebn
            refine wp_region_later (by kernel_rfl) (by kernel_rfl) ?_
            repeat (go_big_quiet_step (first | (go_at_call 20; refine calls_later_same (HKI.out _)) | (go_at_call 21; refine calls_later_same (HNA.out _)) | (go_at_call 22; refine calls_later_same (HWO.out _)) | (go_at_call 23; refine calls_later_same (HIN.out _))))
            refine wpQuiet_nil ?_
            rintro _ ⟨x, rfl⟩
            go_wp2_with fail
            go_meet
            exact ⟨congrArg Value.bool (show true = BAD from HB0.out.symm), x.le⟩
          · simp only [Bool.not_true] at hebn
            cases z0
            · simp only [Bool.not_false] at hz0n
              refine wp_region_later (by kernel_rfl) (by kernel_rfl) ?_
              repeat (go_big_quiet_step (first | (go_at_call 20; refine calls_later_same (HKI.out _)) | (go_at_call 21; refine calls_later_same (HNA.out _)) | (go_at_call 22; refine calls_later_same (HWO.out _)) | (go_at_call 23; refine calls_later_same (HIN.out _))))
              refine wpQuiet_nil ?_
              rintro _ ⟨x, rfl⟩
              go_wp2_with fail
              go_meet
              exact ⟨congrArg Value.bool (show true = BAD from HB0.out.symm), x.le⟩
            · simp only [Bool.not_true] at hz0n
              obtain rfl := HZW.out rfl
              refine wp_region_later (by kernel_rfl) (by kernel_rfl) ?_
              repeat (go_big_quiet_step (first | (go_at_call 20; refine calls_later_same (HKI.out _)) | (go_at_call 21; refine calls_later_same (HNA.out _)) | (go_at_call 22; refine calls_later_same (HWO.out _)) | (go_at_call 23; refine calls_later_same (HIN.out _))))
              refine wpQuiet_nil ?_
              rintro _ ⟨x, rfl⟩
              go_wp2_with fail
              go_meet
              exact ⟨congrArg Value.bool (show false = BAD from HB0.out.symm), x.le⟩
      ·
        cases ea
        · simp only [Bool.not_false] at hean
          cases eb
          · simp only [Bool.not_false] at hebn
            refine wp_region_later (by kernel_rfl) (by kernel_rfl) ?_
            repeat (go_big_quiet_step (first | (go_at_call 20; refine calls_later_same (HKI.out _)) | (go_at_call 21; refine calls_later_same (HNA.out _)) | (go_at_call 22; refine calls_later_same (HWO.out _)) | (go_at_call 23; refine calls_later_same (HIN.out _))))
            refine wpQuiet_nil ?_
            rintro _ ⟨x, rfl⟩
            go_wp2_with fail
            go_meet
            exact ⟨congrArg Value.bool (show true = BAD from HB0.out.symm), x.le⟩
          · simp only [Bool.not_true] at hebn
            cases z0
            · simp only [Bool.not_false] at hz0n
              refine wp_region_later (by kernel_rfl) (by kernel_rfl) ?_
              repeat (go_big_quiet_step (first | (go_at_call 20; refine calls_later_same (HKI.out _)) | (go_at_call 21; refine calls_later_same (HNA.out _)) | (go_at_call 22; refine calls_later_same (HWO.out _)) | (go_at_call 23; refine calls_later_same (HIN.out _))))
              refine wpQuiet_nil ?_
              rintro _ ⟨x, rfl⟩
              go_wp2_with fail
              go_meet
              exact ⟨congrArg Value.bool (show true = BAD from HB0.out.symm), x.le⟩
            · simp only [Bool.not_true] at hz0n
              obtain rfl := HZW.out rfl
              refine wp_region_later (by kernel_rfl) (by kernel_rfl) ?_
              repeat (go_big_quiet_step (first | (go_at_call 20; refine calls_later_same (HKI.out _)) | (go_at_call 21; refine calls_later_same (HNA.out _)) | (go_at_call 22; refine calls_later_same (HWO.out _)) | (go_at_call 23; refine calls_later_same (HIN.out _))))
              refine wpQuiet_nil ?_
              rintro _ ⟨x, rfl⟩
              go_wp2_with fail
              go_meet
              exact ⟨congrArg Value.bool (show false = BAD from HB0.out.symm), x.le⟩
        · simp only [Bool.not_true] at hean
          refine wp_region_later (by kernel_rfl) (by kernel_rfl) ?_
          repeat (go_big_quiet_step (first | (go_at_call 20; refine calls_later_same (HKI.out _)) | (go_at_call 21; refine calls_later_same (HNA.out _)) | (go_at_call 22; refine calls_later_same (HWO.out _)) | (go_at_call 23; refine calls_later_same (HIN.out _))))
          refine wpQuiet_nil ?_
          rintro _ ⟨x, rfl⟩
          go_wp2_with fail
          go_meet
          exact ⟨congrArg Value.bool (show true = BAD from HB0.out.symm), x.le⟩
    case rest =>
    obtain ⟨rfl, hbc⟩ := hcut
    obtain ⟨wo, rfl⟩ : ∃ x, x = wc := ⟨_, rfl⟩
    have HBC : Hid (Below w.heap.size w wo ∧ FiveC wo TB op n s t2 (.slice p len cap) 29 ∧ EnvS wo (.slice (some ⟨ge, 0, none⟩) xl gc) xs) := ⟨HBW.out.1.trans (hbc.mono HBW.out.1.size), HBW.out.2.1.below hbc, HBW.out.2.2.below hbc⟩
    clear hbc HB0 HKI HNA HWO HIN
    cases BAD with
    | true =>
      have HR : Hid (RT = false) := HRT2.out
      go_wp2_with fail
      go_ret
      exact ⟨by rw [HR.out]; rfl, HBC.out.1⟩
    | false =>
      have HR : Hid (RT = allTo (fun i => (kid i).right (envL xs ++ bnd op i s t2)) len) := HRT2.out
      go_wp2_with fail
      go_loopw [5] (fun i wr => ∃ k : Nat, i = .int .i64 k ∧ k ≤ len ∧ allTo (fun i => (kid i).right (envL xs ++ bnd op i s t2)) k = true ∧ Below wo.heap.size wo wr) (fun i _ => len - (intOf i).toNat)
      case atStart => exact ⟨0, rfl, Nat.zero_le _, rfl, Below.refl _ _⟩
      case round =>
        obtain ⟨k, rfl, hk, hall, hbel⟩ := hrel
        have HB : Hid (Below w.heap.size w wr ∧ FiveC wr TB op n s t2 (.slice p len cap) 29 ∧ EnvS wr (.slice (some ⟨ge, 0, none⟩) xl gc) xs ∧ Below wo.heap.size wo wr) := ⟨HBC.out.1.trans (hbel.mono HBC.out.1.size), HBC.out.2.1.below hbel, HBC.out.2.2.below hbel, hbel⟩
        have HALL : Hid (allTo (fun i => (kid i).right (envL xs ++ bnd op i s t2)) k = true) := hall
        clear hall hbel
        obtain ⟨x0, x1, x2, x3, x4⟩ := HB.out.2.1.cells
        by_cases hlt : (k : Int) < len
        · have hlt' : k < len := by omega
          obtain ⟨b, o, u, hp, hd, hkin⟩ := HC.out k hlt'
          subst hp
          have hd1 := hd.below HB.out.1
          obtain ⟨pu, cu, eu⟩ := hkin.sl.shape
          subst eu
          have hS0 := ten_cells HB.out.2.1 hd1
          obtain ⟨RR, hRR⟩ : ∃ RR, RR = (kid k).right (envL xs ++ bnd op k s t2) := ⟨_, rfl⟩
          have HRR : Hid (allTo (fun i => (kid i).right (envL xs ++ bnd op i s t2)) (k + 1) = RR) := by show (_ && _) = _; rw [HALL.out, Bool.true_and, hRR]
          have HEV : Hid (Calls Tryd.prog 24 #[.agg #[.int .i64 op, .int .i64 n, .string s, .string t2, .slice (some ⟨b, o, none⟩) len cap], .int .i64 k, .slice (some ⟨ge, 0, none⟩) xl gc] wr.drew (EnvSays wr (xs ++ bndB op k s t2))) := by
            have h := spec_env (.mk op n s t2 len kid) (some ⟨b, o, none⟩) cap k xs _ wr.drew (HB.out.2.2.1.below (Below.refl _ _).drew) (by have h1 := ELN.out; have h2 := HXL.out; omega)
            exact h.mono (fun _ _ ⟨v', h1, h2, h3⟩ => ⟨v', h1, h2, ⟨h3.os, h3.tape, h3.output, h3.size, h3.block⟩⟩)
          have HIH : Hid (∀ (w2 : World) (v2 : Value), Below wr.heap.size wr w2 → EnvS w2 v2 (xs ++ bndB op k s t2) → Calls Tryd.prog 12 #[.agg #[.int .i64 (kid k).op, .int .i64 (kid k).n, .string (kid k).s, .string (kid k).t2, .slice pu (kid k).len cu], v2] w2 fun e w' => e = .returned (.bool RR) ∧ Below w2.heap.size w2 w') := by
            intro w2 v2 h2 h3
            have hc := HCN.out k hlt'
            have h := IH.out k w2 _ v2 (xs ++ bndB op k s t2) ((hkin.below HB.out.1).below h2) h3 hc.1 (by have h1 := ELN.out; have h2 := HXL.out; have h3 := bndB_len op k s t2; rw [List.length_append]; omega)
            rw [envL_append, bndB_env, ← hRR] at h
            exact h
          have HKD : Hid (∀ w2, Below wr.heap.size wr w2 → FiveC w2 TB op n s t2 (.slice (some ⟨b, o, none⟩) len cap) 29 ∧ HeadC w2 b (o + k * 5) (kid k) (.slice pu (kid k).len cu)) := fun w2 h => ⟨HB.out.2.1.below h, hd1.below h⟩
          clear hd hd1 hkin hRR
          go_upto_region 6 with fail
          clear x0 x1 x2 x3 x4
          go_cut [76] from 66 to 77 (fun z wx => z = .bool (!RR) ∧ Below wr.heap.size wr wx)
          case first =>
            go_region_held3 (fun w' => w'.cell? ⟨TB, 0, none⟩ = some (.int .i64 op) ∧ w'.cell? ⟨TB, 1, none⟩ = some (.int .i64 n) ∧ w'.cell? ⟨TB, 2, none⟩ = some (.string s) ∧ w'.cell? ⟨TB, 3, none⟩ = some (.string t2) ∧ w'.cell? ⟨TB, 4, none⟩ = some (.slice (some ⟨b, o, none⟩) len cap) ∧
                w'.cell? ⟨b, o + k * 5, none⟩ = some (.int .i64 (kid k).op) ∧ w'.cell? ⟨b, o + k * 5 + 1, none⟩ = some (.int .i64 (kid k).n) ∧ w'.cell? ⟨b, o + k * 5 + 2, none⟩ = some (.string (kid k).s) ∧ w'.cell? ⟨b, o + k * 5 + 3, none⟩ = some (.string (kid k).t2) ∧ w'.cell? ⟨b, o + k * 5 + 4, none⟩ = some (.slice pu (kid k).len cu))
              (first | go_keep | (with_reducible exact hS0) | (with_reducible exact hS1) | (with_reducible exact hS2)) (first
              | (go_at_call 24; refine HEV.out.mono ?_; rintro e w1 ⟨v1, rfl, he1, hb1⟩; have HE1 : Hid (EnvS w1 v1 (xs ++ bndB op k s t2) ∧ Below wr.heap.size wr w1) := ⟨he1, hb1⟩; have hS1 := ten_cells (HKD.out _ hb1).1 (HKD.out _ hb1).2; clear he1 hb1)
              | (go_at_call 12; refine (HIH.out _ _ HE1.out.2 HE1.out.1).mono ?_; rintro e w2 ⟨rfl, hb2⟩; have HE2 : Hid (Below wr.heap.size wr w2) := HE1.out.2.trans (hb2.mono HE1.out.2.size); have hS2 := ten_cells (HKD.out _ HE2.out).1 (HKD.out _ HE2.out).2; clear hb2))
            all_goals
              go_wp2_with fail
              go_meet
              exact ⟨rfl, HE2.out⟩
          case rest =>
          obtain ⟨rfl, hb2⟩ := hcut
          have HB2 : Hid (Below wo.heap.size wo wc ∧ Below w.heap.size w wc) := ⟨HB.out.2.2.2.trans (hb2.mono HB.out.2.2.2.size), HB.out.1.trans (hb2.mono HB.out.1.size)⟩
          clear hb2
          cases RR with
          | false =>
            have HF : Hid (RT = false) := by
              show _ = _
              rw [HR.out]
              cases h : allTo (fun i => (kid i).right (envL xs ++ bnd op i s t2)) len with
              | false => rfl
              | true =>
                have h1 := allTo_true.1 h k hlt'
                have h2 : allTo (fun i => (kid i).right (envL xs ++ bnd op i s t2)) (k + 1) = true := allTo_true.2 (fun i hi => allTo_true.1 h i (by omega))
                rw [HRR.out] at h2
                cases h2
            simp only [Bool.not_false]
            go_wp2_with fail
            go_ret
            exact ⟨by rw [HF.out]; rfl, HB2.out.2⟩
          | true =>
            simp only [Bool.not_true]
            go_wp2_with fail
            go_roundw
            case rel => first | exact ⟨k + 1, by go_num, by omega, HRR.out, HB2.out.1⟩ | ((repeat apply Exists.intro); exact ⟨⟨k + 1, by go_num, by omega, HRR.out, HB2.out.1⟩, rfl⟩)
            case measure => simp [intOf]; omega
        · have hke : k = len := by omega
          have HF : Hid (RT = true) := by show _ = _; rw [HR.out, ← hke]; exact HALL.out
          go_wp2_with fail
          go_ret
          exact ⟨by rw [HF.out]; rfl, HB.out.1⟩
end Go.Proofs.YtefjnhkaampmcaaDoor
