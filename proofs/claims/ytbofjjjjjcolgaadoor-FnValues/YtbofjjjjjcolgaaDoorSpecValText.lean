/- spec.ValueText. Condition: at most 2^20 in all. -/
import Derived.Test.YtbofjjjjjcolgaaDoorRows
import Derived.Test.YtbofjjjjjcolgaaDoorValTell
import Derived.Test.YtbofjjjjjcolgaaDoorValRows
import Derived.Test.YtbofjjjjjcolgaaDoorSpecDigits
import Derived.WalkKit
import Derived.ProofKit
import Derived.OwnWalk
import Derived.Deep.Cut
namespace Go.Proofs.YtbofjjjjjcolgaaDoor
open Go.ChangeShapes Go.WideShapes Go.ChangeAt Go.RowKit

def VTextAt (t : Vt) : Prop := ∀ (w : World) (v : Value), t.In w v → t.weight ≤ 1048576 →
  Calls Tryd.prog 8 #[.agg #[.int .i64 t.op, .int .i64 t.n, v]] w fun e w' => e = .returned (.string ⟨t.text.toArray⟩) ∧ Below w.heap.size w w'

theorem hid_ofV {p : Prop} (h : p) : Hid p := h
theorem join_bytesV (a b : List UInt8) : ((⟨a.toArray⟩ : ByteArray) ++ ⟨b.toArray⟩) = ⟨(a ++ b).toArray⟩ := by
  apply ByteArray.ext
  simp [ByteArray.data_append]

set_option maxRecDepth 100000 in
set_option maxHeartbeats 4000000 in
theorem spec_vtext (t : Vt) : VTextAt t := by
  induction t with
  | no => intro w v h _; exact h.elim
  | mk op n len kid ih =>
    intro w v hin hwt
    have h1 := hin.sl
    have hn := hin.num
    have hsm := (Vt.mk op n len kid).text_few w v hin hwt
    have hnum := (Vt.mk op n len kid).text_num
    have hnil := (Vt.mk op n len kid).text_nil
    have hpair := (Vt.mk op n len kid).text_pair
    have helse := (Vt.mk op n len kid).text_else
    have hwk : ∀ i, i < len → (kid i).weight ≤ 1048576 := fun i hi => by
      have e : (Vt.mk op n len kid).weight = kidsWeightV len kid := rfl
      have h2 := sumTo_at (fun i => (kid i).weight) i len hi
      unfold kidsWeightV at e
      omega
    simp only [Vt.op, Vt.n, Vt.len, Vt.kid] at h1 hn hnum hnil hpair helse ⊢
    generalize (Vt.mk op n len kid).text = T at *
    obtain ⟨p, cap, e1, hlen, hat⟩ := h1.at
    have HC : Hid (∀ i, i < len → ∃ b o u, p = some ⟨b, o, none⟩ ∧ HeadV w b (o + i * 3) (kid i) u ∧ (kid i).In w u) := hat
    have IH : Hid (∀ i, VTextAt (kid i)) := ih
    have HWK : Hid (∀ i, i < len → (kid i).weight ≤ 1048576) := hwk
    have HB : Hid (∀ o1, Below w.heap.size w (w.alloc o1)) := fun o1 => newb w _
    clear hin h1 hat ih hwk hwt
    unfold maxLen at hlen
    subst e1
    by_cases c1 : op = 1
    · subst c1
      have HT : Hid (T = Lib.itoa n) := hnum rfl
      clear hnum hnil hpair helse
      go_enter Tryd.func8, Tryd.ntmps8
      go_wp2_with fail
      refine (spec_digits n hn.1 hn.2 _).mono ?_
      rintro e w1 ⟨rfl, hb1⟩
      have HB1 : Hid (Below w.heap.size w w1) := (newb w _).trans (hb1.mono (newb w _).size)
      clear hb1
      go_wp2_with fail
      go_ret
      exact ⟨by rw [HT.out]; rfl, HB1.out⟩
    by_cases c2 : op = 2
    · subst c2
      have HT : Hid (T = [40, 41]) := hnil rfl
      clear hnum hnil hpair helse
      go_enter Tryd.func8, Tryd.ntmps8
      go_wp2_with fail
      go_ret
      exact ⟨by rw [HT.out]; rfl, HB.out _⟩
    by_cases c3 : op = 3
    · subst c3
      have HT : Hid (T = pairTx len kid) := hpair rfl
      clear hnum hnil hpair helse
      obtain ⟨w0, hw0⟩ : ∃ w0, w0 = w.alloc (.cells #[.int .i64 3, .int .i64 n, .slice p len cap] 26) := ⟨_, rfl⟩
      have HW0 : Hid (w0.heap[w.heap.size]? = some (.cells #[.int .i64 3, .int .i64 n, .slice p len cap] 26 (0, 0)) ∧ Below w.heap.size w w0) := by rw [hw0]; exact ⟨heap_alloc_new w _, newb w _⟩
      have m2 : w0.cell? ⟨w.heap.size, 2, none⟩ = some (.slice p len cap) := cell_of_row w0 _ 2 _ _ _ HW0.out.1
      have m0 : w0.cell? ⟨w.heap.size, 0, none⟩ = some (.int .i64 3) := cell_of_row w0 _ 0 _ _ _ HW0.out.1
      have W0E := hid_ofV hw0
      clear hw0
      by_cases k0 : (0 : Int) < len
      · obtain ⟨b, o, u, hp, hd, hinu⟩ := HC.out 0 (by omega)
        subst hp
        obtain ⟨d0, d1, d2⟩ := hd.below HW0.out.2
        have HI : Hid ((kid 0).In w0 u) := hinu.below HW0.out.2
        have hw0 := HWK.out 0 (by omega)
        clear hd hinu
        rw [Nat.zero_mul, Nat.add_zero] at d0 d1 d2
        by_cases k1 : (1 : Int) < len
        · obtain ⟨b1, o1, u1, hp1, hd1, hinu1⟩ := HC.out 1 (by omega)
          have hp1' : (⟨b, o, none⟩ : Addr) = ⟨b1, o1, none⟩ := Option.some.inj hp1
          simp only [Addr.mk.injEq, and_true] at hp1'
          obtain ⟨rfl, rfl⟩ := hp1'
          have hw1 := HWK.out 1 (by omega)
          have HH1 : Hid (HeadV w b (o + 1 * 3) (kid 1) u1 ∧ (kid 1).In w u1) := ⟨hd1, hinu1⟩
          clear hd1 hinu1 hp1
          have HTT : Hid (T = 40 :: ((kid 0).text ++ ([32, 46, 32] ++ ((kid 1).text ++ [41])))) := by
            show _ = _
            rw [HT.out]; unfold pairTx kidTx; rw [if_pos (by omega), if_pos (by omega)]
          have hl0 : (kid 0).text.length ≤ 33554432 ∧ (kid 1).text.length ≤ 33554432 := by
            have := congrArg List.length HTT.out
            simp only [List.length_cons, List.length_append, List.length_nil] at this
            omega
          generalize hx0 : (kid 0).text = x0 at *
          generalize hx1 : (kid 1).text = x1 at *
          have HX := hid_ofV hx0
          have HX1 := hid_ofV hx1
          clear hx0 hx1
          obtain ⟨hl1, hl2⟩ := hl0
          have s0 : (⟨x0.toArray⟩ : ByteArray).size = x0.length := by simp [ByteArray.size]
          have s1 : (⟨x1.toArray⟩ : ByteArray).size = x1.length := by simp [ByteArray.size]
          go_enter Tryd.func8, Tryd.ntmps8
          go_upto_region 1 with fail
          rw [← W0E.out]
          go_wp2_with fail
          refine (IH.out 0 w0 u HI.out hw0).mono ?_
          rintro e w1 ⟨rfl, hb1⟩
          rw [HX.out]
          have HW1 : Hid (w1.heap[w.heap.size]? = some (.cells #[.int .i64 3, .int .i64 n, .slice (some ⟨b, o, none⟩) len cap] 26 (0, 0)) ∧ Below w.heap.size w w1) := ⟨(hb1.block _ (Array.getElem?_eq_some_iff.1 HW0.out.1).1).trans HW0.out.1, HW0.out.2.trans (hb1.mono HW0.out.2.size)⟩
          have m3 : w1.cell? ⟨w.heap.size, 2, none⟩ = some (.slice (some ⟨b, o, none⟩) len cap) := cell_of_row w1 _ 2 _ _ _ HW1.out.1
          obtain ⟨f0, f1, f2⟩ := HH1.out.1.below HW1.out.2
          have HI1 : Hid ((kid 1).In w1 u1) := HH1.out.2.below HW1.out.2
          clear hb1 d0 d1 d2 m0 m2
          go_wp2_with fail
          refine (IH.out 1 w1 u1 HI1.out hw1).mono ?_
          rintro e w2 ⟨rfl, hb2⟩
          rw [HX1.out]
          have HB2 : Hid (Below w.heap.size w w2) := HW1.out.2.trans (hb2.mono HW1.out.2.size)
          clear hb2 f0 f1 f2 m3
          go_wp2_with fail
          go_ret
          have e : ((⟨#[40]⟩ : ByteArray) ++ ⟨x0.toArray⟩ ++ ⟨#[32, 46, 32]⟩ ++ ⟨x1.toArray⟩ ++ ⟨#[41]⟩) = ⟨T.toArray⟩ := by
            rw [HTT.out]
            apply ByteArray.ext
            simp [ByteArray.data_append]
          exact ⟨congrArg (fun z => Ending.returned (.string z)) e, HB2.out⟩
        · have HTT : Hid (T = 40 :: ((kid 0).text ++ [32, 46, 32, 63, 41])) := by
            show _ = _
            rw [HT.out]; unfold pairTx kidTx; rw [if_pos (by omega), if_neg (by omega)]; rfl
          have hl1 : (kid 0).text.length ≤ 33554432 := by
            have := congrArg List.length HTT.out
            simp only [List.length_cons, List.length_append, List.length_nil] at this
            omega
          generalize hx0 : (kid 0).text = x0 at *
          have HX := hid_ofV hx0
          clear hx0
          have s0 : (⟨x0.toArray⟩ : ByteArray).size = x0.length := by simp [ByteArray.size]
          go_enter Tryd.func8, Tryd.ntmps8
          go_upto_region 1 with fail
          rw [← W0E.out]
          go_wp2_with fail
          refine (IH.out 0 w0 u HI.out hw0).mono ?_
          rintro e w1 ⟨rfl, hb1⟩
          rw [HX.out]
          have HW1 : Hid (w1.heap[w.heap.size]? = some (.cells #[.int .i64 3, .int .i64 n, .slice (some ⟨b, o, none⟩) len cap] 26 (0, 0)) ∧ Below w.heap.size w w1) := ⟨(hb1.block _ (Array.getElem?_eq_some_iff.1 HW0.out.1).1).trans HW0.out.1, HW0.out.2.trans (hb1.mono HW0.out.2.size)⟩
          have m3 : w1.cell? ⟨w.heap.size, 2, none⟩ = some (.slice (some ⟨b, o, none⟩) len cap) := cell_of_row w1 _ 2 _ _ _ HW1.out.1
          clear hb1 d0 d1 d2 m0 m2
          go_wp2_with fail
          go_ret
          have e : ((⟨#[40]⟩ : ByteArray) ++ ⟨x0.toArray⟩ ++ ⟨#[32, 46, 32]⟩ ++ ⟨#[63]⟩ ++ ⟨#[41]⟩) = ⟨T.toArray⟩ := by
            rw [HTT.out]
            apply ByteArray.ext
            simp [ByteArray.data_append]
          exact ⟨congrArg (fun z => Ending.returned (.string z)) e, HW1.out.2⟩
      · have hk1 : ¬ (1 : Int) < len := by omega
        have HTT : Hid (T = [40, 63, 32, 46, 32, 63, 41]) := by
          show _ = _
          rw [HT.out]; unfold pairTx kidTx; rw [if_neg (by omega), if_neg (by omega)]; rfl
        go_enter Tryd.func8, Tryd.ntmps8
        go_upto_region 1 with fail
        rw [← W0E.out]
        go_wp2_with fail
        go_ret
        exact ⟨by rw [HTT.out]; rfl, HW0.out.2⟩
    · have HT := hid_ofV (helse c1 c2 c3)
      clear hnum hnil hpair helse
      have g1 : (op == 1) = false := by simpa using c1
      have g2 : (op == 2) = false := by simpa using c2
      have g3 : (op == 3) = false := by simpa using c3
      go_enter Tryd.func8, Tryd.ntmps8
      go_wp2_with fail
      go_ret
      exact ⟨by rw [HT.out]; rfl, HB.out _⟩
end Go.Proofs.YtbofjjjjjcolgaaDoor
