/- spec.CoreText. Condition: at most 2^20 in all. -/
import Derived.Test.YtoljphjmekkneaaDoorRows
import Derived.Test.YtoljphjmekkneaaDoorCorTell
import Derived.Test.YtoljphjmekkneaaDoorCorRows
import Derived.Test.YtoljphjmekkneaaDoorSpecDigits
import Derived.WalkKit
import Derived.ProofKit
import Derived.OwnWalk
import Derived.Deep.Cut
namespace Go.Proofs.YtoljphjmekkneaaDoor
open Go.ChangeShapes Go.WideShapes Go.ChangeAt Go.RowKit

theorem spec_in (k a b : Int) (R : Bool) (hR : R = (decide (a ≤ k) && decide (k ≤ b))) (w : World) : Calls Tryd.prog 14 #[.int .i64 k, .int .i64 a, .int .i64 b] w fun e w' => e = .returned (.bool R) ∧ w' = w := by
  by_cases h1 : a ≤ k
  · by_cases h2 : k ≤ b
    · obtain rfl : R = true := by rw [hR]; simp [h1, h2]
      clear hR
      go_enter Tryd.func14, Tryd.ntmps14
      go_wp2
      go_ret
      exact ⟨rfl, rfl⟩
    · obtain rfl : R = false := by rw [hR]; simp [h2]
      clear hR
      go_enter Tryd.func14, Tryd.ntmps14
      go_wp2
      go_ret
      exact ⟨rfl, rfl⟩
  · obtain rfl : R = false := by rw [hR]; simp [h1]
    clear hR
    go_enter Tryd.func14, Tryd.ntmps14
    go_wp2
    go_ret
    exact ⟨rfl, rfl⟩

def CTextAt (t : C) : Prop := ∀ (w : World) (v : Value), t.In w v → t.weight ≤ 1048576 →
  Calls Tryd.prog 6 #[.agg #[.int .i64 t.op, .int .i64 t.n, .string t.s, .string t.t2, v]] w fun e w' => e = .returned (.string ⟨t.text.toArray⟩) ∧ Below w.heap.size w w'

/-- The names that the model lists. -/
def namesRow : Array Value := #[.string ⟨#[63]⟩, .string ⟨#[63]⟩, .string ⟨#[63]⟩, .string ⟨#[102, 117, 110]⟩, .string ⟨#[97, 112, 112]⟩, .string ⟨#[108, 101, 116]⟩, .string ⟨#[114, 101, 99]⟩, .string ⟨#[105, 102]⟩, .string ⟨#[43]⟩, .string ⟨#[45]⟩, .string ⟨#[42]⟩, .string ⟨#[60]⟩, .string ⟨#[61]⟩, .string ⟨#[63]⟩, .string ⟨#[99, 111, 110, 115]⟩, .string ⟨#[99, 97, 114]⟩, .string ⟨#[99, 100, 114]⟩, .string ⟨#[112, 97, 105, 114, 63]⟩, .string ⟨#[112, 117, 116]⟩]
theorem namesRow_at (i : Nat) (h : i < 19) : namesRow[i]? = some (.string (wordC i)) := by
  match i, h with
  | 0, _ => rfl
  | 1, _ => rfl
  | 2, _ => rfl
  | 3, _ => rfl
  | 4, _ => rfl
  | 5, _ => rfl
  | 6, _ => rfl
  | 7, _ => rfl
  | 8, _ => rfl
  | 9, _ => rfl
  | 10, _ => rfl
  | 11, _ => rfl
  | 12, _ => rfl
  | 13, _ => rfl
  | 14, _ => rfl
  | 15, _ => rfl
  | 16, _ => rfl
  | 17, _ => rfl
  | 18, _ => rfl
  | n + 19, h => omega
theorem wordC_none (op : Int) (h : (decide (0 ≤ op) && decide (op ≤ 18)) = false) : wordC op = ⟨#[63]⟩ := by
  simp only [Bool.and_eq_false_iff, decide_eq_false_iff_not] at h
  unfold wordC
  repeat rw [if_neg (by omega)]
theorem hid_ofT {p : Prop} (h : p) : Hid p := h
theorem join_bytesC (a b : List UInt8) : ((⟨a.toArray⟩ : ByteArray) ++ ⟨b.toArray⟩) = ⟨(a ++ b).toArray⟩ := by
  apply ByteArray.ext
  simp [ByteArray.data_append]
theorem cell_any {w : World} {g j : Nat} {cs : Array Value} {ty : TypeId} {fr : Nat × Nat} (h : w.heap[g]? = some (.cells cs ty fr)) : w.cell? ⟨g, j, none⟩ = cs[j]? := by simp [World.cell?, h]
theorem nameC_of (s : ByteArray) (b : Bool) (h : (s.toList == ([] : List UInt8)) = b) : nameC s = if b then [] else 32 :: s.data.toList := by
  rw [ByteArray.toList_eq s] at h
  unfold nameC
  cases b with
  | true =>
    have : s.data.toList = [] := by simpa using h
    rw [if_pos (by simpa using congrArg List.length this)]; rfl
  | false =>
    have : s.data.toList ≠ [] := by simpa using h
    rw [if_neg ?_]
    · rfl
    · intro e
      apply this
      apply List.eq_nil_of_length_eq_zero
      simpa using e

set_option maxRecDepth 100000 in
set_option maxHeartbeats 4000000 in
theorem spec_ctext (t : C) : CTextAt t := by
  induction t with
  | no => intro w v h _; exact h.elim
  | mk op n s t2 len kid ih =>
    intro w v hin hwt
    have h1 := hin.sl
    have hs := hin.size
    have hn := hin.num
    have hsm := (C.mk op n s t2 len kid).text_few w v hin hwt
    have hnum := (C.mk op n s t2 len kid).text_num
    have hvar := (C.mk op n s t2 len kid).text_var
    have hnil := (C.mk op n s t2 len kid).text_nil
    have helse := (C.mk op n s t2 len kid).text_else (by intro e; cases e)
    have hwk : ∀ i, i < len → (kid i).weight ≤ 1048576 := fun i hi => by
      have e : (C.mk op n s t2 len kid).weight = s.size + (t2.size + kidsWeightC len kid) := rfl
      have h2 := sumTo_at (fun i => (kid i).weight) i len hi
      unfold kidsWeightC at e
      omega
    have hls : s.size ≤ 1048576 ∧ t2.size ≤ 1048576 := by
      have e : (C.mk op n s t2 len kid).weight = s.size + (t2.size + kidsWeightC len kid) := rfl
      omega
    simp only [C.op, C.n, C.s, C.t2, C.len, C.kid] at h1 hs hn hnum hvar hnil helse ⊢
    generalize (C.mk op n s t2 len kid).text = T at *
    obtain ⟨p, cap, e1, hlen, hat⟩ := h1.at
    have HC : Hid (∀ i, i < len → ∃ b o u, p = some ⟨b, o, none⟩ ∧ HeadC w b (o + i * 5) (kid i) u ∧ (kid i).In w u) := hat
    have IH : Hid (∀ i, CTextAt (kid i)) := ih
    have HWK : Hid (∀ i, i < len → (kid i).weight ≤ 1048576) := hwk
    have HB : Hid (∀ o1, Below w.heap.size w (w.alloc o1)) := fun o1 => newb w _
    clear hin h1 hat ih hwk hwt
    unfold maxLen at hlen hs
    subst e1
    by_cases c1 : op = 1
    · subst c1
      have HT : Hid (T = Lib.itoa n) := hnum rfl
      clear hnum hvar hnil helse
      go_enter Tryd.func6, Tryd.ntmps6
      go_wp2_with fail
      refine (spec_digits n hn.1 hn.2 _).mono ?_
      rintro e w1 ⟨rfl, hb1⟩
      have HB1 : Hid (Below w.heap.size w w1) := (newb w _).trans (hb1.mono (newb w _).size)
      clear hb1
      go_wp2_with fail
      go_ret
      exact ⟨by rw [HT.out]; rfl, HB1.out⟩
    by_cases c2 : op = 2
    · subst c2
      have HT : Hid (T = s.data.toList) := hvar rfl
      clear hnum hvar hnil helse
      go_enter Tryd.func6, Tryd.ntmps6
      go_wp2_with fail
      go_ret
      exact ⟨by rw [HT.out]; rfl, HB.out _⟩
    by_cases c3 : op = 13
    · subst c3
      have HT : Hid (T = [40, 41]) := hnil rfl
      clear hnum hvar hnil helse
      go_enter Tryd.func6, Tryd.ntmps6
      go_wp2_with fail
      go_ret
      exact ⟨by rw [HT.out]; rfl, HB.out _⟩
    have HT := hid_ofT (helse c1 c2 c3)
    obtain ⟨L0, hL0⟩ : ∃ L0, L0 = 40 :: ((wordC op).data.toList ++ (nameC s ++ nameC t2)) := ⟨_, rfl⟩
    have HT2 : Hid (T = L0 ++ (kidsTo (fun i => (kid i).text) len ++ [41])) := by show _ = _; rw [HT.out, hL0]; simp
    have HJ : Hid (∀ k, k ≤ len → (L0 ++ kidsTo (fun i => (kid i).text) k).length ≤ 33554432) := by
      have hmono : ∀ m k, (kidsTo (fun i => (kid i).text) k).length ≤ (kidsTo (fun i => (kid i).text) (k + m)).length := by
        intro m
        induction m with
        | zero => intro k; exact Nat.le_refl _
        | succ m ihm => intro k; have := ihm k; rw [← Nat.add_assoc]; simp only [kidsTo, List.length_append]; omega
      intro k hk
      have h2 := hmono (len - k) k
      rw [show k + (len - k) = len from by omega] at h2
      have h3 := congrArg List.length HT2.out
      simp only [List.length_append, List.length_cons, List.length_nil] at h3 ⊢
      omega
    have HL0 := hid_ofT hL0
    have hl0s : L0.length ≤ 33554432 := by have := HJ.out 0 (Nat.zero_le _); simpa [kidsTo] using this
    clear hnum hvar hnil helse hL0 HT
    have g1 : (op == 1) = false := by simpa using c1
    have g2 : (op == 2) = false := by simpa using c2
    have g3 : (op == 13) = false := by simpa using c3
    obtain ⟨W, hW⟩ : ∃ W, W = (w.alloc (.cells #[.int .i64 op, .int .i64 n, .string s, .string t2, .slice p len cap] 29)).alloc (.cells namesRow 9) := ⟨_, rfl⟩
    have HWF : Hid (Below w.heap.size w W ∧ W.heap[w.heap.size]? = some (.cells #[.int .i64 op, .int .i64 n, .string s, .string t2, .slice p len cap] 29 (0, 0)) ∧ W.heap[w.heap.size + 1]? = some (.cells namesRow 9 (0, 0))) := by
      rw [hW]
      refine ⟨(newb w _).trans ((newb _ _).mono (by simp)), ?_, ?_⟩
      · rw [Below.heap_alloc _ _ _ (by simp)]; exact heap_alloc_new w _
      · have := heap_alloc_new (w.alloc (.cells #[.int .i64 op, .int .i64 n, .string s, .string t2, .slice p len cap] 29)) (.cells namesRow 9)
        rwa [World.size_alloc] at this
    have hW2 := hW
    unfold namesRow at hW2
    have HWW := hid_ofT hW2
    clear hW hW2
    have m0 : W.cell? ⟨w.heap.size, 0, none⟩ = some (.int .i64 op) := cell_of_row W _ 0 _ _ _ HWF.out.2.1
    have m2 : W.cell? ⟨w.heap.size, 2, none⟩ = some (.string s) := cell_of_row W _ 2 _ _ _ HWF.out.2.1
    have m3 : W.cell? ⟨w.heap.size, 3, none⟩ = some (.string t2) := cell_of_row W _ 3 _ _ _ HWF.out.2.1
    have m4 : W.cell? ⟨w.heap.size, 4, none⟩ = some (.slice p len cap) := cell_of_row W _ 4 _ _ _ HWF.out.2.1
    obtain ⟨R, hR⟩ : ∃ R, R = (decide (0 ≤ op) && decide (op ≤ 18)) := ⟨_, rfl⟩
    cases R with
    | false =>
      have HWD : Hid (wordC op = ⟨#[63]⟩) := wordC_none op hR.symm
      have HR := hid_ofT hR
      clear hR
      go_enter Tryd.func6, Tryd.ntmps6
      go_upto_region 10 with fail
      rw [← HWW.out]
      go_wp2_with fail
      refine (spec_in op 0 18 false HR.out _).mono ?_
      rintro e w1 ⟨rfl, rfl⟩
      cases hs0 : (s.toList == ([] : List UInt8)) <;> cases hs1 : (t2.toList == ([] : List UInt8))
      all_goals
        have HS0 := hid_ofT hs0
        have HS1 := hid_ofT hs1
        have hn0 : (s.toList != ([] : List UInt8)) = !(s.toList == ([] : List UInt8)) := rfl
        have hn1 : (t2.toList != ([] : List UInt8)) = !(t2.toList == ([] : List UInt8)) := rfl
        rw [hs0] at hn0
        rw [hs1] at hn1
        simp only [Bool.not_false, Bool.not_true] at hn0 hn1
        go_wp2_with fail
        go_loopw [4, 5] (fun x i wr => ∃ (k : Nat) (l : List UInt8), i = .int .i64 k ∧ x = .string ⟨l.toArray⟩ ∧ k ≤ len ∧ l = L0 ++ kidsTo (fun i => (kid i).text) k ∧ wr.cell? ⟨w.heap.size, 4, none⟩ = some (.slice p len cap) ∧ Below w.heap.size w wr) (fun _ i _ => len - (intOf i).toNat)
        case atStart =>
          refine ⟨0, L0, rfl, ?_, Nat.zero_le _, by simp [kidsTo], m4, HWF.out.1⟩
          have e1 := nameC_of s _ HS0.out
          have e2 := nameC_of t2 _ HS1.out
          simp only [Bool.false_eq_true, if_false, if_true] at e1 e2
          have e3 := HWD.out
          refine congrArg Value.string (ByteArray.ext ?_)
          first | rw [HL0.out, e1, e2, e3] | rw [HL0.out, e1, e2]
          simp [ByteArray.data_append]
        case round =>
          obtain ⟨k, l, rfl, rfl, hk, hl, hc4, hbel⟩ := hrel
          have HBL : Hid (Below w.heap.size w wr) := hbel
          have HLL : Hid (l = L0 ++ kidsTo (fun i => (kid i).text) k) := hl
          have hll : l.length ≤ 33554432 := by rw [hl]; exact HJ.out k hk
          clear hbel hl
          by_cases hlt : (k : Int) < len
          · have hlt' : k < len := by omega
            obtain ⟨b, o, u, hp, hd, hin⟩ := HC.out k hlt'
            subst hp
            obtain ⟨c0, c1, c2, c3, c4⟩ := hd.below HBL.out
            have HI : Hid ((kid k).In wr u) := hin.below HBL.out
            have hts : (kid k).text.length ≤ 33554432 := (kid k).text_few w u hin (HWK.out k hlt')
            have HNY : Hid ((l ++ [32]) ++ (kid k).text = L0 ++ kidsTo (fun i => (kid i).text) (k + 1)) := by
              show _ = _
              rw [HLL.out]; simp [kidsTo]
            clear hd hin
            have e32 : ((⟨l.toArray⟩ : ByteArray) ++ ⟨#[32]⟩) = ⟨(l ++ [32]).toArray⟩ := join_bytesC l [32]
            have hl32 : (l ++ [32]).length ≤ 33554434 := by simp; omega
            go_wp2_with fail
            generalize l ++ [32] = l2 at *
            refine (IH.out k wr u HI.out (HWK.out k hlt')).mono ?_
            rintro e w1 ⟨rfl, hb1⟩
            have HB1 : Hid (Below w.heap.size w w1) := HBL.out.trans (hb1.mono HBL.out.size)
            have HX : Hid (w1.cell? ⟨w.heap.size, 4, none⟩ = some (.slice (some ⟨b, o, none⟩) len cap)) := keeps hb1 _ _ hc4
            clear hb1 c0 c1 c2 c3 c4 e32
            go_wp2_with fail
            go_roundw
            case rel => exact ⟨k + 1, l2 ++ (kid k).text, by go_num, by rw [join_bytesC], by omega, HNY.out, HX.out, HB1.out⟩
            case measure => simp [intOf]; omega
          · have hke : k = len := by omega
            subst hke
            go_wp2_with fail
            go_ret
            refine ⟨?_, HBL.out⟩
            rw [HT2.out, ← List.append_assoc, ← HLL.out, ← join_bytesC]; rfl
    | true =>
      have hR1 : 0 ≤ op ∧ op ≤ 18 := by simpa using hR.symm
      have HR := hid_ofT hR
      obtain ⟨i, rfl⟩ : ∃ i : Nat, op = i := ⟨op.toNat, by omega⟩
      have mi : W.cell? ⟨w.heap.size + 1, i, none⟩ = some (.string (wordC i)) := (cell_any HWF.out.2.2).trans (namesRow_at i (by omega))
      have hws : (wordC (i : Int)).size ≤ 5 := by have := wordC_size (i : Int); simpa using this
      have hi18 : i ≤ 18 := by omega
      clear hR hR1
      generalize hwd : wordC (i : Int) = wd at *
      have HWD : Hid (wordC (i : Int) = wd) := hwd
      clear hwd
      go_enter Tryd.func6, Tryd.ntmps6
      go_upto_region 10 with fail
      rw [← HWW.out]
      go_wp2_with fail
      refine (spec_in i 0 18 true HR.out _).mono ?_
      rintro e w1 ⟨rfl, rfl⟩
      cases hs0 : (s.toList == ([] : List UInt8)) <;> cases hs1 : (t2.toList == ([] : List UInt8))
      all_goals
        have HS0 := hid_ofT hs0
        have HS1 := hid_ofT hs1
        have hn0 : (s.toList != ([] : List UInt8)) = !(s.toList == ([] : List UInt8)) := rfl
        have hn1 : (t2.toList != ([] : List UInt8)) = !(t2.toList == ([] : List UInt8)) := rfl
        rw [hs0] at hn0
        rw [hs1] at hn1
        simp only [Bool.not_false, Bool.not_true] at hn0 hn1
        go_wp2_with fail
        go_loopw [4, 5] (fun x i wr => ∃ (k : Nat) (l : List UInt8), i = .int .i64 k ∧ x = .string ⟨l.toArray⟩ ∧ k ≤ len ∧ l = L0 ++ kidsTo (fun i => (kid i).text) k ∧ wr.cell? ⟨w.heap.size, 4, none⟩ = some (.slice p len cap) ∧ Below w.heap.size w wr) (fun _ i _ => len - (intOf i).toNat)
        case atStart =>
          refine ⟨0, L0, rfl, ?_, Nat.zero_le _, by simp [kidsTo], m4, HWF.out.1⟩
          have e1 := nameC_of s _ HS0.out
          have e2 := nameC_of t2 _ HS1.out
          simp only [Bool.false_eq_true, if_false, if_true] at e1 e2
          have e3 := HWD.out
          refine congrArg Value.string (ByteArray.ext ?_)
          first | rw [HL0.out, e1, e2, e3] | rw [HL0.out, e1, e2]
          simp [ByteArray.data_append]
        case round =>
          obtain ⟨k, l, rfl, rfl, hk, hl, hc4, hbel⟩ := hrel
          have HBL : Hid (Below w.heap.size w wr) := hbel
          have HLL : Hid (l = L0 ++ kidsTo (fun i => (kid i).text) k) := hl
          have hll : l.length ≤ 33554432 := by rw [hl]; exact HJ.out k hk
          clear hbel hl
          by_cases hlt : (k : Int) < len
          · have hlt' : k < len := by omega
            obtain ⟨b, o, u, hp, hd, hin⟩ := HC.out k hlt'
            subst hp
            obtain ⟨c0, c1, c2, c3, c4⟩ := hd.below HBL.out
            have HI : Hid ((kid k).In wr u) := hin.below HBL.out
            have hts : (kid k).text.length ≤ 33554432 := (kid k).text_few w u hin (HWK.out k hlt')
            have HNY : Hid ((l ++ [32]) ++ (kid k).text = L0 ++ kidsTo (fun i => (kid i).text) (k + 1)) := by
              show _ = _
              rw [HLL.out]; simp [kidsTo]
            clear hd hin
            have e32 : ((⟨l.toArray⟩ : ByteArray) ++ ⟨#[32]⟩) = ⟨(l ++ [32]).toArray⟩ := join_bytesC l [32]
            have hl32 : (l ++ [32]).length ≤ 33554434 := by simp; omega
            go_wp2_with fail
            generalize l ++ [32] = l2 at *
            refine (IH.out k wr u HI.out (HWK.out k hlt')).mono ?_
            rintro e w1 ⟨rfl, hb1⟩
            have HB1 : Hid (Below w.heap.size w w1) := HBL.out.trans (hb1.mono HBL.out.size)
            have HX : Hid (w1.cell? ⟨w.heap.size, 4, none⟩ = some (.slice (some ⟨b, o, none⟩) len cap)) := keeps hb1 _ _ hc4
            clear hb1 c0 c1 c2 c3 c4 e32
            go_wp2_with fail
            go_roundw
            case rel => exact ⟨k + 1, l2 ++ (kid k).text, by go_num, by rw [join_bytesC], by omega, HNY.out, HX.out, HB1.out⟩
            case measure => simp [intOf]; omega
          · have hke : k = len := by omega
            subst hke
            go_wp2_with fail
            go_ret
            refine ⟨?_, HBL.out⟩
            rw [HT2.out, ← List.append_assoc, ← HLL.out, ← join_bytesC]; rfl
end Go.Proofs.YtoljphjmekkneaaDoor
