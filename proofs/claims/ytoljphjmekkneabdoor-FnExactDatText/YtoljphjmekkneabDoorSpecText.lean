/- spec.DatText. Condition: at most 2^20 in all. -/
import Derived.Test.YtoljphjmekkneabDoorRows
import Derived.Test.YtoljphjmekkneabDoorDatTell
import Derived.Test.YtoljphjmekkneabDoorSpecDigits
import Derived.WalkKit
import Derived.ProofKit
import Derived.OwnWalk
namespace Go.Proofs.YtoljphjmekkneabDoor
open Go.ChangeShapes Go.WideShapes Go.ChangeAt Go.RowKit

def TextAt (t : D) : Prop := ∀ (w : World) (v : Value), t.In w v → t.weight ≤ 1048576 →
  Calls Tryd.prog 5 #[.agg #[.int .i64 t.op, .int .i64 t.at_, .int .i64 t.n, .string t.s, v]] w fun e w' => e = .returned (.string ⟨t.text.toArray⟩) ∧ Below w.heap.size w w'

theorem join_bytes (a b : List UInt8) : ((⟨a.toArray⟩ : ByteArray) ++ ⟨b.toArray⟩) = ⟨(a ++ b).toArray⟩ := by
  apply ByteArray.ext
  simp [ByteArray.data_append]

theorem D.text_small (w : World) (t : D) (v : Value) (h : t.In w v) (hw : t.weight ≤ 1048576) : t.text.length ≤ 33554432 := by
  have h1 := t.text_len w v h
  have h2 := t.count_weight
  omega

set_option maxRecDepth 100000 in
set_option maxHeartbeats 4000000 in
theorem spec_text (t : D) : TextAt t := by
  induction t with
  | no => intro w v h _; exact h.elim
  | mk op a n s len kid ih =>
    intro w v hin hwt
    have h1 := hin.sl
    have hs := hin.size
    have hn := hin.num
    have hsm := (D.mk op a n s len kid).text_small w v hin hwt
    have hnum := (D.mk op a n s len kid).text_num
    have hsym := (D.mk op a n s len kid).text_sym
    have hlist := (D.mk op a n s len kid).text_list
    have hnone := (D.mk op a n s len kid).text_none
    have hwk : ∀ i, i < len → (kid i).weight ≤ 1048576 := fun i hi => by
      have e : (D.mk op a n s len kid).weight = s.size + kidsWeight len kid := rfl
      have h2 := sumTo_at (fun i => (kid i).weight) i len hi
      unfold kidsWeight at e
      omega
    simp only [D.op, D.at_, D.n, D.s, D.len, D.kid] at h1 hs hn hnum hsym hlist hnone ⊢
    generalize (D.mk op a n s len kid).text = T at *
    obtain ⟨p, cap, e1, hlen, hat⟩ := h1.at
    have HC : Hid (∀ i, i < len → ∃ b o u, p = some ⟨b, o, none⟩ ∧ Head w b (o + i * 5) (kid i) u ∧ (kid i).In w u) := hat
    have IH : Hid (∀ i, TextAt (kid i)) := ih
    have HWK : Hid (∀ i, i < len → (kid i).weight ≤ 1048576) := hwk
    have HB : Hid (∀ o1, Below w.heap.size w (w.alloc o1)) := fun o1 => newb w _
    clear hin h1 hat ih hwk hwt
    unfold maxLen at hlen hs
    subst e1
    by_cases c1 : op = 1
    · subst c1
      have HT : Hid (T = Lib.itoa n) := hnum rfl
      clear hnum hsym hlist hnone
      go_enter Tryd.func5, Tryd.ntmps5
      go_wp2_with fail
      refine (spec_digits n hn.1 hn.2 _).mono ?_
      rintro e w1 ⟨rfl, hb1⟩
      have HB1 : Hid (Below w.heap.size w w1) := (newb w _).trans (hb1.mono (newb w _).size)
      clear hb1
      go_wp2_with fail
      go_ret
      exact ⟨by rw [HT.out]; rfl, HB1.out⟩
    · by_cases c2 : op = 2
      · subst c2
        have HT : Hid (T = s.data.toList) := hsym rfl
        clear hnum hsym hlist hnone
        go_enter Tryd.func5, Tryd.ntmps5
        go_wp2_with fail
        go_ret
        exact ⟨by rw [HT.out]; rfl, HB.out _⟩
      · by_cases c3 : op = 3
        · subst c3
          have HT : Hid (T = 40 :: (joinTo (fun i => (kid i).text) len ++ [41])) := hlist rfl
          have hjl : (joinTo (fun i => (kid i).text) len).length ≤ 33554432 := by
            have := HT.out
            rw [this] at hsm
            simp only [List.length_cons, List.length_append] at hsm
            omega
          have HJ : Hid (∀ k, k ≤ len → (joinTo (fun i => (kid i).text) k).length ≤ 33554432) := fun k hk => by
            have h2 := join_split (fun i => (kid i).text) (len - k) k
            rw [show k + (len - k) = len from by omega] at h2
            have h3 := congrArg List.length h2
            rw [List.length_append] at h3
            omega
          clear hnum hsym hlist hnone hjl
          go_enter Tryd.func5, Tryd.ntmps5
          go_wp2_with fail
          go_loopw [3, 4] (fun x i wr => ∃ (k : Nat) (l : List UInt8), i = .int .i64 k ∧ x = .string ⟨l.toArray⟩ ∧ k ≤ len ∧ l = 40 :: joinTo (fun i => (kid i).text) k ∧ wr.cell? ⟨w.heap.size, 4, none⟩ = some (.slice p len cap) ∧ Below w.heap.size w wr) (fun _ i _ => len - (intOf i).toNat)
          case atStart => exact ⟨0, [40], rfl, rfl, Nat.zero_le _, rfl, by simp, newb w _⟩
          case round =>
            obtain ⟨k, l, rfl, rfl, hk, hl, hc4, hbel⟩ := hrel
            have HBL : Hid (Below w.heap.size w wr) := hbel
            have HLL : Hid (l = 40 :: joinTo (fun i => (kid i).text) k) := hl
            have hll : l.length ≤ 33554433 := by
              have := HJ.out k hk
              rw [hl]; simp only [List.length_cons]; omega
            clear hbel hl
            by_cases hlt : (k : Int) < len
            · have hlt' : k < len := by omega
              obtain ⟨b, o, u, hp, hd, hin⟩ := HC.out k hlt'
              subst hp
              obtain ⟨c0, c1, c2, c3, c4⟩ := hd.below HBL.out
              have HI : Hid ((kid k).In wr u) := hin.below HBL.out
              have hts : (kid k).text.length ≤ 33554432 := (kid k).text_small w u hin (HWK.out k hlt')
              have HNX : Hid (l ++ (sep k ++ (kid k).text) = 40 :: joinTo (fun i => (kid i).text) (k + 1)) := by
                show _ = _
                rw [HLL.out]; rfl
              clear hd hin
              by_cases hk1 : (0 : Int) < k
              · have HNY : Hid ((l ++ [32]) ++ (kid k).text = 40 :: joinTo (fun i => (kid i).text) (k + 1)) := by
                  have := HNX.out
                  unfold sep at this
                  rw [if_neg (by omega)] at this
                  show _ = _
                  rw [← this]; simp
                have e32 : ((⟨l.toArray⟩ : ByteArray) ++ ⟨#[32]⟩) = ⟨(l ++ [32]).toArray⟩ := join_bytes l [32]
                have hl32 : (l ++ [32]).length ≤ 33554434 := by simp; omega
                go_wp2_with fail
                generalize l ++ [32] = l2 at *
                refine (IH.out k wr u HI.out (HWK.out k hlt')).mono ?_
                rintro e w1 ⟨rfl, hb1⟩
                have HB1 : Hid (Below w.heap.size w w1) := HBL.out.trans (hb1.mono HBL.out.size)
                have HX : Hid (w1.cell? ⟨w.heap.size, 4, none⟩ = some (.slice (some ⟨b, o, none⟩) len cap)) := keeps hb1 _ _ hc4
                clear hb1 c0 c1 c2 c3 c4 e32
                go_wp2_with fail
                go_roundw
                case rel => exact ⟨k + 1, l2 ++ (kid k).text, by go_num, by rw [join_bytes], by omega, HNY.out, HX.out, HB1.out⟩
                case measure => simp [intOf]; omega
              · have HNY : Hid (l ++ (kid k).text = 40 :: joinTo (fun i => (kid i).text) (k + 1)) := by
                  have := HNX.out
                  unfold sep at this
                  rw [if_pos (by omega)] at this
                  show _ = _
                  rw [← this]; simp
                go_wp2_with fail
                refine (IH.out k wr u HI.out (HWK.out k hlt')).mono ?_
                rintro e w1 ⟨rfl, hb1⟩
                have HB1 : Hid (Below w.heap.size w w1) := HBL.out.trans (hb1.mono HBL.out.size)
                have HX : Hid (w1.cell? ⟨w.heap.size, 4, none⟩ = some (.slice (some ⟨b, o, none⟩) len cap)) := keeps hb1 _ _ hc4
                clear hb1 c0 c1 c2 c3 c4
                go_wp2_with fail
                go_roundw
                case rel => exact ⟨k + 1, l ++ (kid k).text, by go_num, by rw [join_bytes], by omega, HNY.out, HX.out, HB1.out⟩
                case measure => simp [intOf]; omega
            · have hke : k = len := by omega
              subst hke
              go_wp2_with fail
              go_ret
              refine ⟨?_, HBL.out⟩
              rw [HT.out, ← List.cons_append, ← HLL.out, ← join_bytes]; rfl
        · have HT : Hid (T = [63]) := hnone c1 c2 c3
          have g1 : (op == 1) = false := by simpa using c1
          have g2 : (op == 2) = false := by simpa using c2
          have g3 : (op == 3) = false := by simpa using c3
          clear hnum hsym hlist hnone
          go_enter Tryd.func5, Tryd.ntmps5
          go_wp2_with fail
          go_ret
          exact ⟨by rw [HT.out]; rfl, HB.out _⟩
end Go.Proofs.YtoljphjmekkneabDoor
