/- spec.IrSize. Condition: at most 2^40 parts. -/
import Derived.Test.YtmobpjokmngdgaaDoorRows
import Derived.Test.YtmobpjokmngdgaaDoorIrRows
import Derived.WalkKit
import Derived.ProofKit
import Derived.OwnWalk
namespace Go.Proofs.YtmobpjokmngdgaaDoor
open Go.ChangeShapes Go.WideShapes Go.ChangeAt Go.RowKit

def ISizeAt (t : It) : Prop := ∀ (w : World) (v : Value), t.In w v → t.count ≤ 1099511627776 →
  Calls Tryd.prog 10 #[.agg #[.int .i64 t.op, .int .i64 t.n, v]] w fun e w' => e = .returned (.int .i64 t.count) ∧ Below w.heap.size w w'

set_option maxRecDepth 100000 in
set_option maxHeartbeats 2000000 in
theorem spec_isize (t : It) : ISizeAt t := by
  induction t with
  | no => intro w v h _; exact h.elim
  | mk op n len kid ih =>
    intro w v hin hc
    have h1 := hin.sl
    have HCE : Hid ((It.mk op n len kid).count = 1 + sumTo (fun i => (kid i).count) len) := rfl
    simp only [It.op, It.n, It.len, It.kid] at h1 ⊢
    generalize (It.mk op n len kid).count = CN at *
    obtain ⟨p, cap, e1, hlen, hat⟩ := h1.at
    have HC : Hid (∀ i, i < len → ∃ b o u, p = some ⟨b, o, none⟩ ∧ HeadI w b (o + i * 3) (kid i) u ∧ (kid i).In w u) := hat
    have IH : Hid (∀ i, ISizeAt (kid i)) := ih
    clear hin h1 hat ih
    unfold maxLen at hlen
    subst e1
    go_enter Tryd.func10, Tryd.ntmps10
    go_wp2_with fail
    go_loopw [3, 4] (fun x i wr => ∃ k c : Nat, i = .int .i64 k ∧ x = .int .i64 c ∧ k ≤ len ∧ c = 1 + sumTo (fun i => (kid i).count) k ∧ wr.cell? ⟨w.heap.size, 2, none⟩ = some (.slice p len cap) ∧ Below w.heap.size w wr) (fun _ i _ => len - (intOf i).toNat)
    case atStart => exact ⟨0, 1, rfl, rfl, Nat.zero_le _, rfl, by simp, newb w _⟩
    case round =>
      obtain ⟨k, c, rfl, rfl, hk, hcc, hc1, hbel⟩ := hrel
      have HBL : Hid (Below w.heap.size w wr) := hbel
      have HS : Hid (c = 1 + sumTo (fun i => (kid i).count) k) := hcc
      clear hbel hcc
      by_cases hlt : (k : Int) < len
      · have hlt' : k < len := by omega
        obtain ⟨b, o, u, hp, hd, hin⟩ := HC.out k hlt'
        subst hp
        obtain ⟨c0, c1, c2⟩ := hd.below HBL.out
        have HI : Hid ((kid k).In wr u) := hin.below HBL.out
        have hsum : c + (kid k).count ≤ CN := by
          have h1 := sumTo_at (fun i => (kid i).count) k len hlt'
          have h2 := HS.out
          have h3 := HCE.out
          omega
        have hck : (kid k).count ≤ 1099511627776 := by omega
        clear hd hin
        go_wp2_with fail
        refine (IH.out k wr u HI.out hck).mono ?_
        rintro e w1 ⟨rfl, hb1⟩
        have HB1 : Hid (Below w.heap.size w w1) := HBL.out.trans (hb1.mono HBL.out.size)
        have HX : Hid (w1.cell? ⟨w.heap.size, 2, none⟩ = some (.slice (some ⟨b, o, none⟩) len cap)) := keeps hb1 _ _ hc1
        clear hb1 c0 c1 c2
        go_wp2_with fail
        go_roundw
        case rel => exact ⟨k + 1, c + (kid k).count, by go_num, by go_num, by omega, by rw [HS.out]; simp only [sumTo]; omega, HX.out, HB1.out⟩
        case measure => simp [intOf]; omega
      · have hke : k = len := by omega
        subst hke
        have HE : Hid (c = CN) := HS.out.trans HCE.out.symm
        go_wp2_with fail
        go_ret
        exact ⟨by rw [← HE.out]; rfl, HBL.out⟩
end Go.Proofs.YtmobpjokmngdgaaDoor
