/- laws.FnExactEffect: the walk, over a premise on impl.Effect. -/
import Derived.Test.YtkbbfgfmlilfbaaDoorRows
import Derived.Test.YtkbbfgfmlilfbaaDoorToOp
import Derived.Test.YtkbbfgfmlilfbaaDoorSpecEffect
import Derived.WalkKit
import Derived.ProofKit
import Derived.Deep.Cut
namespace Go.Proofs.YtkbbfgfmlilfbaaDoor.fnExactEffect
open Go.ChangeShapes Go.WideShapes Go.ChangeAt Go.RowKit

/-- What the program must answer, in worlds in which its tables read so (T). -/
def ImplEffect (T : World → Prop) : Prop := ∀ (q : O3) (w : World), T w → Calls Tryd.prog 8 #[.agg #[.int .i64 q.c, .int .i64 q.n, .int .i64 q.m]] w fun e w' => e = .returned (.tuple #[.int .i64 (takesO q), .int .i64 (putsO q)]) ∧ Below w.heap.size w w'

set_option maxRecDepth 100000 in
set_option maxHeartbeats 4000000 in
theorem walk {T : World → Prop} (himpl : ImplEffect T) (c n m : Int) (w : World) (ht : ∀ w1, Below w.heap.size w w1 → T w1) :
    Calls Tryd.prog 3 #[.agg #[.int .i64 c, .int .i64 n, .int .i64 m]] w fun e w' => e = .returned (.bool true) ∧ Below w.heap.size w w' := by
  obtain ⟨W, hW⟩ : ∃ W, W = w.alloc (.cells #[.int .i64 c, .int .i64 n, .int .i64 m] 23) := ⟨_, rfl⟩
  obtain ⟨K, hK⟩ : ∃ K, K = w.heap.size := ⟨_, rfl⟩
  have bW : Below w.heap.size w W := by rw [hW]; exact newb w _
  have hk : W.heap[K]? = some (.cells #[.int .i64 c, .int .i64 n, .int .i64 m] 23 (0, 0)) := by rw [hW, hK]; exact heap_alloc_new w _
  have HC : Hid (∀ wq, Below W.heap.size W wq → wq.cell? ⟨K, 0, none⟩ = some (.int .i64 c) ∧ wq.cell? ⟨K, 1, none⟩ = some (.int .i64 n) ∧ wq.cell? ⟨K, 2, none⟩ = some (.int .i64 m)) := fun wq h => ⟨keeps h _ _ (cell_of_row W K 0 _ _ _ hk), keeps h _ _ (cell_of_row W K 1 _ _ _ hk), keeps h _ _ (cell_of_row W K 2 _ _ _ hk)⟩
  have HWW : Hid (W = w.alloc (.cells #[.int .i64 c, .int .i64 n, .int .i64 m] 23)) := hW
  have HK : Hid (K = w.heap.size) := hK
  have HB : Hid (Below w.heap.size w W) := bW
  have HT : Hid (∀ wq, Below W.heap.size W wq → T wq) := fun wq h => ht wq (bW.trans (h.mono bW.size))
  have HS : Hid (∀ wq, Calls Tryd.prog 6 #[.agg #[.int .i64 c, .int .i64 n, .int .i64 m]] wq fun e w' => e = .returned (.tuple #[.int .i64 (takesO ⟨c, n, m⟩), .int .i64 (putsO ⟨c, n, m⟩)]) ∧ Below wq.heap.size wq w') := fun wq => spec_effect ⟨c, n, m⟩ wq
  have HI : Hid (∀ wq, T wq → Calls Tryd.prog 8 #[.agg #[.int .i64 c, .int .i64 n, .int .i64 m]] wq fun e w' => e = .returned (.tuple #[.int .i64 (takesO ⟨c, n, m⟩), .int .i64 (putsO ⟨c, n, m⟩)]) ∧ Below wq.heap.size wq w') := fun wq h => himpl ⟨c, n, m⟩ wq h
  clear hk hW hK bW ht himpl
  generalize takesO ⟨c, n, m⟩ = ta at *
  generalize putsO ⟨c, n, m⟩ = pu at *
  obtain ⟨k0, k1, k2⟩ := HC.out W (Below.refl _ _)
  go_enter Tryd.func3, Tryd.ntmps3
  go_upto_region 1 with fail
  rw [← HWW.out, ← HK.out]
  go_wp2_with fail
  refine (to_op c n m W).mono ?_
  rintro e w1 ⟨rfl, hb1⟩
  have B1 : Hid (Below W.heap.size W w1) := hb1
  clear hb1 k0 k1 k2
  go_wp2_with fail
  refine (HS.out w1).mono ?_
  rintro e w2 ⟨rfl, hb2⟩
  have B2 : Hid (Below W.heap.size W w2) := B1.out.trans (hb2.mono B1.out.size)
  clear hb2 B1
  obtain ⟨k0, k1, k2⟩ := HC.out w2 B2.out
  go_wp2_with fail
  refine (to_op c n m w2).mono ?_
  rintro e w3 ⟨rfl, hb3⟩
  have B3 : Hid (Below W.heap.size W w3) := B2.out.trans (hb3.mono B2.out.size)
  clear hb3 B2 k0 k1 k2
  go_wp2_with fail
  refine (HI.out w3 (HT.out w3 B3.out)).mono ?_
  rintro e w4 ⟨rfl, hb4⟩
  have B4 : Hid (Below w.heap.size w w4) := HB.out.trans ((B3.out.trans (hb4.mono B3.out.size)).mono HB.out.size)
  clear hb4 B3
  go_wp2_with fail
  go_ret
  exact ⟨rfl, B4.out⟩
end Go.Proofs.YtkbbfgfmlilfbaaDoor.fnExactEffect
