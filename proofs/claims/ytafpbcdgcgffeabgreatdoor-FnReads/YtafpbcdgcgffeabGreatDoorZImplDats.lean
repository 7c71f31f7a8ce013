/- impl.DatsOk. Condition: at most 2^20 in all. -/
import Derived.Test.YtafpbcdgcgffeabGreatDoorZDatLook
import Derived.Laws.EntriesVeiled
namespace Go.Proofs.YtafpbcdgcgffeabGreatDoor
open Go.ChangeShapes Go.WideShapes Go.ChangeAt Go.RowKit

set_option maxRecDepth 100000 in
set_option maxHeartbeats 4000000 in
theorem impl_dats (len : Nat) (kid : Nat → D) (w : World) (v : Value) (hv : Sl w len kid v) (hw : kidsWeight len kid ≤ 1048576) :
    Calls Tryz.prog 11 #[v] w fun e w' => e = .returned (.bool (datsB len kid)) ∧ Below w.heap.size w w' := by
  obtain ⟨p, cap, hp⟩ := hv.shape
  have HL : Hid (∀ w1, Below w.heap.size w w1 → CntD w1 w.heap.size 1500 → Calls Tryz.prog 30 #[.pointer (some ⟨w.heap.size, 0, none⟩), v, .int .i64 20] w1 fun e w' => e = .returned (.bool (look 20 1500 len kid).isSome) ∧ Below w.heap.size w w') := by
    intro w1 h1 h2
    refine (list_okD w w.heap.size (Nat.le_refl _) 20 1500 len kid v w1 hv h1 h2 (by omega) (by omega) hw).mono ?_
    rintro e w' ⟨he, hf, -⟩
    exact ⟨he, GdD.fr h1 hf (Nat.le_refl _)⟩
  have HR : Hid (datsB len kid = (look 20 1500 len kid).isSome) := look_datsB len kid
  have HN : Hid (CntD (w.alloc (.cells #[.int .i64 1500, .func (.func 28) #[] #[], .func (.func 29) #[] #[]] 58)) w.heap.size 1500) := heap_alloc_new w _
  clear hv hw
  subst hp
  go_enter Tryz.func11, Tryz.ntmps11
  go_wp2_with fail
  refine (HL.out _ (newb w _) HN.out).mono ?_
  rintro e w1 ⟨rfl, hb1⟩
  have HB : Hid (Below w.heap.size w w1) := hb1
  clear hb1
  go_wp2_with fail
  go_ret
  exact ⟨by rw [HR.out]; rfl, HB.out⟩
end Go.Proofs.YtafpbcdgcgffeabGreatDoor
