/- Heaps compared, marked, held, copied out of an argument, weighed. Conditions: at most 2^22 words. -/
import Derived.Test.YtgcegjgjegkahabHeapP
import Derived.Test.YtgcegjgjegkahabIntsSame
import Derived.Test.YtgcegjgjegkahabIntsLaw
namespace Go.Proofs.Ytgcegjgjegkahab
open Go.ChangeShapes Go.WideShapes Go.ChangeAt Go.RowKit

def eqHp (h g : Hp) : Bool := sameB h.ws g.ws && (decide (h.half = g.half) && (decide (h.base = g.base) && decide (h.next = g.next)))
theorem eqHp_self (h : Hp) : eqHp h h = true := by unfold eqHp; rw [same_self, decide_eq_true rfl, decide_eq_true rfl, decide_eq_true rfl]; rfl

set_option maxRecDepth 100000 in
set_option maxHeartbeats 1000000 in
theorem eq_heap (h : Hp) (u v : Value) (w : World) (hu : Rd w u h.ws) (hv : Rd w v h.ws) (hl : h.ws.length ≤ 4194304) :
    Calls Try.prog 13 #[heapV u h, heapV v h] w fun e w' => e = .returned (.bool true) ∧ Below w.heap.size w w' := by
  obtain ⟨xs, ha, ba, na⟩ := h
  obtain ⟨pu, cu, rfl, hcu⟩ := hu.shape
  obtain ⟨pv, cv, rfl, hcv⟩ := hv.shape
  have HE : Hid (∀ wq, Below w.heap.size w wq → Calls Try.prog 16 #[.slice pu xs.length cu, .slice pv xs.length cv] wq fun e w' => e = .returned (.bool true) ∧ Below wq.heap.size wq w') := fun wq hb => by
    have := eq_ints xs xs _ _ wq (hu.below hb) (hv.below hb) hl hl
    rw [same_self] at this
    exact this
  clear hcu hcv hu hv
  obtain ⟨W, hW⟩ : ∃ W, W = (w.alloc (.cells #[.slice pu xs.length cu, .int .i64 ha, .int .i64 ba, .int .i64 na] 27)).alloc (.cells #[.slice pv xs.length cv, .int .i64 ha, .int .i64 ba, .int .i64 na] 27) := ⟨_, rfl⟩
  have HB : Hid (Below w.heap.size w W) := by show Below _ _ _; rw [hW]; exact ((Below.refl _ _).alloc (Nat.le_refl _) _).alloc (by simp) _
  have HS : Hid (W.heap.size = w.heap.size + 2) := by show _ = _; rw [hW]; simp
  have HR1 : Hid (W.heap[w.heap.size]? = some (.cells #[.slice pu xs.length cu, .int .i64 ha, .int .i64 ba, .int .i64 na] 27 (0, 0))) := by
    show _ = _
    rw [hW]
    exact (Below.heap_alloc _ _ _ (by simp)).trans (heap_alloc_last _ _)
  have HR2 : Hid (W.heap[w.heap.size + 1]? = some (.cells #[.slice pv xs.length cv, .int .i64 ha, .int .i64 ba, .int .i64 na] 27 (0, 0))) := by
    show _ = _
    rw [hW]
    have := heap_alloc_last (w.alloc (.cells #[.slice pu xs.length cu, .int .i64 ha, .int .i64 ba, .int .i64 na] 27)) (.cells #[.slice pv xs.length cv, .int .i64 ha, .int .i64 ba, .int .i64 na] 27)
    simpa using this
  go_enter Try.func13, Try.ntmps13
  go_wp2_with fail
  rw [← hW]
  clear hW
  refine (HE.out W HB.out).mono ?_
  rintro e w1 ⟨rfl, hb⟩
  have r1 := (hb.block _ (by have := HS.out; omega)).trans HR1.out
  have r2 := (hb.block _ (by have := HS.out; omega)).trans HR2.out
  have c1 := cell_of_row w1 _ 1 _ _ _ r1
  have c2 := cell_of_row w1 _ 2 _ _ _ r1
  have c3 := cell_of_row w1 _ 3 _ _ _ r1
  have d1 := cell_of_row w1 _ 1 _ _ _ r2
  have d2 := cell_of_row w1 _ 2 _ _ _ r2
  have d3 := cell_of_row w1 _ 3 _ _ _ r2
  have HF : Hid (Below w.heap.size w w1) := HB.out.trans (hb.mono HB.out.size)
  clear r1 r2 hb
  go_wp2_with fail
  go_ret
  exact ⟨rfl, HF.out⟩
set_option maxRecDepth 100000 in
set_option maxHeartbeats 1000000 in
theorem mark_heap (h : Hp) (v : Value) (base : Nat) (q : Nat) (w : World) (hown : Own w base v h.ws) (hl : h.ws.length ≤ 4194304) (hq : q ≤ 1000000000000000) :
    Calls Try.prog 17 #[heapV v h, .int .i64 (q : Int)] w fun e w' => e = .returned (.int .i64 ((q + h.ws.length : Nat) : Int)) ∧ Own w' base v (marksI q h.ws.length) ∧ w.grownBy w' v.ownBlock := by
  obtain ⟨xs, ha, ba, na⟩ := h
  have HM : Hid (∀ wq, Own wq base v xs → Calls Try.prog 18 #[v, .int .i64 (q : Int)] wq fun e w' => e = .returned (.int .i64 ((q + xs.length : Nat) : Int)) ∧ Own w' base v (marksI q xs.length) ∧ wq.grownBy w' v.ownBlock) := fun wq ho => mark_ints v base xs q wq ho hl hq
  have HO : Hid (Own (w.alloc (.cells #[v, .int .i64 ha, .int .i64 ba, .int .i64 na] 27)) base v xs) := World.ownsRow.alloc hown _
  clear hown
  go_enter Try.func17, Try.ntmps17
  go_wp2_with fail
  refine (HM.out _ HO.out).mono ?_
  rintro e w1 ⟨rfl, ho, hg⟩
  go_wp2_with fail
  go_ret
  exact ⟨rfl, ho, (World.grownBy_alloc _ _ _).trans hg⟩
set_option maxRecDepth 100000 in
set_option maxHeartbeats 1000000 in
theorem held_heap (n : Nat) (h : Hp) (v : Value) (q : Nat) (w : World) (hv : Rd w v (marksI q n)) (hl : n ≤ 4194304) (hq : q ≤ 1000000000000000) :
    Calls Try.prog 23 #[heapV v h, .int .i64 (q : Int)] w fun e w' => e = .returned (.int .i64 ((q + n : Nat) : Int)) ∧ Below w.heap.size w w' := by
  obtain ⟨xs, ha, ba, na⟩ := h
  have HM : Hid (∀ wq, Rd wq v (marksI q n) → Calls Try.prog 19 #[v, .int .i64 (q : Int)] wq fun e w' => e = .returned (.int .i64 ((q + n : Nat) : Int)) ∧ w' = wq) := fun wq ho => held_ints n v q wq ho hl hq
  have HO : Hid (Rd (w.alloc (.cells #[v, .int .i64 ha, .int .i64 ba, .int .i64 na] 27)) v (marksI q n)) := hv.below (new_below _ _)
  clear hv
  go_enter Try.func23, Try.ntmps23
  go_wp2_with fail
  refine (HM.out _ HO.out).mono ?_
  rintro e w1 ⟨rfl, rfl⟩
  go_wp2_with fail
  go_ret
  exact ⟨rfl, new_below _ _⟩
end Go.Proofs.Ytgcegjgjegkahab
