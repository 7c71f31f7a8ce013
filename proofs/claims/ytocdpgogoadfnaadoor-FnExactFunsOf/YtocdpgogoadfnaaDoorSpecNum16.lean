/- spec.l16Num: the number at a cursor over bytes, which is moved behind it, or is no longer ok. Condition: at most 2^22 bytes; the cursor's block is none that they lie in. -/
import Derived.Test.YtocdpgogoadfnaaDoorImplTakeOp
import Derived.Test.YtocdpgogoadfnaaDoorLater
import Derived.Deep.Cut
namespace Go.Proofs.YtocdpgogoadfnaaDoor
open Go.ChangeShapes Go.WideShapes Go.ChangeAt Go.RowKit

/-- A cursor in block K. -/
def CurY (w : World) (K : Nat) (v : Value) (a : Int) (ok : Bool) : Prop := w.heap[K]? = some (.cells #[v, .int .i64 a, .bool ok] 55 (0, 0))
theorem CurY.lt {w : World} {K : Nat} {v : Value} {a : Int} {ok : Bool} (h : CurY w K v a ok) : K < w.heap.size := (Array.getElem?_eq_some_iff.1 h).1
theorem CurY.at_ {w : World} {K : Nat} {v : Value} {a : Int} {ok : Bool} (h : CurY w K v a ok) (b : Int) : CurY (w.setCell ⟨K, 1, none⟩ (.int .i64 b)) K v b ok := heap_setCell_same w K 1 _ _ _ h
theorem CurY.bad {w : World} {K : Nat} {v : Value} {a : Int} {ok : Bool} (h : CurY w K v a ok) (b : Bool) : CurY (w.setCell ⟨K, 2, none⟩ (.bool b)) K v a b := heap_setCell_same w K 2 _ _ _ h
theorem CurY.kept {w w' : World} {K : Nat} {v : Value} {a : Int} {ok : Bool} (h : CurY w K v a ok) (hk : w'.heap[K]? = w.heap[K]?) : CurY w' K v a ok := hk.trans h
theorem CurY.cells {w : World} {K : Nat} {v : Value} {a : Int} {ok : Bool} (h : CurY w K v a ok) : w.cell? ⟨K, 0, none⟩ = some v ∧ w.cell? ⟨K, 1, none⟩ = some (.int .i64 a) ∧ w.cell? ⟨K, 2, none⟩ = some (.bool ok) ∧ ∀ j, w.frozen? ⟨K, j, none⟩ = false :=
  ⟨cell_of_row _ _ 0 _ _ _ h, cell_of_row _ _ 1 _ _ _ h, cell_of_row _ _ 2 _ _ _ h, fun j => frozen_of_row w K j _ _ h⟩
theorem grown_below2 {w w1 w2 : World} {K : Nat} (hg : w.grownBy w1 (some K)) (hb : Below w1.heap.size w1 w2) : w.grownBy w2 (some K) :=
  ⟨hb.os.trans hg.os, hb.tape.trans hg.tape, hb.output.trans hg.output, Nat.le_trans hg.size hb.size, fun k hk hn => (hb.block k (Nat.lt_of_lt_of_le hk hg.size)).trans (hg.block k hk hn)⟩
theorem grown_cur {w w1 : World} {K : Nat} (hg : w.grownBy w1 (some K)) (j : Nat) (u : Value) : w.grownBy (w1.setCell ⟨K, j, none⟩ u) (some K) :=
  ⟨hg.os, hg.tape, hg.output, by have := hg.size; simpa using this, fun k hk hn => (Below.heap_setCell w1 ⟨K, j, none⟩ u k (by show k ≠ K; intro e; exact hn (by rw [e]))).trans (hg.block k hk hn)⟩

/-- What l16Num answers: the number, or 0. -/
def NumP16 (R : Option (Nat × Nat)) (K : Nat) (v : Value) (p : Nat) (e : Ending) (w' : World) : Prop := match R with
  | some (n, q) => e = .returned (.int .i64 n) ∧ CurY w' K v q true
  | none => e = .returned (.int .i64 0) ∧ CurY w' K v p false
theorem getE_at (xs : List Nat) (p : Nat) : getE xs p = match getN xs p with
    | some (n, q) => .tuple #[.int .i64 n, .int .i64 q, .bool true]
    | none => .tuple #[.int .i64 0, .int .i64 0, .bool false] := by
  unfold getE getN
  cases numAt xs p with
  | none => rfl
  | some r =>
    obtain ⟨n, k⟩ := r
    simp only
    rw [show ((p + k : Nat) : Int) = (p : Int) + k by omega]

set_option maxRecDepth 100000 in
set_option maxHeartbeats 4000000 in
theorem spec_num16 (xs : List Nat) (hx : ∀ x ∈ xs, x < 256) (p : Nat) (ok : Bool) (K : Nat) (v : Value) (w : World) (hv : RdO K w v xs) (hc : CurY w K v p ok) (hl : xs.length ≤ 4194304) :
    Calls Tryd.prog 27 #[.pointer (some ⟨K, 0, none⟩)] w fun e w' => w.grownBy w' (some K) ∧ NumP16 (if ok then getN xs p else none) K v p e w' := by
  obtain ⟨b0, cap, ev, -⟩ := hv.now.shape
  have HG : Hid (∀ w1, w.grownBy w1 (some K) → Calls Tryd.prog 38 #[v, .int .i64 p] w1 fun e w' => e = .returned (getE xs p) ∧ w' = w1) := fun w1 hg => spec_get xs hx p v w1 (hv w1 hg) hl
  have HCU : Hid (CurY w K v p ok) := hc
  obtain ⟨c0, c1, c2, f0⟩ := hc.cells
  have hlt := hc.lt
  subst ev
  have hone := Later.one w
  have y0 := fun x : Later w => x.cell c0
  have y1 := fun x : Later w => x.cell c1
  clear hc hv hx
  cases hn : getN xs p with
  | none =>
    have HE : Hid (getE xs p = .tuple #[.int .i64 0, .int .i64 0, .bool false]) := by show _ = _; rw [getE_at, hn]
    have HC : Hid (∀ x : Later w, Calls Tryd.prog 38 #[.slice b0 xs.length cap, .int .i64 p] x.w fun e w' => e = .returned (.tuple #[.int .i64 0, .int .i64 0, .bool false]) ∧ w' = x.w) := fun x => by
      have := HG.out x.w (grown_below2 (World.grownBy.refl _ _) x.le)
      rwa [HE.out] at this
    clear hn HG
    rw [ite_self]
    go_enter Tryd.func27, Tryd.ntmps27
    go_upto_region 1 with fail
    clear c0 c1 c2 f0
    refine wp_region_later (by kernel_rfl) (by kernel_rfl) ?_
    repeat (go_big_quiet_step ((go_at_call 38; refine calls_later_same (HC.out _))))
    refine wpQuiet_nil ?_
    rintro _ ⟨x, rfl⟩
    have HX : Hid (w.grownBy x.w (some K) ∧ CurY x.w K (.slice b0 xs.length cap) p ok) := ⟨grown_below2 (World.grownBy.refl _ _) x.le, HCU.out.kept (x.le.block K hlt)⟩
    obtain ⟨c0, c1, c2, f0⟩ := HX.out.2.cells
    clear y0 y1
    go_wp2_with fail
    go_ret
    exact ⟨grown_cur HX.out.1 _ _, rfl, HX.out.2.bad false⟩
  | some r =>
    obtain ⟨n, q⟩ := r
    have HE : Hid (getE xs p = .tuple #[.int .i64 n, .int .i64 q, .bool true]) := by show _ = _; rw [getE_at, hn]
    have HC : Hid (∀ x : Later w, Calls Tryd.prog 38 #[.slice b0 xs.length cap, .int .i64 p] x.w fun e w' => e = .returned (.tuple #[.int .i64 n, .int .i64 q, .bool true]) ∧ w' = x.w) := fun x => by
      have := HG.out x.w (grown_below2 (World.grownBy.refl _ _) x.le)
      rwa [HE.out] at this
    clear hn HG
    cases ok with
    | false =>
      go_enter Tryd.func27, Tryd.ntmps27
      go_upto_region 1 with fail
      clear c0 c1 c2 f0
      refine wp_region_later (by kernel_rfl) (by kernel_rfl) ?_
      repeat (go_big_quiet_step ((go_at_call 38; refine calls_later_same (HC.out _))))
      refine wpQuiet_nil ?_
      rintro _ ⟨x, rfl⟩
      have HX : Hid (w.grownBy x.w (some K) ∧ CurY x.w K (.slice b0 xs.length cap) p false) := ⟨grown_below2 (World.grownBy.refl _ _) x.le, HCU.out.kept (x.le.block K hlt)⟩
      obtain ⟨c0, c1, c2, f0⟩ := HX.out.2.cells
      clear y0 y1
      go_wp2_with fail
      go_ret
      exact ⟨grown_cur HX.out.1 _ _, rfl, HX.out.2.bad false⟩
    | true =>
      go_enter Tryd.func27, Tryd.ntmps27
      go_upto_region 1 with fail
      clear c0 c1 c2 f0
      refine wp_region_later (by kernel_rfl) (by kernel_rfl) ?_
      repeat (go_big_quiet_step ((go_at_call 38; refine calls_later_same (HC.out _))))
      refine wpQuiet_nil ?_
      rintro _ ⟨x, rfl⟩
      have HX : Hid (w.grownBy x.w (some K) ∧ CurY x.w K (.slice b0 xs.length cap) p true) := ⟨grown_below2 (World.grownBy.refl _ _) x.le, HCU.out.kept (x.le.block K hlt)⟩
      obtain ⟨c0, c1, c2, f0⟩ := HX.out.2.cells
      clear y0 y1
      go_wp2_with fail
      go_ret
      exact ⟨grown_cur HX.out.1 _ _, rfl, HX.out.2.at_ q⟩
end Go.Proofs.YtocdpgogoadfnaaDoor
