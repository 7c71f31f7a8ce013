/- impl.takeOp: the op that begins at a place, which is moved behind it. Conditions: as at TakeNum16. -/
import Derived.Test.YtocdpgogoadfnaaDoorTakeNum16
import Derived.Test.YtocdpgogoadfnaaDoorFunsG16
import Derived.Deep.Cut
import Derived.Laws.ResultCell
namespace Go.Proofs.YtocdpgogoadfnaaDoor
open Go.ChangeShapes Go.WideShapes Go.ChangeAt Go.RowKit

theorem grown_set2 {w w1 : World} {K X : Nat} (hg : w.grownBy w1 (some K)) (hX : w.heap.size ≤ X) (j : Nat) (u : Value) : w.grownBy (w1.setCell ⟨X, j, none⟩ u) (some K) :=
  ⟨hg.os, hg.tape, hg.output, by have := hg.size; simpa using this, fun k hk hn => (Below.heap_setCell w1 ⟨X, j, none⟩ u k (by show k ≠ X; omega)).trans (hg.block k hk hn)⟩
theorem grown_new2 {w w1 : World} {K : Nat} (hg : w.grownBy w1 (some K)) (o : Obj) : w.grownBy (w1.alloc o) (some K) :=
  ⟨hg.os, hg.tape, hg.output, by have := hg.size; simp; omega, fun k hk hn => (Below.heap_alloc w1 o k (Nat.lt_of_lt_of_le hk hg.size)).trans (hg.block k hk hn)⟩
theorem AtP.kept {w w' : World} {K : Nat} {a : Int} (h : AtP w K a) (hk : w'.heap[K]? = w.heap[K]?) : AtP w' K a := by
  refine ⟨(World.cell?_of_block (w := w) hk).trans h.1, ?_⟩
  have := h.2
  unfold World.frozen? at this ⊢
  rw [hk]
  exact this

/-- What takeNum answers at a place. -/
def TakeN (R : Option (Nat × Nat)) (K : Nat) (e : Ending) (w' : World) : Prop := match R with
  | some (n, q) => e = .returned (.tuple #[.int .i64 n, .bool true]) ∧ AtP w' K q
  | none => ∃ n c : Int, e = .returned (.tuple #[.int .i64 n, .bool false]) ∧ AtP w' K c
theorem takeN_of {xs : List Nat} {p K : Nat} {e : Ending} {w' : World} (h : TakeP (numAt xs p) K p e w') : TakeN (getN xs p) K e w' := by
  unfold TakeP at h
  unfold TakeN getN
  cases hn : numAt xs p with
  | none => rw [hn] at h; exact h
  | some r =>
    obtain ⟨n, k⟩ := r
    rw [hn] at h
    obtain ⟨h1, h2⟩ := h
    refine ⟨h1, ?_⟩
    rw [show ((p + k : Nat) : Int) = (p : Int) + k by omega]
    exact h2
theorem take_numN (xs : List Nat) (hx : ∀ x ∈ xs, x < 256) (p : Nat) (K : Nat) (v : Value) (w : World) (hv : RdO K w v xs) (hp : AtP w K p) (hl : xs.length ≤ 4194304) :
    Calls Tryd.prog 39 #[v, .pointer (some ⟨K, 0, none⟩)] w fun e w' => w.grownBy w' (some K) ∧ TakeN (getN xs p) K e w' :=
  (take_num xs hx p K v w hv hp hl).mono fun _ _ ⟨h1, h2⟩ => ⟨h1, takeN_of h2⟩

def zeroOV : Value := .agg #[.int .i64 0, .int .i64 0, .int .i64 0]
def opV (o : O3) : Value := .agg #[.int .i64 o.c, .int .i64 o.n, .int .i64 o.m]
/-- What takeOp answers. -/
def TakeO (R : Option (O3 × Nat)) (K : Nat) (e : Ending) (w' : World) : Prop := match R with
  | some (o, q) => e = .returned (.tuple #[opV o, .bool true]) ∧ AtP w' K q
  | none => ∃ c : Int, e = .returned (.tuple #[zeroOV, .bool false]) ∧ AtP w' K c

theorem takeO_some {R : Option (O3 × Nat)} {K : Nat} {e : Ending} {w' : World} {o : O3} {q : Nat} (h : R = some (o, q)) (he : e = .returned (.tuple #[opV o, .bool true])) (ha : AtP w' K q) : TakeO R K e w' := by subst h; exact ⟨he, ha⟩
theorem takeO_none {R : Option (O3 × Nat)} {K : Nat} {e : Ending} {w' : World} {c : Int} (h : R = none) (he : e = .returned (.tuple #[zeroOV, .bool false])) (ha : AtP w' K c) : TakeO R K e w' := by subst h; exact ⟨c, he, ha⟩
theorem AtP.off {w : World} {K X : Nat} {a : Int} (h : AtP w K a) (hx : K ≠ X) (j : Nat) (u : Value) : AtP (w.setCell ⟨X, j, none⟩ u) K a := h.kept (Below.heap_setCell w ⟨X, j, none⟩ u K hx)

/-- How far an op was read, k of its numbers. -/
def OpSt (xs : List Nat) (p : Nat) (k : Nat) (z0 z1 z2 : Int) (q : Nat) : Prop :=
  (k = 0 ∧ z0 = 0 ∧ z1 = 0 ∧ z2 = 0 ∧ q = p) ∨ (k = 1 ∧ z1 = 0 ∧ z2 = 0 ∧ ∃ c : Nat, z0 = c ∧ getN xs p = some (c, q)) ∨
  (k = 2 ∧ z2 = 0 ∧ ∃ c p1 n : Nat, z0 = c ∧ z1 = n ∧ getN xs p = some (c, p1) ∧ getN xs p1 = some (n, q)) ∨
  (k = 3 ∧ ∃ c p1 n p2 m : Nat, z0 = c ∧ z1 = n ∧ z2 = m ∧ getN xs p = some (c, p1) ∧ getN xs p1 = some (n, p2) ∧ getN xs p2 = some (m, q))
theorem OpSt.none {xs : List Nat} {p k : Nat} {z0 z1 z2 : Int} {q : Nat} (h : OpSt xs p k z0 z1 z2 q) (hk : k < 3) (hn : getN xs q = none) : getO xs p = none := by
  rcases h with ⟨rfl, _, _, _, rfl⟩ | ⟨rfl, _, _, c, _, h1⟩ | ⟨rfl, _, c, p1, n, _, _, h1, h2⟩ | ⟨rfl, _⟩
  · exact getO_none1 hn
  · exact getO_none2 h1 hn
  · exact getO_none3 h1 h2 hn
  · omega
theorem OpSt.some {xs : List Nat} {p : Nat} {z0 z1 z2 : Int} {q : Nat} (h : OpSt xs p 3 z0 z1 z2 q) : ∃ o : O3, getO xs p = some (o, q) ∧ o.c = z0 ∧ o.n = z1 - 1073741824 ∧ o.m = z2 ∧ 0 ≤ z1 ∧ z1 ≤ 2147483647 := by
  rcases h with ⟨h, _⟩ | ⟨h, _⟩ | ⟨h, _⟩ | ⟨_, c, p1, n, p2, m, rfl, rfl, rfl, h1, h2, h3⟩
  · omega
  · omega
  · omega
  · exact ⟨_, getO_some h1 h2 h3, rfl, rfl, rfl, by omega, by have := (getN_bound h2).1; omega⟩

set_option maxRecDepth 100000 in
set_option maxHeartbeats 4000000 in
theorem take_op (xs : List Nat) (hx : ∀ x ∈ xs, x < 256) (p : Nat) (K : Nat) (v : Value) (w : World) (hv : RdO K w v xs) (hp : AtP w K p) (hl : xs.length ≤ 4194304) :
    Calls Tryd.prog 41 #[v, .pointer (some ⟨K, 0, none⟩)] w fun e w' => w.grownBy w' (some K) ∧ TakeO (getO xs p) K e w' := by
  obtain ⟨b0, cap, ev, -⟩ := hv.now.shape
  have HT : Hid (∀ (q : Nat) (w1 : World), w.grownBy w1 (some K) → AtP w1 K q → Calls Tryd.prog 39 #[v, .pointer (some ⟨K, 0, none⟩)] w1 fun e w' => w1.grownBy w' (some K) ∧ TakeN (getN xs q) K e w') := fun q w1 hg ha => take_numN xs hx q K v w1 (hv.go hg) ha hl
  have hlt := hp.lt
  obtain ⟨R, hR⟩ : ∃ R, R = w.heap.size := ⟨_, rfl⟩
  obtain ⟨W, hW⟩ : ∃ W, W = ((w.alloc (.cells #[.int .i64 0, .int .i64 0, .int .i64 0] 47)).alloc (.cells #[.int .i64 0, .int .i64 0, .int .i64 0] 47)).alloc (.cells #[.pointer (some ⟨R + 1, 0, none⟩), .pointer (some ⟨R + 1, 1, none⟩), .pointer (some ⟨R + 1, 2, none⟩)] 58) := ⟨_, rfl⟩
  have hr0 : W.heap[R]? = some (.cells #[.int .i64 0, .int .i64 0, .int .i64 0] 47 (0, 0)) := by
    rw [hW, hR, Below.heap_alloc _ _ _ (by simp; omega), Below.heap_alloc _ _ _ (by simp)]; exact heap_alloc_new w _
  have hr1 : W.heap[R + 1]? = some (.cells #[.int .i64 0, .int .i64 0, .int .i64 0] 47 (0, 0)) := by
    rw [hW, hR, Below.heap_alloc _ _ _ (by simp)]
    have := heap_alloc_new (w.alloc (.cells #[.int .i64 0, .int .i64 0, .int .i64 0] 47)) (.cells #[.int .i64 0, .int .i64 0, .int .i64 0] 47)
    simpa using this
  have hr2 : W.heap[R + 2]? = some (.cells #[.pointer (some ⟨R + 1, 0, none⟩), .pointer (some ⟨R + 1, 1, none⟩), .pointer (some ⟨R + 1, 2, none⟩)] 58 (0, 0)) := by
    rw [hW]
    have := heap_alloc_new ((w.alloc (.cells #[.int .i64 0, .int .i64 0, .int .i64 0] 47)).alloc (.cells #[.int .i64 0, .int .i64 0, .int .i64 0] 47)) (.cells #[.pointer (some ⟨R + 1, 0, none⟩), .pointer (some ⟨R + 1, 1, none⟩), .pointer (some ⟨R + 1, 2, none⟩)] 58)
    rw [hR]; rw [hR] at this
    simpa using this
  have hgw : w.grownBy W (some K) := by rw [hW]; exact grown_new2 (grown_new2 (grown_new2 (World.grownBy.refl _ _) _) _) _
  have hatW : AtP W K p := hp.kept (by rw [hW, Below.heap_alloc _ _ _ (by simp; omega), Below.heap_alloc _ _ _ (by simp; omega), Below.heap_alloc _ _ _ (by omega)])
  have HW0 : Hid (W.heap[R]? = some (.cells #[.int .i64 0, .int .i64 0, .int .i64 0] 47 (0, 0)) ∧ W.heap[R + 1]? = some (.cells #[.int .i64 0, .int .i64 0, .int .i64 0] 47 (0, 0)) ∧ W.heap[R + 2]? = some (.cells #[.pointer (some ⟨R + 1, 0, none⟩), .pointer (some ⟨R + 1, 1, none⟩), .pointer (some ⟨R + 1, 2, none⟩)] 58 (0, 0)) ∧ w.grownBy W (some K) ∧ AtP W K p) := ⟨hr0, hr1, hr2, hgw, hatW⟩
  have HWW : Hid (((w.alloc (.cells #[.int .i64 0, .int .i64 0, .int .i64 0] 47)).alloc (.cells #[.int .i64 0, .int .i64 0, .int .i64 0] 47)).alloc (.cells #[.pointer (some ⟨w.heap.size + 1, 0, none⟩), .pointer (some ⟨w.heap.size + 1, 1, none⟩), .pointer (some ⟨w.heap.size + 1, 2, none⟩)] 58) = W) := by show _ = _; rw [hW, hR]
  have HRR : Hid (w.heap.size = R) := hR.symm
  have hKR : K < R := by omega
  have hRw : w.heap.size ≤ R := by omega
  subst ev
  clear hr0 hr1 hr2 hgw hatW hW hp hv hx hR hlt
  go_enter Tryd.func41, Tryd.ntmps41
  go_wp2_with fail
  rw [HWW.out, HRR.out]
  go_loopw [16] (fun i wr => ∃ (k : Nat) (z0 z1 z2 : Int) (q : Nat), i = .int .i64 k ∧ k ≤ 3 ∧ OpSt xs p k z0 z1 z2 q ∧ wr.heap[R]? = some (.cells #[.int .i64 0, .int .i64 0, .int .i64 0] 47 (0, 0)) ∧ wr.heap[R + 1]? = some (.cells #[.int .i64 z0, .int .i64 z1, .int .i64 z2] 47 (0, 0)) ∧ wr.heap[R + 2]? = some (.cells #[.pointer (some ⟨R + 1, 0, none⟩), .pointer (some ⟨R + 1, 1, none⟩), .pointer (some ⟨R + 1, 2, none⟩)] 58 (0, 0)) ∧ AtP wr K q ∧ w.grownBy wr (some K)) (fun i _ => 3 - (intOf i).toNat)
  case atStart => exact ⟨0, 0, 0, 0, p, rfl, by omega, .inl ⟨rfl, rfl, rfl, rfl, rfl⟩, HW0.out.1, HW0.out.2.1, HW0.out.2.2.1, HW0.out.2.2.2.2, HW0.out.2.2.2.1⟩
  case round =>
    obtain ⟨k, z0, z1, z2, q, rfl, hk, hst, hr0, hr1, hr2, hat, hg⟩ := hrel
    have HST : Hid (OpSt xs p k z0 z1 z2 q) := hst
    have HR0 : Hid (wr.heap[R]? = some (.cells #[.int .i64 0, .int .i64 0, .int .i64 0] 47 (0, 0))) := hr0
    have HR1 : Hid (wr.heap[R + 1]? = some (.cells #[.int .i64 z0, .int .i64 z1, .int .i64 z2] 47 (0, 0))) := hr1
    have HR2 : Hid (wr.heap[R + 2]? = some (.cells #[.pointer (some ⟨R + 1, 0, none⟩), .pointer (some ⟨R + 1, 1, none⟩), .pointer (some ⟨R + 1, 2, none⟩)] 58 (0, 0))) := hr2
    have HAT : Hid (AtP wr K q) := hat
    have HG : Hid (w.grownBy wr (some K)) := hg
    have hRs : R + 2 < wr.heap.size := (Array.getElem?_eq_some_iff.1 hr2).1
    clear hst hr0 hr1 hr2 hat hg HW0
    by_cases hk3 : k = 3
    · subst hk3
      obtain ⟨o, ho, e0, e1, e2, b0, b1⟩ := HST.out.some
      have HO : Hid (getO xs p = some (o, q) ∧ o.c = z0 ∧ o.n = z1 - 1073741824 ∧ o.m = z2) := ⟨ho, e0, e1, e2⟩
      have c0 : wr.cell? ⟨R + 1, 0, none⟩ = some (.int .i64 z0) := cell_of_row _ _ 0 _ _ _ HR1.out
      have c1 : wr.cell? ⟨R + 1, 1, none⟩ = some (.int .i64 z1) := cell_of_row _ _ 1 _ _ _ HR1.out
      have c2 : wr.cell? ⟨R + 1, 2, none⟩ = some (.int .i64 z2) := cell_of_row _ _ 2 _ _ _ HR1.out
      have f1 : ∀ j, wr.frozen? ⟨R + 1, j, none⟩ = false := fun j => frozen_of_row wr (R + 1) j _ _ HR1.out
      have r0 : wr.cell? ⟨R, 0, none⟩ = some (.int .i64 0) := cell_of_row _ _ 0 _ _ _ HR0.out
      have r1 : wr.cell? ⟨R, 1, none⟩ = some (.int .i64 0) := cell_of_row _ _ 1 _ _ _ HR0.out
      have r2 : wr.cell? ⟨R, 2, none⟩ = some (.int .i64 0) := cell_of_row _ _ 2 _ _ _ HR0.out
      have f0 : ∀ j, wr.frozen? ⟨R, j, none⟩ = false := fun j => frozen_of_row wr R j _ _ HR0.out
      clear ho e0 e1 e2
      go_wp2
      refine bodyPost_ret (v := .tuple #[.agg #[.int .i64 z0, .int .i64 (z1 - 1073741824), .int .i64 z2], .bool true]) (by rw [results_cell_tmp (p := 4) (u := 5) (ty := 47) (by kernel_rfl)]; simp [go_sem, r0, r1, r2]) rfl ?_
      refine ⟨grown_set2 (grown_set2 (grown_set2 (grown_set2 HG.out (by omega) _ _) (by omega) _ _) (by omega) _ _) (by omega) _ _, takeO_some HO.out.1 ?_ ((((HAT.out.off (by omega) _ _).off (by omega) _ _).off (by omega) _ _).off (by omega) _ _)⟩
      rw [← HO.out.2.1, ← HO.out.2.2.1, ← HO.out.2.2.2]
      rfl
    · have hk2 : k = 0 ∨ k = 1 ∨ k = 2 := by omega
      have f1 : ∀ j, wr.frozen? ⟨R + 1, j, none⟩ = false := fun j => frozen_of_row wr (R + 1) j _ _ HR1.out
      have f0 : ∀ j, wr.frozen? ⟨R, j, none⟩ = false := fun j => frozen_of_row wr R j _ _ HR0.out
      rcases hk2 with rfl | rfl | rfl
      · have pk : wr.cell? ⟨R + 2, 0, none⟩ = some (.pointer (some ⟨R + 1, 0, none⟩)) := cell_of_row _ _ 0 _ _ _ HR2.out
        cases hn : getN xs q with
        | none =>
          have HNO : Hid (getO xs p = none) := HST.out.none (by omega) hn
          have HC := HT.out q wr HG.out HAT.out
          rw [hn] at HC
          go_wp2_with fail
          refine HC.mono ?_
          rintro e w2 ⟨hg2, n0, c0, rfl, hat2⟩
          have HG2 : Hid (wr.grownBy w2 (some K)) := hg2
          have HAT2 : Hid (AtP w2 K c0) := hat2
          have hR0 : w2.heap[R]? = some (.cells #[.int .i64 0, .int .i64 0, .int .i64 0] 47 (0, 0)) := (hg2.block R (by omega) (by intro e; injection e with e; omega)).trans HR0.out
          have r0 : w2.cell? ⟨R, 0, none⟩ = some (.int .i64 0) := cell_of_row _ _ 0 _ _ _ hR0
          have r1 : w2.cell? ⟨R, 1, none⟩ = some (.int .i64 0) := cell_of_row _ _ 1 _ _ _ hR0
          have r2 : w2.cell? ⟨R, 2, none⟩ = some (.int .i64 0) := cell_of_row _ _ 2 _ _ _ hR0
          have g0 : ∀ j, w2.frozen? ⟨R, j, none⟩ = false := fun j => frozen_of_row w2 R j _ _ hR0
          clear hg2 hat2 hR0 HC hn
          go_wp2
          refine bodyPost_ret (v := .tuple #[zeroOV, .bool false]) (by rw [results_cell_tmp (p := 4) (u := 5) (ty := 47) (by kernel_rfl)]; simp [go_sem, zeroOV, r0, r1, r2]) rfl ?_
          exact ⟨grown_set2 (grown_set2 (grown_set2 (grown_trans HG.out HG2.out) (by omega) _ _) (by omega) _ _) (by omega) _ _, takeO_none HNO.out rfl (((HAT2.out.off (by omega) _ _).off (by omega) _ _).off (by omega) _ _)⟩
        | some r =>
          obtain ⟨n, q2⟩ := r
          have HN : Hid (getN xs q = some (n, q2)) := hn
          have HC := HT.out q wr HG.out HAT.out
          rw [hn] at HC
          go_wp2_with fail
          refine HC.mono ?_
          rintro e w2 ⟨hg2, rfl, hat2⟩
          have HG2 : Hid (w.grownBy w2 (some K)) := grown_trans HG.out hg2
          have HAT2 : Hid (AtP w2 K q2) := hat2
          have HQ0 : Hid (w2.heap[R]? = some (.cells #[.int .i64 0, .int .i64 0, .int .i64 0] 47 (0, 0))) := (hg2.block R (by omega) (by intro e; injection e with e; omega)).trans HR0.out
          have hQ1 : w2.heap[R + 1]? = some (.cells #[.int .i64 z0, .int .i64 z1, .int .i64 z2] 47 (0, 0)) := (hg2.block (R + 1) (by omega) (by intro e; injection e with e; omega)).trans HR1.out
          have HQ1 : Hid (w2.heap[R + 1]? = some (.cells #[.int .i64 z0, .int .i64 z1, .int .i64 z2] 47 (0, 0))) := hQ1
          have HQ2 : Hid (w2.heap[R + 2]? = some (.cells #[.pointer (some ⟨R + 1, 0, none⟩), .pointer (some ⟨R + 1, 1, none⟩), .pointer (some ⟨R + 1, 2, none⟩)] 58 (0, 0))) := (hg2.block (R + 2) (by omega) (by intro e; injection e with e; omega)).trans HR2.out
          have c1 : w2.cell? ⟨R + 1, 0, none⟩ = some (.int .i64 z0) := cell_of_row _ _ 0 _ _ _ hQ1
          have g1 : ∀ j, w2.frozen? ⟨R + 1, j, none⟩ = false := fun j => frozen_of_row w2 (R + 1) j _ _ hQ1
          clear hg2 hat2 hQ1 HC hn HAT HR0 HR1 HR2
          go_wp2_with fail
          go_roundw
          case rel =>
            refine ⟨1, (n : Int), z1, z2, q2, by go_num, by omega, ?_, (Below.heap_setCell w2 ⟨R + 1, 0, none⟩ _ R (by show R ≠ R + 1; omega)).trans HQ0.out, heap_setCell_same w2 (R + 1) 0 _ _ _ HQ1.out, (Below.heap_setCell w2 ⟨R + 1, 0, none⟩ _ (R + 2) (by show R + 2 ≠ R + 1; omega)).trans HQ2.out, HAT2.out.off (by omega) _ _, grown_set2 HG2.out (by omega) _ _⟩
            have A := HST.out
            have B := HN.out
            rcases A with ⟨_, a0, a1, a2, aq⟩ | ⟨h, _⟩ | ⟨h, _⟩ | ⟨h, _⟩
            · exact .inr (.inl ⟨rfl, a1, a2, n, rfl, by rw [← aq]; exact B⟩)
            · omega
            · omega
            · omega
          case measure => simp [intOf]
      · have pk : wr.cell? ⟨R + 2, 1, none⟩ = some (.pointer (some ⟨R + 1, 1, none⟩)) := cell_of_row _ _ 1 _ _ _ HR2.out
        cases hn : getN xs q with
        | none =>
          have HNO : Hid (getO xs p = none) := HST.out.none (by omega) hn
          have HC := HT.out q wr HG.out HAT.out
          rw [hn] at HC
          go_wp2_with fail
          refine HC.mono ?_
          rintro e w2 ⟨hg2, n0, c0, rfl, hat2⟩
          have HG2 : Hid (wr.grownBy w2 (some K)) := hg2
          have HAT2 : Hid (AtP w2 K c0) := hat2
          have hR0 : w2.heap[R]? = some (.cells #[.int .i64 0, .int .i64 0, .int .i64 0] 47 (0, 0)) := (hg2.block R (by omega) (by intro e; injection e with e; omega)).trans HR0.out
          have r0 : w2.cell? ⟨R, 0, none⟩ = some (.int .i64 0) := cell_of_row _ _ 0 _ _ _ hR0
          have r1 : w2.cell? ⟨R, 1, none⟩ = some (.int .i64 0) := cell_of_row _ _ 1 _ _ _ hR0
          have r2 : w2.cell? ⟨R, 2, none⟩ = some (.int .i64 0) := cell_of_row _ _ 2 _ _ _ hR0
          have g0 : ∀ j, w2.frozen? ⟨R, j, none⟩ = false := fun j => frozen_of_row w2 R j _ _ hR0
          clear hg2 hat2 hR0 HC hn
          go_wp2
          refine bodyPost_ret (v := .tuple #[zeroOV, .bool false]) (by rw [results_cell_tmp (p := 4) (u := 5) (ty := 47) (by kernel_rfl)]; simp [go_sem, zeroOV, r0, r1, r2]) rfl ?_
          exact ⟨grown_set2 (grown_set2 (grown_set2 (grown_trans HG.out HG2.out) (by omega) _ _) (by omega) _ _) (by omega) _ _, takeO_none HNO.out rfl (((HAT2.out.off (by omega) _ _).off (by omega) _ _).off (by omega) _ _)⟩
        | some r =>
          obtain ⟨n, q2⟩ := r
          have HN : Hid (getN xs q = some (n, q2)) := hn
          have HC := HT.out q wr HG.out HAT.out
          rw [hn] at HC
          go_wp2_with fail
          refine HC.mono ?_
          rintro e w2 ⟨hg2, rfl, hat2⟩
          have HG2 : Hid (w.grownBy w2 (some K)) := grown_trans HG.out hg2
          have HAT2 : Hid (AtP w2 K q2) := hat2
          have HQ0 : Hid (w2.heap[R]? = some (.cells #[.int .i64 0, .int .i64 0, .int .i64 0] 47 (0, 0))) := (hg2.block R (by omega) (by intro e; injection e with e; omega)).trans HR0.out
          have hQ1 : w2.heap[R + 1]? = some (.cells #[.int .i64 z0, .int .i64 z1, .int .i64 z2] 47 (0, 0)) := (hg2.block (R + 1) (by omega) (by intro e; injection e with e; omega)).trans HR1.out
          have HQ1 : Hid (w2.heap[R + 1]? = some (.cells #[.int .i64 z0, .int .i64 z1, .int .i64 z2] 47 (0, 0))) := hQ1
          have HQ2 : Hid (w2.heap[R + 2]? = some (.cells #[.pointer (some ⟨R + 1, 0, none⟩), .pointer (some ⟨R + 1, 1, none⟩), .pointer (some ⟨R + 1, 2, none⟩)] 58 (0, 0))) := (hg2.block (R + 2) (by omega) (by intro e; injection e with e; omega)).trans HR2.out
          have c1 : w2.cell? ⟨R + 1, 1, none⟩ = some (.int .i64 z1) := cell_of_row _ _ 1 _ _ _ hQ1
          have g1 : ∀ j, w2.frozen? ⟨R + 1, j, none⟩ = false := fun j => frozen_of_row w2 (R + 1) j _ _ hQ1
          clear hg2 hat2 hQ1 HC hn HAT HR0 HR1 HR2
          go_wp2_with fail
          go_roundw
          case rel =>
            refine ⟨2, z0, (n : Int), z2, q2, by go_num, by omega, ?_, (Below.heap_setCell w2 ⟨R + 1, 1, none⟩ _ R (by show R ≠ R + 1; omega)).trans HQ0.out, heap_setCell_same w2 (R + 1) 1 _ _ _ HQ1.out, (Below.heap_setCell w2 ⟨R + 1, 1, none⟩ _ (R + 2) (by show R + 2 ≠ R + 1; omega)).trans HQ2.out, HAT2.out.off (by omega) _ _, grown_set2 HG2.out (by omega) _ _⟩
            have A := HST.out
            have B := HN.out
            rcases A with ⟨h, _⟩ | ⟨_, a1, a2, c, ac, aq⟩ | ⟨h, _⟩ | ⟨h, _⟩
            · omega
            · exact .inr (.inr (.inl ⟨rfl, a2, c, q, n, ac, rfl, aq, B⟩))
            · omega
            · omega
          case measure => simp [intOf]
      · have pk : wr.cell? ⟨R + 2, 2, none⟩ = some (.pointer (some ⟨R + 1, 2, none⟩)) := cell_of_row _ _ 2 _ _ _ HR2.out
        cases hn : getN xs q with
        | none =>
          have HNO : Hid (getO xs p = none) := HST.out.none (by omega) hn
          have HC := HT.out q wr HG.out HAT.out
          rw [hn] at HC
          go_wp2_with fail
          refine HC.mono ?_
          rintro e w2 ⟨hg2, n0, c0, rfl, hat2⟩
          have HG2 : Hid (wr.grownBy w2 (some K)) := hg2
          have HAT2 : Hid (AtP w2 K c0) := hat2
          have hR0 : w2.heap[R]? = some (.cells #[.int .i64 0, .int .i64 0, .int .i64 0] 47 (0, 0)) := (hg2.block R (by omega) (by intro e; injection e with e; omega)).trans HR0.out
          have r0 : w2.cell? ⟨R, 0, none⟩ = some (.int .i64 0) := cell_of_row _ _ 0 _ _ _ hR0
          have r1 : w2.cell? ⟨R, 1, none⟩ = some (.int .i64 0) := cell_of_row _ _ 1 _ _ _ hR0
          have r2 : w2.cell? ⟨R, 2, none⟩ = some (.int .i64 0) := cell_of_row _ _ 2 _ _ _ hR0
          have g0 : ∀ j, w2.frozen? ⟨R, j, none⟩ = false := fun j => frozen_of_row w2 R j _ _ hR0
          clear hg2 hat2 hR0 HC hn
          go_wp2
          refine bodyPost_ret (v := .tuple #[zeroOV, .bool false]) (by rw [results_cell_tmp (p := 4) (u := 5) (ty := 47) (by kernel_rfl)]; simp [go_sem, zeroOV, r0, r1, r2]) rfl ?_
          exact ⟨grown_set2 (grown_set2 (grown_set2 (grown_trans HG.out HG2.out) (by omega) _ _) (by omega) _ _) (by omega) _ _, takeO_none HNO.out rfl (((HAT2.out.off (by omega) _ _).off (by omega) _ _).off (by omega) _ _)⟩
        | some r =>
          obtain ⟨n, q2⟩ := r
          have HN : Hid (getN xs q = some (n, q2)) := hn
          have HC := HT.out q wr HG.out HAT.out
          rw [hn] at HC
          go_wp2_with fail
          refine HC.mono ?_
          rintro e w2 ⟨hg2, rfl, hat2⟩
          have HG2 : Hid (w.grownBy w2 (some K)) := grown_trans HG.out hg2
          have HAT2 : Hid (AtP w2 K q2) := hat2
          have HQ0 : Hid (w2.heap[R]? = some (.cells #[.int .i64 0, .int .i64 0, .int .i64 0] 47 (0, 0))) := (hg2.block R (by omega) (by intro e; injection e with e; omega)).trans HR0.out
          have hQ1 : w2.heap[R + 1]? = some (.cells #[.int .i64 z0, .int .i64 z1, .int .i64 z2] 47 (0, 0)) := (hg2.block (R + 1) (by omega) (by intro e; injection e with e; omega)).trans HR1.out
          have HQ1 : Hid (w2.heap[R + 1]? = some (.cells #[.int .i64 z0, .int .i64 z1, .int .i64 z2] 47 (0, 0))) := hQ1
          have HQ2 : Hid (w2.heap[R + 2]? = some (.cells #[.pointer (some ⟨R + 1, 0, none⟩), .pointer (some ⟨R + 1, 1, none⟩), .pointer (some ⟨R + 1, 2, none⟩)] 58 (0, 0))) := (hg2.block (R + 2) (by omega) (by intro e; injection e with e; omega)).trans HR2.out
          have c1 : w2.cell? ⟨R + 1, 2, none⟩ = some (.int .i64 z2) := cell_of_row _ _ 2 _ _ _ hQ1
          have g1 : ∀ j, w2.frozen? ⟨R + 1, j, none⟩ = false := fun j => frozen_of_row w2 (R + 1) j _ _ hQ1
          clear hg2 hat2 hQ1 HC hn HAT HR0 HR1 HR2
          go_wp2_with fail
          go_roundw
          case rel =>
            refine ⟨3, z0, z1, (n : Int), q2, by go_num, by omega, ?_, (Below.heap_setCell w2 ⟨R + 1, 2, none⟩ _ R (by show R ≠ R + 1; omega)).trans HQ0.out, heap_setCell_same w2 (R + 1) 2 _ _ _ HQ1.out, (Below.heap_setCell w2 ⟨R + 1, 2, none⟩ _ (R + 2) (by show R + 2 ≠ R + 1; omega)).trans HQ2.out, HAT2.out.off (by omega) _ _, grown_set2 HG2.out (by omega) _ _⟩
            have A := HST.out
            have B := HN.out
            rcases A with ⟨h, _⟩ | ⟨h, _⟩ | ⟨_, a2, c, p1, m, ac, am, a3, a4⟩ | ⟨h, _⟩
            · omega
            · omega
            · exact .inr (.inr (.inr ⟨rfl, c, p1, m, q, n, ac, am, rfl, a3, a4, B⟩))
            · omega
          case measure => simp [intOf]
end Go.Proofs.YtocdpgogoadfnaaDoor
