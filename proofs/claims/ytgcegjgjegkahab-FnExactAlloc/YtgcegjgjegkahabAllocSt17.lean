/- What stands in the law of Alloc: three heaps in boxes and a row of ints, all new and apart. No conditions. -/
import Derived.Test.YtgcegjgjegkahabSpecAlloc17
import Derived.Test.YtgcegjgjegkahabImplAlloc17
import Derived.Test.YtgcegjgjegkahabSpecBlockAt17
namespace Go.Proofs.Ytgcegjgjegkahab
open Go.ChangeShapes Go.WideShapes Go.ChangeAt Go.RowKit

theorem alloc_len (h : Hp) (f : Bool) (t : Int) (ks : List Int) : (allocHp h f t ks).ws.length = h.ws.length := by
  unfold allocHp
  cases hd : doneB h t ks with
  | false => rfl
  | true =>
    rw [if_pos rfl]
    unfold doneB at hd
    rw [Bool.and_eq_true] at hd
    have hr : ¬ h.half - (h.next - h.base) < 1 + (ks.length : Nat) := by
      have := hd.2
      unfold roomB at this
      simpa using this
    have hb : ∃ L, blocksB h = some L := by
      have := hd.1
      unfold mayB at this
      cases hb : blocksB h with
      | none => rw [hb] at this; cases this
      | some L => exact ⟨L, rfl⟩
    obtain ⟨L, hb⟩ := hb
    have hh : halvesB h = true := by
      cases h1 : halvesB h with
      | true => rfl
      | false => rw [blocks_nohalf h1] at hb; cases hb
    have hi := halves_iff.1 hh
    exact putW_len (by omega)

structure LS (A wq : World) (K0 K1 K2 : Nat) (s0 sx u3 s1 : Value) (r h : Hp) (l1 l3 l2 : List Int) : Prop where
  b : Below A.heap.size A wq
  k0 : BoxAt wq K0 s0 r
  o0 : Own wq A.heap.size s0 r.ws
  k1 : BoxAt wq K1 sx h
  o1 : Own wq A.heap.size sx l1
  o3 : Own wq A.heap.size u3 l3
  k2 : BoxAt wq K2 s1 r
  o2 : Own wq A.heap.size s1 l2
structure Sep17 (B K0 K1 K2 : Nat) (s0 sx u3 s1 : Value) : Prop where
  x1 : ∀ k, sx.ownBlock = some k → B ≤ k ∧ k ≠ K0 ∧ k ≠ K1 ∧ k ≠ K2 ∧ s0.ownBlock ≠ some k ∧ u3.ownBlock ≠ some k ∧ s1.ownBlock ≠ some k
  x3 : ∀ k, u3.ownBlock = some k → B ≤ k ∧ k ≠ K0 ∧ k ≠ K1 ∧ k ≠ K2 ∧ s0.ownBlock ≠ some k ∧ sx.ownBlock ≠ some k ∧ s1.ownBlock ≠ some k
  x2 : ∀ k, s1.ownBlock = some k → B ≤ k ∧ k ≠ K0 ∧ k ≠ K1 ∧ k ≠ K2 ∧ s0.ownBlock ≠ some k ∧ sx.ownBlock ≠ some k ∧ u3.ownBlock ≠ some k

section
variable {A wq w' : World} {K0 K1 K2 : Nat} {s0 sx u3 s1 : Value} {r h : Hp} {l1 l3 l2 l : List Int}
theorem LS.below (S : LS A wq K0 K1 K2 s0 sx u3 s1 r h l1 l3 l2) (hb : Below wq.heap.size wq w') : LS A w' K0 K1 K2 s0 sx u3 s1 r h l1 l3 l2 where
  b := S.b.trans (hb.mono S.b.size)
  k0 := S.k0.below hb S.k0.lt
  o0 := S.o0.below hb
  k1 := S.k1.below hb S.k1.lt
  o1 := S.o1.below hb
  o3 := S.o3.below hb
  k2 := S.k2.below hb S.k2.lt
  o2 := S.o2.below hb
theorem LS.mark1 (S : LS A wq K0 K1 K2 s0 sx u3 s1 r h l1 l3 l2) (P : Sep17 A.heap.size K0 K1 K2 s0 sx u3 s1) (hg : wq.grownBy w' sx.ownBlock) (ho : Own w' A.heap.size sx l) : LS A w' K0 K1 K2 s0 sx u3 s1 r h l l3 l2 where
  b := S.b.grown hg S.b.size (fun k hk => (P.x1 k hk).1)
  k0 := S.k0.grown hg (fun e => (P.x1 K0 e.symm).2.1 rfl)
  o0 := S.o0.kept hg (fun g h1 h2 => (P.x1 g h2).2.2.2.2.1 h1)
  k1 := S.k1.grown hg (fun e => (P.x1 K1 e.symm).2.2.1 rfl)
  o1 := ho
  o3 := S.o3.kept hg (fun g h1 h2 => (P.x1 g h2).2.2.2.2.2.1 h1)
  k2 := S.k2.grown hg (fun e => (P.x1 K2 e.symm).2.2.2.1 rfl)
  o2 := S.o2.kept hg (fun g h1 h2 => (P.x1 g h2).2.2.2.2.2.2 h1)
theorem LS.mark3 (S : LS A wq K0 K1 K2 s0 sx u3 s1 r h l1 l3 l2) (P : Sep17 A.heap.size K0 K1 K2 s0 sx u3 s1) (hg : wq.grownBy w' u3.ownBlock) (ho : Own w' A.heap.size u3 l) : LS A w' K0 K1 K2 s0 sx u3 s1 r h l1 l l2 where
  b := S.b.grown hg S.b.size (fun k hk => (P.x3 k hk).1)
  k0 := S.k0.grown hg (fun e => (P.x3 K0 e.symm).2.1 rfl)
  o0 := S.o0.kept hg (fun g h1 h2 => (P.x3 g h2).2.2.2.2.1 h1)
  k1 := S.k1.grown hg (fun e => (P.x3 K1 e.symm).2.2.1 rfl)
  o1 := S.o1.kept hg (fun g h1 h2 => (P.x3 g h2).2.2.2.2.2.1 h1)
  o3 := ho
  k2 := S.k2.grown hg (fun e => (P.x3 K2 e.symm).2.2.2.1 rfl)
  o2 := S.o2.kept hg (fun g h1 h2 => (P.x3 g h2).2.2.2.2.2.2 h1)
theorem LS.mark2 (S : LS A wq K0 K1 K2 s0 sx u3 s1 r h l1 l3 l2) (P : Sep17 A.heap.size K0 K1 K2 s0 sx u3 s1) (hg : wq.grownBy w' s1.ownBlock) (ho : Own w' A.heap.size s1 l) : LS A w' K0 K1 K2 s0 sx u3 s1 r h l1 l3 l where
  b := S.b.grown hg S.b.size (fun k hk => (P.x2 k hk).1)
  k0 := S.k0.grown hg (fun e => (P.x2 K0 e.symm).2.1 rfl)
  o0 := S.o0.kept hg (fun g h1 h2 => (P.x2 g h2).2.2.2.2.1 h1)
  k1 := S.k1.grown hg (fun e => (P.x2 K1 e.symm).2.2.1 rfl)
  o1 := S.o1.kept hg (fun g h1 h2 => (P.x2 g h2).2.2.2.2.2.1 h1)
  o3 := S.o3.kept hg (fun g h1 h2 => (P.x2 g h2).2.2.2.2.2.2 h1)
  k2 := S.k2.grown hg (fun e => (P.x2 K2 e.symm).2.2.2.1 rfl)
  o2 := ho
theorem sep_of (hB : A.heap.size ≤ wq.heap.size) {a0 a1 b1 a3 b3 a2 b2 : Nat} (h0 : ∀ k, s0.ownBlock = some k → k < a0) (h1 : ∀ k, sx.ownBlock = some k → a1 ≤ k ∧ k < b1) (h3 : ∀ k, u3.ownBlock = some k → a3 ≤ k ∧ k < b3) (h2 : ∀ k, s1.ownBlock = some k → a2 ≤ k ∧ k < b2)
    (e1 : wq.heap.size ≤ a0) (e2 : a0 = K0) (e3 : K0 < a1) (e4 : a1 ≤ b1) (e5 : b1 = K1) (e6 : K1 < a3) (e7 : a3 ≤ b3) (e8 : b3 ≤ a2) (e9 : a2 ≤ b2) (e10 : b2 = K2) : Sep17 A.heap.size K0 K1 K2 s0 sx u3 s1 where
  x1 := fun k hk => by
    have := h1 k hk
    refine ⟨by omega, by omega, by omega, by omega, fun h => ?_, fun h => ?_, fun h => ?_⟩
    · have := h0 k h; omega
    · have := h3 k h; omega
    · have := h2 k h; omega
  x3 := fun k hk => by
    have := h3 k hk
    refine ⟨by omega, by omega, by omega, by omega, fun h => ?_, fun h => ?_, fun h => ?_⟩
    · have := h0 k h; omega
    · have := h1 k h; omega
    · have := h2 k h; omega
  x2 := fun k hk => by
    have := h2 k hk
    refine ⟨by omega, by omega, by omega, by omega, fun h => ?_, fun h => ?_, fun h => ?_⟩
    · have := h0 k h; omega
    · have := h1 k h; omega
    · have := h3 k h; omega
end
end Go.Proofs.Ytgcegjgjegkahab
