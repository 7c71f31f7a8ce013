/- slices.Reverse of a row of pieces. No conditions. -/
import Derived.Test.YtbofjjjjjcolgaaDoorRows
import Derived.Test.YtbofjjjjjcolgaaDoorValPc
import Derived.Test.YtbofjjjjjcolgaaDoorOwnCut
import Derived.Deep.LoopGhost
import Derived.WalkKit
import Derived.ProofKit
namespace Go.Proofs.YtbofjjjjjcolgaaDoor
open Go.ChangeShapes Go.WideShapes Go.ChangeAt Go.RowKit

theorem pcrowsV_set (p : PcV) : ∀ (l : List PcV) (i : Nat), ((pcrowsV l).set (i * 2) (.string p.tx)).set (i * 2 + 1) (.pointer p.adr) = pcrowsV (l.set i p)
  | [], i => by simp [pcrowsV]
  | x :: r, 0 => by simp [pcrowsV, PcV.cells]
  | x :: r, i + 1 => by
    have ih := pcrowsV_set p r i
    have e : pcrowsV (x :: r) = .string x.tx :: .pointer x.adr :: pcrowsV r := rfl
    rw [e, show (i + 1) * 2 = i * 2 + 1 + 1 from by omega]
    simp only [List.set_cons_succ]
    rw [ih]
    rfl
theorem pcrowsV_at : ∀ (l : List PcV) (i : Nat) (p : PcV), l[i]? = some p → (pcrowsV l)[i * 2]? = some (.string p.tx) ∧ (pcrowsV l)[i * 2 + 1]? = some (.pointer p.adr)
  | [], i, p, h => by simp at h
  | x :: r, 0, p, h => by simp at h; subst h; simp [pcrowsV, PcV.cells]
  | x :: r, i + 1, p, h => by
    have ih := pcrowsV_at r i p (by simpa using h)
    have e : pcrowsV (x :: r) = .string x.tx :: .pointer x.adr :: pcrowsV r := rfl
    rw [e, show (i + 1) * 2 = i * 2 + 1 + 1 from by omega]
    simpa using ih

/-- The first k and the last k have changed their places. -/
def HalfRevV (l : List PcV) (k : Nat) (c : List PcV) : Prop := c.length = l.length ∧ ∀ j, j < l.length → c[j]? = if j < k ∨ l.length ≤ j + k then l[l.length - 1 - j]? else l[j]?
theorem HalfRevV.start (l : List PcV) : HalfRevV l 0 l := ⟨rfl, fun j hj => by rw [if_neg (by omega)]⟩
theorem HalfRevV.full {l c : List PcV} {k : Nat} (h : HalfRevV l k c) (hk : l.length ≤ 2 * k + 1) : c = l.reverse := by
  apply List.ext_getElem?
  intro j
  by_cases hj : j < l.length
  · rw [h.2 j hj, List.getElem?_reverse hj]
    by_cases hc : j < k ∨ l.length ≤ j + k
    · rw [if_pos hc]
    · rw [if_neg hc]; congr 1; omega
  · rw [List.getElem?_eq_none (by rw [h.1]; omega), List.getElem?_eq_none (by simp; omega)]
theorem HalfRevV.step {l c : List PcV} {k : Nat} (h : HalfRevV l k c) (hk : 2 * k + 1 < l.length) {p q : PcV} (hp : c[k]? = some p) (hq : c[l.length - 1 - k]? = some q) : HalfRevV l (k + 1) ((c.set k q).set (l.length - 1 - k) p) := by
  refine ⟨by simp [h.1], fun j hj => ?_⟩
  have hp' := h.2 k (by omega)
  have hq' := h.2 (l.length - 1 - k) (by omega)
  rw [if_neg (by omega)] at hp' hq'
  by_cases e1 : j = l.length - 1 - k
  · subst e1
    rw [List.getElem?_set_self (by simp [h.1]; omega), if_pos (by omega), ← hp, hp']
    congr 1; omega
  · rw [List.getElem?_set_ne (by omega)]
    by_cases e2 : j = k
    · subst e2
      rw [List.getElem?_set_self (by rw [h.1]; omega), if_pos (by omega), ← hq, hq']
    · rw [List.getElem?_set_ne (by omega), h.2 j hj]
      by_cases hc : j < k ∨ l.length ≤ j + k
      · rw [if_pos hc, if_pos (by omega)]
      · rw [if_neg hc, if_neg (by omega)]

set_option maxRecDepth 100000 in
set_option maxHeartbeats 4000000 in
theorem rev_pcsV (ps : List PcV) (w : World) (base g cap : Nat) (hown : w.ownsRow base 51 2 (.slice (some ⟨g, 0, none⟩) ps.length cap) ps.length (pcrowsV ps)) :
    Calls Tryd.prog 25 #[.slice (some ⟨g, 0, none⟩) ps.length cap] w fun e w' => e = .returned (.tuple #[]) ∧ w'.ownsRow base 51 2 (.slice (some ⟨g, 0, none⟩) ps.length cap) ps.length (pcrowsV ps.reverse) ∧ w.grownBy w' (some g) := by
  obtain ⟨hr1, hr2, hr3, hr4⟩ := own_room hown
  have HOW : Hid (w.ownsRow base 51 2 (.slice (some ⟨g, 0, none⟩) ps.length cap) ps.length (pcrowsV ps)) := hown
  unfold maxLen at hr2
  clear hown
  obtain ⟨n, hn⟩ : ∃ n, n = ps.length := ⟨_, rfl⟩
  have HN : Hid (n = ps.length) := hn
  rw [← hn] at hr1 ⊢
  rw [← hn] at HOW
  clear hn
  go_enter Tryd.func25, Tryd.ntmps25
  go_wp2_with fail
  go_loopg [2, 3] n (fun kk i j wr => ∃ (k : Nat) (c : List PcV), i = .int .i64 k ∧ j = .int .i64 ((n : Int) - 1 - k) ∧ kk = n - k ∧ k ≤ n ∧ HalfRevV ps k c ∧ wr.ownsRow base 51 2 (.slice (some ⟨g, 0, none⟩) n cap) n (pcrowsV c) ∧ w.grownBy wr (some g))
  case atStart => exact ⟨0, ps, rfl, by simp, by omega, by omega, HalfRevV.start ps, HOW.out, World.grownBy.refl _ _⟩
  case round =>
    obtain ⟨k, c, rfl, rfl, rfl, hk, hh, ho, hgr⟩ := hrel
    have HH : Hid (HalfRevV ps k c) := hh
    have HO : Hid (wr.ownsRow base 51 2 (.slice (some ⟨g, 0, none⟩) n cap) n (pcrowsV c)) := ho
    have HG : Hid (w.grownBy wr (some g)) := hgr
    clear hh ho hgr HOW
    by_cases hlt : (k : Int) < (n : Int) - 1 - k
    · obtain ⟨jn, hjn⟩ : ∃ jn : Nat, jn = n - 1 - k := ⟨_, rfl⟩
      have hj : (n : Int) - 1 - k = jn := by omega
      have hcl : c.length = n := HH.out.1.trans HN.out.symm
      have hp : c[k]? = some c[k] := List.getElem?_eq_getElem (by omega)
      have hq : c[jn]? = some c[jn] := List.getElem?_eq_getElem (by omega)
      obtain ⟨p, hp0⟩ : ∃ p, p = c[k] := ⟨_, rfl⟩
      obtain ⟨q, hq0⟩ : ∃ q, q = c[jn] := ⟨_, rfl⟩
      rw [← hp0] at hp
      rw [← hq0] at hq
      have a1 := pcrowsV_at c k p hp
      have a2 := pcrowsV_at c jn q hq
      have m0 : wr.cell? ⟨g, k * 2, none⟩ = some (.string p.tx) := (HO.out.cellAt _ (by omega)).trans a1.1
      have m1 : wr.cell? ⟨g, k * 2 + 1, none⟩ = some (.pointer p.adr) := (HO.out.cellAt _ (by omega)).trans a1.2
      have m2 : wr.cell? ⟨g, jn * 2, none⟩ = some (.string q.tx) := (HO.out.cellAt _ (by omega)).trans a2.1
      have m3 : wr.cell? ⟨g, jn * 2 + 1, none⟩ = some (.pointer q.adr) := (HO.out.cellAt _ (by omega)).trans a2.2
      have fz : ∀ j, wr.frozen? ⟨g, j, none⟩ = false := fun j => HO.out.frozenAt j
      obtain ⟨q1, g1⟩ := HO.out.drew.stored (k * 2) (.string q.tx)
      obtain ⟨q2, g2⟩ := q1.stored (k * 2 + 1) (.pointer q.adr)
      obtain ⟨q3, g3⟩ := q2.stored (jn * 2) (.string p.tx)
      obtain ⟨q4, g4⟩ := q3.stored (jn * 2 + 1) (.pointer p.adr)
      rw [pcrowsV_set, pcrowsV_set] at q4
      have HST : Hid (HalfRevV ps (k + 1) ((c.set k q).set jn p)) := by
        have := HH.out.step (by have := HN.out; omega) hp (q := q) (by rw [← HN.out, ← hjn]; exact hq)
        rw [← HN.out, ← hjn] at this
        exact this
      have HQ : Hid (_ ∧ _) := ⟨q4, grownb (grownb (grownb g1 g2) g3) g4⟩
      have hkj : k * 2 + 1 < jn * 2 := by omega
      have hj2 : jn < n := by omega
      clear a1 a2 q1 q2 q3 q4 g1 g2 g3 g4 hp hq hp0 hq0 hcl
      rw [hj]
      have HJ : Hid ((n : Int) - 1 - k = jn) := hj
      clear hj hjn
      go_wp2_with fail
      go_region
      all_goals
        go_wp2_with fail
        go_roundg (n - (k + 1))
        case measure => omega
        case rel => exact ⟨k + 1, (c.set k q).set jn p, by go_num, by have := HJ.out; go_num, rfl, by omega, HST.out, HQ.out.1, grownb HG.out ⟨HQ.out.2.os, HQ.out.2.tape, HQ.out.2.output, HQ.out.2.size, HQ.out.2.block⟩⟩
    · have HE : Hid (c = ps.reverse) := HH.out.full (by have := HN.out; omega)
      go_wp2_with fail
      go_end0
      refine ⟨rfl, ?_, HG.out⟩
      rw [← HE.out]; exact HO.out
end Go.Proofs.YtbofjjjjjcolgaaDoor
