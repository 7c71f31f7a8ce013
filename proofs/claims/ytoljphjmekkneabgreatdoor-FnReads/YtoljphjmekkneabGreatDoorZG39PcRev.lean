/- Rows that are owned: the last elements left off; their room; a row that is new. No conditions. -/
import Derived.Test.YtoljphjmekkneabGreatDoorRows
import Derived.Test.YtoljphjmekkneabGreatDoorZG38DatPc
import Derived.WalkKit
import Derived.ProofKit
import Derived.OwnWalk
import Derived.Laws.OwnMore
import Derived.Laws.ResultCell
import Derived.Deep.LoopGhost
namespace Go.Proofs.YtoljphjmekkneabGreatDoor
open Go.ChangeShapes Go.WideShapes Go.ChangeAt Go.RowKit

/-- A row of which the last elements are left off. -/
theorem own_cut {w : World} {base e size g n m cap : Nat} {xs ys : List Value} (h : w.ownsRow base e size (.slice (some ⟨g, 0, none⟩) m cap) m (xs ++ ys)) (hx : xs.length = n * size) (hm : n ≤ m) :
    w.ownsRow base e size (.slice (some ⟨g, 0, none⟩) n cap) n xs := by
  refine ⟨hx, ?_⟩
  rcases h.2 with ⟨h0, _⟩ | ⟨g', cap', cur, he, hbg, hgg, hc, hmx, hs, ht⟩
  · cases h0
  · injection he with h1 h2 h3
    injection h1 with h1
    injection h1 with h1
    subst h1 h3
    refine .inr ⟨_, _, cur, rfl, hbg, hgg, by omega, hmx, hs, ?_⟩
    have h9 := congrArg (List.take (n * size)) ht
    rw [List.take_take, Nat.min_eq_left (Nat.mul_le_mul_right _ hm), List.take_append_of_le_length (by omega)] at h9
    rw [h9, List.take_of_length_le (by omega)]

theorem own_room {w : World} {base e size g n cap : Nat} {xs : List Value} (h : w.ownsRow base e size (.slice (some ⟨g, 0, none⟩) n cap) n xs) : n ≤ cap ∧ cap ≤ maxLen ∧ base ≤ g ∧ g < w.heap.size := by
  rcases h.2 with ⟨h0, _⟩ | ⟨g', cap', cur, he, hbg, hgg, hc, hmx, hs, ht⟩
  · cases h0
  · injection he with h1 h2 h3
    injection h1 with h1
    injection h1 with h1
    subst h1 h3
    exact ⟨hc, hmx, hbg, (Array.getElem?_eq_some_iff.1 hgg).1⟩

/-- A row that is one block. -/
theorem own_new {w : World} {base e size cap g n : Nat} {cs : Array Value} {xs : List Value} (hcs : cs.toList = xs) (hg : w.heap.size = g) (hb : base ≤ g) (hl : xs.length = n * size) (hc : n = cap) (hm : cap ≤ maxLen) :
    (w.alloc (.cells cs e)).ownsRow base e size (.slice (some ⟨g, 0, none⟩) n cap) n xs := by
  subst hc hg hcs
  exact ⟨hl, .inr ⟨w.heap.size, n, cs, rfl, hb, heap_alloc_new w _, Nat.le_refl _, hm, by simpa using hl, by rw [← hl]; exact List.take_length⟩⟩
end Go.Proofs.YtoljphjmekkneabGreatDoor

/- slices.Reverse of a row of pieces. No conditions. -/
namespace Go.Proofs.YtoljphjmekkneabGreatDoor
open Go.ChangeShapes Go.WideShapes Go.ChangeAt Go.RowKit

theorem pcrows_set (p : Pc) : ∀ (l : List Pc) (i : Nat), ((pcrows l).set (i * 2) (.string p.tx)).set (i * 2 + 1) (.pointer p.adr) = pcrows (l.set i p)
  | [], i => by simp [pcrows]
  | x :: r, 0 => by simp [pcrows, Pc.cells]
  | x :: r, i + 1 => by
    have ih := pcrows_set p r i
    have e : pcrows (x :: r) = .string x.tx :: .pointer x.adr :: pcrows r := rfl
    rw [e, show (i + 1) * 2 = i * 2 + 1 + 1 from by omega]
    simp only [List.set_cons_succ]
    rw [ih]
    rfl
theorem pcrows_at : ∀ (l : List Pc) (i : Nat) (p : Pc), l[i]? = some p → (pcrows l)[i * 2]? = some (.string p.tx) ∧ (pcrows l)[i * 2 + 1]? = some (.pointer p.adr)
  | [], i, p, h => by simp at h
  | x :: r, 0, p, h => by simp at h; subst h; simp [pcrows, Pc.cells]
  | x :: r, i + 1, p, h => by
    have ih := pcrows_at r i p (by simpa using h)
    have e : pcrows (x :: r) = .string x.tx :: .pointer x.adr :: pcrows r := rfl
    rw [e, show (i + 1) * 2 = i * 2 + 1 + 1 from by omega]
    simpa using ih

/-- The first k and the last k have changed their places. -/
def HalfRev (l : List Pc) (k : Nat) (c : List Pc) : Prop := c.length = l.length ∧ ∀ j, j < l.length → c[j]? = if j < k ∨ l.length ≤ j + k then l[l.length - 1 - j]? else l[j]?
theorem HalfRev.start (l : List Pc) : HalfRev l 0 l := ⟨rfl, fun j hj => by rw [if_neg (by omega)]⟩
theorem HalfRev.full {l c : List Pc} {k : Nat} (h : HalfRev l k c) (hk : l.length ≤ 2 * k + 1) : c = l.reverse := by
  apply List.ext_getElem?
  intro j
  by_cases hj : j < l.length
  · rw [h.2 j hj, List.getElem?_reverse hj]
    by_cases hc : j < k ∨ l.length ≤ j + k
    · rw [if_pos hc]
    · rw [if_neg hc]; congr 1; omega
  · rw [List.getElem?_eq_none (by rw [h.1]; omega), List.getElem?_eq_none (by simp; omega)]
theorem HalfRev.step {l c : List Pc} {k : Nat} (h : HalfRev l k c) (hk : 2 * k + 1 < l.length) {p q : Pc} (hp : c[k]? = some p) (hq : c[l.length - 1 - k]? = some q) : HalfRev l (k + 1) ((c.set k q).set (l.length - 1 - k) p) := by
  refine ⟨by simp [h.1], fun j hj => ?_⟩
  have hp' := h.2 k (by omega)
  have hq' := h.2 (l.length - 1 - k) (by omega)
  rw [if_neg (by omega)] at hp' hq'
  by_cases e1 : j = l.length - 1 - k
  · subst e1
    rw [List.getElem?_set_self (by simp [h.1]; omega), if_pos (by omega), ← hp, hp']
    congr 1; omega
  · rw [List.getElem?_set_ne (by omega)]
    by_cases e2 : j = k
    · subst e2
      rw [List.getElem?_set_self (by rw [h.1]; omega), if_pos (by omega), ← hq, hq']
    · rw [List.getElem?_set_ne (by omega), h.2 j hj]
      by_cases hc : j < k ∨ l.length ≤ j + k
      · rw [if_pos hc, if_pos (by omega)]
      · rw [if_neg hc, if_neg (by omega)]

set_option maxRecDepth 100000 in
set_option maxHeartbeats 4000000 in
theorem rev_pcs (ps : List Pc) (w : World) (base g cap : Nat) (hown : w.ownsRow base 93 2 (.slice (some ⟨g, 0, none⟩) ps.length cap) ps.length (pcrows ps)) :
    Calls Tryz.prog 52 #[.slice (some ⟨g, 0, none⟩) ps.length cap] w fun e w' => e = .returned (.tuple #[]) ∧ w'.ownsRow base 93 2 (.slice (some ⟨g, 0, none⟩) ps.length cap) ps.length (pcrows ps.reverse) ∧ w.grownBy w' (some g) := by
  obtain ⟨hr1, hr2, hr3, hr4⟩ := own_room hown
  have HOW : Hid (w.ownsRow base 93 2 (.slice (some ⟨g, 0, none⟩) ps.length cap) ps.length (pcrows ps)) := hown
  unfold maxLen at hr2
  clear hown
  obtain ⟨n, hn⟩ : ∃ n, n = ps.length := ⟨_, rfl⟩
  have HN : Hid (n = ps.length) := hn
  rw [← hn] at hr1 ⊢
  rw [← hn] at HOW
  clear hn
  go_enter Tryz.func52, Tryz.ntmps52
  go_wp2_with fail
  go_loopg [2, 3] n (fun kk i j wr => ∃ (k : Nat) (c : List Pc), i = .int .i64 k ∧ j = .int .i64 ((n : Int) - 1 - k) ∧ kk = n - k ∧ k ≤ n ∧ HalfRev ps k c ∧ wr.ownsRow base 93 2 (.slice (some ⟨g, 0, none⟩) n cap) n (pcrows c) ∧ w.grownBy wr (some g))
  case atStart => exact ⟨0, ps, rfl, by simp, by omega, by omega, HalfRev.start ps, HOW.out, World.grownBy.refl _ _⟩
  case round =>
    obtain ⟨k, c, rfl, rfl, rfl, hk, hh, ho, hgr⟩ := hrel
    have HH : Hid (HalfRev ps k c) := hh
    have HO : Hid (wr.ownsRow base 93 2 (.slice (some ⟨g, 0, none⟩) n cap) n (pcrows c)) := ho
    have HG : Hid (w.grownBy wr (some g)) := hgr
    clear hh ho hgr HOW
    by_cases hlt : (k : Int) < (n : Int) - 1 - k
    · obtain ⟨jn, hjn⟩ : ∃ jn : Nat, jn = n - 1 - k := ⟨_, rfl⟩
      have hj : (n : Int) - 1 - k = jn := by omega
      have hcl : c.length = n := HH.out.1.trans HN.out.symm
      have hp : c[k]? = some c[k] := List.getElem?_eq_getElem (by omega)
      have hq : c[jn]? = some c[jn] := List.getElem?_eq_getElem (by omega)
      obtain ⟨p, hp0⟩ : ∃ p, p = c[k] := ⟨_, rfl⟩
      obtain ⟨q, hq0⟩ : ∃ q, q = c[jn] := ⟨_, rfl⟩
      rw [← hp0] at hp
      rw [← hq0] at hq
      have a1 := pcrows_at c k p hp
      have a2 := pcrows_at c jn q hq
      have m0 : wr.cell? ⟨g, k * 2, none⟩ = some (.string p.tx) := (HO.out.cellAt _ (by omega)).trans a1.1
      have m1 : wr.cell? ⟨g, k * 2 + 1, none⟩ = some (.pointer p.adr) := (HO.out.cellAt _ (by omega)).trans a1.2
      have m2 : wr.cell? ⟨g, jn * 2, none⟩ = some (.string q.tx) := (HO.out.cellAt _ (by omega)).trans a2.1
      have m3 : wr.cell? ⟨g, jn * 2 + 1, none⟩ = some (.pointer q.adr) := (HO.out.cellAt _ (by omega)).trans a2.2
      have fz : ∀ j, wr.frozen? ⟨g, j, none⟩ = false := fun j => HO.out.frozenAt j
      obtain ⟨q1, g1⟩ := HO.out.drew.stored (k * 2) (.string q.tx)
      obtain ⟨q2, g2⟩ := q1.stored (k * 2 + 1) (.pointer q.adr)
      obtain ⟨q3, g3⟩ := q2.stored (jn * 2) (.string p.tx)
      obtain ⟨q4, g4⟩ := q3.stored (jn * 2 + 1) (.pointer p.adr)
      rw [pcrows_set, pcrows_set] at q4
      have HST : Hid (HalfRev ps (k + 1) ((c.set k q).set jn p)) := by
        have := HH.out.step (by have := HN.out; omega) hp (q := q) (by rw [← HN.out, ← hjn]; exact hq)
        rw [← HN.out, ← hjn] at this
        exact this
      have HQ : Hid (_ ∧ _) := ⟨q4, grownb (grownb (grownb g1 g2) g3) g4⟩
      have hkj : k * 2 + 1 < jn * 2 := by omega
      have hj2 : jn < n := by omega
      clear a1 a2 q1 q2 q3 q4 g1 g2 g3 g4 hp hq hp0 hq0 hcl
      rw [hj]
      have HJ : Hid ((n : Int) - 1 - k = jn) := hj
      clear hj hjn
      go_wp2_with fail
      go_region
      all_goals
        go_wp2_with fail
        go_roundg (n - (k + 1))
        case measure => omega
        case rel => exact ⟨k + 1, (c.set k q).set jn p, by go_num, by have := HJ.out; go_num, rfl, by omega, HST.out, HQ.out.1, grownb HG.out ⟨HQ.out.2.os, HQ.out.2.tape, HQ.out.2.output, HQ.out.2.size, HQ.out.2.block⟩⟩
    · have HE : Hid (c = ps.reverse) := HH.out.full (by have := HN.out; omega)
      go_wp2_with fail
      go_end0
      refine ⟨rfl, ?_, HG.out⟩
      rw [← HE.out]; exact HO.out
end Go.Proofs.YtoljphjmekkneabGreatDoor
