/- Plain facts: what the end of a word does to the rest of the scan. No conditions. -/
import Derived.Test.YtafpbcdgcgffeabGreatDoorZImplTake
namespace Go.Proofs.YtafpbcdgcgffeabGreatDoor

/-- Where the word begins, as the cut tells it. -/
def begI (b p : Nat) : Int := if b = p then -1 else b
theorem begI_out (p : Nat) : begI p p = -1 := by simp [begI]
theorem begI_in {b p : Nat} (h : b < p) : begI b p = b := by unfold begI; rw [if_neg (by omega)]
theorem begI_or {b p : Nat} (h : b ≤ p) : begI b p = -1 ∨ (0 ≤ begI b p ∧ begI b p < p) := by
  rcases Nat.lt_or_ge b p with h1 | h1
  · right; rw [begI_in h1]; omega
  · left; have : b = p := by omega
    subst this; exact begI_out b
theorem begI_next {b p q : Nat} (h : b ≤ p) (hq : p < q) : (if begI b p = -1 then (p : Int) else begI b p) = begI b q := by
  rw [begI_in (by omega : b < q)]
  rcases Nat.lt_or_ge b p with h1 | h1
  · rw [begI_in h1, if_neg (by omega)]
  · have : b = p := by omega
    subst this; rw [begI_out, if_pos rfl]

theorem endTok_no {s : ByteArray} {acc : List Tok} {b p : Nat} (hb : b ≤ p) (hp : ∀ h : p < s.size, partB (s[p]'h) = true) (h : endTok s (begI b p) p acc = none) : rest s acc b p = ([], begI b p) := by
  rcases Nat.lt_or_ge b p with h1 | h1
  · rw [begI_in h1] at h ⊢
    unfold endTok at h
    rw [if_neg (by omega), Int.toNat_natCast] at h
    rw [rest_end s acc b p h1 hp]
    cases e : tokOf (s.extract b p) b with
    | none => rfl
    | some t => rw [e] at h; cases h
  · have : b = p := by omega
    subst this
    rw [begI_out] at h
    unfold endTok at h
    simp at h

theorem endTok_yes {s : ByteArray} {acc acc' : List Tok} {b p : Nat} (hb : b ≤ p) (hl : acc.length ≤ b) (hp : ∀ h : p < s.size, partB (s[p]'h) = true) (h : endTok s (begI b p) p acc = some acc') : rest s acc b p = rest s acc' p p ∧ acc'.length ≤ p := by
  rcases Nat.lt_or_ge b p with h1 | h1
  · rw [begI_in h1] at h
    unfold endTok at h
    rw [if_neg (by omega), Int.toNat_natCast] at h
    rw [rest_end s acc b p h1 hp]
    cases e : tokOf (s.extract b p) b with
    | none => rw [e] at h; cases h
    | some t =>
      rw [e] at h
      simp only [Option.map_some, Option.some.injEq] at h
      subst h
      exact ⟨rfl, by simp; omega⟩
  · have : b = p := by omega
    subst this
    rw [begI_out] at h
    unfold endTok at h
    simp only [if_true, Option.some.injEq] at h
    subst h
    exact ⟨rfl, hl⟩

theorem cut_iterAt {w : World} {C : Nat} {s : ByteArray} {bI : Int} {acc : List Tok} {lv : Value} (h : CutAt w C s bI acc lv) (t : ByteArray) (pos : Nat) : CutAt (w.iterAt (C + 1) t pos) C s bI acc lv := by
  refine ⟨(Lib.iterAt_other w (C + 1) C t pos (by omega)).trans h.blk, h.own.1, ?_⟩
  rcases h.own.2 with hn | ⟨g, cap, cur, rfl, hbg, hgg, rest⟩
  · exact .inl hn
  · exact .inr ⟨g, cap, cur, rfl, hbg, (Lib.iterAt_other w (C + 1) g t pos (by omega)).trans hgg, rest⟩

end Go.Proofs.YtafpbcdgcgffeabGreatDoor
