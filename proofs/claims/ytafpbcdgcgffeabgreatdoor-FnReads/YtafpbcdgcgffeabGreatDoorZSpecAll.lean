/- spec.ReadAll. Conditions: the text is no longer than a text may be. -/
import Derived.Test.YtafpbcdgcgffeabGreatDoorZSpecList
import Derived.Test.YtafpbcdgcgffeabGreatDoorZReadDats
import Derived.Test.YtafpbcdgcgffeabGreatDoorZSpecTokens
import Derived.Test.YtafpbcdgcgffeabGreatDoorZSpecDats
namespace Go.Proofs.YtafpbcdgcgffeabGreatDoor
open Go.ChangeShapes Go.WideShapes Go.ChangeAt Go.RowKit

theorem sone_all (w0 : World) (C : Nat) (hC0 : w0.heap.size ≤ C) (tv : Value) (ts : List Tok) (E : Nat) (htv : TokCells w0 tv ts) (hts : ts.length ≤ 4000) (hok : TokOk ts) (f : Nat) : SOneAt w0 C tv ts E f := by
  have hend : ∀ (f : Nat) (w : World), CuAt w C tv ts.length E (-1) → Calls Tryz.prog 23 #[.pointer (some ⟨C, 0, none⟩)] w (SOneSay w C tv ts E (one E (f + 1) (ts.drop ts.length))) := by
    intro f w hcu
    have hsh : ∃ p cap, tv = .slice p ts.length cap := by
      rcases htv with ⟨h, rfl⟩ | ⟨g, cap, h, _⟩
      · exact ⟨_, _, h⟩
      · exact ⟨_, _, h⟩
    obtain ⟨pt, ct, rfl⟩ := hsh
    refine (sone_end w C pt ts.length ct E hcu).mono ?_
    rintro e w' ⟨h1, h2, h3⟩
    have he : one E (f + 1) (ts.drop ts.length) = .bad E := by simp [one]
    rw [he]
    exact ⟨h2, h1, by omega, _, h3⟩
  induction f with
  | zero =>
    intro w i _ hcu hi hf
    obtain rfl : i = ts.length := by omega
    exact hend 0 w hcu
  | succ f ih =>
    intro w i hbel hcu hi hf
    by_cases hie : i = ts.length
    · subst hie
      exact hend (f + 1) w hcu
    · have hil : i < ts.length := by omega
      obtain ⟨g, cap, rfl, t0, t1, t2, t3⟩ := tok_at (htv.below hbel) i hil
      have hdrop : ts.drop i = ts[i] :: ts.drop (i + 1) := List.drop_eq_getElem_cons hil
      have htk := hok ts[i] (List.getElem_mem hil)
      have hone : one E (f + 1 + 1) (ts.drop i) = if ts[i].kind = 3 then .ok (dNum ts[i]) (ts.drop (i + 1)) else if ts[i].kind = 4 then .ok (dSym ts[i]) (ts.drop (i + 1)) else if ts[i].kind = 2 then .bad ts[i].at_
        else match kidsL E (one E (f + 1)) ((ts.drop (i + 1)).length + 1) [] (ts.drop (i + 1)) with
          | .bad p => .bad p
          | .ok ds r1 => .ok (dList ts[i] ds) r1 := by rw [hdrop]; rfl
      by_cases h1 : ts[i].kind = 1
      · refine sone_list w0 C hC0 ts g cap E f htv hts ih w i hbel hcu hil hf ts[i] h1 t0 t1 t2 t3 _ ?_
        rw [hone, if_neg (by omega), if_neg (by omega), if_neg (by omega)]
        rfl
      · refine sone_flat w C ts g cap E i ts[i] hcu hts hil htk.2 t0 t1 t2 t3 (by have := htk.1; omega) _ ?_
        rw [hone]
        by_cases h3 : ts[i].kind = 3
        · rw [if_pos h3, if_pos h3]
        · rw [if_neg h3, if_neg h3]
          by_cases h4 : ts[i].kind = 4
          · rw [if_pos h4, if_pos h4]
          · rw [if_neg h4, if_neg h4, if_pos (by have := htk.1; omega)]

def SAllSay (w : World) (res : Rdr (List D)) (e : Ending) (w' : World) : Prop :=
  Below w.heap.size w w' ∧ match res with
    | .bad p => ∃ q c, e = .returned (.tuple #[.slice q 0 c, .int .i64 p])
    | .ok ds _ => ∃ v, e = .returned (.tuple #[v, .int .i64 (-1)]) ∧ Sl w' ds.length (kidsOf ds) v ∧ (ds ≠ [] → ∃ S, SOwn w' ds.length (kidsOf ds) v S ∧ S.Nodup ∧ ∀ x ∈ S, w.heap.size ≤ x)

theorem Acc.empty (w : World) (B : Nat) (hB : B ≤ w.heap.size) : Acc B (w.alloc (.cells #[] 30)) [] (.slice (some ⟨w.heap.size, 0, none⟩) 0 0) [] [] := by
  refine ⟨?_, rfl, rfl, fun i hi => by simp at hi, by simp, fun g h => ?_, fun x hx => by simp at hx⟩
  · have hq := World.ownsRow_lit (base := 0) (e := 30) (size := 5) w #[] 0 (by simp) (by unfold maxLen; omega) (by simp)
    exact hq
  · simp [Value.ownBlock] at h
    subst h
    exact ⟨by simp, hB⟩

theorem Acc.shape {B : Nat} {w : World} {acc : List D} {lv : Value} {la : List (D × Value)} {SS : List (List Nat)} (h : Acc B w acc lv la SS) : ∃ p c, lv = .slice p acc.length c := by
  rcases h.own.2 with ⟨h1, h2⟩ | ⟨g, cap, cur, h1, _⟩
  · exact ⟨_, _, by rw [h1, h2]⟩
  · exact ⟨_, _, h1⟩

theorem Acc.sl' {B : Nat} {w : World} {acc : List D} {lv : Value} {la : List (D × Value)} {SS : List (List Nat)} (h : Acc B w acc lv la SS) : Sl w acc.length (kidsOf acc) lv := by
  by_cases ha : acc = []
  · obtain ⟨p, c, e⟩ := h.shape
    subst ha
    exact .inl ⟨rfl, p, c, e⟩
  · obtain ⟨S, hS, _⟩ := h.sown (.inr ha)
    exact hS.sl

/-- What the loop keeps. -/
def SALoop (w1 wr : World) (C : Nat) (tv : Value) (ts : List Tok) (E k : Nat) (lv : Value) (res : Rdr (List D)) : Prop :=
  Below w1.heap.size w1 wr ∧ w1.heap.size + 1 ≤ wr.heap.size ∧ C = w1.heap.size ∧
    ((∃ acc j m, k = m + 1 ∧ CuAt wr C tv (j : Nat) E (-1) ∧ (∃ la SS, Acc (w1.heap.size + 1) wr acc lv la SS) ∧ j ≤ ts.length ∧ restL (one E (ts.length + 1)) (m + 1) acc (ts.drop j) = res ∧ ts.length - j ≤ m ∧ acc.length + (ts.length - j) ≤ ts.length)
     ∨ (k = 0 ∧ ∃ p z, res = .bad p ∧ 0 ≤ p ∧ CuAt wr C tv z E p))

theorem counts_le (len : Nat) (kid : Nat → D) : sumTo (fun i => (kid i).count) len ≤ kidsWeight len kid := by
  unfold kidsWeight
  induction len with
  | zero => simp [sumTo]
  | succ n ih =>
    have := (kid n).count_weight
    simp only [sumTo]
    omega
end Go.Proofs.YtafpbcdgcgffeabGreatDoor
