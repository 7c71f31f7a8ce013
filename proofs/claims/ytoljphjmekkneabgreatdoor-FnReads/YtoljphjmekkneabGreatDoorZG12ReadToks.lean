/- Plain facts on what is read: how much it is. No conditions. -/
import Derived.Test.YtoljphjmekkneabGreatDoorZG4TokGood
import Derived.Test.YtoljphjmekkneabGreatDoorZG11DatOkP
import Derived.Test.YtoljphjmekkneabGreatDoorZG5ReadAcc
namespace Go.Proofs.YtoljphjmekkneabGreatDoor
open Go.ChangeShapes Go.WideShapes Go.ChangeAt Go.RowKit

def TokW (l : List Tok) : Prop := ∀ t ∈ l, t.kind = 4 → t.text.size ≤ 12
def wsum (ds : List D) : Nat := (ds.map fun d => d.weight + 1).sum
theorem wsum_snoc (ds : List D) (d : D) : wsum (ds ++ [d]) = wsum ds + (d.weight + 1) := by simp [wsum]
def Wt (o : List Tok → Rdr D) : Prop := ∀ l d r, TokW l → o l = .ok d r → d.weight + 1 + 13 * r.length ≤ 13 * l.length

theorem TokW.suffix {a r : List Tok} (h : TokW (a ++ r)) : TokW r := fun t ht => h t (List.mem_append_right _ ht)

theorem kidsL_w {E : Int} {o : List Tok → Rdr D} (ho : Wt o) (hl : Less o) : ∀ (m : Nat) (acc : List D) (l : List Tok) (ds : List D) (r : List Tok), TokW l → kidsL E o m acc l = .ok ds r → wsum ds + 13 * r.length + 13 ≤ wsum acc + 13 * l.length := by
  intro m
  induction m with
  | zero => intro acc l ds r _ h; simp [kidsL] at h
  | succ m ih =>
    intro acc l ds r hw h
    cases l with
    | nil => simp [kidsL] at h
    | cons t l =>
      unfold kidsL at h
      split at h
      · injection h with h1 h2
        subst h1 h2
        simp; omega
      · cases e : o (t :: l) with
        | bad p => rw [e] at h; simp at h
        | ok d r1 =>
          rw [e] at h
          have h1 := ho _ _ _ hw e
          obtain ⟨_, a, ha⟩ := hl _ _ _ e
          have h2 := ih _ _ _ _ (by rw [ha] at hw; exact hw.suffix) h
          rw [wsum_snoc] at h2
          omega

theorem wsum_eq (ds : List D) : ds.length + (ds.map D.weight).sum = wsum ds := by
  unfold wsum
  induction ds with
  | nil => rfl
  | cons d ds ih => simp only [List.map_cons, List.sum_cons, List.length_cons] at ih ⊢; omega

theorem dlist_weight (t : Tok) (ds : List D) : (dList t ds).weight = wsum ds := by
  have e : (dList t ds).weight = 0 + (ds.length + sumTo (fun i => (kidsOf ds i).weight) ds.length) := rfl
  rw [e, sumTo_all ds D.weight, Nat.zero_add, wsum_eq]

theorem one_w (E : Int) : ∀ f, Wt (one E f) := by
  intro f
  induction f with
  | zero => intro l d r _ h; simp [one] at h
  | succ f ih =>
    intro l d r hw h
    cases l with
    | nil => simp [one] at h
    | cons t l =>
      have ht := hw t (by simp)
      unfold one at h
      split at h
      · injection h with h1 h2; subst h1 h2
        have : (dNum t).weight = 0 := rfl
        simp; omega
      · split at h
        · rename_i hk
          injection h with h1 h2; subst h1 h2
          have e : (dSym t).weight = t.text.size + 0 := rfl
          have := ht hk
          simp; omega
        · split at h
          · simp at h
          · cases e : kidsL E (one E f) (l.length + 1) [] l with
            | bad p => rw [e] at h; simp at h
            | ok ds r1 =>
              rw [e] at h
              simp only at h
              injection h with h1 h2
              subst h1 h2
              have h3 := kidsL_w ih (one_less E f) _ _ _ _ _ (fun t' ht' => hw t' (by simp [ht'])) e
              rw [dlist_weight]
              simp [wsum] at h3 ⊢
              omega

theorem restL_w {o : List Tok → Rdr D} (ho : Wt o) (hl : Less o) : ∀ (m : Nat) (acc : List D) (l : List Tok) (ds : List D) (r : List Tok), TokW l → restL o m acc l = .ok ds r → wsum ds ≤ wsum acc + 13 * l.length := by
  intro m
  induction m with
  | zero => intro acc l ds r _ h; simp [restL] at h; rw [h.1]; omega
  | succ m ih =>
    intro acc l ds r hw h
    cases l with
    | nil => simp [restL] at h; rw [h.1]; omega
    | cons t l =>
      unfold restL at h
      cases e : o (t :: l) with
      | bad p => rw [e] at h; simp at h
      | ok d r1 =>
        rw [e] at h
        have h1 := ho _ _ _ hw e
        obtain ⟨_, a, ha⟩ := hl _ _ _ e
        have h2 := ih _ _ _ _ (by rw [ha] at hw; exact hw.suffix) h
        rw [wsum_snoc] at h2
        omega

theorem kids_weight (ds : List D) : kidsWeight ds.length (kidsOf ds) = wsum ds := by
  unfold kidsWeight
  rw [sumTo_all ds D.weight, wsum_eq]

theorem readL_w (E : Int) (ts : List Tok) (ds : List D) (r : List Tok) (hw : TokW ts) (hl : ts.length ≤ 4000) (h : readL E ts = .ok ds r) : kidsWeight ds.length (kidsOf ds) ≤ 52000 := by
  rw [kids_weight]
  have := restL_w (one_w E (ts.length + 1)) (one_less E (ts.length + 1)) _ _ _ _ _ hw h
  simp [wsum] at this ⊢
  omega

theorem toks_w (s : ByteArray) : TokW (toks s).1 := by
  intro t ht hk
  obtain ⟨i, hi, rfl⟩ := List.mem_iff_getElem.1 ht
  have := ((toks_good s).1 i _ (List.getElem?_eq_getElem hi)).2.sym hk
  unfold symB at this
  simp only [Bool.and_eq_true, decide_eq_true_eq] at this
  have h2 := this.1.1.2
  simpa using h2

/-- What ReadAll answers. -/
def readP (s : ByteArray) : Rdr (List D) :=
  if (toks s).2 = -1 then match readL s.size (toks s).1 with
    | .bad p => .bad p
    | .ok ds _ => if datsB ds.length (kidsOf ds) = true then .ok ds [] else .bad 0
  else .bad (toks s).2
end Go.Proofs.YtoljphjmekkneabGreatDoor

/- The tokens of a text that is not too long are good to be read. No conditions. -/
namespace Go.Proofs.YtoljphjmekkneabGreatDoor
open Go.ChangeShapes Go.WideShapes Go.ChangeAt Go.RowKit

theorem toks_ok (s : ByteArray) (hs : s.size ≤ 4000) : TokOk (toks s).1 := by
  intro t ht
  obtain ⟨i, hi, rfl⟩ := List.mem_iff_getElem.1 ht
  have := ((toks_good s).1 i _ (List.getElem?_eq_getElem hi)).2
  exact ⟨this.kind, this.n, by have := this.fit; omega⟩
theorem toks_long (s : ByteArray) (hs : ¬ s.size ≤ 4000) : toks s = ([], 0) := by unfold toks; rw [if_neg hs]
end Go.Proofs.YtoljphjmekkneabGreatDoor
