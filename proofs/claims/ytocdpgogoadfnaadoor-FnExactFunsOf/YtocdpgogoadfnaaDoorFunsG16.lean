/- The functions that bytes are, plainly. No conditions. -/
import Derived.Test.YtocdpgogoadfnaaDoorFunsY16
import Derived.Test.YtocdpgogoadfnaaDoorMarkFun
namespace Go.Proofs.YtocdpgogoadfnaaDoor
open Go.ChangeShapes Go.WideShapes Go.ChangeAt Go.RowKit

theorem numB_bound : ∀ (f k n : Nat) (r : List Nat) (m j : Nat), numB f k n r = some (m, j) → m ≤ 2147483647 ∧ k + 1 ≤ j ∧ j ≤ k + r.length
  | 0, _, _, _, _, _, h => by simp [numB] at h
  | f + 1, k, n, [], m, j, h => by simp [numB] at h
  | f + 1, k, n, d :: r, m, j, h => by
    by_cases h1 : d < 128
    · by_cases h2 : (0 < k ∧ d = 0) ∨ 2147483647 < n + d % 128 * 128 ^ k
      · rw [numB_bad h1 h2] at h; cases h
      · rw [numB_yes h1 h2] at h
        injection h with h
        injection h with h3 h4
        subst h3 h4
        simp only [List.length_cons]
        omega
    · rw [numB_more (by omega)] at h
      have := numB_bound f (k + 1) _ r m j h
      simp only [List.length_cons]
      omega
theorem numAt_bound {xs : List Nat} {p n k : Nat} (h : numAt xs p = some (n, k)) : n ≤ 2147483647 ∧ 1 ≤ k ∧ p + k ≤ xs.length := by
  unfold numAt at h
  split at h
  · rename_i h1
    rw [Int.toNat_natCast] at h
    have := numB_bound _ _ _ _ _ _ h
    rw [List.length_drop] at this
    omega
  · cases h

/-- The number at a place, and the place behind it. -/
def getN (xs : List Nat) (p : Nat) : Option (Nat × Nat) := match numAt xs p with
  | none => none
  | some (n, k) => some (n, p + k)
theorem getN_bound {xs : List Nat} {p n q : Nat} (h : getN xs p = some (n, q)) : n ≤ 2147483647 ∧ p < q ∧ q ≤ xs.length := by
  unfold getN at h
  cases hn : numAt xs p with
  | none => rw [hn] at h; cases h
  | some r =>
    obtain ⟨a, b⟩ := r
    rw [hn] at h
    have := numAt_bound hn
    injection h with h
    injection h with h1 h2
    subst h1 h2
    omega
def opN (c n m : Nat) : O3 := ⟨c, (n : Int) - 1073741824, m⟩
/-- The op at a place. -/
def getO (xs : List Nat) (p : Nat) : Option (O3 × Nat) := match getN xs p with
  | none => none
  | some (c, p1) => match getN xs p1 with
    | none => none
    | some (n, p2) => match getN xs p2 with
      | none => none
      | some (m, p3) => some (opN c n m, p3)
theorem getO_none1 {xs : List Nat} {p : Nat} (h : getN xs p = none) : getO xs p = none := by unfold getO; rw [h]
theorem getO_none2 {xs : List Nat} {p c p1 : Nat} (h : getN xs p = some (c, p1)) (h2 : getN xs p1 = none) : getO xs p = none := by unfold getO; rw [h]; simp only; rw [h2]
theorem getO_none3 {xs : List Nat} {p c p1 n p2 : Nat} (h : getN xs p = some (c, p1)) (h2 : getN xs p1 = some (n, p2)) (h3 : getN xs p2 = none) : getO xs p = none := by unfold getO; rw [h]; simp only; rw [h2]; simp only; rw [h3]
theorem getO_some {xs : List Nat} {p c p1 n p2 m p3 : Nat} (h : getN xs p = some (c, p1)) (h2 : getN xs p1 = some (n, p2)) (h3 : getN xs p2 = some (m, p3)) : getO xs p = some (opN c n m, p3) := by unfold getO; rw [h]; simp only; rw [h2]; simp only; rw [h3]
/-- Ops from a place on. -/
def getOs (xs : List Nat) (p : Nat) : Nat → Option (List O3 × Nat)
  | 0 => some ([], p)
  | k + 1 => match getOs xs p k with
    | none => none
    | some (l, q) => match getO xs q with
      | none => none
      | some (o, r) => some (l ++ [o], r)
theorem getOs_none {xs : List Nat} {p k : Nat} (h : getOs xs p k = none) : ∀ m, k ≤ m → getOs xs p m = none := by
  intro m hm
  obtain ⟨d, rfl⟩ : ∃ d, m = k + d := ⟨m - k, by omega⟩
  clear hm
  induction d with
  | zero => exact h
  | succ d ih => rw [Nat.add_succ, getOs, ih]
theorem getOs_stop {xs : List Nat} {p k q : Nat} {l : List O3} (h : getOs xs p k = some (l, q)) (h2 : getO xs q = none) (m : Nat) (hm : k < m) : getOs xs p m = none :=
  getOs_none (k := k + 1) (by rw [getOs, h]; simp only; rw [h2]) m hm
theorem getOs_more {xs : List Nat} {p k q r : Nat} {l : List O3} {o : O3} (h : getOs xs p k = some (l, q)) (h2 : getO xs q = some (o, r)) : getOs xs p (k + 1) = some (l ++ [o], r) := by rw [getOs, h]; simp only; rw [h2]
theorem getOs_len {xs : List Nat} {p : Nat} : ∀ {k : Nat} {l : List O3} {q : Nat}, getOs xs p k = some (l, q) → l.length = k
  | 0, l, q, h => by injection h with h; injection h with h1 _; subst h1; rfl
  | k + 1, l, q, h => by
    rw [getOs] at h
    cases h1 : getOs xs p k with
    | none => rw [h1] at h; cases h
    | some r =>
      obtain ⟨l1, q1⟩ := r
      rw [h1] at h
      simp only at h
      cases h2 : getO xs q1 with
      | none => rw [h2] at h; cases h
      | some r2 =>
        obtain ⟨o, r⟩ := r2
        rw [h2] at h
        injection h with h
        injection h with h3 _
        subst h3
        rw [List.length_append, getOs_len h1]; rfl
theorem opN_ok {c n m : Nat} (hc : c ≤ 2147483647) (hn : n ≤ 2147483647) (hm : m ≤ 2147483647) : (opN c n m).Ok := by
  refine ⟨?_, ?_, ?_⟩ <;> · unfold I64 opN; constructor <;> simp only <;> omega
theorem getO_ok {xs : List Nat} {p q : Nat} {o : O3} (h : getO xs p = some (o, q)) : o.Ok := by
  unfold getO at h
  split at h
  · cases h
  · rename_i c p1 h1
    split at h
    · cases h
    · rename_i n p2 h2
      split at h
      · cases h
      · rename_i m p3 h3
        injection h with h
        injection h with h4 _
        subst h4
        exact opN_ok (getN_bound h1).1 (getN_bound h2).1 (getN_bound h3).1
theorem getOs_ok {xs : List Nat} {p : Nat} : ∀ {k : Nat} {l : List O3} {q : Nat}, getOs xs p k = some (l, q) → ∀ o ∈ l, o.Ok
  | 0, l, q, h => by injection h with h; injection h with h1 _; subst h1; intro o ho; cases ho
  | k + 1, l, q, h => by
    rw [getOs] at h
    cases h1 : getOs xs p k with
    | none => rw [h1] at h; cases h
    | some r =>
      obtain ⟨l1, q1⟩ := r
      rw [h1] at h
      simp only at h
      cases h2 : getO xs q1 with
      | none => rw [h2] at h; cases h
      | some r2 =>
        obtain ⟨o, r⟩ := r2
        rw [h2] at h
        injection h with h
        injection h with h3 _
        subst h3
        intro x hx
        rcases List.mem_append.1 hx with h4 | h4
        · exact getOs_ok h1 x h4
        · rw [List.mem_singleton] at h4; subst h4; exact getO_ok h2

/-- A function: its Free and its ops. -/
abbrev FO := Int × List O3
def fuL (e : FO) : Fu := ⟨e.1, e.2.length, fun k => e.2.getD k default⟩
def kidL (L : List FO) (i : Nat) : Fu := fuL (L.getD i (0, []))
/-- The function at a place, of no more than mo ops. -/
def getF (mo : Nat) (xs : List Nat) (p : Nat) : Option (FO × Nat) := match getN xs p with
  | none => none
  | some (fr, p1) => match getN xs p1 with
    | none => none
    | some (m, p2) => if mo < m then none else match getOs xs p2 m with
      | none => none
      | some (ol, q) => some (((fr : Int), ol), q)
theorem getF_none1 {mo : Nat} {xs : List Nat} {p : Nat} (h : getN xs p = none) : getF mo xs p = none := by unfold getF; rw [h]
theorem getF_none2 {mo : Nat} {xs : List Nat} {p c p1 : Nat} (h : getN xs p = some (c, p1)) (h2 : getN xs p1 = none) : getF mo xs p = none := by unfold getF; rw [h]; simp only; rw [h2]
theorem getF_none3 {mo : Nat} {xs : List Nat} {p c p1 m p2 : Nat} (h : getN xs p = some (c, p1)) (h2 : getN xs p1 = some (m, p2)) (h3 : mo < m) : getF mo xs p = none := by unfold getF; rw [h]; simp only; rw [h2]; simp only; rw [if_pos h3]
theorem getF_none4 {mo : Nat} {xs : List Nat} {p c p1 m p2 : Nat} (h : getN xs p = some (c, p1)) (h2 : getN xs p1 = some (m, p2)) (h4 : getOs xs p2 m = none) : getF mo xs p = none := by
  unfold getF; rw [h]; simp only; rw [h2]; simp only
  by_cases h3 : mo < m
  · rw [if_pos h3]
  · rw [if_neg h3, h4]
theorem getF_some {mo : Nat} {xs : List Nat} {p c p1 m p2 q : Nat} {ol : List O3} (h : getN xs p = some (c, p1)) (h2 : getN xs p1 = some (m, p2)) (h3 : ¬ mo < m) (h4 : getOs xs p2 m = some (ol, q)) : getF mo xs p = some (((c : Int), ol), q) := by
  unfold getF; rw [h]; simp only; rw [h2]; simp only; rw [if_neg h3, h4]
theorem getF_parts {mo : Nat} {xs : List Nat} {p q : Nat} {e : FO} (h : getF mo xs p = some (e, q)) : ∃ c p1 m p2, getN xs p = some (c, p1) ∧ getN xs p1 = some (m, p2) ∧ m ≤ mo ∧ getOs xs p2 m = some (e.2, q) ∧ e.1 = (c : Int) := by
  unfold getF at h
  split at h
  · cases h
  · rename_i c p1 h1
    split at h
    · cases h
    · rename_i m p2 h2
      split at h
      · cases h
      · rename_i h3
        split at h
        · cases h
        · rename_i ol q2 h4
          injection h with h
          injection h with h5 h6
          subst h5 h6
          exact ⟨c, p1, m, p2, h1, h2, by omega, h4, rfl⟩
/-- Functions from a place on. -/
def getFs (mo : Nat) (xs : List Nat) (p : Nat) : Nat → Option (List FO × Nat)
  | 0 => some ([], p)
  | k + 1 => match getFs mo xs p k with
    | none => none
    | some (l, q) => match getF mo xs q with
      | none => none
      | some (o, r) => some (l ++ [o], r)
theorem getFs_none {mo : Nat} {xs : List Nat} {p k : Nat} (h : getFs mo xs p k = none) : ∀ m, k ≤ m → getFs mo xs p m = none := by
  intro m hm
  obtain ⟨d, rfl⟩ : ∃ d, m = k + d := ⟨m - k, by omega⟩
  clear hm
  induction d with
  | zero => exact h
  | succ d ih => rw [Nat.add_succ, getFs, ih]
theorem getFs_stop {mo : Nat} {xs : List Nat} {p k q : Nat} {l : List FO} (h : getFs mo xs p k = some (l, q)) (h2 : getF mo xs q = none) (m : Nat) (hm : k < m) : getFs mo xs p m = none :=
  getFs_none (k := k + 1) (by rw [getFs, h]; simp only; rw [h2]) m hm
theorem getFs_more {mo : Nat} {xs : List Nat} {p k q r : Nat} {l : List FO} {o : FO} (h : getFs mo xs p k = some (l, q)) (h2 : getF mo xs q = some (o, r)) : getFs mo xs p (k + 1) = some (l ++ [o], r) := by rw [getFs, h]; simp only; rw [h2]
theorem getFs_parts {mo : Nat} {xs : List Nat} {p k q : Nat} {l : List FO} (h : getFs mo xs p (k + 1) = some (l, q)) : ∃ l1 q1 o, getFs mo xs p k = some (l1, q1) ∧ getF mo xs q1 = some (o, q) ∧ l = l1 ++ [o] := by
  rw [getFs] at h
  split at h
  · cases h
  · rename_i l1 q1 h1
    split at h
    · cases h
    · rename_i o r h2
      injection h with h
      injection h with h3 h4
      subst h3 h4
      exact ⟨l1, q1, o, h1, h2, rfl⟩
theorem getFs_len {mo : Nat} {xs : List Nat} {p : Nat} : ∀ {k : Nat} {l : List FO} {q : Nat}, getFs mo xs p k = some (l, q) → l.length = k
  | 0, l, q, h => by injection h with h; injection h with h1 _; subst h1; rfl
  | k + 1, l, q, h => by
    obtain ⟨l1, q1, o, h1, h2, rfl⟩ := getFs_parts h
    rw [List.length_append, getFs_len h1]; rfl
/-- What stands of each one that was read. -/
def FOk (e : FO) : Prop := I64 e.1 ∧ (∀ o ∈ e.2, o.Ok) ∧ e.2.length ≤ 2147483647
theorem getF_ok {mo : Nat} {xs : List Nat} {p q : Nat} {e : FO} (h : getF mo xs p = some (e, q)) : FOk e := by
  obtain ⟨c, p1, m, p2, h1, h2, h3, h4, h5⟩ := getF_parts h
  have b1 := (getN_bound h1).1
  have b2 := (getN_bound h2).1
  refine ⟨?_, getOs_ok h4, by rw [getOs_len h4]; exact b2⟩
  rw [h5]; unfold I64; omega
theorem getFs_ok {mo : Nat} {xs : List Nat} {p : Nat} : ∀ {k : Nat} {l : List FO} {q : Nat}, getFs mo xs p k = some (l, q) → ∀ e ∈ l, FOk e
  | 0, l, q, h => by injection h with h; injection h with h1 _; subst h1; intro o ho; cases ho
  | k + 1, l, q, h => by
    obtain ⟨l1, q1, o, h1, h2, rfl⟩ := getFs_parts h
    intro x hx
    rcases List.mem_append.1 hx with h4 | h4
    · exact getFs_ok h1 x h4
    · rw [List.mem_singleton] at h4; subst h4; exact getF_ok h2
/-- With a greater bound the same is read. -/
theorem getF_mono {mo mo' : Nat} (hm : mo ≤ mo') {xs : List Nat} {p q : Nat} {e : FO} (h : getF mo xs p = some (e, q)) : getF mo' xs p = some (e, q) := by
  obtain ⟨c, p1, m, p2, h1, h2, h3, h4, h5⟩ := getF_parts h
  rw [getF_some h1 h2 (by omega) h4, ← h5]
theorem getF_less {mo mo' : Nat} {xs : List Nat} {p q : Nat} {e : FO} (h : getF mo' xs p = some (e, q)) (hl : e.2.length ≤ mo) : getF mo xs p = some (e, q) := by
  obtain ⟨c, p1, m, p2, h1, h2, h3, h4, h5⟩ := getF_parts h
  rw [getF_some h1 h2 (by rw [getOs_len h4] at hl; omega) h4, ← h5]
theorem getFs_mono {mo mo' : Nat} (hm : mo ≤ mo') {xs : List Nat} {p : Nat} : ∀ {k : Nat} {l : List FO} {q : Nat}, getFs mo xs p k = some (l, q) → getFs mo' xs p k = some (l, q)
  | 0, l, q, h => h
  | k + 1, l, q, h => by
    obtain ⟨l1, q1, o, h1, h2, rfl⟩ := getFs_parts h
    exact getFs_more (getFs_mono hm h1) (getF_mono hm h2)
theorem getFs_less {mo mo' : Nat} {xs : List Nat} {p : Nat} : ∀ {k : Nat} {l : List FO} {q : Nat}, getFs mo' xs p k = some (l, q) → (∀ e ∈ l, e.2.length ≤ mo) → getFs mo xs p k = some (l, q)
  | 0, l, q, h, _ => h
  | k + 1, l, q, h, hl => by
    obtain ⟨l1, q1, o, h1, h2, rfl⟩ := getFs_parts h
    exact getFs_more (getFs_less h1 (fun e he => hl e (List.mem_append_left _ he))) (getF_less h2 (hl o (by simp)))

/-- The bytes are those of right functions. -/
def Parsed (xs : List Nat) (L : List FO) : Prop := ∃ n p, getN xs 0 = some (n, p) ∧ getFs 2147483647 xs p n = some (L, xs.length) ∧ FunsP L.length (kidL L)
theorem parsed_same {xs : List Nat} {L L' : List FO} (h : Parsed xs L) (h' : Parsed xs L') : L' = L := by
  obtain ⟨n, p, h1, h2, _⟩ := h
  obtain ⟨n', p', h1', h2', _⟩ := h'
  rw [h1] at h1'
  injection h1' with h1'
  injection h1' with h3 h4
  subst h3 h4
  rw [h2] at h2'
  injection h2' with h2'
  injection h2' with h5 _
  exact h5.symm
theorem parsed_lens {L : List FO} (h : FunsP L.length (kidL L)) : ∀ e ∈ L, e.2.length ≤ 3000 := by
  intro e he
  obtain ⟨i, hi, rfl⟩ := List.getElem_of_mem he
  obtain ⟨_, _, h3⟩ := nums_fun h
  have h4 := (h3 i hi).2.1
  have e1 : kidL L i = fuL L[i] := by unfold kidL; rw [List.getD_eq_getElem?_getD, List.getElem?_eq_getElem hi]; rfl
  rw [e1] at h4
  exact h4
/-- By the program's bounds: no more than 60 functions, of no more than 3000 ops each. -/
theorem parsed_less {xs : List Nat} {L : List FO} (h : Parsed xs L) : ∃ n p, getN xs 0 = some (n, p) ∧ n ≤ 60 ∧ getFs 3000 xs p n = some (L, xs.length) ∧ FunsP L.length (kidL L) := by
  obtain ⟨n, p, h1, h2, h3⟩ := h
  exact ⟨n, p, h1, by rw [← getFs_len h2]; exact (nums_fun h3).1, getFs_less h2 (parsed_lens h3), h3⟩
theorem less_parsed {xs : List Nat} {L : List FO} {n p : Nat} (h1 : getN xs 0 = some (n, p)) (h2 : getFs 3000 xs p n = some (L, xs.length)) (h3 : FunsP L.length (kidL L)) : Parsed xs L := ⟨n, p, h1, getFs_mono (by omega) h2, h3⟩
/-- What FunsOf answers. -/
def AnsF (xs : List Nat) (L : List FO) (ok : Bool) : Prop := (ok = true ∧ Parsed xs L) ∨ (ok = false ∧ L = [] ∧ ¬ ∃ L, Parsed xs L)
theorem ansF_some (xs : List Nat) : ∃ L ok, AnsF xs L ok := by
  by_cases h : ∃ L, Parsed xs L
  · obtain ⟨L, h⟩ := h; exact ⟨L, true, .inl ⟨rfl, h⟩⟩
  · exact ⟨[], false, .inr ⟨rfl, rfl, h⟩⟩
theorem ansF_same {xs : List Nat} {L L' : List FO} {ok ok' : Bool} (h : AnsF xs L ok) (h' : AnsF xs L' ok') : L' = L ∧ ok' = ok := by
  rcases h with ⟨rfl, h1⟩ | ⟨rfl, rfl, h1⟩ <;> rcases h' with ⟨rfl, k1⟩ | ⟨rfl, rfl, k1⟩
  · exact ⟨parsed_same h1 k1, rfl⟩
  · exact absurd ⟨L, h1⟩ k1
  · exact absurd ⟨L', k1⟩ h1
  · exact ⟨rfl, rfl⟩
theorem ansF_ok {xs : List Nat} {L : List FO} {ok : Bool} (h : AnsF xs L ok) : (∀ e ∈ L, FOk e ∧ e.2.length ≤ 3000) ∧ L.length ≤ 60 := by
  rcases h with ⟨rfl, n, p, h1, h2, h3⟩ | ⟨rfl, rfl, h1⟩
  · exact ⟨fun e he => ⟨getFs_ok h2 e he, parsed_lens h3 e he⟩, (nums_fun h3).1⟩
  · exact ⟨fun e he => (by cases he), Nat.zero_le _⟩

/-- What a list of functions is, without where it lies. -/
def strip (le : List Fe) : List FO := le.map fun e => (e.fr, e.ol)
theorem strip_len (le : List Fe) : (strip le).length = le.length := List.length_map ..
theorem strip_snoc (le : List Fe) (fr : Int) (ol : List O3) (u : Value) : strip (le ++ [⟨fr, ol, u⟩]) = strip le ++ [(fr, ol)] := by simp [strip]
end Go.Proofs.YtocdpgogoadfnaaDoor
