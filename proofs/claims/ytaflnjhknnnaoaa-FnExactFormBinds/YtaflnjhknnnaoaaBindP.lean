/- Binds in memory, a row of them; and which one is meant, as plain lists. No conditions. -/
import Derived.Test.YtaflnjhknnnaoaaSetsP
import Derived.Test.YtaflnjhknnnaoaaStx
namespace Go.Proofs.Ytaflnjhknnnaoaa
open Go.ChangeShapes Go.WideShapes Go.ChangeAt Go.RowKit

/-- A bind. -/
structure Bd where
  name : ByteArray
  set : List Int
  kind : Int
  n : Int
  at_ : Int
instance : Inhabited Bd := ⟨⟨⟨#[]⟩, [], 0, 0, 0⟩⟩

/-- Its five cells. -/
structure HeadB (w : World) (b p : Nat) (t : Bd) (sv : Value) : Prop where
  c0 : w.cell? ⟨b, p, none⟩ = some (.string t.name)
  c1 : w.cell? ⟨b, p + 1, none⟩ = some sv
  c2 : w.cell? ⟨b, p + 2, none⟩ = some (.int .i64 t.kind)
  c3 : w.cell? ⟨b, p + 3, none⟩ = some (.int .i64 t.n)
  c4 : w.cell? ⟨b, p + 4, none⟩ = some (.int .i64 t.at_)
/-- Its name and its set are no longer than a text or a list can be. -/
def Bd.Fits (t : Bd) : Prop := t.name.size ≤ maxLen ∧ t.set.length ≤ maxLen
/-- A row of binds. -/
def BsB (R : World → Value → List Int → Prop) (B : Nat) (w : World) (len : Nat) (bd : Nat → Bd) (v : Value) : Prop :=
  (len = 0 ∧ ∃ p cap, v = .slice p 0 cap) ∨
  ∃ (b o cap : Nat) (sv : Nat → Value), v = .slice (some ⟨b, o, none⟩) len cap ∧ B ≤ b ∧ len ≤ cap ∧ cap ≤ maxLen ∧ ∀ i, i < len → HeadB w b (o + i * 5) (bd i) (sv i) ∧ R w (sv i) (bd i).set ∧ (bd i).Fits
abbrev BsOf (w : World) (len : Nat) (bd : Nat → Bd) (v : Value) : Prop := BsB SetR 0 w len bd v
abbrev BsAt (B : Nat) (w : World) (len : Nat) (bd : Nat → Bd) (v : Value) : Prop := BsB (SetB B) B w len bd v

theorem HeadB.kept {w w' : World} {b p : Nat} {t : Bd} {sv : Value} (h : HeadB w b p t sv) (hk : ∀ a u, a.block = b → w.cell? a = some u → w'.cell? a = some u) : HeadB w' b p t sv :=
  ⟨hk _ _ rfl h.c0, hk _ _ rfl h.c1, hk _ _ rfl h.c2, hk _ _ rfl h.c3, hk _ _ rfl h.c4⟩
theorem HeadB.below {w w' : World} (hb : Below w.heap.size w w') {b p : Nat} {t : Bd} {sv : Value} (h : HeadB w b p t sv) : HeadB w' b p t sv := h.kept (fun a u _ => keepsX hb a u)
theorem BsB.kept {R R' : World → Value → List Int → Prop} {B B' : Nat} {w w' : World} (hB : B' ≤ B) (hk : ∀ a u, B ≤ a.block → w.cell? a = some u → w'.cell? a = some u) (hR : ∀ v xs, R w v xs → R' w' v xs) {len : Nat} {bd : Nat → Bd} {v : Value} (h : BsB R B w len bd v) : BsB R' B' w' len bd v := by
  rcases h with h | ⟨b, o, cap, sv, e, hb, h1, h2, h3⟩
  · exact .inl h
  · exact .inr ⟨b, o, cap, sv, e, Nat.le_trans hB hb, h1, h2, fun i hi => ⟨(h3 i hi).1.kept (fun a u ha => hk a u (by omega)), hR _ _ (h3 i hi).2.1, (h3 i hi).2.2⟩⟩
theorem BsOf.below {w w' : World} (hb : Below w.heap.size w w') {len : Nat} {bd : Nat → Bd} {v : Value} (h : BsOf w len bd v) : BsOf w' len bd v := BsB.kept (Nat.le_refl _) (fun a u _ => keepsX hb a u) (fun _ _ h => h.below hb) h
theorem BsAt.kept {B B' : Nat} {w w' : World} (hB : B' ≤ B) (hk : ∀ a u, B ≤ a.block → w.cell? a = some u → w'.cell? a = some u) {len : Nat} {bd : Nat → Bd} {v : Value} (h : BsAt B w len bd v) : BsAt B' w' len bd v := BsB.kept hB hk (fun _ _ h => h.kept hB hk) h
theorem BsAt.below {B : Nat} {w w' : World} (hb : Below w.heap.size w w') {len : Nat} {bd : Nat → Bd} {v : Value} (h : BsAt B w len bd v) : BsAt B w' len bd v := BsAt.kept (Nat.le_refl _) (fun a u _ => keepsX hb a u) h
theorem BsAt.mono {B B' : Nat} {w : World} (hB : B' ≤ B) {len : Nat} {bd : Nat → Bd} {v : Value} (h : BsAt B w len bd v) : BsAt B' w len bd v := BsAt.kept hB (fun _ _ _ h => h) h
theorem BsB.at {R : World → Value → List Int → Prop} {B : Nat} {w : World} {len : Nat} {bd : Nat → Bd} {v : Value} (h : BsB R B w len bd v) : ∃ p cap, v = .slice p len cap ∧ len ≤ maxLen ∧
    ∀ i, i < len → ∃ b o sv, p = some ⟨b, o, none⟩ ∧ HeadB w b (o + i * 5) (bd i) sv ∧ R w sv (bd i).set ∧ (bd i).Fits := by
  rcases h with ⟨rfl, p, cap, e⟩ | ⟨b, o, cap, sv, e, hb, h1, h2, h3⟩
  · exact ⟨p, cap, e, Nat.zero_le _, fun i hi => absurd hi (Nat.not_lt_zero _)⟩
  · exact ⟨_, cap, e, Nat.le_trans h1 h2, fun i hi => ⟨b, o, sv i, rfl, h3 i hi⟩⟩

/-- Its weight, and that of a row. -/
def Bd.weight (t : Bd) : Nat := t.name.size + t.set.length
def bdsWeight (len : Nat) (bd : Nat → Bd) : Nat := len + sumX (fun i => (bd i).weight) len
theorem bds_at {len : Nat} {bd : Nat → Bd} (i : Nat) (hi : i < len) : (bd i).weight ≤ bdsWeight len bd := by
  have := sumX_at (fun i => (bd i).weight) i len hi
  unfold bdsWeight; omega

/-- It may be meant. -/
def fitB (name : ByteArray) (set : List Int) (t : Bd) : Bool := (t.name.toList == name.toList) && withinB t.set set
def fitsTo (p : Nat → Bool) : Nat → List Nat
  | 0 => []
  | k + 1 => if p k then fitsTo p k ++ [k] else fitsTo p k
theorem fitsTo_lt (p : Nat → Bool) (k : Nat) : ∀ i ∈ fitsTo p k, i < k := by
  induction k with
  | zero => intro i hi; simp [fitsTo] at hi
  | succ k ih =>
    intro i hi
    unfold fitsTo at hi
    split at hi
    · rcases List.mem_append.1 hi with h | h
      · have := ih i h; omega
      · simp at h; omega
    · have := ih i hi; omega
theorem fitsTo_len (p : Nat → Bool) (k : Nat) : (fitsTo p k).length ≤ k := by
  induction k with
  | zero => simp [fitsTo]
  | succ k ih =>
    unfold fitsTo
    split
    · rw [List.length_append]; simp; omega
    · omega

theorem within_iff (a b : List Int) : withinB a b = true ↔ ∀ x ∈ a, x ∈ b := by
  unfold withinB
  rw [List.all_eq_true]
  exact ⟨fun h x hx => (has_iff b x).1 (h x hx), fun h x hx => (has_iff b x).2 (h x hx)⟩
theorem within_refl (a : List Int) : withinB a a = true := (within_iff a a).2 fun _ h => h
theorem within_trans {a b c : List Int} (h : withinB a b = true) (g : withinB b c = true) : withinB a c = true := (within_iff a c).2 fun x hx => (within_iff b c).1 g x ((within_iff a b).1 h x hx)

/-- All of these are within it. -/
def allIn (bd : Nat → Bd) (l : List Nat) (s : List Int) : Bool := l.all fun i => withinB (bd i).set s
/-- The likeliest: the last that is not within the one ahead. -/
def bestOf (bd : Nat → Bd) (b : Nat) (l : List Nat) : Nat := l.foldl (fun b i => if withinB (bd i).set (bd b).set then b else i) b
/-- What is answered, of those that fit. -/
def resOf (bd : Nat → Bd) (l : List Nat) : Int × Int := match l.find? (fun i => allIn bd l (bd i).set) with
  | some i => ((i : Nat), 0)
  | none => (-1, 2)

theorem best_stays (bd : Nat → Bd) (b : Nat) (l : List Nat) (h : ∀ i ∈ l, withinB (bd i).set (bd b).set = true) : bestOf bd b l = b := by
  induction l with
  | nil => rfl
  | cons i r ih =>
    unfold bestOf
    rw [List.foldl_cons, if_pos (h i (List.mem_cons_self ..))]
    exact ih fun j hj => h j (List.mem_cons_of_mem _ hj)
theorem best_mem (bd : Nat → Bd) (l : List Nat) : ∀ b, bestOf bd b l = b ∨ bestOf bd b l ∈ l := by
  induction l with
  | nil => intro b; exact .inl rfl
  | cons i r ih =>
    intro b
    unfold bestOf
    rw [List.foldl_cons]
    split
    · rcases ih b with h | h
      · exact .inl h
      · exact .inr (List.mem_cons_of_mem _ h)
    · rcases ih i with h | h
      · right; unfold bestOf at h; rw [h]; exact List.mem_cons_self ..
      · exact .inr (List.mem_cons_of_mem _ h)
theorem best_append (bd : Nat → Bd) (b : Nat) (l r : List Nat) : bestOf bd b (l ++ r) = bestOf bd (bestOf bd b l) r := by unfold bestOf; rw [List.foldl_append]
theorem allIn_at {bd : Nat → Bd} {l : List Nat} {s : List Int} (h : allIn bd l s = true) (i : Nat) (hi : i ∈ l) : withinB (bd i).set s = true := (List.all_eq_true.1 h) i hi

/-- The likeliest is the one that is meant, if there is one. -/
theorem res_best (bd : Nat → Bd) (h0 : Nat) (t : List Nat) : resOf bd (h0 :: t) = if allIn bd (h0 :: t) (bd (bestOf bd h0 (h0 :: t))).set then (((bestOf bd h0 (h0 :: t) : Nat) : Int), (0 : Int)) else ((-1 : Int), (2 : Int)) := by
  unfold resOf
  have hmem : bestOf bd h0 (h0 :: t) ∈ h0 :: t := by
    rcases best_mem bd (h0 :: t) h0 with h | h
    · rw [h]; exact List.mem_cons_self ..
    · exact h
  cases hf : (h0 :: t).find? (fun i => allIn bd (h0 :: t) (bd i).set) with
  | none =>
    rw [List.find?_eq_none] at hf
    have := hf _ hmem
    simp only [Bool.not_eq_true] at this
    rw [this]; rfl
  | some j =>
    have hb : bestOf bd h0 (h0 :: t) = j := by
      obtain ⟨hp, xs0, bs, hl, hno⟩ := List.find?_eq_some_iff_append.1 hf
      have hj := fun i hi => allIn_at hp i hi
      rw [hl, best_append]
      have hbs : ∀ i ∈ j :: bs, withinB (bd i).set (bd j).set = true := fun i hi => hj i (by rw [hl]; exact List.mem_append_right _ hi)
      cases xs0 with
      | nil =>
        simp only [List.nil_append, List.cons.injEq] at hl
        obtain ⟨rfl, _⟩ := hl
        exact best_stays bd h0 (h0 :: bs) hbs
      | cons a xs0 =>
        have ha : a = h0 := by simp only [List.cons_append, List.cons.injEq] at hl; exact hl.1.symm
        have hb1 : bestOf bd h0 (a :: xs0) ∈ a :: xs0 := by
          rcases best_mem bd (a :: xs0) h0 with h | h
          · rw [h, ha]; exact List.mem_cons_self ..
          · exact h
        generalize bestOf bd h0 (a :: xs0) = b1 at hb1 ⊢
        have hn := hno b1 hb1
        have hw : withinB (bd j).set (bd b1).set = false := by
          cases hw : withinB (bd j).set (bd b1).set with
          | false => rfl
          | true =>
            exfalso
            have : allIn bd (h0 :: t) (bd b1).set = true := List.all_eq_true.2 fun i hi => within_trans (hj i hi) hw
            rw [this] at hn
            cases hn
        unfold bestOf
        rw [List.foldl_cons, hw]
        exact best_stays bd j bs fun i hi => hbs i (List.mem_cons_of_mem _ hi)
    have hp := List.find?_some hf
    rw [hb, hp]; rfl
end Go.Proofs.Ytaflnjhknnnaoaa
