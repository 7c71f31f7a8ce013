/- The names of a pattern with how deep each stands, as plain lists; a list of parts that are left. No conditions. -/
import Derived.Test.YtaflnjhknnnaoaaZG12ImplKids
import Derived.Test.YtaflnjhknnnaoaaRows
import Derived.WalkKit
import Derived.ProofKit
import Derived.OwnWalk
import Derived.Laws.OwnMore
import Derived.Laws.ResultCell
namespace Go.Proofs.Ytaflnjhknnnaoaa
open Go.ChangeShapes Go.WideShapes Go.ChangeAt Go.RowKit

/-- Lists one behind the other. -/
def flatTo {α : Type} (f : Nat → List α) : Nat → List α
  | 0 => []
  | k + 1 => flatTo f k ++ f k
/-- The names in order, each as often as it stands there, with how deep. -/
def namesD : X → Int → List (ByteArray × Int)
  | .no, _ => []
  | .mk op _ _ s _ len kid, d => (if nameX op s = true then [(s, d)] else []) ++ flatTo (fun i => namesD (kid i) (kidDeep len kid d i)) len
theorem namesD_eq (t : X) (d : Int) : namesD t d = (if nameX t.op t.s = true then [(t.s, d)] else []) ++ flatTo (fun i => namesD (t.kid i) (kidDeep t.len t.kid d i)) t.len := by
  cases t <;> rfl
/-- Those of parts that are left, the last part first. -/
def listD (L : List DR) : List (ByteArray × Int) := L.reverse.flatMap (fun q => namesD q.t q.d)
theorem listD_append (L M : List DR) : listD (L ++ M) = listD M ++ listD L := by simp [listD]
theorem listD_one (q : DR) : listD [q] = namesD q.t q.d := by simp [listD]
theorem listD_kids_to (len : Nat) (kid : Nat → X) (U V : Nat → Value) (d : Int) (k : Nat) (hk : k ≤ len) : flatTo (fun i => namesD (kid i) (kidDeep len kid d i)) (len - k) ++ listD (kidRows len kid U V d k) = flatTo (fun i => namesD (kid i) (kidDeep len kid d i)) len := by
  induction k with
  | zero => simp [kidRows, listD]
  | succ k ih =>
    have h1 := ih (by omega)
    obtain ⟨j, hj⟩ : ∃ j, len - k = j + 1 := ⟨len - k - 1, by omega⟩
    have e1 : len - (k + 1) = j := by omega
    have e2 : len - 1 - k = j := by omega
    rw [hj] at h1
    rw [e1, kidRows, listD_append, listD_one, e2, ← List.append_assoc]
    exact h1
theorem listD_kids (len : Nat) (kid : Nat → X) (U V : Nat → Value) (d : Int) : listD (kidRows len kid U V d len) = flatTo (fun i => namesD (kid i) (kidDeep len kid d i)) len := by
  have := listD_kids_to len kid U V d len (Nat.le_refl _)
  rw [Nat.sub_self] at this
  simpa [flatTo] using this
/-- What is told when a part is taken and its kids are put. -/
theorem listD_turn (L : List DR) (q : DR) (U V : Nat → Value) : listD (L ++ [q]) = (if nameX q.t.op q.t.s = true then [(q.t.s, q.d)] else []) ++ listD (L ++ kidRows q.t.len q.t.kid U V q.d q.t.len) := by
  rw [listD_append, listD_append, listD_one, namesD_eq, listD_kids, List.append_assoc]
theorem X.count_pos (t : X) : 1 ≤ t.count := by cases t <;> simp [X.count]
/-- How much is left. -/
def totalD (L : List DR) : Nat := (L.map fun q => q.t.count).sum
theorem totalD_append (L M : List DR) : totalD (L ++ M) = totalD L + totalD M := by simp [totalD]
theorem totalD_one (q : DR) : totalD [q] = q.t.count := by simp [totalD]
theorem totalD_len (L : List DR) : L.length ≤ totalD L := by
  induction L with
  | nil => simp [totalD]
  | cons q L ih =>
    have h : totalD (q :: L) = q.t.count + totalD L := by simp [totalD]
    rw [h, List.length_cons]
    have := q.t.count_pos
    omega
theorem totalD_kids_to (len : Nat) (kid : Nat → X) (U V : Nat → Value) (d : Int) (k : Nat) (hk : k ≤ len) : sumX (fun i => (kid i).count) (len - k) + totalD (kidRows len kid U V d k) = sumX (fun i => (kid i).count) len := by
  induction k with
  | zero => simp [kidRows, totalD]
  | succ k ih =>
    have h1 := ih (by omega)
    obtain ⟨j, hj⟩ : ∃ j, len - k = j + 1 := ⟨len - k - 1, by omega⟩
    have e1 : len - (k + 1) = j := by omega
    have e2 : len - 1 - k = j := by omega
    rw [hj] at h1
    simp only [sumX] at h1
    rw [e1, kidRows, totalD_append, totalD_one, e2]
    simp only
    omega
theorem totalD_kids (len : Nat) (kid : Nat → X) (U V : Nat → Value) (d : Int) : totalD (kidRows len kid U V d len) = sumX (fun i => (kid i).count) len := by
  have := totalD_kids_to len kid U V d len (Nat.le_refl _)
  rw [Nat.sub_self] at this
  simpa [sumX] using this
theorem totalD_turn (L : List DR) (q : DR) (U V : Nat → Value) : totalD (L ++ [q]) = totalD (L ++ kidRows q.t.len q.t.kid U V q.d q.t.len) + 1 := by
  rw [totalD_append, totalD_append, totalD_one, totalD_kids, X.count_eq]
  omega
theorem kidRows_mem (len : Nat) (kid : Nat → X) (U V : Nat → Value) (d : Int) (k : Nat) (hk : k ≤ len) : ∀ q ∈ kidRows len kid U V d k, ∃ i, i < len ∧ q = ⟨kid i, U i, V i, kidDeep len kid d i⟩ := by
  induction k with
  | zero => intro q hq; simp [kidRows] at hq
  | succ k ih =>
    intro q hq
    rw [kidRows] at hq
    rcases List.mem_append.1 hq with h | h
    · exact ih (by omega) q h
    · simp only [List.mem_singleton] at h
      exact ⟨len - 1 - k, by omega, h⟩
/-- What is left lies in memory, no deeper than it may. -/
def GoodD (w : World) (C : Int) (L : List DR) : Prop := ∀ q ∈ L, q.t.At 0 w q.su q.u ∧ 0 ≤ q.d ∧ q.d + q.t.count ≤ C
theorem GoodD.turn {w : World} {C : Int} {L : List DR} {q : DR} {U V : Nat → Value} (h : GoodD w C (L ++ [q])) (hk : ∀ i, i < q.t.len → (q.t.kid i).At 0 w (U i) (V i)) : GoodD w C (L ++ kidRows q.t.len q.t.kid U V q.d q.t.len) := by
  intro x hx
  rcases List.mem_append.1 hx with hx | hx
  · exact h x (List.mem_append_left _ hx)
  · obtain ⟨i, hi, rfl⟩ := kidRows_mem _ _ _ _ _ _ (Nat.le_refl _) x hx
    obtain ⟨-, h1, h2⟩ := h q (by simp)
    have h3 := sumX_at (fun i => (q.t.kid i).count) i q.t.len hi
    have h4 := q.t.count_eq
    simp only at h3 ⊢
    refine ⟨hk i hi, ?_, ?_⟩
    · unfold kidDeep; split <;> omega
    · unfold kidDeep; split <;> omega
end Go.Proofs.Ytaflnjhknnnaoaa

/- Rows that are owned: the last elements left off; their room; a row that is new. No conditions. -/
namespace Go.Proofs.Ytaflnjhknnnaoaa
open Go.ChangeShapes Go.WideShapes Go.ChangeAt Go.RowKit

/-- A row of which the last elements are left off. -/
theorem own_cut {w : World} {base e size g n m cap : Nat} {xs ys : List Value} (h : w.ownsRow base e size (.slice (some ⟨g, 0, none⟩) m cap) m (xs ++ ys)) (hx : xs.length = n * size) (hm : n ≤ m) :
    w.ownsRow base e size (.slice (some ⟨g, 0, none⟩) n cap) n xs := by
  refine ⟨hx, ?_⟩
  rcases h.2 with ⟨h0, _⟩ | ⟨g', cap', cur, he, hbg, hgg, hc, hmx, hs, ht⟩
  · cases h0
  · injection he with h1 h2 h3
    injection h1 with h1
    injection h1 with h1
    subst h1 h3
    refine .inr ⟨_, _, cur, rfl, hbg, hgg, by omega, hmx, hs, ?_⟩
    have h9 := congrArg (List.take (n * size)) ht
    rw [List.take_take, Nat.min_eq_left (Nat.mul_le_mul_right _ hm), List.take_append_of_le_length (by omega)] at h9
    rw [h9, List.take_of_length_le (by omega)]

theorem own_room {w : World} {base e size g n cap : Nat} {xs : List Value} (h : w.ownsRow base e size (.slice (some ⟨g, 0, none⟩) n cap) n xs) : n ≤ cap ∧ cap ≤ maxLen ∧ base ≤ g ∧ g < w.heap.size := by
  rcases h.2 with ⟨h0, _⟩ | ⟨g', cap', cur, he, hbg, hgg, hc, hmx, hs, ht⟩
  · cases h0
  · injection he with h1 h2 h3
    injection h1 with h1
    injection h1 with h1
    subst h1 h3
    exact ⟨hc, hmx, hbg, (Array.getElem?_eq_some_iff.1 hgg).1⟩

/-- A row that is one block. -/
theorem own_new {w : World} {base e size cap g n : Nat} {cs : Array Value} {xs : List Value} (hcs : cs.toList = xs) (hg : w.heap.size = g) (hb : base ≤ g) (hl : xs.length = n * size) (hc : n = cap) (hm : cap ≤ maxLen) :
    (w.alloc (.cells cs e)).ownsRow base e size (.slice (some ⟨g, 0, none⟩) n cap) n xs := by
  subst hc hg hcs
  exact ⟨hl, .inr ⟨w.heap.size, n, cs, rfl, hb, heap_alloc_new w _, Nat.le_refl _, hm, by simpa using hl, by rw [← hl]; exact List.take_length⟩⟩
end Go.Proofs.Ytaflnjhknnnaoaa
