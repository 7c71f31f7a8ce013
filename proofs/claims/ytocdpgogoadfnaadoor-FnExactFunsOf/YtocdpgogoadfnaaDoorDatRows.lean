/- Rows of data that a call owns. No conditions. -/
import Derived.Test.YtocdpgogoadfnaaDoorDat
import Derived.OwnWalk
import Derived.Laws.OwnMore
import Derived.Laws.ResultCell
namespace Go.Proofs.YtocdpgogoadfnaaDoor
open Go.ChangeShapes Go.WideShapes Go.ChangeAt Go.RowKit

def dcells (q : D × Value) : List Value := [.int .i64 q.1.op, .int .i64 q.1.at_, .int .i64 q.1.n, .string q.1.s, q.2]
def drows (l : List (D × Value)) : List Value := l.flatMap dcells
theorem drows_append (a b : List (D × Value)) : drows (a ++ b) = drows a ++ drows b := by simp [drows]
theorem drows_length (l : List (D × Value)) : (drows l).length = l.length * 5 := by
  induction l with
  | nil => rfl
  | cons t r ih => simp only [drows, List.flatMap_cons, List.length_append, List.length_cons] at ih ⊢; rw [ih]; simp [dcells]; omega

/-- The list's data are those of the indices. -/
def Ks (kid : Nat → D) (l : List (D × Value)) : Prop := ∀ i q, l[i]? = some q → q.1 = kid i
theorem Ks.nil (kid : Nat → D) : Ks kid [] := fun i q h => by simp at h
theorem Ks.snoc {kid : Nat → D} {l : List (D × Value)} (h : Ks kid l) (v : Value) : Ks kid (l ++ [(kid l.length, v)]) := by
  intro i q hq
  rcases Nat.lt_trichotomy i l.length with hi | hi | hi
  · rw [List.getElem?_append_left hi] at hq; exact h i q hq
  · subst hi; simp at hq; subst hq; rfl
  · rw [List.getElem?_eq_none (by simp; omega)] at hq; cases hq

theorem drows_at (l : List (D × Value)) (junk : List Value) : ∀ (i : Nat) (q : D × Value), l[i]? = some q → ∀ j, j < 5 → (drows l ++ junk)[i * 5 + j]? = (dcells q)[j]? := by
  induction l with
  | nil => intro i q h; simp at h
  | cons x r ih =>
    intro i q h j hj
    have e : drows (x :: r) ++ junk = dcells x ++ (drows r ++ junk) := by simp [drows]
    have hl : (dcells x).length = 5 := rfl
    rw [e]
    cases i with
    | zero =>
      simp at h; subst h
      rw [List.getElem?_append_left (by omega)]; congr 1; omega
    | succ i =>
      simp at h
      rw [List.getElem?_append_right (by omega), hl]
      have := ih i q h j hj
      rw [← this]; congr 1; omega

/-- Five stores behind the rows. -/
theorem set5 (l : List (D × Value)) (junk : List Value) (hj : 5 ≤ junk.length) (t : D) (v : Value) :
    (((((drows l ++ junk).set (l.length * 5) (.int .i64 t.op)).set (l.length * 5 + 1) (.int .i64 t.at_)).set (l.length * 5 + 2) (.int .i64 t.n)).set (l.length * 5 + 3) (.string t.s)).set (l.length * 5 + 4) v = drows (l ++ [(t, v)]) ++ junk.drop 5 := by
  have hl := drows_length l
  have s : ∀ (c : List Value) (j : Nat) (x : Value), (drows l ++ c).set (l.length * 5 + j) x = drows l ++ c.set j x := by
    intro c j x
    rw [List.set_append_right _ _ (by omega), hl]
    congr 2; omega
  have s0 := s junk 0 (.int .i64 t.op)
  rw [Nat.add_zero] at s0
  rw [s0, s, s, s, s, drows_append]
  match junk, hj with
  | a :: b :: c :: d :: e :: r, _ => simp [drows, dcells]

theorem own_below5 {w w' : World} {base e size n : Nat} {v : Value} {xs : List Value} (h : w.ownsRow base e size v n xs) (hb : Below w.heap.size w w') : w'.ownsRow base e size v n xs := by
  refine ⟨h.1, ?_⟩
  rcases h.2 with hn | ⟨g, cap, cur, rfl, hbg, hgg, rest⟩
  · exact .inl hn
  · exact .inr ⟨g, cap, cur, rfl, hbg, (hb.block g (Array.getElem?_eq_some_iff.1 hgg).1).trans hgg, rest⟩

/-- What a call owns lies in memory. -/
theorem SlB.of_own {w : World} {base e B n : Nat} {v : Value} {kid : Nat → D} {l : List (D × Value)} (h : w.ownsRow base e 5 v n (drows l)) (hl : l.length = n) (hB : B ≤ base) (hk : Ks kid l) (hin : ∀ q ∈ l, q.1.InB B w q.2) : SlB B w n kid v := by
  rcases h.2 with ⟨rfl, rfl⟩ | ⟨g, cap, cur, rfl, hbg, hgg, hc, hm, hs, ht⟩
  · exact .inl ⟨rfl, _, _, rfl⟩
  · refine .inr ⟨g, 0, cap, fun i => ((l[i]?).getD (.no, .bool false)).2, rfl, by omega, hc, hm, fun i hi => ?_⟩
    have hi' : i < l.length := by omega
    have hq : l[i]? = some l[i] := List.getElem?_eq_getElem hi'
    have hkid := hk i _ hq
    have cell : ∀ j, j < 5 → w.cell? ⟨g, 0 + i * 5 + j, none⟩ = (dcells l[i])[j]? := by
      intro j hj
      have := h.cellAt (i * 5 + j) (by omega)
      rw [Nat.zero_add, this]
      have := drows_at l [] i _ hq j hj
      simpa using this
    simp only [hq, Option.getD_some]
    rw [← hkid]
    exact ⟨⟨cell 0 (by omega), cell 1 (by omega), cell 2 (by omega), cell 3 (by omega), cell 4 (by omega)⟩, hin _ (List.getElem_mem hi')⟩

theorem grownb {w w1 w2 : World} {row : Option Nat} (h : w.grownBy w1 row) (g : w1.grownBy w2 row) : w.grownBy w2 row :=
  ⟨g.os.trans h.os, g.tape.trans h.tape, g.output.trans h.output, Nat.le_trans h.size g.size, fun k hk hr => (g.block k (Nat.lt_of_lt_of_le hk h.size) hr).trans (h.block k hk hr)⟩
theorem keepg {w w' : World} {g : Nat} (h : w.grownBy w' (some g)) (a : Addr) (u : Value) (hne : a.block ≠ g) (hc : w.cell? a = some u) : w'.cell? a = some u :=
  h.cell hc (by simpa using hne)

/-- Five stores, from cell p of block g on. -/
abbrev st5 (w : World) (g p : Nat) (t : D) (v : Value) : World :=
  ((((w.setCell ⟨g, p, none⟩ (.int .i64 t.op)).setCell ⟨g, p + 1, none⟩ (.int .i64 t.at_)).setCell ⟨g, p + 2, none⟩ (.int .i64 t.n)).setCell ⟨g, p + 3, none⟩ (.string t.s)).setCell ⟨g, p + 4, none⟩ v

theorem stored5 {w : World} {base e g cap n : Nat} {l : List (D × Value)} {junk : List Value} (h : w.ownsRow base e 5 (.slice (some ⟨g, 0, none⟩) n cap) n (drows l ++ junk)) (hj : 5 ≤ junk.length) (t : D) (v : Value) :
    (st5 w g (l.length * 5) t v).ownsRow base e 5 (.slice (some ⟨g, 0, none⟩) n cap) n (drows (l ++ [(t, v)]) ++ junk.drop 5) ∧ w.grownBy (st5 w g (l.length * 5) t v) (some g) := by
  obtain ⟨q1, g1⟩ := h.stored (l.length * 5) (.int .i64 t.op)
  obtain ⟨q2, g2⟩ := q1.stored (l.length * 5 + 1) (.int .i64 t.at_)
  obtain ⟨q3, g3⟩ := q2.stored (l.length * 5 + 2) (.int .i64 t.n)
  obtain ⟨q4, g4⟩ := q3.stored (l.length * 5 + 3) (.string t.s)
  obtain ⟨q5, g5⟩ := q4.stored (l.length * 5 + 4) v
  rw [set5 l junk hj t v] at q5
  exact ⟨q5, grownb (grownb (grownb (grownb g1 g2) g3) g4) g5⟩

/-- A row goes on by one datum. -/
theorem row_step {w wr w2 : World} {e n cap : Nat} {l : List (D × Value)} {junk : List Value} {kid : Nat → D} {v : Value}
    (hown : wr.ownsRow w.heap.size e 5 (.slice (some ⟨w.heap.size, 0, none⟩) n cap) n (drows l ++ junk)) (hj : 5 ≤ junk.length) (hks : Ks kid l) (hin : ∀ q ∈ l, q.1.InB (w.heap.size + 1) wr q.2)
    (hbel : Below w.heap.size w wr) (hsz : w.heap.size < wr.heap.size) (hb : Below wr.heap.size wr w2) (hv : (kid l.length).InB wr.heap.size w2 v) :
    (st5 w2 w.heap.size (l.length * 5) (kid l.length) v).ownsRow w.heap.size e 5 (.slice (some ⟨w.heap.size, 0, none⟩) n cap) n (drows (l ++ [(kid l.length, v)]) ++ junk.drop 5) ∧ Ks kid (l ++ [(kid l.length, v)]) ∧
    (∀ q ∈ l ++ [(kid l.length, v)], q.1.InB (w.heap.size + 1) (st5 w2 w.heap.size (l.length * 5) (kid l.length) v) q.2) ∧ Below w.heap.size w (st5 w2 w.heap.size (l.length * 5) (kid l.length) v) ∧ w.heap.size < (st5 w2 w.heap.size (l.length * 5) (kid l.length) v).heap.size := by
  obtain ⟨q, g⟩ := stored5 (own_below5 hown hb) hj (kid l.length) v
  have hk : ∀ a u, w.heap.size + 1 ≤ a.block → w2.cell? a = some u → (st5 w2 w.heap.size (l.length * 5) (kid l.length) v).cell? a = some u := fun a u ha hc => keepg g a u (by omega) hc
  have hb2 : Below w.heap.size w w2 := hbel.trans (hb.mono (by omega))
  refine ⟨q, hks.snoc v, ?_, hb2.trans ⟨g.os, g.tape, g.output, g.size, fun k hk => g.block k (by have := hb2.size; omega) (by intro e; injection e with e; omega)⟩, Nat.lt_of_lt_of_le hsz (Nat.le_trans hb.size g.size)⟩
  intro x hx
  rcases List.mem_append.1 hx with hx | hx
  · exact D.InB.kept hk _ ((hin x hx).below hb)
  · simp only [List.mem_singleton] at hx
    subst hx
    exact D.InB.kept hk _ (hv.mono (by omega))

/-- Three new blocks, behind a call. -/
theorem three {w w1 : World} {o1 o2 o3 : Obj} (hb : Below (((w.alloc o1).alloc o2).alloc o3).heap.size (((w.alloc o1).alloc o2).alloc o3) w1) :
    w1.heap[w.heap.size]? = some o1 ∧ w1.heap[w.heap.size + 1]? = some o2 ∧ w1.heap[w.heap.size + 1 + 1]? = some o3 ∧ w.heap.size + 3 ≤ w1.heap.size ∧ Below w.heap.size w w1 := by
  have e1 : (w.alloc o1).heap.size = w.heap.size + 1 := by simp
  have e2 : ((w.alloc o1).alloc o2).heap.size = w.heap.size + 1 + 1 := by simp
  have e3 : (((w.alloc o1).alloc o2).alloc o3).heap.size = w.heap.size + 1 + 1 + 1 := by simp
  have n3 := heap_alloc_new ((w.alloc o1).alloc o2) o3
  have n2 := heap_alloc_new (w.alloc o1) o2
  have n1 := heap_alloc_new w o1
  rw [e2] at n3
  rw [e1] at n2
  refine ⟨?_, ?_, ?_, by have := hb.size; omega, ((newb w o1).trans (((newb _ o2).mono (by omega)).trans ((newb _ o3).mono (by omega)))).trans (hb.mono (by omega))⟩
  · rw [hb.block _ (by omega), Below.heap_alloc _ _ _ (by omega), Below.heap_alloc _ _ _ (by omega)]; exact n1
  · rw [hb.block _ (by omega), Below.heap_alloc _ _ _ (by omega)]; exact n2
  · rw [hb.block _ (by omega)]; exact n3

theorem results_cell1 {fn : Func} {p : Tmp} {ty : TypeId} (h : fn.results = #[.cell p ty]) (tmps : Array Value) (P : Program) (w : World) :
    (results fn tmps).run P w = ((asAddr (tmps.getD p undef)).run P w).andThen fun a w₁ => (loadVar ty a).run P w₁ := by
  simp only [results, h]
  simp [Sem.run_bind, Result.andThen]
end Go.Proofs.YtocdpgogoadfnaaDoor
