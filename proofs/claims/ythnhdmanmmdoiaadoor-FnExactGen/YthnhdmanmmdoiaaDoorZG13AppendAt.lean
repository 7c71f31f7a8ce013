/- Rows of ops that a call owns. No conditions. -/
import Derived.Test.YthnhdmanmmdoiaaDoorZG8Fun
import Derived.Test.YthnhdmanmmdoiaaDoorZG3IrRows
import Derived.Test.YthnhdmanmmdoiaaDoorRows
import Derived.OwnWalk
import Derived.Laws.OwnMore
import Derived.Laws.ResultCell
import Derived.OwnWalkIn
import Derived.Laws.AppendOwn
import Derived.Below
namespace Go.Proofs.YthnhdmanmmdoiaaDoor
open Go.ChangeShapes Go.WideShapes Go.ChangeAt Go.RowKit

def ocells (q : O3) : List Value := [.int .i64 q.c, .int .i64 q.n, .int .i64 q.m]
def orows (l : List O3) : List Value := l.flatMap ocells
theorem orows_append (a b : List O3) : orows (a ++ b) = orows a ++ orows b := by simp [orows]
theorem orows_length (l : List O3) : (orows l).length = l.length * 3 := by
  induction l with
  | nil => rfl
  | cons t r ih => simp only [orows, List.flatMap_cons, List.length_append, List.length_cons] at ih ⊢; rw [ih]; simp [ocells]; omega

/-- The list's ops are those of the indices. -/
def OKs (op : Nat → O3) (l : List O3) : Prop := ∀ i q, l[i]? = some q → q = op i
theorem OKs.nil (op : Nat → O3) : OKs op [] := fun i q h => by simp at h
theorem OKs.snoc {op : Nat → O3} {l : List O3} (h : OKs op l) : OKs op (l ++ [op l.length]) := by
  intro i q hq
  rcases Nat.lt_trichotomy i l.length with hi | hi | hi
  · rw [List.getElem?_append_left hi] at hq; exact h i q hq
  · subst hi; simp at hq; subst hq; rfl
  · rw [List.getElem?_eq_none (by simp; omega)] at hq; cases hq

theorem orows_at (l : List O3) (junk : List Value) : ∀ (i : Nat) (q : O3), l[i]? = some q → ∀ j, j < 3 → (orows l ++ junk)[i * 3 + j]? = (ocells q)[j]? := by
  induction l with
  | nil => intro i q h; simp at h
  | cons x r ih =>
    intro i q h j hj
    have e : orows (x :: r) ++ junk = ocells x ++ (orows r ++ junk) := by simp [orows]
    have hl : (ocells x).length = 3 := rfl
    rw [e]
    cases i with
    | zero =>
      simp at h; subst h
      rw [List.getElem?_append_left (by omega)]; congr 1; omega
    | succ i =>
      simp at h
      rw [List.getElem?_append_right (by omega), hl]
      have := ih i q h j hj
      rw [← this]; congr 1; omega

/-- Three stores behind the rows. -/
theorem setO3 (l : List O3) (junk : List Value) (hj : 3 ≤ junk.length) (t : O3) :
    (((orows l ++ junk).set (l.length * 3) (.int .i64 t.c)).set (l.length * 3 + 1) (.int .i64 t.n)).set (l.length * 3 + 2) (.int .i64 t.m) = orows (l ++ [t]) ++ junk.drop 3 := by
  have hl := orows_length l
  have s : ∀ (c : List Value) (j : Nat) (x : Value), (orows l ++ c).set (l.length * 3 + j) x = orows l ++ c.set j x := by
    intro c j x
    rw [List.set_append_right _ _ (by omega), hl]
    congr 2; omega
  have s0 := s junk 0 (.int .i64 t.c)
  rw [Nat.add_zero] at s0
  rw [s0, s, s, orows_append]
  match junk, hj with
  | a :: b :: c :: r, _ => simp [orows, ocells]

/-- What a call owns lies in memory. -/
theorem OlB.of_own {w : World} {base e B n : Nat} {v : Value} {op : Nat → O3} {l : List O3} (h : w.ownsRow base e 3 v n (orows l)) (hl : l.length = n) (hB : B ≤ base) (hk : OKs op l) (hok : ∀ i, i < n → (op i).Ok) : OlB B w n op v := by
  rcases h.2 with ⟨rfl, rfl⟩ | ⟨g, cap, cur, rfl, hbg, hgg, hc, hm, hs, ht⟩
  · exact .inl ⟨rfl, _, _, rfl⟩
  · refine .inr ⟨g, 0, cap, rfl, by omega, hc, hm, fun i hi => ⟨?_, hok i hi⟩⟩
    have hi' : i < l.length := by omega
    have hq : l[i]? = some l[i] := List.getElem?_eq_getElem hi'
    have hkid := hk i _ hq
    have cell : ∀ j, j < 3 → w.cell? ⟨g, 0 + i * 3 + j, none⟩ = (ocells l[i])[j]? := by
      intro j hj
      have := h.cellAt (i * 3 + j) (by omega)
      rw [Nat.zero_add, this]
      have := orows_at l [] i _ hq j hj
      simpa using this
    rw [← hkid]
    exact ⟨cell 0 (by omega), cell 1 (by omega), cell 2 (by omega)⟩

/-- Three stores, from cell p of block g on. -/
abbrev stO3 (w : World) (g p : Nat) (t : O3) : World :=
  ((w.setCell ⟨g, p, none⟩ (.int .i64 t.c)).setCell ⟨g, p + 1, none⟩ (.int .i64 t.n)).setCell ⟨g, p + 2, none⟩ (.int .i64 t.m)

theorem storedO3 {w : World} {base e g cap n : Nat} {l : List O3} {junk : List Value} (h : w.ownsRow base e 3 (.slice (some ⟨g, 0, none⟩) n cap) n (orows l ++ junk)) (hj : 3 ≤ junk.length) (t : O3) :
    (stO3 w g (l.length * 3) t).ownsRow base e 3 (.slice (some ⟨g, 0, none⟩) n cap) n (orows (l ++ [t]) ++ junk.drop 3) ∧ w.grownBy (stO3 w g (l.length * 3) t) (some g) := by
  obtain ⟨q1, g1⟩ := h.stored (l.length * 3) (.int .i64 t.c)
  obtain ⟨q2, g2⟩ := q1.stored (l.length * 3 + 1) (.int .i64 t.n)
  obtain ⟨q3, g3⟩ := q2.stored (l.length * 3 + 2) (.int .i64 t.m)
  rw [setO3 l junk hj t] at q3
  exact ⟨q3, grownb (grownb g1 g2) g3⟩

/-- A row goes on by one op. -/
theorem row_stepO {w wr w2 : World} {e n cap : Nat} {l : List O3} {junk : List Value} {op : Nat → O3}
    (hown : wr.ownsRow w.heap.size e 3 (.slice (some ⟨w.heap.size, 0, none⟩) n cap) n (orows l ++ junk)) (hj : 3 ≤ junk.length) (hks : OKs op l)
    (hbel : Below w.heap.size w wr) (hsz : w.heap.size < wr.heap.size) (hb : Below wr.heap.size wr w2) :
    (stO3 w2 w.heap.size (l.length * 3) (op l.length)).ownsRow w.heap.size e 3 (.slice (some ⟨w.heap.size, 0, none⟩) n cap) n (orows (l ++ [op l.length]) ++ junk.drop 3) ∧ OKs op (l ++ [op l.length]) ∧
    Below w.heap.size w (stO3 w2 w.heap.size (l.length * 3) (op l.length)) ∧ w.heap.size < (stO3 w2 w.heap.size (l.length * 3) (op l.length)).heap.size := by
  obtain ⟨q, g⟩ := storedO3 (own_below5 hown hb) hj (op l.length)
  have hb2 : Below w.heap.size w w2 := hbel.trans (hb.mono (by omega))
  exact ⟨q, hks.snoc, hb2.trans ⟨g.os, g.tape, g.output, g.size, fun k hk => g.block k (by have := hb2.size; omega) (by intro e; injection e with e; omega)⟩, Nat.lt_of_lt_of_le hsz (Nat.le_trans hb.size g.size)⟩
end Go.Proofs.YthnhdmanmmdoiaaDoor

/- An append of at least one: the row stays where it is, or it is a new block. No conditions but those of the library's own law. -/
namespace Go.Proofs.YthnhdmanmmdoiaaDoor
open Go.RowKit

theorem append_where {P : Program} (w : World) (base : Nat) (t ty e : TypeId) (i : TypeInfo) (z : Value) (size bytes : Nat) (ht : P.underlying t = some (.slice e)) (hi : P.info? e = some i) (hz : i.zero = some z)
    (hsize : i.size = size) (hby : i.bytes = bytes)
    (v : Value) (n : Nat) (xs : List Value) (hown : w.ownsRow base e size v n xs)
    (a : Addr) (m c : Nat) (news : List Value) (hl : news.length = m * size) (hnews : ∀ j u, news[j]? = some u → w.cell? (a.add j) = some u) (h1 : ∀ u ∈ news, u.oneCell' = true)
    (h63 : n + m ≤ maxLen) (hbytes : (n + m) * bytes ≤ 140737488355328) (h0 : 0 < m) (v' : Value) (w' : World) (hrun : (Builtin.append_ #[t, t] ty #[v, .slice (some a) m c]).run P w = .ok v' w') :
    v'.ownBlock = v.ownBlock ∨ v'.ownBlock = some w.heap.size := by
  subst hsize hby
  have hsmall : n + m ≤ 9223372036854775807 := by simp only [maxLen] at h63; omega
  rcases hown.2 with ⟨rfl, rfl⟩ | ⟨g, cap, cur, rfl, hbg, hg, hnc, hcm, hcs, htake⟩
  · have hr := run_append_nil (P := P) w t ty e i z ht hi hz a m c news hl hnews h0 (by omega) (by rw [Nat.zero_add] at hbytes; omega)
    rw [hr] at hrun
    injection hrun with e1 _
    exact .inr (by rw [← e1]; rfl)
  · by_cases hroom : n + m ≤ cap
    · have hr := run_append_room (P := P) w t ty e i ht hi g n cap cur hg a m c news hl hnews h1 hroom (by rw [hl, hcs, ← Nat.add_mul]; exact Nat.mul_le_mul_right _ hroom)
      rw [hr] at hrun
      injection hrun with e1 _
      exact .inl (by rw [← e1]; rfl)
    · have hr := run_append_grow (P := P) w t ty e i z ht hi hz ⟨g, 0, none⟩ n cap xs hown.1 (hown.cells (g := g) rfl) a m c news hl hnews (by omega) (by omega) (growslice_fits (by omega) hbytes)
      rw [hr] at hrun
      injection hrun with e1 _
      exact .inr (by rw [← e1]; rfl)

theorem wpListIn_append_at {F : Fence} {n : Nat} {P : Program} (w : World) {ops : Array Oper} {rest : List Oper} {o : Oper} {a : Act} {Q : Exit → Act → World → Prop}
    (hg : o.guard = none) (s x : Operand) (t : TypeId) (hop : o.op = Op.call { callee := Callee.builtin Builtin.append, args := #[s, x], argTypes := #[t, t] })
    (base : Nat) (e : TypeId) (i : TypeInfo) (z : Value) (size bytes : Nat) (h1 : P.underlying t = some (.slice e)) (h2 : P.info? e = some i) (h3 : i.zero = some z) (h4 : i.size = size) (h5 : i.bytes = bytes) (h6 : z.cells.size = size) (h7 : 0 < size)
    (v : Value) (k : Nat) (xs : List Value) (hs : a.eval s = v) (hown : w.ownsRow base e size v k xs) (ad : Addr) (m c : Nat) (news : List Value) (hx : a.eval x = .slice (some ad) m c) (hn : news.length = m * size)
    (hc : ∀ j u, news[j]? = some u → w.cell? (ad.add j) = some u) (h1c : ∀ u ∈ news, u.oneCell' = true) (b1 : k + m ≤ maxLen) (b2 : (k + m) * bytes ≤ 140737488355328) (b3 : base ≤ w.heap.size) (hm : 0 < m)
    (hK : ∀ v' w', Hid (w'.ownsRow base e size v' (k + m) (xs ++ news)) → Hid (w.grownBy w' v.ownBlock) → Hid (v'.ownBlock = v.ownBlock ∨ v'.ownBlock = some w.heap.size) → wpListIn F n P ops Q rest (a.put o.dst v') w') :
    wpListIn F n P ops Q (o :: rest) a w := by
  refine wpListIn_plain hg fun K hK' => ?_
  obtain ⟨v', w', hrun, r1, r2, r3⟩ := run_append_own (P := P) w base t o.type e i z size bytes h1 h2 h3 h4 h5 h6 h7 v k xs hown ad m c news hn hc h1c b1 b2 b3
  have r4 := append_where (P := P) w base t o.type e i z size bytes h1 h2 h3 h4 h5 v k xs hown ad m c news hn hc h1c b1 b2 hm v' w' hrun
  unfold Oper.wpIn
  refine ⟨?_, ?_⟩
  · simp [Oper.about, hop, resolve, Target.leads, Sem.run_pure]
  · rw [Oper.semAt_plain F _ _ (by rw [hop]; intro c hc'; cases hc')]
    simp [execOp, hop, resolve, invoke, builtin, hs, hx, hrun, Result.andThen]
    exact hK' _ _ (hK v' w' r1 r2 r4)
/-- The same as one step of a region that draws its order. -/
theorem step_append_at {P : Program} {w : World} {ops : Array Oper} {o : Oper} {a : Act} {K : Act → World → Prop} {Q : Exit → Act → World → Prop} {E : Prop} (hgd : o.guard = none) (s x : Operand) (t : TypeId)
    (ho : o.op = .call { callee := .builtin .append, args := #[s, x], argTypes := #[t, t] })
    (base : Nat) (e : TypeId) (i : TypeInfo) (z : Value) (size bytes : Nat) (ht : P.underlying t = some (.slice e)) (hi : P.info? e = some i) (hz : i.zero = some z)
    (hsize : i.size = size) (hby : i.bytes = bytes) (hzs : z.cells.size = size) (hsz : 0 < size)
    (v : Value) (n : Nat) (xs : List Value) (hs : a.eval s = v) (hown : w.ownsRow base e size v n xs)
    (ad : Addr) (m c : Nat) (news : List Value) (hx : a.eval x = .slice (some ad) m c) (hl : news.length = m * size) (hnews : ∀ j u, news[j]? = some u → w.cell? (ad.add j) = some u) (h1 : ∀ u ∈ news, u.oneCell' = true)
    (h63 : n + m ≤ maxLen) (hbytes : (n + m) * bytes ≤ 140737488355328) (hbase : base ≤ w.heap.size) (hm : 0 < m)
    (h : ∀ v' w', Hid (w'.ownsRow base e size v' (n + m) (xs ++ news)) → Hid (w.grownBy w' v.ownBlock) → Hid (v'.ownBlock = v.ownBlock ∨ v'.ownBlock = some w.heap.size) → K (a.put o.dst v') w') :
    if Region.wanted o (yielded ops a.tmps) = true then Oper.wp P o a w K Q else E := by
  have hw : Region.wanted o (yielded ops a.tmps) = true := by simp [Region.wanted, hgd]
  rw [if_pos hw]
  obtain ⟨v', w', hr, h2, h3, _⟩ := run_append_own (P := P) w base t o.type e i z size bytes ht hi hz hsize hby hzs hsz v n xs hown ad m c news hl hnews h1 h63 hbytes hbase
  have r4 := append_where (P := P) w base t o.type e i z size bytes ht hi hz hsize hby v n xs hown ad m c news hl hnews h1 h63 hbytes hm v' w' hr
  unfold Oper.wp execOp
  simp only [ho, resolve, invoke, builtin, Sem.run_bind, Sem.run_pure, Result.andThen_ok, List.map_toArray, List.map_cons, List.map_nil, hs, hx, hr]
  exact h v' w' h2 h3 r4
end Go.Proofs.YthnhdmanmmdoiaaDoor
