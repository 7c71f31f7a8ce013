/- Rows of syntax that a call owns. No conditions. -/
import Derived.Test.YtlclfmjpnchmbaaGreatZG0Stx
import Derived.Test.YtlclfmjpnchmbaaGreatRows
import Derived.OwnWalk
import Derived.Laws.OwnMore
import Derived.Laws.ResultCell
import Derived.Laws.AppendOwnNone
import Derived.Laws.CopyOwn
import Derived.Deep.OwnRows
import Derived.Deep.RegionLaw
namespace Go.Proofs.YtlclfmjpnchmbaaGreat
open Go.ChangeShapes Go.WideShapes Go.ChangeAt Go.RowKit

theorem newx (w : World) (o : Obj) : Below w.heap.size w (w.alloc o) := (Below.refl _ _).alloc (Nat.le_refl _) o

/-- A row of a slice of syntax: the node, its set's slice and its kids'. -/
abbrev XR : Type := X × Value × Value
def xcells (q : XR) : List Value := [.int .i64 q.1.op, .int .i64 q.1.at_, .int .i64 q.1.n, .string q.1.s, q.2.1, q.2.2]
def xrows (l : List XR) : List Value := l.flatMap xcells
theorem xrows_append (a b : List XR) : xrows (a ++ b) = xrows a ++ xrows b := by simp [xrows]
theorem xrows_length (l : List XR) : (xrows l).length = l.length * 6 := by
  induction l with
  | nil => rfl
  | cons t r ih => simp only [xrows, List.flatMap_cons, List.length_append, List.length_cons] at ih ⊢; rw [ih]; simp [xcells]; omega

/-- The list's nodes are those of the indices. -/
def XKs (kid : Nat → X) (l : List XR) : Prop := ∀ i q, l[i]? = some q → q.1 = kid i
theorem XKs.nil (kid : Nat → X) : XKs kid [] := fun i q h => by simp at h
theorem XKs.snoc {kid : Nat → X} {l : List XR} (h : XKs kid l) (v : Value × Value) : XKs kid (l ++ [(kid l.length, v)]) := by
  intro i q hq
  rcases Nat.lt_trichotomy i l.length with hi | hi | hi
  · rw [List.getElem?_append_left hi] at hq; exact h i q hq
  · subst hi; simp at hq; subst hq; rfl
  · rw [List.getElem?_eq_none (by simp; omega)] at hq; cases hq

theorem xrows_at (l : List XR) (junk : List Value) : ∀ (i : Nat) (q : XR), l[i]? = some q → ∀ j, j < 6 → (xrows l ++ junk)[i * 6 + j]? = (xcells q)[j]? := by
  induction l with
  | nil => intro i q h; simp at h
  | cons x r ih =>
    intro i q h j hj
    have e : xrows (x :: r) ++ junk = xcells x ++ (xrows r ++ junk) := by simp [xrows]
    have hl : (xcells x).length = 6 := rfl
    rw [e]
    cases i with
    | zero =>
      simp at h; subst h
      rw [List.getElem?_append_left (by omega)]; congr 1; omega
    | succ i =>
      simp at h
      rw [List.getElem?_append_right (by omega), hl]
      have := ih i q h j hj
      rw [← this]; congr 1; omega

/-- Six stores behind the rows. -/
theorem set6 (l : List XR) (junk : List Value) (hj : 6 ≤ junk.length) (t : X) (sv v : Value) :
    ((((((xrows l ++ junk).set (l.length * 6) (.int .i64 t.op)).set (l.length * 6 + 1) (.int .i64 t.at_)).set (l.length * 6 + 2) (.int .i64 t.n)).set (l.length * 6 + 3) (.string t.s)).set (l.length * 6 + 4) sv).set (l.length * 6 + 5) v = xrows (l ++ [(t, sv, v)]) ++ junk.drop 6 := by
  have hl := xrows_length l
  have s : ∀ (c : List Value) (j : Nat) (x : Value), (xrows l ++ c).set (l.length * 6 + j) x = xrows l ++ c.set j x := by
    intro c j x
    rw [List.set_append_right _ _ (by omega), hl]
    congr 2; omega
  have s0 := s junk 0 (.int .i64 t.op)
  rw [Nat.add_zero] at s0
  rw [s0, s, s, s, s, s, xrows_append]
  match junk, hj with
  | a :: b :: c :: d :: e :: f :: r, _ => simp [xrows, xcells]

theorem own_belowX {w w' : World} {base e size n : Nat} {v : Value} {xs : List Value} (h : w.ownsRow base e size v n xs) (hb : Below w.heap.size w w') : w'.ownsRow base e size v n xs := by
  refine ⟨h.1, ?_⟩
  rcases h.2 with hn | ⟨g, cap, cur, rfl, hbg, hgg, rest⟩
  · exact .inl hn
  · exact .inr ⟨g, cap, cur, rfl, hbg, (hb.block g (Array.getElem?_eq_some_iff.1 hgg).1).trans hgg, rest⟩

/-- What a call owns lies in memory. -/
theorem XsB.of_own {R : World → Value → List Int → Prop} {w : World} {base e B n : Nat} {v : Value} {kid : Nat → X} {l : List XR} (h : w.ownsRow base e 6 v n (xrows l)) (hl : l.length = n) (hB : B ≤ base) (hk : XKs kid l) (hin : ∀ q ∈ l, q.1.InB R B w q.2.1 q.2.2) : XsB R B w n kid v := by
  rcases h.2 with ⟨rfl, rfl⟩ | ⟨g, cap, cur, rfl, hbg, hgg, hc, hm, hs, ht⟩
  · exact .inl ⟨rfl, _, _, rfl⟩
  · refine .inr ⟨g, 0, cap, fun i => ((l[i]?).getD (.no, .bool false, .bool false)).2.1, fun i => ((l[i]?).getD (.no, .bool false, .bool false)).2.2, rfl, by omega, hc, hm, fun i hi => ?_⟩
    have hi' : i < l.length := by omega
    have hq : l[i]? = some l[i] := List.getElem?_eq_getElem hi'
    have hkid := hk i _ hq
    have cell : ∀ j, j < 6 → w.cell? ⟨g, 0 + i * 6 + j, none⟩ = (xcells l[i])[j]? := by
      intro j hj
      have := h.cellAt (i * 6 + j) (by omega)
      rw [Nat.zero_add, this]
      have := xrows_at l [] i _ hq j hj
      simpa using this
    simp only [hq, Option.getD_some]
    rw [← hkid]
    exact ⟨⟨cell 0 (by omega), cell 1 (by omega), cell 2 (by omega), cell 3 (by omega), cell 4 (by omega), cell 5 (by omega)⟩, hin _ (List.getElem_mem hi')⟩

theorem grownX {w w1 w2 : World} {row : Option Nat} (h : w.grownBy w1 row) (g : w1.grownBy w2 row) : w.grownBy w2 row :=
  ⟨g.os.trans h.os, g.tape.trans h.tape, g.output.trans h.output, Nat.le_trans h.size g.size, fun k hk hr => (g.block k (Nat.lt_of_lt_of_le hk h.size) hr).trans (h.block k hk hr)⟩
theorem keepX {w w' : World} {g : Nat} (h : w.grownBy w' (some g)) (a : Addr) (u : Value) (hne : a.block ≠ g) (hc : w.cell? a = some u) : w'.cell? a = some u :=
  h.cell hc (by simpa using hne)

/-- Six stores, from cell p of block g on. -/
abbrev st6 (w : World) (g p : Nat) (t : X) (sv v : Value) : World :=
  (((((w.setCell ⟨g, p, none⟩ (.int .i64 t.op)).setCell ⟨g, p + 1, none⟩ (.int .i64 t.at_)).setCell ⟨g, p + 2, none⟩ (.int .i64 t.n)).setCell ⟨g, p + 3, none⟩ (.string t.s)).setCell ⟨g, p + 4, none⟩ sv).setCell ⟨g, p + 5, none⟩ v

theorem stored6 {w : World} {base e g cap n : Nat} {l : List XR} {junk : List Value} (h : w.ownsRow base e 6 (.slice (some ⟨g, 0, none⟩) n cap) n (xrows l ++ junk)) (hj : 6 ≤ junk.length) (t : X) (sv v : Value) :
    (st6 w g (l.length * 6) t sv v).ownsRow base e 6 (.slice (some ⟨g, 0, none⟩) n cap) n (xrows (l ++ [(t, sv, v)]) ++ junk.drop 6) ∧ w.grownBy (st6 w g (l.length * 6) t sv v) (some g) := by
  obtain ⟨q1, g1⟩ := h.stored (l.length * 6) (.int .i64 t.op)
  obtain ⟨q2, g2⟩ := q1.stored (l.length * 6 + 1) (.int .i64 t.at_)
  obtain ⟨q3, g3⟩ := q2.stored (l.length * 6 + 2) (.int .i64 t.n)
  obtain ⟨q4, g4⟩ := q3.stored (l.length * 6 + 3) (.string t.s)
  obtain ⟨q5, g5⟩ := q4.stored (l.length * 6 + 4) sv
  obtain ⟨q6, g6⟩ := q5.stored (l.length * 6 + 5) v
  rw [set6 l junk hj t sv v] at q6
  exact ⟨q6, grownX (grownX (grownX (grownX (grownX g1 g2) g3) g4) g5) g6⟩

/-- A row goes on by one node. -/
theorem row_stepX {w wr w2 : World} {e n cap : Nat} {l : List XR} {junk : List Value} {kid : Nat → X} {sv v : Value}
    (hown : wr.ownsRow w.heap.size e 6 (.slice (some ⟨w.heap.size, 0, none⟩) n cap) n (xrows l ++ junk)) (hj : 6 ≤ junk.length) (hks : XKs kid l) (hin : ∀ q ∈ l, q.1.At (w.heap.size + 1) wr q.2.1 q.2.2)
    (hbel : Below w.heap.size w wr) (hsz : w.heap.size < wr.heap.size) (hb : Below wr.heap.size wr w2) (hv : (kid l.length).At wr.heap.size w2 sv v) :
    (st6 w2 w.heap.size (l.length * 6) (kid l.length) sv v).ownsRow w.heap.size e 6 (.slice (some ⟨w.heap.size, 0, none⟩) n cap) n (xrows (l ++ [(kid l.length, sv, v)]) ++ junk.drop 6) ∧ XKs kid (l ++ [(kid l.length, sv, v)]) ∧
    (∀ q ∈ l ++ [(kid l.length, sv, v)], q.1.At (w.heap.size + 1) (st6 w2 w.heap.size (l.length * 6) (kid l.length) sv v) q.2.1 q.2.2) ∧ Below w.heap.size w (st6 w2 w.heap.size (l.length * 6) (kid l.length) sv v) ∧ w.heap.size < (st6 w2 w.heap.size (l.length * 6) (kid l.length) sv v).heap.size := by
  obtain ⟨q, g⟩ := stored6 (own_belowX hown hb) hj (kid l.length) sv v
  have hk : ∀ a u, w.heap.size + 1 ≤ a.block → w2.cell? a = some u → (st6 w2 w.heap.size (l.length * 6) (kid l.length) sv v).cell? a = some u := fun a u ha hc => keepX g a u (by omega) hc
  have hb2 : Below w.heap.size w w2 := hbel.trans (hb.mono (by omega))
  refine ⟨q, hks.snoc (sv, v), ?_, hb2.trans ⟨g.os, g.tape, g.output, g.size, fun k hk => g.block k (by have := hb2.size; omega) (by intro e; injection e with e; omega)⟩, Nat.lt_of_lt_of_le hsz (Nat.le_trans hb.size g.size)⟩
  intro x hx
  rcases List.mem_append.1 hx with hx | hx
  · exact X.At.kept (Nat.le_refl _) hk (X.At.below hb (hin x hx))
  · simp only [List.mem_singleton] at hx
    subst hx
    exact X.At.kept (Nat.le_refl _) hk (X.At.mono (by omega) hv)

/-- Three new blocks, behind a call. -/
theorem threeX {w w1 : World} {o1 o2 o3 : Obj} (hb : Below (((w.alloc o1).alloc o2).alloc o3).heap.size (((w.alloc o1).alloc o2).alloc o3) w1) :
    w1.heap[w.heap.size]? = some o1 ∧ w1.heap[w.heap.size + 1]? = some o2 ∧ w1.heap[w.heap.size + 1 + 1]? = some o3 ∧ w.heap.size + 3 ≤ w1.heap.size ∧ Below w.heap.size w w1 := by
  have e1 : (w.alloc o1).heap.size = w.heap.size + 1 := by simp
  have e2 : ((w.alloc o1).alloc o2).heap.size = w.heap.size + 1 + 1 := by simp
  have e3 : (((w.alloc o1).alloc o2).alloc o3).heap.size = w.heap.size + 1 + 1 + 1 := by simp
  have n3 := heap_alloc_new ((w.alloc o1).alloc o2) o3
  have n2 := heap_alloc_new (w.alloc o1) o2
  have n1 := heap_alloc_new w o1
  rw [e2] at n3
  rw [e1] at n2
  refine ⟨?_, ?_, ?_, by have := hb.size; omega, ((newx w o1).trans (((newx _ o2).mono (by omega)).trans ((newx _ o3).mono (by omega)))).trans (hb.mono (by omega))⟩
  · rw [hb.block _ (by omega), Below.heap_alloc _ _ _ (by omega), Below.heap_alloc _ _ _ (by omega)]; exact n1
  · rw [hb.block _ (by omega), Below.heap_alloc _ _ _ (by omega)]; exact n2
  · rw [hb.block _ (by omega)]; exact n3

theorem results_cellX {fn : Func} {p : Tmp} {ty : TypeId} (h : fn.results = #[.cell p ty]) (tmps : Array Value) (P : Program) (w : World) :
    (results fn tmps).run P w = ((asAddr (tmps.getD p undef)).run P w).andThen fun a w₁ => (loadVar ty a).run P w₁ := by
  simp only [results, h]
  simp [Sem.run_bind, Result.andThen]
theorem stx_info : (Tryz.prog.info? 32).map (fun i => (i.zero, i.size, i.bytes)) = some (some (.agg #[.int .i64 0, .int .i64 0, .int .i64 0, .string ⟨#[]⟩, .slice none 0 0, .slice none 0 0]), 6, 88) := by kernel_rfl
end Go.Proofs.YtlclfmjpnchmbaaGreat

/- Laws on rows of ints: an append from whatever source, and what a row holds behind copies. No conditions of our own. -/
namespace Go.Proofs.YtlclfmjpnchmbaaGreat
open Go.ChangeShapes Go.WideShapes Go.ChangeAt Go.RowKit

theorem int_info : (Tryz.prog.info? 3).map (fun i => (i.zero, i.size, i.bytes)) = some (some (.int .i64 0), 1, 8) := by kernel_rfl

theorem wpList_append_any {P : Program} (w : World) {ops : Array Oper} {rest : List Oper} {o : Oper} {a : Act} {Q : Exit → Act → World → Prop} (hgd : o.guard = none) (s x : Operand) (t : TypeId)
    (ho : o.op = .call { callee := .builtin .append, args := #[s, x], argTypes := #[t, t] })
    (base : Nat) (e : TypeId) (i : TypeInfo) (z : Value) (size bytes : Nat) (ht : P.underlying t = some (.slice e)) (hi : P.info? e = some i) (hz : i.zero = some z)
    (hsize : i.size = size) (hby : i.bytes = bytes) (hzs : z.cells.size = size) (hsz : 0 < size)
    (v : Value) (n : Nat) (xs : List Value) (hs : a.eval s = v) (hown : w.ownsRow base e size v n xs)
    (ao : Option Addr) (m c : Nat) (news : List Value) (hx : a.eval x = .slice ao m c) (hl : news.length = m * size) (hnone : ao = none → m = 0 ∧ c = 0) (hnews : ∀ ad, ao = some ad → ∀ j u, news[j]? = some u → w.cell? (ad.add j) = some u) (h1 : ∀ u ∈ news, u.oneCell' = true)
    (h63 : n + m ≤ maxLen) (hbytes : (n + m) * bytes ≤ 140737488355328) (hbase : base ≤ w.heap.size)
    (h : ∀ v' w', Hid (w'.ownsRow base e size v' (n + m) (xs ++ news)) → Hid (w.grownBy w' v.ownBlock) → wpList P ops Q rest (a.put o.dst v') w') : wpList P ops Q (o :: rest) a w := by
  cases ao with
  | some ad => exact wpList_append_own w hgd s x t ho base e i z size bytes ht hi hz hsize hby hzs hsz v n xs hs hown ad m c news hx hl (hnews ad rfl) h1 h63 hbytes hbase fun v' w' h2 h3 _ => h v' w' h2 h3
  | none =>
    obtain ⟨rfl, rfl⟩ := hnone rfl
    have hn : news = [] := List.eq_nil_of_length_eq_zero (by simpa using hl)
    subst hn
    refine wpList_append_own_none hgd s x t ho base e i size ht hi v n xs hs hown hx ?_
    have h1 : w.ownsRow base e size v (n + 0) (xs ++ []) := by simpa using hown
    exact h v w h1 (World.grownBy.refl w v.ownBlock)

/-- A copy into a row that is known whole, as an equation. -/
theorem copy_run {P : Program} {w : World} (dT sT ty elem : TypeId) (hu : P.underlying dT = some (.slice elem)) (hsz : (P.info? elem).map (·.size) = some 1)
    (dp sp : Option Addr) (dLen dCap sLen sCap g off : Nat) (cur : List Value) (t : TypeId) (hg : w.heap[g]? = some (.cells cur.toArray t (0, 0))) (cs : List Value) (hn : cs.length = Nat.min sLen dLen)
    (hpos : 0 < cs.length → dp = some ⟨g, off, none⟩ ∧ ∃ ad, sp = some ad ∧ ∀ j v, cs[j]? = some v → w.cell? (ad.add j) = some v)
    (hfit : off + cs.length ≤ cur.length) (h1 : ∀ v ∈ cs, v.oneCell' = true) (B : Nat) (w0 : World) (hb : Below B w0 w) (hBg : B ≤ g) :
    ∃ w', (Builtin.copy_ #[dT, sT] ty #[.slice dp dLen dCap, .slice sp sLen sCap]).run P w = .ok (goInt cs.length) w' ∧ w'.heap[g]? = some (.cells (splice cur off cs).toArray t (0, 0)) ∧ Below B w0 w' := by
  by_cases h0 : cs.length = 0
  · obtain rfl : cs = [] := List.eq_nil_of_length_eq_zero h0
    have hrun := run_copy_none (P := P) w dT sT ty elem dp sp dLen dCap sLen sCap hu hsz (by simpa using hn.symm)
    exact ⟨w, hrun, by simpa [splice] using hg, hb⟩
  · obtain ⟨rfl, ad, rfl, hsrc⟩ := hpos (by omega)
    have hrun := run_copy_row (P := P) w dT sT ty elem g off dLen dCap ad sLen sCap cur.toArray t cs hu hsz hg hn hsrc (by simpa using hfit) h1
    exact ⟨_, hrun, by simpa [splice] using setRow_heap w g _ _ t _ hg, below_setRow hb hBg _⟩

theorem own_heap {w : World} {base g : Nat} {xs : List Int} (hg : w.heap[g]? = some (.cells (xs.map (Value.int .i64)).toArray 3 (0, 0))) (hb : base ≤ g) (hl : xs.length ≤ maxLen) :
    Own w base (.slice (some ⟨g, 0, none⟩) xs.length xs.length) xs :=
  ⟨by simp, .inr ⟨g, xs.length, _, rfl, hb, hg, Nat.le_refl _, hl, by simp, by rw [Nat.mul_one]; exact List.take_of_length_le (by simp)⟩⟩

theorem ints_cells (xs : List Int) : ∀ v ∈ xs.map (Value.int .i64), v.oneCell' = true := by
  intro v hv
  obtain ⟨x, _, rfl⟩ := List.mem_map.1 hv
  rfl

theorem made_ints (m : Nat) : ∃ Z : List Value, madeCells #[Value.int .i64 0] m = Z.toArray ∧ Z.length = m :=
  ⟨(madeCells #[Value.int .i64 0] m).toList, by simp, by rw [toList_madeCells_one]; simp⟩

theorem splice_all {Z X : List Value} (h : Z.length = X.length) : splice Z 0 X = X := by
  unfold splice
  rw [Nat.zero_add, ← h, List.drop_length]; simp

theorem splice_two {Z X1 X2 : List Value} {at_ : Nat} {u : Value} (h1 : X1.length = at_) (hZ : Z.length = at_ + 1 + X2.length) : splice ((splice Z 0 X1).set at_ u) (at_ + 1) X2 = X1 ++ u :: X2 := by
  subst h1
  have e1 : splice Z 0 X1 = X1 ++ Z.drop X1.length := by unfold splice; simp
  have hd : 0 < (Z.drop X1.length).length := by rw [List.length_drop]; omega
  obtain ⟨z, r, hr⟩ : ∃ z r, Z.drop X1.length = z :: r := by
    cases h : Z.drop X1.length with
    | nil => rw [h] at hd; simp at hd
    | cons z r => exact ⟨z, r, rfl⟩
  have hrl : r.length = X2.length := by
    have := congrArg List.length hr
    rw [List.length_drop] at this
    simp at this; omega
  have e2 : (X1 ++ Z.drop X1.length).set X1.length u = X1 ++ u :: r := by
    rw [hr, List.set_append_right _ _ (Nat.le_refl _), Nat.sub_self, List.set_cons_zero]
  rw [e1, e2]
  unfold splice
  rw [show X1 ++ u :: r = (X1 ++ [u]) ++ r by simp]
  rw [List.take_left' (by simp), List.drop_eq_nil_of_le (by simp; omega)]
  simp
end Go.Proofs.YtlclfmjpnchmbaaGreat

/- What is written whose rows and sets are a call's own, each in a block of its own. No conditions. -/
namespace Go.Proofs.YtlclfmjpnchmbaaGreat
open Go.ChangeShapes Go.WideShapes Go.ChangeAt Go.RowKit

/-- A node's rows and its set are owned; their blocks are S. -/
def XOwn (w : World) : X → Value → Value → List Nat → Prop
  | .no, _, _, _ => False
  | .mk _ _ n s set len kid, sv, v, S => (s.size ≤ maxLen ∧ (-9223372036854775808 ≤ n ∧ n ≤ 9223372036854775807) ∧ set.length ≤ maxLen) ∧ Own w 0 sv set ∧ ∃ S2, S = sv.ownBlock.toList ++ S2 ∧
    ((len = 0 ∧ v = .slice none 0 0 ∧ S2 = []) ∨
     ∃ (g cap : Nat) (l : List XR) (SS : List (List Nat)), v = .slice (some ⟨g, 0, none⟩) len cap ∧ w.ownsRow 0 32 6 (.slice (some ⟨g, 0, none⟩) len cap) len (xrows l) ∧ l.length = len ∧ SS.length = len ∧ XKs kid l ∧ S2 = g :: SS.flatten ∧
       ∀ i, i < len → ∃ su u T, l[i]? = some (kid i, su, u) ∧ SS[i]? = some T ∧ XOwn w (kid i) su u T)

/-- A row of them, owned. -/
def XsOwn (w : World) (len : Nat) (kid : Nat → X) (v : Value) (S : List Nat) : Prop :=
    (len = 0 ∧ v = .slice none 0 0 ∧ S = []) ∨
     ∃ (g cap : Nat) (l : List XR) (SS : List (List Nat)), v = .slice (some ⟨g, 0, none⟩) len cap ∧ w.ownsRow 0 32 6 (.slice (some ⟨g, 0, none⟩) len cap) len (xrows l) ∧ l.length = len ∧ SS.length = len ∧ XKs kid l ∧ S = g :: SS.flatten ∧
       ∀ i, i < len → ∃ su u T, l[i]? = some (kid i, su, u) ∧ SS[i]? = some T ∧ XOwn w (kid i) su u T

theorem XOwn.parts {w : World} {t : X} {sv v : Value} {S : List Nat} (h : XOwn w t sv v S) : Own w 0 sv t.set ∧ ∃ S2, S = sv.ownBlock.toList ++ S2 ∧ XsOwn w t.len t.kid v S2 := by
  cases t <;> unfold XOwn at h <;> first | exact h.elim | exact h.2
theorem XOwn.plain {w : World} {t : X} {sv v : Value} {S : List Nat} (h : XOwn w t sv v S) : t.s.size ≤ maxLen ∧ (-9223372036854775808 ≤ t.n ∧ t.n ≤ 9223372036854775807) ∧ t.set.length ≤ maxLen := by
  cases t <;> unfold XOwn at h <;> first | exact h.elim | exact h.1
theorem XOwn.mk' {w : World} {op a n : Int} {s : ByteArray} {set : List Int} {len : Nat} {kid : Nat → X} {sv v : Value} {S2 : List Nat} (h0 : s.size ≤ maxLen ∧ (-9223372036854775808 ≤ n ∧ n ≤ 9223372036854775807) ∧ set.length ≤ maxLen) (hs : Own w 0 sv set) (h : XsOwn w len kid v S2) : XOwn w (X.mk op a n s set len kid) sv v (sv.ownBlock.toList ++ S2) := by
  unfold XOwn; exact ⟨h0, hs, S2, rfl, h⟩
theorem XOwn.ne {w : World} {t : X} {sv v : Value} {S : List Nat} (h : XOwn w t sv v S) : t ≠ .no := by
  rintro rfl; exact h.elim

theorem own_sameX {w w' : World} {base e size n : Nat} {v : Value} {xs : List Value} (h : w.ownsRow base e size v n xs) (hb : ∀ g, v.ownBlock = some g → w'.heap[g]? = w.heap[g]?) : w'.ownsRow base e size v n xs := by
  refine ⟨h.1, ?_⟩
  rcases h.2 with hn | ⟨g, cap, cur, rfl, hbg, hgg, rest⟩
  · exact .inl hn
  · exact .inr ⟨g, cap, cur, rfl, hbg, (hb g rfl).trans hgg, rest⟩
theorem Own.sameX {w w' : World} {base : Nat} {v : Value} {xs : List Int} (h : Own w base v xs) (hb : ∀ g, v.ownBlock = some g → w'.heap[g]? = w.heap[g]?) : Own w' base v xs := own_sameX h hb

theorem mem_flatX {SS : List (List Nat)} {i : Nat} {T : List Nat} (h : SS[i]? = some T) {g : Nat} (hg : g ∈ T) : g ∈ SS.flatten := List.mem_flatten.2 ⟨T, List.mem_of_getElem? h, hg⟩
theorem mem_own {v : Value} {g : Nat} (h : v.ownBlock = some g) : g ∈ v.ownBlock.toList := by rw [h]; simp

theorem XOwn.same {w w' : World} (t : X) : ∀ {sv v : Value} {S : List Nat}, XOwn w t sv v S → (∀ g ∈ S, w'.heap[g]? = w.heap[g]?) → XOwn w' t sv v S := by
  induction t with
  | no => intro sv v S h; exact h.elim
  | mk op a n s set len kid ih =>
    intro sv v S h hs
    unfold XOwn at h ⊢
    obtain ⟨h0, hset, S2, rfl, hr⟩ := h
    refine ⟨h0, hset.sameX (fun g hg => hs g (List.mem_append_left _ (mem_own hg))), S2, rfl, ?_⟩
    rcases hr with h0 | ⟨g, cap, l, SS, h1, h2, h3, h4, h5, h6, h7⟩
    · exact .inl h0
    · refine .inr ⟨g, cap, l, SS, h1, own_sameX h2 (fun g' hg' => ?_), h3, h4, h5, h6, fun i hi => ?_⟩
      · simp only [Value.ownBlock, Option.some.injEq] at hg'
        subst hg'
        exact hs g (by rw [h6]; simp)
      · obtain ⟨su, u, T, k1, k2, k3⟩ := h7 i hi
        exact ⟨su, u, T, k1, k2, ih i k3 (fun g' hg' => hs g' (by rw [h6]; exact List.mem_append_right _ (List.mem_cons_of_mem _ (mem_flatX k2 hg'))))⟩

theorem XsOwn.same {w w' : World} {len : Nat} {kid : Nat → X} {v : Value} {S : List Nat} (h : XsOwn w len kid v S) (hs : ∀ g ∈ S, w'.heap[g]? = w.heap[g]?) : XsOwn w' len kid v S := by
  rcases h with h0 | ⟨g, cap, l, SS, h1, h2, h3, h4, h5, h6, h7⟩
  · exact .inl h0
  · refine .inr ⟨g, cap, l, SS, h1, own_sameX h2 (fun g' hg' => ?_), h3, h4, h5, h6, fun i hi => ?_⟩
    · simp only [Value.ownBlock, Option.some.injEq] at hg'
      subst hg'
      exact hs g (by rw [h6]; simp)
    · obtain ⟨su, u, T, k1, k2, k3⟩ := h7 i hi
      exact ⟨su, u, T, k1, k2, k3.same _ (fun g' hg' => hs g' (by rw [h6]; exact List.mem_cons_of_mem _ (mem_flatX k2 hg')))⟩

/-- A set of the call's own, from block B on, lies so. -/
theorem Own.setB' {w : World} {base B : Nat} {v : Value} {xs : List Int} (h : Own w base v xs) (hB : ∀ g, v.ownBlock = some g → B ≤ g) : SetB B w v xs := by
  have h' := h
  rcases h.2 with ⟨rfl, hn⟩ | ⟨g, cap, cur, rfl, hbg, hg, hnc, _⟩
  · exact .inl ⟨rfl, List.eq_nil_of_length_eq_zero hn⟩
  · refine .inr ⟨g, 0, cap, rfl, hB g rfl, hnc, fun j hj => ?_⟩
    rw [Nat.zero_add, World.ownsRow.cellAt h' j (by omega)]
    simp [List.getElem?_eq_getElem hj]

theorem own_base {w : World} {base B e size n : Nat} {v : Value} {xs : List Value} (h : w.ownsRow base e size v n xs) (hB : ∀ g, v.ownBlock = some g → B ≤ g) : w.ownsRow B e size v n xs := by
  refine ⟨h.1, ?_⟩
  rcases h.2 with hn | ⟨g, cap, cur, rfl, hbg, rest⟩
  · exact .inl hn
  · exact .inr ⟨g, cap, cur, rfl, hB g rfl, rest⟩

/-- What is owned lies in memory, from block B on. -/
theorem XOwn.at' {w : World} {B : Nat} (t : X) : ∀ {sv v : Value} {S : List Nat}, XOwn w t sv v S → (∀ g ∈ S, B ≤ g) → t.At B w sv v := by
  induction t with
  | no => intro sv v S h; exact h.elim
  | mk op a n s set len kid ih =>
    intro sv v S h hB
    unfold XOwn at h
    obtain ⟨h0, hset, S2, rfl, hr⟩ := h
    refine X.InB.mk' h0.1 h0.2.1 h0.2.2 (hset.setB' (fun g hg => hB g (List.mem_append_left _ (mem_own hg)))) ?_
    rcases hr with ⟨rfl, rfl, _⟩ | ⟨g, cap, l, SS, rfl, h2, h3, h4, h5, h6, h7⟩
    · exact .inl ⟨rfl, _, _, rfl⟩
    · refine XsB.of_own (own_base (B := B) h2 (fun g' hg' => ?_)) h3 (Nat.le_refl _) h5 (fun q hq => ?_)
      · simp only [Value.ownBlock, Option.some.injEq] at hg'
        subst hg'
        exact hB g (by rw [h6]; simp)
      obtain ⟨i, hi, rfl⟩ := List.mem_iff_getElem.1 hq
      obtain ⟨su, u, T, k1, k2, k3⟩ := h7 i (by omega)
      rw [List.getElem?_eq_getElem hi] at k1
      injection k1 with k1
      rw [k1]
      exact ih i k3 (fun g' hg' => hB g' (by rw [h6]; exact List.mem_append_right _ (List.mem_cons_of_mem _ (mem_flatX k2 hg'))))
theorem XOwn.at0 {w : World} {t : X} {sv v : Value} {S : List Nat} (h : XOwn w t sv v S) : t.At 0 w sv v := h.at' _ (fun _ _ => Nat.zero_le _)

theorem XsOwn.at' {w : World} {B : Nat} {len : Nat} {kid : Nat → X} {v : Value} {S : List Nat} (h : XsOwn w len kid v S) (hB : ∀ g ∈ S, B ≤ g) : XsAt B w len kid v := by
  rcases h with ⟨rfl, rfl, _⟩ | ⟨g, cap, l, SS, rfl, h2, h3, h4, h5, h6, h7⟩
  · exact .inl ⟨rfl, _, _, rfl⟩
  · refine XsB.of_own (own_base (B := B) h2 (fun g' hg' => ?_)) h3 (Nat.le_refl _) h5 (fun q hq => ?_)
    · simp only [Value.ownBlock, Option.some.injEq] at hg'
      subst hg'
      exact hB g (by rw [h6]; simp)
    obtain ⟨i, hi, rfl⟩ := List.mem_iff_getElem.1 hq
    obtain ⟨su, u, T, k1, k2, k3⟩ := h7 i (by omega)
    rw [List.getElem?_eq_getElem hi] at k1
    injection k1 with k1
    rw [k1]
    exact k3.at' _ (fun g' hg' => hB g' (by rw [h6]; exact List.mem_cons_of_mem _ (mem_flatX k2 hg')))
theorem XsOwn.at0 {w : World} {len : Nat} {kid : Nat → X} {v : Value} {S : List Nat} (h : XsOwn w len kid v S) : XsAt 0 w len kid v := h.at' (fun _ _ => Nat.zero_le _)

/-- The blocks are there. -/
theorem XsOwn.there {w : World} {len : Nat} {kid : Nat → X} {v : Value} {S : List Nat} (h : XsOwn w len kid v S) (hd : ∀ i, i < len → ∀ su u T, XOwn w (kid i) su u T → ∀ g ∈ T, g < w.heap.size) : ∀ g ∈ S, g < w.heap.size := by
  rcases h with ⟨_, _, rfl⟩ | ⟨g, cap, l, SS, rfl, h2, h3, h4, h5, rfl, h7⟩
  · intro g hg; simp at hg
  · intro g' hg'
    rcases List.mem_cons.1 hg' with rfl | hg'
    · exact (h2.lt _ rfl).2
    · obtain ⟨T, hT, hgT⟩ := List.mem_flatten.1 hg'
      obtain ⟨i, hi, rfl⟩ := List.mem_iff_getElem.1 hT
      obtain ⟨su, u, T', k1, k2, k3⟩ := h7 i (by omega)
      rw [List.getElem?_eq_getElem hi] at k2
      injection k2 with k2
      exact hd i (by omega) su u T' k3 g' (by rw [← k2]; exact hgT)
theorem XOwn.there {w : World} (t : X) : ∀ {sv v : Value} {S : List Nat}, XOwn w t sv v S → ∀ g ∈ S, g < w.heap.size := by
  induction t with
  | no => intro sv v S h; exact h.elim
  | mk op a n s set len kid ih =>
    intro sv v S h g hg
    obtain ⟨hset, S2, rfl, hr⟩ := h.parts
    rcases List.mem_append.1 hg with hg | hg
    · simp only [Option.mem_toList] at hg
      exact (World.ownsRow.lt hset g hg).2
    · exact (show XsOwn w len kid v S2 from hr).there (fun i _ su u T k => ih i k) g hg
theorem XsOwn.lt {w : World} {len : Nat} {kid : Nat → X} {v : Value} {S : List Nat} (h : XsOwn w len kid v S) : ∀ g ∈ S, g < w.heap.size := h.there (fun _ _ _ _ _ k => k.there)

theorem XsOwn.congr {w : World} {len : Nat} {kid kid' : Nat → X} {v : Value} {S : List Nat} (h : XsOwn w len kid v S) (he : ∀ i, i < len → kid i = kid' i) : XsOwn w len kid' v S := by
  rcases h with h0 | ⟨g, cap, l, SS, h1, h2, h3, h4, h5, h6, h7⟩
  · exact .inl h0
  · refine .inr ⟨g, cap, l, SS, h1, h2, h3, h4, fun i q hq => ?_, h6, fun i hi => ?_⟩
    · have hi : i < len := by have := (List.getElem?_eq_some_iff.1 hq).1; omega
      rw [h5 i q hq, he i hi]
    · obtain ⟨su, u, T, k1, k2, k3⟩ := h7 i hi
      exact ⟨su, u, T, by rw [k1, he i hi], k2, by rw [← he i hi]; exact k3⟩
end Go.Proofs.YtlclfmjpnchmbaaGreat
