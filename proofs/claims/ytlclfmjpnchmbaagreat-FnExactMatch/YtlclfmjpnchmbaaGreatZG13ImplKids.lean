/- What lay stays as it was, but for some blocks. No conditions. -/
import Derived.Test.YtlclfmjpnchmbaaGreatRows
import Derived.Test.YtlclfmjpnchmbaaGreatZG11ImplDots
import Derived.Test.YtlclfmjpnchmbaaGreatZG12InDots
import Derived.RangeFuncNested
import Derived.Below
import Derived.OwnWalkIn
import Derived.Laws.AppendOwn
import Derived.Laws.OwnMore
namespace Go.Proofs.YtlclfmjpnchmbaaGreat
open Go.RowKit

/-- The world w' is as w was, but for the blocks of which X is told, and for new ones. -/
structure But (X : Nat → Prop) (w w' : World) : Prop where
  os : w'.os = w.os
  tape : w'.tape = w.tape
  output : w'.output = w.output
  size : w.heap.size ≤ w'.heap.size
  block : ∀ k, k < w.heap.size → ¬ X k → w'.heap[k]? = w.heap[k]?

variable {X Y : Nat → Prop} {a b c w w' : World}
theorem But.refl (X : Nat → Prop) (w : World) : But X w w := ⟨rfl, rfl, rfl, Nat.le_refl _, fun _ _ _ => rfl⟩
theorem But.trans (h : But X a b) (k : But X b c) : But X a c :=
  ⟨k.os.trans h.os, k.tape.trans h.tape, k.output.trans h.output, Nat.le_trans h.size k.size, fun i hi hx => (k.block i (Nat.lt_of_lt_of_le hi h.size) hx).trans (h.block i hi hx)⟩
theorem But.mono (h : But X a b) (hx : ∀ k, k < a.heap.size → X k → Y k) : But Y a b := ⟨h.os, h.tape, h.output, h.size, fun k hk hy => h.block k hk (fun x => hy (hx k hk x))⟩
theorem But.of_below {B : Nat} (h : Below B a b) (hx : ∀ k, k < a.heap.size → B ≤ k → X k) : But X a b := ⟨h.os, h.tape, h.output, h.size, fun k hk hn => h.block k (by rcases Nat.lt_or_ge k B with h1 | h1; exact h1; exact absurd (hx k hk h1) hn)⟩
theorem But.of_all (h : Below a.heap.size a b) : But X a b := But.of_below h (fun k hk hB => absurd hk (by omega))
theorem But.below (h : But X a b) {B : Nat} (hB : B ≤ a.heap.size) (hx : ∀ k, X k → B ≤ k) : Below B a b := ⟨h.os, h.tape, h.output, h.size, fun k hk => h.block k (by omega) (fun x => by have := hx k x; omega)⟩
theorem But.alloc (h : But X a b) (o : Obj) : But X a (b.alloc o) :=
  h.trans ⟨rfl, rfl, rfl, by simp, fun k hk _ => Below.heap_alloc _ _ _ hk⟩
theorem But.setCell (h : But X a b) {p : Addr} (hp : a.heap.size ≤ p.block ∨ X p.block) (u : Value) : But X a (b.setCell p u) :=
  ⟨h.os, h.tape, h.output, by have := h.size; simpa [World.setCell] using this, fun k hk hx => (Below.heap_setCell _ _ _ _ (by rintro rfl; rcases hp with h1 | h1; omega; exact hx h1)).trans (h.block k hk hx)⟩
theorem But.putObj (h : But X a b) {r : Nat} (hp : a.heap.size ≤ r ∨ X r) (o : Obj) : But X a (b.putObj r o) :=
  ⟨h.os, h.tape, h.output, by have := h.size; simpa using this, fun k hk hx => (World.putObj_heap_other (by rintro rfl; rcases hp with h1 | h1; omega; exact hx h1)).trans (h.block k hk hx)⟩
theorem But.grown {row : Option Nat} (h : But X a b) (hg : b.grownBy c row) (hr : ∀ k, row = some k → a.heap.size ≤ k ∨ X k) : But X a c :=
  ⟨hg.os.trans h.os, hg.tape.trans h.tape, hg.output.trans h.output, Nat.le_trans h.size hg.size, fun k hk hx => (hg.block k (Nat.lt_of_lt_of_le hk h.size) (by intro e; rcases hr k e.symm with h1 | h1; omega; exact hx h1)).trans (h.block k hk hx)⟩
theorem But.drew (h : But X a b) : But X a b.drew := ⟨h.os, h.tape, h.output, h.size, h.block⟩
theorem But.cell (h : But X a b) {p : Addr} (hp : p.block < a.heap.size) (hx : ¬ X p.block) : b.cell? p = a.cell? p := World.cell?_of_block (w := a) (h.block p.block hp hx)
theorem But.at (h : But X a b) {k : Nat} {o : Obj} (hk : a.heap[k]? = some o) (hx : ¬ X k) : b.heap[k]? = some o := (h.block k (Array.getElem?_eq_some_iff.1 hk).1 hx).trans hk
/-- Two steps, the second one's blocks being new to the first. -/
theorem But.step (h : But X a b) (k : But Y b c) (hy : ∀ j, j < a.heap.size → Y j → X j) : But X a c :=
  ⟨k.os.trans h.os, k.tape.trans h.tape, k.output.trans h.output, Nat.le_trans h.size k.size, fun i hi hx => (k.block i (Nat.lt_of_lt_of_le hi h.size) (fun y => hx (hy i hi y))).trans (h.block i hi hx)⟩
theorem But.toGrown {g : Nat} (h : But (fun k => k = g) a b) : a.grownBy b (some g) := ⟨h.os, h.tape, h.output, h.size, fun k hk hne => h.block k hk (fun e => hne (by rw [e]))⟩
theorem But.owns (h : But X a b) {base e size n : Nat} {v : Value} {xs : List Value} (ho : a.ownsRow base e size v n xs) (hx : ∀ g, v.ownBlock = some g → ¬ X g) : b.ownsRow base e size v n xs := by
  refine ⟨ho.1, ?_⟩
  rcases ho.2 with hn | ⟨g, cap, cur, rfl, hbg, hgg, rest⟩
  · exact .inl hn
  · exact .inr ⟨g, cap, cur, rfl, hbg, h.at hgg (hx g rfl), rest⟩
end Go.Proofs.YtlclfmjpnchmbaaGreat

/- An append of at least one: the row stays where it is, or it is a new block. No conditions but those of the library's own law. -/
namespace Go.Proofs.YtlclfmjpnchmbaaGreat
open Go.RowKit

theorem append_where {P : Program} (w : World) (base : Nat) (t ty e : TypeId) (i : TypeInfo) (z : Value) (size bytes : Nat) (ht : P.underlying t = some (.slice e)) (hi : P.info? e = some i) (hz : i.zero = some z)
    (hsize : i.size = size) (hby : i.bytes = bytes)
    (v : Value) (n : Nat) (xs : List Value) (hown : w.ownsRow base e size v n xs)
    (a : Addr) (m c : Nat) (news : List Value) (hl : news.length = m * size) (hnews : ∀ j u, news[j]? = some u → w.cell? (a.add j) = some u) (h1 : ∀ u ∈ news, u.oneCell' = true)
    (h63 : n + m ≤ maxLen) (hbytes : (n + m) * bytes ≤ 140737488355328) (h0 : 0 < m) (v' : Value) (w' : World) (hrun : (Builtin.append_ #[t, t] ty #[v, .slice (some a) m c]).run P w = .ok v' w') :
    v'.ownBlock = v.ownBlock ∨ v'.ownBlock = some w.heap.size := by
  subst hsize hby
  have hsmall : n + m ≤ 9223372036854775807 := by simp only [maxLen] at h63; omega
  rcases hown.2 with ⟨rfl, rfl⟩ | ⟨g, cap, cur, rfl, hbg, hg, hnc, hcm, hcs, htake⟩
  · have hr := run_append_nil (P := P) w t ty e i z ht hi hz a m c news hl hnews h0 (by omega) (by rw [Nat.zero_add] at hbytes; omega)
    rw [hr] at hrun
    injection hrun with e1 _
    exact .inr (by rw [← e1]; rfl)
  · by_cases hroom : n + m ≤ cap
    · have hr := run_append_room (P := P) w t ty e i ht hi g n cap cur hg a m c news hl hnews h1 hroom (by rw [hl, hcs, ← Nat.add_mul]; exact Nat.mul_le_mul_right _ hroom)
      rw [hr] at hrun
      injection hrun with e1 _
      exact .inl (by rw [← e1]; rfl)
    · have hr := run_append_grow (P := P) w t ty e i z ht hi hz ⟨g, 0, none⟩ n cap xs hown.1 (hown.cells (g := g) rfl) a m c news hl hnews (by omega) (by omega) (growslice_fits (by omega) hbytes)
      rw [hr] at hrun
      injection hrun with e1 _
      exact .inr (by rw [← e1]; rfl)

theorem wpListIn_append_at {F : Fence} {n : Nat} {P : Program} (w : World) {ops : Array Oper} {rest : List Oper} {o : Oper} {a : Act} {Q : Exit → Act → World → Prop}
    (hg : o.guard = none) (s x : Operand) (t : TypeId) (hop : o.op = Op.call { callee := Callee.builtin Builtin.append, args := #[s, x], argTypes := #[t, t] })
    (base : Nat) (e : TypeId) (i : TypeInfo) (z : Value) (size bytes : Nat) (h1 : P.underlying t = some (.slice e)) (h2 : P.info? e = some i) (h3 : i.zero = some z) (h4 : i.size = size) (h5 : i.bytes = bytes) (h6 : z.cells.size = size) (h7 : 0 < size)
    (v : Value) (k : Nat) (xs : List Value) (hs : a.eval s = v) (hown : w.ownsRow base e size v k xs) (ad : Addr) (m c : Nat) (news : List Value) (hx : a.eval x = .slice (some ad) m c) (hn : news.length = m * size)
    (hc : ∀ j u, news[j]? = some u → w.cell? (ad.add j) = some u) (h1c : ∀ u ∈ news, u.oneCell' = true) (b1 : k + m ≤ maxLen) (b2 : (k + m) * bytes ≤ 140737488355328) (b3 : base ≤ w.heap.size) (hm : 0 < m)
    (hK : ∀ v' w', Hid (w'.ownsRow base e size v' (k + m) (xs ++ news)) → Hid (w.grownBy w' v.ownBlock) → Hid (v'.ownBlock = v.ownBlock ∨ v'.ownBlock = some w.heap.size) → wpListIn F n P ops Q rest (a.put o.dst v') w') :
    wpListIn F n P ops Q (o :: rest) a w := by
  refine wpListIn_plain hg fun K hK' => ?_
  obtain ⟨v', w', hrun, r1, r2, r3⟩ := run_append_own (P := P) w base t o.type e i z size bytes h1 h2 h3 h4 h5 h6 h7 v k xs hown ad m c news hn hc h1c b1 b2 b3
  have r4 := append_where (P := P) w base t o.type e i z size bytes h1 h2 h3 h4 h5 v k xs hown ad m c news hn hc h1c b1 b2 hm v' w' hrun
  unfold Oper.wpIn
  refine ⟨?_, ?_⟩
  · simp [Oper.about, hop, resolve, Target.leads, Sem.run_pure]
  · rw [Oper.semAt_plain F _ _ (by rw [hop]; intro c hc'; cases hc')]
    simp [execOp, hop, resolve, invoke, builtin, hs, hx, hrun, Result.andThen]
    exact hK' _ _ (hK v' w' r1 r2 r4)
/-- The same as one step of a region that draws its order. -/
theorem step_append_at {P : Program} {w : World} {ops : Array Oper} {o : Oper} {a : Act} {K : Act → World → Prop} {Q : Exit → Act → World → Prop} {E : Prop} (hgd : o.guard = none) (s x : Operand) (t : TypeId)
    (ho : o.op = .call { callee := .builtin .append, args := #[s, x], argTypes := #[t, t] })
    (base : Nat) (e : TypeId) (i : TypeInfo) (z : Value) (size bytes : Nat) (ht : P.underlying t = some (.slice e)) (hi : P.info? e = some i) (hz : i.zero = some z)
    (hsize : i.size = size) (hby : i.bytes = bytes) (hzs : z.cells.size = size) (hsz : 0 < size)
    (v : Value) (n : Nat) (xs : List Value) (hs : a.eval s = v) (hown : w.ownsRow base e size v n xs)
    (ad : Addr) (m c : Nat) (news : List Value) (hx : a.eval x = .slice (some ad) m c) (hl : news.length = m * size) (hnews : ∀ j u, news[j]? = some u → w.cell? (ad.add j) = some u) (h1 : ∀ u ∈ news, u.oneCell' = true)
    (h63 : n + m ≤ maxLen) (hbytes : (n + m) * bytes ≤ 140737488355328) (hbase : base ≤ w.heap.size) (hm : 0 < m)
    (h : ∀ v' w', Hid (w'.ownsRow base e size v' (n + m) (xs ++ news)) → Hid (w.grownBy w' v.ownBlock) → Hid (v'.ownBlock = v.ownBlock ∨ v'.ownBlock = some w.heap.size) → K (a.put o.dst v') w') :
    if Region.wanted o (yielded ops a.tmps) = true then Oper.wp P o a w K Q else E := by
  have hw : Region.wanted o (yielded ops a.tmps) = true := by simp [Region.wanted, hgd]
  rw [if_pos hw]
  obtain ⟨v', w', hr, h2, h3, _⟩ := run_append_own (P := P) w base t o.type e i z size bytes ht hi hz hsize hby hzs hsz v n xs hown ad m c news hl hnews h1 h63 hbytes hbase
  have r4 := append_where (P := P) w base t o.type e i z size bytes ht hi hz hsize hby v n xs hown ad m c news hl hnews h1 h63 hbytes hm v' w' hr
  unfold Oper.wp execOp
  simp only [ho, resolve, invoke, builtin, Sem.run_bind, Sem.run_pure, Result.andThen_ok, List.map_toArray, List.map_cons, List.map_nil, hs, hx, hr]
  exact h v' w' h2 h3 r4
end Go.Proofs.YtlclfmjpnchmbaaGreat

/- impl.withKids: the kids of a part put behind what is left, the last one first. Condition: at most 2^22 in all. -/
namespace Go.Proofs.YtlclfmjpnchmbaaGreat
open Go.ChangeShapes Go.WideShapes Go.ChangeAt Go.RowKit Go.Shelf
attribute [local go_sem] Oper.semAt_some

/-- How deep a kid stands. -/
def kidDeep (len : Nat) (kid : Nat → X) (d : Int) (i : Nat) : Int := if (i : Int) = oftenX len kid then d + 1 else d
/-- The last k kids, the last one first. -/
def kidRows (len : Nat) (kid : Nat → X) (U V : Nat → Value) (d : Int) : Nat → List DR
  | 0 => []
  | k + 1 => kidRows len kid U V d k ++ [⟨kid (len - 1 - k), U (len - 1 - k), V (len - 1 - k), kidDeep len kid d (len - 1 - k)⟩]
theorem kidRows_len (len : Nat) (kid : Nat → X) (U V : Nat → Value) (d : Int) (k : Nat) : (kidRows len kid U V d k).length = k := by
  induction k with
  | zero => rfl
  | succ k ih => simp [kidRows, ih]

/-- Seven cells. -/
def Seven (w : World) (g : Nat) (q : DR) (ty : TypeId) : Prop := w.heap[g]? = some (.cells #[.int .i64 q.t.op, .int .i64 q.t.at_, .int .i64 q.t.n, .string q.t.s, q.su, q.u, .int .i64 q.d] ty (0, 0))
theorem Seven.cells {w : World} {g : Nat} {q : DR} {ty : TypeId} (h : Seven w g q ty) :
    w.cell? ⟨g, 0, none⟩ = some (.int .i64 q.t.op) ∧ w.cell? ⟨g, 1, none⟩ = some (.int .i64 q.t.at_) ∧ w.cell? ⟨g, 2, none⟩ = some (.int .i64 q.t.n) ∧ w.cell? ⟨g, 3, none⟩ = some (.string q.t.s) ∧ w.cell? ⟨g, 4, none⟩ = some q.su ∧ w.cell? ⟨g, 5, none⟩ = some q.u ∧ w.cell? ⟨g, 6, none⟩ = some (.int .i64 q.d) :=
  ⟨cell_of_row w g 0 _ _ _ h, cell_of_row w g 1 _ _ _ h, cell_of_row w g 2 _ _ _ h, cell_of_row w g 3 _ _ _ h, cell_of_row w g 4 _ _ _ h, cell_of_row w g 5 _ _ _ h, cell_of_row w g 6 _ _ _ h⟩
theorem Seven.lt {w : World} {g : Nat} {q : DR} {ty : TypeId} (h : Seven w g q ty) : g < w.heap.size := (Array.getElem?_eq_some_iff.1 h).1
theorem Seven.below {w w' : World} {g : Nat} {q : DR} {ty : TypeId} (h : Seven w g q ty) (hb : Below w.heap.size w w') : Seven w' g q ty := (hb.block _ h.lt).trans h

theorem kidRows_succ (len : Nat) (kid : Nat → X) (U V : Nat → Value) (d : Int) (k i : Nat) (h : k + i + 1 = len) : kidRows len kid U V d (k + 1) = kidRows len kid U V d k ++ [⟨kid i, U i, V i, kidDeep len kid d i⟩] := by
  have : len - 1 - k = i := by omega
  simp [kidRows, this]
theorem own_slice {w : World} {base e size n : Nat} {v : Value} {xs : List Value} (h : w.ownsRow base e size v n xs) : ∃ p c, v = .slice p n c := by
  rcases h.2 with ⟨rfl, rfl⟩ | ⟨g1, cap, cur, rfl, _⟩
  · exact ⟨_, _, rfl⟩
  · exact ⟨_, _, rfl⟩

set_option maxRecDepth 100000 in
set_option maxHeartbeats 4000000 in
theorem with_kids (w0 w : World) (q : DR) (v : Value) (l : List DR) (hin : q.t.At 0 w0 q.su q.u) (hb0 : Below w0.heap.size w0 w) (hown : OwnD w w0.heap.size v l) (hlen : l.length + q.t.len ≤ 4194304) (hd : -4194304 ≤ q.d ∧ q.d ≤ 4194304) :
    Calls Tryz.prog 68 #[v, .agg #[.int .i64 q.t.op, .int .i64 q.t.at_, .int .i64 q.t.n, .string q.t.s, q.su, q.u, .int .i64 q.d]] w fun e w' => ∃ v' U V, e = .returned v' ∧ But (fun k => v.ownBlock = some k) w w' ∧ OwnD w' w0.heap.size v' (l ++ kidRows q.t.len q.t.kid U V q.d q.t.len) ∧
      (v'.ownBlock = v.ownBlock ∨ ∀ g, v'.ownBlock = some g → w.heap.size ≤ g) ∧ ∀ i, i < q.t.len → (q.t.kid i).At 0 w0 (U i) (V i) := by
  obtain ⟨t, su, u, d⟩ := q
  simp only at hin hlen hd ⊢
  obtain ⟨p, cap, U, V, eu, hl, hat⟩ := hin.xs.uv
  obtain ⟨ps, cs, es⟩ := hin.sets.shape
  have HAT : Hid (∀ i, i < t.len → (∃ b o, p = some ⟨b, o, none⟩ ∧ Head6 w0 b (o + i * 6) (t.kid i) (U i) (V i)) ∧ (t.kid i).At 0 w0 (U i) (V i)) := hat
  have HXS : Hid (XsAt 0 w0 t.len t.kid u) := hin.xs
  obtain ⟨pv, cv, ev⟩ := own_slice hown
  have HO : Hid (OwnD w w0.heap.size v l) := hown
  have HB0 : Hid (Below w0.heap.size w0 w) := hb0
  clear hin hat hown hb0
  subst eu es ev
  have HB1 : Hid (∀ o1 o2, Below w0.heap.size w0 ((w.alloc o1).alloc o2)) := fun o1 o2 => (HB0.out.alloc HB0.out.size _).alloc (by have := HB0.out.size; simp; omega) _
  refine callsIn_wide (n := 0).1 ?_
  refine callsIn_of_wp_marks Tryz.func68 rfl trivial ?_ rfl
  simp only [Tryz.ntmps68, List.size_toArray, List.length_cons, List.length_nil, Nat.reduceAdd, Nat.reduceSub, Array.replicate_succ, Array.replicate_zero, List.push_toArray, List.append_toArray, List.nil_append, List.cons_append]
  gi_wp2
  refine ⟨trivial, rfl, (callsIn_wide.2 (repeated_ok t.len t.kid _ _ (HXS.out.below (HB1.out _ _)))).mono ?_⟩
  rintro e w1 ⟨rfl, hb1⟩
  obtain ⟨h1, h2, h3, h4⟩ := twoX hb1
  have B1 : Hid (Below w0.heap.size w0 w1 ∧ Below w.heap.size w w1) := ⟨HB0.out.trans (h4.mono HB0.out.size), h4⟩
  have S1 : Hid (w1.heap[w.heap.size]? = some (.cells #[.slice pv l.length cv] 98) ∧ w1.heap[w.heap.size + 1]? = some (.cells #[.int .i64 t.op, .int .i64 t.at_, .int .i64 t.n, .string t.s, .slice ps t.set.length cs, .slice p t.len cap, .int .i64 d] 97) ∧ w.heap.size + 2 ≤ w1.heap.size) := ⟨h1, h2, h3⟩
  clear hb1 h1 h2 h3 h4 HB1
  gi_wp2
  refine ⟨trivial, rfl, (callsIn_wide.2 (back_seq p t.len cap _)).mono ?_⟩
  rintro e w2 ⟨rfl, rfl⟩
  gi_wp2
  obtain ⟨oft, hoft⟩ : ∃ o, o = oftenX t.len t.kid := ⟨_, rfl⟩
  have HOFT : Hid (oft = oftenX t.len t.kid) := hoft
  rw [← hoft]
  clear hoft
  obtain ⟨W2, hW2⟩ : ∃ W2, (w1.alloc (.cells #[.int .i64 oft] 3)).alloc (.cells #[.slice p t.len cap] 30) = W2 := ⟨_, rfl⟩
  have hb2 : Below w1.heap.size w1 W2 := by rw [← hW2]; exact (newx _ _).trans ((newx _ _).mono (by simp))
  have n1 : W2.heap[w1.heap.size]? = some (.cells #[.int .i64 oft] 3) := by rw [← hW2, Below.heap_alloc _ _ _ (by simp)]; exact heap_alloc_new _ _
  have n2 : W2.heap[w1.heap.size + 1]? = some (.cells #[.slice p t.len cap] 30) := by rw [← hW2]; have := heap_alloc_new (w1.alloc (.cells #[.int .i64 oft] 3)) (.cells #[.slice p t.len cap] 30); rwa [World.size_alloc] at this
  have hsz2 : W2.heap.size = w1.heap.size + 2 := by rw [← hW2]; simp
  rw [hW2]
  clear hW2
  have a0 := (hb2.block w.heap.size (by have := S1.out.2.2; omega)).trans S1.out.1
  have a1 := (hb2.block (w.heap.size + 1) (by have := S1.out.2.2; omega)).trans S1.out.2.1
  have hW2 : Below w.heap.size w W2 := B1.out.2.trans (hb2.mono B1.out.2.size)
  have hg0 : ∀ g, (Value.slice pv l.length cv).ownBlock = some g → g < w.heap.size := fun g hg => (HO.out.lt g hg).2
  have S2 : Hid (W2.heap[w.heap.size]? = some (.cells #[.slice pv l.length cv] 98) ∧ W2.heap[w.heap.size + 1]? = some (.cells #[.int .i64 t.op, .int .i64 t.at_, .int .i64 t.n, .string t.s, .slice ps t.set.length cs, .slice p t.len cap, .int .i64 d] 97) ∧
      W2.heap[w1.heap.size]? = some (.cells #[.int .i64 oft] 3) ∧ W2.heap[w1.heap.size + 1]? = some (.cells #[.slice p t.len cap] 30) ∧ W2.heap.size = w1.heap.size + 2 ∧ w.heap.size + 2 ≤ w1.heap.size ∧ Below w.heap.size w W2 ∧ Below w0.heap.size w0 W2 ∧ OwnD W2 w0.heap.size (.slice pv l.length cv) l) :=
    ⟨a0, a1, n1, n2, hsz2, S1.out.2.2, hW2, HB0.out.trans (hW2.mono HB0.out.size), HO.out.below hW2⟩
  have HG0 : Hid (∀ g, (Value.slice pv l.length cv).ownBlock = some g → g < w.heap.size) := hg0
  clear a0 a1 n1 n2 hsz2 hb2 S1 B1 hW2 hg0
  obtain ⟨A0, hA0⟩ : ∃ x, x = w.heap.size := ⟨_, rfl⟩
  obtain ⟨N, hN⟩ : ∃ x, x = w1.heap.size := ⟨_, rfl⟩
  have HA0 : Hid (A0 = w.heap.size) := hA0
  rw [← hA0, ← hN] at S2 ⊢
  rw [← hA0] at HG0
  clear hA0 hN w1
  refine wpIn_rf (gf := 90) (lb := #[.pointer (some ⟨N + 1, 0, none⟩)]) rfl (enters_of Tryz.func90 (by kernel_rfl) rfl) ?_
  intro fn rec hrec
  obtain ⟨M, hM⟩ : ∃ x, x = W2.heap.size := ⟨_, rfl⟩
  have HM : Hid (M = W2.heap.size) := hM
  rw [← hM] at S2 hrec ⊢
  obtain ⟨W3, hW3⟩ : ∃ W3, (W2.alloc (.deferred (some []))).alloc (.loop (rec .ready none)) = W3 := ⟨_, rfl⟩
  have b3 : Below W2.heap.size W2 W3 := by rw [← hW3]; exact (newx _ _).trans ((newx _ _).mono (by simp))
  have d3 : W3.heap[M]? = some (.deferred (some [])) := by rw [← hW3, hM, Below.heap_alloc _ _ _ (by simp)]; exact heap_alloc_new _ _
  have l3 : W3.heap[M + 1]? = some (.loop (rec .ready none)) := by rw [← hW3, hM]; have := heap_alloc_new (W2.alloc (.deferred (some []))) (.loop (rec .ready none)); rwa [World.size_alloc] at this
  have s3 : W3.heap.size = M + 2 := by rw [← hW3, hM]; simp
  rw [hW3]
  obtain ⟨z0, z1, z2, z3, z4, z5, z6, z7, z8⟩ := S2.out
  have e0 := (b3.block A0 (by omega)).trans z0
  have e1 := (b3.block (A0 + 1) (by omega)).trans z1
  have e2 := (b3.block N (by omega)).trans z2
  have e3 := (b3.block (N + 1) (by omega)).trans z3
  obtain ⟨J, hJd⟩ : ∃ J : Nat → World → Prop, J = fun k W => ∃ pk ck, W.heap[A0]? = some (.cells #[.slice pk (l.length + k) ck] 98) ∧ OwnD W w0.heap.size (.slice pk (l.length + k) ck) (l ++ kidRows t.len t.kid U V d k) ∧
      ((Value.slice pk (l.length + k) ck).ownBlock = (Value.slice pv l.length cv).ownBlock ∨ ∀ g, (Value.slice pk (l.length + k) ck).ownBlock = some g → M + 2 ≤ g) ∧ W.heap[M + 1]? = some (.loop (rec .ready none)) ∧
      But (fun j => j = A0 ∨ j = M + 1 ∨ (Value.slice pv l.length cv).ownBlock = some j) W3 W := ⟨_, rfl⟩
  have hbx : ∀ k W, J k W → W.heap[A0 + 1]? = some (.cells #[.int .i64 t.op, .int .i64 t.at_, .int .i64 t.n, .string t.s, .slice ps t.set.length cs, .slice p t.len cap, .int .i64 d] 97) ∧ W.heap[N]? = some (.cells #[.int .i64 oft] 3) ∧ W.heap[N + 1]? = some (.cells #[.slice p t.len cap] 30) ∧ W.heap[M]? = some (.deferred (some [])) ∧ Below w0.heap.size w0 W := by
    intro k W hk
    rw [hJd] at hk
    obtain ⟨pk, ck, -, -, -, -, hbut⟩ := hk
    have ng : ∀ j, A0 ≤ j → ¬ (Value.slice pv l.length cv).ownBlock = some j := fun j hj e => by have := HG0.out j e; omega
    refine ⟨hbut.at e1 ?_, hbut.at e2 ?_, hbut.at e3 ?_, hbut.at d3 ?_, z7.trans ((b3.mono (by have := z7.size; omega)).trans (hbut.below (by have := z7.size; omega) ?_))⟩
    · rintro (h | h | h)
      · omega
      · omega
      · exact ng _ (by omega) h
    · rintro (h | h | h)
      · omega
      · omega
      · exact ng _ (by omega) h
    · rintro (h | h | h)
      · omega
      · omega
      · exact ng _ (by omega) h
    · rintro (h | h | h)
      · omega
      · omega
      · exact ng _ (by omega) h
    · rintro j (h | h | h)
      · have := HB0.out.size; have := HA0.out; omega
      · have := z7.size; omega
      · exact (z8.lt j h).1
  refine (back_iter (M + 1) (N + 1) cap t.len p t.kid U V J hl ?hJ ?hY W3 ?h0).mono ?_
  case hJ =>
    intro k W hk
    obtain ⟨-, -, h3, -, h5⟩ := hbx k W hk
    refine ⟨cell_of_row W _ 0 _ _ _ h3, fun i hi => ?_⟩
    obtain ⟨⟨b, o, hp, h6⟩, -⟩ := HAT.out i hi
    exact ⟨b, o, hp, h6.below h5⟩
  case h0 =>
    rw [hJd]
    exact ⟨pv, cv, e0, by simpa [kidRows] using z8.below b3, .inl rfl, l3, But.refl _ _⟩
  case hY =>
    intro k i W hk hki
    obtain ⟨q1, q2, q3, q4, q5⟩ := hbx k W hk
    obtain ⟨-, hAi⟩ := HAT.out i (by omega)
    obtain ⟨pu, cu, eU⟩ := hAi.sets.shape
    obtain ⟨pw, cw, eV⟩ := hAi.xs.shape
    rw [hJd] at hk ⊢
    obtain ⟨pk, ck, hbox, hownk, hwh, hrl, hbut⟩ := hk
    have HK : Hid (kidRows t.len t.kid U V d (k + 1) = kidRows t.len t.kid U V d k ++ [⟨t.kid i, U i, V i, kidDeep t.len t.kid d i⟩]) := kidRows_succ t.len t.kid U V d k i hki
    have HKD : Hid (kidDeep t.len t.kid d i = if (i : Int) = oft then d + 1 else d) := by show _ = _; unfold kidDeep; rw [HOFT.out]
    have HLN : Hid ((l ++ kidRows t.len t.kid U V d k).length = l.length + k) := by show _ = _; rw [List.length_append, kidRows_len]
    rw [eU, eV] at HK ⊢
    obtain ⟨KR, hKR⟩ : ∃ x, x = kidRows t.len t.kid U V d k := ⟨_, rfl⟩
    rw [← hKR] at HK HLN hownk
    clear hKR
    generalize kidDeep t.len t.kid d i = dd at *
    have HW : Hid (W.heap[A0]? = some (.cells #[.slice pk (l.length + k) ck] 98) ∧ OwnD W w0.heap.size (.slice pk (l.length + k) ck) (l ++ KR) ∧
      ((Value.slice pk (l.length + k) ck).ownBlock = (Value.slice pv l.length cv).ownBlock ∨ ∀ g, (Value.slice pk (l.length + k) ck).ownBlock = some g → M + 2 ≤ g) ∧ W.heap[M + 1]? = some (.loop (rec .ready none)) ∧
      But (fun j => j = A0 ∨ j = M + 1 ∨ (Value.slice pv l.length cv).ownBlock = some j) W3 W) := ⟨hbox, hownk, hwh, hrl, hbut⟩
    have HQ : Hid (W.heap[A0 + 1]? = some (.cells #[.int .i64 t.op, .int .i64 t.at_, .int .i64 t.n, .string t.s, .slice ps t.set.length cs, .slice p t.len cap, .int .i64 d] 97) ∧ W.heap[N]? = some (.cells #[.int .i64 oft] 3) ∧ Below w0.heap.size w0 W) := ⟨q1, q2, q5⟩
    have HS : Hid (M = N + 2 ∧ A0 + 2 ≤ N ∧ W3.heap.size = M + 2 ∧ w0.heap.size ≤ A0) := ⟨z4, z5, s3, by have := HB0.out.size; have := HA0.out; omega⟩
    refine yieldAt_of hrec hrl rfl ?_
    clear hrec hM hW3 b3 d3 l3 s3 z0 z1 z2 z3 z4 z5 z6 z7 z8 e0 e1 e2 e3 hJd hbx q1 q2 q3 q4 q5 hbox hownk hwh hrl hbut hAi eU eV S2 HAT HXS HO HB0 J HM
    gi_wp2
    obtain ⟨o6, ho6⟩ : ∃ o6 : Obj, .cells #[.int .i64 (t.kid i).op, .int .i64 (t.kid i).at_, .int .i64 (t.kid i).n, .string (t.kid i).s, .slice pu (t.kid i).set.length cu, .slice pw (t.kid i).len cw] 32 = o6 := ⟨_, rfl⟩
    rw [ho6]
    have hrA : (W.alloc o6).heap[M + 1]? = some (.loop (rec .ready none)) := (Below.heap_alloc _ _ _ (Array.getElem?_eq_some_iff.1 HW.out.2.2.2.1).1).trans HW.out.2.2.2.1
    refine ⟨hrA, ?_⟩
    obtain ⟨Wb, hWb⟩ : ∃ Wb, (W.alloc o6).putObj (M + 1) (.loop (rec .busy none)) = Wb := ⟨_, rfl⟩
    rw [hWb]
    have hMl : M + 1 < (W.alloc o6).heap.size := (Array.getElem?_eq_some_iff.1 hrA).1
    have oth : ∀ j, j < W.heap.size → j ≠ M + 1 → Wb.heap[j]? = W.heap[j]? := fun j hj hne => by
      rw [← hWb, World.putObj_heap_other hne]; exact Below.heap_alloc _ _ _ hj
    have c6 : Wb.heap[W.heap.size]? = some o6 := by
      rw [← hWb, World.putObj_heap_other (by have := (Array.getElem?_eq_some_iff.1 HW.out.2.2.2.1).1; omega)]; exact heap_alloc_new _ _
    have hlW := (Array.getElem?_eq_some_iff.1 HW.out.2.2.2.1).1
    have hwn : ∀ g, (Value.slice pk (l.length + k) ck).ownBlock = some g → g ≠ M + 1 ∧ g ≠ A0 ∧ g ≠ A0 + 1 ∧ g ≠ N := fun g hg => by
      have h1 := HS.out.1
      have h2 := HS.out.2.1
      rcases HW.out.2.2.1 with h | h
      · rw [h] at hg
        have := HG0.out g hg
        omega
      · have := h g hg
        omega
    have HB : Hid (Wb.heap[A0]? = some (.cells #[.slice pk (l.length + k) ck] 98) ∧ Wb.heap[A0 + 1]? = some (.cells #[.int .i64 t.op, .int .i64 t.at_, .int .i64 t.n, .string t.s, .slice ps t.set.length cs, .slice p t.len cap, .int .i64 d] 97) ∧ Wb.heap[N]? = some (.cells #[.int .i64 oft] 3) ∧
        Wb.heap[W.heap.size]? = some (.cells #[.int .i64 (t.kid i).op, .int .i64 (t.kid i).at_, .int .i64 (t.kid i).n, .string (t.kid i).s, .slice pu (t.kid i).set.length cu, .slice pw (t.kid i).len cw] 32) ∧ OwnD Wb w0.heap.size (.slice pk (l.length + k) ck) (l ++ KR) ∧ Wb.heap[M + 1]? = some (.loop (rec .busy none)) ∧ Wb.heap.size = W.heap.size + 1 ∧
        But (fun j => j = A0 ∨ j = M + 1 ∨ (Value.slice pv l.length cv).ownBlock = some j) W3 Wb) := by
      have h1 := HS.out.1
      have h2 := HS.out.2.1
      refine ⟨(oth A0 (by omega) (by omega)).trans HW.out.1, (oth (A0 + 1) (by omega) (by omega)).trans HQ.out.1, (oth N (by omega) (by omega)).trans HQ.out.2.1, by rw [ho6]; exact c6, ?_, by rw [← hWb]; exact World.putObj_heap_same hMl, by rw [← hWb]; simp, by rw [← hWb]; exact (HW.out.2.2.2.2.alloc _).putObj (.inr (.inr (.inl rfl))) _⟩
      refine ⟨HW.out.2.1.1, ?_⟩
      rcases HW.out.2.1.2 with hn | ⟨g, cap, cur, hv, hbg, hgg, rest⟩
      · exact .inl hn
      · exact .inr ⟨g, cap, cur, hv, hbg, (oth g (Array.getElem?_eq_some_iff.1 hgg).1 (hwn g (by rw [hv]; rfl)).1).trans hgg, rest⟩
    have HWN : Hid (∀ g, (Value.slice pk (l.length + k) ck).ownBlock = some g → g ≠ M + 1 ∧ g ≠ A0 ∧ g ≠ A0 + 1 ∧ g ≠ N) := hwn
    have HLT : Hid (M + 1 < W.heap.size) := hlW
    clear hrA hWb hMl oth c6 hlW hwn ho6 HQ
    obtain ⟨K0, hK0⟩ : ∃ x, x = W.heap.size := ⟨_, rfl⟩
    rw [← hK0] at HB HLT ⊢
    clear hK0
    have x0 : Wb.cell? ⟨A0, 0, none⟩ = some (.slice pk (l.length + k) ck) := cell_of_row Wb _ 0 _ _ _ HB.out.1
    have x1 : Wb.cell? ⟨A0 + 1, 6, none⟩ = some (.int .i64 d) := cell_of_row Wb _ 6 _ _ _ HB.out.2.1
    have x2 : Wb.cell? ⟨N, 0, none⟩ = some (.int .i64 oft) := cell_of_row Wb _ 0 _ _ _ HB.out.2.2.1
    have y0 : Wb.cell? ⟨K0, 0, none⟩ = some (.int .i64 (t.kid i).op) := cell_of_row Wb _ 0 _ _ _ HB.out.2.2.2.1
    have y1 : Wb.cell? ⟨K0, 1, none⟩ = some (.int .i64 (t.kid i).at_) := cell_of_row Wb _ 1 _ _ _ HB.out.2.2.2.1
    have y2 : Wb.cell? ⟨K0, 2, none⟩ = some (.int .i64 (t.kid i).n) := cell_of_row Wb _ 2 _ _ _ HB.out.2.2.2.1
    have y3 : Wb.cell? ⟨K0, 3, none⟩ = some (.string (t.kid i).s) := cell_of_row Wb _ 3 _ _ _ HB.out.2.2.2.1
    have y4 : Wb.cell? ⟨K0, 4, none⟩ = some (.slice pu (t.kid i).set.length cu) := cell_of_row Wb _ 4 _ _ _ HB.out.2.2.2.1
    have y5 : Wb.cell? ⟨K0, 5, none⟩ = some (.slice pw (t.kid i).len cw) := cell_of_row Wb _ 5 _ _ _ HB.out.2.2.2.1
    obtain ⟨i0, hi, hz0, hz1, hz2⟩ := info_parts indots_info
    have HBD : Hid (l.length + k + 1 ≤ 4194304) := by show _ ≤ _; omega
    have hcase : (((i : Int) == oft) = true ∧ dd = d + 1) ∨ (((i : Int) == oft) = false ∧ dd = d) := by
      by_cases hoi : (i : Int) = oft
      · exact .inl ⟨by simpa using hoi, by rw [HKD.out, if_pos hoi]⟩
      · exact .inr ⟨by simpa using hoi, by rw [HKD.out, if_neg hoi]⟩
    clear HKD HOFT
    rcases hcase with ⟨ei, hdd⟩ | ⟨ei, hdd⟩
    all_goals
      subst hdd
      gi_wp2_with (gi_at_builtin; refine wpListIn_append_at _ rfl (.tmp 26) (.tmp 30) 98 rfl w0.heap.size 97 i0 (.agg #[.int .i64 0, .int .i64 0, .int .i64 0, .string ⟨#[]⟩, .slice none 0 0, .slice none 0 0, .int .i64 0]) 7 96 Tryz.underlying98 hi hz0 hz1 hz2 rfl (by decide) (.slice pk (l.length + k) ck) (l ++ KR).length (qrows (l ++ KR)) rfl (World.ownsRow.alloc HB.out.2.2.2.2.1 _) ⟨Wb.heap.size, 0, none⟩ 1 1 (qcells ⟨t.kid i, .slice pu (t.kid i).set.length cu, .slice pw (t.kid i).len cw, _⟩) rfl rfl (qnew Wb ⟨t.kid i, .slice pu (t.kid i).set.length cu, .slice pw (t.kid i).len cw, _⟩ _ _ rfl) (qcells_one _ rfl rfl) (by have h1 := HLN.out; have h2 := HBD.out; unfold maxLen; omega) (by have h1 := HLN.out; have h2 := HBD.out; omega) (by have h1 := HB.out.2.2.2.2.2.2.1; have h2 := HLT.out; have h3 := HS.out; simp; omega) (by decide) ?_; intro v' w3 hown3 hg3 hwh3; have hown4 := hown3.out; rw [HLN.out] at hown4; have HO4 : Hid (w3.ownsRow w0.heap.size 97 7 v' (l.length + k + 1) (qrows (l ++ KR) ++ qcells ⟨t.kid i, .slice pu (t.kid i).set.length cu, .slice pw (t.kid i).len cw, _⟩)) := hown4; clear hown4 hown3; obtain ⟨p', c', hv'⟩ := own_slice HO4.out; have ha0 : w3.heap[A0]? = some (.cells #[.slice pk (l.length + k) ck] 98) := (hg3.out.block A0 (by have h1 := (Array.getElem?_eq_some_iff.1 HB.out.1).1; simp; omega) (fun h => (HWN.out A0 h.symm).2.1 rfl)).trans ((Below.heap_alloc _ _ _ (Array.getElem?_eq_some_iff.1 HB.out.1).1).trans HB.out.1); subst hv'; have hx := cell_of_row w3 _ 0 _ _ _ ha0; have hfz := frozen_of_row w3 A0 0 _ _ ha0)
      have hs1 := HS.out.1
      have hs2 := HS.out.2.1
      have hs3 := HS.out.2.2.1
      have hlt := HLT.out
      have hbs := HB.out.2.2.2.2.2.2.1
      have hrb : w3.heap[M + 1]? = some (.loop (rec .busy none)) := (hg3.out.block (M + 1) (by simp; omega) (fun h => (HWN.out _ h.symm).1 rfl)).trans ((Below.heap_alloc _ _ _ (by omega)).trans HB.out.2.2.2.2.2.1)
      have hnw : ∀ g, (Value.slice p' (l.length + k + 1) c').ownBlock = some g → g ≠ A0 ∧ g ≠ M + 1 := fun g hg => by
        rcases hwh3.out with h | h
        · rw [h] at hg
          exact ⟨(HWN.out g hg).2.1, (HWN.out g hg).1⟩
        · rw [h] at hg
          injection hg with hg
          rw [← hg]
          simp
          omega
      refine ⟨(Below.heap_setCell _ _ _ _ (by simp; omega)).trans hrb, rfl, p', c', ?_, ?_, ?_, ?_, ?_⟩
      · rw [World.putObj_heap_other (by omega)]
        exact heap_setCell_same w3 A0 0 _ _ _ ha0
      · unfold OwnD
        rw [HK.out, ← List.append_assoc, qrows_snoc, List.length_append, HLN.out]
        exact But.owns (((But.refl (fun j => j = A0 ∨ j = M + 1) w3).setCell (.inr (.inl rfl)) _).putObj (.inr (.inr rfl)) _) HO4.out (fun g hg h => by have := hnw g hg; omega)
      · rcases hwh3.out with h | h
        · rcases HW.out.2.2.1 with h' | h'
          · exact .inl (h.trans h')
          · exact .inr (fun g hg => h' g (h.symm.trans hg))
        · refine .inr (fun g hg => ?_)
          have hg' := h.symm.trans hg
          injection hg' with hg'
          rw [← hg']
          simp
          omega
      · exact World.putObj_heap_same (by have := (Array.getElem?_eq_some_iff.1 hrb).1; simpa [World.setCell] using this)
      · refine ((((HB.out.2.2.2.2.2.2.2.alloc _).grown hg3.out (fun j hj => ?_)).setCell (.inr (.inl rfl)) _)).putObj (.inr (.inr (.inl rfl))) _
        rcases HW.out.2.2.1 with h' | h'
        · exact .inr (.inr (.inr (h'.symm.trans hj)))
        · exact .inl (by have := h' j hj; omega)
  rintro e W4 ⟨he, hj4⟩
  obtain ⟨-, -, -, q4, -⟩ := hbx _ _ hj4
  rw [hJd] at hj4
  obtain ⟨pk, ck, hbox, hownk, hwh, hrl, hbut⟩ := hj4
  refine ⟨he, .inl ⟨hrl, ?_⟩⟩
  obtain ⟨W5, hW5⟩ : ∃ W5, W4.putObj (M + 1) (.loop (rec .exhausted none)) = W5 := ⟨_, rfl⟩
  rw [hW5]
  have x0 : W5.cell? ⟨A0, 0, none⟩ = some (.slice pk (l.length + t.len) ck) := by
    have hbox5 : W5.heap[A0]? = some (.cells #[.slice pk (l.length + t.len) ck] 98) := by
      rw [← hW5, World.putObj_heap_other (by omega)]
      exact hbox
    exact cell_of_row W5 _ 0 _ _ _ hbox5
  have hK5 : W5.heap[M]? = some (.deferred (some [])) := by rw [← hW5, World.putObj_heap_other (by omega)]; exact q4
  have HF : Hid (OwnD W4 w0.heap.size (.slice pk (l.length + t.len) ck) (l ++ kidRows t.len t.kid U V d t.len) ∧ ((Value.slice pk (l.length + t.len) ck).ownBlock = (Value.slice pv l.length cv).ownBlock ∨ ∀ g, (Value.slice pk (l.length + t.len) ck).ownBlock = some g → M + 2 ≤ g) ∧ But (fun j => j = A0 ∨ j = M + 1 ∨ (Value.slice pv l.length cv).ownBlock = some j) W3 W4 ∧ W5.heap[M]? = some (.deferred (some [])) ∧ W4.putObj (M + 1) (.loop (rec .exhausted none)) = W5 ∧ Below W2.heap.size W2 W3 ∧ M = W2.heap.size ∧ W3.heap.size = M + 2 ∧ A0 + 2 ≤ N ∧ M = N + 2 ∧ Below A0 w W2) := ⟨hownk, hwh, hbut, hK5, hW5, b3, hM, s3, z5, z4, z6⟩
  clear hrec hM hW3 b3 d3 l3 s3 z0 z1 z2 z3 z4 z5 z6 z7 z8 e0 e1 e2 e3 hJd hbx hbox hownk hwh hrl hbut S2 HXS HM he q4 hK5 hW5 J
  gi_wp2
  obtain ⟨f1, f2, f3, f4, f5, f6, f7, f8, f9, f10, f11⟩ := HF.out
  have fa := HA0.out
  refine ⟨by simp, .inl ⟨_, _, rfl, run_takeDeferred f4, ?_⟩⟩
  have hbf : But (fun j => j = A0 ∨ j = M + 1 ∨ j = M) W4 (W5.putObj M (.deferred none)) := by
    rw [← f5]
    exact ((But.refl _ W4).putObj (.inr (.inr (.inl rfl))) _).putObj (.inr (.inr (.inr rfl))) _
  have hg0 := HG0.out
  refine ⟨_, results_tmp rfl _ _ _, .slice pk (l.length + t.len) ck, U, V, rfl, ?_, ?_, ?_, fun i hi => (HAT.out i hi).2⟩
  · have b2 : But (fun k => (Value.slice pv l.length cv).ownBlock = some k) w W2 := But.of_below f11 (fun k hk hA => by omega)
    have b3 : But (fun k => (Value.slice pv l.length cv).ownBlock = some k) w W3 := b2.step (But.of_all (X := fun _ => False) f6) (fun _ _ h => h.elim)
    have b4 : But (fun k => (Value.slice pv l.length cv).ownBlock = some k) w W4 := b3.step f3 (fun j hj h => by
      rcases h with h | h | h
      · omega
      · omega
      · exact h)
    exact b4.step hbf (fun j hj h => by omega)
  · refine hbf.owns f1 (fun g hg h => ?_)
    rcases f2 with h2 | h2
    · rw [h2] at hg
      have := hg0 g hg
      omega
    · have := h2 g hg
      omega
  · rcases f2 with h2 | h2
    · exact .inl h2
    · exact .inr (fun g hg => by have := h2 g hg; omega)
end Go.Proofs.YtlclfmjpnchmbaaGreat
