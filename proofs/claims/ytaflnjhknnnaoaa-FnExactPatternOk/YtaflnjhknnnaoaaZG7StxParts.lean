/- Rows of syntax that a call owns. No conditions. -/
import Derived.Test.YtaflnjhknnnaoaaZG1SetsQ
import Derived.OwnWalk
import Derived.Laws.OwnMore
import Derived.Laws.ResultCell
import Derived.WalkKit
import Derived.ProofKit
namespace Go.Proofs.Ytaflnjhknnnaoaa
open Go.ChangeShapes Go.WideShapes Go.ChangeAt Go.RowKit

theorem newx (w : World) (o : Obj) : Below w.heap.size w (w.alloc o) := (Below.refl _ _).alloc (Nat.le_refl _) o

/-- A row of a slice of syntax: the node, its set's slice and its kids'. -/
abbrev XR : Type := X × Value × Value
def xcells (q : XR) : List Value := [.int .i64 q.1.op, .int .i64 q.1.at_, .int .i64 q.1.n, .string q.1.s, q.2.1, q.2.2]
def xrows (l : List XR) : List Value := l.flatMap xcells
theorem xrows_append (a b : List XR) : xrows (a ++ b) = xrows a ++ xrows b := by simp [xrows]
theorem xrows_length (l : List XR) : (xrows l).length = l.length * 6 := by
  induction l with
  | nil => rfl
  | cons t r ih => simp only [xrows, List.flatMap_cons, List.length_append, List.length_cons] at ih ⊢; rw [ih]; simp [xcells]; omega

/-- The list's nodes are those of the indices. -/
def XKs (kid : Nat → X) (l : List XR) : Prop := ∀ i q, l[i]? = some q → q.1 = kid i
theorem XKs.nil (kid : Nat → X) : XKs kid [] := fun i q h => by simp at h
theorem XKs.snoc {kid : Nat → X} {l : List XR} (h : XKs kid l) (v : Value × Value) : XKs kid (l ++ [(kid l.length, v)]) := by
  intro i q hq
  rcases Nat.lt_trichotomy i l.length with hi | hi | hi
  · rw [List.getElem?_append_left hi] at hq; exact h i q hq
  · subst hi; simp at hq; subst hq; rfl
  · rw [List.getElem?_eq_none (by simp; omega)] at hq; cases hq

theorem xrows_at (l : List XR) (junk : List Value) : ∀ (i : Nat) (q : XR), l[i]? = some q → ∀ j, j < 6 → (xrows l ++ junk)[i * 6 + j]? = (xcells q)[j]? := by
  induction l with
  | nil => intro i q h; simp at h
  | cons x r ih =>
    intro i q h j hj
    have e : xrows (x :: r) ++ junk = xcells x ++ (xrows r ++ junk) := by simp [xrows]
    have hl : (xcells x).length = 6 := rfl
    rw [e]
    cases i with
    | zero =>
      simp at h; subst h
      rw [List.getElem?_append_left (by omega)]; congr 1; omega
    | succ i =>
      simp at h
      rw [List.getElem?_append_right (by omega), hl]
      have := ih i q h j hj
      rw [← this]; congr 1; omega

/-- Six stores behind the rows. -/
theorem set6 (l : List XR) (junk : List Value) (hj : 6 ≤ junk.length) (t : X) (sv v : Value) :
    ((((((xrows l ++ junk).set (l.length * 6) (.int .i64 t.op)).set (l.length * 6 + 1) (.int .i64 t.at_)).set (l.length * 6 + 2) (.int .i64 t.n)).set (l.length * 6 + 3) (.string t.s)).set (l.length * 6 + 4) sv).set (l.length * 6 + 5) v = xrows (l ++ [(t, sv, v)]) ++ junk.drop 6 := by
  have hl := xrows_length l
  have s : ∀ (c : List Value) (j : Nat) (x : Value), (xrows l ++ c).set (l.length * 6 + j) x = xrows l ++ c.set j x := by
    intro c j x
    rw [List.set_append_right _ _ (by omega), hl]
    congr 2; omega
  have s0 := s junk 0 (.int .i64 t.op)
  rw [Nat.add_zero] at s0
  rw [s0, s, s, s, s, s, xrows_append]
  match junk, hj with
  | a :: b :: c :: d :: e :: f :: r, _ => simp [xrows, xcells]

theorem own_belowX {w w' : World} {base e size n : Nat} {v : Value} {xs : List Value} (h : w.ownsRow base e size v n xs) (hb : Below w.heap.size w w') : w'.ownsRow base e size v n xs := by
  refine ⟨h.1, ?_⟩
  rcases h.2 with hn | ⟨g, cap, cur, rfl, hbg, hgg, rest⟩
  · exact .inl hn
  · exact .inr ⟨g, cap, cur, rfl, hbg, (hb.block g (Array.getElem?_eq_some_iff.1 hgg).1).trans hgg, rest⟩

/-- What a call owns lies in memory. -/
theorem XsB.of_own {R : World → Value → List Int → Prop} {w : World} {base e B n : Nat} {v : Value} {kid : Nat → X} {l : List XR} (h : w.ownsRow base e 6 v n (xrows l)) (hl : l.length = n) (hB : B ≤ base) (hk : XKs kid l) (hin : ∀ q ∈ l, q.1.InB R B w q.2.1 q.2.2) : XsB R B w n kid v := by
  rcases h.2 with ⟨rfl, rfl⟩ | ⟨g, cap, cur, rfl, hbg, hgg, hc, hm, hs, ht⟩
  · exact .inl ⟨rfl, _, _, rfl⟩
  · refine .inr ⟨g, 0, cap, fun i => ((l[i]?).getD (.no, .bool false, .bool false)).2.1, fun i => ((l[i]?).getD (.no, .bool false, .bool false)).2.2, rfl, by omega, hc, hm, fun i hi => ?_⟩
    have hi' : i < l.length := by omega
    have hq : l[i]? = some l[i] := List.getElem?_eq_getElem hi'
    have hkid := hk i _ hq
    have cell : ∀ j, j < 6 → w.cell? ⟨g, 0 + i * 6 + j, none⟩ = (xcells l[i])[j]? := by
      intro j hj
      have := h.cellAt (i * 6 + j) (by omega)
      rw [Nat.zero_add, this]
      have := xrows_at l [] i _ hq j hj
      simpa using this
    simp only [hq, Option.getD_some]
    rw [← hkid]
    exact ⟨⟨cell 0 (by omega), cell 1 (by omega), cell 2 (by omega), cell 3 (by omega), cell 4 (by omega), cell 5 (by omega)⟩, hin _ (List.getElem_mem hi')⟩

theorem grownX {w w1 w2 : World} {row : Option Nat} (h : w.grownBy w1 row) (g : w1.grownBy w2 row) : w.grownBy w2 row :=
  ⟨g.os.trans h.os, g.tape.trans h.tape, g.output.trans h.output, Nat.le_trans h.size g.size, fun k hk hr => (g.block k (Nat.lt_of_lt_of_le hk h.size) hr).trans (h.block k hk hr)⟩
theorem keepX {w w' : World} {g : Nat} (h : w.grownBy w' (some g)) (a : Addr) (u : Value) (hne : a.block ≠ g) (hc : w.cell? a = some u) : w'.cell? a = some u :=
  h.cell hc (by simpa using hne)

/-- Six stores, from cell p of block g on. -/
abbrev st6 (w : World) (g p : Nat) (t : X) (sv v : Value) : World :=
  (((((w.setCell ⟨g, p, none⟩ (.int .i64 t.op)).setCell ⟨g, p + 1, none⟩ (.int .i64 t.at_)).setCell ⟨g, p + 2, none⟩ (.int .i64 t.n)).setCell ⟨g, p + 3, none⟩ (.string t.s)).setCell ⟨g, p + 4, none⟩ sv).setCell ⟨g, p + 5, none⟩ v

theorem stored6 {w : World} {base e g cap n : Nat} {l : List XR} {junk : List Value} (h : w.ownsRow base e 6 (.slice (some ⟨g, 0, none⟩) n cap) n (xrows l ++ junk)) (hj : 6 ≤ junk.length) (t : X) (sv v : Value) :
    (st6 w g (l.length * 6) t sv v).ownsRow base e 6 (.slice (some ⟨g, 0, none⟩) n cap) n (xrows (l ++ [(t, sv, v)]) ++ junk.drop 6) ∧ w.grownBy (st6 w g (l.length * 6) t sv v) (some g) := by
  obtain ⟨q1, g1⟩ := h.stored (l.length * 6) (.int .i64 t.op)
  obtain ⟨q2, g2⟩ := q1.stored (l.length * 6 + 1) (.int .i64 t.at_)
  obtain ⟨q3, g3⟩ := q2.stored (l.length * 6 + 2) (.int .i64 t.n)
  obtain ⟨q4, g4⟩ := q3.stored (l.length * 6 + 3) (.string t.s)
  obtain ⟨q5, g5⟩ := q4.stored (l.length * 6 + 4) sv
  obtain ⟨q6, g6⟩ := q5.stored (l.length * 6 + 5) v
  rw [set6 l junk hj t sv v] at q6
  exact ⟨q6, grownX (grownX (grownX (grownX (grownX g1 g2) g3) g4) g5) g6⟩

/-- A row goes on by one node. -/
theorem row_stepX {w wr w2 : World} {e n cap : Nat} {l : List XR} {junk : List Value} {kid : Nat → X} {sv v : Value}
    (hown : wr.ownsRow w.heap.size e 6 (.slice (some ⟨w.heap.size, 0, none⟩) n cap) n (xrows l ++ junk)) (hj : 6 ≤ junk.length) (hks : XKs kid l) (hin : ∀ q ∈ l, q.1.At (w.heap.size + 1) wr q.2.1 q.2.2)
    (hbel : Below w.heap.size w wr) (hsz : w.heap.size < wr.heap.size) (hb : Below wr.heap.size wr w2) (hv : (kid l.length).At wr.heap.size w2 sv v) :
    (st6 w2 w.heap.size (l.length * 6) (kid l.length) sv v).ownsRow w.heap.size e 6 (.slice (some ⟨w.heap.size, 0, none⟩) n cap) n (xrows (l ++ [(kid l.length, sv, v)]) ++ junk.drop 6) ∧ XKs kid (l ++ [(kid l.length, sv, v)]) ∧
    (∀ q ∈ l ++ [(kid l.length, sv, v)], q.1.At (w.heap.size + 1) (st6 w2 w.heap.size (l.length * 6) (kid l.length) sv v) q.2.1 q.2.2) ∧ Below w.heap.size w (st6 w2 w.heap.size (l.length * 6) (kid l.length) sv v) ∧ w.heap.size < (st6 w2 w.heap.size (l.length * 6) (kid l.length) sv v).heap.size := by
  obtain ⟨q, g⟩ := stored6 (own_belowX hown hb) hj (kid l.length) sv v
  have hk : ∀ a u, w.heap.size + 1 ≤ a.block → w2.cell? a = some u → (st6 w2 w.heap.size (l.length * 6) (kid l.length) sv v).cell? a = some u := fun a u ha hc => keepX g a u (by omega) hc
  have hb2 : Below w.heap.size w w2 := hbel.trans (hb.mono (by omega))
  refine ⟨q, hks.snoc (sv, v), ?_, hb2.trans ⟨g.os, g.tape, g.output, g.size, fun k hk => g.block k (by have := hb2.size; omega) (by intro e; injection e with e; omega)⟩, Nat.lt_of_lt_of_le hsz (Nat.le_trans hb.size g.size)⟩
  intro x hx
  rcases List.mem_append.1 hx with hx | hx
  · exact X.At.kept (Nat.le_refl _) hk (X.At.below hb (hin x hx))
  · simp only [List.mem_singleton] at hx
    subst hx
    exact X.At.kept (Nat.le_refl _) hk (X.At.mono (by omega) hv)

/-- Three new blocks, behind a call. -/
theorem threeX {w w1 : World} {o1 o2 o3 : Obj} (hb : Below (((w.alloc o1).alloc o2).alloc o3).heap.size (((w.alloc o1).alloc o2).alloc o3) w1) :
    w1.heap[w.heap.size]? = some o1 ∧ w1.heap[w.heap.size + 1]? = some o2 ∧ w1.heap[w.heap.size + 1 + 1]? = some o3 ∧ w.heap.size + 3 ≤ w1.heap.size ∧ Below w.heap.size w w1 := by
  have e1 : (w.alloc o1).heap.size = w.heap.size + 1 := by simp
  have e2 : ((w.alloc o1).alloc o2).heap.size = w.heap.size + 1 + 1 := by simp
  have e3 : (((w.alloc o1).alloc o2).alloc o3).heap.size = w.heap.size + 1 + 1 + 1 := by simp
  have n3 := heap_alloc_new ((w.alloc o1).alloc o2) o3
  have n2 := heap_alloc_new (w.alloc o1) o2
  have n1 := heap_alloc_new w o1
  rw [e2] at n3
  rw [e1] at n2
  refine ⟨?_, ?_, ?_, by have := hb.size; omega, ((newx w o1).trans (((newx _ o2).mono (by omega)).trans ((newx _ o3).mono (by omega)))).trans (hb.mono (by omega))⟩
  · rw [hb.block _ (by omega), Below.heap_alloc _ _ _ (by omega), Below.heap_alloc _ _ _ (by omega)]; exact n1
  · rw [hb.block _ (by omega), Below.heap_alloc _ _ _ (by omega)]; exact n2
  · rw [hb.block _ (by omega)]; exact n3

theorem results_cellX {fn : Func} {p : Tmp} {ty : TypeId} (h : fn.results = #[.cell p ty]) (tmps : Array Value) (P : Program) (w : World) :
    (results fn tmps).run P w = ((asAddr (tmps.getD p undef)).run P w).andThen fun a w₁ => (loadVar ty a).run P w₁ := by
  simp only [results, h]
  simp [Sem.run_bind, Result.andThen]
theorem stx_info : (Try.prog.info? 35).map (fun i => (i.zero, i.size, i.bytes)) = some (some (.agg #[.int .i64 0, .int .i64 0, .int .i64 0, .string ⟨#[]⟩, .slice none 0 0, .slice none 0 0]), 6, 88) := by kernel_rfl
end Go.Proofs.Ytaflnjhknnnaoaa

/- impl.partOf, impl.isSym, impl.datKids, impl.stxKids. No conditions. -/
namespace Go.Proofs.Ytaflnjhknnnaoaa
open Go.ChangeShapes Go.WideShapes Go.ChangeAt Go.RowKit

/-- The type of a kind's part. -/
def PartT (op : Int) (T : TypeId) : Prop := (op = 1 ∧ T = 74) ∨ (op = 2 ∧ T = 76) ∨ (op = 3 ∧ T = 78) ∨ ((op ≠ 1 ∧ op ≠ 2 ∧ op ≠ 3) ∧ T = 86)

set_option maxRecDepth 100000 in
set_option maxHeartbeats 1000000 in
theorem part_of (op a n : Int) (s : ByteArray) (sv v : Value) (w : World) :
    Calls Try.prog 46 #[.agg #[.int .i64 op, .int .i64 a, .int .i64 n, .string s, sv, v]] w fun e w' => ∃ T, e = .returned (.iface T (.agg #[.int .i64 op, .int .i64 a, .int .i64 n, .string s, sv, v])) ∧ Below w.heap.size w w' ∧ PartT op T := by
  have HB : Hid (∀ o1, Below w.heap.size w (w.alloc o1)) := fun o1 => newx w _
  by_cases h1 : op = 1
  · subst h1
    go_enter Try.func46, Try.ntmps46
    go_wp2_with fail
    go_ret
    exact ⟨_, rfl, HB.out _, .inl ⟨rfl, rfl⟩⟩
  by_cases h2 : op = 2
  · subst h2
    go_enter Try.func46, Try.ntmps46
    go_wp2_with fail
    go_ret
    exact ⟨_, rfl, HB.out _, .inr (.inl ⟨rfl, rfl⟩)⟩
  by_cases h3 : op = 3
  · subst h3
    go_enter Try.func46, Try.ntmps46
    go_wp2_with fail
    go_ret
    exact ⟨_, rfl, HB.out _, .inr (.inr (.inl ⟨rfl, rfl⟩))⟩
  · have d1 : (op == 1) = false := by simpa using h1
    have d2 : (op == 2) = false := by simpa using h2
    have d3 : (op == 3) = false := by simpa using h3
    have HO : Hid (op ≠ 1 ∧ op ≠ 2 ∧ op ≠ 3) := ⟨h1, h2, h3⟩
    clear h1 h2 h3
    go_enter Try.func46, Try.ntmps46
    go_wp2_with fail
    go_ret
    exact ⟨_, rfl, HB.out _, .inr (.inr (.inr ⟨HO.out, rfl⟩))⟩

/-- A part is of the type asked for. -/
theorem assert_yes {P : Program} {t : TypeId} {fs : Array Field} (hu : P.underlying t = some (.struct fs)) (v : Value) (xT : TypeId) (w : World) : (Instr.typeAssert (.iface t v) xT t true).run P w = .ok (.tuple #[v, .bool true]) w := by
  simp [Instr.typeAssert, run_underlying hu, go_sem, Result.andThen]
/-- .. or of another. -/
theorem assert_no {P : Program} {t ty : TypeId} {fs : Array Field} {z : Value} (hu : P.underlying t = some (.struct fs)) (hz : (P.info? t).map (·.zero) = some (some z)) (hne : ty ≠ t) (v : Value) (xT : TypeId) (w : World) : (Instr.typeAssert (.iface ty v) xT t true).run P w = .ok (.tuple #[z, .bool false]) w := by
  obtain ⟨j, hj, hz'⟩ := Option.map_eq_some_iff.1 hz
  simp [Instr.typeAssert, run_underlying hu, hne, zeroValue, typeInfo, hj, hz']
/-- A part's zero. -/
abbrev zero6 : Value := .agg #[.int .i64 0, .int .i64 0, .int .i64 0, .string ⟨#[]⟩, .slice none 0 0, .slice none 0 0]
theorem is_numPart (v : Value) (w : World) : (Instr.typeAssert (.iface 74 v) 72 74 true).run Try.prog w = .ok (.tuple #[v, .bool true]) w := assert_yes Try.underlying74 v _ w
theorem no_numPart {ty : TypeId} (hne : ty ≠ 74) (v : Value) (w : World) : (Instr.typeAssert (.iface ty v) 72 74 true).run Try.prog w = .ok (.tuple #[zero6, .bool false]) w := assert_no Try.underlying74 (by kernel_rfl) hne v _ w
theorem is_symPart (v : Value) (w : World) : (Instr.typeAssert (.iface 76 v) 72 76 true).run Try.prog w = .ok (.tuple #[v, .bool true]) w := assert_yes Try.underlying76 v _ w
theorem no_symPart {ty : TypeId} (hne : ty ≠ 76) (v : Value) (w : World) : (Instr.typeAssert (.iface ty v) 72 76 true).run Try.prog w = .ok (.tuple #[zero6, .bool false]) w := assert_no Try.underlying76 (by kernel_rfl) hne v _ w
theorem is_listPart (v : Value) (w : World) : (Instr.typeAssert (.iface 78 v) 72 78 true).run Try.prog w = .ok (.tuple #[v, .bool true]) w := assert_yes Try.underlying78 v _ w
theorem no_listPart {ty : TypeId} (hne : ty ≠ 78) (v : Value) (w : World) : (Instr.typeAssert (.iface ty v) 72 78 true).run Try.prog w = .ok (.tuple #[zero6, .bool false]) w := assert_no Try.underlying78 (by kernel_rfl) hne v _ w

set_option maxRecDepth 100000 in
theorem kind_numPart (op a n : Int) (s : ByteArray) (sv v : Value) (w : World) :
    Calls Try.prog 94 #[.agg #[.int .i64 op, .int .i64 a, .int .i64 n, .string s, sv, v]] w fun e w' => e = .returned (.int .i64 1) ∧ Below w.heap.size w w' := by
  go_enter Try.func94, Try.ntmps94
  go_wp2_with fail
  go_ret
  exact ⟨rfl, newx _ _⟩
set_option maxRecDepth 100000 in
theorem kind_symPart (op a n : Int) (s : ByteArray) (sv v : Value) (w : World) :
    Calls Try.prog 95 #[.agg #[.int .i64 op, .int .i64 a, .int .i64 n, .string s, sv, v]] w fun e w' => e = .returned (.int .i64 2) ∧ Below w.heap.size w w' := by
  go_enter Try.func95, Try.ntmps95
  go_wp2_with fail
  go_ret
  exact ⟨rfl, newx _ _⟩
set_option maxRecDepth 100000 in
theorem kind_listPart (op a n : Int) (s : ByteArray) (sv v : Value) (w : World) :
    Calls Try.prog 96 #[.agg #[.int .i64 op, .int .i64 a, .int .i64 n, .string s, sv, v]] w fun e w' => e = .returned (.int .i64 3) ∧ Below w.heap.size w w' := by
  go_enter Try.func96, Try.ntmps96
  go_wp2_with fail
  go_ret
  exact ⟨rfl, newx _ _⟩
set_option maxRecDepth 100000 in
theorem kind_nonePart (op a n : Int) (s : ByteArray) (sv v : Value) (w : World) :
    Calls Try.prog 97 #[.agg #[.int .i64 op, .int .i64 a, .int .i64 n, .string s, sv, v]] w fun e w' => e = .returned (.int .i64 0) ∧ Below w.heap.size w w' := by
  go_enter Try.func97, Try.ntmps97
  go_wp2_with fail
  go_ret
  exact ⟨rfl, newx _ _⟩
set_option maxRecDepth 100000 in
set_option maxHeartbeats 1000000 in
theorem is_sym (op a n : Int) (s : ByteArray) (sv v : Value) (w : World) :
    Calls Try.prog 50 #[.agg #[.int .i64 op, .int .i64 a, .int .i64 n, .string s, sv, v]] w fun e w' => e = .returned (.bool (decide (op = 2))) ∧ Below w.heap.size w w' := by
  go_enter Try.func50, Try.ntmps50
  go_wp2_with fail
  refine (part_of op a n s sv v _).mono ?_
  rintro e w1 ⟨T, rfl, hb1, hT⟩
  have HB1 : Hid (Below w.heap.size w w1) := (newx w _).trans (hb1.mono (by simp))
  clear hb1
  rcases hT with ⟨h, rfl⟩ | ⟨h, rfl⟩ | ⟨h, rfl⟩ | ⟨⟨h1, h2, h3⟩, rfl⟩
  · have HR : Hid (decide (op = 2) = false) := decide_eq_false (by omega)
    clear h
    go_wp2_with fail
    refine (kind_numPart op a n s sv v _).mono ?_
    rintro e w2 ⟨rfl, hb2⟩
    have HB2 : Hid (Below w.heap.size w w2) := HB1.out.trans (hb2.mono HB1.out.size)
    clear hb2
    go_wp2_with fail
    go_ret
    exact ⟨by rw [HR.out]; rfl, HB2.out⟩
  · have HR : Hid (decide (op = 2) = true) := decide_eq_true h
    clear h
    go_wp2_with fail
    refine (kind_symPart op a n s sv v _).mono ?_
    rintro e w2 ⟨rfl, hb2⟩
    have HB2 : Hid (Below w.heap.size w w2) := HB1.out.trans (hb2.mono HB1.out.size)
    clear hb2
    go_wp2_with fail
    go_ret
    exact ⟨by rw [HR.out]; rfl, HB2.out⟩
  · have HR : Hid (decide (op = 2) = false) := decide_eq_false (by omega)
    clear h
    go_wp2_with fail
    refine (kind_listPart op a n s sv v _).mono ?_
    rintro e w2 ⟨rfl, hb2⟩
    have HB2 : Hid (Below w.heap.size w w2) := HB1.out.trans (hb2.mono HB1.out.size)
    clear hb2
    go_wp2_with fail
    go_ret
    exact ⟨by rw [HR.out]; rfl, HB2.out⟩
  · have HR : Hid (decide (op = 2) = false) := decide_eq_false h2
    clear h1 h2 h3
    go_wp2_with fail
    refine (kind_nonePart op a n s sv v _).mono ?_
    rintro e w2 ⟨rfl, hb2⟩
    have HB2 : Hid (Below w.heap.size w w2) := HB1.out.trans (hb2.mono HB1.out.size)
    clear hb2
    go_wp2_with fail
    go_ret
    exact ⟨by rw [HR.out]; rfl, HB2.out⟩
theorem is_symB (op a n : Int) (s : ByteArray) (sv v : Value) (b : Bool) (hb : decide (op = 2) = b) (w : World) :
    Calls Try.prog 50 #[.agg #[.int .i64 op, .int .i64 a, .int .i64 n, .string s, sv, v]] w fun e w' => e = .returned (.bool b) ∧ Below w.heap.size w w' := by
  subst hb
  exact is_sym op a n s sv v w

set_option maxRecDepth 100000 in
theorem stx_kids (op a n : Int) (s : ByteArray) (sv v : Value) (w : World) :
    Calls Try.prog 38 #[.agg #[.int .i64 op, .int .i64 a, .int .i64 n, .string s, sv, v]] w fun e w' => e = .returned v ∧ Below w.heap.size w w' := by
  go_enter Try.func38, Try.ntmps38
  go_wp2_with fail
  go_ret
  exact ⟨rfl, newx _ _⟩

end Go.Proofs.Ytaflnjhknnnaoaa
