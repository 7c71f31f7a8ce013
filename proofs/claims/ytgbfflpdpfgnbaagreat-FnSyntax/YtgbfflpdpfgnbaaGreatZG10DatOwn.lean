/- Rows of data that a call owns. No conditions. -/
import Derived.Test.YtgbfflpdpfgnbaaGreatZG7Cur
import Derived.Test.YtgbfflpdpfgnbaaGreatZG3SpecStart
import Derived.Test.YtgbfflpdpfgnbaaGreatZG4IntsImpl
import Derived.Test.YtgbfflpdpfgnbaaGreatZG6StxP
import Derived.Test.YtgbfflpdpfgnbaaGreatZG1StxOwn
import Derived.Test.YtgbfflpdpfgnbaaGreatRows
import Derived.OwnWalk
import Derived.Laws.OwnMore
import Derived.Laws.ResultCell
import Derived.Deep.AppendLies
import Derived.Deep.Cut
namespace Go.Proofs.YtgbfflpdpfgnbaaGreat
open Go.ChangeShapes Go.WideShapes Go.ChangeAt Go.RowKit

def dcells (q : D × Value) : List Value := [.int .i64 q.1.op, .int .i64 q.1.at_, .int .i64 q.1.n, .string q.1.s, q.2]
def drows (l : List (D × Value)) : List Value := l.flatMap dcells
theorem drows_append (a b : List (D × Value)) : drows (a ++ b) = drows a ++ drows b := by simp [drows]
theorem drows_length (l : List (D × Value)) : (drows l).length = l.length * 5 := by
  induction l with
  | nil => rfl
  | cons t r ih => simp only [drows, List.flatMap_cons, List.length_append, List.length_cons] at ih ⊢; rw [ih]; simp [dcells]; omega

/-- The list's data are those of the indices. -/
def Ks (kid : Nat → D) (l : List (D × Value)) : Prop := ∀ i q, l[i]? = some q → q.1 = kid i
theorem Ks.nil (kid : Nat → D) : Ks kid [] := fun i q h => by simp at h
theorem Ks.snoc {kid : Nat → D} {l : List (D × Value)} (h : Ks kid l) (v : Value) : Ks kid (l ++ [(kid l.length, v)]) := by
  intro i q hq
  rcases Nat.lt_trichotomy i l.length with hi | hi | hi
  · rw [List.getElem?_append_left hi] at hq; exact h i q hq
  · subst hi; simp at hq; subst hq; rfl
  · rw [List.getElem?_eq_none (by simp; omega)] at hq; cases hq

theorem drows_at (l : List (D × Value)) (junk : List Value) : ∀ (i : Nat) (q : D × Value), l[i]? = some q → ∀ j, j < 5 → (drows l ++ junk)[i * 5 + j]? = (dcells q)[j]? := by
  induction l with
  | nil => intro i q h; simp at h
  | cons x r ih =>
    intro i q h j hj
    have e : drows (x :: r) ++ junk = dcells x ++ (drows r ++ junk) := by simp [drows]
    have hl : (dcells x).length = 5 := rfl
    rw [e]
    cases i with
    | zero =>
      simp at h; subst h
      rw [List.getElem?_append_left (by omega)]; congr 1; omega
    | succ i =>
      simp at h
      rw [List.getElem?_append_right (by omega), hl]
      have := ih i q h j hj
      rw [← this]; congr 1; omega

/-- Five stores behind the rows. -/
theorem set5 (l : List (D × Value)) (junk : List Value) (hj : 5 ≤ junk.length) (t : D) (v : Value) :
    (((((drows l ++ junk).set (l.length * 5) (.int .i64 t.op)).set (l.length * 5 + 1) (.int .i64 t.at_)).set (l.length * 5 + 2) (.int .i64 t.n)).set (l.length * 5 + 3) (.string t.s)).set (l.length * 5 + 4) v = drows (l ++ [(t, v)]) ++ junk.drop 5 := by
  have hl := drows_length l
  have s : ∀ (c : List Value) (j : Nat) (x : Value), (drows l ++ c).set (l.length * 5 + j) x = drows l ++ c.set j x := by
    intro c j x
    rw [List.set_append_right _ _ (by omega), hl]
    congr 2; omega
  have s0 := s junk 0 (.int .i64 t.op)
  rw [Nat.add_zero] at s0
  rw [s0, s, s, s, s, drows_append]
  match junk, hj with
  | a :: b :: c :: d :: e :: r, _ => simp [drows, dcells]

theorem own_below5 {w w' : World} {base e size n : Nat} {v : Value} {xs : List Value} (h : w.ownsRow base e size v n xs) (hb : Below w.heap.size w w') : w'.ownsRow base e size v n xs := by
  refine ⟨h.1, ?_⟩
  rcases h.2 with hn | ⟨g, cap, cur, rfl, hbg, hgg, rest⟩
  · exact .inl hn
  · exact .inr ⟨g, cap, cur, rfl, hbg, (hb.block g (Array.getElem?_eq_some_iff.1 hgg).1).trans hgg, rest⟩

/-- What a call owns lies in memory. -/
theorem SlB.of_own {w : World} {base e B n : Nat} {v : Value} {kid : Nat → D} {l : List (D × Value)} (h : w.ownsRow base e 5 v n (drows l)) (hl : l.length = n) (hB : B ≤ base) (hk : Ks kid l) (hin : ∀ q ∈ l, q.1.InB B w q.2) : SlB B w n kid v := by
  rcases h.2 with ⟨rfl, rfl⟩ | ⟨g, cap, cur, rfl, hbg, hgg, hc, hm, hs, ht⟩
  · exact .inl ⟨rfl, _, _, rfl⟩
  · refine .inr ⟨g, 0, cap, fun i => ((l[i]?).getD (.no, .bool false)).2, rfl, by omega, hc, hm, fun i hi => ?_⟩
    have hi' : i < l.length := by omega
    have hq : l[i]? = some l[i] := List.getElem?_eq_getElem hi'
    have hkid := hk i _ hq
    have cell : ∀ j, j < 5 → w.cell? ⟨g, 0 + i * 5 + j, none⟩ = (dcells l[i])[j]? := by
      intro j hj
      have := h.cellAt (i * 5 + j) (by omega)
      rw [Nat.zero_add, this]
      have := drows_at l [] i _ hq j hj
      simpa using this
    simp only [hq, Option.getD_some]
    rw [← hkid]
    exact ⟨⟨cell 0 (by omega), cell 1 (by omega), cell 2 (by omega), cell 3 (by omega), cell 4 (by omega)⟩, hin _ (List.getElem_mem hi')⟩

theorem grownb {w w1 w2 : World} {row : Option Nat} (h : w.grownBy w1 row) (g : w1.grownBy w2 row) : w.grownBy w2 row :=
  ⟨g.os.trans h.os, g.tape.trans h.tape, g.output.trans h.output, Nat.le_trans h.size g.size, fun k hk hr => (g.block k (Nat.lt_of_lt_of_le hk h.size) hr).trans (h.block k hk hr)⟩
theorem keepg {w w' : World} {g : Nat} (h : w.grownBy w' (some g)) (a : Addr) (u : Value) (hne : a.block ≠ g) (hc : w.cell? a = some u) : w'.cell? a = some u :=
  h.cell hc (by simpa using hne)

/-- Five stores, from cell p of block g on. -/
abbrev st5 (w : World) (g p : Nat) (t : D) (v : Value) : World :=
  ((((w.setCell ⟨g, p, none⟩ (.int .i64 t.op)).setCell ⟨g, p + 1, none⟩ (.int .i64 t.at_)).setCell ⟨g, p + 2, none⟩ (.int .i64 t.n)).setCell ⟨g, p + 3, none⟩ (.string t.s)).setCell ⟨g, p + 4, none⟩ v

theorem stored5 {w : World} {base e g cap n : Nat} {l : List (D × Value)} {junk : List Value} (h : w.ownsRow base e 5 (.slice (some ⟨g, 0, none⟩) n cap) n (drows l ++ junk)) (hj : 5 ≤ junk.length) (t : D) (v : Value) :
    (st5 w g (l.length * 5) t v).ownsRow base e 5 (.slice (some ⟨g, 0, none⟩) n cap) n (drows (l ++ [(t, v)]) ++ junk.drop 5) ∧ w.grownBy (st5 w g (l.length * 5) t v) (some g) := by
  obtain ⟨q1, g1⟩ := h.stored (l.length * 5) (.int .i64 t.op)
  obtain ⟨q2, g2⟩ := q1.stored (l.length * 5 + 1) (.int .i64 t.at_)
  obtain ⟨q3, g3⟩ := q2.stored (l.length * 5 + 2) (.int .i64 t.n)
  obtain ⟨q4, g4⟩ := q3.stored (l.length * 5 + 3) (.string t.s)
  obtain ⟨q5, g5⟩ := q4.stored (l.length * 5 + 4) v
  rw [set5 l junk hj t v] at q5
  exact ⟨q5, grownb (grownb (grownb (grownb g1 g2) g3) g4) g5⟩

/-- A row goes on by one datum. -/
theorem row_step {w wr w2 : World} {e n cap : Nat} {l : List (D × Value)} {junk : List Value} {kid : Nat → D} {v : Value}
    (hown : wr.ownsRow w.heap.size e 5 (.slice (some ⟨w.heap.size, 0, none⟩) n cap) n (drows l ++ junk)) (hj : 5 ≤ junk.length) (hks : Ks kid l) (hin : ∀ q ∈ l, q.1.InB (w.heap.size + 1) wr q.2)
    (hbel : Below w.heap.size w wr) (hsz : w.heap.size < wr.heap.size) (hb : Below wr.heap.size wr w2) (hv : (kid l.length).InB wr.heap.size w2 v) :
    (st5 w2 w.heap.size (l.length * 5) (kid l.length) v).ownsRow w.heap.size e 5 (.slice (some ⟨w.heap.size, 0, none⟩) n cap) n (drows (l ++ [(kid l.length, v)]) ++ junk.drop 5) ∧ Ks kid (l ++ [(kid l.length, v)]) ∧
    (∀ q ∈ l ++ [(kid l.length, v)], q.1.InB (w.heap.size + 1) (st5 w2 w.heap.size (l.length * 5) (kid l.length) v) q.2) ∧ Below w.heap.size w (st5 w2 w.heap.size (l.length * 5) (kid l.length) v) ∧ w.heap.size < (st5 w2 w.heap.size (l.length * 5) (kid l.length) v).heap.size := by
  obtain ⟨q, g⟩ := stored5 (own_below5 hown hb) hj (kid l.length) v
  have hk : ∀ a u, w.heap.size + 1 ≤ a.block → w2.cell? a = some u → (st5 w2 w.heap.size (l.length * 5) (kid l.length) v).cell? a = some u := fun a u ha hc => keepg g a u (by omega) hc
  have hb2 : Below w.heap.size w w2 := hbel.trans (hb.mono (by omega))
  refine ⟨q, hks.snoc v, ?_, hb2.trans ⟨g.os, g.tape, g.output, g.size, fun k hk => g.block k (by have := hb2.size; omega) (by intro e; injection e with e; omega)⟩, Nat.lt_of_lt_of_le hsz (Nat.le_trans hb.size g.size)⟩
  intro x hx
  rcases List.mem_append.1 hx with hx | hx
  · exact D.InB.kept hk _ ((hin x hx).below hb)
  · simp only [List.mem_singleton] at hx
    subst hx
    exact D.InB.kept hk _ (hv.mono (by omega))

/-- Three new blocks, behind a call. -/
theorem three {w w1 : World} {o1 o2 o3 : Obj} (hb : Below (((w.alloc o1).alloc o2).alloc o3).heap.size (((w.alloc o1).alloc o2).alloc o3) w1) :
    w1.heap[w.heap.size]? = some o1 ∧ w1.heap[w.heap.size + 1]? = some o2 ∧ w1.heap[w.heap.size + 1 + 1]? = some o3 ∧ w.heap.size + 3 ≤ w1.heap.size ∧ Below w.heap.size w w1 := by
  have e1 : (w.alloc o1).heap.size = w.heap.size + 1 := by simp
  have e2 : ((w.alloc o1).alloc o2).heap.size = w.heap.size + 1 + 1 := by simp
  have e3 : (((w.alloc o1).alloc o2).alloc o3).heap.size = w.heap.size + 1 + 1 + 1 := by simp
  have n3 := heap_alloc_new ((w.alloc o1).alloc o2) o3
  have n2 := heap_alloc_new (w.alloc o1) o2
  have n1 := heap_alloc_new w o1
  rw [e2] at n3
  rw [e1] at n2
  refine ⟨?_, ?_, ?_, by have := hb.size; omega, ((newb w o1).trans (((newb _ o2).mono (by omega)).trans ((newb _ o3).mono (by omega)))).trans (hb.mono (by omega))⟩
  · rw [hb.block _ (by omega), Below.heap_alloc _ _ _ (by omega), Below.heap_alloc _ _ _ (by omega)]; exact n1
  · rw [hb.block _ (by omega), Below.heap_alloc _ _ _ (by omega)]; exact n2
  · rw [hb.block _ (by omega)]; exact n3

theorem results_cell1 {fn : Func} {p : Tmp} {ty : TypeId} (h : fn.results = #[.cell p ty]) (tmps : Array Value) (P : Program) (w : World) :
    (results fn tmps).run P w = ((asAddr (tmps.getD p undef)).run P w).andThen fun a w₁ => (loadVar ty a).run P w₁ := by
  simp only [results, h]
  simp [Sem.run_bind, Result.andThen]
end Go.Proofs.YtgbfflpdpfgnbaaGreat

/- spec.StxOf. Condition: at most 2^20 of the datum, a set of at most 2^22. -/
namespace Go.Proofs.YtgbfflpdpfgnbaaGreat
open Go.ChangeShapes Go.WideShapes Go.ChangeAt Go.RowKit

def SpecStxAt (set : List Int) (t : D) : Prop := ∀ (w : World) (v sv : Value), t.In w v → Rd w sv set → t.weight ≤ 1048576 → Calls Tryz.prog 14 #[.agg #[.int .i64 t.op, .int .i64 t.at_, .int .i64 t.n, .string t.s, v], sv] w fun e w' =>
  ∃ su u S, e = .returned (.agg #[.int .i64 t.op, .int .i64 t.at_, .int .i64 t.n, .string t.s, su, u]) ∧ Below w.heap.size w w' ∧ XOwn w' (stxD set t) su u S ∧ S.Nodup ∧ ∀ x ∈ S, w.heap.size ≤ x

theorem specStx_enter (vs : Array Value) (w : World) : (callFunc 14 vs).run Tryz.prog w = .ok (.enter 14 vs) w := by kernel_rfl

theorem stx_cells (set : List Int) (d : D) (su v : Value) : xcells (stxD set d, su, v) = [.int .i64 d.op, .int .i64 d.at_, .int .i64 d.n, .string d.s, su, v] := by cases d <;> rfl

set_option maxRecDepth 100000 in
set_option maxHeartbeats 4000000 in
theorem spec_stx_of (set : List Int) (hl : set.length ≤ 4194304) (t : D) : SpecStxAt set t := by
  induction t with
  | no => intro w v sv h; exact h.elim
  | mk op a n s len kid ih =>
    intro w v sv hin hrd hwt
    obtain ⟨i0, hi0, hz0, hz1, hz2⟩ := info_parts stx_info
    obtain ⟨iI, hiI, hzI0, hzI1, hzI2⟩ := info_parts int_info
    have hsl : Sl w len kid v := hin.sl
    have HPL : Hid (s.size ≤ maxLen ∧ -9223372036854775808 ≤ n ∧ n ≤ 9223372036854775807) := ⟨hin.size, hin.num⟩
    obtain ⟨p, cap, rfl, -, hat⟩ := hsl.at
    obtain ⟨ps, cps, hsv, -⟩ := hrd.shape
    subst hsv
    have hwe : (D.mk op a n s len kid).weight = s.size + (len + sumTo (fun i => (kid i).weight) len) := rfl
    have hlen : len ≤ 1048576 := by omega
    have HRD : Hid (Rd w (.slice ps set.length cps) set) := hrd
    have IH : Hid (∀ i, i < len → ∀ (w : World) (v sv : Value), (kid i).In w v → Rd w sv set → Calls Tryz.prog 14 #[.agg #[.int .i64 (kid i).op, .int .i64 (kid i).at_, .int .i64 (kid i).n, .string (kid i).s, v], sv] w fun e w' =>
      ∃ su u S, e = .returned (.agg #[.int .i64 (kid i).op, .int .i64 (kid i).at_, .int .i64 (kid i).n, .string (kid i).s, su, u]) ∧ Below w.heap.size w w' ∧ XOwn w' (stxD set (kid i)) su u S ∧ S.Nodup ∧ ∀ x ∈ S, w.heap.size ≤ x) := fun i hi w v sv h h2 => ih i w v sv h h2 (by
        have h1 := sumTo_at (fun i => (kid i).weight) i len hi
        omega)
    have HAT : Hid (∀ i, i < len → ∃ b o u, p = some ⟨b, o, none⟩ ∧ Head w b (o + i * 5) (kid i) u ∧ (kid i).In w u) := hat
    obtain ⟨Y, hY⟩ : ∃ Y, Y = (if op = 2 then set else []) := ⟨_, rfl⟩
    have HY : Hid (stxD set (.mk op a n s len kid) = .mk op a n s Y len (fun i => stxD set (kid i))) := by show _ = _; rw [hY]; rfl
    have HYL : Hid (Y.length ≤ maxLen) := by
      show _ ≤ _
      rw [hY]
      by_cases h : op = 2
      · rw [if_pos h]; unfold maxLen; omega
      · rw [if_neg h]; exact Nat.zero_le _
    have HST := stx_start w (.cells #[.int .i64 op, .int .i64 a, .int .i64 n, .string s, .slice p len cap] 26) op a n s (fun i => stxD set (kid i))
    have HS0 : Hid (XLoop [] w (((w.alloc (.cells #[.int .i64 op, .int .i64 a, .int .i64 n, .string s, .slice p len cap] 26)).alloc (.cells #[.int .i64 0, .int .i64 0, .int .i64 0, .string ⟨#[]⟩, .slice none 0 0, .slice none 0 0] 32)).alloc (.cells #[.int .i64 op, .int .i64 a, .int .i64 n, .string s, .slice none 0 0, .slice none 0 0] 32)) (w.heap.size + 3) w.heap.size (w.heap.size + 1) (w.heap.size + 1 + 1) (.cells #[.int .i64 op, .int .i64 a, .int .i64 n, .string s, .slice p len cap] 26) op a n s [] (.slice none 0 0) (fun i => stxD set (kid i)) 0 (.slice none 0 0) [] []) := HST
    simp only [D.op, D.at_, D.n, D.s]
    rw [HY.out]
    clear hin hsl ih hat hwe hwt hrd HST
    have HO1 : Hid (Own ((((w.alloc (.cells #[.int .i64 op, .int .i64 a, .int .i64 n, .string s, .slice p len cap] 26)).alloc (.cells #[.int .i64 0, .int .i64 0, .int .i64 0, .string ⟨#[]⟩, .slice none 0 0, .slice none 0 0] 32)).alloc (.cells #[.int .i64 op, .int .i64 a, .int .i64 n, .string s, .slice none 0 0, .slice none 0 0] 32)).alloc (.cells #[] 3)) (w.heap.size + 3) (.slice (some ⟨w.heap.size + 1 + 1 + 1, 0, none⟩) 0 0) []) := by
      have h := own_lit (((w.alloc (.cells #[.int .i64 op, .int .i64 a, .int .i64 n, .string s, .slice p len cap] 26)).alloc (.cells #[.int .i64 0, .int .i64 0, .int .i64 0, .string ⟨#[]⟩, .slice none 0 0, .slice none 0 0] 32)).alloc (.cells #[.int .i64 op, .int .i64 a, .int .i64 n, .string s, .slice none 0 0, .slice none 0 0] 32)) (w.heap.size + 3) (by simp)
      simp only [World.size_alloc] at h
      exact h
    have hb4 : Below w.heap.size w ((((w.alloc (.cells #[.int .i64 op, .int .i64 a, .int .i64 n, .string s, .slice p len cap] 26)).alloc (.cells #[.int .i64 0, .int .i64 0, .int .i64 0, .string ⟨#[]⟩, .slice none 0 0, .slice none 0 0] 32)).alloc (.cells #[.int .i64 op, .int .i64 a, .int .i64 n, .string s, .slice none 0 0, .slice none 0 0] 32)).alloc (.cells #[] 3)) := HS0.out.bel.toBelow.trans ((newx _ _).mono HS0.out.bel.size)
    have hs := (HRD.out.below hb4).src
    have HS : Hid ((ps = none → set.length = 0 ∧ cps = 0) ∧ ∀ ad, ps = some ad → ∀ j u, (set.map (Value.int .i64))[j]? = some u → ((((w.alloc (.cells #[.int .i64 op, .int .i64 a, .int .i64 n, .string s, .slice p len cap] 26)).alloc (.cells #[.int .i64 0, .int .i64 0, .int .i64 0, .string ⟨#[]⟩, .slice none 0 0, .slice none 0 0] 32)).alloc (.cells #[.int .i64 op, .int .i64 a, .int .i64 n, .string s, .slice none 0 0, .slice none 0 0] 32)).alloc (.cells #[] 3)).cell? (ad.add j) = some u) := hs
    clear hs hb4
    go_enter Tryz.func14, Tryz.ntmps14
    go_upto_if 18 with fail
    go_cut [] from 7 (fun wx => ∃ (B : Nat) (sv : Value), XLoop [] w wx B w.heap.size (w.heap.size + 1) (w.heap.size + 1 + 1) (.cells #[.int .i64 op, .int .i64 a, .int .i64 n, .string s, .slice p len cap] 26) op a n s Y sv (fun i => stxD set (kid i)) 0 (.slice none 0 0) [] [])
    case first =>
      by_cases h2 : op = 2
      · have HYY : Hid (Y = set) := hY.trans (if_pos h2)
        clear hY
        subst h2
        go_wp2_with (at_builtin; refine wpList_append_any _ rfl (.tmp 19) (.tmp 20) 27 rfl (w.heap.size + 3) 3 iI (.int .i64 0) 1 8 Tryz.underlying27 hiI hzI0 hzI1 hzI2 rfl (by decide) (.slice (some ⟨w.heap.size + 1 + 1 + 1, 0, none⟩) 0 0) 0 [] rfl HO1.out ps set.length cps (set.map (Value.int .i64)) rfl (by simp) HS.out.1 HS.out.2 (ints_cells set) (by unfold maxLen; omega) (by omega) (by simp) ?_; intro v' w2 hown2 hg2; obtain ⟨hX2, hO2, ⟨pv, cv, hv⟩⟩ := set_grown HS0.out (by simp) rfl hown2.out hg2.out; subst hv; have HX2 : Hid (XLoop [] w (w2.setCell ⟨w.heap.size + 1 + 1, 4, none⟩ (.slice pv set.length cv)) w2.heap.size w.heap.size (w.heap.size + 1) (w.heap.size + 1 + 1) (.cells #[.int .i64 2, .int .i64 a, .int .i64 n, .string s, .slice p len cap] 26) 2 a n s set (.slice pv set.length cv) (fun i => stxD set (kid i)) 0 (.slice none 0 0) [] []) := hX2; have x4 := hO2.cells.2.2.2.2.1; have xf := hO2.fr 4; clear hX2 hO2 hown2 hg2)
        go_meet
        exact ⟨_, _, by rw [HYY.out]; exact HX2.out⟩
      · have HYY : Hid (Y = []) := hY.trans (if_neg h2)
        have d2 : (op == 2) = false := by simpa using h2
        clear hY h2
        go_wp2_with fail
        go_meet
        exact ⟨_, _, by rw [HYY.out]; exact HS0.out⟩
    case rest =>
      obtain ⟨B, sv, hL0⟩ := hcut
      have H00 : Hid (XLoop [] w wc B w.heap.size (w.heap.size + 1) (w.heap.size + 1 + 1) (.cells #[.int .i64 op, .int .i64 a, .int .i64 n, .string s, .slice p len cap] 26) op a n s Y sv (fun i => stxD set (kid i)) 0 (.slice none 0 0) [] []) := hL0
      clear hL0 HO1 HS HS0 hY
      obtain ⟨C, hC⟩ : ∃ C, C = w.heap.size := ⟨_, rfl⟩
      obtain ⟨R, hR⟩ : ∃ R, R = w.heap.size + 1 := ⟨_, rfl⟩
      obtain ⟨O, hO⟩ : ∃ O, O = w.heap.size + 1 + 1 := ⟨_, rfl⟩
      have HH0 : Hid (XLoop [] w wc B C R O (.cells #[.int .i64 op, .int .i64 a, .int .i64 n, .string s, .slice p len cap] 26) op a n s Y sv (fun i => stxD set (kid i)) 0 (.slice none 0 0) [] []) := by
        show XLoop _ _ _ _ _ _ _ _ _ _ _ _ _ _ _ _ _ _ _
        rw [hO, hR, hC]; exact H00.out
      clear H00
      rw [← hO, ← hR, ← hC]
      have hCO : C ≠ O := by omega
      have hRO : R ≠ O := by omega
      clear hC hR hO
      go_wp2_with fail
      go_loopw [6] (fun v4 wr => ∃ (k : Nat) (lv : Value) (la : List XR) (SS : List (List Nat)), v4 = .int .i64 k ∧ k ≤ len ∧ XLoop [] w wr B C R O (.cells #[.int .i64 op, .int .i64 a, .int .i64 n, .string s, .slice p len cap] 26) op a n s Y sv (fun i => stxD set (kid i)) k lv la SS) (fun v4 _ => len - (intOf v4).toNat)
      case atStart => exact ⟨0, _, _, _, rfl, Nat.zero_le _, HH0.out⟩
      case round =>
        obtain ⟨k, lv, la, SS, rfl, hk, hL⟩ := hrel
        have HL : Hid (XLoop [] w wr B C R O (.cells #[.int .i64 op, .int .i64 a, .int .i64 n, .string s, .slice p len cap] 26) op a n s Y sv (fun i => stxD set (kid i)) k lv la SS) := hL
        have hA : Five wr C op a n s (.slice p len cap) 26 := hL.arg
        have a4 := hA.cells.2.2.2.2
        obtain ⟨o0, o1, o2, o3, o4, o5⟩ := hL.out.cells
        clear hL HH0
        by_cases hkl : (k : Int) < len
        · obtain ⟨b, o, u, hp, hd, hinu⟩ := HAT.out k (by omega)
          subst hp
          obtain ⟨c0, c1, c2, c3, c4⟩ := hd.below HL.out.bel.toBelow
          have HIN : Hid ((kid k).In wr.drew u ∧ Rd wr.drew (.slice ps set.length cps) set) := ⟨(hinu.below HL.out.bel.toBelow).below (Below.refl _ wr).drew, (HRD.out.below HL.out.bel.toBelow).below (Below.refl _ wr).drew⟩
          have HKL : Hid (k < len) := by show k < len; omega
          have HOWN : Hid (wr.ownsRow 0 32 6 lv k (xrows la)) := HL.out.rows.own
          have hOl : O < wr.heap.size := HL.out.out.lt
          have hCl : C < wr.heap.size := hA.lt
          have hbl : b < wr.heap.size := World.block_lt_of_cell? wr _ c0
          clear hd hinu hA
          have hki0 : (0 : Int) ≤ (k : Int) := by omega
          have HCF : Hid (∀ (vs : Array Value) (w : World), (callFunc 14 vs).run Tryz.prog w = .ok (.enter 14 vs) w) := fun vs w => specStx_enter vs w
          go_wp2_with fail
          go_region_law
            (first
              | (refine step_call2 rfl 14 (.tmp 36) (.tmp 37) 26 27 rfl HCF.out (.agg #[.int .i64 (kid k).op, .int .i64 (kid k).at_, .int .i64 (kid k).n, .string (kid k).s, u]) (.slice ps set.length cps) rfl rfl _ (IH.out k HKL.out wr.drew u _ HIN.out.1 HIN.out.2) ?_; rintro e w1 ⟨su', v', T, rfl, hb1, hd1, hn1, hT1⟩; refine ⟨_, rfl, ?_⟩; have HC1 : Hid (Below wr.heap.size wr w1 ∧ XOwn w1 (stxD set (kid k)) su' v' T ∧ T.Nodup ∧ ∀ x ∈ T, wr.heap.size ≤ x) := ⟨⟨hb1.os, hb1.tape, hb1.output, hb1.size, hb1.block⟩, hd1, hn1, hT1⟩; obtain ⟨pv, cv, hv'⟩ := hd1.at0.xs.shape; obtain ⟨pw, cw, hw'⟩ := hd1.at0.sets.shape; subst hv' hw'; have z4 : w1.cell? ⟨O, 5, none⟩ = some lv := (HC1.out.1.cell (by exact hOl)).trans o5; have z5 : ∀ ob, (w1.alloc ob).cell? ⟨O, 5, none⟩ = some lv := fun ob => ((newx w1 ob).cell (by exact Nat.lt_of_lt_of_le hOl HC1.out.1.size)).trans z4; have y4 : w1.cell? ⟨C, 4, none⟩ = some (.slice (some ⟨b, o, none⟩) len cap) := (HC1.out.1.cell (by exact hCl)).trans a4; have HO1 : Hid (w1.ownsRow 0 32 6 lv k (xrows la)) := own_belowX HOWN.out HC1.out.1; clear hb1 hd1 hn1 hT1)
              | (refine step_append_lies _ (by rfl) _ _ _ (by rfl) 0 32 i0 _ 6 88 Tryz.underlying30 hi0 hz0 hz1 hz2 rfl (by omega) lv k (xrows la) (by rfl) (HO1.out.alloc _) ⟨w1.heap.size, 0, none⟩ 1 1 [.int .i64 (kid k).op, .int .i64 (kid k).at_, .int .i64 (kid k).n, .string (kid k).s, .slice pw (stxD set (kid k)).set.length cw, .slice pv (stxD set (kid k)).len cv] (by rfl) (by rfl) (World.news_of_block (cs := #[.int .i64 (kid k).op, .int .i64 (kid k).at_, .int .i64 (kid k).n, .string (kid k).s, .slice pw (stxD set (kid k)).set.length cw, .slice pv (stxD set (kid k)).len cv]) (t := 32) (fr := (0, 0)) (heap_alloc_new w1 _)) (by simp [Value.oneCell']) (by omega) (by unfold maxLen; omega) (by omega) (Nat.zero_le _) (w1.heap.size + 1) (by simp) ?_; intro gg cap3 w3 hown3 hgrow hat hlt3; obtain ⟨hO3, hnx⟩ := HL.out.next (Fr.below HC1.out.1 []) HC1.out.2.1 HC1.out.2.2.1 HC1.out.2.2.2 (by rw [stx_cells]; exact hown3) hgrow hat; have HNX : Hid (XLoop [] w (w3.setCell ⟨O, 5, none⟩ (.slice (some ⟨gg, 0, none⟩) (k + 1) cap3)) B C R O (.cells #[.int .i64 op, .int .i64 a, .int .i64 n, .string s, .slice (some ⟨b, o, none⟩) len cap] 26) op a n s Y sv (fun i => stxD set (kid i)) (k + 1) (.slice (some ⟨gg, 0, none⟩) (k + 1) cap3) (la ++ [(stxD set (kid k), .slice pw (stxD set (kid k)).set.length cw, .slice pv (stxD set (kid k)).len cv)]) (SS ++ [T])) := hnx; have x4 : w3.cell? ⟨O, 5, none⟩ = some lv := (World.cell?_of_block (a := ⟨O, 5, none⟩) hO3).trans o5; have xf : w3.frozen? ⟨O, 5, none⟩ = false := (World.frozen?_of_block (a := ⟨O, 5, none⟩) hO3).trans (HL.out.out.fr 5); clear hO3 hnx hown3 hgrow hat hlt3))
          all_goals
            go_wp2_with fail
            go_roundw
            case rel => exact ⟨k + 1, _, _, _, by go_num, by omega, HNX.out⟩
            case measure => simp [intOf]; omega
        · obtain rfl : k = len := by omega
          obtain ⟨r0, r1, r2, r3, r4, r5⟩ := HL.out.res.cells
          have rf := HL.out.res.fr
          obtain ⟨hfr, S, hX, hSn, hSg⟩ := HL.out.done ⟨HPL.out.1, HPL.out.2, HYL.out⟩
          obtain ⟨pv, cv, hlv⟩ := hX.at0.xs.shape
          obtain ⟨pw, cw, hsv⟩ := hX.at0.sets.shape
          simp only [X.len, X.set] at hlv hsv
          subst hlv hsv
          have HS : Hid (Fr [] w (put6 wr R op a n s (.slice pw Y.length cw) (.slice pv k cv)) ∧ XOwn (put6 wr R op a n s (.slice pw Y.length cw) (.slice pv k cv)) (.mk op a n s Y k (fun i => stxD set (kid i))) (.slice pw Y.length cw) (.slice pv k cv) S ∧ S.Nodup ∧ ∀ x ∈ S, w.heap.size ≤ x) := ⟨hfr, hX, hSn, hSg⟩
          clear hfr hX hSn hSg HL HAT IH
          generalize Y.length = yl at *
          go_wp2_with fail
          refine bodyPost_ret (v := .agg #[.int .i64 op, .int .i64 a, .int .i64 n, .string s, .slice pw yl cw, .slice pv k cv]) (by rw [results_cellX (p := 4) (ty := 32) (by kernel_rfl)]; simp [go_sem, r0, r1, r2, r3, r4, r5]) rfl ⟨_, _, rfl, HS.out.1.toBelow, S, HS.out.2.1, HS.out.2.2.1, HS.out.2.2.2⟩
end Go.Proofs.YtgbfflpdpfgnbaaGreat

/- Data whose rows are a call's own, each in a block of its own. No conditions. -/
namespace Go.Proofs.YtgbfflpdpfgnbaaGreat
open Go.ChangeShapes Go.WideShapes Go.ChangeAt Go.RowKit

/-- A datum's rows are owned; their blocks are S. -/
def DOwn (w : World) : D → Value → List Nat → Prop
  | .no, _, _ => False
  | .mk _ _ n s len kid, v, S => (s.size ≤ maxLen ∧ -9223372036854775808 ≤ n ∧ n ≤ 9223372036854775807) ∧
    ((len = 0 ∧ v = .slice none 0 0 ∧ S = []) ∨
     ∃ (g cap : Nat) (l : List (D × Value)) (SS : List (List Nat)), v = .slice (some ⟨g, 0, none⟩) len cap ∧ w.ownsRow 0 26 5 (.slice (some ⟨g, 0, none⟩) len cap) len (drows l) ∧ l.length = len ∧ SS.length = len ∧ Ks kid l ∧ S = g :: SS.flatten ∧
       ∀ i, i < len → ∃ u T, l[i]? = some (kid i, u) ∧ SS[i]? = some T ∧ DOwn w (kid i) u T)

/-- A row of data, owned. -/
def SOwn (w : World) (len : Nat) (kid : Nat → D) (v : Value) (S : List Nat) : Prop :=
    (len = 0 ∧ v = .slice none 0 0 ∧ S = []) ∨
     ∃ (g cap : Nat) (l : List (D × Value)) (SS : List (List Nat)), v = .slice (some ⟨g, 0, none⟩) len cap ∧ w.ownsRow 0 26 5 (.slice (some ⟨g, 0, none⟩) len cap) len (drows l) ∧ l.length = len ∧ SS.length = len ∧ Ks kid l ∧ S = g :: SS.flatten ∧
       ∀ i, i < len → ∃ u T, l[i]? = some (kid i, u) ∧ SS[i]? = some T ∧ DOwn w (kid i) u T

theorem DOwn.sown {w : World} {t : D} {v : Value} {S : List Nat} (h : DOwn w t v S) : SOwn w t.len t.kid v S := by
  cases t <;> unfold DOwn at h <;> first | exact h.elim | exact h.2
theorem DOwn.plain {w : World} {t : D} {v : Value} {S : List Nat} (h : DOwn w t v S) : t.s.size ≤ maxLen ∧ -9223372036854775808 ≤ t.n ∧ t.n ≤ 9223372036854775807 := by
  cases t <;> unfold DOwn at h <;> first | exact h.elim | exact h.1

theorem own_same {w w' : World} {base e size n : Nat} {v : Value} {xs : List Value} (h : w.ownsRow base e size v n xs) (hb : ∀ g, v.ownBlock = some g → w'.heap[g]? = w.heap[g]?) : w'.ownsRow base e size v n xs := by
  refine ⟨h.1, ?_⟩
  rcases h.2 with hn | ⟨g, cap, cur, rfl, hbg, hgg, rest⟩
  · exact .inl hn
  · exact .inr ⟨g, cap, cur, rfl, hbg, (hb g rfl).trans hgg, rest⟩

theorem mem_flat {SS : List (List Nat)} {i : Nat} {T : List Nat} (h : SS[i]? = some T) {g : Nat} (hg : g ∈ T) : g ∈ SS.flatten := List.mem_flatten.2 ⟨T, List.mem_of_getElem? h, hg⟩

theorem DOwn.same {w w' : World} (t : D) : ∀ {v : Value} {S : List Nat}, DOwn w t v S → (∀ g ∈ S, w'.heap[g]? = w.heap[g]?) → DOwn w' t v S := by
  induction t with
  | no => intro v S h; exact h.elim
  | mk op a n s len kid ih =>
    intro v S h hs
    unfold DOwn at h ⊢
    refine ⟨h.1, ?_⟩
    rcases h.2 with h0 | ⟨g, cap, l, SS, h1, h2, h3, h4, h5, h6, h7⟩
    · exact .inl h0
    · refine .inr ⟨g, cap, l, SS, h1, own_same h2 (fun g' hg' => ?_), h3, h4, h5, h6, fun i hi => ?_⟩
      · simp only [Value.ownBlock, Option.some.injEq] at hg'
        subst hg'
        exact hs g (by rw [h6]; simp)
      · obtain ⟨u, T, k1, k2, k3⟩ := h7 i hi
        exact ⟨u, T, k1, k2, ih i k3 (fun g' hg' => hs g' (by rw [h6]; exact List.mem_cons_of_mem _ (mem_flat k2 hg')))⟩

theorem SOwn.same {w w' : World} {len : Nat} {kid : Nat → D} {v : Value} {S : List Nat} (h : SOwn w len kid v S) (hs : ∀ g ∈ S, w'.heap[g]? = w.heap[g]?) : SOwn w' len kid v S := by
  rcases h with h0 | ⟨g, cap, l, SS, h1, h2, h3, h4, h5, h6, h7⟩
  · exact .inl h0
  · refine .inr ⟨g, cap, l, SS, h1, own_same h2 (fun g' hg' => ?_), h3, h4, h5, h6, fun i hi => ?_⟩
    · simp only [Value.ownBlock, Option.some.injEq] at hg'
      subst hg'
      exact hs g (by rw [h6]; simp)
    · obtain ⟨u, T, k1, k2, k3⟩ := h7 i hi
      exact ⟨u, T, k1, k2, k3.same _ (fun g' hg' => hs g' (by rw [h6]; exact List.mem_cons_of_mem _ (mem_flat k2 hg')))⟩

/-- What is owned lies in memory. -/
theorem DOwn.in' {w : World} (t : D) : ∀ {v : Value} {S : List Nat}, DOwn w t v S → t.In w v := by
  induction t with
  | no => intro v S h; exact h.elim
  | mk op a n s len kid ih =>
    intro v S h
    unfold DOwn at h
    refine D.InB.mk' h.1.1 h.1.2 ?_
    rcases h.2 with ⟨rfl, rfl, _⟩ | ⟨g, cap, l, SS, rfl, h2, h3, h4, h5, h6, h7⟩
    · exact .inl ⟨rfl, _, _, rfl⟩
    · refine SlB.of_own h2 h3 (Nat.le_refl _) h5 (fun q hq => ?_)
      obtain ⟨i, hi, rfl⟩ := List.mem_iff_getElem.1 hq
      obtain ⟨u, T, k1, k2, k3⟩ := h7 i (by omega)
      rw [List.getElem?_eq_getElem hi] at k1
      injection k1 with k1
      rw [k1]
      exact ih i k3

theorem SOwn.sl {w : World} {len : Nat} {kid : Nat → D} {v : Value} {S : List Nat} (h : SOwn w len kid v S) : Sl w len kid v := by
  rcases h with ⟨rfl, rfl, _⟩ | ⟨g, cap, l, SS, rfl, h2, h3, h4, h5, h6, h7⟩
  · exact .inl ⟨rfl, _, _, rfl⟩
  · refine SlB.of_own h2 h3 (Nat.le_refl _) h5 (fun q hq => ?_)
    obtain ⟨i, hi, rfl⟩ := List.mem_iff_getElem.1 hq
    obtain ⟨u, T, k1, k2, k3⟩ := h7 i (by omega)
    rw [List.getElem?_eq_getElem hi] at k1
    injection k1 with k1
    rw [k1]
    exact k3.in'

/-- The blocks are there. -/
theorem SOwn.there {w : World} {len : Nat} {kid : Nat → D} {v : Value} {S : List Nat} (h : SOwn w len kid v S) (hd : ∀ i, i < len → ∀ u T, DOwn w (kid i) u T → ∀ g ∈ T, g < w.heap.size) : ∀ g ∈ S, g < w.heap.size := by
  rcases h with ⟨_, _, rfl⟩ | ⟨g, cap, l, SS, rfl, h2, h3, h4, h5, rfl, h7⟩
  · intro g hg; simp at hg
  · intro g' hg'
    rcases List.mem_cons.1 hg' with rfl | hg'
    · exact (h2.lt _ rfl).2
    · obtain ⟨T, hT, hgT⟩ := List.mem_flatten.1 hg'
      obtain ⟨i, hi, rfl⟩ := List.mem_iff_getElem.1 hT
      obtain ⟨u, T', k1, k2, k3⟩ := h7 i (by omega)
      rw [List.getElem?_eq_getElem hi] at k2
      injection k2 with k2
      exact hd i (by omega) u T' k3 g' (by rw [← k2]; exact hgT)

theorem DOwn.there {w : World} (t : D) : ∀ {v : Value} {S : List Nat}, DOwn w t v S → ∀ g ∈ S, g < w.heap.size := by
  induction t with
  | no => intro v S h; exact h.elim
  | mk op a n s len kid ih =>
    intro v S h
    exact (show SOwn w len kid v S from h.sown).there (fun i _ u T k => ih i k)
theorem SOwn.lt {w : World} {len : Nat} {kid : Nat → D} {v : Value} {S : List Nat} (h : SOwn w len kid v S) : ∀ g ∈ S, g < w.heap.size := h.there (fun _ _ _ _ k => k.there)
end Go.Proofs.YtgbfflpdpfgnbaaGreat
