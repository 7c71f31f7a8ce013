/- Functions and ops that came in lie in memory as rows. No conditions. -/
import Derived.Test.YtocdpgogoadfnaaDoorFun
import Derived.Test.YtocdpgogoadfnaaDoorDatOpen
import Derived.OpenShut
namespace Go.Proofs.YtocdpgogoadfnaaDoor
open Go.ChangeShapes Go.WideShapes Go.ChangeAt Go.RowKit

/-- The types of an op. -/
structure OpTy (P : Program) (tO tI tK : TypeId) : Prop where
  ex : ∃ fs : Array Field, P.underlying tO = some (.struct fs) ∧ fs.size = 3 ∧ (∃ f, fs[0]? = some f ∧ f.type = tI ∧ f.offset = 0) ∧ (∃ f, fs[1]? = some f ∧ f.type = tI ∧ f.offset = 1) ∧ (∃ f, fs[2]? = some f ∧ f.type = tI ∧ f.offset = 2)
  i : P.underlying tI = some (.int .i64)
  k : P.underlying tK = some (.slice tO)
  ci : P.cellsOf tI = 1
  co : P.cellsOf tO = 3
  ck : P.cellsOf tK = 1
/-- The types of a function. -/
structure FunTy (P : Program) (tF tO tI tK tL : TypeId) : Prop where
  op : OpTy P tO tI tK
  ex : ∃ fs : Array Field, P.underlying tF = some (.struct fs) ∧ fs.size = 2 ∧ (∃ f, fs[0]? = some f ∧ f.type = tI ∧ f.offset = 0) ∧ (∃ f, fs[1]? = some f ∧ f.type = tK ∧ f.offset = 1)
  l : P.underlying tL = some (.slice tF)
  cf : P.cellsOf tF = 2
  cl : P.cellsOf tL = 1

section
variable {H : Type} {enc : TypeId × Value → H} {P : Program} {w : World} {base : Nat} {spare : Nat → Bool} {held : Bool} {tF tO tI tK tL : TypeId}

theorem open_op (T : OpTy P tO tI tK) (fuel : Nat) (cs : List Value) (x : DataW H × List MemPlace) (h : DataW.trod enc P w base spare held fuel tO cs = some x) :
    ∃ (t : O3), cs = [.int .i64 t.c, .int .i64 t.n, .int .i64 t.m] ∧ t.Ok := by
  obtain ⟨fs, hu, hfs, ⟨f0, h0, ht0, ho0⟩, ⟨f1, h1, ht1, ho1⟩, ⟨f2, h2, ht2, ho2⟩⟩ := T.ex
  obtain ⟨xs, n, rfl, _, hlen, hxl, hf⟩ := DataW.trod_struct hu h
  rw [T.co] at hlen
  have g0 := hf 0 f0 h0
  have g1 := hf 1 f1 h1
  have g2 := hf 2 f2 h2
  rw [hfs] at hxl
  rw [ht0, ho0, T.ci, List.getElem?_eq_getElem (by omega)] at g0
  rw [ht1, ho1, T.ci, List.getElem?_eq_getElem (by omega)] at g1
  rw [ht2, ho2, T.ci, List.getElem?_eq_getElem (by omega)] at g2
  match cs, hlen with
  | [c0, c1, c2], _ =>
    simp only [List.drop_zero, List.drop_succ_cons, List.take_succ_cons, List.take_zero] at g0 g1 g2
    obtain ⟨z0, e0, -, q0⟩ := DataW.trod_int T.i g0
    obtain ⟨z1, e1, -, q1⟩ := DataW.trod_int T.i g1
    obtain ⟨z2, e2, -, q2⟩ := DataW.trod_int T.i g2
    simp only [List.cons.injEq, and_true] at e0 e1 e2
    subst e0 e1 e2
    exact ⟨⟨z0, z1, z2⟩, rfl, i64_bounds q0, i64_bounds q1, i64_bounds q2⟩

theorem open_ops (T : OpTy P tO tI tK) {fuel : Nat} {c5 : Value} {y : DataW H × List MemPlace} (h : DataW.trod enc P w base spare held fuel tK [c5] = some y) : ∃ len op, Ol w len op c5 := by
  rcases DataW.trod_slice T.k h with ⟨h0, _⟩ | ⟨a, len, cap, elems, rest, n, hn, h1, _, hb, hl, hm, hlen, hel, _, _⟩
  · simp at h0
    exact ⟨0, fun _ => default, .inl ⟨rfl, _, _, h0⟩⟩
  · simp at h1
    subst h1
    by_cases hz : len = 0
    · subst hz; exact ⟨0, fun _ => default, .inl ⟨rfl, _, _, rfl⟩⟩
    rw [T.co] at hel
    have each : ∀ i, i < len → ∃ q : O3, (∀ j, j < 3 → w.cell? ((a.add (i * 3)).add j) = [Value.int .i64 q.c, .int .i64 q.n, .int .i64 q.m][j]?) ∧ q.Ok := by
      intro i hi
      have h2 := hel i hi
      rw [List.getElem?_eq_getElem (by omega)] at h2
      obtain ⟨cs', hc, ht⟩ := Option.bind_eq_some_iff.1 h2
      obtain ⟨t, rfl, hin⟩ := open_op T _ _ _ ht
      obtain ⟨_, _, hcell⟩ := World.cells?_some hc
      exact ⟨t, hcell, hin⟩
    obtain ⟨F, hF⟩ := Go.Deep.choose_lt each
    obtain ⟨b, off, spot⟩ := a
    have hsp : spot = none := by
      have := (hF 0 (by omega)).1 0 (by omega)
      have := World.cell?_spot (this.trans rfl)
      simpa [Addr.add] using this
    subst hsp
    refine ⟨len, F, .inr ⟨b, off, cap, rfl, Nat.zero_le _, hl, hm, fun i hi => ⟨?_, (hF i hi).2⟩⟩⟩
    have h0 := (hF i hi).1 0 (by omega)
    have h1 := (hF i hi).1 1 (by omega)
    have h2 := (hF i hi).1 2 (by omega)
    simp only [add_plain, Nat.add_zero] at h0 h1 h2
    exact ⟨h0, h1, h2⟩

theorem open_fun (T : FunTy P tF tO tI tK tL) (fuel : Nat) (cs : List Value) (x : DataW H × List MemPlace) (h : DataW.trod enc P w base spare held fuel tF cs = some x) :
    ∃ (t : Fu) (v : Value), cs = [.int .i64 t.fr, v] ∧ t.In w v := by
  obtain ⟨fs, hu, hfs, ⟨f0, h0, ht0, ho0⟩, ⟨f1, h1, ht1, ho1⟩⟩ := T.ex
  obtain ⟨xs, n, rfl, _, hlen, hxl, hf⟩ := DataW.trod_struct hu h
  rw [T.cf] at hlen
  have g0 := hf 0 f0 h0
  have g1 := hf 1 f1 h1
  rw [hfs] at hxl
  rw [ht0, ho0, T.op.ci, List.getElem?_eq_getElem (by omega)] at g0
  rw [ht1, ho1, T.op.ck, List.getElem?_eq_getElem (by omega)] at g1
  match cs, hlen with
  | [c0, c1], _ =>
    simp only [List.drop_zero, List.drop_succ_cons, List.take_succ_cons, List.take_zero] at g0 g1
    obtain ⟨z, e0, -, hz⟩ := DataW.trod_int T.op.i g0
    obtain ⟨len, op, hin⟩ := open_ops T.op g1
    simp only [List.cons.injEq, and_true] at e0
    subst e0
    exact ⟨⟨z, len, op⟩, c1, rfl, i64_bounds hz, hin⟩

theorem open_funs (T : FunTy P tF tO tI tK tL) {fuel : Nat} {c5 : Value} {y : DataW H × List MemPlace} (h : DataW.trod enc P w base spare held fuel tL [c5] = some y) : ∃ len kid, Fl w len kid c5 := by
  rcases DataW.trod_slice T.l h with ⟨h0, _⟩ | ⟨a, len, cap, elems, rest, n, hn, h1, _, hb, hl, hm, hlen, hel, _, _⟩
  · simp at h0
    exact ⟨0, fun _ => default, .inl ⟨rfl, _, _, h0⟩⟩
  · simp at h1
    subst h1
    by_cases hz : len = 0
    · subst hz; exact ⟨0, fun _ => default, .inl ⟨rfl, _, _, rfl⟩⟩
    rw [T.cf] at hel
    have each : ∀ i, i < len → ∃ q : Fu × Value, (∀ j, j < 2 → w.cell? ((a.add (i * 2)).add j) = [Value.int .i64 q.1.fr, q.2][j]?) ∧ q.1.In w q.2 := by
      intro i hi
      have h2 := hel i hi
      rw [List.getElem?_eq_getElem (by omega)] at h2
      obtain ⟨cs', hc, ht⟩ := Option.bind_eq_some_iff.1 h2
      obtain ⟨t, v, rfl, hin⟩ := open_fun T _ _ _ ht
      obtain ⟨_, _, hcell⟩ := World.cells?_some hc
      exact ⟨(t, v), hcell, hin⟩
    obtain ⟨F, hF⟩ := Go.Deep.choose_lt each
    obtain ⟨b, off, spot⟩ := a
    have hsp : spot = none := by
      have := (hF 0 (by omega)).1 0 (by omega)
      have := World.cell?_spot (this.trans rfl)
      simpa [Addr.add] using this
    subst hsp
    refine ⟨len, fun i => (F i).1, .inr ⟨b, off, cap, fun i => (F i).2, rfl, Nat.zero_le _, hl, hm, fun i hi => ⟨?_, (hF i hi).2⟩⟩⟩
    have h0 := (hF i hi).1 0 (by omega)
    have h1 := (hF i hi).1 1 (by omega)
    simp only [add_plain, Nat.add_zero] at h0 h1
    exact ⟨h0, h1⟩
end
end Go.Proofs.YtocdpgogoadfnaaDoor
