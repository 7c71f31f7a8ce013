/- A datum that came in lies in memory as a tree. No conditions. -/
import Derived.Test.YtocdpgogoadfnaaDoorDat
import Derived.OpenShut
namespace Go.Proofs.YtocdpgogoadfnaaDoor
open Go.ChangeShapes Go.WideShapes Go.ChangeAt Go.RowKit

/-- The types of a datum. -/
structure DatT (P : Program) (tD tI tS tK : TypeId) : Prop where
  ex : ∃ fs : Array Field, P.underlying tD = some (.struct fs) ∧ fs.size = 5 ∧ (∀ i, i < 3 → ∃ f, fs[i]? = some f ∧ f.type = tI ∧ f.offset = i) ∧
    (∃ f, fs[3]? = some f ∧ f.type = tS ∧ f.offset = 3) ∧ (∃ f, fs[4]? = some f ∧ f.type = tK ∧ f.offset = 4)
  i : P.underlying tI = some (.int .i64)
  s : P.underlying tS = some .string
  k : P.underlying tK = some (.slice tD)
  ci : P.cellsOf tI = 1
  cs : P.cellsOf tS = 1
  ck : P.cellsOf tK = 1
  cd : P.cellsOf tD = 5

section
variable {H : Type} {enc : TypeId × Value → H} {P : Program} {w : World} {base : Nat} {spare : Nat → Bool} {held : Bool} {tD tI tS tK : TypeId}

theorem i64_bounds {n : Int} (h : (Lit.int .i64 n).wf = true) : -9223372036854775808 ≤ n ∧ n ≤ 9223372036854775807 := by
  have := bounds_i64 h
  omega

theorem sl_of (T : DatT P tD tI tS tK) (m : Nat) (ih : ∀ cs x, DataW.trod enc P w base spare held m tD cs = some x → ∃ (t : D) (v : Value), cs = [.int .i64 t.op, .int .i64 t.at_, .int .i64 t.n, .string t.s, v] ∧ t.In w v)
    {c4 : Value} {y : DataW H × List MemPlace} (h : DataW.trod enc P w base spare held (m + 1) tK [c4] = some y) : ∃ len kid, Sl w len kid c4 := by
  rcases DataW.trod_slice T.k h with ⟨h0, _⟩ | ⟨a, len, cap, elems, rest, n, hn, h1, _, hb, hl, hm, hlen, hel, _, _⟩
  · simp at h0
    exact ⟨0, fun _ => .no, .inl ⟨rfl, _, _, h0⟩⟩
  · simp at h1
    obtain rfl : m = n := by omega
    subst h1
    by_cases hz : len = 0
    · subst hz; exact ⟨0, fun _ => .no, .inl ⟨rfl, _, _, rfl⟩⟩
    rw [T.cd] at hel
    have each : ∀ i, i < len → ∃ q : D × Value, (∀ j, j < 5 → w.cell? ((a.add (i * 5)).add j) = [Value.int .i64 q.1.op, .int .i64 q.1.at_, .int .i64 q.1.n, .string q.1.s, q.2][j]?) ∧ q.1.In w q.2 := by
      intro i hi
      have h2 := hel i hi
      rw [List.getElem?_eq_getElem (by omega)] at h2
      obtain ⟨cs', hc, ht⟩ := Option.bind_eq_some_iff.1 h2
      obtain ⟨t, v, rfl, hin⟩ := ih _ _ ht
      obtain ⟨_, _, hcell⟩ := World.cells?_some hc
      exact ⟨(t, v), hcell, hin⟩
    obtain ⟨F, hF⟩ := Go.Deep.choose_lt each
    obtain ⟨b, off, spot⟩ := a
    have hsp : spot = none := by
      have := (hF 0 (by omega)).1 0 (by omega)
      have := World.cell?_spot (this.trans rfl)
      simpa [Addr.add] using this
    subst hsp
    refine ⟨len, fun i => (F i).1, .inr ⟨b, off, cap, fun i => (F i).2, rfl, Nat.zero_le _, hl, hm, fun i hi => ⟨?_, (hF i hi).2⟩⟩⟩
    have h0 := (hF i hi).1 0 (by omega)
    have h1 := (hF i hi).1 1 (by omega)
    have h2 := (hF i hi).1 2 (by omega)
    have h3 := (hF i hi).1 3 (by omega)
    have h4 := (hF i hi).1 4 (by omega)
    simp only [add_plain, Nat.add_zero] at h0 h1 h2 h3 h4
    exact ⟨h0, h1, h2, h3, h4⟩

theorem open_dat (T : DatT P tD tI tS tK) : ∀ (fuel : Nat) (cs : List Value) (x : DataW H × List MemPlace), DataW.trod enc P w base spare held fuel tD cs = some x →
    ∃ (t : D) (v : Value), cs = [.int .i64 t.op, .int .i64 t.at_, .int .i64 t.n, .string t.s, v] ∧ t.In w v := by
  intro fuel
  induction fuel using Nat.strongRecOn with
  | ind fuel ih =>
    intro cs x h
    obtain ⟨fs, hu, hfs, hi, ⟨f3, h3, ht3, ho3⟩, ⟨f4, h4, ht4, ho4⟩⟩ := T.ex
    obtain ⟨xs, n, rfl, _, hlen, hxl, hf⟩ := DataW.trod_struct hu h
    rw [T.cd] at hlen
    obtain ⟨f0, h0, ht0, ho0⟩ := hi 0 (by omega)
    obtain ⟨f1, h1, ht1, ho1⟩ := hi 1 (by omega)
    obtain ⟨f2, h2, ht2, ho2⟩ := hi 2 (by omega)
    have g0 := hf 0 f0 h0
    have g1 := hf 1 f1 h1
    have g2 := hf 2 f2 h2
    have g3 := hf 3 f3 h3
    have g4 := hf 4 f4 h4
    rw [hfs] at hxl
    rw [ht0, ho0, T.ci, List.getElem?_eq_getElem (by omega)] at g0
    rw [ht1, ho1, T.ci, List.getElem?_eq_getElem (by omega)] at g1
    rw [ht2, ho2, T.ci, List.getElem?_eq_getElem (by omega)] at g2
    rw [ht3, ho3, T.cs, List.getElem?_eq_getElem (by omega)] at g3
    rw [ht4, ho4, T.ck, List.getElem?_eq_getElem (by omega)] at g4
    match cs, hlen with
    | [c0, c1, c2, c3, c4], _ =>
      simp only [List.drop_zero, List.drop_succ_cons, List.take_succ_cons, List.take_zero] at g0 g1 g2 g3 g4
      obtain ⟨z0, e0, -, -⟩ := DataW.trod_int T.i g0
      obtain ⟨z1, e1, -, -⟩ := DataW.trod_int T.i g1
      obtain ⟨z2, e2, -, w2⟩ := DataW.trod_int T.i g2
      obtain ⟨s, e3, -, ws⟩ := DataW.trod_string T.s g3
      simp only [List.cons.injEq, and_true] at e0 e1 e2 e3
      subst e0 e1 e2 e3
      cases n with
      | zero => simp [DataW.trod] at g4
      | succ m =>
        obtain ⟨len, kid, hs⟩ := sl_of T m (ih m (by omega)) g4
        exact ⟨.mk z0 z1 z2 s len kid, c4, rfl, D.InB.mk' ws (i64_bounds w2) hs⟩

theorem open_dats (T : DatT P tD tI tS tK) {fuel : Nat} {v : Value} {x : DataW H × List MemPlace} (h : DataW.trod enc P w base spare held fuel tK [v] = some x) : ∃ len kid, Sl w len kid v := by
  cases fuel with
  | zero => simp [DataW.trod] at h
  | succ m => exact sl_of T m (fun cs x => open_dat T m cs x) h
end
end Go.Proofs.YtocdpgogoadfnaaDoor
