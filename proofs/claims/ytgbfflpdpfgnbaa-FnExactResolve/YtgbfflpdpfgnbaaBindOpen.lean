/- Binds that came in lie in memory as a row. No conditions. -/
import Derived.Test.YtgbfflpdpfgnbaaBindP
import Derived.Test.YtgbfflpdpfgnbaaStxOpen
import Derived.OpenShut
namespace Go.Proofs.Ytgbfflpdpfgnbaa
open Go.ChangeShapes Go.WideShapes Go.ChangeAt Go.RowKit

/-- The types of a bind. -/
structure BindT (P : Program) (tD tI tS tZ tK : TypeId) : Prop where
  ex : ∃ fs : Array Field, P.underlying tD = some (.struct fs) ∧ fs.size = 5 ∧ (∃ f, fs[0]? = some f ∧ f.type = tS ∧ f.offset = 0) ∧ (∃ f, fs[1]? = some f ∧ f.type = tZ ∧ f.offset = 1) ∧
    (∃ f, fs[2]? = some f ∧ f.type = tI ∧ f.offset = 2) ∧ (∃ f, fs[3]? = some f ∧ f.type = tI ∧ f.offset = 3) ∧ (∃ f, fs[4]? = some f ∧ f.type = tI ∧ f.offset = 4)
  i : P.underlying tI = some (.int .i64)
  s : P.underlying tS = some .string
  z : P.underlying tZ = some (.slice tI)
  k : P.underlying tK = some (.slice tD)
  ci : P.cellsOf tI = 1
  cs : P.cellsOf tS = 1
  cz : P.cellsOf tZ = 1
  ck : P.cellsOf tK = 1
  cd : P.cellsOf tD = 5

section
variable {H : Type} {enc : TypeId × Value → H} {P : Program} {w : World} {base : Nat} {spare : Nat → Bool} {held : Bool} {tD tI tS tZ tK : TypeId}

theorem ints_of (hz : P.underlying tZ = some (.slice tI)) (hci : P.cellsOf tI = 1) (hi : P.underlying tI = some (.int .i64)) {m : Nat} {c : Value} {y : DataW H × List MemPlace} (h : DataW.trod enc P w base spare held m tZ [c] = some y) : ∃ xs : List Int, xs.length ≤ maxLen ∧ SetR w c xs := by
  rcases DataW.trod_slice hz h with ⟨h0, _⟩ | ⟨a, len, cap, elems, rest, n, hn, h1, _, hb, hl, hm, hlen, hel, _, _⟩
  · simp at h0
    exact ⟨[], by simp, none, 0, h0, fun j hj => by simp at hj⟩
  · simp at h1
    subst h1
    rw [hci] at hel
    have each : ∀ i, i < len → ∃ z : Int, w.cell? (a.add i) = some (.int .i64 z) := by
      intro i hi2
      have h2 := hel i hi2
      rw [List.getElem?_eq_getElem (by omega)] at h2
      obtain ⟨cs', hc, ht⟩ := Option.bind_eq_some_iff.1 h2
      obtain ⟨z, rfl, -, -⟩ := DataW.trod_int hi ht
      obtain ⟨_, _, hcell⟩ := World.cells?_some hc
      have := hcell 0 (by omega)
      exact ⟨z, by simpa [Addr.add] using this⟩
    obtain ⟨F, hF⟩ := Go.Deep.choose_lt each
    have hle : ((List.range len).map F).length = len := by simp
    refine ⟨(List.range len).map F, by rw [hle]; exact Nat.le_trans hl hm, some a, cap, by rw [hle], fun j hj => ?_⟩
    rw [hle] at hj
    have hc := hF j hj
    obtain ⟨b, off, spot⟩ := a
    have hsp : spot = none := by
      have := World.cell?_spot (hF 0 (by omega))
      simpa [Addr.add] using this
    subst hsp
    refine ⟨b, off, rfl, ?_⟩
    simp only [add_plain] at hc
    rw [hc]
    simp [List.getD_eq_getElem?_getD, hj]

theorem open_bind (T : BindT P tD tI tS tZ tK) (fuel : Nat) (cs : List Value) (x : DataW H × List MemPlace) (h : DataW.trod enc P w base spare held fuel tD cs = some x) :
    ∃ (t : Bd) (sv : Value), cs = [.string t.name, sv, .int .i64 t.kind, .int .i64 t.n, .int .i64 t.at_] ∧ SetR w sv t.set ∧ t.Fits := by
  obtain ⟨fs, hu, hfs, ⟨f0, h0, ht0, ho0⟩, ⟨f1, h1, ht1, ho1⟩, ⟨f2, h2, ht2, ho2⟩, ⟨f3, h3, ht3, ho3⟩, ⟨f4, h4, ht4, ho4⟩⟩ := T.ex
  obtain ⟨xs, n, rfl, _, hlen, hxl, hf⟩ := DataW.trod_struct hu h
  rw [T.cd] at hlen
  have g0 := hf 0 f0 h0
  have g1 := hf 1 f1 h1
  have g2 := hf 2 f2 h2
  have g3 := hf 3 f3 h3
  have g4 := hf 4 f4 h4
  rw [hfs] at hxl
  rw [ht0, ho0, T.cs, List.getElem?_eq_getElem (by omega)] at g0
  rw [ht1, ho1, T.cz, List.getElem?_eq_getElem (by omega)] at g1
  rw [ht2, ho2, T.ci, List.getElem?_eq_getElem (by omega)] at g2
  rw [ht3, ho3, T.ci, List.getElem?_eq_getElem (by omega)] at g3
  rw [ht4, ho4, T.ci, List.getElem?_eq_getElem (by omega)] at g4
  match cs, hlen with
  | [c0, c1, c2, c3, c4], _ =>
    simp only [List.drop_zero, List.drop_succ_cons, List.take_succ_cons, List.take_zero] at g0 g1 g2 g3 g4
    obtain ⟨s, e0, -, ws⟩ := DataW.trod_string T.s g0
    obtain ⟨set, hsl, hset⟩ := ints_of T.z T.ci T.i g1
    obtain ⟨z2, e2, -, -⟩ := DataW.trod_int T.i g2
    obtain ⟨z3, e3, -, -⟩ := DataW.trod_int T.i g3
    obtain ⟨z4, e4, -, -⟩ := DataW.trod_int T.i g4
    simp only [List.cons.injEq, and_true] at e0 e2 e3 e4
    subst e0 e2 e3 e4
    exact ⟨⟨s, set, z2, z3, z4⟩, c1, rfl, hset, ws, hsl⟩

theorem open_binds (T : BindT P tD tI tS tZ tK) {fuel : Nat} {c5 : Value} {y : DataW H × List MemPlace} (h : DataW.trod enc P w base spare held fuel tK [c5] = some y) : ∃ len bd, BsOf w len bd c5 := by
  rcases DataW.trod_slice T.k h with ⟨h0, _⟩ | ⟨a, len, cap, elems, rest, n, hn, h1, _, hb, hl, hm, hlen, hel, _, _⟩
  · simp at h0
    exact ⟨0, fun _ => default, .inl ⟨rfl, _, _, h0⟩⟩
  · simp at h1
    subst h1
    by_cases hz : len = 0
    · subst hz; exact ⟨0, fun _ => default, .inl ⟨rfl, _, _, rfl⟩⟩
    rw [T.cd] at hel
    have each : ∀ i, i < len → ∃ q : Bd × Value, (∀ j, j < 5 → w.cell? ((a.add (i * 5)).add j) = [Value.string q.1.name, q.2, .int .i64 q.1.kind, .int .i64 q.1.n, .int .i64 q.1.at_][j]?) ∧ SetR w q.2 q.1.set ∧ q.1.Fits := by
      intro i hi
      have h2 := hel i hi
      rw [List.getElem?_eq_getElem (by omega)] at h2
      obtain ⟨cs', hc, ht⟩ := Option.bind_eq_some_iff.1 h2
      obtain ⟨t, sv, rfl, hin⟩ := open_bind T _ _ _ ht
      obtain ⟨_, _, hcell⟩ := World.cells?_some hc
      exact ⟨(t, sv), hcell, hin⟩
    obtain ⟨F, hF⟩ := Go.Deep.choose_lt each
    obtain ⟨b, off, spot⟩ := a
    have hsp : spot = none := by
      have := (hF 0 (by omega)).1 0 (by omega)
      have := World.cell?_spot (this.trans rfl)
      simpa [Addr.add] using this
    subst hsp
    refine ⟨len, fun i => (F i).1, .inr ⟨b, off, cap, fun i => (F i).2, rfl, Nat.zero_le _, hl, hm, fun i hi => ⟨?_, (hF i hi).2⟩⟩⟩
    have h0 := (hF i hi).1 0 (by omega)
    have h1 := (hF i hi).1 1 (by omega)
    have h2 := (hF i hi).1 2 (by omega)
    have h3 := (hF i hi).1 3 (by omega)
    have h4 := (hF i hi).1 4 (by omega)
    simp only [add_plain, Nat.add_zero] at h0 h1 h2 h3 h4
    exact ⟨h0, h1, h2, h3, h4⟩
end
end Go.Proofs.Ytgbfflpdpfgnbaa
