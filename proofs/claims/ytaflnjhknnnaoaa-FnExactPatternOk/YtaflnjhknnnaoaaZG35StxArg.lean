/- What is written and came in lies in memory as a tree. No conditions. -/
import Derived.Test.YtaflnjhknnnaoaaZG7StxParts
import Derived.Test.YtaflnjhknnnaoaaRows
import Derived.OpenShut
import Derived.WideKeyArgs
namespace Go.Proofs.Ytaflnjhknnnaoaa
open Go.ChangeShapes Go.WideShapes Go.ChangeAt Go.RowKit

/-- The types of what is written. -/
structure StxT (P : Program) (tD tI tS tZ tK : TypeId) : Prop where
  ex : ∃ fs : Array Field, P.underlying tD = some (.struct fs) ∧ fs.size = 6 ∧ (∀ i, i < 3 → ∃ f, fs[i]? = some f ∧ f.type = tI ∧ f.offset = i) ∧
    (∃ f, fs[3]? = some f ∧ f.type = tS ∧ f.offset = 3) ∧ (∃ f, fs[4]? = some f ∧ f.type = tZ ∧ f.offset = 4) ∧ (∃ f, fs[5]? = some f ∧ f.type = tK ∧ f.offset = 5)
  i : P.underlying tI = some (.int .i64)
  s : P.underlying tS = some .string
  z : P.underlying tZ = some (.slice tI)
  k : P.underlying tK = some (.slice tD)
  ci : P.cellsOf tI = 1
  cs : P.cellsOf tS = 1
  cz : P.cellsOf tZ = 1
  ck : P.cellsOf tK = 1
  cd : P.cellsOf tD = 6

section
variable {H : Type} {enc : TypeId × Value → H} {P : Program} {w : World} {base : Nat} {spare : Nat → Bool} {held : Bool} {tD tI tS tZ tK : TypeId}

theorem i64_boundsX {n : Int} (h : (Lit.int .i64 n).wf = true) : -9223372036854775808 ≤ n ∧ n ≤ 9223372036854775807 := by
  have := bounds_i64 h
  omega

theorem set_of (T : StxT P tD tI tS tZ tK) {m : Nat} {c : Value} {y : DataW H × List MemPlace} (h : DataW.trod enc P w base spare held m tZ [c] = some y) : ∃ xs : List Int, xs.length ≤ maxLen ∧ SetR w c xs := by
  rcases DataW.trod_slice T.z h with ⟨h0, _⟩ | ⟨a, len, cap, elems, rest, n, hn, h1, _, hb, hl, hm, hlen, hel, _, _⟩
  · simp at h0
    exact ⟨[], by simp, none, 0, h0, fun j hj => by simp at hj⟩
  · simp at h1
    subst h1
    rw [T.ci] at hel
    have each : ∀ i, i < len → ∃ z : Int, w.cell? (a.add i) = some (.int .i64 z) := by
      intro i hi
      have h2 := hel i hi
      rw [List.getElem?_eq_getElem (by omega)] at h2
      obtain ⟨cs', hc, ht⟩ := Option.bind_eq_some_iff.1 h2
      obtain ⟨z, rfl, -, -⟩ := DataW.trod_int T.i ht
      obtain ⟨_, _, hcell⟩ := World.cells?_some hc
      have := hcell 0 (by omega)
      exact ⟨z, by simpa [Addr.add] using this⟩
    obtain ⟨F, hF⟩ := Go.Deep.choose_lt each
    have hle : ((List.range len).map F).length = len := by simp
    refine ⟨(List.range len).map F, by rw [hle]; exact Nat.le_trans hl hm, some a, cap, by rw [hle], fun j hj => ?_⟩
    rw [hle] at hj
    have hc := hF j hj
    obtain ⟨b, off, spot⟩ := a
    have hsp : spot = none := by
      have := World.cell?_spot (hF 0 (by omega))
      simpa [Addr.add] using this
    subst hsp
    refine ⟨b, off, rfl, ?_⟩
    simp only [add_plain] at hc
    rw [hc]
    simp [List.getD_eq_getElem?_getD, hj]

theorem xs_of (T : StxT P tD tI tS tZ tK) (m : Nat) (ih : ∀ cs x, DataW.trod enc P w base spare held m tD cs = some x → ∃ (t : X) (sv v : Value), cs = [.int .i64 t.op, .int .i64 t.at_, .int .i64 t.n, .string t.s, sv, v] ∧ t.Of w sv v)
    {c5 : Value} {y : DataW H × List MemPlace} (h : DataW.trod enc P w base spare held (m + 1) tK [c5] = some y) : ∃ len kid, XsOf w len kid c5 := by
  rcases DataW.trod_slice T.k h with ⟨h0, _⟩ | ⟨a, len, cap, elems, rest, n, hn, h1, _, hb, hl, hm, hlen, hel, _, _⟩
  · simp at h0
    exact ⟨0, fun _ => .no, .inl ⟨rfl, _, _, h0⟩⟩
  · simp at h1
    obtain rfl : m = n := by omega
    subst h1
    by_cases hz : len = 0
    · subst hz; exact ⟨0, fun _ => .no, .inl ⟨rfl, _, _, rfl⟩⟩
    rw [T.cd] at hel
    have each : ∀ i, i < len → ∃ q : XR, (∀ j, j < 6 → w.cell? ((a.add (i * 6)).add j) = [Value.int .i64 q.1.op, .int .i64 q.1.at_, .int .i64 q.1.n, .string q.1.s, q.2.1, q.2.2][j]?) ∧ q.1.Of w q.2.1 q.2.2 := by
      intro i hi
      have h2 := hel i hi
      rw [List.getElem?_eq_getElem (by omega)] at h2
      obtain ⟨cs', hc, ht⟩ := Option.bind_eq_some_iff.1 h2
      obtain ⟨t, sv, v, rfl, hin⟩ := ih _ _ ht
      obtain ⟨_, _, hcell⟩ := World.cells?_some hc
      exact ⟨(t, sv, v), hcell, hin⟩
    obtain ⟨F, hF⟩ := Go.Deep.choose_lt each
    obtain ⟨b, off, spot⟩ := a
    have hsp : spot = none := by
      have := (hF 0 (by omega)).1 0 (by omega)
      have := World.cell?_spot (this.trans rfl)
      simpa [Addr.add] using this
    subst hsp
    refine ⟨len, fun i => (F i).1, .inr ⟨b, off, cap, fun i => (F i).2.1, fun i => (F i).2.2, rfl, Nat.zero_le _, hl, hm, fun i hi => ⟨?_, (hF i hi).2⟩⟩⟩
    have h0 := (hF i hi).1 0 (by omega)
    have h1 := (hF i hi).1 1 (by omega)
    have h2 := (hF i hi).1 2 (by omega)
    have h3 := (hF i hi).1 3 (by omega)
    have h4 := (hF i hi).1 4 (by omega)
    have h5 := (hF i hi).1 5 (by omega)
    simp only [add_plain, Nat.add_zero] at h0 h1 h2 h3 h4 h5
    exact ⟨h0, h1, h2, h3, h4, h5⟩

theorem open_stx (T : StxT P tD tI tS tZ tK) : ∀ (fuel : Nat) (cs : List Value) (x : DataW H × List MemPlace), DataW.trod enc P w base spare held fuel tD cs = some x →
    ∃ (t : X) (sv v : Value), cs = [.int .i64 t.op, .int .i64 t.at_, .int .i64 t.n, .string t.s, sv, v] ∧ t.Of w sv v := by
  intro fuel
  induction fuel using Nat.strongRecOn with
  | ind fuel ih =>
    intro cs x h
    obtain ⟨fs, hu, hfs, hi, ⟨f3, h3, ht3, ho3⟩, ⟨f4, h4, ht4, ho4⟩, ⟨f5, h5, ht5, ho5⟩⟩ := T.ex
    obtain ⟨xs, n, rfl, _, hlen, hxl, hf⟩ := DataW.trod_struct hu h
    rw [T.cd] at hlen
    obtain ⟨f0, h0, ht0, ho0⟩ := hi 0 (by omega)
    obtain ⟨f1, h1, ht1, ho1⟩ := hi 1 (by omega)
    obtain ⟨f2, h2, ht2, ho2⟩ := hi 2 (by omega)
    have g0 := hf 0 f0 h0
    have g1 := hf 1 f1 h1
    have g2 := hf 2 f2 h2
    have g3 := hf 3 f3 h3
    have g4 := hf 4 f4 h4
    have g5 := hf 5 f5 h5
    rw [hfs] at hxl
    rw [ht0, ho0, T.ci, List.getElem?_eq_getElem (by omega)] at g0
    rw [ht1, ho1, T.ci, List.getElem?_eq_getElem (by omega)] at g1
    rw [ht2, ho2, T.ci, List.getElem?_eq_getElem (by omega)] at g2
    rw [ht3, ho3, T.cs, List.getElem?_eq_getElem (by omega)] at g3
    rw [ht4, ho4, T.cz, List.getElem?_eq_getElem (by omega)] at g4
    rw [ht5, ho5, T.ck, List.getElem?_eq_getElem (by omega)] at g5
    match cs, hlen with
    | [c0, c1, c2, c3, c4, c5], _ =>
      simp only [List.drop_zero, List.drop_succ_cons, List.take_succ_cons, List.take_zero] at g0 g1 g2 g3 g4 g5
      obtain ⟨z0, e0, -, -⟩ := DataW.trod_int T.i g0
      obtain ⟨z1, e1, -, -⟩ := DataW.trod_int T.i g1
      obtain ⟨z2, e2, -, w2⟩ := DataW.trod_int T.i g2
      obtain ⟨s, e3, -, ws⟩ := DataW.trod_string T.s g3
      simp only [List.cons.injEq, and_true] at e0 e1 e2 e3
      subst e0 e1 e2 e3
      cases n with
      | zero => simp [DataW.trod] at g4
      | succ m =>
        obtain ⟨set, hsl, hset⟩ := set_of T g4
        obtain ⟨len, kid, hs⟩ := xs_of T m (ih m (by omega)) g5
        exact ⟨.mk z0 z1 z2 s set len kid, c4, c5, rfl, X.InB.mk' ws (i64_boundsX w2) hsl hset hs⟩

theorem open_stxs (T : StxT P tD tI tS tZ tK) {fuel : Nat} {v : Value} {x : DataW H × List MemPlace} (h : DataW.trod enc P w base spare held fuel tK [v] = some x) : ∃ len kid, XsOf w len kid v := by
  cases fuel with
  | zero => simp [DataW.trod] at h
  | succ m => exact xs_of T m (fun cs x => open_stx T m cs x) h
end
end Go.Proofs.Ytaflnjhknnnaoaa

/- What is written, as an argument of a law. No conditions. -/
namespace Go.Proofs.Ytaflnjhknnnaoaa
open Go.ChangeShapes Go.WideShapes Go.ChangeAt Go.RowKit

theorem card_own : ownKnob Try.prog.godebug = none := by kernel_rfl
theorem card_laid : laidOutB Try.prog = true := by kernel_rfl

theorem stx_types : StxT Try.prog 30 3 9 27 28 where
  ex := ⟨_, Try.underlying30, rfl, fun i hi => by
    match i, hi with
    | 0, _ => exact ⟨_, rfl, rfl, rfl⟩
    | 1, _ => exact ⟨_, rfl, rfl, rfl⟩
    | 2, _ => exact ⟨_, rfl, rfl, rfl⟩, ⟨_, rfl, rfl, rfl⟩, ⟨_, rfl, rfl, rfl⟩, ⟨_, rfl, rfl, rfl⟩⟩
  i := Try.underlying3
  s := Try.underlying9
  z := Try.underlying27
  k := Try.underlying28
  ci := by kernel_rfl
  cs := by kernel_rfl
  cz := by kernel_rfl
  ck := by kernel_rfl
  cd := by kernel_rfl

theorem stx_agg {P : Program} {W : World} {r : Reach} {base : Nat} {t : TypeId} {v : Value} {fs : Array Field} (hu : P.underlying t = some (.struct fs)) (h : Value.okWide P W r base t v) : ∃ cs, v = .agg cs := by
  unfold Value.okWide at h
  rw [hu] at h
  obtain ⟨cs, h, _⟩ := h
  exact ⟨cs, h⟩

set_option maxRecDepth 100000 in
theorem stx_opened {H : Type} {enc : TypeId × Value → H} {W : World} {r : Reach} {base : Nat} {v : Value} {d : DataW H} {ps : List MemPlace} (hv : Value.okWide Try.prog W r base 30 v) (h : DataW.Trod enc Try.prog W 0 (fun _ => true) true 30 v d ps) :
    ∃ (t : X) (su u : Value), v = .agg #[.int .i64 t.op, .int .i64 t.at_, .int .i64 t.n, .string t.s, su, u] ∧ t.Of W su u := by
  obtain ⟨cs, rfl⟩ := stx_agg Try.underlying30 hv
  obtain ⟨fuel, h⟩ := h
  obtain ⟨t, su, u, e, hin⟩ := open_stx stx_types fuel _ _ h
  have e' : cs.toList = _ := e
  refine ⟨t, su, u, ?_, hin⟩
  congr 1
  exact Array.toList_inj.1 e'
end Go.Proofs.Ytaflnjhknnnaoaa
