/- A value that came in lies in memory as a tree. No conditions. -/
import Derived.Test.YthnhdmanmmdoiaaDoorZG1SzIr
import Derived.Test.YthnhdmanmmdoiaaDoorZG9DatOpen
import Derived.Test.YthnhdmanmmdoiaaDoorZG2SzBlk
import Derived.OpenShut
namespace Go.Proofs.YthnhdmanmmdoiaaDoor
open Go.ChangeShapes Go.WideShapes Go.ChangeAt Go.RowKit

/-- The types of an ir. -/
structure IrTy (P : Program) (tD tI tK : TypeId) : Prop where
  ex : ∃ fs : Array Field, P.underlying tD = some (.struct fs) ∧ fs.size = 3 ∧ (∀ i, i < 2 → ∃ f, fs[i]? = some f ∧ f.type = tI ∧ f.offset = i) ∧
    (∃ f, fs[2]? = some f ∧ f.type = tK ∧ f.offset = 2)
  i : P.underlying tI = some (.int .i64)
  k : P.underlying tK = some (.slice tD)
  ci : P.cellsOf tI = 1
  ck : P.cellsOf tK = 1
  cd : P.cellsOf tD = 3

section
variable {H : Type} {enc : TypeId × Value → H} {P : Program} {w : World} {base : Nat} {spare : Nat → Bool} {held : Bool} {tD tI tK : TypeId}

theorem il_of (T : IrTy P tD tI tK) (m : Nat) (ih : ∀ cs x, DataW.trod enc P w base spare held m tD cs = some x → ∃ (t : It) (v : Value), cs = [.int .i64 t.op, .int .i64 t.n, v] ∧ t.In w v)
    {c4 : Value} {y : DataW H × List MemPlace} (h : DataW.trod enc P w base spare held (m + 1) tK [c4] = some y) : ∃ len kid, Il w len kid c4 := by
  rcases DataW.trod_slice T.k h with ⟨h0, _⟩ | ⟨a, len, cap, elems, rest, n, hn, h1, _, hb, hl, hm, hlen, hel, _, _⟩
  · simp at h0
    exact ⟨0, fun _ => .no, .inl ⟨rfl, _, _, h0⟩⟩
  · simp at h1
    obtain rfl : m = n := by omega
    subst h1
    by_cases hz : len = 0
    · subst hz; exact ⟨0, fun _ => .no, .inl ⟨rfl, _, _, rfl⟩⟩
    rw [T.cd] at hel
    have each : ∀ i, i < len → ∃ q : It × Value, (∀ j, j < 3 → w.cell? ((a.add (i * 3)).add j) = [Value.int .i64 q.1.op, .int .i64 q.1.n, q.2][j]?) ∧ q.1.In w q.2 := by
      intro i hi
      have h2 := hel i hi
      rw [List.getElem?_eq_getElem (by omega)] at h2
      obtain ⟨cs', hc, ht⟩ := Option.bind_eq_some_iff.1 h2
      obtain ⟨t, v, rfl, hin⟩ := ih _ _ ht
      obtain ⟨_, _, hcell⟩ := World.cells?_some hc
      exact ⟨(t, v), hcell, hin⟩
    obtain ⟨F, hF⟩ := Go.Deep.choose_lt each
    obtain ⟨b, off, spot⟩ := a
    have hsp : spot = none := by
      have := (hF 0 (by omega)).1 0 (by omega)
      have := World.cell?_spot (this.trans rfl)
      simpa [Addr.add] using this
    subst hsp
    refine ⟨len, fun i => (F i).1, .inr ⟨b, off, cap, fun i => (F i).2, rfl, Nat.zero_le _, hl, hm, fun i hi => ⟨?_, (hF i hi).2⟩⟩⟩
    have h0 := (hF i hi).1 0 (by omega)
    have h1 := (hF i hi).1 1 (by omega)
    have h2 := (hF i hi).1 2 (by omega)
    simp only [add_plain, Nat.add_zero] at h0 h1 h2
    exact ⟨h0, h1, h2⟩

theorem open_ir (T : IrTy P tD tI tK) : ∀ (fuel : Nat) (cs : List Value) (x : DataW H × List MemPlace), DataW.trod enc P w base spare held fuel tD cs = some x →
    ∃ (t : It) (v : Value), cs = [.int .i64 t.op, .int .i64 t.n, v] ∧ t.In w v := by
  intro fuel
  induction fuel using Nat.strongRecOn with
  | ind fuel ih =>
    intro cs x h
    obtain ⟨fs, hu, hfs, hi, ⟨f2, h2, ht2, ho2⟩⟩ := T.ex
    obtain ⟨xs, n, rfl, _, hlen, hxl, hf⟩ := DataW.trod_struct hu h
    rw [T.cd] at hlen
    obtain ⟨f0, h0, ht0, ho0⟩ := hi 0 (by omega)
    obtain ⟨f1, h1, ht1, ho1⟩ := hi 1 (by omega)
    have g0 := hf 0 f0 h0
    have g1 := hf 1 f1 h1
    have g2 := hf 2 f2 h2
    rw [hfs] at hxl
    rw [ht0, ho0, T.ci, List.getElem?_eq_getElem (by omega)] at g0
    rw [ht1, ho1, T.ci, List.getElem?_eq_getElem (by omega)] at g1
    rw [ht2, ho2, T.ck, List.getElem?_eq_getElem (by omega)] at g2
    match cs, hlen with
    | [c0, c1, c2], _ =>
      simp only [List.drop_zero, List.drop_succ_cons, List.take_succ_cons, List.take_zero] at g0 g1 g2
      obtain ⟨z0, e0, -, -⟩ := DataW.trod_int T.i g0
      obtain ⟨z1, e1, -, w1⟩ := DataW.trod_int T.i g1
      simp only [List.cons.injEq, and_true] at e0 e1
      subst e0 e1
      cases n with
      | zero => simp [DataW.trod] at g2
      | succ m =>
        obtain ⟨len, kid, hs⟩ := il_of T m (ih m (by omega)) g2
        exact ⟨.mk z0 z1 len kid, c2, rfl, It.InB.mk' (i64_bounds w1) hs⟩

theorem open_irs (T : IrTy P tD tI tK) {fuel : Nat} {v : Value} {x : DataW H × List MemPlace} (h : DataW.trod enc P w base spare held fuel tK [v] = some x) : ∃ len kid, Il w len kid v := by
  cases fuel with
  | zero => simp [DataW.trod] at h
  | succ m => exact il_of T m (fun cs x => open_ir T m cs x) h
end
end Go.Proofs.YthnhdmanmmdoiaaDoor

/- Blocks that came in lie in memory as a row. No conditions. -/
namespace Go.Proofs.YthnhdmanmmdoiaaDoor
open Go.ChangeShapes Go.WideShapes Go.ChangeAt Go.RowKit

/-- The types of a block. -/
structure BlkTy (P : Program) (tB tD tI tK tL : TypeId) : Prop where
  ir : IrTy P tD tI tK
  ex : ∃ fs : Array Field, P.underlying tB = some (.struct fs) ∧ fs.size = 2 ∧ (∃ f, fs[0]? = some f ∧ f.type = tI ∧ f.offset = 0) ∧ (∃ f, fs[1]? = some f ∧ f.type = tD ∧ f.offset = 1)
  l : P.underlying tL = some (.slice tB)
  cb : P.cellsOf tB = 4
  cl : P.cellsOf tL = 1

section
variable {H : Type} {enc : TypeId × Value → H} {P : Program} {w : World} {base : Nat} {spare : Nat → Bool} {held : Bool} {tB tD tI tK tL : TypeId}

theorem open_blk (T : BlkTy P tB tD tI tK tL) (fuel : Nat) (cs : List Value) (x : DataW H × List MemPlace) (h : DataW.trod enc P w base spare held fuel tB cs = some x) :
    ∃ (t : Kb) (v : Value), cs = [.int .i64 t.fr, .int .i64 t.bd.op, .int .i64 t.bd.n, v] ∧ t.In w v := by
  obtain ⟨fs, hu, hfs, ⟨f0, h0, ht0, ho0⟩, ⟨f1, h1, ht1, ho1⟩⟩ := T.ex
  obtain ⟨xs, n, rfl, _, hlen, hxl, hf⟩ := DataW.trod_struct hu h
  rw [T.cb] at hlen
  have g0 := hf 0 f0 h0
  have g1 := hf 1 f1 h1
  rw [hfs] at hxl
  rw [ht0, ho0, T.ir.ci, List.getElem?_eq_getElem (by omega)] at g0
  rw [ht1, ho1, T.ir.cd, List.getElem?_eq_getElem (by omega)] at g1
  match cs, hlen with
  | [c0, c1, c2, c3], _ =>
    simp only [List.drop_zero, List.drop_succ_cons, List.take_succ_cons, List.take_zero] at g0 g1
    obtain ⟨z, e0, -, hz⟩ := DataW.trod_int T.ir.i g0
    obtain ⟨t, v, e1, hin⟩ := open_ir T.ir _ _ _ g1
    simp only [List.cons.injEq, and_true] at e0 e1
    obtain ⟨rfl, rfl, rfl⟩ := e1
    subst e0
    exact ⟨⟨z, t⟩, _, rfl, i64_bounds hz, hin⟩

theorem open_blks (T : BlkTy P tB tD tI tK tL) {fuel : Nat} {c5 : Value} {y : DataW H × List MemPlace} (h : DataW.trod enc P w base spare held fuel tL [c5] = some y) : ∃ len kid, Kl w len kid c5 := by
  rcases DataW.trod_slice T.l h with ⟨h0, _⟩ | ⟨a, len, cap, elems, rest, n, hn, h1, _, hb, hl, hm, hlen, hel, _, _⟩
  · simp at h0
    exact ⟨0, fun _ => default, .inl ⟨rfl, _, _, h0⟩⟩
  · simp at h1
    subst h1
    by_cases hz : len = 0
    · subst hz; exact ⟨0, fun _ => default, .inl ⟨rfl, _, _, rfl⟩⟩
    rw [T.cb] at hel
    have each : ∀ i, i < len → ∃ q : Kb × Value, (∀ j, j < 4 → w.cell? ((a.add (i * 4)).add j) = [Value.int .i64 q.1.fr, .int .i64 q.1.bd.op, .int .i64 q.1.bd.n, q.2][j]?) ∧ q.1.In w q.2 := by
      intro i hi
      have h2 := hel i hi
      rw [List.getElem?_eq_getElem (by omega)] at h2
      obtain ⟨cs', hc, ht⟩ := Option.bind_eq_some_iff.1 h2
      obtain ⟨t, v, rfl, hin⟩ := open_blk T _ _ _ ht
      obtain ⟨_, _, hcell⟩ := World.cells?_some hc
      exact ⟨(t, v), hcell, hin⟩
    obtain ⟨F, hF⟩ := Go.Deep.choose_lt each
    obtain ⟨b, off, spot⟩ := a
    have hsp : spot = none := by
      have := (hF 0 (by omega)).1 0 (by omega)
      have := World.cell?_spot (this.trans rfl)
      simpa [Addr.add] using this
    subst hsp
    refine ⟨len, fun i => (F i).1, .inr ⟨b, off, cap, fun i => (F i).2, rfl, Nat.zero_le _, hl, hm, fun i hi => ⟨?_, (hF i hi).2⟩⟩⟩
    have h0 := (hF i hi).1 0 (by omega)
    have h1 := (hF i hi).1 1 (by omega)
    have h2 := (hF i hi).1 2 (by omega)
    have h3 := (hF i hi).1 3 (by omega)
    simp only [add_plain, Nat.add_zero] at h0 h1 h2 h3
    exact ⟨h0, h1, h2, h3⟩
end
end Go.Proofs.YthnhdmanmmdoiaaDoor
