/- Blocks that came in lie in memory as a row. No conditions. -/
import Derived.Test.YtmobpjokmngdgaaDoorBlk
import Derived.Test.YtmobpjokmngdgaaDoorIrOpen
import Derived.OpenShut
namespace Go.Proofs.YtmobpjokmngdgaaDoor
open Go.ChangeShapes Go.WideShapes Go.ChangeAt Go.RowKit

/-- The types of a block. -/
structure BlkTy (P : Program) (tB tD tI tK tL : TypeId) : Prop where
  ir : IrTy P tD tI tK
  ex : ∃ fs : Array Field, P.underlying tB = some (.struct fs) ∧ fs.size = 2 ∧ (∃ f, fs[0]? = some f ∧ f.type = tI ∧ f.offset = 0) ∧ (∃ f, fs[1]? = some f ∧ f.type = tD ∧ f.offset = 1)
  l : P.underlying tL = some (.slice tB)
  cb : P.cellsOf tB = 4
  cl : P.cellsOf tL = 1

section
variable {H : Type} {enc : TypeId × Value → H} {P : Program} {w : World} {base : Nat} {spare : Nat → Bool} {held : Bool} {tB tD tI tK tL : TypeId}

theorem open_blk (T : BlkTy P tB tD tI tK tL) (fuel : Nat) (cs : List Value) (x : DataW H × List MemPlace) (h : DataW.trod enc P w base spare held fuel tB cs = some x) :
    ∃ (t : Kb) (v : Value), cs = [.int .i64 t.fr, .int .i64 t.bd.op, .int .i64 t.bd.n, v] ∧ t.In w v := by
  obtain ⟨fs, hu, hfs, ⟨f0, h0, ht0, ho0⟩, ⟨f1, h1, ht1, ho1⟩⟩ := T.ex
  obtain ⟨xs, n, rfl, _, hlen, hxl, hf⟩ := DataW.trod_struct hu h
  rw [T.cb] at hlen
  have g0 := hf 0 f0 h0
  have g1 := hf 1 f1 h1
  rw [hfs] at hxl
  rw [ht0, ho0, T.ir.ci, List.getElem?_eq_getElem (by omega)] at g0
  rw [ht1, ho1, T.ir.cd, List.getElem?_eq_getElem (by omega)] at g1
  match cs, hlen with
  | [c0, c1, c2, c3], _ =>
    simp only [List.drop_zero, List.drop_succ_cons, List.take_succ_cons, List.take_zero] at g0 g1
    obtain ⟨z, e0, -, hz⟩ := DataW.trod_int T.ir.i g0
    obtain ⟨t, v, e1, hin⟩ := open_ir T.ir _ _ _ g1
    simp only [List.cons.injEq, and_true] at e0 e1
    obtain ⟨rfl, rfl, rfl⟩ := e1
    subst e0
    exact ⟨⟨z, t⟩, _, rfl, i64_bounds hz, hin⟩

theorem open_blks (T : BlkTy P tB tD tI tK tL) {fuel : Nat} {c5 : Value} {y : DataW H × List MemPlace} (h : DataW.trod enc P w base spare held fuel tL [c5] = some y) : ∃ len kid, Kl w len kid c5 := by
  rcases DataW.trod_slice T.l h with ⟨h0, _⟩ | ⟨a, len, cap, elems, rest, n, hn, h1, _, hb, hl, hm, hlen, hel, _, _⟩
  · simp at h0
    exact ⟨0, fun _ => default, .inl ⟨rfl, _, _, h0⟩⟩
  · simp at h1
    subst h1
    by_cases hz : len = 0
    · subst hz; exact ⟨0, fun _ => default, .inl ⟨rfl, _, _, rfl⟩⟩
    rw [T.cb] at hel
    have each : ∀ i, i < len → ∃ q : Kb × Value, (∀ j, j < 4 → w.cell? ((a.add (i * 4)).add j) = [Value.int .i64 q.1.fr, .int .i64 q.1.bd.op, .int .i64 q.1.bd.n, q.2][j]?) ∧ q.1.In w q.2 := by
      intro i hi
      have h2 := hel i hi
      rw [List.getElem?_eq_getElem (by omega)] at h2
      obtain ⟨cs', hc, ht⟩ := Option.bind_eq_some_iff.1 h2
      obtain ⟨t, v, rfl, hin⟩ := open_blk T _ _ _ ht
      obtain ⟨_, _, hcell⟩ := World.cells?_some hc
      exact ⟨(t, v), hcell, hin⟩
    obtain ⟨F, hF⟩ := Go.Deep.choose_lt each
    obtain ⟨b, off, spot⟩ := a
    have hsp : spot = none := by
      have := (hF 0 (by omega)).1 0 (by omega)
      have := World.cell?_spot (this.trans rfl)
      simpa [Addr.add] using this
    subst hsp
    refine ⟨len, fun i => (F i).1, .inr ⟨b, off, cap, fun i => (F i).2, rfl, Nat.zero_le _, hl, hm, fun i hi => ⟨?_, (hF i hi).2⟩⟩⟩
    have h0 := (hF i hi).1 0 (by omega)
    have h1 := (hF i hi).1 1 (by omega)
    have h2 := (hF i hi).1 2 (by omega)
    have h3 := (hF i hi).1 3 (by omega)
    simp only [add_plain, Nat.add_zero] at h0 h1 h2 h3
    exact ⟨h0, h1, h2, h3⟩
end
end Go.Proofs.YtmobpjokmngdgaaDoor
