/- What Alloc answers, plainly. No conditions. -/
import Derived.Test.YtgcegjgjegkahabDone17
import Derived.Test.YtgcegjgjegkahabSpecBlockAt17
namespace Go.Proofs.Ytgcegjgjegkahab
open Go.ChangeShapes Go.WideShapes Go.ChangeAt Go.RowKit

/-- A heap with a block put behind all. -/
def putH (h : Hp) (f : Bool) (t : Int) (ks : List Int) : Hp := ⟨putW h.ws h.next.toNat (hdW f t (ks.length : Nat)) ks, h.half, h.base, h.next + (1 + (ks.length : Nat))⟩
/-- Whether the block may be put, but for room. -/
def mayB (h : Hp) (t : Int) (ks : List Int) : Bool := match blocksB h with
  | none => false
  | some L => bhOk t (ks.length : Nat) && allB (L ++ [h.next]) ks
/-- Whether there is room. -/
def roomB (h : Hp) (ks : List Int) : Bool := !decide (h.half - (h.next - h.base) < 1 + (ks.length : Nat))
def doneB (h : Hp) (t : Int) (ks : List Int) : Bool := mayB h t ks && roomB h ks
def allocHp (h : Hp) (f : Bool) (t : Int) (ks : List Int) : Hp := if doneB h t ks then putH h f t ks else h
def allocAt (h : Hp) (t : Int) (ks : List Int) : Int := if doneB h t ks then h.next else 0

def AllocRet (w : World) (h : Hp) (f : Bool) (t : Int) (ks : List Int) (e : Ending) (w' : World) : Prop :=
  ∃ u, e = .returned (.tuple #[heapV u (allocHp h f t ks), .int .i64 (allocAt h t ks), .bool (doneB h t ks)]) ∧ Own w' w.heap.size u (allocHp h f t ks).ws ∧ Below w.heap.size w w'

theorem results_cell_tmp2H {fn : Func} {p q r : Tmp} {ty : TypeId} (h : fn.results = #[.cell p ty, .tmp q, .tmp r]) (tmps : Array Value) (P : Program) (w : World) :
    (results fn tmps).run P w = ((asAddr (tmps.getD p undef)).run P w).andThen fun a w₁ => ((loadVar ty a).run P w₁).andThen fun v w₂ => .ok (.tuple #[v, tmps.getD q undef, tmps.getD r undef]) w₂ := by
  simp only [results, h]
  simp [Sem.run_bind, Result.andThen]

theorem next_sorted {h : Hp} {L : List Int} (hL : blocksB h = some L) : (L ++ [h.next]).Pairwise (· < ·) ∧ L.length ≤ 6000 := by
  obtain ⟨b, n, hb0, hn0, hbn, hnl, hl6, hpl⟩ := blocks_places hL
  have hf := places_facts (n - b) h.ws b n L (Nat.le_refl _) hbn hpl
  refine ⟨List.pairwise_append.2 ⟨hf.2.2, by simp, fun x hx y hy => ?_⟩, by omega⟩
  obtain rfl := List.mem_singleton.1 hy
  have := (hf.2.1 x hx).2.1
  omega
/-- An operation that its guard lets through, as one that has none. -/
theorem wpList_wanted {P : Program} {ops : Array Oper} {Q : Exit → Act → World → Prop} {a : Act} {w : World} {rest : List Oper} {o : Oper}
    (hw : Region.wanted o (yielded ops a.tmps) = true) (h : wpList P ops Q ({ o with guard := none } :: rest) a w) : wpList P ops Q (o :: rest) a w := by
  obtain ⟨d, op, ty, ps, af, g⟩ := o
  simp only [wpList, hw]
  have h2 : Region.wanted ({ dst := d, op := op, type := ty, pos := ps, after := af, guard := none } : Oper) (yielded ops a.tmps) = true := rfl
  simp only [wpList, h2] at h
  exact h
/-- A row of one's own that is not empty, as it lies. -/
theorem own_some {w : World} {B : Nat} {v : Value} {xs : List Int} (h : Own w B v xs) (hx : 0 < xs.length) : ∃ g cap, v = .slice (some ⟨g, 0, none⟩) xs.length cap := by
  rcases h.2 with ⟨_, h2⟩ | ⟨g, cap, cur, h1, _⟩
  · omega
  · exact ⟨g, cap, h1⟩
end Go.Proofs.Ytgcegjgjegkahab
