/- (*impl.coreWalk).comeTo. Condition: at most 2^20 in all. -/
import Derived.Test.YtefjnhkaampmcaaDoorZCorWalk
import Derived.Test.YtefjnhkaampmcaaDoorZBackIterC
import Derived.Test.YtefjnhkaampmcaaDoorZRFHeld
import Derived.Test.YtefjnhkaampmcaaDoorZBut
import Derived.Test.YtefjnhkaampmcaaDoorZG22StepCall
import Derived.Test.YtefjnhkaampmcaaDoorZStepAny
import Derived.Deep.RegionWith
import Derived.Deep.Cut
import Derived.Deep.RegionLaw
import Derived.Deep.AppendLies
import Derived.BigQuiet
import Derived.Deep.QuietTactic
import Derived.ControlIn
namespace Go.Proofs.YtefjnhkaampmcaaDoor
open Go.ChangeShapes Go.WideShapes Go.ChangeAt Go.RowKit Go.Shelf
attribute [local go_sem] Oper.semAt_some

theorem hid_ofW {p : Prop} (h : p) : Hid p := h

/-- The same, where no panic is left. -/
def calm (Q : Exit → Act → World → Prop) : Exit → Act → World → Prop
  | .panic _, _, _ => False
  | .outgrown, _, _ => False
  | .normal, a, w => Q .normal a w
  | .ret, a, w => Q .ret a w
  | .exit i, a, w => Q (.exit i) a w
  | .goto i, a, w => Q (.goto i) a w
theorem wpIn_calm {F : Fence} {n : Nat} {P : Program} {c : Code} {Q : Exit → Act → World → Prop} {a : Act} {w : World} (h : c.wpIn F n P (calm Q) a w) : c.wpIn F n P Q a w := by
  refine wpIn_mono h ?_
  rintro e a w he
  cases e <;> first | exact he | exact he.elim

/-- Two blocks of the call's own. -/
structure Two9 (W : World) (PB SB K b o : Nat) (nv : Value) (X : Nat) (cx : Array Value) : Prop where
  pb : W.heap[PB]? = some (.cells #[.pointer (some ⟨K, 0, none⟩)] 71 (0, 0))
  sb : W.heap[SB]? = some (.cells #[.pointer (some ⟨b, o, none⟩), nv] 70 (0, 0))
  xb : W.heap[X]? = some (.cells cx 70 (0, 0))

theorem CW.KB {w0 : World} {K B bs n m : Nat} {w : World} {lv : Value} {st : List St} {env : List (List UInt8)} (h : CW w0 K B bs n m w lv st env) : K ≠ B := fun e => by
  obtain ⟨D, ⟨es, ck, h1, _⟩, _⟩ := h.bnd
  have := h.blk
  rw [e, h1] at this
  cases this
theorem own_mfr {B : Nat} {w w' : World} {bs n : Nat} {v : Value} {xs : List Value} {es : Array MapEntry} {ck : Nat} (ho : w.ownsRow bs 70 2 v n xs) (hB : w.heap[B]? = some (.map es ck)) (h : MFr B (B + 1) w w') : w'.ownsRow bs 70 2 v n xs := by
  refine ⟨ho.1, ?_⟩
  rcases ho.2 with hn | ⟨g, cap, cur, rfl, hbg, hgg, rest⟩
  · exact .inl hn
  · exact .inr ⟨g, cap, cur, rfl, hbg, h.at hgg (fun e => by rw [e, hB] at hgg; cases hgg) (by decide), rest⟩
theorem CW.bind {w0 : World} {K B bs n m n' : Nat} {w w1 : World} {lv : Value} {st : List St} {env env' : List (List UInt8)} (h : CW w0 K B bs n m w lv st env) (hf : MFr B (B + 1) w w1) (hb : Bnd w1 B (B + 1) n' env') : CW w0 K B bs n' m w1 lv st env' := by
  obtain ⟨D, ⟨es, ck, h1, _⟩, _⟩ := h.bnd
  have hlt := (Array.getElem?_eq_some_iff.1 h1).1
  have hw := h.bel.size
  exact ⟨hf.at h.blk h.KB (by decide), own_mfr h.own h1 hf, hb, fun x hx => (h.ok x hx).fr (WFr.of_map (K := K) (bs := bs) hf) h.noStr.1 h.noStr.2, h.bel.trans (hf.below (by have := h.lo.2.1; omega) h.lo.2.1 hw), h.lo⟩
theorem own_walk {K : Nat} {w : World} {bs n j : Nat} {v u : Value} {xs : List Value} {cs : Array Value} (ho : w.ownsRow bs 70 2 v n xs) (hK : w.heap[K]? = some (.cells cs 58 (0, 0))) : (w.setCell ⟨K, j, none⟩ u).ownsRow bs 70 2 v n xs := by
  refine ⟨ho.1, ?_⟩
  rcases ho.2 with hn | ⟨g, cap, cur, rfl, hbg, hgg, rest⟩
  · exact .inl hn
  · refine .inr ⟨g, cap, cur, rfl, hbg, (Below.heap_setCell w ⟨K, j, none⟩ u g (fun e => ?_)).trans hgg, rest⟩
    have e' : g = K := e
    rw [e', hK] at hgg
    injection hgg with h9
    injection h9 with _ h9
    exact absurd h9 (by decide)
theorem CW.count {w0 : World} {K B bs n m : Nat} {w : World} {lv : Value} {st : List St} {env : List (List UInt8)} (h : CW w0 K B bs n m w lv st env) (m' : Nat) : CW w0 K B bs n m' (w.setCell ⟨K, 2, none⟩ (.int .i64 m')) lv st env :=
  ⟨heap_setCell_same w K 2 _ _ _ h.blk, own_walk h.own h.blk, h.bnd.walk h.blk _, fun x hx => (h.ok x hx).fr (WFr.of_walk (B := B) (bs := bs)) h.noStr.1 h.noStr.2, h.bel.setCell (by show _ ≤ K; exact h.lo.2.2) _, h.lo⟩
theorem CW.below {w0 : World} {K B bs n m : Nat} {w w1 : World} {lv : Value} {st : List St} {env : List (List UInt8)} (h : CW w0 K B bs n m w lv st env) (hb : Below w.heap.size w w1) : CW w0 K B bs n m w1 lv st env :=
  ⟨(hb.block _ (Array.getElem?_eq_some_iff.1 h.blk).1).trans h.blk, own_below5 h.own hb, h.bnd.below hb, fun x hx => (h.ok x hx).fr (WFr.of_below (K := K) (B := B) (bs := bs) hb) h.noStr.1 h.noStr.2, h.bel.trans (hb.mono h.bel.size), h.lo⟩
theorem Two9.mfr {W W1 : World} {PB SB K b o B X : Nat} {cx : Array Value} {nv : Value} {es : Array MapEntry} {ck : Nat} (h : Two9 W PB SB K b o nv X cx) (hB : W.heap[B]? = some (.map es ck)) (hf : MFr B (B + 1) W W1) : Two9 W1 PB SB K b o nv X cx :=
  ⟨hf.at h.pb (fun e => by have := h.pb; rw [e, hB] at this; cases this) (by decide), hf.at h.sb (fun e => by have := h.sb; rw [e, hB] at this; cases this) (by decide), hf.at h.xb (fun e => by have := h.xb; rw [e, hB] at this; cases this) (by decide)⟩
theorem Two9.walk {W : World} {PB SB K b o j X : Nat} {cx : Array Value} {nv u : Value} (h : Two9 W PB SB K b o nv X cx) (h1 : PB ≠ K) (h2 : SB ≠ K) (h3 : X ≠ K) : Two9 (W.setCell ⟨K, j, none⟩ u) PB SB K b o nv X cx :=
  ⟨(Below.heap_setCell W ⟨K, j, none⟩ u PB h1).trans h.pb, (Below.heap_setCell W ⟨K, j, none⟩ u SB h2).trans h.sb, (Below.heap_setCell W ⟨K, j, none⟩ u X h3).trans h.xb⟩
/-- One step more is left. -/
theorem CW.push {w0 : World} {K B bs n m g cap k : Nat} {w W1 w3 : World} {st : List St} {env : List (List UInt8)} {v' : Value} (h : CW w0 K B bs n m w (.slice (some ⟨g, 0, none⟩) k cap) st env) (x : St) (hx : StOk w0 w x) (hb : Below w.heap.size w W1)
    (ho : w3.ownsRow bs 70 2 v' (st.length + 1) (strows st ++ St.cells x)) (hg : W1.grownBy w3 (some g)) :
    CW w0 K B bs n m (w3.setCell ⟨K, 0, none⟩ v') v' (st ++ [x]) env ∧ WFr K B bs w (w3.setCell ⟨K, 0, none⟩ v') ∧ (∀ X, X < w.heap.size → X ≠ K → X ≠ g → (w3.setCell ⟨K, 0, none⟩ v').heap[X]? = w.heap[X]?) ∧ w3.cell? ⟨K, 0, none⟩ = some (.slice (some ⟨g, 0, none⟩) k cap) ∧ w3.frozen? ⟨K, 0, none⟩ = false := by
  have h1 := h.below hb
  have hgb : ∃ cur, W1.heap[g]? = some (.cells cur 70 (0, 0)) := by
    rcases h1.own.2 with ⟨h0, _⟩ | ⟨g', cap', cur, he, _, hgg, _⟩
    · cases h0
    · injection he with e1 _ _
      injection e1 with e1
      injection e1 with e1
      subst e1
      exact ⟨cur, hgg⟩
  obtain ⟨cur, hgg⟩ := hgb
  have hgK : g ≠ K := fun e => by
    have := h1.blk
    rw [← e, hgg] at this
    injection this with h9
    injection h9 with _ h9
    exact absurd h9 (by decide)
  have hg' : W1.grownBy w3 (Value.slice (some ⟨g, 0, none⟩) k cap).ownBlock := hg
  have blk3 : w3.heap[K]? = some (.cells #[.slice (some ⟨g, 0, none⟩) k cap, .map (some B), .int .i64 m] 58 (0, 0)) := (hg.block K (Array.getElem?_eq_some_iff.1 h1.blk).1 (by intro e; injection e with e; exact hgK e.symm)).trans h1.blk
  have f1 : WFr K B bs w w3 := (WFr.of_below hb).trans (WFr.of_row h1.own hg')
  have f2 : WFr K B bs w (w3.setCell ⟨K, 0, none⟩ v') := f1.trans WFr.of_walk
  have b3 : Below w0.heap.size w0 w3 := h1.bel.trans ((WFr.of_row (K := K) (B := B) h1.own hg').below h.lo.2.2 h.lo.2.1 h.lo.1 h1.bel.size)
  have bn3 : Bnd w3 B (B + 1) n env := h1.bnd.row h1.own hg'
  refine ⟨⟨heap_setCell_same w3 K 0 _ _ v' blk3, ?_, bn3.walk blk3 _, fun y hy => ?_, b3.setCell (by show _ ≤ K; exact h.lo.2.2) _, h.lo⟩, f2, fun X hX h2 h3 => ?_, cell_of_row w3 K 0 _ _ _ blk3, frozen_of_row w3 K 0 _ _ blk3⟩
  · rw [List.length_append, strows_append]
    exact own_walk (by simpa [strows] using ho) blk3
  · rcases List.mem_append.1 hy with hy | hy
    · exact (h.ok y hy).fr f2 h.noStr.1 h.noStr.2
    · simp only [List.mem_singleton] at hy
      subst hy
      exact hx.fr f2 h.noStr.1 h.noStr.2
  · rw [Below.heap_setCell w3 ⟨K, 0, none⟩ v' X h2, hg.block X (Nat.lt_of_lt_of_le hX hb.size) (by intro e; injection e with e; exact h3 e), hb.block X hX]
theorem CW.push_at {w0 : World} {K B bs n m g cap sl : Nat} {w W1 w3 : World} {st : List St} {env : List (List UInt8)} {v' : Value} {cs : List Value} (h : CW w0 K B bs n m w (.slice (some ⟨g, 0, none⟩) sl cap) st env) (hsl : st.length = sl) (x : St) (hx : StOk w0 w x) (hb : Below w.heap.size w W1)
    (ho : w3.ownsRow bs 70 2 v' (sl + 1) (strows st ++ cs)) (hcs : cs = St.cells x) (hg : W1.grownBy w3 (some g)) :
    CW w0 K B bs n m (w3.setCell ⟨K, 0, none⟩ v') v' (st ++ [x]) env ∧ WFr K B bs w (w3.setCell ⟨K, 0, none⟩ v') ∧ (∀ X, X < w.heap.size → X ≠ K → X ≠ g → (w3.setCell ⟨K, 0, none⟩ v').heap[X]? = w.heap[X]?) ∧ w3.cell? ⟨K, 0, none⟩ = some (.slice (some ⟨g, 0, none⟩) sl cap) ∧ w3.frozen? ⟨K, 0, none⟩ = false := by
  subst hsl hcs
  exact h.push x hx hb ho hg
theorem keep_pb {wl w3 : World} {o : Obj} {X g : Nat} {cs : Array Value} {ty : TypeId} (h : wl.heap[X]? = some (.cells cs ty (0, 0))) (hg : (wl.alloc o).drew.grownBy w3 (some g)) (hne : X ≠ g) : w3.heap[X]? = some (.cells cs ty (0, 0)) := by
  have hX := (Array.getElem?_eq_some_iff.1 h).1
  refine (hg.block X (Nat.lt_of_lt_of_le hX (newb wl o).size) (by intro e; injection e with e; exact hne e)).trans ?_
  exact ((newb wl o).block X hX).trans h
/-- Another block, which is no row, has turned. -/
theorem Bnd.other {w w' : World} {B n X : Nat} {env : List (List UInt8)} (h : Bnd w B (B + 1) n env) (hg : w.grownBy w' (some X)) (hB : X ≠ B) (hX : ∀ cs ty fr, w.heap[X]? ≠ some (.cells cs ty fr)) : Bnd w' B (B + 1) n env := by
  obtain ⟨D, ⟨es, ck, hb, F, hs, hD, hlt, hlen, hap⟩, h2⟩ := h
  have ne : ∀ {u : Value} {ys : List Int}, w.ownsInts (B + 1) 3 .i64 u ys → u.ownBlock = none ∨ u.ownBlock ≠ some X := fun {u ys} ho => by
    rcases ho.1.2 with ⟨rfl, _⟩ | ⟨g, cap, cur, rfl, _, hgg, _⟩
    · exact Or.inl rfl
    · refine Or.inr (fun e1 => ?_)
      simp only [Value.ownBlock, Option.some.injEq] at e1
      subst e1
      exact hX _ _ _ hgg
  have hs2 : ∀ x ∈ es.toList, ∀ z, rowElem (H := Unit) w (B + 1) 3 .i64 x.val = some z → rowElem w' (B + 1) 3 .i64 x.val = some z := by
    intro x _ z hz
    obtain ⟨ys, ho, rfl⟩ := rowElem_inv hz
    exact rowElem_mk (ho.kept hg (ne ho))
  obtain ⟨F2, hmap2, _⟩ := F.stay hs2
  refine ⟨D, ⟨es, ck, (hg.block B (Array.getElem?_eq_some_iff.1 hb).1 (by intro e1; injection e1 with e1; exact hB e1.symm)).trans hb, F2, hs, by rw [hD, hmap2], hlt, ?_, hap⟩, h2⟩
  intro x hx ys ho
  obtain ⟨y, hy⟩ := F.reads x hx
  obtain ⟨z, hz, _⟩ := Go.WideElems.rd_val hy
  obtain ⟨ys', ho', _⟩ := rowElem_inv hz
  rw [ho.unique (ho'.kept hg (ne ho'))]
  exact hlen x hx ys' ho'
theorem at_other {w w' : World} {X g : Nat} {cs : Array Value} {ty : TypeId} {fr : Nat × Nat} (hg : w.grownBy w' (some X)) (hX : ∀ cs ty fr, w.heap[X]? ≠ some (.cells cs ty fr)) (h : w.heap[g]? = some (.cells cs ty fr)) : w'.heap[g]? = some (.cells cs ty fr) :=
  (hg.block g (Array.getElem?_eq_some_iff.1 h).1 (by intro e1; injection e1 with e1; subst e1; exact hX _ _ _ h)).trans h
theorem CW.other {w0 : World} {K B bs n m X : Nat} {w w' : World} {lv : Value} {st : List St} {env : List (List UInt8)} (h : CW w0 K B bs n m w lv st env) (hg : w.grownBy w' (some X)) (hX : ∀ cs ty fr, w.heap[X]? ≠ some (.cells cs ty fr)) (hB : X ≠ B) (h0 : w0.heap.size ≤ X) : CW w0 K B bs n m w' lv st env := by
  refine ⟨at_other hg hX h.blk, ?_, h.bnd.other hg hB hX, fun x hx => ?_, h.bel.trans ⟨hg.os, hg.tape, hg.output, hg.size, fun g hg' => hg.block g (by have := h.bel.size; omega) (by intro e1; injection e1 with e1; omega)⟩, h.lo⟩
  · refine ⟨h.own.1, ?_⟩
    rcases h.own.2 with hn | ⟨g, cap, cur, rfl, hbg, hgg, rest⟩
    · exact .inl hn
    · exact .inr ⟨g, cap, cur, rfl, hbg, at_other hg hX hgg, rest⟩
  · obtain ⟨a1, a2, a3⟩ := h.ok x hx
    refine ⟨a1, ?_, a3⟩
    rcases a2 with a2 | ⟨g, e1, e2⟩
    · exact .inl a2
    · exact .inr ⟨g, e1, at_other hg hX e2⟩
/-- What the reads of a round need. -/
structure S12 (K PB SB A0 b o : Nat) (t : C) (kv : Value) (wq : World) : Prop where
  pb : wq.cell? ⟨PB, 0, none⟩ = some (.pointer (some ⟨K, 0, none⟩))
  kb : wq.cell? ⟨A0, 0, none⟩ = some kv
  sb : wq.cell? ⟨SB, 0, none⟩ = some (.pointer (some ⟨b, o, none⟩))
  hd : HeadC wq b o t kv
theorem S12.below {K PB SB A0 b o : Nat} {t : C} {kv : Value} {w w' : World} (h : S12 K PB SB A0 b o t kv w) (hb : Below w.heap.size w w') : S12 K PB SB A0 b o t kv w' := ⟨keeps hb _ _ h.pb, keeps hb _ _ h.kb, keeps hb _ _ h.sb, h.hd.below hb⟩
theorem gg_ne {gg lg SB a b sl lc : Nat} (hat : (Value.slice (some ⟨lg, 0, none⟩) sl lc).ownBlock = some gg ∨ gg = b + 1) (h1 : lg < a) (h2 : a ≤ SB ∧ SB < b) : gg ≠ SB := by
  rcases hat with h | h
  · simp only [Value.ownBlock, Option.some.injEq] at h
    omega
  · omega
theorem gg_ne2 {gg lg SB b sl lc : Nat} (hat : (Value.slice (some ⟨lg, 0, none⟩) sl lc).ownBlock = some gg ∨ gg = b + 1) (h1 : lg ≠ SB) (h2 : SB < b) : gg ≠ SB := by
  rcases hat with h | h
  · simp only [Value.ownBlock, Option.some.injEq] at h
    omega
  · omega
/-- What stands between two rounds. -/
structure JC (w0 wc : World) (K B bs n m PB SB b o A0 M X : Nat) (cx : Array Value) (nv bv lv : Value) (st : List St) (env : List (List UInt8)) (lp : Loop) (W : World) : Prop where
  cw : CW w0 K B bs n m W lv st env
  two : Two9 W PB SB K b o nv X cx
  a0 : W.heap[A0]? = some (.cells #[bv] 27 (0, 0))
  a1 : W.heap[A0 + 1]? = some (.cells #[bv] 27 (0, 0))
  d : W.heap[M]? = some (.deferred (some []))
  l : W.heap[M + 1]? = some (.loop lp)
  fr : WFr K B bs wc W
theorem JC.below {w0 wc : World} {K B bs n m PB SB b o A0 M X : Nat} {cx : Array Value} {nv bv lv : Value} {st : List St} {env : List (List UInt8)} {lp : Loop} {W W' : World} (h : JC w0 wc K B bs n m PB SB b o A0 M X cx nv bv lv st env lp W) (hb : Below W.heap.size W W') : JC w0 wc K B bs n m PB SB b o A0 M X cx nv bv lv st env lp W' :=
  have at_ : ∀ {X : Nat} {ob : Obj}, W.heap[X]? = some ob → W'.heap[X]? = some ob := fun {X _} e => (hb.block X (Array.getElem?_eq_some_iff.1 e).1).trans e
  ⟨h.cw.below hb, ⟨at_ h.two.pb, at_ h.two.sb, at_ h.two.xb⟩, at_ h.a0, at_ h.a1, at_ h.d, at_ h.l, h.fr.trans (WFr.of_below hb)⟩
theorem JC.loop {w0 wc : World} {K B bs n m PB SB b o A0 M X : Nat} {cx : Array Value} {nv bv lv : Value} {st : List St} {env : List (List UInt8)} {lp : Loop} {W : World} (h : JC w0 wc K B bs n m PB SB b o A0 M X cx nv bv lv st env lp W) (h0 : wc.heap.size ≤ M + 1) (h1 : w0.heap.size ≤ wc.heap.size) (lp' : Loop) : JC w0 wc K B bs n m PB SB b o A0 M X cx nv bv lv st env lp' (W.putObj (M + 1) (.loop lp')) := by
  have hg : W.grownBy (W.putObj (M + 1) (.loop lp')) (some (M + 1)) := grownBy_putObj' _ _ _
  have hX : ∀ cs ty fr, W.heap[M + 1]? ≠ some (.cells cs ty fr) := fun cs ty fr e => by rw [h.l] at e; cases e
  have hB : M + 1 ≠ B := fun e => by
    obtain ⟨D, ⟨es, ck, h2, _⟩, _⟩ := h.cw.bnd
    rw [← e, h.l] at h2
    cases h2
  refine ⟨h.cw.other hg hX hB (Nat.le_trans h1 h0), ⟨at_other hg hX h.two.pb, at_other hg hX h.two.sb, at_other hg hX h.two.xb⟩, at_other hg hX h.a0, at_other hg hX h.a1, ?_, World.putObj_heap_same (Array.getElem?_eq_some_iff.1 h.l).1, ⟨hg.os.trans h.fr.os, hg.tape.trans h.fr.tape, hg.output.trans h.fr.output, Nat.le_trans h.fr.size hg.size, fun g a b c d e => (hg.block g (Nat.lt_of_lt_of_le a h.fr.size) (by intro e1; injection e1 with e1; omega)).trans (h.fr.block g a b c d e)⟩⟩
  rw [World.putObj_heap_other (by omega)]
  exact h.d
theorem keep_at {w W1 w3 : World} {X g : Nat} {ob : Obj} (h : w.heap[X]? = some ob) (hb : Below w.heap.size w W1) (hg : W1.grownBy w3 (some g)) (hne : X ≠ g) : w3.heap[X]? = some ob := by
  have hX := (Array.getElem?_eq_some_iff.1 h).1
  exact (hg.block X (Nat.lt_of_lt_of_le hX hb.size) (by intro e; injection e with e; exact hne e)).trans ((hb.block X hX).trans h)
theorem JC.s12 {w0 wc : World} {K B bs n m PB SB b o A0 M X : Nat} {cx : Array Value} {nv bv lv : Value} {st : List St} {env : List (List UInt8)} {lp : Loop} {W : World} {t : C} (h : JC w0 wc K B bs n m PB SB b o A0 M X cx nv bv lv st env lp W) (hd : HeadC w0 b o t bv) : S12 K PB SB A0 b o t bv W :=
  ⟨cell_of_row W PB 0 _ _ _ h.two.pb, cell_of_row W A0 0 _ _ _ h.a0, cell_of_row W SB 0 _ _ _ h.two.sb, hd.below h.cw.bel⟩
theorem JC.push {w0 wc : World} {K B bs n m PB SB b o A0 M X lg cap sl : Nat} {cx : Array Value} {nv bv : Value} {st : List St} {env : List (List UInt8)} {lp : Loop} {w W1 w3 : World} {v' : Value} {cs : List Value} {t : C} (h : JC w0 wc K B bs n m PB SB b o A0 M X cx nv bv (.slice (some ⟨lg, 0, none⟩) sl cap) st env lp w) (hsl : st.length = sl) (x : St) (hx : StOk w0 w x) (hb : Below w.heap.size w W1)
    (ho : w3.ownsRow bs 70 2 v' (sl + 1) (strows st ++ cs)) (hcs : cs = St.cells x) (hg : W1.grownBy w3 (some lg)) (hne : lg ≠ SB ∧ lg ≠ X) (hd : HeadC w0 b o t bv) (hPK : PB ≠ K) (hSK : SB ≠ K) (hXK : X ≠ K) :
    JC w0 wc K B bs n m PB SB b o A0 M X cx nv bv v' (st ++ [x]) env lp (w3.setCell ⟨K, 0, none⟩ v') ∧ S12 K PB SB A0 b o t bv w3 ∧ w3.cell? ⟨K, 0, none⟩ = some (.slice (some ⟨lg, 0, none⟩) sl cap) ∧ w3.frozen? ⟨K, 0, none⟩ = false := by
  obtain ⟨a1, a2, a3, a4, a5⟩ := h.cw.push_at hsl x hx hb ho hcs hg
  have h1 := h.cw.below hb
  obtain ⟨cur, hgg⟩ : ∃ cur, w.heap[lg]? = some (.cells cur 70 (0, 0)) := by
    rcases h.cw.own.2 with ⟨h0, _⟩ | ⟨g', cap', cur, he, _, hgg, _⟩
    · cases h0
    · injection he with e1 _ _
      injection e1 with e1
      injection e1 with e1
      subst e1
      exact ⟨cur, hgg⟩
  have ne : ∀ {X : Nat} {cs : Array Value} {ty : TypeId}, w.heap[X]? = some (.cells cs ty (0, 0)) → ty ≠ 70 → X ≠ lg := fun {X cs ty} e1 e2 e3 => by
    rw [e3, hgg] at e1
    injection e1 with e1
    injection e1 with _ e1
    exact e2 e1.symm
  have nA : A0 ≠ lg := ne h.a0 (by decide)
  have nA1 : A0 + 1 ≠ lg := ne h.a1 (by decide)
  have nP : PB ≠ lg := ne h.two.pb (by decide)
  have nM : M ≠ lg := fun e => by have := h.d; rw [e, hgg] at this; cases this
  have nL : M + 1 ≠ lg := fun e => by have := h.l; rw [e, hgg] at this; cases this
  have kA : A0 ≠ K := fun e => by have := h.a0; rw [e, h.cw.blk] at this; injection this with e1; injection e1 with _ e1; exact absurd e1 (by decide)
  have kA1 : A0 + 1 ≠ K := fun e => by have := h.a1; rw [e, h.cw.blk] at this; injection this with e1; injection e1 with _ e1; exact absurd e1 (by decide)
  have kM : M ≠ K := fun e => by have := h.d; rw [e, h.cw.blk] at this; cases this
  have kL : M + 1 ≠ K := fun e => by have := h.l; rw [e, h.cw.blk] at this; cases this
  have lt : ∀ {X : Nat} {ob : Obj}, w.heap[X]? = some ob → X < w.heap.size := fun {_ _} e => (Array.getElem?_eq_some_iff.1 e).1
  have b3 : Below w0.heap.size w0 w3 := h1.bel.trans ((WFr.of_row (K := K) (B := B) h1.own (show W1.grownBy w3 (Value.slice (some ⟨lg, 0, none⟩) sl cap).ownBlock from hg)).below h.cw.lo.2.2 h.cw.lo.2.1 h.cw.lo.1 h1.bel.size)
  refine ⟨⟨a1, ⟨(a3 PB (lt h.two.pb) hPK nP).trans h.two.pb, (a3 SB (lt h.two.sb) hSK hne.1.symm).trans h.two.sb, (a3 X (lt h.two.xb) hXK hne.2.symm).trans h.two.xb⟩, (a3 A0 (lt h.a0) kA nA).trans h.a0, (a3 _ (lt h.a1) kA1 nA1).trans h.a1, (a3 _ (lt h.d) kM nM).trans h.d, (a3 _ (lt h.l) kL nL).trans h.l, h.fr.trans a2⟩, ⟨?_, ?_, ?_, hd.below b3⟩, a4, a5⟩
  · exact cell_of_row w3 PB 0 _ _ _ (keep_at h.two.pb hb hg nP)
  · exact cell_of_row w3 A0 0 _ _ _ (keep_at h.a0 hb hg nA)
  · exact cell_of_row w3 SB 0 _ _ _ (keep_at h.two.sb hb hg hne.1.symm)
theorem JC.done {w0 wc : World} {K B bs n m PB SB b o A0 M X : Nat} {cx : Array Value} {nv bv lv : Value} {st : List St} {env : List (List UInt8)} {lp : Loop} {W : World} (h : JC w0 wc K B bs n m PB SB b o A0 M X cx nv bv lv st env lp W) (h0 : wc.heap.size ≤ M) (h1 : w0.heap.size ≤ wc.heap.size) : CW w0 K B bs n m (W.putObj M (.deferred none)) lv st env ∧ WFr K B bs wc (W.putObj M (.deferred none)) ∧ (W.putObj M (.deferred none)).heap[X]? = some (.cells cx 70 (0, 0)) := by
  have hg : W.grownBy (W.putObj M (.deferred none)) (some M) := grownBy_putObj' _ _ _
  have hX : ∀ cs ty fr, W.heap[M]? ≠ some (.cells cs ty fr) := fun cs ty fr e => by rw [h.d] at e; cases e
  have hB : M ≠ B := fun e => by
    obtain ⟨D, ⟨es, ck, h2, _⟩, _⟩ := h.cw.bnd
    rw [← e, h.d] at h2
    cases h2
  exact ⟨h.cw.other hg hX hB (Nat.le_trans h1 h0), ⟨hg.os.trans h.fr.os, hg.tape.trans h.fr.tape, hg.output.trans h.fr.output, Nat.le_trans h.fr.size hg.size, fun g a b c d e => (hg.block g (Nat.lt_of_lt_of_le a h.fr.size) (by intro e1; injection e1 with e1; omega)).trans (h.fr.block g a b c d e)⟩, at_other hg hX h.two.xb⟩
theorem bndIB_small {t : C} (i : Nat) (h : t.weight ≤ 1048576) : (bndIB t.op i t.s t.t2).length ≤ 2 ∧ ∀ x ∈ bndIB t.op i t.s t.t2, x.size ≤ 1048576 := by
  have h2 := C.weight_eq t
  have e1 : t.s.size ≤ 1048576 := by omega
  have e2 : t.t2.size ≤ 1048576 := by omega
  unfold bndIB
  split
  · simp [e1, e2]
  · split <;> simp [e1]
theorem boundIn_enter (vs : Array Value) (w : World) : (callFunc 40 vs).run Tryd.prog w = .ok (.enter 40 vs) w := by kernel_rfl
theorem kidSts_upd (t : C) (V NV : Nat → Value) (b o i : Nat) (nv : Value) : ∀ k, k + i < t.len → kidSts t V (fun j => if j = i then nv else NV j) b o k = kidSts t V NV b o k
  | 0, _ => rfl
  | k + 1, h => by
    have ih := kidSts_upd t V NV b o i nv k (by omega)
    simp only [kidSts, ih]
    rw [if_neg (by omega)]
theorem kidSts_succ (t : C) (V NV : Nat → Value) (b o k i : Nat) (nv : Value) (h : k + i + 1 = t.len) : kidSts t V (fun j => if j = i then nv else NV j) b o (k + 1) = kidSts t V NV b o k ++ [⟨some (t.kid i, V i, b, o + i * 5), bndIB t.op i t.s t.t2, nv⟩] := by
  have e : t.len - 1 - k = i := by omega
  simp only [kidSts, e, if_true]
  rw [kidSts_upd t V NV b o i nv k (by omega)]

theorem step_info : (Tryd.prog.info? 70).map (fun i => (i.zero, i.size, i.bytes)) = some (some (.agg #[.pointer none, .slice none 0 0]), 2, 32) := by kernel_rfl
theorem nmL_take (xs : List ByteArray) (k : Nat) (x : ByteArray) (h : xs[k]? = some x) : nmL (xs.take (k + 1)) = nmL (xs.take k) ++ [x.data.toList] := by
  rw [List.take_add_one, h]; simp [nmL]

set_option maxRecDepth 100000 in
set_option maxHeartbeats 4000000 in
theorem come_to (w0 : World) (K B bs n m : Nat) (w : World) (lv : Value) (st : List St) (env : List (List UInt8)) (t : C) (v : Value) (b o : Nat) (xs : List ByteArray) (nv : Value)
    (hcw : CW w0 K B bs n m w lv st env) (hst : StOk w0 w ⟨some (t, v, b, o), xs, nv⟩) (hl : st.length + t.len + 1 ≤ 4194304) (hn : n + 2 ≤ 1073741824) (hm : m + 2 ≤ 1073741824) (hlv : ∃ g cap, lv = .slice (some ⟨g, 0, none⟩) st.length cap) (X : Nat) (cx : Array Value) (hX : w.heap[X]? = some (.cells cx 70 (0, 0))) (hXl : lv.ownBlock ≠ some X) :
    Calls Tryd.prog 35 #[.pointer (some ⟨K, 0, none⟩), .agg #[.pointer (some ⟨b, o, none⟩), nv]] w fun e w' => e = .returned (.tuple #[]) ∧ ∃ (lv' : Value) (V NV : Nat → Value) (kb ko : Nat), CW w0 K B bs (n + xs.length) (m + xs.length) w' lv' (st ++ (leaveOf xs nv ++ kidSts t V NV kb ko t.len)) (env ++ nmL xs) ∧ WFr K B bs w w' ∧ (∃ g c : Nat, lv' = .slice (some ⟨g, 0, none⟩) ((st ++ (leaveOf xs nv ++ kidSts t V NV kb ko t.len)).length : Nat) c) ∧ w'.heap[X]? = some (.cells cx 70 (0, 0)) := by
  obtain ⟨i0, hi, hz0, hz1, hz2⟩ := info_parts step_info
  obtain ⟨lg, lc, elv⟩ := hlv
  obtain ⟨hp1, hp2, hp3, hp4⟩ := hst
  obtain ⟨hin, hhd, hwt⟩ := hp1 _ rfl
  simp only at hin hhd hwt hp2 hp3 hp4
  obtain ⟨pn, cn, en⟩ := hp2.shape
  obtain ⟨W, hW⟩ : ∃ W, W = (w.alloc (.cells #[.pointer (some ⟨K, 0, none⟩)] 71)).alloc (.cells #[.pointer (some ⟨b, o, none⟩), nv] 70) := ⟨_, rfl⟩
  have bW : Below w.heap.size w W := by rw [hW]; exact (newb w _).trans ((newb _ _).mono (by simp))
  have hT : Two9 W w.heap.size (w.heap.size + 1) K b o nv X cx := by
    refine ⟨?_, ?_, (bW.block X (Array.getElem?_eq_some_iff.1 hX).1).trans hX⟩ <;> rw [hW]
    · rw [Below.heap_alloc _ _ _ (by simp)]; exact heap_alloc_new w _
    · have := heap_alloc_new (w.alloc (.cells #[.pointer (some ⟨K, 0, none⟩)] 71)) (.cells #[.pointer (some ⟨b, o, none⟩), nv] 70)
      rwa [World.size_alloc] at this
  have hXK : X ≠ K := fun e => by have := hcw.blk; rw [← e, hX] at this; injection this with e1; injection e1 with _ e1; exact absurd e1 (by decide)
  have HXl : Hid (lg ≠ X ∧ X < w.heap.size) := ⟨fun e => by rw [elv, e] at hXl; exact hXl rfl, (Array.getElem?_eq_some_iff.1 hX).1⟩
  clear hX hXl
  have HWW := hid_ofW hW
  have HT := hid_ofW hT
  subst en
  refine callsIn_wide (n := 0).1 ?_
  refine callsIn_of_wp_marks Tryd.func35 rfl trivial ?_ rfl
  simp only [Tryd.ntmps35, List.size_toArray, List.length_cons, List.length_nil, Nat.reduceAdd, Nat.reduceSub, Array.replicate_succ, Array.replicate_zero, List.push_toArray, List.append_toArray, List.nil_append, List.cons_append]
  refine wpIn_calm (wpIn_wide.2 ?_)
  have HLG : Hid (lg < w.heap.size) := by
    have h9 := hcw.own
    rw [elv] at h9
    exact (own_room h9).2.2.2
  have HNL : Hid (StOk w0 W ⟨none, xs, .slice pn xs.length cn⟩) := ⟨(fun q hq => by cases hq), hp2.below bW, hp3, hp4⟩
  subst elv
  generalize hsl : st.length = sl at *
  have HSL : Hid (st.length = sl) := hsl
  clear hsl
  have HCW : Hid (CW w0 K B bs n m W (.slice (some ⟨lg, 0, none⟩) sl lc) st env ∧ Below w.heap.size w W ∧ K < w.heap.size) := ⟨hcw.below bW, bW, (Array.getElem?_eq_some_iff.1 hcw.blk).1⟩
  obtain ⟨PB, hPB⟩ : ∃ PB, PB = w.heap.size := ⟨_, rfl⟩
  obtain ⟨SB, hSB⟩ : ∃ SB, SB = w.heap.size + 1 := ⟨_, rfl⟩
  have HPS : Hid (PB = w.heap.size ∧ SB = w.heap.size + 1) := ⟨hPB, hSB⟩
  have HT2 : Hid (Two9 W PB SB K b o (.slice pn xs.length cn) X cx) := by rw [hPB, hSB]; exact HT.out
  have HNV : Hid (NamesV W (.slice pn xs.length cn) xs) := hp2.below bW
  have HX : Hid (∀ x ∈ xs, x.size ≤ maxLen) := fun x hx => by have := hp4 x hx; unfold maxLen; omega
  have m1 : W.cell? ⟨SB, 1, none⟩ = some (.slice pn xs.length cn) := cell_of_row W SB 1 _ _ _ HT2.out.sb
  have HIN : Hid (t.In w0 v ∧ HeadC w0 b o t v ∧ t.weight ≤ 1048576) := ⟨hin, hhd, hwt⟩
  have hPK : PB ≠ K := by have := HCW.out.2.2; omega
  have hSK : SB ≠ K := by have := HCW.out.2.2; omega
  clear hcw hp1 hp2 hp4 hin hhd hwt bW hT HT hPB hSB hW
  go_upto_region 1 with fail
  rw [← HWW.out, ← HPS.out.2, ← HPS.out.1]
  go_wp2_with fail
  clear m1
  go_loopw [11] (fun i wr => ∃ k : Nat, i = .int .i64 k ∧ k ≤ xs.length ∧ CW w0 K B bs (n + k) (m + k) wr (.slice (some ⟨lg, 0, none⟩) sl lc) st (env ++ nmL (xs.take k)) ∧ Two9 wr PB SB K b o (.slice pn xs.length cn) X cx ∧ NamesV wr (.slice pn xs.length cn) xs ∧ WFr K B bs W wr) (fun i _ => xs.length - (intOf i).toNat)
  case atStart => exact ⟨0, rfl, Nat.zero_le _, by simpa [nmL] using HCW.out.1, HT2.out, HNV.out, WFr.refl _ _ _ _⟩
  case round =>
    obtain ⟨k, rfl, hk, hC, hT2, hN2, hfr⟩ := hrel
    have HS : Hid (CW w0 K B bs (n + k) (m + k) wr (.slice (some ⟨lg, 0, none⟩) sl lc) st (env ++ nmL (xs.take k)) ∧ Two9 wr PB SB K b o (.slice pn xs.length cn) X cx ∧ NamesV wr (.slice pn xs.length cn) xs ∧ WFr K B bs W wr) := ⟨hC, hT2, hN2, hfr⟩
    have p0 : wr.cell? ⟨PB, 0, none⟩ = some (.pointer (some ⟨K, 0, none⟩)) := cell_of_row wr PB 0 _ _ _ hT2.pb
    have s0 : wr.cell? ⟨SB, 0, none⟩ = some (.pointer (some ⟨b, o, none⟩)) := cell_of_row wr SB 0 _ _ _ hT2.sb
    have s1 : wr.cell? ⟨SB, 1, none⟩ = some (.slice pn xs.length cn) := cell_of_row wr SB 1 _ _ _ hT2.sb
    have k0 : wr.cell? ⟨K, 0, none⟩ = some (.slice (some ⟨lg, 0, none⟩) sl lc) := cell_of_row wr K 0 _ _ _ hC.blk
    have k1 : wr.cell? ⟨K, 1, none⟩ = some (.map (some B)) := cell_of_row wr K 1 _ _ _ hC.blk
    have k2 : wr.cell? ⟨K, 2, none⟩ = some (.int .i64 ((m + k : Nat) : Int)) := cell_of_row wr K 2 _ _ _ hC.blk
    have kf : ∀ j, wr.frozen? ⟨K, j, none⟩ = false := fun j => frozen_of_row wr K j _ _ hC.blk
    by_cases hlt : (k : Int) < xs.length
    · have hlt' : k < xs.length := by omega
      obtain ⟨x, hx⟩ : ∃ x, xs[k]? = some x := ⟨_, List.getElem?_eq_getElem hlt'⟩
      obtain ⟨g, hg, hgc⟩ : ∃ g, pn = some ⟨g, 0, none⟩ ∧ wr.cell? ⟨g, k, none⟩ = some (.string x) := by
        rcases hN2 with ⟨h1, h2⟩ | ⟨g, h1, h2⟩
        · rw [h2] at hlt'; simp at hlt'
        · injection h1 with h1 _ _
          refine ⟨g, h1, ?_⟩
          rw [show wr.cell? ⟨g, k, none⟩ = (xs.map Value.string).toArray[k]? from by simp [World.cell?, h2]]
          simp [hx]
      subst hg
      have HXK : Hid (xs[k]? = some x) := hx
      generalize hmk : m + k = mk at *
      have HMK : Hid (m + k = mk) := hmk
      have HBI : Hid (Calls Tryd.prog 38 #[.map (some B), .string x, .int .i64 mk] wr.drew fun e w' => e = .returned (.tuple #[]) ∧ Bnd w' B (B + 1) (n + k + 1) ((env ++ nmL (xs.take k)) ++ [x.data.toList]) ∧ MFr B (B + 1) wr w') := by
        have hlt2 := hC.bnd.lt
        have h := bound_bind B (B + 1) (n + k) (env ++ nmL (xs.take k)) x mk wr.drew (hC.bnd.below (Below.refl _ _).drew) (show B + 1 ≤ wr.heap.size from hlt2.1) (by omega) (HX.out x (List.mem_of_getElem? hx)) (by omega)
        exact h.mono (fun _ _ ⟨h1, h2, h3⟩ => ⟨h1, h2, ⟨h3.os, h3.tape, h3.output, h3.size, h3.block⟩⟩)
      clear hC hT2 hN2 hfr hx hmk
      go_wp2_with fail
      go_region_with ((go_at_call 38; refine HBI.out.mono ?_; rintro e w1 ⟨rfl, hb1, hm1⟩))
      all_goals
        have HS1 : Hid (CW w0 K B bs (n + k + 1) mk w1 (.slice (some ⟨lg, 0, none⟩) sl lc) st ((env ++ nmL (xs.take k)) ++ [x.data.toList]) ∧ Two9 w1 PB SB K b o (.slice (some ⟨g, 0, none⟩) xs.length cn) X cx ∧ NamesV w1 (.slice (some ⟨g, 0, none⟩) xs.length cn) xs ∧ WFr K B bs W w1) := by
          obtain ⟨c1, c2, c3, c4⟩ := HS.out
          obtain ⟨D, ⟨es, ck, hB1, _⟩, _⟩ := c1.bnd
          exact ⟨c1.bind hm1 hb1, c2.mfr hB1 hm1, c3.fr (WFr.of_map (K := K) (bs := bs) hm1) (fun _ => c1.noStr.1) c1.noStr.2, c4.trans (WFr.of_map hm1)⟩
        have q0 : w1.cell? ⟨PB, 0, none⟩ = some (.pointer (some ⟨K, 0, none⟩)) := cell_of_row w1 PB 0 _ _ _ HS1.out.2.1.pb
        have q2 : w1.cell? ⟨K, 2, none⟩ = some (.int .i64 mk) := cell_of_row w1 K 2 _ _ _ HS1.out.1.blk
        have qf : ∀ j, w1.frozen? ⟨K, j, none⟩ = false := fun j => frozen_of_row w1 K j _ _ HS1.out.1.blk
        have HNX : Hid (CW w0 K B bs (n + (k + 1)) (m + (k + 1)) (w1.setCell ⟨K, 2, none⟩ (.int .i64 ((mk + 1 : Nat) : Int))) (.slice (some ⟨lg, 0, none⟩) sl lc) st (env ++ nmL (xs.take (k + 1))) ∧ Two9 (w1.setCell ⟨K, 2, none⟩ (.int .i64 ((mk + 1 : Nat) : Int))) PB SB K b o (.slice (some ⟨g, 0, none⟩) xs.length cn) X cx ∧ NamesV (w1.setCell ⟨K, 2, none⟩ (.int .i64 ((mk + 1 : Nat) : Int))) (.slice (some ⟨g, 0, none⟩) xs.length cn) xs ∧ WFr K B bs W (w1.setCell ⟨K, 2, none⟩ (.int .i64 ((mk + 1 : Nat) : Int)))) := by
          obtain ⟨c1, c2, c3, c4⟩ := HS1.out
          have e1 : m + (k + 1) = mk + 1 := by have := HMK.out; omega
          rw [e1, nmL_take xs k x HXK.out, ← List.append_assoc]
          exact ⟨c1.count (mk + 1), c2.walk hPK hSK hXK, c3.fr (WFr.of_walk (K := K) (B := B) (bs := bs)) (fun _ => c1.noStr.1) c1.noStr.2, c4.trans WFr.of_walk⟩
        have hmb : mk ≤ 1073741824 := by have := HMK.out; omega
        clear hb1 hm1 p0 s0 s1 k0 k1 k2 kf HS HS1
        go_wp2_with fail
        go_roundw
        case rel =>
          have h := HNX.out
          rw [show ((mk + 1 : Nat) : Int) = (mk : Int) + 1 from by omega] at h
          first | exact ⟨k + 1, by go_num, by omega, h⟩ | ((repeat apply Exists.intro); exact ⟨⟨k + 1, by go_num, by omega, h⟩, rfl⟩)
        case measure => simp [intOf]; omega
    · have hke : k = xs.length := by omega
      have HS2 : Hid (CW w0 K B bs (n + xs.length) (m + xs.length) wr (.slice (some ⟨lg, 0, none⟩) sl lc) st (env ++ nmL xs) ∧ Two9 wr PB SB K b o (.slice pn xs.length cn) X cx ∧ NamesV wr (.slice pn xs.length cn) xs ∧ WFr K B bs W wr) := by
        have h := HS.out
        rw [hke, List.take_length] at h
        exact h
      have HNL2 : Hid (StOk w0 wr ⟨none, xs, .slice pn xs.length cn⟩) := ⟨(fun q hq => by cases hq), HS2.out.2.2.1, HNL.out.2.2⟩
      clear HS hC hT2 hN2 hfr k2 k1 kf
      generalize hxl : xs.length = xl at *
      have HXL : Hid (xs.length = xl) := hxl
      clear hxl HNL HNV HT2 HCW
      subst k
      go_upto_if 36 with fail
      obtain ⟨wl, rfl⟩ : ∃ x, x = wr := ⟨_, rfl⟩
      go_cut [] from 33 (fun wx => ∃ lg' lc', CW w0 K B bs (n + xl) (m + xl) wx (.slice (some ⟨lg', 0, none⟩) ((st ++ leaveOf xs (.slice pn xl cn)).length : Nat) lc') (st ++ leaveOf xs (.slice pn xl cn)) (env ++ nmL xs) ∧ Two9 wx PB SB K b o (.slice pn xl cn) X cx ∧ WFr K B bs W wx ∧ lg' ≠ SB ∧ lg' ≠ X)
      case first =>
        by_cases hx0 : (0 : Int) < xl
        · have HE : Hid (leaveOf xs (.slice pn xl cn) = [⟨none, xs, .slice pn xl cn⟩]) := by show _ = _; unfold leaveOf; rw [if_neg]; intro e; have := HXL.out; rw [e] at this; simp at this; omega
          go_wp2_with fail
          have HOW : Hid (wl.ownsRow bs 70 2 (.slice (some ⟨lg, 0, none⟩) sl lc) sl (strows st)) := by have h9 := HS2.out.1.own; rw [HSL.out] at h9; exact h9
          have hr := own_room HOW.out
          unfold maxLen at hr
          have HBS : Hid (bs ≤ wl.heap.size) := by have := hr.2.2.1; have := hr.2.2.2; show _ ≤ _; omega
          have HPL : Hid (PB ≠ lg) := by show _ ≠ _; have := HLG.out; have := HPS.out; omega
          have HSW : Hid (w.heap.size ≤ SB ∧ SB < wl.heap.size) := ⟨by have := HPS.out; omega, (Array.getElem?_eq_some_iff.1 HS2.out.2.1.sb).1⟩
          have HXW : Hid (X < wl.heap.size) := (Array.getElem?_eq_some_iff.1 HS2.out.2.1.xb).1
          have k0a := fun o => keeps (newb wl o) _ _ k0
          have p0a := fun o => keeps (newb wl o) _ _ p0
          have s1a := fun o => keeps (newb wl o) _ _ s1
          go_region_law
            ((refine step_append_lies _ (by rfl) _ _ _ (by rfl) bs 70 i0 _ 2 32 Tryd.underlying54 hi hz0 hz1 hz2 rfl (by omega) (.slice (some ⟨lg, 0, none⟩) sl lc) sl (strows st) (by rfl) ((HOW.out.alloc _).drew) ⟨wl.heap.size, 0, none⟩ 1 1 [.pointer none, .slice pn xl cn] (by rfl) (by rfl) (World.news_of_block (cs := #[.pointer none, .slice pn xl cn]) (t := 70) (fr := (0, 0)) (heap_alloc_new wl _)) (by simp [Value.oneCell']) (by omega) (by unfold maxLen; omega) (by omega) (by have := HBS.out; simp; omega) (wl.heap.size + 1) (by simp) ?_; intro gg cap3 w3 hown3 hgrow hat hlt3; have hP := HS2.out.1.push_at HSL.out ⟨none, xs, .slice pn xl cn⟩ HNL2.out (newb wl _).drew hown3 rfl hgrow; have hpk := hP.2.2.2.1; have hpf := hP.2.2.2.2; have hpp := cell_of_row w3 PB 0 _ _ _ (keep_pb HS2.out.2.1.pb hgrow HPL.out); have HP : Hid _ := hP; have HGS : Hid (gg ≠ SB ∧ gg ≠ X) := ⟨gg_ne hat HLG.out HSW.out, gg_ne2 hat HXl.out.1 HXW.out⟩; clear hP hown3 hgrow hat hlt3))
          all_goals
            go_wp2_with fail
            go_meet
            rw [HE.out]
            obtain ⟨a1, a2, a3, -, -⟩ := HP.out
            refine ⟨gg, cap3, ?_, ⟨(a3 PB (Array.getElem?_eq_some_iff.1 HS2.out.2.1.pb).1 hPK ?_).trans HS2.out.2.1.pb, (a3 SB (Array.getElem?_eq_some_iff.1 HS2.out.2.1.sb).1 hSK ?_).trans HS2.out.2.1.sb, (a3 X HXW.out hXK HXl.out.1.symm).trans HS2.out.2.1.xb⟩, HS2.out.2.2.2.trans a2, HGS.out⟩
            · rw [List.length_append, HSL.out]; exact a1
            · have := HLG.out; have := HPS.out; omega
            · have := HLG.out; have := HPS.out; omega
        · have HE : Hid (leaveOf xs (.slice pn xl cn) = []) := by show _ = _; unfold leaveOf; rw [if_pos]; exact List.eq_nil_of_length_eq_zero (by have := HXL.out; omega)
          go_wp2_with fail
          go_meet
          rw [HE.out, List.append_nil]
          exact ⟨lg, lc, by rw [HSL.out]; exact HS2.out.1, HS2.out.2.1, HS2.out.2.2.2, by have := HLG.out; have := HPS.out; omega, HXl.out.1⟩
      case rest =>
        obtain ⟨lg2, lc2, hC2, hT2, hf2, hls⟩ := hcut
        have HLS : Hid (lg2 ≠ SB ∧ lg2 ≠ X) := hls
        obtain ⟨L, hL⟩ : ∃ L, L = st ++ leaveOf xs (.slice pn xl cn) := ⟨_, rfl⟩
        rw [← hL] at hC2
        have HL := hid_ofW hL
        obtain ⟨sl2, hsl2⟩ : ∃ x, x = L.length := ⟨_, rfl⟩
        rw [← hsl2] at hC2
        have HSL2 := hid_ofW hsl2
        obtain ⟨p, cap, kb, ko, V, ev, hlen, hbo, hat⟩ : ∃ (p : Option Addr) (cap b o : Nat) (V : Nat → Value), v = .slice p t.len cap ∧ t.len ≤ maxLen ∧ (0 < t.len → p = some ⟨b, o, none⟩) ∧ ∀ i, i < t.len → HeadC w0 b (o + i * 5) (t.kid i) (V i) ∧ (t.kid i).In w0 (V i) := by
          rcases HIN.out.1.sl with ⟨h0, p, cap, h1⟩ | ⟨b, o, cap, V, h1, _, h2, h3, h4⟩
          · exact ⟨p, cap, 0, 0, fun _ => .bool false, by rw [h0]; exact h1, by rw [h0]; exact Nat.zero_le _, fun h => by omega, fun i hi => by omega⟩
          · exact ⟨_, cap, b, o, V, h1, Nat.le_trans h2 h3, fun _ => rfl, h4⟩
        subst ev
        have HAT : Hid (∀ i, i < t.len → HeadC w0 kb (ko + i * 5) (t.kid i) (V i) ∧ (t.kid i).In w0 (V i)) := hat
        have HBO : Hid (0 < t.len → p = some ⟨kb, ko, none⟩) := hbo
        have HC2 : Hid (CW w0 K B bs (n + xl) (m + xl) wc (.slice (some ⟨lg2, 0, none⟩) sl2 lc2) L (env ++ nmL xs) ∧ Two9 wc PB SB K b o (.slice pn xl cn) X cx ∧ WFr K B bs W wc) := ⟨hC2, hT2, hf2⟩
        obtain ⟨c0, c1, c2, c3, c4⟩ := HIN.out.2.1.below hC2.bel
        have s0' : wc.cell? ⟨SB, 0, none⟩ = some (.pointer (some ⟨b, o, none⟩)) := cell_of_row wc SB 0 _ _ _ hT2.sb
        clear hC2 hT2 hf2 hL hsl2 hat hbo p0 s0 s1 k0
        go_wp2_with fail
        refine (back_seqC p t.len cap _).mono ?_
        rintro e w2 ⟨rfl, rfl⟩
        go_wp2_with fail
        obtain ⟨A0, hA0⟩ : ∃ x, x = wc.heap.size := ⟨_, rfl⟩
        obtain ⟨W2, hW2⟩ : ∃ W2, W2 = (wc.alloc (.cells #[.slice p t.len cap] 27)).alloc (.cells #[.slice p t.len cap] 27) := ⟨_, rfl⟩
        have b2 : Below wc.heap.size wc W2 := by rw [hW2]; exact (newb wc _).trans ((newb _ _).mono (by simp))
        have n1 : W2.heap[A0]? = some (.cells #[.slice p t.len cap] 27 (0, 0)) := by rw [hW2, hA0, Below.heap_alloc _ _ _ (by simp)]; exact heap_alloc_new wc _
        have n2 : W2.heap[A0 + 1]? = some (.cells #[.slice p t.len cap] 27 (0, 0)) := by rw [hW2, hA0]; have := heap_alloc_new (wc.alloc (.cells #[.slice p t.len cap] 27)) (.cells #[.slice p t.len cap] 27); rwa [World.size_alloc] at this
        have hs2 : W2.heap.size = A0 + 2 := by rw [hW2, hA0]; simp
        rw [← hW2, ← hA0]
        have HA0 : Hid (A0 = wc.heap.size ∧ Below wc.heap.size wc W2 ∧ W2.heap.size = A0 + 2) := ⟨hA0, b2, hs2⟩
        have HN : Hid (W2.heap[A0]? = some (.cells #[.slice p t.len cap] 27 (0, 0)) ∧ W2.heap[A0 + 1]? = some (.cells #[.slice p t.len cap] 27 (0, 0))) := ⟨n1, n2⟩
        clear hA0 hW2 b2 n1 n2 hs2 c0 c1 c2 c3 c4 s0'
        refine wpIn_wide (n := 0).1 ?_
        refine wpIn_rf (gf := 41) (lb := #[.pointer (some ⟨A0 + 1, 0, none⟩)]) rfl (enters_of Tryd.func41 (by kernel_rfl) rfl) ?_
        intro fn rec hrec
        obtain ⟨M, hM⟩ : ∃ x, x = W2.heap.size := ⟨_, rfl⟩
        rw [← hM] at hrec ⊢
        obtain ⟨W3, hW3⟩ : ∃ W3, (W2.alloc (.deferred (some []))).alloc (.loop (rec .ready none)) = W3 := ⟨_, rfl⟩
        have b3 : Below W2.heap.size W2 W3 := by rw [← hW3]; exact (newb _ _).trans ((newb _ _).mono (by simp))
        have d3 : W3.heap[M]? = some (.deferred (some [])) := by rw [← hW3, hM, Below.heap_alloc _ _ _ (by simp)]; exact heap_alloc_new _ _
        have l3 : W3.heap[M + 1]? = some (.loop (rec .ready none)) := by rw [← hW3, hM]; have := heap_alloc_new (W2.alloc (.deferred (some []))) (.loop (rec .ready none)); rwa [World.size_alloc] at this
        have s3 : W3.heap.size = M + 2 := by rw [← hW3, hM]; simp
        rw [hW3]
        have hMA : M = A0 + 2 := by rw [hM]; exact HA0.out.2.2
        have b23 : Below wc.heap.size wc W3 := HA0.out.2.1.trans (b3.mono HA0.out.2.1.size)
        have HMA : Hid (M = A0 + 2 ∧ wc.heap.size ≤ M + 1 ∧ w0.heap.size ≤ wc.heap.size) := ⟨hMA, by have := HA0.out.1; omega, HC2.out.1.bel.size⟩
        clear hMA
        have HLN : Hid (sl2 ≤ sl + 1) := by
          have h9 := HSL2.out
          rw [HL.out, List.length_append, HSL.out] at h9
          have h8 : (leaveOf xs (Value.slice pn xl cn)).length ≤ 1 := by unfold leaveOf; split <;> simp
          show _ ≤ _
          omega
        obtain ⟨J, hJd⟩ : ∃ J : Nat → World → Prop, J = fun k W => ∃ (lgk lck : Nat) (NV : Nat → Value), JC w0 wc K B bs (n + xl) (m + xl) PB SB b o A0 M X cx (.slice pn xl cn) (.slice p t.len cap) (.slice (some ⟨lgk, 0, none⟩) ((sl2 + k : Nat)) lck) (L ++ kidSts t V NV kb ko k) (env ++ nmL xs) (rec .ready none) W ∧ lgk ≠ SB ∧ lgk ≠ X := ⟨_, rfl⟩
        have HJD : Hid (J = fun k W => ∃ (lgk lck : Nat) (NV : Nat → Value), JC w0 wc K B bs (n + xl) (m + xl) PB SB b o A0 M X cx (.slice pn xl cn) (.slice p t.len cap) (.slice (some ⟨lgk, 0, none⟩) ((sl2 + k : Nat)) lck) (L ++ kidSts t V NV kb ko k) (env ++ nmL xs) (rec .ready none) W ∧ lgk ≠ SB ∧ lgk ≠ X) := hJd
        clear hJd
        refine (back_iterC (M + 1) (A0 + 1) cap t.len p t.kid V J hlen ?hJ ?hY W3 ?h0).mono ?_
        case hJ =>
          intro k W hk
          rw [HJD.out] at hk
          obtain ⟨lgk, lck, NV, a1, a3⟩ := hk
          exact ⟨cell_of_row W _ 0 _ _ _ a1.a1, fun i hi => ⟨kb, ko, HBO.out (by omega), ((HAT.out i hi).1).below a1.cw.bel⟩⟩
        case h0 =>
          rw [HJD.out]
          obtain ⟨a1, a2, a3⟩ := HC2.out
          refine ⟨lg2, lc2, fun _ => .bool false, ⟨?_, ⟨(b23.block _ (Array.getElem?_eq_some_iff.1 a2.pb).1).trans a2.pb, (b23.block _ (Array.getElem?_eq_some_iff.1 a2.sb).1).trans a2.sb, (b23.block _ (Array.getElem?_eq_some_iff.1 a2.xb).1).trans a2.xb⟩, (b3.block _ (Array.getElem?_eq_some_iff.1 HN.out.1).1).trans HN.out.1, (b3.block _ (Array.getElem?_eq_some_iff.1 HN.out.2).1).trans HN.out.2, d3, l3, WFr.of_below b23⟩, HLS.out⟩
          rw [show L ++ kidSts t V (fun _ => Value.bool false) kb ko 0 = L from List.append_nil _]
          exact a1.below b23
        case hY =>
          intro k i W hk hki
          obtain ⟨pw, cw, eV⟩ : ∃ pw cw, V i = .slice pw (t.kid i).len cw := by
            rcases (HAT.out i (by omega)).2.sl with ⟨h0, p, cap, h1⟩ | ⟨b, o, cap, V, h1, _⟩
            · exact ⟨p, cap, by rw [h0]; exact h1⟩
            · exact ⟨_, cap, h1⟩
          rw [HJD.out] at hk
          obtain ⟨lgk, lck, NV, hJC, hls2⟩ := hk
          obtain rfl := HBO.out (by omega)
          obtain ⟨sk, hsk⟩ : ∃ x, x = sl2 + k := ⟨_, rfl⟩
          rw [← hsk] at hJC
          obtain ⟨ST, hST⟩ : ∃ x, x = L ++ kidSts t V NV kb ko k := ⟨_, rfl⟩
          rw [← hST] at hJC
          have HSK : Hid (sk = sl2 + k ∧ ST = L ++ kidSts t V NV kb ko k ∧ ST.length = sk ∧ sk + 1 ≤ 4194304 ∧ k + i + 1 = t.len ∧ lgk ≠ SB ∧ lgk ≠ X) := ⟨hsk, hST, by rw [hST, List.length_append, kidSts_len, hsk, HSL2.out], by have := HLN.out; omega, hki, hls2⟩
          have HWT : Hid ((t.kid i).weight ≤ 1048576 ∧ i ≤ 1048576) := by
            have h1 := C.weight_eq t
            have h2 := HIN.out.2.2
            unfold kidsWeightC at h1
            have h3 := sumTo_at (fun i => (t.kid i).weight) i t.len (by omega)
            exact ⟨by omega, by omega⟩
          have hil : (i : Int) < t.len := by omega
          refine yieldAt_of hrec hJC.l rfl ?_
          have HW : Hid (JC w0 wc K B bs (n + xl) (m + xl) PB SB b o A0 M X cx (.slice pn xl cn) (.slice (some ⟨kb, ko, none⟩) t.len cap) (.slice (some ⟨lgk, 0, none⟩) sk lck) ST (env ++ nmL xs) (rec .ready none) W) := hJC
          clear hrec hM hW3 b3 d3 l3 s3 hsk hST hls2 hJC hki
          unfold aggC
          rw [eV]
          gi_wp2
          refine ⟨HW.out.l, ?_⟩
          obtain ⟨Wb, hWb⟩ : ∃ Wb, W.putObj (M + 1) (.loop (rec .busy none)) = Wb := ⟨_, rfl⟩
          rw [hWb]
          have HB : Hid (JC w0 wc K B bs (n + xl) (m + xl) PB SB b o A0 M X cx (.slice pn xl cn) (.slice (some ⟨kb, ko, none⟩) t.len cap) (.slice (some ⟨lgk, 0, none⟩) sk lck) ST (env ++ nmL xs) (rec .busy none) Wb.drew) := by
            rw [← hWb]
            exact (HW.out.loop HMA.out.2.1 HMA.out.2.2 _).below (Below.refl _ _).drew
          clear hWb HW
          have HS0 : S12 K PB SB A0 b o t (.slice (some ⟨kb, ko, none⟩) t.len cap) Wb.drew := HB.out.s12 HIN.out.2.1
          have HK0 : Hid (∀ w1, Below Wb.drew.heap.size Wb.drew w1 → w1.cell? ⟨K, 0, none⟩ = some (.slice (some ⟨lgk, 0, none⟩) sk lck)) := fun w1 hb => cell_of_row w1 K 0 _ _ _ (HB.out.below hb).cw.blk
          gi_wp2
          refine wpIn_round_held (S := S12 K PB SB A0 b o t (.slice (some ⟨kb, ko, none⟩) t.len cap)) (sz := 20) (by kernel_rfl) (by kernel_rfl) rfl (fun _ _ h => ?_) (fun _ => ?_) HS0
          · exact (h : False)
          refine wpAnyH_take (i := 0) (oi := { dst := some 58, op := Op.load 71 (Operand.tmp 2), type := 71, pos := "l09_core.go:170", after := #[], guard := none }) (v := .pointer (some ⟨K, 0, none⟩)) rfl (by kernel_rfl) (by kernel_rfl) (by kernel_rfl) (fun _ _ _ h => h) (Or.inl ⟨by rfl, ?_⟩) HS0 ?_
          · intro wq hSq
            have q0 := hSq.pb
            clear hSq
            go_simp
          try simp only [Act.put, List.setIfInBounds_toArray, List.set_cons_zero, List.set_cons_succ]
          refine wpAnyH_take (i := 1) (oi := { dst := some 59, op := Op.load 71 (Operand.tmp 2), type := 71, pos := "l09_core.go:170", after := #[], guard := none }) (v := .pointer (some ⟨K, 0, none⟩)) rfl (by kernel_rfl) (by kernel_rfl) (by kernel_rfl) (fun _ _ _ h => h) (Or.inl ⟨by rfl, ?_⟩) HS0 ?_
          · intro wq hSq
            have q0 := hSq.pb
            clear hSq
            go_simp
          try simp only [Act.put, List.setIfInBounds_toArray, List.set_cons_zero, List.set_cons_succ]
          refine wpAnyH_take (i := 2) (oi := { dst := some 60, op := Op.nilCheck (Operand.tmp 59), type := 0, pos := "l09_core.go:170", after := #[{ on := 1, ground := Ground.data }], guard := none }) (v := .pointer (some ⟨K, 0, none⟩)) rfl (by kernel_rfl) (by kernel_rfl) (by kernel_rfl) (fun _ _ _ h => h) (Or.inl ⟨by rfl, ?_⟩) HS0 ?_
          · intro wq hSq
            clear hSq
            go_simp
          try simp only [Act.put, List.setIfInBounds_toArray, List.set_cons_zero, List.set_cons_succ]
          refine wpAnyH_take (i := 3) (oi := { dst := some 61, op := Op.fieldAddr 58 (Operand.tmp 60) 0, type := 0, pos := "l09_core.go:170", after := #[{ on := 2, ground := Ground.data }], guard := none }) (v := .pointer (some ⟨K, 0, none⟩)) rfl (by kernel_rfl) (by kernel_rfl) (by kernel_rfl) (fun _ _ _ h => h) (Or.inl ⟨by rfl, ?_⟩) HS0 ?_
          · intro wq hSq
            clear hSq
            go_simp
          try simp only [Act.put, List.setIfInBounds_toArray, List.set_cons_zero, List.set_cons_succ]
          refine wpAnyH_take (i := 5) (oi := { dst := some 63, op := Op.load 27 (Operand.tmp 6), type := 27, pos := "l09_core.go:170", after := #[], guard := none }) (v := .slice (some ⟨kb, ko, none⟩) t.len cap) rfl (by kernel_rfl) (by kernel_rfl) (by kernel_rfl) (fun _ _ _ h => h) (Or.inl ⟨by rfl, ?_⟩) HS0 ?_
          · intro wq hSq
            have q0 := hSq.kb
            clear hSq
            go_simp
          try simp only [Act.put, List.setIfInBounds_toArray, List.set_cons_zero, List.set_cons_succ]
          refine wpAnyH_take (i := 6) (oi := { dst := some 64, op := Op.move (Operand.tmp 7), type := 3, pos := "l09_core.go:170", after := #[], guard := none }) (v := .int .i64 i) rfl (by kernel_rfl) (by kernel_rfl) (by kernel_rfl) (fun _ _ _ h => h) (Or.inl ⟨by rfl, ?_⟩) HS0 ?_
          · intro wq hSq
            clear hSq
            go_simp
          try simp only [Act.put, List.setIfInBounds_toArray, List.set_cons_zero, List.set_cons_succ]
          refine wpAnyH_take (i := 7) (oi := { dst := some 65, op := Op.indexAddr 27 (Operand.tmp 63) (Operand.tmp 64), type := 0, pos := "l09_core.go:170", after := #[{ on := 5, ground := Ground.data }, { on := 6, ground := Ground.data }], guard := none }) (v := .pointer (some ⟨kb, ko + i * 5, none⟩)) rfl (by kernel_rfl) (by kernel_rfl) (by kernel_rfl) (fun _ _ _ h => h) (Or.inl ⟨by rfl, ?_⟩) HS0 ?_
          · intro wq hSq
            clear hSq
            go_simp
          try simp only [Act.put, List.setIfInBounds_toArray, List.set_cons_zero, List.set_cons_succ]
          refine wpAnyH_take (i := 8) (oi := { dst := some 66, op := Op.fieldAddr 70 (Operand.tmp 3) 0, type := 0, pos := "l09_core.go:170", after := #[], guard := none }) (v := .pointer (some ⟨SB, 0, none⟩)) rfl (by kernel_rfl) (by kernel_rfl) (by kernel_rfl) (fun _ _ _ h => h) (Or.inl ⟨by rfl, ?_⟩) HS0 ?_
          · intro wq hSq
            clear hSq
            go_simp
          try simp only [Act.put, List.setIfInBounds_toArray, List.set_cons_zero, List.set_cons_succ]
          refine wpAnyH_take (i := 9) (oi := { dst := some 67, op := Op.load 68 (Operand.tmp 66), type := 68, pos := "l09_core.go:170", after := #[{ on := 8, ground := Ground.data }], guard := none }) (v := .pointer (some ⟨b, o, none⟩)) rfl (by kernel_rfl) (by kernel_rfl) (by kernel_rfl) (fun _ _ _ h => h) (Or.inl ⟨by rfl, ?_⟩) HS0 ?_
          · intro wq hSq
            have q0 := hSq.sb
            clear hSq
            go_simp
          try simp only [Act.put, List.setIfInBounds_toArray, List.set_cons_zero, List.set_cons_succ]
          refine wpAnyH_take (i := 10) (oi := { dst := some 68, op := Op.nilCheck (Operand.tmp 67), type := 0, pos := "l09_core.go:170", after := #[{ on := 9, ground := Ground.data }], guard := none }) (v := .pointer (some ⟨b, o, none⟩)) rfl (by kernel_rfl) (by kernel_rfl) (by kernel_rfl) (fun _ _ _ h => h) (Or.inl ⟨by rfl, ?_⟩) HS0 ?_
          · intro wq hSq
            clear hSq
            go_simp
          try simp only [Act.put, List.setIfInBounds_toArray, List.set_cons_zero, List.set_cons_succ]
          refine wpAnyH_take (i := 11) (oi := { dst := some 69, op := Op.load 29 (Operand.tmp 68), type := 29, pos := "l09_core.go:170", after := #[{ on := 10, ground := Ground.data }], guard := none }) (v := .agg #[.int .i64 t.op, .int .i64 t.n, .string t.s, .string t.t2, .slice (some ⟨kb, ko, none⟩) t.len cap]) rfl (by kernel_rfl) (by kernel_rfl) (by kernel_rfl) (fun _ _ _ h => h) (Or.inl ⟨by rfl, ?_⟩) HS0 ?_
          · intro wq hSq
            obtain ⟨q0, q1, q2, q3, q4⟩ := hSq.hd
            clear hSq
            go_simp
          try simp only [Act.put, List.setIfInBounds_toArray, List.set_cons_zero, List.set_cons_succ]
          refine wpAnyH_take (i := 12) (oi := { dst := some 70, op := Op.move (Operand.tmp 7), type := 3, pos := "l09_core.go:170", after := #[], guard := none }) (v := .int .i64 i) rfl (by kernel_rfl) (by kernel_rfl) (by kernel_rfl) (fun _ _ _ h => h) (Or.inl ⟨by rfl, ?_⟩) HS0 ?_
          · intro wq hSq
            clear hSq
            go_simp
          try simp only [Act.put, List.setIfInBounds_toArray, List.set_cons_zero, List.set_cons_succ]
          refine wpAnyH_ready (rs := [4, 13]) (by kernel_rfl) (by simp) (AllReadyH.cons (o := { dst := some 62, op := Op.load 54 (Operand.tmp 61), type := 54, pos := "l09_core.go:170", after := #[{ on := 3, ground := Ground.data }], guard := none }) rfl (fun KK hK => ?ga4) (AllReadyH.cons (o := { dst := some 71, op := Op.call { callee := Callee.value (Operand.func 40), args := #[Operand.tmp 69, Operand.tmp 70], argTypes := #[29, 3] }, type := 36, pos := "l09_core.go:170", after := #[{ on := 11, ground := Ground.data }, { on := 12, ground := Ground.data }], guard := none }) rfl (fun KK hK => ?ga13) AllReadyH.nil))
          case' ga4 =>
            have k0 := HK0.out _ (Below.refl _ _)
            go_simp
            clear k0
            refine hK.out _ _ HS0 (fun _ => ?_)
            clear hK KK
            try simp only [Act.put, List.setIfInBounds_toArray, List.set_cons_zero, List.set_cons_succ]
            refine wpAnyH_ready (rs := [13]) (by kernel_rfl) (by simp) ?_
            refine AllReadyH.cons (o := { dst := some 71, op := Op.call { callee := Callee.value (Operand.func 40), args := #[Operand.tmp 69, Operand.tmp 70], argTypes := #[29, 3] }, type := 36, pos := "l09_core.go:170", after := #[{ on := 11, ground := Ground.data }, { on := 12, ground := Ground.data }], guard := none }) rfl (fun KK hK => ?_) AllReadyH.nil
            refine step_call2 rfl 40 (.tmp 69) (.tmp 70) 29 3 rfl boundIn_enter (.agg #[.int .i64 t.op, .int .i64 t.n, .string t.s, .string t.t2, .slice (some ⟨kb, ko, none⟩) t.len cap]) (.int .i64 i) rfl rfl _ (bound_in t _ cap i Wb.drew HWT.out.2) ?_
            rintro e w1 ⟨nv, rfl, hnv, hb1⟩
            refine ⟨nv, rfl, ?_⟩
            obtain ⟨pz, cz, ez⟩ := hnv.shape
            obtain ⟨nz, hnz⟩ : ∃ nz : Nat, nz = (bndIB t.op i t.s t.t2).length := ⟨_, rfl⟩
            rw [← hnz] at ez
            subst ez
            clear hnz
            have HN1 : Hid (NamesV w1 (.slice pz nz cz) (bndIB t.op i t.s t.t2) ∧ Below Wb.drew.heap.size Wb.drew w1) := ⟨hnv, hb1⟩
            have HS1 := HS0.below hb1
            clear hnv hb1
            refine hK.out _ _ HS1 (fun _ => ?_)
            clear hK KK
            try simp only [Act.put, List.setIfInBounds_toArray, List.set_cons_zero, List.set_cons_succ]
            refine wpAnyH_take (i := 14) (oi := { dst := some 72, op := Op.build 70 #[(0, Operand.tmp 65), (1, Operand.tmp 71)], type := 70, pos := "l09_core.go:170", after := #[{ on := 7, ground := Ground.data }, { on := 13, ground := Ground.data }], guard := none }) (v := .agg #[.pointer (some ⟨kb, ko + i * 5, none⟩), .slice pz nz cz]) rfl (by kernel_rfl) (by kernel_rfl) (by kernel_rfl) (fun _ _ _ h => h) (Or.inl ⟨by rfl, ?_⟩) HS1 ?_
            · intro wq hSq
              clear hSq
              go_simp
            try simp only [Act.put, List.setIfInBounds_toArray, List.set_cons_zero, List.set_cons_succ]
            refine wpAnyH_ready (rs := [15]) (by kernel_rfl) (by simp) ?_
            refine AllReadyH.cons (o := { dst := some 73, op := Op.buildSlice 54 1 #[(0, Operand.tmp 72)], type := 54, pos := "l09_core.go:170", after := #[{ on := 14, ground := Ground.data }], guard := none }) rfl (fun KK hK => ?_) AllReadyH.nil
            go_simp
            refine hK.out _ _ (HS1.below (newb _ _)) (fun _ => ?_)
            clear hK KK
            try simp only [Act.put, List.setIfInBounds_toArray, List.set_cons_zero, List.set_cons_succ]
          case' ga13 =>
            refine step_call2 rfl 40 (.tmp 69) (.tmp 70) 29 3 rfl boundIn_enter (.agg #[.int .i64 t.op, .int .i64 t.n, .string t.s, .string t.t2, .slice (some ⟨kb, ko, none⟩) t.len cap]) (.int .i64 i) rfl rfl _ (bound_in t _ cap i Wb.drew HWT.out.2) ?_
            rintro e w1 ⟨nv, rfl, hnv, hb1⟩
            refine ⟨nv, rfl, ?_⟩
            obtain ⟨pz, cz, ez⟩ := hnv.shape
            obtain ⟨nz, hnz⟩ : ∃ nz : Nat, nz = (bndIB t.op i t.s t.t2).length := ⟨_, rfl⟩
            rw [← hnz] at ez
            subst ez
            clear hnz
            have HN1 : Hid (NamesV w1 (.slice pz nz cz) (bndIB t.op i t.s t.t2) ∧ Below Wb.drew.heap.size Wb.drew w1) := ⟨hnv, hb1⟩
            have HS1 := HS0.below hb1
            clear hnv hb1
            refine hK.out _ _ HS1 (fun _ => ?_)
            clear hK KK
            try simp only [Act.put, List.setIfInBounds_toArray, List.set_cons_zero, List.set_cons_succ]
            refine wpAnyH_take (i := 14) (oi := { dst := some 72, op := Op.build 70 #[(0, Operand.tmp 65), (1, Operand.tmp 71)], type := 70, pos := "l09_core.go:170", after := #[{ on := 7, ground := Ground.data }, { on := 13, ground := Ground.data }], guard := none }) (v := .agg #[.pointer (some ⟨kb, ko + i * 5, none⟩), .slice pz nz cz]) rfl (by kernel_rfl) (by kernel_rfl) (by kernel_rfl) (fun _ _ _ h => h) (Or.inl ⟨by rfl, ?_⟩) HS1 ?_
            · intro wq hSq
              clear hSq
              go_simp
            try simp only [Act.put, List.setIfInBounds_toArray, List.set_cons_zero, List.set_cons_succ]
            refine wpAnyH_ready (rs := [4, 15]) (by kernel_rfl) (by simp) (AllReadyH.cons (o := { dst := some 62, op := Op.load 54 (Operand.tmp 61), type := 54, pos := "l09_core.go:170", after := #[{ on := 3, ground := Ground.data }], guard := none }) rfl (fun KK hK => ?gb4) (AllReadyH.cons (o := { dst := some 73, op := Op.buildSlice 54 1 #[(0, Operand.tmp 72)], type := 54, pos := "l09_core.go:170", after := #[{ on := 14, ground := Ground.data }], guard := none }) rfl (fun KK hK => ?gb15) AllReadyH.nil))
            case' gb4 =>
              have k0 := HK0.out _ (HN1.out.2)
              go_simp
              clear k0
              refine hK.out _ _ HS1 (fun _ => ?_)
              clear hK KK
              try simp only [Act.put, List.setIfInBounds_toArray, List.set_cons_zero, List.set_cons_succ]
              refine wpAnyH_ready (rs := [15]) (by kernel_rfl) (by simp) ?_
              refine AllReadyH.cons (o := { dst := some 73, op := Op.buildSlice 54 1 #[(0, Operand.tmp 72)], type := 54, pos := "l09_core.go:170", after := #[{ on := 14, ground := Ground.data }], guard := none }) rfl (fun KK hK => ?_) AllReadyH.nil
              go_simp
              refine hK.out _ _ (HS1.below (newb _ _)) (fun _ => ?_)
              clear hK KK
              try simp only [Act.put, List.setIfInBounds_toArray, List.set_cons_zero, List.set_cons_succ]
            case' gb15 =>
              go_simp
              refine hK.out _ _ (HS1.below (newb _ _)) (fun _ => ?_)
              clear hK KK
              try simp only [Act.put, List.setIfInBounds_toArray, List.set_cons_zero, List.set_cons_succ]
              refine wpAnyH_ready (rs := [4]) (by kernel_rfl) (by simp) ?_
              refine AllReadyH.cons (o := { dst := some 62, op := Op.load 54 (Operand.tmp 61), type := 54, pos := "l09_core.go:170", after := #[{ on := 3, ground := Ground.data }], guard := none }) rfl (fun KK hK => ?_) AllReadyH.nil
              have k0 : ∀ o, (w1.alloc o).cell? ⟨K, 0, none⟩ = some (.slice (some ⟨lgk, 0, none⟩) sk lck) := fun o => HK0.out _ (HN1.out.2.trans ((newb _ o).mono HN1.out.2.size))
              go_simp
              clear k0
              refine hK.out _ _ (HS1.below (newb _ _)) (fun _ => ?_)
              clear hK KK
              try simp only [Act.put, List.setIfInBounds_toArray, List.set_cons_zero, List.set_cons_succ]
          all_goals
            have HJ1 := HB.out.below HN1.out.2
            have HOW : w1.ownsRow bs 70 2 (.slice (some ⟨lgk, 0, none⟩) sk lck) sk (strows ST) := by have h9 := HJ1.cw.own; rw [HSK.out.2.2.1] at h9; exact h9
            have hr := own_room HOW
            have hs5 := HSK.out.2.2.2.1
            refine wpAnyH_ready (rs := [16]) (by kernel_rfl) (by simp) ?_
            refine AllReadyH.cons (o := { dst := some 74, op := Op.call { callee := Callee.builtin Builtin.append, args := #[Operand.tmp 62, Operand.tmp 73], argTypes := #[54, 54] }, type := 54, pos := "l09_core.go:170", after := #[{ on := 4, ground := Ground.data }, { on := 15, ground := Ground.data }, { on := 13, ground := Ground.chain }], guard := none }) rfl (fun KK hK => ?_) AllReadyH.nil
            refine step_append_lies _ (by rfl) (.tmp 62) (.tmp 73) 54 (by rfl) bs 70 i0 _ 2 32 Tryd.underlying54 hi hz0 hz1 hz2 rfl (by omega) (.slice (some ⟨lgk, 0, none⟩) sk lck) sk (strows ST) (by rfl) (HOW.alloc _) ⟨w1.heap.size, 0, none⟩ 1 1 [.pointer (some ⟨kb, ko + i * 5, none⟩), .slice pz nz cz] (by rfl) (by rfl) (World.news_of_block (cs := #[.pointer (some ⟨kb, ko + i * 5, none⟩), .slice pz nz cz]) (t := 70) (fr := (0, 0)) (heap_alloc_new w1 _)) (by simp [Value.oneCell']) (by omega) (by unfold maxLen; omega) (by omega) (by simp; omega) (w1.heap.size + 1) (by simp) ?_
            intro gg cap3 w3 hown3 hgrow hat hlt3
            have hP := HJ1.push HSK.out.2.2.1 ⟨some (t.kid i, V i, kb, ko + i * 5), bndIB t.op i t.s t.t2, .slice pz nz cz⟩ (t := t) ⟨fun q hq => by injection hq with hq; subst hq; exact ⟨(HAT.out i (by omega)).2, (HAT.out i (by omega)).1, HWT.out.1⟩, HN1.out.1, bndIB_small i HIN.out.2.2⟩ (newb w1 _) hown3 rfl hgrow HSK.out.2.2.2.2.2 HIN.out.2.1 hPK hSK hXK
            have HGS : gg ≠ SB ∧ gg ≠ X := ⟨gg_ne2 hat HSK.out.2.2.2.2.2.1 (Array.getElem?_eq_some_iff.1 HJ1.two.sb).1, gg_ne2 hat HSK.out.2.2.2.2.2.2 (Array.getElem?_eq_some_iff.1 HJ1.two.xb).1⟩
            obtain ⟨p1, p2, p3, p4⟩ := hP
            clear hown3 hgrow hat hlt3 HOW hr
            refine hK.out _ _ p2 (fun _ => ?_)
            clear hK KK
            try simp only [Act.put, List.setIfInBounds_toArray, List.set_cons_zero, List.set_cons_succ]
            refine wpAnyH_take (i := 17) (oi := { dst := some 75, op := Op.nilCheck (Operand.tmp 58), type := 0, pos := "l09_core.go:170", after := #[{ on := 0, ground := Ground.data }, { on := 0, ground := Ground.phase }, { on := 1, ground := Ground.phase }, { on := 2, ground := Ground.phase }, { on := 3, ground := Ground.phase }, { on := 4, ground := Ground.phase }, { on := 5, ground := Ground.phase }, { on := 6, ground := Ground.phase }, { on := 7, ground := Ground.phase }, { on := 8, ground := Ground.phase }, { on := 9, ground := Ground.phase }, { on := 10, ground := Ground.phase }, { on := 11, ground := Ground.phase }, { on := 12, ground := Ground.phase }, { on := 13, ground := Ground.phase }, { on := 14, ground := Ground.phase }, { on := 15, ground := Ground.phase }, { on := 16, ground := Ground.phase }], guard := none }) (v := .pointer (some ⟨K, 0, none⟩)) rfl (by kernel_rfl) (by kernel_rfl) (by kernel_rfl) (fun _ _ _ h => h) (Or.inl ⟨by rfl, ?_⟩) p2 ?_
            · intro wq hSq
              clear hSq
              go_simp
            try simp only [Act.put, List.setIfInBounds_toArray, List.set_cons_zero, List.set_cons_succ]
            refine wpAnyH_take (i := 18) (oi := { dst := some 76, op := Op.fieldAddr 58 (Operand.tmp 75) 0, type := 0, pos := "l09_core.go:170", after := #[{ on := 17, ground := Ground.data }, { on := 0, ground := Ground.phase }, { on := 1, ground := Ground.phase }, { on := 2, ground := Ground.phase }, { on := 3, ground := Ground.phase }, { on := 4, ground := Ground.phase }, { on := 5, ground := Ground.phase }, { on := 6, ground := Ground.phase }, { on := 7, ground := Ground.phase }, { on := 8, ground := Ground.phase }, { on := 9, ground := Ground.phase }, { on := 10, ground := Ground.phase }, { on := 11, ground := Ground.phase }, { on := 12, ground := Ground.phase }, { on := 13, ground := Ground.phase }, { on := 14, ground := Ground.phase }, { on := 15, ground := Ground.phase }, { on := 16, ground := Ground.phase }], guard := none }) (v := .pointer (some ⟨K, 0, none⟩)) rfl (by kernel_rfl) (by kernel_rfl) (by kernel_rfl) (fun _ _ _ h => h) (Or.inl ⟨by rfl, ?_⟩) p2 ?_
            · intro wq hSq
              clear hSq
              go_simp
            try simp only [Act.put, List.setIfInBounds_toArray, List.set_cons_zero, List.set_cons_succ]
            refine wpAnyH_ready (rs := [19]) (by kernel_rfl) (by simp) ?_
            refine AllReadyH.cons (o := { dst := none, op := Op.store 54 (Operand.tmp 76) (Operand.tmp 74), type := 0, pos := "l09_core.go:170", after := #[{ on := 18, ground := Ground.data }, { on := 16, ground := Ground.data }, { on := 16, ground := Ground.chain }, { on := 0, ground := Ground.phase }, { on := 1, ground := Ground.phase }, { on := 2, ground := Ground.phase }, { on := 3, ground := Ground.phase }, { on := 4, ground := Ground.phase }, { on := 5, ground := Ground.phase }, { on := 6, ground := Ground.phase }, { on := 7, ground := Ground.phase }, { on := 8, ground := Ground.phase }, { on := 9, ground := Ground.phase }, { on := 10, ground := Ground.phase }, { on := 11, ground := Ground.phase }, { on := 12, ground := Ground.phase }, { on := 13, ground := Ground.phase }, { on := 14, ground := Ground.phase }, { on := 15, ground := Ground.phase }, { on := 16, ground := Ground.phase }], guard := none }) rfl (fun KK hK => ?_) AllReadyH.nil
            go_simp
            refine hK.out _ _ (p1.s12 HIN.out.2.1) (fun _ => ?_)
            clear hK KK
            try simp only [Act.put, List.setIfInBounds_toArray, List.set_cons_zero, List.set_cons_succ]
            refine wpAnyH_done (by kernel_rfl) ?_ _
            refine ⟨p1.l, rfl, ?_⟩
            rw [HJD.out]
            refine ⟨gg, cap3, fun j => if j = i then .slice pz nz cz else NV j, ?_, HGS⟩
            have p5 := p1.loop HMA.out.2.1 HMA.out.2.2 (rec .ready none)
            rw [kidSts_succ t V NV kb ko k i (.slice pz nz cz) HSK.out.2.2.2.2.1, ← List.append_assoc, ← HSK.out.2.1, show sl2 + (k + 1) = sk + 1 from by have := HSK.out.1; omega]
            exact p5
        rintro e W4 ⟨he, hj4⟩
        rw [HJD.out] at hj4
        obtain ⟨lgk, lck, NV, q1, -⟩ := hj4
        refine ⟨he, .inl ⟨q1.l, ?_⟩⟩
        obtain ⟨W5, hW5⟩ : ∃ W5, W4.putObj (M + 1) (.loop (rec .exhausted none)) = W5 := ⟨_, rfl⟩
        rw [hW5]
        have HF : Hid (JC w0 wc K B bs (n + xl) (m + xl) PB SB b o A0 M X cx (.slice pn xl cn) (.slice p t.len cap) (.slice (some ⟨lgk, 0, none⟩) ((sl2 + t.len : Nat)) lck) (L ++ kidSts t V NV kb ko t.len) (env ++ nmL xs) (rec .exhausted none) W5) := by
          rw [← hW5]
          exact q1.loop HMA.out.2.1 HMA.out.2.2 _
        clear hrec hM hW3 b3 d3 l3 s3 q1 hW5 he
        gi_wp2
        refine ⟨by simp, .inl ⟨_, _, rfl, run_takeDeferred HF.out.d, ?_⟩⟩
        obtain ⟨r1, r2, r3⟩ := HF.out.done (by have := HMA.out.1; have := HA0.out.1; omega) HMA.out.2.2
        have bW : Below w.heap.size w W := by rw [HWW.out]; exact (newb w _).trans ((newb _ _).mono (by simp))
        refine ⟨_, results_none rfl _ _ _, rfl, .slice (some ⟨lgk, 0, none⟩) ((sl2 + t.len : Nat)) lck, V, NV, kb, ko, ?_, (WFr.of_below bW).trans (HC2.out.2.2.trans r2), ⟨lgk, lck, ?_⟩, r3⟩
        · rw [HXL.out, ← List.append_assoc, ← HL.out]
          exact r1
        · rw [HXL.out, ← List.append_assoc, ← HL.out, List.length_append, kidSts_len, HSL2.out]
end Go.Proofs.YtefjnhkaampmcaaDoor
