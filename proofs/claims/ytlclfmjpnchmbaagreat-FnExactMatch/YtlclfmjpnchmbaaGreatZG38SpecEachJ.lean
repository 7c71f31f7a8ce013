/- impl.Match, out of impl.tellGots. Written by wip/tools/mkimplmatch.py. Condition: at most 2^20 parts of each. -/
import Derived.Test.YtlclfmjpnchmbaaGreatZG34EachApp
import Derived.Test.YtlclfmjpnchmbaaGreatZG37ImplPatOk
import Derived.Test.YtlclfmjpnchmbaaGreatZG33SpecMatch
namespace Go.Proofs.YtlclfmjpnchmbaaGreat
open Go.ChangeShapes Go.WideShapes Go.ChangeAt Go.RowKit Go.Shelf
attribute [local go_sem] Oper.semAt_some

/-- Four new blocks. -/
theorem four_new (w : World) (o1 o2 o3 o4 : Obj) : ∃ W, (((w.alloc o1).alloc o2).alloc o3).alloc o4 = W ∧ W.heap[w.heap.size]? = some o1 ∧ W.heap[w.heap.size + 1]? = some o2 ∧ W.heap[w.heap.size + 2]? = some o3 ∧ W.heap[w.heap.size + 3]? = some o4 ∧ W.heap.size = w.heap.size + 4 ∧ Below w.heap.size w W := by
  have a : ∀ (w : World) (o : Obj) (k : Nat), (w.alloc o).heap[k]? = if k = w.heap.size then some o else w.heap[k]? := fun w o k => Array.getElem?_push
  refine ⟨_, rfl, ?_, ?_, ?_, ?_, by simp, (((Below.refl _ w).alloc (Nat.le_refl _) _).alloc (by simp) _).alloc (by simp; omega) _ |>.alloc (by simp; omega) _⟩
  all_goals
    simp only [a, World.size_alloc]
    repeat rw [if_neg (by omega)]
    simp

/-- What Match answers. -/
def MatchPost (w : World) (b : Bool) (m : Option (List G)) (e : Ending) (w' : World) : Prop :=
  Below w.heap.size w w' ∧ ((∃ lst v S, b = true ∧ m = some lst ∧ e = .returned (.tuple #[v, .bool true]) ∧ GsOwn w' lst.length (fun i => lst.getD i .no) v S ∧ S.Nodup ∧ ∀ k ∈ S, w.heap.size ≤ k) ∨ ((b = false ∨ m = none) ∧ e = .returned (.tuple #[.slice none 0 0, .bool false])))

theorem results_cellsM {fn : Func} {p q : Tmp} {ty tz : TypeId} (h : fn.results = #[.cell p ty, .cell q tz]) (tmps : Array Value) (P : Program) (w : World) :
    (results fn tmps).run P w = ((asAddr (tmps.getD p undef)).run P w).andThen fun a w₁ => ((loadVar ty a).run P w₁).andThen fun v w₂ => ((asAddr (tmps.getD q undef)).run P w₂).andThen fun b w₃ => ((loadVar tz b).run P w₃).andThen fun u w₄ => .ok (.tuple #[v, u]) w₄ := by
  simp only [results, h]
  simp [Sem.run_bind, Result.andThen]
/-- Two results put. -/
theorem put_two {w w1 : World} {A : Nat} {u v u0 v0 : Value} (h1 : w1.heap[A + 2]? = some (.cells #[u0] 27)) (h2 : w1.heap[A + 3]? = some (.cells #[v0] 4)) (hb : Below A w w1) (F : World) (hF : F = (w1.setCell ⟨A + 2, 0, none⟩ u).setCell ⟨A + 3, 0, none⟩ v) :
    F.heap[A + 2]? = some (.cells #[u] 27) ∧ F.heap[A + 3]? = some (.cells #[v] 4) ∧ Below A w F ∧ F.heap.size = w1.heap.size ∧ But (fun k => k = A + 2 ∨ k = A + 3) w1 F := by
  subst hF
  have c1 : (w1.setCell ⟨A + 2, 0, none⟩ u).heap[A + 2]? = some (.cells #[u] 27) := heap_setCell_same w1 (A + 2) 0 _ _ _ h1
  have c2 : (w1.setCell ⟨A + 2, 0, none⟩ u).heap[A + 3]? = some (.cells #[v0] 4) := (Below.heap_setCell _ _ _ _ (by simp)).trans h2
  have hbut : But (fun k => k = A + 2 ∨ k = A + 3) w1 ((w1.setCell ⟨A + 2, 0, none⟩ u).setCell ⟨A + 3, 0, none⟩ v) := ((But.refl _ w1).setCell (p := ⟨A + 2, 0, none⟩) (.inr (.inl rfl)) u).setCell (p := ⟨A + 3, 0, none⟩) (.inr (.inr rfl)) v
  refine ⟨(Below.heap_setCell _ _ _ _ (by simp)).trans c1, heap_setCell_same _ (A + 3) 0 _ _ _ c2, hb.trans (hbut.below ?_ (fun k hk => by omega)), by simp [World.setCell], hbut⟩
  have := (Array.getElem?_eq_some_iff.1 h1).1
  omega
theorem early_no {w w1 : World} {A : Nat} (h1 : w1.heap[A + 2]? = some (.cells #[.slice none 0 0] 27)) (h2 : w1.heap[A + 3]? = some (.cells #[.bool false] 4)) (hb : Below A w w1) (F : World) (hF : F = (w1.setCell ⟨A + 2, 0, none⟩ (.slice none 0 0)).setCell ⟨A + 3, 0, none⟩ (.bool false)) :
    F.cell? ⟨A + 2, 0, none⟩ = some (.slice none 0 0) ∧ F.cell? ⟨A + 3, 0, none⟩ = some (.bool false) ∧ Below A w F := by
  obtain ⟨c1, c2, c3, _⟩ := put_two h1 h2 hb F hF
  exact ⟨cell_of_row _ _ 0 _ _ _ c1, cell_of_row _ _ 0 _ _ _ c2, c3⟩
/-- A round begins. -/
theorem mj_busy {w W : World} {A L M : Nat} {rec : LoopState → Option Code → Loop} {pre : List G} {Y : Nat → Prop} (h : MJ w A L M rec pre W Y) (o : Obj) :
    (W.alloc o).heap[M + 1]? = some (.loop (rec .ready none)) ∧ ∃ Wc, (W.alloc o).putObj (M + 1) (.loop (rec .busy none)) = Wc ∧ But (fun k => k = M + 1) W Wc ∧ Wc.heap.size = W.heap.size + 1 ∧ Wc.heap[M + 1]? = some (.loop (rec .busy none)) ∧ Wc.heap[W.heap.size]? = some o := by
  have hs := h.size
  have h1 : (W.alloc o).heap[M + 1]? = some (.loop (rec .ready none)) := (Below.heap_alloc _ _ _ (by omega)).trans h.loop
  refine ⟨h1, _, rfl, ((But.refl (fun k => k = M + 1) W).alloc o).putObj (.inr rfl) _, by simp, World.putObj_heap_same (Array.getElem?_eq_some_iff.1 h1).1, ?_⟩
  rw [World.putObj_heap_other (by omega)]
  exact heap_alloc_new W o

/-- A misfit. -/
theorem mx_of {w W Wc F : World} {A L M : Nat} {rec : LoopState → Option Code → Loop} {pre : List G} {Y : Nat → Prop} (hA : A + 4 ≤ L) (hL : L + 3 = M) (h : MJ w A L M rec pre W Y) (g2 : But (fun k => k = M + 1) W Wc) (g4 : Wc.heap[M + 1]? = some (.loop (rec .busy none))) (hF : F = (Wc.setCell ⟨A + 2, 0, none⟩ (.slice none 0 0)).setCell ⟨A + 3, 0, none⟩ (.bool false)) :
    F.heap[M + 1]? = some (.loop (rec .busy none)) ∧ MX w A L M rec (F.putObj (M + 1) (.loop (rec .done (some .ret)))) Y ∧ Keeps Y W (F.putObj (M + 1) (.loop (rec .done (some .ret)))) := by
  have hs := h.size
  obtain ⟨t1, t2, t3, t4, t5⟩ := put_two (g2.at h.box1 (by omega)) (g2.at h.box2 (by omega)) (h.below.trans (g2.below (by omega) (fun k hk => by omega))) F hF
  have h5 := t5.at g4 (by omega)
  have hbp : But (fun k => k = M + 1) F (F.putObj (M + 1) (.loop (rec .done (some .ret)))) := (But.refl (fun k => k = M + 1) F).putObj (.inr rfl) _
  have hsz : W.heap.size ≤ (F.putObj (M + 1) (.loop (rec .done (some .ret)))).heap.size := by have := g2.size; have := hbp.size; omega
  refine ⟨h5, ⟨hbp.at t1 (by omega), hbp.at t2 (by omega), hbp.at (t5.at (g2.at h.defs (by omega)) (by omega)) (by omega), t3.trans (hbp.below (by have := g2.size; omega) (fun k hk => by omega)), World.putObj_heap_same (Array.getElem?_eq_some_iff.1 h5).1, fun k hk => ⟨(h.own k hk).1, Nat.lt_of_lt_of_le (h.own k hk).2 hsz⟩, Nat.le_trans hs hsz⟩, hsz, fun k hY hk => ?_⟩
  have := h.own k hY
  exact (hbp.block k (by have := g2.size; omega) (by omega)).trans ((t5.block k (by have := g2.size; omega) (by omega)).trans (g2.block k hk (by omega)))
/-- All told. -/
theorem match_yes {w W5 : World} {A L M : Nat} {v : Value} {lst : List G} {l : List GR} {SS : List (List Nat)} (hA : A + 4 ≤ L) (hL : L + 3 = M) (h1 : W5.heap[A + 2]? = some (.cells #[.slice none 0 0] 27)) (h2 : W5.heap[A + 3]? = some (.cells #[.bool false] 4)) (hd : W5.heap[M]? = some (.deferred (some []))) (hb : Below A w W5) (hr : GRow W5 A v lst l SS) (hk : ∀ k, k ∈ v.ownBlock.toList ++ SS.flatten → M + 2 ≤ k) (F : World) (hF : F = (W5.setCell ⟨A + 2, 0, none⟩ v).setCell ⟨A + 3, 0, none⟩ (.bool true)) :
    F.heap[M]? = some (.deferred (some [])) ∧ (F.putObj M (.deferred none)).cell? ⟨A + 2, 0, none⟩ = some v ∧ (F.putObj M (.deferred none)).cell? ⟨A + 3, 0, none⟩ = some (.bool true) ∧ Below A w (F.putObj M (.deferred none)) ∧ GRow (F.putObj M (.deferred none)) A v lst l SS ∧ (∀ k, k ∈ v.ownBlock.toList ++ SS.flatten → A ≤ k) := by
  obtain ⟨t1, t2, t3, t4, t5⟩ := put_two h1 h2 hb F hF
  have hbp : But (fun k => k = M) F (F.putObj M (.deferred none)) := (But.refl (fun k => k = M) F).putObj (.inr rfl) _
  have hz := (Array.getElem?_eq_some_iff.1 hd).1
  refine ⟨t5.at hd (by omega), cell_of_row _ _ 0 _ _ _ (hbp.at t1 (by omega)), cell_of_row _ _ 0 _ _ _ (hbp.at t2 (by omega)), t3.trans (hbp.below (by omega) (fun k hk => by omega)), hr.same (fun k hk' => ?_), fun k hk' => by have := hk k hk'; omega⟩
  have h3 := hk k hk'
  have h4 := hr.lt k hk'
  exact (hbp.block k (by omega) (by omega)).trans (t5.block k h4 (by omega))

set_option maxRecDepth 100000 in
set_option maxHeartbeats 4000000 in
theorem impl_match (p x : X) (T : TellAt p) (hok : patternB p = true → okG p) (w : World) (su u sx ux : Value) (hp : p.At 0 w su u) (hx : x.At 0 w sx ux) (hpw : p.weight ≤ 1048576) (hxw : x.weight ≤ 1048576) (hsm : x.Small) (hpc : p.count ≤ 1048577) (hxc : x.count ≤ 1048577) :
    Calls Tryz.prog 7 #[.agg #[.int .i64 p.op, .int .i64 p.at_, .int .i64 p.n, .string p.s, su, u], .agg #[.int .i64 x.op, .int .i64 x.at_, .int .i64 x.n, .string x.s, sx, ux]] w fun e w' => MatchPost w (patternB p && stxOkB x) (matchG p x) e w' := by
  obtain ⟨pa, ca, e1⟩ := hp.sets.shape
  obtain ⟨pb, cb, e2⟩ := hp.xs.shape
  obtain ⟨qa, da, e3⟩ := hx.sets.shape
  obtain ⟨qb, db, e4⟩ := hx.xs.shape
  subst e1 e2 e3 e4
  have HT : Hid (TellAt p) := T
  have HP : Hid (p.At 0 w (.slice pa p.set.length ca) (.slice pb p.len cb) ∧ x.At 0 w (.slice qa x.set.length da) (.slice qb x.len db) ∧ p.weight ≤ 1048576 ∧ x.weight ≤ 1048576 ∧ x.Small ∧ p.count ≤ 1048577 ∧ x.count ≤ 1048577 ∧ (patternB p = true → okG p)) := ⟨hp, hx, hpw, hxw, hsm, hpc, hxc, hok⟩
  clear T hok hp hx hpw hxw hsm hpc hxc
  obtain ⟨m, hm⟩ : ∃ m, m = matchG p x := ⟨_, rfl⟩
  have HM : Hid (m = matchG p x) := hm
  rw [← hm]
  clear hm
  refine callsIn_wide (n := 0).1 ?_
  refine callsIn_of_wp_marks Tryz.func7 rfl trivial ?_ rfl
  simp only [Tryz.ntmps7, List.size_toArray, List.length_cons, List.length_nil, Nat.reduceAdd, Nat.reduceSub, Array.replicate_succ, Array.replicate_zero, List.push_toArray, List.append_toArray, List.nil_append, List.cons_append]
  gi_wp2
  obtain ⟨W2, hW2, a0, a1, a2, a3, asz, ab⟩ := four_new w (.cells #[.int .i64 p.op, .int .i64 p.at_, .int .i64 p.n, .string p.s, .slice pa p.set.length ca, .slice pb p.len cb] 32) (.cells #[.int .i64 x.op, .int .i64 x.at_, .int .i64 x.n, .string x.s, .slice qa x.set.length da, .slice qb x.len db] 32) (.cells #[.slice none 0 0] 27) (.cells #[.bool false] 4)
  rw [hW2]
  obtain ⟨A, hA⟩ : ∃ x, x = w.heap.size := ⟨_, rfl⟩
  have HA : Hid (A = w.heap.size) := hA
  rw [← hA] at a0 a1 a2 a3 asz ab ⊢
  clear hW2 hA
  simp only [show A + 1 + 1 = A + 2 from rfl, show A + 2 + 1 = A + 3 from rfl]
  refine ⟨trivial, rfl, (callsIn_wide.2 (impl_pattern_ok p W2 _ _ (X.At.below (HA.out ▸ ab) HP.out.1) HP.out.2.2.1)).mono ?_⟩
  rintro e w1 ⟨rfl, hb1⟩
  have HS1 : Hid (Six w1 A p.op p.at_ p.n p.s (.slice pa p.set.length ca) (.slice pb p.len cb) 32 ∧ Six w1 (A + 1) x.op x.at_ x.n x.s (.slice qa x.set.length da) (.slice qb x.len db) 32 ∧ w1.heap[A + 2]? = some (.cells #[.slice none 0 0] 27) ∧ w1.heap[A + 3]? = some (.cells #[.bool false] 4) ∧ Below A w w1 ∧ A + 4 ≤ w1.heap.size) :=
    ⟨(hb1.block _ (by omega)).trans a0, (hb1.block _ (by omega)).trans a1, (hb1.block _ (by omega)).trans a2, (hb1.block _ (by omega)).trans a3, ab.trans (hb1.mono (by omega)), by have := hb1.size; omega⟩
  clear hb1 a0 a1 a2 a3 asz ab W2
  obtain ⟨b0, b1, b2, b3, b4, b5⟩ := HS1.out.1.cells
  obtain ⟨d0, d1, d2, d3, d4, d5⟩ := HS1.out.2.1.cells
  cases hpo : patternB p with
  | false =>
    have r1 := cell_of_row w1 _ 0 _ _ _ HS1.out.2.2.1
    have r1f := frozen_of_row w1 _ 0 _ _ HS1.out.2.2.1
    have r2 := cell_of_row w1 _ 0 _ _ _ HS1.out.2.2.2.1
    have r2f := frozen_of_row w1 _ 0 _ _ HS1.out.2.2.2.1
    have HPF : Hid (patternB p = false) := hpo
    clear b0 b1 b2 b3 b4 b5 d0 d1 d2 d3 d4 d5 hpo
    gi_wp2
    refine ⟨trivial, ?_⟩
    gi_wp2
    obtain ⟨z1, z2, z3⟩ := early_no HS1.out.2.2.1 HS1.out.2.2.2.1 HS1.out.2.2.2.2.1 _ rfl
    exact ⟨.tuple #[.slice none 0 0, .bool false], by rw [results_cellsM (p := 4) (q := 5) (ty := 27) (tz := 4) (by kernel_rfl)]; simp [go_sem, z1, z2], HA.out ▸ z3, .inr ⟨.inl (by rw [HPF.out]; rfl), rfl⟩⟩
  | true =>
    gi_wp2
    refine ⟨trivial, rfl, (callsIn_wide.2 (impl_stx_ok x w1 _ _ (X.At.below (HA.out ▸ HS1.out.2.2.2.2.1) HP.out.2.1) HP.out.2.2.2.1)).mono ?_⟩
    rintro e w2 ⟨rfl, hb2⟩
    have HS2 : Hid (Six w2 A p.op p.at_ p.n p.s (.slice pa p.set.length ca) (.slice pb p.len cb) 32 ∧ Six w2 (A + 1) x.op x.at_ x.n x.s (.slice qa x.set.length da) (.slice qb x.len db) 32 ∧ w2.heap[A + 2]? = some (.cells #[.slice none 0 0] 27) ∧ w2.heap[A + 3]? = some (.cells #[.bool false] 4) ∧ Below A w w2 ∧ A + 4 ≤ w2.heap.size) := by
      have hs := HS1.out.2.2.2.2.2
      exact ⟨HS1.out.1.below hb2, HS1.out.2.1.below hb2, (hb2.block _ (by omega)).trans HS1.out.2.2.1, (hb2.block _ (by omega)).trans HS1.out.2.2.2.1, HS1.out.2.2.2.2.1.trans (hb2.mono (by omega)), Nat.le_trans hs hb2.size⟩
    clear hb2 b0 b1 b2 b3 b4 b5 d0 d1 d2 d3 d4 d5 HS1
    obtain ⟨b0, b1, b2, b3, b4, b5⟩ := HS2.out.1.cells
    obtain ⟨d0, d1, d2, d3, d4, d5⟩ := HS2.out.2.1.cells
    have r1 := cell_of_row w2 _ 0 _ _ _ HS2.out.2.2.1
    have r1f := frozen_of_row w2 _ 0 _ _ HS2.out.2.2.1
    have r2 := cell_of_row w2 _ 0 _ _ _ HS2.out.2.2.2.1
    have r2f := frozen_of_row w2 _ 0 _ _ HS2.out.2.2.2.1
    have HPO : Hid (okG p ∧ patternB p = true) := ⟨HP.out.2.2.2.2.2.2.2 hpo, hpo⟩
    clear hpo
    cases hso : stxOkB x with
    | false =>
      have HSF : Hid (stxOkB x = false) := hso
      clear b0 b1 b2 b3 b4 b5 d0 d1 d2 d3 d4 d5 hso
      gi_wp2
      obtain ⟨z1, z2, z3⟩ := early_no HS2.out.2.2.1 HS2.out.2.2.2.1 HS2.out.2.2.2.2.1 _ rfl
      exact ⟨.tuple #[.slice none 0 0, .bool false], by rw [results_cellsM (p := 4) (q := 5) (ty := 27) (tz := 4) (by kernel_rfl)]; simp [go_sem, z1, z2], HA.out ▸ z3, .inr ⟨.inl (by rw [HSF.out]; simp), rfl⟩⟩
    | true =>
      have HSO : Hid (stxOkB x = true) := hso
      clear hso r1 r1f r2 r2f
      have hk : ∀ (o : Obj) (a : Addr) (v : Value), w2.cell? a = some v → (w2.alloc o).cell? a = some v := fun o a v h => keepsX (newx w2 o) a v h
      have n0 := fun o => hk o _ _ b0
      have n1 := fun o => hk o _ _ b1
      have n2 := fun o => hk o _ _ b2
      have n3 := fun o => hk o _ _ b3
      have n4 := fun o => hk o _ _ b4
      have n5 := fun o => hk o _ _ b5
      have o0 := fun o => hk o _ _ d0
      have o1 := fun o => hk o _ _ d1
      have o2 := fun o => hk o _ _ d2
      have o3 := fun o => hk o _ _ d3
      have o4 := fun o => hk o _ _ d4
      have o5 := fun o => hk o _ _ d5
      clear hk
      gi_wp2
      refine ⟨trivial, rfl, (callsIn_wide.2 (gots_seq p x _ _ _ _ _ _ _ _ _ _ _ _ _)).mono ?_⟩
      rintro e w3 ⟨rfl, rfl⟩
      clear b0 b1 b2 b3 b4 b5 d0 d1 d2 d3 d4 d5 n0 n1 n2 n3 n4 n5 o0 o1 o2 o3 o4 o5
      gi_wp2
      obtain ⟨V, hV, l0, l1, l2, lsz, lb⟩ := three_new w2 (.cells #[.slice none 0 0] 27) (.cells #[.int .i64 p.op, .int .i64 p.at_, .int .i64 p.n, .string p.s, .slice pa p.set.length ca, .slice pb p.len cb] 32) (.cells #[.int .i64 x.op, .int .i64 x.at_, .int .i64 x.n, .string x.s, .slice qa x.set.length da, .slice qb x.len db] 32)
      rw [hV]
      obtain ⟨L, hL⟩ : ∃ x, x = w2.heap.size := ⟨_, rfl⟩
      rw [← hL] at l0 l1 l2 lsz lb ⊢
      clear hV
      have HSV : Hid (V.heap[A + 2]? = some (.cells #[.slice none 0 0] 27) ∧ V.heap[A + 3]? = some (.cells #[.bool false] 4) ∧ Below A w V ∧ A + 4 ≤ L) := by
        have hs := HS2.out.2.2.2.2.2
        rw [← hL] at hs
        exact ⟨(lb.block _ (by omega)).trans HS2.out.2.2.1, (lb.block _ (by omega)).trans HS2.out.2.2.2.1, HS2.out.2.2.2.2.1.trans (lb.mono (by omega)), hs⟩
      clear HS2 lb hL w1 w2
      refine wpIn_rf (gf := 44) (lb := #[.pointer (some ⟨L + 1, 0, none⟩), .pointer (some ⟨L + 1 + 1, 0, none⟩)]) rfl (enters_of Tryz.func44 (by kernel_rfl) rfl) ?_
      intro fn rec hrec
      obtain ⟨M, hM⟩ : ∃ x, x = V.heap.size := ⟨_, rfl⟩
      rw [← hM] at hrec lsz ⊢
      obtain ⟨W3, hW3⟩ : ∃ W3, (V.alloc (.deferred (some []))).alloc (.loop (rec .ready none)) = W3 := ⟨_, rfl⟩
      have b3 : Below V.heap.size V W3 := by rw [← hW3]; exact (newx _ _).trans ((newx _ _).mono (by simp))
      have d3 : W3.heap[M]? = some (.deferred (some [])) := by rw [← hW3, hM, Below.heap_alloc _ _ _ (by simp)]; exact heap_alloc_new _ _
      have l3 : W3.heap[M + 1]? = some (.loop (rec .ready none)) := by rw [← hW3, hM]; have := heap_alloc_new (V.alloc (.deferred (some []))) (.loop (rec .ready none)); rwa [World.size_alloc] at this
      have s3 : W3.heap.size = M + 2 := by rw [← hW3, hM]; simp
      rw [hW3]
      have hAL := HSV.out.2.2.2
      have hML : L + 3 = M := by omega
      have hj0 : MJ w A L M rec [] W3 (fun _ => False) :=
        ⟨⟨none, 0, [], [], (b3.block _ (by omega)).trans l0, GRow.nil _ _, fun k hk => by simp [Value.ownBlock] at hk⟩, (b3.block _ (by omega)).trans HSV.out.1, (b3.block _ (by omega)).trans HSV.out.2.1, d3, HSV.out.2.2.1.trans (b3.mono (by omega)), l3, fun _ h => h.elim, by omega⟩
      have hsA : Six W3 (L + 1) p.op p.at_ p.n p.s (.slice pa p.set.length ca) (.slice pb p.len cb) 32 := (b3.block _ (by omega)).trans l1
      have hsB : Six W3 (L + 1 + 1) x.op x.at_ x.n x.s (.slice qa x.set.length da) (.slice qb x.len db) 32 := (b3.block _ (by omega)).trans l2
      have HNN : Hid ((namesD p 0).length ≤ 1048577) := Nat.le_trans (namesD_len p 0) HP.out.2.2.2.2.2.1
      have TJ : Teller (M + 1) (namesD p 0).length w (fun pre W Y => MJ w A L M rec pre W Y) (fun W Y => MX w A L M rec W Y) := by
        refine ⟨mj_stable hAL hML, fun B B' Y Y' h hb hx => mx_stable hAL hML h hb hx, fun pre W Y h => HA.out ▸ h.below, fun pre W Y h k hk => (h.own k hk).2, ?told, ?misfit⟩
        case told =>
          intro pre g sv kv gv Z W Y hj hg hZ hZY hlt
          obtain ⟨pk, ck, l, SS, f1, f2, f3⟩ := hj.list
          obtain ⟨⟨a1, a2, e1⟩, ⟨b1, b2, e2⟩, ⟨c1, c2, e3⟩⟩ := hg.shape
          subst e1 e2 e3
          obtain ⟨g1, Wc, hWc, g2, g3, g4, g5⟩ := mj_busy hj (.cells #[.string g.name, .int .i64 g.deep, .int .i64 g.one.op, .int .i64 g.one.at_, .int .i64 g.one.n, .string g.one.s, .slice a1 g.one.set.length a2, .slice b1 g.one.len b2, .slice c1 g.len c2] 48)
          refine yieldAt_of hrec hj.loop rfl ?_
          have HLP : Hid ((W.alloc (.cells #[.string g.name, .int .i64 g.deep, .int .i64 g.one.op, .int .i64 g.one.at_, .int .i64 g.one.n, .string g.one.s, .slice a1 g.one.set.length a2, .slice b1 g.one.len b2, .slice c1 g.len c2] 48)).heap[M + 1]? = some (.loop (rec .ready none))) := g1
          have HOWN : Hid (Wc.ownsRow A 48 9 (.slice pk pre.length ck) pre.length (grows l)) := g2.owns f2.row (fun k hk h => by have := (f3 k (List.mem_append_left _ (by rw [hk]; simp))).1; omega)
          have HBOX : Hid (Wc.heap[L]? = some (.cells #[.slice pk pre.length ck] 27) ∧ (Value.slice pk pre.length ck).ownBlock ≠ some L) := ⟨g2.at f1 (by omega), fun e => by have := (f3 L (List.mem_append_left _ (by rw [e]; simp))).1; omega⟩
          have HLEN : Hid (l.length = pre.length) := f2.len
          have HSZ : Hid (A ≤ Wc.heap.size) := by have := hj.size; show A ≤ _; omega
          have HTOLD : Hid (∀ F g' c', F.heap[L]? = some (.cells #[.slice (some ⟨g', 0, none⟩) (pre.length + 1) c'] 27) → F.ownsRow A 48 9 (.slice (some ⟨g', 0, none⟩) (pre.length + 1) c') (pre.length + 1) (grows (l ++ [⟨g, .slice a1 g.one.set.length a2, .slice b1 g.one.len b2, .slice c1 g.len c2⟩])) → But (fun k => k = L ∨ (Value.slice pk pre.length ck).ownBlock = some k) Wc F → ((Value.slice pk pre.length ck).ownBlock = some g' ∨ g' = Wc.heap.size + 1) →
              F.heap[M + 1]? = some (.loop (rec .busy none)) ∧ MJ w A L M rec (pre ++ [g]) (F.putObj (M + 1) (.loop (rec .ready none))) Y ∧ Keeps Y W (F.putObj (M + 1) (.loop (rec .ready none)))) :=
            fun F g' c' k1 k2 k3 k4 => mj_told hAL hML hj f2 f3 hg hZ hZY g2 (by omega) g4 k1 k2 k3 k4
          have hlen : pre.length + 1 ≤ 1048577 := by have := HNN.out; omega
          have y0 : Wc.cell? ⟨W.heap.size, 0, none⟩ = some (.string g.name) := cell_of_row Wc _ 0 _ _ _ g5
          have z0 : ∀ o, (Wc.alloc o).cell? ⟨W.heap.size, 0, none⟩ = some (.string g.name) := fun o => keepsX (newx Wc o) _ _ y0
          have y1 : Wc.cell? ⟨W.heap.size, 1, none⟩ = some (.int .i64 g.deep) := cell_of_row Wc _ 1 _ _ _ g5
          have z1 : ∀ o, (Wc.alloc o).cell? ⟨W.heap.size, 1, none⟩ = some (.int .i64 g.deep) := fun o => keepsX (newx Wc o) _ _ y1
          have y2 : Wc.cell? ⟨W.heap.size, 2, none⟩ = some (.int .i64 g.one.op) := cell_of_row Wc _ 2 _ _ _ g5
          have z2 : ∀ o, (Wc.alloc o).cell? ⟨W.heap.size, 2, none⟩ = some (.int .i64 g.one.op) := fun o => keepsX (newx Wc o) _ _ y2
          have y3 : Wc.cell? ⟨W.heap.size, 3, none⟩ = some (.int .i64 g.one.at_) := cell_of_row Wc _ 3 _ _ _ g5
          have z3 : ∀ o, (Wc.alloc o).cell? ⟨W.heap.size, 3, none⟩ = some (.int .i64 g.one.at_) := fun o => keepsX (newx Wc o) _ _ y3
          have y4 : Wc.cell? ⟨W.heap.size, 4, none⟩ = some (.int .i64 g.one.n) := cell_of_row Wc _ 4 _ _ _ g5
          have z4 : ∀ o, (Wc.alloc o).cell? ⟨W.heap.size, 4, none⟩ = some (.int .i64 g.one.n) := fun o => keepsX (newx Wc o) _ _ y4
          have y5 : Wc.cell? ⟨W.heap.size, 5, none⟩ = some (.string g.one.s) := cell_of_row Wc _ 5 _ _ _ g5
          have z5 : ∀ o, (Wc.alloc o).cell? ⟨W.heap.size, 5, none⟩ = some (.string g.one.s) := fun o => keepsX (newx Wc o) _ _ y5
          have y6 : Wc.cell? ⟨W.heap.size, 6, none⟩ = some (.slice a1 g.one.set.length a2) := cell_of_row Wc _ 6 _ _ _ g5
          have z6 : ∀ o, (Wc.alloc o).cell? ⟨W.heap.size, 6, none⟩ = some (.slice a1 g.one.set.length a2) := fun o => keepsX (newx Wc o) _ _ y6
          have y7 : Wc.cell? ⟨W.heap.size, 7, none⟩ = some (.slice b1 g.one.len b2) := cell_of_row Wc _ 7 _ _ _ g5
          have z7 : ∀ o, (Wc.alloc o).cell? ⟨W.heap.size, 7, none⟩ = some (.slice b1 g.one.len b2) := fun o => keepsX (newx Wc o) _ _ y7
          have y8 : Wc.cell? ⟨W.heap.size, 8, none⟩ = some (.slice c1 g.len c2) := cell_of_row Wc _ 8 _ _ _ g5
          have z8 : ∀ o, (Wc.alloc o).cell? ⟨W.heap.size, 8, none⟩ = some (.slice c1 g.len c2) := fun o => keepsX (newx Wc o) _ _ y8
          have x1 : Wc.cell? ⟨L, 0, none⟩ = some (.slice pk pre.length ck) := cell_of_row Wc _ 0 _ _ _ HBOX.out.1
          have x1a : ∀ o, (Wc.alloc o).cell? ⟨L, 0, none⟩ = some (.slice pk pre.length ck) := fun o => keepsX (newx Wc o) _ _ x1
          clear hrec hj f1 f2 f3 hg hZ hZY g1 g2 g3 g4 g5 hlt l0 l1 l2 lsz b3 d3 l3 s3 hj0 hsA hsB hM hW3 W3 HSV
          gi_wp2
          refine ⟨HLP.out, ?_⟩
          rw [hWc]
          clear hWc
          obtain ⟨i0, hi, hz0, hz1, hz2⟩ := info_parts got_info
          gi_wp2
          refine wpIn_round_held (S := fun _ => True) (sz := 8) (by kernel_rfl) (by kernel_rfl) rfl (fun _ _ h => ?_) (fun _ => ?_)
          · exact (h : False)
          refine wpAnyH_ready (rs := [0, 1, 3]) (by kernel_rfl) (by simp) (AllReadyH.cons (o := { dst := some 24, op := Op.load 27 (Operand.tmp 6), type := 27, pos := "l07_match.go:201", after := #[], guard := none }) rfl (fun K hK => ?g0) (AllReadyH.cons (o := { dst := some 25, op := Op.load 48 (Operand.tmp 7), type := 48, pos := "l07_match.go:201", after := #[], guard := none }) rfl (fun K hK => ?g1) (AllReadyH.cons (o := { dst := some 27, op := Op.buildSlice 27 1 #[(0, Operand.const (Value.agg #[Value.string { data := #[] }, Value.int IntKind.i64 0, Value.int IntKind.i64 0, Value.int IntKind.i64 0, Value.int IntKind.i64 0, Value.string { data := #[] }, Value.slice none 0 0, Value.slice none 0 0, Value.slice none 0 0]))], type := 27, pos := "l07_match.go:201", after := #[], guard := none }) rfl (fun K hK => ?g3) AllReadyH.nil)))
          case' g0 =>
            (go_simp; refine hK.out _ _ trivial (fun _ => ?_); clear hK K; try simp only [Act.put, List.setIfInBounds_toArray, List.set_cons_zero, List.set_cons_succ])
            (refine wpAnyH_take (i := 2) (oi := { dst := some 26, op := Op.call { callee := Callee.builtin Builtin.len, args := #[Operand.tmp 24], argTypes := #[27] }, type := 3, pos := "l07_match.go:201", after := #[{ on := 0, ground := Ground.data }], guard := none }) (v := .int .i64 pre.length) rfl (by kernel_rfl) (by kernel_rfl) (by kernel_rfl) (fun _ _ _ h => h) (Or.inl ⟨by rfl, ?_⟩) trivial ?_; (· intro wq _; go_simp); try simp only [Act.put, List.setIfInBounds_toArray, List.set_cons_zero, List.set_cons_succ])
            refine wpAnyH_ready (rs := [1, 3]) (by kernel_rfl) (by simp) (AllReadyH.cons (o := { dst := some 25, op := Op.load 48 (Operand.tmp 7), type := 48, pos := "l07_match.go:201", after := #[], guard := none }) rfl (fun K hK => ?ha1) (AllReadyH.cons (o := { dst := some 27, op := Op.buildSlice 27 1 #[(0, Operand.const (Value.agg #[Value.string { data := #[] }, Value.int IntKind.i64 0, Value.int IntKind.i64 0, Value.int IntKind.i64 0, Value.int IntKind.i64 0, Value.string { data := #[] }, Value.slice none 0 0, Value.slice none 0 0, Value.slice none 0 0]))], type := 27, pos := "l07_match.go:201", after := #[], guard := none }) rfl (fun K hK => ?ha3) AllReadyH.nil))
            case' ha1 =>
              (go_simp; refine hK.out _ _ trivial (fun _ => ?_); clear hK K; try simp only [Act.put, List.setIfInBounds_toArray, List.set_cons_zero, List.set_cons_succ])
              refine wpAnyH_ready (rs := [3]) (by kernel_rfl) (by simp) (AllReadyH.cons (o := { dst := some 27, op := Op.buildSlice 27 1 #[(0, Operand.const (Value.agg #[Value.string { data := #[] }, Value.int IntKind.i64 0, Value.int IntKind.i64 0, Value.int IntKind.i64 0, Value.int IntKind.i64 0, Value.string { data := #[] }, Value.slice none 0 0, Value.slice none 0 0, Value.slice none 0 0]))], type := 27, pos := "l07_match.go:201", after := #[], guard := none }) rfl (fun K hK => ?ka3) AllReadyH.nil)
              (go_simp; refine hK.out _ _ trivial (fun _ => ?_); clear hK K; try simp only [Act.put, List.setIfInBounds_toArray, List.set_cons_zero, List.set_cons_succ])
            case' ha3 =>
              (go_simp; refine hK.out _ _ trivial (fun _ => ?_); clear hK K; try simp only [Act.put, List.setIfInBounds_toArray, List.set_cons_zero, List.set_cons_succ])
              refine wpAnyH_ready (rs := [1]) (by kernel_rfl) (by simp) (AllReadyH.cons (o := { dst := some 25, op := Op.load 48 (Operand.tmp 7), type := 48, pos := "l07_match.go:201", after := #[], guard := none }) rfl (fun K hK => ?kb1) AllReadyH.nil)
              (go_simp; refine hK.out _ _ trivial (fun _ => ?_); clear hK K; try simp only [Act.put, List.setIfInBounds_toArray, List.set_cons_zero, List.set_cons_succ])
          case' g1 =>
            (go_simp; refine hK.out _ _ trivial (fun _ => ?_); clear hK K; try simp only [Act.put, List.setIfInBounds_toArray, List.set_cons_zero, List.set_cons_succ])
            refine wpAnyH_ready (rs := [0, 3]) (by kernel_rfl) (by simp) (AllReadyH.cons (o := { dst := some 24, op := Op.load 27 (Operand.tmp 6), type := 27, pos := "l07_match.go:201", after := #[], guard := none }) rfl (fun K hK => ?hb0) (AllReadyH.cons (o := { dst := some 27, op := Op.buildSlice 27 1 #[(0, Operand.const (Value.agg #[Value.string { data := #[] }, Value.int IntKind.i64 0, Value.int IntKind.i64 0, Value.int IntKind.i64 0, Value.int IntKind.i64 0, Value.string { data := #[] }, Value.slice none 0 0, Value.slice none 0 0, Value.slice none 0 0]))], type := 27, pos := "l07_match.go:201", after := #[], guard := none }) rfl (fun K hK => ?hb3) AllReadyH.nil))
            case' hb0 =>
              (go_simp; refine hK.out _ _ trivial (fun _ => ?_); clear hK K; try simp only [Act.put, List.setIfInBounds_toArray, List.set_cons_zero, List.set_cons_succ])
              (refine wpAnyH_take (i := 2) (oi := { dst := some 26, op := Op.call { callee := Callee.builtin Builtin.len, args := #[Operand.tmp 24], argTypes := #[27] }, type := 3, pos := "l07_match.go:201", after := #[{ on := 0, ground := Ground.data }], guard := none }) (v := .int .i64 pre.length) rfl (by kernel_rfl) (by kernel_rfl) (by kernel_rfl) (fun _ _ _ h => h) (Or.inl ⟨by rfl, ?_⟩) trivial ?_; (· intro wq _; go_simp); try simp only [Act.put, List.setIfInBounds_toArray, List.set_cons_zero, List.set_cons_succ])
              refine wpAnyH_ready (rs := [3]) (by kernel_rfl) (by simp) (AllReadyH.cons (o := { dst := some 27, op := Op.buildSlice 27 1 #[(0, Operand.const (Value.agg #[Value.string { data := #[] }, Value.int IntKind.i64 0, Value.int IntKind.i64 0, Value.int IntKind.i64 0, Value.int IntKind.i64 0, Value.string { data := #[] }, Value.slice none 0 0, Value.slice none 0 0, Value.slice none 0 0]))], type := 27, pos := "l07_match.go:201", after := #[], guard := none }) rfl (fun K hK => ?kc3) AllReadyH.nil)
              (go_simp; refine hK.out _ _ trivial (fun _ => ?_); clear hK K; try simp only [Act.put, List.setIfInBounds_toArray, List.set_cons_zero, List.set_cons_succ])
            case' hb3 =>
              (go_simp; refine hK.out _ _ trivial (fun _ => ?_); clear hK K; try simp only [Act.put, List.setIfInBounds_toArray, List.set_cons_zero, List.set_cons_succ])
              refine wpAnyH_ready (rs := [0]) (by kernel_rfl) (by simp) (AllReadyH.cons (o := { dst := some 24, op := Op.load 27 (Operand.tmp 6), type := 27, pos := "l07_match.go:201", after := #[], guard := none }) rfl (fun K hK => ?kd0) AllReadyH.nil)
              (go_simp; refine hK.out _ _ trivial (fun _ => ?_); clear hK K; try simp only [Act.put, List.setIfInBounds_toArray, List.set_cons_zero, List.set_cons_succ])
              (refine wpAnyH_take (i := 2) (oi := { dst := some 26, op := Op.call { callee := Callee.builtin Builtin.len, args := #[Operand.tmp 24], argTypes := #[27] }, type := 3, pos := "l07_match.go:201", after := #[{ on := 0, ground := Ground.data }], guard := none }) (v := .int .i64 pre.length) rfl (by kernel_rfl) (by kernel_rfl) (by kernel_rfl) (fun _ _ _ h => h) (Or.inl ⟨by rfl, ?_⟩) trivial ?_; (· intro wq _; go_simp); try simp only [Act.put, List.setIfInBounds_toArray, List.set_cons_zero, List.set_cons_succ])
          case' g3 =>
            (go_simp; refine hK.out _ _ trivial (fun _ => ?_); clear hK K; try simp only [Act.put, List.setIfInBounds_toArray, List.set_cons_zero, List.set_cons_succ])
            refine wpAnyH_ready (rs := [0, 1]) (by kernel_rfl) (by simp) (AllReadyH.cons (o := { dst := some 24, op := Op.load 27 (Operand.tmp 6), type := 27, pos := "l07_match.go:201", after := #[], guard := none }) rfl (fun K hK => ?hc0) (AllReadyH.cons (o := { dst := some 25, op := Op.load 48 (Operand.tmp 7), type := 48, pos := "l07_match.go:201", after := #[], guard := none }) rfl (fun K hK => ?hc1) AllReadyH.nil))
            case' hc0 =>
              (go_simp; refine hK.out _ _ trivial (fun _ => ?_); clear hK K; try simp only [Act.put, List.setIfInBounds_toArray, List.set_cons_zero, List.set_cons_succ])
              (refine wpAnyH_take (i := 2) (oi := { dst := some 26, op := Op.call { callee := Callee.builtin Builtin.len, args := #[Operand.tmp 24], argTypes := #[27] }, type := 3, pos := "l07_match.go:201", after := #[{ on := 0, ground := Ground.data }], guard := none }) (v := .int .i64 pre.length) rfl (by kernel_rfl) (by kernel_rfl) (by kernel_rfl) (fun _ _ _ h => h) (Or.inl ⟨by rfl, ?_⟩) trivial ?_; (· intro wq _; go_simp); try simp only [Act.put, List.setIfInBounds_toArray, List.set_cons_zero, List.set_cons_succ])
              refine wpAnyH_ready (rs := [1]) (by kernel_rfl) (by simp) (AllReadyH.cons (o := { dst := some 25, op := Op.load 48 (Operand.tmp 7), type := 48, pos := "l07_match.go:201", after := #[], guard := none }) rfl (fun K hK => ?ke1) AllReadyH.nil)
              (go_simp; refine hK.out _ _ trivial (fun _ => ?_); clear hK K; try simp only [Act.put, List.setIfInBounds_toArray, List.set_cons_zero, List.set_cons_succ])
            case' hc1 =>
              (go_simp; refine hK.out _ _ trivial (fun _ => ?_); clear hK K; try simp only [Act.put, List.setIfInBounds_toArray, List.set_cons_zero, List.set_cons_succ])
              refine wpAnyH_ready (rs := [0]) (by kernel_rfl) (by simp) (AllReadyH.cons (o := { dst := some 24, op := Op.load 27 (Operand.tmp 6), type := 27, pos := "l07_match.go:201", after := #[], guard := none }) rfl (fun K hK => ?kf0) AllReadyH.nil)
              (go_simp; refine hK.out _ _ trivial (fun _ => ?_); clear hK K; try simp only [Act.put, List.setIfInBounds_toArray, List.set_cons_zero, List.set_cons_succ])
              (refine wpAnyH_take (i := 2) (oi := { dst := some 26, op := Op.call { callee := Callee.builtin Builtin.len, args := #[Operand.tmp 24], argTypes := #[27] }, type := 3, pos := "l07_match.go:201", after := #[{ on := 0, ground := Ground.data }], guard := none }) (v := .int .i64 pre.length) rfl (by kernel_rfl) (by kernel_rfl) (by kernel_rfl) (fun _ _ _ h => h) (Or.inl ⟨by rfl, ?_⟩) trivial ?_; (· intro wq _; go_simp); try simp only [Act.put, List.setIfInBounds_toArray, List.set_cons_zero, List.set_cons_succ])
          all_goals
            refine wpAnyH_ready (rs := [4]) (by kernel_rfl) (by simp) ?_
            refine AllReadyH.cons (o := { dst := some 28, op := Op.call { callee := Callee.builtin Builtin.append, args := #[Operand.tmp 24, Operand.tmp 27], argTypes := #[27, 27] }, type := 27, pos := "l07_match.go:201", after := #[{ on := 0, ground := Ground.data }, { on := 3, ground := Ground.data }, { on := 0, ground := Ground.phase }, { on := 1, ground := Ground.phase }, { on := 2, ground := Ground.phase }, { on := 3, ground := Ground.phase }], guard := none }) rfl (fun K hK => ?_) AllReadyH.nil
            refine step_append_at (by rfl) (.tmp 24) (.tmp 27) 27 (by rfl) A 48 i0 (.agg #[.string ⟨#[]⟩, .int .i64 0, .int .i64 0, .int .i64 0, .int .i64 0, .string ⟨#[]⟩, .slice none 0 0, .slice none 0 0, .slice none 0 0]) 9 136 Tryz.underlying27 hi hz0 hz1 hz2 rfl (by decide) (.slice pk pre.length ck) pre.length (grows l) (by rfl) ((World.ownsRow.alloc HOWN.out _).drew) ⟨Wc.heap.size, 0, none⟩ 1 1 zeros9 (by rfl) (by rfl) (World.news_of_block (cs := #[.string ⟨#[]⟩, .int .i64 0, .int .i64 0, .int .i64 0, .int .i64 0, .string ⟨#[]⟩, .slice none 0 0, .slice none 0 0, .slice none 0 0]) (t := 48) (fr := (0, 0)) (heap_alloc_new Wc _)) (by simp [Value.oneCell']) (by unfold maxLen; omega) (by omega) (by have h1 := HSZ.out; simp; omega) (by decide) ?_
            intro v' w3 hown3 hg3 hwh3
            obtain ⟨g', c', hv'⟩ := ownsRow_succ hown3.out
            subst hv'
            have hp := got_pushed HBOX.out.1 HBOX.out.2 hown3.out hg3.out hwh3.out
            obtain ⟨u0, hu0⟩ := hp.cells 0 (by omega)
            obtain ⟨u1, hu1⟩ := hp.cells 1 (by omega)
            obtain ⟨u2, hu2⟩ := hp.cells 2 (by omega)
            obtain ⟨u3, hu3⟩ := hp.cells 3 (by omega)
            obtain ⟨u4, hu4⟩ := hp.cells 4 (by omega)
            obtain ⟨u5, hu5⟩ := hp.cells 5 (by omega)
            obtain ⟨u6, hu6⟩ := hp.cells 6 (by omega)
            obtain ⟨u7, hu7⟩ := hp.cells 7 (by omega)
            obtain ⟨u8, hu8⟩ := hp.cells 8 (by omega)
            rw [Nat.add_zero] at hu0
            have hlv := hp.live
            have hne1 := hp.ne
            have hne2 : ¬ g' = L := fun e => hp.ne e.symm
            have y1 : w3.cell? ⟨L, 0, none⟩ = some (.slice pk pre.length ck) := cell_of_row w3 _ 0 _ _ _ hp.box
            have y1f : w3.frozen? ⟨L, 0, none⟩ = false := frozen_of_row w3 _ 0 _ _ hp.box
            obtain ⟨k1, k2, k3, k4, _⟩ := got_pushed_end hp HLEN.out hown3.out hg3.out hwh3.out ⟨g, .slice a1 g.one.set.length a2, .slice b1 g.one.len b2, .slice c1 g.len c2⟩ _ rfl
            have HFIN := HTOLD.out _ _ _ k1 k2 k3 k4
            clear k1 k2 k3 k4 hown3 hg3 hwh3 hp
            refine hK.out _ _ trivial (fun _ => ?_)
            clear hK K
            try simp only [Act.put, List.setIfInBounds_toArray, List.set_cons_zero, List.set_cons_succ]
            refine wpAnyH_take (i := 5) (oi := { dst := some 29, op := Op.indexAddr 27 (Operand.tmp 28) (Operand.tmp 26), type := 0, pos := "l07_match.go:201", after := #[{ on := 4, ground := Ground.data }, { on := 2, ground := Ground.data }, { on := 0, ground := Ground.phase }, { on := 1, ground := Ground.phase }, { on := 2, ground := Ground.phase }, { on := 3, ground := Ground.phase }, { on := 4, ground := Ground.phase }, { on := 7, ground := Ground.gcOnly Departure.appendInPlace }], guard := none }) (v := .pointer (some ⟨g', pre.length * 9, none⟩)) rfl (by kernel_rfl) (by kernel_rfl) (by kernel_rfl) (fun _ _ _ h => h) (Or.inl ⟨by rfl, ?_⟩) trivial ?_
            · intro wq _
              go_simp; intro hh; omega
            try simp only [Act.put, List.setIfInBounds_toArray, List.set_cons_zero, List.set_cons_succ]
            refine wpAnyH_ready (rs := [6, 7]) (by kernel_rfl) (by simp) (AllReadyH.cons (o := { dst := none, op := Op.store 48 (Operand.tmp 29) (Operand.tmp 25), type := 0, pos := "l07_match.go:201", after := #[{ on := 5, ground := Ground.data }, { on := 1, ground := Ground.data }, { on := 4, ground := Ground.chain }, { on := 0, ground := Ground.phase }, { on := 1, ground := Ground.phase }, { on := 2, ground := Ground.phase }, { on := 3, ground := Ground.phase }, { on := 4, ground := Ground.phase }, { on := 7, ground := Ground.gcOnly Departure.appendInPlace }], guard := none }) rfl (fun K hK => ?_) (AllReadyH.cons (o := { dst := none, op := Op.store 27 (Operand.tmp 6) (Operand.tmp 28), type := 0, pos := "l07_match.go:201", after := #[{ on := 4, ground := Ground.data }, { on := 4, ground := Ground.chain }, { on := 6, ground := Ground.textOnly Departure.appendInPlace }, { on := 0, ground := Ground.phase }, { on := 1, ground := Ground.phase }, { on := 2, ground := Ground.phase }, { on := 3, ground := Ground.phase }, { on := 4, ground := Ground.phase }, { on := 5, ground := Ground.textOnly Departure.appendInPlace }, { on := 6, ground := Ground.textOnly Departure.appendInPlace }], guard := none }) rfl (fun K hK => ?_) AllReadyH.nil))
            · (go_simp; refine hK.out _ _ trivial (fun _ => ?_); clear hK K; try simp only [Act.put, List.setIfInBounds_toArray, List.set_cons_zero, List.set_cons_succ])
              refine wpAnyH_ready (rs := [7]) (by kernel_rfl) (by simp) (AllReadyH.cons (o := { dst := none, op := Op.store 27 (Operand.tmp 6) (Operand.tmp 28), type := 0, pos := "l07_match.go:201", after := #[{ on := 4, ground := Ground.data }, { on := 4, ground := Ground.chain }, { on := 6, ground := Ground.textOnly Departure.appendInPlace }, { on := 0, ground := Ground.phase }, { on := 1, ground := Ground.phase }, { on := 2, ground := Ground.phase }, { on := 3, ground := Ground.phase }, { on := 4, ground := Ground.phase }, { on := 5, ground := Ground.textOnly Departure.appendInPlace }, { on := 6, ground := Ground.textOnly Departure.appendInPlace }], guard := none }) rfl (fun K hK => ?_) AllReadyH.nil)
              (go_simp; refine hK.out _ _ trivial (fun _ => ?_); clear hK K; try simp only [Act.put, List.setIfInBounds_toArray, List.set_cons_zero, List.set_cons_succ])
              refine wpAnyH_done (by kernel_rfl) ?_ _
              exact ⟨HFIN.1, rfl, HFIN.2⟩
            · (go_simp; refine hK.out _ _ trivial (fun _ => ?_); clear hK K; try simp only [Act.put, List.setIfInBounds_toArray, List.set_cons_zero, List.set_cons_succ])
              refine wpAnyH_ready (rs := [6]) (by kernel_rfl) (by simp) (AllReadyH.cons (o := { dst := none, op := Op.store 48 (Operand.tmp 29) (Operand.tmp 25), type := 0, pos := "l07_match.go:201", after := #[{ on := 5, ground := Ground.data }, { on := 1, ground := Ground.data }, { on := 4, ground := Ground.chain }, { on := 0, ground := Ground.phase }, { on := 1, ground := Ground.phase }, { on := 2, ground := Ground.phase }, { on := 3, ground := Ground.phase }, { on := 4, ground := Ground.phase }, { on := 7, ground := Ground.gcOnly Departure.appendInPlace }], guard := none }) rfl (fun K hK => ?_) AllReadyH.nil)
              (go_simp; refine hK.out _ _ trivial (fun _ => ?_); clear hK K; try simp only [Act.put, List.setIfInBounds_toArray, List.set_cons_zero, List.set_cons_succ])
              refine wpAnyH_done (by kernel_rfl) ?_ _
              have e9 := put9_comm w3 g' (pre.length * 9) ⟨g, .slice a1 g.one.set.length a2, .slice b1 g.one.len b2, .slice c1 g.len c2⟩ L 0 (.slice (some ⟨g', 0, none⟩) (pre.length + 1) c') hne1
              rw [← e9] at HFIN
              exact ⟨HFIN.1, rfl, HFIN.2⟩
        case misfit =>
          intro pre W Y hj
          show YieldAt Fence.wide 0 Tryz.prog (M + 1) #[.agg #[.string ⟨#[]⟩, .int .i64 0, .int .i64 0, .int .i64 0, .int .i64 0, .string ⟨#[]⟩, .slice none 0 0, .slice none 0 0, .slice none 0 0], .bool false] W _
          obtain ⟨g1, Wc, hWc, g2, g3, g4, g5⟩ := mj_busy hj (.cells #[.string ⟨#[]⟩, .int .i64 0, .int .i64 0, .int .i64 0, .int .i64 0, .string ⟨#[]⟩, .slice none 0 0, .slice none 0 0, .slice none 0 0] 48)
          have HFIN := fun F hF => mx_of (F := F) hAL hML hj g2 g4 hF
          have r1 := cell_of_row Wc _ 0 _ _ _ (g2.at hj.box1 (by omega))
          have r1f := frozen_of_row Wc _ 0 _ _ (g2.at hj.box1 (by omega))
          have r2 := cell_of_row Wc _ 0 _ _ _ (g2.at hj.box2 (by omega))
          have r2f := frozen_of_row Wc _ 0 _ _ (g2.at hj.box2 (by omega))
          have HLP : Hid ((W.alloc (.cells #[.string ⟨#[]⟩, .int .i64 0, .int .i64 0, .int .i64 0, .int .i64 0, .string ⟨#[]⟩, .slice none 0 0, .slice none 0 0, .slice none 0 0] 48)).heap[M + 1]? = some (.loop (rec .ready none))) := g1
          have HFN : Hid (∀ F, F = (Wc.setCell ⟨A + 2, 0, none⟩ (.slice none 0 0)).setCell ⟨A + 3, 0, none⟩ (.bool false) → F.heap[M + 1]? = some (.loop (rec .busy none)) ∧ MX w A L M rec (F.putObj (M + 1) (.loop (rec .done (some .ret)))) Y ∧ Keeps Y W (F.putObj (M + 1) (.loop (rec .done (some .ret))))) := HFIN
          refine yieldAt_of hrec hj.loop rfl ?_
          clear hrec hj g1 g2 g3 g4 g5 l0 l1 l2 lsz b3 d3 l3 s3 hj0 hsA hsB hM hW3 W3 HSV HFIN
          gi_wp2
          refine ⟨HLP.out, ?_⟩
          rw [hWc]
          clear hWc
          gi_wp2
          obtain ⟨q1, q2⟩ := HFN.out _ rfl
          exact ⟨q1, rfl, q2⟩
      refine (gots_iter HT.out TJ HP.out.1 HP.out.2.1 hsA hsB HP.out.2.2.2.2.1 HP.out.2.2.2.2.2.2.1 HP.out.2.2.2.2.2.1 HPO.out.1 hj0 (by simp)).mono ?_
      rintro e W4 ⟨he, (⟨lst, hms, hj4⟩ | ⟨hms, hx4⟩)⟩
      · obtain ⟨pk, ck, l, SS, f1, f2, f3⟩ := hj4.list
        refine ⟨he, .inl ⟨hj4.loop, ?_⟩⟩
        obtain ⟨W5, hW5⟩ : ∃ W5, W4.putObj (M + 1) (.loop (rec .exhausted none)) = W5 := ⟨_, rfl⟩
        rw [hW5]
        simp only [List.nil_append] at f1 f2 f3
        have hbp : But (fun k => k = M + 1) W4 W5 := by rw [← hW5]; exact (But.refl (fun k => k = M + 1) W4).putObj (.inr rfl) _
        have hs4 := hj4.size
        have hbx1 := hbp.at hj4.box1 (by omega)
        have hbx2 := hbp.at hj4.box2 (by omega)
        have hr5 : GRow W5 A (.slice pk lst.length ck) lst l SS := f2.same (fun k hk => hbp.block k (f2.lt k hk) (by have := f3 k hk; omega))
        have HYES : Hid (∀ F, F = (W5.setCell ⟨A + 2, 0, none⟩ (.slice pk lst.length ck)).setCell ⟨A + 3, 0, none⟩ (.bool true) → F.heap[M]? = some (.deferred (some [])) ∧ (F.putObj M (.deferred none)).cell? ⟨A + 2, 0, none⟩ = some (.slice pk lst.length ck) ∧ (F.putObj M (.deferred none)).cell? ⟨A + 3, 0, none⟩ = some (.bool true) ∧ Below A w (F.putObj M (.deferred none)) ∧ GRow (F.putObj M (.deferred none)) A (.slice pk lst.length ck) lst l SS ∧ (∀ k, k ∈ (Value.slice pk lst.length ck).ownBlock.toList ++ SS.flatten → A ≤ k)) :=
          fun F hF => match_yes hAL hML hbx1 hbx2 (hbp.at hj4.defs (by omega)) (hj4.below.trans (hbp.below (by omega) (fun k hk => by omega))) hr5 (fun k hk => (f3 k hk).1) F hF
        have x1 := cell_of_row W5 _ 0 _ _ _ (hbp.at f1 (by omega))
        have r1 := cell_of_row W5 _ 0 _ _ _ hbx1
        have r1f := frozen_of_row W5 _ 0 _ _ hbx1
        have r2 := cell_of_row W5 _ 0 _ _ _ hbx2
        have r2f := frozen_of_row W5 _ 0 _ _ hbx2
        have HMS : Hid (m = some lst) := HM.out.trans hms
        have hne : A + 2 ≠ L := by omega
        have hne' : A + 3 ≠ L := by omega
        clear hrec hM hW3 b3 d3 l3 s3 hj0 hsA hsB l0 l1 l2 lsz hj4 f1 f2 f3 hW5 he hbp hs4 hbx1 hbx2 hr5 hms TJ HSV
        obtain ⟨nl, hnl⟩ : ∃ nl, nl = lst.length := ⟨_, rfl⟩
        have HNL : Hid (nl = lst.length) := hnl
        rw [← hnl] at HYES x1
        clear hnl
        gi_wp2
        obtain ⟨z1, z2, z3, z4, z5, z6⟩ := HYES.out _ rfl
        refine ⟨by simp, .inl ⟨_, _, rfl, run_takeDeferred z1, ?_⟩⟩
        obtain ⟨S, hS, hSn, hSm⟩ := z5.gs
        refine ⟨.tuple #[.slice pk nl ck, .bool true], by rw [results_cellsM (p := 4) (q := 5) (ty := 27) (tz := 4) (by kernel_rfl)]; simp [go_sem, z2, z3], HA.out ▸ z4, .inl ⟨lst, _, S, by rw [HPO.out.2, HSO.out]; rfl, HMS.out, rfl, hS, hSn, fun k hk => HA.out ▸ z6 k (hSm k hk)⟩⟩
      · refine ⟨he, .inr ⟨.ret, hx4.loop, ?_⟩⟩
        obtain ⟨W5, hW5⟩ : ∃ W5, W4.putObj (M + 1) (.loop (rec .exhausted (some .ret))) = W5 := ⟨_, rfl⟩
        rw [hW5]
        have hbp : But (fun k => k = M + 1) W4 W5 := by rw [← hW5]; exact (But.refl (fun k => k = M + 1) W4).putObj (.inr rfl) _
        have hs4 := hx4.size
        have HK : Hid (W5.heap[M]? = some (.deferred (some [])) ∧ (W5.putObj M (.deferred none)).cell? ⟨A + 2, 0, none⟩ = some (.slice none 0 0) ∧ (W5.putObj M (.deferred none)).cell? ⟨A + 3, 0, none⟩ = some (.bool false) ∧ Below A w (W5.putObj M (.deferred none))) :=
          ⟨hbp.at hx4.defs (by omega), cell_of_row _ _ 0 _ _ _ ((World.putObj_heap_other (by omega)).trans (hbp.at hx4.box1 (by omega))), cell_of_row _ _ 0 _ _ _ ((World.putObj_heap_other (by omega)).trans (hbp.at hx4.box2 (by omega))), (hx4.below.trans (hbp.below (by omega) (fun k hk => by omega))).trans (((But.refl (fun k => k = M) W5).putObj (.inr rfl) _).below (by have := hbp.size; omega) (fun k hk => by omega))⟩
        have HMS : Hid (m = none) := HM.out.trans hms
        clear hrec hM hW3 b3 d3 l3 s3 hj0 hsA hsB l0 l1 l2 lsz hx4 hW5 he hbp hs4 hms TJ HSV
        gi_wp2
        obtain ⟨z1, z2, z3, z4⟩ := HK.out
        refine ⟨by simp, .inl ⟨_, _, rfl, run_takeDeferred z1, ?_⟩⟩
        exact ⟨.tuple #[.slice none 0 0, .bool false], by rw [results_cellsM (p := 4) (q := 5) (ty := 27) (tz := 4) (by kernel_rfl)]; simp [go_sem, z2, z3], HA.out ▸ z4, .inr ⟨.inr HMS.out, rfl⟩⟩
end Go.Proofs.YtlclfmjpnchmbaaGreat

/- impl.tellOfEach, out of impl.tellGots. -/
namespace Go.Proofs.YtlclfmjpnchmbaaGreat
open Go.ChangeShapes Go.WideShapes Go.ChangeAt Go.RowKit Go.Shelf
attribute [local go_sem] Oper.semAt_some

theorem hid_of {P : Prop} (h : P) : Hid P := h
/-- What a name got of the first ones. -/
def gotTo (f : Nat → Option (List G)) (i j : Nat) : List G := (List.range i).map fun t => ((f t).getD []).getD j .no
theorem names_size (t : X) : ∀ (w : World) (su u : Value) (d : Int), t.At 0 w su u → ∀ y ∈ namesD t d, y.1.size ≤ maxLen := by
  induction t with
  | no => intro w su u d _ y hy; simp [namesD] at hy
  | mk op a n s set len kid ih =>
    intro w su u d h y hy
    rw [namesD] at hy
    rcases List.mem_append.1 hy with hy | hy
    · split at hy
      · simp only [List.mem_singleton] at hy
        rw [hy]
        exact h.size
      · simp at hy
    · obtain ⟨i, hi, hy⟩ := flatTo_mem len hy
      obtain ⟨_, _, _, _, hat⟩ := h.xs.at
      obtain ⟨b, o, sv, uv, _, _, hk⟩ := hat i hi
      exact ih i w sv uv _ hk y hy
theorem own_formE {w : World} {base e size n : Nat} {v : Value} {xs : List Value} (h : w.ownsRow base e size v n xs) (hn : 0 < n) : ∃ g cap, v = .slice (some ⟨g, 0, none⟩) n cap := by
  rcases h.2 with ⟨_, h0⟩ | ⟨g, cap, cur, rfl, _⟩
  · omega
  · exact ⟨g, cap, rfl⟩
/-- The marks are taken, one by one. -/
theorem leaves_marks {F : Fence} {n : Nat} {P : Program} {fn : Func} {tmps : Array Value} {R : Ending → World → Prop} : ∀ (marks : List Nat) (W : World), marks.Nodup → (∀ r ∈ marks, W.heap[r]? = some (.deferred (some []))) → (∀ W', But (fun k => k ∈ marks) W W' → LeavesIn F n P fn tmps R [] .returning W') → LeavesInM F n P fn tmps R (marks.map (fun r => { target := .collected r, args := #[] })) .returning W := by
  intro marks
  induction marks with
  | nil => intro W _ _ h; exact h W (But.refl _ _)
  | cons r rs ih =>
    intro W hnd hm h
    rw [List.nodup_cons] at hnd
    refine ⟨by simp, .inl ⟨_, _, rfl, run_takeDeferred (hm r (by simp)), ?_⟩⟩
    have hb : But (fun k => k = r) W (W.putObj r (.deferred none)) := (But.refl (fun k => k = r) W).putObj (.inr rfl) _
    refine ih _ hnd.2 (fun r' hr' => hb.at (hm r' (by simp [hr'])) (fun e => hnd.1 (e ▸ hr'))) (fun W' hW' => h W' ((hb.mono (fun k _ e => by rw [e]; simp)).step hW' (fun k _ hk => by simp [hk])))
theorem colG_take (ns : List (ByteArray × Int)) (f : Nat → Option (List G)) (cnt : Nat) {j : Nat} (hj : j < ns.length) : (colG ns f cnt).take (j + 1) = (colG ns f cnt).take j ++ [.mk (ns.getD j (⟨#[]⟩, 0)).1 ((ns.getD j (⟨#[]⟩, 0)).2 + 1) zeroX cnt (fun t => ((f t).getD []).getD j .no)] := by
  have hl : j < (colG ns f cnt).length := by rw [colG_len]; exact hj
  rw [List.take_succ_eq_append_getElem hl]
  simp [colG]
theorem gotTo_at (f : Nat → Option (List G)) (i j t : Nat) (ht : t < (gotTo f i j).length) : (gotTo f i j).getD t .no = ((f t).getD []).getD j .no := by
  have h : t < i := by simpa [gotTo] using ht
  unfold gotTo
  simp only [List.getD_eq_getElem?_getD, List.getElem?_map, List.getElem?_range h, Option.map_some, Option.getD_some]
theorem gotTo_len (f : Nat → Option (List G)) (i j : Nat) : (gotTo f i j).length = i := by simp [gotTo]
/-- A name's row, cell by cell. -/
theorem er_cells {w W : World} {B g0 cv : Nat} {ns : List (ByteArray × Int)} {Ls : Nat → List G} {gv : Nat → Value} {ll : Nat → List GR} {SSs : Nat → List (List Nat)} (h : ER w B (.slice (some ⟨g0, 0, none⟩) ns.length cv) ns Ls gv ll SSs) (hW : W.heap[g0]? = w.heap[g0]?) {j : Nat} (hj : j < ns.length) :
    W.cell? ⟨g0, j * 9, none⟩ = some (.string (ns.getD j (⟨#[]⟩, 0)).1) ∧ W.cell? ⟨g0, j * 9 + 1, none⟩ = some (.int .i64 ((ns.getD j (⟨#[]⟩, 0)).2 + 1)) ∧ W.cell? ⟨g0, j * 9 + 2, none⟩ = some (.int .i64 0) ∧ W.cell? ⟨g0, j * 9 + 3, none⟩ = some (.int .i64 0) ∧ W.cell? ⟨g0, j * 9 + 4, none⟩ = some (.int .i64 0) ∧ W.cell? ⟨g0, j * 9 + 5, none⟩ = some (.string ⟨#[]⟩) ∧ W.cell? ⟨g0, j * 9 + 6, none⟩ = some (.slice none 0 0) ∧ W.cell? ⟨g0, j * 9 + 7, none⟩ = some (.slice none 0 0) ∧ W.cell? ⟨g0, j * 9 + 8, none⟩ = some (gv j) := by
  have hr : W.ownsRow B 48 9 (.slice (some ⟨g0, 0, none⟩) ns.length cv) ns.length (grows (erows ns Ls gv)) := own_sameX h.row (fun g hg => by simp only [Value.ownBlock, Option.some.injEq] at hg; subst hg; exact hW)
  have c : ∀ q, q < 9 → W.cell? ⟨g0, j * 9 + q, none⟩ = (gcells (erow ns Ls gv j))[q]? := fun q hq => (hr.cellAt (j * 9 + q) (by omega)).trans (grows_get _ (erows_at ns Ls gv hj) hq)
  have c0 := c 0 (by omega)
  rw [Nat.add_zero] at c0
  exact ⟨c0, c 1 (by omega), c 2 (by omega), c 3 (by omega), c 4 (by omega), c 5 (by omega), c 6 (by omega), c 7 (by omega), c 8 (by omega)⟩
theorem ER.congr {w : World} {B : Nat} {v : Value} {ns : List (ByteArray × Int)} {Ls Ls' : Nat → List G} {gv : Nat → Value} {ll : Nat → List GR} {SSs : Nat → List (List Nat)} (h : ER w B v ns Ls gv ll SSs) (he : ∀ j, j < ns.length → Ls j = Ls' j) : ER w B v ns Ls' gv ll SSs := by
  have e : erows ns Ls gv = erows ns Ls' gv := by
    unfold erows
    apply List.map_congr_left
    intro j hj
    have := he j (by simpa using hj)
    simp only [erow, this]
  exact ⟨e ▸ h.row, fun j hj => he j hj ▸ h.each j hj, h.dis, h.off, h.ge⟩
/-- Behind a misfit. -/
structure EX (A : Nat) (Jx : World → (Nat → Prop) → Prop) (Y : Nat → Prop) (marks : List Nat) (M : Nat) (rec : LoopState → Option Code → Loop) (W : World) (Y2 : Nat → Prop) : Prop where
  rbox : W.heap[A + 2]? = some (.cells #[.bool false] 4)
  mks : ∀ r ∈ marks, W.heap[r]? = some (.deferred (some []))
  defs : W.heap[M]? = some (.deferred (some []))
  loop : W.heap[M + 1]? = some (.loop (rec .done (some .ret)))
  jx : ∃ Ya, Jx W Ya ∧ ∀ k, (Y k ∨ Y2 k ∨ k ∈ marks ∨ k = M ∨ k = M + 1 ∨ k = A + 2) → Ya k
  own : ∀ k, Y2 k → M + 2 ≤ k ∧ k < W.heap.size
  size : M + 2 ≤ W.heap.size
theorem ex_stable {A : Nat} {Jx : World → (Nat → Prop) → Prop} {Y : Nat → Prop} {marks : List Nat} {M : Nat} {rec : LoopState → Option Code → Loop} (hs : ∀ A B Y Y', Jx A Y → But Y A B → (∀ k, Y' k → Y k ∨ (A.heap.size ≤ k ∧ k < B.heap.size)) → Jx B Y') (hA : A + 2 < M) (hm : ∀ r ∈ marks, r < M) {B B' : World} {Y2 Y2' : Nat → Prop} (h : EX A Jx Y marks M rec B Y2) (hb : But Y2 B B') (hx : ∀ k, Y2' k → Y2 k ∨ (B.heap.size ≤ k ∧ k < B'.heap.size)) : EX A Jx Y marks M rec B' Y2' := by
  have ne : ∀ k, k < M + 2 → ¬ Y2 k := fun k hk hY => by have := h.own k hY; omega
  obtain ⟨Ya, hja, hya⟩ := h.jx
  refine ⟨hb.at h.rbox (ne _ (by omega)), fun r hr => hb.at (h.mks r hr) (ne _ (by have := hm r hr; omega)), hb.at h.defs (ne _ (by omega)), hb.at h.loop (ne _ (by omega)), ⟨fun k => Ya k ∨ Y2' k, hs _ _ _ _ hja (hb.mono (fun k hk hY => hya k (.inr (.inl hY)))) (fun k hk => ?_), fun k hk => ?_⟩, fun k hk => ?_, Nat.le_trans h.size hb.size⟩
  · rcases hk with hk | hk
    · exact .inl hk
    · rcases hx k hk with h1 | h1
      · exact .inl (hya k (.inr (.inl h1)))
      · exact .inr h1
  · rcases hk with hk | hk | hk
    · exact .inl (hya k (.inl hk))
    · exact .inr hk
    · exact .inl (hya k (.inr (.inr hk)))
  · rcases hx k hk with h1 | ⟨h1, h2⟩
    · exact ⟨(h.own k h1).1, Nat.lt_of_lt_of_le (h.own k h1).2 hb.size⟩
    · have := h.size
      exact ⟨by omega, h2⟩
theorem busy_of {W : World} {M : Nat} {rec : LoopState → Option Code → Loop} (hl : W.heap[M + 1]? = some (.loop (rec .ready none))) (hs : M + 2 ≤ W.heap.size) (o : Obj) :
    (W.alloc o).heap[M + 1]? = some (.loop (rec .ready none)) ∧ ∃ Wc, (W.alloc o).putObj (M + 1) (.loop (rec .busy none)) = Wc ∧ But (fun k => k = M + 1) W Wc ∧ Wc.heap.size = W.heap.size + 1 ∧ Wc.heap[M + 1]? = some (.loop (rec .busy none)) ∧ Wc.heap[W.heap.size]? = some o := by
  have h1 : (W.alloc o).heap[M + 1]? = some (.loop (rec .ready none)) := (Below.heap_alloc _ _ _ (by omega)).trans hl
  refine ⟨h1, _, rfl, ((But.refl (fun k => k = M + 1) W).alloc o).putObj (.inr rfl) _, by simp, World.putObj_heap_same (Array.getElem?_eq_some_iff.1 h1).1, ?_⟩
  rw [World.putObj_heap_other (by omega)]
  exact heap_alloc_new W o
/-- A misfit. -/
theorem ex_of {A M : Nat} {Jx : World → (Nat → Prop) → Prop} {Y Y2 : Nat → Prop} {marks : List Nat} {rec : LoopState → Option Code → Loop} {W Wc W' : World} (hs : ∀ A B Y Y', Jx A Y → But Y A B → (∀ k, Y' k → Y k ∨ (A.heap.size ≤ k ∧ k < B.heap.size)) → Jx B Y') (hA : A + 2 < M) (hm : ∀ r ∈ marks, A ≤ r ∧ r < M ∧ r ≠ A + 2)
    (hr : W.heap[A + 2]? = some (.cells #[.bool false] 4)) (hmk : ∀ r ∈ marks, W.heap[r]? = some (.deferred (some []))) (hd : W.heap[M]? = some (.deferred (some []))) (own : ∀ k, Y2 k → M + 2 ≤ k ∧ k < W.heap.size) (hsz : M + 2 ≤ W.heap.size)
    (g2 : But (fun k => k = M + 1) W Wc) (g4 : Wc.heap[M + 1]? = some (.loop (rec .busy none))) (hjx : Jx W' (fun k => Y k ∨ (A ≤ k ∧ k < Wc.heap.size))) (hk : Keeps (fun k => Y k ∨ (A ≤ k ∧ k < Wc.heap.size)) Wc W') :
    W'.heap[A + 2]? = some (.cells #[.bool false] 4) ∧ ∀ F, F = W'.setCell ⟨A + 2, 0, none⟩ (.bool false) → F.heap[M + 1]? = some (.loop (rec .busy none)) ∧ EX A Jx Y marks M rec (F.putObj (M + 1) (.loop (rec .done (some .ret)))) Y2 ∧ Keeps Y2 W (F.putObj (M + 1) (.loop (rec .done (some .ret)))) := by
  have hs2 := g2.size
  have kp : ∀ k, A ≤ k → k < Wc.heap.size → W'.heap[k]? = Wc.heap[k]? := fun k h1 h2 => hk.2 k (.inr ⟨h1, h2⟩) h2
  have kw : ∀ k, A ≤ k → k < W.heap.size → k ≠ M + 1 → W'.heap[k]? = W.heap[k]? := fun k h1 h2 h3 => (kp k h1 (by omega)).trans (g2.block k h2 h3)
  have r1 : W'.heap[A + 2]? = some (.cells #[.bool false] 4) := (kw _ (by omega) (by omega) (by omega)).trans hr
  refine ⟨r1, ?_⟩
  rintro F rfl
  have hb : But (fun k => k = A + 2) W' (W'.setCell ⟨A + 2, 0, none⟩ (.bool false)) := (But.refl (fun k => k = A + 2) W').setCell (p := ⟨A + 2, 0, none⟩) (.inr rfl) _
  have l1 : (W'.setCell ⟨A + 2, 0, none⟩ (.bool false)).heap[M + 1]? = some (.loop (rec .busy none)) := hb.at ((kp _ (by omega) (by omega)).trans g4) (by omega)
  have r2 := heap_setCell_same W' (A + 2) 0 _ _ (.bool false) r1
  generalize W'.setCell ⟨A + 2, 0, none⟩ (.bool false) = F at *
  have hbp : But (fun k => k = M + 1) F (F.putObj (M + 1) (.loop (rec .done (some .ret)))) := (But.refl (fun k => k = M + 1) F).putObj (.inr rfl) _
  have hbb : But (fun k => k = A + 2 ∨ k = M + 1) W' (F.putObj (M + 1) (.loop (rec .done (some .ret)))) := (hb.mono (fun k _ h => .inl h)).step hbp (fun k _ h => .inr h)
  have hall : ∀ k, A ≤ k → k < W.heap.size → k ≠ M + 1 → k ≠ A + 2 → (F.putObj (M + 1) (.loop (rec .done (some .ret)))).heap[k]? = W.heap[k]? := fun k h1 h2 h3 h4 => (hbb.block k (by have := hk.1; omega) (by omega)).trans (kw k h1 h2 h3)
  have hsF : W.heap.size ≤ (F.putObj (M + 1) (.loop (rec .done (some .ret)))).heap.size := Nat.le_trans hs2 (Nat.le_trans hk.1 hbb.size)
  refine ⟨l1, ⟨hbp.at r2 (by omega), fun r hr' => ?_, (hall M (by omega) (by omega) (by omega) (by omega)).trans hd, World.putObj_heap_same (Array.getElem?_eq_some_iff.1 l1).1, ⟨fun k => Y k ∨ (A ≤ k ∧ k < Wc.heap.size), hs _ _ _ _ hjx (hbb.mono (fun k _ h => .inr (by omega))) (fun k h => .inl h), fun k h => ?_⟩, fun k hY => ⟨(own k hY).1, Nat.lt_of_lt_of_le (own k hY).2 hsF⟩, Nat.le_trans hsz hsF⟩, hsF, fun k hY hkk => hall k (by have := own k hY; omega) hkk (by have := own k hY; omega) (by have := own k hY; omega)⟩
  · have h1 := hm r hr'
    exact (hall r h1.1 (by omega) (by omega) h1.2.2).trans (hmk r hr')
  · rcases h with h | h | h | h | h | h
    · exact .inl h
    · have := own k h; exact .inr ⟨by omega, by omega⟩
    · have := hm k h; exact .inr ⟨by omega, by omega⟩
    · exact .inr ⟨by omega, by omega⟩
    · exact .inr ⟨by omega, by omega⟩
    · exact .inr ⟨by omega, by omega⟩
/-- Two new blocks. -/
theorem two_new (w : World) (o1 o2 : Obj) : ∃ W, (w.alloc o1).alloc o2 = W ∧ W.heap[w.heap.size]? = some o1 ∧ W.heap[w.heap.size + 1]? = some o2 ∧ W.heap.size = w.heap.size + 2 ∧ Below w.heap.size w W := by
  have a : ∀ (w : World) (o : Obj) (k : Nat), (w.alloc o).heap[k]? = if k = w.heap.size then some o else w.heap[k]? := fun w o k => Array.getElem?_push
  refine ⟨_, rfl, ?_, ?_, by simp, ((Below.refl _ w).alloc (Nat.le_refl _) _).alloc (by simp) _⟩
  all_goals
    simp only [a, World.size_alloc]
    repeat rw [if_neg (by omega)]
    simp
theorem gotTo_succ (f : Nat → Option (List G)) (i : Nat) (lst : List G) (h : f i = some lst) (n : Nat) (hl : lst.length = n) {j : Nat} (hj : j < n) : withK (gotTo f i) lst j = gotTo f (i + 1) j := by
  unfold withK gotTo
  rw [if_pos (by omega), List.range_succ, List.map_append]
  simp [h]

set_option maxRecDepth 100000 in
set_option maxHeartbeats 4000000 in
theorem each_at (p : X) (T : TellAt p) : EachAt p := by
  intro l N w0 J Jx TJ n kid su u v0 pre0 W0 Y hp hk hsm hn hpc hok hj hN
  obtain ⟨pa, ca, e1⟩ := hp.sets.shape
  obtain ⟨pb, cb, e2⟩ := hp.xs.shape
  obtain ⟨pk, ck, e3⟩ := hk.shape
  subst e1 e2 e3
  have HT : Hid (TellAt p) := T
  have HTJ : Hid (Teller l N w0 J Jx) := TJ
  have HP : Hid (p.At 0 w0 (.slice pa p.set.length ca) (.slice pb p.len cb) ∧ XsAt 0 w0 n kid (.slice pk n ck) ∧ (∀ i, i < n → (kid i).Small ∧ (kid i).count ≤ 1048577) ∧ p.count ≤ 1048577 ∧ okG p ∧ pre0.length + (namesD p 0).length ≤ N) := ⟨hp, hk, hsm, hpc, hok, hN⟩
  have HJ : Hid (J pre0 W0 Y) := hj
  have HN : Hid (n ≤ 1048577) := hn
  obtain ⟨m, hm⟩ : ∃ m, m = eachG (namesD p 0) (fun j => matchG p (kid j)) n := ⟨_, rfl⟩
  have HM : Hid (m = eachG (namesD p 0) (fun j => matchG p (kid j)) n) := hm
  rw [← hm]
  clear T TJ hp hk hsm hpc hok hj hN hm
  refine callsIn_wide (n := 0).1 ?_
  refine callsIn_of_wp_marks Tryz.func78 rfl trivial ?_ rfl
  simp only [Tryz.ntmps78, List.size_toArray, List.length_cons, List.length_nil, Nat.reduceAdd, Nat.reduceSub, Array.replicate_succ, Array.replicate_zero, List.push_toArray, List.append_toArray, List.nil_append, List.cons_append]
  gi_wp2
  obtain ⟨W2, hW2, a0, a1, a2, asz, ab⟩ := three_new W0 (.cells #[.int .i64 p.op, .int .i64 p.at_, .int .i64 p.n, .string p.s, .slice pa p.set.length ca, .slice pb p.len cb] 32) (.cells #[.func (.yield l) #[] #[]] 90) (.cells #[.bool false] 4)
  rw [hW2]
  obtain ⟨A, hA⟩ : ∃ x, x = W0.heap.size := ⟨_, rfl⟩
  have HA : Hid (A = W0.heap.size) := hA
  rw [← hA] at a0 a1 a2 asz ab ⊢
  clear hW2 hA
  simp only [show A + 1 + 1 = A + 2 from rfl]
  have hbw : Below w0.heap.size w0 W2 := (HTJ.out.base _ _ _ HJ.out).trans (ab.mono (by have := (HTJ.out.base _ _ _ HJ.out).size; have := HA.out; omega))
  refine ⟨trivial, rfl, (callsIn_wide.2 (empty_gots p _ _ W2 (X.At.below hbw HP.out.1) (by have := HP.out.2.2.2.1; omega))).mono ?_⟩
  rintro e w1 ⟨v, rfl, hb1, hown⟩
  obtain ⟨pv, cv, ev⟩ := own_slice hown
  subst ev
  obtain ⟨ns, hns⟩ : ∃ ns, ns = namesD p 0 := ⟨_, rfl⟩
  have HNS : Hid (ns = namesD p 0) := hns
  rw [← hns] at hown HM
  have hs2 : W2.heap.size = A + 3 := asz
  have HF1 : Hid (∀ o : Obj, o = .cells #[.slice pv (namesD p 0).length cv] 27 → EF W0 A w1.heap.size l (.slice pv ns.length cv) p (.slice pa p.set.length ca) (.slice pb p.len cb) J pre0 Y [] (w1.alloc o) ∧ ER (w1.alloc o) A (.slice pv ns.length cv) ns (fun _ => []) (fun _ => .slice none 0 0) (fun _ => []) (fun _ => []) ∧ ∀ k, (Value.slice pv ns.length cv).ownBlock = some k → A + 3 ≤ k ∧ k < w1.heap.size) := by
    rintro o rfl
    have hs1 := hb1.size
    have hJ1 : J pre0 (w1.alloc (.cells #[.slice pv (namesD p 0).length cv] 27)) (fun k => Y k ∨ (A ≤ k ∧ k < (w1.alloc (.cells #[.slice pv (namesD p 0).length cv] 27)).heap.size)) := by
      have hbb : Below W0.heap.size W0 (w1.alloc (.cells #[.slice pv (namesD p 0).length cv] 27)) := by
        rw [← HA.out]
        exact (ab.trans (hb1.mono (by omega))).trans ((newx w1 _).mono (by omega))
      refine HTJ.out.stab _ _ _ _ _ HJ.out (But.of_all hbb) (fun k hk => ?_)
      rcases hk with hk | hk
      · exact .inl hk
      · exact .inr (by rw [← HA.out]; exact hk)
    have hal : ∀ k, k < w1.heap.size → (w1.alloc (.cells #[.slice pv (namesD p 0).length cv] 27)).heap[k]? = w1.heap[k]? := fun k hk => Below.heap_alloc _ _ _ hk
    refine ⟨⟨(hal _ (by omega)).trans ((hb1.block _ (by omega)).trans a0), (hal _ (by omega)).trans ((hb1.block _ (by omega)).trans a1), (hal _ (by omega)).trans ((hb1.block _ (by omega)).trans a2), by rw [hns]; exact heap_alloc_new w1 _, (ab.trans (hb1.mono (by omega))).trans ((newx w1 _).mono (by omega)), hJ1, fun r hr => by simp at hr, by omega⟩, ER.start (World.ownsRow.alloc (own_base hown (fun k hk => ?_)) _), fun k hk => ?_⟩
    · have := hown.lt k hk; omega
    · have := hown.lt k hk; omega
  have HL0 : Hid (A + 3 ≤ w1.heap.size) := by have := hb1.size; show _ ≤ _; omega
  clear hown hb1 a0 a1 a2 asz ab hs2 hbw hns W2
  gi_wp2
  rw [← HNS.out]
  obtain ⟨L, hL⟩ : ∃ x, x = w1.heap.size := ⟨_, rfl⟩
  have HEF := HF1.out _ rfl
  rw [← HNS.out] at HEF
  rw [← hL] at HEF HL0 ⊢
  obtain ⟨W3, hW3⟩ : ∃ x, x = w1.alloc (.cells #[.slice pv ns.length cv] 27) := ⟨_, rfl⟩
  have hWL : L < W3.heap.size := by rw [hW3, hL]; simp
  rw [← hW3] at HEF ⊢
  obtain ⟨f, hf⟩ : ∃ f : Nat → Option (List G), f = fun j => matchG p (kid j) := ⟨_, rfl⟩
  have HF : Hid (f = fun j => matchG p (kid j)) := hf
  rw [← hf] at HM
  obtain ⟨h1, h2, h3⟩ := HEF
  have H1 : Hid (EF W0 A L l (.slice pv ns.length cv) p (.slice pa p.set.length ca) (.slice pb p.len cb) J pre0 Y [] W3) := h1
  have H2 : Hid (ER W3 A (.slice pv ns.length cv) ns (fun _ => []) (fun _ => .slice none 0 0) (fun _ => []) (fun _ => [])) := h2
  have H3 : Hid (∀ k, (Value.slice pv ns.length cv).ownBlock = some k → A + 3 ≤ k ∧ k < L) := h3
  clear h1 h2 h3 hW3 hL HF1 hf
  refine wpIn_loop (fun a wr => ∃ (i : Nat) (marks : List Nat) (x9 x10 x20 x21 x22 x23 x24 x25 x60 : Value), a = { tmps := #[aggX p (.slice pa p.set.length ca) (.slice pb p.len cb), .slice pk n ck, .func (.yield l) #[] #[], .pointer (some ⟨A, 0, none⟩), undef, .pointer (some ⟨A + 1, 0, none⟩), .pointer (some ⟨A + 2, 0, none⟩), .pointer (some ⟨L, 0, none⟩), undef, x9, x10, undef, undef, undef, undef,
      .agg #[.int .i64 p.op, .int .i64 p.at_, .int .i64 p.n, .string p.s, .slice pa p.set.length ca, .slice pb p.len cb], .slice pv ns.length cv, .slice pk n ck, .int .i64 n, .int .i64 i, x20, x21, x22, x23, x24, x25,
      undef, undef, undef, undef, undef, undef, undef, undef, undef, undef, undef, undef, undef, undef, undef, undef, undef, undef, undef, undef, undef, undef, undef, undef, undef, undef, undef, undef, undef, undef, undef, undef, undef, undef, x60, undef, undef, undef, undef, undef, undef, undef, undef, undef, undef, undef], defers := marks.map (fun r => { target := .collected r, args := #[] }) } ∧
      i ≤ n ∧ marks.Nodup ∧ EF W0 A L l (.slice pv ns.length cv) p (.slice pa p.set.length ca) (.slice pb p.len cb) J pre0 Y marks wr ∧ (∀ r ∈ marks, A ≤ r) ∧ (∀ t, t < i → (f t).isSome = true) ∧ ∃ gv ll SSs, ER wr A (.slice pv ns.length cv) ns (gotTo f i) gv ll SSs ∧ ∀ k, ((Value.slice pv ns.length cv).ownBlock = some k ∨ ∃ j, j < ns.length ∧ k ∈ blG (gv j) (SSs j)) → A + 3 ≤ k ∧ k ≠ L ∧ k ∉ marks)
    (fun a _ => n - (intOf (a.tmps.getD 19 undef)).toNat) ?start ?round
  case start =>
    refine ⟨0, [], _, _, _, _, _, _, _, _, _, rfl, Nat.zero_le _, List.nodup_nil, H1.out, fun r hr => by simp at hr, fun t ht => by omega, _, _, _, H2.out, fun k hk => ?_⟩
    rcases hk with hk | ⟨j, _, hk⟩
    · have := H3.out k hk
      exact ⟨by omega, by omega, by simp⟩
    · simp [blG, Value.ownBlock] at hk
  case round =>
    rintro a Wf ⟨i, marks, x9, x10, x20, x21, x22, x23, x24, x25, x60, rfl, hi, hnd, hef, hmr, hall, gv, ll, SSs, her, hbk⟩
    have HEF : Hid (EF W0 A L l (.slice pv ns.length cv) p (.slice pa p.set.length ca) (.slice pb p.len cb) J pre0 Y marks Wf) := hef
    have HER : Hid (ER Wf A (.slice pv ns.length cv) ns (gotTo f i) gv ll SSs ∧ (∀ k, ((Value.slice pv ns.length cv).ownBlock = some k ∨ ∃ j, j < ns.length ∧ k ∈ blG (gv j) (SSs j)) → A + 3 ≤ k ∧ k ≠ L ∧ k ∉ marks) ∧ (∀ t, t < i → (f t).isSome = true) ∧ (∀ r ∈ marks, A ≤ r) ∧ marks.Nodup) := ⟨her, hbk, hall, hmr, hnd⟩
    clear hnd hef hmr hall her hbk H1 H2 H3
    by_cases hlt : (i : Int) < n
    · have hb := HTJ.out.base _ _ _ HEF.out.outer
      obtain ⟨px, cx, ex, _, hat⟩ := HP.out.2.1.at
      injection ex with ex1 _ ex2
      subst ex1 ex2
      obtain ⟨b, o, sx, ux, rfl, hd, hin⟩ := hat i (by omega)
      obtain ⟨c0, c1, c2, c3, c4, c5⟩ := hd.below hb
      obtain ⟨q1, r1, e1⟩ := hin.xs.shape
      obtain ⟨q2, r2, e2⟩ := hin.sets.shape
      subst e1 e2
      have HIN : Hid ((kid i).At 0 w0 (.slice q2 (kid i).set.length r2) (.slice q1 (kid i).len r1)) := hin
      obtain ⟨V, hV, v0, v1, vsz, vb⟩ := two_new Wf (.cells #[.int .i64 (kid i).op, .int .i64 (kid i).at_, .int .i64 (kid i).n, .string (kid i).s, .slice q2 (kid i).set.length r2, .slice q1 (kid i).len r1] 32) (.cells #[.int .i64 0] 3)
      have HV : Hid (V.heap[Wf.heap.size]? = some (.cells #[.int .i64 (kid i).op, .int .i64 (kid i).at_, .int .i64 (kid i).n, .string (kid i).s, .slice q2 (kid i).set.length r2, .slice q1 (kid i).len r1] 32) ∧ V.heap[Wf.heap.size + 1]? = some (.cells #[.int .i64 0] 3) ∧ V.heap.size = Wf.heap.size + 2 ∧ Below Wf.heap.size Wf V) := ⟨v0, v1, vsz, vb⟩
      obtain ⟨b0, b1, b2, b3, b4, b5⟩ := (HEF.out.pbox.below vb).cells
      obtain ⟨k0, k1, k2, k3, k4, k5⟩ := (show Six V Wf.heap.size (kid i).op (kid i).at_ (kid i).n (kid i).s (.slice q2 (kid i).set.length r2) (.slice q1 (kid i).len r1) 32 from v0).cells
      clear hat hd hin hb v0 v1 vsz vb
      rw [← hV] at b0 b1 b2 b3 b4 b5 k0 k1 k2 k3 k4 k5
      have HVV := hid_of hV
      clear hV
      gi_wp2
      refine ⟨trivial, rfl, (callsIn_wide.2 (gots_seq p (kid i) _ _ _ _ _ _ _ _ _ _ _ _ _)).mono ?_⟩
      rintro e w3 ⟨rfl, rfl⟩
      rw [HVV.out]
      clear b0 b1 b2 b3 b4 b5 k0 k1 k2 k3 k4 k5 c0 c1 c2 c3 c4 c5 HVV
      gi_wp2
      obtain ⟨U, hU, u0, u1, usz, ub⟩ := two_new V (.cells #[.int .i64 p.op, .int .i64 p.at_, .int .i64 p.n, .string p.s, .slice pa p.set.length ca, .slice pb p.len cb] 32) (.cells #[.int .i64 (kid i).op, .int .i64 (kid i).at_, .int .i64 (kid i).n, .string (kid i).s, .slice q2 (kid i).set.length r2, .slice q1 (kid i).len r1] 32)
      rw [hU]
      obtain ⟨K, hK⟩ : ∃ x, x = Wf.heap.size := ⟨_, rfl⟩
      have hVs : V.heap.size = K + 2 := by rw [hK]; exact HV.out.2.2.1
      rw [hVs] at u0 u1 usz ub ⊢
      rw [← hK] at HV ⊢
      simp only [show K + 2 + 1 = K + 3 from rfl] at u1 ⊢
      clear hU
      refine wpIn_rf (gf := 44) (lb := #[.pointer (some ⟨K + 2, 0, none⟩), .pointer (some ⟨K + 3, 0, none⟩)]) rfl (enters_of Tryz.func44 (by kernel_rfl) rfl) ?_
      intro fn rec hrec
      obtain ⟨M, hM⟩ : ∃ x, x = U.heap.size := ⟨_, rfl⟩
      rw [← hM] at hrec usz ⊢
      obtain ⟨W4, hW4⟩ : ∃ W4, (U.alloc (.deferred (some []))).alloc (.loop (rec .ready none)) = W4 := ⟨_, rfl⟩
      have b3 : Below U.heap.size U W4 := by rw [← hW4]; exact (newx _ _).trans ((newx _ _).mono (by simp))
      have d3 : W4.heap[M]? = some (.deferred (some [])) := by rw [← hW4, hM, Below.heap_alloc _ _ _ (by simp)]; exact heap_alloc_new _ _
      have l3 : W4.heap[M + 1]? = some (.loop (rec .ready none)) := by rw [← hW4, hM]; have := heap_alloc_new (U.alloc (.deferred (some []))) (.loop (rec .ready none)); rwa [World.size_alloc] at this
      have s3 : W4.heap.size = M + 2 := by rw [← hW4, hM]; simp
      rw [hW4]
      have hMK : K + 4 = M := by omega
      have hLK : L < K := by rw [hK]; exact (Array.getElem?_eq_some_iff.1 HEF.out.lbox).1
      have hmK : ∀ r ∈ marks, r < K := fun r hr => by rw [hK]; exact (Array.getElem?_eq_some_iff.1 (HEF.out.marks r hr)).1
      have hbW : Below Wf.heap.size Wf W4 := by
        rw [← hK]
        exact (HV.out.2.2.2.trans (ub.mono (by omega))).trans (b3.mono (by omega))
      have hj0 : EJ W0 A L l (.slice pv ns.length cv) p (.slice pa p.set.length ca) (.slice pb p.len cb) J pre0 Y marks ns K M rec (gotTo f i) [] W4 (fun _ => False) := by
        refine ⟨HEF.out.step HTJ.out.stab (S := fun _ => False) (But.of_all hbW) (fun _ h => h.elim), ⟨gv, ll, SSs, ?_, fun k hk => ?_⟩, ?_, d3, l3, fun _ h => h.elim, by omega⟩
        · rw [withK_nil]
          exact HER.out.1.same (fun k hk => hbW.block k (HER.out.1.lt hk).2)
        · have h1 := HER.out.2.1 k hk
          have h2 := (HER.out.1.lt hk).2
          rw [← hK] at h2
          exact ⟨h1.1, h1.2.1, h1.2.2, .inl h2, fun h => h⟩
        · exact (b3.block _ (by omega)).trans ((ub.block _ (by omega)).trans HV.out.2.1)
      have hsA : Six W4 (K + 2) p.op p.at_ p.n p.s (.slice pa p.set.length ca) (.slice pb p.len cb) 32 := (b3.block _ (by omega)).trans u0
      have hsB : Six W4 (K + 3) (kid i).op (kid i).at_ (kid i).n (kid i).s (.slice q2 (kid i).set.length r2) (.slice q1 (kid i).len r1) 32 := (b3.block _ (by omega)).trans u1
      have hAM : A + 3 ≤ L := HEF.out.le
      have TJ : Teller (M + 1) ns.length w0 (fun pre W Y2 => EJ W0 A L l (.slice pv ns.length cv) p (.slice pa p.set.length ca) (.slice pb p.len cb) J pre0 Y marks ns K M rec (gotTo f i) pre W Y2) (fun W Y2 => EX A Jx Y marks M rec W Y2) := by
        refine ⟨ej_stable HTJ.out.stab hLK hMK hmK, fun B B' Y2 Y2' h hb hx => ex_stable HTJ.out.stabx (by omega) (fun r hr => by have := hmK r hr; omega) h hb hx, fun pre W Y2 h => HTJ.out.base _ _ _ h.ef.outer, fun pre W Y2 h k hk => (h.own k hk).2, ?told, ?misfit⟩
        case told =>
          intro pre g sv kv gv' Z W Y2 h hg hZ hZY hlt
          obtain ⟨gw, lw, SW, her, hbk⟩ := h.rows
          obtain ⟨⟨a1, a2, e1⟩, ⟨b1, b2, e2⟩, ⟨c1, c2, e3⟩⟩ := hg.shape
          subst e1 e2 e3
          obtain ⟨g0, cap, ev⟩ := own_formE her.row (by omega)
          injection ev with ev1 _ ev2
          subst ev1 ev2
          obtain ⟨pj, cj, ej⟩ := own_slice (her.each _ hlt).row
          have hli : (withK (gotTo f i) pre pre.length).length = i := by simp [withK, gotTo]
          rw [hli] at ej
          obtain ⟨g1, Wc, hWc, g2, g3, g4, g5⟩ := busy_of h.loop h.size (.cells #[.string g.name, .int .i64 g.deep, .int .i64 g.one.op, .int .i64 g.one.at_, .int .i64 g.one.n, .string g.one.s, .slice a1 g.one.set.length a2, .slice b1 g.one.len b2, .slice c1 g.len c2] 48)
          have HLP : Hid ((W.alloc (.cells #[.string g.name, .int .i64 g.deep, .int .i64 g.one.op, .int .i64 g.one.at_, .int .i64 g.one.n, .string g.one.s, .slice a1 g.one.set.length a2, .slice b1 g.one.len b2, .slice c1 g.len c2] 48)).heap[M + 1]? = some (.loop (rec .ready none))) := g1
          have HH : Hid (EJ W0 A L l (.slice (some ⟨g0, 0, none⟩) ns.length cv) p (.slice pa p.set.length ca) (.slice pb p.len cb) J pre0 Y marks ns K M rec (gotTo f i) pre W (fun k => Y2 k ∨ k ∈ Z)) := h
          have HG : Hid (GOwn W g (.slice a1 g.one.set.length a2) (.slice b1 g.one.len b2) (.slice c1 g.len c2) Z ∧ Z.Nodup ∧ (∀ k ∈ Z, ¬ Y2 k) ∧ But (fun k => k = M + 1) W Wc ∧ Wc.heap.size = W.heap.size + 1 ∧ Wc.heap[M + 1]? = some (.loop (rec .busy none))) := ⟨hg, hZ, hZY, g2, g3, g4⟩
          have HEW : Hid (ER W A (.slice (some ⟨g0, 0, none⟩) ns.length cv) ns (withK (gotTo f i) pre) gw lw SW ∧ (∀ k, ((Value.slice (some ⟨g0, 0, none⟩) ns.length cv).ownBlock = some k ∨ ∃ j, j < ns.length ∧ k ∈ blG (gw j) (SW j)) → A + 3 ≤ k ∧ k ≠ L ∧ k ∉ marks ∧ (k < K ∨ M + 2 ≤ k) ∧ ¬ (Y2 k ∨ k ∈ Z)) ∧ gw pre.length = .slice pj i cj) := ⟨her, hbk, ej⟩
          have hg0 := hbk g0 (.inl rfl)
          have HET : Hid (ET W0 A L l g0 cv p (.slice pa p.set.length ca) (.slice pb p.len cb) J pre0 Y marks ns K M rec (gotTo f i) pre W Wc Y2 Z ⟨g, .slice a1 g.one.set.length a2, .slice b1 g.one.len b2, .slice c1 g.len c2⟩ gw lw SW) := ⟨HTJ.out.stab, hLK, hMK, hmK, h, her, hbk, hlt, hg, hZ, hZY, g2, by omega, g4⟩
          have HROW : Hid (∀ D, But (fun _ => False) Wc D → D.ownsRow A 48 9 (.slice pj i cj) i (grows (lw pre.length))) := fun D hD => by
            have h7 := HET.out.row hD
            rw [ej, hli] at h7
            exact h7
          have HPU : Hid (∀ D, But (fun _ => False) Wc D → ∀ v' w3 news, w3.ownsRow A 48 9 v' (i + 1) (grows (lw pre.length) ++ news) → D.grownBy w3 (Value.slice pj i cj).ownBlock → (v'.ownBlock = (Value.slice pj i cj).ownBlock ∨ v'.ownBlock = some D.heap.size) → ∃ g' c', EP A L K g0 cv g' c' i pre.length ns (.slice pj i cj) v' w3) := fun D hD v' w3 news r1 r2 r3 => by
            rw [← ej] at r2 r3 ⊢
            exact HET.out.pushed hD r1 r2 r3
          have HDN : Hid (∀ D, But (fun _ => False) Wc D → ∀ g' c' v' w3 w4, EP A L K g0 cv g' c' i pre.length ns (.slice pj i cj) v' w3 → w4.ownsRow A 48 9 v' (i + 1) (grows (lw pre.length ++ [⟨g, .slice a1 g.one.set.length a2, .slice b1 g.one.len b2, .slice c1 g.len c2⟩])) → But (fun k => (Value.slice pj i cj).ownBlock = some k) D w4 → (v'.ownBlock = (Value.slice pj i cj).ownBlock ∨ v'.ownBlock = some D.heap.size) → ∀ F, F = (w4.setCell ⟨g0, pre.length * 9 + 8, none⟩ v').setCell ⟨K + 1, 0, none⟩ (.int .i64 (pre.length + 1)) → F.heap[M + 1]? = some (.loop (rec .busy none)) ∧ EJ W0 A L l (.slice (some ⟨g0, 0, none⟩) ns.length cv) p (.slice pa p.set.length ca) (.slice pb p.len cb) J pre0 Y marks ns K M rec (gotTo f i) (pre ++ [g]) (F.putObj (M + 1) (.loop (rec .ready none))) Y2 ∧ Keeps Y2 W (F.putObj (M + 1) (.loop (rec .ready none)))) := fun D hD g' c' v' w3 w4 hP r1 r2 r3 F hF => by
            rw [← ej] at hP r2 r3
            exact HET.out.done hD hli hP r1 r2 r3 F hF
          have HDN9 : Hid (∀ D, But (fun _ => False) Wc D → ∀ g' c' w3, EP A L K g0 cv g' c' i pre.length ns (.slice pj i cj) (.slice (some ⟨g', 0, none⟩) (i + 1) c') w3 → w3.ownsRow A 48 9 (.slice (some ⟨g', 0, none⟩) (i + 1) c') (i + 1) (grows (lw pre.length) ++ zeros9) → D.grownBy w3 (Value.slice pj i cj).ownBlock → ((Value.slice (some ⟨g', 0, none⟩) (i + 1) c').ownBlock = (Value.slice pj i cj).ownBlock ∨ (Value.slice (some ⟨g', 0, none⟩) (i + 1) c').ownBlock = some D.heap.size) → ∀ F, F = ((put9 w3 g' (i * 9) ⟨g, .slice a1 g.one.set.length a2, .slice b1 g.one.len b2, .slice c1 g.len c2⟩).setCell ⟨g0, pre.length * 9 + 8, none⟩ (.slice (some ⟨g', 0, none⟩) (i + 1) c')).setCell ⟨K + 1, 0, none⟩ (.int .i64 (pre.length + 1)) → F.heap[M + 1]? = some (.loop (rec .busy none)) ∧ EJ W0 A L l (.slice (some ⟨g0, 0, none⟩) ns.length cv) p (.slice pa p.set.length ca) (.slice pb p.len cb) J pre0 Y marks ns K M rec (gotTo f i) (pre ++ [g]) (F.putObj (M + 1) (.loop (rec .ready none))) Y2 ∧ Keeps Y2 W (F.putObj (M + 1) (.loop (rec .ready none)))) := fun D hD g' c' w3 hP r1 r2 r3 F hF => by
            have h9 := own_put9 r1 (by simp) ⟨g, .slice a1 g.one.set.length a2, .slice b1 g.one.len b2, .slice c1 g.len c2⟩
            have hll : (lw pre.length).length = i := by rw [(her.each _ hlt).len]; exact hli
            rw [hll] at h9
            refine HDN.out D hD g' c' _ w3 (put9 w3 g' (i * 9) ⟨g, .slice a1 g.one.set.length a2, .slice b1 g.one.len b2, .slice c1 g.len c2⟩) hP (by rw [grows_snoc]; exact h9.1) (((But.refl _ _).grown r2 (fun k hk => .inr hk)).grown h9.2 (fun k hk => ?_)) r3 F hF
            injection hk with hk
            rcases r3 with h8 | h8
            · exact .inr (by rw [← hk]; exact h8.symm)
            · have h8' : g' = D.heap.size := by simpa [Value.ownBlock] using h8
              exact .inl (by omega)
          have HSZ : Hid (A ≤ Wc.heap.size) := by have := h.size; have := h.ef.le; show _ ≤ _; omega
          have hnsl : ns.length ≤ 1048577 := by rw [HNS.out]; exact Nat.le_trans (namesD_len p 0) HP.out.2.2.2.1
          have hnn := HN.out
          obtain ⟨i0, hi0, hz0, hz1, hz2⟩ := info_parts got_info
          have x1 : Wc.cell? ⟨L, 0, none⟩ = some (.slice (some ⟨g0, 0, none⟩) ns.length cv) := cell_of_row Wc _ 0 _ _ _ (g2.at h.ef.lbox (by omega))
          have x2 : Wc.cell? ⟨K + 1, 0, none⟩ = some (.int .i64 pre.length) := cell_of_row Wc _ 0 _ _ _ (g2.at h.next (by omega))
          have x2f := frozen_of_row Wc _ 0 _ _ (g2.at h.next (by omega))
          obtain ⟨-, -, -, -, -, -, -, -, x3⟩ := er_cells her (W := Wc) (g2.block g0 (her.lt (.inl rfl)).2 (by omega)) hlt
          rw [ej] at x3
          have y0 : Wc.cell? ⟨W.heap.size, 0, none⟩ = some (.string g.name) := cell_of_row Wc _ 0 _ _ _ g5
          have y1 : Wc.cell? ⟨W.heap.size, 1, none⟩ = some (.int .i64 g.deep) := cell_of_row Wc _ 1 _ _ _ g5
          have y2 : Wc.cell? ⟨W.heap.size, 2, none⟩ = some (.int .i64 g.one.op) := cell_of_row Wc _ 2 _ _ _ g5
          have y3 : Wc.cell? ⟨W.heap.size, 3, none⟩ = some (.int .i64 g.one.at_) := cell_of_row Wc _ 3 _ _ _ g5
          have y4 : Wc.cell? ⟨W.heap.size, 4, none⟩ = some (.int .i64 g.one.n) := cell_of_row Wc _ 4 _ _ _ g5
          have y5 : Wc.cell? ⟨W.heap.size, 5, none⟩ = some (.string g.one.s) := cell_of_row Wc _ 5 _ _ _ g5
          have y6 : Wc.cell? ⟨W.heap.size, 6, none⟩ = some (.slice a1 g.one.set.length a2) := cell_of_row Wc _ 6 _ _ _ g5
          have y7 : Wc.cell? ⟨W.heap.size, 7, none⟩ = some (.slice b1 g.one.len b2) := cell_of_row Wc _ 7 _ _ _ g5
          have y8 : Wc.cell? ⟨W.heap.size, 8, none⟩ = some (.slice c1 g.len c2) := cell_of_row Wc _ 8 _ _ _ g5
          have HWC := hid_of hWc
          refine yieldAt_of hrec h.loop rfl ?_
          clear hrec h her hbk hg hZ hZY g1 g2 g3 g4 g5 b3 d3 l3 s3 hj0 hsA hsB u0 u1 usz ub hM hW4 W4 hVs hK hbW HV HEF HER ej hWc
          gi_wp2
          refine ⟨HLP.out, ?_⟩
          rw [HWC.out]
          clear HWC
          gi_wp2
          refine wpIn_round_held (S := fun _ => True) (sz := 4) (by kernel_rfl) (by kernel_rfl) rfl (fun _ _ h => ?_) (fun _ => ?_)
          · exact (h : False)
          refine wpAnyH_ready (rs := [0]) (by kernel_rfl) (by simp) (AllReadyH.cons (o := { dst := some 32, op := Op.alloc 4, type := 0, pos := "l07_match.go:180", after := #[], guard := none }) rfl (fun K hK => ?ta0) AllReadyH.nil)
          (go_simp; refine hK.out _ _ trivial (fun _ => ?_); clear hK K; try simp only [Act.put, List.setIfInBounds_toArray, List.set_cons_zero, List.set_cons_succ])
          refine wpAnyH_ready (rs := [1, 2]) (by kernel_rfl) (by simp) (AllReadyH.cons (o := { dst := none, op := Op.store 4 (Operand.tmp 32) (Operand.const (Value.bool true)), type := 0, pos := "l07_match.go:180", after := #[{ on := 0, ground := Ground.data }, { on := 2, ground := Ground.gcOnly Departure.appendInPlace }], guard := none }) rfl (fun K hK => ?tb1) (AllReadyH.cons (o := { dst := none, op := Op.store 4 (Operand.tmp 32) (Operand.const (Value.bool false)), type := 0, pos := "l07_match.go:180", after := #[{ on := 0, ground := Ground.data }, { on := 1, ground := Ground.textOnly Departure.appendInPlace }], guard := none }) rfl (fun K hK => ?tb2) AllReadyH.nil))
          case' tb1 =>
            (go_simp; refine hK.out _ _ trivial (fun _ => ?_); clear hK K; try simp only [Act.put, List.setIfInBounds_toArray, List.set_cons_zero, List.set_cons_succ])
            refine wpAnyH_ready (rs := [2]) (by kernel_rfl) (by simp) (AllReadyH.cons (o := { dst := none, op := Op.store 4 (Operand.tmp 32) (Operand.const (Value.bool false)), type := 0, pos := "l07_match.go:180", after := #[{ on := 0, ground := Ground.data }, { on := 1, ground := Ground.textOnly Departure.appendInPlace }], guard := none }) rfl (fun K hK => ?tc2) AllReadyH.nil)
            (go_simp; refine hK.out _ _ trivial (fun _ => ?_); clear hK K; try simp only [Act.put, List.setIfInBounds_toArray, List.set_cons_zero, List.set_cons_succ])
          case' tb2 =>
            (go_simp; refine hK.out _ _ trivial (fun _ => ?_); clear hK K; try simp only [Act.put, List.setIfInBounds_toArray, List.set_cons_zero, List.set_cons_succ])
            refine wpAnyH_ready (rs := [1]) (by kernel_rfl) (by simp) (AllReadyH.cons (o := { dst := none, op := Op.store 4 (Operand.tmp 32) (Operand.const (Value.bool true)), type := 0, pos := "l07_match.go:180", after := #[{ on := 0, ground := Ground.data }, { on := 2, ground := Ground.gcOnly Departure.appendInPlace }], guard := none }) rfl (fun K hK => ?td1) AllReadyH.nil)
            (go_simp; refine hK.out _ _ trivial (fun _ => ?_); clear hK K; try simp only [Act.put, List.setIfInBounds_toArray, List.set_cons_zero, List.set_cons_succ])
          all_goals
            refine wpAnyH_ready (rs := [3]) (by kernel_rfl) (by simp) ?_
            refine AllReadyH.cons (o := { dst := some 33, op := Op.load 4 (Operand.tmp 32), type := 4, pos := "l07_match.go:180", after := #[{ on := 0, ground := Ground.data }, { on := 0, ground := Ground.phase }, { on := 1, ground := Ground.phase }, { on := 2, ground := Ground.phase }], guard := none }) rfl (fun K hK => ?_) AllReadyH.nil
            (go_simp; refine hK.out _ _ trivial (fun _ => ?_); clear hK K; try simp only [Act.put, List.setIfInBounds_toArray, List.set_cons_zero, List.set_cons_succ])
            refine wpAnyH_done (by kernel_rfl) ?_ _
            gi_wp2
          case' tb2 =>
            obtain ⟨Wd, hWd⟩ : ∃ x, x = Wc.alloc (.cells #[.bool true] 4) := ⟨_, rfl⟩
            have keep : ∀ a v, Wc.cell? a = some v → Wd.cell? a = some v := by rw [hWd]; exact fun a v h => keepsX (newx Wc _) a v h
            have HDB : Hid (But (fun _ => False) Wc Wd) := by rw [hWd]; exact But.of_all (newx Wc _)
            have x1d := keep _ _ x1
            have x2d := keep _ _ x2
            have x3d := keep _ _ x3
            have y0d := keep _ _ y0
            have y1d := keep _ _ y1
            have y2d := keep _ _ y2
            have y3d := keep _ _ y3
            have y4d := keep _ _ y4
            have y5d := keep _ _ y5
            have y6d := keep _ _ y6
            have y7d := keep _ _ y7
            have y8d := keep _ _ y8
            rw [← hWd]
            clear hWd keep x1 x2 x2f x3 y0 y1 y2 y3 y4 y5 y6 y7 y8
            have xa : ∀ o a v, Wd.cell? a = some v → (Wd.alloc o).cell? a = some v := fun o a v h => keepsX (newx Wd o) a v h
            have x1a := fun o => xa o _ _ x1d
            have x2a := fun o => xa o _ _ x2d
            have x3a := fun o => xa o _ _ x3d
            have y0a := fun o => xa o _ _ y0d
            have y1a := fun o => xa o _ _ y1d
            have y2a := fun o => xa o _ _ y2d
            have y3a := fun o => xa o _ _ y3d
            have y4a := fun o => xa o _ _ y4d
            have y5a := fun o => xa o _ _ y5d
            have y6a := fun o => xa o _ _ y6d
            have y7a := fun o => xa o _ _ y7d
            have y8a := fun o => xa o _ _ y8d
            clear xa
            refine wpIn_round_held (S := (fun wq => wq.cell? ⟨L, 0, none⟩ = some (.slice (some ⟨g0, 0, none⟩) ns.length cv) ∧ wq.cell? ⟨K + 1, 0, none⟩ = some (.int .i64 pre.length))) (sz := 12) (by kernel_rfl) (by kernel_rfl) rfl (fun _ _ h => ?_) (fun _ => ?_) ⟨x1d, x2d⟩
            · exact (h : False)
            refine wpAnyH_take (i := 0) (oi := { dst := some 34, op := Op.load 27 (Operand.tmp 7), type := 27, pos := "l07_match.go:180", after := #[], guard := none }) (v := .slice (some ⟨g0, 0, none⟩) ns.length cv) rfl (by kernel_rfl) (by kernel_rfl) (by kernel_rfl) (fun _ _ _ h => h) (Or.inl ⟨by rfl, ?_⟩) ⟨x1d, x2d⟩ ?_
            · intro wq hS
              obtain ⟨s1, s2⟩ := hS
              go_simp
            try simp only [Act.put, List.setIfInBounds_toArray, List.set_cons_zero, List.set_cons_succ]
            refine wpAnyH_take (i := 1) (oi := { dst := some 35, op := Op.load 3 (Operand.tmp 10), type := 3, pos := "l07_match.go:180", after := #[], guard := none }) (v := .int .i64 pre.length) rfl (by kernel_rfl) (by kernel_rfl) (by kernel_rfl) (fun _ _ _ h => h) (Or.inl ⟨by rfl, ?_⟩) ⟨x1d, x2d⟩ ?_
            · intro wq hS
              obtain ⟨s1, s2⟩ := hS
              go_simp
            try simp only [Act.put, List.setIfInBounds_toArray, List.set_cons_zero, List.set_cons_succ]
            refine wpAnyH_take (i := 2) (oi := { dst := some 36, op := Op.indexAddr 27 (Operand.tmp 34) (Operand.tmp 35), type := 0, pos := "l07_match.go:180", after := #[{ on := 0, ground := Ground.data }, { on := 1, ground := Ground.data }], guard := none }) (v := .pointer (some ⟨g0, pre.length * 9, none⟩)) rfl (by kernel_rfl) (by kernel_rfl) (by kernel_rfl) (fun _ _ _ h => h) (Or.inl ⟨by rfl, ?_⟩) ⟨x1d, x2d⟩ ?_
            · intro wq hS
              obtain ⟨s1, s2⟩ := hS
              go_simp
            try simp only [Act.put, List.setIfInBounds_toArray, List.set_cons_zero, List.set_cons_succ]
            refine wpAnyH_take (i := 3) (oi := { dst := some 37, op := Op.fieldAddr 48 (Operand.tmp 36) 3, type := 0, pos := "l07_match.go:180", after := #[{ on := 2, ground := Ground.data }], guard := none }) (v := .pointer (some ⟨g0, pre.length * 9 + 8, none⟩)) rfl (by kernel_rfl) (by kernel_rfl) (by kernel_rfl) (fun _ _ _ h => h) (Or.inl ⟨by rfl, ?_⟩) ⟨x1d, x2d⟩ ?_
            · intro wq hS
              obtain ⟨s1, s2⟩ := hS
              go_simp
            try simp only [Act.put, List.setIfInBounds_toArray, List.set_cons_zero, List.set_cons_succ]
            refine wpAnyH_ready (rs := [4, 5, 7]) (by kernel_rfl) (by simp) (AllReadyH.cons (o := { dst := some 38, op := Op.load 27 (Operand.tmp 37), type := 27, pos := "l07_match.go:180", after := #[{ on := 3, ground := Ground.data }], guard := none }) rfl (fun KK hK => ?sa4) (AllReadyH.cons (o := { dst := some 39, op := Op.load 48 (Operand.tmp 11), type := 48, pos := "l07_match.go:180", after := #[], guard := none }) rfl (fun KK hK => ?sa5) (AllReadyH.cons (o := { dst := some 41, op := Op.buildSlice 27 1 #[(0, Operand.const (Value.agg #[Value.string { data := #[] }, Value.int IntKind.i64 0, Value.int IntKind.i64 0, Value.int IntKind.i64 0, Value.int IntKind.i64 0, Value.string { data := #[] }, Value.slice none 0 0, Value.slice none 0 0, Value.slice none 0 0]))], type := 27, pos := "l07_match.go:180", after := #[], guard := none }) rfl (fun KK hK => ?sa7) AllReadyH.nil)))
            case' sa4 =>
              (go_simp; refine hK.out _ _ ⟨x1d, x2d⟩ (fun _ => ?_); clear hK KK; try simp only [Act.put, List.setIfInBounds_toArray, List.set_cons_zero, List.set_cons_succ])
              refine wpAnyH_take (i := 6) (oi := { dst := some 40, op := Op.call { callee := Callee.builtin Builtin.len, args := #[Operand.tmp 38], argTypes := #[27] }, type := 3, pos := "l07_match.go:180", after := #[{ on := 4, ground := Ground.data }], guard := none }) (v := .int .i64 i) rfl (by kernel_rfl) (by kernel_rfl) (by kernel_rfl) (fun _ _ _ h => h) (Or.inl ⟨by rfl, ?_⟩) ⟨x1d, x2d⟩ ?_
              · intro wq hS
                obtain ⟨s1, s2⟩ := hS
                go_simp
              try simp only [Act.put, List.setIfInBounds_toArray, List.set_cons_zero, List.set_cons_succ]
              refine wpAnyH_ready (rs := [5, 7]) (by kernel_rfl) (by simp) (AllReadyH.cons (o := { dst := some 39, op := Op.load 48 (Operand.tmp 11), type := 48, pos := "l07_match.go:180", after := #[], guard := none }) rfl (fun KK hK => ?sb5) (AllReadyH.cons (o := { dst := some 41, op := Op.buildSlice 27 1 #[(0, Operand.const (Value.agg #[Value.string { data := #[] }, Value.int IntKind.i64 0, Value.int IntKind.i64 0, Value.int IntKind.i64 0, Value.int IntKind.i64 0, Value.string { data := #[] }, Value.slice none 0 0, Value.slice none 0 0, Value.slice none 0 0]))], type := 27, pos := "l07_match.go:180", after := #[], guard := none }) rfl (fun KK hK => ?sb7) AllReadyH.nil))
              case' sb5 =>
                (go_simp; refine hK.out _ _ ⟨x1d, x2d⟩ (fun _ => ?_); clear hK KK; try simp only [Act.put, List.setIfInBounds_toArray, List.set_cons_zero, List.set_cons_succ])
                refine wpAnyH_ready (rs := [7]) (by kernel_rfl) (by simp) (AllReadyH.cons (o := { dst := some 41, op := Op.buildSlice 27 1 #[(0, Operand.const (Value.agg #[Value.string { data := #[] }, Value.int IntKind.i64 0, Value.int IntKind.i64 0, Value.int IntKind.i64 0, Value.int IntKind.i64 0, Value.string { data := #[] }, Value.slice none 0 0, Value.slice none 0 0, Value.slice none 0 0]))], type := 27, pos := "l07_match.go:180", after := #[], guard := none }) rfl (fun KK hK => ?sc7) AllReadyH.nil)
                (go_simp; refine hK.out _ _ ⟨x1a _, x2a _⟩ (fun _ => ?_); clear hK KK; try simp only [Act.put, List.setIfInBounds_toArray, List.set_cons_zero, List.set_cons_succ])
              case' sb7 =>
                (go_simp; refine hK.out _ _ ⟨x1a _, x2a _⟩ (fun _ => ?_); clear hK KK; try simp only [Act.put, List.setIfInBounds_toArray, List.set_cons_zero, List.set_cons_succ])
                refine wpAnyH_ready (rs := [5]) (by kernel_rfl) (by simp) (AllReadyH.cons (o := { dst := some 39, op := Op.load 48 (Operand.tmp 11), type := 48, pos := "l07_match.go:180", after := #[], guard := none }) rfl (fun KK hK => ?sd5) AllReadyH.nil)
                (go_simp; refine hK.out _ _ ⟨x1a _, x2a _⟩ (fun _ => ?_); clear hK KK; try simp only [Act.put, List.setIfInBounds_toArray, List.set_cons_zero, List.set_cons_succ])
            case' sa5 =>
              (go_simp; refine hK.out _ _ ⟨x1d, x2d⟩ (fun _ => ?_); clear hK KK; try simp only [Act.put, List.setIfInBounds_toArray, List.set_cons_zero, List.set_cons_succ])
              refine wpAnyH_ready (rs := [4, 7]) (by kernel_rfl) (by simp) (AllReadyH.cons (o := { dst := some 38, op := Op.load 27 (Operand.tmp 37), type := 27, pos := "l07_match.go:180", after := #[{ on := 3, ground := Ground.data }], guard := none }) rfl (fun KK hK => ?se4) (AllReadyH.cons (o := { dst := some 41, op := Op.buildSlice 27 1 #[(0, Operand.const (Value.agg #[Value.string { data := #[] }, Value.int IntKind.i64 0, Value.int IntKind.i64 0, Value.int IntKind.i64 0, Value.int IntKind.i64 0, Value.string { data := #[] }, Value.slice none 0 0, Value.slice none 0 0, Value.slice none 0 0]))], type := 27, pos := "l07_match.go:180", after := #[], guard := none }) rfl (fun KK hK => ?se7) AllReadyH.nil))
              case' se4 =>
                (go_simp; refine hK.out _ _ ⟨x1d, x2d⟩ (fun _ => ?_); clear hK KK; try simp only [Act.put, List.setIfInBounds_toArray, List.set_cons_zero, List.set_cons_succ])
                refine wpAnyH_take (i := 6) (oi := { dst := some 40, op := Op.call { callee := Callee.builtin Builtin.len, args := #[Operand.tmp 38], argTypes := #[27] }, type := 3, pos := "l07_match.go:180", after := #[{ on := 4, ground := Ground.data }], guard := none }) (v := .int .i64 i) rfl (by kernel_rfl) (by kernel_rfl) (by kernel_rfl) (fun _ _ _ h => h) (Or.inl ⟨by rfl, ?_⟩) ⟨x1d, x2d⟩ ?_
                · intro wq hS
                  obtain ⟨s1, s2⟩ := hS
                  go_simp
                try simp only [Act.put, List.setIfInBounds_toArray, List.set_cons_zero, List.set_cons_succ]
                refine wpAnyH_ready (rs := [7]) (by kernel_rfl) (by simp) (AllReadyH.cons (o := { dst := some 41, op := Op.buildSlice 27 1 #[(0, Operand.const (Value.agg #[Value.string { data := #[] }, Value.int IntKind.i64 0, Value.int IntKind.i64 0, Value.int IntKind.i64 0, Value.int IntKind.i64 0, Value.string { data := #[] }, Value.slice none 0 0, Value.slice none 0 0, Value.slice none 0 0]))], type := 27, pos := "l07_match.go:180", after := #[], guard := none }) rfl (fun KK hK => ?sf7) AllReadyH.nil)
                (go_simp; refine hK.out _ _ ⟨x1a _, x2a _⟩ (fun _ => ?_); clear hK KK; try simp only [Act.put, List.setIfInBounds_toArray, List.set_cons_zero, List.set_cons_succ])
              case' se7 =>
                (go_simp; refine hK.out _ _ ⟨x1a _, x2a _⟩ (fun _ => ?_); clear hK KK; try simp only [Act.put, List.setIfInBounds_toArray, List.set_cons_zero, List.set_cons_succ])
                refine wpAnyH_ready (rs := [4]) (by kernel_rfl) (by simp) (AllReadyH.cons (o := { dst := some 38, op := Op.load 27 (Operand.tmp 37), type := 27, pos := "l07_match.go:180", after := #[{ on := 3, ground := Ground.data }], guard := none }) rfl (fun KK hK => ?sg4) AllReadyH.nil)
                (go_simp; refine hK.out _ _ ⟨x1a _, x2a _⟩ (fun _ => ?_); clear hK KK; try simp only [Act.put, List.setIfInBounds_toArray, List.set_cons_zero, List.set_cons_succ])
                refine wpAnyH_take (i := 6) (oi := { dst := some 40, op := Op.call { callee := Callee.builtin Builtin.len, args := #[Operand.tmp 38], argTypes := #[27] }, type := 3, pos := "l07_match.go:180", after := #[{ on := 4, ground := Ground.data }], guard := none }) (v := .int .i64 i) rfl (by kernel_rfl) (by kernel_rfl) (by kernel_rfl) (fun _ _ _ h => h) (Or.inl ⟨by rfl, ?_⟩) ⟨x1a _, x2a _⟩ ?_
                · intro wq hS
                  obtain ⟨s1, s2⟩ := hS
                  go_simp
                try simp only [Act.put, List.setIfInBounds_toArray, List.set_cons_zero, List.set_cons_succ]
            case' sa7 =>
              (go_simp; refine hK.out _ _ ⟨x1a _, x2a _⟩ (fun _ => ?_); clear hK KK; try simp only [Act.put, List.setIfInBounds_toArray, List.set_cons_zero, List.set_cons_succ])
              refine wpAnyH_ready (rs := [4, 5]) (by kernel_rfl) (by simp) (AllReadyH.cons (o := { dst := some 38, op := Op.load 27 (Operand.tmp 37), type := 27, pos := "l07_match.go:180", after := #[{ on := 3, ground := Ground.data }], guard := none }) rfl (fun KK hK => ?sh4) (AllReadyH.cons (o := { dst := some 39, op := Op.load 48 (Operand.tmp 11), type := 48, pos := "l07_match.go:180", after := #[], guard := none }) rfl (fun KK hK => ?sh5) AllReadyH.nil))
              case' sh4 =>
                (go_simp; refine hK.out _ _ ⟨x1a _, x2a _⟩ (fun _ => ?_); clear hK KK; try simp only [Act.put, List.setIfInBounds_toArray, List.set_cons_zero, List.set_cons_succ])
                refine wpAnyH_take (i := 6) (oi := { dst := some 40, op := Op.call { callee := Callee.builtin Builtin.len, args := #[Operand.tmp 38], argTypes := #[27] }, type := 3, pos := "l07_match.go:180", after := #[{ on := 4, ground := Ground.data }], guard := none }) (v := .int .i64 i) rfl (by kernel_rfl) (by kernel_rfl) (by kernel_rfl) (fun _ _ _ h => h) (Or.inl ⟨by rfl, ?_⟩) ⟨x1a _, x2a _⟩ ?_
                · intro wq hS
                  obtain ⟨s1, s2⟩ := hS
                  go_simp
                try simp only [Act.put, List.setIfInBounds_toArray, List.set_cons_zero, List.set_cons_succ]
                refine wpAnyH_ready (rs := [5]) (by kernel_rfl) (by simp) (AllReadyH.cons (o := { dst := some 39, op := Op.load 48 (Operand.tmp 11), type := 48, pos := "l07_match.go:180", after := #[], guard := none }) rfl (fun KK hK => ?si5) AllReadyH.nil)
                (go_simp; refine hK.out _ _ ⟨x1a _, x2a _⟩ (fun _ => ?_); clear hK KK; try simp only [Act.put, List.setIfInBounds_toArray, List.set_cons_zero, List.set_cons_succ])
              case' sh5 =>
                (go_simp; refine hK.out _ _ ⟨x1a _, x2a _⟩ (fun _ => ?_); clear hK KK; try simp only [Act.put, List.setIfInBounds_toArray, List.set_cons_zero, List.set_cons_succ])
                refine wpAnyH_ready (rs := [4]) (by kernel_rfl) (by simp) (AllReadyH.cons (o := { dst := some 38, op := Op.load 27 (Operand.tmp 37), type := 27, pos := "l07_match.go:180", after := #[{ on := 3, ground := Ground.data }], guard := none }) rfl (fun KK hK => ?sj4) AllReadyH.nil)
                (go_simp; refine hK.out _ _ ⟨x1a _, x2a _⟩ (fun _ => ?_); clear hK KK; try simp only [Act.put, List.setIfInBounds_toArray, List.set_cons_zero, List.set_cons_succ])
                refine wpAnyH_take (i := 6) (oi := { dst := some 40, op := Op.call { callee := Callee.builtin Builtin.len, args := #[Operand.tmp 38], argTypes := #[27] }, type := 3, pos := "l07_match.go:180", after := #[{ on := 4, ground := Ground.data }], guard := none }) (v := .int .i64 i) rfl (by kernel_rfl) (by kernel_rfl) (by kernel_rfl) (fun _ _ _ h => h) (Or.inl ⟨by rfl, ?_⟩) ⟨x1a _, x2a _⟩ ?_
                · intro wq hS
                  obtain ⟨s1, s2⟩ := hS
                  go_simp
                try simp only [Act.put, List.setIfInBounds_toArray, List.set_cons_zero, List.set_cons_succ]
            all_goals
              refine wpAnyH_ready (rs := [8]) (by kernel_rfl) (by simp) ?_
              refine AllReadyH.cons (o := { dst := some 42, op := Op.call { callee := Callee.builtin Builtin.append, args := #[Operand.tmp 38, Operand.tmp 41], argTypes := #[27, 27] }, type := 27, pos := "l07_match.go:180", after := #[{ on := 4, ground := Ground.data }, { on := 7, ground := Ground.data }, { on := 0, ground := Ground.phase }, { on := 1, ground := Ground.phase }, { on := 2, ground := Ground.phase }, { on := 3, ground := Ground.phase }, { on := 4, ground := Ground.phase }, { on := 5, ground := Ground.phase }, { on := 6, ground := Ground.phase }, { on := 7, ground := Ground.phase }], guard := none }) rfl (fun KK hK => ?_) AllReadyH.nil
              refine step_append_at (by rfl) (.tmp 38) (.tmp 41) 27 (by rfl) A 48 i0 (.agg #[.string ⟨#[]⟩, .int .i64 0, .int .i64 0, .int .i64 0, .int .i64 0, .string ⟨#[]⟩, .slice none 0 0, .slice none 0 0, .slice none 0 0]) 9 136 Tryz.underlying27 hi0 hz0 hz1 hz2 rfl (by decide) (.slice pj i cj) i (grows (lw pre.length)) (by rfl) (HROW.out _ ((HDB.out.alloc _).drew.drew)) ⟨Wd.heap.size, 0, none⟩ 1 1 [.string ⟨#[]⟩, .int .i64 0, .int .i64 0, .int .i64 0, .int .i64 0, .string ⟨#[]⟩, .slice none 0 0, .slice none 0 0, .slice none 0 0] (by rfl) (by rfl) (World.news_of_block (cs := #[.string ⟨#[]⟩, .int .i64 0, .int .i64 0, .int .i64 0, .int .i64 0, .string ⟨#[]⟩, .slice none 0 0, .slice none 0 0, .slice none 0 0]) (t := 48) (fr := (0, 0)) (heap_alloc_new Wd _)) (by simp [Value.oneCell']) (by unfold maxLen; omega) (by omega) (by have h1 := HSZ.out; have h2 := HDB.out.size; simp; omega) (by decide) ?_
              intro v' w3 hown3 hg3 hwh3
              obtain ⟨g', c', hP⟩ := HPU.out _ ((HDB.out.alloc _).drew.drew) v' w3 _ hown3.out hg3.out hwh3.out
              have hv' := hP.eq
              subst hv'
              have p1 := hP.list
              have p2 := hP.next
              have p2f := hP.nextf
              have p3 := hP.old
              have p3f := hP.oldf
              have n0 := hP.ne0
              have n1 := hP.ne1
              have n2 := hP.ne2
              have n4 := hP.ne4
              have n0' : ¬ g0 = g' := fun e => n0 e.symm
              have n1' : ¬ K + 1 = g' := fun e => n1 e.symm
              have n2' : ¬ K + 1 = g0 := fun e => n2 e.symm
              have p4 : (w3.setCell ⟨g0, pre.length * 9 + 8, none⟩ (.slice (some ⟨g', 0, none⟩) (i + 1) c')).cell? ⟨L, 0, none⟩ = some (.slice (some ⟨g0, 0, none⟩) ns.length cv) := (World.cell?_setCell_other _ _ _ _ (fun e => n4 (by injection e))).trans p1
              have p5 : (w3.setCell ⟨g0, pre.length * 9 + 8, none⟩ (.slice (some ⟨g', 0, none⟩) (i + 1) c')).cell? ⟨K + 1, 0, none⟩ = some (.int .i64 pre.length) := (World.cell?_setCell_other _ _ _ _ (fun e => n2 (by injection e))).trans p2
              have h5 := hP.five (pre.length * 9 + 8) (.slice (some ⟨g', 0, none⟩) (i + 1) c')
              have HFN : Hid (∀ F, F = ((put9 w3 g' (i * 9) ⟨g, .slice a1 g.one.set.length a2, .slice b1 g.one.len b2, .slice c1 g.len c2⟩).setCell ⟨g0, pre.length * 9 + 8, none⟩ (.slice (some ⟨g', 0, none⟩) (i + 1) c')).setCell ⟨K + 1, 0, none⟩ (.int .i64 (pre.length + 1)) → F.heap[M + 1]? = some (.loop (rec .busy none)) ∧ EJ W0 A L l (.slice (some ⟨g0, 0, none⟩) ns.length cv) p (.slice pa p.set.length ca) (.slice pb p.len cb) J pre0 Y marks ns K M rec (gotTo f i) (pre ++ [g]) (F.putObj (M + 1) (.loop (rec .ready none))) Y2 ∧ Keeps Y2 W (F.putObj (M + 1) (.loop (rec .ready none)))) := HDN9.out _ ((HDB.out.alloc _).drew.drew) g' c' w3 hP hown3.out hg3.out hwh3.out
              clear hP hown3 hg3 hwh3
              refine hK.out _ _ ⟨p1, p2⟩ (fun _ => ?_)
              clear hK KK
              try simp only [Act.put, List.setIfInBounds_toArray, List.set_cons_zero, List.set_cons_succ]
              refine wpAnyH_take (i := 9) (oi := { dst := some 43, op := Op.indexAddr 27 (Operand.tmp 34) (Operand.tmp 35), type := 0, pos := "l07_match.go:180", after := #[{ on := 0, ground := Ground.data }, { on := 1, ground := Ground.data }, { on := 0, ground := Ground.phase }, { on := 1, ground := Ground.phase }, { on := 2, ground := Ground.phase }, { on := 3, ground := Ground.phase }, { on := 4, ground := Ground.phase }, { on := 5, ground := Ground.phase }, { on := 6, ground := Ground.phase }, { on := 7, ground := Ground.phase }, { on := 8, ground := Ground.phase }], guard := none }) (v := .pointer (some ⟨g0, pre.length * 9, none⟩)) rfl (by kernel_rfl) (by kernel_rfl) (by kernel_rfl) (fun _ _ _ h => h) (Or.inl ⟨by rfl, ?_⟩) ⟨p1, p2⟩ ?_
              · intro wq hS
                obtain ⟨s1, s2⟩ := hS
                go_simp
              try simp only [Act.put, List.setIfInBounds_toArray, List.set_cons_zero, List.set_cons_succ]
              refine wpAnyH_take (i := 10) (oi := { dst := some 44, op := Op.fieldAddr 48 (Operand.tmp 43) 3, type := 0, pos := "l07_match.go:180", after := #[{ on := 9, ground := Ground.data }, { on := 0, ground := Ground.phase }, { on := 1, ground := Ground.phase }, { on := 2, ground := Ground.phase }, { on := 3, ground := Ground.phase }, { on := 4, ground := Ground.phase }, { on := 5, ground := Ground.phase }, { on := 6, ground := Ground.phase }, { on := 7, ground := Ground.phase }, { on := 8, ground := Ground.phase }], guard := none }) (v := .pointer (some ⟨g0, pre.length * 9 + 8, none⟩)) rfl (by kernel_rfl) (by kernel_rfl) (by kernel_rfl) (fun _ _ _ h => h) (Or.inl ⟨by rfl, ?_⟩) ⟨p1, p2⟩ ?_
              · intro wq hS
                obtain ⟨s1, s2⟩ := hS
                go_simp
              try simp only [Act.put, List.setIfInBounds_toArray, List.set_cons_zero, List.set_cons_succ]
              refine wpAnyH_ready (rs := [11]) (by kernel_rfl) (by simp) ?_
              refine AllReadyH.cons (o := { dst := none, op := Op.store 27 (Operand.tmp 44) (Operand.tmp 42), type := 0, pos := "l07_match.go:180", after := #[{ on := 10, ground := Ground.data }, { on := 8, ground := Ground.data }, { on := 8, ground := Ground.chain }, { on := 0, ground := Ground.phase }, { on := 1, ground := Ground.phase }, { on := 2, ground := Ground.phase }, { on := 3, ground := Ground.phase }, { on := 4, ground := Ground.phase }, { on := 5, ground := Ground.phase }, { on := 6, ground := Ground.phase }, { on := 7, ground := Ground.phase }, { on := 8, ground := Ground.phase }], guard := none }) rfl (fun KK hK => ?_) AllReadyH.nil
              (go_simp; refine hK.out _ _ ⟨p4, p5⟩ (fun _ => ?_); clear hK KK; try simp only [Act.put, List.setIfInBounds_toArray, List.set_cons_zero, List.set_cons_succ])
              refine wpAnyH_done (by kernel_rfl) ?_ _
              clear x1d x2d x3d y0d y1d y2d y3d y4d y5d y6d y7d y8d x1a x2a x3a y0a y1a y2a y3a y4a y5a y6a y7a y8a
              rw [← put9_comm w3 g' (i * 9) ⟨g, .slice a1 g.one.set.length a2, .slice b1 g.one.len b2, .slice c1 g.len c2⟩ g0 (pre.length * 9 + 8) (.slice (some ⟨g', 0, none⟩) (i + 1) c') n0'] at HFN
              obtain ⟨w5, hw5⟩ : ∃ x, x = w3.setCell ⟨g0, pre.length * 9 + 8, none⟩ (.slice (some ⟨g', 0, none⟩) (i + 1) c') := ⟨_, rfl⟩
              rw [← hw5] at HFN h5 ⊢
              obtain ⟨u0, hu0⟩ := h5.cells 0 (by omega)
              obtain ⟨u1, hu1⟩ := h5.cells 1 (by omega)
              obtain ⟨u2, hu2⟩ := h5.cells 2 (by omega)
              obtain ⟨u3, hu3⟩ := h5.cells 3 (by omega)
              obtain ⟨u4, hu4⟩ := h5.cells 4 (by omega)
              obtain ⟨u5, hu5⟩ := h5.cells 5 (by omega)
              obtain ⟨u6, hu6⟩ := h5.cells 6 (by omega)
              obtain ⟨u7, hu7⟩ := h5.cells 7 (by omega)
              obtain ⟨u8, hu8⟩ := h5.cells 8 (by omega)
              rw [Nat.add_zero] at hu0
              have hlv := h5.live
              have hb6 : (((((((((w5.setCell ⟨g', i * 9, none⟩ (.string g.name)).setCell ⟨g', i * 9 + 1, none⟩ (.int .i64 g.deep)).setCell ⟨g', i * 9 + 2, none⟩ (.int .i64 g.one.op)).setCell ⟨g', i * 9 + 3, none⟩ (.int .i64 g.one.at_)).setCell ⟨g', i * 9 + 4, none⟩ (.int .i64 g.one.n)).setCell ⟨g', i * 9 + 5, none⟩ (.string g.one.s)).setCell ⟨g', i * 9 + 6, none⟩ (.slice a1 g.one.set.length a2)).setCell ⟨g', i * 9 + 7, none⟩ (.slice b1 g.one.len b2)).setCell ⟨g', i * 9 + 8, none⟩ (.slice c1 g.len c2)).heap[K + 1]? = some (.cells #[.int .i64 pre.length] 3) := (put9_other w5 g' (i * 9) ⟨g, .slice a1 g.one.set.length a2, .slice b1 g.one.len b2, .slice c1 g.len c2⟩ (K + 1) n1').trans h5.box
              have HFN6 : Hid (∀ F, F = (((((((((w5.setCell ⟨g', i * 9, none⟩ (.string g.name)).setCell ⟨g', i * 9 + 1, none⟩ (.int .i64 g.deep)).setCell ⟨g', i * 9 + 2, none⟩ (.int .i64 g.one.op)).setCell ⟨g', i * 9 + 3, none⟩ (.int .i64 g.one.at_)).setCell ⟨g', i * 9 + 4, none⟩ (.int .i64 g.one.n)).setCell ⟨g', i * 9 + 5, none⟩ (.string g.one.s)).setCell ⟨g', i * 9 + 6, none⟩ (.slice a1 g.one.set.length a2)).setCell ⟨g', i * 9 + 7, none⟩ (.slice b1 g.one.len b2)).setCell ⟨g', i * 9 + 8, none⟩ (.slice c1 g.len c2)).setCell ⟨K + 1, 0, none⟩ (.int .i64 (pre.length + 1)) → F.heap[M + 1]? = some (.loop (rec .busy none)) ∧ EJ W0 A L l (.slice (some ⟨g0, 0, none⟩) ns.length cv) p (.slice pa p.set.length ca) (.slice pb p.len cb) J pre0 Y marks ns K M rec (gotTo f i) (pre ++ [g]) (F.putObj (M + 1) (.loop (rec .ready none))) Y2 ∧ Keeps Y2 W (F.putObj (M + 1) (.loop (rec .ready none)))) := HFN
              clear h5 hw5 p1 p2 p2f p3 p3f p4 p5 HET HROW HPU HDN HDN9 HDB HSZ HEW HG HH HFN
              iterate 7 (first | go_values | gi_guarded | gi_step | gi_upon | gi_in | gi_back)
              go_simp
              obtain ⟨w6, hw6⟩ : ∃ x, x = (((((((((w5.setCell ⟨g', i * 9, none⟩ (.string g.name)).setCell ⟨g', i * 9 + 1, none⟩ (.int .i64 g.deep)).setCell ⟨g', i * 9 + 2, none⟩ (.int .i64 g.one.op)).setCell ⟨g', i * 9 + 3, none⟩ (.int .i64 g.one.at_)).setCell ⟨g', i * 9 + 4, none⟩ (.int .i64 g.one.n)).setCell ⟨g', i * 9 + 5, none⟩ (.string g.one.s)).setCell ⟨g', i * 9 + 6, none⟩ (.slice a1 g.one.set.length a2)).setCell ⟨g', i * 9 + 7, none⟩ (.slice b1 g.one.len b2)).setCell ⟨g', i * 9 + 8, none⟩ (.slice c1 g.len c2)) := ⟨_, rfl⟩
              rw [← hw6] at hb6 HFN6 ⊢
              have hnx := cell_of_row w6 _ 0 _ _ _ hb6
              have hnf := frozen_of_row w6 _ 0 _ _ hb6
              clear hw6 hb6 hlv hu0 hu1 hu2 hu3 hu4 hu5 hu6 hu7 hu8
              gi_wp2
              obtain ⟨q1, q2, q3⟩ := HFN6.out _ rfl
              exact ⟨q1, rfl, q2, q3⟩
          case' tb1 =>
            obtain ⟨Wd, hWd⟩ : ∃ x, x = Wc.alloc (.cells #[.bool false] 4) := ⟨_, rfl⟩
            have keep : ∀ a v, Wc.cell? a = some v → Wd.cell? a = some v := by rw [hWd]; exact fun a v h => keepsX (newx Wc _) a v h
            have HDB : Hid (But (fun _ => False) Wc Wd) := by rw [hWd]; exact But.of_all (newx Wc _)
            have x1d := keep _ _ x1
            have x2d := keep _ _ x2
            have x3d := keep _ _ x3
            have y0d := keep _ _ y0
            have y1d := keep _ _ y1
            have y2d := keep _ _ y2
            have y3d := keep _ _ y3
            have y4d := keep _ _ y4
            have y5d := keep _ _ y5
            have y6d := keep _ _ y6
            have y7d := keep _ _ y7
            have y8d := keep _ _ y8
            rw [← hWd]
            clear hWd keep x1 x2 x2f x3 y0 y1 y2 y3 y4 y5 y6 y7 y8
            have xa : ∀ o a v, Wd.cell? a = some v → (Wd.alloc o).cell? a = some v := fun o a v h => keepsX (newx Wd o) a v h
            have x1a := fun o => xa o _ _ x1d
            have x2a := fun o => xa o _ _ x2d
            have x3a := fun o => xa o _ _ x3d
            have y0a := fun o => xa o _ _ y0d
            have y1a := fun o => xa o _ _ y1d
            have y2a := fun o => xa o _ _ y2d
            have y3a := fun o => xa o _ _ y3d
            have y4a := fun o => xa o _ _ y4d
            have y5a := fun o => xa o _ _ y5d
            have y6a := fun o => xa o _ _ y6d
            have y7a := fun o => xa o _ _ y7d
            have y8a := fun o => xa o _ _ y8d
            clear xa
            refine wpIn_round_held (S := (fun wq => wq.cell? ⟨L, 0, none⟩ = some (.slice (some ⟨g0, 0, none⟩) ns.length cv) ∧ wq.cell? ⟨K + 1, 0, none⟩ = some (.int .i64 pre.length))) (sz := 13) (by kernel_rfl) (by kernel_rfl) rfl (fun _ _ h => ?_) (fun _ => ?_) ⟨x1d, x2d⟩
            · exact (h : False)
            refine wpAnyH_take (i := 0) (oi := { dst := some 46, op := Op.load 27 (Operand.tmp 7), type := 27, pos := "l07_match.go:180", after := #[], guard := none }) (v := .slice (some ⟨g0, 0, none⟩) ns.length cv) rfl (by kernel_rfl) (by kernel_rfl) (by kernel_rfl) (fun _ _ _ h => h) (Or.inl ⟨by rfl, ?_⟩) ⟨x1d, x2d⟩ ?_
            · intro wq hS
              obtain ⟨s1, s2⟩ := hS
              go_simp
            try simp only [Act.put, List.setIfInBounds_toArray, List.set_cons_zero, List.set_cons_succ]
            refine wpAnyH_take (i := 1) (oi := { dst := some 47, op := Op.load 3 (Operand.tmp 10), type := 3, pos := "l07_match.go:180", after := #[], guard := none }) (v := .int .i64 pre.length) rfl (by kernel_rfl) (by kernel_rfl) (by kernel_rfl) (fun _ _ _ h => h) (Or.inl ⟨by rfl, ?_⟩) ⟨x1d, x2d⟩ ?_
            · intro wq hS
              obtain ⟨s1, s2⟩ := hS
              go_simp
            try simp only [Act.put, List.setIfInBounds_toArray, List.set_cons_zero, List.set_cons_succ]
            refine wpAnyH_take (i := 2) (oi := { dst := some 48, op := Op.load 27 (Operand.tmp 7), type := 27, pos := "l07_match.go:180", after := #[], guard := none }) (v := .slice (some ⟨g0, 0, none⟩) ns.length cv) rfl (by kernel_rfl) (by kernel_rfl) (by kernel_rfl) (fun _ _ _ h => h) (Or.inl ⟨by rfl, ?_⟩) ⟨x1d, x2d⟩ ?_
            · intro wq hS
              obtain ⟨s1, s2⟩ := hS
              go_simp
            try simp only [Act.put, List.setIfInBounds_toArray, List.set_cons_zero, List.set_cons_succ]
            refine wpAnyH_take (i := 3) (oi := { dst := some 49, op := Op.load 3 (Operand.tmp 10), type := 3, pos := "l07_match.go:180", after := #[], guard := none }) (v := .int .i64 pre.length) rfl (by kernel_rfl) (by kernel_rfl) (by kernel_rfl) (fun _ _ _ h => h) (Or.inl ⟨by rfl, ?_⟩) ⟨x1d, x2d⟩ ?_
            · intro wq hS
              obtain ⟨s1, s2⟩ := hS
              go_simp
            try simp only [Act.put, List.setIfInBounds_toArray, List.set_cons_zero, List.set_cons_succ]
            refine wpAnyH_take (i := 4) (oi := { dst := some 50, op := Op.indexAddr 27 (Operand.tmp 48) (Operand.tmp 49), type := 0, pos := "l07_match.go:180", after := #[{ on := 2, ground := Ground.data }, { on := 3, ground := Ground.data }], guard := none }) (v := .pointer (some ⟨g0, pre.length * 9, none⟩)) rfl (by kernel_rfl) (by kernel_rfl) (by kernel_rfl) (fun _ _ _ h => h) (Or.inl ⟨by rfl, ?_⟩) ⟨x1d, x2d⟩ ?_
            · intro wq hS
              obtain ⟨s1, s2⟩ := hS
              go_simp
            try simp only [Act.put, List.setIfInBounds_toArray, List.set_cons_zero, List.set_cons_succ]
            refine wpAnyH_take (i := 5) (oi := { dst := some 51, op := Op.fieldAddr 48 (Operand.tmp 50) 3, type := 0, pos := "l07_match.go:180", after := #[{ on := 4, ground := Ground.data }], guard := none }) (v := .pointer (some ⟨g0, pre.length * 9 + 8, none⟩)) rfl (by kernel_rfl) (by kernel_rfl) (by kernel_rfl) (fun _ _ _ h => h) (Or.inl ⟨by rfl, ?_⟩) ⟨x1d, x2d⟩ ?_
            · intro wq hS
              obtain ⟨s1, s2⟩ := hS
              go_simp
            try simp only [Act.put, List.setIfInBounds_toArray, List.set_cons_zero, List.set_cons_succ]
            refine wpAnyH_ready (rs := [6, 7]) (by kernel_rfl) (by simp) (AllReadyH.cons (o := { dst := some 52, op := Op.load 27 (Operand.tmp 51), type := 27, pos := "l07_match.go:180", after := #[{ on := 5, ground := Ground.data }], guard := none }) rfl (fun KK hK => ?ra6) (AllReadyH.cons (o := { dst := some 53, op := Op.load 48 (Operand.tmp 11), type := 48, pos := "l07_match.go:180", after := #[], guard := none }) rfl (fun KK hK => ?ra7) AllReadyH.nil))
            case' ra6 =>
              (go_simp; refine hK.out _ _ ⟨x1d, x2d⟩ (fun _ => ?_); clear hK KK; try simp only [Act.put, List.setIfInBounds_toArray, List.set_cons_zero, List.set_cons_succ])
              refine wpAnyH_ready (rs := [7]) (by kernel_rfl) (by simp) (AllReadyH.cons (o := { dst := some 53, op := Op.load 48 (Operand.tmp 11), type := 48, pos := "l07_match.go:180", after := #[], guard := none }) rfl (fun KK hK => ?rb7) AllReadyH.nil)
              (go_simp; refine hK.out _ _ ⟨x1d, x2d⟩ (fun _ => ?_); clear hK KK; try simp only [Act.put, List.setIfInBounds_toArray, List.set_cons_zero, List.set_cons_succ])
              refine wpAnyH_ready (rs := [8]) (by kernel_rfl) (by simp) (AllReadyH.cons (o := { dst := some 54, op := Op.buildSlice 27 1 #[(0, Operand.tmp 53)], type := 27, pos := "l07_match.go:180", after := #[{ on := 7, ground := Ground.data }], guard := none }) rfl (fun KK hK => ?rc8) AllReadyH.nil)
              (go_simp; refine hK.out _ _ ⟨x1a _, x2a _⟩ (fun _ => ?_); clear hK KK; try simp only [Act.put, List.setIfInBounds_toArray, List.set_cons_zero, List.set_cons_succ])
            case' ra7 =>
              (go_simp; refine hK.out _ _ ⟨x1d, x2d⟩ (fun _ => ?_); clear hK KK; try simp only [Act.put, List.setIfInBounds_toArray, List.set_cons_zero, List.set_cons_succ])
              refine wpAnyH_ready (rs := [6, 8]) (by kernel_rfl) (by simp) (AllReadyH.cons (o := { dst := some 52, op := Op.load 27 (Operand.tmp 51), type := 27, pos := "l07_match.go:180", after := #[{ on := 5, ground := Ground.data }], guard := none }) rfl (fun KK hK => ?rd6) (AllReadyH.cons (o := { dst := some 54, op := Op.buildSlice 27 1 #[(0, Operand.tmp 53)], type := 27, pos := "l07_match.go:180", after := #[{ on := 7, ground := Ground.data }], guard := none }) rfl (fun KK hK => ?rd8) AllReadyH.nil))
              case' rd6 =>
                (go_simp; refine hK.out _ _ ⟨x1d, x2d⟩ (fun _ => ?_); clear hK KK; try simp only [Act.put, List.setIfInBounds_toArray, List.set_cons_zero, List.set_cons_succ])
                refine wpAnyH_ready (rs := [8]) (by kernel_rfl) (by simp) (AllReadyH.cons (o := { dst := some 54, op := Op.buildSlice 27 1 #[(0, Operand.tmp 53)], type := 27, pos := "l07_match.go:180", after := #[{ on := 7, ground := Ground.data }], guard := none }) rfl (fun KK hK => ?re8) AllReadyH.nil)
                (go_simp; refine hK.out _ _ ⟨x1a _, x2a _⟩ (fun _ => ?_); clear hK KK; try simp only [Act.put, List.setIfInBounds_toArray, List.set_cons_zero, List.set_cons_succ])
              case' rd8 =>
                (go_simp; refine hK.out _ _ ⟨x1a _, x2a _⟩ (fun _ => ?_); clear hK KK; try simp only [Act.put, List.setIfInBounds_toArray, List.set_cons_zero, List.set_cons_succ])
                refine wpAnyH_ready (rs := [6]) (by kernel_rfl) (by simp) (AllReadyH.cons (o := { dst := some 52, op := Op.load 27 (Operand.tmp 51), type := 27, pos := "l07_match.go:180", after := #[{ on := 5, ground := Ground.data }], guard := none }) rfl (fun KK hK => ?rf6) AllReadyH.nil)
                (go_simp; refine hK.out _ _ ⟨x1a _, x2a _⟩ (fun _ => ?_); clear hK KK; try simp only [Act.put, List.setIfInBounds_toArray, List.set_cons_zero, List.set_cons_succ])
            all_goals
              refine wpAnyH_ready (rs := [9]) (by kernel_rfl) (by simp) ?_
              refine AllReadyH.cons (o := { dst := some 55, op := Op.call { callee := Callee.builtin Builtin.append, args := #[Operand.tmp 52, Operand.tmp 54], argTypes := #[27, 27] }, type := 27, pos := "l07_match.go:180", after := #[{ on := 6, ground := Ground.data }, { on := 8, ground := Ground.data }], guard := none }) rfl (fun KK hK => ?_) AllReadyH.nil
              refine step_append_at (by rfl) (.tmp 52) (.tmp 54) 27 (by rfl) A 48 i0 (.agg #[.string ⟨#[]⟩, .int .i64 0, .int .i64 0, .int .i64 0, .int .i64 0, .string ⟨#[]⟩, .slice none 0 0, .slice none 0 0, .slice none 0 0]) 9 136 Tryz.underlying27 hi0 hz0 hz1 hz2 rfl (by decide) (.slice pj i cj) i (grows (lw pre.length)) (by rfl) (HROW.out _ ((HDB.out.alloc _).drew.drew)) ⟨Wd.heap.size, 0, none⟩ 1 1 [.string g.name, .int .i64 g.deep, .int .i64 g.one.op, .int .i64 g.one.at_, .int .i64 g.one.n, .string g.one.s, .slice a1 g.one.set.length a2, .slice b1 g.one.len b2, .slice c1 g.len c2] (by rfl) (by rfl) (World.news_of_block (cs := #[.string g.name, .int .i64 g.deep, .int .i64 g.one.op, .int .i64 g.one.at_, .int .i64 g.one.n, .string g.one.s, .slice a1 g.one.set.length a2, .slice b1 g.one.len b2, .slice c1 g.len c2]) (t := 48) (fr := (0, 0)) (heap_alloc_new Wd _)) (by simp [Value.oneCell']) (by unfold maxLen; omega) (by omega) (by have h1 := HSZ.out; have h2 := HDB.out.size; simp; omega) (by decide) ?_
              intro v' w3 hown3 hg3 hwh3
              obtain ⟨g', c', hP⟩ := HPU.out _ ((HDB.out.alloc _).drew.drew) v' w3 _ hown3.out hg3.out hwh3.out
              have hv' := hP.eq
              subst hv'
              have p1 := hP.list
              have p2 := hP.next
              have p2f := hP.nextf
              have p3 := hP.old
              have p3f := hP.oldf
              have n0 := hP.ne0
              have n1 := hP.ne1
              have n2 := hP.ne2
              have n4 := hP.ne4
              have n0' : ¬ g0 = g' := fun e => n0 e.symm
              have n1' : ¬ K + 1 = g' := fun e => n1 e.symm
              have n2' : ¬ K + 1 = g0 := fun e => n2 e.symm
              have p4 : (w3.setCell ⟨g0, pre.length * 9 + 8, none⟩ (.slice (some ⟨g', 0, none⟩) (i + 1) c')).cell? ⟨L, 0, none⟩ = some (.slice (some ⟨g0, 0, none⟩) ns.length cv) := (World.cell?_setCell_other _ _ _ _ (fun e => n4 (by injection e))).trans p1
              have p5 : (w3.setCell ⟨g0, pre.length * 9 + 8, none⟩ (.slice (some ⟨g', 0, none⟩) (i + 1) c')).cell? ⟨K + 1, 0, none⟩ = some (.int .i64 pre.length) := (World.cell?_setCell_other _ _ _ _ (fun e => n2 (by injection e))).trans p2
              have HFN : Hid (∀ F, F = ((w3).setCell ⟨g0, pre.length * 9 + 8, none⟩ (.slice (some ⟨g', 0, none⟩) (i + 1) c')).setCell ⟨K + 1, 0, none⟩ (.int .i64 (pre.length + 1)) → F.heap[M + 1]? = some (.loop (rec .busy none)) ∧ EJ W0 A L l (.slice (some ⟨g0, 0, none⟩) ns.length cv) p (.slice pa p.set.length ca) (.slice pb p.len cb) J pre0 Y marks ns K M rec (gotTo f i) (pre ++ [g]) (F.putObj (M + 1) (.loop (rec .ready none))) Y2 ∧ Keeps Y2 W (F.putObj (M + 1) (.loop (rec .ready none)))) := fun F hF => HDN.out _ ((HDB.out.alloc _).drew.drew) g' c' _ w3 w3 hP (by rw [grows_snoc]; exact hown3.out) ((But.refl _ _).grown hg3.out (fun k hk => .inr hk)) hwh3.out F hF
              clear hP hown3 hg3 hwh3
              refine hK.out _ _ ⟨p1, p2⟩ (fun _ => ?_)
              clear hK KK
              try simp only [Act.put, List.setIfInBounds_toArray, List.set_cons_zero, List.set_cons_succ]
              refine wpAnyH_take (i := 10) (oi := { dst := some 56, op := Op.indexAddr 27 (Operand.tmp 46) (Operand.tmp 47), type := 0, pos := "l07_match.go:180", after := #[{ on := 0, ground := Ground.data }, { on := 1, ground := Ground.data }, { on := 0, ground := Ground.phase }, { on := 1, ground := Ground.phase }, { on := 2, ground := Ground.phase }, { on := 3, ground := Ground.phase }, { on := 4, ground := Ground.phase }, { on := 5, ground := Ground.phase }, { on := 6, ground := Ground.phase }, { on := 7, ground := Ground.phase }, { on := 8, ground := Ground.phase }, { on := 9, ground := Ground.phase }], guard := none }) (v := .pointer (some ⟨g0, pre.length * 9, none⟩)) rfl (by kernel_rfl) (by kernel_rfl) (by kernel_rfl) (fun _ _ _ h => h) (Or.inl ⟨by rfl, ?_⟩) ⟨p1, p2⟩ ?_
              · intro wq hS
                obtain ⟨s1, s2⟩ := hS
                go_simp
              try simp only [Act.put, List.setIfInBounds_toArray, List.set_cons_zero, List.set_cons_succ]
              refine wpAnyH_take (i := 11) (oi := { dst := some 57, op := Op.fieldAddr 48 (Operand.tmp 56) 3, type := 0, pos := "l07_match.go:180", after := #[{ on := 10, ground := Ground.data }, { on := 0, ground := Ground.phase }, { on := 1, ground := Ground.phase }, { on := 2, ground := Ground.phase }, { on := 3, ground := Ground.phase }, { on := 4, ground := Ground.phase }, { on := 5, ground := Ground.phase }, { on := 6, ground := Ground.phase }, { on := 7, ground := Ground.phase }, { on := 8, ground := Ground.phase }, { on := 9, ground := Ground.phase }], guard := none }) (v := .pointer (some ⟨g0, pre.length * 9 + 8, none⟩)) rfl (by kernel_rfl) (by kernel_rfl) (by kernel_rfl) (fun _ _ _ h => h) (Or.inl ⟨by rfl, ?_⟩) ⟨p1, p2⟩ ?_
              · intro wq hS
                obtain ⟨s1, s2⟩ := hS
                go_simp
              try simp only [Act.put, List.setIfInBounds_toArray, List.set_cons_zero, List.set_cons_succ]
              refine wpAnyH_ready (rs := [12]) (by kernel_rfl) (by simp) ?_
              refine AllReadyH.cons (o := { dst := none, op := Op.store 27 (Operand.tmp 57) (Operand.tmp 55), type := 0, pos := "l07_match.go:180", after := #[{ on := 11, ground := Ground.data }, { on := 9, ground := Ground.data }, { on := 9, ground := Ground.chain }, { on := 0, ground := Ground.phase }, { on := 1, ground := Ground.phase }, { on := 2, ground := Ground.phase }, { on := 3, ground := Ground.phase }, { on := 4, ground := Ground.phase }, { on := 5, ground := Ground.phase }, { on := 6, ground := Ground.phase }, { on := 7, ground := Ground.phase }, { on := 8, ground := Ground.phase }, { on := 9, ground := Ground.phase }], guard := none }) rfl (fun KK hK => ?_) AllReadyH.nil
              (go_simp; refine hK.out _ _ ⟨p4, p5⟩ (fun _ => ?_); clear hK KK; try simp only [Act.put, List.setIfInBounds_toArray, List.set_cons_zero, List.set_cons_succ])
              refine wpAnyH_done (by kernel_rfl) ?_ _
              clear x1d x2d x3d y0d y1d y2d y3d y4d y5d y6d y7d y8d x1a x2a x3a y0a y1a y2a y3a y4a y5a y6a y7a y8a
              gi_wp2
              obtain ⟨q1, q2, q3⟩ := HFN.out _ rfl
              exact ⟨q1, rfl, q2, q3⟩
        case misfit =>
          intro pre W Y2 h
          show YieldAt Fence.wide 0 Tryz.prog (M + 1) #[.agg #[.string ⟨#[]⟩, .int .i64 0, .int .i64 0, .int .i64 0, .int .i64 0, .string ⟨#[]⟩, .slice none 0 0, .slice none 0 0, .slice none 0 0], .bool false] W _
          obtain ⟨g1, Wc, hWc, g2, g3, g4, g5⟩ := busy_of h.loop h.size (.cells #[.string ⟨#[]⟩, .int .i64 0, .int .i64 0, .int .i64 0, .int .i64 0, .string ⟨#[]⟩, .slice none 0 0, .slice none 0 0, .slice none 0 0] 48)
          have hefc := h.ef.step HTJ.out.stab g2 (fun k hk => ⟨by omega, by omega, fun hr => by have := hmK k hr; omega⟩)
          have t1 := cell_of_row Wc _ 0 _ _ _ hefc.tbox
          have HC : Hid (Calls Tryz.prog 62 #[.func (.yield l) #[] #[]] Wc fun e W' => e = .returned (.bool false) ∧ Jx W' (fun k => Y k ∨ (A ≤ k ∧ k < Wc.heap.size)) ∧ Keeps (fun k => Y k ∨ (A ≤ k ∧ k < Wc.heap.size)) Wc W') := tell_misfit HTJ.out pre0 Wc _ hefc.outer
          have HLP : Hid ((W.alloc (.cells #[.string ⟨#[]⟩, .int .i64 0, .int .i64 0, .int .i64 0, .int .i64 0, .string ⟨#[]⟩, .slice none 0 0, .slice none 0 0, .slice none 0 0] 48)).heap[M + 1]? = some (.loop (rec .ready none))) := g1
          have HEN : Hid (∀ W', Jx W' (fun k => Y k ∨ (A ≤ k ∧ k < Wc.heap.size)) → Keeps (fun k => Y k ∨ (A ≤ k ∧ k < Wc.heap.size)) Wc W' → W'.heap[A + 2]? = some (.cells #[.bool false] 4) ∧ ∀ F, F = W'.setCell ⟨A + 2, 0, none⟩ (.bool false) → F.heap[M + 1]? = some (.loop (rec .busy none)) ∧ EX A Jx Y marks M rec (F.putObj (M + 1) (.loop (rec .done (some .ret)))) Y2 ∧ Keeps Y2 W (F.putObj (M + 1) (.loop (rec .done (some .ret))))) :=
            fun W' h1 h2 => ex_of HTJ.out.stabx (by omega) (fun r hr => ⟨HER.out.2.2.2.1 r hr, by have := hmK r hr; omega, fun e => by
              have h7 := h.ef.marks r hr
              rw [e, h.ef.rbox] at h7
              cases h7⟩) h.ef.rbox h.ef.marks h.defs h.own h.size g2 g4 h1 h2
          refine yieldAt_of hrec h.loop rfl ?_
          clear hrec h g1 g2 g3 g4 g5 hefc b3 d3 l3 s3 hj0 hsA hsB u0 u1 usz ub hM hW4 W4 hVs hK hbW HV HEF HER
          gi_wp2
          refine ⟨HLP.out, ?_⟩
          rw [hWc]
          clear hWc
          gi_wp2
          refine ⟨trivial, rfl, CallsIn.inRound _ (callsIn_wide.2 (HC.out.mono ?_))⟩
          rintro e W' ⟨rfl, hx1, hx2⟩
          obtain ⟨n1, n2⟩ := HEN.out W' hx1 hx2
          have r1 := cell_of_row W' _ 0 _ _ _ n1
          have r1f := frozen_of_row W' _ 0 _ _ n1
          have HN2 := hid_of n2
          clear hx1 hx2 n1 n2
          gi_wp2
          obtain ⟨q1, q2, q3⟩ := HN2.out _ rfl
          exact ⟨q1, rfl, q2, q3⟩
      refine (gots_iter HT.out TJ HP.out.1 HIN.out hsA hsB (HP.out.2.2.1 i (by omega)).1 (HP.out.2.2.1 i (by omega)).2 HP.out.2.2.2.1 HP.out.2.2.2.2.1 hj0 (by rw [HNS.out]; simp)).mono ?_
      rintro e W5 ⟨he, (⟨lst, hms, hj5⟩ | ⟨hms, hx5⟩)⟩
      · refine ⟨he, .inl ⟨hj5.loop, ?_⟩⟩
        have hfi : f i = some lst := by rw [HF.out]; exact hms
        have hln : lst.length = ns.length := by rw [HNS.out]; exact matchG_len _ _ _ HP.out.2.2.2.2.1 hms
        obtain ⟨W6, hW6⟩ : ∃ W6, W5.putObj (M + 1) (.loop (rec .exhausted none)) = W6 := ⟨_, rfl⟩
        rw [hW6]
        have hbp : But (fun k => k = M + 1) W5 W6 := by rw [← hW6]; exact (But.refl (fun k => k = M + 1) W5).putObj (.inr rfl) _
        obtain ⟨gv5, ll5, SS5, her5, hbk5⟩ := hj5.rows
        simp only [List.nil_append] at her5
        have HNEW : Hid (EF W0 A L l (.slice pv ns.length cv) p (.slice pa p.set.length ca) (.slice pb p.len cb) J pre0 Y (M :: marks) W6 ∧ (∀ r ∈ M :: marks, A ≤ r) ∧ (M :: marks).Nodup ∧ (∀ t, t < i + 1 → (f t).isSome = true) ∧ ∃ gv ll SSs, ER W6 A (.slice pv ns.length cv) ns (gotTo f (i + 1)) gv ll SSs ∧ ∀ k, ((Value.slice pv ns.length cv).ownBlock = some k ∨ ∃ j, j < ns.length ∧ k ∈ blG (gv j) (SSs j)) → A + 3 ≤ k ∧ k ≠ L ∧ k ∉ M :: marks) := by
          have hef6 := hj5.ef.step HTJ.out.stab hbp (fun k hk => ⟨by omega, by omega, fun hr => by have := hmK k hr; omega⟩)
          refine ⟨⟨hef6.pbox, hef6.tbox, hef6.rbox, hef6.lbox, hef6.below, hef6.outer, fun r hr => ?_, hef6.le⟩, fun r hr => ?_, List.nodup_cons.2 ⟨fun hr => by have := hmK M hr; omega, HER.out.2.2.2.2⟩, fun t ht => ?_, gv5, ll5, SS5, (her5.same (fun k hk => hbp.block k (her5.lt hk).2 (by have := hbk5 k hk; omega))).congr (fun j hj => gotTo_succ f i lst hfi _ hln hj), fun k hk => ?_⟩
          · rcases List.mem_cons.1 hr with rfl | hr
            · exact hbp.at hj5.defs (by omega)
            · exact hef6.marks r hr
          · rcases List.mem_cons.1 hr with rfl | hr
            · omega
            · exact HER.out.2.2.2.1 r hr
          · rcases Nat.lt_or_ge t i with h1 | h1
            · exact HER.out.2.2.1 t h1
            · have : t = i := by omega
              rw [this, hfi]; rfl
          · have h1 := hbk5 k hk
            refine ⟨h1.1, h1.2.1, fun hr => ?_⟩
            rcases List.mem_cons.1 hr with rfl | hr
            · omega
            · exact h1.2.2.1 hr
        clear hrec hM hW4 b3 d3 l3 s3 hj0 hsA hsB u0 u1 usz ub hj5 her5 hbk5 hW6 he hbp hms hfi hln TJ hVs hK hbW HV HEF HER
        gi_wp2
        refine ⟨⟨i + 1, M :: marks, _, _, _, _, _, _, _, _, _, by first | rfl | (congr 1; simp), by omega, HNEW.out.2.2.1, HNEW.out.1, HNEW.out.2.1, HNEW.out.2.2.2.1, HNEW.out.2.2.2.2⟩, ?_⟩
        simp [intOf]; omega
      · refine ⟨he, .inr ⟨.ret, hx5.loop, ?_⟩⟩
        obtain ⟨W6, hW6⟩ : ∃ W6, W5.putObj (M + 1) (.loop (rec .exhausted (some .ret))) = W6 := ⟨_, rfl⟩
        rw [hW6]
        have hbp : But (fun k => k = M + 1) W5 W6 := by rw [← hW6]; exact (But.refl (fun k => k = M + 1) W5).putObj (.inr rfl) _
        have HMN : Hid (m = none) := by
          show m = none
          rw [HM.out]
          unfold eachG
          rw [if_neg]
          intro h
          have h1 := allX_true.1 h i (by omega)
          rw [HF.out] at h1
          have h2 : (matchG p (kid i)).isSome = true := h1
          rw [hms] at h2
          cases h2
        have hsz := hx5.size
        have HM6 : Hid (∀ r ∈ M :: marks, W6.heap[r]? = some (.deferred (some []))) := fun r hr => by
          rcases List.mem_cons.1 hr with rfl | hr
          · exact hbp.at hx5.defs (by omega)
          · exact hbp.at (hx5.mks r hr) (by have := hmK r hr; omega)
        have HR6 : Hid (W6.heap[A + 2]? = some (.cells #[.bool false] 4)) := hbp.at hx5.rbox (by omega)
        have HND : Hid ((M :: marks).Nodup) := List.nodup_cons.2 ⟨fun hr => by have := hmK M hr; omega, HER.out.2.2.2.2⟩
        have HJX : Hid (∀ W', But (fun k => k ∈ M :: marks) W6 W' → Jx W' Y) := fun W' hW' => by
          obtain ⟨Ya, hja, hya⟩ := hx5.jx
          refine HTJ.out.stabx _ _ _ _ hja ((hbp.mono (fun k hk e => hya k (.inr (.inr (.inr (.inr (.inl e))))))).step hW' (fun k hk hr => ?_)) (fun k hk => .inl (hya k (.inl hk)))
          rcases List.mem_cons.1 hr with hr | hr
          · exact hya k (.inr (.inr (.inr (.inl hr))))
          · exact hya k (.inr (.inr (.inl hr)))
        clear hrec hM hW4 b3 d3 l3 s3 hj0 hsA hsB u0 u1 usz ub hx5 hW6 he hbp hms TJ hVs hK hbW HV hsz
        gi_wp2
        refine leaves_marks (M :: marks) _ HND.out HM6.out (fun W' hW' => ?_)
        have hr7 := hW'.at HR6.out (fun h => by
          have h7 := HM6.out _ h
          rw [HR6.out] at h7
          cases h7)
        have z2 := cell_of_row W' _ 0 _ _ _ hr7
        exact ⟨.bool false, by rw [results_cellX (p := 6) (ty := 4) (by kernel_rfl)]; simp [go_sem, z2], .inr ⟨HMN.out, rfl, HJX.out W' hW'⟩⟩
    · have x1 := cell_of_row Wf _ 0 _ _ _ HEF.out.lbox
      have hin : i = n := by omega
      have HMS : Hid (m = some (colG ns f n)) := by
        show m = _
        rw [HM.out]
        unfold eachG
        rw [if_pos (allX_true.2 (fun t ht => HER.out.2.2.1 t (by omega)))]
      have HYA : Hid (∀ k, Y k → k < A) := fun k hk => by rw [HA.out]; exact HTJ.out.lt _ _ _ HJ.out k hk
      have HLN : Hid (pre0.length + ns.length ≤ N) := by rw [HNS.out]; exact HP.out.2.2.2.2.2
      have hnsl : ns.length ≤ 1048577 := by rw [HNS.out]; exact Nat.le_trans (namesD_len p 0) HP.out.2.2.2.1
      gi_wp2
      gi_loopw [63] (fun x wl => ∃ (j : Nat) (Yc : Nat → Prop), x = .int .i64 j ∧ j ≤ ns.length ∧ EL A L (.slice pv ns.length cv) J (pre0 ++ (colG ns f n).take j) Y marks ns.length gv SSs Wf j wl Yc) (fun x _ => ns.length - (intOf x).toNat)
      case atStart => exact ⟨0, _, rfl, Nat.zero_le _, by rw [List.take_zero, List.append_nil]; exact el_start HEF.out HER.out.1 HER.out.2.2.2.1⟩
      case round =>
        obtain ⟨j, Yc, rfl, hj, hel⟩ := hrel
        have HEL : Hid (EL A L (.slice pv ns.length cv) J (pre0 ++ (colG ns f n).take j) Y marks ns.length gv SSs Wf j wr Yc) := hel
        clear hel
        have HR : Hid (Wf.heap[A + 1]? = some (.cells #[.func (.yield l) #[] #[]] 90) ∧ Wf.heap[A + 2]? = some (.cells #[.bool false] 4)) := ⟨HEF.out.tbox, HEF.out.rbox⟩
        have hk1 := (HEL.out.kept (A + 1) (.inl (by omega))).2.trans HR.out.1
        have hk2 := (HEL.out.kept (A + 2) (.inl (by omega))).2.trans HR.out.2
        have t1 := cell_of_row wr _ 0 _ _ _ hk1
        have t2 := cell_of_row wr _ 0 _ _ _ hk2
        have t2f := frozen_of_row wr _ 0 _ _ hk2
        have HK2 : Hid (wr.heap[A + 2]? = some (.cells #[.bool false] 4)) := hk2
        clear hk1 hk2 x1
        by_cases hjn : (j : Int) < ns.length
        · have hj' : j < ns.length := by omega
          obtain ⟨g0, cap, ev⟩ := own_formE HER.out.1.row (by omega)
          injection ev with ev1 _ ev2
          subst ev1 ev2
          obtain ⟨c0, c1, c2, c3, c4, c5, c6, c7, c8⟩ := er_cells HER.out.1 (HEL.out.kept g0 (.inr (.inr (.inl rfl)))).2 hj'
          obtain ⟨pj, cj, ej⟩ := own_slice (HER.out.1.each j hj').row
          rw [gotTo_len, hin] at ej
          rw [ej] at c8
          obtain ⟨S, hS1, hS2, hS3⟩ := HER.out.1.got hj' (names_size p _ _ _ 0 HP.out.1 _ (by rw [HNS.out, List.getD_eq_getElem?_getD, List.getElem?_eq_getElem (by rw [← HNS.out]; exact hj'), Option.getD_some]; exact List.getElem_mem _)) (fun t => ((f t).getD []).getD j .no) (fun t ht => gotTo_at f i j t ht)
          rw [gotTo_len, hin, ej] at hS1
          have hlen : (pre0 ++ (colG ns f n).take j).length < N := by
            rw [List.length_append, List.length_take, colG_len]
            have := HLN.out
            omega
          have hyy : YieldAt Fence.wide 0 Tryz.prog l #[.agg #[.string (ns.getD j (⟨#[]⟩, 0)).1, .int .i64 ((ns.getD j (⟨#[]⟩, 0)).2 + 1), .int .i64 0, .int .i64 0, .int .i64 0, .string ⟨#[]⟩, .slice none 0 0, .slice none 0 0, .slice pj n cj], .bool true] (wr.alloc (.cells #[.string (ns.getD j (⟨#[]⟩, 0)).1, .int .i64 ((ns.getD j (⟨#[]⟩, 0)).2 + 1), .int .i64 0, .int .i64 0, .int .i64 0, .string ⟨#[]⟩, .slice none 0 0, .slice none 0 0, .slice pj n cj] 48)) _ :=
            el_next (Wb := wr.alloc (.cells #[.string (ns.getD j (⟨#[]⟩, 0)).1, .int .i64 ((ns.getD j (⟨#[]⟩, 0)).2 + 1), .int .i64 0, .int .i64 0, .int .i64 0, .string ⟨#[]⟩, .slice none 0 0, .slice none 0 0, .slice pj n cj] 48)) HTJ.out HER.out.1 (fun k i' hi' hk => HER.out.2.1 k (.inr ⟨i', hi', hk⟩)) hj' HYA.out HEL.out (newx wr _) hS3 hS2 hS1 hlen
          rw [List.append_assoc, ← colG_take ns f n hj'] at hyy
          obtain ⟨fn, tmps, assign, body, hy, hRR⟩ := hyy
          have t1a : ∀ o, (wr.alloc o).cell? ⟨A + 1, 0, none⟩ = some (.func (.yield l) #[] #[]) := fun o => keepsX (newx wr o) _ _ t1
          clear hS1 hS2 hS3 hlen ej
          generalize ns.getD j (⟨#[]⟩, 0) = y at *
          gi_wp2
          refine ⟨rfl, hRR.mono ?_⟩
          rintro e w5 ⟨rfl, hel5⟩
          have HE5 : Hid (EL A L (.slice (some ⟨g0, 0, none⟩) ns.length cv) J (pre0 ++ (colG ns f n).take (j + 1)) Y marks ns.length gv SSs Wf (j + 1) w5 (fun k => Yc k ∧ k ∉ S)) := hel5
          clear hel5 hy hRR c0 c1 c2 c3 c4 c5 c6 c7 c8 t1 t2 t2f t1a
          gi_wp2
          constructor
          · exact ⟨j + 1, _, rfl, by omega, HE5.out⟩
          · simp [intOf]; omega
        · have hje : j = ns.length := by omega
          gi_wp2
          have hb6 : But (fun k => k = A + 2) wr (wr.setCell ⟨A + 2, 0, none⟩ (.bool true)) := (But.refl (fun k => k = A + 2) wr).setCell (p := ⟨A + 2, 0, none⟩) (.inr rfl) _
          have hr6 : (wr.setCell ⟨A + 2, 0, none⟩ (.bool true)).heap[A + 2]? = some (.cells #[.bool true] 4) := heap_setCell_same wr (A + 2) 0 _ _ _ HK2.out
          have hm6 : ∀ r ∈ marks, wr.heap[r]? = some (.deferred (some [])) := fun r hr => (HEL.out.kept r (.inr (.inr (.inr (.inl hr))))).2.trans (HEF.out.marks r hr)
          have ne6 : ∀ r ∈ marks, r ≠ A + 2 := fun r hr e => by
            have h7 := hm6 r hr
            rw [e, HK2.out] at h7
            cases h7
          refine leaves_marks marks _ HER.out.2.2.2.2 (fun r hr => hb6.at (hm6 r hr) (ne6 r hr)) (fun W' hW' => ?_)
          have hr7 := hW'.at hr6 (fun h => ne6 _ h rfl)
          have z2 := cell_of_row W' _ 0 _ _ _ hr7
          refine ⟨.bool true, by rw [results_cellX (p := 6) (ty := 4) (by kernel_rfl)]; simp [go_sem, z2], .inl ⟨colG ns f n, HMS.out, rfl, ?_⟩⟩
          have hfin := el_end (ns := ns) HTJ.out.stab HEL.out (S := fun k => k = A + 2 ∨ k ∈ marks) ((hb6.mono (fun k _ h => .inl h)).step hW' (fun k _ h => .inr h)) (fun k hk => by
            rcases hk with hk | hk
            · exact .inl (by omega)
            · exact .inr (.inr (.inr (.inl hk))))
          rwa [List.take_of_length_le (by rw [colG_len]; omega)] at hfin
end Go.Proofs.YtlclfmjpnchmbaaGreat

/- What holds between the rounds of spec.l7Each. No conditions. -/
namespace Go.Proofs.YtlclfmjpnchmbaaGreat
open Go.ChangeShapes Go.WideShapes Go.ChangeAt Go.RowKit

/-- The names have got so many of the kid at hand. -/
structure EI (W2 w1 wr : World) (B g0 cv : Nat) (ns : List (ByteArray × Int)) (base : Nat → List G) (lst : List G) (lv : Value) (SSl : List (List Nat)) (gv : Nat → Value) (ll : Nat → List GR) (SSs : Nat → List (List Nat)) (i : Nat) : Prop where
  er : ER wr B (.slice (some ⟨g0, 0, none⟩) ns.length cv) ns (withK base (lst.take i)) gv ll SSs
  same : ∀ x, (lv.ownBlock = some x ∨ ∃ j T, i ≤ j ∧ SSl[j]? = some T ∧ x ∈ T) → wr.heap[x]? = w1.heap[x]? ∧ x ≠ g0 ∧ ∀ t, t < ns.length → x ∉ blG (gv t) (SSs t)
  bel : Below B W2 wr
  sz : w1.heap.size ≤ wr.heap.size
theorem flat_one {SS : List (List Nat)} : ∀ {i j : Nat} {S T : List Nat} {x : Nat}, SS.flatten.Nodup → SS[i]? = some S → SS[j]? = some T → i ≠ j → x ∈ S → x ∈ T → False := by
  induction SS with
  | nil => intro i j S T x _ h; simp at h
  | cons a r ih =>
    intro i j S T x hnd hi hj hij hS hT
    rw [List.flatten_cons, List.nodup_append] at hnd
    cases i with
    | zero =>
      cases j with
      | zero => exact hij rfl
      | succ j =>
        simp only [List.getElem?_cons_zero, Option.some.injEq] at hi
        rw [List.getElem?_cons_succ] at hj
        exact hnd.2.2 x (hi ▸ hS) x (mem_flatX hj hT) rfl
    | succ i =>
      rw [List.getElem?_cons_succ] at hi
      cases j with
      | zero =>
        simp only [List.getElem?_cons_zero, Option.some.injEq] at hj
        exact hnd.2.2 x (hj ▸ hT) x (mem_flatX hi hS) rfl
      | succ j =>
        rw [List.getElem?_cons_succ] at hj
        exact ih hnd.2.1 hi hj (by omega) hS hT
theorem flat_in_one {SS : List (List Nat)} : ∀ {i : Nat} {S : List Nat}, SS.flatten.Nodup → SS[i]? = some S → S.Nodup := by
  induction SS with
  | nil => intro i S _ h; simp at h
  | cons a r ih =>
    intro i S hnd hi
    rw [List.flatten_cons, List.nodup_append] at hnd
    cases i with
    | zero => simp only [List.getElem?_cons_zero, Option.some.injEq] at hi; rw [← hi]; exact hnd.1
    | succ i => rw [List.getElem?_cons_succ] at hi; exact ih hnd.2.1 hi
section
variable {W2 w1 wr D w3 F : World} {B B1 g0 cv : Nat} {ns : List (ByteArray × Int)} {base : Nat → List G} {lst : List G} {lv : Value} {lrows : List GR} {SSl : List (List Nat)} {gv : Nat → Value} {ll : Nat → List GR} {SSs : Nat → List (List Nat)} {i : Nat}
theorem EI.gown (E : EI W2 w1 wr B g0 cv ns base lst lv SSl gv ll SSs i) (hi : i < ns.length) {k : Nat} (hk : (gv i).ownBlock = some k) : k ≠ g0 ∧ k < wr.heap.size ∧ B ≤ k := by
  have hin : k ∈ blG (gv i) (SSs i) := List.mem_append_left _ (by rw [hk]; simp)
  have h1 := E.er.lt (.inr ⟨i, hi, hin⟩)
  exact ⟨fun e => E.er.off i hi k hin (by rw [e]; rfl), h1.2, h1.1⟩
theorem EI.row (E : EI W2 w1 wr B g0 cv ns base lst lv SSl gv ll SSs i) (hi : i < ns.length) (hD : But (fun _ => False) wr D) : D.ownsRow B 48 9 (gv i) (withK base (lst.take i) i).length (grows (ll i)) := hD.owns (E.er.each i hi).row (fun _ _ h => h)
/-- One more: the append, the nine stores and the store of the slice. -/
theorem EI.step (E : EI W2 w1 wr B g0 cv ns base lst lv SSl gv ll SSs i) (hl : GRow w1 B1 lv lst lrows SSl) (hge : ∀ k ∈ blG lv SSl, B ≤ k) (hB : B ≤ wr.heap.size) (hi : i < ns.length) (hli : i < lst.length) (hD : But (fun _ => False) wr D) {g' c' n : Nat} (hn : (withK base (lst.take i) i).length = n) {q : GR} (hq : lrows[i]? = some q)
    (r1 : w3.ownsRow B 48 9 (.slice (some ⟨g', 0, none⟩) (n + 1) c') (n + 1) (grows (ll i) ++ zeros9)) (r2 : D.grownBy w3 (gv i).ownBlock) (r3 : (Value.slice (some ⟨g', 0, none⟩) (n + 1) c').ownBlock = (gv i).ownBlock ∨ (Value.slice (some ⟨g', 0, none⟩) (n + 1) c').ownBlock = some D.heap.size)
    (hF : F = (put9 w3 g' (n * 9) q).setCell ⟨g0, i * 9 + 8, none⟩ (.slice (some ⟨g', 0, none⟩) (n + 1) c')) : g' ≠ g0 ∧ ∃ gv' ll' SSs', EI W2 w1 F B g0 cv ns base lst lv SSl gv' ll' SSs' (i + 1) := by
  subst hF
  obtain ⟨a, b, c, T, k1, k2, k3⟩ := hl.each i hli
  rw [hq] at k1
  injection k1 with k1
  subst k1
  have htl : (lst.take i).length = i := by rw [List.length_take]; omega
  have hnd := hl.own
  rw [List.nodup_append] at hnd
  have hT := flat_in_one hnd.2.1 k2
  have hsT : ∀ k ∈ T, wr.heap[k]? = w1.heap[k]? ∧ k ≠ g0 ∧ ∀ t, t < ns.length → k ∉ blG (gv t) (SSs t) := fun k hk => E.same k (.inr ⟨i, T, Nat.le_refl _, k2, hk⟩)
  have hgw : GOwn wr (lst.getD i .no) a b c T := k3.same _ (fun k hk => (hsT k hk).1)
  have hg0lt := (E.er.lt (.inl rfl : (Value.slice (some ⟨g0, 0, none⟩) ns.length cv).ownBlock = some g0 ∨ _))
  have hDs := hD.size
  have hg' : ((gv i).ownBlock = some g' ∨ g' = D.heap.size) := by
    rcases r3 with h | h
    · exact .inl (h.symm.trans rfl)
    · exact .inr (by simpa [Value.ownBlock] using h)
  have hne : g' ≠ g0 := by
    rcases hg' with h | h
    · exact (E.gown hi h).1
    · omega
  have hll : (ll i).length = n := by rw [(E.er.each i hi).len]; exact hn
  have h9 := own_put9 r1 (by simp) ⟨lst.getD i .no, a, b, c⟩
  rw [hll] at h9
  have hb4 : But (fun k => (gv i).ownBlock = some k) wr (put9 w3 g' (n * 9) ⟨lst.getD i .no, a, b, c⟩) := by
    refine ((hD.mono (fun _ _ h => h.elim)).grown r2 (fun k hk => .inr hk)).grown h9.2 (fun k hk => ?_)
    injection hk with hk
    rcases hg' with h | h
    · exact .inr (by rw [← hk]; exact h)
    · exact .inl (by omega)
  generalize put9 w3 g' (n * 9) ⟨lst.getD i .no, a, b, c⟩ = w4 at *
  have hbF : But (fun k => k = g0 ∨ (gv i).ownBlock = some k) wr (w4.setCell ⟨g0, i * 9 + 8, none⟩ (.slice (some ⟨g', 0, none⟩) (n + 1) c')) := (hb4.mono (fun _ _ h => .inr h)).setCell (.inr (.inl rfl)) _
  have hrow : w4.ownsRow B 48 9 (.slice (some ⟨g0, 0, none⟩) ns.length cv) ns.length (grows (erows ns (withK base (lst.take i)) gv)) := hb4.owns E.er.row (fun k hk h => (E.gown hi h).1 (by simpa [Value.ownBlock] using hk.symm))
  have hst := (hrow.stored (i * 9 + 8) (.slice (some ⟨g', 0, none⟩) (n + 1) c')).1
  rw [erows_set ns (withK base (lst.take i)) gv hi (withK base (lst.take i) i ++ [lst.getD i .no])] at hst
  have hlk := E.er.grow (F := w4.setCell ⟨g0, i * 9 + 8, none⟩ (.slice (some ⟨g', 0, none⟩) (n + 1) c')) (j := i) hi (g := lst.getD i .no) (a := a) (b := b) (c := c) (Z := T) (g' := g') (c' := c') hgw hT
    (fun k hk => ⟨(hsT k hk).2.2, fun e => (hsT k hk).2.1 (by simpa [Value.ownBlock] using e.symm), hge k (List.mem_append_right _ (mem_flatX k2 hk))⟩)
    (by rw [hn]; exact own_sameX (by rw [grows_snoc]; exact h9.1) (fun k hk => Below.heap_setCell _ _ _ _ (by
      have hk' : g' = k := by simpa [Value.ownBlock] using hk
      rw [← hk']; exact hne)))
    (hg'.imp id (fun h => by omega))
    (fun k hk hn' => hbF.block k (by
      rcases hk with hk | hk
      · exact hgw.there _ k hk
      · exact (E.er.lt (.inr hk)).2) (fun h => by
      rcases h with h | h
      · exact hn' (.inl (by rw [h]; rfl))
      · exact hn' (.inr h)))
    (by rw [hn]; exact hst)
  have hw := withK_snoc base (lst.take i) (lst.getD i .no)
  rw [htl] at hw
  rw [hw] at hlk
  have htk : lst.take i ++ [lst.getD i .no] = lst.take (i + 1) := by
    rw [List.take_succ_eq_append_getElem hli, List.getD_eq_getElem?_getD, List.getElem?_eq_getElem hli, Option.getD_some]
  rw [htk] at hlk
  refine ⟨hne, _, _, _, hlk, fun x hx => ?_, ?_, Nat.le_trans E.sz hbF.size⟩
  · have hx0 : lv.ownBlock = some x ∨ ∃ j T, i ≤ j ∧ SSl[j]? = some T ∧ x ∈ T := hx.imp id (fun ⟨j, S, h1, h2, h3⟩ => ⟨j, S, by omega, h2, h3⟩)
    obtain ⟨e1, e2, e3⟩ := E.same x hx0
    have hxl : x < w1.heap.size := by
      rcases hx with h | ⟨j, S, _, h2, h3⟩
      · exact hl.lt x (List.mem_append_left _ (mem_own h))
      · exact hl.lt x (List.mem_append_right _ (mem_flatX h2 h3))
    have hxw : x < wr.heap.size := Nat.lt_of_lt_of_le hxl E.sz
    have hxg : (gv i).ownBlock ≠ some x := fun h => e3 i hi (List.mem_append_left _ (by rw [h]; simp))
    have hxT : x ∉ T := fun hxT => by
      rcases hx with h | ⟨j, S, h1, h2, h3⟩
      · exact hnd.2.2 x (mem_own h) x (mem_flatX k2 hxT) rfl
      · exact flat_one hnd.2.1 k2 h2 (by omega) hxT h3
    refine ⟨(hbF.block x hxw (fun h => h.elim e2 hxg)).trans e1, e2, fun t ht hm => ?_⟩
    by_cases hti : t = i
    · subst hti
      rw [upd_same, upd_same] at hm
      simp only [blG, Value.ownBlock, Option.toList_some, List.flatten_append, List.flatten_singleton, List.mem_append, List.mem_singleton] at hm
      rcases hm with hm | hm | hm
      · rcases hg' with h | h
        · exact hxg (by rw [hm]; exact h)
        · omega
      · exact e3 t ht (List.mem_append_right _ hm)
      · exact hxT hm
    · rw [upd_other _ _ hti, upd_other _ _ hti] at hm
      exact e3 t ht hm
  · refine E.bel.trans (hbF.below hB (fun k hk => ?_))
    rcases hk with hk | hk
    · omega
    · exact (E.gown hi hk).2.2
end
theorem GRow.gs' {w : World} {B : Nat} {v : Value} {L : List G} {l : List GR} {SS : List (List Nat)} (h : GRow w B v L l SS) : GsOwn w L.length (fun i => L.getD i .no) v (blG v SS) := by
  rcases h.row.2 with ⟨rfl, hn⟩ | ⟨g, cap, cur, rfl, hbg, hgg, rest⟩
  · have h1 : SS = [] := List.eq_nil_of_length_eq_zero (by rw [h.blocks]; exact hn)
    exact .inl ⟨hn, rfl, by rw [h1]; rfl⟩
  · exact .inr ⟨g, cap, l, SS, rfl, own_base h.row (fun _ _ => Nat.zero_le _), h.len, h.blocks, rfl, h.each⟩
theorem flat_range (f : Nat → List Nat) : ∀ n, (∀ i, i < n → (f i).Nodup) → (∀ i j, i < n → j < n → i ≠ j → ∀ k, k ∈ f i → k ∉ f j) → (((List.range n).map f).flatten).Nodup := by
  intro n
  induction n with
  | zero => intro _ _; simp
  | succ n ih =>
    intro h1 h2
    rw [List.range_succ, List.map_append, List.flatten_append, List.nodup_append]
    refine ⟨ih (fun i hi => h1 i (by omega)) (fun i j hi hj => h2 i j (by omega) (by omega)), by simpa using h1 n (by omega), fun x hx y hy e => ?_⟩
    obtain ⟨T, hT, hxT⟩ := List.mem_flatten.1 hx
    obtain ⟨i, hi, rfl⟩ := List.mem_map.1 hT
    have hi' : i < n := by simpa using hi
    subst e
    exact h2 i n (by omega) (by omega) (by omega) x hxT (by simpa using hy)
/-- All names with what they got, as one row. -/
theorem er_all {w : World} {B : Nat} {v : Value} {ns : List (ByteArray × Int)} {f : Nat → Option (List G)} {n : Nat} {gv : Nat → Value} {ll : Nat → List GR} {SSs : Nat → List (List Nat)} (h : ER w B v ns (gotTo f n) gv ll SSs) (hn : ∀ y ∈ ns, y.1.size ≤ maxLen) : GN w B v (colG ns f n) := by
  have hsz : ∀ j, j < ns.length → (ns.getD j (⟨#[]⟩, 0)).1.size ≤ maxLen := fun j hj => by
    rw [List.getD_eq_getElem?_getD, List.getElem?_eq_getElem hj, Option.getD_some]
    exact hn _ (List.getElem_mem _)
  have hcol : ∀ j, j < ns.length → (colG ns f n).getD j .no = .mk (ns.getD j (⟨#[]⟩, 0)).1 ((ns.getD j (⟨#[]⟩, 0)).2 + 1) zeroX n (fun t => ((f t).getD []).getD j .no) := fun j hj => by
    simp only [colG, List.getD_eq_getElem?_getD, List.getElem?_map, List.getElem?_range hj, Option.map_some, Option.getD_some]
  have hg : ∀ j, j < ns.length → GOwn w ((colG ns f n).getD j .no) (.slice none 0 0) (.slice none 0 0) (gv j) (blG (gv j) (SSs j)) := fun j hj => by
    have h1 := (h.each j hj).gs'
    rw [gotTo_len] at h1
    have h2 := GOwn.mk' (deep := (ns.getD j (⟨#[]⟩, 0)).2 + 1) (hsz j hj) (zero_own w) h1
    rw [List.nil_append] at h2
    rw [hcol j hj]
    exact h2.congr (fun t ht => gotTo_at f n j t (by rw [gotTo_len]; exact ht))
  obtain ⟨rows, hrows⟩ : ∃ rows : List GR, rows = (List.range ns.length).map fun j => ⟨(colG ns f n).getD j .no, .slice none 0 0, .slice none 0 0, gv j⟩ := ⟨_, rfl⟩
  have hrg : grows (erows ns (gotTo f n) gv) = grows rows := by
    have e : (erows ns (gotTo f n) gv).map gcells = rows.map gcells := by
      rw [hrows, erows, List.map_map, List.map_map]
      apply List.map_congr_left
      intro j hj
      have hj' : j < ns.length := by simpa using hj
      simp only [Function.comp, erow, gcells, hcol j hj', G.name, G.deep, G.one]
    simp only [grows, List.flatMap_def]
    rw [e]
  refine ⟨rows, (List.range ns.length).map (fun j => blG (gv j) (SSs j)), ⟨by rw [colG_len, ← hrg]; exact h.row, by simp [hrows, colG_len], by simp [colG_len], fun j hj => ?_, ?_⟩, fun k hk => ?_⟩
  · rw [colG_len] at hj
    exact ⟨_, _, _, _, by rw [hrows, List.getElem?_map, List.getElem?_range hj, Option.map_some], by rw [List.getElem?_map, List.getElem?_range hj, Option.map_some], hg j hj⟩
  · rw [List.nodup_append]
    refine ⟨by cases v.ownBlock <;> simp, flat_range _ _ (fun j hj => (h.each j hj).own) (fun i j hi hj hij k hk => h.dis i j hi hj hij k hk), fun x hx y hy e => ?_⟩
    obtain ⟨T, hT, hyT⟩ := List.mem_flatten.1 hy
    obtain ⟨j, hj, rfl⟩ := List.mem_map.1 hT
    subst e
    exact h.off j (by simpa using hj) x hyT (by simpa using hx)
  · rcases List.mem_append.1 hk with hk | hk
    · exact (h.row.lt k (by simpa using hk)).1
    · obtain ⟨T, hT, hkT⟩ := List.mem_flatten.1 hk
      obtain ⟨j, hj, rfl⟩ := List.mem_map.1 hT
      exact h.ge j (by simpa using hj) k hkT
theorem er_one {w : World} {B : Nat} {v : Value} {ns : List (ByteArray × Int)} {Ls : Nat → List G} {gv : Nat → Value} {ll : Nat → List GR} {SSs : Nat → List (List Nat)} (h : ER w B v ns Ls gv ll SSs) : ∀ u ∈ grows (erows ns Ls gv), u.oneCell' = true := by
  intro u hu
  obtain ⟨q, hq, hu⟩ := List.mem_flatMap.1 hu
  obtain ⟨j, hj, rfl⟩ := List.mem_map.1 hq
  obtain ⟨p, c, e⟩ := own_slice (h.each j (by simpa using hj)).row
  exact gcells_one _ rfl rfl (by simp only [erow]; rw [e]; rfl) u hu
/-- What is so behind the append. -/
structure EQ (wr : World) (g0 gl g' c' n i : Nat) (x v' : Value) (w3 : World) : Prop where
  eq : v' = .slice (some ⟨g', 0, none⟩) (n + 1) c'
  old : w3.cell? ⟨g0, i * 9 + 8, none⟩ = some x
  oldf : w3.frozen? ⟨g0, i * 9 + 8, none⟩ = false
  ne0 : g' ≠ g0
  ne1 : gl ≠ g'
  ne2 : gl ≠ g0
  same : w3.heap[gl]? = wr.heap[gl]?
  cells : ∀ t, t < 9 → ∃ u, w3.cell? ⟨g', n * 9 + t, none⟩ = some u
  live : ∀ t, w3.frozen? ⟨g', t, none⟩ = false
theorem EI.pushed {W2 w1 wr D w3 : World} {B g0 cv : Nat} {ns : List (ByteArray × Int)} {base : Nat → List G} {lst : List G} {SSl : List (List Nat)} {gv : Nat → Value} {ll : Nat → List GR} {SSs : Nat → List (List Nat)} {i gl cl : Nat} (E : EI W2 w1 wr B g0 cv ns base lst (.slice (some ⟨gl, 0, none⟩) lst.length cl) SSl gv ll SSs i) (hgl : gl < w1.heap.size) (hi : i < ns.length) (hD : But (fun _ => False) wr D) {v' : Value} {n : Nat} {news : List Value}
    (r1 : w3.ownsRow B 48 9 v' (n + 1) (grows (ll i) ++ news)) (r2 : D.grownBy w3 (gv i).ownBlock) (r3 : v'.ownBlock = (gv i).ownBlock ∨ v'.ownBlock = some D.heap.size) : ∃ g' c', EQ wr g0 gl g' c' n i (gv i) v' w3 := by
  obtain ⟨g', c', hv'⟩ := ownsRow_succ r1
  subst hv'
  have h3 : But (fun k => (gv i).ownBlock = some k) wr w3 := (hD.mono (fun _ _ h => h.elim)).grown r2 (fun k hk => .inr hk)
  obtain ⟨e1, e2, e3⟩ := E.same gl (.inl rfl)
  have hglw : gl < wr.heap.size := Nat.lt_of_lt_of_le hgl E.sz
  have hglg : (gv i).ownBlock ≠ some gl := fun h => e3 i hi (List.mem_append_left _ (by rw [h]; simp))
  have hg0lt := (E.er.lt (.inl rfl : (Value.slice (some ⟨g0, 0, none⟩) ns.length cv).ownBlock = some g0 ∨ _)).2
  have hDs := hD.size
  have hg' : g' ≠ g0 ∧ gl ≠ g' := by
    rcases r3 with h | h
    · have h2 : (gv i).ownBlock = some g' := h.symm.trans rfl
      exact ⟨(E.gown hi h2).1, fun e => hglg (by rw [e]; exact h2)⟩
    · have h2 : g' = D.heap.size := by simpa [Value.ownBlock] using h
      exact ⟨by omega, by omega⟩
  have hrow : w3.ownsRow B 48 9 (.slice (some ⟨g0, 0, none⟩) ns.length cv) ns.length (grows (erows ns (withK base (lst.take i)) gv)) := h3.owns E.er.row (fun k hk h => (E.gown hi h).1 (by simpa [Value.ownBlock] using hk.symm))
  refine ⟨g', c', rfl, ?_, hrow.frozenAt _, hg'.1, hg'.2, e2, h3.block gl hglw hglg, fun t ht => ?_, fun t => r1.frozenAt t⟩
  · exact (hrow.cellAt (i * 9 + 8) (by omega)).trans (grows_get _ (erows_at ns _ gv hi) (by omega))
  · have hlen : (grows (ll i) ++ news).length = (n + 1) * 9 := r1.1
    have hl2 : n * 9 + t < (grows (ll i) ++ news).length := by rw [hlen]; omega
    exact ⟨_, (r1.cellAt (n * 9 + t) (by rw [← hlen]; exact hl2)).trans (List.getElem?_eq_getElem hl2)⟩
/-- The Got that is meant, cell by cell. -/
theorem EI.list {W2 w1 wr : World} {B B1 g0 cv : Nat} {ns : List (ByteArray × Int)} {base : Nat → List G} {lst : List G} {lrows : List GR} {SSl : List (List Nat)} {gv : Nat → Value} {ll : Nat → List GR} {SSs : Nat → List (List Nat)} {i gl cl : Nat} (E : EI W2 w1 wr B g0 cv ns base lst (.slice (some ⟨gl, 0, none⟩) lst.length cl) SSl gv ll SSs i) (hl : GRow w1 B1 (.slice (some ⟨gl, 0, none⟩) lst.length cl) lst lrows SSl) (hi : i < lst.length) :
    ∃ (g : G) (a1 : Option Addr) (a2 : Nat) (b1 : Option Addr) (b2 : Nat) (c1 : Option Addr) (c2 : Nat), lrows[i]? = some ⟨g, .slice a1 g.one.set.length a2, .slice b1 g.one.len b2, .slice c1 g.len c2⟩ ∧ (wr.cell? ⟨gl, i * 9, none⟩ = some (.string g.name) ∧ wr.cell? ⟨gl, i * 9 + 1, none⟩ = some (.int .i64 g.deep) ∧ wr.cell? ⟨gl, i * 9 + 2, none⟩ = some (.int .i64 g.one.op) ∧ wr.cell? ⟨gl, i * 9 + 3, none⟩ = some (.int .i64 g.one.at_) ∧ wr.cell? ⟨gl, i * 9 + 4, none⟩ = some (.int .i64 g.one.n) ∧ wr.cell? ⟨gl, i * 9 + 5, none⟩ = some (.string g.one.s) ∧ wr.cell? ⟨gl, i * 9 + 6, none⟩ = some (.slice a1 g.one.set.length a2) ∧ wr.cell? ⟨gl, i * 9 + 7, none⟩ = some (.slice b1 g.one.len b2) ∧ wr.cell? ⟨gl, i * 9 + 8, none⟩ = some (.slice c1 g.len c2)) := by
  obtain ⟨a, b, c, T, k1, k2, k3⟩ := hl.each i hi
  obtain ⟨⟨a1, a2, e1⟩, ⟨b1, b2, e2⟩, ⟨c1, c2, e3⟩⟩ := k3.shape
  subst e1 e2 e3
  have hr : wr.ownsRow B1 48 9 (.slice (some ⟨gl, 0, none⟩) lst.length cl) lst.length (grows lrows) := own_sameX hl.row (fun k hk => (E.same k (.inl hk)).1)
  have c : ∀ q, q < 9 → wr.cell? ⟨gl, i * 9 + q, none⟩ = (gcells _)[q]? := fun q hq => (hr.cellAt (i * 9 + q) (by omega)).trans (grows_get _ k1 hq)
  have c0 := c 0 (by omega)
  rw [Nat.add_zero] at c0
  exact ⟨_, _, _, _, _, _, _, k1, c0, c 1 (by omega), c 2 (by omega), c 3 (by omega), c 4 (by omega), c 5 (by omega), c 6 (by omega), c 7 (by omega), c 8 (by omega)⟩
end Go.Proofs.YtlclfmjpnchmbaaGreat
