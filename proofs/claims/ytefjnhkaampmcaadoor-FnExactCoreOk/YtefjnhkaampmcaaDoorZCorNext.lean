/- (*impl.coreWalk).next. Condition: at most 2^20 in all. -/
import Derived.Test.YtefjnhkaampmcaaDoorZCorCome
import Derived.Deep.RegionLaw
namespace Go.Proofs.YtefjnhkaampmcaaDoor
open Go.ChangeShapes Go.WideShapes Go.ChangeAt Go.RowKit Go.Shelf
attribute [local go_sem] Oper.semAt_some

/-- What stands between two rounds: st is what is left, of what had been asked for st0. -/
structure NS (w0 w : World) (K B bs N : Nat) (st0 : List St) (wr : World) (n m g cap : Nat) (st : List St) : Prop where
  cw : CW w0 K B bs n m wr (.slice (some ⟨g, 0, none⟩) (st.length : Nat) cap) st (envOf st)
  pe : pend st [] = pend st0 []
  n : n + 2 * goesS st ≤ N
  m : m + 2 * goesS st ≤ N
  fr : WFr K B bs w wr
/-- A step is taken off. -/
theorem CW.pop {w0 : World} {K B bs n m g cap : Nat} {w : World} {r : List St} {x : St} {env : List (List UInt8)} (h : CW w0 K B bs n m w (.slice (some ⟨g, 0, none⟩) ((r ++ [x]).length : Nat) cap) (r ++ [x]) env) :
    CW w0 K B bs n m (w.setCell ⟨K, 0, none⟩ (.slice (some ⟨g, 0, none⟩) (r.length : Nat) cap)) (.slice (some ⟨g, 0, none⟩) (r.length : Nat) cap) r env ∧ StOk w0 (w.setCell ⟨K, 0, none⟩ (.slice (some ⟨g, 0, none⟩) (r.length : Nat) cap)) x ∧
    w.cell? ⟨g, r.length * 2, none⟩ = some (.pointer x.adr) ∧ w.cell? ⟨g, r.length * 2 + 1, none⟩ = some x.nv := by
  have h9 := h.own
  have hlen : (r ++ [x]).length = r.length + 1 := by simp
  have hat := strows_at (r ++ [x]) r.length x (by simp)
  refine ⟨⟨heap_setCell_same w K 0 _ _ _ h.blk, ?_, h.bnd.walk h.blk _, fun y hy => (h.ok y (by simp [hy])).fr (WFr.of_walk (B := B) (bs := bs)) h.noStr.1 h.noStr.2, h.bel.setCell (by show _ ≤ K; exact h.lo.2.2) _, h.lo⟩, (h.ok x (by simp)).fr (WFr.of_walk (B := B) (bs := bs)) h.noStr.1 h.noStr.2, (h9.cellAt _ (by rw [hlen]; omega)).trans hat.1, (h9.cellAt _ (by rw [hlen]; omega)).trans hat.2⟩
  rw [strows_append] at h9
  exact own_walk (own_cut (n := r.length) h9 (strows_length r) (by rw [hlen]; omega)) h.blk

/-- A box of the call's own has turned. -/
theorem Bnd.far {w w' : World} {B n X : Nat} {env : List (List UInt8)} (h : Bnd w B (B + 1) n env) (hg : w.grownBy w' (some X)) (hB : X ≠ B) (hX : ∀ cs fr, w.heap[X]? ≠ some (.cells cs 3 fr)) : Bnd w' B (B + 1) n env := by
  obtain ⟨D, ⟨es, ck, hb, F, hs, hD, hlt, hlen, hap⟩, h2⟩ := h
  have ne : ∀ {u : Value} {ys : List Int}, w.ownsInts (B + 1) 3 .i64 u ys → u.ownBlock = none ∨ u.ownBlock ≠ some X := fun {u ys} ho => by
    rcases ho.1.2 with ⟨rfl, _⟩ | ⟨g, cap, cur, rfl, _, hgg, _⟩
    · exact Or.inl rfl
    · refine Or.inr (fun e1 => ?_)
      simp only [Value.ownBlock, Option.some.injEq] at e1
      subst e1
      exact hX _ _ hgg
  have hs2 : ∀ x ∈ es.toList, ∀ z, rowElem (H := Unit) w (B + 1) 3 .i64 x.val = some z → rowElem w' (B + 1) 3 .i64 x.val = some z := by
    intro x _ z hz
    obtain ⟨ys, ho, rfl⟩ := rowElem_inv hz
    exact rowElem_mk (ho.kept hg (ne ho))
  obtain ⟨F2, hmap2, _⟩ := F.stay hs2
  refine ⟨D, ⟨es, ck, (hg.block B (Array.getElem?_eq_some_iff.1 hb).1 (by intro e1; injection e1 with e1; exact hB e1.symm)).trans hb, F2, hs, by rw [hD, hmap2], hlt, ?_, hap⟩, h2⟩
  intro x hx ys ho
  obtain ⟨y, hy⟩ := F.reads x hx
  obtain ⟨z, hz, _⟩ := Go.WideElems.rd_val hy
  obtain ⟨ys', ho', _⟩ := rowElem_inv hz
  rw [ho.unique (ho'.kept hg (ne ho'))]
  exact hlen x hx ys' ho'
theorem at_far {w w' : World} {X g : Nat} {cs cx : Array Value} {ty tx : TypeId} {fr fx : Nat × Nat} (hg : w.grownBy w' (some X)) (hX : w.heap[X]? = some (.cells cx tx fx)) (hne : ty ≠ tx) (h : w.heap[g]? = some (.cells cs ty fr)) : w'.heap[g]? = some (.cells cs ty fr) :=
  (hg.block g (Array.getElem?_eq_some_iff.1 h).1 (by intro e1; injection e1 with e1; subst e1; rw [h] at hX; injection hX with e2; injection e2 with _ e2; exact hne e2)).trans h
theorem CW.far {w0 : World} {K B bs n m X : Nat} {w w' : World} {lv : Value} {st : List St} {env : List (List UInt8)} {cx : Array Value} {fx : Nat × Nat} (h : CW w0 K B bs n m w lv st env) (hg : w.grownBy w' (some X)) (hX : w.heap[X]? = some (.cells cx 29 fx)) (h0 : w0.heap.size ≤ X) : CW w0 K B bs n m w' lv st env := by
  have hB : X ≠ B := fun e => by
    obtain ⟨D, ⟨es, ck, h1, _⟩, _⟩ := h.bnd
    rw [e, h1] at hX
    cases hX
  have hI : ∀ cs fr, w.heap[X]? ≠ some (.cells cs 3 fr) := fun cs fr e => by
    rw [hX] at e
    injection e with e
    injection e with _ e
    exact absurd e (by decide)
  refine ⟨at_far hg hX (by decide) h.blk, ?_, h.bnd.far hg hB hI, fun x hx => ?_, h.bel.trans ⟨hg.os, hg.tape, hg.output, hg.size, fun g hg' => hg.block g (by have := h.bel.size; omega) (by intro e1; injection e1 with e1; omega)⟩, h.lo⟩
  · refine ⟨h.own.1, ?_⟩
    rcases h.own.2 with hn | ⟨g, cap, cur, rfl, hbg, hgg, rest⟩
    · exact .inl hn
    · exact .inr ⟨g, cap, cur, rfl, hbg, at_far hg hX (by decide) hgg, rest⟩
  · obtain ⟨a1, a2, a3⟩ := h.ok x hx
    refine ⟨a1, ?_, a3⟩
    rcases a2 with a2 | ⟨g, e1, e2⟩
    · exact .inl a2
    · exact .inr ⟨g, e1, at_far hg hX (by decide) e2⟩
theorem grown_cell (w : World) (X j : Nat) (v : Value) : w.grownBy (w.setCell ⟨X, j, none⟩ v) (some X) := ⟨rfl, rfl, rfl, by simp, fun g _ hi => Below.heap_setCell w ⟨X, j, none⟩ v g (fun e => hi (by rw [e]))⟩
theorem grown_trans {w w1 w2 : World} {X : Nat} (h : w.grownBy w1 (some X)) (h2 : w1.grownBy w2 (some X)) : w.grownBy w2 (some X) :=
  ⟨h2.os.trans h.os, h2.tape.trans h.tape, h2.output.trans h.output, Nat.le_trans h.size h2.size, fun g a b => (h2.block g (Nat.lt_of_lt_of_le a h.size) b).trans (h.block g a b)⟩
/-- The answer is put into its box. -/
theorem put5 {w : World} {X : Nat} {z0 z1 z2 z3 z4 a0 a1 a2 a3 a4 : Value} (h : w.heap[X]? = some (.cells #[z0, z1, z2, z3, z4] 29 (0, 0))) (F : World) (hF : F = ((((w.setCell ⟨X, 0, none⟩ a0).setCell ⟨X, 1, none⟩ a1).setCell ⟨X, 2, none⟩ a2).setCell ⟨X, 3, none⟩ a3).setCell ⟨X, 4, none⟩ a4) :
    F.heap[X]? = some (.cells #[a0, a1, a2, a3, a4] 29 (0, 0)) ∧ w.grownBy F (some X) := by
  have h0 : (w.setCell ⟨X, 0, none⟩ a0).heap[X]? = some (.cells #[a0, z1, z2, z3, z4] 29 (0, 0)) := heap_setCell_same w X 0 _ _ _ h
  have g0 := grown_cell w X 0 a0
  generalize w.setCell ⟨X, 0, none⟩ a0 = w1 at *
  have h1 : (w1.setCell ⟨X, 1, none⟩ a1).heap[X]? = some (.cells #[a0, a1, z2, z3, z4] 29 (0, 0)) := heap_setCell_same w1 X 1 _ _ _ h0
  have g1 := grown_trans g0 (grown_cell w1 X 1 a1)
  generalize w1.setCell ⟨X, 1, none⟩ a1 = w2 at *
  have h2 : (w2.setCell ⟨X, 2, none⟩ a2).heap[X]? = some (.cells #[a0, a1, a2, z3, z4] 29 (0, 0)) := heap_setCell_same w2 X 2 _ _ _ h1
  have g2 := grown_trans g1 (grown_cell w2 X 2 a2)
  generalize w2.setCell ⟨X, 2, none⟩ a2 = w3 at *
  have h3 : (w3.setCell ⟨X, 3, none⟩ a3).heap[X]? = some (.cells #[a0, a1, a2, a3, z4] 29 (0, 0)) := heap_setCell_same w3 X 3 _ _ _ h2
  have g3 := grown_trans g2 (grown_cell w3 X 3 a3)
  generalize w3.setCell ⟨X, 3, none⟩ a3 = w4 at *
  have h4 : (w4.setCell ⟨X, 4, none⟩ a4).heap[X]? = some (.cells #[a0, a1, a2, a3, a4] 29 (0, 0)) := heap_setCell_same w4 X 4 _ _ _ h3
  have g4 := grown_trans g3 (grown_cell w4 X 4 a4)
  rw [hF]
  exact ⟨h4, g4⟩
theorem WFr.far {K B bs X : Nat} {w w1 w2 : World} (h : WFr K B bs w w1) (hg : w1.grownBy w2 (some X)) (hX : w.heap.size ≤ X) : WFr K B bs w w2 :=
  ⟨hg.os.trans h.os, hg.tape.trans h.tape, hg.output.trans h.output, Nat.le_trans h.size hg.size, fun g a b c d e => (hg.block g (Nat.lt_of_lt_of_le a h.size) (by intro e1; injection e1 with e1; omega)).trans (h.block g a b c d e)⟩
theorem NS.far {w0 w : World} {K B bs N n m g cap X : Nat} {st0 st : List St} {w1 w2 : World} {cx : Array Value} {fx : Nat × Nat} (h : NS w0 w K B bs N st0 w1 n m g cap st) (hg : w1.grownBy w2 (some X)) (hX : w1.heap[X]? = some (.cells cx 29 fx)) (h0 : w0.heap.size ≤ w.heap.size) (h1 : w.heap.size ≤ X) : NS w0 w K B bs N st0 w2 n m g cap st :=
  ⟨h.cw.far hg hX (Nat.le_trans h0 h1), h.pe, h.n, h.m, h.fr.far hg h1⟩

/-- The next part. -/
def NextIs (w0 w : World) (K B bs N : Nat) (st0 : List St) (e : Ending) (w' : World) : Prop :=
  (e = .returned (.tuple #[.agg #[.int .i64 0, .int .i64 0, .string ⟨#[]⟩, .string ⟨#[]⟩, .slice none 0 0], .bool false]) ∧ pend st0 [] = true ∧ ∃ n m g cap, NS w0 w K B bs N st0 w' n m g cap []) ∨
  ∃ (n m g cap : Nat) (r : List St) (t : C) (v : Value) (b o : Nat) (xs : List ByteArray) (nv : Value) (V NV : Nat → Value) (kb ko : Nat),
    e = .returned (.tuple #[aggC t v, .bool true]) ∧ pend (r ++ [⟨some (t, v, b, o), xs, nv⟩]) [] = pend st0 [] ∧ t.In w0 v ∧ t.weight ≤ 1048576 ∧ goesS (r ++ [⟨some (t, v, b, o), xs, nv⟩]) ≤ goesS st0 ∧
    CW w0 K B bs n m w' (.slice (some ⟨g, 0, none⟩) ((r ++ (leaveOf xs nv ++ kidSts t V NV kb ko t.len)).length : Nat) cap) (r ++ (leaveOf xs nv ++ kidSts t V NV kb ko t.len)) (envOf (r ++ (leaveOf xs nv ++ kidSts t V NV kb ko t.len))) ∧
    envOf (r ++ (leaveOf xs nv ++ kidSts t V NV kb ko t.len)) = envOf r ++ nmL xs ∧
    n + 2 * goesS (r ++ (leaveOf xs nv ++ kidSts t V NV kb ko t.len)) ≤ N ∧ m + 2 * goesS (r ++ (leaveOf xs nv ++ kidSts t V NV kb ko t.len)) ≤ N ∧ WFr K B bs w w'

set_option maxRecDepth 100000 in
set_option maxHeartbeats 4000000 in
theorem walk_next (w0 : World) (K B bs N n m g cap : Nat) (w : World) (st : List St) (hN : N ≤ 1048576) (hS : NS w0 w K B bs N st w n m g cap st) :
    Calls Tryd.prog 29 #[.pointer (some ⟨K, 0, none⟩)] w (NextIs w0 w K B bs N st) := by
  obtain ⟨W, hW⟩ : ∃ W, W = w.alloc (.cells #[.int .i64 0, .int .i64 0, .string ⟨#[]⟩, .string ⟨#[]⟩, .slice none 0 0] 29) := ⟨_, rfl⟩
  obtain ⟨RB, hRB⟩ : ∃ x, x = w.heap.size := ⟨_, rfl⟩
  have nbW : Below w.heap.size w W := by rw [hW]; exact newb w _
  have HR0 : Hid (W.heap[RB]? = some (.cells #[.int .i64 0, .int .i64 0, .string ⟨#[]⟩, .string ⟨#[]⟩, .slice none 0 0] 29 (0, 0))) := by rw [hW, hRB]; exact heap_alloc_new w _
  have HS0 : Hid (NS w0 w K B bs N st W n m g cap st) := ⟨hS.cw.below nbW, hS.pe, hS.n, hS.m, hS.fr.trans (WFr.of_below nbW)⟩
  have HRB : Hid (RB = w.heap.size) := hRB
  have HW := hid_ofW hW
  have HGN : Hid (goesS st ≤ N) := by have := hS.n; show _ ≤ _; omega
  have HSZ : Hid (w0.heap.size ≤ w.heap.size) := hS.cw.bel.size
  clear hS hW hRB nbW
  go_enter Tryd.func29, Tryd.ntmps29
  go_upto_region 1 with fail
  rw [← HW.out, ← HRB.out]
  go_loopg [] (goesS st) (fun k wr => ∃ (n m g cap : Nat) (st1 : List St), goesS st1 = k ∧ k ≤ goesS st ∧ NS w0 w K B bs N st wr n m g cap st1 ∧ wr.heap[RB]? = some (.cells #[.int .i64 0, .int .i64 0, .string ⟨#[]⟩, .string ⟨#[]⟩, .slice none 0 0] 29 (0, 0)))
  case atStart => exact ⟨n, m, g, cap, st, rfl, Nat.le_refl _, HS0.out, HR0.out⟩
  case round =>
    obtain ⟨n, m, g, cap, st1, hgo, hle, hNS, hres⟩ := hrel
    have HNS : Hid (NS w0 w K B bs N st wr n m g cap st1) := hNS
    have HRS : Hid (wr.heap[RB]? = some (.cells #[.int .i64 0, .int .i64 0, .string ⟨#[]⟩, .string ⟨#[]⟩, .slice none 0 0] 29 (0, 0))) := hres
    have HGO : Hid (goesS st1 = gk ∧ gk ≤ goesS st) := ⟨hgo, hle⟩
    have k0 : wr.cell? ⟨K, 0, none⟩ = some (.slice (some ⟨g, 0, none⟩) (st1.length : Nat) cap) := cell_of_row wr K 0 _ _ _ hNS.cw.blk
    clear hNS hgo hle HS0 HR0
    rcases List.eq_nil_or_concat st1 with hnil | ⟨r, q, hstq⟩
    · subst hnil
      have f0 : ∀ j, wr.frozen? ⟨RB, j, none⟩ = false := fun j => frozen_of_row wr RB j _ _ hres
      have c0 : wr.cell? ⟨RB, 0, none⟩ = some (.int .i64 0) := cell_of_row wr RB 0 _ _ _ hres
      have c1 : wr.cell? ⟨RB, 1, none⟩ = some (.int .i64 0) := cell_of_row wr RB 1 _ _ _ hres
      have c2 : wr.cell? ⟨RB, 2, none⟩ = some (.string ⟨#[]⟩) := cell_of_row wr RB 2 _ _ _ hres
      have c3 : wr.cell? ⟨RB, 3, none⟩ = some (.string ⟨#[]⟩) := cell_of_row wr RB 3 _ _ _ hres
      have c4 : wr.cell? ⟨RB, 4, none⟩ = some (.slice none 0 0) := cell_of_row wr RB 4 _ _ _ hres
      clear hres
      simp only [List.length_nil] at k0
      go_wp2_with fail
      generalize hF : ((((wr.setCell ⟨RB, 0, none⟩ (.int .i64 0)).setCell ⟨RB, 1, none⟩ (.int .i64 0)).setCell ⟨RB, 2, none⟩ (.string ⟨#[]⟩)).setCell ⟨RB, 3, none⟩ (.string ⟨#[]⟩)).setCell ⟨RB, 4, none⟩ (.slice none 0 0) = F
      obtain ⟨f1, f2⟩ := put5 HRS.out F hF.symm
      have r0 := cell_of_row F RB 0 _ _ _ f1
      have r1 := cell_of_row F RB 1 _ _ _ f1
      have r2 := cell_of_row F RB 2 _ _ _ f1
      have r3 := cell_of_row F RB 3 _ _ _ f1
      have r4 := cell_of_row F RB 4 _ _ _ f1
      simp at r0 r1 r2 r3 r4
      refine bodyPost_ret (v := .tuple #[.agg #[.int .i64 0, .int .i64 0, .string ⟨#[]⟩, .string ⟨#[]⟩, .slice none 0 0], .bool false]) (by rw [results_cell_tmp (p := 2) (u := 3) (ty := 29) (by kernel_rfl)]; simp [go_sem, r0, r1, r2, r3, r4]) rfl ?_
      have hpe := HNS.out.pe
      exact .inl ⟨rfl, hpe.symm, n, m, g, cap, HNS.out.far f2 HRS.out HSZ.out (by have := HRB.out; omega)⟩
    · rw [List.concat_eq_append] at hstq
      subst hstq
      obtain ⟨p1, p2, p3, p4⟩ := HNS.out.cw.pop
      have hlen : (r ++ [q]).length = r.length + 1 := by simp
      obtain ⟨hr1, hr2, hr3, hr4⟩ := own_room HNS.out.cw.own
      have hrl : r.length ≤ 1048576 := by have h1 := goesS_len r; have h2 := HGO.out; rw [goesS_append] at h2; have h3 := HGN.out; omega
      have HP : Hid (CW w0 K B bs n m (wr.setCell ⟨K, 0, none⟩ (.slice (some ⟨g, 0, none⟩) (r.length : Nat) cap)) (.slice (some ⟨g, 0, none⟩) (r.length : Nat) cap) r (envOf (r ++ [q])) ∧ StOk w0 (wr.setCell ⟨K, 0, none⟩ (.slice (some ⟨g, 0, none⟩) (r.length : Nat) cap)) q) := ⟨p1, p2⟩
      rw [hlen] at k0 hr1
      unfold maxLen at hr2
      clear p1 p2 hlen hres
      generalize hrn : r.length = rn at *
      have HRN : Hid (r.length = rn) := hrn
      clear hrn
      obtain ⟨part, xs, nv⟩ := q
      have hnv := HP.out.2.2.1.shape
      simp only at hnv p4
      obtain ⟨pn, cn, en⟩ := hnv
      subst en
      generalize hxl : xs.length = xl at *
      have HXL : Hid (xs.length = xl) := hxl
      clear hxl
      generalize hadr : (St.mk part xs (.slice pn xl cn)).adr = ad at *
      have HAD : Hid ((St.mk part xs (.slice pn xl cn)).adr = ad) := hadr
      clear hadr
      have k0a := fun o => keeps (newb wr o) _ _ k0
      have p3a := fun o => keeps (newb wr o) _ _ p3
      have p4a := fun o => keeps (newb wr o) _ _ p4
      go_wp2_with fail
      go_region
      obtain ⟨W1, hW1⟩ : ∃ W1, (wr.alloc (.cells #[.pointer ad, .slice pn xl cn] 70)).drew = W1 := ⟨_, rfl⟩
      obtain ⟨Q, hQ⟩ : ∃ x, x = wr.heap.size := ⟨_, rfl⟩
      have b1 : Below wr.heap.size wr W1 := by rw [← hW1]; exact (newb wr _).drew
      have s1 : W1.heap[Q]? = some (.cells #[.pointer ad, .slice pn xl cn] 70 (0, 0)) := by rw [← hW1, hQ]; exact heap_alloc_new wr _
      rw [hW1, ← hQ]
      have HB1 : Hid (Below wr.heap.size wr W1 ∧ Q = wr.heap.size ∧ W1.heap[Q]? = some (.cells #[.pointer ad, .slice pn xl cn] 70 (0, 0))) := ⟨b1, hQ, s1⟩
      have k1 : W1.cell? ⟨K, 0, none⟩ = some (.slice (some ⟨g, 0, none⟩) (rn + 1 : Nat) cap) := keeps b1 _ _ k0
      have k1f : W1.frozen? ⟨K, 0, none⟩ = false := by
        have h := (b1.block K (Array.getElem?_eq_some_iff.1 HNS.out.cw.blk).1).trans HNS.out.cw.blk
        exact frozen_of_row W1 K 0 _ _ h
      clear b1 s1 hQ hW1 k0 k0a p3 p3a p4 p4a
      go_wp2_with fail
      go_region
      obtain ⟨W2, hW2⟩ : ∃ W2, (W1.setCell ⟨K, 0, none⟩ (.slice (some ⟨g, 0, none⟩) rn cap)).drew = W2 := ⟨_, rfl⟩
      rw [hW2]
      have HRK : Hid (RB ≠ K ∧ Q ≠ K ∧ g ≠ Q) := ⟨fun e => by have := HRS.out; rw [e, HNS.out.cw.blk] at this; injection this with e1; injection e1 with _ e1; exact absurd e1 (by decide), fun e => by have := (Array.getElem?_eq_some_iff.1 HNS.out.cw.blk).1; have := HB1.out.2.1; omega, by have := HB1.out.2.1; omega⟩
      have HC2 : Hid (CW w0 K B bs n m W2 (.slice (some ⟨g, 0, none⟩) rn cap) r (envOf (r ++ [⟨part, xs, .slice pn xl cn⟩])) ∧ StOk w0 W2 ⟨part, xs, .slice pn xl cn⟩ ∧ W2.heap[Q]? = some (.cells #[.pointer ad, .slice pn xl cn] 70 (0, 0)) ∧ W2.heap[RB]? = some (.cells #[.int .i64 0, .int .i64 0, .string ⟨#[]⟩, .string ⟨#[]⟩, .slice none 0 0] 29 (0, 0)) ∧ WFr K B bs w W2) := by
        have hq := (HNS.out.cw.below HB1.out.1).pop
        rw [HRN.out] at hq
        obtain ⟨q1, q2, -, -⟩ := hq
        have bd : Below (W1.setCell ⟨K, 0, none⟩ (.slice (some ⟨g, 0, none⟩) rn cap)).heap.size (W1.setCell ⟨K, 0, none⟩ (.slice (some ⟨g, 0, none⟩) rn cap)) W2 := by rw [← hW2]; exact (Below.refl _ _).drew
        have e1 : W2.heap = (W1.setCell ⟨K, 0, none⟩ (.slice (some ⟨g, 0, none⟩) rn cap)).heap := by rw [← hW2]; rfl
        refine ⟨q1.below bd, q2.fr (WFr.of_below (K := K) (B := B) (bs := bs) bd) q1.noStr.1 q1.noStr.2, ?_, ?_, ((HNS.out.fr.trans (WFr.of_below HB1.out.1)).trans WFr.of_walk).trans (WFr.of_below bd)⟩
        · rw [e1, Below.heap_setCell W1 ⟨K, 0, none⟩ _ Q HRK.out.2.1]
          exact HB1.out.2.2
        · rw [e1, Below.heap_setCell W1 ⟨K, 0, none⟩ _ RB HRK.out.1]
          exact (HB1.out.1.block RB (Array.getElem?_eq_some_iff.1 HRS.out).1).trans HRS.out
      have s0 : W2.cell? ⟨Q, 0, none⟩ = some (.pointer ad) := cell_of_row W2 Q 0 _ _ _ HC2.out.2.2.1
      have s1 : W2.cell? ⟨Q, 1, none⟩ = some (.slice pn xl cn) := cell_of_row W2 Q 1 _ _ _ HC2.out.2.2.1
      clear hW2 k1 k1f HP HRS HB1
      cases part with
      | none =>
        have had : ad = none := HAD.out.symm
        subst had
        have HE0 : Hid (CW w0 K B bs n m W2 (.slice (some ⟨g, 0, none⟩) rn cap) r (envOf r ++ nmL xs)) := by have h := HC2.out.1; rw [envOf_append] at h; simp only [envOf, List.append_nil] at h; exact h
        have HNV : Hid (NamesV W2 (.slice pn xl cn) xs ∧ xl ≤ 2 ∧ ∀ x ∈ xs, x.size ≤ 1048576) := ⟨HC2.out.2.1.2.1, by have := HC2.out.2.1.2.2.1; have := HXL.out; simp only at *; omega, HC2.out.2.1.2.2.2⟩
        have hxl2 : xl ≤ 2 := HNV.out.2.1
        have HNM : Hid (n + 2 * goesS (r ++ [⟨none, xs, .slice pn xl cn⟩]) ≤ N ∧ m + 2 * goesS (r ++ [⟨none, xs, .slice pn xl cn⟩]) ≤ N ∧ pend (r ++ [⟨none, xs, .slice pn xl cn⟩]) [] = pend st []) := ⟨HNS.out.n, HNS.out.m, HNS.out.pe⟩
        have HR2 : Hid (W2.heap[RB]? = some (.cells #[.int .i64 0, .int .i64 0, .string ⟨#[]⟩, .string ⟨#[]⟩, .slice none 0 0] 29 (0, 0)) ∧ WFr K B bs w W2) := ⟨HC2.out.2.2.2.1, HC2.out.2.2.2.2⟩
        clear HC2 HNS
        go_wp2_with fail
        clear s0 s1
        go_loopw [52] (fun i wx => ∃ k : Nat, i = .int .i64 k ∧ k ≤ xl ∧ CW w0 K B bs (n + k) m wx (.slice (some ⟨g, 0, none⟩) rn cap) r (envOf r ++ nmL (xs.drop k)) ∧ NamesV wx (.slice pn xl cn) xs ∧ wx.heap[RB]? = some (.cells #[.int .i64 0, .int .i64 0, .string ⟨#[]⟩, .string ⟨#[]⟩, .slice none 0 0] 29 (0, 0)) ∧ WFr K B bs w wx) (fun i _ => xl - (intOf i).toNat)
        case atStart => exact ⟨0, rfl, Nat.zero_le _, HE0.out, HNV.out.1, HR2.out.1, HR2.out.2⟩
        case round =>
          obtain ⟨k, rfl, hk, hC, hN2, hres, hfr⟩ := hrel
          have k1 : wr.cell? ⟨K, 1, none⟩ = some (.map (some B)) := cell_of_row wr K 1 _ _ _ hC.blk
          have HS : Hid (CW w0 K B bs (n + k) m wr (.slice (some ⟨g, 0, none⟩) rn cap) r (envOf r ++ nmL (xs.drop k)) ∧ NamesV wr (.slice pn xl cn) xs ∧ wr.heap[RB]? = some (.cells #[.int .i64 0, .int .i64 0, .string ⟨#[]⟩, .string ⟨#[]⟩, .slice none 0 0] 29 (0, 0)) ∧ WFr K B bs w wr) := ⟨hC, hN2, hres, hfr⟩
          by_cases hlt : (k : Int) < xl
          · have hlt' : k < xs.length := by have := HXL.out; omega
            obtain ⟨x, hx⟩ : ∃ x, xs[k]? = some x := ⟨_, List.getElem?_eq_getElem hlt'⟩
            obtain ⟨g2, hg, hgc⟩ : ∃ g2, pn = some ⟨g2, 0, none⟩ ∧ wr.cell? ⟨g2, k, none⟩ = some (.string x) := by
              rcases hN2 with ⟨h1, h2⟩ | ⟨g2, h1, h2⟩
              · rw [h2] at hlt'; simp at hlt'
              · injection h1 with h1 _ _
                refine ⟨g2, h1, ?_⟩
                rw [show wr.cell? ⟨g2, k, none⟩ = (xs.map Value.string).toArray[k]? from by simp [World.cell?, h2]]
                simp [hx]
            have HBI : Hid (Calls Tryd.prog 36 #[.map (some B), .string x] wr fun e w' => e = .returned (.tuple #[]) ∧ Bnd w' B (B + 1) (n + k + 1) (envOf r ++ nmL (xs.drop (k + 1))) ∧ MFr B (B + 1) wr w') := by
              refine bound_unbind B (B + 1) (n + k) (envOf r ++ nmL (xs.drop k)) (envOf r ++ nmL (xs.drop (k + 1))) x wr hC.bnd (by have := HNM.out.1; omega) (by have := HNV.out.2.2 x (List.mem_of_getElem? hx); unfold maxLen; omega) (fun s' => ?_)
              obtain ⟨_, hx2⟩ := List.getElem?_eq_some_iff.1 hx
              rw [List.drop_eq_getElem_cons hlt', hx2]
              simp only [nmL, List.map_cons, List.count_append, List.count_cons]
              by_cases e : s' = x.data.toList
              · subst e; simp; omega
              · have e2 : ¬ x.data.toList = s' := fun h => e h.symm
                simp [e, e2]
            subst hg
            clear hC hN2 hres hfr hx
            go_wp2_with ((go_at_call 36; refine HBI.out.mono ?_; rintro e w1 ⟨rfl, hb1, hm1⟩))
            have HS1 : Hid (CW w0 K B bs (n + (k + 1)) m w1 (.slice (some ⟨g, 0, none⟩) rn cap) r (envOf r ++ nmL (xs.drop (k + 1))) ∧ NamesV w1 (.slice (some ⟨g2, 0, none⟩) xl cn) xs ∧ w1.heap[RB]? = some (.cells #[.int .i64 0, .int .i64 0, .string ⟨#[]⟩, .string ⟨#[]⟩, .slice none 0 0] 29 (0, 0)) ∧ WFr K B bs w w1) := by
              obtain ⟨c1, c2, c3, c4⟩ := HS.out
              obtain ⟨D, ⟨es, ck, hB1, _⟩, _⟩ := c1.bnd
              exact ⟨c1.bind hm1 hb1, c2.fr (WFr.of_map (K := K) (bs := bs) hm1) (fun _ => c1.noStr.1) c1.noStr.2, hm1.at c3 (fun e => by rw [e, hB1] at c3; cases c3) (by decide), c4.trans (WFr.of_map hm1)⟩
            clear hb1 hm1 k1 HS
            go_wp2_with fail
            go_roundw
            case rel =>
              first | exact ⟨k + 1, by go_num, by omega, HS1.out⟩ | ((repeat apply Exists.intro); exact ⟨⟨k + 1, by go_num, by omega, HS1.out⟩, rfl⟩)
            case measure => simp [intOf]; omega
          · have hke : k = xl := by omega
            clear hC hN2 hres hfr
            go_wp2_with fail
            go_roundg (goesS r)
            case measure =>
              have h := HGO.out.1
              rw [goesS_append] at h
              simp only [goesS, St.goes, List.map_cons, List.map_nil, List.sum_cons, List.sum_nil] at h ⊢
              omega
            case rel =>
              obtain ⟨c1, c2, c3, c4⟩ := HS.out
              have hd : xs.drop k = [] := by rw [List.drop_eq_nil_iff]; have := HXL.out; omega
              rw [hd] at c1
              simp only [nmL, List.map_nil, List.append_nil] at c1
              have g1 := HGO.out
              have hng : goesS (r ++ [⟨none, xs, .slice pn xl cn⟩]) = goesS r + 1 := by rw [goesS_append]; simp [goesS, St.goes]
              have hnm := HNM.out
              rw [hng] at g1 hnm
              refine ⟨n + k, m, g, cap, r, rfl, by omega, ⟨?_, ?_, by omega, by omega, c4⟩, c3⟩
              · rw [HRN.out]; exact c1
              · rw [← hnm.2.2, pend_leave]
      | some x =>
        obtain ⟨t, v, b, o⟩ := x
        have had : ad = some ⟨b, o, none⟩ := HAD.out.symm
        subst had
        obtain ⟨c1, c2, c3, c4, c5⟩ := HC2.out
        obtain ⟨hin, hhd, hwt⟩ := c2.1 _ rfl
        simp only at hin hhd hwt
        have hxl2 : xl ≤ 2 := by have := c2.2.2.1; have := HXL.out; simp only at *; omega
        have hnn := HNS.out.n
        have hmm := HNS.out.m
        have hge : r.length + t.len + 1 ≤ 4194304 := by
          have h1 := goesS_len (kidSts t (fun _ => .slice none 0 0) (fun _ => .slice none 0 0) 0 0 t.len)
          rw [kidSts_len, kidSts_goes] at h1
          have h2 := t.goes9_eq
          have h3 : goesS (r ++ [⟨some (t, v, b, o), xs, .slice pn xl cn⟩]) = goesS r + t.goes9 := by rw [goesS_append]; simp [goesS, St.goes]
          have h4 := HRN.out
          omega
        have henv : envOf (r ++ [⟨some (t, v, b, o), xs, .slice pn xl cn⟩]) = envOf r := by rw [envOf_append]; simp [envOf]
        rw [henv] at c1
        have HCT : Hid (Calls Tryd.prog 35 #[.pointer (some ⟨K, 0, none⟩), .agg #[.pointer (some ⟨b, o, none⟩), .slice pn xl cn]] W2 fun e w' => e = .returned (.tuple #[]) ∧ ∃ (lv' : Value) (V NV : Nat → Value) (kb ko : Nat), CW w0 K B bs (n + xs.length) (m + xs.length) w' lv' (r ++ (leaveOf xs (.slice pn xl cn) ++ kidSts t V NV kb ko t.len)) (envOf r ++ nmL xs) ∧ WFr K B bs W2 w' ∧ (∃ g c : Nat, lv' = .slice (some ⟨g, 0, none⟩) ((r ++ (leaveOf xs (.slice pn xl cn) ++ kidSts t V NV kb ko t.len)).length : Nat) c) ∧ w'.heap[Q]? = some (.cells #[.pointer (some ⟨b, o, none⟩), .slice pn xl cn] 70 (0, 0))) :=
          come_to w0 K B bs n m W2 (.slice (some ⟨g, 0, none⟩) rn cap) r (envOf r) t v b o xs (.slice pn xl cn) c1 c2 hge (by omega) (by omega) ⟨g, cap, by rw [HRN.out]⟩ Q _ c3 (by intro e; simp only [Value.ownBlock, Option.some.injEq] at e; exact HRK.out.2.2 e)
        have HIN : Hid (t.In w0 v ∧ HeadC w0 b o t v ∧ t.weight ≤ 1048576) := ⟨hin, hhd, hwt⟩
        clear c1 c2 c3 c4 c5 hin hhd hwt hge henv
        go_wp2_with fail
        refine HCT.out.mono ?_
        rintro e w1 ⟨rfl, lv', V, NV, kb, ko, d1, d2, ⟨g', c', rfl⟩, d4⟩
        have hR1 : w1.heap[RB]? = some (.cells #[.int .i64 0, .int .i64 0, .string ⟨#[]⟩, .string ⟨#[]⟩, .slice none 0 0] 29 (0, 0)) := d2.at HC2.out.2.2.2.1 HRK.out.1 (fun e => by obtain ⟨D, ⟨es, ck, h1, _⟩, _⟩ := HC2.out.1.bnd; have h2 := HC2.out.2.2.2.1; rw [e, h1] at h2; cases h2) (by decide) (by decide)
        have hh := HIN.out.2.1.below d1.bel
        have HD : Hid (CW w0 K B bs (n + xs.length) (m + xs.length) w1 (.slice (some ⟨g', 0, none⟩) ((r ++ (leaveOf xs (.slice pn xl cn) ++ kidSts t V NV kb ko t.len)).length : Nat) c') (r ++ (leaveOf xs (.slice pn xl cn) ++ kidSts t V NV kb ko t.len)) (envOf r ++ nmL xs) ∧ WFr K B bs w w1 ∧ w1.heap[RB]? = some (.cells #[.int .i64 0, .int .i64 0, .string ⟨#[]⟩, .string ⟨#[]⟩, .slice none 0 0] 29 (0, 0))) := ⟨d1, HC2.out.2.2.2.2.trans d2, hR1⟩
        have q0 : w1.cell? ⟨Q, 0, none⟩ = some (.pointer (some ⟨b, o, none⟩)) := cell_of_row w1 Q 0 _ _ _ d4
        have f0 : ∀ j, w1.frozen? ⟨RB, j, none⟩ = false := fun j => frozen_of_row w1 RB j _ _ hR1
        have z0 : w1.cell? ⟨RB, 0, none⟩ = some (.int .i64 0) := cell_of_row w1 RB 0 _ _ _ hR1
        have z1 : w1.cell? ⟨RB, 1, none⟩ = some (.int .i64 0) := cell_of_row w1 RB 1 _ _ _ hR1
        have z2 : w1.cell? ⟨RB, 2, none⟩ = some (.string ⟨#[]⟩) := cell_of_row w1 RB 2 _ _ _ hR1
        have z3 : w1.cell? ⟨RB, 3, none⟩ = some (.string ⟨#[]⟩) := cell_of_row w1 RB 3 _ _ _ hR1
        have z4 : w1.cell? ⟨RB, 4, none⟩ = some (.slice none 0 0) := cell_of_row w1 RB 4 _ _ _ hR1
        obtain ⟨y0, y1, y2, y3, y4⟩ := hh
        obtain ⟨pv, cv, ev⟩ := HIN.out.1.sl.shape
        subst ev
        obtain ⟨top, hto⟩ : ∃ x, x = t.op := ⟨_, rfl⟩
        obtain ⟨tn, htn⟩ : ∃ x, x = t.n := ⟨_, rfl⟩
        obtain ⟨ts, hts⟩ : ∃ x, x = t.s := ⟨_, rfl⟩
        obtain ⟨tt, htt⟩ : ∃ x, x = t.t2 := ⟨_, rfl⟩
        obtain ⟨tl, htl⟩ : ∃ x, x = t.len := ⟨_, rfl⟩
        rw [← hto] at y0
        rw [← htn] at y1
        rw [← hts] at y2
        rw [← htt] at y3
        rw [← htl] at y4
        have HTT : Hid (top = t.op ∧ tn = t.n ∧ ts = t.s ∧ tt = t.t2 ∧ tl = t.len) := ⟨hto, htn, hts, htt, htl⟩
        clear d1 d2 d4 hR1 s0 s1 hto htn hts htt htl HCT
        go_wp2_with fail
        generalize hF : ((((w1.setCell ⟨RB, 0, none⟩ (.int .i64 top)).setCell ⟨RB, 1, none⟩ (.int .i64 tn)).setCell ⟨RB, 2, none⟩ (.string ts)).setCell ⟨RB, 3, none⟩ (.string tt)).setCell ⟨RB, 4, none⟩ (.slice pv tl cv) = F
        obtain ⟨f1, f2⟩ := put5 HD.out.2.2 F hF.symm
        have r0 := cell_of_row F RB 0 _ _ _ f1
        have r1 := cell_of_row F RB 1 _ _ _ f1
        have r2 := cell_of_row F RB 2 _ _ _ f1
        have r3 := cell_of_row F RB 3 _ _ _ f1
        have r4 := cell_of_row F RB 4 _ _ _ f1
        simp at r0 r1 r2 r3 r4
        refine bodyPost_ret (v := .tuple #[.agg #[.int .i64 top, .int .i64 tn, .string ts, .string tt, .slice pv tl cv], .bool true]) (by rw [results_cell_tmp (p := 2) (u := 3) (ty := 29) (by kernel_rfl)]; simp [go_sem, r0, r1, r2, r3, r4]) rfl ?_
        obtain ⟨e0, e1, e2, e3, e4⟩ := HTT.out
        obtain ⟨d1, d2, d3⟩ := HD.out
        have hgc := goes_come r t (.slice pv t.len cv) (.slice pn xl cn) (.slice pn xl cn) V NV b o kb ko xs
        have hge : envOf (r ++ (leaveOf xs (.slice pn xl cn) ++ kidSts t V NV kb ko t.len)) = envOf r ++ nmL xs := by rw [envOf_append, envOf_append, leaveOf_env, kidSts_env, List.append_nil]
        have hx := HXL.out
        have hgo := HGO.out
        refine .inr ⟨n + xs.length, m + xs.length, g', c', r, t, .slice pv t.len cv, b, o, xs, .slice pn xl cn, V, NV, kb, ko, by rw [e0, e1, e2, e3, e4], HNS.out.pe, HIN.out.1, HIN.out.2.2, by omega, ?_, hge, by omega, by omega, d2.far f2 (by have := HRB.out; omega)⟩
        rw [hge]
        exact d1.far f2 d3 (by have := HRB.out; have := HSZ.out; omega)
end Go.Proofs.YtefjnhkaampmcaaDoor
