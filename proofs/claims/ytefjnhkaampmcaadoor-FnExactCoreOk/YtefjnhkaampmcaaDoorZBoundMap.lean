/- (impl.boundNames).bind, unbind and meant. Condition: at most 2^40 numbers. -/
import Derived.Test.YtefjnhkaampmcaaDoorRows
import Derived.Test.YtefjnhkaampmcaaDoorZGroupMore
import Derived.Test.YtefjnhkaampmcaaDoorZOwnCut
import Derived.Maps.AppendAt
import Derived.Maps.OwnSet
import Derived.StringKeys
import Derived.WalkKit
import Derived.ProofKit
import Derived.OwnWalk
namespace Go.Proofs.YtefjnhkaampmcaaDoor
open Go.ChangeShapes Go.WideShapes Go.ChangeAt Go.RowKit Go.WideMaps Go.Maps

theorem int_infoB : (Tryd.prog.info? 3).map (fun i => (i.zero, i.size, i.bytes)) = some (some (.int .i64 0), 1, 8) := by kernel_rfl
theorem zeroB (w : World) : (zeroValue 74).run Tryd.prog w = .ok (.slice none 0 0) w := by kernel_rfl
theorem lawB : Keyed Tryd.prog 9 := string_keyed Tryd.underlying9

/-- Block B is a map that tells the names that are bound. -/
def Bnd (w : World) (B base n : Nat) (env : List (List UInt8)) : Prop := ∃ D : DataW Unit, w.ownsGroups Tryd.prog 9 base 3 .i64 B n D ∧ EnvD D env
theorem Bnd.below {w w' : World} {B base n : Nat} {env : List (List UInt8)} (h : Bnd w B base n env) (hb : Below w.heap.size w w') : Bnd w' B base n env := by
  obtain ⟨D, h1, h2⟩ := h
  exact ⟨D, groups_below h1 hb, h2⟩
theorem Bnd.lt {w : World} {B base n : Nat} {env : List (List UInt8)} (h : Bnd w B base n env) : B < w.heap.size ∧ B < base := by
  obtain ⟨D, ⟨es, ck, h1, _, _, _, h2, _⟩, _⟩ := h
  exact ⟨(Array.getElem?_eq_some_iff.1 h1).1, h2⟩
/-- What stays: all but the map, and rows of ints from base on. -/
structure MFr (B base : Nat) (w w' : World) : Prop where
  os : w'.os = w.os
  tape : w'.tape = w.tape
  output : w'.output = w.output
  size : w.heap.size ≤ w'.heap.size
  block : ∀ g, g < w.heap.size → g ≠ B → (g < base ∨ ∀ cs fr, w.heap[g]? ≠ some (.cells cs 3 fr)) → w'.heap[g]? = w.heap[g]?
theorem MFr.refl (B base : Nat) (w : World) : MFr B base w w := ⟨rfl, rfl, rfl, Nat.le_refl _, fun _ _ _ _ => rfl⟩
theorem MFr.trans {B base : Nat} {w w1 w2 : World} (h : MFr B base w w1) (h2 : MFr B base w1 w2) : MFr B base w w2 :=
  ⟨h2.os.trans h.os, h2.tape.trans h.tape, h2.output.trans h.output, Nat.le_trans h.size h2.size, fun g a b c => (h2.block g (Nat.lt_of_lt_of_le a h.size) b (c.imp id (fun h3 cs fr => by rw [h.block g a b c]; exact h3 cs fr))).trans (h.block g a b c)⟩
theorem MFr.of_below {B base : Nat} {w w' : World} (h : Below w.heap.size w w') : MFr B base w w' := ⟨h.os, h.tape, h.output, h.size, fun g a _ _ => h.block g a⟩
theorem MFr.below {B base K : Nat} {w w' : World} (h : MFr B base w w') (hK : K ≤ base) (hB : K ≤ B) (hs : K ≤ w.heap.size) : Below K w w' := ⟨h.os, h.tape, h.output, h.size, fun g hg => h.block g (by omega) (by omega) (.inl (by omega))⟩
theorem MFr.map {B base : Nat} {w w' : World} (h : w.grownBy w' (some B)) : MFr B base w w' := ⟨h.os, h.tape, h.output, h.size, fun g a b _ => h.block g a (by intro e; injection e with e; exact b e)⟩
theorem MFr.row {B base : Nat} {w w' : World} {v : Value} {zs : List Int} (ho : w.ownsInts base 3 .i64 v zs) (h : w.grownBy w' v.ownBlock) : MFr B base w w' := by
  refine ⟨h.os, h.tape, h.output, h.size, fun g a _ c => h.block g a (fun e => ?_)⟩
  rcases ho.1.2 with ⟨rfl, _⟩ | ⟨g', cap, cur, rfl, hbg, hgg, _⟩
  · cases e
  · simp only [Value.ownBlock, Option.some.injEq] at e
    subst e
    rcases c with c | c
    · omega
    · exact c _ _ hgg
theorem MFr.at {B base : Nat} {w w' : World} (h : MFr B base w w') {g : Nat} {cs : Array Value} {ty : TypeId} {fr : Nat × Nat} (hg : w.heap[g]? = some (.cells cs ty fr)) (hB : g ≠ B) (hty : ty ≠ 3) : w'.heap[g]? = some (.cells cs ty fr) :=
  (h.block g (Array.getElem?_eq_some_iff.1 hg).1 hB (.inr (fun cs' fr' e => by rw [hg] at e; injection e with e; injection e with _ e; exact hty e))).trans hg

set_option maxRecDepth 100000 in
set_option maxHeartbeats 2000000 in
theorem bound_bind (B base n : Nat) (env : List (List UInt8)) (s : ByteArray) (z : Nat) (w : World) (h : Bnd w B base n env) (hb : base ≤ w.heap.size) (hn : n ≤ 1073741824) (hs : s.size ≤ maxLen) (hz : z ≤ 1099511627776) :
    Calls Tryd.prog 38 #[.map (some B), .string s, .int .i64 z] w fun e w' => e = .returned (.tuple #[]) ∧ Bnd w' B base (n + 1) (env ++ [s.data.toList]) ∧ MFr B base w w' := by
  obtain ⟨i0, hi, hz0, hz1, hz2⟩ := info_parts int_infoB
  obtain ⟨D, hown, hE⟩ := h
  have HE : Hid (EnvD D env) := hE
  have hkey := keyOf_string_mk (P := Tryd.prog) Tryd.underlying9 hs
  have HF : Hid (∀ v zs, D.atKey (.string s.data.toList) .nil = rowDatum .i64 v zs → w.ownsInts base 3 .i64 v zs → zs.length = env.count s.data.toList ∧ ∀ x ∈ zs, 0 ≤ x) := fun v zs h1 h2 => hE.row h1 h2
  clear hE
  have hwf : (Lit.int .i64 (z : Int)).wf = true := WalkArith.wf_i64 (by omega)
  go_enter Tryd.func38, Tryd.ntmps38
  go_wp2_with (first
    | (at_lookup; refine wpList_lookup_groups _ rfl _ _ 56 rfl 9 74 3 .i64 lawB Tryd.underlying56 (zeroB _) base B n D rfl hown (by unfold maxLen; omega) _ _ rfl hkey ?_; intro v zs hat hoi hzl hback)
    | (at_builtin; refine wpList_append_own_at _ rfl _ _ 74 rfl base 3 i0 (.int .i64 0) 1 8 Tryd.underlying74 hi hz0 hz1 hz2 rfl (by decide) _ _ _ rfl (hoi.1.alloc _) ⟨w.heap.size, 0, none⟩ 1 1 [.int .i64 z] rfl rfl (cell_one_new _ _ _) (ints_oneCell .i64 [(z : Int)]) (by unfold maxLen; omega) (by omega) (by simp; omega) ?_; intro v' w1 hown' hgrow hnil hloc)
    | (at_mapUpdate; refine wpList_mapUpdate_back _ rfl _ _ _ 56 rfl hback rfl rfl rfl ((World.grownBy_alloc _ _ _).trans hgrow) (hoi.appended hown' hwf) (by simp; omega) (hloc.imp id (fun h => ⟨_, h, by simp⟩)) ?_; intro w2 hown2 hgrow2)
    | go_in)
  go_end0
  have hall := (World.grownBy_alloc w _ _).trans hgrow
  obtain ⟨f1, f2⟩ := HF.out v zs hat hoi
  refine ⟨rfl, ⟨_, hown2, ?_⟩, (MFr.row hoi hall).trans (MFr.map hgrow2)⟩
  exact HE.out.bind ((hoi.appended hown' hwf).datum_pos (by simp)) f1 f2 (by omega)

set_option maxRecDepth 100000 in
set_option maxHeartbeats 2000000 in
theorem bound_meant (B base n : Nat) (env : List (List UInt8)) (s : ByteArray) (w : World) (h : Bnd w B base n env) (hs : s.size ≤ maxLen) :
    Calls Tryd.prog 30 #[.map (some B), .string s] w fun e w' => ∃ z : Int, e = .returned (.int .i64 z) ∧ (env.count s.data.toList = 0 → z = -1) ∧ (env.count s.data.toList ≠ 0 → 0 ≤ z) ∧ w' = w := by
  obtain ⟨D, hown, hE⟩ := h
  have hkey := keyOf_string_mk (P := Tryd.prog) Tryd.underlying9 hs
  rcases groups_look hown lawB Tryd.underlying56 (zeroB _) hkey with ⟨hrun, hh⟩ | ⟨v, zs, hrun, hh, hat, ho⟩
  · have HC : Hid (env.count s.data.toList = 0) := by
      show _ = _
      by_cases h0 : env.count s.data.toList = 0
      · exact h0
      · have := ((hE.2 s.data.toList).2 h0).1
        rw [hh] at this; cases this
    clear hown hE hkey hh
    go_enter Tryd.func30, Tryd.ntmps30
    go_wp2_with fail
    go_ret
    exact ⟨-1, rfl, fun _ => rfl, fun h => absurd HC.out h, rfl⟩
  · obtain ⟨f1, f2⟩ := hE.row hat ho
    have hc0 : env.count s.data.toList ≠ 0 := fun h0 => by have := (hE.2 s.data.toList).1 h0; rw [hh] at this; cases this
    have hpos : 0 < zs.length := by omega
    have hr := ho.1
    obtain ⟨g, cap, ev, hgc, hgm⟩ : ∃ g cap, v = .slice (some ⟨g, 0, none⟩) (zs.length : Nat) cap ∧ zs.length ≤ cap ∧ cap ≤ maxLen := by
      rcases hr.2 with ⟨_, h0⟩ | ⟨g, cap, cur, he, _, _, hc, hm, _⟩
      · omega
      · exact ⟨g, cap, he, hc, hm⟩
    subst ev
    have hcell : w.cell? ⟨g, zs.length - 1, none⟩ = some (.int .i64 (zs.getD (zs.length - 1) 0)) := by
      rw [hr.cellAt (zs.length - 1) (by omega), List.getElem?_map, List.getD_eq_getElem?_getD, List.getElem?_eq_getElem (by omega)]; rfl
    have HZ : Hid (0 ≤ zs.getD (zs.length - 1) 0 ∧ env.count s.data.toList ≠ 0) := by
      refine ⟨f2 _ ?_, hc0⟩
      rw [List.getD_eq_getElem?_getD, List.getElem?_eq_getElem (by omega)]
      exact List.getElem_mem _
    clear hown hE hkey hh hat ho hr f1 f2 hc0
    generalize zs.getD (zs.length - 1) 0 = zz at *
    generalize hm : zs.length = m at *
    obtain ⟨m', rfl⟩ : ∃ m', m = m' + 1 := ⟨m - 1, by omega⟩
    rw [Nat.add_sub_cancel] at hcell
    unfold maxLen at hgm
    clear hm
    go_enter Tryd.func30, Tryd.ntmps30
    go_wp2_with fail
    go_ret
    exact ⟨zz, rfl, fun h => absurd h HZ.out.2, fun _ => HZ.out.1, rfl⟩

set_option maxRecDepth 100000 in
set_option maxHeartbeats 2000000 in
theorem bound_unbind (B base n : Nat) (env env' : List (List UInt8)) (s : ByteArray) (w : World) (h : Bnd w B base n env) (hn : n ≤ 1073741824) (hs : s.size ≤ maxLen) (hc : ∀ s', env.count s' = env'.count s' + (if s' = s.data.toList then 1 else 0)) :
    Calls Tryd.prog 36 #[.map (some B), .string s] w fun e w' => e = .returned (.tuple #[]) ∧ Bnd w' B base (n + 1) env' ∧ MFr B base w w' := by
  obtain ⟨D, hown, hE⟩ := h
  have HE : Hid (EnvD D env) := hE
  have hkey := keyOf_string_mk (P := Tryd.prog) Tryd.underlying9 hs
  have HF : Hid (∀ v zs, D.atKey (.string s.data.toList) .nil = rowDatum .i64 v zs → w.ownsInts base 3 .i64 v zs → zs.length = env.count s.data.toList ∧ ∀ x ∈ zs, 0 ≤ x) := fun v zs h1 h2 => hE.row h1 h2
  have HC : Hid (∀ s', env.count s' = env'.count s' + (if s' = s.data.toList then 1 else 0)) := hc
  clear hE hc
  obtain ⟨v, zs, hrun, hat, hoi, hzl, hback⟩ := hown.at lawB Tryd.underlying56 (zeroB _) (by unfold maxLen; omega) hkey
  obtain ⟨f1, f2⟩ := HF.out v zs hat hoi
  have hcs := HC.out s.data.toList
  rw [if_pos rfl] at hcs
  obtain ⟨m, hm⟩ : ∃ m, zs.length = m + 1 := ⟨zs.length - 1, by omega⟩
  have hr := hoi.1
  obtain ⟨g, cap, ev, hgc, hgm⟩ : ∃ g cap, v = .slice (some ⟨g, 0, none⟩) ((m + 1 : Nat)) cap ∧ m + 1 ≤ cap ∧ cap ≤ maxLen := by
    rcases hr.2 with ⟨_, h0⟩ | ⟨g, cap, cur, he, _, _, hc, hm', _⟩
    · omega
    · exact ⟨g, cap, by rw [he, hm], by omega, hm'⟩
  subst ev
  unfold maxLen at hgm
  by_cases h1 : m = 0
  · subst h1
    have HD : Hid (EnvD (D.del (.string s.data.toList)) env') := HE.out.drop HC.out (by omega)
    clear hback hat hoi hr f2
    go_enter Tryd.func36, Tryd.ntmps36
    go_wp2_with (first
      | (at_delete; refine wpList_delete_groups _ rfl _ _ 56 9 rfl 74 3 .i64 lawB Tryd.underlying56 base B n D rfl hown _ _ rfl hkey ?_; intro w1 hown1 hgrow1)
      | go_in)
    simp only [Act.put]
    refine bodyPost_ret (results_none rfl _ _ _) rfl ?_
    obtain ⟨es, ck, a1, a2, a3, a4, a5, a6, a7⟩ := hown1
    exact ⟨rfl, ⟨_, ⟨es, ck, a1, a2, by omega, a4, a5, fun x hx zs hz => by have := a6 x hx zs hz; omega, a7⟩, HD.out⟩, MFr.map hgrow1⟩
  · have hzs : zs = zs.dropLast ++ [zs.getLast (by intro e; rw [e] at hm; simp at hm)] := (List.dropLast_concat_getLast _).symm
    have hdl : zs.dropLast.length = m := by rw [List.length_dropLast]; omega
    have ho' : w.ownsInts base 3 .i64 (.slice (some ⟨g, 0, none⟩) m cap) zs.dropLast := by
      refine ⟨?_, fun z hz => hoi.2 z ((List.dropLast_sublist zs).subset hz)⟩
      rw [hdl]
      have h9 := hr
      rw [hm] at h9
      rw [hzs, List.map_append] at h9
      exact own_cut h9 (by rw [List.length_map, hdl]; omega) (by omega)
    have HD : Hid (EnvD (D.put (.string s.data.toList) (rowDatum .i64 (.slice (some ⟨g, 0, none⟩) m cap) zs.dropLast)) env') := HE.out.unbind HC.out (ho'.datum_pos (by intro e; rw [e] at hdl; simp at hdl; omega)) (by omega) (fun x hx => f2 x ((List.dropLast_sublist zs).subset hx)) (by omega)
    have g1 : (((m + 1 : Nat) : Int) == 1) = false := by rw [beq_eq_false_iff_ne]; omega
    have hmm : ((m + 1 : Nat) : Int) = (m : Int) + 1 := by omega
    clear hat hr f2 hzs hown hoi
    go_enter Tryd.func36, Tryd.ntmps36
    go_wp2_with (first
      | (at_mapUpdate; refine wpList_mapUpdate_back _ rfl _ _ _ 56 rfl hback rfl rfl rfl (World.grownBy.refl _ _) ho' (by omega) (.inl rfl) ?_; intro w2 hown2 hgrow2)
      | go_in)
    go_end0
    exact ⟨rfl, ⟨_, hown2, HD.out⟩, MFr.map hgrow2⟩
end Go.Proofs.YtefjnhkaampmcaaDoor
