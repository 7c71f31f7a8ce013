/- spec.l9And, spec.l9In, spec.l9Env. Condition: at most 2^24 names. -/
import Derived.Test.YtefjnhkaampmcaaDoorRows
import Derived.Test.YtefjnhkaampmcaaDoorZStrRow
import Derived.Test.YtefjnhkaampmcaaDoorZCorOkP
import Derived.Test.YtefjnhkaampmcaaDoorZCorRows
import Derived.Test.YtefjnhkaampmcaaDoorZOwnCut
import Derived.WalkKit
import Derived.ProofKit
import Derived.OwnWalk
import Derived.BigQuiet
import Derived.Deep.QuietTactic
import Derived.Deep.RegionWith
import Derived.Deep.AppendLies
import Derived.Deep.Cut
namespace Go.Proofs.YtefjnhkaampmcaaDoor
open Go.ChangeShapes Go.WideShapes Go.ChangeAt Go.RowKit

/-- A list of names that are bound. -/
def EnvS (w : World) (v : Value) (xs : List ByteArray) : Prop := OwnS w 0 v xs ∧ ∃ g cap, v = .slice (some ⟨g, 0, none⟩) (xs.length : Nat) cap
theorem EnvS.below {w w' : World} {v : Value} {xs : List ByteArray} (h : EnvS w v xs) (hb : Below w.heap.size w w') : EnvS w' v xs := ⟨h.1.below hb, h.2⟩
def envL (xs : List ByteArray) : List (List UInt8) := xs.map fun x => x.data.toList
theorem envL_append (a b : List ByteArray) : envL (a ++ b) = envL a ++ envL b := by simp [envL]

set_option maxRecDepth 100000 in
set_option maxHeartbeats 2000000 in
theorem spec_and (xs : List ByteArray) (s : ByteArray) (v : Value) (w : World) (h : EnvS w v xs) (hl : xs.length ≤ 16777216) :
    Calls Tryd.prog 33 #[v, .string s] w fun e w' => ∃ v', e = .returned v' ∧ EnvS w' v' (xs ++ [s]) ∧ Below w.heap.size w w' := by
  obtain ⟨i0, hi, hz0, hz1, hz2⟩ := info_parts string_info
  obtain ⟨ho, g, cap, rfl⟩ := h
  have HO : Hid (OwnS w 0 (.slice (some ⟨g, 0, none⟩) xs.length cap) xs) := ho
  have hr := own_room ho
  unfold maxLen at hr
  clear ho
  generalize hn : xs.length = n at *
  have HN : Hid (xs.length = n) := hn
  clear hn
  go_enter Tryd.func33, Tryd.ntmps33
  go_wp2_with (at_builtin; refine wpList_append_own _ rfl _ _ 36 rfl w.heap.size 9 i0 (.string ⟨#[]⟩) 1 16 Tryd.underlying36 hi hz0 hz1 hz2 rfl (by decide) _ 0 [] rfl ?c0 ⟨g, 0, none⟩ n cap (xs.map Value.string) rfl ?cl ?c1 (strs_cells xs) ?c3 ?c4 ?c5 ?_)
  case c0 => exact own_new rfl rfl (Nat.le_refl _) rfl rfl (by unfold maxLen; omega)
  case cl => rw [List.length_map, HN.out]; omega
  case c1 =>
    intro j u hu
    exact World.ownsRow.cells (World.ownsRow.alloc HO.out _) (g := g) rfl j u hu
  case c3 => unfold maxLen; omega
  case c4 => omega
  case c5 => simp
  intro v1 w1 hown1 hgrow1 _
  have hown1' : w1.ownsRow w.heap.size 9 1 v1 n (xs.map Value.string) := by simpa using hown1
  have HO1 : Hid (w1.ownsRow w.heap.size 9 1 v1 n (xs.map Value.string)) := hown1'
  have HB1 : Hid (Below w.heap.size w w1) := by
    refine (newb w (.cells #[] 9)).trans ⟨hgrow1.os, hgrow1.tape, hgrow1.output, hgrow1.size, fun j hj => hgrow1.block j (by simp; omega) (fun e => ?_)⟩
    have : j = w.heap.size := by simpa [Value.ownBlock] using e
    omega
  have hw1 : w.heap.size ≤ w1.heap.size := HB1.out.size
  clear hown1 hown1' hgrow1
  go_wp2_with (at_builtin; refine wpList_append_own _ rfl _ _ 36 rfl w.heap.size 9 i0 (.string ⟨#[]⟩) 1 16 Tryd.underlying36 hi hz0 hz1 hz2 rfl (by decide) _ n (xs.map Value.string) rfl (HO1.out.alloc _) ⟨w1.heap.size, 0, none⟩ 1 1 [.string s] rfl rfl ?d1 ?d2 ?d3 ?d4 ?d5 ?_)
  case d1 => first | exact fun j u h => h | exact World.news_of_block (cs := #[.string s]) (t := 9) (fr := (0, 0)) (heap_alloc_new w1 _)
  case d2 => intro u hu; simp at hu; subst hu; rfl
  case d3 => unfold maxLen; omega
  case d4 => omega
  case d5 => first | omega | (simp; omega)
  intro v2 w2 hown2 hgrow2 _
  have HF : Hid (EnvS w2 v2 (xs ++ [s]) ∧ Below w.heap.size w w2) := by
    have hlen : (xs ++ [s]).length = n + 1 := by rw [List.length_append, HN.out]; rfl
    have h2 : w2.ownsRow w.heap.size 9 1 v2 (xs ++ [s]).length ((xs ++ [s]).map Value.string) := by rw [hlen, List.map_append]; exact hown2
    refine ⟨⟨OwnS.mono (base := w.heap.size) h2 (Nat.zero_le _), ?_⟩, ?_⟩
    · rcases h2.2 with ⟨_, hz⟩ | ⟨g', cap', cur, rfl, _⟩
      · rw [hlen] at hz; omega
      · exact ⟨g', cap', rfl⟩
    · have hb := HB1.out.trans ((newb w1 (.cells #[.string s] 9)).mono hw1)
      exact hb.trans ⟨hgrow2.os, hgrow2.tape, hgrow2.output, hgrow2.size, fun j hj => hgrow2.block j (by simp; omega) (fun e => by have := (HO1.out.lt j e.symm).1; omega)⟩
  clear hown2 hgrow2
  obtain ⟨⟨ho2, g2, cap2, e2⟩, hb2⟩ := HF.out
  subst e2
  have HF2 : Hid (EnvS w2 (.slice (some ⟨g2, 0, none⟩) ((xs ++ [s]).length : Nat) cap2) (xs ++ [s]) ∧ Below w.heap.size w w2) := ⟨⟨ho2, g2, cap2, rfl⟩, hb2⟩
  clear ho2 hb2 HF
  go_wp2_with fail
  go_ret
  exact ⟨_, rfl, HF2.out⟩

theorem contains_at (xs : List ByteArray) (s : ByteArray) (k : Nat) (h : k < xs.length) (hk : ¬ (envL (xs.take k)).contains s.data.toList = true) (e : (xs[k].toList == s.toList) = false) : ¬ (envL (xs.take (k + 1))).contains s.data.toList = true := by
  intro hc
  apply hk
  rw [List.take_add_one, List.getElem?_eq_getElem h, envL_append] at hc
  rw [List.contains_iff_mem, List.mem_append] at hc
  rw [List.contains_iff_mem]
  rcases hc with hc | hc
  · exact hc
  · exfalso
    simp only [envL, Option.toList_some, List.map_cons, List.map_nil, List.mem_singleton] at hc
    rw [ByteArray.toList_eq, ByteArray.toList_eq, hc] at e
    simp at e

set_option maxRecDepth 100000 in
set_option maxHeartbeats 2000000 in
theorem spec_lin (xs : List ByteArray) (s : ByteArray) (v : Value) (w : World) (h : EnvS w v xs) :
    Calls Tryd.prog 23 #[v, .string s] w fun e w' => e = .returned (.bool ((envL xs).contains s.data.toList)) ∧ w' = w := by
  obtain ⟨ho, g, cap, rfl⟩ := h
  have HC : Hid (∀ j x, xs[j]? = some x → w.cell? ⟨g, j, none⟩ = some (.string x)) := by
    intro j x hx
    have hj := (List.getElem?_eq_some_iff.1 hx).1
    have h1 := World.ownsRow.cellAt ho j (by omega)
    rw [h1, List.getElem?_map, hx]; rfl
  have hr := own_room ho
  unfold maxLen at hr
  clear ho
  obtain ⟨R, hR⟩ : ∃ R, R = (envL xs).contains s.data.toList := ⟨_, rfl⟩
  have HR : Hid (R = (envL xs).contains s.data.toList) := hR
  rw [← hR]
  clear hR
  generalize hn : xs.length = n at *
  have HN : Hid (xs.length = n) := hn
  clear hn
  go_enter Tryd.func23, Tryd.ntmps23
  go_wp2_with fail
  go_loopw [5] (fun i wr => ∃ k : Nat, i = .int .i64 k ∧ k ≤ n ∧ ¬ (envL (xs.take k)).contains s.data.toList = true ∧ wr = w) (fun i _ => n - (intOf i).toNat)
  case atStart => exact ⟨0, rfl, Nat.zero_le _, by simp [envL], rfl⟩
  case round =>
    obtain ⟨k, rfl, hk, hno, rfl⟩ := hrel
    have HNO : Hid (¬ (envL (xs.take k)).contains s.data.toList = true) := hno
    clear hno
    by_cases hlt : (k : Int) < n
    · have hlt' : k < n := by omega
      obtain ⟨x, hx, c0⟩ : ∃ x, xs[k]? = some x ∧ wr.cell? ⟨g, k, none⟩ = some (.string x) := ⟨_, List.getElem?_eq_getElem (by rw [HN.out]; exact hlt'), HC.out k _ (List.getElem?_eq_getElem (by rw [HN.out]; exact hlt'))⟩
      have HX : Hid (xs[k]? = some x) := hx
      clear hx
      cases he : (x.toList == s.toList) with
      | true =>
        have HRT : Hid (R = true) := by
          show _ = _
          rw [HR.out, List.contains_iff_mem]
          have h1 := List.mem_of_getElem? HX.out
          have h2 : x.data.toList = s.data.toList := by rw [ByteArray.toList_eq, ByteArray.toList_eq] at he; simpa using he
          rw [← h2]
          exact List.mem_map.2 ⟨x, h1, rfl⟩
        go_wp2_with fail
        go_ret
        exact ⟨by rw [HRT.out]; rfl, rfl⟩
      | false =>
        have HE : Hid (¬ (envL (xs.take (k + 1))).contains s.data.toList = true) := by
          have hkl : k < xs.length := by rw [HN.out]; exact hlt'
          have hxk : xs[k] = x := by have := HX.out; rw [List.getElem?_eq_getElem hkl] at this; exact Option.some.inj this
          exact contains_at xs s k hkl HNO.out (by rw [hxk]; exact he)
        go_wp2_with fail
        go_roundw
        case rel => first | exact ⟨k + 1, by go_num, by omega, HE.out, rfl⟩ | exact ⟨k + 1, by go_num, by omega, HE.out, trivial⟩ | ((repeat apply Exists.intro); exact ⟨⟨k + 1, by go_num, by omega, HE.out, rfl⟩, rfl⟩)
        case measure => simp [intOf]; omega
    · have hke : k = n := by omega
      have HRF : Hid (R = false) := by
        show _ = _
        rw [HR.out, Bool.eq_false_iff]
        have := HNO.out
        rw [hke, ← HN.out, List.take_length] at this
        exact this
      go_wp2_with fail
      go_ret
      exact ⟨by rw [HRF.out]; rfl, rfl⟩

/-- The names that are bound in a kid. -/
def bndB (op : Int) (i : Nat) (s t2 : ByteArray) : List ByteArray :=
  if op = 3 ∨ (op = 5 ∧ i = 1) ∨ (op = 6 ∧ i = 1) then [s] else if op = 6 then [s, t2] else []
theorem bndB_env (op : Int) (i : Nat) (s t2 : ByteArray) : envL (bndB op i s t2) = bnd op i s t2 := by
  unfold bndB bnd
  split
  · rfl
  · split <;> rfl
theorem bndB_len (op : Int) (i : Nat) (s t2 : ByteArray) : (bndB op i s t2).length ≤ 2 := by
  unfold bndB
  split
  · simp
  · split <;> simp

def EnvSays (w : World) (xs : List ByteArray) (e : Ending) (w' : World) : Prop := ∃ v', e = .returned v' ∧ EnvS w' v' xs ∧ Below w.heap.size w w'

set_option maxRecDepth 100000 in
set_option maxHeartbeats 2000000 in
theorem spec_env (t : C) (p : Option Addr) (cap k : Nat) (xs : List ByteArray) (v : Value) (w : World) (h : EnvS w v xs) (hl : xs.length ≤ 8388608) :
    Calls Tryd.prog 24 #[.agg #[.int .i64 t.op, .int .i64 t.n, .string t.s, .string t.t2, .slice p t.len cap], .int .i64 k, v] w (EnvSays w (xs ++ bndB t.op k t.s t.t2)) := by
  obtain ⟨W, hW⟩ : ∃ W, W = w.alloc (.cells #[.int .i64 t.op, .int .i64 t.n, .string t.s, .string t.t2, .slice p t.len cap] 29) := ⟨_, rfl⟩
  obtain ⟨TB, hTB⟩ : ∃ TB, TB = w.heap.size := ⟨_, rfl⟩
  have hk0 : W.heap[TB]? = some (.cells #[.int .i64 t.op, .int .i64 t.n, .string t.s, .string t.t2, .slice p t.len cap] 29 (0, 0)) := by rw [hW, hTB]; exact heap_alloc_new w _
  have HBW : Hid (Below w.heap.size w W ∧ W.heap[TB]? = some (.cells #[.int .i64 t.op, .int .i64 t.n, .string t.s, .string t.t2, .slice p t.len cap] 29 (0, 0))) := ⟨by rw [hW]; exact newb w _, hk0⟩
  have HEW : Hid (EnvS W v xs) := h.below HBW.out.1
  have HWW : Hid (W = w.alloc (.cells #[.int .i64 t.op, .int .i64 t.n, .string t.s, .string t.t2, .slice p t.len cap] 29) ∧ TB = w.heap.size) := ⟨hW, hTB⟩
  have m0 : W.cell? ⟨TB, 0, none⟩ = some (.int .i64 t.op) := cell_of_row W TB 0 _ _ _ hk0
  have m2 : W.cell? ⟨TB, 2, none⟩ = some (.string t.s) := cell_of_row W TB 2 _ _ _ hk0
  have m3 : W.cell? ⟨TB, 3, none⟩ = some (.string t.t2) := cell_of_row W TB 3 _ _ _ hk0
  have HA1 : Hid (Calls Tryd.prog 33 #[v, .string t.s] W fun e w' => ∃ v', e = .returned v' ∧ EnvS w' v' (xs ++ [t.s]) ∧ Below W.heap.size W w') := spec_and xs t.s v W HEW.out (by omega)
  obtain ⟨-, g, gc, ev⟩ := h
  clear hW hTB hk0
  by_cases hb : t.op = 3 ∨ (t.op = 5 ∧ k = 1) ∨ (t.op = 6 ∧ k = 1)
  · have HR : Hid (xs ++ bndB t.op k t.s t.t2 = xs ++ [t.s]) := by show _ = _; unfold bndB; rw [if_pos hb]
    rw [HR.out]
    generalize t.op = op at *
    generalize t.n = n at *
    generalize t.s = s at *
    generalize t.t2 = t2 at *
    generalize t.len = len at *
    rcases hb with rfl | ⟨rfl, rfl⟩ | ⟨rfl, rfl⟩
    all_goals
      subst ev
      go_enter Tryd.func24, Tryd.ntmps24
      go_upto_region 1 with fail
      rw [← HWW.out.1, ← HWW.out.2]
      go_wp2_with fail
      refine HA1.out.mono ?_
      rintro e w1 ⟨v', rfl, he1, hb1⟩
      obtain ⟨ho1, g1, c1, e1⟩ := he1
      subst e1
      have HF : Hid (EnvSays w (xs ++ [s]) (.returned (.slice (some ⟨g1, 0, none⟩) ((xs ++ [s]).length : Nat) c1)) w1) := ⟨_, rfl, ⟨ho1, g1, c1, rfl⟩, HBW.out.1.trans (hb1.mono HBW.out.1.size)⟩
      clear ho1 hb1
      generalize (xs ++ [s]).length = m1 at *
      go_wp2_with fail
      go_ret
      exact HF.out
  · by_cases h6 : t.op = 6
    · have hk1 : k ≠ 1 := fun e => hb (.inr (.inr ⟨h6, e⟩))
      have HR : Hid (xs ++ bndB t.op k t.s t.t2 = (xs ++ [t.s]) ++ [t.t2]) := by show _ = _; unfold bndB; rw [if_neg hb, if_pos h6]; simp
      have HA2 : Hid (∀ v w, EnvS w v (xs ++ [t.s]) → Calls Tryd.prog 33 #[v, .string t.t2] w fun e w' => ∃ v', e = .returned v' ∧ EnvS w' v' ((xs ++ [t.s]) ++ [t.t2]) ∧ Below w.heap.size w w') := fun v w h => spec_and (xs ++ [t.s]) t.t2 v w h (by rw [List.length_append]; simp; omega)
      have HA1' : Hid (Calls Tryd.prog 33 #[v, .string t.s] W.drew fun e w' => ∃ v', e = .returned v' ∧ EnvS w' v' (xs ++ [t.s]) ∧ Below W.heap.size W w') := (spec_and xs t.s v W.drew (HEW.out.below (Below.refl _ _).drew) (by omega)).mono (fun _ _ ⟨v', h1, h2, h3⟩ => ⟨v', h1, h2, ⟨h3.os, h3.tape, h3.output, h3.size, h3.block⟩⟩)
      rw [HR.out, h6]
      rw [h6] at HWW HBW m0
      have gk : ((k : Int) == 1) = false := by rw [beq_eq_false_iff_ne]; omega
      clear hb HA1 h6
      generalize t.n = n at *
      generalize t.s = s at *
      generalize t.t2 = t2 at *
      generalize t.len = len at *
      subst ev
      go_enter Tryd.func24, Tryd.ntmps24
      go_upto_region 1 with fail
      rw [← HWW.out.1, ← HWW.out.2]
      go_wp2_with fail
      have tok0 : True := trivial
      go_region_with (first
        | (go_at_call 33; clear tok0; refine HA1'.out.mono ?_; rintro e w1 ⟨v', rfl, he1, hb1⟩; obtain ⟨ho1, g1, c1, e1⟩ := he1; subst e1; have HE1 : Hid (EnvS w1 (.slice (some ⟨g1, 0, none⟩) ((xs ++ [s]).length : Nat) c1) (xs ++ [s])) := ⟨ho1, g1, c1, rfl⟩; have HB1 : Hid (Below W.heap.size W w1) := hb1; have n3 := keeps hb1 _ _ m3; have tok1 : True := trivial; clear ho1 hb1; generalize (xs ++ [s]).length = m1 at *)
        | (go_at_call 33; clear tok1; refine (HA2.out _ _ HE1.out).mono ?_; rintro e w2 ⟨v2, rfl, he2, hb2⟩; obtain ⟨ho2, g2, c2, e2⟩ := he2; subst e2; have HF : Hid (EnvSays w ((xs ++ [s]) ++ [t2]) (.returned (.slice (some ⟨g2, 0, none⟩) (((xs ++ [s]) ++ [t2]).length : Nat) c2)) w2) := ⟨_, rfl, ⟨ho2, g2, c2, rfl⟩, (HBW.out.1.trans (HB1.out.mono HBW.out.1.size)).trans (hb2.mono (Nat.le_trans HBW.out.1.size HB1.out.size))⟩; clear ho2 hb2; generalize ((xs ++ [s]) ++ [t2]).length = m2 at *))
      all_goals
        go_wp2_with fail
        go_ret
        exact HF.out
    · have HR : Hid (xs ++ bndB t.op k t.s t.t2 = xs) := by show _ = _; unfold bndB; rw [if_neg hb, if_neg h6, List.append_nil]
      rw [HR.out]
      have h3 : t.op ≠ 3 := fun e => hb (.inl e)
      have g3 : (t.op == 3) = false := by simpa using h3
      have g6 : (t.op == 6) = false := by simpa using h6
      have HF : Hid (EnvSays w xs (.returned v) W) := ⟨v, rfl, HEW.out, HBW.out.1⟩
      by_cases h5 : t.op = 5
      · have hk1 : k ≠ 1 := fun e => hb (.inr (.inl ⟨h5, e⟩))
        have gk : ((k : Int) == 1) = false := by rw [beq_eq_false_iff_ne]; omega
        rw [h5]
        rw [h5] at HWW m0
        clear hb HA1 h5 g3 g6 h3 h6
        generalize t.n = n at *
        generalize t.s = s at *
        generalize t.t2 = t2 at *
        generalize t.len = len at *
        subst ev
        go_enter Tryd.func24, Tryd.ntmps24
        go_upto_region 1 with fail
        rw [← HWW.out.1, ← HWW.out.2]
        go_wp2_with fail
        go_ret
        exact HF.out
      · have g5 : (t.op == 5) = false := by simpa using h5
        clear hb HA1
        generalize t.op = op at *
        generalize t.n = n at *
        generalize t.s = s at *
        generalize t.t2 = t2 at *
        generalize t.len = len at *
        subst ev
        go_enter Tryd.func24, Tryd.ntmps24
        go_upto_region 1 with fail
        rw [← HWW.out.1, ← HWW.out.2]
        go_wp2_with fail
        go_ret
        exact HF.out
end Go.Proofs.YtefjnhkaampmcaaDoor
