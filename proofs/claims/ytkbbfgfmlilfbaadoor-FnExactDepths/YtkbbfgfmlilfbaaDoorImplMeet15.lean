/- (*depthWork).meet: a place is come to. Conditions: it is one of the places; at most 2^30 of them. -/
import Derived.Test.YtkbbfgfmlilfbaaDoorImplWork15
import Derived.Test.YtkbbfgfmlilfbaaDoorIntsOwn
import Derived.Test.YtkbbfgfmlilfbaaDoorAppendOne
import Derived.WalkKit
import Derived.ProofKit
import Derived.Deep.Cut
namespace Go.Proofs.YtkbbfgfmlilfbaaDoor
open Go.ChangeShapes Go.WideShapes Go.ChangeAt Go.RowKit

/-- What is answered, and what the work holds then: where it is yes, all is as the plain work has it; where it is no, that one is down. -/
def MPost (B Q : Nat) (vl vd vt : Value) (st : List Int × List Int × Bool) (w : World) (e : Ending) (w' : World) : Prop :=
  ∃ vd' vt' D' T', DSt B Q vl vd' vt' D' T' w' ∧ VK Q vd vt w vd' vt' w' ∧ ((e = .returned (.bool true) ∧ st = (D', T', true)) ∨ (e = .returned (.bool false) ∧ st.2.2 = false))

set_option maxRecDepth 100000 in
set_option maxHeartbeats 8000000 in
theorem impl_meet15 (B Q : Nat) (vl vd vt : Value) (D T : List Int) (w : World) (h : DSt B Q vl vd vt D T w) (s d : Int) (hs : 0 ≤ s) (hsl : s < D.length) (hneg : ∀ x ∈ D, x = -1 ∨ 0 ≤ x) (hd0 : 0 ≤ d) (hD : D.length ≤ 1073741824) (hT : T.length ≤ 1073741824) :
    Calls Tryd.prog 45 #[.pointer (some ⟨Q, 0, none⟩), .int .i64 s, .int .i64 d] w (MPost B Q vl vd vt (goL s d (D, T, true)) w) := by
  obtain ⟨⟨k0, k1, k2⟩, kf⟩ := h.cell
  obtain ⟨pd, cd, ed⟩ := own_shapeV h.deps
  obtain ⟨pt, ct, et⟩ := own_shapeV h.todo
  obtain ⟨n, rfl⟩ : ∃ n : Nat, s = n := ⟨s.toNat, by omega⟩
  obtain ⟨POST, hPO⟩ : ∃ POST, POST = MPost B Q vl vd vt (goL n d (D, T, true)) w := ⟨_, rfl⟩
  rw [← hPO]
  have hn : n < D.length := by omega
  have hn' : (n : Int) < D.length := by omega
  have hg : D[n]? = some D[n] := List.getElem?_eq_getElem hn
  have hgd : D.getD n 0 = D[n] := by rw [List.getD_eq_getElem?_getD, hg]; rfl
  have hz : D[n] = -1 ∨ 0 ≤ D[n] := hneg _ (List.getElem_mem hn)
  obtain ⟨g, cd', ed', hown, _, hcm, hfz, hcl⟩ := own_cells h.deps (by omega)
  have c0 := hcl n _ hg
  have hgQ : g ≠ Q := fun e => h.nd (by rw [hown, e])
  have e0 : goL n d (D, T, true) = if 60 < d then (D, T, false) else if D[n] < 0 then (D.set n d, T ++ [(n : Int)], true) else if D[n] ≠ d then (D, T, false) else (D, T, true) := by
    unfold goL
    simp only [Int.toNat_natCast, hgd]
    by_cases hx : 60 < d
    · rw [if_pos (.inr hx), if_pos hx]
    · rw [if_neg (by omega), if_neg hx]
  clear hneg hs hsl
  have HS : Hid (DSt B Q vl vd vt D T w) := h
  by_cases h1 : D[n] = -1
  · have h1n : D[n] < 0 := by omega
    rw [if_pos h1n] at e0
    obtain ⟨s1, k1'⟩ := h.told n d hown
    have HS1 : Hid (DSt B Q vl vd vt (D.set n d) T (w.setCell ⟨g, n, none⟩ (.int .i64 d)) ∧ VK Q vd vt w vd vt (w.setCell ⟨g, n, none⟩ (.int .i64 d))) := ⟨s1, k1'⟩
    obtain ⟨w1, hw1⟩ : ∃ w1, w1 = w.setCell ⟨g, n, none⟩ (.int .i64 d) := ⟨_, rfl⟩
    have HW1 : Hid (w1 = w.setCell ⟨g, n, none⟩ (.int .i64 d)) := hw1
    rw [← hw1] at HS1
    obtain ⟨⟨j0, j1, j2⟩, jf⟩ := HS1.out.1.cell
    obtain ⟨i0, hi, hz0, hz1, hz2⟩ := info_parts int_info
    have nb1 := newb w1 (.cells #[.int .i64 (n : Int)] 3)
    have HROW : Hid ((w1.alloc (.cells #[.int .i64 (n : Int)] 3)).ownsRow B 3 1 vt T.length (T.map (Value.int .i64))) := own_belowV HS1.out.1.todo nb1
    have HNEW : Hid (∀ j u, [Value.int .i64 (n : Int)][j]? = some u → (w1.alloc (.cells #[.int .i64 (n : Int)] 3)).cell? ((⟨w1.heap.size, 0, none⟩ : Addr).add j) = some u) := fun j u hj => by
      have hj0 : j = 0 := by have := (List.getElem?_eq_some_iff.1 hj).1; simp at this; omega
      subst hj0
      have := cell_of_row (w1.alloc (.cells #[.int .i64 (n : Int)] 3)) w1.heap.size 0 _ _ _ (heap_alloc_new w1 _)
      simpa [Addr.add] using this.trans hj
    have HBN : Hid (B ≤ (w1.alloc (.cells #[.int .i64 (n : Int)] 3)).heap.size) := by
      have a1 := HS1.out.1.le
      have a2 := HS1.out.1.lt
      have a3 := nb1.size
      show _ ≤ _; omega
    have HOUT : Hid (∀ v' w', w'.ownsRow B 3 1 v' (T.length + 1) (T.map (Value.int .i64) ++ [.int .i64 (n : Int)]) → (w1.alloc (.cells #[.int .i64 (n : Int)] 3)).grownBy w' vt.ownBlock → (v'.ownBlock = vt.ownBlock ∨ v'.ownBlock = some (w1.alloc (.cells #[.int .i64 (n : Int)] 3)).heap.size) →
        DSt B Q vl vd v' (D.set n d) (T ++ [(n : Int)]) (w'.setCell ⟨Q, 2, none⟩ v') ∧ VK Q vd vt w vd v' (w'.setCell ⟨Q, 2, none⟩ v')) := fun v' w' a1 a2 a3 => by
      have a1' : w'.ownsRow B 3 1 v' (T ++ [(n : Int)]).length ((T ++ [(n : Int)]).map (Value.int .i64)) := by
        rw [show (T ++ [(n : Int)]).length = T.length + 1 by simp, show (T ++ [(n : Int)]).map (Value.int .i64) = T.map (Value.int .i64) ++ [.int .i64 (n : Int)] by simp]
        exact a1
      have := HS1.out.1.todoNew nb1 a1' (fun k hk hne => a2.block k hk (fun e => hne e.symm)) ⟨a2.os, a2.tape, a2.output, a2.size⟩ (fun g hg => by
        rcases a3 with e | e
        · exact .inl (e ▸ hg)
        · rw [e] at hg; injection hg with hg; have := nb1.size; exact .inr (by omega))
      exact ⟨this.1, HS1.out.2.trans this.2⟩
    have hcl1 : w1.cell? ⟨g, n, none⟩ = some (.int .i64 d) := by
      obtain ⟨g', c', e', hown', _, _, _, hcl'⟩ := own_cells HS1.out.1.deps (by rw [List.length_set]; omega)
      have : g' = g := by rw [hown] at hown'; injection hown' with h; exact h.symm
      subst this
      exact hcl' n d (List.getElem?_set_self hn)
    have HQK : Hid (∀ w', (w1.alloc (.cells #[.int .i64 (n : Int)] 3)).grownBy w' vt.ownBlock → (w'.cell? ⟨Q, 2, none⟩ = some vt ∧ w'.frozen? ⟨Q, 2, none⟩ = false) ∧ w'.cell? ⟨Q, 1, none⟩ = some vd ∧ w'.cell? ⟨g, n, none⟩ = some (.int .i64 d)) := fun w' hg => by
      have hs := HS1.out.1
      have hb : w'.heap[Q]? = w1.heap[Q]? := (hg.block Q (Nat.lt_of_lt_of_le hs.lt nb1.size) (fun e => hs.nt e.symm)).trans (nb1.block Q hs.lt)
      have hgl : g < w1.heap.size := World.block_lt_of_cell? w1 _ hcl1
      have hb2 : w'.heap[g]? = w1.heap[g]? := (hg.block g (Nat.lt_of_lt_of_le hgl nb1.size) (fun e => hs.ne g hown e.symm)).trans (nb1.block g hgl)
      exact ⟨⟨(World.cell?_of_block (w := w1) hb).trans j2, (World.frozen?_of_block (w := w1) hb).trans (jf 2)⟩, (World.cell?_of_block (w := w1) hb).trans j1, (World.cell?_of_block (w := w1) hb2).trans hcl1⟩
    rw [ed'] at HQK
    have HED : Hid (vd = .slice (some ⟨g, 0, none⟩) D.length cd') := ed'
    have HSET : Hid ((D.set n d)[n]? = some d ∧ (D.set n d).length = D.length) := ⟨List.getElem?_set_self hn, List.length_set⟩
    by_cases h60 : 60 < d
    · rw [if_pos h60] at e0
      have HP : Hid (∀ vt' w', DSt B Q vl vd vt' (D.set n d) (T ++ [(n : Int)]) w' → VK Q vd vt w vd vt' w' → POST (.returned (.bool false)) w') := fun vt' w' a b => by
        rw [hPO, e0]
        exact ⟨vd, vt', _, _, a, b, .inr ⟨rfl, rfl⟩⟩
      have e60 : ¬ d ≤ 60 := by omega
      clear nb1 s1 k1' hPO hw1 e0 h hcl hg hgd hz h1n h60 hcl1
      rw [ed'] at k1 j1
      rw [h1] at c0
      clear ed ed' h1
      subst et
      unfold maxLen at hcm
      go_enter Tryd.func45, Tryd.ntmps45
      go_upto_region 3 with fail
      rw [← HW1.out]
      go_wp2_with (at_builtin; refine wpList_append_1 _ rfl (.tmp 26) (.tmp 28) 31 rfl B 3 i0 _ 1 8 Tryd.underlying31 hi hz0 hz1 hz2 rfl (by omega) (.slice pt T.length ct) T.length (T.map (Value.int .i64)) rfl HROW.out ⟨w1.heap.size, 0, none⟩ 1 1 [.int .i64 (n : Int)] rfl rfl HNEW.out (by simp [Value.oneCell']) (by unfold maxLen; omega) (by omega) HBN.out (by omega) ?_; intro v' w' hown2 hg2 hat2; (obtain ⟨⟨kq, kqf⟩, kd, kc⟩ := HQK.out w' hg2.out); (have HE := hid_of1 (HOUT.out v' w' hown2.out hg2.out hat2.out)); (obtain ⟨pv, cv, epv⟩ := own_shapeV hown2.out); subst epv)
      exact HP.out _ _ HE.out.1 HE.out.2
    · rw [if_neg h60] at e0
      have HP : Hid (∀ vt' w', DSt B Q vl vd vt' (D.set n d) (T ++ [(n : Int)]) w' → VK Q vd vt w vd vt' w' → POST (.returned (.bool true)) w') := fun vt' w' a b => by
        rw [hPO, e0]
        exact ⟨vd, vt', _, _, a, b, .inl ⟨rfl, rfl⟩⟩
      have e60 : d ≤ 60 := by omega
      clear nb1 s1 k1' hPO hw1 e0 h hcl hg hgd hz h1n h60 hcl1
      rw [ed'] at k1 j1
      rw [h1] at c0
      clear ed ed' h1
      subst et
      unfold maxLen at hcm
      go_enter Tryd.func45, Tryd.ntmps45
      go_upto_region 3 with fail
      rw [← HW1.out]
      go_wp2_with (at_builtin; refine wpList_append_1 _ rfl (.tmp 26) (.tmp 28) 31 rfl B 3 i0 _ 1 8 Tryd.underlying31 hi hz0 hz1 hz2 rfl (by omega) (.slice pt T.length ct) T.length (T.map (Value.int .i64)) rfl HROW.out ⟨w1.heap.size, 0, none⟩ 1 1 [.int .i64 (n : Int)] rfl rfl HNEW.out (by simp [Value.oneCell']) (by unfold maxLen; omega) (by omega) HBN.out (by omega) ?_; intro v' w' hown2 hg2 hat2; (obtain ⟨⟨kq, kqf⟩, kd, kc⟩ := HQK.out w' hg2.out); (have HE := hid_of1 (HOUT.out v' w' hown2.out hg2.out hat2.out)); (obtain ⟨pv, cv, epv⟩ := own_shapeV hown2.out); subst epv)
      exact HP.out _ _ HE.out.1 HE.out.2
  · have h1n : ¬ D[n] < 0 := by omega
    rw [if_neg h1n] at e0
    have HP : Hid (∀ b : Bool, b = (decide (D[n] = d) && decide (d ≤ 60)) → POST (.returned (.bool b)) w) := fun b hb => by
      rw [hPO]
      refine ⟨vd, vt, D, T, h, VK.refl _ _ _ _, ?_⟩
      by_cases h2 : D[n] = d
      · by_cases h3 : d ≤ 60
        · rw [decide_eq_true h2, decide_eq_true h3] at hb
          subst hb
          refine .inl ⟨rfl, ?_⟩
          rw [e0, if_neg (by omega), if_neg (fun e => e h2)]
        · rw [decide_eq_true h2, decide_eq_false h3] at hb
          subst hb
          refine .inr ⟨rfl, ?_⟩
          rw [e0, if_pos (by omega)]
      · rw [decide_eq_false h2] at hb
        subst hb
        refine .inr ⟨rfl, ?_⟩
        rw [e0, if_pos h2]
        split <;> rfl
    clear hPO e0 h hcl hg hgd HS h1n
    rw [ed'] at k1
    clear ed ed'
    subst et
    unfold maxLen at hcm
    generalize D[n] = z at *
    have b1 : (z == -1) = false := by simpa using h1
    by_cases h2 : z = d
    · have b2 : (z == d) = true := by simpa using h2
      by_cases h3 : d ≤ 60
      · have HP1 : Hid (POST (.returned (.bool true)) w) := HP.out true (by rw [decide_eq_true h2, decide_eq_true h3]; rfl)
        clear h1 h2 hz HP
        go_enter Tryd.func45, Tryd.ntmps45
        go_wp2_with fail
        exact HP1.out
      · have HP1 : Hid (POST (.returned (.bool false)) w) := HP.out false (by rw [decide_eq_true h2, decide_eq_false h3]; rfl)
        clear h1 h2 hz HP
        go_enter Tryd.func45, Tryd.ntmps45
        go_wp2_with fail
        exact HP1.out
    · have b2 : (z == d) = false := by simpa using h2
      have HP1 : Hid (POST (.returned (.bool false)) w) := HP.out false (by rw [decide_eq_false h2]; rfl)
      clear h1 h2 hz HP
      go_enter Tryd.func45, Tryd.ntmps45
      go_wp2_with fail
      exact HP1.out
end Go.Proofs.YtkbbfgfmlilfbaaDoor
