/- spec.l15Go: a place is come to. Condition: at most 2^30 places. -/
import Derived.Test.YtkbbfgfmlilfbaaDoorVerSt
import Derived.Test.YtkbbfgfmlilfbaaDoorIntsOwn
import Derived.Test.YtkbbfgfmlilfbaaDoorAppendOne
import Derived.WalkKit
import Derived.ProofKit
import Derived.Deep.Cut
namespace Go.Proofs.YtkbbfgfmlilfbaaDoor
open Go.ChangeShapes Go.WideShapes Go.ChangeAt Go.RowKit

/-- The work holds a state. -/
def VPost (ty : TypeId) (B Q : Nat) (vd vt : Value) (st : List Int × List Int × Bool) (w : World) (e : Ending) (w' : World) : Prop :=
  e = .returned (.tuple #[]) ∧ ∃ vd' vt', VSt ty B Q vd' vt' st.1 st.2.1 st.2.2 w' ∧ VK Q vd vt w vd' vt' w'

set_option maxRecDepth 100000 in
set_option maxHeartbeats 8000000 in
theorem spec_go15 (B Q : Nat) (vd vt : Value) (D T : List Int) (ok : Bool) (w : World) (h : VSt 51 B Q vd vt D T ok w) (s d : Int) (hs : 0 ≤ s) (hD : D.length ≤ 1073741824) (hT : T.length ≤ 1073741824) :
    Calls Tryd.prog 24 #[.pointer (some ⟨Q, 0, none⟩), .int .i64 s, .int .i64 d] w (VPost 51 B Q vd vt (goL s d (D, T, ok)) w) := by
  obtain ⟨⟨k0, k1, k2⟩, kf⟩ := h.cell
  obtain ⟨pd, cd, ed⟩ := own_shapeV h.deps
  obtain ⟨pt, ct, et⟩ := own_shapeV h.todo
  obtain ⟨n, rfl⟩ : ∃ n : Nat, s = n := ⟨s.toNat, by omega⟩
  obtain ⟨POST, hPO⟩ : ∃ POST, POST = VPost 51 B Q vd vt (goL n d (D, T, ok)) w := ⟨_, rfl⟩
  rw [← hPO]
  by_cases hx : (D.length : Int) ≤ n ∨ 60 < d
  · have HE : Hid (POST (.returned (.tuple #[])) (w.setCell ⟨Q, 2, none⟩ (.bool false))) := by
      have e : goL n d (D, T, ok) = (D, T, false) := by unfold goL; rw [if_pos hx]
      rw [hPO, e]
      exact ⟨rfl, vd, vt, (h.flag false).1, (h.flag false).2⟩
    clear hPO h
    subst ed et
    by_cases hx1 : (D.length : Int) ≤ n
    · clear hx
      go_enter Tryd.func24, Tryd.ntmps24
      go_wp2_with fail
      first
        | (go_end0; exact HE.out)
        | (refine bodyPost_ret (results_none rfl _ _ _) rfl ?_; exact HE.out)
    · have hx2 : 60 < d := by rcases hx with h1 | h1
                              · exact absurd h1 hx1
                              · exact h1
      have hx3 : (n : Int) < D.length := by omega
      clear hx hx1
      go_enter Tryd.func24, Tryd.ntmps24
      go_wp2_with fail
      first
        | (go_end0; exact HE.out)
        | (refine bodyPost_ret (results_none rfl _ _ _) rfl ?_; exact HE.out)
  · have hn : n < D.length := by omega
    have hn' : (n : Int) < D.length := by omega
    have hd60 : ¬ 60 < d := fun e => hx (.inr e)
    have hg : D[n]? = some D[n] := List.getElem?_eq_getElem hn
    have hgd : D.getD n 0 = D[n] := by rw [List.getD_eq_getElem?_getD, hg]; rfl
    obtain ⟨g, cd', ed', hown, _, hcm, hfz, hcl⟩ := own_cells h.deps (by omega)
    have c0 := hcl n _ hg
    have hgQ : g ≠ Q := fun e => h.nd (by rw [hown, e])
    have e0 : goL n d (D, T, ok) = if D[n] < 0 then (D.set n d, T ++ [(n : Int)], ok) else if D[n] ≠ d then (D, T, false) else (D, T, ok) := by
      unfold goL
      rw [if_neg hx]
      simp only [Int.toNat_natCast, hgd]
    have HS : Hid (VSt 51 B Q vd vt D T ok w) := h
    by_cases h1 : D[n] < 0
    · rw [if_pos h1] at e0
      obtain ⟨s1, k1'⟩ := h.told n d hown
      have HS1 : Hid (VSt 51 B Q vd vt (D.set n d) T ok (w.setCell ⟨g, n, none⟩ (.int .i64 d)) ∧ VK Q vd vt w vd vt (w.setCell ⟨g, n, none⟩ (.int .i64 d))) := ⟨s1, k1'⟩
      obtain ⟨w1, hw1⟩ : ∃ w1, w1 = w.setCell ⟨g, n, none⟩ (.int .i64 d) := ⟨_, rfl⟩
      have HW1 : Hid (w1 = w.setCell ⟨g, n, none⟩ (.int .i64 d)) := hw1
      rw [← hw1] at HS1
      obtain ⟨⟨j0, j1, j2⟩, jf⟩ := HS1.out.1.cell
      obtain ⟨i0, hi, hz0, hz1, hz2⟩ := info_parts int_info
      have nb1 := newb w1 (.cells #[.int .i64 (n : Int)] 3)
      have HROW : Hid ((w1.alloc (.cells #[.int .i64 (n : Int)] 3)).ownsRow B 3 1 vt T.length (T.map (Value.int .i64))) := own_belowV HS1.out.1.todo nb1
      have HNEW : Hid (∀ j u, [Value.int .i64 (n : Int)][j]? = some u → (w1.alloc (.cells #[.int .i64 (n : Int)] 3)).cell? ((⟨w1.heap.size, 0, none⟩ : Addr).add j) = some u) := fun j u hj => by
        have hj0 : j = 0 := by have := (List.getElem?_eq_some_iff.1 hj).1; simp at this; omega
        subst hj0
        have := cell_of_row (w1.alloc (.cells #[.int .i64 (n : Int)] 3)) w1.heap.size 0 _ _ _ (heap_alloc_new w1 _)
        simpa [Addr.add] using this.trans hj
      have HBN : Hid (B ≤ (w1.alloc (.cells #[.int .i64 (n : Int)] 3)).heap.size) := by
        have a1 := HS1.out.1.le
        have a2 := HS1.out.1.lt
        have a3 := nb1.size
        show _ ≤ _; omega
      have HOUT : Hid (∀ v' w', w'.ownsRow B 3 1 v' (T.length + 1) (T.map (Value.int .i64) ++ [.int .i64 (n : Int)]) → (w1.alloc (.cells #[.int .i64 (n : Int)] 3)).grownBy w' vt.ownBlock → (v'.ownBlock = vt.ownBlock ∨ v'.ownBlock = some (w1.alloc (.cells #[.int .i64 (n : Int)] 3)).heap.size) →
          POST (.returned (.tuple #[])) (w'.setCell ⟨Q, 1, none⟩ v')) := fun v' w' a1 a2 a3 => by
        have a1' : w'.ownsRow B 3 1 v' (T ++ [(n : Int)]).length ((T ++ [(n : Int)]).map (Value.int .i64)) := by
          rw [show (T ++ [(n : Int)]).length = T.length + 1 by simp, show (T ++ [(n : Int)]).map (Value.int .i64) = T.map (Value.int .i64) ++ [.int .i64 (n : Int)] by simp]
          exact a1
        have := HS1.out.1.todoNew nb1 a1' (fun k hk hne => a2.block k hk (fun e => hne e.symm)) ⟨a2.os, a2.tape, a2.output, a2.size⟩ (fun g hg => by
          rcases a3 with e | e
          · exact .inl (e ▸ hg)
          · rw [e] at hg; injection hg with hg; have := nb1.size; exact .inr (by omega))
        rw [hPO, e0]
        exact ⟨rfl, vd, v', this.1, HS1.out.2.trans this.2⟩
      have HQK : Hid (∀ w', (w1.alloc (.cells #[.int .i64 (n : Int)] 3)).grownBy w' vt.ownBlock → w'.cell? ⟨Q, 1, none⟩ = some vt ∧ w'.frozen? ⟨Q, 1, none⟩ = false) := fun w' hg => by
        have hs := HS1.out.1
        have hb : w'.heap[Q]? = w1.heap[Q]? := (hg.block Q (Nat.lt_of_lt_of_le hs.lt nb1.size) (fun e => hs.nt e.symm)).trans (nb1.block Q hs.lt)
        exact ⟨(World.cell?_of_block (w := w1) hb).trans j1, (World.frozen?_of_block (w := w1) hb).trans (jf 1)⟩
      clear nb1 s1 k1' hPO hw1 e0 h hcl hx hg hgd
      subst et
      rw [ed'] at k0 j0
      generalize D[n] = z at *
      clear ed ed'
      unfold maxLen at hcm
      go_enter Tryd.func24, Tryd.ntmps24
      go_upto_region 4 with fail
      rw [← HW1.out]
      go_wp2_with (at_builtin; refine wpList_append_1 _ rfl (.tmp 39) (.tmp 41) 31 rfl B 3 i0 _ 1 8 Tryd.underlying31 hi hz0 hz1 hz2 rfl (by omega) (.slice pt T.length ct) T.length (T.map (Value.int .i64)) rfl HROW.out ⟨w1.heap.size, 0, none⟩ 1 1 [.int .i64 (n : Int)] rfl rfl HNEW.out (by simp [Value.oneCell']) (by unfold maxLen; omega) (by omega) HBN.out (by omega) ?_; intro v' w' hown2 hg2 hat2; (obtain ⟨kq, kqf⟩ := HQK.out w' hg2.out); (have HE := hid_of1 (HOUT.out v' w' hown2.out hg2.out hat2.out)); (obtain ⟨pv, cv, epv⟩ := own_shapeV hown2.out); subst epv)
      first
        | (go_end0; exact HE.out)
        | (refine bodyPost_ret (results_none rfl _ _ _) rfl ?_; exact HE.out)
    · rw [if_neg h1] at e0
      by_cases h2 : D[n] = d
      · rw [if_neg (fun e => e h2)] at e0
        have HE : Hid (POST (.returned (.tuple #[])) w) := by
          rw [hPO, e0]
          exact ⟨rfl, vd, vt, h, VK.refl _ _ _ _⟩
        have b1 : (D[n] != d) = false := by simp [h2]
        have b2 : (D[n] == d) = true := by simp [h2]
        clear e0 hPO h hcl hx hg hgd h2 HS
        subst et
        rw [ed'] at k0
        generalize D[n] = z at *
        clear ed ed'
        unfold maxLen at hcm
        go_enter Tryd.func24, Tryd.ntmps24
        go_wp2_with fail
        first
          | (go_end0; exact HE.out)
          | (refine bodyPost_ret (results_none rfl _ _ _) rfl ?_; exact HE.out)
      · rw [if_pos h2] at e0
        have HE : Hid (POST (.returned (.tuple #[])) (w.setCell ⟨Q, 2, none⟩ (.bool false))) := by
          rw [hPO, e0]
          exact ⟨rfl, vd, vt, (h.flag false).1, (h.flag false).2⟩
        have b1 : (D[n] != d) = true := by simp [h2]
        have b2 : (D[n] == d) = false := by simp [h2]
        clear e0 hPO h hcl hx hg hgd h2 HS
        subst et
        rw [ed'] at k0
        generalize D[n] = z at *
        clear ed ed'
        unfold maxLen at hcm
        go_enter Tryd.func24, Tryd.ntmps24
        go_wp2_with fail
        first
          | (go_end0; exact HE.out)
          | (refine bodyPost_ret (results_none rfl _ _ _) rfl ?_; exact HE.out)
end Go.Proofs.YtkbbfgfmlilfbaaDoor
