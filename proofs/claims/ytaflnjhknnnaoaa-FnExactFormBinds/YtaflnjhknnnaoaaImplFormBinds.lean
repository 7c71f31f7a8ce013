/- impl.formNames and impl.FormBinds: a bind for each form, in a row of its own; and the law laws.FnExactFormBinds: she returns true. No conditions. -/
import Derived.Test.YtaflnjhknnnaoaaLawFormBindsCard
namespace Go.Proofs.Ytaflnjhknnnaoaa.fnExactFormBinds
open Go.ChangeShapes Go.WideShapes Go.ChangeAt Go.RowKit

set_option maxRecDepth 100000 in
set_option maxHeartbeats 2000000 in
theorem impl_form_names (w : World) : Calls Try.prog 16 #[] w fun e w' => ∃ u, e = .returned u ∧ Below w.heap.size w w' ∧ OwnS w' w.heap.size u formsL := by
  have HO : Hid (OwnS (w.alloc (.cells (formsL.map Value.string).toArray 9)) w.heap.size (.slice (some ⟨w.heap.size, 0, none⟩) 18 18) formsL) :=
    World.ownsRow_lit w (formsL.map Value.string).toArray 18 (Nat.le_refl _) (by unfold maxLen; omega) rfl
  go_enter Try.func16, Try.ntmps16
  go_wp2_with fail
  go_ret
  exact ⟨_, rfl, new_below w _, HO.out⟩

set_option maxRecDepth 100000 in
set_option maxHeartbeats 4000000 in
theorem impl_form_binds : ImplFormBinds := by
  intro w
  go_enter Try.func6, Try.ntmps6
  go_wp2_with fail
  refine (impl_form_names w).mono ?_
  rintro e w1 ⟨u, rfl, hb1, ho1⟩
  rcases ho1.2 with ⟨-, hn⟩ | ⟨G, cap, cur, rfl, hbg, hgg, -⟩
  · exact absurd hn (by decide)
  obtain ⟨a, cap', ea, hc⟩ := ho1.rd
  have h18 : formsL.length = 18 := rfl
  rw [h18] at hc ⊢
  rw [h18] at ea
  injection ea with ea1 _ ea3
  subst ea1 ea3
  have HC : Hid (∀ (wx : World), wx.heap[G]? = w1.heap[G]? → ∀ j, j < 18 → wx.cell? ⟨G, j, none⟩ = some (.string (formsL.getD j ⟨#[]⟩))) := fun wx hx j hj => by
    obtain ⟨b, off, e, h⟩ := hc j hj
    injection e with e
    injection e with e1 e2
    subst e1 e2
    rw [Nat.zero_add] at h
    exact (World.cell?_of_block (w := w1) hx).trans h
  have HG : Hid (G < w1.heap.size) := (Array.getElem?_eq_some_iff.1 hgg).1
  have HB1 : Hid (Below w.heap.size w w1) := hb1
  clear hb1 ho1 hc hgg hbg h18
  obtain ⟨i0, hi, hz0, hz1, hz2⟩ := info_parts bind_info
  obtain ⟨w2, hrun, hown, hg⟩ := run_make_full (P := Try.prog) w1 w1.heap.size 22 42 i0 _ 5 Try.underlying22 hi hz0 hz1 .i64 .i64 18 (by rw [hz2]; omega) (by unfold maxLen; omega) (Nat.le_refl _)
  have HO : Hid (∃ junk : List Value, junk.length = 18 * 5 ∧ w2.ownsRow w1.heap.size 42 5 (.slice (some ⟨w1.heap.size, 0, none⟩) 18 18) 18 (brows (formRows 0) ++ junk)) := ⟨_, by simp [size_madeCells], hown⟩
  have HG2 : Hid (Below w1.heap.size w1 w2 ∧ w1.heap.size < w2.heap.size) := ⟨⟨hg.os, hg.tape, hg.output, hg.size, fun k hk => hg.block k hk (by simp)⟩, (hown.lt _ rfl).2⟩
  clear hown hg hi hz0 hz1 hz2
  rw [show ((18 : Nat) : Int) = 18 from rfl] at hrun
  go_wp2_with fail
  clear hrun
  obtain ⟨N, hN⟩ : ∃ N, N = w1.heap.size := ⟨_, rfl⟩
  have HN : Hid (N = w1.heap.size) := hN
  rw [← hN] at HO ⊢
  clear hN
  go_loopw [11] (fun i wr => ∃ (k : Nat) (junk : List Value), i = .int .i64 k ∧ k ≤ 18 ∧ k * 5 + junk.length = 18 * 5 ∧ wr.ownsRow N 42 5 (.slice (some ⟨N, 0, none⟩) 18 18) 18 (brows (formRows k) ++ junk) ∧ Below w1.heap.size w1 wr) (fun i _ => 18 - (intOf i).toNat)
  case atStart =>
    obtain ⟨junk, h1, h2⟩ := HO.out
    exact ⟨0, junk, rfl, Nat.zero_le _, by simpa using h1, h2, HG2.out.1⟩
  case round =>
    obtain ⟨k, junk, rfl, hk, hjl, hown, hbel⟩ := hrel
    have HOW : Hid (wr.ownsRow N 42 5 (.slice (some ⟨N, 0, none⟩) 18 18) 18 (brows (formRows k) ++ junk)) := hown
    have HBL : Hid (Below w1.heap.size w1 wr) := hbel
    clear hown hbel HO HG2
    by_cases hlt : (k : Int) < 18
    · have hlt' : k < 18 := by omega
      have hcell := HC.out wr (HBL.out.block G HG.out) k hlt'
      have hf : ∀ j, wr.frozen? ⟨N, j, none⟩ = false := fun j => HOW.out.frozenAt j
      have hcl : ∀ j, j < 5 → ∃ u, wr.cell? ⟨N, k * 5 + j, none⟩ = some u := by
        intro j hj
        have hl : k * 5 + j < (brows (formRows k) ++ junk).length := by rw [List.length_append, brows_length, formRows_len]; omega
        exact ⟨_, (HOW.out.cellAt (k * 5 + j) (by omega)).trans (List.getElem?_eq_getElem hl)⟩
      obtain ⟨u0, hu0⟩ := hcl 0 (by omega)
      obtain ⟨u1, hu1⟩ := hcl 1 (by omega)
      obtain ⟨u2, hu2⟩ := hcl 2 (by omega)
      obtain ⟨u3, hu3⟩ := hcl 3 (by omega)
      obtain ⟨u4, hu4⟩ := hcl 4 (by omega)
      rw [Nat.add_zero] at hu0
      have S := storedB5 HOW.out (by omega) (formBd k) (.slice none 0 0)
      rw [formRows_len, ← formRows_succ] at S
      have HS : Hid ((stB5 wr N (k * 5) (formBd k) (.slice none 0 0)).ownsRow N 42 5 (.slice (some ⟨N, 0, none⟩) 18 18) 18 (brows (formRows (k + 1)) ++ junk.drop 5) ∧ wr.grownBy (stB5 wr N (k * 5) (formBd k) (.slice none 0 0)) (some N)) := S
      clear S hcl
      go_wp2_with fail
      go_roundw
      case rel =>
        refine ⟨k + 1, junk.drop 5, by go_num, by omega, by simp; omega, HS.out.1, ?_⟩
        exact HBL.out.grown HS.out.2 HBL.out.size (fun x hx => by injection hx with hx; rw [← hx, HN.out]; exact Nat.le_refl _)
      case measure => simp [intOf]; omega
    · have hke : k = 18 := by omega
      subst hke
      go_wp2_with fail
      go_ret
      have hj : junk = [] := List.eq_nil_of_length_eq_zero (by omega)
      subst hj
      have h1 := HOW.out
      rw [List.append_nil] at h1
      have hB : Below w.heap.size w wr := HB1.out.trans (HBL.out.mono HB1.out.size)
      have hO : OwnB wr w.heap.size (.slice (some ⟨N, 0, none⟩) 18 18) (formRows 18) := by
        refine OwnB.mono (base := N) ?_ (by rw [HN.out]; exact HB1.out.size)
        unfold OwnB
        rw [formRows_len]
        exact h1
      exact ⟨_, rfl, hB, formRows 18, hO, formRows_len 18, fun x y hx => ⟨_, _, (formRows_in 18 (x, y) hx).1⟩, forms_at hO⟩

/-- The given statement. -/
theorem proved : Rows.FnExactFormBindsSaid := over impl_form_binds
#print axioms proved
end Go.Proofs.Ytaflnjhknnnaoaa.fnExactFormBinds
