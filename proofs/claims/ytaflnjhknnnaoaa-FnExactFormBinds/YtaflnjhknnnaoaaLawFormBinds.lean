/- The walk of laws.FnExactFormBinds, where impl.FormBinds answers as it should (the premise said). No other conditions. -/
import Derived.Test.YtaflnjhknnnaoaaBindMark
import Derived.Test.YtaflnjhknnnaoaaEqBind
namespace Go.Proofs.Ytaflnjhknnnaoaa.fnExactFormBinds
open Go.ChangeShapes Go.WideShapes Go.ChangeAt Go.RowKit

/-- What impl.FormBinds must answer. -/
def ImplFormBinds : Prop := ∀ w : World, Calls Try.prog 6 #[] w fun e w' => ∃ u l, e = .returned u ∧ Below w.heap.size w w' ∧ OwnB w' w.heap.size u l ∧ l.length = 18 ∧ (∀ x ∈ l, Nil x.2) ∧ BsAt 0 w' 18 formBd u

theorem forms_at {w : World} {base : Nat} {u : Value} (h : OwnB w base u (formRows 18)) : BsAt 0 w 18 formBd u := by
  have h' : w.ownsRow base 42 5 u 18 (brows (formRows 18)) := by have g := h; unfold OwnB at g; rw [formRows_len] at g; exact g
  refine BsB.of_own h' (formRows_len 18) (Nat.zero_le _) (formRows_ks 18) (fun q hq => ?_)
  obtain ⟨h1, h2⟩ := formRows_in 18 q hq
  refine ⟨?_, ?_⟩
  · rw [h1, h2]
    exact (show Own w 0 (.slice none 0 0) [] from World.ownsRow_nil _ _ _ _).setB (Nat.le_refl _)
  · obtain ⟨i, hi, rfl⟩ := List.mem_map.1 hq
    refine ⟨?_, by rw [h2]; unfold maxLen; simp⟩
    have hi' : i < 18 := by simpa using hi
    have hsz : ∀ j, j < 18 → (formsL.getD j ⟨#[]⟩).size ≤ 20 := by decide
    have := hsz i hi'
    unfold maxLen
    show (formsL.getD i ⟨#[]⟩).size ≤ _
    omega

set_option maxRecDepth 100000 in
set_option maxHeartbeats 4000000 in
theorem walk (himpl : ImplFormBinds) (w : World) : Calls Try.prog 3 #[] w fun e w' => e = .returned (.bool true) ∧ Below w.heap.size w w' := by
  have HIM : Hid ImplFormBinds := himpl
  clear himpl
  have HSM : Hid (∀ i, i < 18 → (formBd i).set.length ≤ 4194304) := fun i _ => by simp [formBd]
  go_enter Try.func3, Try.ntmps3
  go_wp2_with fail
  refine (spec_form_binds w).mono ?_
  rintro e w1 ⟨a, rfl, hb1, ho1⟩
  have H1 : Hid (Below w.heap.size w w1 ∧ ∀ wx, Below w1.heap.size w1 wx → BsAt 0 wx 18 formBd a) := ⟨hb1, fun wx hx => (forms_at ho1).below hx⟩
  clear hb1 ho1
  go_wp2_with fail
  refine (HIM.out w1).mono ?_
  rintro e w2 ⟨b, l, rfl, hb2, ho2, hl2, hn2, hat2⟩
  rcases ho2.2 with ⟨-, hn⟩ | ⟨g, cap, cur, hbv, hbg, hgg, -⟩
  · exact absurd hn (by rw [hl2]; decide)
  rw [hl2] at hbv
  subst hbv
  have H2 : Hid (Below w1.heap.size w1 w2 ∧ OwnB w2 w1.heap.size (.slice (some ⟨g, 0, none⟩) 18 cap) l ∧ l.length = 18 ∧ (∀ x ∈ l, Nil x.2) ∧ BsAt 0 w2 18 formBd (.slice (some ⟨g, 0, none⟩) 18 cap)) := ⟨hb2, ho2, hl2, hn2, hat2⟩
  have HG : Hid (w1.heap.size ≤ g) := hbg
  clear hb2 ho2 hl2 hn2 hat2 hbg hgg
  go_wp2_with fail
  refine (eq_binds 18 formBd w2 _ a H2.out.2.2.2.2 (H1.out.2 _ H2.out.1) HSM.out).mono ?_
  rintro e w3 ⟨rfl, hb3⟩
  have H3 : Hid (Below w1.heap.size w1 w3 ∧ OwnB w3 w1.heap.size (.slice (some ⟨g, 0, none⟩) 18 cap) l ∧ l.length = 18 ∧ (∀ x ∈ l, Nil x.2)) := ⟨H2.out.1.trans (hb3.mono H2.out.1.size), H2.out.2.1.below hb3, H2.out.2.2.1, H2.out.2.2.2.1⟩
  clear hb3 H2
  go_wp2_with fail
  refine (mark_binds g cap w1.heap.size 18 l 1 w3 H3.out.2.1 H3.out.2.2.1 H3.out.2.2.2 (by omega) (by omega) (by omega)).mono ?_
  rintro e w4 ⟨rfl, -, ⟨sv, hmk, hnl⟩, hg4⟩
  have H4 : Hid (Below w1.heap.size w1 w4 ∧ Marked w4 g 1 18 sv ∧ ∀ i, i < 18 → Nil (sv i)) := ⟨H3.out.1.grown hg4 H3.out.1.size (fun k hk => by obtain rfl := Option.some.inj hk; exact HG.out), hmk, hnl⟩
  clear hg4 hmk hnl H3
  go_wp2_with fail
  refine (held_binds g cap 18 1 sv w4 H4.out.2.1 H4.out.2.2 (by omega) (by omega) (by omega)).mono ?_
  rintro e w5 ⟨rfl, hb5⟩
  have H5 : Hid (Below w1.heap.size w1 w5 ∧ Marked w5 g 1 18 sv ∧ ∀ i, i < 18 → Nil (sv i)) := ⟨H4.out.1.trans (hb5.mono H4.out.1.size), H4.out.2.1.below hb5, H4.out.2.2⟩
  clear hb5 H4
  go_wp2_with fail
  refine (HIM.out w5).mono ?_
  rintro e w6 ⟨c, l6, rfl, hb6, ho6, hl6, hn6, hat6⟩
  obtain ⟨pc, cc, hcv, -, -⟩ := hat6.at
  subst hcv
  have H6 : Hid (Below w1.heap.size w1 w6 ∧ Marked w6 g 1 18 sv ∧ (∀ i, i < 18 → Nil (sv i)) ∧ BsAt 0 w6 18 formBd (.slice pc 18 cc)) := ⟨H5.out.1.trans (hb6.mono H5.out.1.size), H5.out.2.1.below hb6, H5.out.2.2, hat6⟩
  clear hb6 ho6 hl6 hn6 hat6 H5
  go_wp2_with fail
  refine (eq_binds 18 formBd w6 _ a H6.out.2.2.2 (H1.out.2 _ H6.out.1) HSM.out).mono ?_
  rintro e w7 ⟨rfl, hb7⟩
  have H7 : Hid (Below w1.heap.size w1 w7 ∧ Marked w7 g 1 18 sv ∧ (∀ i, i < 18 → Nil (sv i))) := ⟨H6.out.1.trans (hb7.mono H6.out.1.size), H6.out.2.1.below hb7, H6.out.2.2.1⟩
  clear hb7 H6
  go_wp2_with fail
  refine (held_binds g cap 18 1 sv w7 H7.out.2.1 H7.out.2.2 (by omega) (by omega) (by omega)).mono ?_
  rintro e w8 ⟨rfl, hb8⟩
  have H8 : Hid (Below w.heap.size w w8) := H1.out.1.trans ((H7.out.1.trans (hb8.mono H7.out.1.size)).mono H1.out.1.size)
  clear hb8 H7
  go_wp2_with fail
  go_ret
  exact ⟨rfl, H8.out⟩
end Go.Proofs.Ytaflnjhknnnaoaa.fnExactFormBinds
