/- laws.markStx and laws.heldStx. Condition: marks up to 10^14, no set of more than 2^22. -/
import Derived.Test.YtoifhaakieigcaaMarkStx
import Derived.Test.YtoifhaakieigcaaSixCells
namespace Go.Proofs.Ytoifhaakieigcaa
open Go.ChangeShapes Go.WideShapes Go.ChangeAt Go.RowKit

/-- How many marks. -/
def X.tops (t : X) : Nat := t.set.length + sumX (fun i => (t.kid i).marks) t.len
/-- Its set and its kids are marked from k on. -/
def Marked (w : World) (t : X) (sv v : Value) (k : Nat) : Prop := Rd w sv (marksI k t.set.length) ∧ XsAt 0 w t.len (markXK t.kid (k + t.set.length)) v
theorem Marked.below {w w' : World} {t : X} {sv v : Value} {k : Nat} (h : Marked w t sv v k) (hb : Below w.heap.size w w') : Marked w' t sv v k := ⟨h.1.below hb, XsAt.below hb h.2⟩

theorem small_parts {t : X} (h : t.Small) : t.set.length ≤ 4194304 ∧ ∀ i, i < t.len → (t.kid i).Small := h.parts

set_option maxRecDepth 100000 in
set_option maxHeartbeats 1000000 in
theorem mark_stx (t : X) (w : World) (sv v : Value) (S : List Nat) (k : Nat) (h : XOwn w t sv v S) (hn : S.Nodup) (hsm : t.Small) (hk0 : 0 < k) (hk : k + t.tops ≤ 90000000000000) :
    Calls Try.prog 19 #[.agg #[.int .i64 t.op, .int .i64 t.at_, .int .i64 t.n, .string t.s, sv, v], .int .i64 k] w fun e w' => e = .returned (.int .i64 ((k + t.tops : Nat) : Int)) ∧ Marked w' t sv v k ∧ FrX w w' S := by
  obtain ⟨p, cap, hv⟩ := h.at0.xs.shape
  obtain ⟨ps, cps, hsv⟩ := h.at0.sets.shape
  subst hv hsv
  obtain ⟨hset, S2, rfl, hrows⟩ := h.parts
  have hsp := hsm.parts
  have hS2 := (List.nodup_append.1 hn).2.1
  have hdis : ∀ g, (Value.slice ps t.set.length cps).ownBlock = some g → g ∉ S2 := fun g hg hx => (List.nodup_append.1 hn).2.2 g (mem_own hg) g hx rfl
  have hnb := newx w (.cells #[.int .i64 t.op, .int .i64 t.at_, .int .i64 t.n, .string t.s, .slice ps t.set.length cps, .slice p t.len cap] 29)
  have H1 : Hid (Own (w.alloc (.cells #[.int .i64 t.op, .int .i64 t.at_, .int .i64 t.n, .string t.s, .slice ps t.set.length cps, .slice p t.len cap] 29)) 0 (.slice ps t.set.length cps) t.set) := hset.below hnb
  have H2 : Hid (XsOwn w t.len t.kid (.slice p t.len cap) S2 ∧ S2.Nodup ∧ (∀ i, i < t.len → (t.kid i).Small) ∧ ∀ g, (Value.slice ps t.set.length cps).ownBlock = some g → g ∉ S2) := ⟨hrows, hS2, hsp.2, hdis⟩
  have H3 : Hid (t.set.length ≤ 4194304 ∧ k + (t.set.length + sumX (fun i => (t.kid i).marks) t.len) ≤ 90000000000000) := ⟨hsp.1, hk⟩
  obtain ⟨M, hM⟩ : ∃ M, M = k + t.tops := ⟨_, rfl⟩
  have HM : Hid (k + t.set.length + sumX (fun i => (t.kid i).marks) t.len = M) := by show _ = _; rw [hM]; unfold X.tops; omega
  rw [← hM]
  clear hM
  have HL : Hid (∀ g, (Value.slice ps t.set.length cps).ownBlock = some g → g < w.heap.size) := fun g hg => (World.ownsRow.lt hset g hg).2
  have hki : ((k + t.set.length : Nat) : Int) = (k : Int) + t.set.length := by omega
  clear h hset hrows hsp hS2 hdis hn hsm hk hnb
  go_enter Try.func19, Try.ntmps19
  go_wp2_with fail
  refine (mark_ints (.slice ps t.set.length cps) 0 t.set k _ H1.out H3.out.1 (by have := H3.out.2; omega)).mono ?_
  rintro e w1 ⟨rfl, ho1, hg1⟩
  have hA : Six w1 w.heap.size t.op t.at_ t.n t.s (.slice ps t.set.length cps) (.slice p t.len cap) 29 := (hg1.block _ (by simp) (fun e => by have := HL.out _ e.symm; omega)).trans (heap_alloc_new w _)
  have a5 := hA.cells.2.2.2.2.2
  have hfr : FrX w w1 (Value.slice ps t.set.length cps).ownBlock.toList := (FrX.below (newx w _) _).trans (FrX.grown hg1 (fun g hg => hg))
  have H4 : Hid (Own w1 0 (.slice ps t.set.length cps) (marksI k t.set.length) ∧ FrX w w1 (Value.slice ps t.set.length cps).ownBlock.toList ∧ XsOwn w1 t.len t.kid (.slice p t.len cap) S2) := ⟨ho1, hfr, H2.out.1.same (fun g hg => hfr.block g (H2.out.1.lt g hg) (fun hx => H2.out.2.2.2 g (by simpa using hx) hg))⟩
  clear ho1 hg1 hA hfr H1
  go_wp2_with fail
  rw [← hki]
  refine (markX_all t w1 _ S2 (k + t.set.length) H4.out.2.2 H2.out.2.1 H2.out.2.2.1 (by omega) (by have := H3.out.2; omega)).mono ?_
  rintro e w2 ⟨rfl, hx2, hf2⟩
  have hS2t : ∀ g ∈ S2, g < w1.heap.size := H4.out.2.2.lt
  have HR : Hid (Marked w2 t (.slice ps t.set.length cps) (.slice p t.len cap) k ∧ FrX w w2 ((Value.slice ps t.set.length cps).ownBlock.toList ++ S2)) :=
    ⟨⟨(H4.out.1.sameX (fun g hg => hf2.block g (World.ownsRow.lt H4.out.1 g hg).2 (H2.out.2.2.2 g hg))).rd, hx2.at0⟩, (H4.out.2.1.mono (fun g hg => List.mem_append_left _ hg)).trans (hf2.mono (fun g hg => List.mem_append_right _ hg))⟩
  clear hx2 hf2 hS2t H4 a5
  rw [HM.out]
  go_wp2_with fail
  go_ret
  exact ⟨rfl, HR.out.1, HR.out.2⟩

set_option maxRecDepth 100000 in
set_option maxHeartbeats 1000000 in
theorem held_stx (t : X) (w : World) (ps p : Option Addr) (cps cap : Nat) (k : Nat) (h : Marked w t (.slice ps t.set.length cps) (.slice p t.len cap) k) (hsm : t.Small) (hk0 : 0 < k) (hk : k + t.tops ≤ 90000000000000) :
    Calls Try.prog 20 #[.agg #[.int .i64 t.op, .int .i64 t.at_, .int .i64 t.n, .string t.s, .slice ps t.set.length cps, .slice p t.len cap], .int .i64 k] w fun e w' => e = .returned (.int .i64 ((k + t.tops : Nat) : Int)) ∧ Below w.heap.size w w' := by
  have hsp := hsm.parts
  have H1 : Hid (∀ w1, Below w.heap.size w w1 → Marked w1 t (.slice ps t.set.length cps) (.slice p t.len cap) k) := fun w1 hb => h.below hb
  have H3 : Hid (t.set.length ≤ 4194304 ∧ k + (t.set.length + sumX (fun i => (t.kid i).marks) t.len) ≤ 90000000000000 ∧ ∀ i, i < t.len → (t.kid i).Small) := ⟨hsp.1, hk, hsp.2⟩
  obtain ⟨M, hM⟩ : ∃ M, M = k + t.tops := ⟨_, rfl⟩
  have HM : Hid (k + t.set.length + sumX (fun i => (t.kid i).marks) t.len = M) := by show _ = _; rw [hM]; unfold X.tops; omega
  rw [← hM]
  clear hM
  have hki : ((k + t.set.length : Nat) : Int) = (k : Int) + t.set.length := by omega
  have HB : Hid (∀ o, Below w.heap.size w (w.alloc o)) := fun o => newx w o
  clear h hsp hsm hk
  go_enter Try.func20, Try.ntmps20
  go_wp2_with fail
  refine (held_ints t.set.length (.slice ps t.set.length cps) k _ (H1.out _ (HB.out _)).1 H3.out.1 (by have := H3.out.2.1; omega)).mono ?_
  rintro e w1 ⟨rfl, hw1⟩
  subst w1
  go_wp2_with fail
  rw [← hki]
  refine (heldX_all t _ _ (k + t.set.length) (H1.out _ (HB.out _)).2 H3.out.2.2 (by omega) (by have := H3.out.2.1; omega)).mono ?_
  rintro e w2 ⟨rfl, hb2⟩
  have HB2 : Hid (Below w.heap.size w w2) := (HB.out _).trans (hb2.mono (by simp))
  clear hb2
  rw [HM.out]
  go_wp2_with fail
  go_ret
  exact ⟨rfl, HB2.out⟩

end Go.Proofs.Ytoifhaakieigcaa
