/- A call of a Go function as one step of a region that draws its order, by its contract. No conditions. -/
import Derived.Test.YtoljphjmekkneabGreatDoorRows
import Derived.Test.YtoljphjmekkneabGreatDoorZG5ReadAcc
import Derived.Deep.RegionLaw
import Derived.Tactics
import Derived.WalkKit
import Derived.ProofKit
import Derived.Below
import Derived.WalkLawsBesides
import Derived.Deep.AppendLies
namespace Go.Proofs.YtoljphjmekkneabGreatDoor

theorem step_call1 {P : Program} {ops : Array Oper} {o : Oper} {a : Act} {w : World} {K : Act → World → Prop} {Q : Exit → Act → World → Prop} {E : Prop} (hgd : o.guard = none) (f : FuncId) (x : Operand) (t : TypeId)
    (ho : o.op = .call { callee := .value (.func f), args := #[x], argTypes := #[t] }) (hcf : ∀ (vs : Array Value) (w : World), (callFunc f vs).run P w = .ok (.enter f vs) w) (vx : Value) (hx : a.eval x = vx) (R : Ending → World → Prop) (hc : Calls P f #[vx] w R)
    (h : ∀ e w', R e w' → ∃ v, e = .returned v ∧ K (a.put o.dst v) w') : if Region.wanted o (yielded ops a.tmps) = true then Oper.wp P o a w K Q else E := by
  have hw : Region.wanted o (yielded ops a.tmps) = true := by simp [Region.wanted, hgd]
  rw [if_pos hw]
  have hrun : (execOp a.eval o).run P w = .ok (.enter f #[vx]) w := by
    have e : execOp a.eval o = callFunc f (#[] ++ #[x].map a.eval ++ #[]) := by
      obtain ⟨dst, op, ty, pos, after, guard⟩ := o
      simp only at ho
      subst ho
      rfl
    rw [e, hcf]
    simp [hx]
  unfold Oper.wp
  rw [hrun, Oper.upon_enter]
  refine hc.mono fun e w' hr => ?_
  obtain ⟨v, rfl, hk⟩ := h e w' hr
  exact hk
end Go.Proofs.YtoljphjmekkneabGreatDoor

/- spec.l3Copy: a copy of a datum, in memory of the call's own. Condition: it weighs at most 2^20. -/
namespace Go.Proofs.YtoljphjmekkneabGreatDoor
open Go.ChangeShapes Go.WideShapes Go.ChangeAt Go.RowKit

def CopyAt (t : D) : Prop := ∀ (w : World) (v : Value), t.In w v → t.weight ≤ 1048576 → Calls Tryz.prog 27 #[.agg #[.int .i64 t.op, .int .i64 t.at_, .int .i64 t.n, .string t.s, v]] w fun e w' =>
  ∃ v' T, e = .returned (.agg #[.int .i64 t.op, .int .i64 t.at_, .int .i64 t.n, .string t.s, v']) ∧ Below w.heap.size w w' ∧ DOwn w' t v' T ∧ T.Nodup ∧ ∀ x ∈ T, w.heap.size ≤ x

theorem copy_enter (vs : Array Value) (w : World) : (callFunc 27 vs).run Tryz.prog w = .ok (.enter 27 vs) w := by kernel_rfl

theorem dat_info3 : (Tryz.prog.info? 30).map (fun i => (i.zero, i.size, i.bytes)) = some (some (.agg #[.int .i64 0, .int .i64 0, .int .i64 0, .string ⟨#[]⟩, .slice none 0 0]), 5, 64) := by kernel_rfl

/-- What the loop keeps. -/
structure CLoop (w wr : World) (C R O : Nat) (op a n : Int) (s : ByteArray) (v : Value) (kid : Nat → D) (k : Nat) (lv : Value) (acc : List D) (la : List (D × Value)) (SS : List (List Nat)) : Prop where
  bel : Below w.heap.size w wr
  size : w.heap.size + 3 ≤ wr.heap.size
  arg : wr.heap[C]? = some (.cells #[.int .i64 op, .int .i64 a, .int .i64 n, .string s, v] 30 (0, 0))
  res : wr.heap[R]? = some (.cells #[.int .i64 0, .int .i64 0, .int .i64 0, .string ⟨#[]⟩, .slice none 0 0] 30 (0, 0))
  out : wr.heap[O]? = some (.cells #[.int .i64 op, .int .i64 a, .int .i64 n, .string s, lv] 30 (0, 0))
  rows : Acc (w.heap.size + 3) wr acc lv la SS
  len : acc.length = k
  kids : ∀ i, i < k → kidsOf acc i = kid i
  nil : lv = .slice none 0 0 ∨ acc ≠ []

theorem copy_next {w wr w1 w3 : World} {C R O : Nat} {op a n : Int} {s : ByteArray} {v : Value} {kid : Nat → D} {k : Nat} {lv : Value} {acc : List D} {la : List (D × Value)} {SS : List (List Nat)}
    (hL : CLoop w wr C R O op a n s v kid k lv acc la SS) (hC : C = w.heap.size) (hR : R = w.heap.size + 1) (hO : O = w.heap.size + 2) {v' : Value} {T : List Nat} (hb : Below wr.heap.size wr w1) (hd : DOwn w1 (kid k) v' T) (hn : T.Nodup) (hT : ∀ x ∈ T, wr.heap.size ≤ x) {o : Obj} {g cap : Nat}
    (hown : w3.ownsRow 0 30 5 (.slice (some ⟨g, 0, none⟩) (k + 1) cap) (k + 1) (drows la ++ dcells (kid k, v'))) (hg : (w1.alloc o).grownBy w3 lv.ownBlock) (hat : lv.ownBlock = some g ∨ g = w1.heap.size + 1) :
    (w3.heap[O]? = wr.heap[O]?) ∧ CLoop w (w3.setCell ⟨O, 4, none⟩ (.slice (some ⟨g, 0, none⟩) (k + 1) cap)) C R O op a n s v kid (k + 1) (.slice (some ⟨g, 0, none⟩) (k + 1) cap) (acc ++ [kid k]) (la ++ [(kid k, v')]) (SS ++ [T]) := by
  have hs := hL.size
  have hbs := hb.size
  have hA1 : Acc (w.heap.size + 3) w1 acc lv la SS := hL.rows.same (fun x _ hx => hb.block x hx)
  have hlt := hL.rows.lt
  have hA3 := hA1.app (o := o) (g := g) (cap := cap) hd hn (fun x hx hx' => by have := hT x hx; have := hlt x hx'; omega) (fun x hx e => by have := hT x hx; have := (hL.rows.own.lt x e).2; omega) (fun x hx => by have := hT x hx; omega) (by omega) (by rw [hL.len]; exact hown) hg hat
  have low : ∀ x, x < w.heap.size + 3 → w3.heap[x]? = wr.heap[x]? := fun x hx =>
    (hg.block x (by simp; omega) (fun e => by have := (hL.rows.out x e.symm).2; omega)).trans ((Below.heap_alloc w1 o x (by omega)).trans (hb.block x (by omega)))
  have hset : ∀ x, x ≠ O → (w3.setCell ⟨O, 4, none⟩ (.slice (some ⟨g, 0, none⟩) (k + 1) cap)).heap[x]? = w3.heap[x]? := fun x hx => Below.heap_setCell w3 ⟨O, 4, none⟩ _ x hx
  have hgs := hg.size
  have hs1 : (w1.alloc o).heap.size = w1.heap.size + 1 := by simp
  have hO3 := low O (by omega)
  have hout := hO3.trans hL.out
  refine ⟨hO3, ?_⟩
  have e : (w3.setCell ⟨O, 4, none⟩ (.slice (some ⟨g, 0, none⟩) (k + 1) cap)).heap.size = w3.heap.size := by simp
  rw [hL.len] at hA3
  refine ⟨⟨hg.os.trans (hb.os.trans hL.bel.os), hg.tape.trans (hb.tape.trans hL.bel.tape), hg.output.trans (hb.output.trans hL.bel.output), by have := hL.bel.size; omega, fun x hx => (hset x (by omega)).trans ((low x (by omega)).trans (hL.bel.block x hx))⟩, by omega, (hset C (by omega)).trans ((low C (by omega)).trans hL.arg), (hset R (by omega)).trans ((low R (by omega)).trans hL.res), ?_, hA3.same (fun x hx _ => hset x (by omega)), by rw [List.length_append, hL.len]; rfl, fun i hi => ?_, .inr (by simp)⟩
  · exact heap_setCell_same w3 O 4 _ _ _ hout
  · rcases Nat.lt_or_ge i k with h | h
    · rw [kidsOf_snoc_lt acc _ i (by rw [hL.len]; exact h)]; exact hL.kids i h
    · have hik : i = acc.length := by rw [hL.len]; omega
      rw [hik, kidsOf_snoc_at, hL.len]

theorem copy_start (w : World) (op a n : Int) (s : ByteArray) (v : Value) (kid : Nat → D) :
    CLoop w (((w.alloc (.cells #[.int .i64 op, .int .i64 a, .int .i64 n, .string s, v] 30)).alloc (.cells #[.int .i64 0, .int .i64 0, .int .i64 0, .string ⟨#[]⟩, .slice none 0 0] 30)).alloc (.cells #[.int .i64 op, .int .i64 a, .int .i64 n, .string s, .slice none 0 0] 30)) w.heap.size (w.heap.size + 1) (w.heap.size + 1 + 1) op a n s v kid 0 (.slice none 0 0) [] [] [] := by
  have n0 := heap_alloc_new w (.cells #[.int .i64 op, .int .i64 a, .int .i64 n, .string s, v] 30)
  have n1 := heap_alloc_new (w.alloc (.cells #[.int .i64 op, .int .i64 a, .int .i64 n, .string s, v] 30)) (.cells #[.int .i64 0, .int .i64 0, .int .i64 0, .string ⟨#[]⟩, .slice none 0 0] 30)
  have n2 := heap_alloc_new ((w.alloc (.cells #[.int .i64 op, .int .i64 a, .int .i64 n, .string s, v] 30)).alloc (.cells #[.int .i64 0, .int .i64 0, .int .i64 0, .string ⟨#[]⟩, .slice none 0 0] 30)) (.cells #[.int .i64 op, .int .i64 a, .int .i64 n, .string s, .slice none 0 0] 30)
  simp only [World.size_alloc] at n0 n1 n2
  exact ⟨(newb w _).trans ((newb _ _).mono (by simp)|>.trans ((newb _ _).mono (by simp; omega))), by simp, (Below.heap_alloc _ _ _ (by simp; omega)).trans ((Below.heap_alloc _ _ _ (by simp)).trans n0), (Below.heap_alloc _ _ _ (by simp)).trans n1, n2, Acc.nil _ _, rfl, fun i hi => by omega, .inl rfl⟩

theorem SOwn.kidEq {w : World} {len : Nat} {kid kid' : Nat → D} {v : Value} {S : List Nat} (h : SOwn w len kid v S) (he : ∀ i, i < len → kid i = kid' i) : SOwn w len kid' v S := by
  rcases h with h0 | ⟨g, cap, l, SS, h1, h2, h3, h4, h5, h6, h7⟩
  · exact .inl h0
  · refine .inr ⟨g, cap, l, SS, h1, h2, h3, h4, fun i q hq => ?_, h6, fun i hi => ?_⟩
    · have hi : i < len := by have := (List.getElem?_eq_some_iff.1 hq).1; omega
      rw [← he i hi]; exact h5 i q hq
    · rw [← he i hi]; exact h7 i hi

set_option maxRecDepth 100000 in
set_option maxHeartbeats 4000000 in
theorem copy_all (t : D) : CopyAt t := by
  induction t with
  | no => intro w v h; exact h.elim
  | mk op a n s len kid ih =>
    intro w v hin hwt
    obtain ⟨i0, hi0, hz0, hz1, hz2⟩ := info_parts dat_info3
    have hsl : Sl w len kid v := hin.sl
    have HPL : Hid (s.size ≤ maxLen ∧ -9223372036854775808 ≤ n ∧ n ≤ 9223372036854775807) := ⟨hin.size, hin.num⟩
    obtain ⟨p, cap, rfl, -, hat⟩ := hsl.at
    have hwe : (D.mk op a n s len kid).weight = s.size + (len + sumTo (fun i => (kid i).weight) len) := rfl
    have hlen : len ≤ 1048576 := by omega
    have IH : Hid (∀ i, i < len → ∀ (w : World) (v : Value), (kid i).In w v → Calls Tryz.prog 27 #[.agg #[.int .i64 (kid i).op, .int .i64 (kid i).at_, .int .i64 (kid i).n, .string (kid i).s, v]] w fun e w' =>
      ∃ v' T, e = .returned (.agg #[.int .i64 (kid i).op, .int .i64 (kid i).at_, .int .i64 (kid i).n, .string (kid i).s, v']) ∧ Below w.heap.size w w' ∧ DOwn w' (kid i) v' T ∧ T.Nodup ∧ ∀ x ∈ T, w.heap.size ≤ x) := fun i hi w v h => ih i w v h (by
        have h1 := sumTo_at (fun i => (kid i).weight) i len hi
        omega)
    have HAT : Hid (∀ i, i < len → ∃ b o u, p = some ⟨b, o, none⟩ ∧ Head w b (o + i * 5) (kid i) u ∧ (kid i).In w u) := hat
    clear hin hsl ih hat hwe hwt
    simp only [D.op, D.at_, D.n, D.s]
    go_enter Tryz.func27, Tryz.ntmps27
    go_wp2_with fail
    have H0 := copy_start w op a n s (.slice p len cap) kid
    obtain ⟨C, hC⟩ : ∃ C, C = w.heap.size := ⟨_, rfl⟩
    obtain ⟨R, hR⟩ : ∃ R, R = w.heap.size + 1 := ⟨_, rfl⟩
    obtain ⟨O, hO⟩ : ∃ O, O = w.heap.size + 1 + 1 := ⟨_, rfl⟩
    rw [← hO, ← hR] at H0 ⊢
    have H00 : Hid (CLoop w (((w.alloc (.cells #[.int .i64 op, .int .i64 a, .int .i64 n, .string s, .slice p len cap] 30)).alloc (.cells #[.int .i64 0, .int .i64 0, .int .i64 0, .string ⟨#[]⟩, .slice none 0 0] 30)).alloc (.cells #[.int .i64 op, .int .i64 a, .int .i64 n, .string s, .slice none 0 0] 30)) C R O op a n s (.slice p len cap) kid 0 (.slice none 0 0) [] [] []) := by
      show CLoop _ _ _ _ _ _ _ _ _ _ _ _ _ _ _ _
      rw [hC]; exact H0
    have HCRO : Hid (C = w.heap.size ∧ R = w.heap.size + 1 ∧ O = w.heap.size + 2) := ⟨hC, hR, hO⟩
    have hCR : C ≠ R := by omega
    have hCO : C ≠ O := by omega
    have hRO : R ≠ O := by omega
    clear H0
    rw [← hC]
    clear hC hR hO
    go_loopw [4] (fun v4 wr => ∃ (k : Nat) (lv : Value) (acc : List D) (la : List (D × Value)) (SS : List (List Nat)), v4 = .int .i64 k ∧ k ≤ len ∧ CLoop w wr C R O op a n s (.slice p len cap) kid k lv acc la SS) (fun v4 _ => len - (intOf v4).toNat)
    case atStart => exact ⟨0, _, _, _, _, rfl, Nat.zero_le _, H00.out⟩
    case round =>
      obtain ⟨k, lv, acc, la, SS, rfl, hk, hL⟩ := hrel
      have HL : Hid (CLoop w wr C R O op a n s (.slice p len cap) kid k lv acc la SS) := hL
      have a4 : wr.cell? ⟨C, 4, none⟩ = some (.slice p len cap) := cell_of_row wr _ 4 _ _ _ hL.arg
      have o0 : wr.cell? ⟨O, 0, none⟩ = some (.int .i64 op) := cell_of_row wr _ 0 _ _ _ hL.out
      have o1 : wr.cell? ⟨O, 1, none⟩ = some (.int .i64 a) := cell_of_row wr _ 1 _ _ _ hL.out
      have o2 : wr.cell? ⟨O, 2, none⟩ = some (.int .i64 n) := cell_of_row wr _ 2 _ _ _ hL.out
      have o3 : wr.cell? ⟨O, 3, none⟩ = some (.string s) := cell_of_row wr _ 3 _ _ _ hL.out
      have o4 : wr.cell? ⟨O, 4, none⟩ = some lv := cell_of_row wr _ 4 _ _ _ hL.out
      clear hL H00
      by_cases hkl : (k : Int) < len
      · obtain ⟨b, o, u, hp, hd, hinu⟩ := HAT.out k (by omega)
        subst hp
        obtain ⟨c0, c1, c2, c3, c4⟩ := hd.below HL.out.bel
        have HIN : Hid ((kid k).In wr.drew u) := (hinu.below HL.out.bel).below (Below.refl _ wr).drew
        have HKL : Hid (k < len) := by show k < len; omega
        have HOWN : Hid (wr.ownsRow 0 30 5 lv k (drows la)) := by have := HL.out.rows.own; rw [HL.out.len] at this; exact this
        have hOl : O < wr.heap.size := (Array.getElem?_eq_some_iff.1 HL.out.out).1
        have hCl : C < wr.heap.size := (Array.getElem?_eq_some_iff.1 HL.out.arg).1
        have hbl : b < wr.heap.size := World.block_lt_of_cell? wr _ c0
        clear hd hinu
        have hki0 : (0 : Int) ≤ (k : Int) := by omega
        have HCF : Hid (∀ (vs : Array Value) (w : World), (callFunc 27 vs).run Tryz.prog w = .ok (.enter 27 vs) w) := fun vs w => copy_enter vs w
        go_wp2_with fail
        go_region_law
          (first
            | (refine step_call1 rfl 27 (.tmp 27) 30 rfl HCF.out (.agg #[.int .i64 (kid k).op, .int .i64 (kid k).at_, .int .i64 (kid k).n, .string (kid k).s, u]) rfl _ (IH.out k HKL.out wr.drew u HIN.out) ?_; rintro e w1 ⟨v', T, rfl, hb1, hd1, hn1, hT1⟩; refine ⟨_, rfl, ?_⟩; have HC1 : Hid (Below wr.heap.size wr w1 ∧ DOwn w1 (kid k) v' T ∧ T.Nodup ∧ ∀ x ∈ T, wr.heap.size ≤ x) := ⟨⟨hb1.os, hb1.tape, hb1.output, hb1.size, hb1.block⟩, hd1, hn1, hT1⟩; obtain ⟨pv, cv, hv'⟩ := hd1.in'.sl.shape; subst hv'; have z4 : w1.cell? ⟨O, 4, none⟩ = some lv := (HC1.out.1.cell (by exact hOl)).trans o4; have z5 : ∀ ob, (w1.alloc ob).cell? ⟨O, 4, none⟩ = some lv := fun ob => ((newb w1 ob).cell (by exact Nat.lt_of_lt_of_le hOl HC1.out.1.size)).trans z4; have y4 : w1.cell? ⟨C, 4, none⟩ = some (.slice (some ⟨b, o, none⟩) len cap) := (HC1.out.1.cell (by exact hCl)).trans a4; have HO1 : Hid (w1.ownsRow 0 30 5 lv k (drows la)) := own_below5 HOWN.out HC1.out.1; clear hb1 hd1 hn1 hT1)
            | (refine step_append_lies _ (by rfl) _ _ _ (by rfl) 0 30 i0 _ 5 64 Tryz.underlying25 hi0 hz0 hz1 hz2 rfl (by omega) lv k (drows la) (by rfl) (HO1.out.alloc _) ⟨w1.heap.size, 0, none⟩ 1 1 [.int .i64 (kid k).op, .int .i64 (kid k).at_, .int .i64 (kid k).n, .string (kid k).s, .slice pv (kid k).len cv] (by rfl) (by rfl) (World.news_of_block (cs := #[.int .i64 (kid k).op, .int .i64 (kid k).at_, .int .i64 (kid k).n, .string (kid k).s, .slice pv (kid k).len cv]) (t := 30) (fr := (0, 0)) (heap_alloc_new w1 _)) (by simp [Value.oneCell']) (by omega) (by unfold maxLen; omega) (by omega) (Nat.zero_le _) (w1.heap.size + 1) (by simp) ?_; intro gg cap3 w3 hown3 hgrow hat hlt3; obtain ⟨hO3, hnx⟩ := copy_next HL.out HCRO.out.1 HCRO.out.2.1 HCRO.out.2.2 HC1.out.1 HC1.out.2.1 HC1.out.2.2.1 HC1.out.2.2.2 hown3 hgrow hat; have HNX : Hid (CLoop w (w3.setCell ⟨O, 4, none⟩ (.slice (some ⟨gg, 0, none⟩) (k + 1) cap3)) C R O op a n s (.slice (some ⟨b, o, none⟩) len cap) kid (k + 1) (.slice (some ⟨gg, 0, none⟩) (k + 1) cap3) (acc ++ [kid k]) (la ++ [(kid k, .slice pv (kid k).len cv)]) (SS ++ [T])) := hnx; have x4 : w3.cell? ⟨O, 4, none⟩ = some lv := (World.cell?_of_block (a := ⟨O, 4, none⟩) hO3).trans o4; have xf : w3.frozen? ⟨O, 4, none⟩ = false := (World.frozen?_of_block (a := ⟨O, 4, none⟩) hO3).trans (frozen_of_row wr O 4 _ _ HL.out.out); clear hO3 hnx hown3 hgrow hat hlt3))
        all_goals
          go_wp2_with fail
          go_roundw
          case rel => exact ⟨k + 1, _, _, _, _, by go_num, by omega, HNX.out⟩
          case measure => simp [intOf]; omega
      · obtain rfl : k = len := by omega
        have r0 : wr.cell? ⟨R, 0, none⟩ = some (.int .i64 0) := cell_of_row wr _ 0 _ _ _ HL.out.res
        have r1 : wr.cell? ⟨R, 1, none⟩ = some (.int .i64 0) := cell_of_row wr _ 1 _ _ _ HL.out.res
        have r2 : wr.cell? ⟨R, 2, none⟩ = some (.int .i64 0) := cell_of_row wr _ 2 _ _ _ HL.out.res
        have r3 : wr.cell? ⟨R, 3, none⟩ = some (.string ⟨#[]⟩) := cell_of_row wr _ 3 _ _ _ HL.out.res
        have r4 : wr.cell? ⟨R, 4, none⟩ = some (.slice none 0 0) := cell_of_row wr _ 4 _ _ _ HL.out.res
        have rf0 : wr.frozen? ⟨R, 0, none⟩ = false := frozen_of_row wr _ 0 _ _ HL.out.res
        have rf1 : wr.frozen? ⟨R, 1, none⟩ = false := frozen_of_row wr _ 1 _ _ HL.out.res
        have rf2 : wr.frozen? ⟨R, 2, none⟩ = false := frozen_of_row wr _ 2 _ _ HL.out.res
        have rf3 : wr.frozen? ⟨R, 3, none⟩ = false := frozen_of_row wr _ 3 _ _ HL.out.res
        have rf4 : wr.frozen? ⟨R, 4, none⟩ = false := frozen_of_row wr _ 4 _ _ HL.out.res
        obtain ⟨S, hS, hSn, hSB⟩ := HL.out.rows.sown HL.out.nil
        rw [HL.out.len] at hS
        have hS2 := hS.kidEq HL.out.kids
        obtain ⟨pv, cv, hlv⟩ := hS2.sl.shape
        have HS : Hid (SOwn wr k kid (.slice pv k cv) S ∧ S.Nodup ∧ ∀ x ∈ S, w.heap.size + 3 ≤ x) := ⟨by rw [← hlv]; exact hS2, hSn, hSB⟩
        have HBL : Hid (Below w.heap.size w wr) := HL.out.bel
        clear hS hSn hSB hS2 HL HAT IH
        subst hlv
        go_wp2_with fail
        refine bodyPost_ret (v := .agg #[.int .i64 op, .int .i64 a, .int .i64 n, .string s, .slice pv k cv]) (by rw [results_cell1 (p := 2) (ty := 30) (by kernel_rfl)]; simp [go_sem, r0, r1, r2, r3, r4]) rfl ?_
        obtain ⟨y1, y2, y3⟩ := HS.out
        have hsame : ∀ x, x ≠ R → (((((wr.setCell ⟨R, 0, none⟩ (.int .i64 op)).setCell ⟨R, 1, none⟩ (.int .i64 a)).setCell ⟨R, 2, none⟩ (.int .i64 n)).setCell ⟨R, 3, none⟩ (.string s)).setCell ⟨R, 4, none⟩ (.slice pv k cv)).heap[x]? = wr.heap[x]? := fun x h => by
          rw [Below.heap_setCell _ _ _ _ h, Below.heap_setCell _ _ _ _ h, Below.heap_setCell _ _ _ _ h, Below.heap_setCell _ _ _ _ h, Below.heap_setCell _ _ _ _ h]
        have hR := HCRO.out.2.1
        refine ⟨_, rfl, ?_, S, ⟨HPL.out, ?_⟩, y2, fun x hx => by have := y3 x hx; omega⟩
        · exact ⟨HBL.out.os, HBL.out.tape, HBL.out.output, by have := HBL.out.size; simp [World.setCell]; omega, fun x hx => (hsame x (by omega)).trans (HBL.out.block x hx)⟩
        · exact y1.same (fun x hx => hsame x (by have := y3 x hx; omega))
end Go.Proofs.YtoljphjmekkneabGreatDoor
