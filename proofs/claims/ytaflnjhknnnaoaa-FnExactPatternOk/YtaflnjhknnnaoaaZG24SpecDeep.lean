/- spec.l7Dots and spec.l7Names at every node. Condition: at most 2^20 of it, at most 2^21 names ahead. -/
import Derived.Test.YtaflnjhknnnaoaaZG6PatP
import Derived.Test.YtaflnjhknnnaoaaZG22StrRow
import Derived.Test.YtaflnjhknnnaoaaZG23IntsWithout
import Derived.Test.YtaflnjhknnnaoaaZG7StxParts
import Derived.Test.YtaflnjhknnnaoaaZG9ImplDots
import Derived.Test.YtaflnjhknnnaoaaRows
import Derived.Test.YtaflnjhknnnaoaaZG5DatOkP
import Derived.BigQuiet
import Derived.Deep.QuietTactic
import Derived.WalkKit
import Derived.ProofKit
import Derived.OwnWalk
namespace Go.Proofs.Ytaflnjhknnnaoaa
open Go.ChangeShapes Go.WideShapes Go.ChangeAt Go.RowKit

set_option maxRecDepth 100000 in
set_option maxHeartbeats 2000000 in
theorem spec_dots (t : X) (su u : Value) (w : World) :
    Calls Try.prog 25 #[.agg #[.int .i64 t.op, .int .i64 t.at_, .int .i64 t.n, .string t.s, su, u]] w fun e w' => e = .returned (.bool (dotsX t)) ∧ Below w.heap.size w w' := by
  have HD : Hid (dotsX t = ((t.op == 2) && (t.s.toList == [46, 46, 46]))) := rfl
  generalize t.op = op at *
  generalize t.at_ = a at *
  generalize t.n = n at *
  generalize t.s = s at *
  cases h1 : (op == 2)
  · have HR : Hid (dotsX t = false) := by show _ = _; rw [HD.out, h1]; rfl
    go_enter Try.func25, Try.ntmps25
    go_wp2_with fail
    go_ret
    exact ⟨by rw [HR.out]; rfl, newx w _⟩
  · cases h2 : (s.toList == [46, 46, 46])
    all_goals
      have HR : Hid (dotsX t = (s.toList == [46, 46, 46])) := by show _ = _; rw [HD.out, h1]; rfl
      go_enter Try.func25, Try.ntmps25
      go_wp2_with fail
      go_ret
      exact ⟨by rw [HR.out, h2]; rfl, newx w _⟩

/-- What is no row of texts stays as it is. -/
def NonStr (w w' : World) : Prop := ∀ (g : Nat) (o : Obj), w.heap[g]? = some o → (∀ cs m, o ≠ .cells cs 9 m) → w'.heap[g]? = some o
theorem NonStr.trans {w w1 w2 : World} (h : NonStr w w1) (h2 : NonStr w1 w2) : NonStr w w2 := fun g o hg hn => h2 g o (h g o hg hn) hn
theorem NonStr.below {w w' : World} (hb : Below w.heap.size w w') : NonStr w w' := fun g _ hg _ => (hb.block g (Array.getElem?_eq_some_iff.1 hg).1).trans hg
theorem NonStr.grown {w w' : World} {B : Nat} {v : Value} {xs : List ByteArray} (ho : OwnS w B v xs) (hg : w.grownBy w' v.ownBlock) : NonStr w w' := fun g o h hn => by
  refine (hg.block g (Array.getElem?_eq_some_iff.1 h).1 ?_).trans h
  intro e
  rcases ho.2 with ⟨rfl, _⟩ | ⟨g1, cap, cur, rfl, hbg, hgg, _⟩
  · simp [Value.ownBlock] at e
  · have e1 : g1 = g := by simpa [Value.ownBlock] using e.symm
    subst e1
    rw [hgg] at h
    exact hn _ _ (Option.some.inj h).symm
theorem NonStr.six {w w' : World} {g : Nat} {a b c : Int} {s : ByteArray} {u v : Value} (h : NonStr w w') (h6 : Six w g a b c s u v 35) : Six w' g a b c s u v 35 := h g _ h6 (fun cs m e => by simp at e)

/-- The contract of l7Names: what is read lies in an older world, what is built from its end on. -/
def NamesAt (t : X) : Prop := ∀ (w0 w : World) (su u v : Value) (out : List ByteArray) (tw : Bool), t.At 0 w0 su u → Below w0.heap.size w0 w → OwnS w w0.heap.size v out → out.length + t.count ≤ 4194304 →
  Calls Try.prog 23 #[.agg #[.int .i64 t.op, .int .i64 t.at_, .int .i64 t.n, .string t.s, su, u], v, .bool tw] w fun e w' => ∃ v', e = .returned (.tuple #[v', .bool (namesX t (out, tw)).2]) ∧ Below w0.heap.size w0 w' ∧ OwnS w' w0.heap.size v' (namesX t (out, tw)).1 ∧ NonStr w w'

theorem steps_len (kid : Nat → X) (out : List ByteArray × Bool) (k : Nat) : (stepsTo (fun i a => namesX (kid i) a) k out).1.length ≤ out.1.length + sumX (fun i => (kid i).count) k := by
  induction k with
  | zero => exact Nat.le_add_right _ _
  | succ k ih =>
    simp only [stepsTo, sumX]
    have := namesX_len (kid k) (stepsTo (fun i a => namesX (kid i) a) k out)
    omega

set_option maxRecDepth 100000 in
set_option maxHeartbeats 4000000 in
theorem spec_names (t : X) : NamesAt t := by
  induction t with
  | no => intro w0 w su u v out tw h; exact h.elim
  | mk op a n s set len kid ih =>
    intro w0 w su u v out tw hin hbel hown hlen
    have hcn : (X.mk op a n s set len kid).count = 1 + sumX (fun i => (kid i).count) len := rfl
    obtain ⟨p, cap, e1, hl2, hat⟩ := hin.xs.at
    obtain ⟨qs, cs, e2⟩ := hin.sets.shape
    simp only [X.op, X.at_, X.n, X.s, X.len, X.set, X.kid] at e1 e2 hat hl2 ⊢
    have HAT : Hid (∀ i, i < len → ∃ b o sv u, p = some ⟨b, o, none⟩ ∧ Head6 w0 b (o + i * 6) (kid i) sv u ∧ (kid i).At 0 w0 sv u) := hat
    have IH : Hid (∀ i, NamesAt (kid i)) := ih
    have HCN : Hid (out.length + (1 + sumX (fun i => (kid i).count) len) ≤ 4194304) := by show _ ≤ _; rw [← hcn]; exact hlen
    have hlo : out.length < 4194304 := by omega
    unfold maxLen at hl2
    subst e1 e2
    obtain ⟨res, hres⟩ : ∃ r, r = namesX (.mk op a n s set len kid) (out, tw) := ⟨_, rfl⟩
    rw [← hres]
    have HRES : Hid (res = if nameX op s then addN s (out, tw) else stepsTo (fun i a => namesX (kid i) a) len (out, tw)) := by show _ = _; rw [hres, namesX_mk]
    have HNX : Hid (nameX op s = ((op == 2) && (!(s.toList == [95]) && !(s.toList == [46, 46, 46])))) := rfl
    obtain ⟨i0, hi, hz0, hz1, hz2⟩ := info_parts string_info
    obtain ⟨W, hW⟩ : ∃ W, W = w.alloc (.cells #[.int .i64 op, .int .i64 a, .int .i64 n, .string s, .slice qs set.length cs, .slice p len cap] 35) := ⟨_, rfl⟩
    obtain ⟨C, hC⟩ : ∃ C, C = w.heap.size := ⟨_, rfl⟩
    have HW : Hid (Below w0.heap.size w0 W ∧ OwnS W w0.heap.size v out ∧ Six W C op a n s (.slice qs set.length cs) (.slice p len cap) 35 ∧ NonStr w W) := by
      rw [hW, hC]
      exact ⟨hbel.trans ((newx w _).mono hbel.size), hown.below (newx w _), heap_alloc_new w _, NonStr.below (newx w _)⟩
    obtain ⟨av, acap, hvs, hvc⟩ := hown.rd
    subst hvs
    have HVC : Hid (∀ j, j < out.length → ∃ b off, av = some ⟨b, off, none⟩ ∧ w.cell? ⟨b, off + j, none⟩ = some (.string (out.getD j ⟨#[]⟩))) := hvc
    have HWN : Hid (Below w.heap.size w W) := by rw [hW]; exact newx w _
    clear hin hbel hown ih hat hlen hcn hres hvc
    generalize set.length = sl at *
    have hcases : (nameX op s = true ∧ (op == 2) = true ∧ (s.toList == [95]) = false ∧ (s.toList == [46, 46, 46]) = false) ∨ (nameX op s = false ∧ ((op == 2) = false ∨ ((op == 2) = true ∧ (s.toList == [95]) = true) ∨ ((op == 2) = true ∧ (s.toList == [95]) = false ∧ (s.toList == [46, 46, 46]) = true))) := by
      rw [HNX.out]
      cases h1 : (op == 2) <;> cases h2 : (s.toList == [95]) <;> cases h3 : (s.toList == [46, 46, 46]) <;> simp
    rcases hcases with ⟨hnm, g1, g2, g3⟩ | ⟨hnm, hrest⟩
    · have HR : Hid (res = addN s (out, tw)) := by show _ = _; rw [HRES.out, hnm]; rfl
      clear HRES hnm HNX
      go_enter Try.func23, Try.ntmps23
      go_wp2_with fail
      rw [← hW, ← hC]
      clear hW hC
      have KW : Hid (∀ wx, Below W.heap.size W wx → Below w0.heap.size w0 wx ∧ OwnS wx w0.heap.size (.slice av out.length acap) out ∧ Six wx C op a n s (.slice qs sl cs) (.slice p len cap) 35 ∧ NonStr w wx) := fun wx hx => ⟨HW.out.1.trans (hx.mono HW.out.1.size), HW.out.2.1.below hx, HW.out.2.2.1.below hx, HW.out.2.2.2.trans (NonStr.below hx)⟩
      have HAC : Hid (∀ wx, Below W.heap.size W wx → ∀ j, j < out.length → ∃ b off, av = some ⟨b, off, none⟩ ∧ wx.cell? ⟨b, off + j, none⟩ = some (.string (out.getD j ⟨#[]⟩))) := fun wx hx j hj => by
        obtain ⟨b, off, e, h⟩ := HVC.out j hj
        exact ⟨b, off, e, keepsX hx _ _ (keepsX HWN.out _ _ h)⟩
      have HML : Hid (∀ (o2 : List ByteArray), o2 = out → o2.length = out.length) := fun _ h => by rw [h]
      have HIY : Hid (∀ k, k < out.length → ((out.getD k ⟨#[]⟩).toList == s.toList) = true → res = (out, true)) := fun k hk h => by
        rw [HR.out]; unfold addN; rw [if_pos (inS_yes k hk h)]
      have HIN : Hid ((∀ j, j < out.length → ((out.getD j ⟨#[]⟩).toList == s.toList) = false) → res = (out ++ [s], tw)) := fun h => by
        rw [HR.out]; unfold addN; rw [if_neg (by rw [inS_no h]; simp)]
      clear HW HVC HML HR
      obtain ⟨m, hm⟩ : ∃ m, m = out.length := ⟨_, rfl⟩
      rw [← hm] at KW HAC HIY HIN hlo ⊢
      have HM : Hid (m = out.length) := hm
      clear hm
      go_loopw [8] (fun i wr => ∃ k : Nat, i = .int .i64 k ∧ k ≤ m ∧ (∀ j, j < k → ((out.getD j ⟨#[]⟩).toList == s.toList) = false) ∧ Below W.heap.size W wr) (fun i _ => m - (intOf i).toNat)
      case atStart => exact ⟨0, rfl, Nat.zero_le _, fun j hj => absurd hj (Nat.not_lt_zero _), Below.refl _ _⟩
      case round =>
        obtain ⟨k, rfl, hk, hno, hbel⟩ := hrel
        have HB : Hid (Below W.heap.size W wr) := hbel
        have HNO : Hid (∀ j, j < k → ((out.getD j ⟨#[]⟩).toList == s.toList) = false) := hno
        clear hno hbel
        obtain ⟨x0, x1, x2, x3, x4, x5⟩ := (KW.out wr HB.out).2.2.1.cells
        by_cases hlt : (k : Int) < m
        · have hk' : k < m := by omega
          obtain ⟨b, off, ha, hcell⟩ := HAC.out wr HB.out k hk'
          subst ha
          have HY : Hid (((out.getD k ⟨#[]⟩).toList == s.toList) = true → res = (out, true)) := HIY.out k hk'
          have HN2 : Hid (((out.getD k ⟨#[]⟩).toList == s.toList) = false → ∀ j, j < k + 1 → ((out.getD j ⟨#[]⟩).toList == s.toList) = false) := fun h j hj => by
            by_cases hjk : j = k
            · subst hjk; exact h
            · exact HNO.out j (by omega)
          have HBD : Hid (∀ nq, Below W.heap.size W (wr.drewN nq)) := fun nq => ⟨HB.out.os, HB.out.tape, HB.out.output, HB.out.size, HB.out.block⟩
          generalize out.getD k ⟨#[]⟩ = x at *
          cases he : (x.toList == s.toList)
          · have HN3 : Hid (∀ j, j < k + 1 → ((out.getD j ⟨#[]⟩).toList == s.toList) = false) := HN2.out he
            go_wp2_with fail
            go_quiet (fail)
            go_wp2_with fail
            go_roundw
            case rel => exact ⟨k + 1, by go_num, by omega, HN3.out, HBD.out _⟩
            case measure => simp [intOf]; omega
          · have HE : Hid (res = (out, true)) := HY.out he
            go_wp2_with fail
            go_quiet (fail)
            go_wp2_with fail
            go_ret2
            exact ⟨_, by rw [HE.out]; rfl, (KW.out _ (HBD.out _)).1, by rw [HE.out]; exact (KW.out _ (HBD.out _)).2.1, (KW.out _ (HBD.out _)).2.2.2⟩
        · have hke : k = m := by omega
          subst hke
          have HE : Hid (res = (out ++ [s], tw)) := HIN.out HNO.out
          have HOW : Hid (OwnS wr w0.heap.size (.slice av k acap) out ∧ Below w0.heap.size w0 wr ∧ NonStr w wr) := ⟨(KW.out wr HB.out).2.1, (KW.out wr HB.out).1, (KW.out wr HB.out).2.2.2⟩
          have HSZ : Hid (w0.heap.size ≤ wr.heap.size) := HOW.out.2.1.size
          go_wp2_with (at_builtin; refine wpList_append_any _ rfl (.tmp 39) (.tmp 42) 39 rfl w0.heap.size 9 i0 (.string ⟨#[]⟩) 1 16 Try.underlying39 hi hz0 hz1 hz2 rfl (by decide) (.slice av k acap) out.length (out.map Value.string) rfl (World.ownsRow.alloc HOW.out.1 _) (some ⟨wr.heap.size, 0, none⟩) 1 1 [.string s] rfl rfl (by simp) (one_new wr _ _) (by simp [Value.oneCell']) (by unfold maxLen; rw [← HM.out]; omega) (by rw [← HM.out]; omega) (by have := HSZ.out; simp; omega) ?_; intro v' w2 hown2 hg2)
          have R := own_pushS HOW.out.1 HOW.out.2.1 HSZ.out hown2.out hg2.out
          have nb : Below wr.heap.size wr (wr.alloc (.cells #[.string s] 9)) := newx wr _
          have HR2 : Hid (OwnS w2 w0.heap.size v' (out ++ [s]) ∧ Below w0.heap.size w0 w2 ∧ NonStr w w2) := ⟨R.1, R.2, HOW.out.2.2.trans ((NonStr.below nb).trans (NonStr.grown (HOW.out.1.below nb) hg2.out))⟩
          clear R nb hown2 hg2
          go_wp2_with fail
          go_ret2
          exact ⟨_, by rw [HE.out]; rfl, HR2.out.2.1, by rw [HE.out]; exact HR2.out.1, HR2.out.2.2⟩
    · have HR : Hid (res = stepsTo (fun i a => namesX (kid i) a) len (out, tw)) := by show _ = _; rw [HRES.out, hnm]; rfl
      clear HRES hnm HNX
      rcases hrest with g1 | ⟨g1, g2⟩ | ⟨g1, g2, g3⟩
      all_goals
        go_enter Try.func23, Try.ntmps23
        go_wp2_with fail
        rw [← hW, ← hC]
        clear hW hC
        go_loopw [1, 2, 9] (fun r q i wr => ∃ (k : Nat) (r0 : Value) (o : List ByteArray × Bool), r0 = r ∧ i = .int .i64 k ∧ k ≤ len ∧ o = stepsTo (fun i a => namesX (kid i) a) k (out, tw) ∧ q = .bool o.2 ∧ OwnS wr w0.heap.size r0 o.1 ∧ Below w0.heap.size w0 wr ∧ Six wr C op a n s (.slice qs sl cs) (.slice p len cap) 35 ∧ NonStr w wr) (fun _ _ i _ => len - (intOf i).toNat)
        case atStart => exact ⟨0, _, (out, tw), rfl, rfl, Nat.zero_le _, rfl, rfl, HW.out.2.1, HW.out.1, HW.out.2.2.1, HW.out.2.2.2⟩
        case round =>
          obtain ⟨k, r0, o, rfl, rfl, hk, ho, rfl, hown, hbel, hsix, hns⟩ := hrel
          have HK : Hid (OwnS wr w0.heap.size r0 o.1 ∧ Below w0.heap.size w0 wr ∧ Six wr C op a n s (.slice qs sl cs) (.slice p len cap) 35 ∧ NonStr w wr ∧ o = stepsTo (fun i a => namesX (kid i) a) k (out, tw)) := ⟨hown, hbel, hsix, hns, ho⟩
          have c5 := hsix.cells.2.2.2.2.2
          clear hown hbel hsix hns ho HW
          by_cases hlt : (k : Int) < len
          · have hk' : k < len := by omega
            obtain ⟨b, ob, sk, uk, hp, hd, hink⟩ := HAT.out k hk'
            subst hp
            obtain ⟨d0, d1, d2, d3, d4, d5⟩ := hd.below HK.out.2.1
            have HCL : Hid (Calls Try.prog 23 #[.agg #[.int .i64 (kid k).op, .int .i64 (kid k).at_, .int .i64 (kid k).n, .string (kid k).s, sk, uk], r0, .bool o.2] wr fun e w' => ∃ v', e = .returned (.tuple #[v', .bool (namesX (kid k) o).2]) ∧ Below w0.heap.size w0 w' ∧ OwnS w' w0.heap.size v' (namesX (kid k) o).1 ∧ NonStr wr w') := by
              have hle := steps_len kid (out, tw) k
              rw [← HK.out.2.2.2.2] at hle
              have h2 := sumX_at (fun i => (kid i).count) k len hk'
              have h3 := HCN.out
              exact IH.out k w0 wr sk uk r0 o.1 o.2 hink HK.out.2.1 HK.out.1 (by simp only at hle; omega)
            clear hd hink
            go_wp2_with fail
            refine HCL.out.mono ?_
            rintro e w2 ⟨v', rfl, hb2, ho2, hn2⟩
            have HN : Hid (OwnS w2 w0.heap.size v' (namesX (kid k) o).1 ∧ Below w0.heap.size w0 w2 ∧ Six w2 C op a n s (.slice qs sl cs) (.slice (some ⟨b, ob, none⟩) len cap) 35 ∧ NonStr w w2) := ⟨ho2, hb2, hn2.six HK.out.2.2.1, HK.out.2.2.2.1.trans hn2⟩
            have HOE : Hid (namesX (kid k) o = stepsTo (fun i a => namesX (kid i) a) (k + 1) (out, tw)) := by show _ = _; simp only [stepsTo]; rw [← HK.out.2.2.2.2]
            clear hb2 ho2 hn2 HCL d0 d1 d2 d3 d4 d5 c5
            go_wp2_with fail
            go_roundw
            case rel => exact ⟨k + 1, _, namesX (kid k) o, rfl, by go_num, by omega, HOE.out, rfl, HN.out⟩
            case measure => simp [intOf]; omega
          · have hke : k = len := by omega
            subst hke
            have HE : Hid (res = o) := by show _ = _; rw [HR.out, ← HK.out.2.2.2.2]
            go_wp2_with fail
            go_ret2
            exact ⟨_, by rw [HE.out]; rfl, HK.out.2.1, by rw [HE.out]; exact HK.out.1, HK.out.2.2.2.1⟩
end Go.Proofs.Ytaflnjhknnnaoaa

/- spec.l3Size, spec.l3Deep and spec.l1Max. Condition: at most 2^40 data. -/
namespace Go.Proofs.Ytaflnjhknnnaoaa
open Go.ChangeShapes Go.WideShapes Go.ChangeAt Go.RowKit

theorem spec_max (a b : Nat) (w : World) : Calls Try.prog 54 #[.int .i64 a, .int .i64 b] w fun e w' => e = .returned (.int .i64 ((max a b : Nat) : Int)) ∧ w' = w := by
  by_cases h : (b : Int) < a
  · have H : Hid (max a b = a) := by show _ = _; omega
    go_enter Try.func54, Try.ntmps54
    go_wp2
    go_ret
    exact ⟨by rw [H.out]; rfl, rfl⟩
  · have H : Hid (max a b = b) := by show _ = _; omega
    go_enter Try.func54, Try.ntmps54
    go_wp2
    go_ret
    exact ⟨by rw [H.out]; rfl, rfl⟩

def SizeAt (t : D) : Prop := ∀ (w : World) (v : Value), t.In w v → t.count ≤ 1099511627776 →
  Calls Try.prog 43 #[.agg #[.int .i64 t.op, .int .i64 t.at_, .int .i64 t.n, .string t.s, v]] w fun e w' => e = .returned (.int .i64 t.count) ∧ Below w.heap.size w w'
def DeepAt (t : D) : Prop := ∀ (w : World) (v : Value), t.In w v → t.count ≤ 1099511627776 →
  Calls Try.prog 44 #[.agg #[.int .i64 t.op, .int .i64 t.at_, .int .i64 t.n, .string t.s, v]] w fun e w' => e = .returned (.int .i64 t.deep) ∧ Below w.heap.size w w'

set_option maxRecDepth 100000 in
set_option maxHeartbeats 2000000 in
theorem spec_size (t : D) : SizeAt t := by
  induction t with
  | no => intro w v h _; exact h.elim
  | mk op a n s len kid ih =>
    intro w v hin hc
    have h1 := hin.sl
    have HCE : Hid ((D.mk op a n s len kid).count = 1 + sumTo (fun i => (kid i).count) len) := rfl
    simp only [D.op, D.at_, D.n, D.s, D.len, D.kid] at h1 ⊢
    generalize (D.mk op a n s len kid).count = C at *
    obtain ⟨p, cap, e1, hlen, hat⟩ := h1.at
    have HC : Hid (∀ i, i < len → ∃ b o u, p = some ⟨b, o, none⟩ ∧ Head w b (o + i * 5) (kid i) u ∧ (kid i).In w u) := hat
    have IH : Hid (∀ i, SizeAt (kid i)) := ih
    clear hin h1 hat ih
    unfold maxLen at hlen
    subst e1
    go_enter Try.func43, Try.ntmps43
    go_wp2_with fail
    go_loopw [3, 4] (fun x i wr => ∃ k c : Nat, i = .int .i64 k ∧ x = .int .i64 c ∧ k ≤ len ∧ c = 1 + sumTo (fun i => (kid i).count) k ∧ wr.cell? ⟨w.heap.size, 4, none⟩ = some (.slice p len cap) ∧ Below w.heap.size w wr) (fun _ i _ => len - (intOf i).toNat)
    case atStart => exact ⟨0, 1, rfl, rfl, Nat.zero_le _, rfl, by simp, newb w _⟩
    case round =>
      obtain ⟨k, c, rfl, rfl, hk, hcc, hc1, hbel⟩ := hrel
      have HBL : Hid (Below w.heap.size w wr) := hbel
      have HS : Hid (c = 1 + sumTo (fun i => (kid i).count) k) := hcc
      clear hbel hcc
      by_cases hlt : (k : Int) < len
      · have hlt' : k < len := by omega
        obtain ⟨b, o, u, hp, hd, hin⟩ := HC.out k hlt'
        subst hp
        obtain ⟨c0, c1, c2, c3, c4⟩ := hd.below HBL.out
        have HI : Hid ((kid k).In wr u) := hin.below HBL.out
        have hsum : c + (kid k).count ≤ C := by
          have h1 := sumTo_at (fun i => (kid i).count) k len hlt'
          have h2 := HS.out
          have h3 := HCE.out
          omega
        have hck : (kid k).count ≤ 1099511627776 := by omega
        clear hd hin
        go_wp2_with fail
        refine (IH.out k wr u HI.out hck).mono ?_
        rintro e w1 ⟨rfl, hb1⟩
        have HB1 : Hid (Below w.heap.size w w1) := HBL.out.trans (hb1.mono HBL.out.size)
        have HX : Hid (w1.cell? ⟨w.heap.size, 4, none⟩ = some (.slice (some ⟨b, o, none⟩) len cap)) := keeps hb1 _ _ hc1
        clear hb1 c0 c1 c2 c3 c4
        go_wp2_with fail
        go_roundw
        case rel => exact ⟨k + 1, c + (kid k).count, by go_num, by go_num, by omega, by rw [HS.out]; simp only [sumTo]; omega, HX.out, HB1.out⟩
        case measure => simp [intOf]; omega
      · have hke : k = len := by omega
        subst hke
        have HE : Hid (c = C) := HS.out.trans HCE.out.symm
        go_wp2_with fail
        go_ret
        exact ⟨by rw [← HE.out]; rfl, HBL.out⟩

set_option maxRecDepth 100000 in
set_option maxHeartbeats 2000000 in
theorem spec_deep (t : D) : DeepAt t := by
  induction t with
  | no => intro w v h _; exact h.elim
  | mk op a n s len kid ih =>
    intro w v hin hc
    have h1 := hin.sl
    have HCE : Hid ((D.mk op a n s len kid).count = 1 + sumTo (fun i => (kid i).count) len) := rfl
    have HDE : Hid ((D.mk op a n s len kid).deep = maxTo (fun i => (kid i).deep) len + 1) := rfl
    have hdc := (D.mk op a n s len kid).deep_count
    simp only [D.op, D.at_, D.n, D.s, D.len, D.kid] at h1 ⊢
    generalize (D.mk op a n s len kid).count = C at *
    generalize (D.mk op a n s len kid).deep = E at *
    obtain ⟨p, cap, e1, hlen, hat⟩ := h1.at
    have HC : Hid (∀ i, i < len → ∃ b o u, p = some ⟨b, o, none⟩ ∧ Head w b (o + i * 5) (kid i) u ∧ (kid i).In w u) := hat
    have IH : Hid (∀ i, DeepAt (kid i)) := ih
    clear hin h1 hat ih
    unfold maxLen at hlen
    subst e1
    go_enter Try.func44, Try.ntmps44
    go_wp2_with fail
    go_loopw [3, 4] (fun x i wr => ∃ k c : Nat, i = .int .i64 k ∧ x = .int .i64 c ∧ k ≤ len ∧ c = maxTo (fun i => (kid i).deep) k ∧ wr.cell? ⟨w.heap.size, 4, none⟩ = some (.slice p len cap) ∧ Below w.heap.size w wr) (fun _ i _ => len - (intOf i).toNat)
    case atStart => exact ⟨0, 0, rfl, rfl, Nat.zero_le _, rfl, by simp, newb w _⟩
    case round =>
      obtain ⟨k, c, rfl, rfl, hk, hcc, hc1, hbel⟩ := hrel
      have HBL : Hid (Below w.heap.size w wr) := hbel
      have HS : Hid (c = maxTo (fun i => (kid i).deep) k) := hcc
      clear hbel hcc
      by_cases hlt : (k : Int) < len
      · have hlt' : k < len := by omega
        obtain ⟨b, o, u, hp, hd, hin⟩ := HC.out k hlt'
        subst hp
        obtain ⟨c0, c1, c2, c3, c4⟩ := hd.below HBL.out
        have HI : Hid ((kid k).In wr u) := hin.below HBL.out
        have hck : (kid k).count ≤ 1099511627776 := by
          have h1 := sumTo_at (fun i => (kid i).count) k len hlt'
          have h3 := HCE.out
          omega
        clear hd hin
        go_wp2_with fail
        refine (IH.out k wr u HI.out hck).mono ?_
        rintro e w1 ⟨rfl, hb1⟩
        have HB1 : Hid (Below w.heap.size w w1) := HBL.out.trans (hb1.mono HBL.out.size)
        have HX : Hid (w1.cell? ⟨w.heap.size, 4, none⟩ = some (.slice (some ⟨b, o, none⟩) len cap)) := keeps hb1 _ _ hc1
        clear hb1 c0 c1 c2 c3 c4
        go_wp2_with fail
        refine (spec_max c (kid k).deep _).mono ?_
        rintro e w2 ⟨rfl, hw2⟩
        subst hw2
        go_wp2_with fail
        go_roundw
        case rel => exact ⟨k + 1, max c (kid k).deep, by go_num, rfl, by omega, by rw [HS.out]; rfl, HX.out, HB1.out⟩
        case measure => simp [intOf]; omega
      · have hke : k = len := by omega
        subst hke
        have HE : Hid (c + 1 = E) := by
          have h1 := HS.out
          have h2 := HDE.out
          show _ = _
          omega
        have hcb : c ≤ 1099511627776 := by have := HE.out; omega
        go_wp2_with fail
        go_ret
        exact ⟨by rw [← HE.out]; rfl, HBL.out⟩
end Go.Proofs.Ytaflnjhknnnaoaa
