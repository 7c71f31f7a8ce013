/- impl's sets of ints, what makes a new list: copied, with. Condition: at most 2^22 of them. -/
import Derived.Test.YtlclfmjpnchmbaaGreatZG1StxOwn
import Derived.Test.YtlclfmjpnchmbaaGreatZG18IntsImpl
import Derived.Test.YtlclfmjpnchmbaaGreatZG11ImplDots
import Derived.Test.YtlclfmjpnchmbaaGreatZG6SzStx
import Derived.BigQuiet
import Derived.Deep.QuietTactic
namespace Go.Proofs.YtlclfmjpnchmbaaGreat
open Go.ChangeShapes Go.WideShapes Go.ChangeAt Go.RowKit

set_option maxRecDepth 100000 in
set_option maxHeartbeats 1000000 in
theorem impl_copied (xs : List Int) (v : Value) (w : World) (hv : Rd w v xs) (hl : xs.length ≤ 4194304) :
    Calls Tryz.prog 75 #[v] w fun e w' => ∃ u, e = .returned u ∧ Below w.heap.size w w' ∧ Own w' w.heap.size u xs := by
  obtain ⟨a, cap, rfl, hc⟩ := hv.shape
  have HC : Hid (∀ j, j < xs.length → ∃ b off, a = some ⟨b, off, none⟩ ∧ w.cell? ⟨b, off + j, none⟩ = some (.int .i64 (xs.getD j 0))) := hc
  clear hc hv
  obtain ⟨m, hm⟩ : ∃ m, m = xs.length := ⟨_, rfl⟩
  rw [← hm] at HC hl ⊢
  have HM : Hid (m = xs.length) := hm
  clear hm
  obtain ⟨Z, hZ, hZl⟩ := made_ints m
  have hrun := run_make_row' (P := Tryz.prog) 104 3 (.int .i64 0) 8 Tryz.underlying104 int_info rfl .i64 .i64 m (by omega) (by omega) w
  rw [hZ] at hrun
  obtain ⟨X, hX⟩ : ∃ X, X = xs.map (Value.int .i64) := ⟨_, rfl⟩
  have HX : Hid (X = xs.map (Value.int .i64)) := hX
  have HZ : Hid (Z.length = m ∧ X.length = m) := ⟨hZl, by rw [hX, List.length_map, HM.out]⟩
  have HXC : Hid (∀ v ∈ X, v.oneCell' = true) := by show ∀ v ∈ X, _; rw [hX]; exact ints_cells xs
  have HP : Hid (∀ w2 : World, Below w.heap.size w w2 → 0 < X.length → ∃ ad, a = some ad ∧ ∀ j v, X[j]? = some v → w2.cell? (ad.add j) = some v) := by
    intro w2 hb h0
    rw [HZ.out.2] at h0
    obtain ⟨b, off, rfl, _⟩ := HC.out 0 h0
    refine ⟨_, rfl, fun j u hu => ?_⟩
    have hj : j < m := by rw [← HZ.out.2]; exact (List.getElem?_eq_some_iff.1 hu).1
    obtain ⟨b', off', he, hcell⟩ := HC.out j hj
    simp only [Option.some.injEq, Addr.mk.injEq, and_true] at he
    obtain ⟨rfl, rfl⟩ := he
    rw [Addr.add_lit, cell_later hb hcell]
    rw [hX] at hu
    rw [HM.out] at hj
    rw [getD_int xs j hj]
    simpa [List.getElem?_eq_getElem hj] using hu
  clear hZ hZl hX
  go_enter Tryz.func75, Tryz.ntmps75
  go_wp2_with (refine wpList_copy_splice rfl (.tmp 7) (.tmp 8) 104 104 rfl 3 Tryz.underlying104 (by kernel_rfl) (some ⟨w.heap.size, 0, none⟩) a m m m cap rfl rfl w.heap.size 0 Z 3 (heap_alloc_new w _) X (by rw [HZ.out.2]; simp) (fun h0 => ⟨rfl, HP.out _ (new_below w _) h0⟩) (by rw [HZ.out.1, HZ.out.2]; omega) HXC.out w.heap.size w (new_below w _) (Nat.le_refl _) ?_; intro w2 hg2 hb2)
  go_ret
  refine ⟨_, rfl, hb2, ?_⟩
  have h := hg2.out
  rw [splice_all (by rw [HZ.out.1, HZ.out.2]), HX.out] at h
  have := own_heap (base := w.heap.size) h (Nat.le_refl _) (by rw [← HM.out]; unfold maxLen; omega)
  rw [← HM.out] at this
  exact this

theorem row_facts {w : World} {g : Nat} {L : List Value} {at_ : Nat} (hg : w.heap[g]? = some (.cells L.toArray 3 (0, 0))) (h : at_ < L.length) :
    (∃ u, w.cell? ⟨g, at_, none⟩ = some u) ∧ w.frozen? ⟨g, at_, none⟩ = false := by
  refine ⟨⟨L[at_], ?_⟩, frozen_of_row w g at_ _ _ hg⟩
  rw [cell_of_row w g at_ _ _ _ hg]
  simp [h]

theorem row_set {w : World} {g : Nat} {L : List Value} {at_ : Nat} {u : Value} (hg : w.heap[g]? = some (.cells L.toArray 3 (0, 0))) :
    (w.setCell ⟨g, at_, none⟩ u).heap[g]? = some (.cells (L.set at_ u).toArray 3 (0, 0)) := by
  have := heap_setCell_same w g at_ L.toArray 3 u hg
  simpa using this

end Go.Proofs.YtlclfmjpnchmbaaGreat

/- impl's and the specification's sets of ints: without a number, flipped. Condition: at most 2^22 of them. -/
namespace Go.Proofs.YtlclfmjpnchmbaaGreat
open Go.ChangeShapes Go.WideShapes Go.ChangeAt Go.RowKit

theorem one_new (w : World) (x : Value) (t : TypeId) : ∀ ad, some (⟨w.heap.size, 0, none⟩ : Addr) = some ad → ∀ j u, [x][j]? = some u → (w.alloc (.cells #[x] t)).cell? (ad.add j) = some u := by
  intro ad h j u hu
  obtain rfl := Option.some.inj h
  match j, hu with
  | 0, hu =>
    simp at hu
    subst hu
    rw [Addr.add_lit, cell_of_row _ _ _ _ _ _ (heap_alloc_new w (.cells #[x] t))]
    rfl

theorem own_push {B : Nat} {w wr w1 : World} {r0 v' : Value} {L : List Int} {x : Int} {t : TypeId} (h : Own wr B r0 L) (hb : Below B w wr) (hB : B ≤ wr.heap.size)
    (h1 : w1.ownsRow B 3 1 v' (L.length + 1) (L.map (Value.int .i64) ++ [.int .i64 x])) (hg : (wr.alloc (.cells #[.int .i64 x] t)).grownBy w1 r0.ownBlock) : Own w1 B v' (L ++ [x]) ∧ Below B w w1 := by
  refine ⟨?_, ?_⟩
  · unfold Own
    rw [List.length_append, List.length_singleton, List.map_append]
    exact h1
  · exact (hb.alloc hB _).grown hg (by simp; omega) (fun k hk => (h.lt k hk).1)

end Go.Proofs.YtlclfmjpnchmbaaGreat

/- spec.l7Dots and spec.l7Names at every node. Condition: at most 2^20 of it, at most 2^21 names ahead. -/
namespace Go.Proofs.YtlclfmjpnchmbaaGreat
open Go.ChangeShapes Go.WideShapes Go.ChangeAt Go.RowKit

set_option maxRecDepth 100000 in
set_option maxHeartbeats 2000000 in
theorem spec_dots (t : X) (su u : Value) (w : World) :
    Calls Tryz.prog 32 #[.agg #[.int .i64 t.op, .int .i64 t.at_, .int .i64 t.n, .string t.s, su, u]] w fun e w' => e = .returned (.bool (dotsX t)) ∧ Below w.heap.size w w' := by
  have HD : Hid (dotsX t = ((t.op == 2) && (t.s.toList == [46, 46, 46]))) := rfl
  generalize t.op = op at *
  generalize t.at_ = a at *
  generalize t.n = n at *
  generalize t.s = s at *
  cases h1 : (op == 2)
  · have HR : Hid (dotsX t = false) := by show _ = _; rw [HD.out, h1]; rfl
    go_enter Tryz.func32, Tryz.ntmps32
    go_wp2_with fail
    go_ret
    exact ⟨by rw [HR.out]; rfl, newx w _⟩
  · cases h2 : (s.toList == [46, 46, 46])
    all_goals
      have HR : Hid (dotsX t = (s.toList == [46, 46, 46])) := by show _ = _; rw [HD.out, h1]; rfl
      go_enter Tryz.func32, Tryz.ntmps32
      go_wp2_with fail
      go_ret
      exact ⟨by rw [HR.out, h2]; rfl, newx w _⟩

/-- What is no row of texts stays as it is. -/
def NonStr (w w' : World) : Prop := ∀ (g : Nat) (o : Obj), w.heap[g]? = some o → (∀ cs m, o ≠ .cells cs 9 m) → w'.heap[g]? = some o
theorem NonStr.trans {w w1 w2 : World} (h : NonStr w w1) (h2 : NonStr w1 w2) : NonStr w w2 := fun g o hg hn => h2 g o (h g o hg hn) hn
theorem NonStr.below {w w' : World} (hb : Below w.heap.size w w') : NonStr w w' := fun g _ hg _ => (hb.block g (Array.getElem?_eq_some_iff.1 hg).1).trans hg
theorem NonStr.grown {w w' : World} {B : Nat} {v : Value} {xs : List ByteArray} (ho : OwnS w B v xs) (hg : w.grownBy w' v.ownBlock) : NonStr w w' := fun g o h hn => by
  refine (hg.block g (Array.getElem?_eq_some_iff.1 h).1 ?_).trans h
  intro e
  rcases ho.2 with ⟨rfl, _⟩ | ⟨g1, cap, cur, rfl, hbg, hgg, _⟩
  · simp [Value.ownBlock] at e
  · have e1 : g1 = g := by simpa [Value.ownBlock] using e.symm
    subst e1
    rw [hgg] at h
    exact hn _ _ (Option.some.inj h).symm
theorem NonStr.six {w w' : World} {g : Nat} {a b c : Int} {s : ByteArray} {u v : Value} (h : NonStr w w') (h6 : Six w g a b c s u v 32) : Six w' g a b c s u v 32 := h g _ h6 (fun cs m e => by simp at e)

/-- The contract of l7Names: what is read lies in an older world, what is built from its end on. -/
def NamesAt (t : X) : Prop := ∀ (w0 w : World) (su u v : Value) (out : List ByteArray) (tw : Bool), t.At 0 w0 su u → Below w0.heap.size w0 w → OwnS w w0.heap.size v out → out.length + t.count ≤ 4194304 →
  Calls Tryz.prog 31 #[.agg #[.int .i64 t.op, .int .i64 t.at_, .int .i64 t.n, .string t.s, su, u], v, .bool tw] w fun e w' => ∃ v', e = .returned (.tuple #[v', .bool (namesX t (out, tw)).2]) ∧ Below w0.heap.size w0 w' ∧ OwnS w' w0.heap.size v' (namesX t (out, tw)).1 ∧ NonStr w w'

theorem steps_len (kid : Nat → X) (out : List ByteArray × Bool) (k : Nat) : (stepsTo (fun i a => namesX (kid i) a) k out).1.length ≤ out.1.length + sumX (fun i => (kid i).count) k := by
  induction k with
  | zero => exact Nat.le_add_right _ _
  | succ k ih =>
    simp only [stepsTo, sumX]
    have := namesX_len (kid k) (stepsTo (fun i a => namesX (kid i) a) k out)
    omega

set_option maxRecDepth 100000 in
set_option maxHeartbeats 4000000 in
theorem spec_names (t : X) : NamesAt t := by
  induction t with
  | no => intro w0 w su u v out tw h; exact h.elim
  | mk op a n s set len kid ih =>
    intro w0 w su u v out tw hin hbel hown hlen
    have hcn : (X.mk op a n s set len kid).count = 1 + sumX (fun i => (kid i).count) len := rfl
    obtain ⟨p, cap, e1, hl2, hat⟩ := hin.xs.at
    obtain ⟨qs, cs, e2⟩ := hin.sets.shape
    simp only [X.op, X.at_, X.n, X.s, X.len, X.set, X.kid] at e1 e2 hat hl2 ⊢
    have HAT : Hid (∀ i, i < len → ∃ b o sv u, p = some ⟨b, o, none⟩ ∧ Head6 w0 b (o + i * 6) (kid i) sv u ∧ (kid i).At 0 w0 sv u) := hat
    have IH : Hid (∀ i, NamesAt (kid i)) := ih
    have HCN : Hid (out.length + (1 + sumX (fun i => (kid i).count) len) ≤ 4194304) := by show _ ≤ _; rw [← hcn]; exact hlen
    have hlo : out.length < 4194304 := by omega
    unfold maxLen at hl2
    subst e1 e2
    obtain ⟨res, hres⟩ : ∃ r, r = namesX (.mk op a n s set len kid) (out, tw) := ⟨_, rfl⟩
    rw [← hres]
    have HRES : Hid (res = if nameX op s then addN s (out, tw) else stepsTo (fun i a => namesX (kid i) a) len (out, tw)) := by show _ = _; rw [hres, namesX_mk]
    have HNX : Hid (nameX op s = ((op == 2) && (!(s.toList == [95]) && !(s.toList == [46, 46, 46])))) := rfl
    obtain ⟨i0, hi, hz0, hz1, hz2⟩ := info_parts string_info
    obtain ⟨W, hW⟩ : ∃ W, W = w.alloc (.cells #[.int .i64 op, .int .i64 a, .int .i64 n, .string s, .slice qs set.length cs, .slice p len cap] 32) := ⟨_, rfl⟩
    obtain ⟨C, hC⟩ : ∃ C, C = w.heap.size := ⟨_, rfl⟩
    have HW : Hid (Below w0.heap.size w0 W ∧ OwnS W w0.heap.size v out ∧ Six W C op a n s (.slice qs set.length cs) (.slice p len cap) 32 ∧ NonStr w W) := by
      rw [hW, hC]
      exact ⟨hbel.trans ((newx w _).mono hbel.size), hown.below (newx w _), heap_alloc_new w _, NonStr.below (newx w _)⟩
    obtain ⟨av, acap, hvs, hvc⟩ := hown.rd
    subst hvs
    have HVC : Hid (∀ j, j < out.length → ∃ b off, av = some ⟨b, off, none⟩ ∧ w.cell? ⟨b, off + j, none⟩ = some (.string (out.getD j ⟨#[]⟩))) := hvc
    have HWN : Hid (Below w.heap.size w W) := by rw [hW]; exact newx w _
    clear hin hbel hown ih hat hlen hcn hres hvc
    generalize set.length = sl at *
    have hcases : (nameX op s = true ∧ (op == 2) = true ∧ (s.toList == [95]) = false ∧ (s.toList == [46, 46, 46]) = false) ∨ (nameX op s = false ∧ ((op == 2) = false ∨ ((op == 2) = true ∧ (s.toList == [95]) = true) ∨ ((op == 2) = true ∧ (s.toList == [95]) = false ∧ (s.toList == [46, 46, 46]) = true))) := by
      rw [HNX.out]
      cases h1 : (op == 2) <;> cases h2 : (s.toList == [95]) <;> cases h3 : (s.toList == [46, 46, 46]) <;> simp
    rcases hcases with ⟨hnm, g1, g2, g3⟩ | ⟨hnm, hrest⟩
    · have HR : Hid (res = addN s (out, tw)) := by show _ = _; rw [HRES.out, hnm]; rfl
      clear HRES hnm HNX
      go_enter Tryz.func31, Tryz.ntmps31
      go_wp2_with fail
      rw [← hW, ← hC]
      clear hW hC
      have KW : Hid (∀ wx, Below W.heap.size W wx → Below w0.heap.size w0 wx ∧ OwnS wx w0.heap.size (.slice av out.length acap) out ∧ Six wx C op a n s (.slice qs sl cs) (.slice p len cap) 32 ∧ NonStr w wx) := fun wx hx => ⟨HW.out.1.trans (hx.mono HW.out.1.size), HW.out.2.1.below hx, HW.out.2.2.1.below hx, HW.out.2.2.2.trans (NonStr.below hx)⟩
      have HAC : Hid (∀ wx, Below W.heap.size W wx → ∀ j, j < out.length → ∃ b off, av = some ⟨b, off, none⟩ ∧ wx.cell? ⟨b, off + j, none⟩ = some (.string (out.getD j ⟨#[]⟩))) := fun wx hx j hj => by
        obtain ⟨b, off, e, h⟩ := HVC.out j hj
        exact ⟨b, off, e, keepsX hx _ _ (keepsX HWN.out _ _ h)⟩
      have HML : Hid (∀ (o2 : List ByteArray), o2 = out → o2.length = out.length) := fun _ h => by rw [h]
      have HIY : Hid (∀ k, k < out.length → ((out.getD k ⟨#[]⟩).toList == s.toList) = true → res = (out, true)) := fun k hk h => by
        rw [HR.out]; unfold addN; rw [if_pos (inS_yes k hk h)]
      have HIN : Hid ((∀ j, j < out.length → ((out.getD j ⟨#[]⟩).toList == s.toList) = false) → res = (out ++ [s], tw)) := fun h => by
        rw [HR.out]; unfold addN; rw [if_neg (by rw [inS_no h]; simp)]
      clear HW HVC HML HR
      obtain ⟨m, hm⟩ : ∃ m, m = out.length := ⟨_, rfl⟩
      rw [← hm] at KW HAC HIY HIN hlo ⊢
      have HM : Hid (m = out.length) := hm
      clear hm
      go_loopw [8] (fun i wr => ∃ k : Nat, i = .int .i64 k ∧ k ≤ m ∧ (∀ j, j < k → ((out.getD j ⟨#[]⟩).toList == s.toList) = false) ∧ Below W.heap.size W wr) (fun i _ => m - (intOf i).toNat)
      case atStart => exact ⟨0, rfl, Nat.zero_le _, fun j hj => absurd hj (Nat.not_lt_zero _), Below.refl _ _⟩
      case round =>
        obtain ⟨k, rfl, hk, hno, hbel⟩ := hrel
        have HB : Hid (Below W.heap.size W wr) := hbel
        have HNO : Hid (∀ j, j < k → ((out.getD j ⟨#[]⟩).toList == s.toList) = false) := hno
        clear hno hbel
        obtain ⟨x0, x1, x2, x3, x4, x5⟩ := (KW.out wr HB.out).2.2.1.cells
        by_cases hlt : (k : Int) < m
        · have hk' : k < m := by omega
          obtain ⟨b, off, ha, hcell⟩ := HAC.out wr HB.out k hk'
          subst ha
          have HY : Hid (((out.getD k ⟨#[]⟩).toList == s.toList) = true → res = (out, true)) := HIY.out k hk'
          have HN2 : Hid (((out.getD k ⟨#[]⟩).toList == s.toList) = false → ∀ j, j < k + 1 → ((out.getD j ⟨#[]⟩).toList == s.toList) = false) := fun h j hj => by
            by_cases hjk : j = k
            · subst hjk; exact h
            · exact HNO.out j (by omega)
          have HBD : Hid (∀ nq, Below W.heap.size W (wr.drewN nq)) := fun nq => ⟨HB.out.os, HB.out.tape, HB.out.output, HB.out.size, HB.out.block⟩
          generalize out.getD k ⟨#[]⟩ = x at *
          cases he : (x.toList == s.toList)
          · have HN3 : Hid (∀ j, j < k + 1 → ((out.getD j ⟨#[]⟩).toList == s.toList) = false) := HN2.out he
            go_wp2_with fail
            go_quiet (fail)
            go_wp2_with fail
            go_roundw
            case rel => exact ⟨k + 1, by go_num, by omega, HN3.out, HBD.out _⟩
            case measure => simp [intOf]; omega
          · have HE : Hid (res = (out, true)) := HY.out he
            go_wp2_with fail
            go_quiet (fail)
            go_wp2_with fail
            go_ret2
            exact ⟨_, by rw [HE.out]; rfl, (KW.out _ (HBD.out _)).1, by rw [HE.out]; exact (KW.out _ (HBD.out _)).2.1, (KW.out _ (HBD.out _)).2.2.2⟩
        · have hke : k = m := by omega
          subst hke
          have HE : Hid (res = (out ++ [s], tw)) := HIN.out HNO.out
          have HOW : Hid (OwnS wr w0.heap.size (.slice av k acap) out ∧ Below w0.heap.size w0 wr ∧ NonStr w wr) := ⟨(KW.out wr HB.out).2.1, (KW.out wr HB.out).1, (KW.out wr HB.out).2.2.2⟩
          have HSZ : Hid (w0.heap.size ≤ wr.heap.size) := HOW.out.2.1.size
          go_wp2_with (at_builtin; refine wpList_append_any _ rfl (.tmp 39) (.tmp 42) 54 rfl w0.heap.size 9 i0 (.string ⟨#[]⟩) 1 16 Tryz.underlying54 hi hz0 hz1 hz2 rfl (by decide) (.slice av k acap) out.length (out.map Value.string) rfl (World.ownsRow.alloc HOW.out.1 _) (some ⟨wr.heap.size, 0, none⟩) 1 1 [.string s] rfl rfl (by simp) (one_new wr _ _) (by simp [Value.oneCell']) (by unfold maxLen; rw [← HM.out]; omega) (by rw [← HM.out]; omega) (by have := HSZ.out; simp; omega) ?_; intro v' w2 hown2 hg2)
          have R := own_pushS HOW.out.1 HOW.out.2.1 HSZ.out hown2.out hg2.out
          have nb : Below wr.heap.size wr (wr.alloc (.cells #[.string s] 9)) := newx wr _
          have HR2 : Hid (OwnS w2 w0.heap.size v' (out ++ [s]) ∧ Below w0.heap.size w0 w2 ∧ NonStr w w2) := ⟨R.1, R.2, HOW.out.2.2.trans ((NonStr.below nb).trans (NonStr.grown (HOW.out.1.below nb) hg2.out))⟩
          clear R nb hown2 hg2
          go_wp2_with fail
          go_ret2
          exact ⟨_, by rw [HE.out]; rfl, HR2.out.2.1, by rw [HE.out]; exact HR2.out.1, HR2.out.2.2⟩
    · have HR : Hid (res = stepsTo (fun i a => namesX (kid i) a) len (out, tw)) := by show _ = _; rw [HRES.out, hnm]; rfl
      clear HRES hnm HNX
      rcases hrest with g1 | ⟨g1, g2⟩ | ⟨g1, g2, g3⟩
      all_goals
        go_enter Tryz.func31, Tryz.ntmps31
        go_wp2_with fail
        rw [← hW, ← hC]
        clear hW hC
        go_loopw [1, 2, 9] (fun r q i wr => ∃ (k : Nat) (r0 : Value) (o : List ByteArray × Bool), r0 = r ∧ i = .int .i64 k ∧ k ≤ len ∧ o = stepsTo (fun i a => namesX (kid i) a) k (out, tw) ∧ q = .bool o.2 ∧ OwnS wr w0.heap.size r0 o.1 ∧ Below w0.heap.size w0 wr ∧ Six wr C op a n s (.slice qs sl cs) (.slice p len cap) 32 ∧ NonStr w wr) (fun _ _ i _ => len - (intOf i).toNat)
        case atStart => exact ⟨0, _, (out, tw), rfl, rfl, Nat.zero_le _, rfl, rfl, HW.out.2.1, HW.out.1, HW.out.2.2.1, HW.out.2.2.2⟩
        case round =>
          obtain ⟨k, r0, o, rfl, rfl, hk, ho, rfl, hown, hbel, hsix, hns⟩ := hrel
          have HK : Hid (OwnS wr w0.heap.size r0 o.1 ∧ Below w0.heap.size w0 wr ∧ Six wr C op a n s (.slice qs sl cs) (.slice p len cap) 32 ∧ NonStr w wr ∧ o = stepsTo (fun i a => namesX (kid i) a) k (out, tw)) := ⟨hown, hbel, hsix, hns, ho⟩
          have c5 := hsix.cells.2.2.2.2.2
          clear hown hbel hsix hns ho HW
          by_cases hlt : (k : Int) < len
          · have hk' : k < len := by omega
            obtain ⟨b, ob, sk, uk, hp, hd, hink⟩ := HAT.out k hk'
            subst hp
            obtain ⟨d0, d1, d2, d3, d4, d5⟩ := hd.below HK.out.2.1
            have HCL : Hid (Calls Tryz.prog 31 #[.agg #[.int .i64 (kid k).op, .int .i64 (kid k).at_, .int .i64 (kid k).n, .string (kid k).s, sk, uk], r0, .bool o.2] wr fun e w' => ∃ v', e = .returned (.tuple #[v', .bool (namesX (kid k) o).2]) ∧ Below w0.heap.size w0 w' ∧ OwnS w' w0.heap.size v' (namesX (kid k) o).1 ∧ NonStr wr w') := by
              have hle := steps_len kid (out, tw) k
              rw [← HK.out.2.2.2.2] at hle
              have h2 := sumX_at (fun i => (kid i).count) k len hk'
              have h3 := HCN.out
              exact IH.out k w0 wr sk uk r0 o.1 o.2 hink HK.out.2.1 HK.out.1 (by simp only at hle; omega)
            clear hd hink
            go_wp2_with fail
            refine HCL.out.mono ?_
            rintro e w2 ⟨v', rfl, hb2, ho2, hn2⟩
            have HN : Hid (OwnS w2 w0.heap.size v' (namesX (kid k) o).1 ∧ Below w0.heap.size w0 w2 ∧ Six w2 C op a n s (.slice qs sl cs) (.slice (some ⟨b, ob, none⟩) len cap) 32 ∧ NonStr w w2) := ⟨ho2, hb2, hn2.six HK.out.2.2.1, HK.out.2.2.2.1.trans hn2⟩
            have HOE : Hid (namesX (kid k) o = stepsTo (fun i a => namesX (kid i) a) (k + 1) (out, tw)) := by show _ = _; simp only [stepsTo]; rw [← HK.out.2.2.2.2]
            clear hb2 ho2 hn2 HCL d0 d1 d2 d3 d4 d5 c5
            go_wp2_with fail
            go_roundw
            case rel => exact ⟨k + 1, _, namesX (kid k) o, rfl, by go_num, by omega, HOE.out, rfl, HN.out⟩
            case measure => simp [intOf]; omega
          · have hke : k = len := by omega
            subst hke
            have HE : Hid (res = o) := by show _ = _; rw [HR.out, ← HK.out.2.2.2.2]
            go_wp2_with fail
            go_ret2
            exact ⟨_, by rw [HE.out]; rfl, HK.out.2.1, by rw [HE.out]; exact HK.out.1, HK.out.2.2.2.1⟩
end Go.Proofs.YtlclfmjpnchmbaaGreat
