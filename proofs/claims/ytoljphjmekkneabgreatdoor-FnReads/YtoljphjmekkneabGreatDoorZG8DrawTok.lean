/- Drawn data: one field put anew, one kid appended. No conditions. -/
import Derived.Test.YtoljphjmekkneabGreatDoorZG6Poke2
import Derived.Test.YtoljphjmekkneabGreatDoorZG5ReadAcc
import Derived.Test.YtoljphjmekkneabGreatDoorZG7Cur2
import Derived.RegionTactic
import Derived.BigRegion
import Derived.Deep.RegionWith
import Derived.BigQuiet
import Derived.Deep.QuietTactic
namespace Go.Proofs.YtoljphjmekkneabGreatDoor
open Go.ChangeShapes Go.WideShapes Go.ChangeAt Go.RowKit

theorem own_rebase {w : World} {base base' e size n : Nat} {v : Value} {xs : List Value} (h : w.ownsRow base e size v n xs) (hb : ∀ g, v.ownBlock = some g → base' ≤ g) : w.ownsRow base' e size v n xs := by
  refine ⟨h.1, ?_⟩
  rcases h.2 with hn | ⟨g, cap, cur, rfl, hbg, rest⟩
  · exact .inl hn
  · exact .inr ⟨g, cap, cur, rfl, hb g rfl, rest⟩

/-- What is owned in blocks from B on lies there. -/
theorem DOwn.inB {w : World} {B : Nat} (t : D) : ∀ {v : Value} {S : List Nat}, DOwn w t v S → (∀ b ∈ S, B ≤ b) → t.InB B w v := by
  induction t with
  | no => intro v S h; exact h.elim
  | mk op a n s len kid ih =>
    intro v S h hS
    unfold DOwn at h
    refine D.InB.mk' h.1.1 h.1.2 ?_
    rcases h.2 with ⟨rfl, rfl, _⟩ | ⟨g, cap, l, SS, rfl, h2, h3, h4, h5, h6, h7⟩
    · exact .inl ⟨rfl, _, _, rfl⟩
    · refine SlB.of_own (own_rebase (base' := B) h2 (fun g' hg' => ?_)) h3 (Nat.le_refl _) h5 (fun q hq => ?_)
      · simp only [Value.ownBlock, Option.some.injEq] at hg'
        subst hg'
        exact hS g (by rw [h6]; simp)
      · obtain ⟨i, hi, rfl⟩ := List.mem_iff_getElem.1 hq
        obtain ⟨u, T, k1, k2, k3⟩ := h7 i (by omega)
        rw [List.getElem?_eq_getElem hi] at k1
        injection k1 with k1
        rw [k1]
        exact ih i k3 (fun b hb => hS b (by rw [h6]; exact List.mem_cons_of_mem _ (mem_flat k2 hb)))

theorem SOwn.slB {w : World} {B len : Nat} {kid : Nat → D} {v : Value} {S : List Nat} (h : SOwn w len kid v S) (hS : ∀ b ∈ S, B ≤ b) : SlB B w len kid v :=
  (DOwn.inB (.mk 0 0 0 ⟨#[]⟩ len kid) (v := v) (S := S) ⟨⟨by unfold maxLen; exact Nat.zero_le _, by omega, by omega⟩, h⟩ hS).sl

/-- One cell of a row of data, put anew. -/
theorem drows_set (l : List (D × Value)) : ∀ (j f : Nat) (q q' : D × Value) (x : Value), l[j]? = some q → f < 5 → dcells q' = (dcells q).set f x → (drows l).set (j * 5 + f) x = drows (l.set j q') := by
  induction l with
  | nil => intro j f q q' x h; simp at h
  | cons a r ih =>
    intro j f q q' x h hf he
    have e : drows (a :: r) = dcells a ++ drows r := by simp [drows]
    have hl : (dcells a).length = 5 := rfl
    cases j with
    | zero =>
      simp only [List.getElem?_cons_zero, Option.some.injEq] at h
      subst h
      rw [e, List.set_append_left _ _ (by omega), List.set_cons_zero, Nat.zero_mul, Nat.zero_add, ← he]
      simp [drows]
    | succ j =>
      simp only [List.getElem?_cons_succ] at h
      rw [e, List.set_append_right _ _ (by omega), hl, List.set_cons_succ, show (j + 1) * 5 + f - 5 = j * 5 + f from by omega, ih j f q q' x h hf he]
      simp [drows]

theorem row_put {w0 wr : World} {g len cap j f : Nat} {l : List (D × Value)} {x : D} {u : Value} (q' : D × Value) (y : Value) (hs : wr.heap[g]? = w0.heap[g]?) (hf : f < 5) (he : dcells q' = (dcells (x, u)).set f y)
    (h : w0.ownsRow 0 30 5 (.slice (some ⟨g, 0, none⟩) len cap) len (drows l)) (hj : l[j]? = some (x, u)) : (wr.setCell ⟨g, j * 5 + f, none⟩ y).ownsRow 0 30 5 (.slice (some ⟨g, 0, none⟩) len cap) len (drows (l.set j q')) := by
  have h1 : wr.ownsRow 0 30 5 (.slice (some ⟨g, 0, none⟩) len cap) len (drows l) := own_same h (fun b hb => by
    simp only [Value.ownBlock, Option.some.injEq] at hb
    subst hb; exact hs)
  have h2 := (h1.stored (j * 5 + f) y).1
  rw [drows_set l j f (x, u) q' y hj hf he] at h2
  exact h2

/-- The list of kids by their index. -/
def kidList (len : Nat) (kid : Nat → D) : List D := (List.range len).map kid
theorem kidList_len (len : Nat) (kid : Nat → D) : (kidList len kid).length = len := by simp [kidList]
theorem kidList_at (len : Nat) (kid : Nat → D) (i : Nat) (h : i < len) : kidsOf (kidList len kid) i = kid i := by simp [kidsOf, kidList, List.getD, h]

/-- Owned kids, as a list that may grow. -/
theorem SOwn.acc {w : World} {B len : Nat} {kid : Nat → D} {v : Value} {S : List Nat} (h : SOwn w len kid v S) (hn : S.Nodup) (hB : ∀ b ∈ S, B ≤ b) : ∃ la SS, Acc B w (kidList len kid) v la SS ∧ (∀ b ∈ SS.flatten, b ∈ S) ∧ (∀ g, v.ownBlock = some g → g ∈ S) := by
  rcases h with ⟨rfl, rfl, rfl⟩ | ⟨g, cap, l, SS, rfl, h2, h3, h4, h5, h6, h7⟩
  · exact ⟨[], [], Acc.nil _ _, fun b hb => by simp at hb, fun g hg => by simp [Value.ownBlock] at hg⟩
  · rw [h6, List.nodup_cons] at hn
    refine ⟨l, SS, ⟨by rw [kidList_len]; exact h2, by rw [kidList_len]; exact h3, by rw [kidList_len]; exact h4, fun i hi => ?_, hn.2, fun b hb => ?_, fun b hb => hB b (by rw [h6]; exact List.mem_cons_of_mem _ hb)⟩, fun b hb => by rw [h6]; exact List.mem_cons_of_mem _ hb, fun b hb => ?_⟩
    · rw [kidList_len] at hi
      rw [kidList_at len kid i hi]
      exact h7 i hi
    · simp only [Value.ownBlock, Option.some.injEq] at hb
      subst hb
      exact ⟨hn.1, hB g (by rw [h6]; simp)⟩
    · simp only [Value.ownBlock, Option.some.injEq] at hb
      subst hb
      rw [h6]; simp

theorem sum_kidList (f : D → Nat) (len : Nat) (kid : Nat → D) (d : D) : sumTo (fun i => f (kidsOf (kidList len kid ++ [d]) i)) (len + 1) = sumTo (fun i => f (kid i)) len + f d := by
  have low : ∀ k, k ≤ len → sumTo (fun i => f (kidsOf (kidList len kid ++ [d]) i)) k = sumTo (fun i => f (kid i)) k := by
    intro k
    induction k with
    | zero => intro _; rfl
    | succ k ih =>
      intro hk
      simp only [sumTo]
      rw [ih (by omega), kidsOf_snoc_lt _ _ _ (by rw [kidList_len]; omega), kidList_at len kid k (by omega)]
  simp only [sumTo]
  rw [low len (Nat.le_refl _)]
  have := kidsOf_snoc_at (kidList len kid) d
  rw [kidList_len] at this
  rw [this]

/-- The root over a list. -/
abbrev rootD (len : Nat) (kid : Nat → D) : D := .mk 0 0 0 ⟨#[]⟩ len kid
theorem root_own {w : World} {len : Nat} {kid : Nat → D} {v : Value} {S : List Nat} (h : SOwn w len kid v S) : DOwn w (rootD len kid) v S := ⟨⟨by unfold maxLen; exact Nat.zero_le _, by omega, by omega⟩, h⟩

theorem node_root {w : World} {len : Nat} {kid : Nat → D} {v : Value} {S : List Nat} (h : SOwn w len kid v S) {j : Nat} (hj : j < len) : ∃ g cap u T, v = .slice (some ⟨g, 0, none⟩) len cap ∧ NodeAt w (rootD len kid) v S g j (kid j) u T := by
  obtain ⟨g, cap, l, SS, hr⟩ := h.row (by omega)
  obtain ⟨u, T, k1, k2, k3⟩ := hr.each j hj
  exact ⟨g, cap, u, T, hr.val, NodeAt.here (t := rootD len kid) (root_own h).plain hr hj k1 k2⟩

/-- The kids' cell of a node. -/
theorem NodeAt.cells {w : World} {t : D} {v : Value} {S : List Nat} {g j : Nat} {x : D} {u : Value} {T : List Nat} (h : NodeAt w t v S g j x u T) : Head w g (j * 5) x u ∧ (∀ k, w.frozen? ⟨g, k, none⟩ = false) := by
  obtain ⟨h1, h2, h3, len, cap, l, ho, hl, hj, hjl⟩ := h.facts
  refine ⟨?_, fun k => ho.frozenAt k⟩
  have cell : ∀ f, f < 5 → w.cell? ⟨g, j * 5 + f, none⟩ = (dcells (x, u))[f]? := by
    intro f hf
    rw [ho.cellAt (j * 5 + f) (by omega)]
    have := drows_at l [] j _ hj f hf
    simpa using this
  exact ⟨cell 0 (by omega), cell 1 (by omega), cell 2 (by omega), cell 3 (by omega), cell 4 (by omega)⟩

/-- One step down, by an index. -/
theorem NodeAt.step {w : World} {t : D} {v : Value} {S : List Nat} {g j : Nat} {x : D} {u : Value} {T : List Nat} (h : NodeAt w t v S g j x u T) {k : Nat} (hk : k < x.len) : ∃ g2 cap2 u2 T2, u = .slice (some ⟨g2, 0, none⟩) x.len cap2 ∧ NodeAt w t v S g2 k (x.kid k) u2 T2 := by
  obtain ⟨h1, _⟩ := h.facts
  obtain ⟨g2, cap2, l2, SS2, hr⟩ := h1.sown.row (by omega)
  obtain ⟨u2, T2, k1, k2, k3⟩ := hr.each k hk
  exact ⟨g2, cap2, u2, T2, hr.val, h.down hr hk k1 k2⟩

theorem NodeAt.weight {w : World} {t : D} {v : Value} {S : List Nat} {g j : Nat} {x : D} {u : Value} {T : List Nat} (h : NodeAt w t v S g j x u T) : x.weight ≤ t.weight := by
  induction h with
  | @here t v S g cap l SS j u T hp hr hj h1 h2 =>
    have := sumTo_at (fun i => (t.kid i).weight) j t.len hj
    rw [D.weight_eq t]
    unfold kidsWeight
    omega
  | @there t v S g0 cap l SS i ui Ti g j x u T hp hr hi h1 h2 hin ih =>
    have := sumTo_at (fun i => (t.kid i).weight) i t.len hi
    rw [D.weight_eq t]
    unfold kidsWeight
    omega
theorem D.len_weight (t : D) : t.len ≤ t.weight := by rw [D.weight_eq]; unfold kidsWeight; omega
end Go.Proofs.YtoljphjmekkneabGreatDoor

/- What the draws of chapter 2 answer: some text of at most 5000 bytes; nothing that was there is written. Condition: the code's bytes can be read. -/
namespace Go.Proofs.YtoljphjmekkneabGreatDoor
open Go.ChangeShapes Go.WideShapes Go.ChangeAt Go.RowKit

theorem textsAt_alloc (w : World) (ss : List ByteArray) (t : TypeId) : TextsAt w.heap.size ss (w.alloc (.cells (ss.map Value.string).toArray t)) := by
  intro j hj
  rw [World.cell?_alloc_mark]
  simp [List.getElem?_map, List.getElem?_eq_getElem hj, List.getD_eq_getElem?_getD]

theorem textsAt_lit (w : World) (ss : List ByteArray) (cs : Array Value) (t : TypeId) (h : cs = (ss.map Value.string).toArray) : TextsAt w.heap.size ss (w.alloc (.cells cs t)) := by
  rw [h]; exact textsAt_alloc w ss t

theorem CurAt.alloc {c : Nat} {a : Option Addr} {len cap : Nat} {w : World} (h : CurAt c a len cap w) (o : Obj) : CurAt c a len cap (w.alloc o) :=
  h.keep (d := w.heap.size) ((Ext.refl _ w).alloc o) h.lt
theorem CurAt.below {c : Nat} {a : Option Addr} {len cap : Nat} {w w' : World} (h : CurAt c a len cap w) (hb : Below w.heap.size w w') : CurAt c a len cap w' :=
  h.keep (d := w.heap.size) (Ext.of_below hb (Nat.le_refl _)) h.lt

/-- How many bytes a text has. -/
def szOf : Value → Nat
  | .string s => s.size
  | _ => 0

set_option maxHeartbeats 1000000 in
theorem l1Once_any (c : Nat) (a : Option Addr) (len cap : Nat) (n : Int) (hn : n ≤ 9223372036854775807) (w : World) (hc : CurAt c a len cap w) :
    Calls Tryz.prog 26 #[.pointer (some ⟨c, 0, none⟩), .int .i64 n] w fun e w' => (∃ b : Bool, e = .returned (.bool b)) ∧ Ext c w w' ∧ CurAt c a len cap w' := by
  go_enter Tryz.func26, Tryz.ntmps26
  go_wp2_with fail
  refine (l1Below_any c a len cap n hn _ hc).mono ?_
  rintro e w1 ⟨⟨x, x0, _, x1, rfl⟩, hx, hcur⟩
  clear x1
  go_wp2
  go_ret
  exact ⟨⟨_, rfl⟩, hx, hcur⟩

set_option maxHeartbeats 2000000 in
set_option maxRecDepth 100000 in
theorem l10Programs_any (w : World) :
    Calls Tryz.prog 40 #[] w fun e w' => ∃ ss : List ByteArray, e = .returned (.slice (some ⟨w.heap.size, 0, none⟩) 15 15) ∧ ss.length = 15 ∧ (∀ s ∈ ss, s.size ≤ 300) ∧ w' = w.alloc (.cells (ss.map Value.string).toArray 9) := by
  go_enter Tryz.func40, Tryz.ntmps40
  go_wp2
  go_ret
  refine ⟨[_, _, _, _, _, _, _, _, _, _, _, _, _, _, _], rfl, rfl, ?_, rfl⟩
  decide

set_option maxHeartbeats 1000000 in
theorem l10DrawSource_any (c : Nat) (a : Option Addr) (len cap : Nat) (w : World) (hc : CurAt c a len cap w) :
    Calls Tryz.prog 19 #[.pointer (some ⟨c, 0, none⟩)] w fun e w' => (∃ s : ByteArray, s.size ≤ 300 ∧ e = .returned (.string s)) ∧ Ext c w w' ∧ CurAt c a len cap w' := by
  have hlt := hc.lt
  go_enter Tryz.func19, Tryz.ntmps19
  go_wp2_with fail
  refine (l10Programs_any _).mono ?_
  rintro e w1 ⟨ss, rfl, hl, hss, rfl⟩
  have HS : Hid (∀ s ∈ ss, s.size ≤ 300) := hss
  have HL : Hid (ss.length = 15) := hl
  clear hss hl
  go_wp2_with fail
  refine (l1Pick_any c a len cap w.heap.size ss _ (hc.alloc _) (by omega) 15 HL.out (by omega) (by omega) (textsAt_alloc w ss _)).mono ?_
  rintro e w2 ⟨⟨z, hz, rfl⟩, hx, hcur⟩
  have hz1 := HS.out z hz
  clear hz
  go_wp2
  go_ret
  exact ⟨⟨z, hz1, rfl⟩, ((Ext.refl c w).alloc _).trans hx, hcur⟩

def symPicks : List ByteArray := [⟨#[97]⟩, ⟨#[108, 97, 109, 98, 100, 97]⟩, ⟨#[45]⟩, ⟨#[45, 120]⟩, ⟨#[45, 49]⟩, ⟨#[49, 97]⟩, ⟨#[65]⟩, ⟨#[]⟩, ⟨#[46, 46, 46]⟩, ⟨#[95]⟩, ⟨#[97, 98, 99, 100, 101, 102, 103, 104, 105, 106, 107, 108, 109]⟩, ⟨#[112, 97, 105, 114, 63]⟩, ⟨#[60, 61]⟩]
def dentPicks : List ByteArray := [⟨#[40]⟩, ⟨#[41]⟩, ⟨#[32]⟩, ⟨#[65]⟩, ⟨#[45]⟩, ⟨#[49]⟩, ⟨#[120]⟩]
theorem symPicks_size : ∀ z ∈ symPicks, z.size ≤ 13 := by decide
theorem dentPicks_size : ∀ z ∈ dentPicks, z.size ≤ 1 := by decide

theorem size_dent (s z : ByteArray) (k : Nat) (hs : s.size ≤ 300) (hz : z.size ≤ 1) : ((s.extract 0 k ++ z) ++ s.extract k s.size).size ≤ 700 := by
  rw [ByteArray.size_append, ByteArray.size_append, ByteArray.size_extract, ByteArray.size_extract]; omega
theorem size_dent2 (s : ByteArray) (k m : Nat) (hs : s.size ≤ 300) : (s.extract 0 k ++ s.extract m s.size).size ≤ 700 := by
  rw [ByteArray.size_append, ByteArray.size_extract, ByteArray.size_extract]; omega

theorem ext_pick {c : Nat} {w5 w6 : World} {o : Obj} (hx : Ext c ((w5.alloc o).drew) w6) : Ext c w5 w6 :=
  ((Ext.refl c w5).alloc o).trans ⟨hx.os, hx.tape, hx.output, hx.size, hx.block⟩

set_option maxHeartbeats 2000000 in
theorem l3Dent_any (c : Nat) (a : Option Addr) (len cap : Nat) (s : ByteArray) (hs : s.size ≤ 300) (w : World) (hc : CurAt c a len cap w) :
    Calls Tryz.prog 18 #[.pointer (some ⟨c, 0, none⟩), .string s] w fun e w' => (∃ t : ByteArray, t.size ≤ 700 ∧ e = .returned (.string t)) ∧ Ext c w w' ∧ CurAt c a len cap w' := by
  go_enter Tryz.func18, Tryz.ntmps18
  go_wp2_with fail
  refine (l1Below_any c a len cap ((s.size : Int) + 1) (by omega) _ hc).mono ?_
  rintro e w4 ⟨⟨x, x0, _, x1, rfl⟩, hx4, hcur4⟩
  have hxl := x1 (by omega)
  clear x1
  go_wp2_with fail
  refine (l1Below_any c a len cap 6 (by omega) _ hcur4).mono ?_
  rintro e w5 ⟨⟨y, y0, _, y1, rfl⟩, hx5, hcur5⟩
  have hyl := y1 (by omega)
  clear y1
  have hX := hx4.trans hx5
  have hlt := hcur5.lt
  clear hx4 hx5 hcur4
  by_cases e0 : y = 0
  · subst e0
    go_wp2_with fail
    go_region_with (first | (go_at_call 39; refine (l1Pick_any c a len cap w5.heap.size dentPicks _ (by exact hcur5.alloc _) (by omega) 7 rfl (by omega) (by omega) (by exact textsAt_lit w5 dentPicks _ _ (by kernel_rfl))).mono ?_; rintro e w6 ⟨⟨z, hz, rfl⟩, hx6, hcur6⟩; have hz1 := dentPicks_size z hz; clear hz))
    all_goals
      go_wp2
      go_ret
      exact ⟨⟨_, size_dent s z x.toNat hs hz1, rfl⟩, hX.trans (ext_pick hx6), hcur6⟩
  · have e0' : (y == 0) = false := by simp [e0]
    by_cases e1 : y = 1
    · subst e1
      by_cases hxs : x < (s.size : Int)
      · go_wp2
        go_quiet (fail)
        go_wp2
        go_ret
        exact ⟨⟨_, size_dent2 s _ _ hs, rfl⟩, hX.drewN _, hcur5⟩
      · go_wp2
        go_ret
        exact ⟨⟨s, by omega, rfl⟩, hX, hcur5⟩
    · have e1' : (y == 1) = false := by simp [e1]
      by_cases e2 : y = 2
      · subst e2
        go_wp2
        go_ret
        exact ⟨⟨_, by rw [ByteArray.size_extract]; omega, rfl⟩, hX, hcur5⟩
      · have e2' : (y == 2) = false := by simp [e2]
        go_wp2
        go_ret
        exact ⟨⟨s, by omega, rfl⟩, hX, hcur5⟩

end Go.Proofs.YtoljphjmekkneabGreatDoor
