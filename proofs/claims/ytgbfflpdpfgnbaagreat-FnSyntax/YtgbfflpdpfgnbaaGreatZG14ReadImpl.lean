/- Owned data of which one node is put anew, wherever it stands. No conditions. -/
import Derived.Test.YtgbfflpdpfgnbaaGreatZG13Poke
import Derived.Test.YtgbfflpdpfgnbaaGreatZG8DrawSet
import Derived.WalkLawsBesides
import Derived.Deep.LoopGhost
import Derived.BigQuiet
import Derived.Deep.QuietTactic
import Derived.Deep.RegionWith
namespace Go.Proofs.YtgbfflpdpfgnbaaGreat
open Go.ChangeShapes Go.WideShapes Go.ChangeAt Go.RowKit

/-- In t's rows the node x stands at place j of block g; its kids are at u, their blocks T. -/
inductive NodeAt (w : World) : D → Value → List Nat → Nat → Nat → D → Value → List Nat → Prop where
  | here {t : D} {v : Value} {S : List Nat} {g cap : Nat} {l : List (D × Value)} {SS : List (List Nat)} {j : Nat} {u : Value} {T : List Nat} : (t.s.size ≤ maxLen ∧ -9223372036854775808 ≤ t.n ∧ t.n ≤ 9223372036854775807) → Row w t.len t.kid v S g cap l SS → j < t.len → l[j]? = some (t.kid j, u) → SS[j]? = some T → NodeAt w t v S g j (t.kid j) u T
  | there {t : D} {v : Value} {S : List Nat} {g cap : Nat} {l : List (D × Value)} {SS : List (List Nat)} {i : Nat} {u : Value} {T : List Nat} {g' j : Nat} {x : D} {u' : Value} {T' : List Nat} : (t.s.size ≤ maxLen ∧ -9223372036854775808 ≤ t.n ∧ t.n ≤ 9223372036854775807) → Row w t.len t.kid v S g cap l SS → i < t.len → l[i]? = some (t.kid i, u) → SS[i]? = some T → NodeAt w (t.kid i) u T g' j x u' T' → NodeAt w t v S g' j x u' T'

theorem Row.at {w : World} {len : Nat} {kid : Nat → D} {v : Value} {S : List Nat} {g cap : Nat} {l : List (D × Value)} {SS : List (List Nat)} (h : Row w len kid v S g cap l SS) {i : Nat} (hi : i < len) {u : Value} {T : List Nat} (h1 : l[i]? = some (kid i, u)) (h2 : SS[i]? = some T) : DOwn w (kid i) u T := by
  obtain ⟨u', T', k1, k2, k3⟩ := h.each i hi
  rw [h1] at k1
  rw [h2] at k2
  injection k1 with k1
  injection k1 with _ k1
  injection k2 with k2
  rw [k1, k2]; exact k3

theorem NodeAt.facts {w : World} {t : D} {v : Value} {S : List Nat} {g j : Nat} {x : D} {u : Value} {T : List Nat} (h : NodeAt w t v S g j x u T) : DOwn w x u T ∧ g ∈ S ∧ (∀ b ∈ T, b ∈ S) ∧ ∃ len cap l, w.ownsRow 0 26 5 (.slice (some ⟨g, 0, none⟩) len cap) len (drows l) ∧ l.length = len ∧ l[j]? = some (x, u) ∧ j < len := by
  induction h with
  | here hp hr hj h1 h2 => exact ⟨hr.at hj h1 h2, by rw [hr.eq]; simp, fun b hb => by rw [hr.eq]; exact List.mem_cons_of_mem _ (mem_flat h2 hb), _, _, _, hr.own, hr.ll, h1, hj⟩
  | there hp hr hi h1 h2 _ ih =>
    obtain ⟨a1, a2, a3, a4⟩ := ih
    exact ⟨a1, by rw [hr.eq]; exact List.mem_cons_of_mem _ (mem_flat h2 a2), fun b hb => by rw [hr.eq]; exact List.mem_cons_of_mem _ (mem_flat h2 (a3 b hb)), a4⟩

/-- One step down. -/
theorem NodeAt.down {w : World} {t : D} {v : Value} {S : List Nat} {g j : Nat} {x : D} {u : Value} {T : List Nat} (h : NodeAt w t v S g j x u T) {g2 cap2 : Nat} {l2 : List (D × Value)} {SS2 : List (List Nat)} (hr2 : Row w x.len x.kid u T g2 cap2 l2 SS2) {k : Nat} (hk : k < x.len) {u2 : Value} {T2 : List Nat} (h3 : l2[k]? = some (x.kid k, u2)) (h4 : SS2[k]? = some T2) : NodeAt w t v S g2 k (x.kid k) u2 T2 := by
  induction h with
  | here hp hr hj h1 h2 => exact .there hp hr hj h1 h2 (.here (hr.at hj h1 h2).plain hr2 hk h3 h4)
  | there hp hr hi h1 h2 _ ih => exact .there hp hr hi h1 h2 (ih hr2 hk h3)

theorem drows_same : ∀ (l : List (D × Value)) (i : Nat) (q q' : D × Value), l[i]? = some q → dcells q' = dcells q → drows (l.set i q') = drows l := by
  intro l
  induction l with
  | nil => intro i q q' h _; simp at h
  | cons a l ih =>
    intro i q q' h he
    cases i with
    | zero =>
      simp only [List.getElem?_cons_zero, Option.some.injEq] at h
      subst h
      simp [drows, he]
    | succ i =>
      simp only [List.getElem?_cons_succ] at h
      have := ih i q q' h he
      simp only [drows, List.set_cons_succ, List.flatMap_cons] at this ⊢
      rw [this]

theorem NodeAt.swap {w w' : World} {t : D} {v : Value} {S : List Nat} {g j : Nat} {x : D} {u : Value} {T : List Nat} (h : NodeAt w t v S g j x u T) (hn : S.Nodup) {x' : D} {u' : Value} {T' : List Nat}
    (hrow : ∀ len cap l, w.ownsRow 0 26 5 (.slice (some ⟨g, 0, none⟩) len cap) len (drows l) → l.length = len → l[j]? = some (x, u) → w'.ownsRow 0 26 5 (.slice (some ⟨g, 0, none⟩) len cap) len (drows (l.set j (x', u'))))
    (hd : DOwn w' x' u' T') (hT' : T'.Nodup) (hnew : ∀ b ∈ T', b ∈ T ∨ b ∉ S) (hk : ∀ b ∈ S, b ≠ g → b ∉ T → w'.heap[b]? = w.heap[b]?) :
    ∃ kid' S', DOwn w' (.mk t.op t.at_ t.n t.s t.len kid') v S' ∧ S'.Nodup ∧ (∀ b ∈ S', b ∈ S ∨ b ∈ T') ∧ (D.mk t.op t.at_ t.n t.s t.len kid').count + x.count = t.count + x'.count ∧ (D.mk t.op t.at_ t.n t.s t.len kid').weight + x.weight = t.weight + x'.weight := by
  have cnt : ∀ (t : D) (i : Nat) (d : D), i < t.len → (D.mk t.op t.at_ t.n t.s t.len (setK t.kid i d)).count + (t.kid i).count = t.count + d.count := by
    intro t i d hi
    have h1 := sumTo_setK D.count t.kid i d t.len hi
    rw [D.count_eq t, D.count_eq (D.mk t.op t.at_ t.n t.s t.len (setK t.kid i d))]
    simp only [D.kid, D.len] at h1 ⊢
    omega
  have wgt : ∀ (t : D) (i : Nat) (d : D), i < t.len → (D.mk t.op t.at_ t.n t.s t.len (setK t.kid i d)).weight + (t.kid i).weight = t.weight + d.weight := by
    intro t i d hi
    have h1 := sumTo_setK D.weight t.kid i d t.len hi
    rw [D.weight_eq t, D.weight_eq (D.mk t.op t.at_ t.n t.s t.len (setK t.kid i d))]
    simp only [D.kid, D.len, D.s, kidsWeight] at h1 ⊢
    omega
  induction h with
  | @here t v S g cap l SS j u T hp hr hj h1 h2 =>
    obtain ⟨r1, r2⟩ := hr.set hn hj h2 (hrow _ _ _ hr.own hr.ll h1) hd hT' hnew hk
    refine ⟨setK t.kid j x', _, ⟨hp, r1.sown⟩, r2, fun b hb => ?_, cnt t j x' hj, wgt t j x' hj⟩
    rcases List.mem_cons.1 hb with rfl | hb
    · exact .inl (by rw [hr.eq]; simp)
    · rcases mem_set hb with h | h
      · exact .inl (by rw [hr.eq]; exact List.mem_cons_of_mem _ h)
      · exact .inr h
  | @there t v S g0 cap l SS i ui Ti g j x u T hp hr hi h1 h2 hin ih =>
    have hnS := hn
    rw [hr.eq, List.nodup_cons] at hnS
    obtain ⟨f1, f2, f3, f4⟩ := hin.facts
    have hTi : Ti.Nodup := (List.pairwise_flatten.1 hnS.2).1 Ti (List.mem_of_getElem? h2)
    have hsub : ∀ b ∈ Ti, b ∈ S := fun b hb => by rw [hr.eq]; exact List.mem_cons_of_mem _ (mem_flat h2 hb)
    obtain ⟨kid', S', k1, k2, k3, k4, k5⟩ := ih hTi hrow (fun b hb => (hnew b hb).imp_right (fun h h' => h (hsub b h'))) (fun b hb h h' => hk b (hsub b hb) h h')
    have hg0 : g0 ∈ S := by rw [hr.eq]; simp
    have hg0T : g0 ∉ Ti := fun h => hnS.1 (mem_flat h2 h)
    have hblk : w'.heap[g0]? = w.heap[g0]? := hk g0 hg0 (fun e => hg0T (by rw [e]; exact f2)) (fun h => hg0T (f3 g0 h))
    have hown : w'.ownsRow 0 26 5 (.slice (some ⟨g0, 0, none⟩) t.len cap) t.len (drows (l.set i (.mk (t.kid i).op (t.kid i).at_ (t.kid i).n (t.kid i).s (t.kid i).len kid', ui))) := by
      rw [drows_same l i (t.kid i, ui) (.mk (t.kid i).op (t.kid i).at_ (t.kid i).n (t.kid i).s (t.kid i).len kid', ui) h1 rfl]
      exact own_same hr.own (fun b hb => by
        simp only [Value.ownBlock, Option.some.injEq] at hb
        subst hb; exact hblk)
    obtain ⟨r1, r2⟩ := hr.set hn hi h2 hown k1 k2 (fun b hb => by
      rcases k3 b hb with h | h
      · exact .inl h
      · rcases hnew b h with h' | h'
        · exact .inl (f3 b h')
        · exact .inr h') (fun b hb hbg hbT => hk b hb (fun e => hbT (by rw [e]; exact f2)) (fun h => hbT (f3 b h)))
    have c1 := cnt t i (.mk (t.kid i).op (t.kid i).at_ (t.kid i).n (t.kid i).s (t.kid i).len kid') hi
    have c2 := wgt t i (.mk (t.kid i).op (t.kid i).at_ (t.kid i).n (t.kid i).s (t.kid i).len kid') hi
    refine ⟨setK t.kid i _, _, ⟨hp, r1.sown⟩, r2, fun b hb => ?_, by omega, by omega⟩
    rcases List.mem_cons.1 hb with rfl | hb
    · exact .inl hg0
    · rcases mem_set hb with h | h
      · exact .inl (by rw [hr.eq]; exact List.mem_cons_of_mem _ h)
      · rcases k3 b h with h' | h'
        · exact .inl (hsub b h')
        · exact .inr h'
end Go.Proofs.YtgbfflpdpfgnbaaGreat

/- Drawn data: one field put anew, one kid appended. No conditions. -/
namespace Go.Proofs.YtgbfflpdpfgnbaaGreat
open Go.ChangeShapes Go.WideShapes Go.ChangeAt Go.RowKit

theorem own_rebase {w : World} {base base' e size n : Nat} {v : Value} {xs : List Value} (h : w.ownsRow base e size v n xs) (hb : ∀ g, v.ownBlock = some g → base' ≤ g) : w.ownsRow base' e size v n xs := by
  refine ⟨h.1, ?_⟩
  rcases h.2 with hn | ⟨g, cap, cur, rfl, hbg, rest⟩
  · exact .inl hn
  · exact .inr ⟨g, cap, cur, rfl, hb g rfl, rest⟩

/-- What is owned in blocks from B on lies there. -/
theorem DOwn.inB {w : World} {B : Nat} (t : D) : ∀ {v : Value} {S : List Nat}, DOwn w t v S → (∀ b ∈ S, B ≤ b) → t.InB B w v := by
  induction t with
  | no => intro v S h; exact h.elim
  | mk op a n s len kid ih =>
    intro v S h hS
    unfold DOwn at h
    refine D.InB.mk' h.1.1 h.1.2 ?_
    rcases h.2 with ⟨rfl, rfl, _⟩ | ⟨g, cap, l, SS, rfl, h2, h3, h4, h5, h6, h7⟩
    · exact .inl ⟨rfl, _, _, rfl⟩
    · refine SlB.of_own (own_rebase (base' := B) h2 (fun g' hg' => ?_)) h3 (Nat.le_refl _) h5 (fun q hq => ?_)
      · simp only [Value.ownBlock, Option.some.injEq] at hg'
        subst hg'
        exact hS g (by rw [h6]; simp)
      · obtain ⟨i, hi, rfl⟩ := List.mem_iff_getElem.1 hq
        obtain ⟨u, T, k1, k2, k3⟩ := h7 i (by omega)
        rw [List.getElem?_eq_getElem hi] at k1
        injection k1 with k1
        rw [k1]
        exact ih i k3 (fun b hb => hS b (by rw [h6]; exact List.mem_cons_of_mem _ (mem_flat k2 hb)))

theorem SOwn.slB {w : World} {B len : Nat} {kid : Nat → D} {v : Value} {S : List Nat} (h : SOwn w len kid v S) (hS : ∀ b ∈ S, B ≤ b) : SlB B w len kid v :=
  (DOwn.inB (.mk 0 0 0 ⟨#[]⟩ len kid) (v := v) (S := S) ⟨⟨by unfold maxLen; exact Nat.zero_le _, by omega, by omega⟩, h⟩ hS).sl

/-- One cell of a row of data, put anew. -/
theorem drows_set (l : List (D × Value)) : ∀ (j f : Nat) (q q' : D × Value) (x : Value), l[j]? = some q → f < 5 → dcells q' = (dcells q).set f x → (drows l).set (j * 5 + f) x = drows (l.set j q') := by
  induction l with
  | nil => intro j f q q' x h; simp at h
  | cons a r ih =>
    intro j f q q' x h hf he
    have e : drows (a :: r) = dcells a ++ drows r := by simp [drows]
    have hl : (dcells a).length = 5 := rfl
    cases j with
    | zero =>
      simp only [List.getElem?_cons_zero, Option.some.injEq] at h
      subst h
      rw [e, List.set_append_left _ _ (by omega), List.set_cons_zero, Nat.zero_mul, Nat.zero_add, ← he]
      simp [drows]
    | succ j =>
      simp only [List.getElem?_cons_succ] at h
      rw [e, List.set_append_right _ _ (by omega), hl, List.set_cons_succ, show (j + 1) * 5 + f - 5 = j * 5 + f from by omega, ih j f q q' x h hf he]
      simp [drows]

theorem row_put {w0 wr : World} {g len cap j f : Nat} {l : List (D × Value)} {x : D} {u : Value} (q' : D × Value) (y : Value) (hs : wr.heap[g]? = w0.heap[g]?) (hf : f < 5) (he : dcells q' = (dcells (x, u)).set f y)
    (h : w0.ownsRow 0 26 5 (.slice (some ⟨g, 0, none⟩) len cap) len (drows l)) (hj : l[j]? = some (x, u)) : (wr.setCell ⟨g, j * 5 + f, none⟩ y).ownsRow 0 26 5 (.slice (some ⟨g, 0, none⟩) len cap) len (drows (l.set j q')) := by
  have h1 : wr.ownsRow 0 26 5 (.slice (some ⟨g, 0, none⟩) len cap) len (drows l) := own_same h (fun b hb => by
    simp only [Value.ownBlock, Option.some.injEq] at hb
    subst hb; exact hs)
  have h2 := (h1.stored (j * 5 + f) y).1
  rw [drows_set l j f (x, u) q' y hj hf he] at h2
  exact h2

/-- The list of kids by their index. -/
def kidList (len : Nat) (kid : Nat → D) : List D := (List.range len).map kid
theorem kidList_len (len : Nat) (kid : Nat → D) : (kidList len kid).length = len := by simp [kidList]
theorem kidList_at (len : Nat) (kid : Nat → D) (i : Nat) (h : i < len) : kidsOf (kidList len kid) i = kid i := by simp [kidsOf, kidList, List.getD, h]

/-- Owned kids, as a list that may grow. -/
theorem SOwn.acc {w : World} {B len : Nat} {kid : Nat → D} {v : Value} {S : List Nat} (h : SOwn w len kid v S) (hn : S.Nodup) (hB : ∀ b ∈ S, B ≤ b) : ∃ la SS, Acc B w (kidList len kid) v la SS ∧ (∀ b ∈ SS.flatten, b ∈ S) ∧ (∀ g, v.ownBlock = some g → g ∈ S) := by
  rcases h with ⟨rfl, rfl, rfl⟩ | ⟨g, cap, l, SS, rfl, h2, h3, h4, h5, h6, h7⟩
  · exact ⟨[], [], Acc.nil _ _, fun b hb => by simp at hb, fun g hg => by simp [Value.ownBlock] at hg⟩
  · rw [h6, List.nodup_cons] at hn
    refine ⟨l, SS, ⟨by rw [kidList_len]; exact h2, by rw [kidList_len]; exact h3, by rw [kidList_len]; exact h4, fun i hi => ?_, hn.2, fun b hb => ?_, fun b hb => hB b (by rw [h6]; exact List.mem_cons_of_mem _ hb)⟩, fun b hb => by rw [h6]; exact List.mem_cons_of_mem _ hb, fun b hb => ?_⟩
    · rw [kidList_len] at hi
      rw [kidList_at len kid i hi]
      exact h7 i hi
    · simp only [Value.ownBlock, Option.some.injEq] at hb
      subst hb
      exact ⟨hn.1, hB g (by rw [h6]; simp)⟩
    · simp only [Value.ownBlock, Option.some.injEq] at hb
      subst hb
      rw [h6]; simp

theorem sum_kidList (f : D → Nat) (len : Nat) (kid : Nat → D) (d : D) : sumTo (fun i => f (kidsOf (kidList len kid ++ [d]) i)) (len + 1) = sumTo (fun i => f (kid i)) len + f d := by
  have low : ∀ k, k ≤ len → sumTo (fun i => f (kidsOf (kidList len kid ++ [d]) i)) k = sumTo (fun i => f (kid i)) k := by
    intro k
    induction k with
    | zero => intro _; rfl
    | succ k ih =>
      intro hk
      simp only [sumTo]
      rw [ih (by omega), kidsOf_snoc_lt _ _ _ (by rw [kidList_len]; omega), kidList_at len kid k (by omega)]
  simp only [sumTo]
  rw [low len (Nat.le_refl _)]
  have := kidsOf_snoc_at (kidList len kid) d
  rw [kidList_len] at this
  rw [this]

/-- The root over a list. -/
abbrev rootD (len : Nat) (kid : Nat → D) : D := .mk 0 0 0 ⟨#[]⟩ len kid
theorem root_own {w : World} {len : Nat} {kid : Nat → D} {v : Value} {S : List Nat} (h : SOwn w len kid v S) : DOwn w (rootD len kid) v S := ⟨⟨by unfold maxLen; exact Nat.zero_le _, by omega, by omega⟩, h⟩

theorem node_root {w : World} {len : Nat} {kid : Nat → D} {v : Value} {S : List Nat} (h : SOwn w len kid v S) {j : Nat} (hj : j < len) : ∃ g cap u T, v = .slice (some ⟨g, 0, none⟩) len cap ∧ NodeAt w (rootD len kid) v S g j (kid j) u T := by
  obtain ⟨g, cap, l, SS, hr⟩ := h.row (by omega)
  obtain ⟨u, T, k1, k2, k3⟩ := hr.each j hj
  exact ⟨g, cap, u, T, hr.val, NodeAt.here (t := rootD len kid) (root_own h).plain hr hj k1 k2⟩

/-- The kids' cell of a node. -/
theorem NodeAt.cells {w : World} {t : D} {v : Value} {S : List Nat} {g j : Nat} {x : D} {u : Value} {T : List Nat} (h : NodeAt w t v S g j x u T) : Head w g (j * 5) x u ∧ (∀ k, w.frozen? ⟨g, k, none⟩ = false) := by
  obtain ⟨h1, h2, h3, len, cap, l, ho, hl, hj, hjl⟩ := h.facts
  refine ⟨?_, fun k => ho.frozenAt k⟩
  have cell : ∀ f, f < 5 → w.cell? ⟨g, j * 5 + f, none⟩ = (dcells (x, u))[f]? := by
    intro f hf
    rw [ho.cellAt (j * 5 + f) (by omega)]
    have := drows_at l [] j _ hj f hf
    simpa using this
  exact ⟨cell 0 (by omega), cell 1 (by omega), cell 2 (by omega), cell 3 (by omega), cell 4 (by omega)⟩

/-- One step down, by an index. -/
theorem NodeAt.step {w : World} {t : D} {v : Value} {S : List Nat} {g j : Nat} {x : D} {u : Value} {T : List Nat} (h : NodeAt w t v S g j x u T) {k : Nat} (hk : k < x.len) : ∃ g2 cap2 u2 T2, u = .slice (some ⟨g2, 0, none⟩) x.len cap2 ∧ NodeAt w t v S g2 k (x.kid k) u2 T2 := by
  obtain ⟨h1, _⟩ := h.facts
  obtain ⟨g2, cap2, l2, SS2, hr⟩ := h1.sown.row (by omega)
  obtain ⟨u2, T2, k1, k2, k3⟩ := hr.each k hk
  exact ⟨g2, cap2, u2, T2, hr.val, h.down hr hk k1 k2⟩

theorem NodeAt.weight {w : World} {t : D} {v : Value} {S : List Nat} {g j : Nat} {x : D} {u : Value} {T : List Nat} (h : NodeAt w t v S g j x u T) : x.weight ≤ t.weight := by
  induction h with
  | @here t v S g cap l SS j u T hp hr hj h1 h2 =>
    have := sumTo_at (fun i => (t.kid i).weight) j t.len hj
    rw [D.weight_eq t]
    unfold kidsWeight
    omega
  | @there t v S g0 cap l SS i ui Ti g j x u T hp hr hi h1 h2 hin ih =>
    have := sumTo_at (fun i => (t.kid i).weight) i t.len hi
    rw [D.weight_eq t]
    unfold kidsWeight
    omega
theorem D.len_weight (t : D) : t.len ≤ t.weight := by rw [D.weight_eq]; unfold kidsWeight; omega
end Go.Proofs.YtgbfflpdpfgnbaaGreat

/- (*impl.datReader).listIsOver and readKids. Conditions: the tokens lie in memory ahead of the reader; at most 4000. -/
namespace Go.Proofs.YtgbfflpdpfgnbaaGreat
open Go.ChangeShapes Go.WideShapes Go.ChangeAt Go.RowKit

theorem frs_drew (w : World) (S : List Nat) : FrS w w.drew S := ⟨rfl, rfl, rfl, Nat.le_refl _, fun _ _ _ => rfl⟩

theorem tok_at {w : World} {tv : Value} {ts : List Tok} (h : TokCells w tv ts) (i : Nat) (hi : i < ts.length) : ∃ g cap, tv = .slice (some ⟨g, 0, none⟩) ts.length cap ∧ w.cell? ⟨g, i * 4, none⟩ = some (.int .i64 ts[i].kind) ∧ w.cell? ⟨g, i * 4 + 1, none⟩ = some (.int .i64 ts[i].at_) ∧ w.cell? ⟨g, i * 4 + 2, none⟩ = some (.int .i64 ts[i].n) ∧ w.cell? ⟨g, i * 4 + 3, none⟩ = some (.string ts[i].text) := by
  rcases h with ⟨_, h⟩ | ⟨g, cap, h1, h2, h3⟩
  · subst h; simp at hi
  · obtain ⟨r0, r1, r2, r3⟩ := rows_at ts i hi
    exact ⟨g, cap, h1, h3 _ _ r0, h3 _ _ r1, h3 _ _ r2, h3 _ _ r3⟩

theorem dat_info2 : (Tryz.prog.info? 26).map (fun i => (i.zero, i.size, i.bytes)) = some (some (.agg #[.int .i64 0, .int .i64 0, .int .i64 0, .string ⟨#[]⟩, .slice none 0 0]), 5, 64) := by kernel_rfl

end Go.Proofs.YtgbfflpdpfgnbaaGreat
