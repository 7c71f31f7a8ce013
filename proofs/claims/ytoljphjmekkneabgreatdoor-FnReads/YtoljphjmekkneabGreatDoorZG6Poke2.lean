/- Owned data of which one node is put anew. No conditions. -/
import Derived.Test.YtoljphjmekkneabGreatDoorZG5ReadAcc
namespace Go.Proofs.YtoljphjmekkneabGreatDoor
open Go.ChangeShapes Go.WideShapes Go.ChangeAt Go.RowKit

structure Row (w : World) (len : Nat) (kid : Nat → D) (v : Value) (S : List Nat) (g cap : Nat) (l : List (D × Value)) (SS : List (List Nat)) : Prop where
  val : v = .slice (some ⟨g, 0, none⟩) len cap
  own : w.ownsRow 0 30 5 (.slice (some ⟨g, 0, none⟩) len cap) len (drows l)
  ll : l.length = len
  sl : SS.length = len
  ks : Ks kid l
  eq : S = g :: SS.flatten
  each : ∀ i, i < len → ∃ u T, l[i]? = some (kid i, u) ∧ SS[i]? = some T ∧ DOwn w (kid i) u T

theorem Row.sown {w : World} {len : Nat} {kid : Nat → D} {v : Value} {S : List Nat} {g cap : Nat} {l : List (D × Value)} {SS : List (List Nat)} (h : Row w len kid v S g cap l SS) : SOwn w len kid v S :=
  .inr ⟨g, cap, l, SS, h.val, h.own, h.ll, h.sl, h.ks, h.eq, h.each⟩
theorem SOwn.row {w : World} {len : Nat} {kid : Nat → D} {v : Value} {S : List Nat} (h : SOwn w len kid v S) (h0 : 0 < len) : ∃ g cap l SS, Row w len kid v S g cap l SS := by
  rcases h with ⟨h, _⟩ | ⟨g, cap, l, SS, h1, h2, h3, h4, h5, h6, h7⟩
  · omega
  · exact ⟨g, cap, l, SS, h1, h2, h3, h4, h5, h6, h7⟩

/-- A list of kids with one put anew. -/
def setK (kid : Nat → D) (i : Nat) (d : D) : Nat → D := fun k => if k = i then d else kid k
theorem setK_at (kid : Nat → D) (i : Nat) (d : D) : setK kid i d i = d := if_pos rfl
theorem setK_ne (kid : Nat → D) {i k : Nat} (d : D) (h : k ≠ i) : setK kid i d k = kid k := if_neg h

theorem sumTo_setK (f : D → Nat) (kid : Nat → D) (i : Nat) (d : D) : ∀ len, i < len → sumTo (fun k => f (setK kid i d k)) len + f (kid i) = sumTo (fun k => f (kid k)) len + f d := by
  have low : ∀ len, len ≤ i → sumTo (fun k => f (setK kid i d k)) len = sumTo (fun k => f (kid k)) len := by
    intro len
    induction len with
    | zero => intro _; rfl
    | succ n ih =>
      intro h
      simp only [sumTo]
      rw [ih (by omega), setK_ne kid d (by omega)]
  intro len
  induction len with
  | zero => intro h; omega
  | succ n ih =>
    intro h
    simp only [sumTo]
    by_cases hn : n = i
    · subst hn
      rw [low n (Nat.le_refl _), setK_at]
      omega
    · rw [setK_ne kid d hn]
      have := ih (by omega)
      omega

theorem mem_set {SS : List (List Nat)} {i : Nat} {T' : List Nat} {b : Nat} (h : b ∈ (SS.set i T').flatten) : b ∈ SS.flatten ∨ b ∈ T' := by
  obtain ⟨U, hU, hb⟩ := List.mem_flatten.1 h
  rcases List.mem_or_eq_of_mem_set hU with h1 | h1
  · exact .inl (List.mem_flatten.2 ⟨U, h1, hb⟩)
  · exact .inr (h1 ▸ hb)

theorem nodup_set : ∀ (SS : List (List Nat)) (i : Nat) (T T' : List Nat), SS.flatten.Nodup → SS[i]? = some T → T'.Nodup → (∀ b ∈ T', b ∈ T ∨ b ∉ SS.flatten) → (SS.set i T').flatten.Nodup := by
  intro SS
  induction SS with
  | nil => intro i T T' _ h _ _; simp at h
  | cons U SS ih =>
    intro i T T' hn hi hT hb
    rw [List.flatten_cons, List.nodup_append] at hn
    obtain ⟨n1, n2, n3⟩ := hn
    cases i with
    | zero =>
      simp only [List.getElem?_cons_zero, Option.some.injEq] at hi
      subst hi
      rw [List.set_cons_zero, List.flatten_cons, List.nodup_append]
      refine ⟨hT, n2, fun a ha b hb' e => ?_⟩
      subst e
      rcases hb a ha with h | h
      · exact n3 a h a hb' rfl
      · exact h (by rw [List.flatten_cons, List.mem_append]; exact .inr hb')
    | succ i =>
      simp only [List.getElem?_cons_succ] at hi
      rw [List.set_cons_succ, List.flatten_cons, List.nodup_append]
      refine ⟨n1, ih i T T' n2 hi hT (fun b h => ?_), fun a ha b hb' e => ?_⟩
      · rcases hb b h with h1 | h1
        · exact .inl h1
        · exact .inr (fun h2 => h1 (by rw [List.flatten_cons, List.mem_append]; exact .inr h2))
      · subst e
        rcases mem_set hb' with h | h
        · exact n3 a ha a h rfl
        · rcases hb a h with h1 | h1
          · exact n3 a ha a (List.mem_flatten.2 ⟨T, List.mem_of_getElem? hi, h1⟩) rfl
          · exact h1 (by rw [List.flatten_cons, List.mem_append]; exact .inl ha)

/-- Blocks of two kids are apart. -/
theorem flat_apart : ∀ (SS : List (List Nat)) (i k : Nat) (T U : List Nat), SS.flatten.Nodup → i ≠ k → SS[i]? = some T → SS[k]? = some U → ∀ b ∈ T, b ∉ U := by
  intro SS
  induction SS with
  | nil => intro i k T U _ _ h _; simp at h
  | cons W SS ih =>
    intro i k T U hn hik hi hk b hT hU
    rw [List.flatten_cons, List.nodup_append] at hn
    obtain ⟨n1, n2, n3⟩ := hn
    cases i with
    | zero =>
      cases k with
      | zero => exact hik rfl
      | succ k =>
        simp only [List.getElem?_cons_zero, Option.some.injEq] at hi
        simp only [List.getElem?_cons_succ] at hk
        subst hi
        exact n3 b hT b (mem_flat hk hU) rfl
    | succ i =>
      cases k with
      | zero =>
        simp only [List.getElem?_cons_zero, Option.some.injEq] at hk
        simp only [List.getElem?_cons_succ] at hi
        subst hk
        exact n3 b hU b (mem_flat hi hT) rfl
      | succ k =>
        simp only [List.getElem?_cons_succ] at hi hk
        exact ih i k T U n2 (by omega) hi hk b hT hU

/-- One kid put anew. -/
theorem Row.set {w w' : World} {len : Nat} {kid : Nat → D} {v : Value} {S : List Nat} {g cap : Nat} {l : List (D × Value)} {SS : List (List Nat)} (h : Row w len kid v S g cap l SS) (hn : S.Nodup) {i : Nat} (hi : i < len) {T T' : List Nat} (hT : SS[i]? = some T) {d' : D} {u' : Value}
    (hown : w'.ownsRow 0 30 5 (.slice (some ⟨g, 0, none⟩) len cap) len (drows (l.set i (d', u')))) (hd : DOwn w' d' u' T') (hT' : T'.Nodup) (hnew : ∀ b ∈ T', b ∈ T ∨ b ∉ S) (hk : ∀ b ∈ S, b ≠ g → b ∉ T → w'.heap[b]? = w.heap[b]?) :
    Row w' len (setK kid i d') v (g :: (SS.set i T').flatten) g cap (l.set i (d', u')) (SS.set i T') ∧ (g :: (SS.set i T').flatten).Nodup := by
  have hn' := hn
  rw [h.eq, List.nodup_cons] at hn'
  refine ⟨⟨h.val, hown, by rw [List.length_set]; exact h.ll, by rw [List.length_set]; exact h.sl, ?_, rfl, ?_⟩, ?_⟩
  · intro k q hq
    by_cases hki : k = i
    · subst hki
      rw [List.getElem?_set_self (by rw [h.ll]; exact hi)] at hq
      injection hq with hq
      rw [← hq, setK_at]
    · rw [List.getElem?_set_ne (by omega)] at hq
      rw [setK_ne kid d' hki]
      exact h.ks k q hq
  · intro k hkl
    by_cases hki : k = i
    · subst hki
      rw [setK_at]
      exact ⟨u', T', List.getElem?_set_self (by rw [h.ll]; exact hi), List.getElem?_set_self (by rw [h.sl]; exact hi), hd⟩
    · obtain ⟨u, U, k1, k2, k3⟩ := h.each k hkl
      rw [setK_ne kid d' hki]
      refine ⟨u, U, by rw [List.getElem?_set_ne (by omega)]; exact k1, by rw [List.getElem?_set_ne (by omega)]; exact k2, k3.same _ (fun b hb => ?_)⟩
      have hbS : b ∈ SS.flatten := mem_flat k2 hb
      refine hk b (by rw [h.eq]; exact List.mem_cons_of_mem _ hbS) (fun e => hn'.1 (e ▸ hbS)) (fun hbT => ?_)
      exact flat_apart SS i k T U hn'.2 (by omega) hT k2 b hbT hb
  · rw [List.nodup_cons]
    refine ⟨fun hg => ?_, nodup_set SS i T T' hn'.2 hT hT' (fun b hb => ?_)⟩
    · rcases mem_set hg with h1 | h1
      · exact hn'.1 h1
      · rcases hnew g h1 with h2 | h2
        · exact hn'.1 (mem_flat hT h2)
        · exact h2 (by rw [h.eq]; simp)
    · rcases hnew b hb with h1 | h1
      · exact .inl h1
      · exact .inr (fun h2 => h1 (by rw [h.eq]; exact List.mem_cons_of_mem _ h2))
end Go.Proofs.YtoljphjmekkneabGreatDoor

/- Owned data of which one node is put anew, wherever it stands. No conditions. -/
namespace Go.Proofs.YtoljphjmekkneabGreatDoor
open Go.ChangeShapes Go.WideShapes Go.ChangeAt Go.RowKit

/-- In t's rows the node x stands at place j of block g; its kids are at u, their blocks T. -/
inductive NodeAt (w : World) : D → Value → List Nat → Nat → Nat → D → Value → List Nat → Prop where
  | here {t : D} {v : Value} {S : List Nat} {g cap : Nat} {l : List (D × Value)} {SS : List (List Nat)} {j : Nat} {u : Value} {T : List Nat} : (t.s.size ≤ maxLen ∧ -9223372036854775808 ≤ t.n ∧ t.n ≤ 9223372036854775807) → Row w t.len t.kid v S g cap l SS → j < t.len → l[j]? = some (t.kid j, u) → SS[j]? = some T → NodeAt w t v S g j (t.kid j) u T
  | there {t : D} {v : Value} {S : List Nat} {g cap : Nat} {l : List (D × Value)} {SS : List (List Nat)} {i : Nat} {u : Value} {T : List Nat} {g' j : Nat} {x : D} {u' : Value} {T' : List Nat} : (t.s.size ≤ maxLen ∧ -9223372036854775808 ≤ t.n ∧ t.n ≤ 9223372036854775807) → Row w t.len t.kid v S g cap l SS → i < t.len → l[i]? = some (t.kid i, u) → SS[i]? = some T → NodeAt w (t.kid i) u T g' j x u' T' → NodeAt w t v S g' j x u' T'

theorem Row.at {w : World} {len : Nat} {kid : Nat → D} {v : Value} {S : List Nat} {g cap : Nat} {l : List (D × Value)} {SS : List (List Nat)} (h : Row w len kid v S g cap l SS) {i : Nat} (hi : i < len) {u : Value} {T : List Nat} (h1 : l[i]? = some (kid i, u)) (h2 : SS[i]? = some T) : DOwn w (kid i) u T := by
  obtain ⟨u', T', k1, k2, k3⟩ := h.each i hi
  rw [h1] at k1
  rw [h2] at k2
  injection k1 with k1
  injection k1 with _ k1
  injection k2 with k2
  rw [k1, k2]; exact k3

theorem NodeAt.facts {w : World} {t : D} {v : Value} {S : List Nat} {g j : Nat} {x : D} {u : Value} {T : List Nat} (h : NodeAt w t v S g j x u T) : DOwn w x u T ∧ g ∈ S ∧ (∀ b ∈ T, b ∈ S) ∧ ∃ len cap l, w.ownsRow 0 30 5 (.slice (some ⟨g, 0, none⟩) len cap) len (drows l) ∧ l.length = len ∧ l[j]? = some (x, u) ∧ j < len := by
  induction h with
  | here hp hr hj h1 h2 => exact ⟨hr.at hj h1 h2, by rw [hr.eq]; simp, fun b hb => by rw [hr.eq]; exact List.mem_cons_of_mem _ (mem_flat h2 hb), _, _, _, hr.own, hr.ll, h1, hj⟩
  | there hp hr hi h1 h2 _ ih =>
    obtain ⟨a1, a2, a3, a4⟩ := ih
    exact ⟨a1, by rw [hr.eq]; exact List.mem_cons_of_mem _ (mem_flat h2 a2), fun b hb => by rw [hr.eq]; exact List.mem_cons_of_mem _ (mem_flat h2 (a3 b hb)), a4⟩

/-- One step down. -/
theorem NodeAt.down {w : World} {t : D} {v : Value} {S : List Nat} {g j : Nat} {x : D} {u : Value} {T : List Nat} (h : NodeAt w t v S g j x u T) {g2 cap2 : Nat} {l2 : List (D × Value)} {SS2 : List (List Nat)} (hr2 : Row w x.len x.kid u T g2 cap2 l2 SS2) {k : Nat} (hk : k < x.len) {u2 : Value} {T2 : List Nat} (h3 : l2[k]? = some (x.kid k, u2)) (h4 : SS2[k]? = some T2) : NodeAt w t v S g2 k (x.kid k) u2 T2 := by
  induction h with
  | here hp hr hj h1 h2 => exact .there hp hr hj h1 h2 (.here (hr.at hj h1 h2).plain hr2 hk h3 h4)
  | there hp hr hi h1 h2 _ ih => exact .there hp hr hi h1 h2 (ih hr2 hk h3)

theorem drows_same : ∀ (l : List (D × Value)) (i : Nat) (q q' : D × Value), l[i]? = some q → dcells q' = dcells q → drows (l.set i q') = drows l := by
  intro l
  induction l with
  | nil => intro i q q' h _; simp at h
  | cons a l ih =>
    intro i q q' h he
    cases i with
    | zero =>
      simp only [List.getElem?_cons_zero, Option.some.injEq] at h
      subst h
      simp [drows, he]
    | succ i =>
      simp only [List.getElem?_cons_succ] at h
      have := ih i q q' h he
      simp only [drows, List.set_cons_succ, List.flatMap_cons] at this ⊢
      rw [this]

theorem NodeAt.swap {w w' : World} {t : D} {v : Value} {S : List Nat} {g j : Nat} {x : D} {u : Value} {T : List Nat} (h : NodeAt w t v S g j x u T) (hn : S.Nodup) {x' : D} {u' : Value} {T' : List Nat}
    (hrow : ∀ len cap l, w.ownsRow 0 30 5 (.slice (some ⟨g, 0, none⟩) len cap) len (drows l) → l.length = len → l[j]? = some (x, u) → w'.ownsRow 0 30 5 (.slice (some ⟨g, 0, none⟩) len cap) len (drows (l.set j (x', u'))))
    (hd : DOwn w' x' u' T') (hT' : T'.Nodup) (hnew : ∀ b ∈ T', b ∈ T ∨ b ∉ S) (hk : ∀ b ∈ S, b ≠ g → b ∉ T → w'.heap[b]? = w.heap[b]?) :
    ∃ kid' S', DOwn w' (.mk t.op t.at_ t.n t.s t.len kid') v S' ∧ S'.Nodup ∧ (∀ b ∈ S', b ∈ S ∨ b ∈ T') ∧ (D.mk t.op t.at_ t.n t.s t.len kid').count + x.count = t.count + x'.count ∧ (D.mk t.op t.at_ t.n t.s t.len kid').weight + x.weight = t.weight + x'.weight := by
  have cnt : ∀ (t : D) (i : Nat) (d : D), i < t.len → (D.mk t.op t.at_ t.n t.s t.len (setK t.kid i d)).count + (t.kid i).count = t.count + d.count := by
    intro t i d hi
    have h1 := sumTo_setK D.count t.kid i d t.len hi
    rw [D.count_eq t, D.count_eq (D.mk t.op t.at_ t.n t.s t.len (setK t.kid i d))]
    simp only [D.kid, D.len] at h1 ⊢
    omega
  have wgt : ∀ (t : D) (i : Nat) (d : D), i < t.len → (D.mk t.op t.at_ t.n t.s t.len (setK t.kid i d)).weight + (t.kid i).weight = t.weight + d.weight := by
    intro t i d hi
    have h1 := sumTo_setK D.weight t.kid i d t.len hi
    rw [D.weight_eq t, D.weight_eq (D.mk t.op t.at_ t.n t.s t.len (setK t.kid i d))]
    simp only [D.kid, D.len, D.s, kidsWeight] at h1 ⊢
    omega
  induction h with
  | @here t v S g cap l SS j u T hp hr hj h1 h2 =>
    obtain ⟨r1, r2⟩ := hr.set hn hj h2 (hrow _ _ _ hr.own hr.ll h1) hd hT' hnew hk
    refine ⟨setK t.kid j x', _, ⟨hp, r1.sown⟩, r2, fun b hb => ?_, cnt t j x' hj, wgt t j x' hj⟩
    rcases List.mem_cons.1 hb with rfl | hb
    · exact .inl (by rw [hr.eq]; simp)
    · rcases mem_set hb with h | h
      · exact .inl (by rw [hr.eq]; exact List.mem_cons_of_mem _ h)
      · exact .inr h
  | @there t v S g0 cap l SS i ui Ti g j x u T hp hr hi h1 h2 hin ih =>
    have hnS := hn
    rw [hr.eq, List.nodup_cons] at hnS
    obtain ⟨f1, f2, f3, f4⟩ := hin.facts
    have hTi : Ti.Nodup := (List.pairwise_flatten.1 hnS.2).1 Ti (List.mem_of_getElem? h2)
    have hsub : ∀ b ∈ Ti, b ∈ S := fun b hb => by rw [hr.eq]; exact List.mem_cons_of_mem _ (mem_flat h2 hb)
    obtain ⟨kid', S', k1, k2, k3, k4, k5⟩ := ih hTi hrow (fun b hb => (hnew b hb).imp_right (fun h h' => h (hsub b h'))) (fun b hb h h' => hk b (hsub b hb) h h')
    have hg0 : g0 ∈ S := by rw [hr.eq]; simp
    have hg0T : g0 ∉ Ti := fun h => hnS.1 (mem_flat h2 h)
    have hblk : w'.heap[g0]? = w.heap[g0]? := hk g0 hg0 (fun e => hg0T (by rw [e]; exact f2)) (fun h => hg0T (f3 g0 h))
    have hown : w'.ownsRow 0 30 5 (.slice (some ⟨g0, 0, none⟩) t.len cap) t.len (drows (l.set i (.mk (t.kid i).op (t.kid i).at_ (t.kid i).n (t.kid i).s (t.kid i).len kid', ui))) := by
      rw [drows_same l i (t.kid i, ui) (.mk (t.kid i).op (t.kid i).at_ (t.kid i).n (t.kid i).s (t.kid i).len kid', ui) h1 rfl]
      exact own_same hr.own (fun b hb => by
        simp only [Value.ownBlock, Option.some.injEq] at hb
        subst hb; exact hblk)
    obtain ⟨r1, r2⟩ := hr.set hn hi h2 hown k1 k2 (fun b hb => by
      rcases k3 b hb with h | h
      · exact .inl h
      · rcases hnew b h with h' | h'
        · exact .inl (f3 b h')
        · exact .inr h') (fun b hb hbg hbT => hk b hb (fun e => hbT (by rw [e]; exact f2)) (fun h => hbT (f3 b h)))
    have c1 := cnt t i (.mk (t.kid i).op (t.kid i).at_ (t.kid i).n (t.kid i).s (t.kid i).len kid') hi
    have c2 := wgt t i (.mk (t.kid i).op (t.kid i).at_ (t.kid i).n (t.kid i).s (t.kid i).len kid') hi
    refine ⟨setK t.kid i _, _, ⟨hp, r1.sown⟩, r2, fun b hb => ?_, by omega, by omega⟩
    rcases List.mem_cons.1 hb with rfl | hb
    · exact .inl hg0
    · rcases mem_set hb with h | h
      · exact .inl (by rw [hr.eq]; exact List.mem_cons_of_mem _ h)
      · rcases k3 b h with h' | h'
        · exact .inl (hsub b h')
        · exact .inr h'
end Go.Proofs.YtoljphjmekkneabGreatDoor
