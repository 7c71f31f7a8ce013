/- A map of slices of the call's own: a look-up that tells whether the key is there, a delete; and such a map as a list of names. No conditions. -/
import Derived.Maps.OwnRows
import Derived.Maps.OwnSet
import Derived.Maps.Range
import Derived.Maps.Views
namespace Go.Proofs.YtefjnhkaampmcaaDoor
open Go.ChangeMaps Go.MapKept Go.ChangeShapes Go.RowKit
open Go.WideElems (Fit rd rg pl rd_val elemAt)
open Go.Maps (Keyed IsMap)

section
variable {P : Program} {w : World} {k : TypeId} {base : Nat} {e : TypeId} {q : IntKind} {b n : Nat} {D : DataW Unit}

theorem groups_look {t E : TypeId} {key : Value} {kl : Lit} (h : w.ownsGroups P k base e q b n D) (K : Keyed P k) (ht : P.underlying t = some (.map k E)) (hz : (zeroValue E).run P w = .ok (.slice none 0 0) w) (hkey : keyOf P k key = some kl) :
    ((Instr.lookup t (.map (some b)) key true).run P w = .ok (.tuple #[.slice none 0 0, .bool false]) w ∧ Maps.has D kl = false) ∨
    ∃ v zs, (Instr.lookup t (.map (some b)) key true).run P w = .ok (.tuple #[v, .bool true]) w ∧ Maps.has D kl = true ∧ D.atKey kl .nil = rowDatum q v zs ∧ w.ownsInts base e q v zs := by
  obtain ⟨es, clock, hb, F, hs, rfl, hbb, hlen, hap⟩ := h
  rcases Maps.fit_look true K ht hz hb F hkey with ⟨hrun, _, hat⟩ | ⟨e0, y, hm0, h3, hrun, hR, hat, _⟩
  · exact .inl ⟨by simpa using hrun, Maps.has_false_of_atKey hat⟩
  · obtain ⟨zs, ho, rfl⟩ := rowElem_inv hR
    exact .inr ⟨e0.val, zs, by simpa using hrun, Maps.has_true_of_atKey hat, hat _, ho⟩

theorem groups_drop {t E ty : TypeId} {key : Value} {kl : Lit} (h : w.ownsGroups P k base e q b n D) (K : Keyed P k) (ht : P.underlying t = some (.map k E)) (hkey : keyOf P k key = some kl) :
    ∃ w2, (Builtin.delete_ #[t, k] ty #[.map (some b), key]).run P w = .ok (.tuple #[]) w2 ∧ w2.ownsGroups P k base e q b n (D.del kl) ∧ w.grownBy w2 (some b) := by
  obtain ⟨es, clock, hb, F, hs, rfl, hbb, hlen, hap⟩ := h
  obtain ⟨es', hrun, F', hsz, hdel, hsub, hwho⟩ := Go.fit_drop_who (ty := ty) K ht hb F hkey
  have hg2 : w.grownBy (setBlock w b (.map es' clock)) (some b) := ⟨rfl, rfl, rfl, by simp [setBlock], fun i _ hi => heap_setBlock_other hb _ (fun e1 => hi (by rw [e1]))⟩
  have own_ne : ∀ {u : Value} {ys : List Int}, w.ownsInts base e q u ys → u.ownBlock = none ∨ u.ownBlock ≠ some b := fun {u ys} ho => by
    cases hu : u.ownBlock with
    | none => exact Or.inl rfl
    | some g =>
      refine Or.inr (fun e1 => ?_)
      have := (ho.1.lt g hu).1
      cases e1
      omega
  have hs2 : ∀ x ∈ es'.toList, ∀ z, rowElem (H := Unit) w base e q x.val = some z → rowElem (setBlock w b (.map es' clock)) base e q x.val = some z := by
    intro x _ z hz
    obtain ⟨ys, ho, rfl⟩ := rowElem_inv hz
    exact rowElem_mk (ho.kept hg2 (own_ne ho))
  obtain ⟨F2, hmap2, _⟩ := F'.stay hs2
  refine ⟨_, hrun, ⟨es', clock, heap_setBlock_same hb _, F2, by omega, ?_, hbb, ?_, fun x hx y hy => hap x (hsub.subset hx) y (hsub.subset hy)⟩, hg2⟩
  · rw [hmap2, hdel]; rfl
  · intro x hx ys ho
    have back : w.ownsInts base e q x.val ys := by
      obtain ⟨y, hy⟩ := F'.reads x hx
      obtain ⟨z, hz, _⟩ := rd_val hy
      obtain ⟨ys', ho', _⟩ := rowElem_inv hz
      rw [ho.unique (ho'.kept hg2 (own_ne ho'))]
      exact ho'
    exact hlen x (hsub.subset hx) ys back

theorem groups_below {w' : World} (h : w.ownsGroups P k base e q b n D) (hb : Below w.heap.size w w') : w'.ownsGroups P k base e q b n D := by
  obtain ⟨es, clock, hbb, F, hs, rfl, hlt, hlen, hap⟩ := h
  have hg : w.grownBy w' none := ⟨hb.os, hb.tape, hb.output, hb.size, fun i hi _ => hb.block i hi⟩
  have ne : ∀ (u : Value), u.ownBlock = none ∨ u.ownBlock ≠ none := fun u => by cases u.ownBlock <;> simp
  have hs2 : ∀ x ∈ es.toList, ∀ z, rowElem (H := Unit) w base e q x.val = some z → rowElem w' base e q x.val = some z := by
    intro x _ z hz
    obtain ⟨ys, ho, rfl⟩ := rowElem_inv hz
    exact rowElem_mk (ho.kept hg (ne _))
  obtain ⟨F2, hmap2, _⟩ := F.stay hs2
  refine ⟨es, clock, (hb.block b (Array.getElem?_eq_some_iff.1 hbb).1).trans hbb, F2, hs, by rw [hmap2], hlt, ?_, hap⟩
  intro x hx ys ho
  obtain ⟨y, hy⟩ := F.reads x hx
  obtain ⟨z, hz, _⟩ := rd_val hy
  obtain ⟨ys', ho', _⟩ := rowElem_inv hz
  rw [ho.unique (ho'.kept hg (ne _))]
  exact hlen x hx ys' ho'

theorem groups_grow {w' : World} {row : Nat} (h : w.ownsGroups P k base e q b n D) (hg : w.grownBy w' (some row)) (hr : row < base) (hrb : row ≠ b) : w'.ownsGroups P k base e q b n D := by
  obtain ⟨es, clock, hbb, F, hs, rfl, hlt, hlen, hap⟩ := h
  have ne : ∀ {u : Value} {ys : List Int}, w.ownsInts base e q u ys → u.ownBlock = none ∨ u.ownBlock ≠ some row := fun {u ys} ho => by
    cases hu : u.ownBlock with
    | none => exact Or.inl rfl
    | some g =>
      refine Or.inr (fun e1 => ?_)
      have := (ho.1.lt g hu).1
      cases e1
      omega
  have hs2 : ∀ x ∈ es.toList, ∀ z, rowElem (H := Unit) w base e q x.val = some z → rowElem w' base e q x.val = some z := by
    intro x _ z hz
    obtain ⟨ys, ho, rfl⟩ := rowElem_inv hz
    exact rowElem_mk (ho.kept hg (ne ho))
  obtain ⟨F2, hmap2, _⟩ := F.stay hs2
  refine ⟨es, clock, (hg.block b (Array.getElem?_eq_some_iff.1 hbb).1 (by intro e1; injection e1 with e1; exact hrb e1.symm)).trans hbb, F2, hs, by rw [hmap2], hlt, ?_, hap⟩
  intro x hx ys ho
  obtain ⟨y, hy⟩ := F.reads x hx
  obtain ⟨z, hz, _⟩ := rd_val hy
  obtain ⟨ys', ho', _⟩ := rowElem_inv hz
  rw [ho.unique (ho'.kept hg (ne ho'))]
  exact hlen x hx ys' ho'
end

theorem wpList_delete_groups {P : Program} (w : World) {ops : Array Oper} {rest : List Oper} {o : Oper} {a : Act} {Q : Exit → Act → World → Prop} (hg : o.guard = none) (m x : Operand) (t k : TypeId) (hop : o.op = Op.call { callee := Callee.builtin Builtin.delete, args := #[m, x], argTypes := #[t, k] })
    (E e : TypeId) (q : IntKind) (K : Keyed P k) (ht : P.underlying t = some (.map k E)) (base b n : Nat) (D : DataW Unit)
    (hm : a.eval m = .map (some b)) (hown : w.ownsGroups P k base e q b n D) (key : Value) (kl : Lit) (hx : a.eval x = key) (hkey : keyOf P k key = some kl)
    (hK : ∀ w', w'.ownsGroups P k base e q b n (D.del kl) → w.grownBy w' (some b) → wpList P ops Q rest (a.put o.dst (.tuple #[])) w') :
    wpList P ops Q (o :: rest) a w := by
  refine wpList_plain hg fun K' hK' => ?_
  obtain ⟨w', hrun, r1, r2⟩ := groups_drop (ty := o.type) hown K ht hkey
  unfold Oper.wp
  simp [execOp, hop, resolve, invoke, builtin, hm, hx, hrun, Result.andThen]
  exact hK' _ _ (hK w' r1 r2)

/-- The map tells the names that are bound, each as often as it is. -/
def EnvD (D : DataW Unit) (env : List (List UInt8)) : Prop := IsMap D ∧ ∀ s : List UInt8, (env.count s = 0 → Maps.has D (.string s) = false) ∧
  (env.count s ≠ 0 → Maps.has D (.string s) = true ∧ ∃ zs : List Int, D.atKey (.string s) .nil = .slice (lits .i64 zs) [] ∧ zs.length = env.count s ∧ ∀ z ∈ zs, 0 ≤ z)
theorem EnvD.nil : EnvD (.map []) [] := ⟨⟨[], rfl⟩, fun s => ⟨fun _ => rfl, fun h => by simp at h⟩⟩

theorem lits_inj {a b : List Int} (h : (lits .i64 a : List (DataW Unit)) = lits .i64 b) : a = b := by
  unfold lits at h
  exact (List.map_inj_right (fun x y hxy => by injection hxy with h1; injection h1)).1 h

/-- What a name's numbers are. -/
theorem EnvD.row {D : DataW Unit} {env : List (List UInt8)} {s : List UInt8} {v : Value} {zs : List Int} {w : World} {base : Nat} {e : TypeId} (h : EnvD D env) (hat : D.atKey (.string s) .nil = rowDatum .i64 v zs) (ho : w.ownsInts base e .i64 v zs) : zs.length = env.count s ∧ ∀ z ∈ zs, 0 ≤ z := by
  obtain ⟨h1, h2⟩ := h.2 s
  by_cases hc : env.count s = 0
  · rw [Maps.atKey_of_not_has (h1 hc)] at hat
    rcases ho.datum (H := Unit) with ⟨_, h0⟩ | h3
    · rw [hc, h0]; simp
    · rw [h3] at hat; cases hat
  · obtain ⟨_, zs', h3, h4, h5⟩ := h2 hc
    rw [h3] at hat
    rcases ho.datum (H := Unit) with ⟨h6, _⟩ | h6
    · rw [h6] at hat; cases hat
    · rw [h6] at hat
      injection hat with h7
      have := lits_inj h7
      subst this
      exact ⟨h4, h5⟩

theorem keyLit (s : List UInt8) : WideAt.IsKeyLit (.string s) := by unfold WideAt.IsKeyLit; trivial
theorem EnvD.bind {D : DataW Unit} {env : List (List UInt8)} {s : List UInt8} {zs : List Int} {z : Int} {d : DataW Unit} (h : EnvD D env) (hd : d = .slice (lits .i64 (zs ++ [z])) []) (hl : zs.length = env.count s) (hz : ∀ x ∈ zs, 0 ≤ x) (hz0 : 0 ≤ z) : EnvD (D.put (.string s) d) (env ++ [s]) := by
  refine ⟨h.1.put _ _, fun s' => ?_⟩
  rw [List.count_append]
  by_cases e : s' = s
  · subst e
    rw [List.count_singleton_self]
    refine ⟨fun h0 => by omega, fun _ => ⟨Maps.has_put_same h.1 (keyLit _) _, zs ++ [z], ?_, by simp [hl], fun x hx => ?_⟩⟩
    · rw [Maps.atKey_put_same h.1 (keyLit _), hd]
    · rcases List.mem_append.1 hx with hx | hx
      · exact hz x hx
      · simp at hx; subst hx; exact hz0
  · have hne : (Lit.string s') ≠ .string s := by intro h; injection h with h; exact e h
    have hc : List.count s' [s] = 0 := by rw [List.count_eq_zero]; simpa using e
    rw [hc, Nat.add_zero, Maps.has_put_other hne, Maps.atKey_put_other hne]
    exact h.2 s'
theorem count_snoc_self (env : List (List UInt8)) (s : List UInt8) : (env ++ [s]).count s = env.count s + 1 := by rw [List.count_append, List.count_singleton_self]
theorem count_snoc_other (env : List (List UInt8)) {s s' : List UInt8} (h : s' ≠ s) : (env ++ [s]).count s' = env.count s' := by
  rw [List.count_append, show List.count s' [s] = 0 from by rw [List.count_eq_zero]; simpa using h, Nat.add_zero]
/-- The last one of a name is no more; some may be left. -/
theorem EnvD.unbind {D : DataW Unit} {env env' : List (List UInt8)} {s : List UInt8} {zs : List Int} {d : DataW Unit} (h : EnvD D env) (hc : ∀ s', env.count s' = env'.count s' + (if s' = s then 1 else 0)) (hd : d = .slice (lits .i64 zs) []) (hl : zs.length = env'.count s) (hz : ∀ x ∈ zs, 0 ≤ x) (h0 : env'.count s ≠ 0) : EnvD (D.put (.string s) d) env' := by
  refine ⟨h.1.put _ _, fun s' => ?_⟩
  by_cases e : s' = s
  · subst e
    exact ⟨fun h1 => absurd h1 h0, fun _ => ⟨Maps.has_put_same h.1 (keyLit _) _, zs, by rw [Maps.atKey_put_same h.1 (keyLit _), hd], hl, hz⟩⟩
  · have hne : (Lit.string s') ≠ .string s := by intro h; injection h with h; exact e h
    have hcc := hc s'
    rw [if_neg e, Nat.add_zero] at hcc
    rw [Maps.has_put_other hne, Maps.atKey_put_other hne, ← hcc]
    exact h.2 s'
theorem EnvD.drop {D : DataW Unit} {env env' : List (List UInt8)} {s : List UInt8} (h : EnvD D env) (hc : ∀ s', env.count s' = env'.count s' + (if s' = s then 1 else 0)) (h0 : env'.count s = 0) : EnvD (D.del (.string s)) env' := by
  refine ⟨h.1.del _, fun s' => ?_⟩
  by_cases e : s' = s
  · subst e
    exact ⟨fun _ => Maps.has_del_same, fun h1 => absurd h0 h1⟩
  · have hne : (Lit.string s') ≠ .string s := by intro h; injection h with h; exact e h
    have hcc := hc s'
    rw [if_neg e, Nat.add_zero] at hcc
    rw [Maps.has_del_other hne, Maps.atKey_del_other hne, ← hcc]
    exact h.2 s'
end Go.Proofs.YtefjnhkaampmcaaDoor
