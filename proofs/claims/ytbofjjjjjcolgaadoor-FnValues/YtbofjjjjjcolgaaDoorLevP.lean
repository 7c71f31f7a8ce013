/- Levels of values: what one level's lists say of the next one's. No conditions. -/
import Derived.Test.YtbofjjjjjcolgaaDoorValP
import Derived.Test.YtbofjjjjjcolgaaDoorValOkP
namespace Go.Proofs.YtbofjjjjjcolgaaDoor
open Go.ChangeShapes Go.WideShapes Go.ChangeAt Go.RowKit

theorem VlP.at {B : Nat} {w : World} {len : Nat} {kid : Nat → Vt} {v : Value} (h : VlP B w len kid v) : ∃ p cap, v = .slice p len cap ∧ len ≤ maxLen ∧
    ∀ i, i < len → ∃ b o u, p = some ⟨b, o, none⟩ ∧ PlainB w b ∧ HeadV w b (o + i * 3) (kid i) u ∧ (kid i).InP B w u := by
  rcases h with ⟨rfl, p, cap, rfl⟩ | ⟨b, o, cap, V, rfl, hB, hP, h1, h2, h3⟩
  · exact ⟨p, cap, rfl, Nat.zero_le _, fun i hi => by omega⟩
  · exact ⟨_, cap, rfl, Nat.le_trans h1 h2, fun i hi => ⟨b, o, V i, rfl, hP, h3 i hi⟩⟩

/-- One place holds one value. -/
theorem same_ok {w : World} : ∀ (d : Nat) (t t' : Vt) (b p : Nat) (v v' : Value), HeadV w b p t v → t.In w v → HeadV w b p t' v' → t'.In w v' → okV d t = okV d t'
  | 0, _, _, _, _, _, _, _, _, _, _ => rfl
  | d + 1, t, t', b, p, v, v', h1, h2, h3, h4 => by
    have e0 : t.op = t'.op := by have := h1.c0.symm.trans h3.c0; injection this with this; injection this
    have e1 : t.n = t'.n := by have := h1.c1.symm.trans h3.c1; injection this with this; injection this
    have e2 : v = v' := by have := h1.c2.symm.trans h3.c2; injection this
    subst e2
    obtain ⟨p1, c1, q1, _, a1⟩ := h2.sl.at
    obtain ⟨p2, c2, q2, _, a2⟩ := h4.sl.at
    rw [q1] at q2
    injection q2 with z1 z2 z3
    have el : t.len = t'.len := z2
    have ef : fieldsV t = fieldsV t' := by unfold fieldsV; rw [e0, e1, el]
    unfold okV
    rw [ef, Bool.eq_iff_iff]
    simp only [Bool.and_eq_true, allTo_true]
    have key : ∀ i, i < t.len → okV d (t.kid i) = okV d (t'.kid i) := by
      intro i hi
      obtain ⟨b1, o1, u1, r1, r2, r3⟩ := a1 i hi
      obtain ⟨b2, o2, u2, s1, s2, s3⟩ := a2 i (by omega)
      rw [← z1, r1] at s1
      have s1' := Option.some.inj s1
      simp only [Addr.mk.injEq, and_true] at s1'
      obtain ⟨rfl, rfl⟩ := s1'
      exact same_ok d _ _ b1 (o1 + i * 3) u1 u2 r2 r3 s2 s3
    constructor
    · rintro ⟨h, h'⟩
      exact ⟨h, fun i hi => by rw [← key i (by omega)]; exact h' i (by omega)⟩
    · rintro ⟨h, h'⟩
      exact ⟨h, fun i hi => by rw [key i hi]; exact h' i (by omega)⟩

/-- Where a list begins. -/
def Lst.at_ (e : Lst) : Addr := match e.v with | .slice (some a) _ _ => a | _ => ⟨0, 0, none⟩
def valsV (L : List Lst) : List Value := L.map (·.v)
theorem valsV_append (a b : List Lst) : valsV (a ++ b) = valsV a ++ valsV b := by simp [valsV]
theorem valsV_length (a : List Lst) : (valsV a).length = a.length := by simp [valsV]
theorem valsV_one (L : List Lst) : ∀ u ∈ valsV L, (∀ e ∈ L, ∃ p n c, e.v = .slice p n c) → u.oneCell' = true := by
  intro u hu h
  obtain ⟨e, he, rfl⟩ := List.mem_map.1 hu
  obtain ⟨p, n, c, e1⟩ := h e he
  rw [e1]; rfl

/-- The kids of a value, as a list. -/
def kidOk (d : Nat) (x : Vt) : Bool := allTo (fun i => okV d (x.kid i)) x.len
/-- What was got from the lists so far: the first k of them, and j of the next. -/
structure KL (w : World) (L : List Lst) (k j : Nat) (Lo : List Lst) : Prop where
  ins : ∀ e ∈ Lo, VlP 0 w e.len e.kid e.v ∧ e.len = 2
  from_ : ∀ e ∈ Lo, ∃ e0 ∈ L, ∃ i, i < e0.len ∧ ∀ d, okLst d e = kidOk d (e0.kid i)
  cover : ∀ m e i, L[m]? = some e → i < e.len → (m < k ∨ (m = k ∧ i < j)) → 0 < (e.kid i).len → ∃ e' ∈ Lo, ∀ d, okLst d e' = kidOk d (e.kid i)
  wt : ∃ e0 : Lst, (∀ e, L[k]? = some e → e0 = e) ∧ wL Lo ≤ wL (L.take k) + sumTo (fun i => (e0.kid i).count) j

theorem KL.start (w : World) (L : List Lst) : KL w L 0 0 [] where
  ins := fun e he => by simp at he
  from_ := fun e he => by simp at he
  cover := fun m e i _ _ h => by omega
  wt := ⟨(L[0]?).getD ⟨0, fun _ => .no, .bool false⟩, fun e he => by rw [he]; rfl, by simp [wL, sumTo]⟩
theorem KL.turn {w : World} {L : List Lst} {k : Nat} {Lo : List Lst} {e : Lst} (he : L[k]? = some e) (h : KL w L k e.len Lo) : KL w L (k + 1) 0 Lo where
  ins := h.ins
  from_ := h.from_
  cover := fun m e1 i h1 h2 h3 h4 => by
    refine h.cover m e1 i h1 h2 ?_ h4
    rcases h3 with h3 | ⟨_, h3⟩
    · rcases Nat.lt_or_ge m k with h5 | h5
      · exact .inl h5
      · have : m = k := by omega
        subst this
        rw [he] at h1
        have := Option.some.inj h1
        subst this
        exact .inr ⟨rfl, h2⟩
    · omega
  wt := by
    obtain ⟨e0, q1, q2⟩ := h.wt
    have := q1 e he
    subst this
    refine ⟨(L[k + 1]?).getD ⟨0, fun _ => .no, .bool false⟩, fun e he => by rw [he]; rfl, ?_⟩
    have ht : L.take (k + 1) = L.take k ++ [e0] := by rw [List.take_add_one, he]; rfl
    rw [ht, wL_append]
    simp only [sumTo, wL, List.map_cons, List.map_nil, List.sum_cons, List.sum_nil] at q2 ⊢
    omega
theorem KL.skip {w : World} {L : List Lst} {k j : Nat} {Lo : List Lst} {e : Lst} (he : L[k]? = some e) (h : KL w L k j Lo) (hc : 0 < (e.kid j).len → ∃ e' ∈ Lo, ∀ d, okLst d e' = kidOk d (e.kid j)) : KL w L k (j + 1) Lo where
  ins := h.ins
  from_ := h.from_
  cover := fun m e1 i h1 h2 h3 h4 => by
    by_cases hq : m = k ∧ i = j
    · obtain ⟨rfl, rfl⟩ := hq
      rw [he] at h1
      have := Option.some.inj h1
      subst this
      exact hc h4
    · exact h.cover m e1 i h1 h2 (by omega) h4
  wt := by
    obtain ⟨e0, q1, q2⟩ := h.wt
    exact ⟨e0, q1, by simp only [sumTo]; omega⟩
theorem KL.add {w : World} {L : List Lst} {k j : Nat} {Lo : List Lst} {e : Lst} {u : Value} (he : L[k]? = some e) (hj : j < e.len) (h : KL w L k j Lo) (hl : (e.kid j).len = 2) (hv : VlP 0 w 2 (e.kid j).kid u) : KL w L k (j + 1) (Lo ++ [⟨2, (e.kid j).kid, u⟩]) := by
  have hn : ∀ d, okLst d ⟨2, (e.kid j).kid, u⟩ = kidOk d (e.kid j) := fun d => by unfold okLst kidOk; rw [hl]
  have hmem : (⟨2, (e.kid j).kid, u⟩ : Lst) ∈ Lo ++ [⟨2, (e.kid j).kid, u⟩] := by simp
  refine ⟨?_, ?_, ?_, ?_⟩
  · intro x hx
    rcases List.mem_append.1 hx with hx | hx
    · exact h.ins x hx
    · simp only [List.mem_singleton] at hx
      subst hx
      exact ⟨hv, rfl⟩
  · intro x hx
    rcases List.mem_append.1 hx with hx | hx
    · exact h.from_ x hx
    · simp only [List.mem_singleton] at hx
      subst hx
      exact ⟨e, List.mem_of_getElem? he, j, hj, hn⟩
  · intro m e1 i h1 h2 h3 h4
    by_cases hq : m = k ∧ i = j
    · obtain ⟨rfl, rfl⟩ := hq
      rw [he] at h1
      have := Option.some.inj h1
      subst this
      exact ⟨_, hmem, hn⟩
    · obtain ⟨e', h5, h6⟩ := h.cover m e1 i h1 h2 (by omega) h4
      exact ⟨e', List.mem_append_left _ h5, h6⟩
  · obtain ⟨e0, q1, q2⟩ := h.wt
    have := q1 e he
    subst this
    refine ⟨e0, q1, ?_⟩
    rw [wL_append]
    have hc := (e0.kid j).count_eq
    rw [hl] at hc
    simp only [sumTo, wL, List.map_cons, List.map_nil, List.sum_cons, List.sum_nil] at q2 hc ⊢
    omega
/-- A list that begins where another one begins. -/
theorem KL.known {w : World} {L : List Lst} {k j : Nat} {Lo : List Lst} (h : KL w L k j Lo) {x : Vt} {u : Value} (hl : x.len = 2) (hv : VlP 0 w 2 x.kid u) {a : Addr} {n c : Nat} (hu : u = .slice (some a) n c) (ha : a ∈ Lo.map Lst.at_) : ∃ e' ∈ Lo, ∀ d, okLst d e' = kidOk d x := by
  obtain ⟨e', he', e1⟩ := List.mem_map.1 ha
  refine ⟨e', he', fun d => ?_⟩
  obtain ⟨h1, h2⟩ := h.ins e' he'
  obtain ⟨el, ek, ev⟩ := e'
  simp only at h1 h2
  subst h2
  obtain ⟨p1, c1, q1, _, a1⟩ := h1.at
  obtain ⟨p2, c2, q2, _, a2⟩ := hv.at
  unfold okLst kidOk
  rw [hl, Bool.eq_iff_iff]
  simp only [allTo_true]
  have key : ∀ i, i < 2 → okV d (ek i) = okV d (x.kid i) := by
    intro i hi
    obtain ⟨b1, o1, u1, r1, _, r2, r3⟩ := a1 i hi
    obtain ⟨b2, o2, u2, s1, _, s2, s3⟩ := a2 i hi
    have hx : (⟨b1, o1, none⟩ : Addr) = a := by
      rw [← e1]; unfold Lst.at_; rw [q1, r1]
    have hy : (⟨b2, o2, none⟩ : Addr) = a := by
      rw [q2] at hu
      injection hu with z1 _ _
      rw [s1] at z1
      exact Option.some.inj z1
    have := hx.trans hy.symm
    simp only [Addr.mk.injEq, and_true] at this
    obtain ⟨rfl, rfl⟩ := this
    exact same_ok d _ _ b1 (o1 + i * 3) u1 u2 r2 r3.inB s2 s3.inB
  exact ⟨fun h i hi => by rw [← key i hi]; exact h i hi, fun h i hi => by rw [key i hi]; exact h i hi⟩
theorem KL.done {w : World} {L : List Lst} {Lo : List Lst} (h : KL w L L.length 0 Lo) (hf : ∀ e ∈ L, ∀ i, i < e.len → fieldsV (e.kid i) = true) (d : Nat) : okL (d + 1) L = okL d Lo := by
  rw [Bool.eq_iff_iff, okL_true]
  constructor
  · intro h1
    unfold okL
    rw [List.all_eq_true]
    intro e he
    obtain ⟨e0, he0, i, hi, h2⟩ := h.from_ e he
    rw [h2 d]
    have := h1 e0 he0 i hi
    unfold okV at this
    rw [Bool.and_eq_true] at this
    exact this.2
  · intro h1 e he i hi
    unfold okV
    rw [Bool.and_eq_true]
    refine ⟨hf e he i hi, ?_⟩
    show kidOk d (e.kid i) = true
    by_cases hz : 0 < (e.kid i).len
    · obtain ⟨m, hm⟩ := List.getElem?_of_mem he
      have hlt : m < L.length := (List.getElem?_eq_some_iff.1 hm).1
      obtain ⟨e', he', h2⟩ := h.cover m e i hm hi (.inl hlt) hz
      rw [← h2 d]
      unfold okL at h1
      rw [List.all_eq_true] at h1
      exact h1 e' he'
    · unfold kidOk
      have : (e.kid i).len = 0 := by omega
      rw [this]; rfl
theorem KL.weight {w : World} {L : List Lst} {k j : Nat} {Lo : List Lst} {e : Lst} (he : L[k]? = some e) (h : KL w L k j Lo) (hj : j ≤ e.len) : wL Lo ≤ wL L := by
  obtain ⟨e0, q1, q2⟩ := h.wt
  have := q1 e he
  subst this
  have h1 := sumTo_le (fun i => (e0.kid i).count) j e0.len hj
  have h2 : L = L.take k ++ e0 :: L.drop (k + 1) := by
    have hk : k < L.length := (List.getElem?_eq_some_iff.1 he).1
    have h3 : L[k] = e0 := by rw [List.getElem?_eq_getElem hk] at he; exact Option.some.inj he
    rw [← h3, List.getElem_cons_drop, List.take_append_drop]
  have h3 : wL L = wL (L.take k) + (sumTo (fun i => (e0.kid i).count) e0.len + wL (L.drop (k + 1))) := by
    conv => lhs; rw [h2]
    rw [wL_append]
    simp [wL]
  omega
theorem KL.weightAll {w : World} {L : List Lst} {Lo : List Lst} (h : KL w L L.length 0 Lo) : wL Lo ≤ wL L := by
  obtain ⟨e0, _, q2⟩ := h.wt
  rw [List.take_length] at q2
  simp only [sumTo] at q2
  omega
theorem KL.pos {w : World} {L : List Lst} {k j : Nat} {Lo : List Lst} (h : KL w L k j Lo) : ∀ e ∈ Lo, 0 < e.len := fun e he => by rw [(h.ins e he).2]; omega
end Go.Proofs.YtbofjjjjjcolgaaDoor
