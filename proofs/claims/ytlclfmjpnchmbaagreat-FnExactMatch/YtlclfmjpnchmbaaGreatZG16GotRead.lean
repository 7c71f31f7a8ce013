/- What is got whose rows are a call's own, each in a block of its own. No conditions. -/
import Derived.Test.YtlclfmjpnchmbaaGreatZG15GotP
import Derived.Test.YtlclfmjpnchmbaaGreatZG1StxOwn
import Derived.Test.YtlclfmjpnchmbaaGreatZG13ImplKids
import Derived.Test.YtlclfmjpnchmbaaGreatZG4OneByte
namespace Go.Proofs.YtlclfmjpnchmbaaGreat
open Go.ChangeShapes Go.WideShapes Go.ChangeAt Go.RowKit

/-- A row of a slice of them: its set's slice, its kids', its others'. -/
structure GR where
  g : G
  sv : Value
  kv : Value
  gv : Value
def gcells (q : GR) : List Value := [.string q.g.name, .int .i64 q.g.deep, .int .i64 q.g.one.op, .int .i64 q.g.one.at_, .int .i64 q.g.one.n, .string q.g.one.s, q.sv, q.kv, q.gv]
def grows (l : List GR) : List Value := l.flatMap gcells
/-- As a value. -/
abbrev aggG (g : G) (sv kv gv : Value) : Value := .agg #[.string g.name, .int .i64 g.deep, .int .i64 g.one.op, .int .i64 g.one.at_, .int .i64 g.one.n, .string g.one.s, sv, kv, gv]
theorem grows_append (a b : List GR) : grows (a ++ b) = grows a ++ grows b := by simp [grows]
theorem grows_snoc (l : List GR) (q : GR) : grows (l ++ [q]) = grows l ++ gcells q := by rw [grows_append]; simp [grows]
theorem grows_length (l : List GR) : (grows l).length = l.length * 9 := by
  induction l with
  | nil => rfl
  | cons t r ih => simp only [grows, List.flatMap_cons, List.length_append, List.length_cons] at ih ⊢; rw [ih]; simp [gcells]; omega
theorem grows_at (l : List GR) (junk : List Value) : ∀ (i : Nat) (q : GR), l[i]? = some q → ∀ j, j < 9 → (grows l ++ junk)[i * 9 + j]? = (gcells q)[j]? := by
  induction l with
  | nil => intro i q h; simp at h
  | cons x r ih =>
    intro i q h j hj
    have e : grows (x :: r) ++ junk = gcells x ++ (grows r ++ junk) := by simp [grows]
    have hl : (gcells x).length = 9 := rfl
    rw [e]
    cases i with
    | zero =>
      simp at h; subst h
      rw [List.getElem?_append_left (by omega)]; congr 1; omega
    | succ i =>
      simp at h
      rw [List.getElem?_append_right (by omega), hl]
      have := ih i q h j hj
      rw [← this]; congr 1; omega
theorem gcells_one (q : GR) (h1 : q.sv.oneCell' = true) (h2 : q.kv.oneCell' = true) (h3 : q.gv.oneCell' = true) : ∀ x ∈ gcells q, x.oneCell' = true := by
  intro x hx
  simp only [gcells, List.mem_cons, List.not_mem_nil, or_false] at hx
  rcases hx with rfl | rfl | rfl | rfl | rfl | rfl | rfl | rfl | rfl
  · rfl
  · rfl
  · rfl
  · rfl
  · rfl
  · rfl
  · exact h1
  · exact h2
  · exact h3
theorem got_info : (Tryz.prog.info? 48).map (fun i => (i.zero, i.size, i.bytes)) = some (some (.agg #[.string ⟨#[]⟩, .int .i64 0, .int .i64 0, .int .i64 0, .int .i64 0, .string ⟨#[]⟩, .slice none 0 0, .slice none 0 0, .slice none 0 0]), 9, 136) := by kernel_rfl

/-- Its own parts are owned; their blocks are S. -/
def GOwn (w : World) : G → Value → Value → Value → List Nat → Prop
  | .no, _, _, _, _ => False
  | .mk name _ one len sm, sv, kv, v, S => name.size ≤ maxLen ∧ ∃ S1 S2, S = S1 ++ S2 ∧ XOwn w one sv kv S1 ∧
    ((len = 0 ∧ v = .slice none 0 0 ∧ S2 = []) ∨
     ∃ (g cap : Nat) (l : List GR) (SS : List (List Nat)), v = .slice (some ⟨g, 0, none⟩) len cap ∧ w.ownsRow 0 48 9 (.slice (some ⟨g, 0, none⟩) len cap) len (grows l) ∧ l.length = len ∧ SS.length = len ∧ S2 = g :: SS.flatten ∧
       ∀ i, i < len → ∃ a b c T, l[i]? = some ⟨sm i, a, b, c⟩ ∧ SS[i]? = some T ∧ GOwn w (sm i) a b c T)
/-- A row of them, owned. -/
def GsOwn (w : World) (len : Nat) (sm : Nat → G) (v : Value) (S : List Nat) : Prop :=
    (len = 0 ∧ v = .slice none 0 0 ∧ S = []) ∨
     ∃ (g cap : Nat) (l : List GR) (SS : List (List Nat)), v = .slice (some ⟨g, 0, none⟩) len cap ∧ w.ownsRow 0 48 9 (.slice (some ⟨g, 0, none⟩) len cap) len (grows l) ∧ l.length = len ∧ SS.length = len ∧ S = g :: SS.flatten ∧
       ∀ i, i < len → ∃ a b c T, l[i]? = some ⟨sm i, a, b, c⟩ ∧ SS[i]? = some T ∧ GOwn w (sm i) a b c T
theorem GOwn.parts {w : World} {g : G} {sv kv v : Value} {S : List Nat} (h : GOwn w g sv kv v S) : g.name.size ≤ maxLen ∧ ∃ S1 S2, S = S1 ++ S2 ∧ XOwn w g.one sv kv S1 ∧ GsOwn w g.len g.sm v S2 := by
  cases g with
  | no => exact h.elim
  | mk name deep one len sm => unfold GOwn at h; exact h
theorem GOwn.mk' {w : World} {name : ByteArray} {deep : Int} {one : X} {len : Nat} {sm : Nat → G} {sv kv v : Value} {S1 S2 : List Nat} (hn : name.size ≤ maxLen) (h1 : XOwn w one sv kv S1) (h2 : GsOwn w len sm v S2) : GOwn w (.mk name deep one len sm) sv kv v (S1 ++ S2) := by
  unfold GOwn; exact ⟨hn, S1, S2, rfl, h1, h2⟩
theorem GOwn.ne {w : World} {g : G} {sv kv v : Value} {S : List Nat} (h : GOwn w g sv kv v S) : g ≠ .no := by
  rintro rfl; exact h.elim

theorem GOwn.same {w w' : World} (g : G) : ∀ {sv kv v : Value} {S : List Nat}, GOwn w g sv kv v S → (∀ x ∈ S, w'.heap[x]? = w.heap[x]?) → GOwn w' g sv kv v S := by
  induction g with
  | no => intro sv kv v S h; exact h.elim
  | mk name deep one len sm ih =>
    intro sv kv v S h hs
    unfold GOwn at h ⊢
    obtain ⟨hn, S1, S2, rfl, hx, hr⟩ := h
    refine ⟨hn, S1, S2, rfl, hx.same _ (fun x hx' => hs x (List.mem_append_left _ hx')), ?_⟩
    rcases hr with h0 | ⟨b, cap, l, SS, h1, h2, h3, h4, h6, h7⟩
    · exact .inl h0
    · refine .inr ⟨b, cap, l, SS, h1, own_sameX h2 (fun g' hg' => ?_), h3, h4, h6, fun i hi => ?_⟩
      · simp only [Value.ownBlock, Option.some.injEq] at hg'
        subst hg'
        exact hs b (by rw [h6]; simp)
      · obtain ⟨a, b', c, T, k1, k2, k3⟩ := h7 i hi
        exact ⟨a, b', c, T, k1, k2, ih i k3 (fun x hx' => hs x (by rw [h6]; exact List.mem_append_right _ (List.mem_cons_of_mem _ (mem_flatX k2 hx'))))⟩
theorem GsOwn.same {w w' : World} {len : Nat} {sm : Nat → G} {v : Value} {S : List Nat} (h : GsOwn w len sm v S) (hs : ∀ x ∈ S, w'.heap[x]? = w.heap[x]?) : GsOwn w' len sm v S := by
  rcases h with h0 | ⟨b, cap, l, SS, h1, h2, h3, h4, h6, h7⟩
  · exact .inl h0
  · refine .inr ⟨b, cap, l, SS, h1, own_sameX h2 (fun g' hg' => ?_), h3, h4, h6, fun i hi => ?_⟩
    · simp only [Value.ownBlock, Option.some.injEq] at hg'
      subst hg'
      exact hs b (by rw [h6]; simp)
    · obtain ⟨a, b', c, T, k1, k2, k3⟩ := h7 i hi
      exact ⟨a, b', c, T, k1, k2, k3.same _ (fun x hx' => hs x (by rw [h6]; exact List.mem_cons_of_mem _ (mem_flatX k2 hx')))⟩
/-- The blocks are there. -/
theorem GsOwn.there {w : World} {len : Nat} {sm : Nat → G} {v : Value} {S : List Nat} (h : GsOwn w len sm v S) (hd : ∀ i, i < len → ∀ a b c T, GOwn w (sm i) a b c T → ∀ x ∈ T, x < w.heap.size) : ∀ x ∈ S, x < w.heap.size := by
  rcases h with ⟨_, _, rfl⟩ | ⟨b, cap, l, SS, rfl, h2, h3, h4, rfl, h7⟩
  · intro g hg; simp at hg
  · intro g' hg'
    rcases List.mem_cons.1 hg' with rfl | hg'
    · exact (h2.lt _ rfl).2
    · obtain ⟨T, hT, hgT⟩ := List.mem_flatten.1 hg'
      obtain ⟨i, hi, rfl⟩ := List.mem_iff_getElem.1 hT
      obtain ⟨a, b', c, T', k1, k2, k3⟩ := h7 i (by omega)
      rw [List.getElem?_eq_getElem hi] at k2
      injection k2 with k2
      exact hd i (by omega) a b' c T' k3 g' (by rw [← k2]; exact hgT)
theorem GOwn.there {w : World} (g : G) : ∀ {sv kv v : Value} {S : List Nat}, GOwn w g sv kv v S → ∀ x ∈ S, x < w.heap.size := by
  induction g with
  | no => intro sv kv v S h; exact h.elim
  | mk name deep one len sm ih =>
    intro sv kv v S h x hx
    obtain ⟨_, S1, S2, rfl, h1, h2⟩ := h.parts
    rcases List.mem_append.1 hx with hx | hx
    · exact h1.there _ x hx
    · exact (show GsOwn w len sm v S2 from h2).there (fun i _ a b c T k => ih i k) x hx
theorem GsOwn.lt {w : World} {len : Nat} {sm : Nat → G} {v : Value} {S : List Nat} (h : GsOwn w len sm v S) : ∀ x ∈ S, x < w.heap.size := h.there (fun _ _ _ _ _ _ k => k.there)
theorem GsOwn.congr {w : World} {len : Nat} {sm sm' : Nat → G} {v : Value} {S : List Nat} (h : GsOwn w len sm v S) (he : ∀ i, i < len → sm i = sm' i) : GsOwn w len sm' v S := by
  rcases h with h0 | ⟨g, cap, l, SS, h1, h2, h3, h4, h6, h7⟩
  · exact .inl h0
  · refine .inr ⟨g, cap, l, SS, h1, h2, h3, h4, h6, fun i hi => ?_⟩
    obtain ⟨a, b, c, T, k1, k2, k3⟩ := h7 i hi
    exact ⟨a, b, c, T, by rw [k1, he i hi], k2, by rw [← he i hi]; exact k3⟩
theorem GsOwn.shape {w : World} {len : Nat} {sm : Nat → G} {v : Value} {S : List Nat} (h : GsOwn w len sm v S) : ∃ p cap, v = .slice p len cap := by
  rcases h with ⟨rfl, rfl, _⟩ | ⟨g, cap, l, SS, rfl, _⟩
  · exact ⟨_, _, rfl⟩
  · exact ⟨_, _, rfl⟩
theorem GOwn.shape {w : World} {g : G} {sv kv v : Value} {S : List Nat} (h : GOwn w g sv kv v S) : (∃ p c, sv = .slice p g.one.set.length c) ∧ (∃ p c, kv = .slice p g.one.len c) ∧ ∃ p c, v = .slice p g.len c := by
  obtain ⟨_, S1, S2, rfl, h1, h2⟩ := h.parts
  exact ⟨h1.at0.sets.shape, h1.at0.xs.shape, h2.shape⟩
/-- Nothing at all. -/
theorem zero_own (w : World) : XOwn w zeroX (.slice none 0 0) (.slice none 0 0) [] := XOwn.mk' (S2 := []) ⟨(Nat.zero_le _ : (0 : Nat) ≤ maxLen), by omega, by simp⟩ (World.ownsRow_nil _ _ _ _) (.inl ⟨rfl, rfl, rfl⟩)
theorem none_own (w : World) (sm : Nat → G) : GsOwn w 0 sm (.slice none 0 0) [] := .inl ⟨rfl, rfl, rfl⟩

/-- A list of them in a row that may still grow. -/
structure GRow (w : World) (B : Nat) (v : Value) (L : List G) (l : List GR) (SS : List (List Nat)) : Prop where
  row : w.ownsRow B 48 9 v L.length (grows l)
  len : l.length = L.length
  blocks : SS.length = L.length
  each : ∀ i, i < L.length → ∃ a b c T, l[i]? = some ⟨L.getD i .no, a, b, c⟩ ∧ SS[i]? = some T ∧ GOwn w (L.getD i .no) a b c T
  own : (v.ownBlock.toList ++ SS.flatten).Nodup
theorem GRow.nil (w : World) (B : Nat) : GRow w B (.slice none 0 0) [] [] [] := ⟨World.ownsRow_nil _ _ _ _, rfl, rfl, fun i hi => absurd hi (Nat.not_lt_zero _), by simp [Value.ownBlock]⟩
theorem GRow.gs {w : World} {B : Nat} {v : Value} {L : List G} {l : List GR} {SS : List (List Nat)} (h : GRow w B v L l SS) : ∃ S, GsOwn w L.length (fun i => L.getD i .no) v S ∧ S.Nodup ∧ ∀ x ∈ S, x ∈ v.ownBlock.toList ++ SS.flatten := by
  rcases h.row.2 with ⟨rfl, hn⟩ | ⟨g, cap, cur, rfl, hbg, hgg, rest⟩
  · exact ⟨[], .inl ⟨hn, rfl, rfl⟩, by simp, by simp⟩
  · refine ⟨g :: SS.flatten, .inr ⟨g, cap, l, SS, rfl, own_base h.row (fun _ _ => Nat.zero_le _), h.len, h.blocks, rfl, h.each⟩, by simpa [Value.ownBlock] using h.own, fun x hx => by simpa [Value.ownBlock] using hx⟩
theorem GRow.lt {w : World} {B : Nat} {v : Value} {L : List G} {l : List GR} {SS : List (List Nat)} (h : GRow w B v L l SS) : ∀ x ∈ v.ownBlock.toList ++ SS.flatten, x < w.heap.size := by
  intro x hx
  rcases List.mem_append.1 hx with hx | hx
  · exact (h.row.lt x (by simpa using hx)).2
  · obtain ⟨T, hT, hxT⟩ := List.mem_flatten.1 hx
    obtain ⟨i, hi, rfl⟩ := List.mem_iff_getElem.1 hT
    obtain ⟨a, b, c, T', k1, k2, k3⟩ := h.each i (by have := h.blocks; omega)
    rw [List.getElem?_eq_getElem hi] at k2
    injection k2 with k2
    exact k3.there _ x (by rw [← k2]; exact hxT)
theorem GRow.same {w w' : World} {B : Nat} {v : Value} {L : List G} {l : List GR} {SS : List (List Nat)} (h : GRow w B v L l SS) (hs : ∀ x ∈ v.ownBlock.toList ++ SS.flatten, w'.heap[x]? = w.heap[x]?) : GRow w' B v L l SS :=
  ⟨own_sameX h.row (fun g hg => hs g (List.mem_append_left _ (mem_own hg))), h.len, h.blocks, fun i hi => by
    obtain ⟨a, b, c, T, k1, k2, k3⟩ := h.each i hi
    exact ⟨a, b, c, T, k1, k2, k3.same _ (fun x hx => hs x (List.mem_append_right _ (mem_flatX k2 hx)))⟩, h.own⟩
/-- One more, its parts being apart from all that is there. -/
theorem GRow.push {w w' : World} {B : Nat} {v v' : Value} {L : List G} {l : List GR} {SS : List (List Nat)} (h : GRow w B v L l SS) {g : G} {a b c : Value} {T : List Nat}
    (hrow : w'.ownsRow B 48 9 v' (L.length + 1) (grows l ++ gcells ⟨g, a, b, c⟩)) (hg : GOwn w' g a b c T) (hs : ∀ x ∈ SS.flatten, w'.heap[x]? = w.heap[x]?)
    (hnd : (v'.ownBlock.toList ++ (SS ++ [T]).flatten).Nodup) : GRow w' B v' (L ++ [g]) (l ++ [⟨g, a, b, c⟩]) (SS ++ [T]) := by
  refine ⟨by rw [List.length_append, grows_snoc]; exact hrow, by simp [h.len], by simp [h.blocks], fun i hi => ?_, hnd⟩
  rw [List.length_append] at hi
  rcases Nat.lt_or_ge i L.length with h1 | h1
  · obtain ⟨a', b', c', T', k1, k2, k3⟩ := h.each i h1
    have e : (L ++ [g]).getD i .no = L.getD i .no := by simp [List.getD_eq_getElem?_getD, List.getElem?_append_left h1]
    rw [e]
    exact ⟨a', b', c', T', by rw [List.getElem?_append_left (by rw [h.len]; omega)]; exact k1, by rw [List.getElem?_append_left (by rw [h.blocks]; omega)]; exact k2, k3.same _ (fun x hx => hs x (mem_flatX k2 hx))⟩
  · have hie : i = L.length := by simp at hi; omega
    subst hie
    have e : (L ++ [g]).getD L.length .no = g := by simp [List.getD_eq_getElem?_getD]
    rw [e]
    exact ⟨a, b, c, T, by rw [List.getElem?_append_right (by rw [h.len]; omega), h.len]; simp, by rw [List.getElem?_append_right (by rw [h.blocks]; omega), h.blocks]; simp, hg⟩
/-- Nine stores behind the rows. -/
abbrev put9 (w : World) (g p : Nat) (q : GR) : World :=
  ((((((((w.setCell ⟨g, p, none⟩ (.string q.g.name)).setCell ⟨g, p + 1, none⟩ (.int .i64 q.g.deep)).setCell ⟨g, p + 2, none⟩ (.int .i64 q.g.one.op)).setCell ⟨g, p + 3, none⟩ (.int .i64 q.g.one.at_)).setCell ⟨g, p + 4, none⟩ (.int .i64 q.g.one.n)).setCell ⟨g, p + 5, none⟩ (.string q.g.one.s)).setCell ⟨g, p + 6, none⟩ q.sv).setCell ⟨g, p + 7, none⟩ q.kv).setCell ⟨g, p + 8, none⟩ q.gv
theorem set9 (l : List GR) (junk : List Value) (hj : 9 ≤ junk.length) (q : GR) :
    (((((((((grows l ++ junk).set (l.length * 9) (.string q.g.name)).set (l.length * 9 + 1) (.int .i64 q.g.deep)).set (l.length * 9 + 2) (.int .i64 q.g.one.op)).set (l.length * 9 + 3) (.int .i64 q.g.one.at_)).set (l.length * 9 + 4) (.int .i64 q.g.one.n)).set (l.length * 9 + 5) (.string q.g.one.s)).set (l.length * 9 + 6) q.sv).set (l.length * 9 + 7) q.kv).set (l.length * 9 + 8) q.gv = grows l ++ (gcells q ++ junk.drop 9) := by
  have hl := grows_length l
  have s : ∀ (c : List Value) (j : Nat) (x : Value), (grows l ++ c).set (l.length * 9 + j) x = grows l ++ c.set j x := by
    intro c j x
    rw [List.set_append_right _ _ (by omega), hl]
    congr 2; omega
  have s0 := s junk 0 (.string q.g.name)
  rw [Nat.add_zero] at s0
  rw [s0, s, s, s, s, s, s, s, s]
  match junk, hj with
  | a :: b :: c :: d :: e :: f :: g :: h :: i :: r, _ => simp [gcells]
theorem own_put9 {w : World} {base e g cap n : Nat} {l : List GR} {junk : List Value} (h : w.ownsRow base e 9 (.slice (some ⟨g, 0, none⟩) n cap) n (grows l ++ junk)) (hj : 9 ≤ junk.length) (q : GR) :
    (put9 w g (l.length * 9) q).ownsRow base e 9 (.slice (some ⟨g, 0, none⟩) n cap) n (grows l ++ (gcells q ++ junk.drop 9)) ∧ w.grownBy (put9 w g (l.length * 9) q) (some g) := by
  obtain ⟨q1, g1⟩ := h.stored (l.length * 9) (.string q.g.name)
  obtain ⟨q2, g2⟩ := q1.stored (l.length * 9 + 1) (.int .i64 q.g.deep)
  obtain ⟨q3, g3⟩ := q2.stored (l.length * 9 + 2) (.int .i64 q.g.one.op)
  obtain ⟨q4, g4⟩ := q3.stored (l.length * 9 + 3) (.int .i64 q.g.one.at_)
  obtain ⟨q5, g5⟩ := q4.stored (l.length * 9 + 4) (.int .i64 q.g.one.n)
  obtain ⟨q6, g6⟩ := q5.stored (l.length * 9 + 5) (.string q.g.one.s)
  obtain ⟨q7, g7⟩ := q6.stored (l.length * 9 + 6) q.sv
  obtain ⟨q8, g8⟩ := q7.stored (l.length * 9 + 7) q.kv
  obtain ⟨q9, g9⟩ := q8.stored (l.length * 9 + 8) q.gv
  rw [set9 l junk hj q] at q9
  exact ⟨q9, grownX (grownX (grownX (grownX (grownX (grownX (grownX (grownX g1 g2) g3) g4) g5) g6) g7) g8) g9⟩
theorem put9_other (w : World) (g p : Nat) (q : GR) (x : Nat) (hx : x ≠ g) : (put9 w g p q).heap[x]? = w.heap[x]? := by
  unfold put9
  rw [Below.heap_setCell _ _ _ _ (by exact hx), Below.heap_setCell _ _ _ _ (by exact hx), Below.heap_setCell _ _ _ _ (by exact hx), Below.heap_setCell _ _ _ _ (by exact hx), Below.heap_setCell _ _ _ _ (by exact hx), Below.heap_setCell _ _ _ _ (by exact hx), Below.heap_setCell _ _ _ _ (by exact hx), Below.heap_setCell _ _ _ _ (by exact hx), Below.heap_setCell _ _ _ _ (by exact hx)]
end Go.Proofs.YtlclfmjpnchmbaaGreat

/- What a pattern's trees are like. No conditions. -/
namespace Go.Proofs.YtlclfmjpnchmbaaGreat
open Go.ChangeShapes Go.WideShapes Go.ChangeAt Go.RowKit

/-- A number, a symbol or a list; only lists have kids. -/
def rightS : X → Prop
  | .no => False
  | .mk op _ _ _ _ len kid => (op = 1 ∨ op = 2 ∨ op = 3) ∧ (op ≠ 3 → len = 0) ∧ ∀ i, i < len → rightS (kid i)
theorem right_fields {t : X} (h : fieldsXB t = true) : (t.op = 1 ∨ t.op = 2 ∨ t.op = 3) ∧ (t.op ≠ 3 → t.len = 0) := by
  rw [fieldsXB_eq] at h
  unfold gB at h
  rw [Bool.and_eq_true] at h
  have h := h.2
  split at h
  · rename_i h1
    simp only [Bool.and_eq_true] at h
    exact ⟨.inl h1, fun _ => by have := h.2.2.2; simpa using this⟩
  · split at h
    · rename_i h1
      simp only [Bool.and_eq_true] at h
      exact ⟨.inr (.inl h1), fun _ => by have := h.2.2.2; simpa using this⟩
    · split at h
      · rename_i h1
        exact ⟨.inr (.inr h1), fun hn => absurd h1 hn⟩
      · cases h
theorem look_right (nest : Nat) : ∀ left len kid, (lookX nest left len kid).isSome = true → ∀ i, i < len → rightS (kid i) := by
  induction nest with
  | zero =>
    intro left len kid h i hi
    unfold lookX at h
    split at h
    · omega
    · simp at h
  | succ nest ih =>
    intro left len kid h i hi
    rw [lookX] at h
    split at h
    · simp at h
    · obtain ⟨l, hl⟩ := foldX_all len h i hi
      split at hl
      · rename_i hf
        have h1 := right_fields hf
        have h2 := ih l _ _ hl
        cases hk : kid i with
        | no => rw [hk] at h1; simp [X.op] at h1
        | mk op a n s set len' kid' =>
          rw [hk] at h1 h2
          exact ⟨h1.1, h1.2, h2⟩
      · simp at hl
theorem stxOk_right {t : X} (h : stxOkB t = true) : rightS t := by
  rw [stxOk_look] at h
  exact look_right 20 1500 1 (fun _ => t) h 0 (by omega)
theorem ok_of (t : X) : rightS t → placesX t = true → dotsX t = false → okG t := by
  induction t with
  | no => intro h; exact h.elim
  | mk op a n s set len kid ih =>
    rintro ⟨h1, h2, h3⟩ hp hd
    rw [placesX_mk, allX_true] at hp
    refine ⟨h1, h2, fun ho => ?_, fun i hi => ?_⟩
    · have hd : ((op == 2) && (s.toList == dotsL)) = false := hd
      rw [ho] at hd
      simpa using hd
    · have hi' := hp i hi
      rw [Bool.and_eq_true] at hi'
      cases hx : dotsX (kid i) with
      | false => exact .inr (ih i (h3 i hi) hi'.2 hx)
      | true =>
        have hk := hi'.1
        unfold kidPlace at hk
        rw [hx] at hk
        simp only [Bool.true_and, Bool.not_eq_true', Bool.or_eq_false_iff, Bool.not_eq_false', decide_eq_true_eq, decide_eq_false_iff_not] at hk
        refine .inl ⟨rfl, hk.1, hk.2.1, ?_⟩
        have hr := h3 i hi
        have ho : (kid i).op = 2 := by
          unfold dotsX at hx
          rw [Bool.and_eq_true] at hx
          simpa using hx.1
        cases hc : kid i with
        | no => rw [hc] at hr; exact hr.elim
        | mk op' a' n' s' set' len' kid' =>
          rw [hc] at hr ho
          exact hr.2.1 (by have : op' = 2 := ho; omega)
theorem pattern_ok {t : X} (h : patternB t = true) : okG t := by
  unfold patternB at h
  simp only [Bool.and_eq_true, Bool.not_eq_true'] at h
  exact ok_of t (stxOk_right h.1) h.2.2.2 h.2.2.1
end Go.Proofs.YtlclfmjpnchmbaaGreat

/- Rows of Gots that are one's own, to be read; how many marks they take; a bound for what a pattern gets. No conditions. -/
namespace Go.Proofs.YtlclfmjpnchmbaaGreat
open Go.ChangeShapes Go.WideShapes Go.ChangeAt Go.RowKit

/-- Nine cells. -/
def Head9 (w : World) (b p : Nat) (g : G) (sv kv gv : Value) : Prop := w.cell? ⟨b, p, none⟩ = some (.string g.name) ∧ w.cell? ⟨b, p + 1, none⟩ = some (.int .i64 g.deep) ∧ w.cell? ⟨b, p + 2, none⟩ = some (.int .i64 g.one.op) ∧ w.cell? ⟨b, p + 3, none⟩ = some (.int .i64 g.one.at_) ∧ w.cell? ⟨b, p + 4, none⟩ = some (.int .i64 g.one.n) ∧ w.cell? ⟨b, p + 5, none⟩ = some (.string g.one.s) ∧ w.cell? ⟨b, p + 6, none⟩ = some sv ∧ w.cell? ⟨b, p + 7, none⟩ = some kv ∧ w.cell? ⟨b, p + 8, none⟩ = some gv
theorem Head9.below {w w' : World} {b p : Nat} {g : G} {sv kv gv : Value} (h : Head9 w b p g sv kv gv) (hb : Below w.heap.size w w') : Head9 w' b p g sv kv gv := by
  obtain ⟨h0, h1, h2, h3, h4, h5, h6, h7, h8⟩ := h
  exact ⟨keepsX hb _ _ h0, keepsX hb _ _ h1, keepsX hb _ _ h2, keepsX hb _ _ h3, keepsX hb _ _ h4, keepsX hb _ _ h5, keepsX hb _ _ h6, keepsX hb _ _ h7, keepsX hb _ _ h8⟩
theorem head9_of {w : World} {base g cap n : Nat} {l : List GR} (h : w.ownsRow base 48 9 (.slice (some ⟨g, 0, none⟩) n cap) n (grows l)) {i : Nat} (hi : i < n) {q : GR} (hq : l[i]? = some q) : Head9 w g (i * 9) q.g q.sv q.kv q.gv := by
  have c : ∀ r, r < 9 → w.cell? ⟨g, i * 9 + r, none⟩ = (gcells q)[r]? := fun r hr => (h.cellAt (i * 9 + r) (by omega)).trans (by
    have := grows_at l [] i q hq r hr
    rwa [List.append_nil] at this)
  have c0 := c 0 (by omega)
  rw [Nat.add_zero] at c0
  exact ⟨c0, c 1 (by omega), c 2 (by omega), c 3 (by omega), c 4 (by omega), c 5 (by omega), c 6 (by omega), c 7 (by omega), c 8 (by omega)⟩
theorem GsOwn.at {w : World} {len : Nat} {sm : Nat → G} {v : Value} {S : List Nat} (h : GsOwn w len sm v S) : ∃ p cap, v = .slice p len cap ∧ len ≤ maxLen ∧ ∀ i, i < len → ∃ b sv kv gv T, p = some ⟨b, 0, none⟩ ∧ Head9 w b (i * 9) (sm i) sv kv gv ∧ GOwn w (sm i) sv kv gv T := by
  rcases h with ⟨rfl, rfl, rfl⟩ | ⟨g, cap, l, SS, rfl, h2, h3, h4, rfl, h7⟩
  · exact ⟨none, 0, rfl, Nat.zero_le _, fun i hi => absurd hi (Nat.not_lt_zero _)⟩
  · have hle : len ≤ maxLen := by
      rcases h2.2 with ⟨h', _⟩ | ⟨g', cap', cur, h', hb, hg, hnc, hcm, hcs, htake⟩
      · cases h'
      · injection h' with _ _ h'
        omega
    refine ⟨some ⟨g, 0, none⟩, cap, rfl, hle, fun i hi => ?_⟩
    obtain ⟨a, b, c, T, k1, k2, k3⟩ := h7 i hi
    exact ⟨g, a, b, c, T, rfl, head9_of h2 hi k1, k3⟩
theorem GOwn.below {w w' : World} {g : G} {sv kv v : Value} {S : List Nat} (h : GOwn w g sv kv v S) (hb : Below w.heap.size w w') : GOwn w' g sv kv v S := h.same _ (fun x hx => hb.block x (h.there _ x hx))
theorem GsOwn.below {w w' : World} {len : Nat} {sm : Nat → G} {v : Value} {S : List Nat} (h : GsOwn w len sm v S) (hb : Below w.heap.size w w') : GsOwn w' len sm v S := h.same (fun x hx => hb.block x (h.lt x hx))

/-- No set of more than 2^22. -/
def G.Small : G → Prop
  | .no => True
  | .mk _ _ one len sm => one.Small ∧ ∀ i, i < len → (sm i).Small
theorem G.Small.parts {g : G} (h : g.Small) : g.one.Small ∧ ∀ i, i < g.len → (g.sm i).Small := by
  cases g with
  | no => exact ⟨trivial, fun i hi => absurd hi (Nat.not_lt_zero _)⟩
  | mk name deep one len sm => exact h
/-- How many marks. -/
def G.marks : G → Nat
  | .no => 0
  | .mk _ _ one len sm => 2 + (one.marks + sumX (fun i => (sm i).marks) len)
theorem G.marks_eq {g : G} (h : g ≠ .no) : g.marks = 2 + (g.one.marks + sumX (fun i => (g.sm i).marks) g.len) := by
  cases g with
  | no => exact absurd rfl h
  | mk name deep one len sm => rfl
/-- Marked from k on. -/
def markG : G → Nat → G
  | .no, _ => .no
  | .mk _ _ one len sm, k => .mk (markB k) ((k + 1 : Nat) : Int) (markX one (k + 2)) len (fun i => markG (sm i) (k + 2 + one.marks + sumX (fun j => (sm j).marks) i))
def markGK (sm : Nat → G) (k : Nat) : Nat → G := fun i => markG (sm i) (k + sumX (fun j => (sm j).marks) i)
theorem markG_sm {g : G} (h : g ≠ .no) (k : Nat) : (markG g k).sm = markGK g.sm (k + 2 + g.one.marks) := by
  cases g with
  | no => exact absurd rfl h
  | mk name deep one len sm => rfl
theorem markG_len (g : G) (k : Nat) : (markG g k).len = g.len := by cases g <;> rfl
theorem markG_one {g : G} (h : g ≠ .no) (k : Nat) : (markG g k).one = markX g.one (k + 2) := by
  cases g with
  | no => exact absurd rfl h
  | mk name deep one len sm => rfl
theorem markG_head {g : G} (h : g ≠ .no) (k : Nat) : (markG g k).name = markB k ∧ (markG g k).deep = ((k + 1 : Nat) : Int) := by
  cases g with
  | no => exact absurd rfl h
  | mk name deep one len sm => exact ⟨rfl, rfl⟩
def markGTo (sm : Nat → G) (k i : Nat) : Nat → G := fun j => if j < i then markGK sm k j else sm j
theorem markGTo_zero (sm : Nat → G) (k : Nat) : markGTo sm k 0 = sm := by funext j; simp [markGTo]
theorem markGTo_at (sm : Nat → G) (k i : Nat) : markGTo sm k i i = sm i := by simp [markGTo]

/-- What a name may get of it at most, in marks. -/
def X.big (t : X) : Nat := 12 * t.count + t.marks
theorem big_kids (op a n : Int) (s : ByteArray) (set : List Int) (len : Nat) (kid : Nat → X) : 16 + sumX (fun i => (kid i).big) len ≤ (X.mk op a n s set len kid).big := by
  have e : sumX (fun i => (kid i).big) len = 12 * sumX (fun i => (kid i).count) len + sumX (fun i => (kid i).marks) len := by
    have h1 : (fun i => (kid i).big) = fun i => (12 * (kid i).count) + (kid i).marks := rfl
    rw [h1, sumX_add, sumX_mul]
  have hc : (X.mk op a n s set len kid).count = 1 + sumX (fun i => (kid i).count) len := rfl
  have hm : (X.mk op a n s set len kid).marks = 4 + (set.length + sumX (fun i => (kid i).marks) len) := rfl
  rw [e]
  show _ ≤ 12 * (X.mk op a n s set len kid).count + (X.mk op a n s set len kid).marks
  rw [hc, hm]
  omega
theorem big_kid {x : X} {i : Nat} (hi : i < x.len) : (x.kid i).big ≤ x.big := by
  cases x with
  | no => exact absurd hi (Nat.not_lt_zero _)
  | mk op a n s set len kid =>
    have h1 := big_kids op a n s set len kid
    have h2 := sumX_at (fun i => (kid i).big) i len hi
    show (kid i).big ≤ _
    omega
theorem sumX_shift (f : Nat → Nat) (j : Nat) : ∀ k, sumX f j + sumX (fun i => f (j + i)) k = sumX f (j + k) := by
  intro k
  induction k with
  | zero => rfl
  | succ k ih =>
    have e1 : sumX (fun i => f (j + i)) (k + 1) = sumX (fun i => f (j + i)) k + f (j + k) := rfl
    have e2 : sumX f (j + (k + 1)) = sumX f (j + k) + f (j + k) := rfl
    rw [e1, e2]
    omega
theorem big_rest {x : X} {j : Nat} (hj : j ≤ x.len) : 8 + sumX (fun i => (x.kid (j + i)).big) (x.len - j) ≤ x.big := by
  cases x with
  | no => (have hz : X.len .no - j = 0 := by simp [X.len]); rw [hz]; show 8 + 0 ≤ 12 * 1 + 0; omega
  | mk op a n s set len kid =>
    have h1 := big_kids op a n s set len kid
    have h2 := sumX_shift (fun i => (kid i).big) j (len - j)
    have hj' : j ≤ len := hj
    rw [show j + (len - j) = len by omega] at h2
    show 8 + sumX (fun i => (kid (j + i)).big) (len - j) ≤ _
    omega
theorem G.col_most {ns : List (ByteArray × Int)} {f : Nat → Option (List G)} {cnt : Nat} {B : Nat → Nat} (h : ∀ j, j < cnt → ∀ l, f j = some l → ∀ g ∈ l, g.marks ≤ B j) : ∀ g ∈ colG ns f cnt, g.marks ≤ 6 + sumX B cnt := by
  intro g hg
  obtain ⟨i, hi, rfl⟩ := List.mem_map.1 hg
  have hs : ∀ k, k ≤ cnt → sumX (fun t => (((f t).getD []).getD i .no).marks) k ≤ sumX B k := by
    intro k
    induction k with
    | zero => intro _; exact Nat.le_refl _
    | succ k ih =>
      intro hk
      simp only [sumX]
      have h1 := ih (by omega)
      have h2 : (((f k).getD []).getD i .no).marks ≤ B k := by
        cases hf : f k with
        | none => exact Nat.zero_le _
        | some l =>
          simp only [Option.getD_some]
          rw [List.getD_eq_getElem?_getD]
          cases hl : l[i]? with
          | none => exact Nat.zero_le _
          | some y => exact h k (by omega) l hf y (List.mem_of_getElem? hl)
      omega
  have := hs cnt (Nat.le_refl _)
  show 2 + (zeroX.marks + sumX (fun t => (((f t).getD []).getD i .no).marks) cnt) ≤ _
  have hz : zeroX.marks = 4 := rfl
  omega
theorem matchTo_mem {f : Nat → Option (List G)} : ∀ {k : Nat} {A : List G}, matchTo f k = some A → ∀ g ∈ A, ∃ i l, i < k ∧ f i = some l ∧ g ∈ l := by
  intro k
  induction k with
  | zero => intro A h g hg; simp only [matchTo] at h; injection h with h; subst h; simp at hg
  | succ k ih =>
    intro A h g hg
    simp only [matchTo] at h
    cases hA : matchTo f k with
    | none => rw [hA] at h; cases h
    | some A' =>
      cases hB : f k with
      | none => rw [hA, hB] at h; cases h
      | some B' =>
        rw [hA, hB] at h
        injection h with h
        subst h
        rcases List.mem_append.1 hg with hg | hg
        · obtain ⟨i, l, h1, h2, h3⟩ := ih hA g hg
          exact ⟨i, l, by omega, h2, h3⟩
        · exact ⟨k, B', by omega, hB, hg⟩
theorem each_col {ns : List (ByteArray × Int)} {f : Nat → Option (List G)} {n : Nat} {l : List G} (h : eachG ns f n = some l) : l = colG ns f n := by
  unfold eachG at h
  split at h
  · injection h with h; exact h.symm
  · cases h
theorem match_most (p : X) : ∀ (x : X) (l : List G), matchG p x = some l → ∀ g ∈ l, g.marks ≤ x.big := by
  induction p with
  | no => intro x l h; cases h
  | mk op a n s set len kid ih =>
    intro x l hm g hg
    rw [matchG] at hm
    by_cases h2 : op = 2
    · rw [if_pos h2] at hm
      injection hm with hm
      subst hm
      split at hg
      · simp at hg
      · simp only [List.mem_singleton] at hg
        subst hg
        show 2 + (x.marks + sumX (fun _ => G.marks .no) 0) ≤ _
        unfold X.big
        have := x.count_pos
        simp only [sumX]
        omega
    · rw [if_neg h2] at hm
      by_cases h1 : op = 1
      · rw [if_pos h1] at hm
        split at hm
        · injection hm with hm; subst hm; simp at hg
        · cases hm
      · rw [if_neg h1] at hm
        split at hm
        · split at hm
          · split at hm
            · rename_i hl
              obtain ⟨i, l', hi, hf, hg'⟩ := matchTo_mem hm g hg
              exact Nat.le_trans (ih i (x.kid i) l' hf g hg') (big_kid (by omega))
            · cases hm
          · split at hm
            · cases hm
            · rename_i hl
              cases hA : matchTo (fun i => matchG (kid i) (x.kid i)) (len - 2) with
              | none => rw [hA] at hm; cases hm
              | some A =>
                cases hE : eachG (namesD (kid (len - 2)) 0) (fun j => matchG (kid (len - 2)) (x.kid (len - 2 + j))) (x.len - (len - 2)) with
                | none => rw [hA, hE] at hm; cases hm
                | some E =>
                  rw [hA, hE] at hm
                  injection hm with hm
                  subst hm
                  rcases List.mem_append.1 hg with hg | hg
                  · obtain ⟨i, l', hi, hf, hg'⟩ := matchTo_mem hA g hg
                    exact Nat.le_trans (ih i (x.kid i) l' hf g hg') (big_kid (by omega))
                  · rw [each_col hE] at hg
                    have h9 := G.col_most (B := fun j => (x.kid (len - 2 + j)).big) (fun j _ l' hl' g' hg' => ih (len - 2) _ l' hl' g' hg') g hg
                    have h10 := big_rest (x := x) (j := len - 2) (by omega)
                    omega
        · cases hm
theorem getD_small {o : Option (List G)} (i : Nat) (h : ∀ l, o = some l → ∀ g ∈ l, g.Small) : ((o.getD []).getD i .no).Small := by
  cases o with
  | none => exact trivial
  | some l =>
    rw [Option.getD_some, List.getD_eq_getElem?_getD]
    cases hl : l[i]? with
    | none => exact trivial
    | some y => exact h l rfl y (List.mem_of_getElem? hl)
theorem match_small (p : X) : ∀ (x : X) (l : List G), x.Small → matchG p x = some l → ∀ g ∈ l, g.Small := by
  induction p with
  | no => intro x l _ h; cases h
  | mk op a n s set len kid ih =>
    intro x l hx hm g hg
    rw [matchG] at hm
    by_cases h2 : op = 2
    · rw [if_pos h2] at hm
      injection hm with hm
      subst hm
      split at hg
      · simp at hg
      · simp only [List.mem_singleton] at hg
        subst hg
        exact ⟨hx, fun i hi => absurd hi (Nat.not_lt_zero _)⟩
    · rw [if_neg h2] at hm
      by_cases h1 : op = 1
      · rw [if_pos h1] at hm
        split at hm
        · injection hm with hm; subst hm; simp at hg
        · cases hm
      · rw [if_neg h1] at hm
        split at hm
        · split at hm
          · split at hm
            · rename_i hl
              obtain ⟨i, l', hi, hf, hg'⟩ := matchTo_mem hm g hg
              exact ih i (x.kid i) l' (hx.parts.2 i (by omega)) hf g hg'
            · cases hm
          · split at hm
            · cases hm
            · rename_i hl
              cases hA : matchTo (fun i => matchG (kid i) (x.kid i)) (len - 2) with
              | none => rw [hA] at hm; cases hm
              | some A =>
                cases hE : eachG (namesD (kid (len - 2)) 0) (fun j => matchG (kid (len - 2)) (x.kid (len - 2 + j))) (x.len - (len - 2)) with
                | none => rw [hA, hE] at hm; cases hm
                | some E =>
                  rw [hA, hE] at hm
                  injection hm with hm
                  subst hm
                  rcases List.mem_append.1 hg with hg | hg
                  · obtain ⟨i, l', hi, hf, hg'⟩ := matchTo_mem hA g hg
                    exact ih i (x.kid i) l' (hx.parts.2 i (by omega)) hf g hg'
                  · rw [each_col hE] at hg
                    obtain ⟨i, hi, rfl⟩ := List.mem_map.1 hg
                    refine ⟨⟨by simp, fun i hi => absurd hi (Nat.not_lt_zero _)⟩, fun t ht => ?_⟩
                    exact getD_small i (fun l' hl' => ih (len - 2) _ l' (hx.parts.2 _ (by omega)) hl')
        · cases hm
end Go.Proofs.YtlclfmjpnchmbaaGreat
