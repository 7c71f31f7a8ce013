/- Laws on rows of ints: an append from whatever source, and what a row holds behind copies. No conditions of our own. -/
import Derived.Test.YtaflnjhknnnaoaaZG0Ints
import Derived.Test.YtaflnjhknnnaoaaRows
import Derived.Test.YtaflnjhknnnaoaaZG7StxParts
import Derived.Laws.AppendOwnNone
import Derived.Laws.CopyOwn
import Derived.Deep.OwnRows
import Derived.Deep.RegionLaw
namespace Go.Proofs.Ytaflnjhknnnaoaa
open Go.ChangeShapes Go.WideShapes Go.ChangeAt Go.RowKit

theorem int_info : (Try.prog.info? 3).map (fun i => (i.zero, i.size, i.bytes)) = some (some (.int .i64 0), 1, 8) := by kernel_rfl

theorem wpList_append_any {P : Program} (w : World) {ops : Array Oper} {rest : List Oper} {o : Oper} {a : Act} {Q : Exit → Act → World → Prop} (hgd : o.guard = none) (s x : Operand) (t : TypeId)
    (ho : o.op = .call { callee := .builtin .append, args := #[s, x], argTypes := #[t, t] })
    (base : Nat) (e : TypeId) (i : TypeInfo) (z : Value) (size bytes : Nat) (ht : P.underlying t = some (.slice e)) (hi : P.info? e = some i) (hz : i.zero = some z)
    (hsize : i.size = size) (hby : i.bytes = bytes) (hzs : z.cells.size = size) (hsz : 0 < size)
    (v : Value) (n : Nat) (xs : List Value) (hs : a.eval s = v) (hown : w.ownsRow base e size v n xs)
    (ao : Option Addr) (m c : Nat) (news : List Value) (hx : a.eval x = .slice ao m c) (hl : news.length = m * size) (hnone : ao = none → m = 0 ∧ c = 0) (hnews : ∀ ad, ao = some ad → ∀ j u, news[j]? = some u → w.cell? (ad.add j) = some u) (h1 : ∀ u ∈ news, u.oneCell' = true)
    (h63 : n + m ≤ maxLen) (hbytes : (n + m) * bytes ≤ 140737488355328) (hbase : base ≤ w.heap.size)
    (h : ∀ v' w', Hid (w'.ownsRow base e size v' (n + m) (xs ++ news)) → Hid (w.grownBy w' v.ownBlock) → wpList P ops Q rest (a.put o.dst v') w') : wpList P ops Q (o :: rest) a w := by
  cases ao with
  | some ad => exact wpList_append_own w hgd s x t ho base e i z size bytes ht hi hz hsize hby hzs hsz v n xs hs hown ad m c news hx hl (hnews ad rfl) h1 h63 hbytes hbase fun v' w' h2 h3 _ => h v' w' h2 h3
  | none =>
    obtain ⟨rfl, rfl⟩ := hnone rfl
    have hn : news = [] := List.eq_nil_of_length_eq_zero (by simpa using hl)
    subst hn
    refine wpList_append_own_none hgd s x t ho base e i size ht hi v n xs hs hown hx ?_
    have h1 : w.ownsRow base e size v (n + 0) (xs ++ []) := by simpa using hown
    exact h v w h1 (World.grownBy.refl w v.ownBlock)

/-- A copy into a row that is known whole, as an equation. -/
theorem copy_run {P : Program} {w : World} (dT sT ty elem : TypeId) (hu : P.underlying dT = some (.slice elem)) (hsz : (P.info? elem).map (·.size) = some 1)
    (dp sp : Option Addr) (dLen dCap sLen sCap g off : Nat) (cur : List Value) (t : TypeId) (hg : w.heap[g]? = some (.cells cur.toArray t (0, 0))) (cs : List Value) (hn : cs.length = Nat.min sLen dLen)
    (hpos : 0 < cs.length → dp = some ⟨g, off, none⟩ ∧ ∃ ad, sp = some ad ∧ ∀ j v, cs[j]? = some v → w.cell? (ad.add j) = some v)
    (hfit : off + cs.length ≤ cur.length) (h1 : ∀ v ∈ cs, v.oneCell' = true) (B : Nat) (w0 : World) (hb : Below B w0 w) (hBg : B ≤ g) :
    ∃ w', (Builtin.copy_ #[dT, sT] ty #[.slice dp dLen dCap, .slice sp sLen sCap]).run P w = .ok (goInt cs.length) w' ∧ w'.heap[g]? = some (.cells (splice cur off cs).toArray t (0, 0)) ∧ Below B w0 w' := by
  by_cases h0 : cs.length = 0
  · obtain rfl : cs = [] := List.eq_nil_of_length_eq_zero h0
    have hrun := run_copy_none (P := P) w dT sT ty elem dp sp dLen dCap sLen sCap hu hsz (by simpa using hn.symm)
    exact ⟨w, hrun, by simpa [splice] using hg, hb⟩
  · obtain ⟨rfl, ad, rfl, hsrc⟩ := hpos (by omega)
    have hrun := run_copy_row (P := P) w dT sT ty elem g off dLen dCap ad sLen sCap cur.toArray t cs hu hsz hg hn hsrc (by simpa using hfit) h1
    exact ⟨_, hrun, by simpa [splice] using setRow_heap w g _ _ t _ hg, below_setRow hb hBg _⟩

theorem own_heap {w : World} {base g : Nat} {xs : List Int} (hg : w.heap[g]? = some (.cells (xs.map (Value.int .i64)).toArray 3 (0, 0))) (hb : base ≤ g) (hl : xs.length ≤ maxLen) :
    Own w base (.slice (some ⟨g, 0, none⟩) xs.length xs.length) xs :=
  ⟨by simp, .inr ⟨g, xs.length, _, rfl, hb, hg, Nat.le_refl _, hl, by simp, by rw [Nat.mul_one]; exact List.take_of_length_le (by simp)⟩⟩

theorem ints_cells (xs : List Int) : ∀ v ∈ xs.map (Value.int .i64), v.oneCell' = true := by
  intro v hv
  obtain ⟨x, _, rfl⟩ := List.mem_map.1 hv
  rfl

theorem made_ints (m : Nat) : ∃ Z : List Value, madeCells #[Value.int .i64 0] m = Z.toArray ∧ Z.length = m :=
  ⟨(madeCells #[Value.int .i64 0] m).toList, by simp, by rw [toList_madeCells_one]; simp⟩

theorem splice_all {Z X : List Value} (h : Z.length = X.length) : splice Z 0 X = X := by
  unfold splice
  rw [Nat.zero_add, ← h, List.drop_length]; simp

theorem splice_two {Z X1 X2 : List Value} {at_ : Nat} {u : Value} (h1 : X1.length = at_) (hZ : Z.length = at_ + 1 + X2.length) : splice ((splice Z 0 X1).set at_ u) (at_ + 1) X2 = X1 ++ u :: X2 := by
  subst h1
  have e1 : splice Z 0 X1 = X1 ++ Z.drop X1.length := by unfold splice; simp
  have hd : 0 < (Z.drop X1.length).length := by rw [List.length_drop]; omega
  obtain ⟨z, r, hr⟩ : ∃ z r, Z.drop X1.length = z :: r := by
    cases h : Z.drop X1.length with
    | nil => rw [h] at hd; simp at hd
    | cons z r => exact ⟨z, r, rfl⟩
  have hrl : r.length = X2.length := by
    have := congrArg List.length hr
    rw [List.length_drop] at this
    simp at this; omega
  have e2 : (X1 ++ Z.drop X1.length).set X1.length u = X1 ++ u :: r := by
    rw [hr, List.set_append_right _ _ (Nat.le_refl _), Nat.sub_self, List.set_cons_zero]
  rw [e1, e2]
  unfold splice
  rw [show X1 ++ u :: r = (X1 ++ [u]) ++ r by simp]
  rw [List.take_left' (by simp), List.drop_eq_nil_of_le (by simp; omega)]
  simp
end Go.Proofs.Ytaflnjhknnnaoaa

/- What is written whose rows and sets are a call's own, each in a block of its own. No conditions. -/
namespace Go.Proofs.Ytaflnjhknnnaoaa
open Go.ChangeShapes Go.WideShapes Go.ChangeAt Go.RowKit

/-- A node's rows and its set are owned; their blocks are S. -/
def XOwn (w : World) : X → Value → Value → List Nat → Prop
  | .no, _, _, _ => False
  | .mk _ _ n s set len kid, sv, v, S => (s.size ≤ maxLen ∧ (-9223372036854775808 ≤ n ∧ n ≤ 9223372036854775807) ∧ set.length ≤ maxLen) ∧ Own w 0 sv set ∧ ∃ S2, S = sv.ownBlock.toList ++ S2 ∧
    ((len = 0 ∧ v = .slice none 0 0 ∧ S2 = []) ∨
     ∃ (g cap : Nat) (l : List XR) (SS : List (List Nat)), v = .slice (some ⟨g, 0, none⟩) len cap ∧ w.ownsRow 0 35 6 (.slice (some ⟨g, 0, none⟩) len cap) len (xrows l) ∧ l.length = len ∧ SS.length = len ∧ XKs kid l ∧ S2 = g :: SS.flatten ∧
       ∀ i, i < len → ∃ su u T, l[i]? = some (kid i, su, u) ∧ SS[i]? = some T ∧ XOwn w (kid i) su u T)

/-- A row of them, owned. -/
def XsOwn (w : World) (len : Nat) (kid : Nat → X) (v : Value) (S : List Nat) : Prop :=
    (len = 0 ∧ v = .slice none 0 0 ∧ S = []) ∨
     ∃ (g cap : Nat) (l : List XR) (SS : List (List Nat)), v = .slice (some ⟨g, 0, none⟩) len cap ∧ w.ownsRow 0 35 6 (.slice (some ⟨g, 0, none⟩) len cap) len (xrows l) ∧ l.length = len ∧ SS.length = len ∧ XKs kid l ∧ S = g :: SS.flatten ∧
       ∀ i, i < len → ∃ su u T, l[i]? = some (kid i, su, u) ∧ SS[i]? = some T ∧ XOwn w (kid i) su u T

theorem XOwn.parts {w : World} {t : X} {sv v : Value} {S : List Nat} (h : XOwn w t sv v S) : Own w 0 sv t.set ∧ ∃ S2, S = sv.ownBlock.toList ++ S2 ∧ XsOwn w t.len t.kid v S2 := by
  cases t <;> unfold XOwn at h <;> first | exact h.elim | exact h.2
theorem XOwn.plain {w : World} {t : X} {sv v : Value} {S : List Nat} (h : XOwn w t sv v S) : t.s.size ≤ maxLen ∧ (-9223372036854775808 ≤ t.n ∧ t.n ≤ 9223372036854775807) ∧ t.set.length ≤ maxLen := by
  cases t <;> unfold XOwn at h <;> first | exact h.elim | exact h.1
theorem XOwn.mk' {w : World} {op a n : Int} {s : ByteArray} {set : List Int} {len : Nat} {kid : Nat → X} {sv v : Value} {S2 : List Nat} (h0 : s.size ≤ maxLen ∧ (-9223372036854775808 ≤ n ∧ n ≤ 9223372036854775807) ∧ set.length ≤ maxLen) (hs : Own w 0 sv set) (h : XsOwn w len kid v S2) : XOwn w (X.mk op a n s set len kid) sv v (sv.ownBlock.toList ++ S2) := by
  unfold XOwn; exact ⟨h0, hs, S2, rfl, h⟩
theorem XOwn.ne {w : World} {t : X} {sv v : Value} {S : List Nat} (h : XOwn w t sv v S) : t ≠ .no := by
  rintro rfl; exact h.elim

theorem own_sameX {w w' : World} {base e size n : Nat} {v : Value} {xs : List Value} (h : w.ownsRow base e size v n xs) (hb : ∀ g, v.ownBlock = some g → w'.heap[g]? = w.heap[g]?) : w'.ownsRow base e size v n xs := by
  refine ⟨h.1, ?_⟩
  rcases h.2 with hn | ⟨g, cap, cur, rfl, hbg, hgg, rest⟩
  · exact .inl hn
  · exact .inr ⟨g, cap, cur, rfl, hbg, (hb g rfl).trans hgg, rest⟩
theorem Own.sameX {w w' : World} {base : Nat} {v : Value} {xs : List Int} (h : Own w base v xs) (hb : ∀ g, v.ownBlock = some g → w'.heap[g]? = w.heap[g]?) : Own w' base v xs := own_sameX h hb

theorem mem_flatX {SS : List (List Nat)} {i : Nat} {T : List Nat} (h : SS[i]? = some T) {g : Nat} (hg : g ∈ T) : g ∈ SS.flatten := List.mem_flatten.2 ⟨T, List.mem_of_getElem? h, hg⟩
theorem mem_own {v : Value} {g : Nat} (h : v.ownBlock = some g) : g ∈ v.ownBlock.toList := by rw [h]; simp

theorem XOwn.same {w w' : World} (t : X) : ∀ {sv v : Value} {S : List Nat}, XOwn w t sv v S → (∀ g ∈ S, w'.heap[g]? = w.heap[g]?) → XOwn w' t sv v S := by
  induction t with
  | no => intro sv v S h; exact h.elim
  | mk op a n s set len kid ih =>
    intro sv v S h hs
    unfold XOwn at h ⊢
    obtain ⟨h0, hset, S2, rfl, hr⟩ := h
    refine ⟨h0, hset.sameX (fun g hg => hs g (List.mem_append_left _ (mem_own hg))), S2, rfl, ?_⟩
    rcases hr with h0 | ⟨g, cap, l, SS, h1, h2, h3, h4, h5, h6, h7⟩
    · exact .inl h0
    · refine .inr ⟨g, cap, l, SS, h1, own_sameX h2 (fun g' hg' => ?_), h3, h4, h5, h6, fun i hi => ?_⟩
      · simp only [Value.ownBlock, Option.some.injEq] at hg'
        subst hg'
        exact hs g (by rw [h6]; simp)
      · obtain ⟨su, u, T, k1, k2, k3⟩ := h7 i hi
        exact ⟨su, u, T, k1, k2, ih i k3 (fun g' hg' => hs g' (by rw [h6]; exact List.mem_append_right _ (List.mem_cons_of_mem _ (mem_flatX k2 hg'))))⟩

theorem XsOwn.same {w w' : World} {len : Nat} {kid : Nat → X} {v : Value} {S : List Nat} (h : XsOwn w len kid v S) (hs : ∀ g ∈ S, w'.heap[g]? = w.heap[g]?) : XsOwn w' len kid v S := by
  rcases h with h0 | ⟨g, cap, l, SS, h1, h2, h3, h4, h5, h6, h7⟩
  · exact .inl h0
  · refine .inr ⟨g, cap, l, SS, h1, own_sameX h2 (fun g' hg' => ?_), h3, h4, h5, h6, fun i hi => ?_⟩
    · simp only [Value.ownBlock, Option.some.injEq] at hg'
      subst hg'
      exact hs g (by rw [h6]; simp)
    · obtain ⟨su, u, T, k1, k2, k3⟩ := h7 i hi
      exact ⟨su, u, T, k1, k2, k3.same _ (fun g' hg' => hs g' (by rw [h6]; exact List.mem_cons_of_mem _ (mem_flatX k2 hg')))⟩

/-- A set of the call's own, from block B on, lies so. -/
theorem Own.setB' {w : World} {base B : Nat} {v : Value} {xs : List Int} (h : Own w base v xs) (hB : ∀ g, v.ownBlock = some g → B ≤ g) : SetB B w v xs := by
  have h' := h
  rcases h.2 with ⟨rfl, hn⟩ | ⟨g, cap, cur, rfl, hbg, hg, hnc, _⟩
  · exact .inl ⟨rfl, List.eq_nil_of_length_eq_zero hn⟩
  · refine .inr ⟨g, 0, cap, rfl, hB g rfl, hnc, fun j hj => ?_⟩
    rw [Nat.zero_add, World.ownsRow.cellAt h' j (by omega)]
    simp [List.getElem?_eq_getElem hj]

theorem own_base {w : World} {base B e size n : Nat} {v : Value} {xs : List Value} (h : w.ownsRow base e size v n xs) (hB : ∀ g, v.ownBlock = some g → B ≤ g) : w.ownsRow B e size v n xs := by
  refine ⟨h.1, ?_⟩
  rcases h.2 with hn | ⟨g, cap, cur, rfl, hbg, rest⟩
  · exact .inl hn
  · exact .inr ⟨g, cap, cur, rfl, hB g rfl, rest⟩

/-- What is owned lies in memory, from block B on. -/
theorem XOwn.at' {w : World} {B : Nat} (t : X) : ∀ {sv v : Value} {S : List Nat}, XOwn w t sv v S → (∀ g ∈ S, B ≤ g) → t.At B w sv v := by
  induction t with
  | no => intro sv v S h; exact h.elim
  | mk op a n s set len kid ih =>
    intro sv v S h hB
    unfold XOwn at h
    obtain ⟨h0, hset, S2, rfl, hr⟩ := h
    refine X.InB.mk' h0.1 h0.2.1 h0.2.2 (hset.setB' (fun g hg => hB g (List.mem_append_left _ (mem_own hg)))) ?_
    rcases hr with ⟨rfl, rfl, _⟩ | ⟨g, cap, l, SS, rfl, h2, h3, h4, h5, h6, h7⟩
    · exact .inl ⟨rfl, _, _, rfl⟩
    · refine XsB.of_own (own_base (B := B) h2 (fun g' hg' => ?_)) h3 (Nat.le_refl _) h5 (fun q hq => ?_)
      · simp only [Value.ownBlock, Option.some.injEq] at hg'
        subst hg'
        exact hB g (by rw [h6]; simp)
      obtain ⟨i, hi, rfl⟩ := List.mem_iff_getElem.1 hq
      obtain ⟨su, u, T, k1, k2, k3⟩ := h7 i (by omega)
      rw [List.getElem?_eq_getElem hi] at k1
      injection k1 with k1
      rw [k1]
      exact ih i k3 (fun g' hg' => hB g' (by rw [h6]; exact List.mem_append_right _ (List.mem_cons_of_mem _ (mem_flatX k2 hg'))))
theorem XOwn.at0 {w : World} {t : X} {sv v : Value} {S : List Nat} (h : XOwn w t sv v S) : t.At 0 w sv v := h.at' _ (fun _ _ => Nat.zero_le _)

theorem XsOwn.at' {w : World} {B : Nat} {len : Nat} {kid : Nat → X} {v : Value} {S : List Nat} (h : XsOwn w len kid v S) (hB : ∀ g ∈ S, B ≤ g) : XsAt B w len kid v := by
  rcases h with ⟨rfl, rfl, _⟩ | ⟨g, cap, l, SS, rfl, h2, h3, h4, h5, h6, h7⟩
  · exact .inl ⟨rfl, _, _, rfl⟩
  · refine XsB.of_own (own_base (B := B) h2 (fun g' hg' => ?_)) h3 (Nat.le_refl _) h5 (fun q hq => ?_)
    · simp only [Value.ownBlock, Option.some.injEq] at hg'
      subst hg'
      exact hB g (by rw [h6]; simp)
    obtain ⟨i, hi, rfl⟩ := List.mem_iff_getElem.1 hq
    obtain ⟨su, u, T, k1, k2, k3⟩ := h7 i (by omega)
    rw [List.getElem?_eq_getElem hi] at k1
    injection k1 with k1
    rw [k1]
    exact k3.at' _ (fun g' hg' => hB g' (by rw [h6]; exact List.mem_cons_of_mem _ (mem_flatX k2 hg')))
theorem XsOwn.at0 {w : World} {len : Nat} {kid : Nat → X} {v : Value} {S : List Nat} (h : XsOwn w len kid v S) : XsAt 0 w len kid v := h.at' (fun _ _ => Nat.zero_le _)

/-- The blocks are there. -/
theorem XsOwn.there {w : World} {len : Nat} {kid : Nat → X} {v : Value} {S : List Nat} (h : XsOwn w len kid v S) (hd : ∀ i, i < len → ∀ su u T, XOwn w (kid i) su u T → ∀ g ∈ T, g < w.heap.size) : ∀ g ∈ S, g < w.heap.size := by
  rcases h with ⟨_, _, rfl⟩ | ⟨g, cap, l, SS, rfl, h2, h3, h4, h5, rfl, h7⟩
  · intro g hg; simp at hg
  · intro g' hg'
    rcases List.mem_cons.1 hg' with rfl | hg'
    · exact (h2.lt _ rfl).2
    · obtain ⟨T, hT, hgT⟩ := List.mem_flatten.1 hg'
      obtain ⟨i, hi, rfl⟩ := List.mem_iff_getElem.1 hT
      obtain ⟨su, u, T', k1, k2, k3⟩ := h7 i (by omega)
      rw [List.getElem?_eq_getElem hi] at k2
      injection k2 with k2
      exact hd i (by omega) su u T' k3 g' (by rw [← k2]; exact hgT)
theorem XOwn.there {w : World} (t : X) : ∀ {sv v : Value} {S : List Nat}, XOwn w t sv v S → ∀ g ∈ S, g < w.heap.size := by
  induction t with
  | no => intro sv v S h; exact h.elim
  | mk op a n s set len kid ih =>
    intro sv v S h g hg
    obtain ⟨hset, S2, rfl, hr⟩ := h.parts
    rcases List.mem_append.1 hg with hg | hg
    · simp only [Option.mem_toList] at hg
      exact (World.ownsRow.lt hset g hg).2
    · exact (show XsOwn w len kid v S2 from hr).there (fun i _ su u T k => ih i k) g hg
theorem XsOwn.lt {w : World} {len : Nat} {kid : Nat → X} {v : Value} {S : List Nat} (h : XsOwn w len kid v S) : ∀ g ∈ S, g < w.heap.size := h.there (fun _ _ _ _ _ k => k.there)

theorem XsOwn.congr {w : World} {len : Nat} {kid kid' : Nat → X} {v : Value} {S : List Nat} (h : XsOwn w len kid v S) (he : ∀ i, i < len → kid i = kid' i) : XsOwn w len kid' v S := by
  rcases h with h0 | ⟨g, cap, l, SS, h1, h2, h3, h4, h5, h6, h7⟩
  · exact .inl h0
  · refine .inr ⟨g, cap, l, SS, h1, h2, h3, h4, fun i q hq => ?_, h6, fun i hi => ?_⟩
    · have hi : i < len := by have := (List.getElem?_eq_some_iff.1 hq).1; omega
      rw [h5 i q hq, he i hi]
    · obtain ⟨su, u, T, k1, k2, k3⟩ := h7 i hi
      exact ⟨su, u, T, by rw [k1, he i hi], k2, by rw [← he i hi]; exact k3⟩
end Go.Proofs.Ytaflnjhknnnaoaa
