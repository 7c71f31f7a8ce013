/- gotsOf; what holds between the rounds of impl.Match. No conditions. -/
import Derived.Test.YtlclfmjpnchmbaaGreatZG31EachRow
namespace Go.Proofs.YtlclfmjpnchmbaaGreat
open Go.ChangeShapes Go.WideShapes Go.ChangeAt Go.RowKit Go.Shelf

set_option maxRecDepth 100000 in
set_option maxHeartbeats 1000000 in
theorem gots_seq (p x : X) (p1 p2 q1 q2 : Option Addr) (n1 n2 c1 c2 m1 m2 d1 d2 : Nat) (w : World) :
    Calls Tryz.prog 22 #[.agg #[.int .i64 p.op, .int .i64 p.at_, .int .i64 p.n, .string p.s, .slice p1 n1 c1, .slice p2 n2 c2], .agg #[.int .i64 x.op, .int .i64 x.at_, .int .i64 x.n, .string x.s, .slice q1 m1 d1, .slice q2 m2 d2]] w fun e w' =>
      e = .returned (.func (.func 44) #[] #[.pointer (some ⟨w.heap.size, 0, none⟩), .pointer (some ⟨w.heap.size + 1, 0, none⟩)]) ∧
      w' = (w.alloc (.cells #[.int .i64 p.op, .int .i64 p.at_, .int .i64 p.n, .string p.s, .slice p1 n1 c1, .slice p2 n2 c2] 32)).alloc (.cells #[.int .i64 x.op, .int .i64 x.at_, .int .i64 x.n, .string x.s, .slice q1 m1 d1, .slice q2 m2 d2] 32) := by
  go_enter Tryz.func22, Tryz.ntmps22
  go_wp2_with fail
  go_ret
  exact ⟨rfl, rfl⟩

set_option maxRecDepth 100000 in
set_option maxHeartbeats 1000000 in
theorem gots_iter {p x : X} (T : TellAt p) {l N : Nat} {w0 : World} {J : Inv G} {Jx : World → (Nat → Prop) → Prop} (TJ : Teller l N w0 J Jx) {su u sx ux : Value} {A B : Nat} {pre : List G} {W : World} {Y : Nat → Prop}
    (hp : p.At 0 w0 su u) (hx : x.At 0 w0 sx ux) (hA : Six W A p.op p.at_ p.n p.s su u 32) (hB : Six W B x.op x.at_ x.n x.s sx ux 32) (hsm : x.Small) (hxc : x.count ≤ 1048577) (hpc : p.count ≤ 1048577) (hok : okG p) (hj : J pre W Y) (hN : pre.length + (namesD p 0).length ≤ N) :
    Calls Tryz.prog 44 #[.func (.yield l) #[] #[], .pointer (some ⟨A, 0, none⟩), .pointer (some ⟨B, 0, none⟩)] W fun e W' => (∃ v, e = .returned v) ∧ ((∃ lst, matchG p x = some lst ∧ J (pre ++ lst) W' Y) ∨ (matchG p x = none ∧ Jx W' Y)) := by
  obtain ⟨pa, ca, e1⟩ := hp.sets.shape
  obtain ⟨pb, cb, e2⟩ := hp.xs.shape
  obtain ⟨qa, da, e3⟩ := hx.sets.shape
  obtain ⟨qb, db, e4⟩ := hx.xs.shape
  subst e1 e2 e3 e4
  obtain ⟨b0, b1, b2, b3, b4, b5⟩ := hA.cells
  obtain ⟨d0, d1, d2, d3, d4, d5⟩ := hB.cells
  have HC : Hid (Calls Tryz.prog 45 #[aggX p (.slice pa p.set.length ca) (.slice pb p.len cb), aggX x (.slice qa x.set.length da) (.slice qb x.len db), .func (.yield l) #[] #[]] W fun e W' => TellPost (matchG p x) J Jx pre Y e W') := T l N w0 J Jx TJ x _ _ _ _ pre W Y hp hx hsm hxc hpc hok hj hN
  clear T TJ hp hx hA hB hsm hxc hpc hok hj hN
  generalize matchG p x = m at *
  go_enter Tryz.func44, Tryz.ntmps44
  go_wp2_with fail
  refine HC.out.mono ?_
  rintro e w2 hpost
  have he := hpost.val
  subst he
  have HPO : Hid (TellPost m J Jx pre Y (.returned (.bool m.isSome)) w2) := hpost
  clear hpost
  go_wp2_with fail
  refine bodyPost_end (results_none rfl _ _ _) rfl ?_
  refine ⟨⟨_, rfl⟩, ?_⟩
  rcases HPO.out with ⟨lst, h, _, hj⟩ | ⟨h, _, hj⟩
  · exact .inl ⟨lst, h, hj⟩
  · exact .inr ⟨h, hj⟩

/-- Between two rounds. A: where the call's own blocks begin (its two results at A + 2, A + 3); L: the list's box; M, M + 1: the range's. -/
structure MJ (w : World) (A L M : Nat) (rec : LoopState → Option Code → Loop) (pre : List G) (W : World) (Y : Nat → Prop) : Prop where
  list : ∃ pk ck l SS, W.heap[L]? = some (.cells #[.slice pk pre.length ck] 27) ∧ GRow W A (.slice pk pre.length ck) pre l SS ∧ ∀ k, k ∈ (Value.slice pk pre.length ck).ownBlock.toList ++ SS.flatten → M + 2 ≤ k ∧ ¬ Y k
  box1 : W.heap[A + 2]? = some (.cells #[.slice none 0 0] 27)
  box2 : W.heap[A + 3]? = some (.cells #[.bool false] 4)
  defs : W.heap[M]? = some (.deferred (some []))
  below : Below A w W
  loop : W.heap[M + 1]? = some (.loop (rec .ready none))
  own : ∀ k, Y k → M + 2 ≤ k ∧ k < W.heap.size
  size : M + 2 ≤ W.heap.size
/-- Behind a misfit. -/
structure MX (w : World) (A L M : Nat) (rec : LoopState → Option Code → Loop) (W : World) (Y : Nat → Prop) : Prop where
  box1 : W.heap[A + 2]? = some (.cells #[.slice none 0 0] 27)
  box2 : W.heap[A + 3]? = some (.cells #[.bool false] 4)
  defs : W.heap[M]? = some (.deferred (some []))
  below : Below A w W
  loop : W.heap[M + 1]? = some (.loop (rec .done (some .ret)))
  own : ∀ k, Y k → M + 2 ≤ k ∧ k < W.heap.size
  size : M + 2 ≤ W.heap.size

theorem mx_stable {w : World} {A L M : Nat} {rec : LoopState → Option Code → Loop} (hA : A + 4 ≤ L) (hL : L + 3 = M) {B B' : World} {Y Y' : Nat → Prop} (h : MX w A L M rec B Y) (hb : But Y B B') (hx : ∀ k, Y' k → Y k ∨ (B.heap.size ≤ k ∧ k < B'.heap.size)) : MX w A L M rec B' Y' := by
  have ne : ∀ k, k < M + 2 → ¬ Y k := fun k hk hY => by have := h.own k hY; omega
  have hs := h.size
  refine ⟨hb.at h.box1 (ne _ (by omega)), hb.at h.box2 (ne _ (by omega)), hb.at h.defs (ne _ (by omega)), h.below.trans (hb.below (by omega) (fun k hk => by have := h.own k hk; omega)), hb.at h.loop (ne _ (by omega)), fun k hk => ?_, Nat.le_trans h.size hb.size⟩
  rcases hx k hk with h1 | ⟨h1, h2⟩
  · exact ⟨(h.own k h1).1, Nat.lt_of_lt_of_le (h.own k h1).2 hb.size⟩
  · exact ⟨by omega, h2⟩
theorem mj_stable {w : World} {A L M : Nat} {rec : LoopState → Option Code → Loop} (hA : A + 4 ≤ L) (hL : L + 3 = M) : Inv.Stable (fun pre W Y => MJ w A L M rec pre W Y) := by
  intro pre B B' Y Y' h hb hx
  have ne : ∀ k, k < M + 2 → ¬ Y k := fun k hk hY => by have := h.own k hY; omega
  have hs := h.size
  obtain ⟨pk, ck, l, SS, f1, f2, f3⟩ := h.list
  refine ⟨⟨pk, ck, l, SS, hb.at f1 (ne _ (by omega)), f2.same (fun k hk => hb.block k (f2.lt k hk) (f3 k hk).2), fun k hk => ⟨(f3 k hk).1, fun hY => ?_⟩⟩, hb.at h.box1 (ne _ (by omega)), hb.at h.box2 (ne _ (by omega)), hb.at h.defs (ne _ (by omega)), h.below.trans (hb.below (by omega) (fun k hk => by have := h.own k hk; omega)), hb.at h.loop (ne _ (by omega)), fun k hk => ?_, Nat.le_trans h.size hb.size⟩
  · rcases hx k hY with h1 | ⟨h1, _⟩
    · exact (f3 k hk).2 h1
    · have := f2.lt k hk
      omega
  · rcases hx k hk with h1 | ⟨h1, h2⟩
    · exact ⟨(h.own k h1).1, Nat.lt_of_lt_of_le (h.own k h1).2 hb.size⟩
    · exact ⟨by omega, h2⟩

/-- A round. -/
theorem mj_told {w W Wc F : World} {A L M g' c' ck : Nat} {rec : LoopState → Option Code → Loop} {pre : List G} {Y : Nat → Prop} {Z : List Nat} {pk : Option Addr} {l : List GR} {SS : List (List Nat)} {g : G} {sv kv gv : Value} (hA : A + 4 ≤ L) (hL : L + 3 = M)
    (h : MJ w A L M rec pre W (fun k => Y k ∨ k ∈ Z)) (hr : GRow W A (.slice pk pre.length ck) pre l SS) (hb : ∀ k, k ∈ (Value.slice pk pre.length ck).ownBlock.toList ++ SS.flatten → M + 2 ≤ k ∧ ¬ (Y k ∨ k ∈ Z))
    (hg : GOwn W g sv kv gv Z) (hZ : Z.Nodup) (hZY : ∀ k ∈ Z, ¬ Y k) (hWc : But (fun k => k = M + 1) W Wc) (hsz : W.heap.size < Wc.heap.size) (hbusy : Wc.heap[M + 1]? = some (.loop (rec .busy none)))
    (k1 : F.heap[L]? = some (.cells #[.slice (some ⟨g', 0, none⟩) (pre.length + 1) c'] 27)) (k2 : F.ownsRow A 48 9 (.slice (some ⟨g', 0, none⟩) (pre.length + 1) c') (pre.length + 1) (grows (l ++ [⟨g, sv, kv, gv⟩]))) (k3 : But (fun k => k = L ∨ (Value.slice pk pre.length ck).ownBlock = some k) Wc F) (k4 : (Value.slice pk pre.length ck).ownBlock = some g' ∨ g' = Wc.heap.size + 1) :
    F.heap[M + 1]? = some (.loop (rec .busy none)) ∧ MJ w A L M rec (pre ++ [g]) (F.putObj (M + 1) (.loop (rec .ready none))) Y ∧ Keeps Y W (F.putObj (M + 1) (.loop (rec .ready none))) := by
  have hvm : ∀ k, (Value.slice pk pre.length ck).ownBlock = some k → M + 2 ≤ k ∧ ¬ (Y k ∨ k ∈ Z) := fun k hk => hb k (List.mem_append_left _ (by rw [hk]; simp))
  have hr3 := k3.at hbusy (fun h => by
    rcases h with h | h
    · omega
    · have := hvm _ h; omega)
  have hbp : But (fun k => k = M + 1) F (F.putObj (M + 1) (.loop (rec .ready none))) := (But.refl (fun k => k = M + 1) F).putObj (.inr rfl) _
  have hWF : But (fun k => k = M + 1 ∨ k = L ∨ (Value.slice pk pre.length ck).ownBlock = some k) W (F.putObj (M + 1) (.loop (rec .ready none))) := ((hWc.mono (fun k _ h => .inl h)).step k3 (fun k _ h => .inr h)).step hbp (fun k _ h => .inl h)
  have hs := h.size
  have hl : (pre ++ [g]).length = pre.length + 1 := by simp
  have hnd := hr.own
  rw [List.nodup_append] at hnd
  obtain ⟨n1, n2, n3⟩ := hnd
  have hSS : ∀ k ∈ SS.flatten, M + 2 ≤ k ∧ k < W.heap.size ∧ ¬ (Y k ∨ k ∈ Z) ∧ ¬ (k = M + 1 ∨ k = L ∨ (Value.slice pk pre.length ck).ownBlock = some k) := fun k hk => by
    have h1 := hb k (List.mem_append_right _ hk)
    refine ⟨h1.1, hr.lt k (List.mem_append_right _ hk), h1.2, fun h => ?_⟩
    rcases h with h | h | h
    · omega
    · omega
    · exact n3 k (by rw [h]; simp) k hk rfl
  have hZZ : ∀ k ∈ Z, M + 2 ≤ k ∧ k < W.heap.size ∧ ¬ (k = M + 1 ∨ k = L ∨ (Value.slice pk pre.length ck).ownBlock = some k) := fun k hk => by
    have h1 := h.own k (.inr hk)
    refine ⟨h1.1, h1.2, fun h => ?_⟩
    rcases h with h | h | h
    · omega
    · omega
    · exact (hvm k h).2 (.inr hk)
  have hg' : M + 2 ≤ g' ∧ ¬ Y g' ∧ g' ∉ SS.flatten ∧ g' ∉ Z := by
    rcases k4 with h4 | h4
    · exact ⟨(hvm _ h4).1, fun hY => (hvm _ h4).2 (.inl hY), fun hk => (hSS _ hk).2.2.2 (.inr (.inr h4)), fun hk => (hvm _ h4).2 (.inr hk)⟩
    · exact ⟨by omega, fun hY => by have := h.own g' (.inl hY); omega, fun hk => by have := hSS _ hk; omega, fun hk => by have := hZZ _ hk; omega⟩
  have hmem : ∀ k, k ∈ (Value.slice (some ⟨g', 0, none⟩) (pre.length + 1) c').ownBlock.toList ++ (SS ++ [Z]).flatten → k = g' ∨ k ∈ SS.flatten ∨ k ∈ Z := fun k hk => by
    simp only [Value.ownBlock, Option.toList_some, List.flatten_append, List.flatten_singleton, List.mem_append, List.mem_singleton] at hk
    exact hk
  have hrow : GRow (F.putObj (M + 1) (.loop (rec .ready none))) A (.slice (some ⟨g', 0, none⟩) (pre.length + 1) c') (pre ++ [g]) (l ++ [⟨g, sv, kv, gv⟩]) (SS ++ [Z]) := by
    refine hr.push ?_ (hg.same _ (fun k hk => hWF.block k (hZZ k hk).2.1 (hZZ k hk).2.2)) (fun k hk => hWF.block k (hSS k hk).2.1 (hSS k hk).2.2.2) ?_
    · rw [← grows_snoc]
      refine hbp.owns k2 (fun y hy h => ?_)
      have : g' = y := by simpa [Value.ownBlock] using hy
      omega
    · simp only [Value.ownBlock, Option.toList_some, List.flatten_append, List.flatten_singleton, List.singleton_append, List.nodup_cons, List.mem_append, List.nodup_append]
      exact ⟨fun h => h.elim hg'.2.2.1 hg'.2.2.2, n2, hZ, fun a ha b hb' e => (hSS a ha).2.2.1 (.inr (e ▸ hb'))⟩
  refine ⟨hr3, ⟨⟨some ⟨g', 0, none⟩, c', _, _, ?_, by rw [hl]; exact hrow, fun k hk => ?_⟩, ?_, ?_, ?_, ?_, World.putObj_heap_same (Array.getElem?_eq_some_iff.1 hr3).1, fun k hk => ?_, Nat.le_trans hs hWF.size⟩, hWF.size, fun k hY hk => hWF.block k hk (fun h1 => ?_)⟩
  · rw [hl]; exact hbp.at k1 (by omega)
  · rw [hl] at hk
    rcases hmem k hk with rfl | h1 | h1
    · exact ⟨hg'.1, hg'.2.1⟩
    · exact ⟨(hSS k h1).1, fun hY => (hSS k h1).2.2.1 (.inl hY)⟩
    · exact ⟨(hZZ k h1).1, fun hY => hZY k h1 hY⟩
  all_goals try (refine hWF.at ?_ (fun h1 => ?_); first | exact h.box1 | exact h.box2 | exact h.defs)
  · rcases h1 with h1 | h1 | h1
    · omega
    · omega
    · have := hvm _ h1; omega
  · rcases h1 with h1 | h1 | h1
    · omega
    · omega
    · have := hvm _ h1; omega
  · rcases h1 with h1 | h1 | h1
    · omega
    · omega
    · have := hvm _ h1; omega
  · refine h.below.trans (hWF.below (by omega) (fun k hk => ?_))
    rcases hk with h1 | h1 | h1
    · omega
    · omega
    · have := hvm _ h1; omega
  · exact ⟨(h.own k (.inl hk)).1, Nat.lt_of_lt_of_le (h.own k (.inl hk)).2 hWF.size⟩
  · have h2 := h.own k (.inl hY)
    rcases h1 with h1 | h1 | h1
    · omega
    · omega
    · exact (hvm _ h1).2 (.inl hY)
end Go.Proofs.YtlclfmjpnchmbaaGreat

/- What holds between the rounds of impl.tellOfEach. No conditions. -/
namespace Go.Proofs.YtlclfmjpnchmbaaGreat
open Go.ChangeShapes Go.WideShapes Go.ChangeAt Go.RowKit Go.Shelf

/-- What stays throughout: the boxes, the marks, what the told body asks. -/
structure EF (W0 : World) (A L l : Nat) (v : Value) (p : X) (su u : Value) (J : Inv G) (pre0 : List G) (Y : Nat → Prop) (marks : List Nat) (W : World) : Prop where
  pbox : Six W A p.op p.at_ p.n p.s su u 32
  tbox : W.heap[A + 1]? = some (.cells #[.func (.yield l) #[] #[]] 90)
  rbox : W.heap[A + 2]? = some (.cells #[.bool false] 4)
  lbox : W.heap[L]? = some (.cells #[v] 27)
  below : Below A W0 W
  outer : J pre0 W (fun k => Y k ∨ (A ≤ k ∧ k < W.heap.size))
  marks : ∀ r ∈ marks, W.heap[r]? = some (.deferred (some []))
  le : A + 3 ≤ L
theorem EF.step {W0 : World} {A L l : Nat} {v : Value} {p : X} {su u : Value} {J : Inv G} {pre0 : List G} {Y : Nat → Prop} {marks : List Nat} {W W' : World} (hs : J.Stable) (h : EF W0 A L l v p su u J pre0 Y marks W) {S : Nat → Prop} (hb : But S W W') (hS : ∀ k, S k → A + 3 ≤ k ∧ k ≠ L ∧ k ∉ marks) : EF W0 A L l v p su u J pre0 Y marks W' := by
  have hl := (Array.getElem?_eq_some_iff.1 h.lbox).1
  have hle := h.le
  refine ⟨hb.at h.pbox (fun hk => by have := hS _ hk; omega), hb.at h.tbox (fun hk => by have := hS _ hk; omega), hb.at h.rbox (fun hk => by have := hS _ hk; omega), hb.at h.lbox (fun hk => (hS _ hk).2.1 rfl), h.below.trans (hb.below (by omega) (fun k hk => by have := hS _ hk; omega)), ?_, fun r hr => hb.at (h.marks r hr) (fun hk => (hS _ hk).2.2 hr), hle⟩
  refine hs _ _ _ _ _ h.outer (hb.mono (fun k hk hSk => .inr ⟨by have := hS _ hSk; omega, hk⟩)) (fun k hk => ?_)
  rcases hk with hk | ⟨h1, h2⟩
  · exact .inl (.inl hk)
  · rcases Nat.lt_or_ge k W.heap.size with h3 | h3
    · exact .inl (.inr ⟨h1, h3⟩)
    · exact .inr ⟨h3, h2⟩
/-- What the names have got, these of the kid at hand among them. -/
def withK (base : Nat → List G) (pre : List G) : Nat → List G := fun j => base j ++ (if j < pre.length then [pre.getD j .no] else [])
theorem withK_nil (base : Nat → List G) : withK base [] = base := by
  funext j; simp [withK]
theorem withK_snoc (base : Nat → List G) (pre : List G) (g : G) : upd (withK base pre) pre.length (withK base pre pre.length ++ [g]) = withK base (pre ++ [g]) := by
  funext j
  unfold upd withK
  by_cases hj : j = pre.length
  · subst hj
    simp
  · rw [if_neg hj]
    rcases Nat.lt_or_ge j pre.length with h | h
    · rw [if_pos h, if_pos (by simp; omega)]
      simp [List.getD_eq_getElem?_getD, List.getElem?_append_left h]
    · rw [if_neg (by omega), if_neg (by simp; omega)]

structure EJ (W0 : World) (A L l : Nat) (v : Value) (p : X) (su u : Value) (J : Inv G) (pre0 : List G) (Y : Nat → Prop) (marks : List Nat) (ns : List (ByteArray × Int)) (K M : Nat) (rec : LoopState → Option Code → Loop) (base : Nat → List G) (pre : List G) (W : World) (Y2 : Nat → Prop) : Prop where
  ef : EF W0 A L l v p su u J pre0 Y marks W
  rows : ∃ gv ll SSs, ER W A v ns (withK base pre) gv ll SSs ∧ ∀ k, (v.ownBlock = some k ∨ ∃ j, j < ns.length ∧ k ∈ blG (gv j) (SSs j)) → A + 3 ≤ k ∧ k ≠ L ∧ k ∉ marks ∧ (k < K ∨ M + 2 ≤ k) ∧ ¬ Y2 k
  next : W.heap[K + 1]? = some (.cells #[.int .i64 pre.length] 3)
  defs : W.heap[M]? = some (.deferred (some []))
  loop : W.heap[M + 1]? = some (.loop (rec .ready none))
  own : ∀ k, Y2 k → M + 2 ≤ k ∧ k < W.heap.size
  size : M + 2 ≤ W.heap.size

section
variable {W0 : World} {A L l : Nat} {v : Value} {p : X} {su u : Value} {J : Inv G} {pre0 : List G} {Y : Nat → Prop} {marks : List Nat} {ns : List (ByteArray × Int)} {K M : Nat} {rec : LoopState → Option Code → Loop} {base : Nat → List G}

theorem ej_stable (hs : J.Stable) (hK : L < K) (hM : K + 4 = M) (hm : ∀ r ∈ marks, r < K) : Inv.Stable (fun pre W Y2 => EJ W0 A L l v p su u J pre0 Y marks ns K M rec base pre W Y2) := by
  intro pre B B' Y2 Y2' h hb hx
  have hle := h.ef.le
  have ne : ∀ k, k < M + 2 → ¬ Y2 k := fun k hk hY => by have := h.own k hY; omega
  obtain ⟨gv, ll, SSs, her, hbk⟩ := h.rows
  refine ⟨h.ef.step hs hb (fun k hk => ?_), ⟨gv, ll, SSs, her.same (fun k hk => hb.block k (her.lt hk).2 (hbk k hk).2.2.2.2), fun k hk => ?_⟩, hb.at h.next (ne _ (by omega)), hb.at h.defs (ne _ (by omega)), hb.at h.loop (ne _ (by omega)), fun k hk => ?_, Nat.le_trans h.size hb.size⟩
  · have := h.own k hk
    exact ⟨by omega, by omega, fun hr => by have := hm k hr; omega⟩
  · obtain ⟨h1, h2, h0, h3, h4⟩ := hbk k hk
    refine ⟨h1, h2, h0, h3, fun hY => ?_⟩
    rcases hx k hY with h5 | ⟨h5, _⟩
    · exact h4 h5
    · have := (her.lt hk).2; omega
  · rcases hx k hk with h1 | ⟨h1, h2⟩
    · exact ⟨(h.own k h1).1, Nat.lt_of_lt_of_le (h.own k h1).2 hb.size⟩
    · have := h.size
      exact ⟨by omega, h2⟩

/-- One is told. -/
theorem ej_told (hs : J.Stable) (hK : L < K) (hM : K + 4 = M) (hm : ∀ r ∈ marks, r < K) {W Wc F : World} {pre : List G} {Y2 : Nat → Prop} {Z : List Nat} {g : G} {a b c : Value} {gv : Nat → Value} {ll : Nat → List GR} {SSs : Nat → List (List Nat)} {g' c' : Nat}
    (h : EJ W0 A L l v p su u J pre0 Y marks ns K M rec base pre W (fun k => Y2 k ∨ k ∈ Z)) (her : ER W A v ns (withK base pre) gv ll SSs)
    (hbk : ∀ k, (v.ownBlock = some k ∨ ∃ j, j < ns.length ∧ k ∈ blG (gv j) (SSs j)) → A + 3 ≤ k ∧ k ≠ L ∧ k ∉ marks ∧ (k < K ∨ M + 2 ≤ k) ∧ ¬ (Y2 k ∨ k ∈ Z)) (hj : pre.length < ns.length)
    (hg : GOwn W g a b c Z) (hZ : Z.Nodup) (hZY : ∀ k ∈ Z, ¬ Y2 k) (hWc : But (fun k => k = M + 1) W Wc) (hsz : W.heap.size < Wc.heap.size) (hbusy : Wc.heap[M + 1]? = some (.loop (rec .busy none)))
    (k2 : F.ownsRow A 48 9 (.slice (some ⟨g', 0, none⟩) ((withK base pre pre.length).length + 1) c') ((withK base pre pre.length).length + 1) (grows (ll pre.length ++ [⟨g, a, b, c⟩]))) (k4 : (gv pre.length).ownBlock = some g' ∨ Wc.heap.size ≤ g')
    (k3 : But (fun k => k = K + 1 ∨ v.ownBlock = some k ∨ (gv pre.length).ownBlock = some k) Wc F) (knext : F.heap[K + 1]? = some (.cells #[.int .i64 ((pre.length + 1 : Nat) : Int)] 3))
    (krow : F.ownsRow A 48 9 v ns.length (grows (erows ns (upd (withK base pre) pre.length (withK base pre pre.length ++ [g])) (upd gv pre.length (.slice (some ⟨g', 0, none⟩) ((withK base pre pre.length).length + 1) c'))))) :
    F.heap[M + 1]? = some (.loop (rec .busy none)) ∧ EJ W0 A L l v p su u J pre0 Y marks ns K M rec base (pre ++ [g]) (F.putObj (M + 1) (.loop (rec .ready none))) Y2 ∧ Keeps Y2 W (F.putObj (M + 1) (.loop (rec .ready none))) := by
  have hle := h.ef.le
  have hsW := h.size
  have hov : ∀ k, v.ownBlock = some k → A + 3 ≤ k ∧ k ≠ L ∧ k ∉ marks ∧ (k < K ∨ M + 2 ≤ k) ∧ ¬ (Y2 k ∨ k ∈ Z) := fun k hk => hbk k (.inl hk)
  have hog : ∀ k, (gv pre.length).ownBlock = some k → A + 3 ≤ k ∧ k ≠ L ∧ k ∉ marks ∧ (k < K ∨ M + 2 ≤ k) ∧ ¬ (Y2 k ∨ k ∈ Z) := fun k hk => hbk k (.inr ⟨_, hj, List.mem_append_left _ (by rw [hk]; simp)⟩)
  have hr3 := k3.at hbusy (fun h1 => by
    rcases h1 with h1 | h1 | h1
    · omega
    · have := hov _ h1; omega
    · have := hog _ h1; omega)
  have hbp : But (fun k => k = M + 1) F (F.putObj (M + 1) (.loop (rec .ready none))) := (But.refl (fun k => k = M + 1) F).putObj (.inr rfl) _
  have hWF : But (fun k => k = M + 1 ∨ k = K + 1 ∨ v.ownBlock = some k ∨ (gv pre.length).ownBlock = some k) W (F.putObj (M + 1) (.loop (rec .ready none))) := ((hWc.mono (fun k _ h => .inl h)).step k3 (fun k _ h => .inr h)).step hbp (fun k _ h => .inl h)
  have hZZ : ∀ k ∈ Z, M + 2 ≤ k ∧ k < W.heap.size := fun k hk => h.own k (.inr hk)
  have hcell : ∀ k, (v.ownBlock = some k ∨ (gv pre.length).ownBlock = some k) → k ∉ marks := fun k hk => by
    rcases hk with hk | hk
    · exact (hov k hk).2.2.1
    · exact (hog k hk).2.2.1
  have hER := her.grow (F := F.putObj (M + 1) (.loop (rec .ready none))) hj hg hZ
    (fun k hk => ⟨fun i hi h1 => (hbk k (.inr ⟨i, hi, h1⟩)).2.2.2.2 (.inr hk), fun h1 => (hov k h1).2.2.2.2 (.inr hk), by have := hZZ k hk; omega⟩)
    (hbp.owns k2 (fun y hy h1 => by
      have e : g' = y := by simpa [Value.ownBlock] using hy
      rcases k4 with h4 | h4
      · have := hog g' h4; omega
      · omega)) (k4.imp id (fun h4 => by omega))
    (fun k hk hn => hWF.block k (by
      rcases hk with hk | hk
      · exact (hZZ k hk).2
      · exact (her.lt (.inr hk)).2) (fun h1 => by
      have hkk : k ≠ M + 1 ∧ k ≠ K + 1 := by
        rcases hk with hk | hk
        · have := hZZ k hk; omega
        · have := hbk k (.inr hk); omega
      rcases h1 with h1 | h1 | h1
      · exact hkk.1 h1
      · exact hkk.2 h1
      · exact hn h1))
    (hbp.owns krow (fun y hy h1 => by have := hov y hy; omega))
  rw [withK_snoc] at hER
  have hg' : A + 3 ≤ g' ∧ g' ≠ L ∧ g' ∉ marks ∧ (g' < K ∨ M + 2 ≤ g') ∧ ¬ Y2 g' := by
    rcases k4 with h4 | h4
    · have := hog g' h4
      exact ⟨this.1, this.2.1, this.2.2.1, this.2.2.2.1, fun hY => this.2.2.2.2 (.inl hY)⟩
    · exact ⟨by omega, by omega, fun hr => by have := hm g' hr; omega, by omega, fun hY => by have := h.own g' (.inl hY); omega⟩
  have hbl : ∀ k i, i < ns.length → k ∈ blG (upd gv pre.length (.slice (some ⟨g', 0, none⟩) ((withK base pre pre.length).length + 1) c') i) (upd SSs pre.length (SSs pre.length ++ [Z]) i) → k = g' ∨ k ∈ Z ∨ ∃ j, j < ns.length ∧ k ∈ blG (gv j) (SSs j) := fun k i hi hk => by
    by_cases hij : i = pre.length
    · rw [hij, upd_same, upd_same] at hk
      simp only [blG, Value.ownBlock, Option.toList_some, List.flatten_append, List.flatten_singleton, List.mem_append, List.mem_singleton] at hk
      rcases hk with hk | hk | hk
      · exact .inl hk
      · exact .inr (.inr ⟨_, hj, List.mem_append_right _ hk⟩)
      · exact .inr (.inl hk)
    · rw [upd_other _ _ hij, upd_other _ _ hij] at hk
      exact .inr (.inr ⟨i, hi, hk⟩)
  refine ⟨hr3, ⟨h.ef.step hs hWF (fun k hk => ?_), ⟨_, _, _, hER, fun k hk => ?_⟩, ?_, ?_, World.putObj_heap_same (Array.getElem?_eq_some_iff.1 hr3).1, fun k hk => ⟨(h.own k (.inl hk)).1, Nat.lt_of_lt_of_le (h.own k (.inl hk)).2 hWF.size⟩, Nat.le_trans hsW hWF.size⟩, hWF.size, fun k hY hk => hWF.block k hk (fun h1 => ?_)⟩
  · rcases hk with hk | hk | hk
    · exact ⟨by omega, by omega, fun hr => by have := hm k hr; omega⟩
    · exact ⟨by omega, by omega, fun hr => by have := hm k hr; omega⟩
    · refine ⟨?_, ?_, hcell k hk⟩
      · rcases hk with hk | hk
        · exact (hov k hk).1
        · exact (hog k hk).1
      · rcases hk with hk | hk
        · exact (hov k hk).2.1
        · exact (hog k hk).2.1
  · have hcase : k = g' ∨ k ∈ Z ∨ (v.ownBlock = some k ∨ ∃ j, j < ns.length ∧ k ∈ blG (gv j) (SSs j)) := by
      rcases hk with hk | ⟨i, hi, hk⟩
      · exact .inr (.inr (.inl hk))
      · rcases hbl k i hi hk with h1 | h1 | h1
        · exact .inl h1
        · exact .inr (.inl h1)
        · exact .inr (.inr (.inr h1))
    rcases hcase with rfl | h1 | h1
    · exact hg'
    · have := hZZ k h1
      exact ⟨by omega, by omega, fun hr => by have := hm k hr; omega, by omega, hZY k h1⟩
    · have := hbk k h1
      exact ⟨this.1, this.2.1, this.2.2.1, this.2.2.2.1, fun hY => this.2.2.2.2 (.inl hY)⟩
  · have : (pre ++ [g]).length = pre.length + 1 := by simp
    rw [this]
    exact hbp.at knext (by omega)
  · refine hWF.at h.defs (fun h1 => ?_)
    rcases h1 with h1 | h1 | h1 | h1
    · omega
    · omega
    · have := hov _ h1; omega
    · have := hog _ h1; omega
  · have h2 := h.own k (.inl hY)
    rcases h1 with h1 | h1 | h1 | h1
    · omega
    · omega
    · exact (hov k h1).2.2.2.2 (.inl hY)
    · exact (hog k h1).2.2.2.2 (.inl hY)

/-- What stays while the names are told, the first j of them told. -/
def keepE (A L : Nat) (v : Value) (marks : List Nat) (n : Nat) (gv : Nat → Value) (SSs : Nat → List (List Nat)) (j k : Nat) : Prop := (A ≤ k ∧ k ≤ A + 2) ∨ k = L ∨ v.ownBlock = some k ∨ k ∈ marks ∨ ∃ i, j ≤ i ∧ i < n ∧ k ∈ blG (gv i) (SSs i)
structure EL (A L : Nat) (v : Value) (J : Inv G) (pre : List G) (Y : Nat → Prop) (marks : List Nat) (n : Nat) (gv : Nat → Value) (SSs : Nat → List (List Nat)) (Wf : World) (j : Nat) (W : World) (Yc : Nat → Prop) : Prop where
  jj : J pre W Yc
  kept : ∀ k, keepE A L v marks n gv SSs j k → Yc k ∧ W.heap[k]? = Wf.heap[k]?
  old : ∀ k, Y k → Yc k
  size : Wf.heap.size ≤ W.heap.size
theorem el_start {Wf : World} {gv : Nat → Value} {ll : Nat → List GR} {SSs : Nat → List (List Nat)} {Ls : Nat → List G} (h : EF W0 A L l v p su u J pre0 Y marks Wf) (her : ER Wf A v ns Ls gv ll SSs) (hmk : ∀ r ∈ marks, A ≤ r) : EL A L v J pre0 Y marks ns.length gv SSs Wf 0 Wf (fun k => Y k ∨ (A ≤ k ∧ k < Wf.heap.size)) := by
  have hle := h.le
  have hl := (Array.getElem?_eq_some_iff.1 h.lbox).1
  refine ⟨h.outer, fun k hk => ⟨.inr ?_, rfl⟩, fun k hk => .inl hk, Nat.le_refl _⟩
  rcases hk with hk | hk | hk | hk | ⟨i, _, hi, hk⟩
  · omega
  · omega
  · have := her.lt (.inl hk); omega
  · exact ⟨hmk k hk, (Array.getElem?_eq_some_iff.1 (h.marks k hk)).1⟩
  · have := her.lt (.inr ⟨i, hi, hk⟩); omega
/-- The next name's. -/
theorem el_next {Wf W Wb : World} {gv : Nat → Value} {ll : Nat → List GR} {SSs : Nat → List (List Nat)} {Ls : Nat → List G} {pre : List G} {Yc : Nat → Prop} {j N : Nat} {w0 : World} {Jx : World → (Nat → Prop) → Prop} (T : Teller l N w0 J Jx) (her : ER Wf A v ns Ls gv ll SSs) (hbk : ∀ k i, i < ns.length → k ∈ blG (gv i) (SSs i) → A + 3 ≤ k ∧ k ≠ L ∧ k ∉ marks) (hj : j < ns.length) (hY : ∀ k, Y k → k < A)
    (h : EL A L v J pre Y marks ns.length gv SSs Wf j W Yc) (hb : Below W.heap.size W Wb) {S : List Nat} (hS : ∀ k ∈ S, k ∈ blG (gv j) (SSs j)) (hSn : S.Nodup) {g : G} {a b c : Value} (hg : GOwn Wf g a b c S) (hN : pre.length < N) :
    YieldAt Fence.wide 0 Tryz.prog l #[aggG g a b c, .bool true] Wb fun e W' => e = .returned (.bool true) ∧ EL A L v J (pre ++ [g]) Y marks ns.length gv SSs Wf (j + 1) W' (fun k => Yc k ∧ k ∉ S) := by
  have hlt : ∀ k, Yc k → k < W.heap.size := fun k hk => T.lt _ _ _ h.jj k hk
  have hkS : ∀ k ∈ S, keepE A L v marks ns.length gv SSs j k := fun k hk => .inr (.inr (.inr (.inr ⟨j, Nat.le_refl _, hj, hS k hk⟩)))
  have hgW : GOwn Wb g a b c S := hg.same _ (fun k hk => (hb.block k (hlt k (h.kept k (hkS k hk)).1)).trans (h.kept k (hkS k hk)).2)
  have hjj : J pre Wb (fun k => (Yc k ∧ k ∉ S) ∨ k ∈ S) := T.stab _ _ _ _ _ h.jj (But.of_all hb) (fun k hk => by
    rcases hk with hk | hk
    · exact .inl hk.1
    · exact .inl (h.kept k (hkS k hk)).1)
  refine YieldAt.mono' (T.told pre g a b c S Wb (fun k => Yc k ∧ k ∉ S) hjj hgW hSn (fun k hk hn => hn.2 hk) hN) (fun e W' hp => ⟨hp.1, hp.2.1, fun k hk => ?_, fun k hk => ⟨h.old k hk, fun hs => ?_⟩, Nat.le_trans h.size (Nat.le_trans hb.size hp.2.2.1)⟩)
  · have hk0 : keepE A L v marks ns.length gv SSs j k := by
      rcases hk with hk | hk | hk | hk | ⟨i, h1, h2, h3⟩
      · exact .inl hk
      · exact .inr (.inl hk)
      · exact .inr (.inr (.inl hk))
      · exact .inr (.inr (.inr (.inl hk)))
      · exact .inr (.inr (.inr (.inr ⟨i, by omega, h2, h3⟩)))
    have hnS : k ∉ S := fun hs => by
      have hb1 := hbk k j hj (hS k hs)
      rcases hk with hk | hk | hk | hk | ⟨i, h1, h2, h3⟩
      · omega
      · exact hb1.2.1 hk
      · exact her.off j hj k (hS k hs) hk
      · exact hb1.2.2 hk
      · exact her.dis j i hj h2 (by omega) k (hS k hs) h3
    obtain ⟨h1, h2⟩ := h.kept k hk0
    exact ⟨⟨h1, hnS⟩, (hp.2.2.2 k ⟨h1, hnS⟩ (Nat.lt_of_lt_of_le (hlt k h1) hb.size)).trans ((hb.block k (hlt k h1)).trans h2)⟩
  · have := hY k hk
    have := hbk k j hj (hS k hs)
    omega
/-- All are told. -/
theorem el_end {Wf W W' : World} {gv : Nat → Value} {SSs : Nat → List (List Nat)} {pre : List G} {Yc : Nat → Prop} {j : Nat} (hs : J.Stable) (h : EL A L v J pre Y marks ns.length gv SSs Wf j W Yc) {S : Nat → Prop} (hb : But S W W') (hS : ∀ k, S k → keepE A L v marks ns.length gv SSs j k) : J pre W' Y :=
  hs _ _ _ _ _ h.jj (hb.mono (fun k _ hk => (h.kept k (hS k hk)).1)) (fun k hk => .inl (h.old k hk))
end
end Go.Proofs.YtlclfmjpnchmbaaGreat

/- One more for a name of impl.tellOfEach, by an append to its row and a store of the slice. No conditions. -/
namespace Go.Proofs.YtlclfmjpnchmbaaGreat
open Go.ChangeShapes Go.WideShapes Go.ChangeAt Go.RowKit Go.Shelf

/-- What is so when one is told. -/
structure ET (W0 : World) (A L l : Nat) (g0 cv : Nat) (p : X) (su u : Value) (J : Inv G) (pre0 : List G) (Y : Nat → Prop) (marks : List Nat) (ns : List (ByteArray × Int)) (K M : Nat) (rec : LoopState → Option Code → Loop) (base : Nat → List G) (pre : List G) (W Wc : World) (Y2 : Nat → Prop) (Z : List Nat) (q : GR) (gv : Nat → Value) (ll : Nat → List GR) (SSs : Nat → List (List Nat)) : Prop where
  stab : J.Stable
  hK : L < K
  hM : K + 4 = M
  hm : ∀ r ∈ marks, r < K
  ej : EJ W0 A L l (.slice (some ⟨g0, 0, none⟩) ns.length cv) p su u J pre0 Y marks ns K M rec base pre W (fun k => Y2 k ∨ k ∈ Z)
  er : ER W A (.slice (some ⟨g0, 0, none⟩) ns.length cv) ns (withK base pre) gv ll SSs
  bk : ∀ k, ((Value.slice (some ⟨g0, 0, none⟩) ns.length cv).ownBlock = some k ∨ ∃ j, j < ns.length ∧ k ∈ blG (gv j) (SSs j)) → A + 3 ≤ k ∧ k ≠ L ∧ k ∉ marks ∧ (k < K ∨ M + 2 ≤ k) ∧ ¬ (Y2 k ∨ k ∈ Z)
  lt : pre.length < ns.length
  own : GOwn W q.g q.sv q.kv q.gv Z
  nd : Z.Nodup
  ny : ∀ k ∈ Z, ¬ Y2 k
  but : But (fun k => k = M + 1) W Wc
  sz : W.heap.size < Wc.heap.size
  busy : Wc.heap[M + 1]? = some (.loop (rec .busy none))
section
variable {W0 : World} {A L l g0 cv : Nat} {p : X} {su u : Value} {J : Inv G} {pre0 : List G} {Y : Nat → Prop} {marks : List Nat} {ns : List (ByteArray × Int)} {K M : Nat} {rec : LoopState → Option Code → Loop} {base : Nat → List G} {pre : List G} {W Wc D : World} {Y2 : Nat → Prop} {Z : List Nat} {q : GR} {gv : Nat → Value} {ll : Nat → List GR} {SSs : Nat → List (List Nat)}

theorem ET.gown (E : ET W0 A L l g0 cv p su u J pre0 Y marks ns K M rec base pre W Wc Y2 Z q gv ll SSs) {k : Nat} (hk : (gv pre.length).ownBlock = some k) : A + 3 ≤ k ∧ k ≠ L ∧ k ≠ g0 ∧ (k < K ∨ M + 2 ≤ k) ∧ k < W.heap.size := by
  have hin : k ∈ blG (gv pre.length) (SSs pre.length) := List.mem_append_left _ (by rw [hk]; simp)
  have h1 := E.bk k (.inr ⟨_, E.lt, hin⟩)
  exact ⟨h1.1, h1.2.1, fun e => E.er.off _ E.lt k hin (by rw [e]; rfl), h1.2.2.2.1, (E.er.lt (.inr ⟨_, E.lt, hin⟩)).2⟩
theorem ET.row (E : ET W0 A L l g0 cv p su u J pre0 Y marks ns K M rec base pre W Wc Y2 Z q gv ll SSs) (hD : But (fun _ => False) Wc D) : D.ownsRow A 48 9 (gv pre.length) (withK base pre pre.length).length (grows (ll pre.length)) :=
  hD.owns (E.but.owns (E.er.each _ E.lt).row (fun k hk e => by have := E.gown hk; have := E.hM; have := E.ej.size; omega)) (fun _ _ h => h)
/-- What is so behind the append. -/
structure EP (A L K g0 cv g' c' n j : Nat) (ns : List (ByteArray × Int)) (x : Value) (v' : Value) (w3 : World) : Prop where
  eq : v' = .slice (some ⟨g', 0, none⟩) (n + 1) c'
  list : w3.cell? ⟨L, 0, none⟩ = some (.slice (some ⟨g0, 0, none⟩) ns.length cv)
  next : w3.cell? ⟨K + 1, 0, none⟩ = some (.int .i64 j)
  nextf : w3.frozen? ⟨K + 1, 0, none⟩ = false
  old : w3.cell? ⟨g0, j * 9 + 8, none⟩ = some x
  oldf : w3.frozen? ⟨g0, j * 9 + 8, none⟩ = false
  ne0 : g' ≠ g0
  ne1 : g' ≠ K + 1
  ne2 : g0 ≠ K + 1
  ne3 : g' ≠ L
  ne4 : g0 ≠ L
  cells : ∀ t, t < 9 → ∃ u, w3.cell? ⟨g', n * 9 + t, none⟩ = some u
  live : ∀ t, w3.frozen? ⟨g', t, none⟩ = false
  box : w3.heap[K + 1]? = some (.cells #[.int .i64 j] 3)
  row : ∃ xs, w3.ownsRow A 48 9 v' (n + 1) xs
/-- What is so behind the store of the slice. -/
structure E5 (K g' n j : Nat) (w5 : World) : Prop where
  box : w5.heap[K + 1]? = some (.cells #[.int .i64 j] 3)
  cells : ∀ t, t < 9 → ∃ u, w5.cell? ⟨g', n * 9 + t, none⟩ = some u
  live : ∀ t, w5.frozen? ⟨g', t, none⟩ = false
theorem EP.five {A L K g0 cv g' c' n j : Nat} {ns : List (ByteArray × Int)} {x v' : Value} {w3 : World} (P : EP A L K g0 cv g' c' n j ns x v' w3) (o : Nat) (z : Value) : E5 K g' n j (w3.setCell ⟨g0, o, none⟩ z) := by
  obtain ⟨xs, hr⟩ := P.row
  have hv := P.eq
  subst hv
  have hb : (w3.setCell ⟨g0, o, none⟩ z).heap[K + 1]? = some (.cells #[.int .i64 j] 3) := (Below.heap_setCell _ _ _ _ (by exact fun e => P.ne2 e.symm)).trans P.box
  have h5 : (w3.setCell ⟨g0, o, none⟩ z).ownsRow A 48 9 (.slice (some ⟨g', 0, none⟩) (n + 1) c') (n + 1) xs := own_sameX hr (fun k hk => by
    have hk' : g' = k := by simpa [Value.ownBlock] using hk
    exact Below.heap_setCell _ _ _ _ (by rw [← hk']; exact P.ne0))
  refine ⟨hb, fun t ht => ?_, fun t => h5.frozenAt t⟩
  have hlen : xs.length = (n + 1) * 9 := h5.1
  have hl2 : n * 9 + t < xs.length := by rw [hlen]; omega
  exact ⟨_, (h5.cellAt (n * 9 + t) (by rw [← hlen]; exact hl2)).trans (List.getElem?_eq_getElem hl2)⟩
theorem ET.at3 (E : ET W0 A L l g0 cv p su u J pre0 Y marks ns K M rec base pre W Wc Y2 Z q gv ll SSs) (hD : But (fun _ => False) Wc D) {w3 : World} (r2 : D.grownBy w3 (gv pre.length).ownBlock) : But (fun k => k = M + 1 ∨ (gv pre.length).ownBlock = some k) W w3 :=
  ((E.but.mono (fun _ _ h => .inl h)).step hD (fun _ _ h => h.elim)).grown r2 (fun _ hk => .inr (.inr hk))
theorem ET.pushed (E : ET W0 A L l g0 cv p su u J pre0 Y marks ns K M rec base pre W Wc Y2 Z q gv ll SSs) (hD : But (fun _ => False) Wc D) {v' : Value} {w3 : World} {news : List Value} {n : Nat}
    (r1 : w3.ownsRow A 48 9 v' (n + 1) (grows (ll pre.length) ++ news)) (r2 : D.grownBy w3 (gv pre.length).ownBlock) (r3 : v'.ownBlock = (gv pre.length).ownBlock ∨ v'.ownBlock = some D.heap.size) :
    ∃ g' c', EP A L K g0 cv g' c' n pre.length ns (gv pre.length) v' w3 := by
  obtain ⟨g', c', hv'⟩ := ownsRow_succ r1
  subst hv'
  have h3 := E.at3 hD r2
  have hsz := E.ej.size
  have hM := E.hM
  have hK := E.hK
  have hle := E.ej.ef.le
  have hgo : ∀ k, (k = M + 1 ∨ (gv pre.length).ownBlock = some k) → k ≠ L ∧ k ≠ K + 1 ∧ k ≠ g0 := fun k hk => by
    have h0 := E.bk g0 (.inl rfl)
    rcases hk with hk | hk
    · exact ⟨by omega, by omega, by omega⟩
    · have := E.gown hk
      exact ⟨this.2.1, by omega, this.2.2.1⟩
  have hg0 := E.bk g0 (.inl rfl)
  have hg0l := (E.er.lt (.inl rfl : (Value.slice (some ⟨g0, 0, none⟩) ns.length cv).ownBlock = some g0 ∨ _)).2
  have hbl := h3.at E.ej.ef.lbox (fun h => (hgo _ h).1 rfl)
  have hbn := h3.at E.ej.next (fun h => (hgo _ h).2.1 rfl)
  have hrow : w3.ownsRow A 48 9 (.slice (some ⟨g0, 0, none⟩) ns.length cv) ns.length (grows (erows ns (withK base pre) gv)) := h3.owns E.er.row (fun k hk h => (hgo k h).2.2 (by simpa [Value.ownBlock] using hk.symm))
  have hDs : W.heap.size ≤ D.heap.size := Nat.le_trans (Nat.le_of_lt E.sz) hD.size
  have hLl := (Array.getElem?_eq_some_iff.1 E.ej.ef.lbox).1
  have hg' : g' ≠ g0 ∧ g' ≠ K + 1 ∧ g' ≠ L := by
    rcases r3 with h | h
    · have h2 : (gv pre.length).ownBlock = some g' := h.symm.trans rfl
      have := E.gown h2
      exact ⟨this.2.2.1, by omega, this.2.1⟩
    · have h2 : g' = D.heap.size := by simpa [Value.ownBlock] using h
      exact ⟨by omega, by omega, by omega⟩
  have hlt := E.lt
  refine ⟨g', c', rfl, cell_of_row w3 _ 0 _ _ _ hbl, cell_of_row w3 _ 0 _ _ _ hbn, frozen_of_row w3 _ 0 _ _ hbn, ?_, hrow.frozenAt _, hg'.1, hg'.2.1, by omega, hg'.2.2, hg0.2.1, fun t ht => ?_, fun t => r1.frozenAt t, hbn, ⟨_, r1⟩⟩
  · exact (hrow.cellAt (pre.length * 9 + 8) (by omega)).trans (grows_get _ (erows_at ns _ gv E.lt) (by omega))
  · have hlen : (grows (ll pre.length) ++ news).length = (n + 1) * 9 := r1.1
    have hl2 : n * 9 + t < (grows (ll pre.length) ++ news).length := by rw [hlen]; omega
    exact ⟨_, (r1.cellAt (n * 9 + t) (by rw [← hlen]; exact hl2)).trans (List.getElem?_eq_getElem hl2)⟩
/-- The end: the slice is stored, the next name is meant. -/
theorem ET.done (E : ET W0 A L l g0 cv p su u J pre0 Y marks ns K M rec base pre W Wc Y2 Z q gv ll SSs) (hD : But (fun _ => False) Wc D) {g' c' n : Nat} (hnn : (withK base pre pre.length).length = n) {v' : Value} {w3 w4 : World} (P : EP A L K g0 cv g' c' n pre.length ns (gv pre.length) v' w3)
    (r1 : w4.ownsRow A 48 9 v' (n + 1) (grows (ll pre.length ++ [q]))) (r2 : But (fun k => (gv pre.length).ownBlock = some k) D w4) (r3 : v'.ownBlock = (gv pre.length).ownBlock ∨ v'.ownBlock = some D.heap.size) (F : World) (hF : F = (w4.setCell ⟨g0, pre.length * 9 + 8, none⟩ v').setCell ⟨K + 1, 0, none⟩ (.int .i64 (pre.length + 1))) :
    F.heap[M + 1]? = some (.loop (rec .busy none)) ∧ EJ W0 A L l (.slice (some ⟨g0, 0, none⟩) ns.length cv) p su u J pre0 Y marks ns K M rec base (pre ++ [q.g]) (F.putObj (M + 1) (.loop (rec .ready none))) Y2 ∧ Keeps Y2 W (F.putObj (M + 1) (.loop (rec .ready none))) := by
  subst hF
  have hv' := P.eq
  subst hv'
  subst hnn
  have hsz := E.ej.size
  have hM := E.hM
  have hDc := hD.size
  have hbD : But (fun k => (gv pre.length).ownBlock = some k) Wc w4 := (hD.mono (fun _ _ h => h.elim)).step r2 (fun _ _ h => h)
  have hbW : But (fun k => k = M + 1 ∨ (gv pre.length).ownBlock = some k) W w4 := (E.but.mono (fun _ _ h => .inl h)).step hbD (fun _ _ h => .inr h)
  have hg0 := E.bk g0 (.inl rfl)
  have hrow : w4.ownsRow A 48 9 (.slice (some ⟨g0, 0, none⟩) ns.length cv) ns.length (grows (erows ns (withK base pre) gv)) := hbW.owns E.er.row (fun k hk h => by
    have hk0 : k = g0 := by simpa [Value.ownBlock] using hk.symm
    rcases h with h | h
    · omega
    · exact (E.gown h).2.2.1 hk0)
  have hst := (hrow.stored (pre.length * 9 + 8) (.slice (some ⟨g', 0, none⟩) ((withK base pre pre.length).length + 1) c')).1
  rw [erows_set ns (withK base pre) gv E.lt (withK base pre pre.length ++ [q.g])] at hst
  have hnx := hbW.at E.ej.next (fun h => by
    rcases h with h | h
    · omega
    · have := E.gown h; omega)
  refine ej_told E.stab E.hK E.hM E.hm E.ej E.er E.bk E.lt E.own E.nd E.ny E.but E.sz E.busy (g' := g') (c' := c') ?_ ?_ ?_ ?_ ?_
  · refine own_sameX r1 (fun k hk => ?_)
    have hk' : g' = k := by simpa [Value.ownBlock] using hk
    exact (Below.heap_setCell _ _ _ _ (by rw [← hk']; exact P.ne1)).trans (Below.heap_setCell _ _ _ _ (by rw [← hk']; exact P.ne0))
  · rcases r3 with h | h
    · exact .inl (h.symm.trans rfl)
    · have h2 : g' = D.heap.size := by simpa [Value.ownBlock] using h
      exact .inr (by omega)
  · exact ((hbD.mono (fun k _ h => .inr (.inr h))).setCell (.inr (.inr (.inl rfl))) _).setCell (.inr (.inl rfl)) _
  · have := heap_setCell_same (w4.setCell ⟨g0, pre.length * 9 + 8, none⟩ (.slice (some ⟨g', 0, none⟩) ((withK base pre pre.length).length + 1) c')) (K + 1) 0 _ _ (.int .i64 (pre.length + 1)) ((Below.heap_setCell _ _ _ _ (by exact fun e => P.ne2 e.symm)).trans hnx)
    rw [this]
    simp
  · exact own_sameX hst (fun k hk => Below.heap_setCell _ _ _ _ (by
      have hk' : g0 = k := by simpa [Value.ownBlock] using hk
      rw [← hk']; exact P.ne2))
end
end Go.Proofs.YtlclfmjpnchmbaaGreat
