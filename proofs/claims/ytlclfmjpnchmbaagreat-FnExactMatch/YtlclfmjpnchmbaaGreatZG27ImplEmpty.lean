/- A region that draws its order, within a round: by what holds of all its worlds. No conditions. -/
import Derived.Test.YtlclfmjpnchmbaaGreatZG12InDots
import Derived.Test.YtlclfmjpnchmbaaGreatZG16GotRead
import Derived.Test.YtlclfmjpnchmbaaGreatZG13ImplKids
import Derived.Test.YtlclfmjpnchmbaaGreatZG14ImplNames
import Derived.Test.YtlclfmjpnchmbaaGreatZG15GotP
import Derived.Deep.RegionHeld
import Derived.OrdersIn
import Derived.Deep.AppendLies
namespace Go.Proofs.YtlclfmjpnchmbaaGreat
open Go.RowKit

variable {P : Program} {ops : Array Oper} {Q : Exit → Act → World → Prop} {l n : Nat}

theorem upon_in {o : Oper} {a : Act} {K K' : Act → World → Prop} (hK : ∀ a w, K a w → K' a w) : ∀ r : Result Next, o.upon P a K Q r → o.uponIn (Fence.wide.inRound l) n P a K' Q r := by
  intro r h
  match r, h with
  | .ok (.value v) w', h => exact hK _ _ h
  | .ok .skip w', h => exact hK _ _ h
  | .ok (.defer d) w', h => exact hK _ _ h
  | .ok (.enter f args) w', h =>
    refine ⟨fun hh => (by simp [Fence.wide] at hh), CallsIn.inRound l (callsIn_wide.2 (h.mono ?_))⟩
    intro e w'' he
    match e, he with
    | .returned v, he => exact hK _ _ he
    | .panicked c, he => exact he
    | .outgrown, he => exact he
  | .ok (.row row args) w', h =>
    refine ⟨fun hh => (by simp [Fence.wide] at hh), fun c cs _ => ?_⟩
    obtain ⟨v, w'', hr, hs⟩ := h c cs
    exact ⟨v, w'', hK _ _ hr, stepsIn_wide.2 hs⟩
  | .halt (.panic v) w', h => exact h

theorem wp_in {o : Oper} {a : Act} {w : World} {K K' : Act → World → Prop} (hd : ∀ c, o.op ≠ .defer c) (hK : ∀ a w, K a w → K' a w) (h : o.wp P a w K Q) : o.wpIn (Fence.wide.inRound l) n P a w K' Q := by
  refine ⟨fun _ _ => trivial, ?_⟩
  rw [Oper.semAt_eq _ _ _ hd]
  exact upon_in hK _ h

theorem any_in (md : Region.Mode) (hd : ∀ (i : Nat) (o : Oper), ops[i]? = some o → ∀ c, o.op ≠ .defer c) (hQ : ∀ a w, ¬ Q .outgrown a w) : ∀ (fuel : Nat) (listed : Array Bool) (a : Act) (w : World), wpAny P md ops Q fuel listed a w → wpAnyIn (Fence.wide.inRound l) n P md ops Q fuel listed a w
  | 0, _, _, _, h => h
  | fuel + 1, listed, a, w, h => by
    refine ⟨h.1, fun i hi => ?_⟩
    have h2 := h.2 i hi
    unfold wpOp at h2
    unfold wpOpIn
    cases ho : ops[i]? with
    | none => rw [ho] at h2; exact any_in md hd hQ fuel _ _ _ h2
    | some o =>
      rw [ho] at h2
      simp only at h2 ⊢
      by_cases hw : Region.wanted o (yielded ops a.tmps) = true
      · rw [if_pos hw] at h2 ⊢
        rcases h2 with h2 | ⟨_, a', w', h2⟩
        · exact wp_in (hd i o ho) (fun a w hk => any_in md hd hQ fuel _ a w hk) h2
        · exact absurd h2 (hQ a' w')
      · rw [if_neg hw] at h2 ⊢
        exact ⟨fun _ _ => trivial, any_in md hd hQ fuel _ _ _ h2⟩

/-- No operation puts a call off. -/
def noDefer (ops : Array Oper) : Bool := ops.all fun o => match o.op with | .defer _ => false | _ => true
theorem noDefer_spec (h : noDefer ops = true) : ∀ (i : Nat) (o : Oper), ops[i]? = some o → ∀ c, o.op ≠ .defer c := by
  intro i o ho c hc
  unfold noDefer at h
  rw [Array.all_eq_true] at h
  obtain ⟨hi, he⟩ := Array.getElem?_eq_some_iff.1 ho
  have := h i hi
  rw [he, hc] at this
  cases this

theorem wpIn_round_held {S : World → Prop} {id sz : Nat} {a : Act} {w : World} (hm : P.follows .mixedOrders = true) (hd : noDefer ops = true) (hsz : ops.size = sz) (hQ : ∀ a w, ¬ Q .outgrown a w)
    (h : S w.drew → wpAnyH P .any ops Q S sz (Array.replicate sz false) a w.drew) (hS : S w.drew := by trivial) : (Code.region id ops true).wpIn (Fence.wide.inRound l) n P Q a w := by
  subst hsz
  exact wpIn_region_any hm (any_in .any (noDefer_spec hd) hQ _ _ _ _ (wpAny_of_held _ _ _ _ (h hS)))
/-- The same outside of a round. -/
theorem wp_held {S : World → Prop} {id sz : Nat} {a : Act} {w : World} (hm : P.follows .mixedOrders = true) (hsz : ops.size = sz)
    (h : S w.drew → wpAnyH P .any ops Q S sz (Array.replicate sz false) a w.drew) (hS : S w.drew := by trivial) : (Code.region id ops true).wp P Q a w := by
  subst hsz
  exact wp_region_held_drew hm hS h
end Go.Proofs.YtlclfmjpnchmbaaGreat

/- One more put behind a row of Gots whose slice lies in a box. No conditions. -/
namespace Go.Proofs.YtlclfmjpnchmbaaGreat
open Go.ChangeShapes Go.WideShapes Go.ChangeAt Go.RowKit

theorem set_commG (w : World) (b1 o1 b2 o2 : Nat) (x y : Value) (h : b1 ≠ b2) : (w.setCell ⟨b1, o1, none⟩ x).setCell ⟨b2, o2, none⟩ y = (w.setCell ⟨b2, o2, none⟩ y).setCell ⟨b1, o1, none⟩ x := by
  unfold World.setCell
  simp only
  congr 1
  apply Array.ext_getElem?
  intro i
  simp only [Array.getElem?_modify]
  by_cases h1 : b1 = i
  · have h2 : ¬ b2 = i := by omega
    simp only [h1, h2, if_true, if_false]
  · by_cases h2 : b2 = i
    · simp only [h1, h2, if_true, if_false]
    · simp only [h1, h2, if_false]
theorem put9_comm (w : World) (g p : Nat) (q : GR) (b o : Nat) (x : Value) (h : b ≠ g) : put9 (w.setCell ⟨b, o, none⟩ x) g p q = (put9 w g p q).setCell ⟨b, o, none⟩ x := by
  unfold put9
  rw [set_commG w b o g p x _ h, set_commG _ b o g (p + 1) x _ h, set_commG _ b o g (p + 2) x _ h, set_commG _ b o g (p + 3) x _ h, set_commG _ b o g (p + 4) x _ h, set_commG _ b o g (p + 5) x _ h, set_commG _ b o g (p + 6) x _ h, set_commG _ b o g (p + 7) x _ h, set_commG _ b o g (p + 8) x _ h]
/-- Nine cells of nothing. -/
abbrev zeros9 : List Value := [.string ⟨#[]⟩, .int .i64 0, .int .i64 0, .int .i64 0, .int .i64 0, .string ⟨#[]⟩, .slice none 0 0, .slice none 0 0, .slice none 0 0]

/-- What is so behind the append. -/
structure Pushed (Wb w3 : World) (A1 g n c : Nat) (v : Value) (ty : TypeId) : Prop where
  ne : A1 ≠ g
  box : w3.heap[A1]? = some (.cells #[v] ty)
  cells : ∀ j, j < 9 → ∃ u, w3.cell? ⟨g, n * 9 + j, none⟩ = some u
  live : ∀ j, w3.frozen? ⟨g, j, none⟩ = false
theorem got_pushed {Wb w3 : World} {B A1 g n c : Nat} {v : Value} {l : List GR} {tmp : Obj} {ty : TypeId} (hbox : Wb.heap[A1]? = some (.cells #[v] ty)) (hne : v.ownBlock ≠ some A1)
    (hown3 : w3.ownsRow B 48 9 (.slice (some ⟨g, 0, none⟩) (n + 1) c) (n + 1) (grows l ++ zeros9)) (hg3 : (Wb.alloc tmp).drew.grownBy w3 v.ownBlock)
    (hwh : (Value.slice (some ⟨g, 0, none⟩) (n + 1) c).ownBlock = v.ownBlock ∨ (Value.slice (some ⟨g, 0, none⟩) (n + 1) c).ownBlock = some (Wb.alloc tmp).drew.heap.size) : Pushed Wb w3 A1 g n c v ty := by
  have hA := (Array.getElem?_eq_some_iff.1 hbox).1
  have hgA : A1 ≠ g := by
    rintro rfl
    rcases hwh with h | h
    · exact hne (h.symm.trans rfl)
    · have h2 : A1 = (Wb.alloc tmp).drew.heap.size := by simpa [Value.ownBlock] using h
      have h3 : (Wb.alloc tmp).drew.heap.size = Wb.heap.size + 1 := by show (Wb.alloc tmp).heap.size = _; simp
      omega
  refine ⟨hgA, ?_, fun j hj => ?_, fun j => hown3.frozenAt j⟩
  · refine (hg3.block A1 (by show A1 < (Wb.alloc tmp).heap.size; simp; omega) (fun e => hne e.symm)).trans ?_
    exact (Below.heap_alloc Wb tmp A1 hA).trans hbox
  · have hlen : (grows l ++ zeros9).length = (n + 1) * 9 := hown3.1
    have hlt : n * 9 + j < (grows l ++ zeros9).length := by rw [hlen]; omega
    exact ⟨_, (hown3.cellAt (n * 9 + j) (by rw [← hlen]; exact hlt)).trans (List.getElem?_eq_getElem hlt)⟩
/-- .. and behind the stores. -/
theorem got_pushed_end {Wb w3 : World} {B A1 g n c : Nat} {v : Value} {l : List GR} {tmp : Obj} {ty : TypeId} (hp : Pushed Wb w3 A1 g n c v ty) (hl : l.length = n)
    (hown3 : w3.ownsRow B 48 9 (.slice (some ⟨g, 0, none⟩) (n + 1) c) (n + 1) (grows l ++ zeros9)) (hg3 : (Wb.alloc tmp).drew.grownBy w3 v.ownBlock)
    (hwh : (Value.slice (some ⟨g, 0, none⟩) (n + 1) c).ownBlock = v.ownBlock ∨ (Value.slice (some ⟨g, 0, none⟩) (n + 1) c).ownBlock = some (Wb.alloc tmp).drew.heap.size) (q : GR) (F : World) (hF : F = (put9 w3 g (n * 9) q).setCell ⟨A1, 0, none⟩ (.slice (some ⟨g, 0, none⟩) (n + 1) c)) :
    F.heap[A1]? = some (.cells #[.slice (some ⟨g, 0, none⟩) (n + 1) c] ty) ∧ F.ownsRow B 48 9 (.slice (some ⟨g, 0, none⟩) (n + 1) c) (n + 1) (grows (l ++ [q])) ∧ But (fun k => k = A1 ∨ v.ownBlock = some k) Wb F ∧ (v.ownBlock = some g ∨ g = Wb.heap.size + 1) ∧ g < F.heap.size := by
  subst hF
  have h1 := own_put9 hown3 (by simp) q
  rw [hl] at h1
  obtain ⟨o1, g1⟩ := h1
  have hw : v.ownBlock = some g ∨ g = Wb.heap.size + 1 := by
    rcases hwh with h | h
    · exact .inl (h.symm.trans rfl)
    · have h2 : g = (Wb.alloc tmp).drew.heap.size := by simpa [Value.ownBlock] using h
      have h3 : (Wb.alloc tmp).drew.heap.size = Wb.heap.size + 1 := by show (Wb.alloc tmp).heap.size = _; simp
      exact .inr (by omega)
  have hbut : But (fun k => k = A1 ∨ v.ownBlock = some k) Wb ((put9 w3 g (n * 9) q).setCell ⟨A1, 0, none⟩ (.slice (some ⟨g, 0, none⟩) (n + 1) c)) := by
    refine (((((But.refl _ Wb).alloc tmp).drew).grown hg3 (fun k hk => .inr (.inr hk))).grown g1 (fun k hk => ?_)).setCell (.inr (.inl rfl)) _
    injection hk with hk
    rcases hw with h | h
    · exact .inr (.inr (by rw [← hk]; exact h))
    · exact .inl (by omega)
  have ho2 : ((put9 w3 g (n * 9) q).setCell ⟨A1, 0, none⟩ (.slice (some ⟨g, 0, none⟩) (n + 1) c)).ownsRow B 48 9 (.slice (some ⟨g, 0, none⟩) (n + 1) c) (n + 1) (grows (l ++ [q])) := by
    rw [grows_snoc]
    have e : gcells q ++ zeros9.drop 9 = gcells q := by simp
    rw [e] at o1
    exact own_sameX o1 (fun g' hg' => Below.heap_setCell _ _ _ _ (by
      have : g = g' := by simpa [Value.ownBlock] using hg'
      rw [← this]
      exact fun e => hp.ne e.symm))
  refine ⟨?_, ho2, hbut, hw, (ho2.lt g rfl).2⟩
  exact heap_setCell_same _ A1 0 _ _ _ ((put9_other w3 g (n * 9) q A1 hp.ne).trans hp.box)
end Go.Proofs.YtlclfmjpnchmbaaGreat

/- impl.emptyGots: what the names of a pattern are where nothing stands for it. Condition: at most 2^21 parts. -/
namespace Go.Proofs.YtlclfmjpnchmbaaGreat
open Go.ChangeShapes Go.WideShapes Go.ChangeAt Go.RowKit Go.Shelf
attribute [local go_sem] Oper.semAt_some

/-- A name without anything got. -/
def emptyG (x : ByteArray × Int) : G := .mk x.1 (x.2 + 1) zeroX 0 (fun _ => .no)
def emptyR (x : ByteArray × Int) : GR := ⟨emptyG x, .slice none 0 0, .slice none 0 0, .slice none 0 0⟩

theorem flatTo_mem {α : Type} {f : Nat → List α} {y : α} (k : Nat) (h : y ∈ flatTo f k) : ∃ i, i < k ∧ y ∈ f i := by
  induction k with
  | zero => simp [flatTo] at h
  | succ k ih =>
    rw [flatTo] at h
    rcases List.mem_append.1 h with h | h
    · obtain ⟨i, hi, hy⟩ := ih h
      exact ⟨i, by omega, hy⟩
    · exact ⟨k, by omega, h⟩
theorem names_deep (t : X) : ∀ d, ∀ y ∈ namesD t d, d ≤ y.2 ∧ y.2 ≤ d + t.count := by
  induction t with
  | no => intro d y hy; simp [namesD] at hy
  | mk op a n s set len kid ih =>
    intro d y hy
    have hc : (X.mk op a n s set len kid).count = 1 + sumX (fun i => (kid i).count) len := rfl
    rw [namesD] at hy
    rcases List.mem_append.1 hy with hy | hy
    · split at hy
      · simp only [List.mem_singleton] at hy
        rw [hy]
        simp only
        omega
      · simp at hy
    · obtain ⟨i, hi, hy⟩ := flatTo_mem len hy
      have h1 := ih i _ y hy
      have h2 := sumX_at (fun i => (kid i).count) i len hi
      have h3 : kidDeep len kid d i = d ∨ kidDeep len kid d i = d + 1 := by unfold kidDeep; split <;> simp
      omega
/-- Three new blocks. -/
theorem three_new (w : World) (o1 o2 o3 : Obj) : ∃ W, ((w.alloc o1).alloc o2).alloc o3 = W ∧ W.heap[w.heap.size]? = some o1 ∧ W.heap[w.heap.size + 1]? = some o2 ∧ W.heap[w.heap.size + 1 + 1]? = some o3 ∧ W.heap.size = w.heap.size + 3 ∧ Below w.heap.size w W := by
  have a : ∀ (w : World) (o : Obj) (k : Nat), (w.alloc o).heap[k]? = if k = w.heap.size then some o else w.heap[k]? := fun w o k => Array.getElem?_push
  refine ⟨_, rfl, ?_, ?_, ?_, by simp, (((Below.refl _ w).alloc (Nat.le_refl _) _).alloc (by simp) _).alloc (by simp; omega) _⟩
  all_goals
    simp only [a, World.size_alloc]
    repeat rw [if_neg (by omega)]
    simp

set_option maxRecDepth 100000 in
set_option maxHeartbeats 4000000 in
theorem empty_gots (t : X) (su u : Value) (w : World) (hin : t.At 0 w su u) (hc : t.count ≤ 2097152) :
    Calls Tryz.prog 89 #[.agg #[.int .i64 t.op, .int .i64 t.at_, .int .i64 t.n, .string t.s, su, u]] w fun e w' => ∃ v, e = .returned v ∧ Below w.heap.size w w' ∧ w'.ownsRow w.heap.size 48 9 v (namesD t 0).length (grows ((namesD t 0).map emptyR)) := by
  obtain ⟨p2, c2, e2⟩ := hin.xs.shape
  obtain ⟨p1, c1, e1⟩ := hin.sets.shape
  have HIN : Hid (t.At 0 w su u) := hin
  have HC : Hid (t.count ≤ 2097152) := hc
  clear hin hc
  subst e1 e2
  refine callsIn_wide (n := 0).1 ?_
  refine callsIn_of_wp_marks Tryz.func89 rfl trivial ?_ rfl
  simp only [Tryz.ntmps89, List.size_toArray, List.length_cons, List.length_nil, Nat.reduceAdd, Nat.reduceSub, Array.replicate_succ, Array.replicate_zero, List.push_toArray, List.append_toArray, List.nil_append, List.cons_append]
  gi_wp2
  refine ⟨trivial, rfl, (callsIn_wide.2 (names_seq t _ _ _ _ _ _ _)).mono ?_⟩
  rintro e w1 ⟨rfl, rfl⟩
  gi_wp2
  obtain ⟨W2, hW2, -, a1, a2, asz, ab⟩ := three_new w (.cells #[.int .i64 t.op, .int .i64 t.at_, .int .i64 t.n, .string t.s, .slice p1 t.set.length c1, .slice p2 t.len c2] 32) (.cells #[.slice none 0 0] 27) (.cells #[.int .i64 t.op, .int .i64 t.at_, .int .i64 t.n, .string t.s, .slice p1 t.set.length c1, .slice p2 t.len c2] 32)
  rw [hW2]
  obtain ⟨A, hA⟩ : ∃ x, x = w.heap.size := ⟨_, rfl⟩
  have HA : Hid (A = w.heap.size) := hA
  rw [← hA] at a1 a2 asz ⊢
  clear hW2
  refine wpIn_rf (gf := 67) (lb := #[.pointer (some ⟨A + 1 + 1, 0, none⟩)]) rfl (enters_of Tryz.func67 (by kernel_rfl) rfl) ?_
  intro fn rec hrec
  obtain ⟨M, hM⟩ : ∃ x, x = W2.heap.size := ⟨_, rfl⟩
  rw [← hM] at hrec asz ⊢
  obtain ⟨W3, hW3⟩ : ∃ W3, (W2.alloc (.deferred (some []))).alloc (.loop (rec .ready none)) = W3 := ⟨_, rfl⟩
  have b3 : Below W2.heap.size W2 W3 := by rw [← hW3]; exact (newx _ _).trans ((newx _ _).mono (by simp))
  have d3 : W3.heap[M]? = some (.deferred (some [])) := by rw [← hW3, hM, Below.heap_alloc _ _ _ (by simp)]; exact heap_alloc_new _ _
  have l3 : W3.heap[M + 1]? = some (.loop (rec .ready none)) := by rw [← hW3, hM]; have := heap_alloc_new (W2.alloc (.deferred (some []))) (.loop (rec .ready none)); rwa [World.size_alloc] at this
  have s3 : W3.heap.size = M + 2 := by rw [← hW3, hM]; simp
  rw [hW3]
  have e1 := (b3.block (A + 1) (by omega)).trans a1
  have e2 := (b3.block (A + 1 + 1) (by omega)).trans a2
  have hb0 : Below w.heap.size w W3 := ab.trans (b3.mono (by omega))
  obtain ⟨J, hJd⟩ : ∃ J : Inv (ByteArray × Int), J = fun pre W X => (∃ pk ck, W.heap[A + 1]? = some (.cells #[.slice pk pre.length ck] 27) ∧ W.ownsRow A 48 9 (.slice pk pre.length ck) pre.length (grows (pre.map emptyR)) ∧ ∀ g, (Value.slice pk pre.length ck).ownBlock = some g → M + 2 ≤ g ∧ ¬ X g) ∧ W.heap[M]? = some (.deferred (some [])) ∧ Below w.heap.size w W ∧
      W.heap[M + 1]? = some (.loop (rec .ready none)) ∧ (∀ k, X k → M + 2 ≤ k ∧ k < W.heap.size) ∧ M + 2 ≤ W.heap.size := ⟨_, rfl⟩
  refine (names_iter (M + 1) (A + 1 + 1) t _ _ w HIN.out HC.out J (fun _ _ => False) ?hJs ?hJb ?hY W3 e2 ?h0).mono ?_
  case hJs =>
    intro pre B B' X X' hj hbut hx
    rw [hJd] at hj ⊢
    obtain ⟨⟨pk, ck, f1, f2, f3⟩, f4, f5, f6, f7, f8⟩ := hj
    have ne : ∀ k, k < M + 2 → ¬ X k := fun k hk hX => by have := f7 k hX; omega
    refine ⟨⟨pk, ck, hbut.at f1 (ne _ (by omega)), hbut.owns f2 (fun g hg => (f3 g hg).2), fun g hg => ⟨(f3 g hg).1, fun hX' => ?_⟩⟩, hbut.at f4 (ne _ (by omega)), f5.trans (hbut.below f5.size (fun k hk => by have := f7 k hk; omega)), hbut.at f6 (ne _ (by omega)), fun k hk => ?_, Nat.le_trans f8 hbut.size⟩
    · rcases hx g hX' with h | ⟨h, -⟩
      · exact (f3 g hg).2 h
      · have := (f2.lt g hg).2
        omega
    · rcases hx k hk with h | ⟨h, h'⟩
      · exact ⟨(f7 k h).1, Nat.lt_of_lt_of_le (f7 k h).2 hbut.size⟩
      · exact ⟨by omega, h'⟩
  case hJb =>
    intro pre B X hj
    rw [hJd] at hj
    exact hj.2.2.1
  case h0 =>
    rw [hJd]
    exact ⟨⟨none, 0, e1, World.ownsRow_nil _ _ _ _, fun g hg => by simp [Value.ownBlock] at hg⟩, d3, hb0, l3, fun _ h => h.elim, by omega⟩
  case hY =>
    intro pre x W X hj hsz hpf
    rw [hJd] at hj ⊢
    obtain ⟨⟨pk, ck, f1, f2, f3⟩, f4, f5, f6, f7, f8⟩ := hj
    have hlen : pre.length + 1 ≤ 2097152 := by
      have h1 := hpf.length_le
      have h2 := namesD_len t 0
      have h3 := HC.out
      rw [List.length_append] at h1
      simp at h1
      omega
    have HDEEP : Hid (0 ≤ x.2 ∧ x.2 ≤ 2097152) := by
      have h1 := names_deep t 0 x (hpf.subset (by simp))
      have h2 := HC.out
      show _ ∧ _
      omega
    obtain ⟨Wb, hWb⟩ : ∃ Wb, W.putObj (M + 1) (.loop (rec .busy none)) = Wb := ⟨_, rfl⟩
    have HWB : Hid (Wb.heap[A + 1]? = some (.cells #[.slice pk pre.length ck] 27) ∧ Wb.ownsRow A 48 9 (.slice pk pre.length ck) pre.length (grows (pre.map emptyR)) ∧ Wb.heap[M]? = some (.deferred (some [])) ∧ Below w.heap.size w Wb ∧ Wb.heap[M + 1]? = some (.loop (rec .busy none)) ∧ Wb.heap.size = W.heap.size ∧ But (fun k => k = M + 1) W Wb) := by
      have hbw : But (fun k => k = M + 1) W Wb := by rw [← hWb]; exact (But.refl (fun k => k = M + 1) W).putObj (.inr rfl) _
      refine ⟨hbw.at f1 (by omega), hbw.owns f2 (fun g hg => by have := f3 g hg; omega), hbw.at f4 (by omega), f5.trans (hbw.below f5.size (fun k hk => by omega)), by rw [← hWb]; exact World.putObj_heap_same (Array.getElem?_eq_some_iff.1 f6).1, by rw [← hWb]; simp, hbw⟩
    have HM2 : Hid (M = A + 3 ∧ (∀ k, X k → M + 2 ≤ k ∧ k < W.heap.size) ∧ M + 2 ≤ W.heap.size ∧ A = w.heap.size ∧ ∀ g, (Value.slice pk pre.length ck).ownBlock = some g → M + 2 ≤ g ∧ ¬ X g) := ⟨by omega, f7, f8, HA.out, f3⟩
    refine yieldAt_of hrec f6 rfl ?_
    have HF8 : Hid (W.heap[M + 1]? = some (.loop (rec .ready none))) := f6
    clear hrec hM hW3 b3 d3 l3 s3 e1 e2 hb0 hJd f1 f2 f3 f4 f5 f6 f7 f8 a1 a2 asz ab hA HA hpf HIN J
    gi_wp2
    refine ⟨HF8.out, ?_⟩
    rw [hWb]
    clear hWb
    have x1 : Wb.cell? ⟨A + 1, 0, none⟩ = some (.slice pk pre.length ck) := cell_of_row Wb _ 0 _ _ _ HWB.out.1
    have x1a : ∀ o, (Wb.alloc o).cell? ⟨A + 1, 0, none⟩ = some (.slice pk pre.length ck) := fun o => (World.cell?_of_block (w := Wb) (Below.heap_alloc Wb o (A + 1) (Array.getElem?_eq_some_iff.1 HWB.out.1).1)).trans x1
    have x1f : Wb.frozen? ⟨A + 1, 0, none⟩ = false := frozen_of_row Wb _ 0 _ _ HWB.out.1
    obtain ⟨i0, hi, hz0, hz1, hz2⟩ := info_parts got_info
    have hdp := HDEEP.out
    have HDP : Hid (IntKind.i64.wrap (x.2 + 1) = x.2 + 1) := IntWalk.i64_in _ (by omega)
    gi_wp2
    refine wpIn_round_held (S := fun _ => True) (sz := 11) (by kernel_rfl) (by kernel_rfl) rfl (fun _ _ h => ?_) (fun _ => ?_)
    · exact (h : False)
    refine wpAnyH_take (i := 1) (oi := { dst := some 11, op := Op.move (Operand.tmp 4), type := 9, pos := "l07_match.go:167", after := #[], guard := none }) (v := .string x.1) rfl (by kernel_rfl) (by kernel_rfl) (by kernel_rfl) (fun _ _ _ h => h) (Or.inl ⟨by rfl, ?_⟩) trivial ?_
    · intro wq _
      go_simp
    try simp only [Act.put, List.setIfInBounds_toArray, List.set_cons_zero, List.set_cons_succ]
    refine wpAnyH_take (i := 2) (oi := { dst := some 12, op := Op.move (Operand.tmp 5), type := 3, pos := "l07_match.go:167", after := #[], guard := none }) (v := .int .i64 x.2) rfl (by kernel_rfl) (by kernel_rfl) (by kernel_rfl) (fun _ _ _ h => h) (Or.inl ⟨by rfl, ?_⟩) trivial ?_
    · intro wq _
      go_simp
    try simp only [Act.put, List.setIfInBounds_toArray, List.set_cons_zero, List.set_cons_succ]
    refine wpAnyH_take (i := 3) (oi := { dst := some 13, op := Op.binOp BinOp.add 3 (Operand.tmp 12) (Operand.const (Value.int IntKind.i64 1)) 3, type := 3, pos := "l07_match.go:167", after := #[{ on := 2, ground := Ground.data }], guard := none }) (v := .int .i64 (x.2 + 1)) rfl (by kernel_rfl) (by kernel_rfl) (by kernel_rfl) (fun _ _ _ h => h) (Or.inl ⟨by rfl, ?_⟩) trivial ?_
    · intro wq _
      go_simp; exact HDP.out
    try simp only [Act.put, List.setIfInBounds_toArray, List.set_cons_zero, List.set_cons_succ]
    refine wpAnyH_take (i := 4) (oi := { dst := some 14, op := Op.build 48 #[(0, Operand.tmp 11), (1, Operand.tmp 13)], type := 48, pos := "l07_match.go:167", after := #[{ on := 1, ground := Ground.data }, { on := 3, ground := Ground.data }], guard := none }) (v := .agg #[.string x.1, .int .i64 (x.2 + 1), .int .i64 0, .int .i64 0, .int .i64 0, .string ⟨#[]⟩, .slice none 0 0, .slice none 0 0, .slice none 0 0]) rfl (by kernel_rfl) (by kernel_rfl) (by kernel_rfl) (fun _ _ _ h => h) (Or.inl ⟨by rfl, ?_⟩) trivial ?_
    · intro wq _
      go_simp
    try simp only [Act.put, List.setIfInBounds_toArray, List.set_cons_zero, List.set_cons_succ]
    refine wpAnyH_ready (rs := [0, 6]) (by kernel_rfl) (by simp) ?_
    refine AllReadyH.cons (o := { dst := some 10, op := Op.load 27 (Operand.tmp 3), type := 27, pos := "l07_match.go:167", after := #[], guard := none }) rfl (fun K hK => ?_) (AllReadyH.cons (o := { dst := some 16, op := Op.buildSlice 27 1 #[(0, Operand.const (Value.agg #[Value.string { data := #[] }, Value.int IntKind.i64 0, Value.int IntKind.i64 0, Value.int IntKind.i64 0, Value.int IntKind.i64 0, Value.string { data := #[] }, Value.slice none 0 0, Value.slice none 0 0, Value.slice none 0 0]))], type := 27, pos := "l07_match.go:167", after := #[], guard := none }) rfl (fun K hK => ?_) AllReadyH.nil)
    case' refine_1 =>
      go_simp
      refine hK.out _ _ trivial (fun _ => ?_)
      clear hK K
      try simp only [Act.put, List.setIfInBounds_toArray, List.set_cons_zero, List.set_cons_succ]
      refine wpAnyH_take (i := 5) (oi := { dst := some 15, op := Op.call { callee := Callee.builtin Builtin.len, args := #[Operand.tmp 10], argTypes := #[27] }, type := 3, pos := "l07_match.go:167", after := #[{ on := 0, ground := Ground.data }], guard := none }) (v := .int .i64 pre.length) rfl (by kernel_rfl) (by kernel_rfl) (by kernel_rfl) (fun _ _ _ h => h) (Or.inl ⟨by rfl, ?_⟩) trivial ?_
      · intro wq _
        go_simp
      try simp only [Act.put, List.setIfInBounds_toArray, List.set_cons_zero, List.set_cons_succ]
      refine wpAnyH_ready (rs := [6]) (by kernel_rfl) (by simp) ?_
      refine AllReadyH.cons (o := { dst := some 16, op := Op.buildSlice 27 1 #[(0, Operand.const (Value.agg #[Value.string { data := #[] }, Value.int IntKind.i64 0, Value.int IntKind.i64 0, Value.int IntKind.i64 0, Value.int IntKind.i64 0, Value.string { data := #[] }, Value.slice none 0 0, Value.slice none 0 0, Value.slice none 0 0]))], type := 27, pos := "l07_match.go:167", after := #[], guard := none }) rfl (fun K hK => ?_) AllReadyH.nil
      go_simp
      refine hK.out _ _ trivial (fun _ => ?_)
      clear hK K
      try simp only [Act.put, List.setIfInBounds_toArray, List.set_cons_zero, List.set_cons_succ]
    case' refine_2 =>
      go_simp
      refine hK.out _ _ trivial (fun _ => ?_)
      clear hK K
      try simp only [Act.put, List.setIfInBounds_toArray, List.set_cons_zero, List.set_cons_succ]
      refine wpAnyH_ready (rs := [0]) (by kernel_rfl) (by simp) ?_
      refine AllReadyH.cons (o := { dst := some 10, op := Op.load 27 (Operand.tmp 3), type := 27, pos := "l07_match.go:167", after := #[], guard := none }) rfl (fun K hK => ?_) AllReadyH.nil
      go_simp
      refine hK.out _ _ trivial (fun _ => ?_)
      clear hK K
      try simp only [Act.put, List.setIfInBounds_toArray, List.set_cons_zero, List.set_cons_succ]
      refine wpAnyH_take (i := 5) (oi := { dst := some 15, op := Op.call { callee := Callee.builtin Builtin.len, args := #[Operand.tmp 10], argTypes := #[27] }, type := 3, pos := "l07_match.go:167", after := #[{ on := 0, ground := Ground.data }], guard := none }) (v := .int .i64 pre.length) rfl (by kernel_rfl) (by kernel_rfl) (by kernel_rfl) (fun _ _ _ h => h) (Or.inl ⟨by rfl, ?_⟩) trivial ?_
      · intro wq _
        go_simp
      try simp only [Act.put, List.setIfInBounds_toArray, List.set_cons_zero, List.set_cons_succ]
    all_goals
      refine wpAnyH_ready (rs := [7]) (by kernel_rfl) (by simp) ?_
      refine AllReadyH.cons (o := { dst := some 17, op := Op.call { callee := Callee.builtin Builtin.append, args := #[Operand.tmp 10, Operand.tmp 16], argTypes := #[27, 27] }, type := 27, pos := "l07_match.go:167", after := #[{ on := 0, ground := Ground.data }, { on := 6, ground := Ground.data }, { on := 0, ground := Ground.phase }, { on := 1, ground := Ground.phase }, { on := 2, ground := Ground.phase }, { on := 3, ground := Ground.phase }, { on := 4, ground := Ground.phase }, { on := 5, ground := Ground.phase }, { on := 6, ground := Ground.phase }], guard := none }) rfl (fun K hK => ?_) AllReadyH.nil
      refine step_append_at (by rfl) (.tmp 10) (.tmp 16) 27 (by rfl) A 48 i0 (.agg #[.string ⟨#[]⟩, .int .i64 0, .int .i64 0, .int .i64 0, .int .i64 0, .string ⟨#[]⟩, .slice none 0 0, .slice none 0 0, .slice none 0 0]) 9 136 Tryz.underlying27 hi hz0 hz1 hz2 rfl (by decide) (.slice pk pre.length ck) pre.length (grows (pre.map emptyR)) (by rfl) ((World.ownsRow.alloc HWB.out.2.1 _).drew) ⟨Wb.heap.size, 0, none⟩ 1 1 zeros9 (by rfl) (by rfl) (World.news_of_block (cs := #[.string ⟨#[]⟩, .int .i64 0, .int .i64 0, .int .i64 0, .int .i64 0, .string ⟨#[]⟩, .slice none 0 0, .slice none 0 0, .slice none 0 0]) (t := 48) (fr := (0, 0)) (heap_alloc_new Wb _)) (by simp [Value.oneCell']) (by unfold maxLen; omega) (by omega) (by have h1 := HM2.out; have h2 := HWB.out.2.2.2.2.2.1; simp; omega) (by decide) ?_
      intro v' w3 hown3 hg3 hwh3
      obtain ⟨g', c', hv'⟩ := ownsRow_succ hown3.out
      subst hv'
      have hp := got_pushed HWB.out.1 (fun e => by have := HM2.out.2.2.2.2 _ e; have := HM2.out.1; omega) hown3.out hg3.out hwh3.out
      obtain ⟨u0, hu0⟩ := hp.cells 0 (by omega)
      obtain ⟨u1, hu1⟩ := hp.cells 1 (by omega)
      obtain ⟨u2, hu2⟩ := hp.cells 2 (by omega)
      obtain ⟨u3, hu3⟩ := hp.cells 3 (by omega)
      obtain ⟨u4, hu4⟩ := hp.cells 4 (by omega)
      obtain ⟨u5, hu5⟩ := hp.cells 5 (by omega)
      obtain ⟨u6, hu6⟩ := hp.cells 6 (by omega)
      obtain ⟨u7, hu7⟩ := hp.cells 7 (by omega)
      obtain ⟨u8, hu8⟩ := hp.cells 8 (by omega)
      rw [Nat.add_zero] at hu0
      have hlv := hp.live
      have hne1 := hp.ne
      have hne2 : ¬ g' = A + 1 := fun e => hp.ne e.symm
      have y1 : w3.cell? ⟨A + 1, 0, none⟩ = some (.slice pk pre.length ck) := cell_of_row w3 _ 0 _ _ _ hp.box
      have y1f : w3.frozen? ⟨A + 1, 0, none⟩ = false := frozen_of_row w3 _ 0 _ _ hp.box
      have HE := got_pushed_end hp (l := pre.map emptyR) (by simp) hown3.out hg3.out hwh3.out (emptyR x) _ rfl
      have HFIN : Hid (∀ F, F = (put9 w3 g' (pre.length * 9) (emptyR x)).setCell ⟨A + 1, 0, none⟩ (.slice (some ⟨g', 0, none⟩) (pre.length + 1) c') → F.heap[M + 1]? = some (.loop (rec .busy none)) ∧ ((Ending.returned (.bool true) = Ending.returned (.bool true) ∧ ((∃ pk ck, (F.putObj (M + 1) (.loop (rec .ready none))).heap[A + 1]? = some (.cells #[.slice pk (pre ++ [x]).length ck] 27) ∧ (F.putObj (M + 1) (.loop (rec .ready none))).ownsRow A 48 9 (.slice pk (pre ++ [x]).length ck) (pre ++ [x]).length (grows ((pre ++ [x]).map emptyR)) ∧ ∀ g, (Value.slice pk (pre ++ [x]).length ck).ownBlock = some g → M + 2 ≤ g ∧ ¬ X g) ∧ (F.putObj (M + 1) (.loop (rec .ready none))).heap[M]? = some (.deferred (some [])) ∧ Below w.heap.size w (F.putObj (M + 1) (.loop (rec .ready none))) ∧
        (F.putObj (M + 1) (.loop (rec .ready none))).heap[M + 1]? = some (.loop (rec .ready none)) ∧ (∀ k, X k → M + 2 ≤ k ∧ k < (F.putObj (M + 1) (.loop (rec .ready none))).heap.size) ∧ M + 2 ≤ (F.putObj (M + 1) (.loop (rec .ready none))).heap.size) ∧ Keeps X W (F.putObj (M + 1) (.loop (rec .ready none)))) ∨ (Ending.returned (.bool true) = Ending.returned (.bool false) ∧ False))) := by
        rintro F rfl
        obtain ⟨k1, k2, k3, k4, k5⟩ := HE
        obtain ⟨m1, m2, m3, m4, m5⟩ := HM2.out
        obtain ⟨g1, g2, g3, g4, g5, g6, g7⟩ := HWB.out
        generalize (put9 w3 g' (pre.length * 9) (emptyR x)).setCell ⟨A + 1, 0, none⟩ (.slice (some ⟨g', 0, none⟩) (pre.length + 1) c') = F at *
        have nX : ∀ k, k < M + 2 → k ≠ A + 1 → ¬ (k = A + 1 ∨ (Value.slice pk pre.length ck).ownBlock = some k) := fun k hk hne h => by
          rcases h with h | h
          · exact hne h
          · have := m5 k h; omega
        have hg' : M + 2 ≤ g' ∧ ¬ X g' := by
          rcases k4 with h | h
          · exact m5 _ h
          · exact ⟨by omega, fun hX => by have := m2 _ hX; omega⟩
        have hr3 := k3.at g5 (nX _ (by omega) (by omega))
        have hbp : But (fun k => k = M + 1) F (F.putObj (M + 1) (.loop (rec .ready none))) := (But.refl (fun k => k = M + 1) F).putObj (.inr rfl) _
        have hWF : But (fun k => k = M + 1 ∨ k = A + 1 ∨ (Value.slice pk pre.length ck).ownBlock = some k) W (F.putObj (M + 1) (.loop (rec .ready none))) := ((g7.mono (fun k _ h => .inl h)).step k3 (fun k _ h => .inr h)).step hbp (fun k _ h => .inl h)
        have hl : (pre ++ [x]).length = pre.length + 1 := by simp
        refine ⟨hr3, .inl ⟨rfl, ⟨⟨some ⟨g', 0, none⟩, c', ?_, ?_, ?_⟩, hbp.at (k3.at g3 (nX _ (by omega) (by omega))) (by omega), ?_, World.putObj_heap_same (Array.getElem?_eq_some_iff.1 hr3).1, fun k hk => ⟨(m2 k hk).1, Nat.lt_of_lt_of_le (m2 k hk).2 hWF.size⟩, Nat.le_trans m3 hWF.size⟩, hWF.size, fun k hX hk => hWF.block k hk (fun h => ?_)⟩⟩
        · rw [hl]; exact hbp.at k1 (by omega)
        · rw [hl, List.map_append]
          refine hbp.owns k2 (fun y hy h => ?_)
          have : g' = y := by simpa [Value.ownBlock] using hy
          omega
        · intro y hy
          have : g' = y := by simpa [Value.ownBlock] using hy
          rw [← this]; exact hg'
        · exact g4.trans ((k3.below (by rw [← g6] at m3; omega) (fun k hk => by
            rcases hk with h | h
            · omega
            · have := m5 k h; omega)).trans (hbp.below (by have := k3.size; omega) (fun k hk => by omega)))
        · rcases h with h | h | h
          · have := m2 k hX; omega
          · have := m2 k hX; omega
          · exact (m5 k h).2 hX
      clear HE hown3 hg3 hwh3 hp
      refine hK.out _ _ trivial (fun _ => ?_)
      clear hK K
      try simp only [Act.put, List.setIfInBounds_toArray, List.set_cons_zero, List.set_cons_succ]
      refine wpAnyH_take (i := 8) (oi := { dst := some 18, op := Op.indexAddr 27 (Operand.tmp 17) (Operand.tmp 15), type := 0, pos := "l07_match.go:167", after := #[{ on := 7, ground := Ground.data }, { on := 5, ground := Ground.data }, { on := 0, ground := Ground.phase }, { on := 1, ground := Ground.phase }, { on := 2, ground := Ground.phase }, { on := 3, ground := Ground.phase }, { on := 4, ground := Ground.phase }, { on := 5, ground := Ground.phase }, { on := 6, ground := Ground.phase }, { on := 7, ground := Ground.phase }, { on := 10, ground := Ground.gcOnly Departure.appendInPlace }], guard := none }) (v := .pointer (some ⟨g', pre.length * 9, none⟩)) rfl (by kernel_rfl) (by kernel_rfl) (by kernel_rfl) (fun _ _ _ h => h) (Or.inl ⟨by rfl, ?_⟩) trivial ?_
      · intro wq _
        go_simp; intro hh; omega
      try simp only [Act.put, List.setIfInBounds_toArray, List.set_cons_zero, List.set_cons_succ]
      refine wpAnyH_ready (rs := [9, 10]) (by kernel_rfl) (by simp) ?_
      refine AllReadyH.cons (o := { dst := none, op := Op.store 48 (Operand.tmp 18) (Operand.tmp 14), type := 0, pos := "l07_match.go:167", after := #[{ on := 8, ground := Ground.data }, { on := 4, ground := Ground.data }, { on := 7, ground := Ground.chain }, { on := 0, ground := Ground.phase }, { on := 1, ground := Ground.phase }, { on := 2, ground := Ground.phase }, { on := 3, ground := Ground.phase }, { on := 4, ground := Ground.phase }, { on := 5, ground := Ground.phase }, { on := 6, ground := Ground.phase }, { on := 7, ground := Ground.phase }, { on := 10, ground := Ground.gcOnly Departure.appendInPlace }], guard := none }) rfl (fun K hK => ?_) (AllReadyH.cons (o := { dst := none, op := Op.store 27 (Operand.tmp 3) (Operand.tmp 17), type := 0, pos := "l07_match.go:167", after := #[{ on := 7, ground := Ground.data }, { on := 7, ground := Ground.chain }, { on := 9, ground := Ground.textOnly Departure.appendInPlace }, { on := 0, ground := Ground.phase }, { on := 1, ground := Ground.phase }, { on := 2, ground := Ground.phase }, { on := 3, ground := Ground.phase }, { on := 4, ground := Ground.phase }, { on := 5, ground := Ground.phase }, { on := 6, ground := Ground.phase }, { on := 7, ground := Ground.phase }, { on := 8, ground := Ground.textOnly Departure.appendInPlace }, { on := 9, ground := Ground.textOnly Departure.appendInPlace }], guard := none }) rfl (fun K hK => ?_) AllReadyH.nil)
      · skip
        go_simp
        refine hK.out _ _ trivial (fun _ => ?_)
        clear hK K
        try simp only [Act.put, List.setIfInBounds_toArray, List.set_cons_zero, List.set_cons_succ]
        refine wpAnyH_ready (rs := [10]) (by kernel_rfl) (by simp) ?_
        refine AllReadyH.cons (o := { dst := none, op := Op.store 27 (Operand.tmp 3) (Operand.tmp 17), type := 0, pos := "l07_match.go:167", after := #[{ on := 7, ground := Ground.data }, { on := 7, ground := Ground.chain }, { on := 9, ground := Ground.textOnly Departure.appendInPlace }, { on := 0, ground := Ground.phase }, { on := 1, ground := Ground.phase }, { on := 2, ground := Ground.phase }, { on := 3, ground := Ground.phase }, { on := 4, ground := Ground.phase }, { on := 5, ground := Ground.phase }, { on := 6, ground := Ground.phase }, { on := 7, ground := Ground.phase }, { on := 8, ground := Ground.textOnly Departure.appendInPlace }, { on := 9, ground := Ground.textOnly Departure.appendInPlace }], guard := none }) rfl (fun K hK => ?_) AllReadyH.nil
        go_simp
        refine hK.out _ _ trivial (fun _ => ?_)
        clear hK K
        try simp only [Act.put, List.setIfInBounds_toArray, List.set_cons_zero, List.set_cons_succ]
        refine wpAnyH_done (by kernel_rfl) ?_ _
        exact HFIN.out _ rfl
      · skip
        go_simp
        refine hK.out _ _ trivial (fun _ => ?_)
        clear hK K
        try simp only [Act.put, List.setIfInBounds_toArray, List.set_cons_zero, List.set_cons_succ]
        refine wpAnyH_ready (rs := [9]) (by kernel_rfl) (by simp) ?_
        refine AllReadyH.cons (o := { dst := none, op := Op.store 48 (Operand.tmp 18) (Operand.tmp 14), type := 0, pos := "l07_match.go:167", after := #[{ on := 8, ground := Ground.data }, { on := 4, ground := Ground.data }, { on := 7, ground := Ground.chain }, { on := 0, ground := Ground.phase }, { on := 1, ground := Ground.phase }, { on := 2, ground := Ground.phase }, { on := 3, ground := Ground.phase }, { on := 4, ground := Ground.phase }, { on := 5, ground := Ground.phase }, { on := 6, ground := Ground.phase }, { on := 7, ground := Ground.phase }, { on := 10, ground := Ground.gcOnly Departure.appendInPlace }], guard := none }) rfl (fun K hK => ?_) AllReadyH.nil
        go_simp
        refine hK.out _ _ trivial (fun _ => ?_)
        clear hK K
        try simp only [Act.put, List.setIfInBounds_toArray, List.set_cons_zero, List.set_cons_succ]
        refine wpAnyH_done (by kernel_rfl) ?_ _
        exact HFIN.out _ (put9_comm w3 g' (pre.length * 9) (emptyR x) (A + 1) 0 _ hne1)
  rintro e W4 ⟨he, (⟨X, hj4⟩ | ⟨pre, hpf, hx4⟩)⟩
  · rw [hJd] at hj4
    obtain ⟨⟨pk, ck, f1, f2, f3⟩, f4, f5, f6, f7, f8⟩ := hj4
    refine ⟨he, .inl ⟨f6, ?_⟩⟩
    obtain ⟨W5, hW5⟩ : ∃ W5, W4.putObj (M + 1) (.loop (rec .exhausted none)) = W5 := ⟨_, rfl⟩
    rw [hW5]
    have hbp : But (fun k => k = M + 1) W4 W5 := by rw [← hW5]; exact (But.refl (fun k => k = M + 1) W4).putObj (.inr rfl) _
    have HK : Hid (W5.heap[M]? = some (.deferred (some [])) ∧ W5.heap[A + 1]? = some (.cells #[.slice pk (namesD t 0).length ck] 27) ∧ W5.ownsRow A 48 9 (.slice pk (namesD t 0).length ck) (namesD t 0).length (grows ((namesD t 0).map emptyR)) ∧ Below w.heap.size w W5 ∧ M = A + 3 ∧ A = w.heap.size ∧ ∀ g, (Value.slice pk (namesD t 0).length ck).ownBlock = some g → M + 2 ≤ g) :=
      ⟨hbp.at f4 (by omega), hbp.at f1 (by omega), hbp.owns f2 (fun g hg h => by have := f3 g hg; omega), f5.trans (hbp.below f5.size (fun k hk => by omega)), by omega, HA.out, fun g hg => (f3 g hg).1⟩
    have x1 := cell_of_row W5 _ 0 _ _ _ HK.out.2.1
    clear hrec hM hW3 b3 d3 l3 s3 e1 e2 hb0 hJd f1 f2 f3 f4 f5 f6 f7 f8 a1 a2 asz ab hA HA HIN J hW5 he hbp
    obtain ⟨nl, hnl⟩ : ∃ nl, nl = (namesD t 0).length := ⟨_, rfl⟩
    have HNL : Hid (nl = (namesD t 0).length) := hnl
    rw [← hnl] at HK x1
    clear hnl
    gi_wp2
    obtain ⟨k1, k2, k3, k4, k5, k6, k7⟩ := HK.out
    refine ⟨by simp, .inl ⟨_, _, rfl, run_takeDeferred k1, ?_⟩⟩
    have hbp : But (fun k => k = M) W5 (W5.putObj M (.deferred none)) := (But.refl (fun k => k = M) W5).putObj (.inr rfl) _
    refine ⟨_, results_tmp rfl _ _ _, .slice pk nl ck, rfl, ?_, ?_⟩
    · exact k4.trans (hbp.below k4.size (fun k hk => by omega))
    · rw [← k6, ← HNL.out]
      exact hbp.owns k3 (fun g hg h => by have := k7 g hg; omega)
  · exact hx4.elim
end Go.Proofs.YtlclfmjpnchmbaaGreat
