/- impl.namesOnce: whether no name stands twice. Condition: at most 2^21 parts. -/
import Derived.Test.YtlclfmjpnchmbaaGreatZG14ImplNames
import Derived.Maps.OwnIn
import Derived.StringKeys
namespace Go.Proofs.YtlclfmjpnchmbaaGreat
open Go.ChangeShapes Go.WideShapes Go.ChangeAt Go.RowKit Go.Shelf
attribute [local go_sem] Oper.semAt_some

/-- The bytes of the names. -/
def keysD (l : List (ByteArray × Int)) : List (List UInt8) := l.map fun x => x.1.data.toList
theorem keysD_snoc (l : List (ByteArray × Int)) (x : ByteArray × Int) : keysD (l ++ [x]) = keysD l ++ [x.1.data.toList] := by simp [keysD]
/-- The map tells which names have come. -/
def SeenD (D : DataW Unit) (l : List (ByteArray × Int)) : Prop := Maps.IsMap D ∧ ∀ s : List UInt8, D.atKey (.string s) (.lit (.int .i64 0)) = .lit (.int .i64 (if s ∈ keysD l then 1 else 0))
theorem SeenD.nil : SeenD (.map []) [] := ⟨⟨[], rfl⟩, fun _ => rfl⟩
theorem SeenD.put {D : DataW Unit} {l : List (ByteArray × Int)} (h : SeenD D l) (x : ByteArray × Int) : SeenD (D.put (.string x.1.data.toList) (.lit (.int .i64 1))) (l ++ [x]) := by
  obtain ⟨⟨es, rfl⟩, h2⟩ := h
  refine ⟨⟨_, rfl⟩, fun s => ?_⟩
  rw [keysD_snoc]
  by_cases e : s = x.1.data.toList
  · subst e
    rw [Maps.atKey_put_same ⟨es, rfl⟩ (by unfold WideAt.IsKeyLit; trivial)]
    simp
  · rw [Maps.atKey_put_other (by intro h; injection h with h; exact e h), h2]
    simp [e]

/-- Five new blocks. -/
theorem five_new (w : World) (o1 o2 o3 o4 o5 : Obj) : ∃ W, ((((w.alloc o1).alloc o2).alloc o3).alloc o4).alloc o5 = W ∧ W.heap[w.heap.size]? = some o1 ∧ W.heap[w.heap.size + 1]? = some o2 ∧ W.heap[w.heap.size + 1 + 1]? = some o3 ∧ W.heap[w.heap.size + 1 + 1 + 1]? = some o4 ∧ W.heap[w.heap.size + 1 + 1 + 1 + 1]? = some o5 ∧ W.heap.size = w.heap.size + 5 ∧ Below w.heap.size w W := by
  have a : ∀ (w : World) (o : Obj) (k : Nat), (w.alloc o).heap[k]? = if k = w.heap.size then some o else w.heap[k]? := fun w o k => Array.getElem?_push
  refine ⟨_, rfl, ?_, ?_, ?_, ?_, ?_, by simp, ((((Below.refl _ w).alloc (Nat.le_refl _) _).alloc (by simp) _).alloc (by simp; omega) _ |>.alloc (by simp; omega) _).alloc (by simp; omega) _⟩
  all_goals
    simp only [a, World.size_alloc]
    repeat rw [if_neg (by omega)]
    simp

theorem namesD_len (t : X) : ∀ d, (namesD t d).length ≤ t.count := by
  induction t with
  | no => intro d; simp [namesD]
  | mk op a n s set len kid ih =>
    intro d
    have h : ∀ k, (flatTo (fun i => namesD (kid i) (kidDeep len kid d i)) k).length ≤ sumX (fun i => (kid i).count) k := by
      intro k
      induction k with
      | zero => simp [flatTo, sumX]
      | succ k ihk =>
        simp only [flatTo, sumX, List.length_append]
        have := ih k (kidDeep len kid d k)
        omega
    have h1 := h len
    have hc : (X.mk op a n s set len kid).count = 1 + sumX (fun i => (kid i).count) len := rfl
    rw [hc, namesD, List.length_append]
    split <;> simp <;> omega

set_option maxRecDepth 100000 in
set_option maxHeartbeats 4000000 in
theorem names_once (t : X) (su u : Value) (w : World) (hin : t.At 0 w su u) (hc : t.count ≤ 2097152) :
    Calls Tryz.prog 40 #[.agg #[.int .i64 t.op, .int .i64 t.at_, .int .i64 t.n, .string t.s, su, u]] w fun e w' => e = .returned (.bool (decide (keysD (namesD t 0)).Nodup)) ∧ Below w.heap.size w w' := by
  obtain ⟨p2, c2, e2⟩ := hin.xs.shape
  obtain ⟨p1, c1, e1⟩ := hin.sets.shape
  have HIN : Hid (t.At 0 w su u) := hin
  have HC : Hid (t.count ≤ 2097152) := hc
  clear hin hc
  subst e1 e2
  have hmm := @run_makeMap Tryz.prog
  refine callsIn_wide (n := 0).1 ?_
  refine callsIn_of_wp_marks Tryz.func40 rfl trivial ?_ rfl
  simp only [Tryz.ntmps40, List.size_toArray, List.length_cons, List.length_nil, Nat.reduceAdd, Nat.reduceSub, Array.replicate_succ, Array.replicate_zero, List.push_toArray, List.append_toArray, List.nil_append, List.cons_append]
  gi_wp2
  refine ⟨trivial, rfl, (callsIn_wide.2 (names_seq t _ _ _ _ _ _ _)).mono ?_⟩
  rintro e w1 ⟨rfl, rfl⟩
  gi_wp2
  clear hmm
  obtain ⟨W2, hW2, a0, a1, a2, a3, a4, asz, ab⟩ := five_new w (.cells #[.int .i64 t.op, .int .i64 t.at_, .int .i64 t.n, .string t.s, .slice p1 t.set.length c1, .slice p2 t.len c2] 32) (.cells #[.bool false] 4) (.map #[] 0) (.cells #[.map (some (w.heap.size + 1 + 1))] 77) (.cells #[.int .i64 t.op, .int .i64 t.at_, .int .i64 t.n, .string t.s, .slice p1 t.set.length c1, .slice p2 t.len c2] 32)
  rw [hW2]
  obtain ⟨A, hA⟩ : ∃ x, x = w.heap.size := ⟨_, rfl⟩
  have HA : Hid (A = w.heap.size) := hA
  rw [← hA] at a1 a2 a3 a4 asz ⊢
  have hmap : W2.ownsMap Tryz.prog 9 (plainElem (H := Unit) Tryz.prog 3) (A + 1 + 1) 0 (.map []) := by
    have h1 := World.ownsMap_made ((w.alloc (.cells #[.int .i64 t.op, .int .i64 t.at_, .int .i64 t.n, .string t.s, .slice p1 t.set.length c1, .slice p2 t.len c2] 32)).alloc (.cells #[.bool false] 4)) Tryz.prog 9 (plainElem (H := Unit) Tryz.prog 3)
    have h2 := (h1.alloc (.cells #[.map (some (w.heap.size + 1 + 1))] 77)).alloc (.cells #[.int .i64 t.op, .int .i64 t.at_, .int .i64 t.n, .string t.s, .slice p1 t.set.length c1, .slice p2 t.len c2] 32)
    rw [hW2] at h2
    simp only [World.size_alloc] at h2
    rw [hA]
    exact h2
  clear hW2 a0 a2
  refine wpIn_rf (gf := 67) (lb := #[.pointer (some ⟨A + 1 + 1 + 1 + 1, 0, none⟩)]) rfl (enters_of Tryz.func67 (by kernel_rfl) rfl) ?_
  intro fn rec hrec
  obtain ⟨M, hM⟩ : ∃ x, x = W2.heap.size := ⟨_, rfl⟩
  rw [← hM] at hrec asz ⊢
  obtain ⟨W3, hW3⟩ : ∃ W3, (W2.alloc (.deferred (some []))).alloc (.loop (rec .ready none)) = W3 := ⟨_, rfl⟩
  have b3 : Below W2.heap.size W2 W3 := by rw [← hW3]; exact (newx _ _).trans ((newx _ _).mono (by simp))
  have d3 : W3.heap[M]? = some (.deferred (some [])) := by rw [← hW3, hM, Below.heap_alloc _ _ _ (by simp)]; exact heap_alloc_new _ _
  have l3 : W3.heap[M + 1]? = some (.loop (rec .ready none)) := by rw [← hW3, hM]; have := heap_alloc_new (W2.alloc (.deferred (some []))) (.loop (rec .ready none)); rwa [World.size_alloc] at this
  have s3 : W3.heap.size = M + 2 := by rw [← hW3, hM]; simp
  rw [hW3]
  have e1 := (b3.block (A + 1) (by omega)).trans a1
  have e3 := (b3.block (A + 1 + 1 + 1) (by omega)).trans a3
  have e4 := (b3.block (A + 1 + 1 + 1 + 1) (by omega)).trans a4
  have emap : W3.ownsMap Tryz.prog 9 (plainElem (H := Unit) Tryz.prog 3) (A + 1 + 1) 0 (.map []) := by rw [← hW3]; exact (hmap.alloc _).alloc _
  have hb0 : Below w.heap.size w W3 := ab.trans (b3.mono (by omega))
  obtain ⟨Facts, hFd⟩ : ∃ F : List (ByteArray × Int) → World → Prop, F = fun pre W => W.heap[A + 1]? = some (.cells #[.bool false] 4) ∧ W.heap[A + 1 + 1 + 1]? = some (.cells #[.map (some (A + 1 + 1))] 77) ∧ (∃ D, W.ownsMap Tryz.prog 9 (plainElem (H := Unit) Tryz.prog 3) (A + 1 + 1) pre.length D ∧ SeenD D pre) ∧ (keysD pre).Nodup ∧ W.heap[M]? = some (.deferred (some [])) ∧ Below w.heap.size w W := ⟨_, rfl⟩
  obtain ⟨J, hJd⟩ : ∃ J : Inv (ByteArray × Int), J = fun pre W X => Facts pre W ∧ W.heap[M + 1]? = some (.loop (rec .ready none)) ∧ (∀ k, X k → M + 2 ≤ k) ∧ M + 2 ≤ W.heap.size := ⟨_, rfl⟩
  obtain ⟨Jx, hJxd⟩ : ∃ Jx : List (ByteArray × Int) → World → Prop, Jx = fun pre W => W.heap[A + 1]? = some (.cells #[.bool false] 4) ∧ ¬ (keysD pre).Nodup ∧ W.heap[M]? = some (.deferred (some [])) ∧ Below w.heap.size w W ∧ W.heap[M + 1]? = some (.loop (rec .done (some .ret))) := ⟨_, rfl⟩
  refine (names_iter (M + 1) (A + 1 + 1 + 1 + 1) t _ _ w HIN.out HC.out J Jx ?hJs ?hJb ?hY W3 e4 ?h0).mono ?_
  case hJs =>
    intro pre B B' X X' hj hbut hx
    rw [hJd, hFd] at hj ⊢
    obtain ⟨⟨f1, f2, ⟨D, f3, f4⟩, f5, f6, f7⟩, f8, f9, f10⟩ := hj
    have ne : ∀ k, k < M + 2 → ¬ X k := fun k hk hX => by have := f9 k hX; omega
    refine ⟨⟨hbut.at f1 (ne _ (by omega)), hbut.at f2 (ne _ (by omega)), ⟨D, ?_, f4⟩, f5, hbut.at f6 (ne _ (by omega)), f7.trans (hbut.below f7.size (fun k hk => by have := f9 k hk; omega))⟩, hbut.at f8 (ne _ (by omega)), fun k hk => ?_, Nat.le_trans f10 hbut.size⟩
    · have hlt := f3.lt
      obtain ⟨es, ck, hb, rest⟩ := f3
      exact ⟨es, ck, hbut.at hb (ne _ (by omega)), rest⟩
    · rcases hx k hk with h | ⟨h, -⟩
      · exact f9 k h
      · omega
  case hJb =>
    intro pre B X hj
    rw [hJd, hFd] at hj
    exact hj.1.2.2.2.2.2
  case h0 =>
    rw [hJd, hFd]
    exact ⟨⟨e1, e3, ⟨_, emap, SeenD.nil⟩, List.nodup_nil, d3, hb0⟩, l3, fun _ h => h.elim, by omega⟩
  case hY =>
    intro pre x W X hj hsz hpf
    rw [hJd, hFd] at hj
    rw [hJd, hJxd, hFd]
    obtain ⟨⟨f1, f2, ⟨D, f3, f4⟩, f5, f6, f7⟩, f8, f9, f10⟩ := hj
    have hlen : pre.length + 1 ≤ 2097152 := by
      have h1 := hpf.length_le
      have h2 := namesD_len t 0
      have h3 := HC.out
      rw [List.length_append] at h1
      simp at h1
      omega
    have hmp : (W.putObj (M + 1) (.loop (rec .busy none))).ownsMap Tryz.prog 9 (plainElem (H := Unit) Tryz.prog 3) (A + 1 + 1) pre.length D := f3.kept (grownBy_putObj' W (M + 1) _) (by intro e; injection e with e; omega)
    obtain ⟨Wb, hWb⟩ : ∃ Wb, W.putObj (M + 1) (.loop (rec .busy none)) = Wb := ⟨_, rfl⟩
    rw [hWb] at hmp
    have HWB : Hid (Wb.heap[A + 1]? = some (.cells #[.bool false] 4) ∧ Wb.heap[A + 1 + 1 + 1]? = some (.cells #[.map (some (A + 1 + 1))] 77) ∧ Wb.heap[M]? = some (.deferred (some [])) ∧ Below w.heap.size w Wb ∧ Wb.heap[M + 1]? = some (.loop (rec .busy none)) ∧ Wb.heap.size = W.heap.size ∧ But (fun k => k = M + 1) W Wb) := by
      rw [← hWb]
      refine ⟨(World.putObj_heap_other (by omega)).trans f1, (World.putObj_heap_other (by omega)).trans f2, (World.putObj_heap_other (by omega)).trans f6, ?_, World.putObj_heap_same (Array.getElem?_eq_some_iff.1 f8).1, by simp, (But.refl (fun k => k = M + 1) W).putObj (.inr rfl) _⟩
      exact f7.trans (((But.refl (fun k => k = M + 1) W).putObj (.inr rfl) _).below f7.size (fun k hk => by rw [hk]; omega))
    have HM2 : Hid (M = A + 5 ∧ (∀ k, X k → M + 2 ≤ k) ∧ M + 2 ≤ W.heap.size ∧ A = w.heap.size) := ⟨by omega, f9, f10, HA.out⟩
    have HND : Hid ((keysD pre).Nodup) := f5
    have HSD : Hid (SeenD D pre) := f4
    refine yieldAt_of hrec f8 rfl ?_
    have HF8 : Hid (W.heap[M + 1]? = some (.loop (rec .ready none))) := f8
    have hkey := WideMaps.keyOf_string_mk (P := Tryz.prog) Tryz.underlying9 hsz
    have hat0 := f4.2 x.1.data.toList
    clear hrec hM hW3 b3 d3 l3 s3 e1 e3 e4 emap hb0 hFd hJd hJxd f1 f2 f3 f4 f5 f6 f7 f8 f9 f10 a1 a3 a4 asz ab hA HA hmap hpf HIN Facts J Jx
    gi_wp2
    refine ⟨HF8.out, ?_⟩
    rw [hWb]
    clear hWb
    have x1 : Wb.cell? ⟨A + 1, 0, none⟩ = some (.bool false) := cell_of_row Wb _ 0 _ _ _ HWB.out.1
    have x1f : Wb.frozen? ⟨A + 1, 0, none⟩ = false := frozen_of_row Wb _ 0 _ _ HWB.out.1
    have x3 : Wb.cell? ⟨A + 1 + 1 + 1, 0, none⟩ = some (.map (some (A + 1 + 1))) := cell_of_row Wb _ 0 _ _ _ HWB.out.2.1
    have HMP : Hid (Wb.ownsMap Tryz.prog 9 (plainElem (H := Unit) Tryz.prog 3) (A + 1 + 1) pre.length D) := hmp
    have HAT0 : Hid (D.atKey (.string x.1.data.toList) (.lit (.int .i64 0)) = .lit (.int .i64 (if x.1.data.toList ∈ keysD pre then 1 else 0))) := hat0
    have HKEY : Hid (keyOf Tryz.prog 9 (.string x.1) = some (.string x.1.data.toList)) := hkey
    have tok0 : True := trivial
    clear hmp hat0 hkey
    by_cases hmem : x.1.data.toList ∈ keysD pre
    · gi_wp2_with (first
        | (gi_at_lookup; have _t := tok0; refine wpListIn_lookup_own_int _ rfl (.tmp 10) (.tmp 11) 77 rfl 9 3 .i64 (Maps.string_keyed Tryz.underlying9) Tryz.underlying77 Tryz.underlying3 (Tryz.zeroValue3 _) (A + 1 + 1) pre.length D rfl HMP.out _ _ rfl HKEY.out ?_; intro c hat _; have hc : c = 1 := (by have h := hat.symm.trans HAT0.out; simpa [hmem] using h); clear hat; subst hc; clear tok0 _t; have tok1 : True := trivial)
        | (gi_at_mapUpdate; have _t := tok1; refine wpListIn_mapUpdate_own _ rfl (.tmp 10) (.tmp 11) (.tmp 13) 77 rfl 9 3 (Maps.string_keyed Tryz.underlying9) Tryz.underlying77 _ (A + 1 + 1) pre.length D rfl HMP.out (by unfold maxLen; omega) _ _ _ rfl rfl HKEY.out _ [] (plainElem_int (a := 2) Tryz.underlying3 (by decide)) ?_; intro w1 hown1 hgrow1; clear tok1 _t; have tok2 : True := trivial; have HO1 : Hid (w1.ownsMap Tryz.prog 9 (plainElem (H := Unit) Tryz.prog 3) (A + 1 + 1) (pre.length + 1) (D.put (.string x.1.data.toList) (.lit (.int .i64 2)))) := hown1; have HG1 : Hid (Wb.grownBy w1 (some (A + 1 + 1))) := hgrow1; clear hown1 hgrow1; have y1 : w1.heap[A + 1]? = some (.cells #[.bool false] 4) := (HG1.out.block (A + 1) (Array.getElem?_eq_some_iff.1 HWB.out.1).1 (by intro e; injection e with e; omega)).trans HWB.out.1; have y3 : w1.heap[A + 1 + 1 + 1]? = some (.cells #[.map (some (A + 1 + 1))] 77) := (HG1.out.block (A + 1 + 1 + 1) (Array.getElem?_eq_some_iff.1 HWB.out.2.1).1 (by intro e; injection e with e; omega)).trans HWB.out.2.1; have z1 := cell_of_row w1 _ 0 _ _ _ y1; have z1f := frozen_of_row w1 _ 0 _ _ y1; have z3 := cell_of_row w1 _ 0 _ _ _ y3)
        | (gi_at_lookup; have _t := tok2; refine wpListIn_lookup_own_int _ rfl (.tmp 14) (.tmp 15) 77 rfl 9 3 .i64 (Maps.string_keyed Tryz.underlying9) Tryz.underlying77 Tryz.underlying3 (Tryz.zeroValue3 _) (A + 1 + 1) (pre.length + 1) _ rfl HO1.out _ _ rfl HKEY.out ?_; intro c hat _; have hc : c = 2 := (by rw [Maps.atKey_put_same HSD.out.1 (by unfold WideAt.IsKeyLit; trivial)] at hat; simpa using hat.symm); clear hat; subst hc; clear tok2 _t))
      obtain ⟨g1, g2, g3, g4, g5, g6, g7⟩ := HWB.out
      obtain ⟨m1, m2, m3, m4⟩ := HM2.out
      have hl5 : w1.heap[M + 1]? = some (.loop (rec .busy none)) := (HG1.out.block (M + 1) (Array.getElem?_eq_some_iff.1 g5).1 (by intro e; injection e with e; omega)).trans g5
      have hd5 : w1.heap[M]? = some (.deferred (some [])) := (HG1.out.block M (Array.getElem?_eq_some_iff.1 g3).1 (by intro e; injection e with e; omega)).trans g3
      have hbw : But (fun k => k = A + 1 ∨ k = A + 1 + 1 ∨ k = M + 1) Wb ((w1.setCell ⟨A + 1, 0, none⟩ (.bool false)).putObj (M + 1) (.loop (rec .done (some .ret)))) :=
        (((But.refl _ Wb).grown HG1.out (fun k hk => by injection hk with hk; exact .inr (.inr (.inl hk.symm)))).setCell (.inr (.inl rfl)) _).putObj (.inr (.inr (.inr rfl))) _
      refine ⟨(Below.heap_setCell _ _ _ _ (by simp; omega)).trans hl5, .inr ⟨rfl, ?_, ?_, ?_, ?_, ?_⟩⟩
      · rw [World.putObj_heap_other (by omega)]
        exact heap_setCell_same w1 (A + 1) 0 _ _ _ y1
      · rw [keysD_snoc, List.nodup_append]
        intro h
        exact h.2.2 _ hmem _ (by simp) rfl
      · rw [World.putObj_heap_other (by omega)]
        exact (Below.heap_setCell _ _ _ _ (by simp; omega)).trans hd5
      · exact g4.trans (hbw.below g4.size (fun k hk => by omega))
      · exact World.putObj_heap_same (by have := (Array.getElem?_eq_some_iff.1 hl5).1; simpa [World.setCell] using this)
    · gi_wp2_with (first
        | (gi_at_lookup; have _t := tok0; refine wpListIn_lookup_own_int _ rfl (.tmp 10) (.tmp 11) 77 rfl 9 3 .i64 (Maps.string_keyed Tryz.underlying9) Tryz.underlying77 Tryz.underlying3 (Tryz.zeroValue3 _) (A + 1 + 1) pre.length D rfl HMP.out _ _ rfl HKEY.out ?_; intro c hat _; have hc : c = 0 := (by have h := hat.symm.trans HAT0.out; simpa [hmem] using h); clear hat; subst hc; clear tok0 _t; have tok1 : True := trivial)
        | (gi_at_mapUpdate; have _t := tok1; refine wpListIn_mapUpdate_own _ rfl (.tmp 10) (.tmp 11) (.tmp 13) 77 rfl 9 3 (Maps.string_keyed Tryz.underlying9) Tryz.underlying77 _ (A + 1 + 1) pre.length D rfl HMP.out (by unfold maxLen; omega) _ _ _ rfl rfl HKEY.out _ [] (plainElem_int (a := 1) Tryz.underlying3 (by decide)) ?_; intro w1 hown1 hgrow1; clear tok1 _t; have tok2 : True := trivial; have HO1 : Hid (w1.ownsMap Tryz.prog 9 (plainElem (H := Unit) Tryz.prog 3) (A + 1 + 1) (pre.length + 1) (D.put (.string x.1.data.toList) (.lit (.int .i64 1)))) := hown1; have HG1 : Hid (Wb.grownBy w1 (some (A + 1 + 1))) := hgrow1; clear hown1 hgrow1; have y1 : w1.heap[A + 1]? = some (.cells #[.bool false] 4) := (HG1.out.block (A + 1) (Array.getElem?_eq_some_iff.1 HWB.out.1).1 (by intro e; injection e with e; omega)).trans HWB.out.1; have y3 : w1.heap[A + 1 + 1 + 1]? = some (.cells #[.map (some (A + 1 + 1))] 77) := (HG1.out.block (A + 1 + 1 + 1) (Array.getElem?_eq_some_iff.1 HWB.out.2.1).1 (by intro e; injection e with e; omega)).trans HWB.out.2.1; have z1 := cell_of_row w1 _ 0 _ _ _ y1; have z1f := frozen_of_row w1 _ 0 _ _ y1; have z3 := cell_of_row w1 _ 0 _ _ _ y3)
        | (gi_at_lookup; have _t := tok2; refine wpListIn_lookup_own_int _ rfl (.tmp 14) (.tmp 15) 77 rfl 9 3 .i64 (Maps.string_keyed Tryz.underlying9) Tryz.underlying77 Tryz.underlying3 (Tryz.zeroValue3 _) (A + 1 + 1) (pre.length + 1) _ rfl HO1.out _ _ rfl HKEY.out ?_; intro c hat _; have hc : c = 1 := (by rw [Maps.atKey_put_same HSD.out.1 (by unfold WideAt.IsKeyLit; trivial)] at hat; simpa using hat.symm); clear hat; subst hc; clear tok2 _t))
      obtain ⟨g1, g2, g3, g4, g5, g6, g7⟩ := HWB.out
      obtain ⟨m1, m2, m3, m4⟩ := HM2.out
      have hl5 : w1.heap[M + 1]? = some (.loop (rec .busy none)) := (HG1.out.block (M + 1) (Array.getElem?_eq_some_iff.1 g5).1 (by intro e; injection e with e; omega)).trans g5
      have hd5 : w1.heap[M]? = some (.deferred (some [])) := (HG1.out.block M (Array.getElem?_eq_some_iff.1 g3).1 (by intro e; injection e with e; omega)).trans g3
      have hbw : But (fun k => k = A + 1 + 1 ∨ k = M + 1) Wb (w1.putObj (M + 1) (.loop (rec .ready none))) :=
        ((But.refl _ Wb).grown HG1.out (fun k hk => by injection hk with hk; exact .inr (.inl hk.symm))).putObj (.inr (.inr rfl)) _
      have hbW : But (fun k => k = A + 1 + 1 ∨ k = M + 1) W (w1.putObj (M + 1) (.loop (rec .ready none))) := (g7.mono (fun k _ hk => .inr hk)).trans hbw
      refine ⟨hl5, .inl ⟨rfl, ⟨⟨?_, ?_, ⟨_, ?_, SeenD.put HSD.out x⟩, ?_, ?_, ?_⟩, ?_, m2, Nat.le_trans m3 hbW.size⟩, hbW.size, fun k hX hk => hbW.block k hk (fun h => by have := m2 k hX; omega)⟩⟩
      · exact (World.putObj_heap_other (by omega)).trans y1
      · exact (World.putObj_heap_other (by omega)).trans y3
      · have h1 := HO1.out.kept (grownBy_putObj' w1 (M + 1) (.loop (rec .ready none))) (by intro e; injection e with e; omega)
        rw [List.length_append]
        exact h1
      · rw [keysD_snoc, List.nodup_append]
        exact ⟨HND.out, by simp, fun a ha b hb e => hmem (by simp only [List.mem_singleton] at hb; rw [← hb, ← e]; exact ha)⟩
      · exact (World.putObj_heap_other (by omega)).trans hd5
      · exact g4.trans (hbw.below g4.size (fun k hk => by omega))
      · exact World.putObj_heap_same (Array.getElem?_eq_some_iff.1 hl5).1
  rintro e W4 ⟨he, (⟨X, hj4⟩ | ⟨pre, hpf, hx4⟩)⟩
  · rw [hJd, hFd] at hj4
    obtain ⟨⟨f1, f2, f3, f5, f6, f7⟩, f8, f9, f10⟩ := hj4
    refine ⟨he, .inl ⟨f8, ?_⟩⟩
    obtain ⟨W5, hW5⟩ : ∃ W5, W4.putObj (M + 1) (.loop (rec .exhausted none)) = W5 := ⟨_, rfl⟩
    rw [hW5]
    have HK : Hid (W5.heap[M]? = some (.deferred (some [])) ∧ W5.heap[A + 1]? = some (.cells #[.bool false] 4) ∧ Below w.heap.size w W5 ∧ M = A + 5 ∧ A = w.heap.size ∧ (keysD (namesD t 0)).Nodup) := by
      rw [← hW5]
      exact ⟨(World.putObj_heap_other (by omega)).trans f6, (World.putObj_heap_other (by omega)).trans f1, f7.trans (((But.refl (fun k => k = M + 1) W4).putObj (.inr rfl) _).below f7.size (fun k hk => by omega)), by omega, HA.out, f5⟩
    have x1 := cell_of_row W5 _ 0 _ _ _ HK.out.2.1
    have x1f := frozen_of_row W5 _ 0 _ _ HK.out.2.1
    clear hrec hM hW3 b3 d3 l3 s3 e1 e3 e4 emap hb0 hFd hJd hJxd f1 f2 f3 f5 f6 f7 f8 f9 f10 a1 a3 a4 asz ab hA HA hmap HIN Facts J Jx hW5 he
    gi_wp2
    obtain ⟨k1, k2, k3, k4, k5, k6⟩ := HK.out
    have hbx : (W5.setCell ⟨A + 1, 0, none⟩ (.bool true)).heap[A + 1]? = some (.cells #[.bool true] 4) := heap_setCell_same W5 (A + 1) 0 _ _ _ k2
    have hdf : (W5.setCell ⟨A + 1, 0, none⟩ (.bool true)).heap[M]? = some (.deferred (some [])) := (Below.heap_setCell _ _ _ _ (by simp; omega)).trans k1
    refine ⟨by simp, .inl ⟨_, _, rfl, run_takeDeferred hdf, ?_⟩⟩
    have hbx2 : ((W5.setCell ⟨A + 1, 0, none⟩ (.bool true)).putObj M (.deferred none)).cell? ⟨A + 1, 0, none⟩ = some (.bool true) := cell_of_row _ _ 0 _ 4 _ ((World.putObj_heap_other (by omega)).trans hbx)
    refine ⟨.bool true, by rw [results_cellX (p := 2) (ty := 4) (by kernel_rfl)]; simp [go_sem, hbx2], ?_, ?_⟩
    · rw [decide_eq_true k6]
    · exact (k3.setCell (p := ⟨A + 1, 0, none⟩) (by simp; omega) _).trans (((But.refl (fun k => k = M) _).putObj (.inr rfl) _).below (by have := k3.size; simpa [World.setCell] using this) (fun k hk => by omega))
  · rw [hJxd] at hx4
    obtain ⟨f1, f2, f3, f4, f5⟩ := hx4
    refine ⟨he, .inr ⟨.ret, f5, ?_⟩⟩
    obtain ⟨W5, hW5⟩ : ∃ W5, W4.putObj (M + 1) (.loop (rec .exhausted (some .ret))) = W5 := ⟨_, rfl⟩
    rw [hW5]
    have HK : Hid (W5.heap[M]? = some (.deferred (some [])) ∧ W5.heap[A + 1]? = some (.cells #[.bool false] 4) ∧ Below w.heap.size w W5 ∧ M = A + 5 ∧ A = w.heap.size ∧ ¬ (keysD (namesD t 0)).Nodup) := by
      rw [← hW5]
      refine ⟨(World.putObj_heap_other (by omega)).trans f3, (World.putObj_heap_other (by omega)).trans f1, f4.trans (((But.refl (fun k => k = M + 1) W4).putObj (.inr rfl) _).below f4.size (fun k hk => by omega)), by omega, HA.out, fun h => f2 ?_⟩
      obtain ⟨r, hr⟩ := hpf
      rw [← hr] at h
      simp only [keysD, List.map_append] at h ⊢
      exact (List.nodup_append.1 h).1
    have x1 := cell_of_row W5 _ 0 _ _ _ HK.out.2.1
    clear hrec hM hW3 b3 d3 l3 s3 e1 e3 e4 emap hb0 hFd hJd hJxd f1 f2 f3 f4 f5 a1 a3 a4 asz ab hA HA hmap HIN Facts J Jx hW5 he
    gi_wp2
    obtain ⟨k1, k2, k3, k4, k5, k6⟩ := HK.out
    refine ⟨by simp, .inl ⟨_, _, rfl, run_takeDeferred k1, ?_⟩⟩
    have hbx2 : (W5.putObj M (.deferred none)).cell? ⟨A + 1, 0, none⟩ = some (.bool false) := cell_of_row _ _ 0 _ 4 _ ((World.putObj_heap_other (by omega)).trans k2)
    refine ⟨.bool false, by rw [results_cellX (p := 2) (ty := 4) (by kernel_rfl)]; simp [go_sem, hbx2], ?_, ?_⟩
    · rw [decide_eq_false k6]
    · exact k3.trans (((But.refl (fun k => k = M) _).putObj (.inr rfl) _).below k3.size (fun k hk => by omega))
end Go.Proofs.YtlclfmjpnchmbaaGreat

/- What the program asks of a pattern is what the specification asks. No conditions. -/
namespace Go.Proofs.YtlclfmjpnchmbaaGreat
open Go.ChangeShapes Go.WideShapes Go.ChangeAt Go.RowKit

/-- Symbols have no kids. -/
def leafS : X → Prop
  | .no => True
  | .mk op _ _ _ _ len kid => (op = 2 → len = 0) ∧ ∀ i, i < len → leafS (kid i)
/-- Names behind others. -/
def addAll (l : List (ByteArray × Int)) (a : List ByteArray × Bool) : List ByteArray × Bool := l.foldl (fun a x => addN x.1 a) a
theorem addAll_append (l m : List (ByteArray × Int)) (a : List ByteArray × Bool) : addAll (l ++ m) a = addAll m (addAll l a) := by simp [addAll]

theorem namesX_eq (t : X) : ∀ (d : Int) (a : List ByteArray × Bool), leafS t → namesX t a = addAll (namesD t d) a := by
  induction t with
  | no => intro d a _; rfl
  | mk op b n s set len kid ih =>
    intro d a hl
    obtain ⟨h1, h2⟩ := hl
    rw [namesX_mk, namesD]
    have hk : ∀ k, k ≤ len → stepsTo (fun i a => namesX (kid i) a) k a = addAll (flatTo (fun i => namesD (kid i) (kidDeep len kid d i)) k) a := by
      intro k
      induction k with
      | zero => intro _; rfl
      | succ k ihk =>
        intro hle
        simp only [stepsTo, flatTo]
        rw [addAll_append, ihk (by omega)]
        exact ih k _ _ (h2 k (by omega))
    cases hn : nameX op s
    · simp only [Bool.false_eq_true, if_false, List.nil_append]
      exact hk len (Nat.le_refl _)
    · have hop : op = 2 := by
        unfold nameX at hn
        rw [Bool.and_eq_true] at hn
        simpa using hn.1
      have hz := h1 hop
      subst hz
      simp [flatTo, addAll]

theorem inS_mem (l : List ByteArray) (s : ByteArray) : inS l s = decide (s.data.toList ∈ l.map fun x => x.data.toList) := by
  unfold inS
  rw [Bool.eq_iff_iff, List.any_eq_true, decide_eq_true_eq, List.mem_map]
  constructor
  · rintro ⟨x, hx, h⟩
    refine ⟨x, hx, ?_⟩
    have h' := eq_of_beq h
    rwa [ByteArray.toList_eq, ByteArray.toList_eq] at h'
  · rintro ⟨x, hx, h⟩
    refine ⟨x, hx, ?_⟩
    rw [ByteArray.toList_eq, ByteArray.toList_eq]
    simp [h]
theorem addAll_two (l : List (ByteArray × Int)) : ∀ (out : List ByteArray) (tw : Bool), (out.map fun x => x.data.toList).Nodup → (addAll l (out, tw)).2 = (tw || !decide ((out.map fun x => x.data.toList) ++ keysD l).Nodup) := by
  induction l with
  | nil =>
    intro out tw h
    simp [addAll, keysD, h]
  | cons x l ih =>
    intro out tw h
    have e : addAll (x :: l) (out, tw) = addAll l (addN x.1 (out, tw)) := rfl
    have ek : keysD (x :: l) = x.1.data.toList :: keysD l := rfl
    rw [e, ek]
    unfold addN
    rw [inS_mem]
    by_cases hm : x.1.data.toList ∈ out.map fun x => x.data.toList
    · have hn : ¬ ((out.map fun x => x.data.toList) ++ x.1.data.toList :: keysD l).Nodup := by
        intro h2
        rw [List.nodup_append] at h2
        exact h2.2.2 _ hm _ (by simp) rfl
      rw [decide_eq_true hm, decide_eq_false hn]
      simp only [if_true]
      rw [ih out true h]
      simp
    · rw [decide_eq_false hm]
      simp only [Bool.false_eq_true, if_false]
      have h1 : ((out ++ [x.1]).map fun x => x.data.toList).Nodup := by
        rw [List.map_append, List.nodup_append]
        refine ⟨h, by simp, fun a ha b hb e => hm ?_⟩
        simp only [List.map_cons, List.map_nil, List.mem_singleton] at hb
        rw [← hb, ← e]
        exact ha
      rw [ih _ tw h1]
      simp
theorem names_two (t : X) (hl : leafS t) : (namesX t ([], false)).2 = !decide (keysD (namesD t 0)).Nodup := by
  rw [namesX_eq t 0 _ hl, addAll_two _ [] false (by simp)]
  simp

theorem foldX_all {g : X → Nat → Option Nat} {kid : Nat → X} {left : Nat} (n : Nat) (h : (foldX g kid left n).isSome = true) : ∀ i, i < n → ∃ l, (g (kid i) l).isSome = true := by
  induction n with
  | zero => intro i hi; omega
  | succ n ih =>
    intro i hi
    rw [foldX] at h
    cases e : foldX g kid left n with
    | none => rw [e] at h; simp at h
    | some l =>
      rw [e] at h
      rcases Nat.lt_or_ge i n with h1 | h1
      · exact ih (by rw [e]; rfl) i h1
      · have : i = n := by omega
        rw [this]
        exact ⟨l, h⟩
theorem leaf_fields {t : X} (h : fieldsXB t = true) : t.op = 2 → t.len = 0 := by
  intro ho
  rw [fieldsXB_eq] at h
  unfold gB at h
  rw [if_neg (by omega), if_pos ho] at h
  simp only [Bool.and_eq_true] at h
  have := h.2.2.2.2
  simp at this
  exact this
theorem look_leaf (nest : Nat) : ∀ left len kid, (lookX nest left len kid).isSome = true → ∀ i, i < len → leafS (kid i) := by
  induction nest with
  | zero =>
    intro left len kid h i hi
    unfold lookX at h
    split at h
    · omega
    · simp at h
  | succ nest ih =>
    intro left len kid h i hi
    rw [lookX] at h
    split at h
    · simp at h
    · obtain ⟨l, hl⟩ := foldX_all len h i hi
      split at hl
      · rename_i hf
        have h1 := leaf_fields hf
        have h2 := ih l _ _ hl
        cases hk : kid i with
        | no => trivial
        | mk op a n s set len' kid' =>
          rw [hk] at h1 h2
          exact ⟨h1, h2⟩
      · simp at hl
theorem stxOk_leaf {t : X} (h : stxOkB t = true) : leafS t := by
  rw [stxOk_look] at h
  exact look_leaf 20 1500 1 (fun _ => t) h 0 (by omega)

theorem places_eq (t : X) : placesX t = dotsB t := by
  induction t with
  | no => rfl
  | mk op a n s set len kid ih =>
    rw [placesX_mk]
    show _ = allX (fun i => !((dotsX (kid i) && (decide ((i : Int) = 0) || !decide ((i : Int) = (len : Int) - 1))) || !dotsB (kid i))) len
    rw [Bool.eq_iff_iff, allX_true, allX_true]
    have hd : ∀ i, i < len → (decide ((i : Int) = 0) = decide (i = 0)) ∧ (decide ((i : Int) = (len : Int) - 1) = decide (i + 1 = len)) := fun i hi => by
      constructor <;> (rw [Bool.eq_iff_iff, decide_eq_true_eq, decide_eq_true_eq]; omega)
    constructor
    · intro h i hi
      have := h i hi
      rw [ih i] at this
      rw [(hd i hi).1, (hd i hi).2]
      unfold kidPlace at this
      cases hx : dotsX (kid i) <;> cases hy : dotsB (kid i) <;> simp_all
    · intro h i hi
      have := h i hi
      rw [ih i]
      rw [(hd i hi).1, (hd i hi).2] at this
      unfold kidPlace
      have hp : dotsX (kid i) = true → i ≠ 0 → dotsX (kid (i - 1)) = false := by
        intro hx h0
        rw [hx] at this
        have h2 := h (i - 1) (by omega)
        rw [(hd (i - 1) (by omega)).1, (hd (i - 1) (by omega)).2] at h2
        cases hy : dotsX (kid (i - 1))
        · rfl
        · rw [hy] at h2
          have : ¬ (i - 1 + 1 = len) := by omega
          simp [this] at h2
      cases hx : dotsX (kid i)
      · rw [hx] at this
        simpa using this
      · rw [hx] at this
        simp at this
        have := hp hx this.1.1
        simp_all
/-- What the program asks, in its order. -/
theorem pattern_eq (t : X) : patternB t = (stxOkB t && (dotsB (.mk 3 0 0 ⟨#[]⟩ [] 1 (fun _ => t)) && decide (keysD (namesD t 0)).Nodup)) := by
  unfold patternB
  cases h : stxOkB t
  · rfl
  · have h1 : dotsB (.mk 3 0 0 ⟨#[]⟩ [] 1 (fun _ => t)) = (!dotsX t && dotsB t) := by
      show allX (fun i => !((dotsX t && (decide ((i : Int) = 0) || !decide ((i : Int) = ((1 : Nat) : Int) - 1))) || !dotsB t)) 1 = _
      simp [allX]
    rw [names_two t (stxOk_leaf h), h1, places_eq]
    cases decide (keysD (namesD t 0)).Nodup <;> cases dotsX t <;> cases dotsB t <;> rfl
end Go.Proofs.YtlclfmjpnchmbaaGreat

/- What is got, as trees; what a pattern gets of syntax, as plain lists. No conditions. -/
namespace Go.Proofs.YtlclfmjpnchmbaaGreat
open Go.ChangeShapes Go.WideShapes Go.ChangeAt Go.RowKit

/-- What a name got: its name, how deep, the one, and the others by their index. -/
inductive G where
  | no
  | mk (name : ByteArray) (deep : Int) (one : X) (len : Nat) (sm : Nat → G)
namespace G
def name : G → ByteArray | .no => ⟨#[]⟩ | .mk x _ _ _ _ => x
def deep : G → Int | .no => 0 | .mk _ x _ _ _ => x
def one : G → X | .no => .no | .mk _ _ x _ _ => x
def len : G → Nat | .no => 0 | .mk _ _ _ x _ => x
def sm : G → Nat → G | .no => fun _ => .no | .mk _ _ _ _ x => x
end G
instance : Inhabited G := ⟨.no⟩
/-- Nothing written. -/
def zeroX : X := .mk 0 0 0 ⟨#[]⟩ [] 0 (fun _ => .no)
/-- A name's one. -/
def oneG (s : ByteArray) (x : X) : G := .mk s 0 x 0 (fun _ => .no)

/-- One behind the other, while they fit. -/
def matchTo (f : Nat → Option (List G)) : Nat → Option (List G)
  | 0 => some []
  | k + 1 => (matchTo f k).bind fun a => (f k).map fun b => a ++ b
/-- Each name with what each of the further ones got. -/
def colG (ns : List (ByteArray × Int)) (f : Nat → Option (List G)) (cnt : Nat) : List G :=
  (List.range ns.length).map fun i => .mk (ns.getD i (⟨#[]⟩, 0)).1 ((ns.getD i (⟨#[]⟩, 0)).2 + 1) zeroX cnt (fun j => ((f j).getD []).getD i .no)
def eachG (ns : List (ByteArray × Int)) (f : Nat → Option (List G)) (cnt : Nat) : Option (List G) :=
  if allX (fun j => (f j).isSome) cnt = true then some (colG ns f cnt) else none
/-- What the names of a pattern get. -/
def matchG : X → X → Option (List G)
  | .no, _ => none
  | .mk op _ n s _ len kid, x =>
    if op = 2 then some (if (s.toList == lineL) = true then [] else [oneG s x])
    else if op = 1 then (if x.op = 1 ∧ x.n = n then some [] else none)
    else if op = 3 ∧ x.op = 3 then
      if oftenX len kid = -1 then (if x.len = len then matchTo (fun i => matchG (kid i) (x.kid i)) len else none)
      else if x.len < len - 2 then none
      else (matchTo (fun i => matchG (kid i) (x.kid i)) (len - 2)).bind fun a => (eachG (namesD (kid (len - 2)) 0) (fun j => matchG (kid (len - 2)) (x.kid (len - 2 + j))) (x.len - (len - 2))).map fun b => a ++ b
    else none

/-- A pattern, dots only where they may be; itself no dots. -/
def okG : X → Prop
  | .no => False
  | .mk op _ _ s _ len kid => (op = 1 ∨ op = 2 ∨ op = 3) ∧ (op ≠ 3 → len = 0) ∧ (op = 2 → (s.toList == dotsL) = false) ∧ ∀ i, i < len → (dotsX (kid i) = true ∧ i + 1 = len ∧ i ≠ 0 ∧ (kid i).len = 0) ∨ okG (kid i)

theorem matchTo_congr {f f' : Nat → Option (List G)} (k : Nat) (h : ∀ i, i < k → f i = f' i) : matchTo f k = matchTo f' k := by
  induction k with
  | zero => rfl
  | succ k ih => simp only [matchTo]; rw [ih (fun i hi => h i (by omega)), h k (by omega)]

/-- Deeper by so much. -/
def deeper (d : Int) (l : List (ByteArray × Int)) : List (ByteArray × Int) := l.map fun x => (x.1, x.2 + d)
theorem deeper_append (d : Int) (a b : List (ByteArray × Int)) : deeper d (a ++ b) = deeper d a ++ deeper d b := by simp [deeper]
theorem deeper_zero (l : List (ByteArray × Int)) : deeper 0 l = l := by simp [deeper]
theorem deeper_two (a b : Int) (l : List (ByteArray × Int)) : deeper a (deeper b l) = deeper (b + a) l := by simp [deeper, Int.add_assoc]
theorem kidDeep_add (len : Nat) (kid : Nat → X) (d e : Int) (i : Nat) : kidDeep len kid (d + e) i = kidDeep len kid d i + e := by unfold kidDeep; split <;> omega
theorem namesD_deeper (t : X) : ∀ d e : Int, namesD t (d + e) = deeper e (namesD t d) := by
  induction t with
  | no => intro d e; rfl
  | mk op a n s set len kid ih =>
    intro d e
    have h : ∀ k, flatTo (fun i => namesD (kid i) (kidDeep len kid (d + e) i)) k = deeper e (flatTo (fun i => namesD (kid i) (kidDeep len kid d i)) k) := by
      intro k
      induction k with
      | zero => rfl
      | succ k ihk => simp only [flatTo]; rw [ihk, kidDeep_add, ih k, deeper_append]
    rw [namesD, namesD, h, deeper_append]
    congr 1
    split
    · simp [deeper]
    · rfl

/-- What a list of them is named, and how deep each is. -/
def tagsG (l : List G) : List (ByteArray × Int) := l.map fun g => (g.name, g.deep)
theorem tagsG_append (a b : List G) : tagsG (a ++ b) = tagsG a ++ tagsG b := by simp [tagsG]
theorem tagsG_col (ns : List (ByteArray × Int)) (f : Nat → Option (List G)) (cnt : Nat) : tagsG (colG ns f cnt) = deeper 1 ns := by
  apply List.ext_getElem
  · simp [tagsG, colG, deeper]
  · intro i h1 h2
    simp only [tagsG, colG, deeper, List.map_map, List.getElem_map, List.getElem_range, Function.comp, G.name, G.deep]
    have hi : i < ns.length := by simpa [deeper] using h2
    rw [List.getD_eq_getElem?_getD, List.getElem?_eq_getElem hi, Option.getD_some]
theorem colG_len (ns : List (ByteArray × Int)) (f : Nat → Option (List G)) (cnt : Nat) : (colG ns f cnt).length = ns.length := by simp [colG]

theorem names_dots {t : X} (h : dotsX t = true) (hl : t.len = 0) (d : Int) : namesD t d = [] := by
  rw [namesD_eq, hl]
  have hn : nameX t.op t.s = false := by
    unfold dotsX at h
    rw [Bool.and_eq_true] at h
    unfold nameX
    rw [h.1, h.2]
    simp
  rw [hn]
  rfl

/-- The names of what is got are those of the pattern, in order. -/
theorem matchG_tags (p : X) : ∀ (x : X) (l : List G), okG p → matchG p x = some l → tagsG l = namesD p 0 := by
  induction p with
  | no => intro x l hp; exact hp.elim
  | mk op a n s set len kid ih =>
    intro x l hp hm
    obtain ⟨h1, h2, h3, h4⟩ := hp
    rw [matchG] at hm
    rw [namesD]
    by_cases ho2 : op = 2
    · subst ho2
      have hz := h2 (by omega)
      subst hz
      rw [if_pos rfl] at hm
      injection hm with hm
      subst hm
      have hd := h3 rfl
      simp only [flatTo, List.append_nil]
      unfold nameX
      cases hs : (s.toList == lineL)
      · rw [hd]
        simp [tagsG, oneG, G.name, G.deep]
      · rw [hd]
        simp [tagsG]
    · have hnn : nameX op s = false := by
        unfold nameX
        have : (op == 2) = false := by simpa using ho2
        rw [this]; rfl
      rw [if_neg ho2] at hm
      by_cases ho1 : op = 1
      · subst ho1
        have hz := h2 (by omega)
        subst hz
        rw [if_pos rfl] at hm
        split at hm
        · injection hm with hm
          subst hm
          rw [hnn]
          rfl
        · cases hm
      · have ho3 : op = 3 := by omega
        subst ho3
        rw [if_neg (by omega)] at hm
        by_cases hx3 : x.op = 3
        · rw [if_pos ⟨rfl, hx3⟩] at hm
          rw [hnn]
          simp only [Bool.false_eq_true, if_false, List.nil_append]
          -- the kids ahead of the dots
          have hto : ∀ k lk, k ≤ len → (∀ i, i < k → okG (kid i)) → (∀ i, i < k → (i : Int) ≠ oftenX len kid) → matchTo (fun i => matchG (kid i) (x.kid i)) k = some lk → tagsG lk = flatTo (fun i => namesD (kid i) (kidDeep len kid 0 i)) k := by
            intro k
            induction k with
            | zero => intro lk _ _ _ h; simp only [matchTo] at h; injection h with h; subst h; rfl
            | succ k ihk =>
              intro lk hk hok hno h
              simp only [matchTo] at h
              cases hA : matchTo (fun i => matchG (kid i) (x.kid i)) k with
              | none => rw [hA] at h; cases h
              | some A =>
                rw [hA] at h
                cases hB : matchG (kid k) (x.kid k) with
                | none => rw [hB] at h; cases h
                | some B =>
                  rw [hB] at h
                  injection h with h
                  subst h
                  simp only [flatTo]
                  rw [tagsG_append, ihk A (by omega) (fun i hi => hok i (by omega)) (fun i hi => hno i (by omega)) hA, ih k _ _ (hok k (by omega)) hB]
                  congr 2
                  unfold kidDeep
                  rw [if_neg (hno k (by omega))]
          by_cases hof : oftenX len kid = -1
          · rw [if_pos hof] at hm
            split at hm
            · refine hto len l (Nat.le_refl _) (fun i hi => ?_) (fun i hi => by rw [hof]; omega) hm
              rcases h4 i hi with ⟨hd, hl, h0, _⟩ | h
              · exfalso
                unfold oftenX at hof
                have e : len - 1 = i := by omega
                rw [e] at hof
                rw [if_pos ⟨by omega, hd⟩] at hof
                omega
              · exact h
            · cases hm
          · rw [if_neg hof] at hm
            have hof2 : 2 ≤ len ∧ dotsX (kid (len - 1)) = true := by
              unfold oftenX at hof
              split at hof
              · rename_i h; exact h
              · exact absurd rfl hof
            have hofe : oftenX len kid = (len : Int) - 2 := by unfold oftenX; rw [if_pos hof2]
            split at hm
            · cases hm
            · cases hA : matchTo (fun i => matchG (kid i) (x.kid i)) (len - 2) with
              | none => rw [hA] at hm; cases hm
              | some A =>
                rw [hA] at hm
                have hokk : ∀ i, i + 1 < len → okG (kid i) := fun i hi => by
                  rcases h4 i (by omega) with ⟨hd, hl, h0, _⟩ | h
                  · omega
                  · exact h
                have hdl : (kid (len - 1)).len = 0 := by
                  rcases h4 (len - 1) (by omega) with ⟨_, _, _, h⟩ | h
                  · exact h
                  · cases hk : kid (len - 1) with
                    | no => rfl
                    | mk op' a' n' s' set' len' kid' =>
                      rw [hk] at h hof2
                      obtain ⟨_, _, hs, _⟩ := h
                      have hd := hof2.2
                      unfold dotsX at hd
                      rw [Bool.and_eq_true] at hd
                      have := hs (by simpa [X.op] using hd.1)
                      simp only [X.s] at hd
                      rw [this] at hd
                      cases hd.2
                unfold eachG at hm
                split at hm
                · injection hm with hm
                  subst hm
                  rw [tagsG_append, tagsG_col, hto (len - 2) A (by omega) (fun i hi => hokk i (by omega)) (fun i hi => by rw [hofe]; omega) hA]
                  obtain ⟨m, hml⟩ : ∃ m, len = m + 2 := ⟨len - 2, by omega⟩
                  subst hml
                  rw [show m + 2 - 2 = m from rfl]
                  simp only [flatTo]
                  rw [show m + 2 - 1 = m + 1 from rfl] at hof2 hdl
                  rw [names_dots hof2.2 hdl, List.append_nil]
                  congr 1
                  have hkd : kidDeep (m + 2) kid 0 m = 0 + 1 := by unfold kidDeep; rw [if_pos (by rw [hofe]; omega)]
                  rw [hkd, namesD_deeper]
                · cases hm
        · rw [if_neg (fun h => hx3 h.2)] at hm
          cases hm
theorem matchG_len (p x : X) (l : List G) (hp : okG p) (hm : matchG p x = some l) : l.length = (namesD p 0).length := by
  rw [← matchG_tags p x l hp hm]; simp [tagsG]
end Go.Proofs.YtlclfmjpnchmbaaGreat
