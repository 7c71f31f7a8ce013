/- (*impl.heapWork).put: a block is put behind all, or there is no room. Conditions: the lock is free; the head is right; the half has its words; what is put lies in older memory. Written by wip/tools/mkput17.py. -/
import Derived.Test.YtgcegjgjegkahabWordHd17
import Derived.Laws.CopyOwn
namespace Go.Proofs.Ytgcegjgjegkahab
open Go.ChangeShapes Go.WideShapes Go.ChangeAt Go.RowKit

/-- No panic is left: what stands behind one is all one. -/
def calmE (Q : Exit → Act → World → Prop) : Exit → Act → World → Prop := fun e a w => match e with
  | .panic _ => False
  | e => Q e a w
theorem wp_calm17 {P : Program} {c : Code} {Q : Exit → Act → World → Prop} {a : Act} {w : World} (h : c.wp P (calmE Q) a w) : c.wp P Q a w :=
  Code.wp_mono (fun e a w hq => by cases e <;> first | exact hq | exact hq.elim) h
theorem calm_out {Q : Exit → Act → World → Prop} {a : Act} {w : World} (h : Q .normal a w) : calmE Q .normal a w := h
theorem wpList_copy17 {P : Program} {w : World} {ops : Array Oper} {rest : List Oper} {o : Oper} {a : Act} {Q : Exit → Act → World → Prop} (hgd : o.guard = none) (d s : Operand) (dT sT : TypeId)
    (ho : o.op = .call { callee := .builtin .copy, args := #[d, s], argTypes := #[dT, sT] }) (elem : TypeId) (hu : P.underlying dT = some (.slice elem)) (hsz : (P.info? elem).map (·.size) = some 1)
    (dp sp : Option Addr) (dLen dCap sLen sCap : Nat) (hd : a.eval d = .slice dp dLen dCap) (hs : a.eval s = .slice sp sLen sCap)
    (g off : Nat) (cur : List Value) (t : TypeId) (hg : w.heap[g]? = some (.cells cur.toArray t (0, 0))) (cs : List Value) (hn : cs.length = Nat.min sLen dLen)
    (hpos : 0 < cs.length → dp = some ⟨g, off, none⟩ ∧ ∃ ad, sp = some ad ∧ ∀ j v, cs[j]? = some v → w.cell? (ad.add j) = some v)
    (hfit : off + cs.length ≤ cur.length) (h1 : ∀ v ∈ cs, v.oneCell' = true) (B : Nat) (w0 : World) (hb : Below B w0 w) (hBg : B ≤ g)
    (h : ∀ w', Hid (w'.heap[g]? = some (.cells (splice cur off cs).toArray t (0, 0))) → Hid (∀ j, j ≠ g → w'.heap[j]? = w.heap[j]?) → Hid (Below B w0 w' ∧ w'.heap.size = w.heap.size) → wpList P ops Q rest (a.put o.dst (goInt cs.length)) w') :
    wpList P ops Q (o :: rest) a w := by
  by_cases h0 : cs.length = 0
  · obtain rfl : cs = [] := List.eq_nil_of_length_eq_zero h0
    refine wpList_copy_nothing hgd d s dT sT ho elem hu hsz dp sp dLen dCap sLen sCap hd hs (by simpa using hn.symm) ?_
    exact h w (show _ = _ by simpa [splice] using hg) (fun _ _ => rfl) ⟨hb, rfl⟩
  · obtain ⟨rfl, ad, rfl, hsrc⟩ := hpos (by omega)
    refine wpList_copy_own hgd d s dT sT ho elem hu hsz g off dLen dCap ad sLen sCap hd hs cur.toArray t hg cs hn hsrc (by simpa using hfit) h1 ?_
    exact h _ (show _ = _ by simpa [splice] using setRow_heap w g _ _ t _ hg) (fun j hj => setRow_other w g j _ hj) ⟨below_setRow hb hBg _, by simp [World.setRow]⟩
theorem size17_enter (vs : Array Value) (w : World) : (callFunc 85 vs).run Try.prog w = .ok (.enter 85 vs) w := by kernel_rfl
theorem word17_enter (vs : Array Value) (w : World) : (callFunc 91 vs).run Try.prog w = .ok (.enter 91 vs) w := by kernel_rfl
theorem base17_enter (vs : Array Value) (w : World) : (callFunc 90 vs).run Try.prog w = .ok (.enter 90 vs) w := by kernel_rfl
theorem bh_cells {w : World} {K : Nat} {f : Bool} {t k : Int} (h : w.heap[K]? = some (.cells #[.bool f, .int .i64 t, .int .i64 k] 61 (0, 0))) : w.cell? ⟨K, 0, none⟩ = some (.bool f) ∧ w.cell? ⟨K, 1, none⟩ = some (.int .i64 t) ∧ w.cell? ⟨K, 2, none⟩ = some (.int .i64 k) :=
  ⟨cell_of_row w _ 0 _ _ _ h, cell_of_row w _ 1 _ _ _ h, cell_of_row w _ 2 _ _ _ h⟩
theorem work_set0 {w : World} {H : Nat} {g m : Int} {v : Value} {half used x : Int} (h : WorkAt w H g m v half used) : WorkAt (w.setCell ⟨H, 0, none⟩ (.int .i32 x)) H x m v half used := heap_setCell_same w H 0 _ _ _ h
theorem work_set5 {w : World} {H : Nat} {g m : Int} {v : Value} {half used x : Int} (h : WorkAt w H g m v half used) : WorkAt (w.setCell ⟨H, 5, none⟩ (.int .i64 x)) H g m v half x := heap_setCell_same w H 5 _ _ _ h

/-- Words with a block put in at p. -/
def putW (ws : List Int) (p : Nat) (x : Int) (ks : List Int) : List Int := splice (ws.set p x) (p + 1) ks
theorem putW_len {ws : List Int} {p : Nat} {x : Int} {ks : List Int} (h : p + 1 + ks.length ≤ ws.length) : (putW ws p x ks).length = ws.length := by
  unfold putW; rw [length_splice _ _ _ (by rw [List.length_set]; exact h), List.length_set]
theorem putW_take {cur : List Value} {ws ks : List Int} {p : Nat} {x : Int} (hl : ws.length ≤ cur.length) (ht : cur.take ws.length = ws.map (Value.int .i64)) (h : p + 1 + ks.length ≤ ws.length) :
    (splice (cur.set p (.int .i64 x)) (p + 1) (ks.map (Value.int .i64))).take ws.length = (putW ws p x ks).map (Value.int .i64) := by
  have e : cur = ws.map (Value.int .i64) ++ cur.drop ws.length := by rw [← ht, List.take_append_drop]
  obtain ⟨r, hr⟩ : ∃ r, r = cur.drop ws.length := ⟨_, rfl⟩
  rw [← hr] at e
  subst e
  have hs : (ws.map (Value.int .i64) ++ r).set p (.int .i64 x) = (ws.set p x).map (Value.int .i64) ++ r := by
    rw [List.set_append_left _ _ (by rw [List.length_map]; omega), List.map_set]
  rw [hs]
  have hl2 : ((ws.set p x).map (Value.int .i64)).length = ws.length := by rw [List.length_map, List.length_set]
  unfold putW splice
  rw [List.length_map]
  have e1 : ((ws.set p x).map (Value.int .i64) ++ r).take (p + 1) = ((ws.set p x).take (p + 1)).map (Value.int .i64) := by
    rw [List.take_append_of_le_length (by omega), List.map_take]
  have e2 : ((ws.set p x).map (Value.int .i64) ++ r).drop (p + 1 + ks.length) = ((ws.set p x).drop (p + 1 + ks.length)).map (Value.int .i64) ++ r := by
    rw [List.drop_append_of_le_length (by omega), List.map_drop]
  rw [e1, e2, ← List.append_assoc (ks.map _), ← List.append_assoc, ← List.map_append, ← List.map_append]
  exact List.take_left' (by simp; omega)

/-- What put answers. -/
def PutRet (w0 : World) (H : Nat) (v : Value) (m half used : Int) (ws : List Int) (f : Bool) (t : Int) (ks : List Int) (e : Ending) (w' : World) : Prop :=
  (half - used < 1 + (ks.length : Nat) ∧ e = .returned (.tuple #[.int .i64 0, .bool false]) ∧ WorkAt w' H 0 m v half used ∧ Own w' w0.heap.size v ws ∧ Below w0.heap.size w0 w') ∨
  (¬ half - used < 1 + (ks.length : Nat) ∧ ∃ pl : Nat, (pl : Int) = m * half + used ∧ e = .returned (.tuple #[.int .i64 pl, .bool true]) ∧ WorkAt w' H 0 m v half (used + (1 + (ks.length : Nat))) ∧ Own w' w0.heap.size v (putW ws pl (hdW f t (ks.length : Nat)) ks) ∧ Below w0.heap.size w0 w')

set_option maxRecDepth 100000 in
set_option maxHeartbeats 16000000 in
theorem impl_put17 (f : Bool) (t : Int) (ks : List Int) (u : Value) (H g cap : Nat) (m half used : Int) (ws : List Int) (w0 w : World) (hb0 : Below w0.heap.size w0 w) (hH : w0.heap.size ≤ H)
    (hW : WorkAt w H 0 m (.slice (some ⟨g, 0, none⟩) ws.length cap) half used) (hO : Own w w0.heap.size (.slice (some ⟨g, 0, none⟩) ws.length cap) ws) (hgH : g ≠ H) (hu : Rd w0 u ks)
    (ht0 : 0 ≤ t) (ht1 : t ≤ 3000) (hk : ks.length ≤ 20) (hm : m = 0 ∨ m = 1) (hh0 : 1 ≤ half) (hh1 : half ≤ 3000) (hu0 : 0 ≤ used) (hu1 : used ≤ half) (hl : (ws.length : Int) = 2 * half) :
    Calls Try.prog 68 #[.pointer (some ⟨H, 0, none⟩), .agg #[.bool f, .int .i64 t, .int .i64 (ks.length : Nat)], u] w (PutRet w0 H (.slice (some ⟨g, 0, none⟩) ws.length cap) m half used ws f t ks) := by
  obtain ⟨pu, cuu, rfl, hcu⟩ := hu.shape
  have HCU := hid17 hcu
  clear hcu
  have hmh : 0 ≤ m * half ∧ m * half ≤ half := by rcases hm with rfl | rfl <;> omega
  obtain ⟨cur, hg0, hgc, hncap, hcapm, hcurl, htake⟩ : ∃ cur : List Value, w0.heap.size ≤ g ∧ w.heap[g]? = some (.cells cur.toArray 3 (0, 0)) ∧ ws.length ≤ cap ∧ cap ≤ maxLen ∧ cur.length = cap ∧ cur.take ws.length = ws.map (Value.int .i64) := by
    rcases hO.2 with ⟨h1, _⟩ | ⟨g', cap', cur, h1, h2, h3, h4, h5, h6, h7⟩
    · cases h1
    · injection h1 with e1 _ e3
      injection e1 with e1
      injection e1 with e1
      subst e1
      subst e3
      exact ⟨cur.toList, h2, by simpa using h3, h4, h5, by simpa using h6, by simpa using h7⟩
  obtain ⟨POST, hPO⟩ : ∃ P, P = PutRet w0 H (.slice (some ⟨g, 0, none⟩) ws.length cap) m half used ws f t ks := ⟨_, rfl⟩
  rw [← hPO]
  have HP : Hid (POST = PutRet w0 H (.slice (some ⟨g, 0, none⟩) ws.length cap) m half used ws f t ks) := hPO
  clear hPO
  have HSZ : Hid (∀ w, Calls Try.prog 85 #[.agg #[.bool f, .int .i64 t, .int .i64 (ks.length : Nat)]] w fun e w' => e = .returned (.int .i64 (1 + (ks.length : Nat))) ∧ Below w.heap.size w w') := fun w => impl_bhsize f t (ks.length : Nat) w (by omega) (by omega)
  have HWD : Hid (∀ w, Calls Try.prog 91 #[.agg #[.bool f, .int .i64 t, .int .i64 (ks.length : Nat)]] w fun e w' => e = .returned (.int .i64 (hdW f t (ks.length : Nat))) ∧ Below w.heap.size w w') := fun w => impl_word17 f t (ks.length : Nat) w ht0 ht1 (by omega) (by omega)
  obtain ⟨pl, hpl⟩ : ∃ pl : Nat, (pl : Int) = m * half + used := ⟨(m * half + used).toNat, by omega⟩
  have HPL := hid17 hpl
  clear hpl
  have HM := hid17 hm
  have HTK := hid17 htake
  have HGH := hid17 (show H ≠ g from fun h => hgH h.symm)
  have HG0 := hid17 hg0
  have HH0 := hid17 hH
  have HL := hid17 hl
  obtain ⟨K, hK⟩ : ∃ K, K = w.heap.size := ⟨_, rfl⟩
  obtain ⟨A, hA⟩ : ∃ A, A = w.alloc (.cells #[.bool f, .int .i64 t, .int .i64 (ks.length : Nat)] 61) := ⟨_, rfl⟩
  have hAB : Below w.heap.size w A := by rw [hA]; exact new_below _ _
  have hAW : WorkAt A H 0 m (.slice (some ⟨g, 0, none⟩) ws.length cap) half used := hW.below hAB
  have hHK : H < K := by rw [hK]; exact hW.lt
  have hglt : g < K := by
    rw [hK]
    rcases Nat.lt_or_ge g w.heap.size with h1 | h1
    · exact h1
    · rw [Array.getElem?_eq_none h1] at hgc; cases hgc
  have hAK : A.heap[K]? = some (.cells #[.bool f, .int .i64 t, .int .i64 (ks.length : Nat)] 61 (0, 0)) := by rw [hA, hK]; exact heap_alloc_last _ _
  have hAg : A.heap[g]? = some (.cells cur.toArray 3 (0, 0)) := (hAB.block g (by omega)).trans hgc
  obtain ⟨W3, hW3⟩ : ∃ W3, W3 = A.setCell ⟨H, 0, none⟩ (.int .i32 1) := ⟨_, rfl⟩
  have HW3 := hid17 (show WorkAt W3 H 1 m (.slice (some ⟨g, 0, none⟩) ws.length cap) half used by rw [hW3]; exact work_set0 hAW)
  have HBH3 := hid17 (show W3.heap[K]? = some (.cells #[.bool f, .int .i64 t, .int .i64 (ks.length : Nat)] 61 (0, 0)) by rw [hW3]; exact (heap_setCell_other A ⟨H, 0, none⟩ K _ (by simp only; omega)).trans hAK)
  have HG3 := hid17 (show W3.heap[g]? = some (.cells cur.toArray 3 (0, 0)) by rw [hW3]; exact (heap_setCell_other A ⟨H, 0, none⟩ g _ hgH).trans hAg)
  have hb3 : Below w0.heap.size w0 W3 := by rw [hW3]; exact (hb0.trans (hAB.mono hb0.size)).setCell hH _
  have HB3 := hid17 hb3
  have HBL3 := hid17 (show K < W3.heap.size from (Array.getElem?_eq_some_iff.1 HBH3.out).1)
  have HKG := hid17 (show K ≠ g by omega)
  have HKH := hid17 (show K ≠ H by omega)
  have HGL := hid17 hglt
  have HU := hid17 hu
  obtain ⟨⟨a0, _, _, _, _, _⟩, af⟩ := hAW.cells
  have af0 := af 0
  have hwl : ws.length ≤ 6000 := by omega
  clear hW hO hb0 hAB hAW hAK hAg hb3 af hgc htake hu hm hgH
  go_enter_defers Try.func68, Try.ntmps68
  go_wp2_with fail
  rw [← hA]
  clear hA
  refine (Go.MuLone.lock_free Try.muLib ⟨H, 0, none⟩ A a0 af0).mono ?_
  rintro e w1 ⟨rfl, hw1⟩
  rw [← hW3] at hw1
  clear hW3 a0 af0
  subst w1
  go_upto_region 3 with fail
  rw [← hK]
  clear hK
  refine wp_calm17 ?_
  refine wp_region_held_drew (S := fun wq => Below W3.heap.size W3 wq) (by kernel_rfl) (show Below W3.heap.size W3 W3.drew from (Below.refl _ _).drew) (fun HS0 => ?_)
  refine wpAnyH_take (i := 0) (oi := { dst := some 16, op := Op.load 61 (Operand.tmp 4), type := 61, pos := "l17_heap.go:159", after := #[], guard := none }) (v := (.agg #[.bool f, .int .i64 t, .int .i64 (ks.length : Nat)])) rfl (by kernel_rfl) (by kernel_rfl) (by kernel_rfl) (fun _ _ _ h => h) (Or.inl ⟨by rfl, ?_⟩) HS0 ?_
  · intro wq hSq
    obtain ⟨d0, d1, d2⟩ := bh_cells ((hSq.block _ HBL3.out).trans HBH3.out)
    clear hSq
    go_simp
  try simp only [Act.put, List.setIfInBounds_toArray, List.set_cons_zero, List.set_cons_succ]
  refine wpAnyH_take (i := 2) (oi := { dst := some 18, op := Op.move (Operand.tmp 0), type := 67, pos := "l17_heap.go:159", after := #[], guard := none }) (v := (.pointer (some ⟨H, 0, none⟩))) rfl (by kernel_rfl) (by kernel_rfl) (by kernel_rfl) (fun _ _ _ h => h) (Or.inl ⟨by rfl, ?_⟩) HS0 ?_
  · intro wq hSq
    clear hSq
    go_simp
  try simp only [Act.put, List.setIfInBounds_toArray, List.set_cons_zero, List.set_cons_succ]
  refine wpAnyH_take (i := 3) (oi := { dst := some 19, op := Op.nilCheck (Operand.tmp 18), type := 0, pos := "l17_heap.go:159", after := #[{ on := 2, ground := Ground.data }], guard := none }) (v := (.pointer (some ⟨H, 0, none⟩))) rfl (by kernel_rfl) (by kernel_rfl) (by kernel_rfl) (fun _ _ _ h => h) (Or.inl ⟨by rfl, ?_⟩) HS0 ?_
  · intro wq hSq
    clear hSq
    go_simp
  try simp only [Act.put, List.setIfInBounds_toArray, List.set_cons_zero, List.set_cons_succ]
  refine wpAnyH_take (i := 4) (oi := { dst := some 20, op := Op.fieldAddr 98 (Operand.tmp 19) 3, type := 0, pos := "l17_heap.go:159", after := #[{ on := 3, ground := Ground.data }], guard := none }) (v := (.pointer (some ⟨H, 4, none⟩))) rfl (by kernel_rfl) (by kernel_rfl) (by kernel_rfl) (fun _ _ _ h => h) (Or.inl ⟨by rfl, ?_⟩) HS0 ?_
  · intro wq hSq
    clear hSq
    go_simp
  try simp only [Act.put, List.setIfInBounds_toArray, List.set_cons_zero, List.set_cons_succ]
  refine wpAnyH_take (i := 5) (oi := { dst := some 21, op := Op.load 3 (Operand.tmp 20), type := 3, pos := "l17_heap.go:159", after := #[{ on := 4, ground := Ground.data }], guard := none }) (v := (.int .i64 half)) rfl (by kernel_rfl) (by kernel_rfl) (by kernel_rfl) (fun _ _ _ h => h) (Or.inl ⟨by rfl, ?_⟩) HS0 ?_
  · intro wq hSq
    obtain ⟨⟨c0, c1, c2, c3, c4, c5⟩, cf⟩ := (HW3.out.below hSq).cells
    clear hSq
    go_simp
  try simp only [Act.put, List.setIfInBounds_toArray, List.set_cons_zero, List.set_cons_succ]
  refine wpAnyH_take (i := 6) (oi := { dst := some 22, op := Op.move (Operand.tmp 0), type := 67, pos := "l17_heap.go:159", after := #[], guard := none }) (v := (.pointer (some ⟨H, 0, none⟩))) rfl (by kernel_rfl) (by kernel_rfl) (by kernel_rfl) (fun _ _ _ h => h) (Or.inl ⟨by rfl, ?_⟩) HS0 ?_
  · intro wq hSq
    clear hSq
    go_simp
  try simp only [Act.put, List.setIfInBounds_toArray, List.set_cons_zero, List.set_cons_succ]
  refine wpAnyH_take (i := 7) (oi := { dst := some 23, op := Op.nilCheck (Operand.tmp 22), type := 0, pos := "l17_heap.go:159", after := #[{ on := 6, ground := Ground.data }], guard := none }) (v := (.pointer (some ⟨H, 0, none⟩))) rfl (by kernel_rfl) (by kernel_rfl) (by kernel_rfl) (fun _ _ _ h => h) (Or.inl ⟨by rfl, ?_⟩) HS0 ?_
  · intro wq hSq
    clear hSq
    go_simp
  try simp only [Act.put, List.setIfInBounds_toArray, List.set_cons_zero, List.set_cons_succ]
  refine wpAnyH_take (i := 8) (oi := { dst := some 24, op := Op.fieldAddr 98 (Operand.tmp 23) 4, type := 0, pos := "l17_heap.go:159", after := #[{ on := 7, ground := Ground.data }], guard := none }) (v := (.pointer (some ⟨H, 5, none⟩))) rfl (by kernel_rfl) (by kernel_rfl) (by kernel_rfl) (fun _ _ _ h => h) (Or.inl ⟨by rfl, ?_⟩) HS0 ?_
  · intro wq hSq
    clear hSq
    go_simp
  try simp only [Act.put, List.setIfInBounds_toArray, List.set_cons_zero, List.set_cons_succ]
  refine wpAnyH_take (i := 9) (oi := { dst := some 25, op := Op.load 3 (Operand.tmp 24), type := 3, pos := "l17_heap.go:159", after := #[{ on := 8, ground := Ground.data }], guard := none }) (v := (.int .i64 used)) rfl (by kernel_rfl) (by kernel_rfl) (by kernel_rfl) (fun _ _ _ h => h) (Or.inl ⟨by rfl, ?_⟩) HS0 ?_
  · intro wq hSq
    obtain ⟨⟨c0, c1, c2, c3, c4, c5⟩, cf⟩ := (HW3.out.below hSq).cells
    clear hSq
    go_simp
  try simp only [Act.put, List.setIfInBounds_toArray, List.set_cons_zero, List.set_cons_succ]
  refine wpAnyH_take (i := 10) (oi := { dst := some 26, op := Op.binOp BinOp.sub 3 (Operand.tmp 21) (Operand.tmp 25) 3, type := 3, pos := "l17_heap.go:159", after := #[{ on := 5, ground := Ground.data }, { on := 9, ground := Ground.data }], guard := none }) (v := (.int .i64 (half - used))) rfl (by kernel_rfl) (by kernel_rfl) (by kernel_rfl) (fun _ _ _ h => h) (Or.inl ⟨by rfl, ?_⟩) HS0 ?_
  · intro wq hSq
    clear hSq
    go_simp; rw [IntKind.wrap_i64]; omega
  try simp only [Act.put, List.setIfInBounds_toArray, List.set_cons_zero, List.set_cons_succ]
  refine wpAnyH_ready (rs := [1]) (by kernel_rfl) (by simp) ?_
  refine AllReadyH.cons (o := { dst := some 17, op := Op.call { callee := Callee.value (Operand.func 85), args := #[Operand.tmp 16], argTypes := #[61] }, type := 3, pos := "l17_heap.go:159", after := #[{ on := 0, ground := Ground.data }], guard := none }) rfl (fun KK hK => ?ra1) AllReadyH.nil
  refine step_call1 rfl 85 _ _ rfl size17_enter (.agg #[.bool f, .int .i64 t, .int .i64 (ks.length : Nat)]) rfl _ (HSZ.out _) ?_
  rintro e w4 ⟨rfl, hbw4⟩
  refine ⟨_, rfl, ?_⟩
  have hsw4 : Below W3.heap.size W3 w4 := HS0.trans (hbw4.mono HS0.size)
  refine hK.out _ _ hsw4 (fun _ => ?_)
  clear hK KK
  try simp only [Act.put, List.setIfInBounds_toArray, List.set_cons_zero, List.set_cons_succ]
  refine wpAnyH_take (i := 11) (oi := { dst := some 27, op := Op.binOp BinOp.gtr 3 (Operand.tmp 17) (Operand.tmp 26) 3, type := 4, pos := "l17_heap.go:159", after := #[{ on := 1, ground := Ground.data }, { on := 10, ground := Ground.data }], guard := none }) (v := (.bool (decide (half - used < 1 + (ks.length : Nat))))) rfl (by kernel_rfl) (by kernel_rfl) (by kernel_rfl) (fun _ _ _ h => h) (Or.inl ⟨by rfl, ?_⟩) hsw4 ?_
  · intro wq hSq
    clear hSq
    go_simp
  try simp only [Act.put, List.setIfInBounds_toArray, List.set_cons_zero, List.set_cons_succ]
  refine wpAnyH_done (by kernel_rfl) ?_ _
  refine calm_out ?_
  have HS4 := hid17 hsw4
  clear hsw4 hbw4
  have HW4 := hid17 (HW3.out.below HS4.out)
  obtain ⟨⟨z0, z1, z2, z3, z4, z5⟩, zf⟩ := HW4.out.cells
  have zf0 := zf 0
  clear zf z1 z2 z3 z4 z5
  have HG4 := hid17 (show w4.heap[g]? = some (.cells cur.toArray 3 (0, 0)) from (HS4.out.block g (by have := HBL3.out; have := HGL.out; omega)).trans HG3.out)
  have HBH4 := hid17 (show w4.heap[K]? = some (.cells #[.bool f, .int .i64 t, .int .i64 (ks.length : Nat)] 61 (0, 0)) from (HS4.out.block K HBL3.out).trans HBH3.out)
  have HB4 := hid17 (show Below w0.heap.size w0 w4 from HB3.out.trans (HS4.out.mono HB3.out.size))
  by_cases hroom : half - used < 1 + ((ks.length : Nat) : Int)
  case pos =>
    have HE : Hid (POST (.returned (.tuple #[.int .i64 0, .bool false])) (w4.setCell ⟨H, 0, none⟩ (.int .i32 0))) := by
      show POST _ _
      rw [HP.out]
      refine .inl ⟨hroom, rfl, work_set0 HW4.out, ?_, HB4.out.setCell HH0.out _⟩
      refine ⟨by rw [List.length_map]; omega, .inr ⟨g, cap, cur.toArray, rfl, HG0.out, (heap_setCell_other w4 ⟨H, 0, none⟩ g _ (fun h => HGH.out h.symm)).trans HG4.out, hncap, hcapm, by simpa using hcurl, by simpa using HTK.out⟩⟩
    go_wp2_with fail
    refine leaves_cons (f := 89) (args := #[.pointer (some ⟨H, 0, none⟩)]) (by simp) (by simp [go_sem]) ?_
    refine (Go.MuLone.unlock_deferred Try.muLib ⟨H, 0, none⟩ .returning w4 z0 zf0).mono ?_
    rintro e u' w'' ⟨rfl, rfl, rfl⟩
    refine ⟨_, results_tmp2 (t := 6) (u := 7) (by kernel_rfl) _ _ _, ?_⟩
    exact HE.out
  case neg =>
    have HROOM := hid17 hroom
    have hpw : pl < ws.length := by have := HPL.out; omega
    have hpw2 : (pl : Int) < 2 * half := by omega
    clear z0 zf0
    have HBASE : Hid (∀ wq, Below w4.heap.size w4 wq → Calls Try.prog 90 #[.pointer (some ⟨H, 0, none⟩)] wq fun e w' => e = .returned (.int .i64 (m * half)) ∧ Below w4.heap.size w4 w') := fun wq hq =>
      (impl_base17 H 1 m _ half used wq (HW4.out.below hq) HM.out ⟨by omega, hh1⟩).mono (fun e w' hr => by
        obtain ⟨h1, q, h2⟩ := hr
        exact ⟨h1, by rw [h2]; exact belowDrew hq q⟩)
    have hmh0 := hmh.1
    have hmh1 := hmh.2
    generalize hmm : m * half = mh at *
    have HMM := hid17 hmm
    clear hmm
    go_upto_region 5 with fail
    refine wp_calm17 ?_
    refine wp_region_held_drew (S := fun wq => Below w4.heap.size w4 wq) (by kernel_rfl) (show Below w4.heap.size w4 w4.drew from (Below.refl _ _).drew) (fun HS0 => ?_)
    refine wpAnyH_take (i := 0) (oi := { dst := some 28, op := Op.move (Operand.tmp 0), type := 67, pos := "l17_heap.go:162", after := #[], guard := none }) (v := (.pointer (some ⟨H, 0, none⟩))) rfl (by kernel_rfl) (by kernel_rfl) (by kernel_rfl) (fun _ _ _ h => h) (Or.inl ⟨by rfl, ?_⟩) HS0 ?_
    · intro wq hSq
      clear hSq
      go_simp
    try simp only [Act.put, List.setIfInBounds_toArray, List.set_cons_zero, List.set_cons_succ]
    refine wpAnyH_take (i := 2) (oi := { dst := some 30, op := Op.move (Operand.tmp 0), type := 67, pos := "l17_heap.go:162", after := #[], guard := none }) (v := (.pointer (some ⟨H, 0, none⟩))) rfl (by kernel_rfl) (by kernel_rfl) (by kernel_rfl) (fun _ _ _ h => h) (Or.inl ⟨by rfl, ?_⟩) HS0 ?_
    · intro wq hSq
      clear hSq
      go_simp
    try simp only [Act.put, List.setIfInBounds_toArray, List.set_cons_zero, List.set_cons_succ]
    refine wpAnyH_take (i := 3) (oi := { dst := some 31, op := Op.nilCheck (Operand.tmp 30), type := 0, pos := "l17_heap.go:162", after := #[{ on := 2, ground := Ground.data }], guard := none }) (v := (.pointer (some ⟨H, 0, none⟩))) rfl (by kernel_rfl) (by kernel_rfl) (by kernel_rfl) (fun _ _ _ h => h) (Or.inl ⟨by rfl, ?_⟩) HS0 ?_
    · intro wq hSq
      clear hSq
      go_simp
    try simp only [Act.put, List.setIfInBounds_toArray, List.set_cons_zero, List.set_cons_succ]
    refine wpAnyH_take (i := 4) (oi := { dst := some 32, op := Op.fieldAddr 98 (Operand.tmp 31) 4, type := 0, pos := "l17_heap.go:162", after := #[{ on := 3, ground := Ground.data }], guard := none }) (v := (.pointer (some ⟨H, 5, none⟩))) rfl (by kernel_rfl) (by kernel_rfl) (by kernel_rfl) (fun _ _ _ h => h) (Or.inl ⟨by rfl, ?_⟩) HS0 ?_
    · intro wq hSq
      clear hSq
      go_simp
    try simp only [Act.put, List.setIfInBounds_toArray, List.set_cons_zero, List.set_cons_succ]
    refine wpAnyH_take (i := 5) (oi := { dst := some 33, op := Op.load 3 (Operand.tmp 32), type := 3, pos := "l17_heap.go:162", after := #[{ on := 4, ground := Ground.data }], guard := none }) (v := (.int .i64 used)) rfl (by kernel_rfl) (by kernel_rfl) (by kernel_rfl) (fun _ _ _ h => h) (Or.inl ⟨by rfl, ?_⟩) HS0 ?_
    · intro wq hSq
      obtain ⟨⟨c0, c1, c2, c3, c4, c5⟩, cf⟩ := (HW4.out.below hSq).cells
      clear hSq
      go_simp
    try simp only [Act.put, List.setIfInBounds_toArray, List.set_cons_zero, List.set_cons_succ]
    refine wpAnyH_ready (rs := [1]) (by kernel_rfl) (by simp) ?_
    refine AllReadyH.cons (o := { dst := some 29, op := Op.call { callee := Callee.value (Operand.func 90), args := #[Operand.tmp 28], argTypes := #[67] }, type := 3, pos := "l17_heap.go:162", after := #[{ on := 0, ground := Ground.data }], guard := none }) rfl (fun KK hK => ?rb1) AllReadyH.nil
    refine step_call1 rfl 90 _ _ rfl base17_enter (.pointer (some ⟨H, 0, none⟩)) rfl _ (HBASE.out _ HS0) ?_
    rintro e w5 ⟨rfl, hsw5⟩
    refine ⟨_, rfl, ?_⟩
    refine hK.out _ _ hsw5 (fun _ => ?_)
    clear hK KK
    try simp only [Act.put, List.setIfInBounds_toArray, List.set_cons_zero, List.set_cons_succ]
    refine wpAnyH_take (i := 6) (oi := { dst := some 34, op := Op.binOp BinOp.add 3 (Operand.tmp 29) (Operand.tmp 33) 3, type := 3, pos := "l17_heap.go:162", after := #[{ on := 1, ground := Ground.data }, { on := 5, ground := Ground.data }], guard := none }) (v := (.int .i64 (pl : Nat))) rfl (by kernel_rfl) (by kernel_rfl) (by kernel_rfl) (fun _ _ _ h => h) (Or.inl ⟨by rfl, ?_⟩) hsw5 ?_
    · intro wq hSq
      clear hSq
      go_simp; rw [IntKind.wrap_i64]; have := HPL.out; omega
    try simp only [Act.put, List.setIfInBounds_toArray, List.set_cons_zero, List.set_cons_succ]
    refine wpAnyH_take (i := 7) (oi := { dst := some 8, op := Op.assign (Operand.tmp 34), type := 3, pos := "l17_heap.go:162", after := #[{ on := 6, ground := Ground.data }, { on := 1, ground := Ground.chain }, { on := 0, ground := Ground.phase }, { on := 1, ground := Ground.phase }, { on := 2, ground := Ground.phase }, { on := 3, ground := Ground.phase }, { on := 4, ground := Ground.phase }, { on := 5, ground := Ground.phase }, { on := 6, ground := Ground.phase }], guard := none }) (v := (.int .i64 (pl : Nat))) rfl (by kernel_rfl) (by kernel_rfl) (by kernel_rfl) (fun _ _ _ h => h) (Or.inl ⟨by rfl, ?_⟩) hsw5 ?_
    · intro wq hSq
      clear hSq
      go_simp
    try simp only [Act.put, List.setIfInBounds_toArray, List.set_cons_zero, List.set_cons_succ]
    refine wpAnyH_done (by kernel_rfl) ?_ _
    refine calm_out ?_
    have HS5 := hid17 hsw5
    have HW5 := hid17 (HW4.out.below HS5.out)
    have HG5 := hid17 (show w5.heap[g]? = some (.cells cur.toArray 3 (0, 0)) from (HS5.out.block g (Array.getElem?_eq_some_iff.1 HG4.out).1).trans HG4.out)
    have HBH5 := hid17 (show w5.heap[K]? = some (.cells #[.bool f, .int .i64 t, .int .i64 (ks.length : Nat)] 61 (0, 0)) from (HS5.out.block K (Array.getElem?_eq_some_iff.1 HBH4.out).1).trans HBH4.out)
    have HBL5 := hid17 (show K < w5.heap.size from (Array.getElem?_eq_some_iff.1 HBH5.out).1)
    have HB5 := hid17 (show Below w0.heap.size w0 w5 from HB4.out.trans (HS5.out.mono HB4.out.size))
    have HCG : Hid (∀ wq, Below w5.heap.size w5 wq → ∃ x, wq.cell? ⟨g, pl, none⟩ = some x) := fun wq hq => by
      have r := (hq.block g (Array.getElem?_eq_some_iff.1 HG5.out).1).trans HG5.out
      exact ⟨_, (cell_of_row wq g pl _ _ _ r).trans (by simp; exact List.getElem?_eq_getElem (by omega))⟩
    have HFG : Hid (∀ wq, Below w5.heap.size w5 wq → wq.frozen? ⟨g, pl, none⟩ = false) := fun wq hq => by
      have r := (hq.block g (Array.getElem?_eq_some_iff.1 HG5.out).1).trans HG5.out
      exact frozen_of_row wq g pl _ _ r
    clear hsw5
    go_upto_region 6 with fail
    refine wp_calm17 ?_
    refine wp_region_held_drew (S := fun wq => ∀ j, j < w5.heap.size → j ≠ g → wq.heap[j]? = w5.heap[j]?) (by kernel_rfl) (show (fun wq => ∀ j, j < w5.heap.size → j ≠ g → wq.heap[j]? = w5.heap[j]?) w5.drew from fun _ _ _ => rfl) (fun HS0 => ?_)
    refine wpAnyH_take (i := 0) (oi := { dst := some 35, op := Op.move (Operand.tmp 0), type := 67, pos := "l17_heap.go:163", after := #[], guard := none }) (v := (.pointer (some ⟨H, 0, none⟩))) rfl (by kernel_rfl) (by kernel_rfl) (by kernel_rfl) (fun _ _ _ h => h) (Or.inl ⟨by rfl, ?_⟩) HS0 ?_
    · intro wq hSq
      clear hSq
      go_simp
    try simp only [Act.put, List.setIfInBounds_toArray, List.set_cons_zero, List.set_cons_succ]
    refine wpAnyH_take (i := 1) (oi := { dst := some 36, op := Op.nilCheck (Operand.tmp 35), type := 0, pos := "l17_heap.go:163", after := #[{ on := 0, ground := Ground.data }], guard := none }) (v := (.pointer (some ⟨H, 0, none⟩))) rfl (by kernel_rfl) (by kernel_rfl) (by kernel_rfl) (fun _ _ _ h => h) (Or.inl ⟨by rfl, ?_⟩) HS0 ?_
    · intro wq hSq
      clear hSq
      go_simp
    try simp only [Act.put, List.setIfInBounds_toArray, List.set_cons_zero, List.set_cons_succ]
    refine wpAnyH_take (i := 2) (oi := { dst := some 37, op := Op.fieldAddr 98 (Operand.tmp 36) 2, type := 0, pos := "l17_heap.go:163", after := #[{ on := 1, ground := Ground.data }], guard := none }) (v := (.pointer (some ⟨H, 3, none⟩))) rfl (by kernel_rfl) (by kernel_rfl) (by kernel_rfl) (fun _ _ _ h => h) (Or.inl ⟨by rfl, ?_⟩) HS0 ?_
    · intro wq hSq
      clear hSq
      go_simp
    try simp only [Act.put, List.setIfInBounds_toArray, List.set_cons_zero, List.set_cons_succ]
    refine wpAnyH_take (i := 3) (oi := { dst := some 38, op := Op.load 22 (Operand.tmp 37), type := 22, pos := "l17_heap.go:163", after := #[{ on := 2, ground := Ground.data }], guard := none }) (v := (.slice (some ⟨g, 0, none⟩) ws.length cap)) rfl (by kernel_rfl) (by kernel_rfl) (by kernel_rfl) (fun _ _ _ h => h) (Or.inl ⟨by rfl, ?_⟩) HS0 ?_
    · intro wq hSq
      obtain ⟨⟨c0, c1, c2, c3, c4, c5⟩, cf⟩ := WorkAt.cells (w := wq) ((hSq H HW5.out.lt HGH.out).trans HW5.out)
      clear hSq
      go_simp
    try simp only [Act.put, List.setIfInBounds_toArray, List.set_cons_zero, List.set_cons_succ]
    refine wpAnyH_take (i := 4) (oi := { dst := some 39, op := Op.move (Operand.tmp 8), type := 3, pos := "l17_heap.go:163", after := #[], guard := none }) (v := (.int .i64 (pl : Nat))) rfl (by kernel_rfl) (by kernel_rfl) (by kernel_rfl) (fun _ _ _ h => h) (Or.inl ⟨by rfl, ?_⟩) HS0 ?_
    · intro wq hSq
      clear hSq
      go_simp
    try simp only [Act.put, List.setIfInBounds_toArray, List.set_cons_zero, List.set_cons_succ]
    refine wpAnyH_take (i := 5) (oi := { dst := some 40, op := Op.load 61 (Operand.tmp 4), type := 61, pos := "l17_heap.go:163", after := #[], guard := none }) (v := (.agg #[.bool f, .int .i64 t, .int .i64 (ks.length : Nat)])) rfl (by kernel_rfl) (by kernel_rfl) (by kernel_rfl) (fun _ _ _ h => h) (Or.inl ⟨by rfl, ?_⟩) HS0 ?_
    · intro wq hSq
      obtain ⟨d0, d1, d2⟩ := bh_cells (w := wq) ((hSq K HBL5.out HKG.out).trans HBH5.out)
      clear hSq
      go_simp
    try simp only [Act.put, List.setIfInBounds_toArray, List.set_cons_zero, List.set_cons_succ]
    refine wpAnyH_ready (rs := [6]) (by kernel_rfl) (by simp) ?_
    refine AllReadyH.cons (o := { dst := some 41, op := Op.call { callee := Callee.value (Operand.func 91), args := #[Operand.tmp 40], argTypes := #[61] }, type := 3, pos := "l17_heap.go:163", after := #[{ on := 5, ground := Ground.data }], guard := none }) rfl (fun KK hK => ?rc1) AllReadyH.nil
    refine step_call1 rfl 91 _ _ rfl word17_enter (.agg #[.bool f, .int .i64 t, .int .i64 (ks.length : Nat)]) rfl _ (HWD.out w5.drew) ?_
    rintro e w6 ⟨rfl, hb6⟩
    refine ⟨_, rfl, ?_⟩
    have B6 : Below w5.heap.size w5 w6 := (Below.refl _ _).drew.trans hb6
    have hsw6 : (fun wq => ∀ j, j < w5.heap.size → j ≠ g → wq.heap[j]? = w5.heap[j]?) w6 := fun j hj _ => B6.block j hj
    clear hb6
    refine hK.out _ _ hsw6 (fun _ => ?_)
    clear hK KK
    try simp only [Act.put, List.setIfInBounds_toArray, List.set_cons_zero, List.set_cons_succ]
    refine wpAnyH_take (i := 7) (oi := { dst := some 42, op := Op.indexAddr 22 (Operand.tmp 38) (Operand.tmp 39), type := 0, pos := "l17_heap.go:163", after := #[{ on := 3, ground := Ground.data }, { on := 4, ground := Ground.data }, { on := 0, ground := Ground.phase }, { on := 1, ground := Ground.phase }, { on := 2, ground := Ground.phase }, { on := 3, ground := Ground.phase }, { on := 4, ground := Ground.phase }, { on := 5, ground := Ground.phase }, { on := 6, ground := Ground.phase }], guard := none }) (v := (.pointer (some ⟨g, pl, none⟩))) rfl (by kernel_rfl) (by kernel_rfl) (by kernel_rfl) (fun _ _ _ h => h) (Or.inl ⟨by rfl, ?_⟩) hsw6 ?_
    · intro wq hSq
      clear hSq
      go_simp
    try simp only [Act.put, List.setIfInBounds_toArray, List.set_cons_zero, List.set_cons_succ]
    refine wpAnyH_ready (rs := [8]) (by kernel_rfl) (by simp) ?_
    refine AllReadyH.cons (o := { dst := none, op := Op.store 3 (Operand.tmp 42) (Operand.tmp 41), type := 0, pos := "l17_heap.go:163", after := #[{ on := 7, ground := Ground.data }, { on := 6, ground := Ground.data }, { on := 6, ground := Ground.chain }, { on := 0, ground := Ground.phase }, { on := 1, ground := Ground.phase }, { on := 2, ground := Ground.phase }, { on := 3, ground := Ground.phase }, { on := 4, ground := Ground.phase }, { on := 5, ground := Ground.phase }, { on := 6, ground := Ground.phase }], guard := none }) rfl (fun KK hK => ?rc2) AllReadyH.nil
    obtain ⟨xg, hcg⟩ := HCG.out w6 B6
    have hfg := HFG.out w6 B6
    go_simp
    have hsw7 : (fun wq => ∀ j, j < w5.heap.size → j ≠ g → wq.heap[j]? = w5.heap[j]?) (w6.setCell ⟨g, pl, none⟩ (.int .i64 (hdW f t (ks.length : Nat)))) := fun j hj hne => (heap_setCell_other w6 ⟨g, pl, none⟩ j _ hne).trans (B6.block j hj)
    refine hK.out _ _ hsw7 (fun _ => ?_)
    clear hK KK
    try simp only [Act.put, List.setIfInBounds_toArray, List.set_cons_zero, List.set_cons_succ]
    refine wpAnyH_done (by kernel_rfl) ?_ _
    refine calm_out ?_
    have hG7 : (w6.setCell ⟨g, pl, none⟩ (.int .i64 (hdW f t (ks.length : Nat)))).heap[g]? = some (.cells (cur.set pl (.int .i64 (hdW f t (ks.length : Nat)))).toArray 3 (0, 0)) := by
      have r := (B6.block g (Array.getElem?_eq_some_iff.1 HG5.out).1).trans HG5.out
      have := heap_setCell_same w6 g pl _ _ (.int .i64 (hdW f t (ks.length : Nat))) r
      simpa using this
    obtain ⟨W7, hW7⟩ : ∃ W7, W7 = w6.setCell ⟨g, pl, none⟩ (.int .i64 (hdW f t (ks.length : Nat))) := ⟨_, rfl⟩
    rw [← hW7] at hG7 ⊢
    have HG7 := hid17 hG7
    have HO7 := hid17 (show ∀ j, j < w5.heap.size → j ≠ g → W7.heap[j]? = w5.heap[j]? by rw [hW7]; exact hsw7)
    have HB7 := hid17 (show Below w0.heap.size w0 W7 by rw [hW7]; exact (HB5.out.trans (B6.mono HB5.out.size)).setCell HG0.out _)
    have HS7 := hid17 (show w5.heap.size ≤ W7.heap.size by rw [hW7]; simpa using B6.size)
    clear hG7 hW7 hsw7 hsw6 B6
    have HW7 := hid17 (show WorkAt W7 H 1 m (.slice (some ⟨g, 0, none⟩) ws.length cap) half used from (HO7.out H HW5.out.lt HGH.out).trans HW5.out)
    have HBH7 := hid17 (show W7.heap[K]? = some (.cells #[.bool f, .int .i64 t, .int .i64 (ks.length : Nat)] 61 (0, 0)) from (HO7.out K HBL5.out HKG.out).trans HBH5.out)
    obtain ⟨⟨z0, z1, z2, z3, z4, z5⟩, zf⟩ := HW7.out.cells
    clear z0 z1 z2 z4 z5 zf
    have hfitk : pl + 1 + ks.length ≤ ws.length := by have := HPL.out; have := HROOM.out; have := HL.out; omega
    have hcl2 : (cur.set pl (.int .i64 (hdW f t (ks.length : Nat)))).length = cap := by rw [List.length_set]; exact hcurl
    have HONE := hid17 (ints_cells ks)
    have hkm : (ks.map (Value.int .i64)).length = ks.length := List.length_map _
    have HKM := hid17 hkm
    clear hkm
    have HSRC : Hid (∀ b off, pu = some ⟨b, off, none⟩ → ∀ j v, (ks.map (Value.int .i64))[j]? = some v → W7.cell? ((⟨b, off, none⟩ : Addr).add j) = some v) := fun b off hpu j v hv => by
      rw [List.getElem?_map] at hv
      have hj : j < ks.length := by
        rcases Nat.lt_or_ge j ks.length with h1 | h1
        · exact h1
        · rw [List.getElem?_eq_none h1] at hv; cases hv
      rw [List.getElem?_eq_getElem hj] at hv
      injection hv with hv
      obtain ⟨b', off', he, hc⟩ := HCU.out j hj
      rw [hpu] at he
      injection he with he
      injection he with h1 h2
      subst h1
      subst h2
      rw [← hv, Go.WideShapes.add_plain, ← getD_int _ j hj]
      exact cell_later HB7.out hc
    have HPU : Hid (0 < ks.length → ∃ b off, pu = some ⟨b, off, none⟩) := fun h => by
      obtain ⟨b, off, he, _⟩ := HCU.out 0 h
      exact ⟨b, off, he⟩
    have HUI : Hid ((Try.prog.info? 3).map (·.size) = some 1) := by show _ = _; kernel_rfl
    clear hpw
    by_cases hcq : cap = pl + 1
    case pos =>
      have HKS0 := hid17 (show ks.length = 0 by omega)
      go_wp2_with (refine wpList_copy17 rfl (.tmp 49) (.tmp 50) 22 22 rfl 3 Try.underlying22 HUI.out _ _ _ _ _ _ rfl rfl g (pl + 1) (cur.set pl (.int .i64 (hdW f t (ks.length : Nat)))) 3 HG7.out (ks.map (Value.int .i64)) (by rw [HKM.out]; exact (Nat.min_eq_left (by omega)).symm) (fun h => by rw [HKM.out] at h; have := HKS0.out; omega) (by rw [HKM.out]; omega) HONE.out w0.heap.size w0 HB7.out HG0.out ?_; intro w8 hg8 ho8 hb8)
      have HG8 := hid17 hg8.out
      clear hg8
      have HB8 := hid17 hb8.out.1
      have HLT7 := hid17 (show H < W7.heap.size ∧ K < W7.heap.size from ⟨HW7.out.lt, (Array.getElem?_eq_some_iff.1 HBH7.out).1⟩)
      have HW8 := hid17 (show WorkAt w8 H 1 m (.slice (some ⟨g, 0, none⟩) ws.length cap) half used from (ho8.out H HGH.out).trans HW7.out)
      have HBH8 := hid17 (show w8.heap[K]? = some (.cells #[.bool f, .int .i64 t, .int .i64 (ks.length : Nat)] 61 (0, 0)) from (ho8.out K HKG.out).trans HBH7.out)
      have HBL8 := hid17 (show K < w8.heap.size from (Array.getElem?_eq_some_iff.1 HBH8.out).1)
      have hu6 : used + (1 + ((ks.length : Nat) : Int)) ≤ 3000 := by have := HROOM.out; omega
      clear ho8 hb8
      go_upto_region 8 with fail
      refine wp_calm17 ?_
      refine wp_region_held_drew (S := fun wq => ∀ j, j < w8.heap.size → j ≠ H → wq.heap[j]? = w8.heap[j]?) (by kernel_rfl) (show (fun wq => ∀ j, j < w8.heap.size → j ≠ H → wq.heap[j]? = w8.heap[j]?) w8.drew from fun _ _ _ => rfl) (fun HS0 => ?_)
      refine wpAnyH_take (i := 0) (oi := { dst := some 52, op := Op.move (Operand.tmp 0), type := 67, pos := "l17_heap.go:165", after := #[], guard := none }) (v := (.pointer (some ⟨H, 0, none⟩))) rfl (by kernel_rfl) (by kernel_rfl) (by kernel_rfl) (fun _ _ _ h => h) (Or.inl ⟨by rfl, ?_⟩) HS0 ?_
      · intro wq hSq
        clear hSq
        go_simp
      try simp only [Act.put, List.setIfInBounds_toArray, List.set_cons_zero, List.set_cons_succ]
      refine wpAnyH_take (i := 1) (oi := { dst := some 53, op := Op.nilCheck (Operand.tmp 52), type := 0, pos := "l17_heap.go:165", after := #[{ on := 0, ground := Ground.data }], guard := none }) (v := (.pointer (some ⟨H, 0, none⟩))) rfl (by kernel_rfl) (by kernel_rfl) (by kernel_rfl) (fun _ _ _ h => h) (Or.inl ⟨by rfl, ?_⟩) HS0 ?_
      · intro wq hSq
        clear hSq
        go_simp
      try simp only [Act.put, List.setIfInBounds_toArray, List.set_cons_zero, List.set_cons_succ]
      refine wpAnyH_take (i := 2) (oi := { dst := some 54, op := Op.fieldAddr 98 (Operand.tmp 53) 4, type := 0, pos := "l17_heap.go:165", after := #[{ on := 1, ground := Ground.data }], guard := none }) (v := (.pointer (some ⟨H, 5, none⟩))) rfl (by kernel_rfl) (by kernel_rfl) (by kernel_rfl) (fun _ _ _ h => h) (Or.inl ⟨by rfl, ?_⟩) HS0 ?_
      · intro wq hSq
        clear hSq
        go_simp
      try simp only [Act.put, List.setIfInBounds_toArray, List.set_cons_zero, List.set_cons_succ]
      refine wpAnyH_take (i := 4) (oi := { dst := some 56, op := Op.load 61 (Operand.tmp 4), type := 61, pos := "l17_heap.go:165", after := #[], guard := none }) (v := (.agg #[.bool f, .int .i64 t, .int .i64 (ks.length : Nat)])) rfl (by kernel_rfl) (by kernel_rfl) (by kernel_rfl) (fun _ _ _ h => h) (Or.inl ⟨by rfl, ?_⟩) HS0 ?_
      · intro wq hSq
        obtain ⟨d0, d1, d2⟩ := bh_cells (w := wq) ((hSq K HBL8.out HKH.out).trans HBH8.out)
        clear hSq
        go_simp
      try simp only [Act.put, List.setIfInBounds_toArray, List.set_cons_zero, List.set_cons_succ]
      refine wpAnyH_ready (rs := [3, 5]) (by kernel_rfl) (by simp) ?_
      refine AllReadyH.cons (o := { dst := some 55, op := Op.load 3 (Operand.tmp 54), type := 3, pos := "l17_heap.go:165", after := #[{ on := 2, ground := Ground.data }], guard := none }) rfl (fun KK hK => ?rd1) (AllReadyH.cons (o := { dst := some 57, op := Op.call { callee := Callee.value (Operand.func 85), args := #[Operand.tmp 56], argTypes := #[61] }, type := 3, pos := "l17_heap.go:165", after := #[{ on := 4, ground := Ground.data }], guard := none }) rfl (fun KK hK => ?rd2) AllReadyH.nil)
      case' rd1 =>
        obtain ⟨⟨q0, q1, q2, q3, q4, q5⟩, qf⟩ := (HW8.out.below (show Below w8.heap.size w8 w8.drew from (Below.refl _ _).drew)).cells
        go_simp
        clear q0 q1 q2 q3 q4 q5 qf
        refine hK.out _ _ HS0 (fun _ => ?_)
        clear hK KK
        try simp only [Act.put, List.setIfInBounds_toArray, List.set_cons_zero, List.set_cons_succ]
        refine wpAnyH_ready (rs := [5]) (by kernel_rfl) (by simp) ?_
        refine AllReadyH.cons (o := { dst := some 57, op := Op.call { callee := Callee.value (Operand.func 85), args := #[Operand.tmp 56], argTypes := #[61] }, type := 3, pos := "l17_heap.go:165", after := #[{ on := 4, ground := Ground.data }], guard := none }) rfl (fun KK hK => ?rd3) AllReadyH.nil
        refine step_call1 rfl 85 _ _ rfl size17_enter (.agg #[.bool f, .int .i64 t, .int .i64 (ks.length : Nat)]) rfl _ (HSZ.out w8.drew) ?_
        rintro e w9 ⟨rfl, hb9⟩
        refine ⟨_, rfl, ?_⟩
        have B9 : Below w8.heap.size w8 w9 := (Below.refl _ _).drew.trans hb9
        have hsw9 : (fun wq => ∀ j, j < w8.heap.size → j ≠ H → wq.heap[j]? = w8.heap[j]?) w9 := fun j hj _ => B9.block j hj
        clear hb9
        refine hK.out _ _ hsw9 (fun _ => ?_)
        clear hK KK
        try simp only [Act.put, List.setIfInBounds_toArray, List.set_cons_zero, List.set_cons_succ]
        refine wpAnyH_take (i := 6) (oi := { dst := some 58, op := Op.binOp BinOp.add 3 (Operand.tmp 55) (Operand.tmp 57) 3, type := 3, pos := "l17_heap.go:165", after := #[{ on := 3, ground := Ground.data }, { on := 5, ground := Ground.data }], guard := none }) (v := (.int .i64 (used + (1 + (ks.length : Nat))))) rfl (by kernel_rfl) (by kernel_rfl) (by kernel_rfl) (fun _ _ _ h => h) (Or.inl ⟨by rfl, ?_⟩) hsw9 ?_
        · intro wq hSq
          clear hSq
          go_simp; rw [IntKind.wrap_i64]; omega
        try simp only [Act.put, List.setIfInBounds_toArray, List.set_cons_zero, List.set_cons_succ]
        refine wpAnyH_take (i := 7) (oi := { dst := some 59, op := Op.nilCheck (Operand.tmp 52), type := 0, pos := "l17_heap.go:165", after := #[{ on := 0, ground := Ground.data }, { on := 0, ground := Ground.phase }, { on := 1, ground := Ground.phase }, { on := 2, ground := Ground.phase }, { on := 3, ground := Ground.phase }, { on := 4, ground := Ground.phase }, { on := 5, ground := Ground.phase }, { on := 6, ground := Ground.phase }], guard := none }) (v := (.pointer (some ⟨H, 0, none⟩))) rfl (by kernel_rfl) (by kernel_rfl) (by kernel_rfl) (fun _ _ _ h => h) (Or.inl ⟨by rfl, ?_⟩) hsw9 ?_
        · intro wq hSq
          clear hSq
          go_simp
        try simp only [Act.put, List.setIfInBounds_toArray, List.set_cons_zero, List.set_cons_succ]
        refine wpAnyH_take (i := 8) (oi := { dst := some 60, op := Op.fieldAddr 98 (Operand.tmp 59) 4, type := 0, pos := "l17_heap.go:165", after := #[{ on := 7, ground := Ground.data }, { on := 0, ground := Ground.phase }, { on := 1, ground := Ground.phase }, { on := 2, ground := Ground.phase }, { on := 3, ground := Ground.phase }, { on := 4, ground := Ground.phase }, { on := 5, ground := Ground.phase }, { on := 6, ground := Ground.phase }], guard := none }) (v := (.pointer (some ⟨H, 5, none⟩))) rfl (by kernel_rfl) (by kernel_rfl) (by kernel_rfl) (fun _ _ _ h => h) (Or.inl ⟨by rfl, ?_⟩) hsw9 ?_
        · intro wq hSq
          clear hSq
          go_simp
        try simp only [Act.put, List.setIfInBounds_toArray, List.set_cons_zero, List.set_cons_succ]
        refine wpAnyH_ready (rs := [9]) (by kernel_rfl) (by simp) ?_
        refine AllReadyH.cons (o := { dst := none, op := Op.store 3 (Operand.tmp 60) (Operand.tmp 58), type := 0, pos := "l17_heap.go:165", after := #[{ on := 8, ground := Ground.data }, { on := 6, ground := Ground.data }, { on := 5, ground := Ground.chain }, { on := 0, ground := Ground.phase }, { on := 1, ground := Ground.phase }, { on := 2, ground := Ground.phase }, { on := 3, ground := Ground.phase }, { on := 4, ground := Ground.phase }, { on := 5, ground := Ground.phase }, { on := 6, ground := Ground.phase }], guard := none }) rfl (fun KK hK => ?rd4) AllReadyH.nil
        obtain ⟨⟨q0, q1, q2, q3, q4, q5⟩, qf⟩ := (HW8.out.below B9).cells
        have qf5 := qf 5
        clear qf
        go_simp
        have hsw10 : (fun wq => ∀ j, j < w8.heap.size → j ≠ H → wq.heap[j]? = w8.heap[j]?) (w9.setCell ⟨H, 5, none⟩ (.int .i64 (used + (1 + (ks.length : Nat))))) := fun j hj hne => (heap_setCell_other w9 ⟨H, 5, none⟩ j _ hne).trans (B9.block j hj)
        refine hK.out _ _ hsw10 (fun _ => ?_)
        clear hK KK
        try simp only [Act.put, List.setIfInBounds_toArray, List.set_cons_zero, List.set_cons_succ]
        refine wpAnyH_done (by kernel_rfl) ?_ _
        refine calm_out ?_
        have HC10 := hid17 (show WorkAt (w9.setCell ⟨H, 5, none⟩ (.int .i64 (used + (1 + (ks.length : Nat))))) H 1 m (.slice (some ⟨g, 0, none⟩) ws.length cap) half (used + (1 + (ks.length : Nat))) from work_set5 (HW8.out.below B9))
        have HG9 := hid17 (show (w9.setCell ⟨H, 5, none⟩ (.int .i64 (used + (1 + (ks.length : Nat))))).heap[g]? = some (.cells (splice (cur.set pl (.int .i64 (hdW f t (ks.length : Nat)))) (pl + 1) (ks.map (Value.int .i64))).toArray 3 (0, 0)) from (heap_setCell_other w9 ⟨H, 5, none⟩ g _ (fun h => HGH.out h.symm)).trans ((B9.block g (Array.getElem?_eq_some_iff.1 HG8.out).1).trans HG8.out))
        have HB9 := hid17 (show Below w0.heap.size w0 (w9.setCell ⟨H, 5, none⟩ (.int .i64 (used + (1 + (ks.length : Nat))))) from (HB8.out.trans (B9.mono HB8.out.size)).setCell HH0.out _)
        obtain ⟨W10, hW10⟩ : ∃ W, W = w9.setCell ⟨H, 5, none⟩ (.int .i64 (used + (1 + (ks.length : Nat)))) := ⟨_, rfl⟩
        rw [← hW10] at HC10 HG9 HB9 ⊢
        clear hW10 B9
        obtain ⟨⟨z0, z1, z2, z3, z4, z5⟩, zf⟩ := HC10.out.cells
        have zf0 := zf 0
        clear z1 z2 z3 z4 z5 zf
        have HE : Hid (POST (.returned (.tuple #[.int .i64 (pl : Nat), .bool true])) (W10.setCell ⟨H, 0, none⟩ (.int .i32 0))) := by
          show POST _ _
          rw [HP.out]
          refine .inr ⟨(by have := HROOM.out; omega), pl, (by rw [HMM.out]; exact HPL.out), rfl, work_set0 HC10.out, ?_, HB9.out.setCell HH0.out _⟩
          have hcl3 : (splice (cur.set pl (.int .i64 (hdW f t (ks.length : Nat)))) (pl + 1) (ks.map (Value.int .i64))).length = cap := by rw [length_splice _ _ _ (by rw [HKM.out]; omega)]; exact hcl2
          have hpl2 := putW_len (x := hdW f t (ks.length : Nat)) hfitk
          unfold Own
          rw [hpl2]
          refine ⟨by rw [List.length_map, hpl2]; omega, .inr ⟨g, cap, _, rfl, HG0.out, (heap_setCell_other W10 ⟨H, 0, none⟩ g _ (fun h => HGH.out h.symm)).trans HG9.out, hncap, hcapm, by simpa using hcl3, ?_⟩⟩
          rw [Nat.mul_one]
          exact putW_take (by omega) HTK.out hfitk
        go_wp2_with fail
        refine leaves_cons (f := 89) (args := #[.pointer (some ⟨H, 0, none⟩)]) (by simp) (by simp [go_sem]) ?_
        refine (Go.MuLone.unlock_deferred Try.muLib ⟨H, 0, none⟩ .returning W10 z0 zf0).mono ?_
        rintro e u' w'' ⟨rfl, rfl, rfl⟩
        refine ⟨_, results_tmp2 (t := 6) (u := 7) (by kernel_rfl) _ _ _, ?_⟩
        exact HE.out
      case' rd2 =>
        refine step_call1 rfl 85 _ _ rfl size17_enter (.agg #[.bool f, .int .i64 t, .int .i64 (ks.length : Nat)]) rfl _ (HSZ.out w8.drew) ?_
        rintro e w9 ⟨rfl, hb9⟩
        refine ⟨_, rfl, ?_⟩
        have B9 : Below w8.heap.size w8 w9 := (Below.refl _ _).drew.trans hb9
        have hsw9 : (fun wq => ∀ j, j < w8.heap.size → j ≠ H → wq.heap[j]? = w8.heap[j]?) w9 := fun j hj _ => B9.block j hj
        clear hb9
        refine hK.out _ _ hsw9 (fun _ => ?_)
        clear hK KK
        try simp only [Act.put, List.setIfInBounds_toArray, List.set_cons_zero, List.set_cons_succ]
        refine wpAnyH_ready (rs := [3]) (by kernel_rfl) (by simp) ?_
        refine AllReadyH.cons (o := { dst := some 55, op := Op.load 3 (Operand.tmp 54), type := 3, pos := "l17_heap.go:165", after := #[{ on := 2, ground := Ground.data }], guard := none }) rfl (fun KK hK => ?rd5) AllReadyH.nil
        obtain ⟨⟨q0, q1, q2, q3, q4, q5⟩, qf⟩ := (HW8.out.below B9).cells
        go_simp
        clear q0 q1 q2 q3 q4 q5 qf
        refine hK.out _ _ hsw9 (fun _ => ?_)
        clear hK KK
        try simp only [Act.put, List.setIfInBounds_toArray, List.set_cons_zero, List.set_cons_succ]
        refine wpAnyH_take (i := 6) (oi := { dst := some 58, op := Op.binOp BinOp.add 3 (Operand.tmp 55) (Operand.tmp 57) 3, type := 3, pos := "l17_heap.go:165", after := #[{ on := 3, ground := Ground.data }, { on := 5, ground := Ground.data }], guard := none }) (v := (.int .i64 (used + (1 + (ks.length : Nat))))) rfl (by kernel_rfl) (by kernel_rfl) (by kernel_rfl) (fun _ _ _ h => h) (Or.inl ⟨by rfl, ?_⟩) hsw9 ?_
        · intro wq hSq
          clear hSq
          go_simp; rw [IntKind.wrap_i64]; omega
        try simp only [Act.put, List.setIfInBounds_toArray, List.set_cons_zero, List.set_cons_succ]
        refine wpAnyH_take (i := 7) (oi := { dst := some 59, op := Op.nilCheck (Operand.tmp 52), type := 0, pos := "l17_heap.go:165", after := #[{ on := 0, ground := Ground.data }, { on := 0, ground := Ground.phase }, { on := 1, ground := Ground.phase }, { on := 2, ground := Ground.phase }, { on := 3, ground := Ground.phase }, { on := 4, ground := Ground.phase }, { on := 5, ground := Ground.phase }, { on := 6, ground := Ground.phase }], guard := none }) (v := (.pointer (some ⟨H, 0, none⟩))) rfl (by kernel_rfl) (by kernel_rfl) (by kernel_rfl) (fun _ _ _ h => h) (Or.inl ⟨by rfl, ?_⟩) hsw9 ?_
        · intro wq hSq
          clear hSq
          go_simp
        try simp only [Act.put, List.setIfInBounds_toArray, List.set_cons_zero, List.set_cons_succ]
        refine wpAnyH_take (i := 8) (oi := { dst := some 60, op := Op.fieldAddr 98 (Operand.tmp 59) 4, type := 0, pos := "l17_heap.go:165", after := #[{ on := 7, ground := Ground.data }, { on := 0, ground := Ground.phase }, { on := 1, ground := Ground.phase }, { on := 2, ground := Ground.phase }, { on := 3, ground := Ground.phase }, { on := 4, ground := Ground.phase }, { on := 5, ground := Ground.phase }, { on := 6, ground := Ground.phase }], guard := none }) (v := (.pointer (some ⟨H, 5, none⟩))) rfl (by kernel_rfl) (by kernel_rfl) (by kernel_rfl) (fun _ _ _ h => h) (Or.inl ⟨by rfl, ?_⟩) hsw9 ?_
        · intro wq hSq
          clear hSq
          go_simp
        try simp only [Act.put, List.setIfInBounds_toArray, List.set_cons_zero, List.set_cons_succ]
        refine wpAnyH_ready (rs := [9]) (by kernel_rfl) (by simp) ?_
        refine AllReadyH.cons (o := { dst := none, op := Op.store 3 (Operand.tmp 60) (Operand.tmp 58), type := 0, pos := "l17_heap.go:165", after := #[{ on := 8, ground := Ground.data }, { on := 6, ground := Ground.data }, { on := 5, ground := Ground.chain }, { on := 0, ground := Ground.phase }, { on := 1, ground := Ground.phase }, { on := 2, ground := Ground.phase }, { on := 3, ground := Ground.phase }, { on := 4, ground := Ground.phase }, { on := 5, ground := Ground.phase }, { on := 6, ground := Ground.phase }], guard := none }) rfl (fun KK hK => ?rd6) AllReadyH.nil
        obtain ⟨⟨q0, q1, q2, q3, q4, q5⟩, qf⟩ := (HW8.out.below B9).cells
        have qf5 := qf 5
        clear qf
        go_simp
        have hsw10 : (fun wq => ∀ j, j < w8.heap.size → j ≠ H → wq.heap[j]? = w8.heap[j]?) (w9.setCell ⟨H, 5, none⟩ (.int .i64 (used + (1 + (ks.length : Nat))))) := fun j hj hne => (heap_setCell_other w9 ⟨H, 5, none⟩ j _ hne).trans (B9.block j hj)
        refine hK.out _ _ hsw10 (fun _ => ?_)
        clear hK KK
        try simp only [Act.put, List.setIfInBounds_toArray, List.set_cons_zero, List.set_cons_succ]
        refine wpAnyH_done (by kernel_rfl) ?_ _
        refine calm_out ?_
        have HC10 := hid17 (show WorkAt (w9.setCell ⟨H, 5, none⟩ (.int .i64 (used + (1 + (ks.length : Nat))))) H 1 m (.slice (some ⟨g, 0, none⟩) ws.length cap) half (used + (1 + (ks.length : Nat))) from work_set5 (HW8.out.below B9))
        have HG9 := hid17 (show (w9.setCell ⟨H, 5, none⟩ (.int .i64 (used + (1 + (ks.length : Nat))))).heap[g]? = some (.cells (splice (cur.set pl (.int .i64 (hdW f t (ks.length : Nat)))) (pl + 1) (ks.map (Value.int .i64))).toArray 3 (0, 0)) from (heap_setCell_other w9 ⟨H, 5, none⟩ g _ (fun h => HGH.out h.symm)).trans ((B9.block g (Array.getElem?_eq_some_iff.1 HG8.out).1).trans HG8.out))
        have HB9 := hid17 (show Below w0.heap.size w0 (w9.setCell ⟨H, 5, none⟩ (.int .i64 (used + (1 + (ks.length : Nat))))) from (HB8.out.trans (B9.mono HB8.out.size)).setCell HH0.out _)
        obtain ⟨W10, hW10⟩ : ∃ W, W = w9.setCell ⟨H, 5, none⟩ (.int .i64 (used + (1 + (ks.length : Nat)))) := ⟨_, rfl⟩
        rw [← hW10] at HC10 HG9 HB9 ⊢
        clear hW10 B9
        obtain ⟨⟨z0, z1, z2, z3, z4, z5⟩, zf⟩ := HC10.out.cells
        have zf0 := zf 0
        clear z1 z2 z3 z4 z5 zf
        have HE : Hid (POST (.returned (.tuple #[.int .i64 (pl : Nat), .bool true])) (W10.setCell ⟨H, 0, none⟩ (.int .i32 0))) := by
          show POST _ _
          rw [HP.out]
          refine .inr ⟨(by have := HROOM.out; omega), pl, (by rw [HMM.out]; exact HPL.out), rfl, work_set0 HC10.out, ?_, HB9.out.setCell HH0.out _⟩
          have hcl3 : (splice (cur.set pl (.int .i64 (hdW f t (ks.length : Nat)))) (pl + 1) (ks.map (Value.int .i64))).length = cap := by rw [length_splice _ _ _ (by rw [HKM.out]; omega)]; exact hcl2
          have hpl2 := putW_len (x := hdW f t (ks.length : Nat)) hfitk
          unfold Own
          rw [hpl2]
          refine ⟨by rw [List.length_map, hpl2]; omega, .inr ⟨g, cap, _, rfl, HG0.out, (heap_setCell_other W10 ⟨H, 0, none⟩ g _ (fun h => HGH.out h.symm)).trans HG9.out, hncap, hcapm, by simpa using hcl3, ?_⟩⟩
          rw [Nat.mul_one]
          exact putW_take (by omega) HTK.out hfitk
        go_wp2_with fail
        refine leaves_cons (f := 89) (args := #[.pointer (some ⟨H, 0, none⟩)]) (by simp) (by simp [go_sem]) ?_
        refine (Go.MuLone.unlock_deferred Try.muLib ⟨H, 0, none⟩ .returning W10 z0 zf0).mono ?_
        rintro e u' w'' ⟨rfl, rfl, rfl⟩
        refine ⟨_, results_tmp2 (t := 6) (u := 7) (by kernel_rfl) _ _ _, ?_⟩
        exact HE.out
    case neg =>
      have hcq2 : pl + 1 < cap := by omega
      go_wp2_with (refine wpList_copy17 rfl (.tmp 49) (.tmp 50) 22 22 rfl 3 Try.underlying22 HUI.out _ _ _ _ _ _ rfl rfl g (pl + 1) (cur.set pl (.int .i64 (hdW f t (ks.length : Nat)))) 3 HG7.out (ks.map (Value.int .i64)) (by rw [HKM.out]; exact (Nat.min_eq_left (by omega)).symm) (fun h => by rw [HKM.out] at h; obtain ⟨b, off, he⟩ := HPU.out h; exact ⟨by first | rfl | simp, ⟨b, off, none⟩, he, HSRC.out b off he⟩) (by rw [HKM.out]; omega) HONE.out w0.heap.size w0 HB7.out HG0.out ?_; intro w8 hg8 ho8 hb8)
      have HG8 := hid17 hg8.out
      clear hg8
      have HB8 := hid17 hb8.out.1
      have HLT7 := hid17 (show H < W7.heap.size ∧ K < W7.heap.size from ⟨HW7.out.lt, (Array.getElem?_eq_some_iff.1 HBH7.out).1⟩)
      have HW8 := hid17 (show WorkAt w8 H 1 m (.slice (some ⟨g, 0, none⟩) ws.length cap) half used from (ho8.out H HGH.out).trans HW7.out)
      have HBH8 := hid17 (show w8.heap[K]? = some (.cells #[.bool f, .int .i64 t, .int .i64 (ks.length : Nat)] 61 (0, 0)) from (ho8.out K HKG.out).trans HBH7.out)
      have HBL8 := hid17 (show K < w8.heap.size from (Array.getElem?_eq_some_iff.1 HBH8.out).1)
      have hu6 : used + (1 + ((ks.length : Nat) : Int)) ≤ 3000 := by have := HROOM.out; omega
      clear ho8 hb8
      go_upto_region 8 with fail
      refine wp_calm17 ?_
      refine wp_region_held_drew (S := fun wq => ∀ j, j < w8.heap.size → j ≠ H → wq.heap[j]? = w8.heap[j]?) (by kernel_rfl) (show (fun wq => ∀ j, j < w8.heap.size → j ≠ H → wq.heap[j]? = w8.heap[j]?) w8.drew from fun _ _ _ => rfl) (fun HS0 => ?_)
      refine wpAnyH_take (i := 0) (oi := { dst := some 52, op := Op.move (Operand.tmp 0), type := 67, pos := "l17_heap.go:165", after := #[], guard := none }) (v := (.pointer (some ⟨H, 0, none⟩))) rfl (by kernel_rfl) (by kernel_rfl) (by kernel_rfl) (fun _ _ _ h => h) (Or.inl ⟨by rfl, ?_⟩) HS0 ?_
      · intro wq hSq
        clear hSq
        go_simp
      try simp only [Act.put, List.setIfInBounds_toArray, List.set_cons_zero, List.set_cons_succ]
      refine wpAnyH_take (i := 1) (oi := { dst := some 53, op := Op.nilCheck (Operand.tmp 52), type := 0, pos := "l17_heap.go:165", after := #[{ on := 0, ground := Ground.data }], guard := none }) (v := (.pointer (some ⟨H, 0, none⟩))) rfl (by kernel_rfl) (by kernel_rfl) (by kernel_rfl) (fun _ _ _ h => h) (Or.inl ⟨by rfl, ?_⟩) HS0 ?_
      · intro wq hSq
        clear hSq
        go_simp
      try simp only [Act.put, List.setIfInBounds_toArray, List.set_cons_zero, List.set_cons_succ]
      refine wpAnyH_take (i := 2) (oi := { dst := some 54, op := Op.fieldAddr 98 (Operand.tmp 53) 4, type := 0, pos := "l17_heap.go:165", after := #[{ on := 1, ground := Ground.data }], guard := none }) (v := (.pointer (some ⟨H, 5, none⟩))) rfl (by kernel_rfl) (by kernel_rfl) (by kernel_rfl) (fun _ _ _ h => h) (Or.inl ⟨by rfl, ?_⟩) HS0 ?_
      · intro wq hSq
        clear hSq
        go_simp
      try simp only [Act.put, List.setIfInBounds_toArray, List.set_cons_zero, List.set_cons_succ]
      refine wpAnyH_take (i := 4) (oi := { dst := some 56, op := Op.load 61 (Operand.tmp 4), type := 61, pos := "l17_heap.go:165", after := #[], guard := none }) (v := (.agg #[.bool f, .int .i64 t, .int .i64 (ks.length : Nat)])) rfl (by kernel_rfl) (by kernel_rfl) (by kernel_rfl) (fun _ _ _ h => h) (Or.inl ⟨by rfl, ?_⟩) HS0 ?_
      · intro wq hSq
        obtain ⟨d0, d1, d2⟩ := bh_cells (w := wq) ((hSq K HBL8.out HKH.out).trans HBH8.out)
        clear hSq
        go_simp
      try simp only [Act.put, List.setIfInBounds_toArray, List.set_cons_zero, List.set_cons_succ]
      refine wpAnyH_ready (rs := [3, 5]) (by kernel_rfl) (by simp) ?_
      refine AllReadyH.cons (o := { dst := some 55, op := Op.load 3 (Operand.tmp 54), type := 3, pos := "l17_heap.go:165", after := #[{ on := 2, ground := Ground.data }], guard := none }) rfl (fun KK hK => ?re1) (AllReadyH.cons (o := { dst := some 57, op := Op.call { callee := Callee.value (Operand.func 85), args := #[Operand.tmp 56], argTypes := #[61] }, type := 3, pos := "l17_heap.go:165", after := #[{ on := 4, ground := Ground.data }], guard := none }) rfl (fun KK hK => ?re2) AllReadyH.nil)
      case' re1 =>
        obtain ⟨⟨q0, q1, q2, q3, q4, q5⟩, qf⟩ := (HW8.out.below (show Below w8.heap.size w8 w8.drew from (Below.refl _ _).drew)).cells
        go_simp
        clear q0 q1 q2 q3 q4 q5 qf
        refine hK.out _ _ HS0 (fun _ => ?_)
        clear hK KK
        try simp only [Act.put, List.setIfInBounds_toArray, List.set_cons_zero, List.set_cons_succ]
        refine wpAnyH_ready (rs := [5]) (by kernel_rfl) (by simp) ?_
        refine AllReadyH.cons (o := { dst := some 57, op := Op.call { callee := Callee.value (Operand.func 85), args := #[Operand.tmp 56], argTypes := #[61] }, type := 3, pos := "l17_heap.go:165", after := #[{ on := 4, ground := Ground.data }], guard := none }) rfl (fun KK hK => ?re3) AllReadyH.nil
        refine step_call1 rfl 85 _ _ rfl size17_enter (.agg #[.bool f, .int .i64 t, .int .i64 (ks.length : Nat)]) rfl _ (HSZ.out w8.drew) ?_
        rintro e w9 ⟨rfl, hb9⟩
        refine ⟨_, rfl, ?_⟩
        have B9 : Below w8.heap.size w8 w9 := (Below.refl _ _).drew.trans hb9
        have hsw9 : (fun wq => ∀ j, j < w8.heap.size → j ≠ H → wq.heap[j]? = w8.heap[j]?) w9 := fun j hj _ => B9.block j hj
        clear hb9
        refine hK.out _ _ hsw9 (fun _ => ?_)
        clear hK KK
        try simp only [Act.put, List.setIfInBounds_toArray, List.set_cons_zero, List.set_cons_succ]
        refine wpAnyH_take (i := 6) (oi := { dst := some 58, op := Op.binOp BinOp.add 3 (Operand.tmp 55) (Operand.tmp 57) 3, type := 3, pos := "l17_heap.go:165", after := #[{ on := 3, ground := Ground.data }, { on := 5, ground := Ground.data }], guard := none }) (v := (.int .i64 (used + (1 + (ks.length : Nat))))) rfl (by kernel_rfl) (by kernel_rfl) (by kernel_rfl) (fun _ _ _ h => h) (Or.inl ⟨by rfl, ?_⟩) hsw9 ?_
        · intro wq hSq
          clear hSq
          go_simp; rw [IntKind.wrap_i64]; omega
        try simp only [Act.put, List.setIfInBounds_toArray, List.set_cons_zero, List.set_cons_succ]
        refine wpAnyH_take (i := 7) (oi := { dst := some 59, op := Op.nilCheck (Operand.tmp 52), type := 0, pos := "l17_heap.go:165", after := #[{ on := 0, ground := Ground.data }, { on := 0, ground := Ground.phase }, { on := 1, ground := Ground.phase }, { on := 2, ground := Ground.phase }, { on := 3, ground := Ground.phase }, { on := 4, ground := Ground.phase }, { on := 5, ground := Ground.phase }, { on := 6, ground := Ground.phase }], guard := none }) (v := (.pointer (some ⟨H, 0, none⟩))) rfl (by kernel_rfl) (by kernel_rfl) (by kernel_rfl) (fun _ _ _ h => h) (Or.inl ⟨by rfl, ?_⟩) hsw9 ?_
        · intro wq hSq
          clear hSq
          go_simp
        try simp only [Act.put, List.setIfInBounds_toArray, List.set_cons_zero, List.set_cons_succ]
        refine wpAnyH_take (i := 8) (oi := { dst := some 60, op := Op.fieldAddr 98 (Operand.tmp 59) 4, type := 0, pos := "l17_heap.go:165", after := #[{ on := 7, ground := Ground.data }, { on := 0, ground := Ground.phase }, { on := 1, ground := Ground.phase }, { on := 2, ground := Ground.phase }, { on := 3, ground := Ground.phase }, { on := 4, ground := Ground.phase }, { on := 5, ground := Ground.phase }, { on := 6, ground := Ground.phase }], guard := none }) (v := (.pointer (some ⟨H, 5, none⟩))) rfl (by kernel_rfl) (by kernel_rfl) (by kernel_rfl) (fun _ _ _ h => h) (Or.inl ⟨by rfl, ?_⟩) hsw9 ?_
        · intro wq hSq
          clear hSq
          go_simp
        try simp only [Act.put, List.setIfInBounds_toArray, List.set_cons_zero, List.set_cons_succ]
        refine wpAnyH_ready (rs := [9]) (by kernel_rfl) (by simp) ?_
        refine AllReadyH.cons (o := { dst := none, op := Op.store 3 (Operand.tmp 60) (Operand.tmp 58), type := 0, pos := "l17_heap.go:165", after := #[{ on := 8, ground := Ground.data }, { on := 6, ground := Ground.data }, { on := 5, ground := Ground.chain }, { on := 0, ground := Ground.phase }, { on := 1, ground := Ground.phase }, { on := 2, ground := Ground.phase }, { on := 3, ground := Ground.phase }, { on := 4, ground := Ground.phase }, { on := 5, ground := Ground.phase }, { on := 6, ground := Ground.phase }], guard := none }) rfl (fun KK hK => ?re4) AllReadyH.nil
        obtain ⟨⟨q0, q1, q2, q3, q4, q5⟩, qf⟩ := (HW8.out.below B9).cells
        have qf5 := qf 5
        clear qf
        go_simp
        have hsw10 : (fun wq => ∀ j, j < w8.heap.size → j ≠ H → wq.heap[j]? = w8.heap[j]?) (w9.setCell ⟨H, 5, none⟩ (.int .i64 (used + (1 + (ks.length : Nat))))) := fun j hj hne => (heap_setCell_other w9 ⟨H, 5, none⟩ j _ hne).trans (B9.block j hj)
        refine hK.out _ _ hsw10 (fun _ => ?_)
        clear hK KK
        try simp only [Act.put, List.setIfInBounds_toArray, List.set_cons_zero, List.set_cons_succ]
        refine wpAnyH_done (by kernel_rfl) ?_ _
        refine calm_out ?_
        have HC10 := hid17 (show WorkAt (w9.setCell ⟨H, 5, none⟩ (.int .i64 (used + (1 + (ks.length : Nat))))) H 1 m (.slice (some ⟨g, 0, none⟩) ws.length cap) half (used + (1 + (ks.length : Nat))) from work_set5 (HW8.out.below B9))
        have HG9 := hid17 (show (w9.setCell ⟨H, 5, none⟩ (.int .i64 (used + (1 + (ks.length : Nat))))).heap[g]? = some (.cells (splice (cur.set pl (.int .i64 (hdW f t (ks.length : Nat)))) (pl + 1) (ks.map (Value.int .i64))).toArray 3 (0, 0)) from (heap_setCell_other w9 ⟨H, 5, none⟩ g _ (fun h => HGH.out h.symm)).trans ((B9.block g (Array.getElem?_eq_some_iff.1 HG8.out).1).trans HG8.out))
        have HB9 := hid17 (show Below w0.heap.size w0 (w9.setCell ⟨H, 5, none⟩ (.int .i64 (used + (1 + (ks.length : Nat))))) from (HB8.out.trans (B9.mono HB8.out.size)).setCell HH0.out _)
        obtain ⟨W10, hW10⟩ : ∃ W, W = w9.setCell ⟨H, 5, none⟩ (.int .i64 (used + (1 + (ks.length : Nat)))) := ⟨_, rfl⟩
        rw [← hW10] at HC10 HG9 HB9 ⊢
        clear hW10 B9
        obtain ⟨⟨z0, z1, z2, z3, z4, z5⟩, zf⟩ := HC10.out.cells
        have zf0 := zf 0
        clear z1 z2 z3 z4 z5 zf
        have HE : Hid (POST (.returned (.tuple #[.int .i64 (pl : Nat), .bool true])) (W10.setCell ⟨H, 0, none⟩ (.int .i32 0))) := by
          show POST _ _
          rw [HP.out]
          refine .inr ⟨(by have := HROOM.out; omega), pl, (by rw [HMM.out]; exact HPL.out), rfl, work_set0 HC10.out, ?_, HB9.out.setCell HH0.out _⟩
          have hcl3 : (splice (cur.set pl (.int .i64 (hdW f t (ks.length : Nat)))) (pl + 1) (ks.map (Value.int .i64))).length = cap := by rw [length_splice _ _ _ (by rw [HKM.out]; omega)]; exact hcl2
          have hpl2 := putW_len (x := hdW f t (ks.length : Nat)) hfitk
          unfold Own
          rw [hpl2]
          refine ⟨by rw [List.length_map, hpl2]; omega, .inr ⟨g, cap, _, rfl, HG0.out, (heap_setCell_other W10 ⟨H, 0, none⟩ g _ (fun h => HGH.out h.symm)).trans HG9.out, hncap, hcapm, by simpa using hcl3, ?_⟩⟩
          rw [Nat.mul_one]
          exact putW_take (by omega) HTK.out hfitk
        go_wp2_with fail
        refine leaves_cons (f := 89) (args := #[.pointer (some ⟨H, 0, none⟩)]) (by simp) (by simp [go_sem]) ?_
        refine (Go.MuLone.unlock_deferred Try.muLib ⟨H, 0, none⟩ .returning W10 z0 zf0).mono ?_
        rintro e u' w'' ⟨rfl, rfl, rfl⟩
        refine ⟨_, results_tmp2 (t := 6) (u := 7) (by kernel_rfl) _ _ _, ?_⟩
        exact HE.out
      case' re2 =>
        refine step_call1 rfl 85 _ _ rfl size17_enter (.agg #[.bool f, .int .i64 t, .int .i64 (ks.length : Nat)]) rfl _ (HSZ.out w8.drew) ?_
        rintro e w9 ⟨rfl, hb9⟩
        refine ⟨_, rfl, ?_⟩
        have B9 : Below w8.heap.size w8 w9 := (Below.refl _ _).drew.trans hb9
        have hsw9 : (fun wq => ∀ j, j < w8.heap.size → j ≠ H → wq.heap[j]? = w8.heap[j]?) w9 := fun j hj _ => B9.block j hj
        clear hb9
        refine hK.out _ _ hsw9 (fun _ => ?_)
        clear hK KK
        try simp only [Act.put, List.setIfInBounds_toArray, List.set_cons_zero, List.set_cons_succ]
        refine wpAnyH_ready (rs := [3]) (by kernel_rfl) (by simp) ?_
        refine AllReadyH.cons (o := { dst := some 55, op := Op.load 3 (Operand.tmp 54), type := 3, pos := "l17_heap.go:165", after := #[{ on := 2, ground := Ground.data }], guard := none }) rfl (fun KK hK => ?re5) AllReadyH.nil
        obtain ⟨⟨q0, q1, q2, q3, q4, q5⟩, qf⟩ := (HW8.out.below B9).cells
        go_simp
        clear q0 q1 q2 q3 q4 q5 qf
        refine hK.out _ _ hsw9 (fun _ => ?_)
        clear hK KK
        try simp only [Act.put, List.setIfInBounds_toArray, List.set_cons_zero, List.set_cons_succ]
        refine wpAnyH_take (i := 6) (oi := { dst := some 58, op := Op.binOp BinOp.add 3 (Operand.tmp 55) (Operand.tmp 57) 3, type := 3, pos := "l17_heap.go:165", after := #[{ on := 3, ground := Ground.data }, { on := 5, ground := Ground.data }], guard := none }) (v := (.int .i64 (used + (1 + (ks.length : Nat))))) rfl (by kernel_rfl) (by kernel_rfl) (by kernel_rfl) (fun _ _ _ h => h) (Or.inl ⟨by rfl, ?_⟩) hsw9 ?_
        · intro wq hSq
          clear hSq
          go_simp; rw [IntKind.wrap_i64]; omega
        try simp only [Act.put, List.setIfInBounds_toArray, List.set_cons_zero, List.set_cons_succ]
        refine wpAnyH_take (i := 7) (oi := { dst := some 59, op := Op.nilCheck (Operand.tmp 52), type := 0, pos := "l17_heap.go:165", after := #[{ on := 0, ground := Ground.data }, { on := 0, ground := Ground.phase }, { on := 1, ground := Ground.phase }, { on := 2, ground := Ground.phase }, { on := 3, ground := Ground.phase }, { on := 4, ground := Ground.phase }, { on := 5, ground := Ground.phase }, { on := 6, ground := Ground.phase }], guard := none }) (v := (.pointer (some ⟨H, 0, none⟩))) rfl (by kernel_rfl) (by kernel_rfl) (by kernel_rfl) (fun _ _ _ h => h) (Or.inl ⟨by rfl, ?_⟩) hsw9 ?_
        · intro wq hSq
          clear hSq
          go_simp
        try simp only [Act.put, List.setIfInBounds_toArray, List.set_cons_zero, List.set_cons_succ]
        refine wpAnyH_take (i := 8) (oi := { dst := some 60, op := Op.fieldAddr 98 (Operand.tmp 59) 4, type := 0, pos := "l17_heap.go:165", after := #[{ on := 7, ground := Ground.data }, { on := 0, ground := Ground.phase }, { on := 1, ground := Ground.phase }, { on := 2, ground := Ground.phase }, { on := 3, ground := Ground.phase }, { on := 4, ground := Ground.phase }, { on := 5, ground := Ground.phase }, { on := 6, ground := Ground.phase }], guard := none }) (v := (.pointer (some ⟨H, 5, none⟩))) rfl (by kernel_rfl) (by kernel_rfl) (by kernel_rfl) (fun _ _ _ h => h) (Or.inl ⟨by rfl, ?_⟩) hsw9 ?_
        · intro wq hSq
          clear hSq
          go_simp
        try simp only [Act.put, List.setIfInBounds_toArray, List.set_cons_zero, List.set_cons_succ]
        refine wpAnyH_ready (rs := [9]) (by kernel_rfl) (by simp) ?_
        refine AllReadyH.cons (o := { dst := none, op := Op.store 3 (Operand.tmp 60) (Operand.tmp 58), type := 0, pos := "l17_heap.go:165", after := #[{ on := 8, ground := Ground.data }, { on := 6, ground := Ground.data }, { on := 5, ground := Ground.chain }, { on := 0, ground := Ground.phase }, { on := 1, ground := Ground.phase }, { on := 2, ground := Ground.phase }, { on := 3, ground := Ground.phase }, { on := 4, ground := Ground.phase }, { on := 5, ground := Ground.phase }, { on := 6, ground := Ground.phase }], guard := none }) rfl (fun KK hK => ?re6) AllReadyH.nil
        obtain ⟨⟨q0, q1, q2, q3, q4, q5⟩, qf⟩ := (HW8.out.below B9).cells
        have qf5 := qf 5
        clear qf
        go_simp
        have hsw10 : (fun wq => ∀ j, j < w8.heap.size → j ≠ H → wq.heap[j]? = w8.heap[j]?) (w9.setCell ⟨H, 5, none⟩ (.int .i64 (used + (1 + (ks.length : Nat))))) := fun j hj hne => (heap_setCell_other w9 ⟨H, 5, none⟩ j _ hne).trans (B9.block j hj)
        refine hK.out _ _ hsw10 (fun _ => ?_)
        clear hK KK
        try simp only [Act.put, List.setIfInBounds_toArray, List.set_cons_zero, List.set_cons_succ]
        refine wpAnyH_done (by kernel_rfl) ?_ _
        refine calm_out ?_
        have HC10 := hid17 (show WorkAt (w9.setCell ⟨H, 5, none⟩ (.int .i64 (used + (1 + (ks.length : Nat))))) H 1 m (.slice (some ⟨g, 0, none⟩) ws.length cap) half (used + (1 + (ks.length : Nat))) from work_set5 (HW8.out.below B9))
        have HG9 := hid17 (show (w9.setCell ⟨H, 5, none⟩ (.int .i64 (used + (1 + (ks.length : Nat))))).heap[g]? = some (.cells (splice (cur.set pl (.int .i64 (hdW f t (ks.length : Nat)))) (pl + 1) (ks.map (Value.int .i64))).toArray 3 (0, 0)) from (heap_setCell_other w9 ⟨H, 5, none⟩ g _ (fun h => HGH.out h.symm)).trans ((B9.block g (Array.getElem?_eq_some_iff.1 HG8.out).1).trans HG8.out))
        have HB9 := hid17 (show Below w0.heap.size w0 (w9.setCell ⟨H, 5, none⟩ (.int .i64 (used + (1 + (ks.length : Nat))))) from (HB8.out.trans (B9.mono HB8.out.size)).setCell HH0.out _)
        obtain ⟨W10, hW10⟩ : ∃ W, W = w9.setCell ⟨H, 5, none⟩ (.int .i64 (used + (1 + (ks.length : Nat)))) := ⟨_, rfl⟩
        rw [← hW10] at HC10 HG9 HB9 ⊢
        clear hW10 B9
        obtain ⟨⟨z0, z1, z2, z3, z4, z5⟩, zf⟩ := HC10.out.cells
        have zf0 := zf 0
        clear z1 z2 z3 z4 z5 zf
        have HE : Hid (POST (.returned (.tuple #[.int .i64 (pl : Nat), .bool true])) (W10.setCell ⟨H, 0, none⟩ (.int .i32 0))) := by
          show POST _ _
          rw [HP.out]
          refine .inr ⟨(by have := HROOM.out; omega), pl, (by rw [HMM.out]; exact HPL.out), rfl, work_set0 HC10.out, ?_, HB9.out.setCell HH0.out _⟩
          have hcl3 : (splice (cur.set pl (.int .i64 (hdW f t (ks.length : Nat)))) (pl + 1) (ks.map (Value.int .i64))).length = cap := by rw [length_splice _ _ _ (by rw [HKM.out]; omega)]; exact hcl2
          have hpl2 := putW_len (x := hdW f t (ks.length : Nat)) hfitk
          unfold Own
          rw [hpl2]
          refine ⟨by rw [List.length_map, hpl2]; omega, .inr ⟨g, cap, _, rfl, HG0.out, (heap_setCell_other W10 ⟨H, 0, none⟩ g _ (fun h => HGH.out h.symm)).trans HG9.out, hncap, hcapm, by simpa using hcl3, ?_⟩⟩
          rw [Nat.mul_one]
          exact putW_take (by omega) HTK.out hfitk
        go_wp2_with fail
        refine leaves_cons (f := 89) (args := #[.pointer (some ⟨H, 0, none⟩)]) (by simp) (by simp [go_sem]) ?_
        refine (Go.MuLone.unlock_deferred Try.muLib ⟨H, 0, none⟩ .returning W10 z0 zf0).mono ?_
        rintro e u' w'' ⟨rfl, rfl, rfl⟩
        refine ⟨_, results_tmp2 (t := 6) (u := 7) (by kernel_rfl) _ _ _, ?_⟩
        exact HE.out
end Go.Proofs.Ytgcegjgjegkahab
