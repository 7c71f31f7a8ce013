/- impl.freeNames: none, where the core is closed. Condition: at most 2^18 parts. -/
import Derived.Test.YtefjnhkaampmcaaDoorZCorFree
import Derived.Deep.CutRange
import Derived.Deep.CutBlock
namespace Go.Proofs.YtefjnhkaampmcaaDoor
open Go.ChangeShapes Go.WideShapes Go.ChangeAt Go.RowKit Go.Shelf Go.MapKept
open Go.Maps (Keyed IsMap)
open Go.WideMaps
attribute [local go_sem] Oper.semAt_some

/-- What stands ahead of a round. -/
def FL (w : World) (t : C) (K B bs N M gk : Nat) (pv mv : Value) (wr : World) : Prop :=
  ∃ (D : DataW Unit) (nn : Nat), Nums wr M nn D ∧ nn + gk ≤ N + 1 ∧ Below w.heap.size w wr ∧
   ((mv = .bool false ∧ (t.closed [] = true ↔ Maps.size D = 0)) ∨
    (mv = .bool true ∧ ∃ (w0 : World) (n m g cap : Nat) (st : List St) (p : C) (pu : Option Addr) (pl cu P : Nat),
        gk = goesS st + 1 ∧ M < w0.heap.size ∧ w.heap.size ≤ w0.heap.size ∧ pv = .pointer (some ⟨P, 0, none⟩) ∧ wr.heap[P]? = some (.cells #[.int .i64 p.op, .int .i64 p.n, .string p.s, .string p.t2, .slice pu pl cu] 29 (0, 0)) ∧
        CW w0 K B bs n m wr (.slice (some ⟨g, 0, none⟩) (st.length : Nat) cap) st (envOf st) ∧ n + 2 * goesS st ≤ N ∧ m + 2 * goesS st ≤ N ∧ p.s.size ≤ maxLen ∧
        (t.closed [] = true ↔ Maps.size D = 0 ∧ (p.op = 2 → (envOf st).contains p.s.data.toList = true) ∧ pend st [] = true)))

/-- The next part, with the values written out. -/
def NextF (w0 w : World) (K B bs N : Nat) (st0 : List St) (a0 a1 : Int) (a2 a3 : ByteArray) (b : Bool) (w' : World) : Prop :=
  WFr K B bs w w' ∧ ((b = false ∧ pend st0 [] = true) ∨
    (b = true ∧ ∃ (n m g cap : Nat) (st : List St) (q : C), a0 = q.op ∧ a1 = q.n ∧ a2 = q.s ∧ a3 = q.t2 ∧ q.s.size ≤ maxLen ∧ goesS st < goesS st0 ∧
      (pend st0 [] = true ↔ (q.op = 2 → (envOf st).contains q.s.data.toList = true) ∧ pend st [] = true) ∧
      CW w0 K B bs n m w' (.slice (some ⟨g, 0, none⟩) (st.length : Nat) cap) st (envOf st) ∧ n + 2 * goesS st ≤ N ∧ m + 2 * goesS st ≤ N))
theorem next_form {w0 w : World} {K B bs N : Nat} {st0 : List St} {e : Ending} {w' : World} (h : NextIs w0 w K B bs N st0 e w') : ∃ (a0 a1 : Int) (a2 a3 : ByteArray) (p : Option Addr) (l c : Nat) (b : Bool),
    e = .returned (.tuple #[.agg #[.int .i64 a0, .int .i64 a1, .string a2, .string a3, .slice p l c], .bool b]) ∧ NextF w0 w K B bs N st0 a0 a1 a2 a3 b w' := by
  rcases h with ⟨rfl, h1, n, m, g, cap, h2⟩ | ⟨n, m, g, cap, r, t, v, b, o, xs, nv, V, NV, kb, ko, rfl, h1, h2, h3, h4, h5, h6, h7, h8, h9⟩
  · exact ⟨0, 0, ⟨#[]⟩, ⟨#[]⟩, none, 0, 0, false, rfl, h2.fr, .inl ⟨rfl, h1⟩⟩
  · obtain ⟨pv, cv, rfl⟩ := h2.sl.shape
    refine ⟨t.op, t.n, t.s, t.t2, pv, t.len, cv, true, rfl, h9, .inr ⟨rfl, n, m, g, cap, _, t, rfl, rfl, rfl, rfl, h2.size.1, ?_, ?_, h5, h7, h8⟩⟩
    · exact Nat.lt_of_lt_of_le (goes_come r t (.slice pv t.len cv) nv nv V NV b o kb ko xs) h4
    · rw [h6, ← h1]
      exact pend_come r t (fun e => by rw [e] at h2; exact h2) _ nv nv V NV b o kb ko xs
theorem FL.of_next {w w0 wa w6 wz : World} {T : C} {K B bs N M nn P : Nat} {D : DataW Unit} {st : List St} {a0 a1 : Int} {a2 a3 : ByteArray} {p : Option Addr} {l c : Nat} {b : Bool}
    (hf : NextF w0 wa K B bs N st a0 a1 a2 a3 b w6) (hP : wz.heap[P]? = some (.cells #[.int .i64 a0, .int .i64 a1, .string a2, .string a3, .slice p l c] 29 (0, 0)))
    (hc : ∀ n m lv st env, CW w0 K B bs n m w6 lv st env → CW w0 K B bs n m wz lv st env) (hz : Nums wz M nn D) (hb : Below w.heap.size w wz) (hn : nn + goesS st ≤ N + 1) (hM : M < w0.heap.size) (hw : w.heap.size ≤ w0.heap.size)
    (hcl : T.closed [] = true ↔ Maps.size D = 0 ∧ pend st [] = true) : ∃ gk, gk ≤ goesS st ∧ FL w T K B bs N M gk (.pointer (some ⟨P, 0, none⟩)) (.bool b) wz := by
  rcases hf.2 with ⟨rfl, h1⟩ | ⟨rfl, n, m, g, cap, st1, q, rfl, rfl, rfl, rfl, e5, e6, e7, e8, e9, e10⟩
  · refine ⟨0, Nat.zero_le _, D, nn, hz, by omega, hb, .inl ⟨rfl, ?_⟩⟩
    rw [hcl, h1]; simp
  · refine ⟨goesS st1 + 1, by omega, D, nn, hz, by omega, hb, .inr ⟨rfl, w0, n, m, g, cap, st1, q, p, l, c, P, rfl, hM, hw, rfl, hP, hc _ _ _ _ _ e8, e9, e10, e5, ?_⟩⟩
    rw [hcl, e7]

theorem size_of_has {D : DataW Unit} {kl : Lit} (h : Maps.has D kl = true) : Maps.size D ≠ 0 := by
  cases D <;> simp [Maps.has, Maps.size] at h ⊢
  rintro rfl
  simp at h
theorem zeroI (w : World) : (zeroValue 3).run Tryd.prog w = .ok (.int .i64 0) w := by kernel_rfl
theorem contains_count {env : List (List UInt8)} {s : List UInt8} : env.contains s = true ↔ env.count s ≠ 0 := by
  rw [List.contains_iff_mem, Nat.ne_zero_iff_zero_lt, List.count_pos_iff]

set_option maxRecDepth 100000 in
set_option maxHeartbeats 4000000 in
theorem free_names (t : C) (v : Value) (w : World) (hin : t.In w v) (hw : t.weight ≤ 1048576) (hc : t.count ≤ 262144) :
    Calls Tryd.prog 17 #[aggC t v] w fun e w' => (∃ (p : Option Addr) (k c : Nat), e = .returned (.slice p k c) ∧ (t.closed [] = true ↔ k = 0)) ∧ Below w.heap.size w w' := by
  obtain ⟨pv, cv, ev⟩ := hin.sl.shape
  subst ev
  obtain ⟨W, hW⟩ : ∃ W, W = w.alloc (.cells #[.int .i64 t.op, .int .i64 t.n, .string t.s, .string t.t2, .slice pv t.len cv] 29) := ⟨_, rfl⟩
  have HW := hid_ofW hW
  have bW : Below w.heap.size w W := by rw [hW]; exact newb w _
  have hWs : W.heap.size = w.heap.size + 1 := by rw [hW]; simp
  have hWb : W.heap[w.heap.size]? = some (.cells #[.int .i64 t.op, .int .i64 t.n, .string t.s, .string t.t2, .slice pv t.len cv] 29 (0, 0)) := by rw [hW]; exact heap_alloc_new w _
  obtain ⟨W1, hW1⟩ : ∃ W1, W1 = W.alloc (.map #[] 0) := ⟨_, rfl⟩
  have HW1 := hid_ofW hW1
  have hmk : (Instr.makeMap 53 none).run Tryd.prog W = .ok (.map (some W.heap.size)) W1 := by rw [hW1]; rfl
  have b1 : Below W.heap.size W W1 := by rw [hW1]; exact newb W _
  have hnum : Nums W1 W.heap.size 0 (.map []) := by rw [hW1]; exact ⟨World.ownsMap_made W _ _ _, NumD.nil⟩
  have q0 : W1.cell? ⟨w.heap.size, 0, none⟩ = some (.int .i64 t.op) := keeps b1 _ _ (cell_of_row W w.heap.size 0 _ _ _ hWb)
  have q1 : W1.cell? ⟨w.heap.size, 1, none⟩ = some (.int .i64 t.n) := keeps b1 _ _ (cell_of_row W w.heap.size 1 _ _ _ hWb)
  have q2 : W1.cell? ⟨w.heap.size, 2, none⟩ = some (.string t.s) := keeps b1 _ _ (cell_of_row W w.heap.size 2 _ _ _ hWb)
  have q3 : W1.cell? ⟨w.heap.size, 3, none⟩ = some (.string t.t2) := keeps b1 _ _ (cell_of_row W w.heap.size 3 _ _ _ hWb)
  have q4 : W1.cell? ⟨w.heap.size, 4, none⟩ = some (.slice pv t.len cv) := keeps b1 _ _ (cell_of_row W w.heap.size 4 _ _ _ hWb)
  have hin1 : t.In W1 (.slice pv t.len cv) := (hin.below bW).below b1
  have HNW : Hid (Calls Tryd.prog 28 #[aggC t (.slice pv t.len cv)] W1 fun e w' => ∃ (S Bm : Nat), e = .returned (.agg #[.slice (some ⟨S, 0, none⟩) 1 1, .map (some Bm), .int .i64 0]) ∧ Below (W1.heap.size + 1) (W1.alloc (.cells #[.int .i64 t.op, .int .i64 t.n, .string t.s, .string t.t2, .slice pv t.len cv] 29)) w' ∧ W1.heap.size + 1 ≤ S ∧ W1.heap.size + 1 ≤ Bm ∧ w'.heap[S]? = some (.cells #[.pointer (some ⟨W1.heap.size, 0, none⟩), .slice none 0 0] 70 (0, 0)) ∧ w'.heap[Bm]? = some (.map #[] 0)) := new_walk t _ W1 hin1
  have HIN : Hid (t.In W1 (.slice pv t.len cv) ∧ Below w.heap.size w W1 ∧ Nums W1 W.heap.size 0 (.map []) ∧ W.heap.size = w.heap.size + 1) := ⟨hin1, bW.trans (b1.mono bW.size), hnum, hWs⟩
  clear hW hW1 hin hin1 bW b1 hWb hnum hWs
  unfold aggC
  go_enter Tryd.func17, Tryd.ntmps17
  go_upto_region 1 with fail
  rw [← HW.out]
  go_wp2_with fail
  refine HNW.out.mono ?_
  rintro e W2 ⟨S, B, rfl, n1, n2, n3, n4, n5⟩
  obtain ⟨Z, hZ⟩ : ∃ Z, Z = W1.alloc (.cells #[.int .i64 t.op, .int .i64 t.n, .string t.s, .string t.t2, .slice pv t.len cv] 29) := ⟨_, rfl⟩
  have hZs : Z.heap.size = W1.heap.size + 1 := by rw [hZ]; simp
  rw [← hZ, ← hZs] at n1
  rw [← hZs] at n2 n3
  have hZb : Z.heap[W1.heap.size]? = some (.cells #[.int .i64 t.op, .int .i64 t.n, .string t.s, .string t.t2, .slice pv t.len cv] 29 (0, 0)) := by rw [hZ]; exact heap_alloc_new W1 _
  have bZ : Below W1.heap.size W1 Z := by rw [hZ]; exact newb W1 _
  obtain ⟨K, hK⟩ : ∃ K, K = W2.heap.size := ⟨_, rfl⟩
  obtain ⟨W3, hW3⟩ : ∃ W3, W3 = W2.alloc (.cells #[.slice (some ⟨S, 0, none⟩) 1 1, .map (some B), .int .i64 0] 58) := ⟨_, rfl⟩
  have HW3 := hid_ofW hW3
  have HK := hid_ofW hK
  have b3 : Below W2.heap.size W2 W3 := by rw [hW3]; exact newb W2 _
  have k3 : W3.heap[K]? = some (.cells #[.slice (some ⟨S, 0, none⟩) 1 1, .map (some B), .int .i64 0] 58 (0, 0)) := by rw [hW3, hK]; exact heap_alloc_new W2 _
  obtain ⟨top, htop⟩ : ∃ x : St, x = ⟨some (t, .slice pv t.len cv, W1.heap.size, 0), [], .slice none 0 0⟩ := ⟨_, rfl⟩
  have s3 : W3.heap[S]? = some (.cells #[.pointer (some ⟨W1.heap.size, 0, none⟩), .slice none 0 0] 70 (0, 0)) := (b3.block S (Array.getElem?_eq_some_iff.1 n4).1).trans n4
  have m3 : W3.heap[B]? = some (.map #[] 0) := (b3.block B (Array.getElem?_eq_some_iff.1 n5).1).trans n5
  have HCW : Hid (CW Z K B Z.heap.size 0 0 W3 (.slice (some ⟨S, 0, none⟩) ([top].length : Nat) 1) [top] (envOf [top])) := by
    refine ⟨k3, ⟨by rw [strows_length], .inr ⟨S, 1, _, rfl, n2, s3, Nat.le_refl _, by unfold maxLen; omega, rfl, by rw [htop]; rfl⟩⟩, ⟨_, ⟨#[], 0, m3, ⟨by simp, stamped_empty 0, by simp⟩, Nat.le_refl _, rfl, Nat.lt_succ_self _, by simp, by simp⟩, by rw [htop]; exact EnvD.nil⟩, fun x hx => ?_, n1.trans (b3.mono n1.size), Nat.le_refl _, n3, by rw [hK]; exact n1.size⟩
    simp only [List.mem_singleton] at hx
    subst hx
    rw [htop]
    refine ⟨fun q hq => ?_, .inl ⟨rfl, rfl⟩, by simp, by simp⟩
    injection hq with hq
    subst hq
    exact ⟨HIN.out.1.below bZ, ⟨cell_of_row Z _ 0 _ _ _ hZb, cell_of_row Z _ 1 _ _ _ hZb, cell_of_row Z _ 2 _ _ _ hZb, cell_of_row Z _ 3 _ _ _ hZb, cell_of_row Z _ 4 _ _ _ hZb⟩, hw⟩
  have hgt : goesS [top] = t.goes9 := by rw [htop]; simp [goesS, St.goes]
  have hgl : goesS [top] ≤ 524288 := by rw [hgt]; have := t.goes9_count; omega
  have hpt : t.closed [] = pend [top] [] := by rw [htop]; simp [pend, nmL]
  have HNX : Hid (Calls Tryd.prog 29 #[.pointer (some ⟨K, 0, none⟩)] W3 (NextIs Z W3 K B Z.heap.size (2 * goesS [top]) [top])) :=
    walk_next Z K B Z.heap.size (2 * goesS [top]) 0 0 S 1 W3 [top] (by omega) ⟨HCW.out, rfl, by omega, by omega, WFr.refl _ _ _ _⟩
  obtain ⟨M, hM⟩ : ∃ M, M = W.heap.size := ⟨_, rfl⟩
  have hW1s : W.heap.size < W1.heap.size := HIN.out.2.2.1.1.lt
  have HM : Hid (M < Z.heap.size ∧ w.heap.size ≤ Z.heap.size ∧ Nums W3 M 0 (.map []) ∧ Below w.heap.size w W3 ∧ w.heap.size ≤ M ∧ Z.heap.size ≤ K ∧ Z.heap.size ≤ B) := by
    obtain ⟨a1, a2, a3, a4⟩ := HIN.out
    rw [← hM] at a3
    have bb := bZ.trans ((n1.trans (b3.mono n1.size)).mono (by omega))
    exact ⟨by omega, by omega, a3.below bb, a2.trans (bb.mono a2.size), by omega, by rw [hK]; exact n1.size, n3⟩
  rw [← hM]
  have HPT : Hid (t.closed [] = pend [top] []) := hpt
  clear n1 n2 n3 n4 n5 hZ hZb bZ hW3 hK b3 k3 s3 m3 htop hgt hpt hM hW1s q0 q1 q2 q3 q4 hmk HNW HIN HCW
  go_upto_region 3 with fail
  rw [← HK.out, ← HW3.out]
  go_wp2_with fail
  refine HNX.out.mono ?_
  intro e w4 hnx
  obtain ⟨a0, a1, a2, a3, pp, pl, pc, bo, rfl, hF⟩ := next_form hnx
  clear hnx HNX
  have HF : Hid (NextF Z W3 K B Z.heap.size (2 * goesS [top]) [top] a0 a1 a2 a3 bo w4) := hF
  clear hF
  go_upto_region 4 with fail
  obtain ⟨W5, hW5⟩ : ∃ W5, W5 = w4.alloc (.cells #[.int .i64 a0, .int .i64 a1, .string a2, .string a3, .slice pp pl pc] 29) := ⟨_, rfl⟩
  obtain ⟨P, hP⟩ : ∃ P, P = w4.heap.size := ⟨_, rfl⟩
  have b5 : Below w4.heap.size w4 W5 := by rw [hW5]; exact newb w4 _
  have p5 : W5.heap[P]? = some (.cells #[.int .i64 a0, .int .i64 a1, .string a2, .string a3, .slice pp pl pc] 29 (0, 0)) := by rw [hW5, hP]; exact heap_alloc_new w4 _
  obtain ⟨m1, m2, m3, m4, m5, m6, m7⟩ := HM.out
  have hf4 : Below w.heap.size w w4 := m4.trans (HF.out.1.below (by omega) (by omega) m2 m4.size)
  obtain ⟨gk0, hgk0, hFL⟩ := FL.of_next (w := w) (T := t) (wz := W5) (P := P) (M := M) (nn := 0) (D := .map []) HF.out p5 (fun _ _ _ _ _ h => h.below b5) ((m3.fr HF.out.1 (by omega) (by omega)).below b5) (hf4.trans (b5.mono hf4.size)) (by omega) m1 m2 (by rw [HPT.out]; simp [Maps.size])
  have HFL : Hid (FL w t K B Z.heap.size (2 * goesS [top]) M gk0 (.pointer (some ⟨P, 0, none⟩)) (.bool bo) W5) := hFL
  rw [← hW5, ← hP]
  generalize hN : 2 * goesS [top] = N at *
  have hNl : N ≤ 1048576 := by omega
  clear hW5 hP b5 p5 m1 m2 m3 m4 m5 m6 m7 hf4 hFL HF HW HW1 HK HW3 HPT
  go_loopg [5, 6] gk0 (fun k pv mv wr => FL w t K B Z.heap.size N M k pv mv wr)
  case atStart => exact HFL.out
  case round =>
    obtain ⟨D, nn, hnum, hnn, hbel, hor⟩ := hrel
    have HIO : Hid (Calls Tryd.prog 31 #[.map (some M)] wr fun e w' => (∃ p c, e = .returned (.slice p (Maps.size D : Nat) c)) ∧ Below wr.heap.size wr w') := in_order M nn D wr hnum (by omega)
    have HNU : Hid (Nums wr M nn D ∧ Below w.heap.size w wr) := ⟨hnum, hbel⟩
    rcases hor with ⟨rfl, hcl⟩ | ⟨rfl, w0, n, m, g, cap, st, p, pu, pk, cu, P, hgk, hM0, hw0, rfl, hP, hC, hn, hm, hps, hcl⟩
    · have HCL : Hid (t.closed [] = true ↔ Maps.size D = 0) := hcl
      clear hcl hnum hbel HFL
      go_wp2_with ((go_at_call 31; refine HIO.out.mono ?_; rintro e w1 ⟨⟨pp, pc, rfl⟩, hb1⟩))
      go_ret
      exact ⟨⟨_, _, _, rfl, HCL.out⟩, HNU.out.2.trans (hb1.mono HNU.out.2.size)⟩
    · have HS : Hid (M < w0.heap.size ∧ w.heap.size ≤ w0.heap.size ∧ wr.heap[P]? = some (.cells #[.int .i64 p.op, .int .i64 p.n, .string p.s, .string p.t2, .slice pu pk cu] 29 (0, 0)) ∧ CW w0 K B Z.heap.size n m wr (.slice (some ⟨g, 0, none⟩) (st.length : Nat) cap) st (envOf st)) := ⟨hM0, hw0, hP, hC⟩
      have HCL : Hid (t.closed [] = true ↔ Maps.size D = 0 ∧ (p.op = 2 → (envOf st).contains p.s.data.toList = true) ∧ pend st [] = true) := hcl
      have HGK : Hid (gk = goesS st + 1) := hgk
      have c0 : wr.cell? ⟨P, 0, none⟩ = some (.int .i64 p.op) := cell_of_row wr P 0 _ _ _ hP
      have c2 : wr.cell? ⟨P, 2, none⟩ = some (.string p.s) := cell_of_row wr P 2 _ _ _ hP
      have k1 : wr.cell? ⟨K, 1, none⟩ = some (.map (some B)) := cell_of_row wr K 1 _ _ _ hC.blk
      have HBM : Hid (Calls Tryd.prog 30 #[.map (some B), .string p.s] wr fun e w' => ∃ z : Int, e = .returned (.int .i64 z) ∧ ((envOf st).count p.s.data.toList = 0 → z = -1) ∧ ((envOf st).count p.s.data.toList ≠ 0 → 0 ≤ z) ∧ w' = wr) := bound_meant B (B + 1) n (envOf st) p.s wr hC.bnd hps
      clear hcl hnum hbel hP hC hM0 hw0 hgk HIO HFL
      go_upto_block 1 with fail
      go_cut [] from 16 to 46 (fun wx => ∃ (D' : DataW Unit) (nn' : Nat) (w0' : World), Nums wx M nn' D' ∧ nn' + goesS st ≤ N + 1 ∧ M < w0'.heap.size ∧ w.heap.size ≤ w0'.heap.size ∧ CW w0' K B Z.heap.size n m wx (.slice (some ⟨g, 0, none⟩) (st.length : Nat) cap) st (envOf st) ∧ wx.heap[P]? = some (.cells #[.int .i64 p.op, .int .i64 p.n, .string p.s, .string p.t2, .slice pu pk cu] 29 (0, 0)) ∧ Below w.heap.size w wx ∧ (t.closed [] = true ↔ Maps.size D' = 0 ∧ pend st [] = true))
      case first =>
        by_cases hop : p.op = 2
        · by_cases hcnt : (envOf st).count p.s.data.toList = 0
          · have HCN : Hid (¬ (t.closed [] = true)) := fun h => by
              have h2 := contains_count.1 ((HCL.out.1 h).2.1 hop)
              exact h2 hcnt
            have HB2 : Hid (Calls Tryd.prog 30 #[.map (some B), .string p.s] wr fun e w' => e = .returned (.int .i64 (-1)) ∧ wr = w') := HBM.out.mono (fun e w' ⟨z, h1, h2, h3, h4⟩ => ⟨by rw [h1, h2 hcnt], h4.symm⟩)
            have hkey := keyOf_string_mk (P := Tryd.prog) Tryd.underlying9 hps
            obtain ⟨lv, lps, hrun, hlv⟩ := HNU.out.1.1.look_ok (t := 53) lawB Tryd.underlying53 (zeroI _) (plainElem_int (P := Tryd.prog) Tryd.underlying3 (by decide)) hkey
            obtain ⟨lc, rfl, _, _⟩ := plainElem_int_inv Tryd.underlying3 hlv
            clear hlv HBM hcnt
            rw [hop] at c0
            cases hh : Maps.has D (.string p.s.data.toList) with
            | true =>
              rw [hh] at hrun
              have HSZ : Hid (Maps.size D ≠ 0) := size_of_has hh
              clear hh
              go_wp2_with ((go_at_call 30; refine HB2.out.mono ?_; rintro e w1 ⟨rfl, rfl⟩))
              go_meet
              exact ⟨D, nn, w0, HNU.out.1, by have := HGK.out; omega, HS.out.1, HS.out.2.1, HS.out.2.2.2, HS.out.2.2.1, HNU.out.2, fun h => absurd h HCN.out, fun h => absurd h.1 HSZ.out⟩
            | false =>
              rw [hh] at hrun
              have hown := HNU.out.1.1
              have HMO : Hid (NumD (D.put (.string p.s.data.toList) (.lit (.int .i64 (Maps.size D)))) ∧ Maps.size (D.put (.string p.s.data.toList) (.lit (.int .i64 (Maps.size D)))) = Maps.size D + 1) := HNU.out.1.2.more (hown.tidy lawB) _ hh
              have hsl := hown.size_le
              have hwf : (Lit.int .i64 (Maps.size D : Int)).wf = true := WalkArith.wf_i64 (by omega)
              clear hh
              go_wp2_with (first
                | (go_at_call 30; refine HB2.out.mono ?_; rintro e w1 ⟨rfl, rfl⟩)
                | (at_len; refine wpList_len_own _ rfl _ 53 rfl 9 3 Tryd.underlying53 _ M nn D rfl hown ?_)
                | (at_mapUpdate; refine wpList_mapUpdate_own _ rfl _ _ _ 53 rfl 9 3 lawB Tryd.underlying53 _ M nn D rfl hown (by unfold maxLen; omega) _ _ _ rfl rfl hkey _ [] (plainElem_int (P := Tryd.prog) Tryd.underlying3 hwf) ?_; intro w2 hown2 hgrow2)
                | go_in)
              go_frame
              obtain ⟨es, ck, hmb, -⟩ := hown
              obtain ⟨w0', hs0, hC'⟩ := HS.out.2.2.2.turn HS.out.1 hmb hgrow2
              have hX : ∀ cs ty fr, wr.heap[M]? ≠ some (.cells cs ty fr) := fun cs ty fr e => by rw [hmb] at e; cases e
              have HQ : Hid (Nums w2 M (nn + 1) (D.put (.string p.s.data.toList) (.lit (.int .i64 (Maps.size D)))) ∧ w0'.heap.size = w0.heap.size ∧ CW w0' K B Z.heap.size n m w2 (.slice (some ⟨g, 0, none⟩) (st.length : Nat) cap) st (envOf st) ∧ w2.heap[P]? = some (.cells #[.int .i64 p.op, .int .i64 p.n, .string p.s, .string p.t2, .slice pu pk cu] 29 (0, 0)) ∧ Below w.heap.size w w2) := by
                refine ⟨⟨hown2, HMO.out.1⟩, hs0, hC', at_other hgrow2 hX HS.out.2.2.1, HNU.out.2.trans ⟨hgrow2.os, hgrow2.tape, hgrow2.output, hgrow2.size, fun g' hg' => hgrow2.block g' (by have := HNU.out.2.size; omega) (by intro e; injection e with e; have := HM.out.2.2.2.2.1; omega)⟩⟩
              go_meet
              obtain ⟨e1, e2, e3, e4, e5⟩ := HQ.out
              refine ⟨_, nn + 1, w0', e1, by have := HGK.out; omega, by rw [e2]; exact HS.out.1, by rw [e2]; exact HS.out.2.1, e3, e4, e5, fun h => absurd h HCN.out, fun h => ?_⟩
              have := HMO.out.2
              omega
          · have HB2 : Hid (Calls Tryd.prog 30 #[.map (some B), .string p.s] wr fun e w' => ∃ z : Nat, e = .returned (.int .i64 z) ∧ wr = w') := HBM.out.mono (fun e w' ⟨z, h1, h2, h3, h4⟩ => ⟨z.toNat, by rw [h1]; have := h3 hcnt; congr; omega, h4.symm⟩)
            have HCT : Hid ((envOf st).contains p.s.data.toList = true) := contains_count.2 hcnt
            clear HBM hcnt
            rw [hop] at c0
            go_wp2_with ((go_at_call 30; refine HB2.out.mono ?_; rintro e w1 ⟨z, rfl, rfl⟩))
            go_meet
            exact ⟨D, nn, w0, HNU.out.1, by have := HGK.out; omega, HS.out.1, HS.out.2.1, HS.out.2.2.2, HS.out.2.2.1, HNU.out.2, fun h => ⟨(HCL.out.1 h).1, (HCL.out.1 h).2.2⟩, fun h => HCL.out.2 ⟨h.1, fun _ => HCT.out, h.2⟩⟩
        · have g0 : (p.op != 2) = true := by simp [hop]
          have HOP : Hid (p.op ≠ 2) := hop
          clear hop HBM
          go_wp2_with fail
          go_meet
          exact ⟨D, nn, w0, HNU.out.1, by have := HGK.out; omega, HS.out.1, HS.out.2.1, HS.out.2.2.2, HS.out.2.2.1, HNU.out.2, fun h => ⟨(HCL.out.1 h).1, (HCL.out.1 h).2.2⟩, fun h => HCL.out.2 ⟨h.1, fun e => absurd e HOP.out, h.2⟩⟩
      case rest =>
        obtain ⟨D', nn', w0', hnum', hnn', hM', hw', hC', hP', hbel', hcl'⟩ := hcut
        have d0 : wc.cell? ⟨P, 0, none⟩ = some (.int .i64 p.op) := cell_of_row wc P 0 _ _ _ hP'
        have d1 : wc.cell? ⟨P, 1, none⟩ = some (.int .i64 p.n) := cell_of_row wc P 1 _ _ _ hP'
        have d2 : wc.cell? ⟨P, 2, none⟩ = some (.string p.s) := cell_of_row wc P 2 _ _ _ hP'
        have d3 : wc.cell? ⟨P, 3, none⟩ = some (.string p.t2) := cell_of_row wc P 3 _ _ _ hP'
        have d4 : wc.cell? ⟨P, 4, none⟩ = some (.slice pu pk cu) := cell_of_row wc P 4 _ _ _ hP'
        obtain ⟨W6, hW6⟩ : ∃ W6, W6 = wc.alloc (.cells #[.int .i64 p.op, .int .i64 p.n, .string p.s, .string p.t2, .slice pu pk cu] 29) := ⟨_, rfl⟩
        obtain ⟨Q, hQ⟩ : ∃ Q, Q = wc.heap.size := ⟨_, rfl⟩
        have b6 : Below wc.heap.size wc W6 := by rw [hW6]; exact newb wc _
        have q6 : W6.heap[Q]? = some (.cells #[.int .i64 p.op, .int .i64 p.n, .string p.s, .string p.t2, .slice pu pk cu] 29 (0, 0)) := by rw [hW6, hQ]; exact heap_alloc_new wc _
        have hC6 := hC'.below b6
        have HNX : Hid (Calls Tryd.prog 29 #[.pointer (some ⟨K, 0, none⟩)] W6 (NextIs w0' W6 K B Z.heap.size N st)) := walk_next w0' K B Z.heap.size N n m g cap W6 st hNl ⟨hC6, rfl, hn, hm, WFr.refl _ _ _ _⟩
        have HQ : Hid (Nums W6 M nn' D' ∧ nn' + goesS st ≤ N + 1 ∧ M < w0'.heap.size ∧ w.heap.size ≤ w0'.heap.size ∧ CW w0' K B Z.heap.size n m W6 (.slice (some ⟨g, 0, none⟩) (st.length : Nat) cap) st (envOf st) ∧ W6.heap[Q]? = some (.cells #[.int .i64 p.op, .int .i64 p.n, .string p.s, .string p.t2, .slice pu pk cu] 29 (0, 0)) ∧ Below w.heap.size w W6 ∧ (t.closed [] = true ↔ Maps.size D' = 0 ∧ pend st [] = true) ∧ w0'.heap.size ≤ Q) := ⟨hnum'.below b6, hnn', hM', hw', hC6, q6, hbel'.trans (b6.mono hbel'.size), hcl', by rw [hQ]; exact hC'.bel.size⟩
        have HW6 := hid_ofW hW6
        have HQQ := hid_ofW hQ
        clear hnum' hnn' hM' hw' hC' hP' hbel' hcl' hW6 hQ b6 q6 hC6 HS HNU HCL HBM c0 c2 k1
        go_upto_region 5 with fail
        rw [← HW6.out, ← HQQ.out]
        go_wp2_with fail
        refine HNX.out.mono ?_
        intro e w7 hnx
        obtain ⟨b0, b1, b2, b3, bp, bl, bc, bo2, rfl, hF⟩ := next_form hnx
        obtain ⟨z1, z2, z3, z4, z5, z6, z7, z8, z9⟩ := HQ.out
        have hq7 : w7.heap[Q]? = some (.cells #[.int .i64 p.op, .int .i64 p.n, .string p.s, .string p.t2, .slice pu pk cu] 29 (0, 0)) := hF.1.at z6 (fun e => by have := z5.blk; rw [← e, z6] at this; injection this with e1; injection e1 with _ e1; exact absurd e1 (by decide)) (fun e => by obtain ⟨D9, ⟨es, ck, h1, _⟩, _⟩ := z5.bnd; rw [← e, z6] at h1; cases h1) (by decide) (by decide)
        have f0 : ∀ j, w7.frozen? ⟨Q, j, none⟩ = false := fun j => frozen_of_row w7 Q j _ _ hq7
        have y0 : w7.cell? ⟨Q, 0, none⟩ = some (.int .i64 p.op) := cell_of_row w7 Q 0 _ _ _ hq7
        have y1 : w7.cell? ⟨Q, 1, none⟩ = some (.int .i64 p.n) := cell_of_row w7 Q 1 _ _ _ hq7
        have y2 : w7.cell? ⟨Q, 2, none⟩ = some (.string p.s) := cell_of_row w7 Q 2 _ _ _ hq7
        have y3 : w7.cell? ⟨Q, 3, none⟩ = some (.string p.t2) := cell_of_row w7 Q 3 _ _ _ hq7
        have y4 : w7.cell? ⟨Q, 4, none⟩ = some (.slice pu pk cu) := cell_of_row w7 Q 4 _ _ _ hq7
        have HF : Hid (NextF w0' W6 K B Z.heap.size N st b0 b1 b2 b3 bo2 w7 ∧ w7.heap[Q]? = some (.cells #[.int .i64 p.op, .int .i64 p.n, .string p.s, .string p.t2, .slice pu pk cu] 29 (0, 0))) := ⟨hF, hq7⟩
        clear hnx hF z1 z2 z3 z4 z5 z6 z7 z8 z9 hq7 HNX HW6 HQQ d0 d1 d2 d3 d4
        go_wp2_with fail
        generalize hG : ((((w7.setCell ⟨Q, 0, none⟩ (.int .i64 b0)).setCell ⟨Q, 1, none⟩ (.int .i64 b1)).setCell ⟨Q, 2, none⟩ (.string b2)).setCell ⟨Q, 3, none⟩ (.string b3)).setCell ⟨Q, 4, none⟩ (.slice bp bl bc) = G
        obtain ⟨f1, f2⟩ := put5 HF.out.2 G hG.symm
        obtain ⟨z1, z2, z3, z4, z5, z6, z7, z8, z9⟩ := HQ.out
        have hb7 : Below w.heap.size w G := by
          have h7 : Below w.heap.size w w7 := z7.trans (HF.out.1.1.below (by have := z5.lo.2.2; omega) (by have := z5.lo.2.1; omega) (by have := z5.lo.1; omega) z7.size)
          exact h7.trans ⟨f2.os, f2.tape, f2.output, f2.size, fun g' hg' => f2.block g' (by have := h7.size; omega) (by intro e; injection e with e; omega)⟩
        have hMK : M ≠ K := by have := z5.lo.2.2; omega
        have hMB : M ≠ B := by have := z5.lo.2.1; omega
        obtain ⟨gk2, hgk2, hFL⟩ := FL.of_next (w := w) (T := t) (wz := G) (P := Q) (M := M) (nn := nn') (D := D') HF.out.1 f1 (fun _ _ _ _ _ h => h.far f2 HF.out.2 z9) ((z1.fr HF.out.1.1 hMK hMB).kept f2 (by intro e; injection e with e; omega)) hb7 z2 z3 z4 z8
        have HFL : Hid (gk2 ≤ goesS st ∧ FL w t K B Z.heap.size N M gk2 (.pointer (some ⟨Q, 0, none⟩)) (.bool bo2) G) := ⟨hgk2, hFL⟩
        clear z1 z2 z3 z4 z5 z6 z7 z8 z9 hb7 hMK hMB hgk2 hFL f1 f2 hG
        go_roundg gk2
        case measure => have := HFL.out.1; have := HGK.out; omega
        case rel => exact HFL.out.2
end Go.Proofs.YtefjnhkaampmcaaDoor
