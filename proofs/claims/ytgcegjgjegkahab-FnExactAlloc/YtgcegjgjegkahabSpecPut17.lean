/- spec.l17Put: a block is put behind all, or there is no room. Conditions: halves are right; the head is; what is put lies in older memory. Written by wip/tools/mkspecput17.py. -/
import Derived.Test.YtgcegjgjegkahabSpecCopy17
import Derived.Test.YtgcegjgjegkahabRowW17
namespace Go.Proofs.Ytgcegjgjegkahab
open Go.ChangeShapes Go.WideShapes Go.ChangeAt Go.RowKit

theorem head17_enter (vs : Array Value) (w : World) : (callFunc 86 vs).run Try.prog w = .ok (.enter 86 vs) w := by kernel_rfl
/-- What l17Put answers. -/
def SPutRet (w0 : World) (v : Value) (ws : List Int) (half base next : Int) (f : Bool) (t : Int) (ks : List Int) (e : Ending) (w' : World) : Prop :=
  (half - (next - base) < 1 + (ks.length : Nat) ∧ e = .returned (.tuple #[heapV v ⟨ws, half, base, next⟩, .int .i64 0, .bool false]) ∧ Own w' w0.heap.size v ws ∧ Below w0.heap.size w0 w') ∨
  (¬ half - (next - base) < 1 + (ks.length : Nat) ∧ e = .returned (.tuple #[heapV v (putH ⟨ws, half, base, next⟩ f t ks), .int .i64 next, .bool true]) ∧ Own w' w0.heap.size v (putH ⟨ws, half, base, next⟩ f t ks).ws ∧ Below w0.heap.size w0 w')

set_option maxRecDepth 100000 in
set_option maxHeartbeats 8000000 in
theorem spec_put17 (half base next : Int) (ws : List Int) (f : Bool) (t : Int) (ks : List Int) (u : Value) (g cap : Nat) (w0 w : World) (hb0 : Below w0.heap.size w0 w)
    (hO : Own w w0.heap.size (.slice (some ⟨g, 0, none⟩) ws.length cap) ws) (hu : Rd w0 u ks) (ht0 : 0 ≤ t) (ht1 : t ≤ 3000) (hk : ks.length ≤ 20) (hh0 : 1 ≤ half) (hh1 : half ≤ 3000) (hbs0 : 0 ≤ base) (hbs1 : base ≤ half) (hn0 : base ≤ next) (hn1 : next ≤ base + half) (hl : (ws.length : Int) = 2 * half) :
    Calls Try.prog 63 #[heapV (.slice (some ⟨g, 0, none⟩) ws.length cap) ⟨ws, half, base, next⟩, .bool f, .int .i64 t, u] w (SPutRet w0 (.slice (some ⟨g, 0, none⟩) ws.length cap) ws half base next f t ks) := by
  obtain ⟨hg0, hwr⟩ := wr_of_own hO
  have HG0 := hid17 hg0
  have HWW := hid17 hwr
  have HGW := hid17 hwr.lt
  have HB0 := hid17 hb0
  have HHD : Hid (∀ wq, Calls Try.prog 86 #[.bool f, .int .i64 t, .int .i64 (ks.length : Nat)] wq fun e w' => e = .returned (.int .i64 (hdW f t (ks.length : Nat))) ∧ w' = wq) := fun wq => spec_head17 f t (ks.length : Nat) wq ht0 ht1 (by omega) (by omega)
  obtain ⟨pu, cu, rfl, hcu⟩ := hu.shape
  have HCU := hid17 hcu
  clear hcu hu hO hb0 hg0 hwr ht0 ht1
  obtain ⟨pl, rfl⟩ : ∃ pl : Nat, next = (pl : Int) := ⟨next.toNat, by omega⟩
  obtain ⟨POST, hPO⟩ : ∃ P, P = SPutRet w0 (.slice (some ⟨g, 0, none⟩) ws.length cap) ws half base pl f t ks := ⟨_, rfl⟩
  rw [← hPO]
  have HP := hid17 hPO
  clear hPO
  obtain ⟨A, hA⟩ : ∃ A, A = (w.alloc (hpO (.slice (some ⟨g, 0, none⟩) ws.length cap) ⟨ws, half, base, pl⟩)).alloc (.cells #[.slice none 0 0, .int .i64 0, .int .i64 0, .int .i64 0] 27) := ⟨_, rfl⟩
  have HA : Hid (Below w.heap.size w A ∧ A.heap.size = w.heap.size + 2 ∧ BoxAt A w.heap.size (.slice (some ⟨g, 0, none⟩) ws.length cap) ⟨ws, half, base, pl⟩ ∧ A.heap[w.heap.size + 1]? = some (.cells #[.slice none 0 0, .int .i64 0, .int .i64 0, .int .i64 0] 27 (0, 0))) := by
    show _ ∧ _ ∧ _ ∧ _
    rw [hA]
    refine ⟨((Below.refl _ _).alloc (Nat.le_refl _) _).alloc (by simp) _, by simp, (Below.heap_alloc _ _ _ (by simp)).trans (heap_alloc_last _ _), ?_⟩
    have := heap_alloc_last (w.alloc (hpO (.slice (some ⟨g, 0, none⟩) ws.length cap) ⟨ws, half, base, pl⟩)) (.cells #[.slice none 0 0, .int .i64 0, .int .i64 0, .int .i64 0] 27)
    simpa using this
  have HX := hid17 HA.out.2.2.1
  have HY := hid17 HA.out.2.2.2
  have HAZ := hid17 HA.out.2.1
  have HNA : Hid (w.heap.size < A.heap.size) := by have := HA.out.2.1; show _ < _; omega
  have HNB : Hid (w.heap.size + 1 < A.heap.size) := by have := HA.out.2.1; show _ < _; omega
  have HNG : Hid (w.heap.size ≠ g) := by have := HGW.out; show _ ≠ _; omega
  have HNG1 : Hid (w.heap.size + 1 ≠ g) := by have := HGW.out; show _ ≠ _; omega
  have HWA : Hid (WR A g cap ws) := HWW.out.stay (HA.out.1.block g HGW.out)
  have HBA : Hid (Below w0.heap.size w0 A) := HB0.out.trans (HA.out.1.mono HB0.out.size)
  have HZ0 : Hid (w0.heap.size ≤ w.heap.size) := HB0.out.size
  have HKK := hid17 hk
  go_enter Try.func63, Try.ntmps63
  go_upto_region 1 with fail
  rw [← hA]
  clear hA
  obtain ⟨c0, c1, c2, c3⟩ := HX.out.cells
  by_cases hr : half - ((pl : Int) - base) < 1 + (ks.length : Nat)
  case pos =>
    have hd : base + half - (pl : Int) ≤ (ks.length : Nat) := by omega
    have r1 := HY.out
    have b0 := cell_of_row A _ 0 _ _ _ r1
    have g0 := frozen_of_row A _ 0 _ _ r1
    have b1 := cell_of_row A _ 1 _ _ _ r1
    have g1 := frozen_of_row A _ 1 _ _ r1
    have b2 := cell_of_row A _ 2 _ _ _ r1
    have g2 := frozen_of_row A _ 2 _ _ r1
    have b3 := cell_of_row A _ 3 _ _ _ r1
    have g3 := frozen_of_row A _ 3 _ _ r1
    clear r1
    go_wp2_with fail
    refine bodyPost_ret (v := .tuple #[heapV (.slice (some ⟨g, 0, none⟩) ws.length cap) ⟨ws, half, base, pl⟩, .int .i64 0, .bool false]) (by rw [results_cell_tmp2H (p := 8) (q := 9) (r := 10) (ty := 27) (by kernel_rfl)]; simp [go_sem, b0, b1, b2, b3]) rfl ?_
    rw [HP.out]
    have h1 : w0.heap.size ≤ w.heap.size + 1 := by have := HZ0.out; omega
    refine .inl ⟨hr, rfl, ?_, ((((HBA.out.setCell h1 _).setCell h1 _).setCell h1 _).setCell h1 _)⟩
    have hne : (Value.slice (some ⟨g, 0, none⟩) ws.length cap).ownBlock ≠ some (w.heap.size + 1) := fun hh => by injection hh with hh; exact HNG1.out hh.symm
    exact ownsRow_setCell_other (ownsRow_setCell_other (ownsRow_setCell_other (ownsRow_setCell_other (HWA.out.own HG0.out) hne _) hne _) hne _) hne _
  have hd : ¬ base + half - (pl : Int) ≤ (ks.length : Nat) := by omega
  have hpw : pl < ws.length := by omega
  have HPW := hid17 hpw
  have hfit : pl + 1 + ks.length ≤ ws.length := by omega
  have HFIT := hid17 hfit
  have HRR : Hid (¬ half - ((pl : Int) - base) < 1 + (ks.length : Nat)) := hr
  have HL6 : Hid (ws.length ≤ 6000) := by show _ ≤ _; omega
  clear hl
  go_upto_region 4 with fail
  clear c0 c1 c2 c3
  refine wp_region_held_drew (S := fun wq => ∀ j, j < A.heap.size → j ≠ g → wq.heap[j]? = A.heap[j]?) (by kernel_rfl) (show (fun wq => ∀ j, j < A.heap.size → j ≠ g → wq.heap[j]? = A.heap[j]?) A.drew from fun _ _ _ => rfl) (fun HS0 => ?_)
  refine wpAnyH_take (i := 0) (oi := { dst := some 27, op := Op.fieldAddr 27 (Operand.tmp 4) 0, type := 0, pos := "l17_heap.go:106", after := #[], guard := none }) (v := (.pointer (some ⟨w.heap.size, 0, none⟩))) rfl (by kernel_rfl) (by kernel_rfl) (by kernel_rfl) (fun _ _ _ h => h) (Or.inl ⟨by rfl, ?_⟩) HS0 ?_
  · intro wq hSq
    clear hSq
    go_simp
  try simp only [Act.put, List.setIfInBounds_toArray, List.set_cons_zero, List.set_cons_succ]
  refine wpAnyH_take (i := 1) (oi := { dst := some 28, op := Op.load 22 (Operand.tmp 27), type := 22, pos := "l17_heap.go:106", after := #[{ on := 0, ground := Ground.data }], guard := none }) (v := (.slice (some ⟨g, 0, none⟩) ws.length cap)) rfl (by kernel_rfl) (by kernel_rfl) (by kernel_rfl) (fun _ _ _ h => h) (Or.inl ⟨by rfl, ?_⟩) HS0 ?_
  · intro wq hSq
    obtain ⟨c0, c1, c2, c3⟩ := BoxAt.cells (w := wq) ((hSq _ HNA.out HNG.out).trans HX.out)
    clear hSq
    go_simp
  try simp only [Act.put, List.setIfInBounds_toArray, List.set_cons_zero, List.set_cons_succ]
  refine wpAnyH_take (i := 2) (oi := { dst := some 29, op := Op.move (Operand.tmp 11), type := 3, pos := "l17_heap.go:106", after := #[], guard := none }) (v := (.int .i64 (pl : Nat))) rfl (by kernel_rfl) (by kernel_rfl) (by kernel_rfl) (fun _ _ _ h => h) (Or.inl ⟨by rfl, ?_⟩) HS0 ?_
  · intro wq hSq
    clear hSq
    go_simp
  try simp only [Act.put, List.setIfInBounds_toArray, List.set_cons_zero, List.set_cons_succ]
  refine wpAnyH_take (i := 3) (oi := { dst := some 30, op := Op.move (Operand.tmp 1), type := 4, pos := "l17_heap.go:106", after := #[], guard := none }) (v := (.bool f)) rfl (by kernel_rfl) (by kernel_rfl) (by kernel_rfl) (fun _ _ _ h => h) (Or.inl ⟨by rfl, ?_⟩) HS0 ?_
  · intro wq hSq
    clear hSq
    go_simp
  try simp only [Act.put, List.setIfInBounds_toArray, List.set_cons_zero, List.set_cons_succ]
  refine wpAnyH_take (i := 4) (oi := { dst := some 31, op := Op.move (Operand.tmp 2), type := 3, pos := "l17_heap.go:106", after := #[], guard := none }) (v := (.int .i64 t)) rfl (by kernel_rfl) (by kernel_rfl) (by kernel_rfl) (fun _ _ _ h => h) (Or.inl ⟨by rfl, ?_⟩) HS0 ?_
  · intro wq hSq
    clear hSq
    go_simp
  try simp only [Act.put, List.setIfInBounds_toArray, List.set_cons_zero, List.set_cons_succ]
  refine wpAnyH_take (i := 5) (oi := { dst := some 32, op := Op.move (Operand.tmp 3), type := 22, pos := "l17_heap.go:106", after := #[], guard := none }) (v := (.slice pu ks.length cu)) rfl (by kernel_rfl) (by kernel_rfl) (by kernel_rfl) (fun _ _ _ h => h) (Or.inl ⟨by rfl, ?_⟩) HS0 ?_
  · intro wq hSq
    clear hSq
    go_simp
  try simp only [Act.put, List.setIfInBounds_toArray, List.set_cons_zero, List.set_cons_succ]
  refine wpAnyH_take (i := 6) (oi := { dst := some 33, op := Op.call { callee := Callee.builtin Builtin.len, args := #[Operand.tmp 32], argTypes := #[22] }, type := 3, pos := "l17_heap.go:106", after := #[{ on := 5, ground := Ground.data }], guard := none }) (v := (.int .i64 (ks.length : Nat))) rfl (by kernel_rfl) (by kernel_rfl) (by kernel_rfl) (fun _ _ _ h => h) (Or.inl ⟨by rfl, ?_⟩) HS0 ?_
  · intro wq hSq
    clear hSq
    go_simp
  try simp only [Act.put, List.setIfInBounds_toArray, List.set_cons_zero, List.set_cons_succ]
  refine wpAnyH_ready (rs := [7]) (by kernel_rfl) (by simp) ?_
  refine AllReadyH.cons (o := { dst := some 34, op := Op.call { callee := Callee.value (Operand.func 86), args := #[Operand.tmp 30, Operand.tmp 31, Operand.tmp 33], argTypes := #[4, 3, 3] }, type := 3, pos := "l17_heap.go:106", after := #[{ on := 3, ground := Ground.data }, { on := 4, ground := Ground.data }, { on := 6, ground := Ground.data }], guard := none }) rfl (fun KK hK => ?ra1) AllReadyH.nil
  refine step_call17 rfl 86 _ _ _ _ _ _ rfl head17_enter (.bool f) (.int .i64 t) (.int .i64 (ks.length : Nat)) rfl rfl rfl _ (HHD.out A.drew) ?_
  rintro e w6 ⟨rfl, hw6⟩
  subst w6
  refine ⟨_, rfl, ?_⟩
  refine hK.out _ _ HS0 (fun _ => ?_)
  clear hK KK
  try simp only [Act.put, List.setIfInBounds_toArray, List.set_cons_zero, List.set_cons_succ]
  refine wpAnyH_take (i := 8) (oi := { dst := some 35, op := Op.indexAddr 22 (Operand.tmp 28) (Operand.tmp 29), type := 0, pos := "l17_heap.go:106", after := #[{ on := 1, ground := Ground.data }, { on := 2, ground := Ground.data }, { on := 0, ground := Ground.phase }, { on := 1, ground := Ground.phase }, { on := 2, ground := Ground.phase }, { on := 3, ground := Ground.phase }, { on := 4, ground := Ground.phase }, { on := 5, ground := Ground.phase }, { on := 6, ground := Ground.phase }, { on := 7, ground := Ground.phase }], guard := none }) (v := (.pointer (some ⟨g, pl, none⟩))) rfl (by kernel_rfl) (by kernel_rfl) (by kernel_rfl) (fun _ _ _ h => h) (Or.inl ⟨by rfl, ?_⟩) HS0 ?_
  · intro wq hSq
    clear hSq
    go_simp
  try simp only [Act.put, List.setIfInBounds_toArray, List.set_cons_zero, List.set_cons_succ]
  refine wpAnyH_ready (rs := [9]) (by kernel_rfl) (by simp) ?_
  refine AllReadyH.cons (o := { dst := none, op := Op.store 3 (Operand.tmp 35) (Operand.tmp 34), type := 0, pos := "l17_heap.go:106", after := #[{ on := 8, ground := Ground.data }, { on := 7, ground := Ground.data }, { on := 7, ground := Ground.chain }, { on := 0, ground := Ground.phase }, { on := 1, ground := Ground.phase }, { on := 2, ground := Ground.phase }, { on := 3, ground := Ground.phase }, { on := 4, ground := Ground.phase }, { on := 5, ground := Ground.phase }, { on := 6, ground := Ground.phase }, { on := 7, ground := Ground.phase }], guard := none }) rfl (fun KK hK => ?ra2) AllReadyH.nil
  obtain ⟨⟨xg, hcg⟩, hfg⟩ := WR.cell HWA.out pl HPW.out
  go_simp
  have hs9 : (fun wq => ∀ j, j < A.heap.size → j ≠ g → wq.heap[j]? = A.heap[j]?) (A.setCell ⟨g, pl, none⟩ (.int .i64 (hdW f t (ks.length : Nat)))).drew := fun j hj hne => heap_setCell_other A ⟨g, pl, none⟩ j _ hne
  refine hK.out _ _ hs9 (fun _ => ?_)
  clear hK KK
  try simp only [Act.put, List.setIfInBounds_toArray, List.set_cons_zero, List.set_cons_succ]
  refine wpAnyH_done (by kernel_rfl) ?_ _
  clear hs9 HS0 hcg hfg
  obtain ⟨B1, hB1⟩ : ∃ B1, B1 = (A.setCell ⟨g, pl, none⟩ (.int .i64 (hdW f t (ks.length : Nat)))).drew := ⟨_, rfl⟩
  have HB1 : Hid (WR B1 g cap (putW ws pl (hdW f t (ks.length : Nat)) (ks.take 0)) ∧ (∀ j, j < A.heap.size → j ≠ g → B1.heap[j]? = A.heap[j]?) ∧ B1.heap.size = A.heap.size ∧ Below w0.heap.size w0 B1) := by
    show _ ∧ _ ∧ _ ∧ _
    rw [hB1, putW_nil]
    exact ⟨(HWA.out.set pl _).stay rfl, fun j hj hne => heap_setCell_other A ⟨g, pl, none⟩ j _ hne, by simp, (HBA.out.setCell HG0.out _).drew⟩
  rw [← hB1]
  clear hB1
  go_wp2_with fail
  go_loopw [12] (fun i wr => ∃ k : Nat, i = .int .i64 k ∧ k ≤ ks.length ∧ WR wr g cap (putW ws pl (hdW f t (ks.length : Nat)) (ks.take k)) ∧ (∀ j, j < A.heap.size → j ≠ g → wr.heap[j]? = A.heap[j]?) ∧ wr.heap.size = A.heap.size ∧ Below w0.heap.size w0 wr) (fun i _ => ks.length - (intOf i).toNat)
  case atStart =>
    exact ⟨0, rfl, by omega, HB1.out⟩
  case round =>
    obtain ⟨k, rfl, hkn, hwr, hkeep, hsz, hbel⟩ := hrel
    have HWR := hid17 hwr
    have HKP := hid17 hkeep
    have HSZ := hid17 hsz
    have HBE := hid17 hbel
    have HXR : Hid (BoxAt wr w.heap.size (.slice (some ⟨g, 0, none⟩) ws.length cap) ⟨ws, half, base, pl⟩) := (hkeep _ HNA.out HNG.out).trans HX.out
    have HYR := hid17 ((hkeep _ HNB.out HNG1.out).trans HY.out)
    have HNR : Hid (w.heap.size < wr.heap.size) := by have := HNA.out; show _ < _; omega
    clear hwr hkeep hsz hbel
    by_cases hlt : (k : Int) < (ks.length : Nat)
    case neg =>
      have hkk : k = ks.length := by omega
      subst k
      have r1 := HYR.out
      have b0 := cell_of_row wr _ 0 _ _ _ r1
      have g0 := frozen_of_row wr _ 0 _ _ r1
      have b1 := cell_of_row wr _ 1 _ _ _ r1
      have g1 := frozen_of_row wr _ 1 _ _ r1
      have b2 := cell_of_row wr _ 2 _ _ _ r1
      have g2 := frozen_of_row wr _ 2 _ _ r1
      have b3 := cell_of_row wr _ 3 _ _ _ r1
      have g3 := frozen_of_row wr _ 3 _ _ r1
      clear r1
      obtain ⟨c0, c1, c2, c3⟩ := HXR.out.cells
      have f3 := frozen_of_row wr _ 3 _ _ HXR.out
      go_wp2_with fail
      refine bodyPost_ret (v := .tuple #[heapV (.slice (some ⟨g, 0, none⟩) ws.length cap) ⟨ws, half, base, (pl : Int) + (1 + (ks.length : Nat))⟩, .int .i64 (pl : Nat), .bool true]) (by rw [results_cell_tmp2H (p := 8) (q := 9) (r := 10) (ty := 27) (by kernel_rfl)]; simp [go_sem, b0, b1, b2, b3]; try omega) rfl ?_
      rw [HP.out]
      have h0 : w0.heap.size ≤ w.heap.size := HZ0.out
      have h1 : w0.heap.size ≤ w.heap.size + 1 := by have := HZ0.out; omega
      refine .inr ⟨by have := HRR.out; omega, rfl, ?_, (((((HBE.out.setCell h0 _).setCell h1 _).setCell h1 _).setCell h1 _).setCell h1 _)⟩
      have hne0 : (Value.slice (some ⟨g, 0, none⟩) ws.length cap).ownBlock ≠ some w.heap.size := fun hh => by injection hh with hh; exact HNG.out hh.symm
      have hne : (Value.slice (some ⟨g, 0, none⟩) ws.length cap).ownBlock ≠ some (w.heap.size + 1) := fun hh => by injection hh with hh; exact HNG1.out hh.symm
      have hq := HWR.out
      rw [putW_all] at hq
      have hq2 := hq.own HG0.out
      rw [putW_len HFIT.out] at hq2
      exact ownsRow_setCell_other (ownsRow_setCell_other (ownsRow_setCell_other (ownsRow_setCell_other (ownsRow_setCell_other hq2 hne0 _) hne _) hne _) hne _) hne _
    have hlt' : k < ks.length := by omega
    obtain ⟨ub, uo, rfl, hcell⟩ := HCU.out k hlt'
    have HUC0 := hid17 (cell_later HBE.out hcell)
    have HUG : Hid (ub ≠ g) := by have := cell17_lt hcell; have := HG0.out; show _ ≠ _; omega
    have HUL : Hid (ub < wr.heap.size) := by have := cell17_lt HUC0.out; exact this
    clear hcell
    obtain ⟨p1, hp1⟩ : ∃ p1 : Nat, (p1 : Int) = pl + 1 := ⟨pl + 1, by omega⟩
    obtain ⟨q, hq⟩ : ∃ q : Nat, (q : Int) = p1 + k := ⟨p1 + k, by omega⟩
    have HP1 := hid17 hp1
    have HQ := hid17 hq
    have hqe : q = pl + 1 + k := by omega
    have HQE := hid17 hqe
    have hqw : q < ws.length := by omega
    have HQW : Hid (q < (putW ws pl (hdW f t (ks.length : Nat)) (ks.take k)).length) := by show _ < _; rw [putW_take_len ws pl _ ks k hkn hfit]; exact hqw
    have HNEXT : Hid (WR (wr.setCell ⟨g, q, none⟩ (.int .i64 (ks.getD k 0))) g cap (putW ws pl (hdW f t (ks.length : Nat)) (ks.take (k + 1)))) := by
      have h9 := HWR.out.set q (ks.getD k 0)
      rw [hqe, putW_step ws pl _ ks k hlt' hfit] at h9
      rw [hqe]; exact h9
    clear hp1 hq hqe
    generalize hx : ks.getD k 0 = x at HUC0 HNEXT
    have HUC : Hid (wr.cell? ⟨ub, uo + k, none⟩ = some (.int .i64 x)) := HUC0.out
    clear hx HUC0
    go_upto_region 8 with fail
    refine wp_region_held_drew (S := fun wq => ∀ j, j < wr.heap.size → j ≠ g → wq.heap[j]? = wr.heap[j]?) (by kernel_rfl) (show (fun wq => ∀ j, j < wr.heap.size → j ≠ g → wq.heap[j]? = wr.heap[j]?) wr.drew from fun _ _ _ => rfl) (fun HS0 => ?_)
    refine wpAnyH_take (i := 0) (oi := { dst := some 42, op := Op.fieldAddr 27 (Operand.tmp 4) 0, type := 0, pos := "l17_heap.go:108", after := #[], guard := none }) (v := (.pointer (some ⟨w.heap.size, 0, none⟩))) rfl (by kernel_rfl) (by kernel_rfl) (by kernel_rfl) (fun _ _ _ h => h) (Or.inl ⟨by rfl, ?_⟩) HS0 ?_
    · intro wq hSq
      clear hSq
      go_simp
    try simp only [Act.put, List.setIfInBounds_toArray, List.set_cons_zero, List.set_cons_succ]
    refine wpAnyH_take (i := 1) (oi := { dst := some 43, op := Op.load 22 (Operand.tmp 42), type := 22, pos := "l17_heap.go:108", after := #[{ on := 0, ground := Ground.data }], guard := none }) (v := (.slice (some ⟨g, 0, none⟩) ws.length cap)) rfl (by kernel_rfl) (by kernel_rfl) (by kernel_rfl) (fun _ _ _ h => h) (Or.inl ⟨by rfl, ?_⟩) HS0 ?_
    · intro wq hSq
      obtain ⟨c0, c1, c2, c3⟩ := BoxAt.cells (w := wq) ((hSq _ HNR.out HNG.out).trans HXR.out)
      clear hSq
      go_simp
    try simp only [Act.put, List.setIfInBounds_toArray, List.set_cons_zero, List.set_cons_succ]
    refine wpAnyH_take (i := 2) (oi := { dst := some 44, op := Op.move (Operand.tmp 11), type := 3, pos := "l17_heap.go:108", after := #[], guard := none }) (v := (.int .i64 (pl : Nat))) rfl (by kernel_rfl) (by kernel_rfl) (by kernel_rfl) (fun _ _ _ h => h) (Or.inl ⟨by rfl, ?_⟩) HS0 ?_
    · intro wq hSq
      clear hSq
      go_simp
    try simp only [Act.put, List.setIfInBounds_toArray, List.set_cons_zero, List.set_cons_succ]
    refine wpAnyH_take (i := 3) (oi := { dst := some 45, op := Op.binOp BinOp.add 3 (Operand.tmp 44) (Operand.const (Value.int IntKind.i64 1)) 3, type := 3, pos := "l17_heap.go:108", after := #[{ on := 2, ground := Ground.data }], guard := none }) (v := (.int .i64 (p1 : Nat))) rfl (by kernel_rfl) (by kernel_rfl) (by kernel_rfl) (fun _ _ _ h => h) (Or.inl ⟨by rfl, ?_⟩) HS0 ?_
    · intro wq hSq
      clear hSq
      go_simp; rw [IntKind.wrap_i64]; have := HP1.out; have := HL6.out; omega
    try simp only [Act.put, List.setIfInBounds_toArray, List.set_cons_zero, List.set_cons_succ]
    refine wpAnyH_take (i := 4) (oi := { dst := some 46, op := Op.move (Operand.tmp 12), type := 3, pos := "l17_heap.go:108", after := #[], guard := none }) (v := (.int .i64 (k : Nat))) rfl (by kernel_rfl) (by kernel_rfl) (by kernel_rfl) (fun _ _ _ h => h) (Or.inl ⟨by rfl, ?_⟩) HS0 ?_
    · intro wq hSq
      clear hSq
      go_simp
    try simp only [Act.put, List.setIfInBounds_toArray, List.set_cons_zero, List.set_cons_succ]
    refine wpAnyH_take (i := 5) (oi := { dst := some 47, op := Op.binOp BinOp.add 3 (Operand.tmp 45) (Operand.tmp 46) 3, type := 3, pos := "l17_heap.go:108", after := #[{ on := 3, ground := Ground.data }, { on := 4, ground := Ground.data }], guard := none }) (v := (.int .i64 (q : Nat))) rfl (by kernel_rfl) (by kernel_rfl) (by kernel_rfl) (fun _ _ _ h => h) (Or.inl ⟨by rfl, ?_⟩) HS0 ?_
    · intro wq hSq
      clear hSq
      go_simp; rw [IntKind.wrap_i64]; have := HQ.out; have := HL6.out; omega
    try simp only [Act.put, List.setIfInBounds_toArray, List.set_cons_zero, List.set_cons_succ]
    refine wpAnyH_take (i := 6) (oi := { dst := some 48, op := Op.move (Operand.tmp 3), type := 22, pos := "l17_heap.go:108", after := #[], guard := none }) (v := (.slice (some ⟨ub, uo, none⟩) ks.length cu)) rfl (by kernel_rfl) (by kernel_rfl) (by kernel_rfl) (fun _ _ _ h => h) (Or.inl ⟨by rfl, ?_⟩) HS0 ?_
    · intro wq hSq
      clear hSq
      go_simp
    try simp only [Act.put, List.setIfInBounds_toArray, List.set_cons_zero, List.set_cons_succ]
    refine wpAnyH_take (i := 7) (oi := { dst := some 49, op := Op.move (Operand.tmp 12), type := 3, pos := "l17_heap.go:108", after := #[], guard := none }) (v := (.int .i64 (k : Nat))) rfl (by kernel_rfl) (by kernel_rfl) (by kernel_rfl) (fun _ _ _ h => h) (Or.inl ⟨by rfl, ?_⟩) HS0 ?_
    · intro wq hSq
      clear hSq
      go_simp
    try simp only [Act.put, List.setIfInBounds_toArray, List.set_cons_zero, List.set_cons_succ]
    refine wpAnyH_take (i := 8) (oi := { dst := some 50, op := Op.indexAddr 22 (Operand.tmp 48) (Operand.tmp 49), type := 0, pos := "l17_heap.go:108", after := #[{ on := 6, ground := Ground.data }, { on := 7, ground := Ground.data }], guard := none }) (v := (.pointer (some ⟨ub, uo + k, none⟩))) rfl (by kernel_rfl) (by kernel_rfl) (by kernel_rfl) (fun _ _ _ h => h) (Or.inl ⟨by rfl, ?_⟩) HS0 ?_
    · intro wq hSq
      clear hSq
      go_simp
    try simp only [Act.put, List.setIfInBounds_toArray, List.set_cons_zero, List.set_cons_succ]
    refine wpAnyH_take (i := 9) (oi := { dst := some 51, op := Op.load 3 (Operand.tmp 50), type := 3, pos := "l17_heap.go:108", after := #[{ on := 8, ground := Ground.data }], guard := none }) (v := (.int .i64 x)) rfl (by kernel_rfl) (by kernel_rfl) (by kernel_rfl) (fun _ _ _ h => h) (Or.inl ⟨by rfl, ?_⟩) HS0 ?_
    · intro wq hSq
      have c9 := (World.cell?_of_block (a := ⟨ub, uo + k, none⟩) (hSq ub HUL.out HUG.out)).trans HUC.out
      clear hSq
      go_simp
    try simp only [Act.put, List.setIfInBounds_toArray, List.set_cons_zero, List.set_cons_succ]
    refine wpAnyH_take (i := 10) (oi := { dst := some 52, op := Op.indexAddr 22 (Operand.tmp 43) (Operand.tmp 47), type := 0, pos := "l17_heap.go:108", after := #[{ on := 1, ground := Ground.data }, { on := 5, ground := Ground.data }, { on := 0, ground := Ground.phase }, { on := 1, ground := Ground.phase }, { on := 2, ground := Ground.phase }, { on := 3, ground := Ground.phase }, { on := 4, ground := Ground.phase }, { on := 5, ground := Ground.phase }, { on := 6, ground := Ground.phase }, { on := 7, ground := Ground.phase }, { on := 8, ground := Ground.phase }, { on := 9, ground := Ground.phase }], guard := none }) (v := (.pointer (some ⟨g, q, none⟩))) rfl (by kernel_rfl) (by kernel_rfl) (by kernel_rfl) (fun _ _ _ h => h) (Or.inl ⟨by rfl, ?_⟩) HS0 ?_
    · intro wq hSq
      clear hSq
      go_simp
    try simp only [Act.put, List.setIfInBounds_toArray, List.set_cons_zero, List.set_cons_succ]
    refine wpAnyH_ready (rs := [11]) (by kernel_rfl) (by simp) ?_
    refine AllReadyH.cons (o := { dst := none, op := Op.store 3 (Operand.tmp 52) (Operand.tmp 51), type := 0, pos := "l17_heap.go:108", after := #[{ on := 10, ground := Ground.data }, { on := 9, ground := Ground.data }, { on := 0, ground := Ground.phase }, { on := 1, ground := Ground.phase }, { on := 2, ground := Ground.phase }, { on := 3, ground := Ground.phase }, { on := 4, ground := Ground.phase }, { on := 5, ground := Ground.phase }, { on := 6, ground := Ground.phase }, { on := 7, ground := Ground.phase }, { on := 8, ground := Ground.phase }, { on := 9, ground := Ground.phase }], guard := none }) rfl (fun KK hK => ?rb1) AllReadyH.nil
    obtain ⟨⟨xg, hcg⟩, hfg⟩ := WR.cell HWR.out q HQW.out
    go_simp
    have hs11 : (fun wq => ∀ j, j < wr.heap.size → j ≠ g → wq.heap[j]? = wr.heap[j]?) (wr.setCell ⟨g, q, none⟩ (.int .i64 x)).drew := fun j hj hne => heap_setCell_other wr ⟨g, q, none⟩ j _ hne
    refine hK.out _ _ hs11 (fun _ => ?_)
    clear hK KK
    try simp only [Act.put, List.setIfInBounds_toArray, List.set_cons_zero, List.set_cons_succ]
    refine wpAnyH_done (by kernel_rfl) ?_ _
    clear hs11 HS0 hcg hfg
    go_wp2_with fail
    go_roundw
    case rel =>
      refine ⟨k + 1, by go_num, by omega, HNEXT.out.stay rfl, fun j hj hne => (heap_setCell_other wr ⟨g, q, none⟩ j _ hne).trans (HKP.out j hj hne), ?_, (HBE.out.setCell HG0.out _).drew⟩
      have := HSZ.out; simpa using this
    case measure => simp [intOf]; omega
end Go.Proofs.Ytgcegjgjegkahab
