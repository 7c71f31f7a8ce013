/- impl.depthsOf at a right function of a list. Conditions: the function is right; the table of names reads as its text lays it. Written by wip/tools/mkdof15.py over ImplDepthsOf15.src. -/
import Derived.Test.YtkbbfgfmlilfbaaDoorImplGoOn15
import Derived.Test.YtkbbfgfmlilfbaaDoorImplRepeat15
import Derived.Test.YtkbbfgfmlilfbaaDoorSpecDepths15
namespace Go.Proofs.YtkbbfgfmlilfbaaDoor
open Go.ChangeShapes Go.WideShapes Go.ChangeAt Go.RowKit

/-- What is told. -/
def DPost (f : Fu) (w : World) (e : Ending) (w' : World) : Prop :=
  ∃ u b D, e = .returned (.tuple #[u, .bool b]) ∧ Below w.heap.size w w' ∧ w'.ownsRow w.heap.size 3 1 u D.length (D.map (Value.int .i64)) ∧ ((b = true ∧ DepOk f ∧ DepL f D) ∨ (b = false ∧ ¬ DepOk f ∧ D = []))
theorem repeat_enter (vs : Array Value) (w : World) : (callFunc 44 vs).run Tryd.prog w = .ok (.enter 44 vs) w := by kernel_rfl
theorem box_late {w w1 w3 : World} {vl v : Value} {m : Nat} (hb : Below w.heap.size w w3) (h1 : w.heap.size ≤ w1.heap.size) (ho : w3.ownsRow w1.heap.size 3 1 v m ((List.replicate m (-1)).map (Value.int .i64))) :
    DSt w.heap.size w3.heap.size vl v (.slice none 0 0) (List.replicate m (-1)) [] (w3.alloc (.cells #[vl, v, .slice none 0 0] 75)) ∧ Below w.heap.size w (w3.alloc (.cells #[vl, v, .slice none 0 0] 75)) := by
  refine ⟨⟨heap_alloc_new w3 _, ?_, ⟨rfl, .inl ⟨rfl, rfl⟩⟩, fun e => ?_, (by intro e; cases e), (by intro g _ e; cases e), hb.size⟩, hb.trans ((newb w3 _).mono hb.size)⟩
  · rw [List.length_replicate]
    exact own_baseV (own_belowV ho (newb w3 _)) h1
  · have := (own_betweenV ho e).2
    omega
theorem box_early {w w1 w3 : World} {vl v : Value} {m Q : Nat} (hb : Below w.heap.size w w3) (hQ : w.heap.size ≤ Q) (ho : w3.ownsRow w1.heap.size 3 1 v m ((List.replicate m (-1)).map (Value.int .i64))) {a b c : Value} (hq : w3.heap[Q]? = some (.cells #[a, b, c] 75 (0, 0))) (hQ1 : Q < w1.heap.size) :
    DSt w.heap.size Q vl v (.slice none 0 0) (List.replicate m (-1)) [] (((w3.setCell ⟨Q, 0, none⟩ vl).setCell ⟨Q, 1, none⟩ v).setCell ⟨Q, 2, none⟩ (.slice none 0 0)) ∧ Below w.heap.size w (((w3.setCell ⟨Q, 0, none⟩ vl).setCell ⟨Q, 1, none⟩ v).setCell ⟨Q, 2, none⟩ (.slice none 0 0)) := by
  have h1 := heap_setCell_same w3 Q 0 _ _ vl hq
  have h2 := heap_setCell_same _ Q 1 _ _ v h1
  have h3 := heap_setCell_same _ Q 2 _ _ (.slice none 0 0) h2
  have hv : v.ownBlock ≠ some Q := fun e => by have := (own_betweenV ho e).1; omega
  refine ⟨⟨by simpa using h3, ?_, ⟨rfl, .inl ⟨rfl, rfl⟩⟩, hv, (by intro e; cases e), (by intro g _ e; cases e), hQ⟩, ((hb.setCell (p := ⟨Q, 0, none⟩) hQ _).setCell (p := ⟨Q, 1, none⟩) hQ _).setCell (p := ⟨Q, 2, none⟩) hQ _⟩
  rw [List.length_replicate]
  refine own_baseV (own_keepV ho (fun g e => ?_)) (by omega)
  have hg : g ≠ Q := fun e2 => hv (by rw [← e2]; exact e)
  rw [Below.heap_setCell _ ⟨Q, 2, none⟩ _ g hg, Below.heap_setCell _ ⟨Q, 1, none⟩ _ g hg, Below.heap_setCell _ ⟨Q, 0, none⟩ _ g hg]

set_option maxRecDepth 100000 in
set_option maxHeartbeats 16000000 in
theorem impl_depths_of15 (f : Fu) (fr : Int) (w : World) (vl : Value) (hv : Ol w f.len f.op vl) (htab : NameTab w) (hl1 : 1 ≤ f.len) (hl2 : f.len ≤ 3000) (hops : ∀ k, k < f.len → (0 ≤ takesO (f.op k) ∧ takesO (f.op k) ≤ 20) ∧ ∀ s ∈ succO (f.op k) k, 0 ≤ s ∧ s < f.len) :
    Calls Tryd.prog 29 #[.agg #[.int .i64 fr, vl]] w (DPost f w) := by
  obtain ⟨POST, hPO⟩ : ∃ POST, POST = DPost f w := ⟨_, rfl⟩
  rw [← hPO]
  obtain ⟨p, cap, ev, hlm, -⟩ := hv.at
  obtain ⟨W, hW⟩ : ∃ W, W = w.alloc (.cells #[.int .i64 fr, vl] 54) := ⟨_, rfl⟩
  obtain ⟨K, hK⟩ : ∃ K, K = w.heap.size := ⟨_, rfl⟩
  have bW : Below w.heap.size w W := by rw [hW]; exact newb w _
  have hbx : W.heap[K]? = some (.cells #[.int .i64 fr, vl] 54 (0, 0)) := by rw [hW, hK]; exact heap_alloc_new w _
  have k0 : W.cell? ⟨K, 1, none⟩ = some vl := cell_of_row W _ 1 _ _ _ hbx
  have HB : Hid (Below w.heap.size w W) := bW
  have HWW : Hid (W = w.alloc (.cells #[.int .i64 fr, vl] 54) ∧ K = w.heap.size) := ⟨hW, hK⟩
  have HTB : Hid (∀ w1, Below w.heap.size w w1 → NameTab w1) := fun w1 h => htab.below h
  have HV : Hid (Ol w f.len f.op vl) := hv
  rw [ev] at k0
  have HC : Hid (∀ wq, Below W.heap.size W wq → wq.cell? ⟨K, 1, none⟩ = some (.slice p f.len cap)) := fun wq h => keeps h _ _ k0
  have HOPS : Hid (∀ k, k < f.len → (0 ≤ takesO (f.op k) ∧ takesO (f.op k) ≤ 20) ∧ ∀ s ∈ succO (f.op k) k, 0 ≤ s ∧ s < f.len) := hops
  unfold maxLen at hlm
  clear hW hK bW hbx hv htab k0 hops
  subst ev
  go_enter Tryd.func29, Tryd.ntmps29
  go_upto_region 1 with fail
  rw [← HWW.out.2, ← HWW.out.1]
  go_cut [4] from 7 to 15 (fun z wx => ∃ Q vd, z = .pointer (some ⟨Q, 0, none⟩) ∧ DSt w.heap.size Q (.slice p f.len cap) vd (.slice none 0 0) (List.replicate f.len (-1)) [] wx ∧ Below w.heap.size w wx)
  case first =>
    refine wp_region_held_drew (S := fun wq => Below W.heap.size W wq) (by kernel_rfl) (Below.refl _ _).drew (fun hS0 => ?_)
    obtain ⟨Wd, hWd⟩ : ∃ Wd, Wd = W.drew := ⟨_, rfl⟩
    rw [← hWd] at hS0 ⊢
    have hsz : Wd.heap.size = W.heap.size := by rw [hWd]; rfl
    have HSZ : Hid (Wd.heap.size = W.heap.size) := hsz
    clear hWd hsz
    refine wpAnyH_take (i := 0) (oi := { dst := some 7, op := Op.fieldAddr 54 (Operand.tmp 1) 1, type := 0, pos := "l15_verify.go:120", after := #[], guard := none }) (v := (.pointer (some ⟨K, 1, none⟩))) rfl (by kernel_rfl) (by kernel_rfl) (by kernel_rfl) (fun _ _ _ h => h) (Or.inl ⟨by rfl, ?_⟩) hS0 ?_
    · intro wq hSq
      clear hSq
      go_simp
    try simp only [Act.put, List.setIfInBounds_toArray, List.set_cons_zero, List.set_cons_succ]
    refine wpAnyH_take (i := 1) (oi := { dst := some 8, op := Op.load 52 (Operand.tmp 7), type := 52, pos := "l15_verify.go:120", after := #[{ on := 0, ground := Ground.data }], guard := none }) (v := (.slice p f.len cap)) rfl (by kernel_rfl) (by kernel_rfl) (by kernel_rfl) (fun _ _ _ h => h) (Or.inl ⟨by rfl, ?_⟩) hS0 ?_
    · intro wq hSq
      have k0 := HC.out wq hSq
      clear hSq
      go_simp
    try simp only [Act.put, List.setIfInBounds_toArray, List.set_cons_zero, List.set_cons_succ]
    refine wpAnyH_take (i := 3) (oi := { dst := some 10, op := Op.fieldAddr 54 (Operand.tmp 1) 1, type := 0, pos := "l15_verify.go:120", after := #[], guard := none }) (v := (.pointer (some ⟨K, 1, none⟩))) rfl (by kernel_rfl) (by kernel_rfl) (by kernel_rfl) (fun _ _ _ h => h) (Or.inl ⟨by rfl, ?_⟩) hS0 ?_
    · intro wq hSq
      clear hSq
      go_simp
    try simp only [Act.put, List.setIfInBounds_toArray, List.set_cons_zero, List.set_cons_succ]
    refine wpAnyH_take (i := 4) (oi := { dst := some 11, op := Op.load 52 (Operand.tmp 10), type := 52, pos := "l15_verify.go:120", after := #[{ on := 3, ground := Ground.data }], guard := none }) (v := (.slice p f.len cap)) rfl (by kernel_rfl) (by kernel_rfl) (by kernel_rfl) (fun _ _ _ h => h) (Or.inl ⟨by rfl, ?_⟩) hS0 ?_
    · intro wq hSq
      have k0 := HC.out wq hSq
      clear hSq
      go_simp
    try simp only [Act.put, List.setIfInBounds_toArray, List.set_cons_zero, List.set_cons_succ]
    refine wpAnyH_take (i := 5) (oi := { dst := some 12, op := Op.call { callee := Callee.builtin Builtin.len, args := #[Operand.tmp 11], argTypes := #[52] }, type := 3, pos := "l15_verify.go:120", after := #[{ on := 4, ground := Ground.data }], guard := none }) (v := (.int .i64 f.len)) rfl (by kernel_rfl) (by kernel_rfl) (by kernel_rfl) (fun _ _ _ h => h) (Or.inl ⟨by rfl, ?_⟩) hS0 ?_
    · intro wq hSq
      clear hSq
      go_simp
    try simp only [Act.put, List.setIfInBounds_toArray, List.set_cons_zero, List.set_cons_succ]
    refine wpAnyH_ready (rs := [2, 8]) (by kernel_rfl) (by simp) ?_
    refine AllReadyH.cons (o := { dst := some 9, op := Op.buildSlice 31 1 #[(0, Operand.const (Value.int IntKind.i64 (-1)))], type := 31, pos := "l15_verify.go:120", after := #[], guard := none }) rfl (fun KK hK => ?gA) (AllReadyH.cons (o := { dst := some 4, op := Op.alloc 75, type := 0, pos := "l15_verify.go:120", after := #[], guard := none }) rfl (fun KK hK => ?gB) AllReadyH.nil)
    case' gA =>
      go_simp
      obtain ⟨Wa, hWa⟩ : ∃ Wa, Wa = Wd.alloc (.cells #[.int .i64 (-1)] 3) := ⟨_, rfl⟩
      have hSa : Below W.heap.size W Wa := by rw [hWa]; exact hS0.trans ((newb _ _).mono hS0.size)
      have hca : Wa.cell? ⟨Wd.heap.size, 0, none⟩ = some (.int .i64 (-1)) := by rw [hWa]; exact cell_of_row _ _ 0 _ _ _ (heap_alloc_new _ _)
      have HSA : Hid (Wd.heap.size < Wa.heap.size) := by show _ < _; rw [hWa]; simp
      rw [← hWa]
      have HSA2 : Hid (W.heap.size ≤ Wa.heap.size) := hSa.size
      clear hWa
      refine hK.out _ _ hSa (fun _ => ?_)
      clear hK KK
      try simp only [Act.put, List.setIfInBounds_toArray, List.set_cons_zero, List.set_cons_succ]
      refine wpAnyH_ready (rs := [6, 8]) (by kernel_rfl) (by simp) ?_
      refine AllReadyH.cons (o := { dst := some 13, op := Op.call { callee := Callee.value (Operand.func 44), args := #[Operand.tmp 9, Operand.tmp 12], argTypes := #[31, 3] }, type := 31, pos := "l15_verify.go:120", after := #[{ on := 2, ground := Ground.data }, { on := 5, ground := Ground.data }], guard := none }) rfl (fun KK hK => ?gAC) (AllReadyH.cons (o := { dst := some 4, op := Op.alloc 75, type := 0, pos := "l15_verify.go:120", after := #[], guard := none }) rfl (fun KK hK => ?gAB) AllReadyH.nil)
      case' gAC =>
        refine step_call2 rfl 44 _ _ _ _ rfl repeat_enter (.slice (some ⟨Wd.heap.size, 0, none⟩) 1 1) (.int .i64 f.len) rfl rfl _ (impl_repeat15 (-1) f.len hl1 (by omega) _ Wd.heap.size 0 hca) ?_
        rintro e w3 ⟨v, rfl, hb3, ho3⟩
        refine ⟨_, rfl, ?_⟩
        have hS3 : Below W.heap.size W w3 := hSa.trans (hb3.mono hSa.size)
        have HE := hid_of1 (box_late (vl := .slice p f.len cap) (HB.out.trans (hS3.mono HB.out.size)) (Nat.le_trans HB.out.size hSa.size) ho3)
        obtain ⟨pv, cv, epv⟩ := own_shapeV ho3
        subst epv
        refine hK.out _ _ hS3 (fun _ => ?_)
        clear hK KK
        try simp only [Act.put, List.setIfInBounds_toArray, List.set_cons_zero, List.set_cons_succ]
        refine wpAnyH_take (i := 7) (oi := { dst := some 14, op := Op.build 75 #[(0, Operand.tmp 8), (1, Operand.tmp 13)], type := 75, pos := "l15_verify.go:120", after := #[{ on := 1, ground := Ground.data }, { on := 6, ground := Ground.data }], guard := none }) (v := (.agg #[.slice p f.len cap, .slice pv f.len cv, .slice none 0 0])) rfl (by kernel_rfl) (by kernel_rfl) (by kernel_rfl) (fun _ _ _ h => h) (Or.inl ⟨by rfl, ?_⟩) hS3 ?_
        · intro wq hSq
          clear hSq
          go_simp
        try simp only [Act.put, List.setIfInBounds_toArray, List.set_cons_zero, List.set_cons_succ]
        refine wpAnyH_ready (rs := [8]) (by kernel_rfl) (by simp) ?_
        refine AllReadyH.cons (o := { dst := some 4, op := Op.alloc 75, type := 0, pos := "l15_verify.go:120", after := #[], guard := none }) rfl (fun KK hK => ?_) AllReadyH.nil
        go_simp
        refine hK.out _ _ (hS3.trans ((newb _ _).mono hS3.size)) (fun _ => ?_)
        clear hK KK
        try simp only [Act.put, List.setIfInBounds_toArray, List.set_cons_zero, List.set_cons_succ]
        refine wpAnyH_ready (rs := [9]) (by kernel_rfl) (by simp) ?_
        refine AllReadyH.cons (o := { dst := none, op := Op.store 75 (Operand.tmp 4) (Operand.tmp 14), type := 0, pos := "l15_verify.go:120", after := #[{ on := 8, ground := Ground.data }, { on := 7, ground := Ground.data }, { on := 6, ground := Ground.chain }, { on := 0, ground := Ground.phase }, { on := 1, ground := Ground.phase }, { on := 2, ground := Ground.phase }, { on := 3, ground := Ground.phase }, { on := 4, ground := Ground.phase }, { on := 5, ground := Ground.phase }, { on := 6, ground := Ground.phase }, { on := 7, ground := Ground.phase }, { on := 8, ground := Ground.phase }], guard := none }) rfl (fun KK hK => ?_) AllReadyH.nil
        go_simp
        refine hK.out _ _ (hS3.trans ((newb _ _).mono hS3.size)) (fun _ => ?_)
        clear hK KK
        try simp only [Act.put, List.setIfInBounds_toArray, List.set_cons_zero, List.set_cons_succ]
        refine wpAnyH_done (by kernel_rfl) ?_ _
        go_wp2_with fail
        go_meet
        exact ⟨_, _, rfl, HE.out.1, HE.out.2⟩
      case' gAB =>
        go_simp
        obtain ⟨Wb, hWb⟩ : ∃ Wb, Wb = Wa.alloc (.cells #[.slice none 0 0, .slice none 0 0, .slice none 0 0] 75) := ⟨_, rfl⟩
        have hSb : Below W.heap.size W Wb := by rw [hWb]; exact hSa.trans ((newb _ _).mono hSa.size)
        have hcb : Wb.cell? ⟨Wd.heap.size, 0, none⟩ = some (.int .i64 (-1)) := by rw [hWb]; exact keeps (newb _ _) _ _ hca
        have hq : Wb.heap[Wa.heap.size]? = some (.cells #[.slice none 0 0, .slice none 0 0, .slice none 0 0] 75 (0, 0)) := by rw [hWb]; exact heap_alloc_new _ _
        have hqs : Wa.heap.size < Wb.heap.size := by rw [hWb]; simp
        rw [← hWb]
        clear hWb
        refine hK.out _ _ hSb (fun _ => ?_)
        clear hK KK
        try simp only [Act.put, List.setIfInBounds_toArray, List.set_cons_zero, List.set_cons_succ]
        refine wpAnyH_ready (rs := [6]) (by kernel_rfl) (by simp) ?_
        refine AllReadyH.cons (o := { dst := some 13, op := Op.call { callee := Callee.value (Operand.func 44), args := #[Operand.tmp 9, Operand.tmp 12], argTypes := #[31, 3] }, type := 31, pos := "l15_verify.go:120", after := #[{ on := 2, ground := Ground.data }, { on := 5, ground := Ground.data }], guard := none }) rfl (fun KK hK => ?_) AllReadyH.nil
        refine step_call2 rfl 44 _ _ _ _ rfl repeat_enter (.slice (some ⟨Wd.heap.size, 0, none⟩) 1 1) (.int .i64 f.len) rfl rfl _ (impl_repeat15 (-1) f.len hl1 (by omega) _ Wd.heap.size 0 hcb) ?_
        rintro e w3 ⟨v, rfl, hb3, ho3⟩
        refine ⟨_, rfl, ?_⟩
        have hS3 : Below W.heap.size W w3 := hSb.trans (hb3.mono hSb.size)
        have hq3 : w3.heap[Wa.heap.size]? = some (.cells #[.slice none 0 0, .slice none 0 0, .slice none 0 0] 75 (0, 0)) := (hb3.block _ hqs).trans hq
        have HE := hid_of1 (box_early (vl := .slice p f.len cap) (HB.out.trans (hS3.mono HB.out.size)) (by have := HB.out.size; have := HSZ.out; have := HSA2.out; omega) ho3 hq3 hqs)
        have hQL : W.heap.size ≤ Wa.heap.size := by have := HSZ.out; have := HSA2.out; omega
        have HSE := hid_of1 (fun a b c => ((hS3.setCell (p := ⟨Wa.heap.size, 0, none⟩) hQL a).setCell (p := ⟨Wa.heap.size, 1, none⟩) hQL b).setCell (p := ⟨Wa.heap.size, 2, none⟩) hQL c)
        obtain ⟨q0, q1, q2⟩ : w3.cell? ⟨Wa.heap.size, 0, none⟩ = some (.slice none 0 0) ∧ w3.cell? ⟨Wa.heap.size, 1, none⟩ = some (.slice none 0 0) ∧ w3.cell? ⟨Wa.heap.size, 2, none⟩ = some (.slice none 0 0) := ⟨cell_of_row _ _ 0 _ _ _ hq3, cell_of_row _ _ 1 _ _ _ hq3, cell_of_row _ _ 2 _ _ _ hq3⟩
        have qf : ∀ j, w3.frozen? ⟨Wa.heap.size, j, none⟩ = false := fun j => frozen_of_row _ _ j _ _ hq3
        obtain ⟨pv, cv, epv⟩ := own_shapeV ho3
        subst epv
        refine hK.out _ _ hS3 (fun _ => ?_)
        clear hK KK
        try simp only [Act.put, List.setIfInBounds_toArray, List.set_cons_zero, List.set_cons_succ]
        refine wpAnyH_take (i := 7) (oi := { dst := some 14, op := Op.build 75 #[(0, Operand.tmp 8), (1, Operand.tmp 13)], type := 75, pos := "l15_verify.go:120", after := #[{ on := 1, ground := Ground.data }, { on := 6, ground := Ground.data }], guard := none }) (v := (.agg #[.slice p f.len cap, .slice pv f.len cv, .slice none 0 0])) rfl (by kernel_rfl) (by kernel_rfl) (by kernel_rfl) (fun _ _ _ h => h) (Or.inl ⟨by rfl, ?_⟩) hS3 ?_
        · intro wq hSq
          clear hSq
          go_simp
        try simp only [Act.put, List.setIfInBounds_toArray, List.set_cons_zero, List.set_cons_succ]
        refine wpAnyH_ready (rs := [9]) (by kernel_rfl) (by simp) ?_
        refine AllReadyH.cons (o := { dst := none, op := Op.store 75 (Operand.tmp 4) (Operand.tmp 14), type := 0, pos := "l15_verify.go:120", after := #[{ on := 8, ground := Ground.data }, { on := 7, ground := Ground.data }, { on := 6, ground := Ground.chain }, { on := 0, ground := Ground.phase }, { on := 1, ground := Ground.phase }, { on := 2, ground := Ground.phase }, { on := 3, ground := Ground.phase }, { on := 4, ground := Ground.phase }, { on := 5, ground := Ground.phase }, { on := 6, ground := Ground.phase }, { on := 7, ground := Ground.phase }, { on := 8, ground := Ground.phase }], guard := none }) rfl (fun KK hK => ?_) AllReadyH.nil
        go_simp
        refine hK.out _ _ (HSE.out _ _ _) (fun _ => ?_)
        clear hK KK
        try simp only [Act.put, List.setIfInBounds_toArray, List.set_cons_zero, List.set_cons_succ]
        refine wpAnyH_done (by kernel_rfl) ?_ _
        go_wp2_with fail
        go_meet
        exact ⟨_, _, rfl, HE.out.1, HE.out.2⟩
    case' gB =>
      go_simp
      obtain ⟨Wa, hWa⟩ : ∃ Wa, Wa = Wd.alloc (.cells #[.slice none 0 0, .slice none 0 0, .slice none 0 0] 75) := ⟨_, rfl⟩
      have hSa : Below W.heap.size W Wa := by rw [hWa]; exact hS0.trans ((newb _ _).mono hS0.size)
      have hqa : Wa.heap[Wd.heap.size]? = some (.cells #[.slice none 0 0, .slice none 0 0, .slice none 0 0] 75 (0, 0)) := by rw [hWa]; exact heap_alloc_new _ _
      have hqsa : Wd.heap.size < Wa.heap.size := by rw [hWa]; simp
      rw [← hWa]
      have HSA2 : Hid (W.heap.size ≤ Wa.heap.size) := hSa.size
      clear hWa
      refine hK.out _ _ hSa (fun _ => ?_)
      clear hK KK
      try simp only [Act.put, List.setIfInBounds_toArray, List.set_cons_zero, List.set_cons_succ]
      refine wpAnyH_ready (rs := [2]) (by kernel_rfl) (by simp) ?_
      refine AllReadyH.cons (o := { dst := some 9, op := Op.buildSlice 31 1 #[(0, Operand.const (Value.int IntKind.i64 (-1)))], type := 31, pos := "l15_verify.go:120", after := #[], guard := none }) rfl (fun KK hK => ?_) AllReadyH.nil
      go_simp
      obtain ⟨Wb, hWb⟩ : ∃ Wb, Wb = Wa.alloc (.cells #[.int .i64 (-1)] 3) := ⟨_, rfl⟩
      have hSb : Below W.heap.size W Wb := by rw [hWb]; exact hSa.trans ((newb _ _).mono hSa.size)
      have hcb : Wb.cell? ⟨Wa.heap.size, 0, none⟩ = some (.int .i64 (-1)) := by rw [hWb]; exact cell_of_row _ _ 0 _ _ _ (heap_alloc_new _ _)
      have hq : Wb.heap[Wd.heap.size]? = some (.cells #[.slice none 0 0, .slice none 0 0, .slice none 0 0] 75 (0, 0)) := by rw [hWb]; exact ((newb Wa _).block _ hqsa).trans hqa
      have hqs : Wd.heap.size < Wb.heap.size := by rw [hWb]; exact Nat.lt_of_lt_of_le hqsa (newb _ _).size
      rw [← hWb]
      clear hWb
      refine hK.out _ _ hSb (fun _ => ?_)
      clear hK KK
      try simp only [Act.put, List.setIfInBounds_toArray, List.set_cons_zero, List.set_cons_succ]
      refine wpAnyH_ready (rs := [6]) (by kernel_rfl) (by simp) ?_
      refine AllReadyH.cons (o := { dst := some 13, op := Op.call { callee := Callee.value (Operand.func 44), args := #[Operand.tmp 9, Operand.tmp 12], argTypes := #[31, 3] }, type := 31, pos := "l15_verify.go:120", after := #[{ on := 2, ground := Ground.data }, { on := 5, ground := Ground.data }], guard := none }) rfl (fun KK hK => ?_) AllReadyH.nil
      refine step_call2 rfl 44 _ _ _ _ rfl repeat_enter (.slice (some ⟨Wa.heap.size, 0, none⟩) 1 1) (.int .i64 f.len) rfl rfl _ (impl_repeat15 (-1) f.len hl1 (by omega) _ Wa.heap.size 0 hcb) ?_
      rintro e w3 ⟨v, rfl, hb3, ho3⟩
      refine ⟨_, rfl, ?_⟩
      have hS3 : Below W.heap.size W w3 := hSb.trans (hb3.mono hSb.size)
      have hq3 : w3.heap[Wd.heap.size]? = some (.cells #[.slice none 0 0, .slice none 0 0, .slice none 0 0] 75 (0, 0)) := (hb3.block _ hqs).trans hq
      have HE := hid_of1 (box_early (vl := .slice p f.len cap) (HB.out.trans (hS3.mono HB.out.size)) (by have := HB.out.size; have := HSZ.out; have := HSA2.out; omega) ho3 hq3 hqs)
      have hQL : W.heap.size ≤ Wd.heap.size := by have := HSZ.out; have := HSA2.out; omega
      have HSE := hid_of1 (fun a b c => ((hS3.setCell (p := ⟨Wd.heap.size, 0, none⟩) hQL a).setCell (p := ⟨Wd.heap.size, 1, none⟩) hQL b).setCell (p := ⟨Wd.heap.size, 2, none⟩) hQL c)
      obtain ⟨q0, q1, q2⟩ : w3.cell? ⟨Wd.heap.size, 0, none⟩ = some (.slice none 0 0) ∧ w3.cell? ⟨Wd.heap.size, 1, none⟩ = some (.slice none 0 0) ∧ w3.cell? ⟨Wd.heap.size, 2, none⟩ = some (.slice none 0 0) := ⟨cell_of_row _ _ 0 _ _ _ hq3, cell_of_row _ _ 1 _ _ _ hq3, cell_of_row _ _ 2 _ _ _ hq3⟩
      have qf : ∀ j, w3.frozen? ⟨Wd.heap.size, j, none⟩ = false := fun j => frozen_of_row _ _ j _ _ hq3
      obtain ⟨pv, cv, epv⟩ := own_shapeV ho3
      subst epv
      refine hK.out _ _ hS3 (fun _ => ?_)
      clear hK KK
      try simp only [Act.put, List.setIfInBounds_toArray, List.set_cons_zero, List.set_cons_succ]
      refine wpAnyH_take (i := 7) (oi := { dst := some 14, op := Op.build 75 #[(0, Operand.tmp 8), (1, Operand.tmp 13)], type := 75, pos := "l15_verify.go:120", after := #[{ on := 1, ground := Ground.data }, { on := 6, ground := Ground.data }], guard := none }) (v := (.agg #[.slice p f.len cap, .slice pv f.len cv, .slice none 0 0])) rfl (by kernel_rfl) (by kernel_rfl) (by kernel_rfl) (fun _ _ _ h => h) (Or.inl ⟨by rfl, ?_⟩) hS3 ?_
      · intro wq hSq
        clear hSq
        go_simp
      try simp only [Act.put, List.setIfInBounds_toArray, List.set_cons_zero, List.set_cons_succ]
      refine wpAnyH_ready (rs := [9]) (by kernel_rfl) (by simp) ?_
      refine AllReadyH.cons (o := { dst := none, op := Op.store 75 (Operand.tmp 4) (Operand.tmp 14), type := 0, pos := "l15_verify.go:120", after := #[{ on := 8, ground := Ground.data }, { on := 7, ground := Ground.data }, { on := 6, ground := Ground.chain }, { on := 0, ground := Ground.phase }, { on := 1, ground := Ground.phase }, { on := 2, ground := Ground.phase }, { on := 3, ground := Ground.phase }, { on := 4, ground := Ground.phase }, { on := 5, ground := Ground.phase }, { on := 6, ground := Ground.phase }, { on := 7, ground := Ground.phase }, { on := 8, ground := Ground.phase }], guard := none }) rfl (fun KK hK => ?_) AllReadyH.nil
      go_simp
      refine hK.out _ _ (HSE.out _ _ _) (fun _ => ?_)
      clear hK KK
      try simp only [Act.put, List.setIfInBounds_toArray, List.set_cons_zero, List.set_cons_succ]
      refine wpAnyH_done (by kernel_rfl) ?_ _
      go_wp2_with fail
      go_meet
      exact ⟨_, _, rfl, HE.out.1, HE.out.2⟩
  case rest =>
  obtain ⟨Q, vd, rfl, hst, hbl⟩ := hcut
  have HST0 : Hid (DSt w.heap.size Q (.slice p f.len cap) vd (.slice none 0 0) (List.replicate f.len (-1)) [] wc) := hst
  have HBC : Hid (Below w.heap.size w wc) := hbl
  have HRF : Hid (Rnd f ((List.replicate f.len (-1)).set 0 1) [0] true) := rnd_first hl1
  have HGO : Hid (Calls Tryd.prog 45 #[.pointer (some ⟨Q, 0, none⟩), .int .i64 0, .int .i64 1] wc (fun e w' => ∃ b vd' vt', e = .returned (.bool b) ∧ DSt w.heap.size Q (.slice p f.len cap) vd' vt' ((List.replicate f.len (-1)).set 0 1) [0] w' ∧ VK Q vd (.slice none 0 0) wc vd' vt' w')) := by
    refine (impl_meet15 w.heap.size Q _ vd _ _ [] wc hst 0 1 (by omega) (by rw [List.length_replicate]; omega) (fun x hx => .inl (List.eq_of_mem_replicate hx)) (by omega) (by rw [List.length_replicate]; omega) (by simp)).mono ?_
    rintro e w' ⟨vd', vt', D', T', h1, h2, h3⟩
    rw [go_first hl1] at h3
    rcases h3 with ⟨rfl, h3⟩ | ⟨rfl, h3⟩
    · injection h3 with h3 h4
      injection h4 with h4 _
      subst h3 h4
      exact ⟨true, vd', vt', rfl, h1, h2⟩
    · cases h3
  clear hst hbl HC
  obtain ⟨n0, hn0⟩ : ∃ n0, n0 = muL ((List.replicate f.len (-1)).set 0 1) [0] := ⟨_, rfl⟩
  have hn7 : n0 ≤ 7000 := by
    rw [hn0]
    unfold muL
    have := List.countP_le_length (p := fun d : Int => decide (d < 0)) (l := (List.replicate f.len (-1)).set 0 1)
    rw [List.length_set, List.length_replicate] at this
    simp only [List.length_cons, List.length_nil]
    omega
  have HN0 : Hid (n0 = muL ((List.replicate f.len (-1)).set 0 1) [0]) := hn0
  have HP : Hid (∀ u b D w', Below w.heap.size w w' → w'.ownsRow w.heap.size 3 1 u D.length (D.map (Value.int .i64)) → ((b = true ∧ DepOk f ∧ DepL f D) ∨ (b = false ∧ ¬ DepOk f ∧ D = [])) → POST (.returned (.tuple #[u, .bool b])) w') := fun u b D w' h1 h2 h3 => by
    rw [hPO]
    exact ⟨u, b, D, rfl, h1, h2, h3⟩
  clear hn0 hPO
  go_wp2_with fail
  refine HGO.out.mono ?_
  rintro e w3 ⟨b3, vd3, vt3, rfl, hs3, hk3⟩
  have HS3 : Hid (DSt w.heap.size Q (.slice p f.len cap) vd3 vt3 ((List.replicate f.len (-1)).set 0 1) [0] w3) := hs3
  have HK3 : Hid (VK Q vd (.slice none 0 0) wc vd3 vt3 w3) := hk3
  clear hs3 hk3 HGO
  go_wp2_with fail
  go_loopg [] n0 (fun n wr => ∃ (vd' vt : Value) (D T : List Int), muL D T = n ∧ n ≤ 7000 ∧ DSt w.heap.size Q (.slice p f.len cap) vd' vt D T wr ∧ VK Q vd (.slice none 0 0) wc vd' vt wr ∧ Rnd f D T true)
  case atStart => exact ⟨vd3, vt3, _, _, HN0.out.symm, hn7, HS3.out, HK3.out, HRF.out⟩
  case round =>
    obtain ⟨vd', vt, D, T, hmu, hg7, hst, hvk, hrn⟩ := hrel
    have HST : Hid (DSt w.heap.size Q (.slice p f.len cap) vd' vt D T wr) := hst
    have HVK : Hid (VK Q vd (.slice none 0 0) wc vd' vt wr) := hvk
    have HBR : Hid (Below w.heap.size w wr) := hvk.oldD HST0.out HBC.out
    have HRN : Hid (Rnd f D T true) := hrn
    have HMU : Hid (muL D T = gk ∧ gk ≤ 7000) := ⟨hmu, hg7⟩
    have hTl : T.length ≤ 7000 := by unfold muL at hmu; omega
    obtain ⟨⟨k0, k1, k2⟩, kf⟩ := hst.cell
    have HDL : Hid (D.length = f.len) := hrn.1.len
    have HNG : Hid (∀ x ∈ D, x = -1 ∨ 0 ≤ x) := fun x hx => by
      obtain ⟨j, hj⟩ := List.getElem?_of_mem hx
      rcases hrn.1.val j x hj with h | h
      · exact .inl h
      · exact .inr h.1
    clear hst hvk hrn hmu hg7 HS3 HK3 HN0 HRF
    rcases List.eq_nil_or_concat T with hnil | ⟨T', t, hT⟩
    · subst hnil
      have HE : Hid (DepOk f ∧ DepL f D) := by
        rcases rnd_end HRN.out (.inr rfl) with h | h
        · exact h.2
        · cases h.1
      obtain ⟨pt, ct, et⟩ := own_shapeV HST.out.todo
      obtain ⟨pd, cd, ed⟩ := own_shapeV HST.out.deps
      have HEE : Hid (POST (.returned (.tuple #[vd', .bool true])) wr) := HP.out vd' true D wr HBR.out HST.out.deps (.inl ⟨rfl, HE.out.1, HE.out.2⟩)
      clear HRN HDL HNG
      subst et ed
      go_wp2_with fail
      first
        | exact HEE.out
        | (go_ret2; exact HEE.out)
    · rw [List.concat_eq_append] at hT
      subst hT
      obtain ⟨k, d, htk, hkl, hdk, hd1, hd60, hrc⟩ := rnd_last HRN.out
      subst htk
      have hTl' : T'.length + 1 ≤ 7000 := by rw [List.length_append] at hTl; exact hTl
      obtain ⟨g, ct', et', hown, hcc, hcm, hfz, hcl⟩ := own_cells HST.out.todo (by simp)
      have HPOP := hid_of1 (by have := HST.out; rw [et'] at this; exact DSt.popped this)
      have HVK2 : Hid (VK Q vd (.slice none 0 0) wc vd' (.slice (some ⟨g, 0, none⟩) (T' ++ [(k : Int)]).length ct') wr) := by rw [← et']; exact HVK.out
      rw [show (T' ++ [(k : Int)]).length = T'.length + 1 by simp] at et' hcc
      have ct0 : wr.cell? ⟨g, T'.length, none⟩ = some (.int .i64 (k : Int)) := hcl T'.length k (by simp)
      obtain ⟨W2, hW2⟩ : ∃ W2, W2 = wr.setCell ⟨Q, 2, none⟩ (.slice (some ⟨g, 0, none⟩) T'.length ct') := ⟨_, rfl⟩
      rw [← hW2] at HPOP
      have HW2 : Hid (W2 = wr.setCell ⟨Q, 2, none⟩ (.slice (some ⟨g, 0, none⟩) T'.length ct')) := hW2
      have HVK3 := hid_of1 (HVK2.out.trans HPOP.out.2)
      have HB2 := hid_of1 (HVK3.out.oldD HST0.out HBC.out)
      have HCG : Hid (Calls Tryd.prog 46 #[.pointer (some ⟨Q, 0, none⟩), .int .i64 k] W2 (GPost f k d w.heap.size Q (.slice p f.len cap) vd' (.slice (some ⟨g, 0, none⟩) T'.length ct') D T' W2)) :=
        impl_go_on15 f w W2 Q _ vd' _ D T' HPOP.out.1 HB2.out HV.out (HTB.out w (Below.refl _ _)) k hkl d hdk hd1 hd60 (HOPS.out k hkl).1 (fun s hs => by rw [HDL.out]; exact (HOPS.out k hkl).2 s hs) HNG.out (by rw [HDL.out]; omega) (by omega)
      have HRC : Hid (Rch f k d) := hrc
      have HRR : Hid (badO d (f.op k) = false → Rnd f ((succI (f.op k) k).foldl (fun st s => goL s (nextO d (f.op k)) st) (D, T', true)).1 ((succI (f.op k) k).foldl (fun st s => goL s (nextO d (f.op k)) st) (D, T', true)).2.1 ((succI (f.op k) k).foldl (fun st s => goL s (nextO d (f.op k)) st) (D, T', true)).2.2 ∧
          muL ((succI (f.op k) k).foldl (fun st s => goL s (nextO d (f.op k)) st) (D, T', true)).1 ((succI (f.op k) k).foldl (fun st s => goL s (nextO d (f.op k)) st) (D, T', true)).2.1 < gk) := fun hb => by
        rw [← HMU.out.1]
        exact rnd_roundI HRN.out hdk (fun k hk s hs => ((HOPS.out k hk).2 s hs).1) _ (succI_mem _ _) hb
      clear hcl HVK2 hW2 hdk hrc hown hfz HST HVK
      subst et'
      unfold maxLen at hcm
      go_upto_region 7 with fail
      rw [← HW2.out]
      go_wp2_with fail
      refine HCG.out.mono ?_
      rintro e w5 ⟨vd5, vt5, D5, T5, hs5, hk5, hq⟩
      have HS5 : Hid (DSt w.heap.size Q (.slice p f.len cap) vd5 vt5 D5 T5 w5) := hs5
      have HK5 := hid_of1 (HVK3.out.trans hk5)
      have HB5 := hid_of1 (HK5.out.oldD HST0.out HBC.out)
      clear hs5 hk5 HCG
      rcases hq with ⟨rfl, hb, hq⟩ | ⟨rfl, hq⟩
      · have h1 := HRR.out hb
        rw [hq] at h1
        have HR5 : Hid (Rnd f D5 T5 true ∧ muL D5 T5 < gk) := h1
        clear hb hq h1
        go_wp2_with fail
        go_roundg (muL D5 T5)
        case rel => exact ⟨vd5, vt5, D5, T5, rfl, by have := HR5.out.2; have := HMU.out.2; omega, HS5.out, HK5.out, HR5.out.1⟩
        case measure => exact HR5.out.2
      · have HE : Hid (POST (.returned (.tuple #[.slice none 0 0, .bool false])) w5) := HP.out _ false [] w5 HB5.out ⟨rfl, .inl ⟨rfl, rfl⟩⟩ (.inr ⟨rfl, by
          rcases hq with hq | hq
          · exact rnd_bad HRC.out hq
          · cases hbd : badO d (f.op k) with
            | true => exact rnd_bad HRC.out hbd
            | false =>
              have h1 := (HRR.out hbd).1
              rw [hq] at h1
              exact h1.1.bad rfl, rfl⟩)
        clear hq
        go_wp2_with fail
        first
          | exact HE.out
          | (go_ret2; exact HE.out)
end Go.Proofs.YtkbbfgfmlilfbaaDoor
