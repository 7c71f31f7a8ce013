/- impl.depthsOf at a right function of a list. Conditions: the function is right; the table of names reads as its text lays it. Written by wip/tools/mkdof15.py over ImplDepthsOf15.src. -/
import Derived.Test.YtkbbfgfmlilfbaaDoorImplGoOn15
import Derived.Test.YtkbbfgfmlilfbaaDoorImplRepeat15
import Derived.Test.YtkbbfgfmlilfbaaDoorSpecDepths15
import Derived.Test.YtkbbfgfmlilfbaaDoorFunsRow
import Derived.Test.YtkbbfgfmlilfbaaDoorRows
import Derived.Test.YtkbbfgfmlilfbaaDoorSzFun
import Derived.Test.YtkbbfgfmlilfbaaDoorToFunM
import Derived.Test.YtkbbfgfmlilfbaaDoorEqFun
import Derived.Test.YtkbbfgfmlilfbaaDoorFunOpen
import Derived.Test.YtkbbfgfmlilfbaaDoorMarkFunM
import Derived.Test.YtkbbfgfmlilfbaaDoorIntsLaw
import Derived.WalkKit
import Derived.ProofKit
import Derived.Deep.Cut
namespace Go.Proofs.YtkbbfgfmlilfbaaDoor
open Go.ChangeShapes Go.WideShapes Go.ChangeAt Go.RowKit

/-- What is told. -/
def DPost (f : Fu) (w : World) (e : Ending) (w' : World) : Prop :=
  ∃ u b D, e = .returned (.tuple #[u, .bool b]) ∧ Below w.heap.size w w' ∧ w'.ownsRow w.heap.size 3 1 u D.length (D.map (Value.int .i64)) ∧ ((b = true ∧ DepOk f ∧ DepL f D) ∨ (b = false ∧ ¬ DepOk f ∧ D = []))
theorem repeat_enter (vs : Array Value) (w : World) : (callFunc 44 vs).run Tryd.prog w = .ok (.enter 44 vs) w := by kernel_rfl
theorem box_late {w w1 w3 : World} {vl v : Value} {m : Nat} (hb : Below w.heap.size w w3) (h1 : w.heap.size ≤ w1.heap.size) (ho : w3.ownsRow w1.heap.size 3 1 v m ((List.replicate m (-1)).map (Value.int .i64))) :
    DSt w.heap.size w3.heap.size vl v (.slice none 0 0) (List.replicate m (-1)) [] (w3.alloc (.cells #[vl, v, .slice none 0 0] 75)) ∧ Below w.heap.size w (w3.alloc (.cells #[vl, v, .slice none 0 0] 75)) := by
  refine ⟨⟨heap_alloc_new w3 _, ?_, ⟨rfl, .inl ⟨rfl, rfl⟩⟩, fun e => ?_, (by intro e; cases e), (by intro g _ e; cases e), hb.size⟩, hb.trans ((newb w3 _).mono hb.size)⟩
  · rw [List.length_replicate]
    exact own_baseV (own_belowV ho (newb w3 _)) h1
  · have := (own_betweenV ho e).2
    omega
theorem box_early {w w1 w3 : World} {vl v : Value} {m Q : Nat} (hb : Below w.heap.size w w3) (hQ : w.heap.size ≤ Q) (ho : w3.ownsRow w1.heap.size 3 1 v m ((List.replicate m (-1)).map (Value.int .i64))) {a b c : Value} (hq : w3.heap[Q]? = some (.cells #[a, b, c] 75 (0, 0))) (hQ1 : Q < w1.heap.size) :
    DSt w.heap.size Q vl v (.slice none 0 0) (List.replicate m (-1)) [] (((w3.setCell ⟨Q, 0, none⟩ vl).setCell ⟨Q, 1, none⟩ v).setCell ⟨Q, 2, none⟩ (.slice none 0 0)) ∧ Below w.heap.size w (((w3.setCell ⟨Q, 0, none⟩ vl).setCell ⟨Q, 1, none⟩ v).setCell ⟨Q, 2, none⟩ (.slice none 0 0)) := by
  have h1 := heap_setCell_same w3 Q 0 _ _ vl hq
  have h2 := heap_setCell_same _ Q 1 _ _ v h1
  have h3 := heap_setCell_same _ Q 2 _ _ (.slice none 0 0) h2
  have hv : v.ownBlock ≠ some Q := fun e => by have := (own_betweenV ho e).1; omega
  refine ⟨⟨by simpa using h3, ?_, ⟨rfl, .inl ⟨rfl, rfl⟩⟩, hv, (by intro e; cases e), (by intro g _ e; cases e), hQ⟩, ((hb.setCell (p := ⟨Q, 0, none⟩) hQ _).setCell (p := ⟨Q, 1, none⟩) hQ _).setCell (p := ⟨Q, 2, none⟩) hQ _⟩
  rw [List.length_replicate]
  refine own_baseV (own_keepV ho (fun g e => ?_)) (by omega)
  have hg : g ≠ Q := fun e2 => hv (by rw [← e2]; exact e)
  rw [Below.heap_setCell _ ⟨Q, 2, none⟩ _ g hg, Below.heap_setCell _ ⟨Q, 1, none⟩ _ g hg, Below.heap_setCell _ ⟨Q, 0, none⟩ _ g hg]

set_option maxRecDepth 100000 in
set_option maxHeartbeats 16000000 in
theorem impl_depths_of15 (f : Fu) (fr : Int) (w : World) (vl : Value) (hv : Ol w f.len f.op vl) (htab : NameTab w) (hl1 : 1 ≤ f.len) (hl2 : f.len ≤ 3000) (hops : ∀ k, k < f.len → (0 ≤ takesO (f.op k) ∧ takesO (f.op k) ≤ 20) ∧ ∀ s ∈ succO (f.op k) k, 0 ≤ s ∧ s < f.len) :
    Calls Tryd.prog 29 #[.agg #[.int .i64 fr, vl]] w (DPost f w) := by
  obtain ⟨POST, hPO⟩ : ∃ POST, POST = DPost f w := ⟨_, rfl⟩
  rw [← hPO]
  obtain ⟨p, cap, ev, hlm, -⟩ := hv.at
  obtain ⟨W, hW⟩ : ∃ W, W = w.alloc (.cells #[.int .i64 fr, vl] 54) := ⟨_, rfl⟩
  obtain ⟨K, hK⟩ : ∃ K, K = w.heap.size := ⟨_, rfl⟩
  have bW : Below w.heap.size w W := by rw [hW]; exact newb w _
  have hbx : W.heap[K]? = some (.cells #[.int .i64 fr, vl] 54 (0, 0)) := by rw [hW, hK]; exact heap_alloc_new w _
  have k0 : W.cell? ⟨K, 1, none⟩ = some vl := cell_of_row W _ 1 _ _ _ hbx
  have HB : Hid (Below w.heap.size w W) := bW
  have HWW : Hid (W = w.alloc (.cells #[.int .i64 fr, vl] 54) ∧ K = w.heap.size) := ⟨hW, hK⟩
  have HTB : Hid (∀ w1, Below w.heap.size w w1 → NameTab w1) := fun w1 h => htab.below h
  have HV : Hid (Ol w f.len f.op vl) := hv
  rw [ev] at k0
  have HC : Hid (∀ wq, Below W.heap.size W wq → wq.cell? ⟨K, 1, none⟩ = some (.slice p f.len cap)) := fun wq h => keeps h _ _ k0
  have HOPS : Hid (∀ k, k < f.len → (0 ≤ takesO (f.op k) ∧ takesO (f.op k) ≤ 20) ∧ ∀ s ∈ succO (f.op k) k, 0 ≤ s ∧ s < f.len) := hops
  unfold maxLen at hlm
  clear hW hK bW hbx hv htab k0 hops
  subst ev
  go_enter Tryd.func29, Tryd.ntmps29
  go_upto_region 1 with fail
  rw [← HWW.out.2, ← HWW.out.1]
  go_cut [4] from 7 to 15 (fun z wx => ∃ Q vd, z = .pointer (some ⟨Q, 0, none⟩) ∧ DSt w.heap.size Q (.slice p f.len cap) vd (.slice none 0 0) (List.replicate f.len (-1)) [] wx ∧ Below w.heap.size w wx)
  case first =>
    refine wp_region_held_drew (S := fun wq => Below W.heap.size W wq) (by kernel_rfl) (Below.refl _ _).drew (fun hS0 => ?_)
    obtain ⟨Wd, hWd⟩ : ∃ Wd, Wd = W.drew := ⟨_, rfl⟩
    rw [← hWd] at hS0 ⊢
    have hsz : Wd.heap.size = W.heap.size := by rw [hWd]; rfl
    have HSZ : Hid (Wd.heap.size = W.heap.size) := hsz
    clear hWd hsz
    refine wpAnyH_take (i := 0) (oi := { dst := some 7, op := Op.fieldAddr 54 (Operand.tmp 1) 1, type := 0, pos := "l15_verify.go:120", after := #[], guard := none }) (v := (.pointer (some ⟨K, 1, none⟩))) rfl (by kernel_rfl) (by kernel_rfl) (by kernel_rfl) (fun _ _ _ h => h) (Or.inl ⟨by rfl, ?_⟩) hS0 ?_
    · intro wq hSq
      clear hSq
      go_simp
    try simp only [Act.put, List.setIfInBounds_toArray, List.set_cons_zero, List.set_cons_succ]
    refine wpAnyH_take (i := 1) (oi := { dst := some 8, op := Op.load 52 (Operand.tmp 7), type := 52, pos := "l15_verify.go:120", after := #[{ on := 0, ground := Ground.data }], guard := none }) (v := (.slice p f.len cap)) rfl (by kernel_rfl) (by kernel_rfl) (by kernel_rfl) (fun _ _ _ h => h) (Or.inl ⟨by rfl, ?_⟩) hS0 ?_
    · intro wq hSq
      have k0 := HC.out wq hSq
      clear hSq
      go_simp
    try simp only [Act.put, List.setIfInBounds_toArray, List.set_cons_zero, List.set_cons_succ]
    refine wpAnyH_take (i := 3) (oi := { dst := some 10, op := Op.fieldAddr 54 (Operand.tmp 1) 1, type := 0, pos := "l15_verify.go:120", after := #[], guard := none }) (v := (.pointer (some ⟨K, 1, none⟩))) rfl (by kernel_rfl) (by kernel_rfl) (by kernel_rfl) (fun _ _ _ h => h) (Or.inl ⟨by rfl, ?_⟩) hS0 ?_
    · intro wq hSq
      clear hSq
      go_simp
    try simp only [Act.put, List.setIfInBounds_toArray, List.set_cons_zero, List.set_cons_succ]
    refine wpAnyH_take (i := 4) (oi := { dst := some 11, op := Op.load 52 (Operand.tmp 10), type := 52, pos := "l15_verify.go:120", after := #[{ on := 3, ground := Ground.data }], guard := none }) (v := (.slice p f.len cap)) rfl (by kernel_rfl) (by kernel_rfl) (by kernel_rfl) (fun _ _ _ h => h) (Or.inl ⟨by rfl, ?_⟩) hS0 ?_
    · intro wq hSq
      have k0 := HC.out wq hSq
      clear hSq
      go_simp
    try simp only [Act.put, List.setIfInBounds_toArray, List.set_cons_zero, List.set_cons_succ]
    refine wpAnyH_take (i := 5) (oi := { dst := some 12, op := Op.call { callee := Callee.builtin Builtin.len, args := #[Operand.tmp 11], argTypes := #[52] }, type := 3, pos := "l15_verify.go:120", after := #[{ on := 4, ground := Ground.data }], guard := none }) (v := (.int .i64 f.len)) rfl (by kernel_rfl) (by kernel_rfl) (by kernel_rfl) (fun _ _ _ h => h) (Or.inl ⟨by rfl, ?_⟩) hS0 ?_
    · intro wq hSq
      clear hSq
      go_simp
    try simp only [Act.put, List.setIfInBounds_toArray, List.set_cons_zero, List.set_cons_succ]
    refine wpAnyH_ready (rs := [2, 8]) (by kernel_rfl) (by simp) ?_
    refine AllReadyH.cons (o := { dst := some 9, op := Op.buildSlice 31 1 #[(0, Operand.const (Value.int IntKind.i64 (-1)))], type := 31, pos := "l15_verify.go:120", after := #[], guard := none }) rfl (fun KK hK => ?gA) (AllReadyH.cons (o := { dst := some 4, op := Op.alloc 75, type := 0, pos := "l15_verify.go:120", after := #[], guard := none }) rfl (fun KK hK => ?gB) AllReadyH.nil)
    case' gA =>
      go_simp
      obtain ⟨Wa, hWa⟩ : ∃ Wa, Wa = Wd.alloc (.cells #[.int .i64 (-1)] 3) := ⟨_, rfl⟩
      have hSa : Below W.heap.size W Wa := by rw [hWa]; exact hS0.trans ((newb _ _).mono hS0.size)
      have hca : Wa.cell? ⟨Wd.heap.size, 0, none⟩ = some (.int .i64 (-1)) := by rw [hWa]; exact cell_of_row _ _ 0 _ _ _ (heap_alloc_new _ _)
      have HSA : Hid (Wd.heap.size < Wa.heap.size) := by show _ < _; rw [hWa]; simp
      rw [← hWa]
      have HSA2 : Hid (W.heap.size ≤ Wa.heap.size) := hSa.size
      clear hWa
      refine hK.out _ _ hSa (fun _ => ?_)
      clear hK KK
      try simp only [Act.put, List.setIfInBounds_toArray, List.set_cons_zero, List.set_cons_succ]
      refine wpAnyH_ready (rs := [6, 8]) (by kernel_rfl) (by simp) ?_
      refine AllReadyH.cons (o := { dst := some 13, op := Op.call { callee := Callee.value (Operand.func 44), args := #[Operand.tmp 9, Operand.tmp 12], argTypes := #[31, 3] }, type := 31, pos := "l15_verify.go:120", after := #[{ on := 2, ground := Ground.data }, { on := 5, ground := Ground.data }], guard := none }) rfl (fun KK hK => ?gAC) (AllReadyH.cons (o := { dst := some 4, op := Op.alloc 75, type := 0, pos := "l15_verify.go:120", after := #[], guard := none }) rfl (fun KK hK => ?gAB) AllReadyH.nil)
      case' gAC =>
        refine step_call2 rfl 44 _ _ _ _ rfl repeat_enter (.slice (some ⟨Wd.heap.size, 0, none⟩) 1 1) (.int .i64 f.len) rfl rfl _ (impl_repeat15 (-1) f.len hl1 (by omega) _ Wd.heap.size 0 hca) ?_
        rintro e w3 ⟨v, rfl, hb3, ho3⟩
        refine ⟨_, rfl, ?_⟩
        have hS3 : Below W.heap.size W w3 := hSa.trans (hb3.mono hSa.size)
        have HE := hid_of1 (box_late (vl := .slice p f.len cap) (HB.out.trans (hS3.mono HB.out.size)) (Nat.le_trans HB.out.size hSa.size) ho3)
        obtain ⟨pv, cv, epv⟩ := own_shapeV ho3
        subst epv
        refine hK.out _ _ hS3 (fun _ => ?_)
        clear hK KK
        try simp only [Act.put, List.setIfInBounds_toArray, List.set_cons_zero, List.set_cons_succ]
        refine wpAnyH_take (i := 7) (oi := { dst := some 14, op := Op.build 75 #[(0, Operand.tmp 8), (1, Operand.tmp 13)], type := 75, pos := "l15_verify.go:120", after := #[{ on := 1, ground := Ground.data }, { on := 6, ground := Ground.data }], guard := none }) (v := (.agg #[.slice p f.len cap, .slice pv f.len cv, .slice none 0 0])) rfl (by kernel_rfl) (by kernel_rfl) (by kernel_rfl) (fun _ _ _ h => h) (Or.inl ⟨by rfl, ?_⟩) hS3 ?_
        · intro wq hSq
          clear hSq
          go_simp
        try simp only [Act.put, List.setIfInBounds_toArray, List.set_cons_zero, List.set_cons_succ]
        refine wpAnyH_ready (rs := [8]) (by kernel_rfl) (by simp) ?_
        refine AllReadyH.cons (o := { dst := some 4, op := Op.alloc 75, type := 0, pos := "l15_verify.go:120", after := #[], guard := none }) rfl (fun KK hK => ?_) AllReadyH.nil
        go_simp
        refine hK.out _ _ (hS3.trans ((newb _ _).mono hS3.size)) (fun _ => ?_)
        clear hK KK
        try simp only [Act.put, List.setIfInBounds_toArray, List.set_cons_zero, List.set_cons_succ]
        refine wpAnyH_ready (rs := [9]) (by kernel_rfl) (by simp) ?_
        refine AllReadyH.cons (o := { dst := none, op := Op.store 75 (Operand.tmp 4) (Operand.tmp 14), type := 0, pos := "l15_verify.go:120", after := #[{ on := 8, ground := Ground.data }, { on := 7, ground := Ground.data }, { on := 6, ground := Ground.chain }, { on := 0, ground := Ground.phase }, { on := 1, ground := Ground.phase }, { on := 2, ground := Ground.phase }, { on := 3, ground := Ground.phase }, { on := 4, ground := Ground.phase }, { on := 5, ground := Ground.phase }, { on := 6, ground := Ground.phase }, { on := 7, ground := Ground.phase }, { on := 8, ground := Ground.phase }], guard := none }) rfl (fun KK hK => ?_) AllReadyH.nil
        go_simp
        refine hK.out _ _ (hS3.trans ((newb _ _).mono hS3.size)) (fun _ => ?_)
        clear hK KK
        try simp only [Act.put, List.setIfInBounds_toArray, List.set_cons_zero, List.set_cons_succ]
        refine wpAnyH_done (by kernel_rfl) ?_ _
        go_wp2_with fail
        go_meet
        exact ⟨_, _, rfl, HE.out.1, HE.out.2⟩
      case' gAB =>
        go_simp
        obtain ⟨Wb, hWb⟩ : ∃ Wb, Wb = Wa.alloc (.cells #[.slice none 0 0, .slice none 0 0, .slice none 0 0] 75) := ⟨_, rfl⟩
        have hSb : Below W.heap.size W Wb := by rw [hWb]; exact hSa.trans ((newb _ _).mono hSa.size)
        have hcb : Wb.cell? ⟨Wd.heap.size, 0, none⟩ = some (.int .i64 (-1)) := by rw [hWb]; exact keeps (newb _ _) _ _ hca
        have hq : Wb.heap[Wa.heap.size]? = some (.cells #[.slice none 0 0, .slice none 0 0, .slice none 0 0] 75 (0, 0)) := by rw [hWb]; exact heap_alloc_new _ _
        have hqs : Wa.heap.size < Wb.heap.size := by rw [hWb]; simp
        rw [← hWb]
        clear hWb
        refine hK.out _ _ hSb (fun _ => ?_)
        clear hK KK
        try simp only [Act.put, List.setIfInBounds_toArray, List.set_cons_zero, List.set_cons_succ]
        refine wpAnyH_ready (rs := [6]) (by kernel_rfl) (by simp) ?_
        refine AllReadyH.cons (o := { dst := some 13, op := Op.call { callee := Callee.value (Operand.func 44), args := #[Operand.tmp 9, Operand.tmp 12], argTypes := #[31, 3] }, type := 31, pos := "l15_verify.go:120", after := #[{ on := 2, ground := Ground.data }, { on := 5, ground := Ground.data }], guard := none }) rfl (fun KK hK => ?_) AllReadyH.nil
        refine step_call2 rfl 44 _ _ _ _ rfl repeat_enter (.slice (some ⟨Wd.heap.size, 0, none⟩) 1 1) (.int .i64 f.len) rfl rfl _ (impl_repeat15 (-1) f.len hl1 (by omega) _ Wd.heap.size 0 hcb) ?_
        rintro e w3 ⟨v, rfl, hb3, ho3⟩
        refine ⟨_, rfl, ?_⟩
        have hS3 : Below W.heap.size W w3 := hSb.trans (hb3.mono hSb.size)
        have hq3 : w3.heap[Wa.heap.size]? = some (.cells #[.slice none 0 0, .slice none 0 0, .slice none 0 0] 75 (0, 0)) := (hb3.block _ hqs).trans hq
        have HE := hid_of1 (box_early (vl := .slice p f.len cap) (HB.out.trans (hS3.mono HB.out.size)) (by have := HB.out.size; have := HSZ.out; have := HSA2.out; omega) ho3 hq3 hqs)
        have hQL : W.heap.size ≤ Wa.heap.size := by have := HSZ.out; have := HSA2.out; omega
        have HSE := hid_of1 (fun a b c => ((hS3.setCell (p := ⟨Wa.heap.size, 0, none⟩) hQL a).setCell (p := ⟨Wa.heap.size, 1, none⟩) hQL b).setCell (p := ⟨Wa.heap.size, 2, none⟩) hQL c)
        obtain ⟨q0, q1, q2⟩ : w3.cell? ⟨Wa.heap.size, 0, none⟩ = some (.slice none 0 0) ∧ w3.cell? ⟨Wa.heap.size, 1, none⟩ = some (.slice none 0 0) ∧ w3.cell? ⟨Wa.heap.size, 2, none⟩ = some (.slice none 0 0) := ⟨cell_of_row _ _ 0 _ _ _ hq3, cell_of_row _ _ 1 _ _ _ hq3, cell_of_row _ _ 2 _ _ _ hq3⟩
        have qf : ∀ j, w3.frozen? ⟨Wa.heap.size, j, none⟩ = false := fun j => frozen_of_row _ _ j _ _ hq3
        obtain ⟨pv, cv, epv⟩ := own_shapeV ho3
        subst epv
        refine hK.out _ _ hS3 (fun _ => ?_)
        clear hK KK
        try simp only [Act.put, List.setIfInBounds_toArray, List.set_cons_zero, List.set_cons_succ]
        refine wpAnyH_take (i := 7) (oi := { dst := some 14, op := Op.build 75 #[(0, Operand.tmp 8), (1, Operand.tmp 13)], type := 75, pos := "l15_verify.go:120", after := #[{ on := 1, ground := Ground.data }, { on := 6, ground := Ground.data }], guard := none }) (v := (.agg #[.slice p f.len cap, .slice pv f.len cv, .slice none 0 0])) rfl (by kernel_rfl) (by kernel_rfl) (by kernel_rfl) (fun _ _ _ h => h) (Or.inl ⟨by rfl, ?_⟩) hS3 ?_
        · intro wq hSq
          clear hSq
          go_simp
        try simp only [Act.put, List.setIfInBounds_toArray, List.set_cons_zero, List.set_cons_succ]
        refine wpAnyH_ready (rs := [9]) (by kernel_rfl) (by simp) ?_
        refine AllReadyH.cons (o := { dst := none, op := Op.store 75 (Operand.tmp 4) (Operand.tmp 14), type := 0, pos := "l15_verify.go:120", after := #[{ on := 8, ground := Ground.data }, { on := 7, ground := Ground.data }, { on := 6, ground := Ground.chain }, { on := 0, ground := Ground.phase }, { on := 1, ground := Ground.phase }, { on := 2, ground := Ground.phase }, { on := 3, ground := Ground.phase }, { on := 4, ground := Ground.phase }, { on := 5, ground := Ground.phase }, { on := 6, ground := Ground.phase }, { on := 7, ground := Ground.phase }, { on := 8, ground := Ground.phase }], guard := none }) rfl (fun KK hK => ?_) AllReadyH.nil
        go_simp
        refine hK.out _ _ (HSE.out _ _ _) (fun _ => ?_)
        clear hK KK
        try simp only [Act.put, List.setIfInBounds_toArray, List.set_cons_zero, List.set_cons_succ]
        refine wpAnyH_done (by kernel_rfl) ?_ _
        go_wp2_with fail
        go_meet
        exact ⟨_, _, rfl, HE.out.1, HE.out.2⟩
    case' gB =>
      go_simp
      obtain ⟨Wa, hWa⟩ : ∃ Wa, Wa = Wd.alloc (.cells #[.slice none 0 0, .slice none 0 0, .slice none 0 0] 75) := ⟨_, rfl⟩
      have hSa : Below W.heap.size W Wa := by rw [hWa]; exact hS0.trans ((newb _ _).mono hS0.size)
      have hqa : Wa.heap[Wd.heap.size]? = some (.cells #[.slice none 0 0, .slice none 0 0, .slice none 0 0] 75 (0, 0)) := by rw [hWa]; exact heap_alloc_new _ _
      have hqsa : Wd.heap.size < Wa.heap.size := by rw [hWa]; simp
      rw [← hWa]
      have HSA2 : Hid (W.heap.size ≤ Wa.heap.size) := hSa.size
      clear hWa
      refine hK.out _ _ hSa (fun _ => ?_)
      clear hK KK
      try simp only [Act.put, List.setIfInBounds_toArray, List.set_cons_zero, List.set_cons_succ]
      refine wpAnyH_ready (rs := [2]) (by kernel_rfl) (by simp) ?_
      refine AllReadyH.cons (o := { dst := some 9, op := Op.buildSlice 31 1 #[(0, Operand.const (Value.int IntKind.i64 (-1)))], type := 31, pos := "l15_verify.go:120", after := #[], guard := none }) rfl (fun KK hK => ?_) AllReadyH.nil
      go_simp
      obtain ⟨Wb, hWb⟩ : ∃ Wb, Wb = Wa.alloc (.cells #[.int .i64 (-1)] 3) := ⟨_, rfl⟩
      have hSb : Below W.heap.size W Wb := by rw [hWb]; exact hSa.trans ((newb _ _).mono hSa.size)
      have hcb : Wb.cell? ⟨Wa.heap.size, 0, none⟩ = some (.int .i64 (-1)) := by rw [hWb]; exact cell_of_row _ _ 0 _ _ _ (heap_alloc_new _ _)
      have hq : Wb.heap[Wd.heap.size]? = some (.cells #[.slice none 0 0, .slice none 0 0, .slice none 0 0] 75 (0, 0)) := by rw [hWb]; exact ((newb Wa _).block _ hqsa).trans hqa
      have hqs : Wd.heap.size < Wb.heap.size := by rw [hWb]; exact Nat.lt_of_lt_of_le hqsa (newb _ _).size
      rw [← hWb]
      clear hWb
      refine hK.out _ _ hSb (fun _ => ?_)
      clear hK KK
      try simp only [Act.put, List.setIfInBounds_toArray, List.set_cons_zero, List.set_cons_succ]
      refine wpAnyH_ready (rs := [6]) (by kernel_rfl) (by simp) ?_
      refine AllReadyH.cons (o := { dst := some 13, op := Op.call { callee := Callee.value (Operand.func 44), args := #[Operand.tmp 9, Operand.tmp 12], argTypes := #[31, 3] }, type := 31, pos := "l15_verify.go:120", after := #[{ on := 2, ground := Ground.data }, { on := 5, ground := Ground.data }], guard := none }) rfl (fun KK hK => ?_) AllReadyH.nil
      refine step_call2 rfl 44 _ _ _ _ rfl repeat_enter (.slice (some ⟨Wa.heap.size, 0, none⟩) 1 1) (.int .i64 f.len) rfl rfl _ (impl_repeat15 (-1) f.len hl1 (by omega) _ Wa.heap.size 0 hcb) ?_
      rintro e w3 ⟨v, rfl, hb3, ho3⟩
      refine ⟨_, rfl, ?_⟩
      have hS3 : Below W.heap.size W w3 := hSb.trans (hb3.mono hSb.size)
      have hq3 : w3.heap[Wd.heap.size]? = some (.cells #[.slice none 0 0, .slice none 0 0, .slice none 0 0] 75 (0, 0)) := (hb3.block _ hqs).trans hq
      have HE := hid_of1 (box_early (vl := .slice p f.len cap) (HB.out.trans (hS3.mono HB.out.size)) (by have := HB.out.size; have := HSZ.out; have := HSA2.out; omega) ho3 hq3 hqs)
      have hQL : W.heap.size ≤ Wd.heap.size := by have := HSZ.out; have := HSA2.out; omega
      have HSE := hid_of1 (fun a b c => ((hS3.setCell (p := ⟨Wd.heap.size, 0, none⟩) hQL a).setCell (p := ⟨Wd.heap.size, 1, none⟩) hQL b).setCell (p := ⟨Wd.heap.size, 2, none⟩) hQL c)
      obtain ⟨q0, q1, q2⟩ : w3.cell? ⟨Wd.heap.size, 0, none⟩ = some (.slice none 0 0) ∧ w3.cell? ⟨Wd.heap.size, 1, none⟩ = some (.slice none 0 0) ∧ w3.cell? ⟨Wd.heap.size, 2, none⟩ = some (.slice none 0 0) := ⟨cell_of_row _ _ 0 _ _ _ hq3, cell_of_row _ _ 1 _ _ _ hq3, cell_of_row _ _ 2 _ _ _ hq3⟩
      have qf : ∀ j, w3.frozen? ⟨Wd.heap.size, j, none⟩ = false := fun j => frozen_of_row _ _ j _ _ hq3
      obtain ⟨pv, cv, epv⟩ := own_shapeV ho3
      subst epv
      refine hK.out _ _ hS3 (fun _ => ?_)
      clear hK KK
      try simp only [Act.put, List.setIfInBounds_toArray, List.set_cons_zero, List.set_cons_succ]
      refine wpAnyH_take (i := 7) (oi := { dst := some 14, op := Op.build 75 #[(0, Operand.tmp 8), (1, Operand.tmp 13)], type := 75, pos := "l15_verify.go:120", after := #[{ on := 1, ground := Ground.data }, { on := 6, ground := Ground.data }], guard := none }) (v := (.agg #[.slice p f.len cap, .slice pv f.len cv, .slice none 0 0])) rfl (by kernel_rfl) (by kernel_rfl) (by kernel_rfl) (fun _ _ _ h => h) (Or.inl ⟨by rfl, ?_⟩) hS3 ?_
      · intro wq hSq
        clear hSq
        go_simp
      try simp only [Act.put, List.setIfInBounds_toArray, List.set_cons_zero, List.set_cons_succ]
      refine wpAnyH_ready (rs := [9]) (by kernel_rfl) (by simp) ?_
      refine AllReadyH.cons (o := { dst := none, op := Op.store 75 (Operand.tmp 4) (Operand.tmp 14), type := 0, pos := "l15_verify.go:120", after := #[{ on := 8, ground := Ground.data }, { on := 7, ground := Ground.data }, { on := 6, ground := Ground.chain }, { on := 0, ground := Ground.phase }, { on := 1, ground := Ground.phase }, { on := 2, ground := Ground.phase }, { on := 3, ground := Ground.phase }, { on := 4, ground := Ground.phase }, { on := 5, ground := Ground.phase }, { on := 6, ground := Ground.phase }, { on := 7, ground := Ground.phase }, { on := 8, ground := Ground.phase }], guard := none }) rfl (fun KK hK => ?_) AllReadyH.nil
      go_simp
      refine hK.out _ _ (HSE.out _ _ _) (fun _ => ?_)
      clear hK KK
      try simp only [Act.put, List.setIfInBounds_toArray, List.set_cons_zero, List.set_cons_succ]
      refine wpAnyH_done (by kernel_rfl) ?_ _
      go_wp2_with fail
      go_meet
      exact ⟨_, _, rfl, HE.out.1, HE.out.2⟩
  case rest =>
  obtain ⟨Q, vd, rfl, hst, hbl⟩ := hcut
  have HST0 : Hid (DSt w.heap.size Q (.slice p f.len cap) vd (.slice none 0 0) (List.replicate f.len (-1)) [] wc) := hst
  have HBC : Hid (Below w.heap.size w wc) := hbl
  have HRF : Hid (Rnd f ((List.replicate f.len (-1)).set 0 1) [0] true) := rnd_first hl1
  have HGO : Hid (Calls Tryd.prog 45 #[.pointer (some ⟨Q, 0, none⟩), .int .i64 0, .int .i64 1] wc (fun e w' => ∃ b vd' vt', e = .returned (.bool b) ∧ DSt w.heap.size Q (.slice p f.len cap) vd' vt' ((List.replicate f.len (-1)).set 0 1) [0] w' ∧ VK Q vd (.slice none 0 0) wc vd' vt' w')) := by
    refine (impl_meet15 w.heap.size Q _ vd _ _ [] wc hst 0 1 (by omega) (by rw [List.length_replicate]; omega) (fun x hx => .inl (List.eq_of_mem_replicate hx)) (by omega) (by rw [List.length_replicate]; omega) (by simp)).mono ?_
    rintro e w' ⟨vd', vt', D', T', h1, h2, h3⟩
    rw [go_first hl1] at h3
    rcases h3 with ⟨rfl, h3⟩ | ⟨rfl, h3⟩
    · injection h3 with h3 h4
      injection h4 with h4 _
      subst h3 h4
      exact ⟨true, vd', vt', rfl, h1, h2⟩
    · cases h3
  clear hst hbl HC
  obtain ⟨n0, hn0⟩ : ∃ n0, n0 = muL ((List.replicate f.len (-1)).set 0 1) [0] := ⟨_, rfl⟩
  have hn7 : n0 ≤ 7000 := by
    rw [hn0]
    unfold muL
    have := List.countP_le_length (p := fun d : Int => decide (d < 0)) (l := (List.replicate f.len (-1)).set 0 1)
    rw [List.length_set, List.length_replicate] at this
    simp only [List.length_cons, List.length_nil]
    omega
  have HN0 : Hid (n0 = muL ((List.replicate f.len (-1)).set 0 1) [0]) := hn0
  have HP : Hid (∀ u b D w', Below w.heap.size w w' → w'.ownsRow w.heap.size 3 1 u D.length (D.map (Value.int .i64)) → ((b = true ∧ DepOk f ∧ DepL f D) ∨ (b = false ∧ ¬ DepOk f ∧ D = [])) → POST (.returned (.tuple #[u, .bool b])) w') := fun u b D w' h1 h2 h3 => by
    rw [hPO]
    exact ⟨u, b, D, rfl, h1, h2, h3⟩
  clear hn0 hPO
  go_wp2_with fail
  refine HGO.out.mono ?_
  rintro e w3 ⟨b3, vd3, vt3, rfl, hs3, hk3⟩
  have HS3 : Hid (DSt w.heap.size Q (.slice p f.len cap) vd3 vt3 ((List.replicate f.len (-1)).set 0 1) [0] w3) := hs3
  have HK3 : Hid (VK Q vd (.slice none 0 0) wc vd3 vt3 w3) := hk3
  clear hs3 hk3 HGO
  go_wp2_with fail
  go_loopg [] n0 (fun n wr => ∃ (vd' vt : Value) (D T : List Int), muL D T = n ∧ n ≤ 7000 ∧ DSt w.heap.size Q (.slice p f.len cap) vd' vt D T wr ∧ VK Q vd (.slice none 0 0) wc vd' vt wr ∧ Rnd f D T true)
  case atStart => exact ⟨vd3, vt3, _, _, HN0.out.symm, hn7, HS3.out, HK3.out, HRF.out⟩
  case round =>
    obtain ⟨vd', vt, D, T, hmu, hg7, hst, hvk, hrn⟩ := hrel
    have HST : Hid (DSt w.heap.size Q (.slice p f.len cap) vd' vt D T wr) := hst
    have HVK : Hid (VK Q vd (.slice none 0 0) wc vd' vt wr) := hvk
    have HBR : Hid (Below w.heap.size w wr) := hvk.oldD HST0.out HBC.out
    have HRN : Hid (Rnd f D T true) := hrn
    have HMU : Hid (muL D T = gk ∧ gk ≤ 7000) := ⟨hmu, hg7⟩
    have hTl : T.length ≤ 7000 := by unfold muL at hmu; omega
    obtain ⟨⟨k0, k1, k2⟩, kf⟩ := hst.cell
    have HDL : Hid (D.length = f.len) := hrn.1.len
    have HNG : Hid (∀ x ∈ D, x = -1 ∨ 0 ≤ x) := fun x hx => by
      obtain ⟨j, hj⟩ := List.getElem?_of_mem hx
      rcases hrn.1.val j x hj with h | h
      · exact .inl h
      · exact .inr h.1
    clear hst hvk hrn hmu hg7 HS3 HK3 HN0 HRF
    rcases List.eq_nil_or_concat T with hnil | ⟨T', t, hT⟩
    · subst hnil
      have HE : Hid (DepOk f ∧ DepL f D) := by
        rcases rnd_end HRN.out (.inr rfl) with h | h
        · exact h.2
        · cases h.1
      obtain ⟨pt, ct, et⟩ := own_shapeV HST.out.todo
      obtain ⟨pd, cd, ed⟩ := own_shapeV HST.out.deps
      have HEE : Hid (POST (.returned (.tuple #[vd', .bool true])) wr) := HP.out vd' true D wr HBR.out HST.out.deps (.inl ⟨rfl, HE.out.1, HE.out.2⟩)
      clear HRN HDL HNG
      subst et ed
      go_wp2_with fail
      first
        | exact HEE.out
        | (go_ret2; exact HEE.out)
    · rw [List.concat_eq_append] at hT
      subst hT
      obtain ⟨k, d, htk, hkl, hdk, hd1, hd60, hrc⟩ := rnd_last HRN.out
      subst htk
      have hTl' : T'.length + 1 ≤ 7000 := by rw [List.length_append] at hTl; exact hTl
      obtain ⟨g, ct', et', hown, hcc, hcm, hfz, hcl⟩ := own_cells HST.out.todo (by simp)
      have HPOP := hid_of1 (by have := HST.out; rw [et'] at this; exact DSt.popped this)
      have HVK2 : Hid (VK Q vd (.slice none 0 0) wc vd' (.slice (some ⟨g, 0, none⟩) (T' ++ [(k : Int)]).length ct') wr) := by rw [← et']; exact HVK.out
      rw [show (T' ++ [(k : Int)]).length = T'.length + 1 by simp] at et' hcc
      have ct0 : wr.cell? ⟨g, T'.length, none⟩ = some (.int .i64 (k : Int)) := hcl T'.length k (by simp)
      obtain ⟨W2, hW2⟩ : ∃ W2, W2 = wr.setCell ⟨Q, 2, none⟩ (.slice (some ⟨g, 0, none⟩) T'.length ct') := ⟨_, rfl⟩
      rw [← hW2] at HPOP
      have HW2 : Hid (W2 = wr.setCell ⟨Q, 2, none⟩ (.slice (some ⟨g, 0, none⟩) T'.length ct')) := hW2
      have HVK3 := hid_of1 (HVK2.out.trans HPOP.out.2)
      have HB2 := hid_of1 (HVK3.out.oldD HST0.out HBC.out)
      have HCG : Hid (Calls Tryd.prog 46 #[.pointer (some ⟨Q, 0, none⟩), .int .i64 k] W2 (GPost f k d w.heap.size Q (.slice p f.len cap) vd' (.slice (some ⟨g, 0, none⟩) T'.length ct') D T' W2)) :=
        impl_go_on15 f w W2 Q _ vd' _ D T' HPOP.out.1 HB2.out HV.out (HTB.out w (Below.refl _ _)) k hkl d hdk hd1 hd60 (HOPS.out k hkl).1 (fun s hs => by rw [HDL.out]; exact (HOPS.out k hkl).2 s hs) HNG.out (by rw [HDL.out]; omega) (by omega)
      have HRC : Hid (Rch f k d) := hrc
      have HRR : Hid (badO d (f.op k) = false → Rnd f ((succI (f.op k) k).foldl (fun st s => goL s (nextO d (f.op k)) st) (D, T', true)).1 ((succI (f.op k) k).foldl (fun st s => goL s (nextO d (f.op k)) st) (D, T', true)).2.1 ((succI (f.op k) k).foldl (fun st s => goL s (nextO d (f.op k)) st) (D, T', true)).2.2 ∧
          muL ((succI (f.op k) k).foldl (fun st s => goL s (nextO d (f.op k)) st) (D, T', true)).1 ((succI (f.op k) k).foldl (fun st s => goL s (nextO d (f.op k)) st) (D, T', true)).2.1 < gk) := fun hb => by
        rw [← HMU.out.1]
        exact rnd_roundI HRN.out hdk (fun k hk s hs => ((HOPS.out k hk).2 s hs).1) _ (succI_mem _ _) hb
      clear hcl HVK2 hW2 hdk hrc hown hfz HST HVK
      subst et'
      unfold maxLen at hcm
      go_upto_region 7 with fail
      rw [← HW2.out]
      go_wp2_with fail
      refine HCG.out.mono ?_
      rintro e w5 ⟨vd5, vt5, D5, T5, hs5, hk5, hq⟩
      have HS5 : Hid (DSt w.heap.size Q (.slice p f.len cap) vd5 vt5 D5 T5 w5) := hs5
      have HK5 := hid_of1 (HVK3.out.trans hk5)
      have HB5 := hid_of1 (HK5.out.oldD HST0.out HBC.out)
      clear hs5 hk5 HCG
      rcases hq with ⟨rfl, hb, hq⟩ | ⟨rfl, hq⟩
      · have h1 := HRR.out hb
        rw [hq] at h1
        have HR5 : Hid (Rnd f D5 T5 true ∧ muL D5 T5 < gk) := h1
        clear hb hq h1
        go_wp2_with fail
        go_roundg (muL D5 T5)
        case rel => exact ⟨vd5, vt5, D5, T5, rfl, by have := HR5.out.2; have := HMU.out.2; omega, HS5.out, HK5.out, HR5.out.1⟩
        case measure => exact HR5.out.2
      · have HE : Hid (POST (.returned (.tuple #[.slice none 0 0, .bool false])) w5) := HP.out _ false [] w5 HB5.out ⟨rfl, .inl ⟨rfl, rfl⟩⟩ (.inr ⟨rfl, by
          rcases hq with hq | hq
          · exact rnd_bad HRC.out hq
          · cases hbd : badO d (f.op k) with
            | true => exact rnd_bad HRC.out hbd
            | false =>
              have h1 := (HRR.out hbd).1
              rw [hq] at h1
              exact h1.1.bad rfl, rfl⟩)
        clear hq
        go_wp2_with fail
        first
          | exact HE.out
          | (go_ret2; exact HE.out)
end Go.Proofs.YtkbbfgfmlilfbaaDoor

/- (funLook).placesOk and impl.FunsOk at every list of functions. Condition: the table of names reads as its text lays it. -/
namespace Go.Proofs.YtkbbfgfmlilfbaaDoor
open Go.ChangeShapes Go.WideShapes Go.ChangeAt Go.RowKit

set_option maxRecDepth 100000 in
set_option maxHeartbeats 8000000 in
theorem places_ok (nf : Nat) (kid : Nat → Fu) (i : Nat) (hi : i < nf) (w : World) (b o cl : Nat) (pu : Option Addr) (cu : Nat) (hF : FunsAt w nf kid i b o cl pu cu) (ht : NameTab w) (R : Bool) (hR : R = true ↔ PlacesP nf kid i) :
    Calls Tryd.prog 43 #[.agg #[.slice (some ⟨b, o, none⟩) nf cl, .int .i64 i]] w fun e w' => e = .returned (.bool R) ∧ Below w.heap.size w w' := by
  obtain ⟨W, hW⟩ : ∃ W, W = w.alloc (.cells #[.slice (some ⟨b, o, none⟩) nf cl, .int .i64 i] 72) := ⟨_, rfl⟩
  obtain ⟨K, hK⟩ : ∃ K, K = w.heap.size := ⟨_, rfl⟩
  have nb1 : Below w.heap.size w W := by rw [hW]; exact newb w _
  have HBL : Hid (Below w.heap.size w W) := nb1
  have hbx : W.heap[K]? = some (.cells #[.slice (some ⟨b, o, none⟩) nf cl, .int .i64 i] 72 (0, 0)) := by rw [hW, hK]; exact heap_alloc_new w _
  have k0 : W.cell? ⟨K, 0, none⟩ = some (.slice (some ⟨b, o, none⟩) nf cl) := cell_of_row W K 0 _ _ _ hbx
  have k1 : W.cell? ⟨K, 1, none⟩ = some (.int .i64 i) := cell_of_row W K 1 _ _ _ hbx
  have HKC : Hid (∀ wx, Below W.heap.size W wx → wx.cell? ⟨K, 0, none⟩ = some (.slice (some ⟨b, o, none⟩) nf cl) ∧ wx.cell? ⟨K, 1, none⟩ = some (.int .i64 i)) := fun wx h => ⟨keeps h _ _ k0, keeps h _ _ k1⟩
  have HF : Hid (FunsAt W nf kid i b o cl pu cu) := hF.below nb1
  have HT : Hid (NameTab W) := ht.below nb1
  have f1 := HF.out.sl
  have hi' : (i : Int) < nf := by omega
  have hln := hF.ln
  have HR : Hid (R = true ↔ PlacesP nf kid i) := hR
  have HWW : Hid (W = w.alloc (.cells #[.slice (some ⟨b, o, none⟩) nf cl, .int .i64 i] 72) ∧ K = w.heap.size) := ⟨hW, hK⟩
  clear hW hK hbx nb1 hF ht hR
  unfold maxLen at hln
  have hlm := hln.1
  have hnm := hln.2
  clear hln
  have HOP : Hid (∀ j, j < (kid i).len → ∃ g q, pu = some ⟨g, q, none⟩ ∧ HeadO W g (q + j * 3) ((kid i).op j)) := HF.out.op
  generalize hL : (kid i).len = L at *
  have HLL : Hid ((kid i).len = L) := hL
  clear hL
  by_cases hx : 1 ≤ L ∧ L ≤ 3000
  · have HX : Hid (1 ≤ L ∧ L ≤ 3000) := hx
    have hx1 : ¬ (L : Int) < 1 := by omega
    have hx2 : ¬ (3000 : Int) < L := by omega
    obtain ⟨l, hl⟩ : ∃ l, L = l + 1 := ⟨L - 1, by omega⟩
    obtain ⟨g, q, hp, hh⟩ := HOP.out l (by omega)
    subst hp
    obtain ⟨d0, d1, d2⟩ := hh
    have HE : Hid (∀ w, Calls Tryd.prog 50 #[.agg #[.int .i64 ((kid i).op l).c, .int .i64 ((kid i).op l).n, .int .i64 ((kid i).op l).m]] w fun e w' => e = .returned (.bool (endB ((kid i).op l).c)) ∧ Below w.heap.size w w') := fun w => is_end _ _ _ w
    have HEP : Hid (PlacesP nf kid i → endB ((kid i).op l).c = true) := fun h => by
      have := h.2.1
      rw [HLL.out, hl] at this
      exact this
    have HYE : Hid (endB ((kid i).op l).c = true → (∀ k, k < L → opOkF nf kid i ((kid i).op k) = true) → PlacesP nf kid i) := fun he hops => by
      unfold PlacesP
      rw [HLL.out, hl]
      rw [hl] at hops HX
      exact ⟨HX.out, he, hops⟩
    clear hx
    subst hl
    have HOK : Hid (∀ (t : O3) w1, Below W.heap.size W w1 → Calls Tryd.prog 51 #[.agg #[.slice (some ⟨b, o, none⟩) nf cl, .int .i64 i], .agg #[.int .i64 t.c, .int .i64 t.n, .int .i64 t.m]] w1 fun e w' => e = .returned (.bool (opOkF nf kid i t)) ∧ Below w1.heap.size w1 w') :=
      fun t w1 h1 => op_ok13 nf kid i hi t.c t.n t.m w1 b o cl (some ⟨g, q, none⟩) cu (HF.out.below h1) (HT.out.below h1)
    clear HF HT
    generalize ((kid i).op l).n = ln at *
    generalize ((kid i).op l).m = lm at *
    cases hb : endB ((kid i).op l).c with
    | false =>
      have HR2 : Hid (R = false) := bool_no HR.out (fun h => by have := HEP.out h; rw [hb] at this; cases this)
      rw [hb] at HE
      clear hb
      generalize ((kid i).op l).c = lc at *
      go_enter Tryd.func43, Tryd.ntmps43
      go_upto_region 1 with fail
      rw [← HWW.out.1, ← HWW.out.2]
      go_wp2_with fail
      refine (HE.out _).mono ?_
      rintro e w1 ⟨rfl, hb1⟩
      have HB1 : Hid (Below w.heap.size w w1) := HBL.out.trans (hb1.mono HBL.out.size)
      clear hb1
      go_wp2_with fail
      go_ret
      exact ⟨by rw [HR2.out]; rfl, HB1.out⟩
    | true =>
      have HYE2 : Hid ((∀ k, k < l + 1 → opOkF nf kid i ((kid i).op k) = true) → R = true) := fun h => bool_yes HR.out (HYE.out hb h)
      rw [hb] at HE
      clear hb HYE HEP
      generalize ((kid i).op l).c = lc at *
      go_enter Tryd.func43, Tryd.ntmps43
      go_upto_region 1 with fail
      rw [← HWW.out.1, ← HWW.out.2]
      go_wp2_with fail
      refine (HE.out _).mono ?_
      rintro e w1 ⟨rfl, hb1⟩
      have HB1 : Hid (Below W.heap.size W w1) := hb1
      clear hb1 d0 d1 d2 k0 k1 f1
      go_wp2_with fail
      go_loopw [33] (fun x wr => ∃ k : Nat, x = .int .i64 k ∧ k ≤ l + 1 ∧ (∀ j, j < k → opOkF nf kid i ((kid i).op j) = true) ∧ Below W.heap.size W wr) (fun x _ => l + 1 - (intOf x).toNat)
      case atStart => exact ⟨0, rfl, Nat.zero_le _, fun j hj => absurd hj (Nat.not_lt_zero _), HB1.out⟩
      case round =>
        obtain ⟨k, rfl, hk, hdone, hbel⟩ := hrel
        have HBR : Hid (Below W.heap.size W wr) := hbel
        have HDN : Hid (∀ j, j < k → opOkF nf kid i ((kid i).op j) = true) := hdone
        clear hbel hdone
        by_cases hlt : (k : Int) < (l + 1 : Nat)
        · have hlt' : k < l + 1 := by omega
          obtain ⟨g2, q2, hp2, hh2⟩ := HOP.out k hlt'
          injection hp2 with hp2
          injection hp2 with e1 e2 _
          subst e1 e2
          obtain ⟨d0, d1, d2⟩ := hh2.below HBR.out
          obtain ⟨V, hV⟩ : ∃ V, V = wr.alloc (.cells #[.int .i64 ((kid i).op k).c, .int .i64 ((kid i).op k).n, .int .i64 ((kid i).op k).m] 26) := ⟨_, rfl⟩
          have bV : Below W.heap.size W V := by rw [hV]; exact HBR.out.trans ((newb wr _).mono HBR.out.size)
          have HBV : Hid (Below W.heap.size W V) := bV
          have hv : V.heap[wr.heap.size]? = some (.cells #[.int .i64 ((kid i).op k).c, .int .i64 ((kid i).op k).n, .int .i64 ((kid i).op k).m] 26 (0, 0)) := by rw [hV]; exact heap_alloc_new wr _
          obtain ⟨k0, k1⟩ := HKC.out V bV
          have v0 : V.cell? ⟨wr.heap.size, 0, none⟩ = some (.int .i64 ((kid i).op k).c) := cell_of_row V _ 0 _ _ _ hv
          have v1 : V.cell? ⟨wr.heap.size, 1, none⟩ = some (.int .i64 ((kid i).op k).n) := cell_of_row V _ 1 _ _ _ hv
          have v2 : V.cell? ⟨wr.heap.size, 2, none⟩ = some (.int .i64 ((kid i).op k).m) := cell_of_row V _ 2 _ _ _ hv
          have HVV : Hid (V = wr.alloc (.cells #[.int .i64 ((kid i).op k).c, .int .i64 ((kid i).op k).n, .int .i64 ((kid i).op k).m] 26)) := hV
          have HCL := HOK.out ((kid i).op k) V bV
          have HC2 : Hid (Calls Tryd.prog 51 #[.agg #[.slice (some ⟨b, o, none⟩) nf cl, .int .i64 i], .agg #[.int .i64 ((kid i).op k).c, .int .i64 ((kid i).op k).n, .int .i64 ((kid i).op k).m]] V fun e w' => e = .returned (.bool (opOkF nf kid i ((kid i).op k))) ∧ Below V.heap.size V w') := HCL
          clear HCL hv hV bV hh2
          cases hok : opOkF nf kid i ((kid i).op k) with
          | false =>
            rw [hok] at HC2
            have HR2 : Hid (R = false) := bool_no HR.out (fun h => by have := h.2.2 k (by rw [HLL.out]; exact hlt'); rw [hok] at this; cases this)
            clear hok
            go_upto_region 7 with fail
            rw [← HVV.out]
            go_wp2_with fail
            refine HC2.out.mono ?_
            rintro e w2 ⟨rfl, hb2⟩
            have HB2 : Hid (Below w.heap.size w w2) := HBL.out.trans ((HBV.out.trans (hb2.mono HBV.out.size)).mono HBL.out.size)
            clear hb2
            go_wp2_with fail
            go_ret
            exact ⟨by rw [HR2.out]; rfl, HB2.out⟩
          | true =>
            rw [hok] at HC2
            have HD2 : Hid (∀ j, j < k + 1 → opOkF nf kid i ((kid i).op j) = true) := fun j hj => by
              rcases Nat.lt_or_ge j k with h | h
              · exact HDN.out j h
              · obtain rfl : j = k := by omega
                exact hok
            clear hok
            go_upto_region 7 with fail
            rw [← HVV.out]
            go_wp2_with fail
            refine HC2.out.mono ?_
            rintro e w2 ⟨rfl, hb2⟩
            have HB2 : Hid (Below W.heap.size W w2) := HBV.out.trans (hb2.mono HBV.out.size)
            clear hb2
            go_wp2_with fail
            go_roundw
            case rel => exact ⟨k + 1, by go_num, by omega, HD2.out, HB2.out⟩
            case measure => simp [intOf]; omega
        · have hke : k = l + 1 := by omega
          subst hke
          have HR2 : Hid (R = true) := HYE2.out HDN.out
          go_wp2_with fail
          go_ret
          exact ⟨by rw [HR2.out]; rfl, HBL.out.trans (HBR.out.mono HBL.out.size)⟩
  · have HR2 : Hid (R = false) := bool_no HR.out (fun h => hx (by have := h.1; rw [HLL.out] at this; exact this))
    by_cases hx1 : (L : Int) < 1
    · clear hx HOP
      go_enter Tryd.func43, Tryd.ntmps43
      go_upto_region 1 with fail
      rw [← HWW.out.1, ← HWW.out.2]
      go_wp2_with fail
      go_ret
      exact ⟨by rw [HR2.out]; rfl, HBL.out⟩
    · have hx2 : (3000 : Int) < L := by omega
      clear hx HOP
      go_enter Tryd.func43, Tryd.ntmps43
      go_upto_region 1 with fail
      rw [← HWW.out.1, ← HWW.out.2]
      go_wp2_with fail
      go_ret
      exact ⟨by rw [HR2.out]; rfl, HBL.out⟩
end Go.Proofs.YtkbbfgfmlilfbaaDoor

/- impl.FunsOk at every list of functions. Condition: the table of names reads as its text lays it. -/
namespace Go.Proofs.YtkbbfgfmlilfbaaDoor
open Go.ChangeShapes Go.WideShapes Go.ChangeAt Go.RowKit

set_option maxRecDepth 100000 in
set_option maxHeartbeats 8000000 in
theorem impl_funs_ok (nf : Nat) (kid : Nat → Fu) (w : World) (v : Value) (hv : Fl w nf kid v) (ht : NameTab w) (R : Bool) (hR : R = true ↔ FunsP nf kid) :
    Calls Tryd.prog 27 #[v] w fun e w' => e = .returned (.bool R) ∧ Below w.heap.size w w' := by
  have HR : Hid (R = true ↔ FunsP nf kid) := hR
  have HT : Hid (∀ wx, Below w.heap.size w wx → NameTab wx) := fun wx h => ht.below h
  clear hR ht
  by_cases hx : 1 ≤ nf ∧ nf ≤ 60
  · obtain ⟨b, o, cl, e, hall⟩ := hv.all_at hx.1
    subst e
    have HALL : Hid (∀ i, i < nf → ∃ pu cu, FunsAt w nf kid i b o cl pu cu) := hall
    obtain ⟨pu0, cu0, hF0⟩ := hall 0 (by omega)
    have c0 := hF0.fr 0 (by omega)
    simp only [Nat.zero_mul, Nat.add_zero] at c0
    have hn0 : (0 : Int) < nf := by omega
    have hx1 : ¬ (nf : Int) < 1 := by omega
    have hx2 : ¬ (60 : Int) < nf := by omega
    clear hv hall hF0
    by_cases h0 : (kid 0).fr = 0
    · have HFR0 : Hid ((kid 0).fr = 0) := h0
      rw [h0] at c0
      clear h0
      go_enter Tryd.func27, Tryd.ntmps27
      go_wp2_with fail
      go_loopw [23] (fun x wr => ∃ k : Nat, x = .int .i64 k ∧ k ≤ nf ∧ (∀ j, j < k → belB (kid j).fr 21 = true ∧ PlacesP nf kid j) ∧ Below w.heap.size w wr) (fun x _ => nf - (intOf x).toNat)
      case atStart => exact ⟨0, rfl, Nat.zero_le _, fun j hj => absurd hj (Nat.not_lt_zero _), Below.refl _ _⟩
      case round =>
        obtain ⟨k, rfl, hk, hdone, hbel⟩ := hrel
        have HBL : Hid (Below w.heap.size w wr) := hbel
        have HDN : Hid (∀ j, j < k → belB (kid j).fr 21 = true ∧ PlacesP nf kid j) := hdone
        clear hbel hdone c0
        by_cases hlt : (k : Int) < nf
        · have hlt' : k < nf := by omega
          obtain ⟨pu, cu, hF⟩ := HALL.out k hlt'
          have f0 := (hF.below HBL.out).fr k hlt'
          have f1 := (hF.below HBL.out).sl
          obtain ⟨V, hV⟩ : ∃ V, V = (wr.alloc (.cells #[.int .i64 (kid k).fr, .slice pu (kid k).len cu] 54)).alloc (.cells #[.slice (some ⟨b, o, none⟩) nf cl, .int .i64 k] 72) := ⟨_, rfl⟩
          obtain ⟨G, hG⟩ : ∃ G, G = wr.heap.size := ⟨_, rfl⟩
          have bV : Below wr.heap.size wr V := by rw [hV]; exact (newb wr _).trans ((newb _ _).mono (by simp))
          have HBV : Hid (Below w.heap.size w V) := HBL.out.trans (bV.mono HBL.out.size)
          have hbx : V.heap[G]? = some (.cells #[.int .i64 (kid k).fr, .slice pu (kid k).len cu] 54 (0, 0)) := by
            rw [hV, hG, Below.heap_alloc _ _ _ (by simp)]; exact heap_alloc_new wr _
          have hby : V.heap[G + 1]? = some (.cells #[.slice (some ⟨b, o, none⟩) nf cl, .int .i64 k] 72 (0, 0)) := by
            rw [hV, hG]
            have := heap_alloc_new (wr.alloc (.cells #[.int .i64 (kid k).fr, .slice pu (kid k).len cu] 54)) (.cells #[.slice (some ⟨b, o, none⟩) nf cl, .int .i64 k] 72)
            simpa using this
          have g0 : V.cell? ⟨G, 0, none⟩ = some (.int .i64 (kid k).fr) := cell_of_row V G 0 _ _ _ hbx
          have g1 : V.cell? ⟨G + 1, 0, none⟩ = some (.slice (some ⟨b, o, none⟩) nf cl) := cell_of_row V (G + 1) 0 _ _ _ hby
          have g2 : V.cell? ⟨G + 1, 1, none⟩ = some (.int .i64 k) := cell_of_row V (G + 1) 1 _ _ _ hby
          have HVV : Hid (V = (wr.alloc (.cells #[.int .i64 (kid k).fr, .slice pu (kid k).len cu] 54)).alloc (.cells #[.slice (some ⟨b, o, none⟩) nf cl, .int .i64 k] 72) ∧ G = wr.heap.size) := ⟨hV, hG⟩
          have HPL : Hid (∀ B, (B = true ↔ PlacesP nf kid k) → Calls Tryd.prog 43 #[.agg #[.slice (some ⟨b, o, none⟩) nf cl, .int .i64 k]] V fun e w' => e = .returned (.bool B) ∧ Below V.heap.size V w') :=
            fun B hB => places_ok nf kid k hlt' V b o cl pu cu (hF.below HBV.out) (HT.out V HBV.out) B hB
          have HIB : Hid (∀ w, Calls Tryd.prog 28 #[.int .i64 (kid k).fr, .int .i64 21] w fun e w' => e = .returned (.bool (belB (kid k).fr 21)) ∧ w' = w) := fun w => is_below _ _ _ rfl w
          clear hbx hby hV hG bV hF
          generalize (kid k).len = L at *
          cases hb1 : belB (kid k).fr 21 with
          | false =>
            have HR2 : Hid (R = false) := bool_no HR.out (fun h => by have := (h.2.2 k hlt').1; rw [hb1] at this; cases this)
            rw [hb1] at HIB
            clear hb1 HPL
            generalize (kid k).fr = F at *
            go_upto_region 7 with fail
            rw [← HVV.out.1, ← HVV.out.2]
            go_wp2_with (go_at_call 28; refine (HIB.out _).mono ?_; rintro e w1 ⟨rfl, rfl⟩)
            go_ret
            exact ⟨by rw [HR2.out]; rfl, HBV.out⟩
          | true =>
            have HFRK : Hid (belB (kid k).fr 21 = true) := hb1
            rw [hb1] at HIB
            clear hb1
            by_cases hpl : PlacesP nf kid k
            · have HP : Hid (Calls Tryd.prog 43 #[.agg #[.slice (some ⟨b, o, none⟩) nf cl, .int .i64 k]] V fun e w' => e = .returned (.bool true) ∧ Below V.heap.size V w') := HPL.out true ⟨fun _ => hpl, fun _ => rfl⟩
              have HD2 : Hid (∀ j, j < k + 1 → belB (kid j).fr 21 = true ∧ PlacesP nf kid j) := fun j hj => by
                rcases Nat.lt_or_ge j k with h | h
                · exact HDN.out j h
                · obtain rfl : j = k := by omega
                  exact ⟨HFRK.out, hpl⟩
              clear hpl HPL HFRK
              generalize (kid k).fr = F at *
              go_upto_region 7 with fail
              rw [← HVV.out.1, ← HVV.out.2]
              go_wp2_with (go_at_call 28; refine (HIB.out _).mono ?_; rintro e w1 ⟨rfl, hw1⟩; obtain rfl : V = w1 := hw1.symm)
              refine HP.out.mono ?_
              rintro e w2 ⟨rfl, hb2⟩
              have HB2 : Hid (Below w.heap.size w w2) := HBV.out.trans (hb2.mono HBV.out.size)
              clear hb2
              go_wp2_with fail
              go_roundw
              case rel => exact ⟨k + 1, by go_num, by omega, HD2.out, HB2.out⟩
              case measure => simp [intOf]; omega
            · have HP : Hid (Calls Tryd.prog 43 #[.agg #[.slice (some ⟨b, o, none⟩) nf cl, .int .i64 k]] V fun e w' => e = .returned (.bool false) ∧ Below V.heap.size V w') := HPL.out false ⟨fun h => (by cases h), fun h => absurd h hpl⟩
              have HR2 : Hid (R = false) := bool_no HR.out (fun h => hpl (h.2.2 k hlt').2)
              clear hpl HPL HFRK
              generalize (kid k).fr = F at *
              go_upto_region 7 with fail
              rw [← HVV.out.1, ← HVV.out.2]
              go_wp2_with (go_at_call 28; refine (HIB.out _).mono ?_; rintro e w1 ⟨rfl, hw1⟩; obtain rfl : V = w1 := hw1.symm)
              refine HP.out.mono ?_
              rintro e w2 ⟨rfl, hb2⟩
              have HB2 : Hid (Below w.heap.size w w2) := HBV.out.trans (hb2.mono HBV.out.size)
              clear hb2
              go_wp2_with fail
              go_ret
              exact ⟨by rw [HR2.out]; rfl, HB2.out⟩
        · have hke : k = nf := by omega
          subst hke
          have HR2 : Hid (R = true) := bool_yes HR.out ⟨hx, HFR0.out, HDN.out⟩
          go_wp2_with fail
          go_ret
          exact ⟨by rw [HR2.out]; rfl, HBL.out⟩
    · have HR2 : Hid (R = false) := bool_no HR.out (fun h => h0 h.2.1)
      have g0 : ((kid 0).fr != 0) = true := by simpa using h0
      clear h0
      generalize (kid 0).fr = F at *
      go_enter Tryd.func27, Tryd.ntmps27
      go_wp2_with fail
      go_ret
      exact ⟨by rw [HR2.out]; rfl, Below.refl _ _⟩
  · obtain ⟨p, cap, e, hm, -⟩ := hv.at
    subst e
    unfold maxLen at hm
    have HR2 : Hid (R = false) := bool_no HR.out (fun h => hx h.1)
    by_cases hx1 : (nf : Int) < 1
    · clear hx
      go_enter Tryd.func27, Tryd.ntmps27
      go_wp2_with fail
      go_ret
      exact ⟨by rw [HR2.out]; rfl, Below.refl _ _⟩
    · have hx2 : (60 : Int) < nf := by omega
      clear hx
      go_enter Tryd.func27, Tryd.ntmps27
      go_wp2_with fail
      go_ret
      exact ⟨by rw [HR2.out]; rfl, Below.refl _ _⟩
end Go.Proofs.YtkbbfgfmlilfbaaDoor

/- spec.Verify at every list of functions: whether all places of all functions are right. Condition: the list is not too long. -/
namespace Go.Proofs.YtkbbfgfmlilfbaaDoor
open Go.ChangeShapes Go.WideShapes Go.ChangeAt Go.RowKit

/-- What Verify tells. -/
def VerP (nf : Nat) (kid : Nat → Fu) : Prop := FunsP nf kid ∧ ∀ i, i < nf → DepOk (kid i)

set_option maxRecDepth 100000 in
set_option maxHeartbeats 4000000 in
theorem spec_verify15 (nf : Nat) (kid : Nat → Fu) (w : World) (v : Value) (hv : Fl w nf kid v) (hnf : nf ≤ 1048576) (R : Bool) (hR : R = true ↔ VerP nf kid) :
    Calls Tryd.prog 18 #[v] w fun e w' => e = .returned (.bool R) ∧ Below w.heap.size w w' := by
  have HV : Hid (∀ w1, Below w.heap.size w w1 → Fl w1 nf kid v) := fun w1 h => hv.below h
  obtain ⟨p, cap, ev⟩ := hv.shape
  have HR : Hid (R = true ↔ VerP nf kid) := hR
  clear hv hR
  subst ev
  go_enter Tryd.func18, Tryd.ntmps18
  go_wp2_with fail
  go_loopw [3] (fun x wr => ∃ k : Nat, x = .int .i64 k ∧ k ≤ nf ∧ (∀ i, i < k → FunsP nf kid ∧ DepOk (kid i)) ∧ Below w.heap.size w wr) (fun x _ => nf - (intOf x).toNat)
  case atStart => exact ⟨0, rfl, Nat.zero_le _, fun i hi => absurd hi (Nat.not_lt_zero _), Below.refl _ _⟩
  case round =>
    obtain ⟨k, rfl, hk, hdone, hbel⟩ := hrel
    have HBL : Hid (Below w.heap.size w wr) := hbel
    have HDN : Hid (∀ i, i < k → FunsP nf kid ∧ DepOk (kid i)) := hdone
    clear hbel hdone
    by_cases hlt : (k : Int) < nf
    · have hlt' : k < nf := by omega
      have HCL : Hid (Calls Tryd.prog 10 #[.slice p nf cap, .int .i64 k] wr (DepsPost nf kid (k : Int) wr)) := spec_depths15 nf kid k wr _ (HV.out _ HBL.out) hnf
      go_wp2_with fail
      refine HCL.out.mono ?_
      rintro e w2 ⟨u, b, D, rfl, hb2, -, hd⟩
      have HB2 : Hid (Below w.heap.size w w2) := HBL.out.trans (hb2.mono HBL.out.size)
      unfold DepsOf at hd
      rw [Int.toNat_natCast] at hd
      clear hb2 HCL
      rcases hd with ⟨rfl, ⟨h1, _, _, h2⟩, _⟩ | ⟨rfl, h1, _⟩
      · have HD2 : Hid (FunsP nf kid ∧ DepOk (kid k)) := ⟨h1, h2⟩
        clear h1 h2
        go_wp2_with fail
        go_roundw
        case rel => exact ⟨k + 1, by go_num, by omega, fun i hi => by
          rcases Nat.lt_or_ge i k with h | h
          · exact HDN.out i h
          · obtain rfl : i = k := by omega
            exact HD2.out, HB2.out⟩
        case measure => simp [intOf]; omega
      · have HR2 : Hid (R = false) := by
          show _ = _
          cases R with
          | false => rfl
          | true => exact absurd ⟨(HR.out.1 rfl).1, by omega, by omega, (HR.out.1 rfl).2 k hlt'⟩ h1
        clear h1
        go_wp2_with fail
        go_ret
        exact ⟨by rw [HR2.out]; rfl, HB2.out⟩
    · have hke : k = nf := by omega
      subst hke
      have HFO : Hid (Calls Tryd.prog 22 #[.slice p k cap] wr fun e w' => e = .returned (.bool R) ∧ Below wr.heap.size wr w') := spec_funs_ok k kid wr _ (HV.out _ HBL.out) R ⟨fun h => (HR.out.1 h).1, fun h => HR.out.2 ⟨h, fun i hi => (HDN.out i hi).2⟩⟩
      go_wp2_with fail
      refine HFO.out.mono ?_
      rintro e w2 ⟨rfl, hb2⟩
      have HB2 : Hid (Below w.heap.size w w2) := HBL.out.trans (hb2.mono HBL.out.size)
      clear hb2
      go_wp2_with fail
      go_ret
      exact ⟨rfl, HB2.out⟩
end Go.Proofs.YtkbbfgfmlilfbaaDoor

/- impl.Depths and impl.Verify at every list of functions. Conditions: the list is not too long; the table of names reads as its text lays it. -/
namespace Go.Proofs.YtkbbfgfmlilfbaaDoor
open Go.ChangeShapes Go.WideShapes Go.ChangeAt Go.RowKit

theorem depths_of_right {nf : Nat} {kid : Nat → Fu} (h : FunsP nf kid) {j : Nat} (hj : j < nf) (w : World) (vl : Value) (fr : Int) (hv : Ol w (kid j).len (kid j).op vl) (ht : NameTab w) :
    Calls Tryd.prog 29 #[.agg #[.int .i64 fr, vl]] w (DPost (kid j) w) := by
  obtain ⟨⟨h1, h2⟩, h3⟩ := ops_right h hj
  exact impl_depths_of15 (kid j) fr w vl hv ht h1 h2 (fun k hk => ⟨⟨(h3 k hk).1, (ops_more h hj k hk).1⟩, fun s hs => ⟨(h3 k hk).2 s hs, (ops_more h hj k hk).2 s hs⟩⟩)

set_option maxRecDepth 100000 in
set_option maxHeartbeats 8000000 in
theorem impl_depths15 (nf : Nat) (kid : Nat → Fu) (i : Int) (w : World) (v : Value) (hv : Fl w nf kid v) (ht : NameTab w) :
    Calls Tryd.prog 12 #[v, .int .i64 i] w (DepsPost nf kid i w) := by
  obtain ⟨p, cap, ev, hlm, hat⟩ := hv.at
  obtain ⟨POST, hPO⟩ : ∃ POST, POST = DepsPost nf kid i w := ⟨_, rfl⟩
  rw [← hPO]
  have HFO : Hid (∀ R, (R = true ↔ FunsP nf kid) → Calls Tryd.prog 27 #[v] w fun e w' => e = .returned (.bool R) ∧ Below w.heap.size w w') := fun R h => impl_funs_ok nf kid w v hv ht R h
  have HTB : Hid (∀ w1, Below w.heap.size w w1 → NameTab w1) := fun w1 h => ht.below h
  unfold maxLen at hlm
  have HNO : Hid (¬ (FunsP nf kid ∧ 0 ≤ i ∧ i < nf ∧ DepOk (kid i.toNat)) → ∀ w', Below w.heap.size w w' → POST (.returned (.tuple #[.slice none 0 0, .bool false])) w') := fun h w' hb => by
    rw [hPO]
    exact ⟨_, false, [], rfl, hb, ⟨rfl, .inl ⟨rfl, rfl⟩⟩, .inr ⟨rfl, h, rfl⟩⟩
  by_cases hF : FunsP nf kid
  · have HF : Hid (Calls Tryd.prog 27 #[v] w fun e w' => e = .returned (.bool true) ∧ Below w.heap.size w w') := HFO.out true ⟨fun _ => hF, fun _ => rfl⟩
    by_cases hI : 0 ≤ i ∧ i < nf
    · obtain ⟨j, rfl⟩ : ∃ j : Nat, i = j := ⟨i.toNat, by omega⟩
      have hj : j < nf := by omega
      obtain ⟨b, o, u, ep, hd, hin⟩ := hat j hj
      obtain ⟨pu, cu, eu⟩ := hin.2.shape
      have HD : Hid (∀ wx, Below w.heap.size w wx → wx.cell? ⟨b, o + j * 2, none⟩ = some (.int .i64 (kid j).fr) ∧ wx.cell? ⟨b, o + j * 2 + 1, none⟩ = some (.slice pu (kid j).len cu)) := fun wx h => by rw [← eu]; exact ⟨(hd.below h).c0, (hd.below h).c1⟩
      have HCL : Hid (∀ wx, Below w.heap.size w wx → Calls Tryd.prog 29 #[.agg #[.int .i64 (kid j).fr, .slice pu (kid j).len cu]] wx (DPost (kid j) wx)) := fun wx h => depths_of_right hF hj wx _ _ (by rw [← eu]; exact hin.2.below h) (HTB.out wx h)
      have HIB : Hid (∀ w, Calls Tryd.prog 28 #[.int .i64 (j : Int), .int .i64 (nf : Int)] w fun r w' => r = .returned (.bool true) ∧ w = w') := fun w => (is_below j nf true (by rw [decide_eq_true hI.1, decide_eq_true hI.2]; rfl) w).mono fun e w' ⟨a, b⟩ => ⟨a, b.symm⟩
      have HFI : Hid (∀ u b D w' w1, Below w.heap.size w w1 → Below w1.heap.size w1 w' → w'.ownsRow w1.heap.size 3 1 u D.length (D.map (Value.int .i64)) → ((b = true ∧ DepOk (kid j) ∧ DepL (kid j) D) ∨ (b = false ∧ ¬ DepOk (kid j) ∧ D = [])) → POST (.returned (.tuple #[u, .bool b])) w') := fun u b D w' w1 hb1 hb2 ho hq => by
        rw [hPO]
        refine ⟨u, b, D, rfl, hb1.trans (hb2.mono hb1.size), own_baseV ho hb1.size, ?_⟩
        unfold DepsOf
        rw [Int.toNat_natCast]
        rcases hq with ⟨h1, h2, h3⟩ | ⟨h1, h2, h3⟩
        · exact .inl ⟨h1, ⟨hF, by omega, by omega, h2⟩, h3⟩
        · exact .inr ⟨h1, fun h => h2 h.2.2.2, h3⟩
      have hji : (j : Int) < nf := hI.2
      clear hv hat hd hin hPO hI eu HFO HNO HTB ht
      generalize kid j = f at *
      generalize f.len = fl at *
      generalize f.fr = ff at *
      subst ev ep
      go_enter Tryd.func12, Tryd.ntmps12
      go_wp2_with fail
      refine HF.out.mono ?_
      rintro e w1 ⟨rfl, hb1⟩
      have HB1 : Hid (Below w.heap.size w w1) := hb1
      clear hb1 HF
      go_wp2_with fail
      refine (HIB.out w1).mono ?_
      rintro e w2 ⟨rfl, rfl⟩
      obtain ⟨c0, c1⟩ := HD.out w1 HB1.out
      have HC1 := HCL.out w1 HB1.out
      go_wp2_with fail
      refine HC1.mono ?_
      rintro e w3 ⟨u, b, D, rfl, hb3, ho3, hq⟩
      have HE := hid_of1 (HFI.out u b D w3 w1 HB1.out hb3 ho3 hq)
      obtain ⟨pv, cv, epv⟩ := own_shapeV ho3
      subst epv
      clear hb3 ho3 hq HC1
      go_wp2_with fail
      first
        | exact HE.out
        | (go_ret2; exact HE.out)
    · have HE := hid_of1 (HNO.out (fun h => hI ⟨h.2.1, h.2.2.1⟩))
      have HIB : Hid (∀ w, Calls Tryd.prog 28 #[.int .i64 i, .int .i64 (nf : Int)] w fun r w' => r = .returned (.bool false) ∧ w = w') := fun w => (is_below i nf false (by
        by_cases h0 : 0 ≤ i
        · rw [decide_eq_false (show ¬ i < nf from fun h => hI ⟨h0, h⟩)]; simp
        · rw [decide_eq_false h0]; rfl) w).mono fun e w' ⟨a, b⟩ => ⟨a, b.symm⟩
      clear hv hat hPO HFO HNO HTB ht hI
      subst ev
      go_enter Tryd.func12, Tryd.ntmps12
      go_wp2_with fail
      refine HF.out.mono ?_
      rintro e w1 ⟨rfl, hb1⟩
      have HE1 := hid_of1 (HE.out w1 hb1)
      clear hb1 HF HE
      go_wp2_with fail
      refine (HIB.out w1).mono ?_
      rintro e w2 ⟨rfl, rfl⟩
      go_wp2_with fail
      first
        | exact HE1.out
        | (go_ret2; exact HE1.out)
  · have HF : Hid (Calls Tryd.prog 27 #[v] w fun e w' => e = .returned (.bool false) ∧ Below w.heap.size w w') := HFO.out false ⟨fun h => (by cases h), fun h => absurd h hF⟩
    have HE := hid_of1 (HNO.out (fun h => hF h.1))
    clear hv hat hPO HFO HNO HTB ht hF
    subst ev
    go_enter Tryd.func12, Tryd.ntmps12
    go_wp2_with fail
    refine HF.out.mono ?_
    rintro e w1 ⟨rfl, hb1⟩
    have HE1 := hid_of1 (HE.out w1 hb1)
    clear hb1 HF HE
    go_wp2_with fail
    first
      | exact HE1.out
      | (go_ret2; exact HE1.out)

set_option maxRecDepth 100000 in
set_option maxHeartbeats 8000000 in
theorem impl_verify15 (nf : Nat) (kid : Nat → Fu) (w : World) (v : Value) (hv : Fl w nf kid v) (ht : NameTab w) (R : Bool) (hR : R = true ↔ VerP nf kid) :
    Calls Tryd.prog 19 #[v] w fun e w' => e = .returned (.bool R) ∧ Below w.heap.size w w' := by
  obtain ⟨p, cap, ev, hlm, hat⟩ := hv.at
  have HR : Hid (R = true ↔ VerP nf kid) := hR
  have HFO : Hid (∀ R, (R = true ↔ FunsP nf kid) → Calls Tryd.prog 27 #[v] w fun e w' => e = .returned (.bool R) ∧ Below w.heap.size w w') := fun R h => impl_funs_ok nf kid w v hv ht R h
  have HTB : Hid (∀ w1, Below w.heap.size w w1 → NameTab w1) := fun w1 h => ht.below h
  have HAT : Hid (∀ i, i < nf → ∃ b o u, p = some ⟨b, o, none⟩ ∧ HeadF w b (o + i * 2) (kid i) u ∧ (kid i).InB 0 w u) := hat
  unfold maxLen at hlm
  clear hR hv hat ht
  by_cases hF : FunsP nf kid
  · have HF : Hid (Calls Tryd.prog 27 #[v] w fun e w' => e = .returned (.bool true) ∧ Below w.heap.size w w') := HFO.out true ⟨fun _ => hF, fun _ => rfl⟩
    have HFP : Hid (FunsP nf kid) := hF
    clear HFO hF
    subst ev
    go_enter Tryd.func19, Tryd.ntmps19
    go_wp2_with fail
    refine HF.out.mono ?_
    rintro e w1 ⟨rfl, hb1⟩
    have HB1 : Hid (Below w.heap.size w w1) := hb1
    clear hb1 HF
    go_wp2_with fail
    go_loopw [12] (fun x wr => ∃ k : Nat, x = .int .i64 k ∧ k ≤ nf ∧ (∀ j, j < k → DepOk (kid j)) ∧ Below w.heap.size w wr) (fun x _ => nf - (intOf x).toNat)
    case atStart => exact ⟨0, rfl, Nat.zero_le _, fun j hj => absurd hj (Nat.not_lt_zero _), HB1.out⟩
    case round =>
      obtain ⟨k, rfl, hk, hdone, hbel⟩ := hrel
      have HBL : Hid (Below w.heap.size w wr) := hbel
      have HDN : Hid (∀ j, j < k → DepOk (kid j)) := hdone
      clear hbel hdone
      by_cases hlt : (k : Int) < nf
      · have hlt' : k < nf := by omega
        obtain ⟨b, o, u, ep, hd, hin⟩ := HAT.out k hlt'
        obtain ⟨pu, cu, eu⟩ := hin.2.shape
        obtain ⟨c0, c1⟩ := hd.below HBL.out
        have HCL : Hid (∀ wx, Below w.heap.size w wx → Calls Tryd.prog 29 #[.agg #[.int .i64 (kid k).fr, .slice pu (kid k).len cu]] wx (DPost (kid k) wx)) := fun wx h => depths_of_right HFP.out hlt' wx _ _ (by rw [← eu]; exact hin.2.below h) (HTB.out wx h)
        rw [eu] at c1
        obtain ⟨V, hV⟩ : ∃ V, V = wr.alloc (.cells #[.int .i64 (kid k).fr, .slice pu (kid k).len cu] 54) := ⟨_, rfl⟩
        obtain ⟨G, hG⟩ : ∃ G, G = wr.heap.size := ⟨_, rfl⟩
        have bV : Below wr.heap.size wr V := by rw [hV]; exact newb wr _
        have HBV : Hid (Below w.heap.size w V) := HBL.out.trans (bV.mono HBL.out.size)
        have hbx : V.heap[G]? = some (.cells #[.int .i64 (kid k).fr, .slice pu (kid k).len cu] 54 (0, 0)) := by rw [hV, hG]; exact heap_alloc_new wr _
        have g0 : V.cell? ⟨G, 0, none⟩ = some (.int .i64 (kid k).fr) := cell_of_row V G 0 _ _ _ hbx
        have g1 : V.cell? ⟨G, 1, none⟩ = some (.slice pu (kid k).len cu) := cell_of_row V G 1 _ _ _ hbx
        have HVV : Hid (V = wr.alloc (.cells #[.int .i64 (kid k).fr, .slice pu (kid k).len cu] 54) ∧ G = wr.heap.size) := ⟨hV, hG⟩
        have HCV := hid_of1 (HCL.out V HBV.out)
        clear hV hG bV hbx hd hin eu HCL
        generalize (kid k).len = fl at *
        generalize (kid k).fr = ff at *
        subst ep
        go_upto_region 6 with fail
        rw [← HVV.out.1, ← HVV.out.2]
        go_wp2_with fail
        refine HCV.out.mono ?_
        rintro e w3 ⟨u2, b2, D, rfl, hb3, -, hq⟩
        have HB3 : Hid (Below w.heap.size w w3) := HBV.out.trans (hb3.mono HBV.out.size)
        clear hb3 HCV
        rcases hq with ⟨rfl, h2, -⟩ | ⟨rfl, h2, -⟩
        · have HD2 : Hid (DepOk (kid k)) := h2
          clear h2
          go_wp2_with fail
          go_roundw
          case rel => exact ⟨k + 1, by go_num, by omega, fun j hj => by
            rcases Nat.lt_or_ge j k with h | h
            · exact HDN.out j h
            · obtain rfl : j = k := by omega
              exact HD2.out, HB3.out⟩
          case measure => simp [intOf]; omega
        · have HR2 : Hid (R = false) := by
            show _ = _
            cases R with
            | false => rfl
            | true => exact absurd ((HR.out.1 rfl).2 k hlt') h2
          clear h2
          go_wp2_with fail
          first
            | exact ⟨by rw [HR2.out]; rfl, HB3.out⟩
            | (go_ret; exact ⟨by rw [HR2.out]; rfl, HB3.out⟩)
      · have hke : k = nf := by omega
        subst hke
        have HR2 : Hid (R = true) := HR.out.2 ⟨HFP.out, HDN.out⟩
        go_wp2_with fail
        first
          | exact ⟨by rw [HR2.out]; rfl, HBL.out⟩
          | (go_ret; exact ⟨by rw [HR2.out]; rfl, HBL.out⟩)
  · have HF : Hid (Calls Tryd.prog 27 #[v] w fun e w' => e = .returned (.bool false) ∧ Below w.heap.size w w') := HFO.out false ⟨fun h => (by cases h), fun h => absurd h hF⟩
    have HR2 : Hid (R = false) := by
      show _ = _
      cases R with
      | false => rfl
      | true => exact absurd (HR.out.1 rfl).1 hF
    clear HFO hF
    subst ev
    go_enter Tryd.func19, Tryd.ntmps19
    go_wp2_with fail
    refine HF.out.mono ?_
    rintro e w1 ⟨rfl, hb1⟩
    have HB1 : Hid (Below w.heap.size w w1) := hb1
    clear hb1 HF
    go_wp2_with fail
    first
      | exact ⟨by rw [HR2.out]; rfl, HB1.out⟩
      | (go_ret; exact ⟨by rw [HR2.out]; rfl, HB1.out⟩)
end Go.Proofs.YtkbbfgfmlilfbaaDoor

/- laws.FnExactDepths: the walk, over a premise on impl.Depths. -/
namespace Go.Proofs.YtkbbfgfmlilfbaaDoor.fnExactDepths
open Go.ChangeShapes Go.WideShapes Go.ChangeAt Go.RowKit

/-- What the program must answer, in worlds in which its tables read so (T). -/
def ImplDepths (T : World → Prop) : Prop := ∀ (nf : Nat) (kid : Nat → Fu) (i : Int) (w : World) (v : Value), Fl w nf kid v → nf ≤ 1048576 → T w → Calls Tryd.prog 12 #[v, .int .i64 i] w (DepsPost nf kid i w)

/-- What is told is told once. -/
theorem deps_same {nf : Nat} {kid : Nat → Fu} {i : Int} {b b' : Bool} {D D' : List Int} (h : DepsOf nf kid i b D) (h' : DepsOf nf kid i b' D') : b' = b ∧ D' = D := by
  rcases h with ⟨rfl, h1, h2⟩ | ⟨rfl, h1, rfl⟩ <;> rcases h' with ⟨rfl, k1, k2⟩ | ⟨rfl, k1, rfl⟩
  · exact ⟨rfl, k2.same h1.2.2.2 h2⟩
  · exact absurd h1 k1
  · exact absurd k1 h1
  · exact ⟨rfl, rfl⟩
theorem deps_len {nf : Nat} {kid : Nat → Fu} {i : Int} {b : Bool} {D : List Int} (h : DepsOf nf kid i b D) : D.length ≤ 3000 := by
  rcases h with ⟨_, ⟨h1, h2, h3, _⟩, h4⟩ | ⟨_, _, rfl⟩
  · rw [h4.1]
    exact (ops_right h1 (i := i.toNat) (by omega)).1.2
  · exact Nat.zero_le _
theorem rd_kept {w w' : World} {v : Value} {xs : List Int} (h : Rd w v xs) (hk : ∀ k, k < w.heap.size → w'.heap[k]? = w.heap[k]?) : Rd w' v xs := by
  rcases h with h | ⟨b, off, cap, rfl, hl, hc⟩
  · exact .inl h
  · exact .inr ⟨b, off, cap, rfl, hl, fun j hj => (World.cell?_of_block (w := w) (hk b (World.block_lt_of_cell? w _ (hc j hj)))).trans (hc j hj)⟩
theorem funs_most {nf : Nat} {kid : Nat → Fu} (h : funsWeight nf kid ≤ 1048576) : ∀ j, j ≤ nf → 1 + cntF15 kid j ≤ 1099511627776 := by
  have key : ∀ j, cntF15 kid j ≤ j + 3 * sumF (fun i => (kid i).weight) j := by
    intro j
    induction j with
    | zero => exact Nat.zero_le _
    | succ j ih =>
      have e : (kid j).weight = (kid j).len := rfl
      simp only [cntF15, sumF]
      omega
  have mono : ∀ m j, j ≤ m → sumF (fun i => (kid i).weight) j ≤ sumF (fun i => (kid i).weight) m := by
    intro m
    induction m with
    | zero => intro j hj; obtain rfl : j = 0 := by omega
              exact Nat.le_refl _
    | succ m ih =>
      intro j hj
      rcases Nat.lt_or_ge j (m + 1) with h1 | h1
      · have := ih j (by omega); simp only [sumF]; omega
      · obtain rfl : j = m + 1 := by omega
        exact Nat.le_refl _
  intro j hj
  have h1 := key j
  have h2 := mono nf j hj
  unfold funsWeight at h
  omega
theorem mk_belowD {B C : Nat} {w0 w w' : World} (hb : Below w0.heap.size w0 w) (hB : w0.heap.size ≤ B) (k : MK B C w w') : Below w0.heap.size w0 w' :=
  ⟨k.os.trans hb.os, k.tape.trans hb.tape, k.output.trans hb.output, Nat.le_trans hb.size k.size, fun j hj => (k.block j (Nat.lt_of_lt_of_le hj hb.size) (.inl (by omega))).trans (hb.block j hj)⟩
theorem own_belowD {w w' : World} {B : Nat} {v : Value} {xs : List Int} (h : Own w B v xs) (hk : ∀ k, B ≤ k → k < w.heap.size → w'.heap[k]? = w.heap[k]?) : Own w' B v xs :=
  own_keepV h (fun g e => hk g (own_betweenV h e).1 (own_betweenV h e).2)

set_option maxRecDepth 100000 in
set_option maxHeartbeats 4000000 in
theorem walk {T : World → Prop} (himpl : ImplDepths T) (len : Nat) (kid : Nat → Fu) (i : Int) (v : Value) (w : World) (hv : Fl w len kid v) (ht : ∀ w1, Below w.heap.size w w1 → T w1) :
    Calls Tryd.prog 4 #[v, .int .i64 i] w fun e w' => e = .returned (.bool true) ∧ Below w.heap.size w w' := by
  obtain ⟨p, cap, ev⟩ := hv.shape
  have HV : Hid (∀ w1, Below w.heap.size w w1 → Fl w1 len kid v) := fun w1 h => hv.below h
  have HTB : Hid (∀ w1, Below w.heap.size w w1 → T w1) := ht
  have HIM : Hid (ImplDepths T) := himpl
  have hnf : funsWeight len kid ≤ 1048576 → len ≤ 1048576 := fun h => by unfold funsWeight at h; omega
  clear hv ht himpl
  subst ev
  by_cases h1 : funsWeight len kid ≤ 1048576
  · have E1 : Hid (szF 1048576 (funsWeight len kid) = ((1048576 - funsWeight len kid : Nat) : Int)) := szF_yes h1
    have H1 : Hid (funsWeight len kid ≤ 1048576) := h1
    have HNF : Hid (len ≤ 1048576) := hnf h1
    generalize 1048576 - funsWeight len kid = y1 at *
    clear h1 hnf
    go_enter Tryd.func4, Tryd.ntmps4
    go_wp2_with fail
    refine (sz_funs len kid w _ 1048576 (HV.out _ (Below.refl _ _)) (by omega)).mono ?_
    rintro e w1 ⟨rfl, hb1⟩
    rw [E1.out]
    have B1 : Hid (Below w.heap.size w w1) := hb1
    clear hb1
    go_wp2_with fail
    refine (to_funs len kid w1 _ (HV.out _ B1.out) H1.out).mono ?_
    rintro e w2 ⟨x, rfl, hb2, hx⟩
    have B2 : Hid (Below w.heap.size w w2) := B1.out.trans (hb2.mono B1.out.size)
    have HX : Hid (Fl w2 len kid x) := hx.all
    clear hb2 hx B1
    go_wp2_with fail
    refine (spec_depths15 len kid i w2 x HX.out HNF.out).mono ?_
    rintro e w3 ⟨u0, ok, D, rfl, hb3, hu0, hdo⟩
    have B3 : Hid (Below w.heap.size w w3) := B2.out.trans (hb3.mono B2.out.size)
    have HDO : Hid (DepsOf len kid i ok D) := hdo
    have HDL : Hid (D.length ≤ 3000) := deps_len hdo
    have HU3 : Hid (Rd w3 u0 D) := Own.rd hu0
    obtain ⟨pu, cu, eu⟩ := own_shapeV hu0
    clear hb3 B2 HX hu0 hdo
    subst eu
    go_wp2_with fail
    refine (to_funs_m len kid w3 _ (HV.out _ B3.out) H1.out).mono ?_
    rintro e w4 ⟨y, rfl, hb4, hy⟩
    have B4 : Hid (Below w.heap.size w w4) := B3.out.trans (hb4.mono B3.out.size)
    have B34 : Hid (Below w3.heap.size w3 w4) := hb4
    have HY : Hid (FlO w3.heap.size w4 len kid y) := hy
    clear hb4 hy
    go_wp2_with fail
    refine (HIM.out len kid i w4 y HY.out.1.all HNF.out (HTB.out _ B4.out)).mono ?_
    rintro e w5 ⟨g0, ok', D', rfl, hb5, hg0, hdo⟩
    obtain ⟨rfl, rfl⟩ := deps_same HDO.out hdo
    have B5 : Hid (Below w4.heap.size w4 w5) := hb5
    have HO5 : Hid (Own w5 w4.heap.size g0 D') := hg0
    obtain ⟨pg, cg, eg⟩ := own_shapeV hg0
    clear hb5 hg0 hdo
    subst eg
    have HEQ : Hid (∀ wx a b, Rd wx a D' → Rd wx b D' → Calls Tryd.prog 13 #[a, b] wx fun e w' => e = .returned (.bool true) ∧ Below wx.heap.size wx w') := fun wx a b h2 h3 => by
      have := eq_ints D' D' a b wx h2 h3 (by have := HDL.out; omega) (by have := HDL.out; omega)
      rwa [same_self] at this
    have HCE : Hid (Calls Tryd.prog 13 #[.slice pg D'.length cg, .slice pu D'.length cu] w5 fun e w' => e = .returned (.bool true) ∧ Below w5.heap.size w5 w') := HEQ.out w5 _ _ (Own.rd HO5.out) (HU3.out.below (B34.out.trans (B5.out.mono B34.out.size)))
    go_wp2_with fail
    refine HCE.out.mono ?_
    rintro e w6 ⟨rfl, hb6⟩
    have B6 : Hid (Below w4.heap.size w4 w6) := B5.out.trans (hb6.mono B5.out.size)
    have HO6 : Hid (Own w6 w4.heap.size (.slice pg D'.length cg) D') := own_belowD HO5.out (fun k _ h => hb6.block k h)
    clear hb6 HCE HO5 B5
    go_wp2_with fail
    refine (to_funs len kid w6 _ (HV.out _ (B4.out.trans (B6.out.mono B4.out.size))) H1.out).mono ?_
    rintro e w7 ⟨z, rfl, hb7, hz⟩
    have B7 : Hid (Below w4.heap.size w4 w7) := B6.out.trans (hb7.mono B6.out.size)
    have HO7 : Hid (Own w7 w4.heap.size (.slice pg D'.length cg) D') := own_belowD HO6.out (fun k _ h => hb7.block k h)
    have HYZ : Hid (Fl w7 len kid y ∧ Fl w7 len kid z) := ⟨HY.out.1.all.below B7.out, hz.all⟩
    clear hb7 hz B6 HO6
    go_wp2_with fail
    refine (eq_funs len kid w7 y z HYZ.out.1 HYZ.out.2).mono ?_
    rintro e w8 ⟨rfl, hb8⟩
    have B8 : Hid (Below w4.heap.size w4 w8) := B7.out.trans (hb8.mono B7.out.size)
    have HO8 : Hid (Own w8 w4.heap.size (.slice pg D'.length cg) D') := own_belowD HO7.out (fun k _ h => hb8.block k h)
    have HMB : Hid (MFl w3.heap.size w4.heap.size w8 len kid y) := HY.out.2.keep (MK.below B8.out (Nat.le_refl _))
    clear hb8 HYZ B7 HO7 HY
    have HMA : Hid (Calls Tryd.prog 15 #[y, .int .i64 1] w8 fun e w' => e = .returned (.int .i64 (1 + cntF15 kid len : Nat)) ∧ MK w3.heap.size w4.heap.size w8 w') := mark_funs_m w3.heap.size w4.heap.size w8 len kid y 1 HMB.out (funs_most H1.out)
    have hcm := funs_most H1.out len (Nat.le_refl _)
    generalize 1 + cntF15 kid len = CM at *
    go_wp2_with fail
    refine HMA.out.mono ?_
    rintro e w9 ⟨rfl, hk9⟩
    have HB8 : Hid (Below w.heap.size w w8) := B4.out.trans (B8.out.mono B4.out.size)
    have B9 : Hid (Below w.heap.size w w9) := mk_belowD HB8.out B3.out.size hk9
    have HO9 : Hid (Own w9 w4.heap.size (.slice pg D'.length cg) D') := own_belowD HO8.out (fun k h1 h2 => hk9.block k h2 (.inr h1))
    have HSZ9 : Hid (w4.heap.size ≤ w9.heap.size) := Nat.le_trans B8.out.size hk9.size
    have HU9 : Hid (∀ wx, (∀ k, k < w4.heap.size → wx.heap[k]? = w9.heap[k]?) → Rd wx (.slice pu D'.length cu) D') := fun wx hx => rd_kept HU3.out (fun k hk => by
      have a1 := B34.out.size
      have a2 := B8.out.size
      rw [hx k (by omega), hk9.block k (by omega) (.inl hk), B8.out.block k (by omega), B34.out.block k hk])
    clear hk9 HMA HMB B8 HO8 HB8 B34
    have HCE : Hid (Calls Tryd.prog 13 #[.slice pg D'.length cg, .slice pu D'.length cu] w9 fun e w' => e = .returned (.bool true) ∧ Below w9.heap.size w9 w') := HEQ.out w9 _ _ (Own.rd HO9.out) (HU9.out w9 (fun _ _ => rfl))
    go_wp2_with fail
    refine HCE.out.mono ?_
    rintro e w10 ⟨rfl, hb10⟩
    have B10 : Hid (Below w.heap.size w w10) := B9.out.trans (hb10.mono B9.out.size)
    have HO10 : Hid (Own w10 w4.heap.size (.slice pg D'.length cg) D') := own_belowD HO9.out (fun k _ h => hb10.block k h)
    have HU10 : Hid (∀ wx, (∀ k, k < w4.heap.size → wx.heap[k]? = w10.heap[k]?) → Rd wx (.slice pu D'.length cu) D') := fun wx hx => HU9.out wx (fun k hk => (hx k hk).trans (hb10.block k (Nat.lt_of_lt_of_le hk HSZ9.out)))
    have HSZ10 : Hid (w4.heap.size ≤ w10.heap.size) := Nat.le_trans HSZ9.out hb10.size
    clear hb10 HCE HU9 HO9 B9 HSZ9
    have hdl := HDL.out
    obtain ⟨M, hM⟩ : ∃ M, M = 1 + D'.length := ⟨_, rfl⟩
    have hM2 : M ≤ 3001 := by omega
    have HMF : Hid (Calls Tryd.prog 16 #[.slice pg D'.length cg, .int .i64 1] w10 fun e w' => e = .returned (.int .i64 (M : Nat)) ∧ Own w' w4.heap.size (.slice pg D'.length cg) (marksI 1 D'.length) ∧ w10.grownBy w' (Value.slice pg D'.length cg).ownBlock) := by
      rw [hM]; exact mark_ints _ w4.heap.size D' 1 w10 HO10.out (by omega) (by omega)
    have HHF : Hid (∀ wx, Rd wx (.slice pg D'.length cg) (marksI 1 D'.length) → Calls Tryd.prog 17 #[.slice pg D'.length cg, .int .i64 1] wx fun e w' => e = .returned (.int .i64 (M : Nat)) ∧ wx = w') := fun wx h => by
      rw [hM]
      exact (held_ints D'.length _ 1 wx h (by omega) (by omega)).mono fun e w' ⟨a, b⟩ => ⟨a, b.symm⟩
    clear hM
    go_wp2_with fail
    refine HMF.out.mono ?_
    rintro e w11 ⟨rfl, ho11, hk11⟩
    have hge : ∀ g, (Value.slice pg D'.length cg).ownBlock = some g → w4.heap.size ≤ g := fun g e => (own_betweenV HO10.out e).1
    have B11 : Hid (Below w.heap.size w w11) := ⟨hk11.os.trans B10.out.os, hk11.tape.trans B10.out.tape, hk11.output.trans B10.out.output, Nat.le_trans B10.out.size hk11.size, fun k hk => (hk11.block k (Nat.lt_of_lt_of_le hk B10.out.size) (fun e => by have := hge k e.symm; have := B4.out.size; omega)).trans (B10.out.block k hk)⟩
    have HU11 : Hid (∀ wx, (∀ k, k < w4.heap.size → wx.heap[k]? = w11.heap[k]?) → Rd wx (.slice pu D'.length cu) D') := fun wx hx => HU10.out wx (fun k hk => (hx k hk).trans (hk11.block k (Nat.lt_of_lt_of_le hk HSZ10.out) (fun e => by have := hge k e.symm; omega)))
    have HSZ11 : Hid (w4.heap.size ≤ w11.heap.size) := Nat.le_trans HSZ10.out hk11.size
    have HRD : Hid (Rd w11 (.slice pg D'.length cg) (marksI 1 D'.length)) := by
      have h2 : Own w11 w4.heap.size (.slice pg D'.length cg) (marksI 1 D'.length) := ho11
      exact Own.rd h2
    have HHE : Hid (∀ wx, Below w11.heap.size w11 wx → Calls Tryd.prog 17 #[.slice pg D'.length cg, .int .i64 1] wx fun e w' => e = .returned (.int .i64 (M : Nat)) ∧ wx = w') := fun wx hb => HHF.out wx (HRD.out.below hb)
    clear ho11 hk11 hge HMF HHF HU10 HO10 B10 HSZ10
    go_wp2_with fail
    refine (HHE.out _ (Below.refl _ _)).mono ?_
    rintro e w12 ⟨rfl, rfl⟩
    go_wp2_with fail
    refine (to_funs len kid w11 _ (HV.out _ B11.out) H1.out).mono ?_
    rintro e w13 ⟨y2, rfl, hb13, hy2⟩
    have B13 : Hid (Below w11.heap.size w11 w13) := hb13
    have BW13 : Hid (Below w.heap.size w w13) := B11.out.trans (hb13.mono B11.out.size)
    have HY2 : Hid (Fl w13 len kid y2) := hy2.all
    clear hb13 hy2
    go_wp2_with fail
    refine (HIM.out len kid i w13 y2 HY2.out HNF.out (HTB.out _ BW13.out)).mono ?_
    rintro e w14 ⟨h0, ok2, D2, rfl, hb14, hh0, hdo2⟩
    obtain ⟨rfl, rfl⟩ := deps_same HDO.out hdo2
    have B14 : Hid (Below w11.heap.size w11 w14) := B13.out.trans (hb14.mono B13.out.size)
    have HH14 : Hid (Rd w14 h0 D2) := Own.rd hh0
    obtain ⟨p2, c2, e2⟩ := own_shapeV hh0
    clear hb14 hh0 hdo2 B13 BW13 HY2
    subst e2
    have HCE : Hid (Calls Tryd.prog 13 #[.slice p2 D2.length c2, .slice pu D2.length cu] w14 fun e w' => e = .returned (.bool true) ∧ Below w14.heap.size w14 w') := HEQ.out w14 _ _ HH14.out (HU11.out w14 (fun k hk => B14.out.block k (Nat.lt_of_lt_of_le hk HSZ11.out)))
    go_wp2_with fail
    refine HCE.out.mono ?_
    rintro e w15 ⟨rfl, hb15⟩
    have B15 : Hid (Below w11.heap.size w11 w15) := B14.out.trans (hb15.mono B14.out.size)
    clear hb15 HCE HH14 B14
    go_wp2_with fail
    refine (HHE.out _ B15.out).mono ?_
    rintro e w16 ⟨rfl, rfl⟩
    go_wp2_with fail
    go_ret
    exact ⟨rfl, B11.out.trans (B15.out.mono B11.out.size)⟩
  · have E1 : Hid (szF 1048576 (funsWeight len kid) = -1) := szF_no (by omega)
    clear hnf
    go_enter Tryd.func4, Tryd.ntmps4
    go_wp2_with fail
    refine (sz_funs len kid w _ 1048576 (HV.out _ (Below.refl _ _)) (by omega)).mono ?_
    rintro e w1 ⟨rfl, hb1⟩
    rw [E1.out]
    have B1 : Hid (Below w.heap.size w w1) := hb1
    clear hb1
    go_wp2_with fail
    go_ret
    exact ⟨rfl, B1.out⟩
end Go.Proofs.YtkbbfgfmlilfbaaDoor.fnExactDepths
