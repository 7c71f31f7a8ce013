/- slices.Clone; BlockAt, of the program and of the specification. Conditions: ints of 64 bits; at most 2^22 words. -/
import Derived.Test.YtgcegjgjegkahabRoom17
import Derived.Test.YtgcegjgjegkahabStepAny
import Derived.Test.YtgcegjgjegkahabStepCall
import Derived.Deep.RegionHeld
namespace Go.Proofs.Ytgcegjgjegkahab
open Go.ChangeShapes Go.WideShapes Go.ChangeAt Go.RowKit

theorem results_tmp4 {fn : Func} {p q r t : Tmp} (h : fn.results = #[.tmp p, .tmp q, .tmp r, .tmp t]) (tmps : Array Value) (P : Program) (w : World) :
    (results fn tmps).run P w = .ok (.tuple #[tmps.getD p undef, tmps.getD q undef, tmps.getD r undef, tmps.getD t undef]) w := by
  simp only [results, h]
  simp

theorem clone17 (xs : List Int) (v : Value) (w : World) (hv : Rd w v xs) (hl : xs.length ≤ 4194304) :
    Calls Try.prog 60 #[v] w fun e w' => ∃ u, e = .returned u ∧ Own w' w.heap.size u xs ∧ Below w.heap.size w w' := by
  rcases hv with ⟨rfl, rfl⟩ | ⟨b, off, cap, rfl, hcap, hc⟩
  · refine (Any.slices_Clone_int_nil Try.laysNm215 0 0 w).mono ?_
    rintro e w1 ⟨rfl, rfl⟩
    exact ⟨_, rfl, World.ownsRow_nil _ _ _ _, Below.refl _ _⟩
  · refine (Try.slices_Clone_int b off xs.length cap xs w (Nat.le_refl _) (by omega) hc).mono ?_
    rintro e w1 ⟨v', rfl, ho, _, hb⟩
    rw [List.take_length] at ho
    exact ⟨v', rfl, ho, hb⟩

theorem kidsat_enter (vs : Array Value) (w : World) : (callFunc 61 vs).run Try.prog w = .ok (.enter 61 vs) w := by kernel_rfl
theorem clone17_enter (vs : Array Value) (w : World) : (callFunc 60 vs).run Try.prog w = .ok (.enter 60 vs) w := by kernel_rfl
/-- What BlockAt answers. -/
structure BA where
  f : Bool
  t : Int
  ks : List Int
  ok : Bool
def noBA : BA := ⟨false, 0, [], false⟩
def yesBA (ws : List Int) (p : Nat) : BA := ⟨funW (ws.getD p 0), tagW (ws.getD p 0), kidsW ws p, true⟩
def blockAtH (h : Hp) (p : Int) : BA := match blocksB h with
  | none => noBA
  | some L => if hasB L p then yesBA h.ws p.toNat else noBA
def BARet (B : Nat) (w : World) (r : BA) (e : Ending) (w' : World) : Prop := ∃ u, e = .returned (.tuple #[.bool r.f, .int .i64 r.t, u, .bool r.ok]) ∧ Own w' B u r.ks ∧ Below B w w'

/-- A block that is there. -/
theorem block_there {h : Hp} {L : List Int} {p : Int} (hb : blocksB h = some L) (hp : hasB L p = true) :
    ∃ (q b n : Nat), p = q ∧ h.base = b ∧ h.next = n ∧ b ≤ q ∧ q < n ∧ n ≤ h.ws.length ∧ h.ws.length ≤ 6000 ∧ blockB h.ws q n = true ∧ placesL h.ws b n = some L := by
  have hh : halvesB h = true := by
    cases h1 : halvesB h with
    | true => rfl
    | false => rw [blocks_nohalf h1] at hb; cases hb
  obtain ⟨b, n, hb0, hn0, hbn, hnl, hl6, _⟩ := halves_nat hh
  rw [blocks_half hh hb0 hn0] at hb
  cases hp2 : placesL h.ws b n with
  | none => rw [hp2] at hb; cases hb
  | some M =>
    rw [hp2] at hb
    have hML : M = L := by
      cases hc : M.all (fun p => allB M (kidsW h.ws p.toNat)) with
      | true => simp only [hc, if_true] at hb; injection hb
      | false => simp [hc] at hb
    subst hML
    have hf := (places_facts (n - b) h.ws b n M (Nat.le_refl _) hbn hp2).2.1 p ((has_iff _ _).1 hp)
    exact ⟨p.toNat, b, n, by omega, hb0, hn0, by omega, by omega, hnl, hl6, hf.2.2, hp2⟩

set_option maxRecDepth 100000 in
set_option maxHeartbeats 1000000 in
theorem impl_blockat (h : Hp) (p : Int) (v : Value) (w : World) (hv : Rd w v h.ws) (hbig : Small64 h.ws) :
    Calls Try.prog 15 #[heapV v h, .int .i64 p] w (BARet w.heap.size w (blockAtH h p)) := by
  have HHB : Hid (∀ wq, Below w.heap.size w wq → Calls Try.prog 56 #[heapV v h] wq (BlocksRet wq.heap.size wq h)) := fun wq hq => impl_heapblocks h v wq (hv.below hq) hbig
  have HV : Hid (Rd w v h.ws) := hv
  have HBIG : Hid (Small64 h.ws) := hbig
  have HTH : Hid (∀ L p, blocksB h = some L → hasB L p = true → ∃ (q b n : Nat), p = q ∧ h.base = b ∧ h.next = n ∧ b ≤ q ∧ q < n ∧ n ≤ h.ws.length ∧ h.ws.length ≤ 6000 ∧ blockB h.ws q n = true ∧ placesL h.ws b n = some L) := fun L p h1 h2 => block_there h1 h2
  have HDEF : Hid (blockAtH h p = match blocksB h with | none => noBA | some L => if hasB L p then yesBA h.ws p.toNat else noBA) := rfl
  obtain ⟨POST, hPOST⟩ : ∃ P, P = BARet w.heap.size w (blockAtH h p) := ⟨_, rfl⟩
  rw [← hPOST]
  have HP : Hid (POST = BARet w.heap.size w (blockAtH h p)) := hPOST
  clear hPOST hbig
  have HSRT : Hid (∀ L, blocksB h = some L → L.Pairwise (· < ·) ∧ L.length ≤ 6000) := fun L hL => by
    have hh : halvesB h = true := by
      cases h1 : halvesB h with
      | true => rfl
      | false => rw [blocks_nohalf h1] at hL; cases hL
    obtain ⟨b, n, hb0, hn0, hbn, hnl, hl6, _⟩ := halves_nat hh
    rw [blocks_half hh hb0 hn0] at hL
    cases hp2 : placesL h.ws b n with
    | none => rw [hp2] at hL; cases hL
    | some M =>
      rw [hp2] at hL
      have hML : M = L := by
        cases hc : M.all (fun p => allB M (kidsW h.ws p.toNat)) with
        | true => simp only [hc, if_true] at hL; injection hL
        | false => simp [hc] at hL
      subst hML
      have hf := places_facts (n - b) h.ws b n M (Nat.le_refl _) hbn hp2
      exact ⟨hf.2.2, by omega⟩
  obtain ⟨ws, half, base, next⟩ := h
  obtain ⟨pv, cap, rfl, hc⟩ := hv.shape
  have HC : Hid (∀ j, j < ws.length → ∃ b off, pv = some ⟨b, off, none⟩ ∧ w.cell? ⟨b, off + j, none⟩ = some (.int .i64 (ws.getD j 0))) := hc
  clear hc hv
  obtain ⟨A, hA⟩ : ∃ A, A = w.alloc (hpO (.slice pv ws.length cap) ⟨ws, half, base, next⟩) := ⟨_, rfl⟩
  obtain ⟨sA, bA, rA⟩ := box_new w (.slice pv ws.length cap) ⟨ws, half, base, next⟩ hA
  have HA : Hid (A.heap.size = w.heap.size + 1 ∧ Below w.heap.size w A ∧ BoxAt A w.heap.size (.slice pv ws.length cap) ⟨ws, half, base, next⟩) := ⟨sA, bA, rA⟩
  clear sA bA rA
  have HNO : Hid (∀ wq, Below w.heap.size w wq → blockAtH ⟨ws, half, base, next⟩ p = noBA → POST (.returned (.tuple #[.bool false, .int .i64 0, .slice none 0 0, .bool false])) wq) := fun wq hq hn => by
    rw [HP.out, hn]; exact ⟨_, rfl, World.ownsRow_nil _ _ _ _, hq⟩
  go_enter Try.func15, Try.ntmps15
  go_wp2_with fail
  rw [← hA]
  clear hA
  refine (HHB.out A HA.out.2.1).mono ?_
  rintro e w1 ⟨u, L, b, rfl, ho, hb, hT, hF⟩
  have HB1 : Hid (Below w.heap.size w w1) := HA.out.2.1.trans (hb.mono HA.out.2.1.size)
  have HX1 : Hid (BoxAt w1 w.heap.size (.slice pv ws.length cap) ⟨ws, half, base, next⟩) := HA.out.2.2.below hb HA.out.2.2.lt
  have HO1 : Hid (Rd w1 u L) := ho.rd
  clear hb ho
  cases b with
  | false =>
    have HE : Hid (POST (.returned (.tuple #[.bool false, .int .i64 0, .slice none 0 0, .bool false])) w1) := HNO.out w1 HB1.out (by rw [HDEF.out, hF rfl])
    clear hT hF
    go_wp2_with fail
    refine bodyPost_ret (results_tmp4 rfl _ _ _) rfl ?_
    exact HE.out
  | true =>
    have HBL : Hid (blocksB ⟨ws, half, base, next⟩ = some L) := hT rfl
    clear hT hF
    have HAM : Hid (∀ wq, wq = w1 → Calls Try.prog 58 #[u, .int .i64 p] wq fun e w' => e = .returned (.bool (hasB L p)) ∧ ∃ q, w' = w1.drewN q) := fun wq hq => by
      subst hq
      exact impl_among L u p wq HO1.out (by have := (HSRT.out L HBL.out).2; omega) (HSRT.out L HBL.out).1
    cases hh : hasB L p with
    | false =>
      rw [hh] at HAM
      have HE : Hid (∀ wq, Below w.heap.size w wq → POST (.returned (.tuple #[.bool false, .int .i64 0, .slice none 0 0, .bool false])) wq) := fun wq hq => HNO.out wq hq (by rw [HDEF.out, HBL.out]; exact if_neg (by rw [hh]; decide))
      clear HNO
      go_wp2_with fail
      refine (HAM.out _ rfl).mono ?_
      rintro e w2 ⟨rfl, q, rfl⟩
      go_wp2_with fail
      refine bodyPost_ret (results_tmp4 rfl _ _ _) rfl ?_
      exact HE.out _ (belowDrew HB1.out _)
    | true =>
      rw [hh] at HAM
      obtain ⟨q, b0, n0, rfl, hb0, hn0, hbq, hqn, hnl, hl6, hbk, _⟩ := HTH.out L p HBL.out hh
      have hnl : n0 ≤ ws.length := hnl
      have hl6 : ws.length ≤ 6000 := hl6
      have HBK : Hid (blockB ws q n0 = true) := hbk
      have HRES : Hid (blockAtH ⟨ws, half, base, next⟩ q = yesBA ws q) := by
        show _ = _
        rw [HDEF.out, HBL.out]
        show (if hasB L q then _ else _) = _
        rw [if_pos hh, Int.toNat_natCast]
      obtain ⟨wb, wo, rfl, hcell⟩ := HC.out q (by omega)
      have hql : q < ws.length := by omega
      have hx0 := (HBIG.out q).1
      have hx1 := (HBIG.out q).2
      have HKK : Hid (∀ wq, Below w.heap.size w wq → Calls Try.prog 61 #[.slice (some ⟨wb, wo, none⟩) ws.length cap, .int .i64 q] wq fun e w' => ∃ u, e = .returned u ∧ Rd w' u (kidsW ws q) ∧ Below wq.heap.size wq w') := fun wq hq2 =>
        impl_kidsat ws _ q n0 wq (HV.out.below hq2) HBK.out hnl hl6 hx0 hx1
      have hkl := (kids_len HBK.out hnl).1
      have hmm := many_lt (ws.getD q 0)
      have HKL : Hid ((kidsW ws q).length ≤ 4194304) := by show _ ≤ _; omega
      have HHD : Hid (headB (ws.getD q 0) = true) := by
        have := HBK.out
        unfold blockB at this
        rw [Bool.and_eq_true] at this
        exact this.1
      have HYB : Hid (yesBA ws q = ⟨funW (ws.getD q 0), tagW (ws.getD q 0), kidsW ws q, true⟩) := rfl
      generalize hx : ws.getD q 0 = x at hcell hx0 hx1 HHD HYB
      have HH : Hid (∀ w, Calls Try.prog 59 #[.int .i64 x] w (HeadRet w.heap.size w x)) := fun w => impl_headof x w hx0 hx1
      clear hx hx0 hx1 hkl hmm hbk
      have HCELL : Hid (w.cell? ⟨wb, wo + q, none⟩ = some (.int .i64 x)) := hcell
      clear hcell
      go_wp2_with fail
      refine (HAM.out _ rfl).mono ?_
      rintro e w2' ⟨rfl, qd, hw2⟩
      have HB2 : Hid (Below w.heap.size w w2') := by show Below _ _ _; rw [hw2]; exact belowDrew HB1.out _
      have HX2 : Hid (BoxAt w2' w.heap.size (.slice (some ⟨wb, wo, none⟩) ws.length cap) ⟨ws, half, base, next⟩) := by show BoxAt _ _ _ _; rw [hw2]; exact HX1.out.below (belowDrew (Below.refl _ _) qd) HX1.out.lt
      clear hw2
      obtain ⟨c0, c1, c2, c3⟩ := HX2.out.cells
      have d1 := cell_later HB2.out HCELL.out
      go_wp2_with fail
      refine (HH.out _).mono ?_
      rintro e w3 ⟨f, t, k, rfl, hb3, hval⟩
      obtain ⟨rfl, rfl, rfl⟩ := hval HHD.out
      obtain ⟨C, hC⟩ : ∃ C, C = w3.alloc (.cells #[.bool (funW x), .int .i64 (tagW x), .int .i64 (manyW x)] 61) := ⟨_, rfl⟩
      have HC3 : Hid (Below w.heap.size w C ∧ C.heap[w3.heap.size]? = some (.cells #[.bool (funW x), .int .i64 (tagW x), .int .i64 (manyW x)] 61 (0, 0)) ∧ w3.heap.size < C.heap.size ∧ BoxAt C w.heap.size (.slice (some ⟨wb, wo, none⟩) ws.length cap) ⟨ws, half, base, next⟩) := by
        have h3 : Below w2'.heap.size w2' C := by rw [hC]; exact hb3.alloc hb3.size _
        refine ⟨HB2.out.trans (h3.mono HB2.out.size), ?_, ?_, HX2.out.below h3 HX2.out.lt⟩
        · rw [hC]; exact heap_alloc_last _ _
        · rw [hC]; simp
      clear hb3 hval c0 c1 c2 c3 d1
      go_upto_region 5 with fail
      rw [← hC]
      clear hC
      have HKC : Hid (∀ wq, Below C.heap.size C wq → Calls Try.prog 61 #[.slice (some ⟨wb, wo, none⟩) ws.length cap, .int .i64 q] wq fun e w' => ∃ u, e = .returned u ∧ Rd w' u (kidsW ws q) ∧ Below C.heap.size C w') := fun wq hq2 =>
        (HKK.out wq (HC3.out.1.trans (hq2.mono HC3.out.1.size))).mono (fun e w' hr => by
          obtain ⟨u, h1, h2, h3⟩ := hr
          exact ⟨u, h1, h2, hq2.trans (h3.mono hq2.size)⟩)
      have HCL : Hid (∀ u wq, Below C.heap.size C wq → Rd wq u (kidsW ws q) → Calls Try.prog 60 #[u] wq fun e w' => ∃ u, e = .returned u ∧ Own w' w.heap.size u (kidsW ws q) ∧ Below C.heap.size C w') := fun u wq hq2 hr2 =>
        (clone17 (kidsW ws q) u wq hr2 HKL.out).mono (fun e w' hr => by
          obtain ⟨u, h1, h2, h3⟩ := hr
          exact ⟨u, h1, h2.mono (Nat.le_trans HC3.out.1.size hq2.size), hq2.trans (h3.mono hq2.size)⟩)
      have HCE : Hid (∀ wq, Below C.heap.size C wq → (wq.cell? ⟨w3.heap.size, 0, none⟩ = some (.bool (funW x)) ∧ wq.cell? ⟨w3.heap.size, 1, none⟩ = some (.int .i64 (tagW x))) ∧ wq.cell? ⟨w.heap.size, 0, none⟩ = some (.slice (some ⟨wb, wo, none⟩) ws.length cap)) := fun wq hq2 => by
        have r := (hq2.block _ HC3.out.2.2.1).trans HC3.out.2.1
        exact ⟨⟨cell_of_row wq _ 0 _ _ _ r, cell_of_row wq _ 1 _ _ _ r⟩, (HC3.out.2.2.2.below hq2 HC3.out.2.2.2.lt).cells.1⟩
      obtain ⟨⟨e0, e1⟩, e2⟩ := HCE.out C (Below.refl _ _)
      have HEND : Hid (∀ u wq, Below C.heap.size C wq → Own wq w.heap.size u (kidsW ws q) → POST (.returned (.tuple #[.bool (funW x), .int .i64 (tagW x), u, .bool true])) wq) := fun u wq hq2 ho => by
        rw [HP.out, HRES.out, HYB.out]
        exact ⟨u, rfl, ho, HC3.out.1.trans (hq2.mono HC3.out.1.size)⟩
      refine wp_region_held_drew (S := fun wq => Below C.heap.size C wq) (by kernel_rfl) (show Below C.heap.size C C.drew from (Below.refl _ _).drew) (fun HS0 => ?_)
      refine wpAnyH_take (i := 0) (oi := { dst := some 34, op := Op.fieldAddr 61 (Operand.tmp 10) 0, type := 0, pos := "l17_heap.go:199", after := #[], guard := none }) (v := (.pointer (some ⟨w3.heap.size, 0, none⟩))) rfl (by kernel_rfl) (by kernel_rfl) (by kernel_rfl) (fun _ _ _ h => h) (Or.inl ⟨by rfl, ?_⟩) HS0 ?_
      · intro wq hSq
        clear hSq
        go_simp
      try simp only [Act.put, List.setIfInBounds_toArray, List.set_cons_zero, List.set_cons_succ]
      refine wpAnyH_take (i := 1) (oi := { dst := some 35, op := Op.load 4 (Operand.tmp 34), type := 4, pos := "l17_heap.go:199", after := #[{ on := 0, ground := Ground.data }], guard := none }) (v := (.bool (funW x))) rfl (by kernel_rfl) (by kernel_rfl) (by kernel_rfl) (fun _ _ _ h => h) (Or.inl ⟨by rfl, ?_⟩) HS0 ?_
      · intro wq hSq
        obtain ⟨⟨e0, e1⟩, e2⟩ := HCE.out wq hSq
        clear hSq
        go_simp
      try simp only [Act.put, List.setIfInBounds_toArray, List.set_cons_zero, List.set_cons_succ]
      refine wpAnyH_take (i := 2) (oi := { dst := some 36, op := Op.fieldAddr 61 (Operand.tmp 10) 1, type := 0, pos := "l17_heap.go:199", after := #[{ on := 9, ground := Ground.gcOnly Departure.lateStores }], guard := none }) (v := (.pointer (some ⟨w3.heap.size, 1, none⟩))) rfl (by kernel_rfl) (by kernel_rfl) (by kernel_rfl) (fun _ _ _ h => h) (Or.inl ⟨by rfl, ?_⟩) HS0 ?_
      · intro wq hSq
        clear hSq
        go_simp
      try simp only [Act.put, List.setIfInBounds_toArray, List.set_cons_zero, List.set_cons_succ]
      refine wpAnyH_take (i := 3) (oi := { dst := some 37, op := Op.load 3 (Operand.tmp 36), type := 3, pos := "l17_heap.go:199", after := #[{ on := 2, ground := Ground.data }, { on := 9, ground := Ground.gcOnly Departure.lateStores }], guard := none }) (v := (.int .i64 (tagW x))) rfl (by kernel_rfl) (by kernel_rfl) (by kernel_rfl) (fun _ _ _ h => h) (Or.inl ⟨by rfl, ?_⟩) HS0 ?_
      · intro wq hSq
        obtain ⟨⟨e0, e1⟩, e2⟩ := HCE.out wq hSq
        clear hSq
        go_simp
      try simp only [Act.put, List.setIfInBounds_toArray, List.set_cons_zero, List.set_cons_succ]
      refine wpAnyH_take (i := 4) (oi := { dst := some 38, op := Op.fieldAddr 27 (Operand.tmp 2) 0, type := 0, pos := "l17_heap.go:199", after := #[], guard := none }) (v := (.pointer (some ⟨w.heap.size, 0, none⟩))) rfl (by kernel_rfl) (by kernel_rfl) (by kernel_rfl) (fun _ _ _ h => h) (Or.inl ⟨by rfl, ?_⟩) HS0 ?_
      · intro wq hSq
        clear hSq
        go_simp
      try simp only [Act.put, List.setIfInBounds_toArray, List.set_cons_zero, List.set_cons_succ]
      refine wpAnyH_take (i := 5) (oi := { dst := some 39, op := Op.load 22 (Operand.tmp 38), type := 22, pos := "l17_heap.go:199", after := #[{ on := 4, ground := Ground.data }], guard := none }) (v := (.slice (some ⟨wb, wo, none⟩) ws.length cap)) rfl (by kernel_rfl) (by kernel_rfl) (by kernel_rfl) (fun _ _ _ h => h) (Or.inl ⟨by rfl, ?_⟩) HS0 ?_
      · intro wq hSq
        obtain ⟨⟨e0, e1⟩, e2⟩ := HCE.out wq hSq
        clear hSq
        go_simp
      try simp only [Act.put, List.setIfInBounds_toArray, List.set_cons_zero, List.set_cons_succ]
      refine wpAnyH_take (i := 6) (oi := { dst := some 40, op := Op.move (Operand.tmp 1), type := 3, pos := "l17_heap.go:199", after := #[], guard := none }) (v := (.int .i64 (q : Nat))) rfl (by kernel_rfl) (by kernel_rfl) (by kernel_rfl) (fun _ _ _ h => h) (Or.inl ⟨by rfl, ?_⟩) HS0 ?_
      · intro wq hSq
        clear hSq
        go_simp
      try simp only [Act.put, List.setIfInBounds_toArray, List.set_cons_zero, List.set_cons_succ]
      refine wpAnyH_ready (rs := [7]) (by kernel_rfl) (by simp) ?_
      refine AllReadyH.cons (o := { dst := some 41, op := Op.call { callee := Callee.value (Operand.func 61), args := #[Operand.tmp 39, Operand.tmp 40], argTypes := #[22, 3] }, type := 22, pos := "l17_heap.go:199", after := #[{ on := 5, ground := Ground.data }, { on := 6, ground := Ground.data }], guard := none }) rfl (fun KK hK => ?rg1) AllReadyH.nil
      refine step_call2 rfl 61 _ _ _ _ rfl kidsat_enter (.slice (some ⟨wb, wo, none⟩) ws.length cap) (.int .i64 (q : Nat)) rfl rfl _ (HKC.out _ HS0) ?_
      rintro e w5 ⟨uk, rfl, hr5, hb5⟩
      refine ⟨_, rfl, ?_⟩
      refine hK.out _ _ hb5 (fun _ => ?_)
      clear hK KK
      try simp only [Act.put, List.setIfInBounds_toArray, List.set_cons_zero, List.set_cons_succ]
      refine wpAnyH_ready (rs := [8]) (by kernel_rfl) (by simp) ?_
      refine AllReadyH.cons (o := { dst := some 42, op := Op.call { callee := Callee.value (Operand.func 60), args := #[Operand.tmp 41], argTypes := #[22] }, type := 22, pos := "l17_heap.go:199", after := #[{ on := 7, ground := Ground.data }, { on := 7, ground := Ground.chain }], guard := none }) rfl (fun KK hK => ?rg2) AllReadyH.nil
      refine step_call1 rfl 60 _ _ rfl clone17_enter uk rfl _ (HCL.out uk _ hb5 hr5) ?_
      rintro e w6 ⟨u6, rfl, ho6, hb6⟩
      refine ⟨_, rfl, ?_⟩
      refine hK.out _ _ hb6 (fun _ => ?_)
      clear hK KK
      try simp only [Act.put, List.setIfInBounds_toArray, List.set_cons_zero, List.set_cons_succ]
      refine wpAnyH_take (i := 9) (oi := { dst := some 4, op := Op.assign (Operand.tmp 35), type := 4, pos := "l17_heap.go:199", after := #[{ on := 1, ground := Ground.data }, { on := 8, ground := Ground.chain }, { on := 0, ground := Ground.phase }, { on := 1, ground := Ground.phase }, { on := 2, ground := Ground.textOnly Departure.lateStores }, { on := 3, ground := Ground.textOnly Departure.lateStores }, { on := 4, ground := Ground.textOnly Departure.lateStores }, { on := 5, ground := Ground.textOnly Departure.lateStores }, { on := 6, ground := Ground.textOnly Departure.lateStores }, { on := 7, ground := Ground.textOnly Departure.lateStoresUnsure }, { on := 8, ground := Ground.textOnly Departure.lateStoresUnsure }], guard := none }) (v := (.bool (funW x))) rfl (by kernel_rfl) (by kernel_rfl) (by kernel_rfl) (fun _ _ _ h => h) (Or.inl ⟨by rfl, ?_⟩) hb6 ?_
      · intro wq hSq
        clear hSq
        go_simp
      try simp only [Act.put, List.setIfInBounds_toArray, List.set_cons_zero, List.set_cons_succ]
      refine wpAnyH_take (i := 10) (oi := { dst := some 5, op := Op.assign (Operand.tmp 37), type := 3, pos := "l17_heap.go:199", after := #[{ on := 3, ground := Ground.data }, { on := 9, ground := Ground.chain }, { on := 0, ground := Ground.phase }, { on := 1, ground := Ground.phase }, { on := 2, ground := Ground.phase }, { on := 3, ground := Ground.phase }, { on := 4, ground := Ground.textOnly Departure.lateStores }, { on := 5, ground := Ground.textOnly Departure.lateStores }, { on := 6, ground := Ground.textOnly Departure.lateStores }, { on := 7, ground := Ground.textOnly Departure.lateStoresUnsure }, { on := 8, ground := Ground.textOnly Departure.lateStoresUnsure }, { on := 9, ground := Ground.phase }], guard := none }) (v := (.int .i64 (tagW x))) rfl (by kernel_rfl) (by kernel_rfl) (by kernel_rfl) (fun _ _ _ h => h) (Or.inl ⟨by rfl, ?_⟩) hb6 ?_
      · intro wq hSq
        clear hSq
        go_simp
      try simp only [Act.put, List.setIfInBounds_toArray, List.set_cons_zero, List.set_cons_succ]
      refine wpAnyH_take (i := 11) (oi := { dst := some 6, op := Op.assign (Operand.tmp 42), type := 22, pos := "l17_heap.go:199", after := #[{ on := 8, ground := Ground.data }, { on := 10, ground := Ground.chain }, { on := 0, ground := Ground.phase }, { on := 1, ground := Ground.phase }, { on := 2, ground := Ground.phase }, { on := 3, ground := Ground.phase }, { on := 4, ground := Ground.phase }, { on := 5, ground := Ground.phase }, { on := 6, ground := Ground.phase }, { on := 7, ground := Ground.phase }, { on := 8, ground := Ground.phase }, { on := 9, ground := Ground.phase }, { on := 10, ground := Ground.phase }], guard := none }) (v := u6) rfl (by kernel_rfl) (by kernel_rfl) (by kernel_rfl) (fun _ _ _ h => h) (Or.inl ⟨by rfl, ?_⟩) hb6 ?_
      · intro wq hSq
        clear hSq
        go_simp
      try simp only [Act.put, List.setIfInBounds_toArray, List.set_cons_zero, List.set_cons_succ]
      refine wpAnyH_take (i := 12) (oi := { dst := some 7, op := Op.assign (Operand.const (Value.bool true)), type := 4, pos := "l17_heap.go:199", after := #[{ on := 11, ground := Ground.chain }, { on := 0, ground := Ground.phase }, { on := 1, ground := Ground.phase }, { on := 2, ground := Ground.phase }, { on := 3, ground := Ground.phase }, { on := 4, ground := Ground.phase }, { on := 5, ground := Ground.phase }, { on := 6, ground := Ground.phase }, { on := 7, ground := Ground.phase }, { on := 8, ground := Ground.phase }, { on := 9, ground := Ground.phase }, { on := 10, ground := Ground.phase }, { on := 11, ground := Ground.phase }], guard := none }) (v := (.bool true)) rfl (by kernel_rfl) (by kernel_rfl) (by kernel_rfl) (fun _ _ _ h => h) (Or.inl ⟨by rfl, ?_⟩) hb6 ?_
      · intro wq hSq
        clear hSq
        go_simp
      try simp only [Act.put, List.setIfInBounds_toArray, List.set_cons_zero, List.set_cons_succ]
      refine wpAnyH_done (by kernel_rfl) ?_ _
      go_wp2_with fail
      refine bodyPost_ret (results_tmp4 rfl _ _ _) rfl ?_
      exact HEND.out _ _ hb6 ho6
end Go.Proofs.Ytgcegjgjegkahab
