/- spec.l7Each, out of spec.l7Match. Condition: at most 2^20 of it. Written by wip/tools/mkspeceach.py. -/
import Derived.Test.YtlclfmjpnchmbaaGreatZG38SpecEachJ
import Derived.Test.YtlclfmjpnchmbaaGreatZG16GotRead
import Derived.Test.YtlclfmjpnchmbaaGreatRows
import Derived.Test.YtlclfmjpnchmbaaGreatZG18IntsImpl
import Derived.OpenShut
import Derived.WideKeyArgs
import Derived.Deep.Cut
namespace Go.Proofs.YtlclfmjpnchmbaaGreat
open Go.ChangeShapes Go.WideShapes Go.ChangeAt Go.RowKit

theorem deep_enter (vs : Array Value) (w : World) : (callFunc 51 vs).run Tryz.prog w = .ok (.enter 51 vs) w := by kernel_rfl
theorem getD_mem (ns : List (ByteArray × Int)) {j : Nat} (hj : j < ns.length) : ns.getD j (⟨#[]⟩, 0) ∈ ns := by
  rw [List.getD_eq_getElem?_getD, List.getElem?_eq_getElem hj, Option.getD_some]
  exact List.getElem_mem _
theorem take_more (ns : List (ByteArray × Int)) {k : Nat} (hk : k < ns.length) : ns.take (k + 1) = ns.take k ++ [ns.getD k (⟨#[]⟩, 0)] := by
  rw [List.take_succ_eq_append_getElem hk, List.getD_eq_getElem?_getD, List.getElem?_eq_getElem hk, Option.getD_some]
theorem own_row_form {w : World} {base e size n : Nat} {v : Value} {xs : List Value} (h : w.ownsRow base e size v n xs) (hv : v.ownBlock ≠ none) : ∃ g cap, v = .slice (some ⟨g, 0, none⟩) n cap := by
  rcases h.2 with ⟨rfl, _⟩ | ⟨g, cap, cur, rfl, _⟩
  · exact absurd rfl hv
  · exact ⟨g, cap, rfl⟩
theorem withK_all {f : Nat → Option (List G)} {k : Nat} {lst : List G} {n : Nat} (hf : f k = some lst) (hl : lst.length = n) {j : Nat} (hj : j < n) : withK (gotTo f k) (lst.take n) j = gotTo f (k + 1) j := by
  rw [List.take_of_length_le (by omega)]
  exact gotTo_succ f k lst hf n hl hj

set_option maxRecDepth 100000 in
set_option maxHeartbeats 8000000 in
theorem spec_each_at (p : X) (T : SMatchAt p) : SEachAt p := by
  intro n kid w su u v hp hk hpw hkw hn hok hnd
  have HPX : Hid (p.At 0 w su u) := hp
  obtain ⟨pu, cu, e1⟩ := hp.xs.shape
  obtain ⟨ps, cs, e2⟩ := hp.sets.shape
  obtain ⟨pk, ck, e3, _, hat⟩ := hk.at
  subst e1 e2 e3
  have HT : Hid (SMatchAt p) := T
  have HAT : Hid (∀ i, i < n → ∃ b o sv u, pk = some ⟨b, o, none⟩ ∧ Head6 w b (o + i * 6) (kid i) sv u ∧ (kid i).At 0 w sv u) := hat
  have HW : Hid (p.weight ≤ 1048576 ∧ (∀ i, i < n → (kid i).weight ≤ 1048576) ∧ okG p ∧ (keysD (namesD p 0)).Nodup) := ⟨hpw, hkw, hok, hnd⟩
  obtain ⟨ns, hns⟩ : ∃ ns, ns = namesD p 0 := ⟨_, rfl⟩
  have HNS : Hid (ns = namesD p 0) := hns
  obtain ⟨f, hf⟩ : ∃ f : Nat → Option (List G), f = fun j => matchG p (kid j) := ⟨_, rfl⟩
  have HF : Hid (f = fun j => matchG p (kid j)) := hf
  obtain ⟨m, hm⟩ : ∃ m, m = eachG ns f n := ⟨_, rfl⟩
  have HM : Hid (m = eachG ns f n) := hm
  have hnl : ns.length ≤ 1048577 := by rw [hns]; exact Nat.le_trans (namesD_len p 0) (by have := p.count_weight; omega)
  have HDP : Hid (∀ j, j < ns.length → deepX p (ns.getD j (⟨#[]⟩, 0)).1 = (ns.getD j (⟨#[]⟩, 0)).2 ∧ 0 ≤ (ns.getD j (⟨#[]⟩, 0)).2 ∧ (ns.getD j (⟨#[]⟩, 0)).2 ≤ 1048577) := fun j hj => by
    have h1 := deepX_told p (ns.getD j (⟨#[]⟩, 0)) (by rw [← hns]; exact getD_mem ns hj) (okG_leaf p hok) hnd
    have h2 := deepX_lt p (ns.getD j (⟨#[]⟩, 0)).1
    have h3 := p.count_weight
    rw [h1.1] at h2
    exact ⟨h1.1, h1.2.1, by omega⟩
  have HSM : Hid (∀ y ∈ ns, y.1.size ≤ maxLen) := by rw [hns]; exact names_size p _ _ _ 0 hp
  have hnames : (namesX p ([], false)).1 = ns.map (·.1) := by rw [hns]; exact names_once_eq p (okG_leaf p hok) hnd
  rw [← hf, ← hns, ← hm]
  obtain ⟨W1, hW1⟩ : ∃ W, W = w.alloc (.cells #[.int .i64 p.op, .int .i64 p.at_, .int .i64 p.n, .string p.s, .slice ps p.set.length cs, .slice pu p.len cu] 32) := ⟨_, rfl⟩
  obtain ⟨N, hN⟩ : ∃ N, N = w.heap.size := ⟨_, rfl⟩
  have hb1 : Below w.heap.size w W1 := by rw [hW1]; exact newx w _
  have h6 : Six W1 N p.op p.at_ p.n p.s (.slice ps p.set.length cs) (.slice pu p.len cu) 32 := by rw [hW1, hN]; exact heap_alloc_new w _
  have HCN := hid_ofD (spec_names_top p W1 _ _ (hp.below hb1) hpw)
  have HB1 : Hid (Below w.heap.size w W1 ∧ Six W1 N p.op p.at_ p.n p.s (.slice ps p.set.length cs) (.slice pu p.len cu) 32) := ⟨hb1, h6⟩
  have HNM := hid_ofD hnames
  have HN := hid_ofD hN
  have HWW := hid_ofD hW1
  obtain ⟨i0, hi0, hz0, hz1, hz2⟩ := info_parts got_info
  clear hp hk hat hpw hkw hok hnd hns hf hm hnames hb1 h6 hN hW1 T
  go_enter Tryz.func38, Tryz.ntmps38
  go_wp2_with fail
  rw [← HWW.out, ← HN.out]
  refine HCN.out.mono ?_
  rintro e w2 ⟨nv, rfl, hb2, hown⟩
  rw [HNM.out] at hown
  obtain ⟨an, cn, hnv, hcn⟩ := hown.rd
  rw [List.length_map] at hnv hcn
  subst hnv
  obtain ⟨NB, hNB⟩ : ∃ NB, NB = w2.heap.size := ⟨_, rfl⟩
  have KW : Hid (∀ wx, Below NB w2 wx → Below w.heap.size w wx ∧ Six wx N p.op p.at_ p.n p.s (.slice ps p.set.length cs) (.slice pu p.len cu) 32 ∧ ∀ j, j < ns.length → ∃ b off, an = some ⟨b, off, none⟩ ∧ wx.cell? ⟨b, off + j, none⟩ = some (.string (ns.getD j (⟨#[]⟩, 0)).1)) := fun wx hx => by
    rw [hNB] at hx
    refine ⟨(HB1.out.1.trans (hb2.mono HB1.out.1.size)).trans (hx.mono (Nat.le_trans HB1.out.1.size hb2.size)), (HB1.out.2.below hb2).below hx, fun j hj => ?_⟩
    obtain ⟨b, off, e1, e2⟩ := hcn j hj
    refine ⟨b, off, e1, ?_⟩
    have h7 := keepsX hx _ _ e2
    rw [h7]
    congr 2
    simp [List.getD_eq_getElem?_getD, List.getElem?_map, List.getElem?_eq_getElem hj]
  have HHD : Hid (∀ wx, Below NB w2 wx → ∀ t su u b q, Head6 w b q t su u → Head6 wx b q t su u) := fun wx hx t su u b q h => h.below (KW.out wx hx).1
  have HNB : Hid (NB = w2.heap.size ∧ w.heap.size ≤ NB) := ⟨hNB, by rw [hNB]; exact Nat.le_trans HB1.out.1.size hb2.size⟩
  have HEND : Hid (∀ wx v, Below NB w2 wx → GN wx NB v (colG ns f n) → m = some (colG ns f n) → EPost w m (.returned (.tuple #[v, .bool true])) wx) := fun wx v h1 h2 h3 => by
    have h4 := h2.mono HNB.out.2
    refine ⟨(KW.out wx h1).1, v, true, rfl, ?_, .inl ⟨_, h3, rfl, h4⟩⟩
    obtain ⟨l, SS, h5, _⟩ := h4
    exact ⟨_, _, h5.row, by rw [colG_len]; exact hnl, h5.one⟩
  have HBAD : Hid (∀ wx v xs, Below NB w2 wx → wx.ownsRow NB 48 9 v ns.length xs → (∀ u ∈ xs, u.oneCell' = true) → m = none → EPost w m (.returned (.tuple #[v, .bool false])) wx) := fun wx v xs h1 h2 h3 h4 => ⟨(KW.out wx h1).1, v, false, rfl, ⟨_, xs, own_base h2 (fun g hg => Nat.le_trans HNB.out.2 (h2.lt g hg).1), hnl, h3⟩, .inr ⟨h4, rfl⟩⟩
  clear hown hcn hb2 HCN HNM HWW hNB
  go_wp2_with fail
  rw [← HNB.out.1]
  have HG0 : Hid ((w2.alloc (.cells #[] 48)).ownsRow NB 48 9 (.slice (some ⟨NB, 0, none⟩) 0 0) 0 (grows []) ∧ Below NB w2 (w2.alloc (.cells #[] 48))) := by
    have h1 : (w2.alloc (.cells #[] 48)).heap[NB]? = some (.cells #[] 48) := by rw [HNB.out.1]; exact heap_alloc_new w2 _
    obtain ⟨l, SS, h2, _⟩ := GN.empty h1 (Nat.le_refl NB)
    have h3 : l = [] := List.eq_nil_of_length_eq_zero h2.len
    rw [← h3]
    exact ⟨h2.row, (newx w2 _).mono (by rw [HNB.out.1]; exact Nat.le_refl _)⟩
  go_loopw [7, 8] (fun r i wr => ∃ (k : Nat) (v0 : Value), v0 = r ∧ i = .int .i64 k ∧ k ≤ ns.length ∧ wr.ownsRow NB 48 9 v0 k (grows ((ns.take k).map emptyR)) ∧ v0.ownBlock ≠ none ∧ Below NB w2 wr) (fun _ i _ => ns.length - (intOf i).toNat)
  case atStart => exact ⟨0, _, rfl, rfl, Nat.zero_le _, HG0.out.1, by simp [Value.ownBlock], HG0.out.2⟩
  case round =>
    obtain ⟨k, v0, rfl, rfl, hk, hrow, hvb, hbel⟩ := hrel
    have HR : Hid (wr.ownsRow NB 48 9 v0 k (grows ((ns.take k).map emptyR)) ∧ v0.ownBlock ≠ none ∧ Below NB w2 wr) := ⟨hrow, hvb, hbel⟩
    clear hrow hvb hbel
    by_cases hlt : (k : Int) < ns.length
    case pos =>
      have hk' : k < ns.length := by omega
      obtain ⟨bn, on, han, _⟩ := (KW.out wr HR.out.2.2).2.2 k hk'
      subst han
      have HNC : Hid (∀ wx, Below NB w2 wx → wx.cell? ⟨bn, on + k, none⟩ = some (.string (ns.getD k (⟨#[]⟩, 0)).1)) := fun wx hx => by
        obtain ⟨b, off, e1, e2⟩ := (KW.out wx hx).2.2 k hk'
        simp only [Option.some.injEq, Addr.mk.injEq, and_true] at e1
        obtain ⟨rfl, rfl⟩ := e1
        exact e2
      obtain ⟨hd1, hd2, hd3⟩ := HDP.out k hk'
      have HD1 := hid_ofD hd1
      have HTK : Hid (ns.take (k + 1) = ns.take k ++ [ns.getD k (⟨#[]⟩, 0)]) := take_more ns hk'
      clear hd1
      generalize ns.getD k (⟨#[]⟩, 0) = y at *
      go_wp2_with fail
      have HS0 : Below NB w2 wr.drew := HR.out.2.2.drew
      refine wp_region_held_drew (S := fun wq => Below NB w2 wq) (by kernel_rfl) HS0 (fun _ => ?_)
      refine wpAnyH_take (i := 0) (oi := { dst := some 22, op := Op.move (Operand.tmp 7), type := 27, pos := "l07_match.go:54", after := #[], guard := none }) (v := v0) rfl (by kernel_rfl) (by kernel_rfl) (by kernel_rfl) (fun _ _ _ h => h) (Or.inl ⟨by rfl, ?_⟩) HS0 ?_
      · intro wq hSq
        clear hSq
        go_simp
      try simp only [Act.put, List.setIfInBounds_toArray, List.set_cons_zero, List.set_cons_succ]
      refine wpAnyH_take (i := 1) (oi := { dst := some 23, op := Op.move (Operand.tmp 6), type := 54, pos := "l07_match.go:54", after := #[], guard := none }) (v := .slice (some ⟨bn, on, none⟩) ns.length cn) rfl (by kernel_rfl) (by kernel_rfl) (by kernel_rfl) (fun _ _ _ h => h) (Or.inl ⟨by rfl, ?_⟩) HS0 ?_
      · intro wq hSq
        clear hSq
        go_simp
      try simp only [Act.put, List.setIfInBounds_toArray, List.set_cons_zero, List.set_cons_succ]
      refine wpAnyH_take (i := 2) (oi := { dst := some 24, op := Op.move (Operand.tmp 8), type := 3, pos := "l07_match.go:54", after := #[], guard := none }) (v := .int .i64 k) rfl (by kernel_rfl) (by kernel_rfl) (by kernel_rfl) (fun _ _ _ h => h) (Or.inl ⟨by rfl, ?_⟩) HS0 ?_
      · intro wq hSq
        clear hSq
        go_simp
      try simp only [Act.put, List.setIfInBounds_toArray, List.set_cons_zero, List.set_cons_succ]
      refine wpAnyH_take (i := 3) (oi := { dst := some 25, op := Op.indexAddr 54 (Operand.tmp 23) (Operand.tmp 24), type := 0, pos := "l07_match.go:54", after := #[{ on := 1, ground := Ground.data }, { on := 2, ground := Ground.data }], guard := none }) (v := .pointer (some ⟨bn, on + k, none⟩)) rfl (by kernel_rfl) (by kernel_rfl) (by kernel_rfl) (fun _ _ _ h => h) (Or.inl ⟨by rfl, ?_⟩) HS0 ?_
      · intro wq hSq
        clear hSq
        go_simp
      try simp only [Act.put, List.setIfInBounds_toArray, List.set_cons_zero, List.set_cons_succ]
      refine wpAnyH_take (i := 4) (oi := { dst := some 26, op := Op.load 9 (Operand.tmp 25), type := 9, pos := "l07_match.go:54", after := #[{ on := 3, ground := Ground.data }], guard := none }) (v := .string y.1) rfl (by kernel_rfl) (by kernel_rfl) (by kernel_rfl) (fun _ _ _ h => h) (Or.inl ⟨by rfl, ?_⟩) HS0 ?_
      · intro wq hSq
        have f0 := HNC.out wq hSq
        clear hSq
        go_simp
      try simp only [Act.put, List.setIfInBounds_toArray, List.set_cons_zero, List.set_cons_succ]
      refine wpAnyH_take (i := 5) (oi := { dst := some 27, op := Op.load 32 (Operand.tmp 2), type := 32, pos := "l07_match.go:54", after := #[], guard := none }) (v := .agg #[.int .i64 p.op, .int .i64 p.at_, .int .i64 p.n, .string p.s, .slice ps p.set.length cs, .slice pu p.len cu]) rfl (by kernel_rfl) (by kernel_rfl) (by kernel_rfl) (fun _ _ _ h => h) (Or.inl ⟨by rfl, ?_⟩) HS0 ?_
      · intro wq hSq
        obtain ⟨f0, f1, f2, f3, f4, f5⟩ := (KW.out wq hSq).2.1.cells
        clear hSq
        go_simp
      try simp only [Act.put, List.setIfInBounds_toArray, List.set_cons_zero, List.set_cons_succ]
      refine wpAnyH_take (i := 6) (oi := { dst := some 28, op := Op.move (Operand.tmp 6), type := 54, pos := "l07_match.go:54", after := #[], guard := none }) (v := .slice (some ⟨bn, on, none⟩) ns.length cn) rfl (by kernel_rfl) (by kernel_rfl) (by kernel_rfl) (fun _ _ _ h => h) (Or.inl ⟨by rfl, ?_⟩) HS0 ?_
      · intro wq hSq
        clear hSq
        go_simp
      try simp only [Act.put, List.setIfInBounds_toArray, List.set_cons_zero, List.set_cons_succ]
      refine wpAnyH_take (i := 7) (oi := { dst := some 29, op := Op.move (Operand.tmp 8), type := 3, pos := "l07_match.go:54", after := #[], guard := none }) (v := .int .i64 k) rfl (by kernel_rfl) (by kernel_rfl) (by kernel_rfl) (fun _ _ _ h => h) (Or.inl ⟨by rfl, ?_⟩) HS0 ?_
      · intro wq hSq
        clear hSq
        go_simp
      try simp only [Act.put, List.setIfInBounds_toArray, List.set_cons_zero, List.set_cons_succ]
      refine wpAnyH_take (i := 8) (oi := { dst := some 30, op := Op.indexAddr 54 (Operand.tmp 28) (Operand.tmp 29), type := 0, pos := "l07_match.go:54", after := #[{ on := 6, ground := Ground.data }, { on := 7, ground := Ground.data }], guard := none }) (v := .pointer (some ⟨bn, on + k, none⟩)) rfl (by kernel_rfl) (by kernel_rfl) (by kernel_rfl) (fun _ _ _ h => h) (Or.inl ⟨by rfl, ?_⟩) HS0 ?_
      · intro wq hSq
        clear hSq
        go_simp
      try simp only [Act.put, List.setIfInBounds_toArray, List.set_cons_zero, List.set_cons_succ]
      refine wpAnyH_take (i := 9) (oi := { dst := some 31, op := Op.load 9 (Operand.tmp 30), type := 9, pos := "l07_match.go:54", after := #[{ on := 8, ground := Ground.data }], guard := none }) (v := .string y.1) rfl (by kernel_rfl) (by kernel_rfl) (by kernel_rfl) (fun _ _ _ h => h) (Or.inl ⟨by rfl, ?_⟩) HS0 ?_
      · intro wq hSq
        have f0 := HNC.out wq hSq
        clear hSq
        go_simp
      try simp only [Act.put, List.setIfInBounds_toArray, List.set_cons_zero, List.set_cons_succ]
      refine wpAnyH_ready (rs := [10]) (by kernel_rfl) (by simp) ?_
      refine AllReadyH.cons (o := { dst := some 32, op := Op.call { callee := Callee.value (Operand.func 51), args := #[Operand.tmp 27, Operand.tmp 31], argTypes := #[32, 9] }, type := 3, pos := "l07_match.go:54", after := #[{ on := 5, ground := Ground.data }, { on := 9, ground := Ground.data }], guard := none }) rfl (fun KK hK => ?_) AllReadyH.nil
      refine step_call2 rfl 51 (.tmp 27) (.tmp 31) 32 9 rfl deep_enter (.agg #[.int .i64 p.op, .int .i64 p.at_, .int .i64 p.n, .string p.s, .slice ps p.set.length cs, .slice pu p.len cu]) (.string y.1) rfl rfl _ (spec_deep7 p wr.drew _ _ y.1 (HPX.out.below (KW.out _ HS0).1) HW.out.1) ?_
      rintro e w3 ⟨rfl, hb3⟩
      refine ⟨_, rfl, ?_⟩
      rw [HD1.out]
      have HBW : Hid (Below wr.heap.size wr w3) := ⟨hb3.os, hb3.tape, hb3.output, hb3.size, hb3.block⟩
      have HSZ : Hid (NB ≤ wr.heap.size) := by have h1 := HR.out.2.2.size; have h2 := HNB.out.1; show _ ≤ _; omega
      have HS1 : Below NB w2 w3 := HR.out.2.2.trans (HBW.out.mono HSZ.out)
      clear hb3
      refine hK.out _ _ HS1 (fun _ => ?_)
      clear hK KK
      try simp only [Act.put, List.setIfInBounds_toArray, List.set_cons_zero, List.set_cons_succ]
      refine wpAnyH_take (i := 11) (oi := { dst := some 33, op := Op.binOp BinOp.add 3 (Operand.const (Value.int IntKind.i64 1)) (Operand.tmp 32) 3, type := 3, pos := "l07_match.go:54", after := #[{ on := 10, ground := Ground.data }], guard := none }) (v := .int .i64 (1 + y.2)) rfl (by kernel_rfl) (by kernel_rfl) (by kernel_rfl) (fun _ _ _ h => h) (Or.inl ⟨by rfl, ?_⟩) HS1 ?_
      · intro wq hSq
        clear hSq
        go_simp; exact IntWalk.i64_in _ (by omega)
      try simp only [Act.put, List.setIfInBounds_toArray, List.set_cons_zero, List.set_cons_succ]
      refine wpAnyH_take (i := 12) (oi := { dst := some 34, op := Op.build 48 #[(0, Operand.tmp 26), (1, Operand.tmp 33)], type := 48, pos := "l07_match.go:54", after := #[{ on := 4, ground := Ground.data }, { on := 11, ground := Ground.data }], guard := none }) (v := .agg #[.string y.1, .int .i64 (1 + y.2), .int .i64 0, .int .i64 0, .int .i64 0, .string ⟨#[]⟩, .slice none 0 0, .slice none 0 0, .slice none 0 0]) rfl (by kernel_rfl) (by kernel_rfl) (by kernel_rfl) (fun _ _ _ h => h) (Or.inl ⟨by rfl, ?_⟩) HS1 ?_
      · intro wq hSq
        clear hSq
        go_simp
      try simp only [Act.put, List.setIfInBounds_toArray, List.set_cons_zero, List.set_cons_succ]
      refine wpAnyH_ready (rs := [13]) (by kernel_rfl) (by simp) ?_
      refine AllReadyH.cons (o := { dst := some 35, op := Op.buildSlice 27 1 #[(0, Operand.tmp 34)], type := 27, pos := "l07_match.go:54", after := #[{ on := 12, ground := Ground.data }], guard := none }) rfl (fun KK hK => ?_) AllReadyH.nil
      go_simp
      refine hK.out _ _ (HS1.trans ((newx w3 _).mono (Nat.le_trans HSZ.out HBW.out.size))) (fun _ => ?_)
      clear hK KK
      try simp only [Act.put, List.setIfInBounds_toArray, List.set_cons_zero, List.set_cons_succ]
      refine wpAnyH_ready (rs := [14]) (by kernel_rfl) (by simp) ?_
      refine AllReadyH.cons (o := { dst := some 36, op := Op.call { callee := Callee.builtin Builtin.append, args := #[Operand.tmp 22, Operand.tmp 35], argTypes := #[27, 27] }, type := 27, pos := "l07_match.go:54", after := #[{ on := 0, ground := Ground.data }, { on := 13, ground := Ground.data }, { on := 10, ground := Ground.chain }], guard := none }) rfl (fun KK hK => ?_) AllReadyH.nil
      refine step_append_at (by rfl) (.tmp 22) (.tmp 35) 27 (by rfl) NB 48 i0 (.agg #[.string ⟨#[]⟩, .int .i64 0, .int .i64 0, .int .i64 0, .int .i64 0, .string ⟨#[]⟩, .slice none 0 0, .slice none 0 0, .slice none 0 0]) 9 136 Tryz.underlying27 hi0 hz0 hz1 hz2 rfl (by decide) v0 k (grows ((ns.take k).map emptyR)) (by rfl) (World.ownsRow.alloc (own_sameX HR.out.1 (fun j hj => HBW.out.block j (HR.out.1.lt j hj).2)) _) ⟨w3.heap.size, 0, none⟩ 1 1 [.string y.1, .int .i64 (1 + y.2), .int .i64 0, .int .i64 0, .int .i64 0, .string ⟨#[]⟩, .slice none 0 0, .slice none 0 0, .slice none 0 0] (by rfl) (by rfl) (World.news_of_block (cs := #[.string y.1, .int .i64 (1 + y.2), .int .i64 0, .int .i64 0, .int .i64 0, .string ⟨#[]⟩, .slice none 0 0, .slice none 0 0, .slice none 0 0]) (t := 48) (fr := (0, 0)) (heap_alloc_new w3 _)) (by simp [Value.oneCell']) (by unfold maxLen; omega) (by omega) (by have h1 := HBW.out.size; have h2 := HSZ.out; simp; omega) (by decide) ?_
      intro v' w4 hown4 hg4 hwh4
      have HFIN : Hid (w4.ownsRow NB 48 9 v' (k + 1) (grows ((ns.take (k + 1)).map emptyR)) ∧ v'.ownBlock ≠ none ∧ Below NB w2 w4) := by
        refine ⟨?_, ?_, ?_⟩
        · rw [HTK.out, List.map_append, grows_append]
          have h1 := hown4.out
          rw [Int.add_comm] at h1
          exact h1
        · obtain ⟨g', c', hv'⟩ := ownsRow_succ hown4.out
          rw [hv']
          simp [Value.ownBlock]
        · have hS2 : Below NB w2 (w3.alloc (.cells #[.string y.1, .int .i64 (1 + y.2), .int .i64 0, .int .i64 0, .int .i64 0, .string ⟨#[]⟩, .slice none 0 0, .slice none 0 0, .slice none 0 0] 48)) := HS1.trans ((newx w3 _).mono (Nat.le_trans HSZ.out HBW.out.size))
          refine ⟨hg4.out.os.trans hS2.os, hg4.out.tape.trans hS2.tape, hg4.out.output.trans hS2.output, Nat.le_trans hS2.size hg4.out.size, fun j hj => (hg4.out.block j (by have h1 := HBW.out.size; have h2 := HSZ.out; simp; omega) (fun e => ?_)).trans (hS2.block j hj)⟩
          have := (HR.out.1.lt j e.symm).1
          omega
      clear hown4 hg4 hwh4
      refine hK.out _ _ HFIN.out.2.2 (fun _ => ?_)
      clear hK KK
      try simp only [Act.put, List.setIfInBounds_toArray, List.set_cons_zero, List.set_cons_succ]
      refine wpAnyH_take (i := 15) (oi := { dst := some 7, op := Op.assign (Operand.tmp 36), type := 27, pos := "l07_match.go:54", after := #[{ on := 14, ground := Ground.data }, { on := 14, ground := Ground.chain }, { on := 0, ground := Ground.phase }, { on := 1, ground := Ground.phase }, { on := 2, ground := Ground.phase }, { on := 3, ground := Ground.phase }, { on := 4, ground := Ground.phase }, { on := 5, ground := Ground.phase }, { on := 6, ground := Ground.phase }, { on := 7, ground := Ground.phase }, { on := 8, ground := Ground.phase }, { on := 9, ground := Ground.phase }, { on := 10, ground := Ground.phase }, { on := 11, ground := Ground.phase }, { on := 12, ground := Ground.phase }, { on := 13, ground := Ground.phase }, { on := 14, ground := Ground.phase }], guard := none }) (v := v') rfl (by kernel_rfl) (by kernel_rfl) (by kernel_rfl) (fun _ _ _ h => h) (Or.inl ⟨by rfl, ?_⟩) HFIN.out.2.2 ?_
      · intro wq hSq
        clear hSq
        go_simp
      try simp only [Act.put, List.setIfInBounds_toArray, List.set_cons_zero, List.set_cons_succ]
      refine wpAnyH_done (by kernel_rfl) ?_ _
      go_wp2_with fail
      go_roundw
      case rel => exact ⟨k + 1, _, rfl, by go_num, by omega, HFIN.out⟩
      case measure => simp [intOf]; omega
    case neg =>
      have hke : k = ns.length := by omega
      subst hke
      obtain ⟨g0, cv, hv0⟩ := own_row_form HR.out.1 HR.out.2.1
      subst hv0
      have HER : Hid (ER wr NB (.slice (some ⟨g0, 0, none⟩) ns.length cv) ns (gotTo f 0) (fun _ => .slice none 0 0) (fun _ => []) (fun _ => [])) := by
        have h1 := HR.out.1
        rw [List.take_length] at h1
        exact ER.start h1
      have HB0 : Hid (Below NB w2 wr) := HR.out.2.2
      clear HR
      go_wp2_with fail
      go_loopw [9] (fun i wq => ∃ (k : Nat), i = .int .i64 k ∧ k ≤ n ∧ (∀ t, t < k → (f t).isSome = true) ∧ (∃ gv ll SSs, ER wq NB (.slice (some ⟨g0, 0, none⟩) ns.length cv) ns (gotTo f k) gv ll SSs) ∧ Below NB w2 wq) (fun i _ => n - (intOf i).toNat)
      case atStart => exact ⟨0, rfl, Nat.zero_le _, fun t ht => absurd ht (Nat.not_lt_zero _), ⟨_, _, _, HER.out⟩, HB0.out⟩
      case round =>
        obtain ⟨k, rfl, hk, hall, ⟨gv, ll, SSs, her⟩, hbel⟩ := hrel
        have HE : Hid (ER wr NB (.slice (some ⟨g0, 0, none⟩) ns.length cv) ns (gotTo f k) gv ll SSs ∧ (∀ t, t < k → (f t).isSome = true) ∧ Below NB w2 wr) := ⟨her, hall, hbel⟩
        clear hall her hbel HER HB0
        by_cases hlt : (k : Int) < n
        case pos =>
          have hk' : k < n := by omega
          obtain ⟨b1, o1, sk1, uk1, hpk, hdk, hink⟩ := HAT.out k hk'
          subst hpk
          obtain ⟨q1, r1, e1⟩ := hink.xs.shape
          obtain ⟨q2, r2, e2⟩ := hink.sets.shape
          subst e1 e2
          have HDK := hid_ofD hdk
          have HCALL : Hid (∀ wx, Below NB w2 wx → Calls Tryz.prog 17 #[.agg #[.int .i64 p.op, .int .i64 p.at_, .int .i64 p.n, .string p.s, .slice ps p.set.length cs, .slice pu p.len cu], .agg #[.int .i64 (kid k).op, .int .i64 (kid k).at_, .int .i64 (kid k).n, .string (kid k).s, .slice q2 (kid k).set.length r2, .slice q1 (kid k).len r1]] wx fun e w' => SPost wx (f k) e w') := fun wx hx => by
            rw [HF.out]
            exact HT.out (kid k) wx _ _ _ _ (HPX.out.below (KW.out wx hx).1) (hink.below (KW.out wx hx).1) HW.out.1 (HW.out.2.1 k hk') HW.out.2.2.1 HW.out.2.2.2
          clear hdk hink
          go_wp2_with fail
          have HS0 : Below NB w2 wr.drew := HE.out.2.2.drew
          refine wp_region_held_drew (S := fun wq => Below NB w2 wq) (by kernel_rfl) HS0 (fun _ => ?_)
          refine wpAnyH_take (i := 0) (oi := { dst := some 44, op := Op.load 32 (Operand.tmp 2), type := 32, pos := "l07_match.go:57", after := #[], guard := none }) (v := .agg #[.int .i64 p.op, .int .i64 p.at_, .int .i64 p.n, .string p.s, .slice ps p.set.length cs, .slice pu p.len cu]) rfl (by kernel_rfl) (by kernel_rfl) (by kernel_rfl) (fun _ _ _ h => h) (Or.inl ⟨by rfl, ?_⟩) HS0 ?_
          · intro wq hSq
            obtain ⟨f0, f1, f2, f3, f4, f5⟩ := (KW.out wq hSq).2.1.cells
            clear hSq
            go_simp
          try simp only [Act.put, List.setIfInBounds_toArray, List.set_cons_zero, List.set_cons_succ]
          refine wpAnyH_take (i := 1) (oi := { dst := some 45, op := Op.move (Operand.tmp 1), type := 30, pos := "l07_match.go:57", after := #[], guard := none }) (v := .slice (some ⟨b1, o1, none⟩) n ck) rfl (by kernel_rfl) (by kernel_rfl) (by kernel_rfl) (fun _ _ _ h => h) (Or.inl ⟨by rfl, ?_⟩) HS0 ?_
          · intro wq hSq
            clear hSq
            go_simp
          try simp only [Act.put, List.setIfInBounds_toArray, List.set_cons_zero, List.set_cons_succ]
          refine wpAnyH_take (i := 2) (oi := { dst := some 46, op := Op.move (Operand.tmp 9), type := 3, pos := "l07_match.go:57", after := #[], guard := none }) (v := .int .i64 k) rfl (by kernel_rfl) (by kernel_rfl) (by kernel_rfl) (fun _ _ _ h => h) (Or.inl ⟨by rfl, ?_⟩) HS0 ?_
          · intro wq hSq
            clear hSq
            go_simp
          try simp only [Act.put, List.setIfInBounds_toArray, List.set_cons_zero, List.set_cons_succ]
          refine wpAnyH_take (i := 3) (oi := { dst := some 47, op := Op.indexAddr 30 (Operand.tmp 45) (Operand.tmp 46), type := 0, pos := "l07_match.go:57", after := #[{ on := 1, ground := Ground.data }, { on := 2, ground := Ground.data }], guard := none }) (v := .pointer (some ⟨b1, o1 + k * 6, none⟩)) rfl (by kernel_rfl) (by kernel_rfl) (by kernel_rfl) (fun _ _ _ h => h) (Or.inl ⟨by rfl, ?_⟩) HS0 ?_
          · intro wq hSq
            clear hSq
            go_simp
          try simp only [Act.put, List.setIfInBounds_toArray, List.set_cons_zero, List.set_cons_succ]
          refine wpAnyH_take (i := 4) (oi := { dst := some 48, op := Op.load 32 (Operand.tmp 47), type := 32, pos := "l07_match.go:57", after := #[{ on := 3, ground := Ground.data }], guard := none }) (v := .agg #[.int .i64 (kid k).op, .int .i64 (kid k).at_, .int .i64 (kid k).n, .string (kid k).s, .slice q2 (kid k).set.length r2, .slice q1 (kid k).len r1]) rfl (by kernel_rfl) (by kernel_rfl) (by kernel_rfl) (fun _ _ _ h => h) (Or.inl ⟨by rfl, ?_⟩) HS0 ?_
          · intro wq hSq
            obtain ⟨f0, f1, f2, f3, f4, f5⟩ := HHD.out wq hSq _ _ _ _ _ HDK.out
            clear hSq
            go_simp
          try simp only [Act.put, List.setIfInBounds_toArray, List.set_cons_zero, List.set_cons_succ]
          refine wpAnyH_ready (rs := [5]) (by kernel_rfl) (by simp) ?_
          refine AllReadyH.cons (o := { dst := some 49, op := Op.call { callee := Callee.value (Operand.func 17), args := #[Operand.tmp 44, Operand.tmp 48], argTypes := #[32, 32] }, type := 28, pos := "l07_match.go:57", after := #[{ on := 0, ground := Ground.data }, { on := 4, ground := Ground.data }], guard := none }) rfl (fun KK hK => ?_) AllReadyH.nil
          refine step_call2 rfl 17 (.tmp 44) (.tmp 48) 32 32 rfl match_enter (.agg #[.int .i64 p.op, .int .i64 p.at_, .int .i64 p.n, .string p.s, .slice ps p.set.length cs, .slice pu p.len cu]) (.agg #[.int .i64 (kid k).op, .int .i64 (kid k).at_, .int .i64 (kid k).n, .string (kid k).s, .slice q2 (kid k).set.length r2, .slice q1 (kid k).len r1]) rfl rfl _ (HCALL.out wr.drew HS0) ?_
          rintro e w1 ⟨hb1, v1, ok1, rfl, hcase⟩
          refine ⟨_, rfl, ?_⟩
          have HBW : Hid (Below wr.heap.size wr w1) := ⟨hb1.os, hb1.tape, hb1.output, hb1.size, hb1.block⟩
          have HSZ : Hid (NB ≤ wr.heap.size) := by have h1 := HE.out.2.2.size; have h2 := HNB.out.1; show _ ≤ _; omega
          have HS1 : Below NB w2 w1 := HE.out.2.2.trans (HBW.out.mono HSZ.out)
          have HCS : Hid ((∃ l, f k = some l ∧ ok1 = true ∧ GN w1 wr.heap.size v1 l ∧ v1.ownBlock ≠ none) ∨ (f k = none ∧ ok1 = false)) := hcase
          clear hb1 hcase HCALL HDK
          refine hK.out _ _ HS1 (fun _ => ?_)
          clear hK KK
          try simp only [Act.put, List.setIfInBounds_toArray, List.set_cons_zero, List.set_cons_succ]
          refine wpAnyH_take (i := 6) (oi := { dst := some 43, op := Op.move (Operand.tmp 49), type := 28, pos := "l07_match.go:57", after := #[{ on := 5, ground := Ground.data }], guard := none }) (v := .tuple #[v1, .bool ok1]) rfl (by kernel_rfl) (by kernel_rfl) (by kernel_rfl) (fun _ _ _ h => h) (Or.inl ⟨by rfl, ?_⟩) HS1 ?_
          · intro wq hSq
            clear hSq
            go_simp
          try simp only [Act.put, List.setIfInBounds_toArray, List.set_cons_zero, List.set_cons_succ]
          refine wpAnyH_take (i := 7) (oi := { dst := some 50, op := Op.extract (Operand.tmp 43) 0, type := 27, pos := "l07_match.go:57", after := #[{ on := 6, ground := Ground.data }], guard := none }) (v := v1) rfl (by kernel_rfl) (by kernel_rfl) (by kernel_rfl) (fun _ _ _ h => h) (Or.inl ⟨by rfl, ?_⟩) HS1 ?_
          · intro wq hSq
            clear hSq
            go_simp
          try simp only [Act.put, List.setIfInBounds_toArray, List.set_cons_zero, List.set_cons_succ]
          refine wpAnyH_take (i := 8) (oi := { dst := some 51, op := Op.extract (Operand.tmp 43) 1, type := 4, pos := "l07_match.go:57", after := #[{ on := 6, ground := Ground.data }, { on := 9, ground := Ground.gcOnly Departure.lateStores }], guard := none }) (v := .bool ok1) rfl (by kernel_rfl) (by kernel_rfl) (by kernel_rfl) (fun _ _ _ h => h) (Or.inl ⟨by rfl, ?_⟩) HS1 ?_
          · intro wq hSq
            clear hSq
            go_simp
          try simp only [Act.put, List.setIfInBounds_toArray, List.set_cons_zero, List.set_cons_succ]
          refine wpAnyH_take (i := 9) (oi := { dst := some 10, op := Op.assign (Operand.tmp 50), type := 27, pos := "l07_match.go:57", after := #[{ on := 7, ground := Ground.data }, { on := 5, ground := Ground.chain }, { on := 0, ground := Ground.phase }, { on := 1, ground := Ground.phase }, { on := 2, ground := Ground.phase }, { on := 3, ground := Ground.phase }, { on := 4, ground := Ground.phase }, { on := 5, ground := Ground.phase }, { on := 6, ground := Ground.phase }, { on := 7, ground := Ground.phase }, { on := 8, ground := Ground.textOnly Departure.lateStores }], guard := none }) (v := v1) rfl (by kernel_rfl) (by kernel_rfl) (by kernel_rfl) (fun _ _ _ h => h) (Or.inl ⟨by rfl, ?_⟩) HS1 ?_
          · intro wq hSq
            clear hSq
            go_simp
          try simp only [Act.put, List.setIfInBounds_toArray, List.set_cons_zero, List.set_cons_succ]
          refine wpAnyH_take (i := 10) (oi := { dst := some 11, op := Op.assign (Operand.tmp 51), type := 4, pos := "l07_match.go:57", after := #[{ on := 8, ground := Ground.data }, { on := 9, ground := Ground.chain }, { on := 0, ground := Ground.phase }, { on := 1, ground := Ground.phase }, { on := 2, ground := Ground.phase }, { on := 3, ground := Ground.phase }, { on := 4, ground := Ground.phase }, { on := 5, ground := Ground.phase }, { on := 6, ground := Ground.phase }, { on := 7, ground := Ground.phase }, { on := 8, ground := Ground.phase }, { on := 9, ground := Ground.phase }], guard := none }) (v := .bool ok1) rfl (by kernel_rfl) (by kernel_rfl) (by kernel_rfl) (fun _ _ _ h => h) (Or.inl ⟨by rfl, ?_⟩) HS1 ?_
          · intro wq hSq
            clear hSq
            go_simp
          try simp only [Act.put, List.setIfInBounds_toArray, List.set_cons_zero, List.set_cons_succ]
          refine wpAnyH_done (by kernel_rfl) ?_ _
          have HE1 : Hid (ER w1 NB (.slice (some ⟨g0, 0, none⟩) ns.length cv) ns (gotTo f k) gv ll SSs) := HE.out.1.same (fun j hj => HBW.out.block j (HE.out.1.lt hj).2)
          rcases HCS.out with ⟨lst, hml, rfl, ⟨lrows, SSl, hgl, hgB⟩, hvl⟩ | ⟨hml, rfl⟩
          · obtain ⟨gl, cl, hv1⟩ := own_row_form hgl.row hvl
            subst hv1
            have hln : lst.length = ns.length := by
              rw [HNS.out]
              exact matchG_len _ _ _ HW.out.2.2.1 (show matchG p (kid k) = some lst by have h1 := hml; rw [HF.out] at h1; exact h1)
            have HL : Hid (GRow w1 wr.heap.size (.slice (some ⟨gl, 0, none⟩) lst.length cl) lst lrows SSl ∧ (∀ j ∈ blG (.slice (some ⟨gl, 0, none⟩) lst.length cl) SSl, wr.heap.size ≤ j) ∧ f k = some lst ∧ gl < w1.heap.size) := ⟨hgl, hgB, hml, (hgl.row.lt gl rfl).2⟩
            have HI0 : Hid (EI w2 w1 w1 NB g0 cv ns (gotTo f k) lst (.slice (some ⟨gl, 0, none⟩) lst.length cl) SSl gv ll SSs 0) := by
              refine ⟨by rw [List.take_zero, withK_nil]; exact HE1.out, fun x hx => ⟨rfl, ?_⟩, HS1, Nat.le_refl _⟩
              have hxw : wr.heap.size ≤ x := by
                rcases hx with h | ⟨j, T, _, h2, h3⟩
                · exact hgB x (List.mem_append_left _ (mem_own h))
                · exact hgB x (List.mem_append_right _ (mem_flatX h2 h3))
              refine ⟨fun e => ?_, fun t ht hm => ?_⟩
              · have := (HE.out.1.lt (.inl rfl : (Value.slice (some ⟨g0, 0, none⟩) ns.length cv).ownBlock = some g0 ∨ _)).2
                omega
              · have := (HE.out.1.lt (.inr ⟨t, ht, hm⟩)).2
                omega
            have HLN := hid_ofD hln
            clear hgl hgB hml hvl HCS HE1 HS0 HS1 hln
            go_wp2_with fail
            go_loopw [12] (fun j wq => ∃ (i : Nat), j = .int .i64 i ∧ i ≤ ns.length ∧ ∃ gv ll SSs, EI w2 w1 wq NB g0 cv ns (gotTo f k) lst (.slice (some ⟨gl, 0, none⟩) lst.length cl) SSl gv ll SSs i) (fun j _ => ns.length - (intOf j).toNat)
            case atStart => exact ⟨0, rfl, Nat.zero_le _, _, _, _, HI0.out⟩
            case round =>
              obtain ⟨i, rfl, hi, gw, lw, SW, hei⟩ := hrel
              have HI : Hid (EI w2 w1 wr NB g0 cv ns (gotTo f k) lst (.slice (some ⟨gl, 0, none⟩) lst.length cl) SSl gw lw SW i) := hei
              clear hei HI0
              by_cases hlt3 : (i : Int) < ns.length
              case pos =>
                have hi' : i < ns.length := by omega
                have hil : i < lst.length := by rw [HLN.out]; exact hi'
                obtain ⟨g, a1, a2, d1, d2, c1, c2, hq, z0, z1, z2, z3, z4, z5, z6, z7, z8⟩ := HI.out.list HL.out.1 hil
                obtain ⟨pj, cj, ej⟩ := own_slice (HI.out.er.each i hi').row
                have hlk : (withK (gotTo f k) (lst.take i) i).length = k := by
                  unfold withK
                  rw [if_neg (by rw [List.length_take]; omega), List.append_nil, gotTo_len]
                rw [hlk] at ej
                have hxc : wr.cell? ⟨g0, i * 9 + 8, none⟩ = some (.slice pj k cj) := by
                  rw [← ej]
                  exact (HI.out.er.row.cellAt (i * 9 + 8) (by omega)).trans (grows_get _ (erows_at ns _ gw hi') (by omega))
                have HROW : Hid (∀ D, But (fun _ => False) wr D → D.ownsRow NB 48 9 (.slice pj k cj) k (grows (lw i))) := fun D hD => by
                  have h7 := HI.out.row hi' hD
                  rw [ej, hlk] at h7
                  exact h7
                have HPU : Hid (∀ D, But (fun _ => False) wr D → ∀ v' w3 news, w3.ownsRow NB 48 9 v' (k + 1) (grows (lw i) ++ news) → D.grownBy w3 (Value.slice pj k cj).ownBlock → (v'.ownBlock = (Value.slice pj k cj).ownBlock ∨ v'.ownBlock = some D.heap.size) → ∃ g' c', EQ wr g0 gl g' c' k i (.slice pj k cj) v' w3) := fun D hD v' w3 news r1 r2 r3 => by
                  rw [← ej] at r2 r3 ⊢
                  exact HI.out.pushed HL.out.2.2.2 hi' hD r1 r2 r3
                have HSZ2 : Hid (NB ≤ wr.heap.size) := by have h1 := HI.out.bel.size; have h2 := HNB.out.1; show _ ≤ _; omega
                have HGE : Hid (∀ j ∈ blG (.slice (some ⟨gl, 0, none⟩) lst.length cl) SSl, NB ≤ j) := fun j hj => Nat.le_trans HSZ.out (HL.out.2.1 j hj)
                have HST : Hid (∀ D, But (fun _ => False) wr D → ∀ g' c' w3, w3.ownsRow NB 48 9 (.slice (some ⟨g', 0, none⟩) (k + 1) c') (k + 1) (grows (lw i) ++ zeros9) → D.grownBy w3 (Value.slice pj k cj).ownBlock → ((Value.slice (some ⟨g', 0, none⟩) (k + 1) c').ownBlock = (Value.slice pj k cj).ownBlock ∨ (Value.slice (some ⟨g', 0, none⟩) (k + 1) c').ownBlock = some D.heap.size) → ∀ F, F = (put9 w3 g' (k * 9) ⟨g, .slice a1 g.one.set.length a2, .slice d1 g.one.len d2, .slice c1 g.len c2⟩).setCell ⟨g0, i * 9 + 8, none⟩ (.slice (some ⟨g', 0, none⟩) (k + 1) c') → ∃ gv ll SSs, EI w2 w1 F NB g0 cv ns (gotTo f k) lst (.slice (some ⟨gl, 0, none⟩) lst.length cl) SSl gv ll SSs (i + 1)) := fun D hD g' c' w3 r1 r2 r3 F hF => by
                  rw [← ej] at r2 r3
                  exact (HI.out.step HL.out.1 HGE.out HSZ2.out hi' hil hD hlk hq r1 r2 r3 hF).2
                clear ej hlk hq HGE
                have HS0 : wr.drew.heap[gl]? = wr.heap[gl]? := rfl
                have xa : ∀ o, (wr.alloc o).cell? ⟨g0, i * 9 + 8, none⟩ = some (.slice pj k cj) := fun o => keepsX (newx wr o) _ _ hxc
                have sa : ∀ o, (wr.alloc o).drew.heap[gl]? = wr.heap[gl]? := fun o => Below.heap_alloc _ _ _ (by have := HI.out.sz; have := HL.out.2.2.2; omega)
                go_wp2_with fail
                refine wp_region_held_drew (S := fun wq => wq.heap[gl]? = wr.heap[gl]?) (by kernel_rfl) HS0 (fun _ => ?_)
                refine wpAnyH_take (i := 0) (oi := { dst := some 61, op := Op.move (Operand.tmp 7), type := 27, pos := "l07_match.go:62", after := #[], guard := none }) (v := .slice (some ⟨g0, 0, none⟩) ns.length cv) rfl (by kernel_rfl) (by kernel_rfl) (by kernel_rfl) (fun _ _ _ h => h) (Or.inl ⟨by rfl, ?_⟩) HS0 ?_
                · intro wq hSq
                  clear hSq
                  go_simp
                try simp only [Act.put, List.setIfInBounds_toArray, List.set_cons_zero, List.set_cons_succ]
                refine wpAnyH_take (i := 1) (oi := { dst := some 62, op := Op.move (Operand.tmp 12), type := 3, pos := "l07_match.go:62", after := #[], guard := none }) (v := .int .i64 i) rfl (by kernel_rfl) (by kernel_rfl) (by kernel_rfl) (fun _ _ _ h => h) (Or.inl ⟨by rfl, ?_⟩) HS0 ?_
                · intro wq hSq
                  clear hSq
                  go_simp
                try simp only [Act.put, List.setIfInBounds_toArray, List.set_cons_zero, List.set_cons_succ]
                refine wpAnyH_take (i := 2) (oi := { dst := some 63, op := Op.indexAddr 27 (Operand.tmp 61) (Operand.tmp 62), type := 0, pos := "l07_match.go:62", after := #[{ on := 0, ground := Ground.data }, { on := 1, ground := Ground.data }], guard := none }) (v := .pointer (some ⟨g0, i * 9, none⟩)) rfl (by kernel_rfl) (by kernel_rfl) (by kernel_rfl) (fun _ _ _ h => h) (Or.inl ⟨by rfl, ?_⟩) HS0 ?_
                · intro wq hSq
                  clear hSq
                  go_simp
                try simp only [Act.put, List.setIfInBounds_toArray, List.set_cons_zero, List.set_cons_succ]
                refine wpAnyH_take (i := 3) (oi := { dst := some 64, op := Op.fieldAddr 48 (Operand.tmp 63) 3, type := 0, pos := "l07_match.go:62", after := #[{ on := 2, ground := Ground.data }], guard := none }) (v := .pointer (some ⟨g0, i * 9 + 8, none⟩)) rfl (by kernel_rfl) (by kernel_rfl) (by kernel_rfl) (fun _ _ _ h => h) (Or.inl ⟨by rfl, ?_⟩) HS0 ?_
                · intro wq hSq
                  clear hSq
                  go_simp
                try simp only [Act.put, List.setIfInBounds_toArray, List.set_cons_zero, List.set_cons_succ]
                refine wpAnyH_take (i := 5) (oi := { dst := some 66, op := Op.move (Operand.tmp 10), type := 27, pos := "l07_match.go:62", after := #[], guard := none }) (v := .slice (some ⟨gl, 0, none⟩) lst.length cl) rfl (by kernel_rfl) (by kernel_rfl) (by kernel_rfl) (fun _ _ _ h => h) (Or.inl ⟨by rfl, ?_⟩) HS0 ?_
                · intro wq hSq
                  clear hSq
                  go_simp
                try simp only [Act.put, List.setIfInBounds_toArray, List.set_cons_zero, List.set_cons_succ]
                refine wpAnyH_take (i := 6) (oi := { dst := some 67, op := Op.move (Operand.tmp 12), type := 3, pos := "l07_match.go:62", after := #[], guard := none }) (v := .int .i64 i) rfl (by kernel_rfl) (by kernel_rfl) (by kernel_rfl) (fun _ _ _ h => h) (Or.inl ⟨by rfl, ?_⟩) HS0 ?_
                · intro wq hSq
                  clear hSq
                  go_simp
                try simp only [Act.put, List.setIfInBounds_toArray, List.set_cons_zero, List.set_cons_succ]
                refine wpAnyH_take (i := 7) (oi := { dst := some 68, op := Op.indexAddr 27 (Operand.tmp 66) (Operand.tmp 67), type := 0, pos := "l07_match.go:62", after := #[{ on := 5, ground := Ground.data }, { on := 6, ground := Ground.data }], guard := none }) (v := .pointer (some ⟨gl, i * 9, none⟩)) rfl (by kernel_rfl) (by kernel_rfl) (by kernel_rfl) (fun _ _ _ h => h) (Or.inl ⟨by rfl, ?_⟩) HS0 ?_
                · intro wq hSq
                  clear hSq
                  go_simp
                try simp only [Act.put, List.setIfInBounds_toArray, List.set_cons_zero, List.set_cons_succ]
                refine wpAnyH_take (i := 8) (oi := { dst := some 69, op := Op.load 48 (Operand.tmp 68), type := 48, pos := "l07_match.go:62", after := #[{ on := 7, ground := Ground.data }], guard := none }) (v := .agg #[.string g.name, .int .i64 g.deep, .int .i64 g.one.op, .int .i64 g.one.at_, .int .i64 g.one.n, .string g.one.s, .slice a1 g.one.set.length a2, .slice d1 g.one.len d2, .slice c1 g.len c2]) rfl (by kernel_rfl) (by kernel_rfl) (by kernel_rfl) (fun _ _ _ h => h) (Or.inl ⟨by rfl, ?_⟩) HS0 ?_
                · intro wq hSq
                  have f0 := (World.cell?_of_block (w := wr) (a := ⟨gl, i * 9, none⟩) hSq).trans z0
                  have f1 := (World.cell?_of_block (w := wr) (a := ⟨gl, i * 9 + 1, none⟩) hSq).trans z1
                  have f2 := (World.cell?_of_block (w := wr) (a := ⟨gl, i * 9 + 2, none⟩) hSq).trans z2
                  have f3 := (World.cell?_of_block (w := wr) (a := ⟨gl, i * 9 + 3, none⟩) hSq).trans z3
                  have f4 := (World.cell?_of_block (w := wr) (a := ⟨gl, i * 9 + 4, none⟩) hSq).trans z4
                  have f5 := (World.cell?_of_block (w := wr) (a := ⟨gl, i * 9 + 5, none⟩) hSq).trans z5
                  have f6 := (World.cell?_of_block (w := wr) (a := ⟨gl, i * 9 + 6, none⟩) hSq).trans z6
                  have f7 := (World.cell?_of_block (w := wr) (a := ⟨gl, i * 9 + 7, none⟩) hSq).trans z7
                  have f8 := (World.cell?_of_block (w := wr) (a := ⟨gl, i * 9 + 8, none⟩) hSq).trans z8
                  clear hSq
                  go_simp
                try simp only [Act.put, List.setIfInBounds_toArray, List.set_cons_zero, List.set_cons_succ]
                refine wpAnyH_ready (rs := [4, 10]) (by kernel_rfl) (by simp) (AllReadyH.cons (o := { dst := some 65, op := Op.load 27 (Operand.tmp 64), type := 27, pos := "l07_match.go:62", after := #[{ on := 3, ground := Ground.data }], guard := none }) rfl (fun KK hK => ?ea4) (AllReadyH.cons (o := { dst := some 71, op := Op.buildSlice 27 1 #[(0, Operand.const (Value.agg #[Value.string { data := #[] }, Value.int IntKind.i64 0, Value.int IntKind.i64 0, Value.int IntKind.i64 0, Value.int IntKind.i64 0, Value.string { data := #[] }, Value.slice none 0 0, Value.slice none 0 0, Value.slice none 0 0]))], type := 27, pos := "l07_match.go:62", after := #[], guard := none }) rfl (fun KK hK => ?ea10) AllReadyH.nil))
                case' ea4 =>
                  go_simp
                  refine hK.out _ _ HS0 (fun _ => ?_)
                  clear hK KK
                  try simp only [Act.put, List.setIfInBounds_toArray, List.set_cons_zero, List.set_cons_succ]
                  refine wpAnyH_take (i := 9) (oi := { dst := some 70, op := Op.call { callee := Callee.builtin Builtin.len, args := #[Operand.tmp 65], argTypes := #[27] }, type := 3, pos := "l07_match.go:62", after := #[{ on := 4, ground := Ground.data }], guard := none }) (v := .int .i64 k) rfl (by kernel_rfl) (by kernel_rfl) (by kernel_rfl) (fun _ _ _ h => h) (Or.inl ⟨by rfl, ?_⟩) HS0 ?_
                  · intro wq hSq
                    clear hSq
                    go_simp
                  try simp only [Act.put, List.setIfInBounds_toArray, List.set_cons_zero, List.set_cons_succ]
                  refine wpAnyH_ready (rs := [10]) (by kernel_rfl) (by simp) ?_
                  refine AllReadyH.cons (o := { dst := some 71, op := Op.buildSlice 27 1 #[(0, Operand.const (Value.agg #[Value.string { data := #[] }, Value.int IntKind.i64 0, Value.int IntKind.i64 0, Value.int IntKind.i64 0, Value.int IntKind.i64 0, Value.string { data := #[] }, Value.slice none 0 0, Value.slice none 0 0, Value.slice none 0 0]))], type := 27, pos := "l07_match.go:62", after := #[], guard := none }) rfl (fun KK hK => ?_) AllReadyH.nil
                  go_simp
                  refine hK.out _ _ (sa _) (fun _ => ?_)
                  clear hK KK
                  try simp only [Act.put, List.setIfInBounds_toArray, List.set_cons_zero, List.set_cons_succ]
                case' ea10 =>
                  go_simp
                  refine hK.out _ _ (sa _) (fun _ => ?_)
                  clear hK KK
                  try simp only [Act.put, List.setIfInBounds_toArray, List.set_cons_zero, List.set_cons_succ]
                  refine wpAnyH_ready (rs := [4]) (by kernel_rfl) (by simp) ?_
                  refine AllReadyH.cons (o := { dst := some 65, op := Op.load 27 (Operand.tmp 64), type := 27, pos := "l07_match.go:62", after := #[{ on := 3, ground := Ground.data }], guard := none }) rfl (fun KK hK => ?_) AllReadyH.nil
                  go_simp
                  refine hK.out _ _ (sa _) (fun _ => ?_)
                  clear hK KK
                  try simp only [Act.put, List.setIfInBounds_toArray, List.set_cons_zero, List.set_cons_succ]
                  refine wpAnyH_take (i := 9) (oi := { dst := some 70, op := Op.call { callee := Callee.builtin Builtin.len, args := #[Operand.tmp 65], argTypes := #[27] }, type := 3, pos := "l07_match.go:62", after := #[{ on := 4, ground := Ground.data }], guard := none }) (v := .int .i64 k) rfl (by kernel_rfl) (by kernel_rfl) (by kernel_rfl) (fun _ _ _ h => h) (Or.inl ⟨by rfl, ?_⟩) (sa _) ?_
                  · intro wq hSq
                    clear hSq
                    go_simp
                  try simp only [Act.put, List.setIfInBounds_toArray, List.set_cons_zero, List.set_cons_succ]
                all_goals
                  refine wpAnyH_ready (rs := [11]) (by kernel_rfl) (by simp) ?_
                  refine AllReadyH.cons (o := { dst := some 72, op := Op.call { callee := Callee.builtin Builtin.append, args := #[Operand.tmp 65, Operand.tmp 71], argTypes := #[27, 27] }, type := 27, pos := "l07_match.go:62", after := #[{ on := 4, ground := Ground.data }, { on := 10, ground := Ground.data }, { on := 0, ground := Ground.phase }, { on := 1, ground := Ground.phase }, { on := 2, ground := Ground.phase }, { on := 3, ground := Ground.phase }, { on := 4, ground := Ground.phase }, { on := 5, ground := Ground.phase }, { on := 6, ground := Ground.phase }, { on := 7, ground := Ground.phase }, { on := 8, ground := Ground.phase }, { on := 9, ground := Ground.phase }, { on := 10, ground := Ground.phase }], guard := none }) rfl (fun KK hK => ?_) AllReadyH.nil
                  refine step_append_at (by rfl) (.tmp 65) (.tmp 71) 27 (by rfl) NB 48 i0 (.agg #[.string ⟨#[]⟩, .int .i64 0, .int .i64 0, .int .i64 0, .int .i64 0, .string ⟨#[]⟩, .slice none 0 0, .slice none 0 0, .slice none 0 0]) 9 136 Tryz.underlying27 hi0 hz0 hz1 hz2 rfl (by decide) (.slice pj k cj) k (grows (lw i)) (by rfl) (HROW.out _ (((But.refl _ wr).alloc _).drew)) ⟨wr.heap.size, 0, none⟩ 1 1 zeros9 (by rfl) (by rfl) (World.news_of_block (cs := #[.string ⟨#[]⟩, .int .i64 0, .int .i64 0, .int .i64 0, .int .i64 0, .string ⟨#[]⟩, .slice none 0 0, .slice none 0 0, .slice none 0 0]) (t := 48) (fr := (0, 0)) (heap_alloc_new wr _)) (by simp [Value.oneCell']) (by unfold maxLen; omega) (by omega) (by have h1 := HSZ2.out; simp; omega) (by decide) ?_
                  intro v' w3 hown3 hg3 hwh3
                  obtain ⟨g', c', hP⟩ := HPU.out _ (((But.refl _ wr).alloc _).drew) v' w3 _ hown3.out hg3.out hwh3.out
                  have hv' := hP.eq
                  subst hv'
                  have HEND3 := hid_ofD (HST.out _ (((But.refl _ wr).alloc _).drew) g' c' w3 hown3.out hg3.out hwh3.out)
                  have p3 := hP.old
                  have p3f := hP.oldf
                  have n0 := hP.ne0
                  have n0' : ¬ g0 = g' := fun e => n0 e.symm
                  obtain ⟨u0, hu0⟩ := hP.cells 0 (by omega)
                  obtain ⟨u1, hu1⟩ := hP.cells 1 (by omega)
                  obtain ⟨u2, hu2⟩ := hP.cells 2 (by omega)
                  obtain ⟨u3, hu3⟩ := hP.cells 3 (by omega)
                  obtain ⟨u4, hu4⟩ := hP.cells 4 (by omega)
                  obtain ⟨u5, hu5⟩ := hP.cells 5 (by omega)
                  obtain ⟨u6, hu6⟩ := hP.cells 6 (by omega)
                  obtain ⟨u7, hu7⟩ := hP.cells 7 (by omega)
                  obtain ⟨u8, hu8⟩ := hP.cells 8 (by omega)
                  rw [Nat.add_zero] at hu0
                  have hlv := hP.live
                  have s3 := hP.same
                  have s4 : (((((((((w3.setCell ⟨g', k * 9, none⟩ (.string g.name)).setCell ⟨g', k * 9 + 1, none⟩ (.int .i64 g.deep)).setCell ⟨g', k * 9 + 2, none⟩ (.int .i64 g.one.op)).setCell ⟨g', k * 9 + 3, none⟩ (.int .i64 g.one.at_)).setCell ⟨g', k * 9 + 4, none⟩ (.int .i64 g.one.n)).setCell ⟨g', k * 9 + 5, none⟩ (.string g.one.s)).setCell ⟨g', k * 9 + 6, none⟩ (.slice a1 g.one.set.length a2)).setCell ⟨g', k * 9 + 7, none⟩ (.slice d1 g.one.len d2)).setCell ⟨g', k * 9 + 8, none⟩ (.slice c1 g.len c2)).heap[gl]? = wr.heap[gl]? := (put9_other w3 g' (k * 9) ⟨g, .slice a1 g.one.set.length a2, .slice d1 g.one.len d2, .slice c1 g.len c2⟩ gl hP.ne1).trans hP.same
                  have s5 : (w3.setCell ⟨g0, i * 9 + 8, none⟩ (.slice (some ⟨g', 0, none⟩) (k + 1) c')).heap[gl]? = wr.heap[gl]? := (Below.heap_setCell _ _ _ _ (by exact hP.ne2)).trans hP.same
                  have e9 := put9_comm w3 g' (k * 9) ⟨g, .slice a1 g.one.set.length a2, .slice d1 g.one.len d2, .slice c1 g.len c2⟩ g0 (i * 9 + 8) (.slice (some ⟨g', 0, none⟩) (k + 1) c') n0'
                  have s6 : ((((((((((w3.setCell ⟨g', k * 9, none⟩ (.string g.name)).setCell ⟨g', k * 9 + 1, none⟩ (.int .i64 g.deep)).setCell ⟨g', k * 9 + 2, none⟩ (.int .i64 g.one.op)).setCell ⟨g', k * 9 + 3, none⟩ (.int .i64 g.one.at_)).setCell ⟨g', k * 9 + 4, none⟩ (.int .i64 g.one.n)).setCell ⟨g', k * 9 + 5, none⟩ (.string g.one.s)).setCell ⟨g', k * 9 + 6, none⟩ (.slice a1 g.one.set.length a2)).setCell ⟨g', k * 9 + 7, none⟩ (.slice d1 g.one.len d2)).setCell ⟨g', k * 9 + 8, none⟩ (.slice c1 g.len c2)).setCell ⟨g0, i * 9 + 8, none⟩ (.slice (some ⟨g', 0, none⟩) (k + 1) c')).heap[gl]? = wr.heap[gl]? := (Below.heap_setCell _ _ _ _ (by exact hP.ne2)).trans s4
                  have s7 : ((((((((((w3.setCell ⟨g0, i * 9 + 8, none⟩ (.slice (some ⟨g', 0, none⟩) (k + 1) c')).setCell ⟨g', k * 9, none⟩ (.string g.name)).setCell ⟨g', k * 9 + 1, none⟩ (.int .i64 g.deep)).setCell ⟨g', k * 9 + 2, none⟩ (.int .i64 g.one.op)).setCell ⟨g', k * 9 + 3, none⟩ (.int .i64 g.one.at_)).setCell ⟨g', k * 9 + 4, none⟩ (.int .i64 g.one.n)).setCell ⟨g', k * 9 + 5, none⟩ (.string g.one.s)).setCell ⟨g', k * 9 + 6, none⟩ (.slice a1 g.one.set.length a2)).setCell ⟨g', k * 9 + 7, none⟩ (.slice d1 g.one.len d2)).setCell ⟨g', k * 9 + 8, none⟩ (.slice c1 g.len c2)).heap[gl]? = wr.heap[gl]? := by
                    have h1 := s6
                    exact (congrArg (fun x : World => x.heap[gl]?) e9).trans h1
                  have HE9 := hid_ofD e9
                  have HS3 := hid_ofD (And.intro s3 (And.intro s4 (And.intro s5 (And.intro s6 s7))))
                  clear hP hown3 hg3 hwh3 s3 s4 s5 s6 s7 e9
                  refine hK.out _ _ HS3.out.1 (fun _ => ?_)
                  clear hK KK
                  try simp only [Act.put, List.setIfInBounds_toArray, List.set_cons_zero, List.set_cons_succ]
                  refine wpAnyH_take (i := 12) (oi := { dst := some 73, op := Op.indexAddr 27 (Operand.tmp 72) (Operand.tmp 70), type := 0, pos := "l07_match.go:62", after := #[{ on := 11, ground := Ground.data }, { on := 9, ground := Ground.data }, { on := 0, ground := Ground.phase }, { on := 1, ground := Ground.phase }, { on := 2, ground := Ground.phase }, { on := 3, ground := Ground.phase }, { on := 4, ground := Ground.phase }, { on := 5, ground := Ground.phase }, { on := 6, ground := Ground.phase }, { on := 7, ground := Ground.phase }, { on := 8, ground := Ground.phase }, { on := 9, ground := Ground.phase }, { on := 10, ground := Ground.phase }, { on := 11, ground := Ground.phase }, { on := 16, ground := Ground.gcOnly Departure.appendInPlace }], guard := none }) (v := .pointer (some ⟨g', k * 9, none⟩)) rfl (by kernel_rfl) (by kernel_rfl) (by kernel_rfl) (fun _ _ _ h => h) (Or.inl ⟨by rfl, ?_⟩) HS3.out.1 ?_
                  · intro wq hSq
                    clear hSq
                    first | (go_simp; done) | (go_simp; intro hh; omega)
                  try simp only [Act.put, List.setIfInBounds_toArray, List.set_cons_zero, List.set_cons_succ]
                  refine wpAnyH_take (i := 14) (oi := { dst := some 74, op := Op.indexAddr 27 (Operand.tmp 61) (Operand.tmp 62), type := 0, pos := "l07_match.go:62", after := #[{ on := 0, ground := Ground.data }, { on := 1, ground := Ground.data }, { on := 0, ground := Ground.phase }, { on := 1, ground := Ground.phase }, { on := 2, ground := Ground.phase }, { on := 3, ground := Ground.phase }, { on := 4, ground := Ground.phase }, { on := 5, ground := Ground.phase }, { on := 6, ground := Ground.phase }, { on := 7, ground := Ground.phase }, { on := 8, ground := Ground.phase }, { on := 9, ground := Ground.phase }, { on := 10, ground := Ground.phase }, { on := 11, ground := Ground.phase }, { on := 12, ground := Ground.textOnly Departure.appendInPlace }, { on := 13, ground := Ground.textOnly Departure.appendInPlace }], guard := none }) (v := .pointer (some ⟨g0, i * 9, none⟩)) rfl (by kernel_rfl) (by kernel_rfl) (by kernel_rfl) (fun _ _ _ h => h) (Or.inl ⟨by rfl, ?_⟩) HS3.out.1 ?_
                  · intro wq hSq
                    clear hSq
                    go_simp
                  try simp only [Act.put, List.setIfInBounds_toArray, List.set_cons_zero, List.set_cons_succ]
                  refine wpAnyH_take (i := 15) (oi := { dst := some 75, op := Op.fieldAddr 48 (Operand.tmp 74) 3, type := 0, pos := "l07_match.go:62", after := #[{ on := 14, ground := Ground.data }, { on := 0, ground := Ground.phase }, { on := 1, ground := Ground.phase }, { on := 2, ground := Ground.phase }, { on := 3, ground := Ground.phase }, { on := 4, ground := Ground.phase }, { on := 5, ground := Ground.phase }, { on := 6, ground := Ground.phase }, { on := 7, ground := Ground.phase }, { on := 8, ground := Ground.phase }, { on := 9, ground := Ground.phase }, { on := 10, ground := Ground.phase }, { on := 11, ground := Ground.phase }, { on := 12, ground := Ground.textOnly Departure.appendInPlace }, { on := 13, ground := Ground.textOnly Departure.appendInPlace }], guard := none }) (v := .pointer (some ⟨g0, i * 9 + 8, none⟩)) rfl (by kernel_rfl) (by kernel_rfl) (by kernel_rfl) (fun _ _ _ h => h) (Or.inl ⟨by rfl, ?_⟩) HS3.out.1 ?_
                  · intro wq hSq
                    clear hSq
                    go_simp
                  try simp only [Act.put, List.setIfInBounds_toArray, List.set_cons_zero, List.set_cons_succ]
                  refine wpAnyH_ready (rs := [13, 16]) (by kernel_rfl) (by simp) (AllReadyH.cons (o := { dst := none, op := Op.store 48 (Operand.tmp 73) (Operand.tmp 69), type := 0, pos := "l07_match.go:62", after := #[{ on := 12, ground := Ground.data }, { on := 8, ground := Ground.data }, { on := 11, ground := Ground.chain }, { on := 0, ground := Ground.phase }, { on := 1, ground := Ground.phase }, { on := 2, ground := Ground.phase }, { on := 3, ground := Ground.phase }, { on := 4, ground := Ground.phase }, { on := 5, ground := Ground.phase }, { on := 6, ground := Ground.phase }, { on := 7, ground := Ground.phase }, { on := 8, ground := Ground.phase }, { on := 9, ground := Ground.phase }, { on := 10, ground := Ground.phase }, { on := 11, ground := Ground.phase }, { on := 16, ground := Ground.gcOnly Departure.appendInPlace }], guard := none }) rfl (fun KK hK => ?_) (AllReadyH.cons (o := { dst := none, op := Op.store 27 (Operand.tmp 75) (Operand.tmp 72), type := 0, pos := "l07_match.go:62", after := #[{ on := 15, ground := Ground.data }, { on := 11, ground := Ground.data }, { on := 11, ground := Ground.chain }, { on := 13, ground := Ground.textOnly Departure.appendInPlace }, { on := 0, ground := Ground.phase }, { on := 1, ground := Ground.phase }, { on := 2, ground := Ground.phase }, { on := 3, ground := Ground.phase }, { on := 4, ground := Ground.phase }, { on := 5, ground := Ground.phase }, { on := 6, ground := Ground.phase }, { on := 7, ground := Ground.phase }, { on := 8, ground := Ground.phase }, { on := 9, ground := Ground.phase }, { on := 10, ground := Ground.phase }, { on := 11, ground := Ground.phase }, { on := 12, ground := Ground.textOnly Departure.appendInPlace }, { on := 13, ground := Ground.textOnly Departure.appendInPlace }], guard := none }) rfl (fun KK hK => ?_) AllReadyH.nil))
                  · go_simp
                    refine hK.out _ _ HS3.out.2.1 (fun _ => ?_)
                    clear hK KK
                    try simp only [Act.put, List.setIfInBounds_toArray, List.set_cons_zero, List.set_cons_succ]
                    refine wpAnyH_ready (rs := [16]) (by kernel_rfl) (by simp) ?_
                    refine AllReadyH.cons (o := { dst := none, op := Op.store 27 (Operand.tmp 75) (Operand.tmp 72), type := 0, pos := "l07_match.go:62", after := #[{ on := 15, ground := Ground.data }, { on := 11, ground := Ground.data }, { on := 11, ground := Ground.chain }, { on := 13, ground := Ground.textOnly Departure.appendInPlace }, { on := 0, ground := Ground.phase }, { on := 1, ground := Ground.phase }, { on := 2, ground := Ground.phase }, { on := 3, ground := Ground.phase }, { on := 4, ground := Ground.phase }, { on := 5, ground := Ground.phase }, { on := 6, ground := Ground.phase }, { on := 7, ground := Ground.phase }, { on := 8, ground := Ground.phase }, { on := 9, ground := Ground.phase }, { on := 10, ground := Ground.phase }, { on := 11, ground := Ground.phase }, { on := 12, ground := Ground.textOnly Departure.appendInPlace }, { on := 13, ground := Ground.textOnly Departure.appendInPlace }], guard := none }) rfl (fun KK hK => ?_) AllReadyH.nil
                    go_simp
                    refine hK.out _ _ HS3.out.2.2.2.1 (fun _ => ?_)
                    clear hK KK
                    try simp only [Act.put, List.setIfInBounds_toArray, List.set_cons_zero, List.set_cons_succ]
                    refine wpAnyH_done (by kernel_rfl) ?_ _
                    have HX := hid_ofD (HEND3.out _ rfl)
                    clear HEND3 HE9 HS3 hu0 hu1 hu2 hu3 hu4 hu5 hu6 hu7 hu8 p3 p3f hlv z0 z1 z2 z3 z4 z5 z6 z7 z8 xa sa hxc HS0
                    go_wp2_with fail
                    go_roundw
                    case rel => first | exact ⟨i + 1, by go_num, by omega, HX.out⟩ | ((repeat apply Exists.intro); exact ⟨⟨i + 1, by go_num, by omega, HX.out⟩, rfl⟩)
                    case measure => simp [intOf]; omega
                  · go_simp
                    refine hK.out _ _ HS3.out.2.2.1 (fun _ => ?_)
                    clear hK KK
                    try simp only [Act.put, List.setIfInBounds_toArray, List.set_cons_zero, List.set_cons_succ]
                    refine wpAnyH_ready (rs := [13]) (by kernel_rfl) (by simp) ?_
                    refine AllReadyH.cons (o := { dst := none, op := Op.store 48 (Operand.tmp 73) (Operand.tmp 69), type := 0, pos := "l07_match.go:62", after := #[{ on := 12, ground := Ground.data }, { on := 8, ground := Ground.data }, { on := 11, ground := Ground.chain }, { on := 0, ground := Ground.phase }, { on := 1, ground := Ground.phase }, { on := 2, ground := Ground.phase }, { on := 3, ground := Ground.phase }, { on := 4, ground := Ground.phase }, { on := 5, ground := Ground.phase }, { on := 6, ground := Ground.phase }, { on := 7, ground := Ground.phase }, { on := 8, ground := Ground.phase }, { on := 9, ground := Ground.phase }, { on := 10, ground := Ground.phase }, { on := 11, ground := Ground.phase }, { on := 16, ground := Ground.gcOnly Departure.appendInPlace }], guard := none }) rfl (fun KK hK => ?_) AllReadyH.nil
                    go_simp
                    refine hK.out _ _ HS3.out.2.2.2.2 (fun _ => ?_)
                    clear hK KK
                    try simp only [Act.put, List.setIfInBounds_toArray, List.set_cons_zero, List.set_cons_succ]
                    refine wpAnyH_done (by kernel_rfl) ?_ _
                    have HX := hid_ofD (HEND3.out _ HE9.out)
                    clear HEND3 HE9 HS3 hu0 hu1 hu2 hu3 hu4 hu5 hu6 hu7 hu8 p3 p3f hlv z0 z1 z2 z3 z4 z5 z6 z7 z8 xa sa hxc HS0
                    go_wp2_with fail
                    go_roundw
                    case rel => first | exact ⟨i + 1, by go_num, by omega, HX.out⟩ | ((repeat apply Exists.intro); exact ⟨⟨i + 1, by go_num, by omega, HX.out⟩, rfl⟩)
                    case measure => simp [intOf]; omega
              case neg =>
                have hie : i = ns.length := by omega
                have HN2 : Hid ((∀ t, t < k + 1 → (f t).isSome = true) ∧ (∃ gv ll SSs, ER wr NB (.slice (some ⟨g0, 0, none⟩) ns.length cv) ns (gotTo f (k + 1)) gv ll SSs) ∧ Below NB w2 wr) := by
                  refine ⟨fun t ht => ?_, ⟨gw, lw, SW, ?_⟩, HI.out.bel⟩
                  · rcases Nat.lt_or_ge t k with h1 | h1
                    · exact HE.out.2.1 t h1
                    · have : t = k := by omega
                      rw [this, HL.out.2.2.1]; rfl
                  · have h1 := HI.out.er
                    rw [hie] at h1
                    exact h1.congr (fun j hj => withK_all HL.out.2.2.1 HLN.out hj)
                clear hie
                go_wp2_with fail
                go_roundw
                case rel => exact ⟨k + 1, by go_num, by omega, HN2.out⟩
                case measure => simp [intOf]; omega
          · have HB : Hid (m = none) := by
              show _ = _
              rw [HM.out]
              unfold eachG
              rw [if_neg]
              intro h
              have h1 := allX_true.1 h k hk'
              rw [hml] at h1
              cases h1
            clear hml HCS
            go_wp2_with fail
            go_ret2
            exact HBAD.out _ _ _ HS1 HE1.out.row (er_one HE1.out) HB.out
        case neg =>
          have hke : k = n := by omega
          have HB : Hid (m = some (colG ns f n)) := by
            show _ = _
            rw [HM.out]
            unfold eachG
            rw [if_pos (allX_true.2 (fun t ht => HE.out.2.1 t (by omega)))]
          have HGN : Hid (GN wr NB (.slice (some ⟨g0, 0, none⟩) ns.length cv) (colG ns f n)) := by
            have h1 := HE.out.1
            rw [hke] at h1
            exact er_all h1 HSM.out
          clear hke
          go_wp2_with fail
          go_ret2
          exact HEND.out _ _ HE.out.2.2 HGN.out HB.out
end Go.Proofs.YtlclfmjpnchmbaaGreat

/- impl.Match and spec.Match at all that is written answer alike: rows of Gots of one's own, all new. Condition: at most 2^20 of each. -/
namespace Go.Proofs.YtlclfmjpnchmbaaGreat
open Go.ChangeShapes Go.WideShapes Go.ChangeAt Go.RowKit

theorem tell_all (p : X) : TellAt p := by
  induction p with
  | no => exact tell_gots .no (tell_kids .no (fun i hi => absurd hi (Nat.not_lt_zero _)) (fun i hi => absurd hi (Nat.not_lt_zero _)))
  | mk op a n s set len kid ih => exact tell_gots _ (tell_kids _ (fun i _ => ih i) (fun i _ => each_at _ (ih i)))
theorem smatch_all (p : X) : SMatchAt p := by
  induction p with
  | no => exact spec_match_at .no (fun i hi => absurd hi (Nat.not_lt_zero _)) (fun i hi => absurd hi (Nat.not_lt_zero _))
  | mk op a n s set len kid ih => exact spec_match_at _ (fun i _ => ih i) (fun i _ => spec_each_at _ (ih i))
/-- What is to be answered. -/
def ansM (p x : X) : Option (List G) := if (patternB p && stxOkB x) = true then matchG p x else none
/-- .. in a row of one's own. -/
def AnsAt (r : Option (List G)) (w : World) (e : Ending) (w' : World) : Prop := Below w.heap.size w w' ∧ ∃ v S, e = .returned (.tuple #[v, .bool r.isSome]) ∧ GsOwn w' (r.getD []).length (fun i => (r.getD []).getD i .no) v S ∧ S.Nodup ∧ ∀ k ∈ S, w.heap.size ≤ k
theorem once_of_ok {p : X} (h : patternB p = true) (hl : leafS p) : (keysD (namesD p 0)).Nodup := by
  have h1 : (namesX p ([], false)).2 = false := by
    have h2 : (stxOkB p && (!(namesX p ([], false)).2 && (!dotsX p && placesX p))) = true := h
    simp only [Bool.and_eq_true, Bool.not_eq_true'] at h2
    exact h2.2.1
  rw [namesX_eq p 0 _ hl, addAll_two _ [] false (by simp)] at h1
  simpa using h1
theorem GN.gs {w : World} {B : Nat} {v : Value} {L : List G} (h : GN w B v L) : ∃ S, GsOwn w L.length (fun i => L.getD i .no) v S ∧ S.Nodup ∧ ∀ k ∈ S, B ≤ k := by
  obtain ⟨l, SS, h1, h2⟩ := h
  exact ⟨_, h1.gs', h1.own, h2⟩

theorem impl_answers (p x : X) (w : World) (su u sx ux : Value) (hp : p.At 0 w su u) (hx : x.At 0 w sx ux) (hpw : p.weight ≤ 1048576) (hxw : x.weight ≤ 1048576) :
    Calls Tryz.prog 7 #[.agg #[.int .i64 p.op, .int .i64 p.at_, .int .i64 p.n, .string p.s, su, u], .agg #[.int .i64 x.op, .int .i64 x.at_, .int .i64 x.n, .string x.s, sx, ux]] w fun e w' => AnsAt (ansM p x) w e w' := by
  refine (impl_match p x (tell_all p) pattern_ok w su u sx ux hp hx hpw hxw (x.small_of_weight (by omega)) (by have := p.count_weight; omega) (by have := x.count_weight; omega)).mono ?_
  rintro e w' ⟨hb, hc⟩
  refine ⟨hb, ?_⟩
  rcases hc with ⟨lst, v, S, h1, h2, rfl, h4, h5, h6⟩ | ⟨h1, rfl⟩
  · have e1 : ansM p x = some lst := by unfold ansM; rw [if_pos h1, h2]
    rw [e1]
    exact ⟨v, S, rfl, h4, h5, h6⟩
  · have e1 : ansM p x = none := by
      unfold ansM
      rcases h1 with h1 | h1
      · rw [h1]; rfl
      · rw [h1]; split <;> rfl
    rw [e1]
    exact ⟨.slice none 0 0, [], rfl, .inl ⟨rfl, rfl, rfl⟩, by simp, by simp⟩

set_option maxRecDepth 100000 in
set_option maxHeartbeats 4000000 in
theorem spec_answers (p x : X) (w : World) (su u sx ux : Value) (hp : p.At 0 w su u) (hx : x.At 0 w sx ux) (hpw : p.weight ≤ 1048576) (hxw : x.weight ≤ 1048576) :
    Calls Tryz.prog 5 #[.agg #[.int .i64 p.op, .int .i64 p.at_, .int .i64 p.n, .string p.s, su, u], .agg #[.int .i64 x.op, .int .i64 x.at_, .int .i64 x.n, .string x.s, sx, ux]] w fun e w' => AnsAt (ansM p x) w e w' := by
  obtain ⟨pu, cu, e1⟩ := hp.xs.shape
  obtain ⟨ps, cs, e2⟩ := hp.sets.shape
  obtain ⟨px, cx, e3⟩ := hx.xs.shape
  obtain ⟨pz, cz, e4⟩ := hx.sets.shape
  subst e1 e2 e3 e4
  obtain ⟨W, hW, a0, a1, asz, ab⟩ := two_new w (.cells #[.int .i64 p.op, .int .i64 p.at_, .int .i64 p.n, .string p.s, .slice ps p.set.length cs, .slice pu p.len cu] 32) (.cells #[.int .i64 x.op, .int .i64 x.at_, .int .i64 x.n, .string x.s, .slice pz x.set.length cz, .slice px x.len cx] 32)
  obtain ⟨N, hN⟩ : ∃ N, N = w.heap.size := ⟨_, rfl⟩
  rw [← hN] at a0 a1 asz ab
  have KW : Hid (∀ wx, Below W.heap.size W wx → Below w.heap.size w wx ∧ Six wx N p.op p.at_ p.n p.s (.slice ps p.set.length cs) (.slice pu p.len cu) 32 ∧ Six wx (N + 1) x.op x.at_ x.n x.s (.slice pz x.set.length cz) (.slice px x.len cx) 32) := fun wx hx => ⟨by rw [← hN]; exact ab.trans (hx.mono (by omega)), (show Six W N p.op p.at_ p.n p.s (.slice ps p.set.length cs) (.slice pu p.len cu) 32 from a0).below hx, (show Six W (N + 1) x.op x.at_ x.n x.s (.slice pz x.set.length cz) (.slice px x.len cx) 32 from a1).below hx⟩
  have HP : Hid (p.At 0 w (.slice ps p.set.length cs) (.slice pu p.len cu) ∧ x.At 0 w (.slice pz x.set.length cz) (.slice px x.len cx) ∧ p.weight ≤ 1048576 ∧ x.weight ≤ 1048576) := ⟨hp, hx, hpw, hxw⟩
  have HAN : Hid (ansM p x = if (patternB p && stxOkB x) = true then matchG p x else none) := rfl
  have HNO : Hid (∀ wx : World, Below W.heap.size W wx → ∀ r, r = none → AnsAt r w (.returned (.tuple #[.slice (some ⟨wx.heap.size, 0, none⟩) 0 0, .bool false])) (wx.alloc (.cells #[] 48))) := fun wx hx r hr => by
    rw [hr]
    have h0 := (KW.out wx hx).1
    obtain ⟨S, h1, h2, h3⟩ := (GN.empty (heap_alloc_new wx (.cells #[] 48)) (Nat.le_refl _)).gs
    exact ⟨h0.trans ((newx wx _).mono h0.size), _, S, rfl, h1, h2, fun k hk => Nat.le_trans h0.size (h3 k hk)⟩
  have HWW := hid_ofD hW
  have HN := hid_ofD hN
  clear hp hx hpw hxw a0 a1 asz ab hW hN
  generalize ansM p x = r at *
  go_enter Tryz.func5, Tryz.ntmps5
  go_wp2_with fail
  rw [HWW.out, ← HN.out]
  refine (spec_pattern_ok p W _ _ (HP.out.1.below (KW.out W (Below.refl _ _)).1) HP.out.2.2.1).mono ?_
  rintro e w1 ⟨rfl, hb1⟩
  have HB1 : Hid (Below W.heap.size W w1) := hb1
  obtain ⟨y0, y1, y2, y3, y4, y5⟩ := (KW.out w1 hb1).2.2.cells
  clear hb1
  cases hpo : patternB p
  · have HR : Hid (r = none) := by show _ = _; rw [HAN.out, hpo]; rfl
    go_wp2_with fail
    go_ret2
    exact HNO.out w1 HB1.out r HR.out
  · have HOK : Hid (okG p ∧ (keysD (namesD p 0)).Nodup) := ⟨pattern_ok hpo, once_of_ok hpo (okG_leaf p (pattern_ok hpo))⟩
    go_wp2_with fail
    refine (spec_stx_ok x w1 _ _ (HP.out.2.1.below (KW.out w1 HB1.out).1) HP.out.2.2.2).mono ?_
    rintro e w2 ⟨rfl, hb2⟩
    have HB2 : Hid (Below W.heap.size W w2) := HB1.out.trans (hb2.mono HB1.out.size)
    clear hb2 y0 y1 y2 y3 y4 y5
    obtain ⟨x0, x1, x2, x3, x4, x5⟩ := (KW.out w2 HB2.out).2.1.cells
    obtain ⟨y0, y1, y2, y3, y4, y5⟩ := (KW.out w2 HB2.out).2.2.cells
    cases hxo : stxOkB x
    · have HR : Hid (r = none) := by show _ = _; rw [HAN.out, hpo, hxo]; rfl
      go_wp2_with fail
      go_ret2
      exact HNO.out w2 HB2.out r HR.out
    · have HR : Hid (r = matchG p x) := by show _ = _; rw [HAN.out, hpo, hxo]; rfl
      clear HAN hpo hxo
      go_wp2_with fail
      refine (smatch_all p x w2 _ _ _ _ (HP.out.1.below (KW.out w2 HB2.out).1) (HP.out.2.1.below (KW.out w2 HB2.out).1) HP.out.2.2.1 HP.out.2.2.2 HOK.out.1 HOK.out.2).mono ?_
      rintro e w3 ⟨hb3, v, ok, rfl, hcase⟩
      rw [← HR.out] at hcase
      have HB3 : Hid (Below W.heap.size W w3) := HB2.out.trans (hb3.mono HB2.out.size)
      have HSZ : Hid (w.heap.size ≤ w2.heap.size) := (KW.out w2 HB2.out).1.size
      clear hb3 x0 x1 x2 x3 x4 x5 y0 y1 y2 y3 y4 y5
      rcases hcase with ⟨l, hml, rfl, hgl, _⟩ | ⟨hml, rfl⟩
      · have HF : Hid (AnsAt r w (.returned (.tuple #[v, .bool true])) w3) := by
          obtain ⟨S, h1, h2, h3⟩ := hgl.gs
          rw [hml]
          exact ⟨(KW.out w3 HB3.out).1, v, S, rfl, h1, h2, fun k hk => Nat.le_trans HSZ.out (h3 k hk)⟩
        clear hml hgl
        go_wp2_with fail
        go_ret2
        exact HF.out
      · have HR2 : Hid (r = none) := hml
        clear hml
        go_wp2_with fail
        go_ret2
        exact HNO.out w3 HB3.out r HR2.out
end Go.Proofs.YtlclfmjpnchmbaaGreat

/- The walk of laws.FnExactMatch. No conditions. Written by wip/tools/mklawmatch.py. -/
namespace Go.Proofs.YtlclfmjpnchmbaaGreat.fnExactMatch
open Go.ChangeShapes Go.WideShapes Go.ChangeAt Go.RowKit

theorem tops_le (t : X) (h : t ≠ .no) (hc : t.count ≤ 1048577) (hn : t.nums ≤ 2097153) : t.tops ≤ 40000000000000 := by
  have h1 := X.marks_eq h
  have h2 := t.marks_le
  unfold X.tops
  omega
theorem ans_of {r : Option (List G)} {f : FuncId} {x y : Value} {W : World} (h : Calls Tryz.prog f #[x, y] W fun e w' => AnsAt r W e w') : Calls Tryz.prog f #[x, y] W fun e w' => ∃ pv cv S, e = .returned (.tuple #[.slice pv (r.getD []).length cv, .bool r.isSome]) ∧ Below W.heap.size W w' ∧ GsOwn w' (r.getD []).length (fun i => (r.getD []).getD i .no) (.slice pv (r.getD []).length cv) S ∧ S.Nodup ∧ ∀ k ∈ S, W.heap.size ≤ k := by
  refine h.mono ?_
  rintro e w' ⟨hb, v, S, rfl, h1, h2, h3⟩
  obtain ⟨p, c, e⟩ := h1.shape
  subst e
  exact ⟨p, c, S, rfl, hb, h1, h2, h3⟩
theorem sum_most {sm : Nat → G} {B : Nat} : ∀ n, (∀ i, i < n → (sm i).marks ≤ B) → sumX (fun j => (sm j).marks) n ≤ n * B := by
  intro n
  induction n with
  | zero => intro _; simp [sumX]
  | succ n ih =>
    intro h
    simp only [sumX]
    have h1 := ih (fun i hi => h i (by omega))
    have h2 := h n (by omega)
    rw [Nat.succ_mul]
    omega
theorem ans_list (a b : X) (ha : a.weight ≤ 1048576) (hb : b.weight ≤ 1048576) : (∀ g ∈ (ansM a b).getD [], g.Small) ∧ 1 + sumX (fun j => (((ansM a b).getD []).getD j .no).marks) ((ansM a b).getD []).length ≤ 90000000000000 := by
  cases hr : ansM a b with
  | none => exact ⟨fun g hg => by simp at hg, by simp [sumX]⟩
  | some l =>
    have hm : matchG a b = some l ∧ okG a := by
      unfold ansM at hr
      split at hr
      · rename_i h
        rw [Bool.and_eq_true] at h
        exact ⟨hr, pattern_ok h.1⟩
      · cases hr
    rw [Option.getD_some]
    refine ⟨match_small a b l (b.small_of_weight (by omega)) hm.1, ?_⟩
    have hl := matchG_len a b l hm.2 hm.1
    have h1 := namesD_len a 0
    have h2 := a.count_weight
    have h3 := sum_most (sm := fun j => l.getD j .no) (B := b.big) l.length (fun i hi => match_most a b l hm.1 _ (by
      rw [List.getD_eq_getElem?_getD, List.getElem?_eq_getElem hi, Option.getD_some]
      exact List.getElem_mem _))
    have h4 : b.big ≤ 17825809 := by
      have h5 := b.marks_le
      have h6 := b.count_weight
      have h7 := b.nums_weight
      unfold X.big
      omega
    have h8 : l.length * b.big ≤ 1048577 * 17825809 := Nat.mul_le_mul (by omega) h4
    omega

set_option maxRecDepth 100000 in
set_option maxHeartbeats 8000000 in
theorem walk (a b : X) (su u sv v : Value) (w : World) (ha : a.Of w su u) (hb : b.Of w sv v) :
    Calls Tryz.prog 3 #[.agg #[.int .i64 a.op, .int .i64 a.at_, .int .i64 a.n, .string a.s, su, u], .agg #[.int .i64 b.op, .int .i64 b.at_, .int .i64 b.n, .string b.s, sv, v]] w fun e w' => e = .returned (.bool true) ∧ Below w.heap.size w w' := by
  obtain ⟨p, cap, eu⟩ := ha.xs.shape
  obtain ⟨q, cap2, ev⟩ := hb.xs.shape
  obtain ⟨ps, cs, es⟩ := ha.sets.shape
  obtain ⟨qs, cs2, es2⟩ := hb.sets.shape
  have hane : a ≠ .no := by rintro rfl; exact ha.elim
  have hbne : b ≠ .no := by rintro rfl; exact hb.elim
  have HA : Hid (∀ w1, Below w.heap.size w w1 → a.Of w1 su u) := fun w1 h => X.Of.below h ha
  have HB : Hid (∀ w1, Below w.heap.size w w1 → b.Of w1 sv v) := fun w1 h => X.Of.below h hb
  clear ha hb
  subst eu ev es es2
  have HT : Hid (M0 w ((w.alloc (.cells #[.int .i64 a.op, .int .i64 a.at_, .int .i64 a.n, .string a.s, .slice ps a.set.length cs, .slice p a.len cap] 25)).alloc (.cells #[.int .i64 b.op, .int .i64 b.at_, .int .i64 b.n, .string b.s, .slice qs b.set.length cs2, .slice q b.len cap2] 25)) a b (.slice ps a.set.length cs) (.slice p a.len cap) (.slice qs b.set.length cs2) (.slice q b.len cap2) ) := M0.new w a b _ _ _ _
  by_cases h1 : a.weight ≤ 1048576
  · have E1 : Hid (szX 1048576 a.weight = ((1048576 - a.weight : Nat) : Int)) := szX_yes h1
    have H1 : Hid (a.weight ≤ 1048576) := h1
    by_cases h2 : b.weight ≤ 1048576 - a.weight
    · have hbw : b.weight ≤ 1048576 := by omega
      have HSM : Hid (a.Small ∧ b.Small) := ⟨a.small_of_weight (by omega), b.small_of_weight (by omega)⟩
      have E2 : Hid (szX (1048576 - a.weight) b.weight = ((1048576 - a.weight - b.weight : Nat) : Int)) := szX_yes h2
      have H2 : Hid (b.weight ≤ 1048576) := hbw
      have hta : a.tops ≤ 40000000000000 := tops_le a hane (by have := a.count_weight; omega) (by have := a.nums_weight; omega)
      have htb : b.tops ≤ 40000000000000 := tops_le b hbne (by have := b.count_weight; omega) (by have := b.nums_weight; omega)
      have hspec : ∀ W s1 v1 s2 v2, a.At 0 W s1 v1 → b.At 0 W s2 v2 → Calls Tryz.prog 5 #[.agg #[.int .i64 a.op, .int .i64 a.at_, .int .i64 a.n, .string a.s, s1, v1], .agg #[.int .i64 b.op, .int .i64 b.at_, .int .i64 b.n, .string b.s, s2, v2]] W fun e w' => ∃ pv cv S, e = .returned (.tuple #[.slice pv ((ansM a b).getD []).length cv, .bool (ansM a b).isSome]) ∧ Below W.heap.size W w' ∧ GsOwn w' ((ansM a b).getD []).length (fun i => ((ansM a b).getD []).getD i .no) (.slice pv ((ansM a b).getD []).length cv) S ∧ S.Nodup ∧ ∀ k ∈ S, W.heap.size ≤ k := fun W s1 v1 s2 v2 k1 k2 => ans_of (spec_answers a b W s1 v1 s2 v2 k1 k2 h1 hbw)
      have himpl : ∀ W s1 v1 s2 v2, a.At 0 W s1 v1 → b.At 0 W s2 v2 → Calls Tryz.prog 7 #[.agg #[.int .i64 a.op, .int .i64 a.at_, .int .i64 a.n, .string a.s, s1, v1], .agg #[.int .i64 b.op, .int .i64 b.at_, .int .i64 b.n, .string b.s, s2, v2]] W fun e w' => ∃ pv cv S, e = .returned (.tuple #[.slice pv ((ansM a b).getD []).length cv, .bool (ansM a b).isSome]) ∧ Below W.heap.size W w' ∧ GsOwn w' ((ansM a b).getD []).length (fun i => ((ansM a b).getD []).getD i .no) (.slice pv ((ansM a b).getD []).length cv) S ∧ S.Nodup ∧ ∀ k ∈ S, W.heap.size ≤ k := fun W s1 v1 s2 v2 k1 k2 => ans_of (impl_answers a b W s1 v1 s2 v2 k1 k2 h1 hbw)
      obtain ⟨hsm0, hmk0⟩ := ans_list a b h1 hbw
      obtain ⟨n, hn⟩ : ∃ n, n = ((ansM a b).getD []).length := ⟨_, rfl⟩
      obtain ⟨sm, hsmE⟩ : ∃ sm : Nat → G, sm = fun i => ((ansM a b).getD []).getD i .no := ⟨_, rfl⟩
      obtain ⟨ok, hok⟩ : ∃ ok, ok = (ansM a b).isSome := ⟨_, rfl⟩
      have HSG : Hid (∀ i, i < n → (sm i).Small) := fun i hi => by
        rw [hsmE]
        exact hsm0 _ (by
          simp only
          rw [List.getD_eq_getElem?_getD, List.getElem?_eq_getElem (by omega), Option.getD_some]
          exact List.getElem_mem _)
      have HTG : Hid (1 + sumX (fun j => (sm j).marks) n ≤ 90000000000000) := by rw [hn, hsmE]; exact hmk0
      rw [← hn, ← hsmE, ← hok] at hspec himpl
      have HSP : Hid (∀ W s1 v1 s2 v2, a.At 0 W s1 v1 → b.At 0 W s2 v2 → Calls Tryz.prog 5 #[.agg #[.int .i64 a.op, .int .i64 a.at_, .int .i64 a.n, .string a.s, s1, v1], .agg #[.int .i64 b.op, .int .i64 b.at_, .int .i64 b.n, .string b.s, s2, v2]] W fun e w' => ∃ pv cv S, e = .returned (.tuple #[.slice pv n cv, .bool ok]) ∧ Below W.heap.size W w' ∧ GsOwn w' n sm (.slice pv n cv) S ∧ S.Nodup ∧ ∀ k ∈ S, W.heap.size ≤ k) := hspec
      have HIM : Hid (∀ W s1 v1 s2 v2, a.At 0 W s1 v1 → b.At 0 W s2 v2 → Calls Tryz.prog 7 #[.agg #[.int .i64 a.op, .int .i64 a.at_, .int .i64 a.n, .string a.s, s1, v1], .agg #[.int .i64 b.op, .int .i64 b.at_, .int .i64 b.n, .string b.s, s2, v2]] W fun e w' => ∃ pv cv S, e = .returned (.tuple #[.slice pv n cv, .bool ok]) ∧ Below W.heap.size W w' ∧ GsOwn w' n sm (.slice pv n cv) S ∧ S.Nodup ∧ ∀ k ∈ S, W.heap.size ≤ k) := himpl
      clear hspec himpl hsm0 hmk0 hn hsmE hok h2 hbw hane hbne h1
      generalize 1048576 - a.weight - b.weight = y2 at *
      have hy1 : 1048576 - a.weight ≤ 1048576 := by omega
      generalize 1048576 - a.weight = y1 at *
      go_enter Tryz.func3, Tryz.ntmps3
      go_wp2_with fail
      refine (sz_stx a _ _ _ 1048576 (HA.out _ HT.out.bel) (by omega)).mono ?_
      rintro e w1 ⟨rfl, hb1⟩
      rw [E1.out]
      have T1 : Hid (M0 w w1 a b (.slice ps a.set.length cs) (.slice p a.len cap) (.slice qs b.set.length cs2) (.slice q b.len cap2) ) := HT.out.below hb1
      obtain ⟨c0, c1, c2, c3, c4, c5⟩ := T1.out.bb.cells
      clear hb1 HT
      go_wp2_with fail
      refine (sz_stx b _ _ _ y1 (HB.out _ T1.out.bel) hy1).mono ?_
      rintro e w2 ⟨rfl, hb2⟩
      rw [E2.out]
      have T2 : Hid (M0 w w2 a b (.slice ps a.set.length cs) (.slice p a.len cap) (.slice qs b.set.length cs2) (.slice q b.len cap2) ) := T1.out.below hb2
      clear c0 c1 c2 c3 c4 c5 hb2 T1
      obtain ⟨c0, c1, c2, c3, c4, c5⟩ := T2.out.bb.cells
      obtain ⟨d0, d1, d2, d3, d4, d5⟩ := T2.out.ba.cells
      go_upto_region 8 with fail
      go_cut [6, 7] from 27 (fun z y wx => ∃ pw cw kW Sw, z = .slice pw n cw ∧ y = .bool ok ∧ M1 w wx a b (.slice ps a.set.length cs) (.slice p a.len cap) (.slice qs b.set.length cs2) (.slice q b.len cap2) (.slice pw n cw) n sm kW Sw)
      case first =>
        go_region_with (first
          | (go_at_call_of 6 (X.s a); refine (to_stx a _ _ _ (HA.out _ ?_) H1.out).mono ?_; exact T2.out.bel.drew; rintro e w3 ⟨sx, x, rfl, hb3, hin3⟩; have T3 : Hid (M0 w w3 a b (.slice ps a.set.length cs) (.slice p a.len cap) (.slice qs b.set.length cs2) (.slice q b.len cap2) ) := T2.out.below ((Below.refl _ _).drew.trans hb3); have HI3 : Hid (a.At 0 w3 sx x) := X.At.mono (Nat.zero_le _) hin3; clear hb3 hin3; obtain ⟨f0, f1, f2, f3, f4, f5⟩ := T3.out.bb.cells)
          | (go_at_call_of 6 (X.s b); refine (to_stx b _ _ _ (HB.out _ ?_) H2.out).mono ?_; exact T3.out.bel; rintro e w4 ⟨sy, y, rfl, hb4, hin4⟩; have T4 : Hid (M0 w w4 a b (.slice ps a.set.length cs) (.slice p a.len cap) (.slice qs b.set.length cs2) (.slice q b.len cap2) ) := T3.out.below hb4; have HI4 : Hid (a.At 0 w4 sx x ∧ b.At 0 w4 sy y) := ⟨X.At.below hb4 HI3.out, X.At.mono (Nat.zero_le _) hin4⟩; clear hb4 hin4)
          | (go_at_call 5; refine (HSP.out _ sx x sy y HI4.out.1 HI4.out.2).mono ?_; rintro e w5 ⟨pw, cw, Sw, rfl, hb5, hg5, -, hS5⟩; have Q1 : Hid (M1 w w5 a b (.slice ps a.set.length cs) (.slice p a.len cap) (.slice qs b.set.length cs2) (.slice q b.len cap2) (.slice pw n cw) n sm w5.heap.size Sw) := M1.new T4.out hb5 hg5 hS5; clear hb5 hg5 hS5))
        all_goals
          go_wp2_with fail
          go_meet
          exact ⟨_, _, _, _, rfl, rfl, Q1.out⟩
      case rest =>
      obtain ⟨pw, cw, kW, Sw, rfl, rfl, hQ1⟩ := hcut
      have Q1 : Hid (M1 w wc a b (.slice ps a.set.length cs) (.slice p a.len cap) (.slice qs b.set.length cs2) (.slice q b.len cap2) (.slice pw n cw) n sm kW Sw) := hQ1
      clear hQ1 T2 c0 c1 c2 c3 c4 c5 d0 d1 d2 d3 d4 d5 HSP
      obtain ⟨c0, c1, c2, c3, c4, c5⟩ := Q1.out.ba.cells
      go_wp2_with fail
      refine (to_stx_own a _ _ _ (HA.out _ Q1.out.bel) H1.out).mono ?_
      rintro e w4 ⟨sx, vx, Sx, rfl, hb4, hx4, hn4, hS4⟩
      obtain ⟨px, cx, hvx⟩ := hx4.at0.xs.shape
      obtain ⟨pxs, cxs, hsx⟩ := hx4.at0.sets.shape
      subst hvx hsx
      have Q2 : Hid (M2 w (w4.alloc (.cells #[.int .i64 a.op, .int .i64 a.at_, .int .i64 a.n, .string a.s, .slice pxs a.set.length cxs, .slice px a.len cx] 32)) a b (.slice ps a.set.length cs) (.slice p a.len cap) (.slice qs b.set.length cs2) (.slice q b.len cap2) (.slice pw n cw) n sm kW Sw (.slice pxs a.set.length cxs) (.slice px a.len cx) w4.heap.size Sx) := M2.new Q1.out hb4 hx4 hn4 hS4
      clear hb4 hx4 hn4 hS4 Q1 c0 c1 c2 c3 c4 c5
      obtain ⟨c0, c1, c2, c3, c4, c5⟩ := Q2.out.bb.cells
      go_wp2_with fail
      refine (to_stx_own b _ _ _ (HB.out _ Q2.out.bel) H2.out).mono ?_
      rintro e w5 ⟨sy, vy, Sy, rfl, hb5, hy5, hn5, hS5⟩
      obtain ⟨py, cy, hvy⟩ := hy5.at0.xs.shape
      obtain ⟨pys, cys, hsy⟩ := hy5.at0.sets.shape
      subst hvy hsy
      have Q3 : Hid (M3 w (w5.alloc (.cells #[.int .i64 b.op, .int .i64 b.at_, .int .i64 b.n, .string b.s, .slice pys b.set.length cys, .slice py b.len cy] 32)) a b (.slice ps a.set.length cs) (.slice p a.len cap) (.slice qs b.set.length cs2) (.slice q b.len cap2) (.slice pw n cw) n sm kW Sw (.slice pxs a.set.length cxs) (.slice px a.len cx) w4.heap.size Sx (.slice pys b.set.length cys) (.slice py b.len cy) w5.heap.size Sy) := M3.new Q2.out hb5 hy5 hn5 hS5
      clear hb5 hy5 hn5 hS5 Q2 c0 c1 c2 c3 c4 c5
      generalize w4.heap.size = gX at *
      obtain ⟨c0, c1, c2, c3, c4, c5⟩ := Q3.out.bX.cells
      obtain ⟨d0, d1, d2, d3, d4, d5⟩ := Q3.out.bY.cells
      go_wp2_with fail
      refine (HIM.out _ _ _ _ _ Q3.out.oX.at0 Q3.out.oY.at0).mono ?_
      rintro e w6 ⟨pg, cg, Sg, rfl, hb6, hg6, hn6, hS6⟩
      generalize w5.heap.size = gY at *
      have Q4 : Hid (M4 w w6 a b (.slice ps a.set.length cs) (.slice p a.len cap) (.slice qs b.set.length cs2) (.slice q b.len cap2) (.slice pw n cw) n sm kW Sw (.slice pxs a.set.length cxs) (.slice px a.len cx) gX Sx (.slice pys b.set.length cys) (.slice py b.len cy) gY Sy (.slice pg n cg) Sg) := M4.new Q3.out hb6 hg6 hn6 hS6
      clear hb6 hg6 hn6 hS6 Q3 c0 c1 c2 c3 c4 c5 d0 d1 d2 d3 d4 d5
      go_wp2_with fail
      refine (eq_gots_all n sm _ _ _ _ _ Q4.out.oG Q4.out.oW HSG.out).mono ?_
      rintro e w7 ⟨rfl, hb7⟩
      have Q7 : Hid (M4 w w7 a b (.slice ps a.set.length cs) (.slice p a.len cap) (.slice qs b.set.length cs2) (.slice q b.len cap2) (.slice pw n cw) n sm kW Sw (.slice pxs a.set.length cxs) (.slice px a.len cx) gX Sx (.slice pys b.set.length cys) (.slice py b.len cy) gY Sy (.slice pg n cg) Sg) := Q4.out.below hb7
      clear hb7 Q4
      obtain ⟨c0, c1, c2, c3, c4, c5⟩ := Q7.out.bX.cells
      obtain ⟨d0, d1, d2, d3, d4, d5⟩ := Q7.out.ba.cells
      have hok1 : (ok != ok) = false := by cases ok <;> rfl
      go_upto_region 14 with fail
      go_cut [58] from 54 (fun z wx => z = .bool false ∧ M4 w wx a b (.slice ps a.set.length cs) (.slice p a.len cap) (.slice qs b.set.length cs2) (.slice q b.len cap2) (.slice pw n cw) n sm kW Sw (.slice pxs a.set.length cxs) (.slice px a.len cx) gX Sx (.slice pys b.set.length cys) (.slice py b.len cy) gY Sy (.slice pg n cg) Sg)
      case first =>
        go_region_with (first
          | (go_at_call 6; refine (to_stx a _ _ _ (HA.out _ ?_) H1.out).mono ?_; exact Q7.out.bel.drew; rintro e w8 ⟨sz, z, rfl, hb8, hin8⟩; have Q8 : Hid (M4 w w8 a b (.slice ps a.set.length cs) (.slice p a.len cap) (.slice qs b.set.length cs2) (.slice q b.len cap2) (.slice pw n cw) n sm kW Sw (.slice pxs a.set.length cxs) (.slice px a.len cx) gX Sx (.slice pys b.set.length cys) (.slice py b.len cy) gY Sy (.slice pg n cg) Sg ∧ a.At 0 w8 sz z) := ⟨Q7.out.below ((Below.refl _ _).drew.trans hb8), X.At.mono (Nat.zero_le _) hin8⟩; clear hb8 hin8; obtain ⟨q0, q1, q2, q3, q4, q5⟩ := Q8.out.1.bX.cells)
          | (go_at_call 9; refine (eq_stx a _ _ _ _ _ Q8.out.1.oX.at0 Q8.out.2 HSM.out.1).mono ?_; rintro e w9 ⟨rfl, hb9⟩; have Q9 : Hid (M4 w w9 a b (.slice ps a.set.length cs) (.slice p a.len cap) (.slice qs b.set.length cs2) (.slice q b.len cap2) (.slice pw n cw) n sm kW Sw (.slice pxs a.set.length cxs) (.slice px a.len cx) gX Sx (.slice pys b.set.length cys) (.slice py b.len cy) gY Sy (.slice pg n cg) Sg) := Q8.out.1.below hb9; clear hb9))
        all_goals
          go_wp2_with fail
          go_meet
          exact ⟨rfl, Q9.out⟩
      case rest =>
      obtain ⟨rfl, hQ9⟩ := hcut
      have Q9 : Hid (M4 w wc a b (.slice ps a.set.length cs) (.slice p a.len cap) (.slice qs b.set.length cs2) (.slice q b.len cap2) (.slice pw n cw) n sm kW Sw (.slice pxs a.set.length cxs) (.slice px a.len cx) gX Sx (.slice pys b.set.length cys) (.slice py b.len cy) gY Sy (.slice pg n cg) Sg) := hQ9
      clear hQ9 Q7 c0 c1 c2 c3 c4 c5 d0 d1 d2 d3 d4 d5
      obtain ⟨c0, c1, c2, c3, c4, c5⟩ := Q9.out.bY.cells
      obtain ⟨d0, d1, d2, d3, d4, d5⟩ := Q9.out.bb.cells
      go_upto_region 16 with fail
      go_cut [63] from 59 (fun z wx => z = .bool false ∧ M4 w wx a b (.slice ps a.set.length cs) (.slice p a.len cap) (.slice qs b.set.length cs2) (.slice q b.len cap2) (.slice pw n cw) n sm kW Sw (.slice pxs a.set.length cxs) (.slice px a.len cx) gX Sx (.slice pys b.set.length cys) (.slice py b.len cy) gY Sy (.slice pg n cg) Sg)
      case first =>
        go_region_with (first
          | (go_at_call 6; refine (to_stx b _ _ _ (HB.out _ ?_) H2.out).mono ?_; exact Q9.out.bel.drew; rintro e w8 ⟨sz, z, rfl, hb8, hin8⟩; have QA : Hid (M4 w w8 a b (.slice ps a.set.length cs) (.slice p a.len cap) (.slice qs b.set.length cs2) (.slice q b.len cap2) (.slice pw n cw) n sm kW Sw (.slice pxs a.set.length cxs) (.slice px a.len cx) gX Sx (.slice pys b.set.length cys) (.slice py b.len cy) gY Sy (.slice pg n cg) Sg ∧ b.At 0 w8 sz z) := ⟨Q9.out.below ((Below.refl _ _).drew.trans hb8), X.At.mono (Nat.zero_le _) hin8⟩; clear hb8 hin8; obtain ⟨q0, q1, q2, q3, q4, q5⟩ := QA.out.1.bY.cells)
          | (go_at_call 9; refine (eq_stx b _ _ _ _ _ QA.out.1.oY.at0 QA.out.2 HSM.out.2).mono ?_; rintro e w9 ⟨rfl, hb9⟩; have QB : Hid (M4 w w9 a b (.slice ps a.set.length cs) (.slice p a.len cap) (.slice qs b.set.length cs2) (.slice q b.len cap2) (.slice pw n cw) n sm kW Sw (.slice pxs a.set.length cxs) (.slice px a.len cx) gX Sx (.slice pys b.set.length cys) (.slice py b.len cy) gY Sy (.slice pg n cg) Sg) := QA.out.1.below hb9; clear hb9))
        all_goals
          go_wp2_with fail
          go_meet
          exact ⟨rfl, QB.out⟩
      case rest =>
      obtain ⟨rfl, hQB⟩ := hcut
      have QB : Hid (M4 w wc a b (.slice ps a.set.length cs) (.slice p a.len cap) (.slice qs b.set.length cs2) (.slice q b.len cap2) (.slice pw n cw) n sm kW Sw (.slice pxs a.set.length cxs) (.slice px a.len cx) gX Sx (.slice pys b.set.length cys) (.slice py b.len cy) gY Sy (.slice pg n cg) Sg) := hQB
      clear hQB Q9 c0 c1 c2 c3 c4 c5 d0 d1 d2 d3 d4 d5
      obtain ⟨c0, c1, c2, c3, c4, c5⟩ := QB.out.bX.cells
      go_wp2_with fail
      refine (mark_stx a _ _ _ Sx 1 QB.out.oX QB.out.nX HSM.out.1 (by omega) (by omega)).mono ?_
      rintro e w10 ⟨rfl, -, hf10⟩
      have Q10 : Hid (M5 w w10 a b (.slice ps a.set.length cs) (.slice p a.len cap) (.slice qs b.set.length cs2) (.slice q b.len cap2) (.slice pw n cw) n sm kW Sw gX (.slice pys b.set.length cys) (.slice py b.len cy) gY Sy (.slice pg n cg) Sg) := QB.out.marked hf10
      clear hf10 QB c0 c1 c2 c3 c4 c5
      obtain ⟨c0, c1, c2, c3, c4, c5⟩ := Q10.out.bY.cells
      generalize hka : 1 + a.tops = ka at *
      have hka0 : 0 < ka := by omega
      have hkab : ka + b.tops ≤ 90000000000000 := by omega
      clear hka
      go_wp2_with fail
      refine (mark_stx b _ _ _ Sy ka Q10.out.oY Q10.out.nY HSM.out.2 hka0 hkab).mono ?_
      rintro e w11 ⟨rfl, -, hf11⟩
      have Q11 : Hid (M6 w w11 a b (.slice ps a.set.length cs) (.slice p a.len cap) (.slice qs b.set.length cs2) (.slice q b.len cap2) (.slice pw n cw) n sm kW Sw (.slice pg n cg) Sg) := Q10.out.marked hf11
      clear hf11 Q10 c0 c1 c2 c3 c4 c5
      generalize ka + b.tops = kk at *
      have hkk : ¬ ((kk : Int) < 0) := by omega
      go_wp2_with fail
      refine (eq_gots_all n sm _ _ _ _ _ Q11.out.oG Q11.out.oW HSG.out).mono ?_
      rintro e w12 ⟨rfl, hb12⟩
      have Q12 : Hid (M6 w w12 a b (.slice ps a.set.length cs) (.slice p a.len cap) (.slice qs b.set.length cs2) (.slice q b.len cap2) (.slice pw n cw) n sm kW Sw (.slice pg n cg) Sg) := Q11.out.below hb12
      clear hb12 Q11
      go_wp2_with fail
      refine (mark_gots n sm (fun i _ => mark_got (sm i)) _ _ Sg 1 Q12.out.oG Q12.out.nG HSG.out (by omega) HTG.out).mono ?_
      rintro e w13 ⟨rfl, hm13, hf13⟩
      have Q13 : Hid (M7 w w13 a b (.slice ps a.set.length cs) (.slice p a.len cap) (.slice qs b.set.length cs2) (.slice q b.len cap2) (.slice pw n cw) n sm kW Sw (.slice pg n cg) Sg) := Q12.out.marked hf13 hm13
      clear hm13 hf13 Q12
      obtain ⟨MM, hMM⟩ : ∃ MM, MM = 1 + sumX (fun j => (sm j).marks) n := ⟨_, rfl⟩
      rw [← hMM]
      have HMM : Hid (MM = 1 + sumX (fun j => (sm j).marks) n) := hMM
      have hM0 : ¬ ((MM : Int) < 0) := by omega
      have hM1 : ((MM : Int) != (MM : Int)) = false := by simp
      clear hMM
      go_wp2_with fail
      refine (held_gots n sm (fun i _ => held_got (sm i)) _ _ Sg 1 Q13.out.mG HSG.out (by omega) HTG.out).mono ?_
      rintro e w14 ⟨rfl, hb14⟩
      rw [← HMM.out]
      have Q14 : Hid (M7 w w14 a b (.slice ps a.set.length cs) (.slice p a.len cap) (.slice qs b.set.length cs2) (.slice q b.len cap2) (.slice pw n cw) n sm kW Sw (.slice pg n cg) Sg) := Q13.out.below hb14
      clear hb14 Q13
      obtain ⟨c0, c1, c2, c3, c4, c5⟩ := Q14.out.bb.cells
      obtain ⟨d0, d1, d2, d3, d4, d5⟩ := Q14.out.ba.cells
      go_upto_region 31 with fail
      go_cut [15, 16] from 94 (fun z y wx => ∃ ph ch Sh, z = .slice ph n ch ∧ y = .bool ok ∧ M7 w wx a b (.slice ps a.set.length cs) (.slice p a.len cap) (.slice qs b.set.length cs2) (.slice q b.len cap2) (.slice pw n cw) n sm kW Sw (.slice pg n cg) Sg ∧ GsOwn wx n sm (.slice ph n ch) Sh)
      case first =>
        go_region_with (first
          | (go_at_call_of 6 (X.s a); refine (to_stx a _ _ _ (HA.out _ ?_) H1.out).mono ?_; exact Q14.out.bel.drew; rintro e w3 ⟨sx, x, rfl, hb3, hin3⟩; have T3 : Hid (M7 w w3 a b (.slice ps a.set.length cs) (.slice p a.len cap) (.slice qs b.set.length cs2) (.slice q b.len cap2) (.slice pw n cw) n sm kW Sw (.slice pg n cg) Sg) := Q14.out.below ((Below.refl _ _).drew.trans hb3); have HI3 : Hid (a.At 0 w3 sx x) := X.At.mono (Nat.zero_le _) hin3; clear hb3 hin3; obtain ⟨f0, f1, f2, f3, f4, f5⟩ := T3.out.bb.cells)
          | (go_at_call_of 6 (X.s b); refine (to_stx b _ _ _ (HB.out _ ?_) H2.out).mono ?_; exact T3.out.bel; rintro e w4 ⟨sy, y, rfl, hb4, hin4⟩; have T4 : Hid (M7 w w4 a b (.slice ps a.set.length cs) (.slice p a.len cap) (.slice qs b.set.length cs2) (.slice q b.len cap2) (.slice pw n cw) n sm kW Sw (.slice pg n cg) Sg) := T3.out.below hb4; have HI4 : Hid (a.At 0 w4 sx x ∧ b.At 0 w4 sy y) := ⟨X.At.below hb4 HI3.out, X.At.mono (Nat.zero_le _) hin4⟩; clear hb4 hin4)
          | (go_at_call 7; refine (HIM.out _ sx x sy y HI4.out.1 HI4.out.2).mono ?_; rintro e w5 ⟨ph, ch, Sh, rfl, hb5, hg5, -, -⟩; have T5 : Hid (M7 w w5 a b (.slice ps a.set.length cs) (.slice p a.len cap) (.slice qs b.set.length cs2) (.slice q b.len cap2) (.slice pw n cw) n sm kW Sw (.slice pg n cg) Sg ∧ GsOwn w5 n sm (.slice ph n ch) Sh) := ⟨T4.out.below hb5, hg5⟩; clear hb5 hg5))
        all_goals
          go_wp2_with fail
          go_meet
          exact ⟨_, _, _, rfl, rfl, T5.out⟩
      case rest =>
      obtain ⟨ph, ch, Sh, rfl, rfl, hQ15⟩ := hcut
      have Q15 : Hid (M7 w wc a b (.slice ps a.set.length cs) (.slice p a.len cap) (.slice qs b.set.length cs2) (.slice q b.len cap2) (.slice pw n cw) n sm kW Sw (.slice pg n cg) Sg ∧ GsOwn wc n sm (.slice ph n ch) Sh) := hQ15
      clear hQ15 Q14 c0 c1 c2 c3 c4 c5 d0 d1 d2 d3 d4 d5
      go_wp2_with fail
      refine (eq_gots_all n sm _ _ _ _ _ Q15.out.2 Q15.out.1.oW HSG.out).mono ?_
      rintro e w16 ⟨rfl, hb16⟩
      have Q16 : Hid (M7 w w16 a b (.slice ps a.set.length cs) (.slice p a.len cap) (.slice qs b.set.length cs2) (.slice q b.len cap2) (.slice pw n cw) n sm kW Sw (.slice pg n cg) Sg) := Q15.out.1.below hb16
      clear hb16 Q15
      go_wp2_with fail
      refine (held_gots n sm (fun i _ => held_got (sm i)) _ _ Sg 1 Q16.out.mG HSG.out (by omega) HTG.out).mono ?_
      rintro e w17 ⟨rfl, hb17⟩
      rw [← HMM.out]
      have Q17 : Hid (Below w.heap.size w w17) := Q16.out.bel.trans (hb17.mono Q16.out.bel.size)
      clear hb17 Q16
      go_wp2_with fail
      go_ret
      exact ⟨rfl, Q17.out⟩
    · have E2 : Hid (szX (1048576 - a.weight) b.weight = -1) := szX_no (by omega)
      have hy1 : 1048576 - a.weight ≤ 1048576 := by omega
      clear h2 hane hbne h1
      generalize 1048576 - a.weight = y1 at *
      go_enter Tryz.func3, Tryz.ntmps3
      go_wp2_with fail
      refine (sz_stx a _ _ _ 1048576 (HA.out _ HT.out.bel) (by omega)).mono ?_
      rintro e w1 ⟨rfl, hb1⟩
      rw [E1.out]
      have T1 : Hid (M0 w w1 a b (.slice ps a.set.length cs) (.slice p a.len cap) (.slice qs b.set.length cs2) (.slice q b.len cap2) ) := HT.out.below hb1
      obtain ⟨c0, c1, c2, c3, c4, c5⟩ := T1.out.bb.cells
      clear hb1 HT
      go_wp2_with fail
      refine (sz_stx b _ _ _ y1 (HB.out _ T1.out.bel) hy1).mono ?_
      rintro e w2 ⟨rfl, hb2⟩
      rw [E2.out]
      have T2 : Hid (M0 w w2 a b (.slice ps a.set.length cs) (.slice p a.len cap) (.slice qs b.set.length cs2) (.slice q b.len cap2) ) := T1.out.below hb2
      clear c0 c1 c2 c3 c4 c5 hb2 T1
      go_wp2_with fail
      go_ret
      exact ⟨rfl, T2.out.bel⟩
  · have E1 : Hid (szX 1048576 a.weight = -1) := szX_no (by omega)
    clear h1 hane hbne
    go_enter Tryz.func3, Tryz.ntmps3
    go_wp2_with fail
    refine (sz_stx a _ _ _ 1048576 (HA.out _ HT.out.bel) (by omega)).mono ?_
    rintro e w1 ⟨rfl, hb1⟩
    rw [E1.out]
    have T1 : Hid (M0 w w1 a b (.slice ps a.set.length cs) (.slice p a.len cap) (.slice qs b.set.length cs2) (.slice q b.len cap2) ) := HT.out.below hb1
    clear hb1 HT
    go_wp2_with fail
    go_ret
    exact ⟨rfl, T1.out.bel⟩
end Go.Proofs.YtlclfmjpnchmbaaGreat.fnExactMatch
