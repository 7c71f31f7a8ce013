/- What the draws of chapter 4 answer: some short list of ints in memory of the call's own, and some int. Condition: the code's bytes can be read. -/
import Derived.Test.YtjadjahbblkeoabCur2
import Derived.Test.YtjadjahbblkeoabIntsSpec
namespace Go.Proofs.Ytjadjahbblkeoab
open Go.ChangeShapes Go.WideShapes Go.ChangeAt Go.RowKit

theorem CurAt.alloc' {c : Nat} {a : Option Addr} {len cap : Nat} {w : World} (h : CurAt c a len cap w) (o : Obj) : CurAt c a len cap (w.alloc o) :=
  h.keep (d := w.heap.size) ((Ext.refl _ w).alloc o) h.lt
theorem CurAt.below' {c : Nat} {a : Option Addr} {len cap : Nat} {w w' : World} (h : CurAt c a len cap w) (hb : Below w.heap.size w w') : CurAt c a len cap w' :=
  h.keep (d := w.heap.size) (Ext.of_below hb (Nat.le_refl _)) h.lt

theorem CurAt.keepB {c : Nat} {a : Option Addr} {len cap : Nat} {w w' : World} (h : CurAt c a len cap w) (hb : ∀ k, k ≤ c → w'.heap[k]? = w.heap[k]?) : CurAt c a len cap w' := by
  obtain ⟨hc, i, hh, h0, hk⟩ := h
  exact ⟨hc.keep fun k hk _ => hb k (by omega), i, hh, h0, by rw [hb c (Nat.le_refl _)]; exact hk⟩

theorem Own.ext {w w' : World} {base c : Nat} {v : Value} {xs : List Int} (h : Own w base v xs) (he : Ext c w w') (hc : c < base) : Own w' base v xs := by
  refine ⟨h.1, ?_⟩
  have hlt := h.lt
  rcases h.2 with hn | ⟨g, cap, cur, rfl, hbg, hgg, rest⟩
  · exact .inl hn
  · have hg := hlt g rfl
    exact .inr ⟨g, cap, cur, rfl, hbg, (he.block g hg.2 (by omega)).trans hgg, rest⟩

theorem Ext.trans' {c : Nat} {w w1 w2 : World} (h : Ext c w w1) (g : Below w.heap.size w1 w2) : Ext c w w2 :=
  ⟨g.os.trans h.os, g.tape.trans h.tape, g.output.trans h.output, Nat.le_trans h.size g.size, fun k hk hc => (g.block k hk).trans (h.block k hk hc)⟩

theorem intsAt_lit (w : World) (zs : List Int) (cs : Array Value) (t : TypeId) (h : cs = (zs.map (Value.int .i64)).toArray) : IntsAt w.heap.size zs (w.alloc (.cells cs t)) := by
  rw [h]
  intro j hj
  rw [World.cell?_alloc_mark]
  simp [List.getElem?_map, List.getElem?_eq_getElem hj, List.getD_eq_getElem?_getD]

set_option maxHeartbeats 1000000 in
theorem l1Once_int (c : Nat) (a : Option Addr) (len cap : Nat) (n : Int) (hn : n ≤ 9223372036854775807) (w : World) (hc : CurAt c a len cap w) :
    Calls Try.prog 28 #[.pointer (some ⟨c, 0, none⟩), .int .i64 n] w fun e w' => (∃ b : Bool, e = .returned (.bool b)) ∧ Ext c w w' ∧ CurAt c a len cap w' := by
  go_enter Try.func28, Try.ntmps28
  go_wp2_with fail
  refine (l1Below_any c a len cap n hn _ hc).mono ?_
  rintro e w1 ⟨⟨x, x0, _, x1, rfl⟩, hx, hcur⟩
  clear x1
  go_wp2
  go_ret
  exact ⟨⟨_, rfl⟩, hx, hcur⟩

set_option maxRecDepth 100000 in
set_option maxHeartbeats 2000000 in
theorem drawSet_any (c : Nat) (a : Option Addr) (len cap : Nat) (w : World) (hc : CurAt c a len cap w) :
    Calls Try.prog 27 #[.pointer (some ⟨c, 0, none⟩)] w fun e w' => ∃ (u : Value) (xs : List Int), e = .returned u ∧ xs.length ≤ 8 ∧ Own w' w.heap.size u xs ∧ Ext c w w' ∧ CurAt c a len cap w' := by
  have HCW : Hid (c < w.heap.size) := hc.lt
  have H0 : Hid (Own (w.alloc (.cells #[] 3)) w.heap.size (.slice (some ⟨w.heap.size, 0, none⟩) 0 0) [] ∧ Ext c w (w.alloc (.cells #[] 3)) ∧ CurAt c a len cap (w.alloc (.cells #[] 3))) := ⟨own_lit w w.heap.size (Nat.le_refl _), (Ext.refl _ w).alloc _, hc.alloc' _⟩
  clear hc
  obtain ⟨i0, hi, hz0, hz1, hz2⟩ := info_parts int_info
  go_enter Try.func27, Try.ntmps27
  go_wp2_with fail
  go_loopw [3, 4] (fun r i wr => ∃ (k : Nat) (r0 : Value) (xs : List Int), r0 = r ∧ i = .int .i64 k ∧ k ≤ 4 ∧ xs.length ≤ k ∧ Own wr w.heap.size r0 xs ∧ Ext c w wr ∧ CurAt c a len cap wr) (fun _ i _ => 5 - (intOf i).toNat)
  case atStart => exact ⟨0, _, [], rfl, rfl, by omega, by simp, H0.out⟩
  case round =>
    obtain ⟨k, r0, xs, rfl, rfl, hk, hxl, hown, hext, hcur⟩ := hrel
    have HW : Hid (Own wr w.heap.size r0 xs ∧ Ext c w wr) := ⟨hown, hext⟩
    clear hown hext H0
    go_wp2_with fail
    refine (l1Below_any c a len cap 5 (by omega) _ hcur).mono ?_
    rintro e w1 ⟨⟨x, x0, _, x1, rfl⟩, hx, hcur1⟩
    have hx5 := x1 (by omega)
    have HW1 : Hid (Own w1 w.heap.size r0 xs ∧ Ext c w w1) := ⟨HW.out.1.ext hx HCW.out, HW.out.2.trans hx⟩
    clear hcur hx x1 HW
    by_cases hlt : (k : Int) < x
    · go_wp2_with fail
      refine (l1Below_any c a len cap 6 (by omega) _ hcur1).mono ?_
      rintro e w2 ⟨⟨y, y0, _, y1, rfl⟩, hy, hcur2⟩
      have HW2 : Hid (Own w2 w.heap.size r0 xs ∧ Ext c w w2 ∧ w.heap.size ≤ w2.heap.size) := ⟨HW1.out.1.ext hy HCW.out, HW1.out.2.trans hy, (HW1.out.2.trans hy).size⟩
      clear hcur1 hy y1 HW1
      go_wp2_with fail
      refine (spec_with xs y r0 w2 HW2.out.1.rd (by omega)).mono ?_
      rintro e w3 ⟨u, rfl, hb3, ho3⟩
      have HW3 : Hid (Own w3 w.heap.size u (withL xs y) ∧ Ext c w w3 ∧ CurAt c a len cap w3) := ⟨ho3.mono HW2.out.2.2, HW2.out.2.1.trans (Ext.of_below hb3 (Nat.le_refl _)), hcur2.below' hb3⟩
      have hwl := with_len xs y
      clear hb3 ho3 hcur2 HW2
      go_wp2
      go_roundw
      case rel => exact ⟨k + 1, _, _, rfl, by go_num, by omega, by omega, HW3.out⟩
      case measure => simp [intOf]; omega
    · go_wp2_with fail
      refine (l1Once_int c a len cap 10 (by omega) _ hcur1).mono ?_
      rintro e w2 ⟨⟨bb, rfl⟩, hy, hcur2⟩
      have HW2 : Hid (Own w2 w.heap.size r0 xs ∧ Ext c w w2 ∧ w.heap.size ≤ w2.heap.size) := ⟨HW1.out.1.ext hy HCW.out, HW1.out.2.trans hy, (HW1.out.2.trans hy).size⟩
      clear hcur1 hy HW1
      cases bb
      · go_wp2
        go_ret
        exact ⟨_, xs, rfl, by omega, HW2.out.1, HW2.out.2.1, hcur2⟩
      · go_wp2_with fail
        refine (l1PickInt_any c a len cap w2.heap.size [-1, 0, 3, 9223372036854775807] _ (hcur2.alloc' _) (by have := HCW.out; have := HW2.out.2.2; omega) 4 rfl (by omega) (by omega) (intsAt_lit w2 _ _ _ rfl)).mono ?_
        rintro e w3 ⟨⟨z, _, rfl⟩, hz, hcur3⟩
        have HW3 : Hid (Own w3 w.heap.size r0 xs ∧ Ext c w w3 ∧ w.heap.size ≤ w3.heap.size) := by
          have hx := (Ext.refl c w2).alloc (.cells #[.int .i64 (-1), .int .i64 0, .int .i64 3, .int .i64 9223372036854775807] 3)
          exact ⟨(HW2.out.1.ext hx HCW.out).ext hz HCW.out, (HW2.out.2.1.trans hx).trans hz, ((HW2.out.2.1.trans hx).trans hz).size⟩
        clear hz hcur2 HW2
        go_wp2_with (at_builtin; refine wpList_append_any _ rfl (.tmp 18) (.tmp 22) 24 rfl w.heap.size 3 i0 (.int .i64 0) 1 8 Try.underlying24 hi hz0 hz1 hz2 rfl (by decide) r0 xs.length (xs.map (Value.int .i64)) rfl (World.ownsRow.alloc HW3.out.1 _) (some ⟨w3.heap.size, 0, none⟩) 1 1 [.int .i64 z] rfl rfl (by simp) (one_new w3 _ _) (by simp [Value.oneCell']) (by unfold maxLen; omega) (by omega) (by have := HW3.out.2.2; simp; omega) ?_; intro v' w4 hown4 hg4)
        have R := own_push (w := w3) HW3.out.1 (Below.refl w.heap.size w3) HW3.out.2.2 hown4.out hg4.out
        have HR : Hid (Own w4 w.heap.size v' (xs ++ [z]) ∧ Ext c w w4 ∧ CurAt c a len cap w4) := by
          have hs := HW3.out.2.2
          have hcw := HCW.out
          refine ⟨R.1, HW3.out.2.1.trans' R.2 , hcur3.keepB fun k hk => R.2.block k (by omega)⟩
        clear R hown4 hg4
        go_ret
        exact ⟨_, xs ++ [z], rfl, by simp; omega, HR.out⟩

set_option maxRecDepth 100000 in
set_option maxHeartbeats 2000000 in
theorem drawOne_any (a : Option Addr) (len cap : Nat) (w : World) (hc : CodeOk a len w.heap.size w) :
    Calls Try.prog 24 #[.slice a len cap] w fun e w' => ∃ (u : Value) (n : Int) (xs : List Int), e = .returned (.tuple #[u, .int .i64 n]) ∧ xs.length ≤ 8 ∧ Own w' w.heap.size u xs ∧ Below w.heap.size w w' := by
  go_enter Try.func24, Try.ntmps24
  go_wp2_with fail
  refine (l1New_any a len cap w hc).mono ?_
  rintro e w1 ⟨rfl, hb1, hcur1, hs1⟩
  have H1 : Hid (Below w.heap.size w w1 ∧ w1.heap.size = w.heap.size + 1) := ⟨hb1, hs1⟩
  clear hb1 hs1
  go_wp2_with fail
  refine (drawSet_any w.heap.size a len cap w1 hcur1).mono ?_
  rintro e w2 ⟨u, xs, rfl, hl, ho, he, hcur2⟩
  have H2 : Hid (Own w2 (w.heap.size + 1) u xs ∧ Below w.heap.size w w2 ∧ w.heap.size < w2.heap.size ∧ xs.length ≤ 8) := ⟨ho.mono (by rw [H1.out.2]; exact Nat.le_refl _), H1.out.1.trans (he.below (Nat.le_refl _) (by have := H1.out.2; omega)), by have := he.size; have := H1.out.2; omega, hl⟩
  clear hcur1 ho he hl H1
  go_wp2_with fail
  refine (l1PickInt_any w.heap.size a len cap w2.heap.size [0, 1, 2, 3, 5, 9, -1] _ (hcur2.alloc' _) (by have := H2.out.2.2.1; omega) 7 rfl (by omega) (by omega) (intsAt_lit w2 _ _ _ rfl)).mono ?_
  rintro e w3 ⟨⟨z, _, rfl⟩, hz, hcur3⟩
  have hx := ((Ext.refl w.heap.size w2).alloc (.cells #[.int .i64 0, .int .i64 1, .int .i64 2, .int .i64 3, .int .i64 5, .int .i64 9, .int .i64 (-1)] 3)).trans hz
  have H3 : Hid (Own w3 w.heap.size u xs ∧ Below w.heap.size w w3 ∧ xs.length ≤ 8) := ⟨(H2.out.1.ext hx (by omega)).mono (by omega), H2.out.2.1.trans (hx.below (Nat.le_refl _) (by have := H2.out.2.2.1; omega)), H2.out.2.2.2⟩
  clear hz hcur2 hcur3 hx H2
  go_wp2
  go_ret2
  exact ⟨u, z, xs, rfl, H3.out.2.2, H3.out.1, H3.out.2.1⟩

set_option maxRecDepth 100000 in
set_option maxHeartbeats 1000000 in
theorem drawFlip_any (a : Option Addr) (len cap : Nat) (w : World) (hc : CodeOk a len w.heap.size w) :
    Calls Try.prog 5 #[.slice a len cap] w fun e w' => ∃ (u : Value) (n : Int) (xs : List Int), e = .returned (.tuple #[u, .int .i64 n]) ∧ xs.length ≤ 8 ∧ Own w' w.heap.size u xs ∧ Below w.heap.size w w' := by
  go_enter Try.func5, Try.ntmps5
  go_wp2_with fail
  refine (drawOne_any a len cap w hc).mono ?_
  rintro e w1 ⟨u, n, xs, rfl, hl, ho, hb⟩
  have H3 : Hid (xs.length ≤ 8 ∧ Own w1 w.heap.size u xs ∧ Below w.heap.size w w1) := ⟨hl, ho, hb⟩
  clear hl ho hb hc
  go_wp2
  go_ret2
  exact ⟨u, n, xs, rfl, H3.out⟩

set_option maxRecDepth 100000 in
set_option maxHeartbeats 1000000 in
theorem drawWith_any (a : Option Addr) (len cap : Nat) (w : World) (hc : CodeOk a len w.heap.size w) :
    Calls Try.prog 7 #[.slice a len cap] w fun e w' => ∃ (u : Value) (n : Int) (xs : List Int), e = .returned (.tuple #[u, .int .i64 n]) ∧ xs.length ≤ 8 ∧ Own w' w.heap.size u xs ∧ Below w.heap.size w w' := by
  go_enter Try.func7, Try.ntmps7
  go_wp2_with fail
  refine (drawOne_any a len cap w hc).mono ?_
  rintro e w1 ⟨u, n, xs, rfl, hl, ho, hb⟩
  have H3 : Hid (xs.length ≤ 8 ∧ Own w1 w.heap.size u xs ∧ Below w.heap.size w w1) := ⟨hl, ho, hb⟩
  clear hl ho hb hc
  go_wp2
  go_ret2
  exact ⟨u, n, xs, rfl, H3.out⟩

set_option maxRecDepth 100000 in
set_option maxHeartbeats 1000000 in
theorem drawWithout_any (a : Option Addr) (len cap : Nat) (w : World) (hc : CodeOk a len w.heap.size w) :
    Calls Try.prog 8 #[.slice a len cap] w fun e w' => ∃ (u : Value) (n : Int) (xs : List Int), e = .returned (.tuple #[u, .int .i64 n]) ∧ xs.length ≤ 8 ∧ Own w' w.heap.size u xs ∧ Below w.heap.size w w' := by
  go_enter Try.func8, Try.ntmps8
  go_wp2_with fail
  refine (drawOne_any a len cap w hc).mono ?_
  rintro e w1 ⟨u, n, xs, rfl, hl, ho, hb⟩
  have H3 : Hid (xs.length ≤ 8 ∧ Own w1 w.heap.size u xs ∧ Below w.heap.size w w1) := ⟨hl, ho, hb⟩
  clear hl ho hb hc
  go_wp2
  go_ret2
  exact ⟨u, n, xs, rfl, H3.out⟩

set_option maxRecDepth 100000 in
set_option maxHeartbeats 1000000 in
theorem drawSetOk_any (a : Option Addr) (len cap : Nat) (w : World) (hc : CodeOk a len w.heap.size w) :
    Calls Try.prog 10 #[.slice a len cap] w fun e w' => ∃ (u : Value) (xs : List Int), e = .returned u ∧ xs.length ≤ 8 ∧ Own w' w.heap.size u xs ∧ Below w.heap.size w w' := by
  go_enter Try.func10, Try.ntmps10
  go_wp2_with fail
  refine (l1New_any a len cap w hc).mono ?_
  rintro e w1 ⟨rfl, hb1, hcur1, hs1⟩
  have H1 : Hid (Below w.heap.size w w1 ∧ w1.heap.size = w.heap.size + 1) := ⟨hb1, hs1⟩
  clear hb1 hs1
  go_wp2_with fail
  refine (drawSet_any w.heap.size a len cap w1 hcur1).mono ?_
  rintro e w2 ⟨u, xs, rfl, hl, ho, he, hcur2⟩
  have H2 : Hid (xs.length ≤ 8 ∧ Own w2 w.heap.size u xs ∧ Below w.heap.size w w2) := ⟨hl, ho.mono (by have := H1.out.2; omega), H1.out.1.trans (he.below (Nat.le_refl _) (by have := H1.out.2; omega))⟩
  clear hcur1 hcur2 ho he hl H1
  go_wp2
  go_ret
  exact ⟨u, xs, rfl, H2.out⟩

set_option maxRecDepth 100000 in
set_option maxHeartbeats 2000000 in
theorem drawWithin_any (a : Option Addr) (len cap : Nat) (w : World) (hc : CodeOk a len w.heap.size w) :
    Calls Try.prog 9 #[.slice a len cap] w fun e w' => ∃ (u v : Value) (xs ys : List Int), e = .returned (.tuple #[u, v]) ∧ xs.length ≤ 8 ∧ ys.length ≤ 9 ∧ Own w' w.heap.size u xs ∧ Own w' w.heap.size v ys ∧ Below w.heap.size w w' := by
  go_enter Try.func9, Try.ntmps9
  go_wp2_with fail
  refine (l1New_any a len cap w hc).mono ?_
  rintro e w1 ⟨rfl, hb1, hcur1, hs1⟩
  have H1 : Hid (Below w.heap.size w w1 ∧ w1.heap.size = w.heap.size + 1) := ⟨hb1, hs1⟩
  clear hb1 hs1
  go_wp2_with fail
  refine (drawSet_any w.heap.size a len cap w1 hcur1).mono ?_
  rintro e w2 ⟨u, xs, rfl, hl, ho, he, hcur2⟩
  have H2 : Hid (Own w2 (w.heap.size + 1) u xs ∧ Below w.heap.size w w2 ∧ w.heap.size < w2.heap.size ∧ xs.length ≤ 8) := ⟨ho.mono (by rw [H1.out.2]; exact Nat.le_refl _), H1.out.1.trans (he.below (Nat.le_refl _) (by have := H1.out.2; omega)), by have := he.size; have := H1.out.2; omega, hl⟩
  clear hcur1 ho he hl H1
  go_wp2_with fail
  refine (l1Once_int w.heap.size a len cap 3 (by omega) _ hcur2).mono ?_
  rintro e w3 ⟨⟨bb, rfl⟩, hx, hcur3⟩
  have H3 : Hid (Own w3 (w.heap.size + 1) u xs ∧ Below w.heap.size w w3 ∧ w.heap.size < w3.heap.size ∧ xs.length ≤ 8) := ⟨H2.out.1.ext hx (by omega), H2.out.2.1.trans (hx.below (Nat.le_refl _) (by have := H2.out.2.2.1; omega)), by have := hx.size; have := H2.out.2.2.1; omega, H2.out.2.2.2⟩
  clear hx hcur2 H2
  cases bb
  · go_wp2_with fail
    refine (drawSet_any w.heap.size a len cap w3 hcur3).mono ?_
    rintro e w4 ⟨v, ys, rfl, hl, ho, he, hcur4⟩
    have H4 : Hid (xs.length ≤ 8 ∧ ys.length ≤ 9 ∧ Own w4 w.heap.size u xs ∧ Own w4 w.heap.size v ys ∧ Below w.heap.size w w4) :=
      ⟨H3.out.2.2.2, by omega, (H3.out.1.ext he (by omega)).mono (by omega), ho.mono (by have := H3.out.2.2.1; omega), H3.out.2.1.trans (he.below (Nat.le_refl _) (by have := H3.out.2.2.1; omega))⟩
    clear hcur3 hcur4 ho he hl H3
    go_wp2
    go_ret2
    exact ⟨u, v, xs, ys, rfl, H4.out⟩
  · go_wp2_with fail
    refine (l1Below_any w.heap.size a len cap 6 (by omega) _ hcur3).mono ?_
    rintro e w4 ⟨⟨y, y0, _, y1, rfl⟩, hy, hcur4⟩
    have H4 : Hid (Own w4 (w.heap.size + 1) u xs ∧ Below w.heap.size w w4 ∧ w.heap.size < w4.heap.size ∧ xs.length ≤ 8) := ⟨H3.out.1.ext hy (by omega), H3.out.2.1.trans (hy.below (Nat.le_refl _) (by have := H3.out.2.2.1; omega)), by have := hy.size; have := H3.out.2.2.1; omega, H3.out.2.2.2⟩
    clear hcur3 hcur4 hy y1 H3
    go_wp2_with fail
    refine (spec_with xs y u w4 H4.out.1.rd (by have := H4.out.2.2.2; omega)).mono ?_
    rintro e w5 ⟨v, rfl, hb5, ho5⟩
    have H5 : Hid (xs.length ≤ 8 ∧ (withL xs y).length ≤ 9 ∧ Own w5 w.heap.size u xs ∧ Own w5 w.heap.size v (withL xs y) ∧ Below w.heap.size w w5) :=
      ⟨H4.out.2.2.2, by have := with_len xs y; have := H4.out.2.2.2; omega, (H4.out.1.below hb5).mono (by omega), ho5.mono (by have := H4.out.2.2.1; omega), H4.out.2.1.trans (hb5.mono (by have := H4.out.2.2.1; omega))⟩
    clear hb5 ho5 H4
    go_wp2
    go_ret2
    exact ⟨u, v, xs, _, rfl, H5.out⟩

set_option maxRecDepth 100000 in
set_option maxHeartbeats 1000000 in
theorem drawSameSet_any (a : Option Addr) (len cap : Nat) (w : World) (hc : CodeOk a len w.heap.size w) :
    Calls Try.prog 11 #[.slice a len cap] w fun e w' => ∃ (u v : Value) (xs ys : List Int), e = .returned (.tuple #[u, v]) ∧ xs.length ≤ 8 ∧ ys.length ≤ 9 ∧ Own w' w.heap.size u xs ∧ Own w' w.heap.size v ys ∧ Below w.heap.size w w' := by
  go_enter Try.func11, Try.ntmps11
  go_wp2_with fail
  refine (drawWithin_any a len cap w hc).mono ?_
  rintro e w1 ⟨u, v, xs, ys, rfl, h⟩
  have H3 : Hid (xs.length ≤ 8 ∧ ys.length ≤ 9 ∧ Own w1 w.heap.size u xs ∧ Own w1 w.heap.size v ys ∧ Below w.heap.size w w1) := h
  clear h hc
  go_wp2
  go_ret2
  exact ⟨u, v, xs, ys, rfl, H3.out⟩
end Go.Proofs.Ytjadjahbblkeoab
