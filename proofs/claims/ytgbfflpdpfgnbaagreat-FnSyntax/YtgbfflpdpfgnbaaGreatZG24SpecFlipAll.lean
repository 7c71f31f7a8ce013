/- What spec.DrawStxOk and spec.DrawStxOf answer: some node, some datum and some list of numbers, in memory of the call's own. Condition: the code's bytes can be read. -/
import Derived.Test.YtgbfflpdpfgnbaaGreatZG23DrawX1
import Derived.Test.YtgbfflpdpfgnbaaGreatZG3SpecStart
import Derived.Test.YtgbfflpdpfgnbaaGreatZG4IntsImpl
import Derived.Test.YtgbfflpdpfgnbaaGreatZG6StxP
import Derived.Test.YtgbfflpdpfgnbaaGreatZG1StxOwn
import Derived.Deep.AppendLies
import Derived.Deep.Cut
import Derived.Deep.RegionHeld3
namespace Go.Proofs.YtgbfflpdpfgnbaaGreat
open Go.ChangeShapes Go.WideShapes Go.ChangeAt Go.RowKit

/-- The node with another list. -/
def X.put (t : X) (xs : List Int) : X := .mk t.op t.at_ t.n t.s xs t.len t.kid
theorem X.put_at {B : Nat} {w : World} {t : X} {su u sv : Value} {xs : List Int} (h : t.At B w su u) (hs : SetB B w sv xs) (hl : xs.length ≤ maxLen) : (t.put xs).At B w sv u := X.InB.mk' h.size h.num hl hs h.xs
theorem X.put_dat {B : Nat} {w : World} {t : X} {su u : Value} (h : t.At B w su u) (xs : List Int) : datX (t.put xs) = datX t := by
  cases t with
  | no => exact h.elim
  | mk => rfl
theorem X.put_sets {t : X} {xs : List Int} (h : t.SetsLe 8) (hx : xs.length ≤ 8) : (t.put xs).SetsLe 8 := by
  cases t with
  | no => exact ⟨hx, fun i hi => by simp [X.len] at hi⟩
  | mk => exact ⟨hx, h.2⟩

abbrev zeroD : Obj := .cells #[.int .i64 0, .int .i64 0, .int .i64 0, .string ⟨#[]⟩, .slice none 0 0] 26
abbrev ZeroDAt (w : World) (g : Nat) : Prop := Five w g 0 0 0 ⟨#[]⟩ (.slice none 0 0) 26
abbrev DatBAt (w : World) (g : Nat) (t : D) (v : Value) : Prop := Five w g t.op t.at_ t.n t.s v 26
theorem put5_here {w : World} {g : Nat} {a0 b0 c0 : Int} {s0 : ByteArray} {v0 : Value} {ty : TypeId} (h : Five w g a0 b0 c0 s0 v0 ty) (a b c : Int) (s : ByteArray) (v : Value) : Five (put5 w g a b c s v) g a b c s v ty := by
  have h0 := heap_setCell_same w g 0 _ _ (.int .i64 a) h
  have h1 := heap_setCell_same _ g 1 _ _ (.int .i64 b) h0
  have h2 := heap_setCell_same _ g 2 _ _ (.int .i64 c) h1
  have h3 := heap_setCell_same _ g 3 _ _ (.string s) h2
  exact heap_setCell_same _ g 4 _ _ v h3
theorem put5_size (w : World) (g : Nat) (a b c : Int) (s : ByteArray) (v : Value) : w.heap.size ≤ (put5 w g a b c s v).heap.size := (put5_below (Below.refl 0 w) g (Nat.zero_le _) a b c s v).size
theorem In_put5 {w : World} {R B : Nat} {t : D} {v : Value} (h : t.InB B w v) (hR : R < B) (a b c : Int) (s : ByteArray) (p : Value) : t.InB B (put5 w R a b c s p) v :=
  D.InB.kept (fun ad _ ha hx => (World.cell?_of_block (put5_other w R a b c s p ad.block (by omega))).trans hx) t h
theorem Own_put5 {w : World} {R B base : Nat} {v : Value} {xs : List Int} (h : Own w B v xs) (hR : R < B) (hB : base ≤ B) (a b c : Int) (s : ByteArray) (p : Value) : Own (put5 w R a b c s p) base v xs := by
  refine (h.sameX fun g hg => put5_other w R a b c s p g ?_).mono hB
  have := h.lt g hg
  omega

set_option maxRecDepth 100000 in
set_option maxHeartbeats 4000000 in
theorem drawStxOk_any (a : Option Addr) (len cap : Nat) (w : World) (hc : CodeOk a len w.heap.size w) :
    Calls Tryz.prog 9 #[.slice a len cap] w fun e w' => ∃ (t : X) (su u : Value), e = .returned (.agg #[.int .i64 t.op, .int .i64 t.at_, .int .i64 t.n, .string t.s, su, u]) ∧ GotX w w' t su u := by
  have hc1 := code_below5 hc (newx w zeroX)
  have hs0 : (w.alloc zeroX).heap.size = w.heap.size + 1 := by simp
  obtain ⟨R, hR⟩ : ∃ R, R = w.heap.size := ⟨_, rfl⟩
  go_enter Tryz.func9, Tryz.ntmps9
  go_wp2_with fail
  refine (l1New_any a len cap _ hc1).mono ?_
  rintro e w1 ⟨rfl, hb, hcur, hs1⟩
  have HR1 : Hid (ZeroXAt w1 R ∧ Below w.heap.size w w1 ∧ w1.heap.size = w.heap.size + 2) := by
    refine ⟨?_, (newx w zeroX).trans (hb.mono (by simp)), by rw [hs1, hs0]⟩
    rw [hR]
    exact (hb.block _ (by simp)).trans (heap_alloc_new w _)
  rw [hs0] at hcur ⊢
  clear hb hs1 hc1 hc hs0
  go_wp2_with fail
  refine (l5Draw_any (w.heap.size + 1) a len cap w1 hcur).mono ?_
  rintro e w2 ⟨t, su, u, S, rfl, ⟨hext, hcur2⟩, hX, -, hS, hwt, hsl⟩
  obtain ⟨pv, cv, hv⟩ := hX.at0.xs.shape
  obtain ⟨pw, cw, hw⟩ := hX.at0.sets.shape
  subst hv hw
  obtain ⟨A, hA⟩ : ∃ A, A = w2.heap.size := ⟨_, rfl⟩
  obtain ⟨C, hC⟩ : ∃ C, C = w.heap.size + 1 := ⟨_, rfl⟩
  obtain ⟨w3, hw3⟩ : ∃ w3, w3 = w2.alloc (nodeX t (.slice pw t.set.length cw) (.slice pv t.len cv)) := ⟨_, rfl⟩
  have nb : Below w2.heap.size w2 w3 := by rw [hw3]; exact newx w2 _
  have H3 : Hid (ZeroXAt w3 R ∧ NodeXAt w3 A t (.slice pw t.set.length cw) (.slice pv t.len cv) ∧ Below w.heap.size w w3 ∧ (XOwn w3 t (.slice pw t.set.length cw) (.slice pv t.len cv) S ∧ ∀ x ∈ S, w.heap.size + 2 ≤ x ∧ x < A) ∧ (datX t).weight ≤ 60000 ∧ t.SetsLe 8) := by
    have h6 : ZeroXAt w2 R := (hext.block R HR1.out.1.lt (by omega)).trans HR1.out.1
    have hb2 := hext.belowX HR1.out.2.1 (by omega)
    refine ⟨h6.below nb, ?_, hb2.trans (nb.mono hb2.size), ⟨hX.same _ (fun g hg => nb.block g (hX.there _ g hg)), fun x hx => ⟨by have := hS x hx; have := HR1.out.2.2; omega, by rw [hA]; exact hX.there _ x hx⟩⟩, hwt, hsl⟩
    rw [hA, hw3]
    exact heap_alloc_new w2 _
  have hcur3 : CurAt C a len cap w3 := by rw [hC]; exact hcur2.below' nb
  have HQ : Hid (R = w.heap.size ∧ C = w.heap.size + 1 ∧ w.heap.size + 2 ≤ A) := ⟨hR, hC, by rw [hA]; have := hext.size; have := HR1.out.2.2; omega⟩
  clear hX hS hwt hsl hext hcur hcur2 HR1
  go_wp2_with fail
  rw [← hw3, ← hC, ← hR, ← hA]
  clear hw3 nb hA hC hR
  refine (l1Once_any C a len cap 8 (by omega) _ hcur3).mono ?_
  rintro e w4 ⟨⟨q, rfl⟩, hx4, -⟩
  have H4 : Hid (ZeroXAt w4 R ∧ NodeXAt w4 A t (.slice pw t.set.length cw) (.slice pv t.len cv) ∧ Below w.heap.size w w4 ∧ (XOwn w4 t (.slice pw t.set.length cw) (.slice pv t.len cv) S ∧ ∀ x ∈ S, w.heap.size + 2 ≤ x ∧ x < A)) :=
    ⟨(hx4.block R H3.out.1.lt (by have := HQ.out; omega)).trans H3.out.1, (hx4.block A H3.out.2.1.lt (by have := HQ.out; omega)).trans H3.out.2.1, hx4.belowX H3.out.2.2.1 (by have := HQ.out; omega), ⟨H3.out.2.2.2.1.1.same _ (fun g hg => hx4.block g (H3.out.2.2.2.1.1.there _ g hg) (by have := HQ.out; have := H3.out.2.2.2.1.2 g hg; omega)), H3.out.2.2.2.1.2⟩⟩
  have nRA : ¬ R = A := by have := HQ.out; omega
  have nAR : ¬ A = R := by have := HQ.out; omega
  clear hx4 hcur3
  cases q
  · obtain ⟨x0, x1, x2, x3, x4, x5⟩ := H4.out.1.cells
    have xf := H4.out.1.fr
    obtain ⟨y0, y1, y2, y3, y4, y5⟩ := H4.out.2.1.cells
    go_wp2_with fail
    refine bodyPost_ret (v := .agg #[.int .i64 t.op, .int .i64 t.at_, .int .i64 t.n, .string t.s, .slice pw t.set.length cw, .slice pv t.len cv]) (by rw [results_cellX (p := 2) (ty := 32) (by kernel_rfl)]; simp [go_sem, x0, x1, x2, x3, x4, x5]) rfl ?_
    exact ⟨t, _, _, rfl, GotX.put (B := w.heap.size + 2) (by have := HQ.out; omega) (by have := HQ.out; omega) (H4.out.2.2.2.1.at' _ (fun x hx => (H4.out.2.2.2.2 x hx).1)) H3.out.2.2.2.2.1 (X.SetsLe.mono (by omega) _ H3.out.2.2.2.2.2) H4.out.2.2.1 _ _ _ _ _ _⟩
  · obtain ⟨w5, hw5⟩ : ∃ w5, w5 = (w4.setCell ⟨A, 4, none⟩ (.slice (some ⟨w4.heap.size, 0, none⟩) 1 1)).alloc (.cells #[.int .i64 1] 3) := ⟨_, rfl⟩
    obtain ⟨wx, hwx⟩ : ∃ wx, wx = w4.setCell ⟨A, 4, none⟩ (.slice (some ⟨w4.heap.size, 0, none⟩) 1 1) := ⟨_, rfl⟩
    have hsx : wx.heap.size = w4.heap.size := by rw [hwx]; simp
    have hA4 : NodeXAt wx A t (.slice (some ⟨w4.heap.size, 0, none⟩) 1 1) (.slice pv t.len cv) := by rw [hwx]; exact H4.out.2.1.set4 _
    have oth : ∀ x, x ≠ A → wx.heap[x]? = w4.heap[x]? := fun x hx => by rw [hwx]; exact Below.heap_setCell _ ⟨A, 4, none⟩ _ x hx
    have hbx : Below w.heap.size w wx := by rw [hwx]; exact H4.out.2.2.1.setCell (by show w.heap.size ≤ A; have := HQ.out; omega) _
    have nb4 : Below wx.heap.size wx w5 := by rw [hw5, ← hwx]; exact newx wx _
    have hlt := H4.out.2.1.lt
    have H5 : Hid (ZeroXAt w5 R ∧ NodeXAt w5 A t (.slice (some ⟨w4.heap.size, 0, none⟩) 1 1) (.slice pv t.len cv) ∧ Below w.heap.size w w5 ∧ (t.put [1]).At (w.heap.size + 2) w5 (.slice (some ⟨w4.heap.size, 0, none⟩) 1 1) (.slice pv t.len cv)) := by
      refine ⟨Six.below ((oth R nRA).trans H4.out.1) nb4, hA4.below nb4, hbx.trans (nb4.mono hbx.size), ?_⟩
      have hX5 : XOwn w5 t (.slice pw t.set.length cw) (.slice pv t.len cv) S := H4.out.2.2.2.1.same _ (fun g hg => (nb4.block g (by rw [hsx]; exact H4.out.2.2.2.1.there _ g hg)).trans (oth g (by have := H4.out.2.2.2.2 g hg; omega)))
      have hO : Own (wx.alloc (.cells #[.int .i64 1] 3)) wx.heap.size (.slice (some ⟨wx.heap.size, 0, none⟩) 1 1) [1] := World.ownsRow_lit wx #[.int .i64 1] 1 (Nat.le_refl _) (by unfold maxLen; omega) rfl
      rw [hsx, hwx, ← hw5] at hO
      exact X.put_at (hX5.at' (B := w.heap.size + 2) _ (fun x hx => (H4.out.2.2.2.2 x hx).1)) (hO.setB (by have := HQ.out; omega)) (by unfold maxLen; simp)
    obtain ⟨y0, y1, y2, y3, y4, y5⟩ := H4.out.2.1.cells
    have yf := H4.out.2.1.fr
    clear oth hbx nb4 hA4 hsx hwx
    have hAl : A < w4.heap.size := H4.out.2.1.lt
    go_upto_region 5 with fail
    rw [← hw5]
    clear hw5 y0 y1 y2 y3 y4 y5 yf
    obtain ⟨x0, x1, x2, x3, x4, x5⟩ := H5.out.1.cells
    have xf := H5.out.1.fr
    obtain ⟨z0, z1, z2, z3, z4, z5⟩ := H5.out.2.1.cells
    go_wp2_with fail
    refine bodyPost_ret (v := .agg #[.int .i64 t.op, .int .i64 t.at_, .int .i64 t.n, .string t.s, .slice (some ⟨w4.heap.size, 0, none⟩) 1 1, .slice pv t.len cv]) (by rw [results_cellX (p := 2) (ty := 32) (by kernel_rfl)]; simp [go_sem, x0, x1, x2, x3, x4, x5]) rfl ?_
    exact ⟨t.put [1], _, _, rfl, GotX.put (B := w.heap.size + 2) (by have := HQ.out; omega) (by have := HQ.out; omega) H5.out.2.2.2 (by rw [X.put_dat (H4.out.2.2.2.1.at0)]; exact H3.out.2.2.2.2.1) (X.SetsLe.mono (by omega) _ (X.put_sets H3.out.2.2.2.2.2 (by simp))) H5.out.2.2.1 _ _ _ _ _ _⟩

set_option maxRecDepth 100000 in
set_option maxHeartbeats 4000000 in
theorem drawStxOf_any (a : Option Addr) (len cap : Nat) (w : World) (hc : CodeOk a len w.heap.size w) :
    Calls Tryz.prog 5 #[.slice a len cap] w fun e w' => ∃ (t : D) (v sv : Value) (xs : List Int), e = .returned (.tuple #[.agg #[.int .i64 t.op, .int .i64 t.at_, .int .i64 t.n, .string t.s, v], sv]) ∧ (t.InB w.heap.size w' v ∧ Own w' w.heap.size sv xs ∧ Below w.heap.size w w') ∧ t.weight ≤ 60000 ∧ xs.length ≤ 8 := by
  have HC0 : Hid (CodeOk a len w.heap.size w) := hc
  have hc1 := code_below5 hc (newx w zeroD)
  have hs0 : (w.alloc zeroD).heap.size = w.heap.size + 1 := by simp
  obtain ⟨R, hR⟩ : ∃ R, R = w.heap.size := ⟨_, rfl⟩
  go_enter Tryz.func5, Tryz.ntmps5
  go_wp2_with fail
  refine (l1New_any a len cap _ hc1).mono ?_
  rintro e w1 ⟨rfl, hb, hcur, hs1⟩
  have HR1 : Hid (ZeroDAt w1 R ∧ Below w.heap.size w w1 ∧ w1.heap.size = w.heap.size + 2) := by
    refine ⟨?_, (newx w zeroD).trans (hb.mono (by simp)), by rw [hs1, hs0]⟩
    rw [hR]
    exact (hb.block _ (by simp)).trans (heap_alloc_new w _)
  rw [hs0] at hcur ⊢
  clear hb hs1 hc1 hc hs0
  go_wp2_with fail
  refine (drawDat_any (w.heap.size + 1) a len cap w1 hcur).mono ?_
  rintro e w2 ⟨t, v, rfl, hin, hwt, hext, hcur2⟩
  obtain ⟨pv, cv, hv⟩ := hin.sl.shape
  subst hv
  obtain ⟨A, hA⟩ : ∃ A, A = w2.heap.size := ⟨_, rfl⟩
  obtain ⟨C, hC⟩ : ∃ C, C = w.heap.size + 1 := ⟨_, rfl⟩
  obtain ⟨w3, hw3⟩ : ∃ w3, w3 = w2.alloc (.cells #[.int .i64 t.op, .int .i64 t.at_, .int .i64 t.n, .string t.s, .slice pv t.len cv] 26) := ⟨_, rfl⟩
  have nb : Below w2.heap.size w2 w3 := by rw [hw3]; exact newx w2 _
  have H3 : Hid (ZeroDAt w3 R ∧ DatBAt w3 A t (.slice pv t.len cv) ∧ Below w.heap.size w w3 ∧ t.InB (w.heap.size + 2) w3 (.slice pv t.len cv) ∧ t.weight ≤ 60000) := by
    have h6 : ZeroDAt w2 R := (hext.block R HR1.out.1.lt (by omega)).trans HR1.out.1
    have hb2 := hext.belowX HR1.out.2.1 (by omega)
    refine ⟨h6.below nb, ?_, hb2.trans (nb.mono hb2.size), (hin.mono (by have := HR1.out.2.2; omega)).below nb, hwt⟩
    rw [hA, hw3]
    exact heap_alloc_new w2 _
  have hcur3 : CurAt C a len cap w3 := by rw [hC]; exact hcur2.below' nb
  have HQ : Hid (R = w.heap.size ∧ C = w.heap.size + 1 ∧ w.heap.size + 2 ≤ A) := ⟨hR, hC, by rw [hA]; have := hext.size; have := HR1.out.2.2; omega⟩
  clear hin hwt hext hcur hcur2 HR1
  go_wp2_with fail
  rw [← hw3, ← hC, ← hR, ← hA]
  clear hw3 nb hA hC hR
  obtain ⟨x0, x1, x2, x3, x4⟩ := H3.out.1.cells
  have xf := H3.out.1.fr
  obtain ⟨y0, y1, y2, y3, y4⟩ := H3.out.2.1.cells
  have nRA : ¬ R = A := by have := HQ.out; omega
  have nAR : ¬ A = R := by have := HQ.out; omega
  have HC1 : Hid (CurAt C a len cap w3.drew) := hcur3
  have HC2 : Hid (CurAt C a len cap (put5 w3 R t.op t.at_ t.n t.s (.slice pv t.len cv)).drew) :=
    CurAt.drewX (cur_putX (W := (put5 w3 R t.op t.at_ t.n t.s (.slice pv t.len cv))) HC0.out hcur3 (put5_below H3.out.2.2.1 R (by have := HQ.out; omega) _ _ _ _ _) (put5_other w3 R _ _ _ _ _ C (by have := HQ.out; omega)) (by have := HQ.out; omega))
  clear hcur3
  go_region_with (first
    | (go_at_call 26; refine (drawSet_any C a len cap w3.drew HC1.out).mono ?_; rintro e w4 ⟨sv, xs, rfl, hxs, hown, hx4, hc4⟩; have hw4 : Ext C w3 w4 := hx4.undrew; have hzs : w.heap.size + 2 ≤ w3.drew.heap.size := by { have h1 := H3.out.2.1.lt; have h2 := HQ.out; show _ ≤ w3.heap.size; omega }; have q6 : ZeroDAt w4 R := (hw4.block R H3.out.1.lt (by have := HQ.out; omega)).trans H3.out.1; obtain ⟨b0, b1, b2, b3, b4⟩ := q6.cells; have bf := q6.fr; have q7 : DatBAt w4 A t _ := (hw4.block A H3.out.2.1.lt (by have := HQ.out; omega)).trans H3.out.2.1; obtain ⟨c0, c1, c2, c3, c4⟩ := q7.cells; have HEND : Hid ((t.InB w.heap.size (put5 w4 R t.op t.at_ t.n t.s (.slice pv t.len cv)) (.slice pv t.len cv) ∧ Own (put5 w4 R t.op t.at_ t.n t.s (.slice pv t.len cv)) w.heap.size sv xs ∧ Below w.heap.size w (put5 w4 R t.op t.at_ t.n t.s (.slice pv t.len cv))) ∧ t.weight ≤ 60000 ∧ xs.length ≤ 8) := ⟨⟨(In_put5 (H3.out.2.2.2.1.ext hw4 (by have := HQ.out; omega)) (by have := HQ.out; omega) _ _ _ _ _).mono (by omega), Own_put5 hown (by have := HQ.out; omega) (by omega) _ _ _ _ _, put5_below (hw4.belowX H3.out.2.2.1 (by have := HQ.out; omega)) R (by have := HQ.out; omega) _ _ _ _ _⟩, H3.out.2.2.2.2, hxs⟩; obtain ⟨ps, cs, hsv⟩ := own_shape hown; subst hsv; clear hx4 hc4 hw4 q6 q7 hxs hown hzs)
    | (go_at_call 26; refine (drawSet_any C a len cap _ HC2.out).mono ?_; rintro e w4 ⟨sv, xs, rfl, hxs, hown, hx4, hc4⟩; have hw4 : Ext C (put5 w3 R t.op t.at_ t.n t.s (.slice pv t.len cv)) w4 := hx4.undrew; have hp := put5_size w3 R t.op t.at_ t.n t.s (.slice pv t.len cv); have q6 : DatBAt w4 R t _ := (hw4.block R (by have := H3.out.1.lt; omega) (by have := HQ.out; omega)).trans (put5_here H3.out.1 _ _ _ _ _); obtain ⟨b0, b1, b2, b3, b4⟩ := q6.cells; have HEND : Hid ((t.InB w.heap.size w4 (.slice pv t.len cv) ∧ Own w4 w.heap.size sv xs ∧ Below w.heap.size w w4) ∧ t.weight ≤ 60000 ∧ xs.length ≤ 8) := ⟨⟨((In_put5 H3.out.2.2.2.1 (by have := HQ.out; omega) _ _ _ _ _).ext hw4 (by have := HQ.out; omega)).mono (by omega), hown.mono (by have h1 := H3.out.2.1.lt; have h2 := HQ.out; show _ ≤ (put5 w3 R t.op t.at_ t.n t.s (.slice pv t.len cv)).heap.size; omega), hw4.belowX (put5_below H3.out.2.2.1 R (by have := HQ.out; omega) _ _ _ _ _) (by have := HQ.out; omega)⟩, H3.out.2.2.2.2, hxs⟩; obtain ⟨ps, cs, hsv⟩ := own_shape hown; subst hsv; clear hx4 hc4 hw4 q6 hxs hown hp))
  all_goals
    go_wp2_with fail
    refine bodyPost_ret (v := .tuple #[.agg #[.int .i64 t.op, .int .i64 t.at_, .int .i64 t.n, .string t.s, .slice pv t.len cv], .slice ps xs.length cs]) (by rw [results_cellT (p := 2) (q := 3) (ty := 26) (by kernel_rfl)]; simp [go_sem, b0, b1, b2, b3, b4]) rfl ?_
    exact ⟨t, _, _, xs, rfl, HEND.out⟩
end Go.Proofs.YtgbfflpdpfgnbaaGreat

/- spec.l5Copy. Condition: at most 2^20 of it. -/
namespace Go.Proofs.YtgbfflpdpfgnbaaGreat
open Go.ChangeShapes Go.WideShapes Go.ChangeAt Go.RowKit

def SpecCopyXAt (t : X) : Prop := ∀ (w : World) (sv v : Value), t.At 0 w sv v → t.weight ≤ 1048576 → Calls Tryz.prog 35 #[.agg #[.int .i64 t.op, .int .i64 t.at_, .int .i64 t.n, .string t.s, sv, v]] w fun e w' =>
  ∃ su u S, e = .returned (.agg #[.int .i64 t.op, .int .i64 t.at_, .int .i64 t.n, .string t.s, su, u]) ∧ Below w.heap.size w w' ∧ XOwn w' t su u S ∧ S.Nodup ∧ ∀ x ∈ S, w.heap.size ≤ x

theorem copyX_enter (vs : Array Value) (w : World) : (callFunc 35 vs).run Tryz.prog w = .ok (.enter 35 vs) w := by kernel_rfl
theorem copyX_cells (d : X) (su v : Value) : xcells (d, su, v) = [.int .i64 d.op, .int .i64 d.at_, .int .i64 d.n, .string d.s, su, v] := by cases d <;> rfl

set_option maxRecDepth 100000 in
set_option maxHeartbeats 4000000 in
theorem copyX_all (t : X) : SpecCopyXAt t := by
  induction t with
  | no => intro w sv v h; exact h.elim
  | mk op a n s set len kid ih =>
    intro w sv v hin hwt
    obtain ⟨i0, hi0, hz0, hz1, hz2⟩ := info_parts stx_info
    obtain ⟨iI, hiI, hzI0, hzI1, hzI2⟩ := info_parts int_info
    have hsl : XsAt 0 w len kid v := hin.xs
    have hss : SetB 0 w sv set := hin.sets
    have HPL : Hid (s.size ≤ maxLen ∧ -9223372036854775808 ≤ n ∧ n ≤ 9223372036854775807) := ⟨hin.size, hin.num⟩
    obtain ⟨p, cap, rfl, -, hat⟩ := hsl.at
    obtain ⟨ps, cps, hsv⟩ := hss.shape
    subst hsv
    have hwe : (X.mk op a n s set len kid).weight = s.size + (set.length + (len + sumX (fun i => (kid i).weight) len)) := rfl
    have hlen : len ≤ 1048576 := by omega
    have hsl2 : set.length ≤ 1048576 := by omega
    have HRD : Hid (Rd w (.slice ps set.length cps) set) := hss.rd
    have IH : Hid (∀ i, i < len → ∀ (w : World) (sv v : Value), (kid i).At 0 w sv v → Calls Tryz.prog 35 #[.agg #[.int .i64 (kid i).op, .int .i64 (kid i).at_, .int .i64 (kid i).n, .string (kid i).s, sv, v]] w fun e w' =>
      ∃ su u S, e = .returned (.agg #[.int .i64 (kid i).op, .int .i64 (kid i).at_, .int .i64 (kid i).n, .string (kid i).s, su, u]) ∧ Below w.heap.size w w' ∧ XOwn w' (kid i) su u S ∧ S.Nodup ∧ ∀ x ∈ S, w.heap.size ≤ x) := fun i hi w sv v h => ih i w sv v h (by
        have h1 := sumX_at (fun i => (kid i).weight) i len hi
        omega)
    have HAT : Hid (∀ i, i < len → ∃ b o su u, p = some ⟨b, o, none⟩ ∧ Head6 w b (o + i * 6) (kid i) su u ∧ (kid i).At 0 w su u) := hat
    have HYL : Hid (set.length ≤ maxLen) := by show _ ≤ _; unfold maxLen; omega
    simp only [X.op, X.at_, X.n, X.s]
    clear hin hsl ih hat hwe hwt hss
    have e0 : ((w.alloc (.cells #[.int .i64 op, .int .i64 a, .int .i64 n, .string s, .slice ps set.length cps, .slice p len cap] 32)).alloc (.cells #[.int .i64 0, .int .i64 0, .int .i64 0, .string ⟨#[]⟩, .slice none 0 0, .slice none 0 0] 32)).heap.size = w.heap.size + 2 := by simp
    have e1 : ∀ ob, (((w.alloc (.cells #[.int .i64 op, .int .i64 a, .int .i64 n, .string s, .slice ps set.length cps, .slice p len cap] 32)).alloc (.cells #[.int .i64 0, .int .i64 0, .int .i64 0, .string ⟨#[]⟩, .slice none 0 0, .slice none 0 0] 32)).alloc ob).heap.size = w.heap.size + 1 + 1 + 1 := fun ob => by simp
    have hb0 : Below w.heap.size w ((w.alloc (.cells #[.int .i64 op, .int .i64 a, .int .i64 n, .string s, .slice ps set.length cps, .slice p len cap] 32)).alloc (.cells #[.int .i64 0, .int .i64 0, .int .i64 0, .string ⟨#[]⟩, .slice none 0 0, .slice none 0 0] 32)) := (newx w _).trans ((newx _ _).mono (by simp))
    have hbA : Below ((w.alloc (.cells #[.int .i64 op, .int .i64 a, .int .i64 n, .string s, .slice ps set.length cps, .slice p len cap] 32)).alloc (.cells #[.int .i64 0, .int .i64 0, .int .i64 0, .string ⟨#[]⟩, .slice none 0 0, .slice none 0 0] 32)).heap.size ((w.alloc (.cells #[.int .i64 op, .int .i64 a, .int .i64 n, .string s, .slice ps set.length cps, .slice p len cap] 32)).alloc (.cells #[.int .i64 0, .int .i64 0, .int .i64 0, .string ⟨#[]⟩, .slice none 0 0, .slice none 0 0] 32)) ((((w.alloc (.cells #[.int .i64 op, .int .i64 a, .int .i64 n, .string s, .slice ps set.length cps, .slice p len cap] 32)).alloc (.cells #[.int .i64 0, .int .i64 0, .int .i64 0, .string ⟨#[]⟩, .slice none 0 0, .slice none 0 0] 32)).alloc (.cells #[] 3)).drew) := (newx _ _).drew
    have HOA : Hid (((((w.alloc (.cells #[.int .i64 op, .int .i64 a, .int .i64 n, .string s, .slice ps set.length cps, .slice p len cap] 32)).alloc (.cells #[.int .i64 0, .int .i64 0, .int .i64 0, .string ⟨#[]⟩, .slice none 0 0, .slice none 0 0] 32)).alloc (.cells #[] 3)).drew).ownsRow (w.heap.size + 2) 3 1 (.slice (some ⟨w.heap.size + 1 + 1, 0, none⟩) 0 0) 0 [] ∧ (ps = none → set.length = 0 ∧ cps = 0) ∧ ∀ ad, ps = some ad → ∀ j u, (set.map (Value.int .i64))[j]? = some u → ((((w.alloc (.cells #[.int .i64 op, .int .i64 a, .int .i64 n, .string s, .slice ps set.length cps, .slice p len cap] 32)).alloc (.cells #[.int .i64 0, .int .i64 0, .int .i64 0, .string ⟨#[]⟩, .slice none 0 0, .slice none 0 0] 32)).alloc (.cells #[] 3)).drew).cell? (ad.add j) = some u) := by
      have h1 : ((((w.alloc (.cells #[.int .i64 op, .int .i64 a, .int .i64 n, .string s, .slice ps set.length cps, .slice p len cap] 32)).alloc (.cells #[.int .i64 0, .int .i64 0, .int .i64 0, .string ⟨#[]⟩, .slice none 0 0, .slice none 0 0] 32)).alloc (.cells #[] 3)).drew).heap[w.heap.size + 1 + 1]? = some (.cells #[] 3 (0, 0)) := by
        have h2 := heap_alloc_new ((w.alloc (.cells #[.int .i64 op, .int .i64 a, .int .i64 n, .string s, .slice ps set.length cps, .slice p len cap] 32)).alloc (.cells #[.int .i64 0, .int .i64 0, .int .i64 0, .string ⟨#[]⟩, .slice none 0 0, .slice none 0 0] 32)) (.cells #[] 3)
        rw [e0] at h2
        exact h2
      exact ⟨own_empty h1 (by omega), (HRD.out.below (hb0.trans (hbA.mono (by omega)))).src⟩
    have HBA : Hid (Below ((w.alloc (.cells #[.int .i64 op, .int .i64 a, .int .i64 n, .string s, .slice ps set.length cps, .slice p len cap] 32)).alloc (.cells #[.int .i64 0, .int .i64 0, .int .i64 0, .string ⟨#[]⟩, .slice none 0 0, .slice none 0 0] 32)).heap.size ((w.alloc (.cells #[.int .i64 op, .int .i64 a, .int .i64 n, .string s, .slice ps set.length cps, .slice p len cap] 32)).alloc (.cells #[.int .i64 0, .int .i64 0, .int .i64 0, .string ⟨#[]⟩, .slice none 0 0, .slice none 0 0] 32)) ((((w.alloc (.cells #[.int .i64 op, .int .i64 a, .int .i64 n, .string s, .slice ps set.length cps, .slice p len cap] 32)).alloc (.cells #[.int .i64 0, .int .i64 0, .int .i64 0, .string ⟨#[]⟩, .slice none 0 0, .slice none 0 0] 32)).alloc (.cells #[] 3)).drew) ∧ ((w.alloc (.cells #[.int .i64 op, .int .i64 a, .int .i64 n, .string s, .slice ps set.length cps, .slice p len cap] 32)).alloc (.cells #[.int .i64 0, .int .i64 0, .int .i64 0, .string ⟨#[]⟩, .slice none 0 0, .slice none 0 0] 32)).heap.size ≤ w.heap.size + 1 + 1) := ⟨hbA, by rw [e0]; omega⟩
    have hbB : Below ((w.alloc (.cells #[.int .i64 op, .int .i64 a, .int .i64 n, .string s, .slice ps set.length cps, .slice p len cap] 32)).alloc (.cells #[.int .i64 0, .int .i64 0, .int .i64 0, .string ⟨#[]⟩, .slice none 0 0, .slice none 0 0] 32)).heap.size ((w.alloc (.cells #[.int .i64 op, .int .i64 a, .int .i64 n, .string s, .slice ps set.length cps, .slice p len cap] 32)).alloc (.cells #[.int .i64 0, .int .i64 0, .int .i64 0, .string ⟨#[]⟩, .slice none 0 0, .slice none 0 0] 32)) (((((w.alloc (.cells #[.int .i64 op, .int .i64 a, .int .i64 n, .string s, .slice ps set.length cps, .slice p len cap] 32)).alloc (.cells #[.int .i64 0, .int .i64 0, .int .i64 0, .string ⟨#[]⟩, .slice none 0 0, .slice none 0 0] 32)).alloc (.cells #[.int .i64 0, .int .i64 0, .int .i64 0, .string ⟨#[]⟩, .slice none 0 0, .slice none 0 0] 32)).alloc (.cells #[] 3)).drew) := ((newx _ _).trans ((newx _ _).mono (by rw [e1]; omega))).drew
    have HOB : Hid ((((((w.alloc (.cells #[.int .i64 op, .int .i64 a, .int .i64 n, .string s, .slice ps set.length cps, .slice p len cap] 32)).alloc (.cells #[.int .i64 0, .int .i64 0, .int .i64 0, .string ⟨#[]⟩, .slice none 0 0, .slice none 0 0] 32)).alloc (.cells #[.int .i64 0, .int .i64 0, .int .i64 0, .string ⟨#[]⟩, .slice none 0 0, .slice none 0 0] 32)).alloc (.cells #[] 3)).drew).ownsRow (w.heap.size + 2) 3 1 (.slice (some ⟨w.heap.size + 1 + 1 + 1, 0, none⟩) 0 0) 0 [] ∧ (ps = none → set.length = 0 ∧ cps = 0) ∧ ∀ ad, ps = some ad → ∀ j u, (set.map (Value.int .i64))[j]? = some u → (((((w.alloc (.cells #[.int .i64 op, .int .i64 a, .int .i64 n, .string s, .slice ps set.length cps, .slice p len cap] 32)).alloc (.cells #[.int .i64 0, .int .i64 0, .int .i64 0, .string ⟨#[]⟩, .slice none 0 0, .slice none 0 0] 32)).alloc (.cells #[.int .i64 0, .int .i64 0, .int .i64 0, .string ⟨#[]⟩, .slice none 0 0, .slice none 0 0] 32)).alloc (.cells #[] 3)).drew).cell? (ad.add j) = some u) := by
      have h1 : (((((w.alloc (.cells #[.int .i64 op, .int .i64 a, .int .i64 n, .string s, .slice ps set.length cps, .slice p len cap] 32)).alloc (.cells #[.int .i64 0, .int .i64 0, .int .i64 0, .string ⟨#[]⟩, .slice none 0 0, .slice none 0 0] 32)).alloc (.cells #[.int .i64 0, .int .i64 0, .int .i64 0, .string ⟨#[]⟩, .slice none 0 0, .slice none 0 0] 32)).alloc (.cells #[] 3)).drew).heap[w.heap.size + 1 + 1 + 1]? = some (.cells #[] 3 (0, 0)) := by
        have h2 := heap_alloc_new (((w.alloc (.cells #[.int .i64 op, .int .i64 a, .int .i64 n, .string s, .slice ps set.length cps, .slice p len cap] 32)).alloc (.cells #[.int .i64 0, .int .i64 0, .int .i64 0, .string ⟨#[]⟩, .slice none 0 0, .slice none 0 0] 32)).alloc (.cells #[.int .i64 0, .int .i64 0, .int .i64 0, .string ⟨#[]⟩, .slice none 0 0, .slice none 0 0] 32)) (.cells #[] 3)
        rw [e1] at h2
        exact h2
      exact ⟨own_empty h1 (by omega), (HRD.out.below (hb0.trans (hbB.mono (by omega)))).src⟩
    have HBB : Hid (Below ((w.alloc (.cells #[.int .i64 op, .int .i64 a, .int .i64 n, .string s, .slice ps set.length cps, .slice p len cap] 32)).alloc (.cells #[.int .i64 0, .int .i64 0, .int .i64 0, .string ⟨#[]⟩, .slice none 0 0, .slice none 0 0] 32)).heap.size ((w.alloc (.cells #[.int .i64 op, .int .i64 a, .int .i64 n, .string s, .slice ps set.length cps, .slice p len cap] 32)).alloc (.cells #[.int .i64 0, .int .i64 0, .int .i64 0, .string ⟨#[]⟩, .slice none 0 0, .slice none 0 0] 32)) (((((w.alloc (.cells #[.int .i64 op, .int .i64 a, .int .i64 n, .string s, .slice ps set.length cps, .slice p len cap] 32)).alloc (.cells #[.int .i64 0, .int .i64 0, .int .i64 0, .string ⟨#[]⟩, .slice none 0 0, .slice none 0 0] 32)).alloc (.cells #[.int .i64 0, .int .i64 0, .int .i64 0, .string ⟨#[]⟩, .slice none 0 0, .slice none 0 0] 32)).alloc (.cells #[] 3)).drew) ∧ ((w.alloc (.cells #[.int .i64 op, .int .i64 a, .int .i64 n, .string s, .slice ps set.length cps, .slice p len cap] 32)).alloc (.cells #[.int .i64 0, .int .i64 0, .int .i64 0, .string ⟨#[]⟩, .slice none 0 0, .slice none 0 0] 32)).heap.size ≤ w.heap.size + 1 + 1 + 1) := ⟨hbB, by rw [e0]; omega⟩
    have hbC : Below ((w.alloc (.cells #[.int .i64 op, .int .i64 a, .int .i64 n, .string s, .slice ps set.length cps, .slice p len cap] 32)).alloc (.cells #[.int .i64 0, .int .i64 0, .int .i64 0, .string ⟨#[]⟩, .slice none 0 0, .slice none 0 0] 32)).heap.size ((w.alloc (.cells #[.int .i64 op, .int .i64 a, .int .i64 n, .string s, .slice ps set.length cps, .slice p len cap] 32)).alloc (.cells #[.int .i64 0, .int .i64 0, .int .i64 0, .string ⟨#[]⟩, .slice none 0 0, .slice none 0 0] 32)) (((((w.alloc (.cells #[.int .i64 op, .int .i64 a, .int .i64 n, .string s, .slice ps set.length cps, .slice p len cap] 32)).alloc (.cells #[.int .i64 0, .int .i64 0, .int .i64 0, .string ⟨#[]⟩, .slice none 0 0, .slice none 0 0] 32)).alloc (.cells #[] 3)).alloc (.cells #[.int .i64 0, .int .i64 0, .int .i64 0, .string ⟨#[]⟩, .slice none 0 0, .slice none 0 0] 32)).drew) := ((newx _ _).trans ((newx _ _).mono (by rw [e1]; omega))).drew
    have HOC : Hid ((((((w.alloc (.cells #[.int .i64 op, .int .i64 a, .int .i64 n, .string s, .slice ps set.length cps, .slice p len cap] 32)).alloc (.cells #[.int .i64 0, .int .i64 0, .int .i64 0, .string ⟨#[]⟩, .slice none 0 0, .slice none 0 0] 32)).alloc (.cells #[] 3)).alloc (.cells #[.int .i64 0, .int .i64 0, .int .i64 0, .string ⟨#[]⟩, .slice none 0 0, .slice none 0 0] 32)).drew).ownsRow (w.heap.size + 2) 3 1 (.slice (some ⟨w.heap.size + 1 + 1, 0, none⟩) 0 0) 0 [] ∧ (ps = none → set.length = 0 ∧ cps = 0) ∧ ∀ ad, ps = some ad → ∀ j u, (set.map (Value.int .i64))[j]? = some u → (((((w.alloc (.cells #[.int .i64 op, .int .i64 a, .int .i64 n, .string s, .slice ps set.length cps, .slice p len cap] 32)).alloc (.cells #[.int .i64 0, .int .i64 0, .int .i64 0, .string ⟨#[]⟩, .slice none 0 0, .slice none 0 0] 32)).alloc (.cells #[] 3)).alloc (.cells #[.int .i64 0, .int .i64 0, .int .i64 0, .string ⟨#[]⟩, .slice none 0 0, .slice none 0 0] 32)).drew).cell? (ad.add j) = some u) := by
      have h1 : (((((w.alloc (.cells #[.int .i64 op, .int .i64 a, .int .i64 n, .string s, .slice ps set.length cps, .slice p len cap] 32)).alloc (.cells #[.int .i64 0, .int .i64 0, .int .i64 0, .string ⟨#[]⟩, .slice none 0 0, .slice none 0 0] 32)).alloc (.cells #[] 3)).alloc (.cells #[.int .i64 0, .int .i64 0, .int .i64 0, .string ⟨#[]⟩, .slice none 0 0, .slice none 0 0] 32)).drew).heap[w.heap.size + 1 + 1]? = some (.cells #[] 3 (0, 0)) := by
        have h2 := heap_alloc_new ((w.alloc (.cells #[.int .i64 op, .int .i64 a, .int .i64 n, .string s, .slice ps set.length cps, .slice p len cap] 32)).alloc (.cells #[.int .i64 0, .int .i64 0, .int .i64 0, .string ⟨#[]⟩, .slice none 0 0, .slice none 0 0] 32)) (.cells #[] 3)
        rw [e0] at h2
        exact (Below.heap_alloc _ _ _ (by rw [e1]; omega)).trans h2
      exact ⟨own_empty h1 (by omega), (HRD.out.below (hb0.trans (hbC.mono (by omega)))).src⟩
    have HBC : Hid (Below ((w.alloc (.cells #[.int .i64 op, .int .i64 a, .int .i64 n, .string s, .slice ps set.length cps, .slice p len cap] 32)).alloc (.cells #[.int .i64 0, .int .i64 0, .int .i64 0, .string ⟨#[]⟩, .slice none 0 0, .slice none 0 0] 32)).heap.size ((w.alloc (.cells #[.int .i64 op, .int .i64 a, .int .i64 n, .string s, .slice ps set.length cps, .slice p len cap] 32)).alloc (.cells #[.int .i64 0, .int .i64 0, .int .i64 0, .string ⟨#[]⟩, .slice none 0 0, .slice none 0 0] 32)) (((((w.alloc (.cells #[.int .i64 op, .int .i64 a, .int .i64 n, .string s, .slice ps set.length cps, .slice p len cap] 32)).alloc (.cells #[.int .i64 0, .int .i64 0, .int .i64 0, .string ⟨#[]⟩, .slice none 0 0, .slice none 0 0] 32)).alloc (.cells #[] 3)).alloc (.cells #[.int .i64 0, .int .i64 0, .int .i64 0, .string ⟨#[]⟩, .slice none 0 0, .slice none 0 0] 32)).drew) ∧ ((w.alloc (.cells #[.int .i64 op, .int .i64 a, .int .i64 n, .string s, .slice ps set.length cps, .slice p len cap] 32)).alloc (.cells #[.int .i64 0, .int .i64 0, .int .i64 0, .string ⟨#[]⟩, .slice none 0 0, .slice none 0 0] 32)).heap.size ≤ w.heap.size + 1 + 1) := ⟨hbC, by rw [e0]; omega⟩
    have H6B : Hid (Six (((((w.alloc (.cells #[.int .i64 op, .int .i64 a, .int .i64 n, .string s, .slice ps set.length cps, .slice p len cap] 32)).alloc (.cells #[.int .i64 0, .int .i64 0, .int .i64 0, .string ⟨#[]⟩, .slice none 0 0, .slice none 0 0] 32)).alloc (.cells #[.int .i64 0, .int .i64 0, .int .i64 0, .string ⟨#[]⟩, .slice none 0 0, .slice none 0 0] 32)).alloc (.cells #[] 3)).drew) (w.heap.size + 1 + 1) 0 0 0 ⟨#[]⟩ (.slice none 0 0) (.slice none 0 0) 32) := by
      have h2 := heap_alloc_new ((w.alloc (.cells #[.int .i64 op, .int .i64 a, .int .i64 n, .string s, .slice ps set.length cps, .slice p len cap] 32)).alloc (.cells #[.int .i64 0, .int .i64 0, .int .i64 0, .string ⟨#[]⟩, .slice none 0 0, .slice none 0 0] 32)) (.cells #[.int .i64 0, .int .i64 0, .int .i64 0, .string ⟨#[]⟩, .slice none 0 0, .slice none 0 0] 32)
      rw [e0] at h2
      exact (Below.heap_alloc _ _ _ (by rw [e1]; omega)).trans h2
    have H6C : Hid (Six (((((w.alloc (.cells #[.int .i64 op, .int .i64 a, .int .i64 n, .string s, .slice ps set.length cps, .slice p len cap] 32)).alloc (.cells #[.int .i64 0, .int .i64 0, .int .i64 0, .string ⟨#[]⟩, .slice none 0 0, .slice none 0 0] 32)).alloc (.cells #[] 3)).alloc (.cells #[.int .i64 0, .int .i64 0, .int .i64 0, .string ⟨#[]⟩, .slice none 0 0, .slice none 0 0] 32)).drew) (w.heap.size + 1 + 1 + 1) 0 0 0 ⟨#[]⟩ (.slice none 0 0) (.slice none 0 0) 32) := by
      have h2 := heap_alloc_new (((w.alloc (.cells #[.int .i64 op, .int .i64 a, .int .i64 n, .string s, .slice ps set.length cps, .slice p len cap] 32)).alloc (.cells #[.int .i64 0, .int .i64 0, .int .i64 0, .string ⟨#[]⟩, .slice none 0 0, .slice none 0 0] 32)).alloc (.cells #[] 3)) (.cells #[.int .i64 0, .int .i64 0, .int .i64 0, .string ⟨#[]⟩, .slice none 0 0, .slice none 0 0] 32)
      rw [e1] at h2
      exact h2
    have HA6 : Hid (Six ((w.alloc (.cells #[.int .i64 op, .int .i64 a, .int .i64 n, .string s, .slice ps set.length cps, .slice p len cap] 32)).alloc (.cells #[.int .i64 0, .int .i64 0, .int .i64 0, .string ⟨#[]⟩, .slice none 0 0, .slice none 0 0] 32)) w.heap.size op a n s (.slice ps set.length cps) (.slice p len cap) 32) := (Below.heap_alloc _ _ _ (by simp)).trans (heap_alloc_new w _)
    have HLM : Hid ((set.map (Value.int .i64)).length = set.length * 1) := by show _ = _; simp
    have HL1 : Hid (0 + set.length ≤ maxLen) := by show _ ≤ _; unfold maxLen; omega
    have HL2 : Hid ((0 + set.length) * 8 ≤ 140737488355328) := by show _ ≤ _; omega
    have HSZA : Hid (w.heap.size + 2 ≤ ((((w.alloc (.cells #[.int .i64 op, .int .i64 a, .int .i64 n, .string s, .slice ps set.length cps, .slice p len cap] 32)).alloc (.cells #[.int .i64 0, .int .i64 0, .int .i64 0, .string ⟨#[]⟩, .slice none 0 0, .slice none 0 0] 32)).alloc (.cells #[] 3)).drew).heap.size) := by show _ ≤ _; simp
    have HSZB : Hid (w.heap.size + 2 ≤ (((((w.alloc (.cells #[.int .i64 op, .int .i64 a, .int .i64 n, .string s, .slice ps set.length cps, .slice p len cap] 32)).alloc (.cells #[.int .i64 0, .int .i64 0, .int .i64 0, .string ⟨#[]⟩, .slice none 0 0, .slice none 0 0] 32)).alloc (.cells #[.int .i64 0, .int .i64 0, .int .i64 0, .string ⟨#[]⟩, .slice none 0 0, .slice none 0 0] 32)).alloc (.cells #[] 3)).drew).heap.size) := by show _ ≤ _; simp
    have HSZC : Hid (w.heap.size + 2 ≤ (((((w.alloc (.cells #[.int .i64 op, .int .i64 a, .int .i64 n, .string s, .slice ps set.length cps, .slice p len cap] 32)).alloc (.cells #[.int .i64 0, .int .i64 0, .int .i64 0, .string ⟨#[]⟩, .slice none 0 0, .slice none 0 0] 32)).alloc (.cells #[] 3)).alloc (.cells #[.int .i64 0, .int .i64 0, .int .i64 0, .string ⟨#[]⟩, .slice none 0 0, .slice none 0 0] 32)).drew).heap.size) := by show _ ≤ _; simp
    clear hbA hbB hbC hb0 e0 e1
    go_enter Tryz.func35, Tryz.ntmps35
    go_upto_region 1 with fail
    go_cut [3] from 5 (fun v5 wx => ∃ (O B : Nat) (sv : Value), v5 = .pointer (some ⟨O, 0, none⟩) ∧ XLoop [] w wx B w.heap.size (w.heap.size + 1) O (.cells #[.int .i64 op, .int .i64 a, .int .i64 n, .string s, .slice ps set.length cps, .slice p len cap] 32) op a n s set sv kid 0 (.slice none 0 0) [] [])
    case first =>
      go_region_held3 (fun w' => w'.cell? ⟨w.heap.size, 0, none⟩ = some (.int .i64 op) ∧ w'.cell? ⟨w.heap.size, 1, none⟩ = some (.int .i64 a) ∧ w'.cell? ⟨w.heap.size, 2, none⟩ = some (.int .i64 n) ∧ w'.cell? ⟨w.heap.size, 3, none⟩ = some (.string s) ∧ w'.cell? ⟨w.heap.size, 4, none⟩ = some (.slice ps set.length cps)) (first | go_keep | (with_reducible exact hS4) | (with_reducible exact hSP)) (first
        | (refine step_append_any rfl (.tmp 13) (.tmp 15) 27 rfl (w.heap.size + 2) 3 iI (.int .i64 0) 1 8 Tryz.underlying27 hiI hzI0 hzI1 hzI2 rfl Nat.one_pos (.slice (some ⟨w.heap.size + 1 + 1, 0, none⟩) 0 0) 0 [] rfl ?_ ps set.length cps (set.map (Value.int .i64)) rfl HLM.out HOA.out.2.1 ?_ (ints_cells set) HL1.out HL2.out ?_ ?_; (with_reducible exact HOA.out.1); (with_reducible exact HOA.out.2.2); exact HSZA.out; intro v' w4 hown4 hg4; have hR := own_grown HBA.out.1 HBA.out.2 hown4.out hg4.out; obtain ⟨pv, cv, hv⟩ := own_shape hR.1; subst hv; have hA4 := HA6.out.below hR.2; have hS4 := five_of hA4; clear hA4; have HEND : Hid (∃ (O B : Nat) (sv : Value), Value.pointer (some ⟨w4.heap.size, 0, none⟩) = .pointer (some ⟨O, 0, none⟩) ∧ XLoop [] w (w4.alloc (.cells #[.int .i64 op, .int .i64 a, .int .i64 n, .string s, .slice pv set.length cv, .slice none 0 0] 32)) B w.heap.size (w.heap.size + 1) O (.cells #[.int .i64 op, .int .i64 a, .int .i64 n, .string s, .slice ps set.length cps, .slice p len cap] 32) op a n s set sv kid 0 (.slice none 0 0) [] []) := pt_ex (start_alloc _ hR.2 hR.1); clear hown4 hg4 hR)
        | (refine step_append_any rfl (.tmp 13) (.tmp 15) 27 rfl (w.heap.size + 2) 3 iI (.int .i64 0) 1 8 Tryz.underlying27 hiI hzI0 hzI1 hzI2 rfl Nat.one_pos (.slice (some ⟨w.heap.size + 1 + 1 + 1, 0, none⟩) 0 0) 0 [] rfl ?_ ps set.length cps (set.map (Value.int .i64)) rfl HLM.out HOA.out.2.1 ?_ (ints_cells set) HL1.out HL2.out ?_ ?_; (with_reducible exact HOB.out.1); (with_reducible exact HOB.out.2.2); exact HSZB.out; intro v' w4 hown4 hg4; have hR := own_grown HBB.out.1 HBB.out.2 hown4.out hg4.out; obtain ⟨pv, cv, hv⟩ := own_shape hR.1; subst hv; have hA4 := HA6.out.below hR.2; have hS4 := five_of hA4; have hSP := five_of (six_put (g := w.heap.size + 1 + 1) hA4 op a n s (.slice pv set.length cv) (.slice none 0 0) (by omega)); clear hA4; have h6 := H6B.out.grown hg4.out (by omega); obtain ⟨q0, q1, q2, q3, q4, q5⟩ := h6.cells; have qf := h6.fr; have HEND : Hid (∃ (O B : Nat) (sv : Value), Value.pointer (some ⟨w.heap.size + 1 + 1, 0, none⟩) = .pointer (some ⟨O, 0, none⟩) ∧ XLoop [] w (put6 w4 (w.heap.size + 1 + 1) op a n s (.slice pv set.length cv) (.slice none 0 0)) B w.heap.size (w.heap.size + 1) O (.cells #[.int .i64 op, .int .i64 a, .int .i64 n, .string s, .slice ps set.length cps, .slice p len cap] 32) op a n s set sv kid 0 (.slice none 0 0) [] []) := pt_ex (start_put _ hR.2 hR.1 (by omega) h6 (own_ne6 hR.1 h6)); clear h6; clear hown4 hg4 hR)
        | (refine step_append_any rfl (.tmp 13) (.tmp 15) 27 rfl (w.heap.size + 2) 3 iI (.int .i64 0) 1 8 Tryz.underlying27 hiI hzI0 hzI1 hzI2 rfl Nat.one_pos (.slice (some ⟨w.heap.size + 1 + 1, 0, none⟩) 0 0) 0 [] rfl ?_ ps set.length cps (set.map (Value.int .i64)) rfl HLM.out HOA.out.2.1 ?_ (ints_cells set) HL1.out HL2.out ?_ ?_; (with_reducible exact HOC.out.1); (with_reducible exact HOC.out.2.2); exact HSZC.out; intro v' w4 hown4 hg4; have hR := own_grown HBC.out.1 HBC.out.2 hown4.out hg4.out; obtain ⟨pv, cv, hv⟩ := own_shape hR.1; subst hv; have hA4 := HA6.out.below hR.2; have hS4 := five_of hA4; have hSP := five_of (six_put (g := w.heap.size + 1 + 1 + 1) hA4 op a n s (.slice pv set.length cv) (.slice none 0 0) (by omega)); clear hA4; have h6 := H6C.out.grown hg4.out (by omega); obtain ⟨q0, q1, q2, q3, q4, q5⟩ := h6.cells; have qf := h6.fr; have HEND : Hid (∃ (O B : Nat) (sv : Value), Value.pointer (some ⟨w.heap.size + 1 + 1 + 1, 0, none⟩) = .pointer (some ⟨O, 0, none⟩) ∧ XLoop [] w (put6 w4 (w.heap.size + 1 + 1 + 1) op a n s (.slice pv set.length cv) (.slice none 0 0)) B w.heap.size (w.heap.size + 1) O (.cells #[.int .i64 op, .int .i64 a, .int .i64 n, .string s, .slice ps set.length cps, .slice p len cap] 32) op a n s set sv kid 0 (.slice none 0 0) [] []) := pt_ex (start_put _ hR.2 hR.1 (by omega) h6 (own_ne6 hR.1 h6)); clear h6; clear hown4 hg4 hR))
      all_goals
        go_wp2_with fail
        go_meet
        exact HEND.out
    case rest =>
      obtain ⟨O, B0, sv0, rfl, hL0⟩ := hcut
      have H00 : Hid (XLoop [] w wc B0 w.heap.size (w.heap.size + 1) O (.cells #[.int .i64 op, .int .i64 a, .int .i64 n, .string s, .slice ps set.length cps, .slice p len cap] 32) op a n s set sv0 kid 0 (.slice none 0 0) [] []) := hL0
      clear hL0 HOA HOB HOC HBA HBB HBC H6B H6C HA6 HSZA HSZB HSZC HLM HL1 HL2
      obtain ⟨C, hC⟩ : ∃ C, C = w.heap.size := ⟨_, rfl⟩
      obtain ⟨R, hR⟩ : ∃ R, R = w.heap.size + 1 := ⟨_, rfl⟩
      have HH0 : Hid (XLoop [] w wc B0 C R O (.cells #[.int .i64 op, .int .i64 a, .int .i64 n, .string s, .slice ps set.length cps, .slice p len cap] 32) op a n s set sv0 kid 0 (.slice none 0 0) [] []) := by
        show XLoop _ _ _ _ _ _ _ _ _ _ _ _ _ _ _ _ _ _ _
        rw [hR, hC]; exact H00.out
      clear H00
      rw [← hR, ← hC]
      have hCO : C ≠ O := HH0.out.ord.2.2.2.2.2.2.2.1
      have hRO : R ≠ O := HH0.out.ord.2.2.2.2.2.2.2.2
      clear hC hR
      go_wp2_with fail
      go_loopw [4] (fun v4 wr => ∃ (k : Nat) (lv : Value) (la : List XR) (SS : List (List Nat)), v4 = .int .i64 k ∧ k ≤ len ∧ XLoop [] w wr B0 C R O (.cells #[.int .i64 op, .int .i64 a, .int .i64 n, .string s, .slice ps set.length cps, .slice p len cap] 32) op a n s set sv0 kid k lv la SS) (fun v4 _ => len - (intOf v4).toNat)
      case atStart => exact ⟨0, _, _, _, rfl, Nat.zero_le _, HH0.out⟩
      case round =>
        obtain ⟨k, lv, la, SS, rfl, hk, hL⟩ := hrel
        have HL : Hid (XLoop [] w wr B0 C R O (.cells #[.int .i64 op, .int .i64 a, .int .i64 n, .string s, .slice ps set.length cps, .slice p len cap] 32) op a n s set sv0 kid k lv la SS) := hL
        have hA : Six wr C op a n s (.slice ps set.length cps) (.slice p len cap) 32 := hL.arg
        have a4 := hA.cells.2.2.2.2.2
        obtain ⟨o0, o1, o2, o3, o4, o5⟩ := hL.out.cells
        clear hL HH0
        by_cases hkl : (k : Int) < len
        · obtain ⟨b, o, ux, u, hp, hd, hinu⟩ := HAT.out k (by omega)
          subst hp
          obtain ⟨c0, c1, c2, c3, c4, c5⟩ := hd.below HL.out.bel.toBelow
          have HIN : Hid ((kid k).At 0 wr.drew ux u) := X.At.below (Below.refl _ wr).drew (X.At.below HL.out.bel.toBelow hinu)
          have HKL : Hid (k < len) := by show k < len; omega
          have HOWN : Hid (wr.ownsRow 0 32 6 lv k (xrows la)) := HL.out.rows.own
          have hOl : O < wr.heap.size := HL.out.out.lt
          have hCl : C < wr.heap.size := hA.lt
          have hbl : b < wr.heap.size := World.block_lt_of_cell? wr _ c0
          clear hd hinu hA
          have hki0 : (0 : Int) ≤ (k : Int) := by omega
          have HCF : Hid (∀ (vs : Array Value) (w : World), (callFunc 35 vs).run Tryz.prog w = .ok (.enter 35 vs) w) := fun vs w => copyX_enter vs w
          go_wp2_with fail
          go_region_law
            (first
              | (refine step_call1 rfl 35 (.tmp 31) 32 rfl HCF.out (.agg #[.int .i64 (kid k).op, .int .i64 (kid k).at_, .int .i64 (kid k).n, .string (kid k).s, ux, u]) rfl _ (IH.out k HKL.out wr.drew ux u HIN.out) ?_; rintro e w1 ⟨su', v', T, rfl, hb1, hd1, hn1, hT1⟩; refine ⟨_, rfl, ?_⟩; have HC1 : Hid (Below wr.heap.size wr w1 ∧ XOwn w1 (kid k) su' v' T ∧ T.Nodup ∧ ∀ x ∈ T, wr.heap.size ≤ x) := ⟨⟨hb1.os, hb1.tape, hb1.output, hb1.size, hb1.block⟩, hd1, hn1, hT1⟩; obtain ⟨pv, cv, hv'⟩ := hd1.at0.xs.shape; obtain ⟨pw, cw, hw'⟩ := hd1.at0.sets.shape; subst hv' hw'; have z4 : w1.cell? ⟨O, 5, none⟩ = some lv := (HC1.out.1.cell (by exact hOl)).trans o5; have z5 : ∀ ob, (w1.alloc ob).cell? ⟨O, 5, none⟩ = some lv := fun ob => ((newx w1 ob).cell (by exact Nat.lt_of_lt_of_le hOl HC1.out.1.size)).trans z4; have y4 : w1.cell? ⟨C, 5, none⟩ = some (.slice (some ⟨b, o, none⟩) len cap) := (HC1.out.1.cell (by exact hCl)).trans a4; have HO1 : Hid (w1.ownsRow 0 32 6 lv k (xrows la)) := own_belowX HOWN.out HC1.out.1; clear hb1 hd1 hn1 hT1)
              | (refine step_append_lies _ (by rfl) _ _ _ (by rfl) 0 32 i0 _ 6 88 Tryz.underlying30 hi0 hz0 hz1 hz2 rfl (by omega) lv k (xrows la) (by rfl) (HO1.out.alloc _) ⟨w1.heap.size, 0, none⟩ 1 1 [.int .i64 (kid k).op, .int .i64 (kid k).at_, .int .i64 (kid k).n, .string (kid k).s, .slice pw (kid k).set.length cw, .slice pv (kid k).len cv] (by rfl) (by rfl) (World.news_of_block (cs := #[.int .i64 (kid k).op, .int .i64 (kid k).at_, .int .i64 (kid k).n, .string (kid k).s, .slice pw (kid k).set.length cw, .slice pv (kid k).len cv]) (t := 32) (fr := (0, 0)) (heap_alloc_new w1 _)) (by simp [Value.oneCell']) (by omega) (by unfold maxLen; omega) (by omega) (Nat.zero_le _) (w1.heap.size + 1) (by simp) ?_; intro gg cap3 w3 hown3 hgrow hat hlt3; obtain ⟨hO3, hnx⟩ := HL.out.next (Fr.below HC1.out.1 []) HC1.out.2.1 HC1.out.2.2.1 HC1.out.2.2.2 (by rw [copyX_cells]; exact hown3) hgrow hat; have HNX : Hid (XLoop [] w (w3.setCell ⟨O, 5, none⟩ (.slice (some ⟨gg, 0, none⟩) (k + 1) cap3)) B0 C R O (.cells #[.int .i64 op, .int .i64 a, .int .i64 n, .string s, .slice ps set.length cps, .slice (some ⟨b, o, none⟩) len cap] 32) op a n s set sv0 kid (k + 1) (.slice (some ⟨gg, 0, none⟩) (k + 1) cap3) (la ++ [(kid k, .slice pw (kid k).set.length cw, .slice pv (kid k).len cv)]) (SS ++ [T])) := hnx; have x4 : w3.cell? ⟨O, 5, none⟩ = some lv := (World.cell?_of_block (a := ⟨O, 5, none⟩) hO3).trans o5; have xf : w3.frozen? ⟨O, 5, none⟩ = false := (World.frozen?_of_block (a := ⟨O, 5, none⟩) hO3).trans (HL.out.out.fr 5); clear hO3 hnx hown3 hgrow hat hlt3))
          all_goals
            go_wp2_with fail
            go_roundw
            case rel => exact ⟨k + 1, _, _, _, by go_num, by omega, HNX.out⟩
            case measure => simp [intOf]; omega
        · obtain rfl : k = len := by omega
          obtain ⟨r0, r1, r2, r3, r4, r5⟩ := HL.out.res.cells
          have rf := HL.out.res.fr
          obtain ⟨hfr, S, hX, hSn, hSg⟩ := HL.out.done ⟨HPL.out.1, HPL.out.2, HYL.out⟩
          obtain ⟨pv, cv, hlv⟩ := hX.at0.xs.shape
          obtain ⟨pw, cw, hsv⟩ := hX.at0.sets.shape
          simp only [X.len, X.set] at hlv hsv
          subst hlv hsv
          have HS : Hid (Fr [] w (put6 wr R op a n s (.slice pw set.length cw) (.slice pv k cv)) ∧ XOwn (put6 wr R op a n s (.slice pw set.length cw) (.slice pv k cv)) (.mk op a n s set k kid) (.slice pw set.length cw) (.slice pv k cv) S ∧ S.Nodup ∧ ∀ x ∈ S, w.heap.size ≤ x) := ⟨hfr, hX, hSn, hSg⟩
          clear hfr hX hSn hSg HL HAT IH
          go_wp2_with fail
          refine bodyPost_ret (v := .agg #[.int .i64 op, .int .i64 a, .int .i64 n, .string s, .slice pw set.length cw, .slice pv k cv]) (by rw [results_cellX (p := 2) (ty := 32) (by kernel_rfl)]; simp [go_sem, r0, r1, r2, r3, r4, r5]) rfl ⟨_, _, rfl, HS.out.1.toBelow, S, HS.out.2.1, HS.out.2.2.1, HS.out.2.2.2⟩
end Go.Proofs.YtgbfflpdpfgnbaaGreat

/- spec.FlipAll. Condition: at most 2^20 of it. -/
namespace Go.Proofs.YtgbfflpdpfgnbaaGreat
open Go.ChangeShapes Go.WideShapes Go.ChangeAt Go.RowKit

def SpecflipAt (m : Int) (t : X) : Prop := ∀ (w : World) (sv v : Value), t.At 0 w sv v → t.weight ≤ 1048576 → Calls Tryz.prog 15 #[.agg #[.int .i64 t.op, .int .i64 t.at_, .int .i64 t.n, .string t.s, sv, v], .int .i64 m] w fun e w' =>
  ∃ su u S, e = .returned (.agg #[.int .i64 t.op, .int .i64 t.at_, .int .i64 t.n, .string t.s, su, u]) ∧ Below w.heap.size w w' ∧ XOwn w' (t.flip m) su u S ∧ S.Nodup ∧ ∀ x ∈ S, w.heap.size ≤ x

theorem specflip_enter (vs : Array Value) (w : World) : (callFunc 15 vs).run Tryz.prog w = .ok (.enter 15 vs) w := by kernel_rfl
theorem flip_cells (m : Int) (d : X) (su v : Value) : xcells (d.flip m, su, v) = [.int .i64 d.op, .int .i64 d.at_, .int .i64 d.n, .string d.s, su, v] := by cases d <;> rfl

set_option maxRecDepth 100000 in
set_option maxHeartbeats 4000000 in
theorem spec_flip_all (m : Int) (t : X) : SpecflipAt m t := by
  induction t with
  | no => intro w sv v h; exact h.elim
  | mk op a n s set len kid ih =>
    intro w sv v hin hwt
    obtain ⟨i0, hi0, hz0, hz1, hz2⟩ := info_parts stx_info
    obtain ⟨iI, hiI, hzI0, hzI1, hzI2⟩ := info_parts int_info
    have hsl : XsAt 0 w len kid v := hin.xs
    have hss : SetB 0 w sv set := hin.sets
    have HPL : Hid (s.size ≤ maxLen ∧ -9223372036854775808 ≤ n ∧ n ≤ 9223372036854775807) := ⟨hin.size, hin.num⟩
    obtain ⟨p, cap, rfl, -, hat⟩ := hsl.at
    obtain ⟨ps, cps, hsv⟩ := hss.shape
    subst hsv
    have hwe : (X.mk op a n s set len kid).weight = s.size + (set.length + (len + sumX (fun i => (kid i).weight) len)) := rfl
    have hlen : len ≤ 1048576 := by omega
    have hsl2 : set.length ≤ 1048576 := by omega
    have HRD : Hid (Rd w (.slice ps set.length cps) set) := hss.rd
    have IH : Hid (∀ i, i < len → ∀ (w : World) (sv v : Value), (kid i).At 0 w sv v → Calls Tryz.prog 15 #[.agg #[.int .i64 (kid i).op, .int .i64 (kid i).at_, .int .i64 (kid i).n, .string (kid i).s, sv, v], .int .i64 m] w fun e w' =>
      ∃ su u S, e = .returned (.agg #[.int .i64 (kid i).op, .int .i64 (kid i).at_, .int .i64 (kid i).n, .string (kid i).s, su, u]) ∧ Below w.heap.size w w' ∧ XOwn w' ((kid i).flip m) su u S ∧ S.Nodup ∧ ∀ x ∈ S, w.heap.size ≤ x) := fun i hi w sv v h => ih i w sv v h (by
        have h1 := sumX_at (fun i => (kid i).weight) i len hi
        omega)
    have HAT : Hid (∀ i, i < len → ∃ b o su u, p = some ⟨b, o, none⟩ ∧ Head6 w b (o + i * 6) (kid i) su u ∧ (kid i).At 0 w su u) := hat
    obtain ⟨Y, hY⟩ : ∃ Y, Y = (if op = 2 then flipL set m else set) := ⟨_, rfl⟩
    have HY : Hid ((X.mk op a n s set len kid).flip m = .mk op a n s Y len (fun i => (kid i).flip m)) := by show _ = _; rw [hY]; rfl
    have HYL : Hid (Y.length ≤ maxLen) := by
      show _ ≤ _
      rw [hY]
      have := flip_len set m
      by_cases h : op = 2
      · rw [if_pos h]; unfold maxLen; omega
      · rw [if_neg h]; unfold maxLen; omega
    simp only [X.op, X.at_, X.n, X.s]
    rw [HY.out]
    clear hin hsl ih hat hwe hwt hss
    have e0 : ((w.alloc (.cells #[.int .i64 op, .int .i64 a, .int .i64 n, .string s, .slice ps set.length cps, .slice p len cap] 32)).alloc (.cells #[.int .i64 0, .int .i64 0, .int .i64 0, .string ⟨#[]⟩, .slice none 0 0, .slice none 0 0] 32)).heap.size = w.heap.size + 2 := by simp
    have e1 : ∀ ob, (((w.alloc (.cells #[.int .i64 op, .int .i64 a, .int .i64 n, .string s, .slice ps set.length cps, .slice p len cap] 32)).alloc (.cells #[.int .i64 0, .int .i64 0, .int .i64 0, .string ⟨#[]⟩, .slice none 0 0, .slice none 0 0] 32)).alloc ob).heap.size = w.heap.size + 1 + 1 + 1 := fun ob => by simp
    have hb0 : Below w.heap.size w ((w.alloc (.cells #[.int .i64 op, .int .i64 a, .int .i64 n, .string s, .slice ps set.length cps, .slice p len cap] 32)).alloc (.cells #[.int .i64 0, .int .i64 0, .int .i64 0, .string ⟨#[]⟩, .slice none 0 0, .slice none 0 0] 32)) := (newx w _).trans ((newx _ _).mono (by simp))
    have hbA : Below ((w.alloc (.cells #[.int .i64 op, .int .i64 a, .int .i64 n, .string s, .slice ps set.length cps, .slice p len cap] 32)).alloc (.cells #[.int .i64 0, .int .i64 0, .int .i64 0, .string ⟨#[]⟩, .slice none 0 0, .slice none 0 0] 32)).heap.size ((w.alloc (.cells #[.int .i64 op, .int .i64 a, .int .i64 n, .string s, .slice ps set.length cps, .slice p len cap] 32)).alloc (.cells #[.int .i64 0, .int .i64 0, .int .i64 0, .string ⟨#[]⟩, .slice none 0 0, .slice none 0 0] 32)) ((((w.alloc (.cells #[.int .i64 op, .int .i64 a, .int .i64 n, .string s, .slice ps set.length cps, .slice p len cap] 32)).alloc (.cells #[.int .i64 0, .int .i64 0, .int .i64 0, .string ⟨#[]⟩, .slice none 0 0, .slice none 0 0] 32)).alloc (.cells #[] 3)).drew) := (newx _ _).drew
    have HOA : Hid (((((w.alloc (.cells #[.int .i64 op, .int .i64 a, .int .i64 n, .string s, .slice ps set.length cps, .slice p len cap] 32)).alloc (.cells #[.int .i64 0, .int .i64 0, .int .i64 0, .string ⟨#[]⟩, .slice none 0 0, .slice none 0 0] 32)).alloc (.cells #[] 3)).drew).ownsRow (w.heap.size + 2) 3 1 (.slice (some ⟨w.heap.size + 1 + 1, 0, none⟩) 0 0) 0 [] ∧ (ps = none → set.length = 0 ∧ cps = 0) ∧ ∀ ad, ps = some ad → ∀ j u, (set.map (Value.int .i64))[j]? = some u → ((((w.alloc (.cells #[.int .i64 op, .int .i64 a, .int .i64 n, .string s, .slice ps set.length cps, .slice p len cap] 32)).alloc (.cells #[.int .i64 0, .int .i64 0, .int .i64 0, .string ⟨#[]⟩, .slice none 0 0, .slice none 0 0] 32)).alloc (.cells #[] 3)).drew).cell? (ad.add j) = some u) := by
      have h1 : ((((w.alloc (.cells #[.int .i64 op, .int .i64 a, .int .i64 n, .string s, .slice ps set.length cps, .slice p len cap] 32)).alloc (.cells #[.int .i64 0, .int .i64 0, .int .i64 0, .string ⟨#[]⟩, .slice none 0 0, .slice none 0 0] 32)).alloc (.cells #[] 3)).drew).heap[w.heap.size + 1 + 1]? = some (.cells #[] 3 (0, 0)) := by
        have h2 := heap_alloc_new ((w.alloc (.cells #[.int .i64 op, .int .i64 a, .int .i64 n, .string s, .slice ps set.length cps, .slice p len cap] 32)).alloc (.cells #[.int .i64 0, .int .i64 0, .int .i64 0, .string ⟨#[]⟩, .slice none 0 0, .slice none 0 0] 32)) (.cells #[] 3)
        rw [e0] at h2
        exact h2
      exact ⟨own_empty h1 (by omega), (HRD.out.below (hb0.trans (hbA.mono (by omega)))).src⟩
    have HBA : Hid (Below ((w.alloc (.cells #[.int .i64 op, .int .i64 a, .int .i64 n, .string s, .slice ps set.length cps, .slice p len cap] 32)).alloc (.cells #[.int .i64 0, .int .i64 0, .int .i64 0, .string ⟨#[]⟩, .slice none 0 0, .slice none 0 0] 32)).heap.size ((w.alloc (.cells #[.int .i64 op, .int .i64 a, .int .i64 n, .string s, .slice ps set.length cps, .slice p len cap] 32)).alloc (.cells #[.int .i64 0, .int .i64 0, .int .i64 0, .string ⟨#[]⟩, .slice none 0 0, .slice none 0 0] 32)) ((((w.alloc (.cells #[.int .i64 op, .int .i64 a, .int .i64 n, .string s, .slice ps set.length cps, .slice p len cap] 32)).alloc (.cells #[.int .i64 0, .int .i64 0, .int .i64 0, .string ⟨#[]⟩, .slice none 0 0, .slice none 0 0] 32)).alloc (.cells #[] 3)).drew) ∧ ((w.alloc (.cells #[.int .i64 op, .int .i64 a, .int .i64 n, .string s, .slice ps set.length cps, .slice p len cap] 32)).alloc (.cells #[.int .i64 0, .int .i64 0, .int .i64 0, .string ⟨#[]⟩, .slice none 0 0, .slice none 0 0] 32)).heap.size ≤ w.heap.size + 1 + 1) := ⟨hbA, by rw [e0]; omega⟩
    have hbB : Below ((w.alloc (.cells #[.int .i64 op, .int .i64 a, .int .i64 n, .string s, .slice ps set.length cps, .slice p len cap] 32)).alloc (.cells #[.int .i64 0, .int .i64 0, .int .i64 0, .string ⟨#[]⟩, .slice none 0 0, .slice none 0 0] 32)).heap.size ((w.alloc (.cells #[.int .i64 op, .int .i64 a, .int .i64 n, .string s, .slice ps set.length cps, .slice p len cap] 32)).alloc (.cells #[.int .i64 0, .int .i64 0, .int .i64 0, .string ⟨#[]⟩, .slice none 0 0, .slice none 0 0] 32)) (((((w.alloc (.cells #[.int .i64 op, .int .i64 a, .int .i64 n, .string s, .slice ps set.length cps, .slice p len cap] 32)).alloc (.cells #[.int .i64 0, .int .i64 0, .int .i64 0, .string ⟨#[]⟩, .slice none 0 0, .slice none 0 0] 32)).alloc (.cells #[.int .i64 0, .int .i64 0, .int .i64 0, .string ⟨#[]⟩, .slice none 0 0, .slice none 0 0] 32)).alloc (.cells #[] 3)).drew) := ((newx _ _).trans ((newx _ _).mono (by rw [e1]; omega))).drew
    have HOB : Hid ((((((w.alloc (.cells #[.int .i64 op, .int .i64 a, .int .i64 n, .string s, .slice ps set.length cps, .slice p len cap] 32)).alloc (.cells #[.int .i64 0, .int .i64 0, .int .i64 0, .string ⟨#[]⟩, .slice none 0 0, .slice none 0 0] 32)).alloc (.cells #[.int .i64 0, .int .i64 0, .int .i64 0, .string ⟨#[]⟩, .slice none 0 0, .slice none 0 0] 32)).alloc (.cells #[] 3)).drew).ownsRow (w.heap.size + 2) 3 1 (.slice (some ⟨w.heap.size + 1 + 1 + 1, 0, none⟩) 0 0) 0 [] ∧ (ps = none → set.length = 0 ∧ cps = 0) ∧ ∀ ad, ps = some ad → ∀ j u, (set.map (Value.int .i64))[j]? = some u → (((((w.alloc (.cells #[.int .i64 op, .int .i64 a, .int .i64 n, .string s, .slice ps set.length cps, .slice p len cap] 32)).alloc (.cells #[.int .i64 0, .int .i64 0, .int .i64 0, .string ⟨#[]⟩, .slice none 0 0, .slice none 0 0] 32)).alloc (.cells #[.int .i64 0, .int .i64 0, .int .i64 0, .string ⟨#[]⟩, .slice none 0 0, .slice none 0 0] 32)).alloc (.cells #[] 3)).drew).cell? (ad.add j) = some u) := by
      have h1 : (((((w.alloc (.cells #[.int .i64 op, .int .i64 a, .int .i64 n, .string s, .slice ps set.length cps, .slice p len cap] 32)).alloc (.cells #[.int .i64 0, .int .i64 0, .int .i64 0, .string ⟨#[]⟩, .slice none 0 0, .slice none 0 0] 32)).alloc (.cells #[.int .i64 0, .int .i64 0, .int .i64 0, .string ⟨#[]⟩, .slice none 0 0, .slice none 0 0] 32)).alloc (.cells #[] 3)).drew).heap[w.heap.size + 1 + 1 + 1]? = some (.cells #[] 3 (0, 0)) := by
        have h2 := heap_alloc_new (((w.alloc (.cells #[.int .i64 op, .int .i64 a, .int .i64 n, .string s, .slice ps set.length cps, .slice p len cap] 32)).alloc (.cells #[.int .i64 0, .int .i64 0, .int .i64 0, .string ⟨#[]⟩, .slice none 0 0, .slice none 0 0] 32)).alloc (.cells #[.int .i64 0, .int .i64 0, .int .i64 0, .string ⟨#[]⟩, .slice none 0 0, .slice none 0 0] 32)) (.cells #[] 3)
        rw [e1] at h2
        exact h2
      exact ⟨own_empty h1 (by omega), (HRD.out.below (hb0.trans (hbB.mono (by omega)))).src⟩
    have HBB : Hid (Below ((w.alloc (.cells #[.int .i64 op, .int .i64 a, .int .i64 n, .string s, .slice ps set.length cps, .slice p len cap] 32)).alloc (.cells #[.int .i64 0, .int .i64 0, .int .i64 0, .string ⟨#[]⟩, .slice none 0 0, .slice none 0 0] 32)).heap.size ((w.alloc (.cells #[.int .i64 op, .int .i64 a, .int .i64 n, .string s, .slice ps set.length cps, .slice p len cap] 32)).alloc (.cells #[.int .i64 0, .int .i64 0, .int .i64 0, .string ⟨#[]⟩, .slice none 0 0, .slice none 0 0] 32)) (((((w.alloc (.cells #[.int .i64 op, .int .i64 a, .int .i64 n, .string s, .slice ps set.length cps, .slice p len cap] 32)).alloc (.cells #[.int .i64 0, .int .i64 0, .int .i64 0, .string ⟨#[]⟩, .slice none 0 0, .slice none 0 0] 32)).alloc (.cells #[.int .i64 0, .int .i64 0, .int .i64 0, .string ⟨#[]⟩, .slice none 0 0, .slice none 0 0] 32)).alloc (.cells #[] 3)).drew) ∧ ((w.alloc (.cells #[.int .i64 op, .int .i64 a, .int .i64 n, .string s, .slice ps set.length cps, .slice p len cap] 32)).alloc (.cells #[.int .i64 0, .int .i64 0, .int .i64 0, .string ⟨#[]⟩, .slice none 0 0, .slice none 0 0] 32)).heap.size ≤ w.heap.size + 1 + 1 + 1) := ⟨hbB, by rw [e0]; omega⟩
    have hbC : Below ((w.alloc (.cells #[.int .i64 op, .int .i64 a, .int .i64 n, .string s, .slice ps set.length cps, .slice p len cap] 32)).alloc (.cells #[.int .i64 0, .int .i64 0, .int .i64 0, .string ⟨#[]⟩, .slice none 0 0, .slice none 0 0] 32)).heap.size ((w.alloc (.cells #[.int .i64 op, .int .i64 a, .int .i64 n, .string s, .slice ps set.length cps, .slice p len cap] 32)).alloc (.cells #[.int .i64 0, .int .i64 0, .int .i64 0, .string ⟨#[]⟩, .slice none 0 0, .slice none 0 0] 32)) (((((w.alloc (.cells #[.int .i64 op, .int .i64 a, .int .i64 n, .string s, .slice ps set.length cps, .slice p len cap] 32)).alloc (.cells #[.int .i64 0, .int .i64 0, .int .i64 0, .string ⟨#[]⟩, .slice none 0 0, .slice none 0 0] 32)).alloc (.cells #[] 3)).alloc (.cells #[.int .i64 0, .int .i64 0, .int .i64 0, .string ⟨#[]⟩, .slice none 0 0, .slice none 0 0] 32)).drew) := ((newx _ _).trans ((newx _ _).mono (by rw [e1]; omega))).drew
    have HOC : Hid ((((((w.alloc (.cells #[.int .i64 op, .int .i64 a, .int .i64 n, .string s, .slice ps set.length cps, .slice p len cap] 32)).alloc (.cells #[.int .i64 0, .int .i64 0, .int .i64 0, .string ⟨#[]⟩, .slice none 0 0, .slice none 0 0] 32)).alloc (.cells #[] 3)).alloc (.cells #[.int .i64 0, .int .i64 0, .int .i64 0, .string ⟨#[]⟩, .slice none 0 0, .slice none 0 0] 32)).drew).ownsRow (w.heap.size + 2) 3 1 (.slice (some ⟨w.heap.size + 1 + 1, 0, none⟩) 0 0) 0 [] ∧ (ps = none → set.length = 0 ∧ cps = 0) ∧ ∀ ad, ps = some ad → ∀ j u, (set.map (Value.int .i64))[j]? = some u → (((((w.alloc (.cells #[.int .i64 op, .int .i64 a, .int .i64 n, .string s, .slice ps set.length cps, .slice p len cap] 32)).alloc (.cells #[.int .i64 0, .int .i64 0, .int .i64 0, .string ⟨#[]⟩, .slice none 0 0, .slice none 0 0] 32)).alloc (.cells #[] 3)).alloc (.cells #[.int .i64 0, .int .i64 0, .int .i64 0, .string ⟨#[]⟩, .slice none 0 0, .slice none 0 0] 32)).drew).cell? (ad.add j) = some u) := by
      have h1 : (((((w.alloc (.cells #[.int .i64 op, .int .i64 a, .int .i64 n, .string s, .slice ps set.length cps, .slice p len cap] 32)).alloc (.cells #[.int .i64 0, .int .i64 0, .int .i64 0, .string ⟨#[]⟩, .slice none 0 0, .slice none 0 0] 32)).alloc (.cells #[] 3)).alloc (.cells #[.int .i64 0, .int .i64 0, .int .i64 0, .string ⟨#[]⟩, .slice none 0 0, .slice none 0 0] 32)).drew).heap[w.heap.size + 1 + 1]? = some (.cells #[] 3 (0, 0)) := by
        have h2 := heap_alloc_new ((w.alloc (.cells #[.int .i64 op, .int .i64 a, .int .i64 n, .string s, .slice ps set.length cps, .slice p len cap] 32)).alloc (.cells #[.int .i64 0, .int .i64 0, .int .i64 0, .string ⟨#[]⟩, .slice none 0 0, .slice none 0 0] 32)) (.cells #[] 3)
        rw [e0] at h2
        exact (Below.heap_alloc _ _ _ (by rw [e1]; omega)).trans h2
      exact ⟨own_empty h1 (by omega), (HRD.out.below (hb0.trans (hbC.mono (by omega)))).src⟩
    have HBC : Hid (Below ((w.alloc (.cells #[.int .i64 op, .int .i64 a, .int .i64 n, .string s, .slice ps set.length cps, .slice p len cap] 32)).alloc (.cells #[.int .i64 0, .int .i64 0, .int .i64 0, .string ⟨#[]⟩, .slice none 0 0, .slice none 0 0] 32)).heap.size ((w.alloc (.cells #[.int .i64 op, .int .i64 a, .int .i64 n, .string s, .slice ps set.length cps, .slice p len cap] 32)).alloc (.cells #[.int .i64 0, .int .i64 0, .int .i64 0, .string ⟨#[]⟩, .slice none 0 0, .slice none 0 0] 32)) (((((w.alloc (.cells #[.int .i64 op, .int .i64 a, .int .i64 n, .string s, .slice ps set.length cps, .slice p len cap] 32)).alloc (.cells #[.int .i64 0, .int .i64 0, .int .i64 0, .string ⟨#[]⟩, .slice none 0 0, .slice none 0 0] 32)).alloc (.cells #[] 3)).alloc (.cells #[.int .i64 0, .int .i64 0, .int .i64 0, .string ⟨#[]⟩, .slice none 0 0, .slice none 0 0] 32)).drew) ∧ ((w.alloc (.cells #[.int .i64 op, .int .i64 a, .int .i64 n, .string s, .slice ps set.length cps, .slice p len cap] 32)).alloc (.cells #[.int .i64 0, .int .i64 0, .int .i64 0, .string ⟨#[]⟩, .slice none 0 0, .slice none 0 0] 32)).heap.size ≤ w.heap.size + 1 + 1) := ⟨hbC, by rw [e0]; omega⟩
    have H6B : Hid (Six (((((w.alloc (.cells #[.int .i64 op, .int .i64 a, .int .i64 n, .string s, .slice ps set.length cps, .slice p len cap] 32)).alloc (.cells #[.int .i64 0, .int .i64 0, .int .i64 0, .string ⟨#[]⟩, .slice none 0 0, .slice none 0 0] 32)).alloc (.cells #[.int .i64 0, .int .i64 0, .int .i64 0, .string ⟨#[]⟩, .slice none 0 0, .slice none 0 0] 32)).alloc (.cells #[] 3)).drew) (w.heap.size + 1 + 1) 0 0 0 ⟨#[]⟩ (.slice none 0 0) (.slice none 0 0) 32) := by
      have h2 := heap_alloc_new ((w.alloc (.cells #[.int .i64 op, .int .i64 a, .int .i64 n, .string s, .slice ps set.length cps, .slice p len cap] 32)).alloc (.cells #[.int .i64 0, .int .i64 0, .int .i64 0, .string ⟨#[]⟩, .slice none 0 0, .slice none 0 0] 32)) (.cells #[.int .i64 0, .int .i64 0, .int .i64 0, .string ⟨#[]⟩, .slice none 0 0, .slice none 0 0] 32)
      rw [e0] at h2
      exact (Below.heap_alloc _ _ _ (by rw [e1]; omega)).trans h2
    have H6C : Hid (Six (((((w.alloc (.cells #[.int .i64 op, .int .i64 a, .int .i64 n, .string s, .slice ps set.length cps, .slice p len cap] 32)).alloc (.cells #[.int .i64 0, .int .i64 0, .int .i64 0, .string ⟨#[]⟩, .slice none 0 0, .slice none 0 0] 32)).alloc (.cells #[] 3)).alloc (.cells #[.int .i64 0, .int .i64 0, .int .i64 0, .string ⟨#[]⟩, .slice none 0 0, .slice none 0 0] 32)).drew) (w.heap.size + 1 + 1 + 1) 0 0 0 ⟨#[]⟩ (.slice none 0 0) (.slice none 0 0) 32) := by
      have h2 := heap_alloc_new (((w.alloc (.cells #[.int .i64 op, .int .i64 a, .int .i64 n, .string s, .slice ps set.length cps, .slice p len cap] 32)).alloc (.cells #[.int .i64 0, .int .i64 0, .int .i64 0, .string ⟨#[]⟩, .slice none 0 0, .slice none 0 0] 32)).alloc (.cells #[] 3)) (.cells #[.int .i64 0, .int .i64 0, .int .i64 0, .string ⟨#[]⟩, .slice none 0 0, .slice none 0 0] 32)
      rw [e1] at h2
      exact h2
    have HA6 : Hid (Six ((w.alloc (.cells #[.int .i64 op, .int .i64 a, .int .i64 n, .string s, .slice ps set.length cps, .slice p len cap] 32)).alloc (.cells #[.int .i64 0, .int .i64 0, .int .i64 0, .string ⟨#[]⟩, .slice none 0 0, .slice none 0 0] 32)) w.heap.size op a n s (.slice ps set.length cps) (.slice p len cap) 32) := (Below.heap_alloc _ _ _ (by simp)).trans (heap_alloc_new w _)
    have HLM : Hid ((set.map (Value.int .i64)).length = set.length * 1) := by show _ = _; simp
    have HL1 : Hid (0 + set.length ≤ maxLen) := by show _ ≤ _; unfold maxLen; omega
    have HL2 : Hid ((0 + set.length) * 8 ≤ 140737488355328) := by show _ ≤ _; omega
    have HSZA : Hid (w.heap.size + 2 ≤ ((((w.alloc (.cells #[.int .i64 op, .int .i64 a, .int .i64 n, .string s, .slice ps set.length cps, .slice p len cap] 32)).alloc (.cells #[.int .i64 0, .int .i64 0, .int .i64 0, .string ⟨#[]⟩, .slice none 0 0, .slice none 0 0] 32)).alloc (.cells #[] 3)).drew).heap.size) := by show _ ≤ _; simp
    have HSZB : Hid (w.heap.size + 2 ≤ (((((w.alloc (.cells #[.int .i64 op, .int .i64 a, .int .i64 n, .string s, .slice ps set.length cps, .slice p len cap] 32)).alloc (.cells #[.int .i64 0, .int .i64 0, .int .i64 0, .string ⟨#[]⟩, .slice none 0 0, .slice none 0 0] 32)).alloc (.cells #[.int .i64 0, .int .i64 0, .int .i64 0, .string ⟨#[]⟩, .slice none 0 0, .slice none 0 0] 32)).alloc (.cells #[] 3)).drew).heap.size) := by show _ ≤ _; simp
    have HSZC : Hid (w.heap.size + 2 ≤ (((((w.alloc (.cells #[.int .i64 op, .int .i64 a, .int .i64 n, .string s, .slice ps set.length cps, .slice p len cap] 32)).alloc (.cells #[.int .i64 0, .int .i64 0, .int .i64 0, .string ⟨#[]⟩, .slice none 0 0, .slice none 0 0] 32)).alloc (.cells #[] 3)).alloc (.cells #[.int .i64 0, .int .i64 0, .int .i64 0, .string ⟨#[]⟩, .slice none 0 0, .slice none 0 0] 32)).drew).heap.size) := by show _ ≤ _; simp
    clear hbA hbB hbC hb0 e0 e1
    go_enter Tryz.func15, Tryz.ntmps15
    go_upto_region 1 with fail
    go_cut [5] from 7 (fun v5 wx => ∃ (O B : Nat) (sv : Value), v5 = .pointer (some ⟨O, 0, none⟩) ∧ XLoop [] w wx B w.heap.size (w.heap.size + 1) O (.cells #[.int .i64 op, .int .i64 a, .int .i64 n, .string s, .slice ps set.length cps, .slice p len cap] 32) op a n s set sv (fun i => (kid i).flip m) 0 (.slice none 0 0) [] [])
    case first =>
      go_region_held3 (fun w' => w'.cell? ⟨w.heap.size, 0, none⟩ = some (.int .i64 op) ∧ w'.cell? ⟨w.heap.size, 1, none⟩ = some (.int .i64 a) ∧ w'.cell? ⟨w.heap.size, 2, none⟩ = some (.int .i64 n) ∧ w'.cell? ⟨w.heap.size, 3, none⟩ = some (.string s) ∧ w'.cell? ⟨w.heap.size, 4, none⟩ = some (.slice ps set.length cps)) (first | go_keep | (with_reducible exact hS4) | (with_reducible exact hSP)) (first
        | (refine step_append_any rfl (.tmp 15) (.tmp 17) 27 rfl (w.heap.size + 2) 3 iI (.int .i64 0) 1 8 Tryz.underlying27 hiI hzI0 hzI1 hzI2 rfl Nat.one_pos (.slice (some ⟨w.heap.size + 1 + 1, 0, none⟩) 0 0) 0 [] rfl ?_ ps set.length cps (set.map (Value.int .i64)) rfl HLM.out HOA.out.2.1 ?_ (ints_cells set) HL1.out HL2.out ?_ ?_; (with_reducible exact HOA.out.1); (with_reducible exact HOA.out.2.2); exact HSZA.out; intro v' w4 hown4 hg4; have hR := own_grown HBA.out.1 HBA.out.2 hown4.out hg4.out; obtain ⟨pv, cv, hv⟩ := own_shape hR.1; subst hv; have hA4 := HA6.out.below hR.2; have hS4 := five_of hA4; clear hA4; have HEND : Hid (∃ (O B : Nat) (sv : Value), Value.pointer (some ⟨w4.heap.size, 0, none⟩) = .pointer (some ⟨O, 0, none⟩) ∧ XLoop [] w (w4.alloc (.cells #[.int .i64 op, .int .i64 a, .int .i64 n, .string s, .slice pv set.length cv, .slice none 0 0] 32)) B w.heap.size (w.heap.size + 1) O (.cells #[.int .i64 op, .int .i64 a, .int .i64 n, .string s, .slice ps set.length cps, .slice p len cap] 32) op a n s set sv (fun i => (kid i).flip m) 0 (.slice none 0 0) [] []) := pt_ex (start_alloc _ hR.2 hR.1); clear hown4 hg4 hR)
        | (refine step_append_any rfl (.tmp 15) (.tmp 17) 27 rfl (w.heap.size + 2) 3 iI (.int .i64 0) 1 8 Tryz.underlying27 hiI hzI0 hzI1 hzI2 rfl Nat.one_pos (.slice (some ⟨w.heap.size + 1 + 1 + 1, 0, none⟩) 0 0) 0 [] rfl ?_ ps set.length cps (set.map (Value.int .i64)) rfl HLM.out HOA.out.2.1 ?_ (ints_cells set) HL1.out HL2.out ?_ ?_; (with_reducible exact HOB.out.1); (with_reducible exact HOB.out.2.2); exact HSZB.out; intro v' w4 hown4 hg4; have hR := own_grown HBB.out.1 HBB.out.2 hown4.out hg4.out; obtain ⟨pv, cv, hv⟩ := own_shape hR.1; subst hv; have hA4 := HA6.out.below hR.2; have hS4 := five_of hA4; have hSP := five_of (six_put (g := w.heap.size + 1 + 1) hA4 op a n s (.slice pv set.length cv) (.slice none 0 0) (by omega)); clear hA4; have h6 := H6B.out.grown hg4.out (by omega); obtain ⟨q0, q1, q2, q3, q4, q5⟩ := h6.cells; have qf := h6.fr; have HEND : Hid (∃ (O B : Nat) (sv : Value), Value.pointer (some ⟨w.heap.size + 1 + 1, 0, none⟩) = .pointer (some ⟨O, 0, none⟩) ∧ XLoop [] w (put6 w4 (w.heap.size + 1 + 1) op a n s (.slice pv set.length cv) (.slice none 0 0)) B w.heap.size (w.heap.size + 1) O (.cells #[.int .i64 op, .int .i64 a, .int .i64 n, .string s, .slice ps set.length cps, .slice p len cap] 32) op a n s set sv (fun i => (kid i).flip m) 0 (.slice none 0 0) [] []) := pt_ex (start_put _ hR.2 hR.1 (by omega) h6 (own_ne6 hR.1 h6)); clear h6; clear hown4 hg4 hR)
        | (refine step_append_any rfl (.tmp 15) (.tmp 17) 27 rfl (w.heap.size + 2) 3 iI (.int .i64 0) 1 8 Tryz.underlying27 hiI hzI0 hzI1 hzI2 rfl Nat.one_pos (.slice (some ⟨w.heap.size + 1 + 1, 0, none⟩) 0 0) 0 [] rfl ?_ ps set.length cps (set.map (Value.int .i64)) rfl HLM.out HOA.out.2.1 ?_ (ints_cells set) HL1.out HL2.out ?_ ?_; (with_reducible exact HOC.out.1); (with_reducible exact HOC.out.2.2); exact HSZC.out; intro v' w4 hown4 hg4; have hR := own_grown HBC.out.1 HBC.out.2 hown4.out hg4.out; obtain ⟨pv, cv, hv⟩ := own_shape hR.1; subst hv; have hA4 := HA6.out.below hR.2; have hS4 := five_of hA4; have hSP := five_of (six_put (g := w.heap.size + 1 + 1 + 1) hA4 op a n s (.slice pv set.length cv) (.slice none 0 0) (by omega)); clear hA4; have h6 := H6C.out.grown hg4.out (by omega); obtain ⟨q0, q1, q2, q3, q4, q5⟩ := h6.cells; have qf := h6.fr; have HEND : Hid (∃ (O B : Nat) (sv : Value), Value.pointer (some ⟨w.heap.size + 1 + 1 + 1, 0, none⟩) = .pointer (some ⟨O, 0, none⟩) ∧ XLoop [] w (put6 w4 (w.heap.size + 1 + 1 + 1) op a n s (.slice pv set.length cv) (.slice none 0 0)) B w.heap.size (w.heap.size + 1) O (.cells #[.int .i64 op, .int .i64 a, .int .i64 n, .string s, .slice ps set.length cps, .slice p len cap] 32) op a n s set sv (fun i => (kid i).flip m) 0 (.slice none 0 0) [] []) := pt_ex (start_put _ hR.2 hR.1 (by omega) h6 (own_ne6 hR.1 h6)); clear h6; clear hown4 hg4 hR))
      all_goals
        go_wp2_with fail
        go_meet
        exact HEND.out
    case rest =>
      obtain ⟨O, B0, sv0, rfl, hL0⟩ := hcut
      have H00 : Hid (XLoop [] w wc B0 w.heap.size (w.heap.size + 1) O (.cells #[.int .i64 op, .int .i64 a, .int .i64 n, .string s, .slice ps set.length cps, .slice p len cap] 32) op a n s set sv0 (fun i => (kid i).flip m) 0 (.slice none 0 0) [] []) := hL0
      clear hL0 HOA HOB HOC HBA HBB HBC H6B H6C HA6 HSZA HSZB HSZC HLM HL1 HL2
      obtain ⟨C, hC⟩ : ∃ C, C = w.heap.size := ⟨_, rfl⟩
      obtain ⟨R, hR⟩ : ∃ R, R = w.heap.size + 1 := ⟨_, rfl⟩
      have HH0 : Hid (XLoop [] w wc B0 C R O (.cells #[.int .i64 op, .int .i64 a, .int .i64 n, .string s, .slice ps set.length cps, .slice p len cap] 32) op a n s set sv0 (fun i => (kid i).flip m) 0 (.slice none 0 0) [] []) := by
        show XLoop _ _ _ _ _ _ _ _ _ _ _ _ _ _ _ _ _ _ _
        rw [hR, hC]; exact H00.out
      clear H00
      rw [← hR, ← hC]
      have hCO : C ≠ O := HH0.out.ord.2.2.2.2.2.2.2.1
      have hRO : R ≠ O := HH0.out.ord.2.2.2.2.2.2.2.2
      clear hC hR
      have hA0 : Six wc C op a n s (.slice ps set.length cps) (.slice p len cap) 32 := HH0.out.arg
      obtain ⟨z0, z1, z2, z3, z4, z5⟩ := hA0.cells
      clear hA0
      go_upto_if 22 with fail
      go_cut [] from 7 (fun wx => ∃ (B : Nat) (sv : Value), XLoop [] w wx B C R O (.cells #[.int .i64 op, .int .i64 a, .int .i64 n, .string s, .slice ps set.length cps, .slice p len cap] 32) op a n s Y sv (fun i => (kid i).flip m) 0 (.slice none 0 0) [] [])
      case first =>
        by_cases h2 : op = 2
        · have HYY : Hid (Y = flipL set m) := hY.trans (if_pos h2)
          clear hY
          subst h2
          go_wp2_with fail
          refine (spec_flip set m (.slice ps set.length cps) _ (HRD.out.below HH0.out.bel.toBelow) (by omega)).mono ?_
          rintro e w2 ⟨v', rfl, hb2, hown2⟩
          obtain ⟨pv, cv, hv⟩ := own_shape hown2
          subst hv
          have h0 := HH0.out.from (B' := wc.heap.size) HH0.out.size (Nat.le_refl _)
          have HX2 := h0.turnIn hb2 hown2
          have hO2 := h0.out.below hb2
          have x4 := hO2.cells.2.2.2.2.1
          have xf := hO2.fr 4
          have HXX : Hid (XLoop [] w (w2.setCell ⟨O, 4, none⟩ (.slice pv (flipL set m).length cv)) w2.heap.size C R O (.cells #[.int .i64 2, .int .i64 a, .int .i64 n, .string s, .slice ps set.length cps, .slice p len cap] 32) 2 a n s (flipL set m) (.slice pv (flipL set m).length cv) (fun i => (kid i).flip m) 0 (.slice none 0 0) [] []) := HX2
          clear HX2 hO2 hb2 hown2 h0
          go_wp2_with fail
          go_meet
          exact ⟨_, _, by rw [HYY.out]; exact HXX.out⟩
        · have HYY : Hid (Y = set) := hY.trans (if_neg h2)
          have d2 : (op == 2) = false := by simpa using h2
          clear hY h2
          go_wp2_with fail
          go_meet
          exact ⟨_, _, by rw [HYY.out]; exact HH0.out⟩
      case rest =>
      clear HH0 hY z0 z1 z2 z3 z4 z5
      obtain ⟨B, sv, hL0⟩ := hcut
      have HH0 : Hid (XLoop [] w wc B C R O (.cells #[.int .i64 op, .int .i64 a, .int .i64 n, .string s, .slice ps set.length cps, .slice p len cap] 32) op a n s Y sv (fun i => (kid i).flip m) 0 (.slice none 0 0) [] []) := hL0
      clear hL0
      go_wp2_with fail
      go_loopw [6] (fun v4 wr => ∃ (k : Nat) (lv : Value) (la : List XR) (SS : List (List Nat)), v4 = .int .i64 k ∧ k ≤ len ∧ XLoop [] w wr B C R O (.cells #[.int .i64 op, .int .i64 a, .int .i64 n, .string s, .slice ps set.length cps, .slice p len cap] 32) op a n s Y sv (fun i => (kid i).flip m) k lv la SS) (fun v4 _ => len - (intOf v4).toNat)
      case atStart => exact ⟨0, _, _, _, rfl, Nat.zero_le _, HH0.out⟩
      case round =>
        obtain ⟨k, lv, la, SS, rfl, hk, hL⟩ := hrel
        have HL : Hid (XLoop [] w wr B C R O (.cells #[.int .i64 op, .int .i64 a, .int .i64 n, .string s, .slice ps set.length cps, .slice p len cap] 32) op a n s Y sv (fun i => (kid i).flip m) k lv la SS) := hL
        have hA : Six wr C op a n s (.slice ps set.length cps) (.slice p len cap) 32 := hL.arg
        have a4 := hA.cells.2.2.2.2.2
        obtain ⟨o0, o1, o2, o3, o4, o5⟩ := hL.out.cells
        clear hL HH0
        by_cases hkl : (k : Int) < len
        · obtain ⟨b, o, ux, u, hp, hd, hinu⟩ := HAT.out k (by omega)
          subst hp
          obtain ⟨c0, c1, c2, c3, c4, c5⟩ := hd.below HL.out.bel.toBelow
          have HIN : Hid ((kid k).At 0 wr.drew ux u) := X.At.below (Below.refl _ wr).drew (X.At.below HL.out.bel.toBelow hinu)
          have HKL : Hid (k < len) := by show k < len; omega
          have HOWN : Hid (wr.ownsRow 0 32 6 lv k (xrows la)) := HL.out.rows.own
          have hOl : O < wr.heap.size := HL.out.out.lt
          have hCl : C < wr.heap.size := hA.lt
          have hbl : b < wr.heap.size := World.block_lt_of_cell? wr _ c0
          clear hd hinu hA
          have hki0 : (0 : Int) ≤ (k : Int) := by omega
          have HCF : Hid (∀ (vs : Array Value) (w : World), (callFunc 15 vs).run Tryz.prog w = .ok (.enter 15 vs) w) := fun vs w => specflip_enter vs w
          go_wp2_with fail
          go_region_law
            (first
              | (refine step_call2 rfl 15 (.tmp 41) (.tmp 42) 32 3 rfl HCF.out (.agg #[.int .i64 (kid k).op, .int .i64 (kid k).at_, .int .i64 (kid k).n, .string (kid k).s, ux, u]) (.int .i64 m) rfl rfl _ (IH.out k HKL.out wr.drew ux u HIN.out) ?_; rintro e w1 ⟨su', v', T, rfl, hb1, hd1, hn1, hT1⟩; refine ⟨_, rfl, ?_⟩; have HC1 : Hid (Below wr.heap.size wr w1 ∧ XOwn w1 ((kid k).flip m) su' v' T ∧ T.Nodup ∧ ∀ x ∈ T, wr.heap.size ≤ x) := ⟨⟨hb1.os, hb1.tape, hb1.output, hb1.size, hb1.block⟩, hd1, hn1, hT1⟩; obtain ⟨pv, cv, hv'⟩ := hd1.at0.xs.shape; obtain ⟨pw, cw, hw'⟩ := hd1.at0.sets.shape; subst hv' hw'; have z4 : w1.cell? ⟨O, 5, none⟩ = some lv := (HC1.out.1.cell (by exact hOl)).trans o5; have z5 : ∀ ob, (w1.alloc ob).cell? ⟨O, 5, none⟩ = some lv := fun ob => ((newx w1 ob).cell (by exact Nat.lt_of_lt_of_le hOl HC1.out.1.size)).trans z4; have y4 : w1.cell? ⟨C, 5, none⟩ = some (.slice (some ⟨b, o, none⟩) len cap) := (HC1.out.1.cell (by exact hCl)).trans a4; have HO1 : Hid (w1.ownsRow 0 32 6 lv k (xrows la)) := own_belowX HOWN.out HC1.out.1; clear hb1 hd1 hn1 hT1)
              | (refine step_append_lies _ (by rfl) _ _ _ (by rfl) 0 32 i0 _ 6 88 Tryz.underlying30 hi0 hz0 hz1 hz2 rfl (by omega) lv k (xrows la) (by rfl) (HO1.out.alloc _) ⟨w1.heap.size, 0, none⟩ 1 1 [.int .i64 (kid k).op, .int .i64 (kid k).at_, .int .i64 (kid k).n, .string (kid k).s, .slice pw ((kid k).flip m).set.length cw, .slice pv ((kid k).flip m).len cv] (by rfl) (by rfl) (World.news_of_block (cs := #[.int .i64 (kid k).op, .int .i64 (kid k).at_, .int .i64 (kid k).n, .string (kid k).s, .slice pw ((kid k).flip m).set.length cw, .slice pv ((kid k).flip m).len cv]) (t := 32) (fr := (0, 0)) (heap_alloc_new w1 _)) (by simp [Value.oneCell']) (by omega) (by unfold maxLen; omega) (by omega) (Nat.zero_le _) (w1.heap.size + 1) (by simp) ?_; intro gg cap3 w3 hown3 hgrow hat hlt3; obtain ⟨hO3, hnx⟩ := HL.out.next (Fr.below HC1.out.1 []) HC1.out.2.1 HC1.out.2.2.1 HC1.out.2.2.2 (by rw [flip_cells]; exact hown3) hgrow hat; have HNX : Hid (XLoop [] w (w3.setCell ⟨O, 5, none⟩ (.slice (some ⟨gg, 0, none⟩) (k + 1) cap3)) B C R O (.cells #[.int .i64 op, .int .i64 a, .int .i64 n, .string s, .slice ps set.length cps, .slice (some ⟨b, o, none⟩) len cap] 32) op a n s Y sv (fun i => (kid i).flip m) (k + 1) (.slice (some ⟨gg, 0, none⟩) (k + 1) cap3) (la ++ [((kid k).flip m, .slice pw ((kid k).flip m).set.length cw, .slice pv ((kid k).flip m).len cv)]) (SS ++ [T])) := hnx; have x4 : w3.cell? ⟨O, 5, none⟩ = some lv := (World.cell?_of_block (a := ⟨O, 5, none⟩) hO3).trans o5; have xf : w3.frozen? ⟨O, 5, none⟩ = false := (World.frozen?_of_block (a := ⟨O, 5, none⟩) hO3).trans (HL.out.out.fr 5); clear hO3 hnx hown3 hgrow hat hlt3))
          all_goals
            go_wp2_with fail
            go_roundw
            case rel => exact ⟨k + 1, _, _, _, by go_num, by omega, HNX.out⟩
            case measure => simp [intOf]; omega
        · obtain rfl : k = len := by omega
          obtain ⟨r0, r1, r2, r3, r4, r5⟩ := HL.out.res.cells
          have rf := HL.out.res.fr
          obtain ⟨hfr, S, hX, hSn, hSg⟩ := HL.out.done ⟨HPL.out.1, HPL.out.2, HYL.out⟩
          obtain ⟨pv, cv, hlv⟩ := hX.at0.xs.shape
          obtain ⟨pw, cw, hsv⟩ := hX.at0.sets.shape
          simp only [X.len, X.set] at hlv hsv
          subst hlv hsv
          have HS : Hid (Fr [] w (put6 wr R op a n s (.slice pw Y.length cw) (.slice pv k cv)) ∧ XOwn (put6 wr R op a n s (.slice pw Y.length cw) (.slice pv k cv)) (.mk op a n s Y k (fun i => (kid i).flip m)) (.slice pw Y.length cw) (.slice pv k cv) S ∧ S.Nodup ∧ ∀ x ∈ S, w.heap.size ≤ x) := ⟨hfr, hX, hSn, hSg⟩
          clear hfr hX hSn hSg HL HAT IH
          generalize Y.length = yl at *
          go_wp2_with fail
          refine bodyPost_ret (v := .agg #[.int .i64 op, .int .i64 a, .int .i64 n, .string s, .slice pw yl cw, .slice pv k cv]) (by rw [results_cellX (p := 4) (ty := 32) (by kernel_rfl)]; simp [go_sem, r0, r1, r2, r3, r4, r5]) rfl ⟨_, _, rfl, HS.out.1.toBelow, S, HS.out.2.1, HS.out.2.2.1, HS.out.2.2.2⟩
end Go.Proofs.YtgbfflpdpfgnbaaGreat
