/- spec.l7Places, spec.Names and spec.PatternOk at every node. Condition: at most 2^20 of it. -/
import Derived.Test.YtlclfmjpnchmbaaGreatZG19PatSpec
import Derived.Test.YtlclfmjpnchmbaaGreatZG25SpecStxOk
import Derived.Test.YtlclfmjpnchmbaaGreatZG16GotRead
namespace Go.Proofs.YtlclfmjpnchmbaaGreat
open Go.ChangeShapes Go.WideShapes Go.ChangeAt Go.RowKit

def PlacesAt (t : X) : Prop := ∀ (w : World) (su u : Value), t.At 0 w su u → t.weight ≤ 1048576 → Calls Tryz.prog 33 #[.agg #[.int .i64 t.op, .int .i64 t.at_, .int .i64 t.n, .string t.s, su, u]] w fun e w' => e = .returned (.bool (placesX t)) ∧ Below w.heap.size w w'

set_option maxRecDepth 100000 in
set_option maxHeartbeats 4000000 in
theorem spec_places (t : X) : PlacesAt t := by
  induction t with
  | no => intro w su u h; exact h.elim
  | mk op a n s set len kid ih =>
    intro w su u hin hwt
    obtain ⟨p, cap, e1, hl2, hat⟩ := hin.xs.at
    obtain ⟨qs, cs, e2⟩ := hin.sets.shape
    simp only [X.op, X.at_, X.n, X.s, X.len, X.set, X.kid] at e1 e2 hat hl2 ⊢
    have hwe : (X.mk op a n s set len kid).weight = s.size + (set.length + (len + sumX (fun i => (kid i).weight) len)) := rfl
    have hlen : len ≤ 1048576 := by omega
    have HAT : Hid (∀ i, i < len → ∃ b o sv u, p = some ⟨b, o, none⟩ ∧ Head6 w b (o + i * 6) (kid i) sv u ∧ (kid i).At 0 w sv u) := hat
    have IH : Hid (∀ i, i < len → ∀ (w : World) (su u : Value), (kid i).At 0 w su u → Calls Tryz.prog 33 #[.agg #[.int .i64 (kid i).op, .int .i64 (kid i).at_, .int .i64 (kid i).n, .string (kid i).s, su, u]] w fun e w' => e = .returned (.bool (placesX (kid i))) ∧ Below w.heap.size w w') := fun i hi w su u h => ih i w su u h (by
      have h1 := sumX_at (fun i => (kid i).weight) i len hi
      omega)
    subst e1 e2
    obtain ⟨res, hres⟩ : ∃ r, r = placesX (.mk op a n s set len kid) := ⟨_, rfl⟩
    rw [← hres]
    have HRES : Hid (res = allX (fun i => kidPlace len kid i && placesX (kid i)) len) := by show _ = _; rw [hres, placesX_mk]
    obtain ⟨W, hW⟩ : ∃ W, W = w.alloc (.cells #[.int .i64 op, .int .i64 a, .int .i64 n, .string s, .slice qs set.length cs, .slice p len cap] 32) := ⟨_, rfl⟩
    obtain ⟨C, hC⟩ : ∃ C, C = w.heap.size := ⟨_, rfl⟩
    have KW : Hid (∀ wx, Below W.heap.size W wx → Below w.heap.size w wx ∧ Six wx C op a n s (.slice qs set.length cs) (.slice p len cap) 32) := by
      have nb : Below w.heap.size w W := by rw [hW]; exact newx w _
      have h6 : Six W C op a n s (.slice qs set.length cs) (.slice p len cap) 32 := by rw [hW, hC]; exact heap_alloc_new w _
      exact fun wx hx => ⟨nb.trans (hx.mono nb.size), h6.below hx⟩
    clear hin ih hat hres hwt hwe
    generalize set.length = sl at *
    obtain ⟨x0, x1, x2, x3, x4, x5⟩ := (KW.out W (Below.refl _ _)).2.cells
    go_enter Tryz.func33, Tryz.ntmps33
    go_wp2_with fail
    rw [← hW, ← hC]
    clear hW hC x0 x1 x2 x3 x4 x5
    go_loopw [4] (fun i wr => ∃ k : Nat, i = .int .i64 k ∧ k ≤ len ∧ (∀ j, j < k → (kidPlace len kid j && placesX (kid j)) = true) ∧ Below W.heap.size W wr) (fun i _ => len - (intOf i).toNat)
    case atStart => exact ⟨0, rfl, Nat.zero_le _, fun j hj => absurd hj (Nat.not_lt_zero _), Below.refl _ _⟩
    case round =>
      obtain ⟨k, rfl, hk, hall, hbel⟩ := hrel
      have HB : Hid (Below W.heap.size W wr) := hbel
      have HALL : Hid (∀ j, j < k → (kidPlace len kid j && placesX (kid j)) = true) := hall
      clear hbel hall
      obtain ⟨x0, x1, x2, x3, x4, x5⟩ := (KW.out wr HB.out).2.cells
      by_cases hlt : (k : Int) < len
      · have hk' : k < len := by omega
        obtain ⟨b, o, sk, uk, hp, hd, hink⟩ := HAT.out k hk'
        subst hp
        have HKID : Hid (∀ wx, Below W.heap.size W wx → Head6 wx b (o + k * 6) (kid k) sk uk ∧ (kid k).At 0 wx sk uk) := fun wx hx => ⟨hd.below (KW.out wx hx).1, hink.below (KW.out wx hx).1⟩
        have HBAD : Hid ((kidPlace len kid k && placesX (kid k)) = false → res = false) := fun h => by rw [HRES.out]; exact allX_false hk' h
        have HGO : Hid ((kidPlace len kid k && placesX (kid k)) = true → ∀ j, j < k + 1 → (kidPlace len kid j && placesX (kid j)) = true) := fun h j hj => by
          by_cases hjk : j = k
          · subst hjk; exact h
          · exact HALL.out j (by omega)
        have HKP : Hid (kidPlace len kid k = !(dotsX (kid k) && (!(decide (k + 1 = len)) || (decide (k = 0) || dotsX (kid (k - 1)))))) := rfl
        obtain ⟨c0, c1, c2, c3, c4, c5⟩ := (HKID.out wr HB.out).1
        clear hd hink
        go_wp2_with fail
        refine (spec_dots (kid k) sk uk wr).mono ?_
        rintro e w1 ⟨rfl, hb1⟩
        have HB1 : Hid (Below W.heap.size W w1) := HB.out.trans (hb1.mono HB.out.size)
        clear hb1 c0 c1 c2 c3 c4 c5 x0 x1 x2 x3 x4 x5 HB
        obtain ⟨x0, x1, x2, x3, x4, x5⟩ := (KW.out w1 HB1.out).2.cells
        obtain ⟨c0, c1, c2, c3, c4, c5⟩ := (HKID.out w1 HB1.out).1
        cases hdk : dotsX (kid k)
        · have HM : Hid (kidPlace len kid k = true) := by show _ = _; rw [HKP.out, hdk]; rfl
          have HBV : Hid (Below W.heap.size W w1) := HB1.out
          go_wp2_with fail
          refine (IH.out k hk' _ sk uk (HKID.out _ HBV.out).2).mono ?_
          rintro e w5 ⟨rfl, hb5⟩
          have HB5 : Hid (Below W.heap.size W w5) := HBV.out.trans (hb5.mono HBV.out.size)
          clear hb5
          cases hpl : placesX (kid k)
          · have HE : Hid (res = false) := HBAD.out (by rw [HM.out, hpl]; rfl)
            go_wp2_with fail
            go_ret
            exact ⟨by rw [HE.out]; rfl, (KW.out w5 HB5.out).1⟩
          · have HE : Hid (∀ j, j < k + 1 → (kidPlace len kid j && placesX (kid j)) = true) := HGO.out (by rw [HM.out, hpl]; rfl)
            go_wp2_with fail
            go_roundw
            case rel => first | exact ⟨k + 1, by go_num, by omega, HE.out, HB5.out⟩ | ((repeat apply Exists.intro); exact ⟨⟨k + 1, by go_num, by omega, HE.out, HB5.out⟩, rfl⟩)
            case measure => simp [intOf]; omega
        · by_cases hle : k + 1 = len
          · have t1 : ((k : Int) == (len : Int) - 1) = true := by rw [beq_iff_eq]; omega
            have t1' : ((k : Int) != (len : Int) - 1) = false := by simp only [bne, t1]; rfl
            by_cases hk0 : k = 0
            · have HM : Hid (kidPlace len kid k = false) := by show _ = _; rw [HKP.out, hdk, decide_eq_true hle, decide_eq_true hk0]; rfl
              have HBV : Hid (Below W.heap.size W w1) := HB1.out
              have t2 : ((k : Int) == 0) = true := by rw [beq_iff_eq]; omega
              have HE : Hid (res = false) := HBAD.out (by rw [HM.out]; rfl)
              go_wp2_with fail
              go_ret
              exact ⟨by rw [HE.out]; rfl, (KW.out _ HBV.out).1⟩
            · obtain ⟨j, hj⟩ : ∃ j, k = j + 1 := ⟨k - 1, by omega⟩
              have t2 : ((k : Int) == 0) = false := by rw [beq_eq_false_iff_ne]; omega
              obtain ⟨b', o', sj, uj, hp', hdj, hinj⟩ := HAT.out j (by omega)
              simp only [Option.some.injEq, Addr.mk.injEq, and_true] at hp'
              obtain ⟨rfl, rfl⟩ := hp'
              have HJ : Hid (∀ wx, Below W.heap.size W wx → Head6 wx b (o + j * 6) (kid j) sj uj) := fun wx hx => hdj.below (KW.out wx hx).1
              obtain ⟨f0, f1, f2, f3, f4, f5⟩ := HJ.out w1 HB1.out
              have HKJ : Hid (kid (k - 1) = kid j) := by show _ = _; rw [hj]; rfl
              have HMJ : Hid (∀ q, dotsX (kid j) = q → kidPlace len kid k = !q) := fun q h => by rw [HKP.out, hdk, decide_eq_true hle, decide_eq_false hk0, HKJ.out, h]; cases q <;> rfl
              clear hdj hinj HKJ HKP t1 t1' t2 hk0 hlt
              subst hj
              subst hle
              go_wp2_with fail
              refine (spec_dots (kid j) sj uj w1).mono ?_
              rintro e w2 ⟨rfl, hb2⟩
              have HBV : Hid (Below W.heap.size W w2) := HB1.out.trans (hb2.mono HB1.out.size)
              clear hb2 c0 c1 c2 c3 c4 c5 x0 x1 x2 x3 x4 x5 f0 f1 f2 f3 f4 f5
              obtain ⟨x0, x1, x2, x3, x4, x5⟩ := (KW.out w2 HBV.out).2.cells
              obtain ⟨c0, c1, c2, c3, c4, c5⟩ := (HKID.out w2 HBV.out).1
              cases hdj : dotsX (kid j)
              · have HM : Hid (kidPlace (j + 1 + 1) kid (j + 1) = true) := HMJ.out _ hdj
                go_wp2_with fail
                refine (IH.out (j + 1) hk' _ sk uk (HKID.out _ HBV.out).2).mono ?_
                rintro e w5 ⟨rfl, hb5⟩
                have HB5 : Hid (Below W.heap.size W w5) := HBV.out.trans (hb5.mono HBV.out.size)
                clear hb5
                cases hpl : placesX (kid (j + 1))
                · have HE : Hid (res = false) := HBAD.out (by rw [HM.out, hpl]; rfl)
                  go_wp2_with fail
                  go_ret
                  exact ⟨by rw [HE.out]; rfl, (KW.out w5 HB5.out).1⟩
                · have HE : Hid (∀ i, i < j + 1 + 1 → (kidPlace (j + 1 + 1) kid i && placesX (kid i)) = true) := HGO.out (by rw [HM.out, hpl]; rfl)
                  go_wp2_with fail
                  go_roundw
                  case rel => first | exact ⟨j + 1 + 1, by go_num, by omega, HE.out, HB5.out⟩ | ((repeat apply Exists.intro); exact ⟨⟨j + 1 + 1, by go_num, by omega, HE.out, HB5.out⟩, rfl⟩)
                  case measure => simp [intOf]; omega
              · have HM : Hid (kidPlace (j + 1 + 1) kid (j + 1) = false) := HMJ.out _ hdj
                have HE : Hid (res = false) := HBAD.out (by rw [HM.out]; rfl)
                go_wp2_with fail
                go_ret
                exact ⟨by rw [HE.out]; rfl, (KW.out _ HBV.out).1⟩
          · have HM : Hid (kidPlace len kid k = false) := by show _ = _; rw [HKP.out, hdk, decide_eq_false hle]; rfl
            have HBV : Hid (Below W.heap.size W w1) := HB1.out
            have t1 : ((k : Int) == (len : Int) - 1) = false := by rw [beq_eq_false_iff_ne]; omega
            have t1' : ((k : Int) != (len : Int) - 1) = true := by simp only [bne, t1]; rfl
            have HE : Hid (res = false) := HBAD.out (by rw [HM.out]; rfl)
            go_wp2_with fail
            go_ret
            exact ⟨by rw [HE.out]; rfl, (KW.out _ HBV.out).1⟩
      · have hke : k = len := by omega
        subst hke
        have HE : Hid (res = true) := by show _ = _; rw [HRES.out]; exact allX_true.2 HALL.out
        go_wp2_with fail
        go_ret
        exact ⟨by rw [HE.out]; rfl, (KW.out wr HB.out).1⟩

set_option maxRecDepth 100000 in
set_option maxHeartbeats 2000000 in
theorem spec_names_top (t : X) (w : World) (su u : Value) (hin : t.At 0 w su u) (hwt : t.weight ≤ 1048576) :
    Calls Tryz.prog 50 #[.agg #[.int .i64 t.op, .int .i64 t.at_, .int .i64 t.n, .string t.s, su, u]] w fun e w' => ∃ v, e = .returned v ∧ Below w.heap.size w w' ∧ OwnS w' w.heap.size v (namesX t ([], false)).1 := by
  obtain ⟨p, cap, e1⟩ := hin.xs.shape
  obtain ⟨qs, cs, e2⟩ := hin.sets.shape
  subst e1 e2
  have hcw := t.count_weight
  obtain ⟨W, hW⟩ : ∃ W, W = w.alloc (.cells #[.int .i64 t.op, .int .i64 t.at_, .int .i64 t.n, .string t.s, .slice qs t.set.length cs, .slice p t.len cap] 32) := ⟨_, rfl⟩
  have nb : Below w.heap.size w W := by rw [hW]; exact newx w _
  have HCL : Hid (Calls Tryz.prog 31 #[.agg #[.int .i64 t.op, .int .i64 t.at_, .int .i64 t.n, .string t.s, .slice qs t.set.length cs, .slice p t.len cap], .slice (some ⟨W.heap.size, 0, none⟩) 0 0, .bool false] (W.alloc (.cells #[] 9)) fun e w' => ∃ v', e = .returned (.tuple #[v', .bool (namesX t ([], false)).2]) ∧ Below W.heap.size W w' ∧ OwnS w' W.heap.size v' (namesX t ([], false)).1 ∧ NonStr (W.alloc (.cells #[] 9)) w') :=
    spec_names t W _ _ _ _ [] false (hin.below nb) (newx W _) (World.ownsRow_lit W #[] 0 (Nat.le_refl _) (Nat.zero_le _) rfl) (by simp; omega)
  have HNB : Hid (Below w.heap.size w W) := nb
  have hsz : W.heap.size = w.heap.size + 1 := by rw [hW]; simp
  rw [hsz] at HCL
  clear hin hwt nb hcw
  go_enter Tryz.func50, Tryz.ntmps50
  go_wp2_with fail
  rw [← hW]
  clear hW
  refine HCL.out.mono ?_
  rintro e w2 ⟨v', rfl, hb2, ho2, -⟩
  have H2 : Hid (Below w.heap.size w w2 ∧ OwnS w2 w.heap.size v' (namesX t ([], false)).1) := ⟨HNB.out.trans (hb2.mono (Nat.le_succ _)), ho2.mono (Nat.le_succ _)⟩
  clear hb2 ho2
  go_wp2_with fail
  go_ret
  exact ⟨_, rfl, H2.out⟩

set_option maxRecDepth 100000 in
set_option maxHeartbeats 4000000 in
theorem spec_pattern_ok (t : X) (w : World) (su u : Value) (hin : t.At 0 w su u) (hwt : t.weight ≤ 1048576) :
    Calls Tryz.prog 15 #[.agg #[.int .i64 t.op, .int .i64 t.at_, .int .i64 t.n, .string t.s, su, u]] w fun e w' => e = .returned (.bool (patternB t)) ∧ Below w.heap.size w w' := by
  obtain ⟨p, cap, e1⟩ := hin.xs.shape
  obtain ⟨qs, cs, e2⟩ := hin.sets.shape
  subst e1 e2
  have hcw := t.count_weight
  obtain ⟨res, hres⟩ : ∃ r, r = patternB t := ⟨_, rfl⟩
  rw [← hres]
  have HRES : Hid (res = (stxOkB t && (!(namesX t ([], false)).2 && (!dotsX t && placesX t)))) := hres
  obtain ⟨W, hW⟩ : ∃ W, W = w.alloc (.cells #[.int .i64 t.op, .int .i64 t.at_, .int .i64 t.n, .string t.s, .slice qs t.set.length cs, .slice p t.len cap] 32) := ⟨_, rfl⟩
  obtain ⟨C, hC⟩ : ∃ C, C = w.heap.size := ⟨_, rfl⟩
  have nb : Below w.heap.size w W := by rw [hW]; exact newx w _
  have h6 : Six W C t.op t.at_ t.n t.s (.slice qs t.set.length cs) (.slice p t.len cap) 32 := by rw [hW, hC]; exact heap_alloc_new w _
  have hsz : W.heap.size = w.heap.size + 1 := by rw [hW]; simp
  have KW : Hid (∀ wx, Below W.heap.size W wx → Below w.heap.size w wx ∧ Six wx C t.op t.at_ t.n t.s (.slice qs t.set.length cs) (.slice p t.len cap) 32 ∧ t.At 0 wx (.slice qs t.set.length cs) (.slice p t.len cap)) := fun wx hx => ⟨nb.trans (hx.mono nb.size), h6.below hx, (hin.below nb).below hx⟩
  have HCL : Hid (Calls Tryz.prog 31 #[.agg #[.int .i64 t.op, .int .i64 t.at_, .int .i64 t.n, .string t.s, .slice qs t.set.length cs, .slice p t.len cap], .slice (some ⟨w.heap.size + 1, 0, none⟩) 0 0, .bool false] (W.alloc (.cells #[] 9)) fun e w' => ∃ v', e = .returned (.tuple #[v', .bool (namesX t ([], false)).2]) ∧ Below W.heap.size W w' ∧ OwnS w' W.heap.size v' (namesX t ([], false)).1 ∧ NonStr (W.alloc (.cells #[] 9)) w') := by
    rw [← hsz]
    exact spec_names t W _ _ _ _ [] false (hin.below nb) (newx W _) (World.ownsRow_lit W #[] 0 (Nat.le_refl _) (Nat.zero_le _) rfl) (by simp; omega)
  have HSO : Hid (∀ wx, Below W.heap.size W wx → Calls Tryz.prog 16 #[.agg #[.int .i64 t.op, .int .i64 t.at_, .int .i64 t.n, .string t.s, .slice qs t.set.length cs, .slice p t.len cap]] wx fun e w' => e = .returned (.bool (stxOkB t)) ∧ Below wx.heap.size wx w') := fun wx hx => spec_stx_ok t wx _ _ (KW.out wx hx).2.2 hwt
  have HPL : Hid (∀ wx, Below W.heap.size W wx → Calls Tryz.prog 33 #[.agg #[.int .i64 t.op, .int .i64 t.at_, .int .i64 t.n, .string t.s, .slice qs t.set.length cs, .slice p t.len cap]] wx fun e w' => e = .returned (.bool (placesX t)) ∧ Below wx.heap.size wx w') := fun wx hx => spec_places t wx _ _ (KW.out wx hx).2.2 hwt
  clear hin hwt nb hcw hres h6 hsz
  go_enter Tryz.func15, Tryz.ntmps15
  go_wp2_with fail
  rw [← hW]
  clear hW
  refine HCL.out.mono ?_
  rintro e w2 ⟨v', rfl, hb2, -, -⟩
  rw [← hC]
  clear hC HCL
  have H2 : Hid (Below W.heap.size W w2) := hb2
  clear hb2
  obtain ⟨x0, x1, x2, x3, x4, x5⟩ := (KW.out w2 H2.out).2.1.cells
  go_wp2_with fail
  refine (HSO.out w2 H2.out).mono ?_
  rintro e w3 ⟨rfl, hb3⟩
  have H3 : Hid (Below W.heap.size W w3) := H2.out.trans (hb3.mono H2.out.size)
  clear hb3 x0 x1 x2 x3 x4 x5 H2
  obtain ⟨x0, x1, x2, x3, x4, x5⟩ := (KW.out w3 H3.out).2.1.cells
  cases h1 : stxOkB t
  · have HE : Hid (res = false) := by show _ = _; rw [HRES.out, h1]; rfl
    go_wp2_with fail
    go_ret
    exact ⟨by rw [HE.out]; rfl, (KW.out w3 H3.out).1⟩
  cases h2 : (namesX t ([], false)).2
  case true =>
    have HE : Hid (res = false) := by show _ = _; rw [HRES.out, h1, h2]; rfl
    go_wp2_with fail
    go_ret
    exact ⟨by rw [HE.out]; rfl, (KW.out w3 H3.out).1⟩
  case false =>
  go_wp2_with fail
  refine (spec_dots t _ _ w3).mono ?_
  rintro e w4 ⟨rfl, hb4⟩
  have H4 : Hid (Below W.heap.size W w4) := H3.out.trans (hb4.mono H3.out.size)
  clear hb4 x0 x1 x2 x3 x4 x5 H3
  obtain ⟨x0, x1, x2, x3, x4, x5⟩ := (KW.out w4 H4.out).2.1.cells
  cases h3 : dotsX t
  case true =>
    have HE : Hid (res = false) := by show _ = _; rw [HRES.out, h1, h2, h3]; rfl
    go_wp2_with fail
    go_ret
    exact ⟨by rw [HE.out]; rfl, (KW.out w4 H4.out).1⟩
  case false =>
  have HE : Hid (res = placesX t) := by show _ = _; rw [HRES.out, h1, h2, h3]; simp
  go_wp2_with fail
  refine (HPL.out w4 H4.out).mono ?_
  rintro e w5 ⟨rfl, hb5⟩
  have H5 : Hid (Below W.heap.size W w5) := H4.out.trans (hb5.mono H4.out.size)
  clear hb5 x0 x1 x2 x3 x4 x5 H4
  go_wp2_with fail
  go_ret
  exact ⟨by rw [HE.out]; rfl, (KW.out w5 H5.out).1⟩
end Go.Proofs.YtlclfmjpnchmbaaGreat

/- How deep a name stands in a pattern (spec.l7Deep), and that it is as deep as it is told. Condition: at most 2^20 of it. -/
namespace Go.Proofs.YtlclfmjpnchmbaaGreat
open Go.ChangeShapes Go.WideShapes Go.ChangeAt Go.RowKit

/-- The first that is not below 0. -/
def firstD (f : Nat → Int) : Nat → Int
  | 0 => -1
  | k + 1 => if 0 ≤ firstD f k then firstD f k else f k
/-- How deep a name stands; -1: it is not there. -/
def deepX : X → ByteArray → Int
  | .no, _ => -1
  | .mk op _ _ s _ len kid, nm => if ((op == 2) && (s.toList == nm.toList)) = true then 0 else firstD (fun i => if 0 ≤ deepX (kid i) nm then kidDeep len kid (deepX (kid i) nm) i else -1) len
theorem firstD_none {f : Nat → Int} {k : Nat} (h : ∀ i, i < k → f i < 0) (h1 : ∀ i, i < k → -1 ≤ f i) : firstD f k = -1 := by
  induction k with
  | zero => rfl
  | succ k ih =>
    have := h k (by omega)
    have := h1 k (by omega)
    simp only [firstD]
    rw [ih (fun i hi => h i (by omega)) (fun i hi => h1 i (by omega)), if_neg (by omega)]
    omega
theorem firstD_at {f : Nat → Int} {k j : Nat} (hj : j < k) (h : ∀ i, i < j → f i < 0) (h1 : ∀ i, i < j → -1 ≤ f i) (h0 : 0 ≤ f j) : firstD f k = f j := by
  induction k with
  | zero => omega
  | succ k ih =>
    simp only [firstD]
    rcases Nat.lt_or_ge j k with hk | hk
    · rw [ih hk, if_pos h0]
    · have : j = k := by omega
      subst this
      rw [firstD_none h h1, if_neg (by omega)]
theorem firstD_le {f : Nat → Int} {k : Nat} {b : Int} (hb : -1 ≤ b) (h : ∀ i, i < k → f i ≤ b) : firstD f k ≤ b := by
  induction k with
  | zero => exact hb
  | succ k ih =>
    simp only [firstD]
    split
    · exact ih (fun i hi => h i (by omega))
    · exact h k (by omega)
theorem kidDeep_le (len : Nat) (kid : Nat → X) (d : Int) (i : Nat) : kidDeep len kid d i ≤ d + 1 := by unfold kidDeep; split <;> omega
theorem kidDeep_ge (len : Nat) (kid : Nat → X) (d : Int) (i : Nat) : d ≤ kidDeep len kid d i := by unfold kidDeep; split <;> omega
theorem deepX_lt (t : X) (nm : ByteArray) : deepX t nm + 1 ≤ t.count := by
  induction t with
  | no => simp [deepX, X.count]
  | mk op a n s set len kid ih =>
    rw [deepX]
    have hc : (X.mk op a n s set len kid).count = 1 + sumX (fun i => (kid i).count) len := rfl
    split
    · rw [hc]; omega
    · have := firstD_le (f := fun i => if 0 ≤ deepX (kid i) nm then kidDeep len kid (deepX (kid i) nm) i else -1) (k := len) (b := ((sumX (fun i => (kid i).count) len : Nat) : Int)) (by omega) (fun i hi => by
        have h1 := sumX_at (fun i => (kid i).count) i len hi
        have h2 := kidDeep_le len kid (deepX (kid i) nm) i
        have h3 := ih i
        split <;> omega)
      rw [hc]
      omega
theorem deepX_ge (t : X) (nm : ByteArray) : -1 ≤ deepX t nm := by
  induction t with
  | no => simp [deepX]
  | mk op a n s set len kid ih =>
    rw [deepX]
    split
    · omega
    · clear ih
      have : ∀ k, -1 ≤ firstD (fun i => if 0 ≤ deepX (kid i) nm then kidDeep len kid (deepX (kid i) nm) i else -1) k := by
        intro k
        induction k with
        | zero => simp [firstD]
        | succ k ih =>
          simp only [firstD]
          split
          · exact ih
          · have := kidDeep_ge len kid (deepX (kid k) nm) k
            split <;> omega
      exact this len

theorem hid_ofD {P : Prop} (h : P) : Hid P := h
theorem keysD_append (a b : List (ByteArray × Int)) : keysD (a ++ b) = keysD a ++ keysD b := by simp [keysD]
theorem keysD_deeper (e : Int) (l : List (ByteArray × Int)) : keysD (deeper e l) = keysD l := by simp [keysD, deeper]
theorem keysD_kid (t : X) (d : Int) : keysD (namesD t d) = keysD (namesD t 0) := by
  have := namesD_deeper t 0 d
  rw [Int.zero_add] at this
  rw [this, keysD_deeper]
theorem flat_mem {f : Nat → List (ByteArray × Int)} : ∀ {k i : Nat} {s : List UInt8}, i < k → s ∈ keysD (f i) → s ∈ keysD (flatTo f k) := by
  intro k
  induction k with
  | zero => intro i s h; omega
  | succ k ih =>
    intro i s hi hs
    simp only [flatTo]
    rw [keysD_append, List.mem_append]
    rcases Nat.lt_or_ge i k with h | h
    · exact .inl (ih h hs)
    · have : i = k := by omega
      subst this
      exact .inr hs
theorem flat_apart {f : Nat → List (ByteArray × Int)} : ∀ {k i j : Nat} {s : List UInt8}, (keysD (flatTo f k)).Nodup → i < j → j < k → s ∈ keysD (f i) → s ∈ keysD (f j) → False := by
  intro k
  induction k with
  | zero => intro i j s _ _ h; omega
  | succ k ih =>
    intro i j s hn hij hj hi hjs
    simp only [flatTo] at hn
    rw [keysD_append, List.nodup_append] at hn
    rcases Nat.lt_or_ge j k with h | h
    · exact ih hn.1 hij h hi hjs
    · have : j = k := by omega
      subst this
      exact hn.2.2 s (flat_mem hij hi) s hjs rfl
theorem flat_nodup {f : Nat → List (ByteArray × Int)} : ∀ {k i : Nat}, (keysD (flatTo f k)).Nodup → i < k → (keysD (f i)).Nodup := by
  intro k
  induction k with
  | zero => intro i _ h; omega
  | succ k ih =>
    intro i hn hi
    simp only [flatTo] at hn
    rw [keysD_append, List.nodup_append] at hn
    rcases Nat.lt_or_ge i k with h | h
    · exact ih hn.1 h
    · have : i = k := by omega
      subst this
      exact hn.2.1
/-- The names of a kid are each there once. -/
theorem once_kid {op a n : Int} {s : ByteArray} {set : List Int} {len : Nat} {kid : Nat → X} (h : (keysD (namesD (.mk op a n s set len kid) 0)).Nodup) {i : Nat} (hi : i < len) : (keysD (namesD (kid i) 0)).Nodup := by
  rw [namesD, keysD_append, List.nodup_append] at h
  have := flat_nodup h.2.1 hi
  rwa [keysD_kid] at this
theorem bytes_eq {a b : ByteArray} (h : a.data.toList = b.data.toList) : (a.toList == b.toList) = true := by
  rw [ByteArray.toList_eq, ByteArray.toList_eq, h]; simp
theorem bytes_ne {a b : ByteArray} (h : a.data.toList ≠ b.data.toList) : (a.toList == b.toList) = false := by
  rw [ByteArray.toList_eq, ByteArray.toList_eq]; simpa using h
theorem deepX_none (t : X) (nm : ByteArray) (hnm : nameX 2 nm = true) : nm.data.toList ∉ keysD (namesD t 0) → deepX t nm = -1 := by
  induction t with
  | no => intro _; rfl
  | mk op a n s set len kid ih =>
    intro hno
    rw [namesD, keysD_append, List.mem_append] at hno
    have hs : ¬ ((op == 2) && (s.toList == nm.toList)) = true := fun h => by
      rw [Bool.and_eq_true] at h
      have h1 : op = 2 := by simpa using h.1
      have h2 := eq_of_beq h.2
      subst h1
      have hn : nameX 2 s = true := by unfold nameX at hnm ⊢; rw [h2]; exact hnm
      rw [if_pos hn] at hno
      rw [ByteArray.toList_eq, ByteArray.toList_eq] at h2
      exact hno (.inl (by simp [keysD, h2]))
    rw [deepX, if_neg hs]
    have hk : ∀ i, i < len → deepX (kid i) nm = -1 := fun i hi => ih i (fun h => hno (.inr (flat_mem hi (by rw [keysD_kid]; exact h))))
    exact firstD_none (fun i hi => by rw [hk i hi]; simp) (fun i hi => by rw [hk i hi]; simp)
theorem flat_in {f : Nat → List (ByteArray × Int)} : ∀ {k : Nat} {y : ByteArray × Int}, y ∈ flatTo f k → ∃ i, i < k ∧ y ∈ f i := by
  intro k
  induction k with
  | zero => intro y h; simp [flatTo] at h
  | succ k ih =>
    intro y h
    simp only [flatTo] at h
    rcases List.mem_append.1 h with h | h
    · obtain ⟨i, hi, hy⟩ := ih h
      exact ⟨i, by omega, hy⟩
    · exact ⟨k, by omega, h⟩
/-- A name is as deep as it is told. -/
theorem deepX_told (t : X) : ∀ y ∈ namesD t 0, leafS t → (keysD (namesD t 0)).Nodup → deepX t y.1 = y.2 ∧ 0 ≤ y.2 ∧ nameX 2 y.1 = true := by
  induction t with
  | no => intro y h; simp [namesD] at h
  | mk op a n s set len kid ih =>
    intro y hy hl hnd
    obtain ⟨hl1, hl2⟩ := hl
    have hnd0 := hnd
    rw [namesD, keysD_append, List.nodup_append] at hnd
    rw [namesD] at hy
    by_cases hn : nameX op s = true
    · have hop : op = 2 := by
        unfold nameX at hn
        rw [Bool.and_eq_true] at hn
        simpa using hn.1
      have hz := hl1 hop
      subst hz hop
      rw [if_pos hn] at hy
      simp only [flatTo, List.append_nil, List.mem_singleton] at hy
      subst hy
      refine ⟨?_, by simp, hn⟩
      rw [deepX, if_pos (by simp)]
    · rw [if_neg hn, List.nil_append] at hy
      obtain ⟨i, hi, hyi⟩ := flat_in hy
      have hkd : namesD (kid i) (kidDeep len kid 0 i) = deeper (kidDeep len kid 0 i) (namesD (kid i) 0) := by
        have := namesD_deeper (kid i) 0 (kidDeep len kid 0 i)
        rwa [Int.zero_add] at this
      rw [hkd] at hyi
      obtain ⟨z, hz, rfl⟩ := List.mem_map.1 hyi
      obtain ⟨h1, h2, h3⟩ := ih i z hz (hl2 i hi) (once_kid hnd0 hi)
      have hkk : z.1.data.toList ∈ keysD (namesD (kid i) 0) := List.mem_map.2 ⟨z, hz, rfl⟩
      have hs : ¬ ((op == 2) && (s.toList == z.1.toList)) = true := fun h => by
        rw [Bool.and_eq_true] at h
        have h1 : op = 2 := by simpa using h.1
        have := hl1 h1
        omega
      have hother : ∀ j, j < i → deepX (kid j) z.1 = -1 := fun j hj => deepX_none (kid j) z.1 h3 (fun h => flat_apart hnd.2.1 hj hi (by rw [keysD_kid]; exact h) (by rw [keysD_kid]; exact hkk))
      have hkg := kidDeep_ge len kid 0 i
      refine ⟨?_, by simp only; omega, h3⟩
      rw [deepX, if_neg hs, firstD_at (j := i) hi (fun j hj => by simp only; rw [hother j hj]; simp) (fun j hj => by simp only; rw [hother j hj]; simp)]
      · simp only
        rw [h1, if_pos h2]
        have := kidDeep_add len kid 0 z.2 i
        rw [Int.zero_add] at this
        rw [this]
        omega
      · simp only
        rw [h1, if_pos h2]
        have := kidDeep_ge len kid z.2 i
        omega
/-- Each once: the names are those that are told. -/
theorem addAll_once (l : List (ByteArray × Int)) : ∀ (out : List ByteArray) (tw : Bool), ((out.map fun x => x.data.toList) ++ keysD l).Nodup → (addAll l (out, tw)).1 = out ++ l.map (·.1) := by
  induction l with
  | nil => intro out tw _; simp [addAll]
  | cons x l ih =>
    intro out tw h
    have e : addAll (x :: l) (out, tw) = addAll l (addN x.1 (out, tw)) := rfl
    have ek : keysD (x :: l) = x.1.data.toList :: keysD l := rfl
    rw [ek] at h
    have hm : x.1.data.toList ∉ out.map fun x => x.data.toList := fun hm => by
      rw [List.nodup_append] at h
      exact h.2.2 _ hm _ (by simp) rfl
    rw [e]
    unfold addN
    rw [inS_mem, decide_eq_false hm]
    simp only [Bool.false_eq_true, if_false]
    rw [ih (out ++ [x.1]) tw (by simpa using h)]
    simp
theorem names_once_eq (t : X) (hl : leafS t) (h : (keysD (namesD t 0)).Nodup) : (namesX t ([], false)).1 = (namesD t 0).map (·.1) := by
  rw [namesX_eq t 0 _ hl, addAll_once _ [] false (by simpa using h)]
  simp
theorem okG_leaf (t : X) : okG t → leafS t := by
  induction t with
  | no => intro h; exact h.elim
  | mk op a n s set len kid ih =>
    intro h
    obtain ⟨h1, h2, h3, h4⟩ := h
    refine ⟨fun h => h2 (by omega), fun i hi => ?_⟩
    rcases h4 i hi with ⟨_, _, _, h⟩ | h
    · cases hk : kid i with
      | no => trivial
      | mk op' a' n' s' set' len' kid' =>
        rw [hk] at h
        simp only [X.len] at h
        subst h
        exact ⟨fun _ => rfl, fun j hj => by omega⟩
    · exact ih i h
end Go.Proofs.YtlclfmjpnchmbaaGreat

/- spec.l7Deep at every node. Condition: at most 2^20 of it. -/
namespace Go.Proofs.YtlclfmjpnchmbaaGreat
open Go.ChangeShapes Go.WideShapes Go.ChangeAt Go.RowKit

theorem spec_bit (b : Bool) (w : World) : Calls Tryz.prog 66 #[.bool b] w fun e w' => e = .returned (.int .i64 (if b = true then 1 else 0)) ∧ w' = w := by
  go_enter Tryz.func66, Tryz.ntmps66
  cases b
  · go_wp2
    go_ret
    exact ⟨rfl, rfl⟩
  · go_wp2
    go_ret
    exact ⟨rfl, rfl⟩

def Deep7At (t : X) : Prop := ∀ (w : World) (su u : Value) (nm : ByteArray), t.At 0 w su u → t.weight ≤ 1048576 → Calls Tryz.prog 51 #[.agg #[.int .i64 t.op, .int .i64 t.at_, .int .i64 t.n, .string t.s, su, u], .string nm] w fun e w' => e = .returned (.int .i64 (deepX t nm)) ∧ Below w.heap.size w w'

set_option maxRecDepth 100000 in
set_option maxHeartbeats 4000000 in
theorem spec_deep7 (t : X) : Deep7At t := by
  induction t with
  | no => intro w su u nm h; exact h.elim
  | mk op a n s set len kid ih =>
    intro w su u nm hin hwt
    obtain ⟨p, cap, e1, hl2, hat⟩ := hin.xs.at
    obtain ⟨qs, cs, e2⟩ := hin.sets.shape
    simp only [X.op, X.at_, X.n, X.s, X.len, X.set, X.kid] at e1 e2 hat hl2 ⊢
    have hwe : (X.mk op a n s set len kid).weight = s.size + (set.length + (len + sumX (fun i => (kid i).weight) len)) := rfl
    have hlen : len ≤ 1048576 := by omega
    have HAT : Hid (∀ i, i < len → ∃ b o sv u, p = some ⟨b, o, none⟩ ∧ Head6 w b (o + i * 6) (kid i) sv u ∧ (kid i).At 0 w sv u) := hat
    have hkw : ∀ i, i < len → (kid i).weight ≤ 1048576 := fun i hi => by
      have h1 := sumX_at (fun i => (kid i).weight) i len hi
      omega
    have IH : Hid (∀ i, i < len → ∀ (w : World) (su u : Value), (kid i).At 0 w su u → Calls Tryz.prog 51 #[.agg #[.int .i64 (kid i).op, .int .i64 (kid i).at_, .int .i64 (kid i).n, .string (kid i).s, su, u], .string nm] w fun e w' => e = .returned (.int .i64 (deepX (kid i) nm)) ∧ Below w.heap.size w w') := fun i hi w su u h => ih i w su u nm h (hkw i hi)
    have HLE : Hid (∀ i, i < len → deepX (kid i) nm ≤ 1048576 ∧ -1 ≤ deepX (kid i) nm) := fun i hi => by
      have h1 := deepX_lt (kid i) nm
      have h2 := (kid i).count_weight
      have h3 := hkw i hi
      exact ⟨by omega, deepX_ge _ _⟩
    subst e1 e2
    obtain ⟨res, hres⟩ : ∃ r, r = deepX (.mk op a n s set len kid) nm := ⟨_, rfl⟩
    rw [← hres]
    have HRES : Hid (res = if ((op == 2) && (s.toList == nm.toList)) = true then 0 else firstD (fun i => if 0 ≤ deepX (kid i) nm then kidDeep len kid (deepX (kid i) nm) i else -1) len) := by show _ = _; rw [hres, deepX]
    obtain ⟨W, hW⟩ : ∃ W, W = w.alloc (.cells #[.int .i64 op, .int .i64 a, .int .i64 n, .string s, .slice qs set.length cs, .slice p len cap] 32) := ⟨_, rfl⟩
    obtain ⟨C, hC⟩ : ∃ C, C = w.heap.size := ⟨_, rfl⟩
    have KW : Hid (∀ wx, Below W.heap.size W wx → Below w.heap.size w wx ∧ Six wx C op a n s (.slice qs set.length cs) (.slice p len cap) 32) := by
      have nb : Below w.heap.size w W := by rw [hW]; exact newx w _
      have h6 : Six W C op a n s (.slice qs set.length cs) (.slice p len cap) 32 := by rw [hW, hC]; exact heap_alloc_new w _
      exact fun wx hx => ⟨nb.trans (hx.mono nb.size), h6.below hx⟩
    clear hin ih hat hres hwt hwe hkw
    generalize set.length = sl at *
    obtain ⟨x0, x1, x2, x3, x4, x5⟩ := (KW.out W (Below.refl _ _)).2.cells
    rw [hW, hC] at x0 x1 x2 x3 x4 x5
    have HSY : ∀ y, ((op == 2) && (s.toList == nm.toList)) = y → Hid (((op == 2) && (s.toList == nm.toList)) = y) := fun _ h => h
    go_enter Tryz.func51, Tryz.ntmps51
    by_cases hsym : ((op == 2) && (s.toList == nm.toList)) = true
    · have HE : Hid (res = 0) := by show _ = _; rw [HRES.out, if_pos hsym]
      rw [Bool.and_eq_true] at hsym
      have t1 : (op == 2) = true := hsym.1
      have t2 : (s.toList == nm.toList) = true := hsym.2
      clear hsym HSY
      go_wp2_with fail
      rw [← hW]
      go_ret
      exact ⟨by rw [HE.out]; rfl, (KW.out W (Below.refl _ _)).1⟩
    · have HE : Hid (res = firstD (fun i => if 0 ≤ deepX (kid i) nm then kidDeep len kid (deepX (kid i) nm) i else -1) len) := by show _ = _; rw [HRES.out, if_neg hsym]
      have hor : (op == 2) = false ∨ ((op == 2) = true ∧ (s.toList == nm.toList) = false) := by
        cases h1 : (op == 2)
        · exact .inl rfl
        · cases h2 : (s.toList == nm.toList)
          · exact .inr ⟨rfl, rfl⟩
          · rw [h1, h2] at hsym; exact absurd rfl hsym
      clear hsym HSY
      rcases hor with t1 | ⟨t1, t2⟩
      all_goals
        go_wp2_with fail
        rw [← hW, ← hC]
        clear hW hC x0 x1 x2 x3 x4 x5
        go_loopw [6] (fun i wr => ∃ k : Nat, i = .int .i64 k ∧ k ≤ len ∧ (∀ j, j < k → deepX (kid j) nm = -1) ∧ Below W.heap.size W wr) (fun i _ => len - (intOf i).toNat)
        case atStart => exact ⟨0, rfl, Nat.zero_le _, fun j hj => absurd hj (Nat.not_lt_zero _), Below.refl _ _⟩
        case round =>
          obtain ⟨k, rfl, hk, hall, hbel⟩ := hrel
          have HB : Hid (Below W.heap.size W wr) := hbel
          have HALL : Hid (∀ j, j < k → deepX (kid j) nm = -1) := hall
          clear hbel hall
          obtain ⟨x0, x1, x2, x3, x4, x5⟩ := (KW.out wr HB.out).2.cells
          by_cases hlt : (k : Int) < len
          · have hk' : k < len := by omega
            obtain ⟨b, o, sk, uk, hp, hd, hink⟩ := HAT.out k hk'
            subst hp
            have HKID : Hid (∀ wx, Below W.heap.size W wx → Head6 wx b (o + k * 6) (kid k) sk uk ∧ (kid k).At 0 wx sk uk) := fun wx hx => ⟨hd.below (KW.out wx hx).1, hink.below (KW.out wx hx).1⟩
            have HAT2 : Hid (∀ i, i < len → ∃ sv u, ∀ wx, Below W.heap.size W wx → Head6 wx b (o + i * 6) (kid i) sv u) := fun i hi => by
              obtain ⟨b', o', sj, uj, hp', hdj, hinj⟩ := HAT.out i hi
              simp only [Option.some.injEq, Addr.mk.injEq, and_true] at hp'
              obtain ⟨rfl, rfl⟩ := hp'
              exact ⟨sj, uj, fun wx hx => hdj.below (KW.out wx hx).1⟩
            obtain ⟨c0, c1, c2, c3, c4, c5⟩ := (HKID.out wr HB.out).1
            clear hd hink
            go_wp2_with fail
            refine (IH.out k hk' _ sk uk (HKID.out _ HB.out).2).mono ?_
            rintro e w1 ⟨rfl, hb1⟩
            have HB1 : Hid (Below W.heap.size W w1) := HB.out.trans (hb1.mono HB.out.size)
            clear hb1 c0 c1 c2 c3 c4 c5 x0 x1 x2 x3 x4 x5 HB
            obtain ⟨x0, x1, x2, x3, x4, x5⟩ := (KW.out w1 HB1.out).2.cells
            obtain ⟨hd1, hd2⟩ := HLE.out k hk'
            obtain ⟨d, hd⟩ : ∃ d, d = deepX (kid k) nm := ⟨_, rfl⟩
            have HD : Hid (d = deepX (kid k) nm) := hd
            rw [← hd] at hd1 hd2 ⊢
            clear hd
            by_cases hd0 : 0 ≤ d
            · have HF : Hid (res = kidDeep len kid d k) := by
                show _ = _
                rw [HE.out, firstD_at (j := k) hk' (fun j hj => by rw [HALL.out j hj]; simp) (fun j hj => by rw [HALL.out j hj]; simp)]
                · rw [← HD.out, if_pos hd0]
                · rw [← HD.out, if_pos hd0]
                  have := kidDeep_ge len kid d k
                  omega
              by_cases he : k + 2 = len
              · have t3 : ((k : Int) == (len : Int) - 2) = true := by rw [beq_iff_eq]; omega
                obtain ⟨sj, uj, hdj⟩ := HAT2.out (k + 1) (by omega)
                obtain ⟨f0, f1, f2, f3, f4, f5⟩ := hdj w1 HB1.out
                have HFK : Hid (kidDeep len kid d k = if dotsX (kid (k + 1)) = true then d + 1 else d) := by
                  show _ = _
                  unfold kidDeep oftenX
                  rw [show len - 1 = k + 1 by omega]
                  cases dotsX (kid (k + 1))
                  · rw [if_neg (by simp)]; rfl
                  · rw [if_pos (show (k : Int) = if 2 ≤ len ∧ true = true then (len : Int) - 2 else -1 by rw [if_pos ⟨by omega, rfl⟩]; omega)]; rfl
                clear hdj
                subst he
                go_wp2_with fail
                refine (spec_dots (kid (k + 1)) sj uj w1).mono ?_
                rintro e w2 ⟨rfl, hb2⟩
                have HBV : Hid (Below W.heap.size W w2) := HB1.out.trans (hb2.mono HB1.out.size)
                clear hb2 x0 x1 x2 x3 x4 x5 f0 f1 f2 f3 f4 f5
                cases hdt : dotsX (kid (k + 1))
                all_goals
                  have HFL := HF.out
                  rw [HFK.out, hdt] at HFL
                  have HFM := hid_ofD HFL
                  clear HFL
                  go_wp2_with fail
                  refine (spec_bit _ w2).mono ?_
                  rintro e w3 ⟨rfl, rfl⟩
                  go_wp2_with fail
                  go_ret
                  exact ⟨by rw [HFM.out]; simp, (KW.out _ HBV.out).1⟩
              · have t3 : ((k : Int) == (len : Int) - 2) = false := by rw [beq_eq_false_iff_ne]; omega
                have HFK : Hid (kidDeep len kid d k = d) := by
                  show _ = _
                  unfold kidDeep oftenX
                  rw [if_neg]
                  split
                  · omega
                  · omega
                go_wp2_with fail
                refine (spec_bit _ w1).mono ?_
                rintro e w3 ⟨rfl, rfl⟩
                go_wp2_with fail
                go_ret
                exact ⟨by rw [HF.out, HFK.out]; simp, (KW.out _ HB1.out).1⟩
            · have hdm : d = -1 := by omega
              have HG : Hid (∀ j, j < k + 1 → deepX (kid j) nm = -1) := fun j hj => by
                by_cases hjk : j = k
                · subst hjk; rw [← HD.out]; exact hdm
                · exact HALL.out j (by omega)
              go_wp2_with fail
              go_roundw
              case rel => first | exact ⟨k + 1, by go_num, by omega, HG.out, HB1.out⟩ | ((repeat apply Exists.intro); exact ⟨⟨k + 1, by go_num, by omega, HG.out, HB1.out⟩, rfl⟩)
              case measure => simp [intOf]; omega
          · have hke : k = len := by omega
            subst hke
            have HE2 : Hid (res = -1) := by show _ = _; rw [HE.out]; exact firstD_none (fun j hj => by rw [HALL.out j hj]; simp) (fun j hj => by rw [HALL.out j hj]; simp)
            go_wp2_with fail
            go_ret
            exact ⟨by rw [HE2.out]; rfl, (KW.out wr HB.out).1⟩
end Go.Proofs.YtlclfmjpnchmbaaGreat
