/- impl.Depths and impl.Verify at every list of functions. Conditions: the list is not too long; the table of names reads as its text lays it. -/
import Derived.Test.YtkbbfgfmlilfbaaDoorImplDepthsOf15
import Derived.Test.YtkbbfgfmlilfbaaDoorImplFunsOk2
import Derived.Test.YtkbbfgfmlilfbaaDoorSpecVerify15
namespace Go.Proofs.YtkbbfgfmlilfbaaDoor
open Go.ChangeShapes Go.WideShapes Go.ChangeAt Go.RowKit

theorem depths_of_right {nf : Nat} {kid : Nat → Fu} (h : FunsP nf kid) {j : Nat} (hj : j < nf) (w : World) (vl : Value) (fr : Int) (hv : Ol w (kid j).len (kid j).op vl) (ht : NameTab w) :
    Calls Tryd.prog 29 #[.agg #[.int .i64 fr, vl]] w (DPost (kid j) w) := by
  obtain ⟨⟨h1, h2⟩, h3⟩ := ops_right h hj
  exact impl_depths_of15 (kid j) fr w vl hv ht h1 h2 (fun k hk => ⟨⟨(h3 k hk).1, (ops_more h hj k hk).1⟩, fun s hs => ⟨(h3 k hk).2 s hs, (ops_more h hj k hk).2 s hs⟩⟩)

set_option maxRecDepth 100000 in
set_option maxHeartbeats 8000000 in
theorem impl_depths15 (nf : Nat) (kid : Nat → Fu) (i : Int) (w : World) (v : Value) (hv : Fl w nf kid v) (ht : NameTab w) :
    Calls Tryd.prog 12 #[v, .int .i64 i] w (DepsPost nf kid i w) := by
  obtain ⟨p, cap, ev, hlm, hat⟩ := hv.at
  obtain ⟨POST, hPO⟩ : ∃ POST, POST = DepsPost nf kid i w := ⟨_, rfl⟩
  rw [← hPO]
  have HFO : Hid (∀ R, (R = true ↔ FunsP nf kid) → Calls Tryd.prog 27 #[v] w fun e w' => e = .returned (.bool R) ∧ Below w.heap.size w w') := fun R h => impl_funs_ok nf kid w v hv ht R h
  have HTB : Hid (∀ w1, Below w.heap.size w w1 → NameTab w1) := fun w1 h => ht.below h
  unfold maxLen at hlm
  have HNO : Hid (¬ (FunsP nf kid ∧ 0 ≤ i ∧ i < nf ∧ DepOk (kid i.toNat)) → ∀ w', Below w.heap.size w w' → POST (.returned (.tuple #[.slice none 0 0, .bool false])) w') := fun h w' hb => by
    rw [hPO]
    exact ⟨_, false, [], rfl, hb, ⟨rfl, .inl ⟨rfl, rfl⟩⟩, .inr ⟨rfl, h, rfl⟩⟩
  by_cases hF : FunsP nf kid
  · have HF : Hid (Calls Tryd.prog 27 #[v] w fun e w' => e = .returned (.bool true) ∧ Below w.heap.size w w') := HFO.out true ⟨fun _ => hF, fun _ => rfl⟩
    by_cases hI : 0 ≤ i ∧ i < nf
    · obtain ⟨j, rfl⟩ : ∃ j : Nat, i = j := ⟨i.toNat, by omega⟩
      have hj : j < nf := by omega
      obtain ⟨b, o, u, ep, hd, hin⟩ := hat j hj
      obtain ⟨pu, cu, eu⟩ := hin.2.shape
      have HD : Hid (∀ wx, Below w.heap.size w wx → wx.cell? ⟨b, o + j * 2, none⟩ = some (.int .i64 (kid j).fr) ∧ wx.cell? ⟨b, o + j * 2 + 1, none⟩ = some (.slice pu (kid j).len cu)) := fun wx h => by rw [← eu]; exact ⟨(hd.below h).c0, (hd.below h).c1⟩
      have HCL : Hid (∀ wx, Below w.heap.size w wx → Calls Tryd.prog 29 #[.agg #[.int .i64 (kid j).fr, .slice pu (kid j).len cu]] wx (DPost (kid j) wx)) := fun wx h => depths_of_right hF hj wx _ _ (by rw [← eu]; exact hin.2.below h) (HTB.out wx h)
      have HIB : Hid (∀ w, Calls Tryd.prog 28 #[.int .i64 (j : Int), .int .i64 (nf : Int)] w fun r w' => r = .returned (.bool true) ∧ w = w') := fun w => (is_below j nf true (by rw [decide_eq_true hI.1, decide_eq_true hI.2]; rfl) w).mono fun e w' ⟨a, b⟩ => ⟨a, b.symm⟩
      have HFI : Hid (∀ u b D w' w1, Below w.heap.size w w1 → Below w1.heap.size w1 w' → w'.ownsRow w1.heap.size 3 1 u D.length (D.map (Value.int .i64)) → ((b = true ∧ DepOk (kid j) ∧ DepL (kid j) D) ∨ (b = false ∧ ¬ DepOk (kid j) ∧ D = [])) → POST (.returned (.tuple #[u, .bool b])) w') := fun u b D w' w1 hb1 hb2 ho hq => by
        rw [hPO]
        refine ⟨u, b, D, rfl, hb1.trans (hb2.mono hb1.size), own_baseV ho hb1.size, ?_⟩
        unfold DepsOf
        rw [Int.toNat_natCast]
        rcases hq with ⟨h1, h2, h3⟩ | ⟨h1, h2, h3⟩
        · exact .inl ⟨h1, ⟨hF, by omega, by omega, h2⟩, h3⟩
        · exact .inr ⟨h1, fun h => h2 h.2.2.2, h3⟩
      have hji : (j : Int) < nf := hI.2
      clear hv hat hd hin hPO hI eu HFO HNO HTB ht
      generalize kid j = f at *
      generalize f.len = fl at *
      generalize f.fr = ff at *
      subst ev ep
      go_enter Tryd.func12, Tryd.ntmps12
      go_wp2_with fail
      refine HF.out.mono ?_
      rintro e w1 ⟨rfl, hb1⟩
      have HB1 : Hid (Below w.heap.size w w1) := hb1
      clear hb1 HF
      go_wp2_with fail
      refine (HIB.out w1).mono ?_
      rintro e w2 ⟨rfl, rfl⟩
      obtain ⟨c0, c1⟩ := HD.out w1 HB1.out
      have HC1 := HCL.out w1 HB1.out
      go_wp2_with fail
      refine HC1.mono ?_
      rintro e w3 ⟨u, b, D, rfl, hb3, ho3, hq⟩
      have HE := hid_of1 (HFI.out u b D w3 w1 HB1.out hb3 ho3 hq)
      obtain ⟨pv, cv, epv⟩ := own_shapeV ho3
      subst epv
      clear hb3 ho3 hq HC1
      go_wp2_with fail
      first
        | exact HE.out
        | (go_ret2; exact HE.out)
    · have HE := hid_of1 (HNO.out (fun h => hI ⟨h.2.1, h.2.2.1⟩))
      have HIB : Hid (∀ w, Calls Tryd.prog 28 #[.int .i64 i, .int .i64 (nf : Int)] w fun r w' => r = .returned (.bool false) ∧ w = w') := fun w => (is_below i nf false (by
        by_cases h0 : 0 ≤ i
        · rw [decide_eq_false (show ¬ i < nf from fun h => hI ⟨h0, h⟩)]; simp
        · rw [decide_eq_false h0]; rfl) w).mono fun e w' ⟨a, b⟩ => ⟨a, b.symm⟩
      clear hv hat hPO HFO HNO HTB ht hI
      subst ev
      go_enter Tryd.func12, Tryd.ntmps12
      go_wp2_with fail
      refine HF.out.mono ?_
      rintro e w1 ⟨rfl, hb1⟩
      have HE1 := hid_of1 (HE.out w1 hb1)
      clear hb1 HF HE
      go_wp2_with fail
      refine (HIB.out w1).mono ?_
      rintro e w2 ⟨rfl, rfl⟩
      go_wp2_with fail
      first
        | exact HE1.out
        | (go_ret2; exact HE1.out)
  · have HF : Hid (Calls Tryd.prog 27 #[v] w fun e w' => e = .returned (.bool false) ∧ Below w.heap.size w w') := HFO.out false ⟨fun h => (by cases h), fun h => absurd h hF⟩
    have HE := hid_of1 (HNO.out (fun h => hF h.1))
    clear hv hat hPO HFO HNO HTB ht hF
    subst ev
    go_enter Tryd.func12, Tryd.ntmps12
    go_wp2_with fail
    refine HF.out.mono ?_
    rintro e w1 ⟨rfl, hb1⟩
    have HE1 := hid_of1 (HE.out w1 hb1)
    clear hb1 HF HE
    go_wp2_with fail
    first
      | exact HE1.out
      | (go_ret2; exact HE1.out)

set_option maxRecDepth 100000 in
set_option maxHeartbeats 8000000 in
theorem impl_verify15 (nf : Nat) (kid : Nat → Fu) (w : World) (v : Value) (hv : Fl w nf kid v) (ht : NameTab w) (R : Bool) (hR : R = true ↔ VerP nf kid) :
    Calls Tryd.prog 19 #[v] w fun e w' => e = .returned (.bool R) ∧ Below w.heap.size w w' := by
  obtain ⟨p, cap, ev, hlm, hat⟩ := hv.at
  have HR : Hid (R = true ↔ VerP nf kid) := hR
  have HFO : Hid (∀ R, (R = true ↔ FunsP nf kid) → Calls Tryd.prog 27 #[v] w fun e w' => e = .returned (.bool R) ∧ Below w.heap.size w w') := fun R h => impl_funs_ok nf kid w v hv ht R h
  have HTB : Hid (∀ w1, Below w.heap.size w w1 → NameTab w1) := fun w1 h => ht.below h
  have HAT : Hid (∀ i, i < nf → ∃ b o u, p = some ⟨b, o, none⟩ ∧ HeadF w b (o + i * 2) (kid i) u ∧ (kid i).InB 0 w u) := hat
  unfold maxLen at hlm
  clear hR hv hat ht
  by_cases hF : FunsP nf kid
  · have HF : Hid (Calls Tryd.prog 27 #[v] w fun e w' => e = .returned (.bool true) ∧ Below w.heap.size w w') := HFO.out true ⟨fun _ => hF, fun _ => rfl⟩
    have HFP : Hid (FunsP nf kid) := hF
    clear HFO hF
    subst ev
    go_enter Tryd.func19, Tryd.ntmps19
    go_wp2_with fail
    refine HF.out.mono ?_
    rintro e w1 ⟨rfl, hb1⟩
    have HB1 : Hid (Below w.heap.size w w1) := hb1
    clear hb1 HF
    go_wp2_with fail
    go_loopw [12] (fun x wr => ∃ k : Nat, x = .int .i64 k ∧ k ≤ nf ∧ (∀ j, j < k → DepOk (kid j)) ∧ Below w.heap.size w wr) (fun x _ => nf - (intOf x).toNat)
    case atStart => exact ⟨0, rfl, Nat.zero_le _, fun j hj => absurd hj (Nat.not_lt_zero _), HB1.out⟩
    case round =>
      obtain ⟨k, rfl, hk, hdone, hbel⟩ := hrel
      have HBL : Hid (Below w.heap.size w wr) := hbel
      have HDN : Hid (∀ j, j < k → DepOk (kid j)) := hdone
      clear hbel hdone
      by_cases hlt : (k : Int) < nf
      · have hlt' : k < nf := by omega
        obtain ⟨b, o, u, ep, hd, hin⟩ := HAT.out k hlt'
        obtain ⟨pu, cu, eu⟩ := hin.2.shape
        obtain ⟨c0, c1⟩ := hd.below HBL.out
        have HCL : Hid (∀ wx, Below w.heap.size w wx → Calls Tryd.prog 29 #[.agg #[.int .i64 (kid k).fr, .slice pu (kid k).len cu]] wx (DPost (kid k) wx)) := fun wx h => depths_of_right HFP.out hlt' wx _ _ (by rw [← eu]; exact hin.2.below h) (HTB.out wx h)
        rw [eu] at c1
        obtain ⟨V, hV⟩ : ∃ V, V = wr.alloc (.cells #[.int .i64 (kid k).fr, .slice pu (kid k).len cu] 54) := ⟨_, rfl⟩
        obtain ⟨G, hG⟩ : ∃ G, G = wr.heap.size := ⟨_, rfl⟩
        have bV : Below wr.heap.size wr V := by rw [hV]; exact newb wr _
        have HBV : Hid (Below w.heap.size w V) := HBL.out.trans (bV.mono HBL.out.size)
        have hbx : V.heap[G]? = some (.cells #[.int .i64 (kid k).fr, .slice pu (kid k).len cu] 54 (0, 0)) := by rw [hV, hG]; exact heap_alloc_new wr _
        have g0 : V.cell? ⟨G, 0, none⟩ = some (.int .i64 (kid k).fr) := cell_of_row V G 0 _ _ _ hbx
        have g1 : V.cell? ⟨G, 1, none⟩ = some (.slice pu (kid k).len cu) := cell_of_row V G 1 _ _ _ hbx
        have HVV : Hid (V = wr.alloc (.cells #[.int .i64 (kid k).fr, .slice pu (kid k).len cu] 54) ∧ G = wr.heap.size) := ⟨hV, hG⟩
        have HCV := hid_of1 (HCL.out V HBV.out)
        clear hV hG bV hbx hd hin eu HCL
        generalize (kid k).len = fl at *
        generalize (kid k).fr = ff at *
        subst ep
        go_upto_region 6 with fail
        rw [← HVV.out.1, ← HVV.out.2]
        go_wp2_with fail
        refine HCV.out.mono ?_
        rintro e w3 ⟨u2, b2, D, rfl, hb3, -, hq⟩
        have HB3 : Hid (Below w.heap.size w w3) := HBV.out.trans (hb3.mono HBV.out.size)
        clear hb3 HCV
        rcases hq with ⟨rfl, h2, -⟩ | ⟨rfl, h2, -⟩
        · have HD2 : Hid (DepOk (kid k)) := h2
          clear h2
          go_wp2_with fail
          go_roundw
          case rel => exact ⟨k + 1, by go_num, by omega, fun j hj => by
            rcases Nat.lt_or_ge j k with h | h
            · exact HDN.out j h
            · obtain rfl : j = k := by omega
              exact HD2.out, HB3.out⟩
          case measure => simp [intOf]; omega
        · have HR2 : Hid (R = false) := by
            show _ = _
            cases R with
            | false => rfl
            | true => exact absurd ((HR.out.1 rfl).2 k hlt') h2
          clear h2
          go_wp2_with fail
          first
            | exact ⟨by rw [HR2.out]; rfl, HB3.out⟩
            | (go_ret; exact ⟨by rw [HR2.out]; rfl, HB3.out⟩)
      · have hke : k = nf := by omega
        subst hke
        have HR2 : Hid (R = true) := HR.out.2 ⟨HFP.out, HDN.out⟩
        go_wp2_with fail
        first
          | exact ⟨by rw [HR2.out]; rfl, HBL.out⟩
          | (go_ret; exact ⟨by rw [HR2.out]; rfl, HBL.out⟩)
  · have HF : Hid (Calls Tryd.prog 27 #[v] w fun e w' => e = .returned (.bool false) ∧ Below w.heap.size w w') := HFO.out false ⟨fun h => (by cases h), fun h => absurd h hF⟩
    have HR2 : Hid (R = false) := by
      show _ = _
      cases R with
      | false => rfl
      | true => exact absurd (HR.out.1 rfl).1 hF
    clear HFO hF
    subst ev
    go_enter Tryd.func19, Tryd.ntmps19
    go_wp2_with fail
    refine HF.out.mono ?_
    rintro e w1 ⟨rfl, hb1⟩
    have HB1 : Hid (Below w.heap.size w w1) := hb1
    clear hb1 HF
    go_wp2_with fail
    first
      | exact ⟨by rw [HR2.out]; rfl, HB1.out⟩
      | (go_ret; exact ⟨by rw [HR2.out]; rfl, HB1.out⟩)
end Go.Proofs.YtkbbfgfmlilfbaaDoor
