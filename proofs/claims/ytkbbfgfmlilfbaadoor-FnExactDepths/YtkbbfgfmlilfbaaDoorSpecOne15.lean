/- spec.l15One: a work goes on from a place. Conditions: the place's numbers are such as a right function has. Written by wip/tools/mkone15.py. -/
import Derived.Test.YtkbbfgfmlilfbaaDoorSpecGo15
import Derived.Test.YtkbbfgfmlilfbaaDoorSpecEffect
import Derived.Test.YtkbbfgfmlilfbaaDoorVerQ
namespace Go.Proofs.YtkbbfgfmlilfbaaDoor
open Go.ChangeShapes Go.WideShapes Go.ChangeAt Go.RowKit

theorem goL_len (s d : Int) (st : List Int × List Int × Bool) : (goL s d st).1.length = st.1.length ∧ (goL s d st).2.1.length ≤ st.2.1.length + 1 := by
  obtain ⟨D, T, ok⟩ := st
  unfold goL
  simp only
  split
  · exact ⟨rfl, Nat.le_succ _⟩
  split
  · exact ⟨List.length_set, by simp⟩
  split
  · exact ⟨rfl, Nat.le_succ _⟩
  · exact ⟨rfl, Nat.le_succ _⟩
theorem VPost.after {ty : TypeId} {B Q : Nat} {vd vt vd1 vt1 : Value} {st : List Int × List Int × Bool} {w w1 : World} {e : Ending} {w' : World} (h : VPost ty B Q vd1 vt1 st w1 e w') (k : VK Q vd vt w vd1 vt1 w1) : VPost ty B Q vd vt st w e w' :=
  ⟨h.1, by obtain ⟨vd', vt', hs, hk⟩ := h.2; exact ⟨vd', vt', hs, k.trans hk⟩⟩

set_option maxRecDepth 100000 in
set_option maxHeartbeats 16000000 in
theorem spec_one15 (f : Fu) (w0 w : World) (Q : Nat) (vd vt : Value) (D T : List Int) (ok : Bool) (h : VSt 51 w0.heap.size Q vd vt D T ok w) (hb : Below w0.heap.size w0 w) (v : Value) (hv : Ol w0 f.len f.op v) (k : Nat) (hk : k < f.len) (d : Int) (hd : D[k]? = some d) (hd0 : 0 ≤ d) (hd1 : d ≤ 60)
    (ht : 0 ≤ takesO (f.op k)) (hs : ∀ s ∈ succO (f.op k) k, 0 ≤ s) (hD : D.length ≤ 536870912) (hT : T.length ≤ 536870912) :
    Calls Tryd.prog 25 #[.pointer (some ⟨Q, 0, none⟩), v, .int .i64 k] w (VPost 51 w0.heap.size Q vd vt (oneL (f.op k) k d (D, T, ok)) w) := by
  obtain ⟨p, cap, ev, hlm, hat⟩ := hv.at
  obtain ⟨b, o, ep, hh, hok⟩ := hat k hk
  obtain ⟨a0, a1, a2⟩ := hh.below hb
  have hkl : k < D.length := (List.getElem?_eq_some_iff.1 hd).1
  generalize hq : f.op k = q at *
  have hnx : badO d q = false → 0 ≤ nextO d q ∧ nextO d q ≤ 61 ∧ takesO q ≤ d - 1 := fun e => by
    have h1 := next_pos e
    unfold badO at e
    simp only [Bool.or_eq_false_iff, decide_eq_false_iff_not] at e
    have h2 : putsO q ≤ 1 := by unfold putsO; split <;> omega
    unfold nextO at h1 ⊢
    omega
  obtain ⟨V, hV⟩ : ∃ V, V = w.alloc (.cells #[.int .i64 q.c, .int .i64 q.n, .int .i64 q.m] 26) := ⟨_, rfl⟩
  obtain ⟨N, hN⟩ : ∃ N, N = w.heap.size := ⟨_, rfl⟩
  have bV : Below w.heap.size w V := by rw [hV]; exact newb w _
  have hbx : V.heap[N]? = some (.cells #[.int .i64 q.c, .int .i64 q.n, .int .i64 q.m] 26 (0, 0)) := by rw [hV, hN]; exact heap_alloc_new w _
  have HVV : Hid (V = w.alloc (.cells #[.int .i64 q.c, .int .i64 q.n, .int .i64 q.m] 26) ∧ N = w.heap.size) := ⟨hV, hN⟩
  have hsV := h.below bV
  obtain ⟨⟨k0, k1, k2⟩, kf⟩ := hsV.cell
  obtain ⟨g, cd, ed, hown, hcc, hcm, _, hcl⟩ := own_cells hsV.deps (by omega)
  have c0 := hcl k d hd
  have v0 : V.cell? ⟨N, 0, none⟩ = some (.int .i64 q.c) := cell_of_row V _ 0 _ _ _ hbx
  have v1 : V.cell? ⟨N, 1, none⟩ = some (.int .i64 q.n) := cell_of_row V _ 1 _ _ _ hbx
  have v2 : V.cell? ⟨N, 2, none⟩ = some (.int .i64 q.m) := cell_of_row V _ 2 _ _ _ hbx
  have HVK : Hid (VK Q vd vt w vd vt V ∧ VSt 51 w0.heap.size Q vd vt D T ok V) := ⟨VK.of_below bV, hsV⟩
  have HEF : Hid (Calls Tryd.prog 6 #[.agg #[.int .i64 q.c, .int .i64 q.n, .int .i64 q.m]] V fun e w' => e = .returned (.tuple #[.int .i64 (takesO q), .int .i64 (putsO q)]) ∧ Below V.heap.size V w') := spec_effect q V
  have HBX : Hid (∀ w1, Below V.heap.size V w1 → (w1.cell? ⟨N, 0, none⟩ = some (.int .i64 q.c) ∧ w1.cell? ⟨N, 1, none⟩ = some (.int .i64 q.n) ∧ w1.cell? ⟨N, 2, none⟩ = some (.int .i64 q.m)) ∧ (w1.cell? ⟨Q, 2, none⟩ = some (.bool ok) ∧ w1.frozen? ⟨Q, 2, none⟩ = false)) := fun w1 hb1 =>
    ⟨⟨keeps hb1 _ _ v0, keeps hb1 _ _ v1, keeps hb1 _ _ v2⟩, ⟨keeps hb1 _ _ k2, (World.frozen?_of_block (w := V) (hb1.block Q hsV.lt)).trans (kf 2)⟩⟩
  obtain ⟨POST, hPO⟩ : ∃ POST, POST = VPost 51 w0.heap.size Q vd vt (oneL q k d (D, T, ok)) w := ⟨_, rfl⟩
  rw [← hPO]
  have HBAD : Hid (badO d q = true → ∀ w1, Below V.heap.size V w1 → POST (.returned (.tuple #[])) (w1.setCell ⟨Q, 2, none⟩ (.bool false))) := fun e w1 hb1 => by
    have e2 : oneL q k d (D, T, ok) = (D, T, false) := by unfold oneL; rw [if_pos e]
    rw [hPO, e2]
    have h1 := (HVK.out.2.below hb1).flag false
    exact ⟨rfl, vd, vt, h1.1, HVK.out.1.trans ((VK.of_below hb1).trans h1.2)⟩
  have HFIN : Hid (badO d q = false → ∀ e w1 w', Below V.heap.size V w1 → VPost 51 w0.heap.size Q vd vt ((succO q k).foldl (fun st s => goL s (nextO d q) st) (D, T, ok)) w1 e w' → POST e w') := fun e0 e w1 w' hb1 hp => by
    have e2 : oneL q k d (D, T, ok) = (succO q k).foldl (fun st s => goL s (nextO d q) st) (D, T, ok) := by unfold oneL; rw [if_neg (by rw [e0]; simp)]
    rw [hPO, e2]
    exact hp.after (HVK.out.1.trans (VK.of_below hb1))
  have HGO : Hid (∀ w1, Below V.heap.size V w1 → ∀ s : Int, 0 ≤ s → Calls Tryd.prog 24 #[.pointer (some ⟨Q, 0, none⟩), .int .i64 s, .int .i64 (nextO d q)] w1 (VPost 51 w0.heap.size Q vd vt (goL s (nextO d q) (D, T, ok)) w1)) := fun w1 hb1 s h0 =>
    spec_go15 w0.heap.size Q vd vt D T ok w1 (HVK.out.2.below hb1) s _ h0 (by omega) (by omega)
  have HGO2 : Hid (∀ w1 w2 vd2 vt2 (s1 s2 : Int), 0 ≤ s2 → VSt 51 w0.heap.size Q vd2 vt2 (goL s1 (nextO d q) (D, T, ok)).1 (goL s1 (nextO d q) (D, T, ok)).2.1 (goL s1 (nextO d q) (D, T, ok)).2.2 w2 → VK Q vd vt w1 vd2 vt2 w2 →
      Calls Tryd.prog 24 #[.pointer (some ⟨Q, 0, none⟩), .int .i64 s2, .int .i64 (nextO d q)] w2 (VPost 51 w0.heap.size Q vd vt (goL s2 (nextO d q) (goL s1 (nextO d q) (D, T, ok))) w1)) := fun w1 w2 vd2 vt2 s1 s2 h0 hs2 hk2 => by
    have hl := goL_len s1 (nextO d q) (D, T, ok)
    have h3 : (goL s1 (nextO d q) (D, T, ok)).2.1.length ≤ T.length + 1 := hl.2
    have h4 : (goL s1 (nextO d q) (D, T, ok)).1.length = D.length := hl.1
    exact (spec_go15 w0.heap.size Q vd2 vt2 _ _ _ w2 hs2 s2 _ h0 (by omega) (by omega)).mono fun e w' hp => hp.after hk2
  have hbd : badO d q = (decide (d - 1 < takesO q) || (decide (q.c = 2) && decide (d ≤ q.n)) || (decide (q.c = 7) && !decide (d = 2))) := rfl
  have hnd : nextO d q = d - takesO q + putsO q := rfl
  obtain ⟨hc1, hn1, hm1⟩ := hok
  unfold I64 at hc1 hn1 hm1
  have hpu : 0 ≤ putsO q ∧ putsO q ≤ 1 := by unfold putsO; split <;> omega
  rw [ed] at k0
  have HSS : Hid (∀ s ∈ succO q k, 0 ≤ s) := hs
  have hsd : succO q k = if q.c = 7 ∨ q.c = 21 then [] else if q.c = 19 then [q.n] else if q.c = 18 then [q.n, (k : Int) + 1] else if q.c = 10 ∨ q.c = 11 then [q.m, (k : Int) + 1] else [(k : Int) + 1] := rfl
  clear hV hN bV hbx h hb hv hat hh hd hq hsV hPO hown hcl hs kf k1
  subst ev ep
  generalize hta : takesO q = ta at *
  generalize hpa : putsO q = pu at *
  generalize hnxe : nextO d q = nx at *
  generalize q.n = qn at *
  generalize q.m = qm at *
  unfold maxLen at hlm hcm
  by_cases hA : d - 1 < ta
  · have hbb : badO d q = true := by rw [hbd, decide_eq_true hA]; rfl
    generalize hqc : q.c = qc at *
    have HBD : Hid (∀ w1, Below V.heap.size V w1 → POST (.returned (.tuple #[])) (w1.setCell ⟨Q, 2, none⟩ (.bool false))) := HBAD.out hbb
    clear HBAD HFIN hbb hbd hsd hnx hnd hqc
    go_enter Tryd.func25, Tryd.ntmps25
    go_upto_region 1 with fail
    rw [← HVV.out.2, ← HVV.out.1]
    go_wp2_with fail
    refine HEF.out.mono ?_
    rintro e w1 ⟨rfl, hb1⟩
    have HB1 : Hid (Below V.heap.size V w1) := hb1
    obtain ⟨⟨v0, v1, v2⟩, k2, kf2⟩ := HBX.out w1 hb1
    clear hb1
    have HE : Hid (POST (.returned (.tuple #[])) (w1.setCell ⟨Q, 2, none⟩ (.bool false))) := HBD.out w1 HB1.out
    go_wp2_with fail
    first
      | (go_end0; exact HE.out)
      | (refine bodyPost_ret (results_none rfl _ _ _) rfl ?_; exact HE.out)
  have hfal : ¬ d - 1 < ta := hA
  have hok2 : q.c = 2 → qn < d ∨ d ≤ qn := fun _ => by omega
  by_cases hB : q.c = 2 ∧ d ≤ qn
  · obtain ⟨hB1, hB2⟩ := hB
    have hbb : badO d q = true := by rw [hbd, decide_eq_true hB1, decide_eq_true hB2]; simp
    rw [hB1] at HEF HBX HVV v0 a0
    clear hok2
    have HBD : Hid (∀ w1, Below V.heap.size V w1 → POST (.returned (.tuple #[])) (w1.setCell ⟨Q, 2, none⟩ (.bool false))) := HBAD.out hbb
    clear HBAD HFIN hbb hbd hsd hnx hnd HSS HGO HGO2 hB1
    go_enter Tryd.func25, Tryd.ntmps25
    go_upto_region 1 with fail
    rw [← HVV.out.2, ← HVV.out.1]
    go_wp2_with fail
    refine HEF.out.mono ?_
    rintro e w1 ⟨rfl, hb1⟩
    have HB1 : Hid (Below V.heap.size V w1) := hb1
    obtain ⟨⟨v0, v1, v2⟩, k2, kf2⟩ := HBX.out w1 hb1
    clear hb1
    have HE : Hid (POST (.returned (.tuple #[])) (w1.setCell ⟨Q, 2, none⟩ (.bool false))) := HBD.out w1 HB1.out
    go_wp2_with fail
    first
      | (go_end0; exact HE.out)
      | (refine bodyPost_ret (results_none rfl _ _ _) rfl ?_; exact HE.out)
  by_cases hC : q.c = 7 ∧ d ≠ 2
  · obtain ⟨hC1, hC2⟩ := hC
    have hbb : badO d q = true := by rw [hbd, decide_eq_true hC1, decide_eq_false hC2]; simp
    have hC3 : (d != 2) = true := by simpa using hC2
    have hC4 : (d == 2) = false := by simpa using hC2
    rw [hC1] at HEF HBX HVV v0 a0
    clear hok2 hC2
    have HBD : Hid (∀ w1, Below V.heap.size V w1 → POST (.returned (.tuple #[])) (w1.setCell ⟨Q, 2, none⟩ (.bool false))) := HBAD.out hbb
    clear HBAD HFIN hbb hbd hsd hnx hnd HSS HGO HGO2 hB hC1
    go_enter Tryd.func25, Tryd.ntmps25
    go_upto_region 1 with fail
    rw [← HVV.out.2, ← HVV.out.1]
    go_wp2_with fail
    refine HEF.out.mono ?_
    rintro e w1 ⟨rfl, hb1⟩
    have HB1 : Hid (Below V.heap.size V w1) := hb1
    obtain ⟨⟨v0, v1, v2⟩, k2, kf2⟩ := HBX.out w1 hb1
    clear hb1
    have HE : Hid (POST (.returned (.tuple #[])) (w1.setCell ⟨Q, 2, none⟩ (.bool false))) := HBD.out w1 HB1.out
    go_wp2_with fail
    first
      | (go_end0; exact HE.out)
      | (refine bodyPost_ret (results_none rfl _ _ _) rfl ?_; exact HE.out)
  have hbb : badO d q = false := by
    rw [hbd, decide_eq_false hfal]
    by_cases h2 : q.c = 2
    · have : ¬ d ≤ qn := fun h => hB ⟨h2, h⟩
      rw [decide_eq_false this, decide_eq_false (by omega : ¬ q.c = 7)]; simp
    · by_cases h7 : q.c = 7
      · have : d = 2 := Decidable.not_not.1 (fun h => hC ⟨h7, h⟩)
        rw [decide_eq_false h2, decide_eq_true this]; simp
      · rw [decide_eq_false h2, decide_eq_false h7]; simp
  obtain ⟨hx1, hx2, hx3⟩ := hnx hbb
  have HFI : Hid (∀ e w1 w', Below V.heap.size V w1 → VPost 51 w0.heap.size Q vd vt ((succO q k).foldl (fun st s => goL s nx st) (D, T, ok)) w1 e w' → POST e w') := HFIN.out hbb
  have hnd' : d - ta + pu = nx := hnd.symm
  have HND : Hid (nx = d - ta + pu) := hnd
  clear HBAD HFIN hbb hbd hnx hnd hok2
  by_cases hc7 : q.c = 7
  · have hc := hc7
    clear hc7
    have HSU : Hid (succO q k = []) := by rw [hsd, hc]; rfl
    have HS0 : Hid (∀ s ∈ ([] : List Int), 0 ≤ s) := by rw [← HSU.out]; exact HSS.out
    rw [hc] at HEF HBX HVV v0 a0
    have h22 : d = 2 := Decidable.not_not.1 (fun h => hC ⟨hc, h⟩)
    have h23 : (d != 2) = false := by simp [h22]
    have h24 : (d == 2) = true := by simp [h22]
    clear h22
    clear hsd hc hB hC HSS
    go_enter Tryd.func25, Tryd.ntmps25
    go_upto_region 1 with fail
    rw [← HVV.out.2, ← HVV.out.1]
    go_wp2_with fail
    refine HEF.out.mono ?_
    rintro e w1 ⟨rfl, hb1⟩
    have HB1 : Hid (Below V.heap.size V w1) := hb1
    obtain ⟨⟨v0, v1, v2⟩, k2, kf2⟩ := HBX.out w1 hb1
    clear hb1
    rw [HSU.out] at HFI
    have HE : Hid (POST (.returned (.tuple #[])) w1) := HFI.out _ w1 w1 HB1.out ⟨rfl, vd, vt, HVK.out.2.below HB1.out, VK.refl _ _ _ _⟩
    go_wp2_with fail
    first
      | (go_end0; exact HE.out)
      | (refine bodyPost_ret (results_none rfl _ _ _) rfl ?_; exact HE.out)
  by_cases hc2 : q.c = 2
  · have hc := hc2
    clear hc2
    have HSU : Hid (succO q k = [(k : Int) + 1]) := by rw [hsd, hc]; rfl
    have HS0 : Hid (∀ s ∈ ([(k : Int) + 1] : List Int), 0 ≤ s) := by rw [← HSU.out]; exact HSS.out
    rw [hc] at HEF HBX HVV v0 a0
    clear hc7
    have h22 : ¬ d ≤ qn := fun h => hB ⟨hc, h⟩
    clear hsd hc hB hC HSS
    go_enter Tryd.func25, Tryd.ntmps25
    go_upto_region 1 with fail
    rw [← HVV.out.2, ← HVV.out.1]
    go_wp2_with fail
    refine HEF.out.mono ?_
    rintro e w1 ⟨rfl, hb1⟩
    have HB1 : Hid (Below V.heap.size V w1) := hb1
    obtain ⟨⟨v0, v1, v2⟩, k2, kf2⟩ := HBX.out w1 hb1
    clear hb1
    rw [HSU.out] at HFI
    have HCL : Hid (Calls Tryd.prog 24 #[.pointer (some ⟨Q, 0, none⟩), .int .i64 ((k : Int) + 1), .int .i64 (d - ta + pu)] w1 (fun e w' => e = .returned (.tuple #[]) ∧ POST (.returned (.tuple #[])) w')) := by
      rw [← HND.out]
      exact (HGO.out w1 HB1.out ((k : Int) + 1) (HS0.out _ (by simp))).mono fun e w' hp => by
        have e1 := hp.1
        subst e1
        exact ⟨rfl, HFI.out _ w1 w' HB1.out hp⟩
    clear HGO HGO2 HND hnd' hx1 hx2
    go_wp2_with fail
    refine HCL.out.mono ?_
    rintro e w2 ⟨rfl, hp⟩
    have HE : Hid (POST (.returned (.tuple #[])) w2) := hp
    clear hp
    go_wp2_with fail
    first
      | (go_end0; exact HE.out)
      | (refine bodyPost_ret (results_none rfl _ _ _) rfl ?_; exact HE.out)
  by_cases hc21 : q.c = 21
  · have hc := hc21
    clear hc21
    have HSU : Hid (succO q k = []) := by rw [hsd, hc]; rfl
    have HS0 : Hid (∀ s ∈ ([] : List Int), 0 ≤ s) := by rw [← HSU.out]; exact HSS.out
    rw [hc] at HEF HBX HVV v0 a0
    clear hc7 hc2
    clear hsd hc hB hC HSS
    go_enter Tryd.func25, Tryd.ntmps25
    go_upto_region 1 with fail
    rw [← HVV.out.2, ← HVV.out.1]
    go_wp2_with fail
    refine HEF.out.mono ?_
    rintro e w1 ⟨rfl, hb1⟩
    have HB1 : Hid (Below V.heap.size V w1) := hb1
    obtain ⟨⟨v0, v1, v2⟩, k2, kf2⟩ := HBX.out w1 hb1
    clear hb1
    rw [HSU.out] at HFI
    have HE : Hid (POST (.returned (.tuple #[])) w1) := HFI.out _ w1 w1 HB1.out ⟨rfl, vd, vt, HVK.out.2.below HB1.out, VK.refl _ _ _ _⟩
    go_wp2_with fail
    first
      | (go_end0; exact HE.out)
      | (refine bodyPost_ret (results_none rfl _ _ _) rfl ?_; exact HE.out)
  by_cases hc19 : q.c = 19
  · have hc := hc19
    clear hc19
    have HSU : Hid (succO q k = [qn]) := by rw [hsd, hc]; rfl
    have HS0 : Hid (∀ s ∈ ([qn] : List Int), 0 ≤ s) := by rw [← HSU.out]; exact HSS.out
    rw [hc] at HEF HBX HVV v0 a0
    clear hc7 hc2 hc21
    clear hsd hc hB hC HSS
    go_enter Tryd.func25, Tryd.ntmps25
    go_upto_region 1 with fail
    rw [← HVV.out.2, ← HVV.out.1]
    go_wp2_with fail
    refine HEF.out.mono ?_
    rintro e w1 ⟨rfl, hb1⟩
    have HB1 : Hid (Below V.heap.size V w1) := hb1
    obtain ⟨⟨v0, v1, v2⟩, k2, kf2⟩ := HBX.out w1 hb1
    clear hb1
    rw [HSU.out] at HFI
    have HCL : Hid (Calls Tryd.prog 24 #[.pointer (some ⟨Q, 0, none⟩), .int .i64 qn, .int .i64 (d - ta + pu)] w1 (fun e w' => e = .returned (.tuple #[]) ∧ POST (.returned (.tuple #[])) w')) := by
      rw [← HND.out]
      exact (HGO.out w1 HB1.out qn (HS0.out _ (by simp))).mono fun e w' hp => by
        have e1 := hp.1
        subst e1
        exact ⟨rfl, HFI.out _ w1 w' HB1.out hp⟩
    clear HGO HGO2 HND hnd' hx1 hx2
    go_wp2_with fail
    refine HCL.out.mono ?_
    rintro e w2 ⟨rfl, hp⟩
    have HE : Hid (POST (.returned (.tuple #[])) w2) := hp
    clear hp
    go_wp2_with fail
    first
      | (go_end0; exact HE.out)
      | (refine bodyPost_ret (results_none rfl _ _ _) rfl ?_; exact HE.out)
  by_cases hc18 : q.c = 18
  · have hc := hc18
    clear hc18
    have HSU : Hid (succO q k = [qn, (k : Int) + 1]) := by rw [hsd, hc]; rfl
    have HS0 : Hid (∀ s ∈ ([qn, (k : Int) + 1] : List Int), 0 ≤ s) := by rw [← HSU.out]; exact HSS.out
    rw [hc] at HEF HBX HVV v0 a0
    clear hc7 hc2 hc21 hc19
    clear hsd hc hB hC HSS
    go_enter Tryd.func25, Tryd.ntmps25
    go_upto_region 1 with fail
    rw [← HVV.out.2, ← HVV.out.1]
    go_wp2_with fail
    refine HEF.out.mono ?_
    rintro e w1 ⟨rfl, hb1⟩
    have HB1 : Hid (Below V.heap.size V w1) := hb1
    obtain ⟨⟨v0, v1, v2⟩, k2, kf2⟩ := HBX.out w1 hb1
    clear hb1
    rw [HSU.out] at HFI
    have HC1 : Hid (Calls Tryd.prog 24 #[.pointer (some ⟨Q, 0, none⟩), .int .i64 qn, .int .i64 (d - ta + pu)] w1 (VPost 51 w0.heap.size Q vd vt (goL qn nx (D, T, ok)) w1)) := by
      rw [← HND.out]
      exact HGO.out w1 HB1.out qn (HS0.out _ (by simp))
    have HC2 : Hid (∀ w2 vd2 vt2, VSt 51 w0.heap.size Q vd2 vt2 (goL qn nx (D, T, ok)).1 (goL qn nx (D, T, ok)).2.1 (goL qn nx (D, T, ok)).2.2 w2 → VK Q vd vt w1 vd2 vt2 w2 → Calls Tryd.prog 24 #[.pointer (some ⟨Q, 0, none⟩), .int .i64 ((k : Int) + 1), .int .i64 (d - ta + pu)] w2 (fun e w' => e = .returned (.tuple #[]) ∧ POST (.returned (.tuple #[])) w')) := fun w2 vd2 vt2 hs2 hk2 => by
      rw [← HND.out]
      exact (HGO2.out w1 w2 vd2 vt2 qn ((k : Int) + 1) (HS0.out _ (by simp)) hs2 hk2).mono fun e w' hp => by
        have e1 := hp.1
        subst e1
        exact ⟨rfl, HFI.out _ w1 w' HB1.out hp⟩
    clear HGO HGO2 HND hnd' hx1 hx2
    go_wp2_with fail
    refine HC1.out.mono ?_
    rintro e w2 ⟨rfl, vd2, vt2, hs2, hk2⟩
    have HC3 : Hid (Calls Tryd.prog 24 #[.pointer (some ⟨Q, 0, none⟩), .int .i64 ((k : Int) + 1), .int .i64 (d - ta + pu)] w2 (fun e w' => e = .returned (.tuple #[]) ∧ POST (.returned (.tuple #[])) w')) := HC2.out w2 vd2 vt2 hs2 hk2
    clear hs2 hk2 HC1 HC2
    go_wp2_with fail
    refine HC3.out.mono ?_
    rintro e w3 ⟨rfl, hp⟩
    have HE : Hid (POST (.returned (.tuple #[])) w3) := hp
    clear hp
    go_wp2_with fail
    first
      | (go_end0; exact HE.out)
      | (refine bodyPost_ret (results_none rfl _ _ _) rfl ?_; exact HE.out)
  by_cases hc10 : q.c = 10
  · have hc := hc10
    clear hc10
    have HSU : Hid (succO q k = [qm, (k : Int) + 1]) := by rw [hsd, hc]; rfl
    have HS0 : Hid (∀ s ∈ ([qm, (k : Int) + 1] : List Int), 0 ≤ s) := by rw [← HSU.out]; exact HSS.out
    rw [hc] at HEF HBX HVV v0 a0
    clear hc7 hc2 hc21 hc19 hc18
    clear hsd hc hB hC HSS
    go_enter Tryd.func25, Tryd.ntmps25
    go_upto_region 1 with fail
    rw [← HVV.out.2, ← HVV.out.1]
    go_wp2_with fail
    refine HEF.out.mono ?_
    rintro e w1 ⟨rfl, hb1⟩
    have HB1 : Hid (Below V.heap.size V w1) := hb1
    obtain ⟨⟨v0, v1, v2⟩, k2, kf2⟩ := HBX.out w1 hb1
    clear hb1
    rw [HSU.out] at HFI
    have HC1 : Hid (Calls Tryd.prog 24 #[.pointer (some ⟨Q, 0, none⟩), .int .i64 qm, .int .i64 (d - ta + pu)] w1 (VPost 51 w0.heap.size Q vd vt (goL qm nx (D, T, ok)) w1)) := by
      rw [← HND.out]
      exact HGO.out w1 HB1.out qm (HS0.out _ (by simp))
    have HC2 : Hid (∀ w2 vd2 vt2, VSt 51 w0.heap.size Q vd2 vt2 (goL qm nx (D, T, ok)).1 (goL qm nx (D, T, ok)).2.1 (goL qm nx (D, T, ok)).2.2 w2 → VK Q vd vt w1 vd2 vt2 w2 → Calls Tryd.prog 24 #[.pointer (some ⟨Q, 0, none⟩), .int .i64 ((k : Int) + 1), .int .i64 (d - ta + pu)] w2 (fun e w' => e = .returned (.tuple #[]) ∧ POST (.returned (.tuple #[])) w')) := fun w2 vd2 vt2 hs2 hk2 => by
      rw [← HND.out]
      exact (HGO2.out w1 w2 vd2 vt2 qm ((k : Int) + 1) (HS0.out _ (by simp)) hs2 hk2).mono fun e w' hp => by
        have e1 := hp.1
        subst e1
        exact ⟨rfl, HFI.out _ w1 w' HB1.out hp⟩
    clear HGO HGO2 HND hnd' hx1 hx2
    go_wp2_with fail
    refine HC1.out.mono ?_
    rintro e w2 ⟨rfl, vd2, vt2, hs2, hk2⟩
    have HC3 : Hid (Calls Tryd.prog 24 #[.pointer (some ⟨Q, 0, none⟩), .int .i64 ((k : Int) + 1), .int .i64 (d - ta + pu)] w2 (fun e w' => e = .returned (.tuple #[]) ∧ POST (.returned (.tuple #[])) w')) := HC2.out w2 vd2 vt2 hs2 hk2
    clear hs2 hk2 HC1 HC2
    go_wp2_with fail
    refine HC3.out.mono ?_
    rintro e w3 ⟨rfl, hp⟩
    have HE : Hid (POST (.returned (.tuple #[])) w3) := hp
    clear hp
    go_wp2_with fail
    first
      | (go_end0; exact HE.out)
      | (refine bodyPost_ret (results_none rfl _ _ _) rfl ?_; exact HE.out)
  by_cases hc11 : q.c = 11
  · have hc := hc11
    clear hc11
    have HSU : Hid (succO q k = [qm, (k : Int) + 1]) := by rw [hsd, hc]; rfl
    have HS0 : Hid (∀ s ∈ ([qm, (k : Int) + 1] : List Int), 0 ≤ s) := by rw [← HSU.out]; exact HSS.out
    rw [hc] at HEF HBX HVV v0 a0
    clear hc7 hc2 hc21 hc19 hc18 hc10
    clear hsd hc hB hC HSS
    go_enter Tryd.func25, Tryd.ntmps25
    go_upto_region 1 with fail
    rw [← HVV.out.2, ← HVV.out.1]
    go_wp2_with fail
    refine HEF.out.mono ?_
    rintro e w1 ⟨rfl, hb1⟩
    have HB1 : Hid (Below V.heap.size V w1) := hb1
    obtain ⟨⟨v0, v1, v2⟩, k2, kf2⟩ := HBX.out w1 hb1
    clear hb1
    rw [HSU.out] at HFI
    have HC1 : Hid (Calls Tryd.prog 24 #[.pointer (some ⟨Q, 0, none⟩), .int .i64 qm, .int .i64 (d - ta + pu)] w1 (VPost 51 w0.heap.size Q vd vt (goL qm nx (D, T, ok)) w1)) := by
      rw [← HND.out]
      exact HGO.out w1 HB1.out qm (HS0.out _ (by simp))
    have HC2 : Hid (∀ w2 vd2 vt2, VSt 51 w0.heap.size Q vd2 vt2 (goL qm nx (D, T, ok)).1 (goL qm nx (D, T, ok)).2.1 (goL qm nx (D, T, ok)).2.2 w2 → VK Q vd vt w1 vd2 vt2 w2 → Calls Tryd.prog 24 #[.pointer (some ⟨Q, 0, none⟩), .int .i64 ((k : Int) + 1), .int .i64 (d - ta + pu)] w2 (fun e w' => e = .returned (.tuple #[]) ∧ POST (.returned (.tuple #[])) w')) := fun w2 vd2 vt2 hs2 hk2 => by
      rw [← HND.out]
      exact (HGO2.out w1 w2 vd2 vt2 qm ((k : Int) + 1) (HS0.out _ (by simp)) hs2 hk2).mono fun e w' hp => by
        have e1 := hp.1
        subst e1
        exact ⟨rfl, HFI.out _ w1 w' HB1.out hp⟩
    clear HGO HGO2 HND hnd' hx1 hx2
    go_wp2_with fail
    refine HC1.out.mono ?_
    rintro e w2 ⟨rfl, vd2, vt2, hs2, hk2⟩
    have HC3 : Hid (Calls Tryd.prog 24 #[.pointer (some ⟨Q, 0, none⟩), .int .i64 ((k : Int) + 1), .int .i64 (d - ta + pu)] w2 (fun e w' => e = .returned (.tuple #[]) ∧ POST (.returned (.tuple #[])) w')) := HC2.out w2 vd2 vt2 hs2 hk2
    clear hs2 hk2 HC1 HC2
    go_wp2_with fail
    refine HC3.out.mono ?_
    rintro e w3 ⟨rfl, hp⟩
    have HE : Hid (POST (.returned (.tuple #[])) w3) := hp
    clear hp
    go_wp2_with fail
    first
      | (go_end0; exact HE.out)
      | (refine bodyPost_ret (results_none rfl _ _ _) rfl ?_; exact HE.out)
  have HSU : Hid (succO q k = [(k : Int) + 1]) := by
    show _ = _
    rw [hsd, if_neg (by omega), if_neg (by omega), if_neg (by omega), if_neg (by omega)]
  have HS0 : Hid (∀ s ∈ ([(k : Int) + 1] : List Int), 0 ≤ s) := by rw [← HSU.out]; exact HSS.out
  generalize q.c = qc at *
  have f7 : (qc == 7) = false := by simpa using hc7
  have f2 : (qc == 2) = false := by simpa using hc2
  have f21 : (qc == 21) = false := by simpa using hc21
  have f19 : (qc == 19) = false := by simpa using hc19
  have f18 : (qc == 18) = false := by simpa using hc18
  have f10 : (qc == 10) = false := by simpa using hc10
  have f11 : (qc == 11) = false := by simpa using hc11
  clear hc7 hc2 hc21 hc19 hc18 hc10 hc11 hsd hB hC HSS
  go_enter Tryd.func25, Tryd.ntmps25
  go_upto_region 1 with fail
  rw [← HVV.out.2, ← HVV.out.1]
  go_wp2_with fail
  refine HEF.out.mono ?_
  rintro e w1 ⟨rfl, hb1⟩
  have HB1 : Hid (Below V.heap.size V w1) := hb1
  obtain ⟨⟨v0, v1, v2⟩, k2, kf2⟩ := HBX.out w1 hb1
  clear hb1
  rw [HSU.out] at HFI
  have HCL : Hid (Calls Tryd.prog 24 #[.pointer (some ⟨Q, 0, none⟩), .int .i64 ((k : Int) + 1), .int .i64 (d - ta + pu)] w1 (fun e w' => e = .returned (.tuple #[]) ∧ POST (.returned (.tuple #[])) w')) := by
    rw [← HND.out]
    exact (HGO.out w1 HB1.out ((k : Int) + 1) (HS0.out _ (by simp))).mono fun e w' hp => by
      have e1 := hp.1
      subst e1
      exact ⟨rfl, HFI.out _ w1 w' HB1.out hp⟩
  clear HGO HGO2 HND hnd' hx1 hx2
  go_wp2_with fail
  refine HCL.out.mono ?_
  rintro e w2 ⟨rfl, hp⟩
  have HE : Hid (POST (.returned (.tuple #[])) w2) := hp
  clear hp
  go_wp2_with fail
  first
    | (go_end0; exact HE.out)
    | (refine bodyPost_ret (results_none rfl _ _ _) rfl ?_; exact HE.out)
end Go.Proofs.YtkbbfgfmlilfbaaDoor
