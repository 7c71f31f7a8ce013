/- (*depthWork).goOn: a work goes on from a place. Conditions: the place's numbers are such as a right function has; the table of names reads as its text lays it. -/
import Derived.Test.YtkbbfgfmlilfbaaDoorImplMeet15
import Derived.Test.YtkbbfgfmlilfbaaDoorImplNext15
import Derived.Test.YtkbbfgfmlilfbaaDoorImplPlaces15
import Derived.Deep.RegionWith
namespace Go.Proofs.YtkbbfgfmlilfbaaDoor
open Go.ChangeShapes Go.WideShapes Go.ChangeAt Go.RowKit

theorem goL_lenI (s d : Int) (st : List Int × List Int × Bool) : (goL s d st).1.length = st.1.length ∧ (goL s d st).2.1.length ≤ st.2.1.length + 1 := by
  obtain ⟨D, T, ok⟩ := st
  unfold goL
  simp only
  split
  · exact ⟨rfl, Nat.le_succ _⟩
  split
  · exact ⟨List.length_set, by simp⟩
  split
  · exact ⟨rfl, Nat.le_succ _⟩
  · exact ⟨rfl, Nat.le_succ _⟩
theorem goL_neg {s d : Int} (hd : 0 ≤ d) (st : List Int × List Int × Bool) (h : ∀ x ∈ st.1, x = -1 ∨ 0 ≤ x) : ∀ x ∈ (goL s d st).1, x = -1 ∨ 0 ≤ x := by
  obtain ⟨D, T, ok⟩ := st
  unfold goL
  simp only at h ⊢
  split
  · exact h
  split
  · intro x hx
    rcases List.mem_or_eq_of_mem_set hx with h1 | h1
    · exact h x h1
    · exact .inr (by omega)
  split
  · exact h
  · exact h
/-- More of what right functions' numbers are. -/
theorem ops_more {nf : Nat} {kid : Nat → Fu} (h : FunsP nf kid) {i : Nat} (hi : i < nf) : ∀ k, k < (kid i).len → takesO ((kid i).op k) ≤ 20 ∧ ∀ s ∈ succO ((kid i).op k) k, s < (kid i).len := by
  obtain ⟨_, h2, h3⟩ := (h.2.2 i hi).2
  intro k hk
  have ho := h3 k hk
  have hend : k + 1 = (kid i).len → endB ((kid i).op k).c = true := fun e => by
    have : (kid i).len - 1 = k := by omega
    rw [this] at h2; exact h2
  generalize hq : (kid i).op k = q at ho hend ⊢
  unfold opOkF at ho
  simp only [Bool.and_eq_true] at ho
  obtain ⟨⟨_, hn⟩, hm⟩ := ho
  have bel : ∀ z e, belB z e = true → 0 ≤ z ∧ z < e := fun z e hb => by unfold belB at hb; simpa only [Bool.and_eq_true, decide_eq_true_eq] using hb
  have hk1 : ¬ (q.c = 7 ∨ q.c = 19 ∨ q.c = 21) → ((k : Int) + 1 < (kid i).len) := fun hc => by
    by_cases e : k + 1 = (kid i).len
    · have := hend e
      unfold endB at this
      simp only [Bool.or_eq_true, beq_iff_eq] at this
      omega
    · omega
  refine ⟨?_, ?_⟩
  · unfold takesO
    split
    · rename_i hc
      unfold mOkF at hm
      rcases hc with hc | hc
      · rw [if_pos hc] at hm
        unfold nOkF at hn
        rw [hc] at hn
        simp only [show ¬ ((5 : Int) = 1 ∨ (5 : Int) = 11) from by omega, show ¬ ((5 : Int) = 2) from by omega, show ¬ ((5 : Int) = 3) from by omega, show ¬ ((5 : Int) = 4) from by omega, if_false, if_true, Bool.and_eq_true] at hn
        have hb := bel _ _ hn.2
        have h4 := bel _ _ (h.2.2 q.n.toNat (by omega)).1
        simp only [beq_iff_eq] at hm
        omega
      · rw [if_neg (by omega), if_pos hc] at hm
        have := bel _ _ hm
        omega
    · split
      · omega
      · split <;> omega
  · intro s hs
    unfold succO at hs
    split at hs
    · simp at hs
    · split at hs
      · rename_i _ hc
        simp only [List.mem_singleton] at hs
        unfold nOkF at hn
        rw [if_neg (by omega), if_neg (by omega), if_neg (by omega), if_neg (by omega), if_neg (by omega), if_neg (by omega), if_pos (.inr hc)] at hn
        rw [hs]; exact (bel _ _ hn).2
      · split at hs
        · rename_i _ _ hc
          simp only [List.mem_cons, List.not_mem_nil, or_false] at hs
          rcases hs with hs | hs
          · unfold nOkF at hn
            rw [if_neg (by omega), if_neg (by omega), if_neg (by omega), if_neg (by omega), if_neg (by omega), if_neg (by omega), if_pos (.inl hc)] at hn
            rw [hs]; exact (bel _ _ hn).2
          · rw [hs]; exact hk1 (by omega)
        · split at hs
          · rename_i _ _ _ hc
            simp only [List.mem_cons, List.not_mem_nil, or_false] at hs
            rcases hs with hs | hs
            · unfold mOkF at hm
              rw [if_neg (by omega), if_neg (by omega), if_pos hc] at hm
              rw [hs]; exact (bel _ _ hm).2
            · rw [hs]; exact hk1 (by omega)
          · rename_i h7 h19 h18 h10
            simp only [List.mem_singleton] at hs
            rw [hs]; exact hk1 (by omega)

/-- What is answered, and what the work holds then. -/
def GPost (f : Fu) (k : Nat) (d : Int) (B Q : Nat) (vl vd vt : Value) (D T : List Int) (w : World) (e : Ending) (w' : World) : Prop :=
  ∃ vd' vt' D' T', DSt B Q vl vd' vt' D' T' w' ∧ VK Q vd vt w vd' vt' w' ∧
    ((e = .returned (.bool true) ∧ badO d (f.op k) = false ∧ (succI (f.op k) k).foldl (fun st s => goL s (nextO d (f.op k)) st) (D, T, true) = (D', T', true)) ∨
     (e = .returned (.bool false) ∧ (badO d (f.op k) = true ∨ ((succI (f.op k) k).foldl (fun st s => goL s (nextO d (f.op k)) st) (D, T, true)).2.2 = false)))
theorem succI_len (q : O3) (k : Int) : (succI q k).length ≤ 2 := by
  unfold succI
  split
  · simp
  split
  · simp
  split
  · simp
  split <;> simp

set_option maxRecDepth 100000 in
set_option maxHeartbeats 16000000 in
theorem impl_go_on15 (f : Fu) (w0 w : World) (Q : Nat) (vl vd vt : Value) (D T : List Int) (h : DSt w0.heap.size Q vl vd vt D T w) (hb : Below w0.heap.size w0 w) (hv : Ol w0 f.len f.op vl) (htab : NameTab w0) (k : Nat) (hk : k < f.len) (d : Int) (hd : D[k]? = some d) (hd0 : 1 ≤ d) (hd1 : d ≤ 60)
    (ht : 0 ≤ takesO (f.op k) ∧ takesO (f.op k) ≤ 20) (hs : ∀ s ∈ succO (f.op k) k, 0 ≤ s ∧ s < D.length) (hneg : ∀ x ∈ D, x = -1 ∨ 0 ≤ x) (hD : D.length ≤ 536870912) (hT : T.length ≤ 536870912) :
    Calls Tryd.prog 46 #[.pointer (some ⟨Q, 0, none⟩), .int .i64 k] w (GPost f k d w0.heap.size Q vl vd vt D T w) := by
  obtain ⟨POST, hPO⟩ : ∃ POST, POST = GPost f k d w0.heap.size Q vl vd vt D T w := ⟨_, rfl⟩
  rw [← hPO]
  obtain ⟨p, cap, ev, hlm, hat⟩ := hv.at
  obtain ⟨b, o, ep, hh, hok⟩ := hat k hk
  obtain ⟨a0, a1, a2⟩ := hh.below hb
  have hkl : k < D.length := (List.getElem?_eq_some_iff.1 hd).1
  have hkl' : (k : Int) < D.length := by omega
  have hkf : (k : Int) < f.len := by omega
  obtain ⟨⟨k0, k1, k2⟩, kf⟩ := h.cell
  obtain ⟨g, cd, ed, hown, hcc, hcm, _, hcl⟩ := own_cells h.deps (by omega)
  have c0 := hcl k d hd
  have hne0 : Q ≠ w.heap.size := by have := h.lt; omega
  rw [ed] at k1
  rw [ev, ep] at k0
  unfold maxLen at hlm hcm
  have HSS : Hid (∀ s ∈ succI (f.op k) k, 0 ≤ s ∧ s < D.length) := fun s h => hs s ((succI_mem _ _ _).1 h)
  have hl2 := succI_len (f.op k) k
  have hnx : badO d (f.op k) = false → 0 ≤ nextO d (f.op k) := next_pos
  have hpu : 0 ≤ putsO (f.op k) ∧ putsO (f.op k) ≤ 1 := by unfold putsO; split <;> omega
  obtain ⟨V, hV⟩ : ∃ V, V = (w.alloc (.cells #[.int .i64 (f.op k).c, .int .i64 (f.op k).n, .int .i64 (f.op k).m] 26)).drew := ⟨_, rfl⟩
  obtain ⟨N, hN⟩ : ∃ N, N = w.heap.size := ⟨_, rfl⟩
  have bV : Below w.heap.size w V := by rw [hV]; exact (newb w _).drew
  have hbx : V.heap[N]? = some (.cells #[.int .i64 (f.op k).c, .int .i64 (f.op k).n, .int .i64 (f.op k).m] 26 (0, 0)) := by rw [hV, hN]; exact heap_alloc_new w _
  have v0 : V.cell? ⟨N, 0, none⟩ = some (.int .i64 (f.op k).c) := cell_of_row V _ 0 _ _ _ hbx
  have v1 : V.cell? ⟨N, 1, none⟩ = some (.int .i64 (f.op k).n) := cell_of_row V _ 1 _ _ _ hbx
  have v2 : V.cell? ⟨N, 2, none⟩ = some (.int .i64 (f.op k).m) := cell_of_row V _ 2 _ _ _ hbx
  have HBX : Hid (∀ w1, Below V.heap.size V w1 → w1.cell? ⟨N, 0, none⟩ = some (.int .i64 (f.op k).c) ∧ w1.cell? ⟨N, 1, none⟩ = some (.int .i64 (f.op k).n) ∧ w1.cell? ⟨N, 2, none⟩ = some (.int .i64 (f.op k).m)) := fun w1 hb1 => ⟨keeps hb1 _ _ v0, keeps hb1 _ _ v1, keeps hb1 _ _ v2⟩
  have HVV : Hid (V = (w.alloc (.cells #[.int .i64 (f.op k).c, .int .i64 (f.op k).n, .int .i64 (f.op k).m] 26)).drew ∧ N = w.heap.size) := ⟨hV, hN⟩
  have HVS : Hid (DSt w0.heap.size Q vl vd vt D T V ∧ VK Q vd vt w vd vt V) := ⟨h.below bV, VK.of_below bV⟩
  have HBW : Hid (Below w0.heap.size w0 V) := hb.trans (bV.mono hb.size)
  have HTB : Hid (∀ w1, Below w0.heap.size w0 w1 → NameTab w1) := fun w1 h => htab.below h
  have HVT : Hid (Calls Tryd.prog 53 #[.agg #[.int .i64 (f.op k).c, .int .i64 (f.op k).n, .int .i64 (f.op k).m], .int .i64 d] V fun e w' => e = .returned (.bool (!badO d (f.op k))) ∧ Below V.heap.size V w') := values_there (f.op k) d V (HTB.out V HBW.out) hd0 ht.1 (by omega)
  have HEF : Hid (∀ w1, Below V.heap.size V w1 → Calls Tryd.prog 8 #[.agg #[.int .i64 (f.op k).c, .int .i64 (f.op k).n, .int .i64 (f.op k).m]] w1 fun e w' => e = .returned (.tuple #[.int .i64 (takesO (f.op k)), .int .i64 (putsO (f.op k))]) ∧ Below w1.heap.size w1 w') := fun w1 hb1 => impl_effect (f.op k) w1 (HTB.out w1 (HBW.out.trans (hb1.mono HBW.out.size)))
  have HNP : Hid (∀ w1, Calls Tryd.prog 54 #[.agg #[.int .i64 (f.op k).c, .int .i64 (f.op k).n, .int .i64 (f.op k).m], .int .i64 k] w1 (fun e w' => ∃ v, e = .returned v ∧ Below w1.heap.size w1 w' ∧ w'.ownsRow w1.heap.size 3 1 v (succI (f.op k) k).length ((succI (f.op k) k).map (Value.int .i64)))) := fun w1 => next_places (f.op k) k w1 (by omega) (by omega)
  have HBAD : Hid (badO d (f.op k) = true → ∀ w1, Below V.heap.size V w1 → POST (.returned (.bool false)) w1) := fun e w1 hb1 => by
    rw [hPO]
    exact ⟨vd, vt, D, T, HVS.out.1.below hb1, HVS.out.2.trans (VK.of_below hb1), .inr ⟨rfl, .inl e⟩⟩
  have HYES : Hid (badO d (f.op k) = false → ∀ w1 w2 vd' vt' D' T', Below V.heap.size V w1 → DSt w0.heap.size Q vl vd' vt' D' T' w2 → VK Q vd vt w1 vd' vt' w2 → (succI (f.op k) k).foldl (fun st s => goL s (nextO d (f.op k)) st) (D, T, true) = (D', T', true) → POST (.returned (.bool true)) w2) := fun e w1 w2 vd' vt' D' T' hb1 a1 a2 a3 => by
    rw [hPO]
    exact ⟨vd', vt', D', T', a1, HVS.out.2.trans ((VK.of_below hb1).trans a2), .inl ⟨rfl, e, a3⟩⟩
  have HNO : Hid (∀ w1 w2 vd' vt' D' T', Below V.heap.size V w1 → DSt w0.heap.size Q vl vd' vt' D' T' w2 → VK Q vd vt w1 vd' vt' w2 → ((succI (f.op k) k).foldl (fun st s => goL s (nextO d (f.op k)) st) (D, T, true)).2.2 = false → POST (.returned (.bool false)) w2) := fun w1 w2 vd' vt' D' T' hb1 a1 a2 a3 => by
    rw [hPO]
    exact ⟨vd', vt', D', T', a1, HVS.out.2.trans ((VK.of_below hb1).trans a2), .inr ⟨rfl, .inr a3⟩⟩
  have hbt : badO d (f.op k) = false → takesO (f.op k) ≤ d - 1 := fun e => by
    unfold badO at e
    simp only [Bool.or_eq_false_iff, decide_eq_false_iff_not] at e
    omega
  have hnd : nextO d (f.op k) = d - takesO (f.op k) + putsO (f.op k) := rfl
  have n0 : ∀ ob, (w.alloc ob).cell? ⟨Q, 0, none⟩ = some (.slice (some ⟨b, o, none⟩) f.len cap) := fun ob => keeps (newb w ob) _ _ k0
  have n1 : ∀ ob, (w.alloc ob).cell? ⟨Q, 1, none⟩ = some (.slice (some ⟨g, 0, none⟩) D.length cd) := fun ob => keeps (newb w ob) _ _ k1
  have n2 : ∀ ob, (w.alloc ob).cell? ⟨b, o + k * 3, none⟩ = some (.int .i64 (f.op k).c) := fun ob => keeps (newb w ob) _ _ a0
  have n3 : ∀ ob, (w.alloc ob).cell? ⟨b, o + k * 3 + 1, none⟩ = some (.int .i64 (f.op k).n) := fun ob => keeps (newb w ob) _ _ a1
  have n4 : ∀ ob, (w.alloc ob).cell? ⟨b, o + k * 3 + 2, none⟩ = some (.int .i64 (f.op k).m) := fun ob => keeps (newb w ob) _ _ a2
  have n5 : ∀ ob, (w.alloc ob).cell? ⟨g, k, none⟩ = some (.int .i64 d) := fun ob => keeps (newb w ob) _ _ c0
  have HNEG : Hid (∀ x ∈ D, x = -1 ∨ 0 ≤ x) := hneg
  have HN0 : Hid (Q < w.heap.size) := h.lt
  clear hcl hat hV hN bV hbx h hb hv hh hs hneg hd hown htab hPO
  subst ev ep
  generalize f.op k = q at *
  generalize succI q k = S at *
  generalize hta : takesO q = ta at *
  generalize hpa : putsO q = pu at *
  generalize hnxe : nextO d q = nx at *
  generalize hbde : badO d q = bd at *
  clear hta hpa hnxe hbde
  cases bd with
  | true =>
    have HBD := hid_of1 (HBAD.out rfl)
    clear HBAD HYES hbt hnx
    go_enter Tryd.func46, Tryd.ntmps46
    go_upto_region 1 with fail
    go_region
    rw [← HVV.out.2, ← HVV.out.1]
    clear n0 n1 n2 n3 n4 n5 k0 k1 k2 a0 a1 a2 c0 kf
    obtain ⟨v0, v1, v2⟩ := HBX.out V (Below.refl _ _)
    go_wp2_with fail
    refine HVT.out.mono ?_
    rintro e w1 ⟨rfl, hb1⟩
    have HE : Hid (POST (.returned (.bool false)) w1) := HBD.out w1 hb1
    clear hb1
    go_wp2_with fail
    first
      | exact HE.out
      | (go_ret; exact HE.out)
  | false =>
    have hbt' := hbt rfl
    have hnx' := hnx rfl
    have HYES2 := hid_of1 (HYES.out rfl)
    have HNX : Hid (nx = d - ta + pu) := hnd
    have hnx61 : 0 ≤ d - ta + pu ∧ d - ta + pu ≤ 61 := by omega
    clear hbt HBAD HYES hnx hnd hnx'
    go_enter Tryd.func46, Tryd.ntmps46
    go_upto_region 1 with fail
    go_region
    rw [← HVV.out.2, ← HVV.out.1]
    clear n0 n1 n2 n3 n4 n5 k0 k1 k2 a0 a1 a2 c0 kf
    obtain ⟨v0, v1, v2⟩ := HBX.out V (Below.refl _ _)
    go_wp2_with fail
    refine HVT.out.mono ?_
    rintro e w1 ⟨rfl, hb1⟩
    have HB1 : Hid (Below V.heap.size V w1) := hb1
    obtain ⟨v0, v1, v2⟩ := HBX.out w1 hb1
    clear hb1
    go_wp2_with fail
    refine (HEF.out w1 HB1.out).mono ?_
    rintro e w2 ⟨rfl, hb2⟩
    have HB2 : Hid (Below V.heap.size V w2) := HB1.out.trans (hb2.mono HB1.out.size)
    obtain ⟨v0, v1, v2⟩ := HBX.out w2 HB2.out
    clear hb2 HB1
    go_wp2_with fail
    refine (HNP.out w2).mono ?_
    rintro e w3 ⟨u, rfl, hb3, hu3⟩
    have HB3 : Hid (Below V.heap.size V w3) := HB2.out.trans (hb3.mono HB2.out.size)
    have HW3 : Hid (Below w0.heap.size w0 w3) := HBW.out.trans (HB3.out.mono HBW.out.size)
    have HST3 : Hid (DSt w0.heap.size Q (.slice (some ⟨b, o, none⟩) f.len cap) vd vt D T w3) := HVS.out.1.below HB3.out
    obtain ⟨px, cx, eu⟩ := own_shapeV hu3
    have HROW : Hid (∀ vd' vt' w', VK Q vd vt w3 vd' vt' w' → ∀ (j : Nat) (s : Int), S[j]? = some s → ∃ gu, px = some ⟨gu, 0, none⟩ ∧ w'.cell? ⟨gu, j, none⟩ = some (.int .i64 s)) := fun vd' vt' w' hvk j s hj => by
      have hj0 := (List.getElem?_eq_some_iff.1 hj).1
      obtain ⟨gu, cu, e', hown', _, _, _, hcl'⟩ := own_cells hu3 (by omega)
      rw [eu] at e'
      injection e' with e1
      refine ⟨gu, e1, ?_⟩
      have hcg := hcl' j s hj
      obtain ⟨hlo, hhi⟩ := own_betweenV hu3 hown'
      have hS2 := HVS.out.1
      have hsz := HB2.out.size
      exact (World.cell?_of_block (w := w3) (hvk.block gu hhi (fun e => by have := hS2.lt; omega) (fun e => by have := (own_betweenV hS2.deps e).2; omega) (fun e => by have := (own_betweenV hS2.todo e).2; omega))).trans hcg
    clear hb3 HB2 hu3
    subst eu
    go_wp2_with fail
    go_loopw [38] (fun x wr => ∃ (j : Nat) (vd' vt' : Value) (D' T' : List Int), x = .int .i64 j ∧ j ≤ S.length ∧ DSt w0.heap.size Q (.slice (some ⟨b, o, none⟩) f.len cap) vd' vt' D' T' wr ∧ VK Q vd vt w3 vd' vt' wr ∧ (S.take j).foldl (fun st s => goL s nx st) (D, T, true) = (D', T', true) ∧ D'.length = D.length ∧ T'.length ≤ T.length + j ∧ ∀ x ∈ D', x = -1 ∨ 0 ≤ x) (fun x _ => S.length - (intOf x).toNat)
    case atStart => exact ⟨0, vd, vt, D, T, rfl, Nat.zero_le _, HST3.out, VK.refl _ _ _ _, rfl, rfl, Nat.le_refl _, HNEG.out⟩
    case round =>
      obtain ⟨j, vd', vt', D', T', rfl, hj, hst, hvk, hfo, hdl, htl, hng⟩ := hrel
      have HJ : Hid (DSt w0.heap.size Q (.slice (some ⟨b, o, none⟩) f.len cap) vd' vt' D' T' wr ∧ VK Q vd vt w3 vd' vt' wr ∧ (S.take j).foldl (fun st s => goL s nx st) (D, T, true) = (D', T', true)) := ⟨hst, hvk, hfo⟩
      have HNG : Hid (D'.length = D.length ∧ T'.length ≤ T.length + j ∧ ∀ x ∈ D', x = -1 ∨ 0 ≤ x) := ⟨hdl, htl, hng⟩
      clear hst hvk hfo hng hdl htl
      by_cases hlt : (j : Int) < S.length
      · have hlt' : j < S.length := by omega
        have hsj : S[j]? = some S[j] := List.getElem?_eq_getElem hlt'
        have hsb := HSS.out S[j] (List.getElem_mem hlt')
        have HTK : Hid (S.take (j + 1) = S.take j ++ [S[j]] ∧ S = S.take j ++ S[j] :: S.drop (j + 1)) := ⟨List.take_succ_eq_append_getElem hlt', by rw [List.getElem_cons_drop]; exact (List.take_append_drop j S).symm⟩
        obtain ⟨gu, epx, hcu⟩ := HROW.out vd' vt' wr HJ.out.2.1 j _ hsj
        subst epx
        generalize S[j] = s at *
        have HM : Hid (Calls Tryd.prog 45 #[.pointer (some ⟨Q, 0, none⟩), .int .i64 s, .int .i64 (d - ta + pu)] wr (MPost w0.heap.size Q (.slice (some ⟨b, o, none⟩) f.len cap) vd' vt' (goL s nx (D', T', true)) wr)) := by
          have h1 := HNG.out.1
          have h2 := HNG.out.2.1
          rw [HNX.out]
          exact impl_meet15 w0.heap.size Q (.slice (some ⟨b, o, none⟩) f.len cap) vd' vt' D' T' wr HJ.out.1 s _ hsb.1 (by omega) HNG.out.2.2 hnx61.1 (by omega) (by omega)
        clear hsj
        go_wp2_with fail
        refine HM.out.mono ?_
        rintro e w4 ⟨vd2, vt2, D2, T2, hs4, hk4, hq⟩
        have HS4 : Hid (DSt w0.heap.size Q (.slice (some ⟨b, o, none⟩) f.len cap) vd2 vt2 D2 T2 w4) := hs4
        have HK4 : Hid (VK Q vd vt w3 vd2 vt2 w4) := HJ.out.2.1.trans hk4
        clear hs4 hk4 HM
        rcases hq with ⟨rfl, hq⟩ | ⟨rfl, hq⟩
        · have HQ : Hid (goL s nx (D', T', true) = (D2, T2, true)) := hq
          clear hq
          go_wp2_with fail
          go_roundw
          case rel => exact ⟨j + 1, vd2, vt2, D2, T2, by go_num, by omega, HS4.out, HK4.out, by rw [HTK.out.1, List.foldl_append, HJ.out.2.2]; exact HQ.out, by
            have := (goL_lenI s nx (D', T', true)).1
            rw [HQ.out] at this
            exact this.trans HNG.out.1, by
            have := (goL_lenI s nx (D', T', true)).2
            rw [HQ.out] at this
            have h2 := HNG.out.2.1
            simp only at this
            omega, by
            have := goL_neg (s := s) (d := nx) (by rw [HNX.out]; exact hnx61.1) (D', T', true) HNG.out.2.2
            rw [HQ.out] at this
            exact this⟩
          case measure => simp [intOf]; omega
        · have HE : Hid (POST (.returned (.bool false)) w4) := HNO.out w3 w4 vd2 vt2 D2 T2 HB3.out HS4.out HK4.out (by
            rw [HTK.out.2, List.foldl_append, HJ.out.2.2]
            rw [List.foldl_cons]
            exact fold_down _ _ hq)
          clear hq
          go_wp2_with fail
          first
            | exact HE.out
            | (go_ret; exact HE.out)
      · have hke : j = S.length := by omega
        have HE : Hid (POST (.returned (.bool true)) wr) := HYES2.out w3 wr vd' vt' D' T' HB3.out HJ.out.1 HJ.out.2.1 (by
          have := HJ.out.2.2
          rw [hke, List.take_length] at this
          exact this)
        clear hke
        go_wp2_with fail
        first
          | exact HE.out
          | (go_ret; exact HE.out)
end Go.Proofs.YtkbbfgfmlilfbaaDoor
