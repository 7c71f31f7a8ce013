/- spec.Depths at every list of functions and every number: how many values there are at each place, where all is right. No conditions but that the list is not too long. -/
import Derived.Test.YtkbbfgfmlilfbaaDoorSpecOne15
import Derived.Test.YtkbbfgfmlilfbaaDoorSpecFunsOk
import Derived.Test.YtkbbfgfmlilfbaaDoorSpecIn13
import Derived.Test.YtkbbfgfmlilfbaaDoorStepAny
import Derived.Deep.CutRange
import Derived.Deep.RegionHeld3
namespace Go.Proofs.YtkbbfgfmlilfbaaDoor
open Go.ChangeShapes Go.WideShapes Go.ChangeAt Go.RowKit

/-- What Depths tells. -/
def DepsOf (nf : Nat) (kid : Nat → Fu) (i : Int) (b : Bool) (D : List Int) : Prop :=
  (b = true ∧ (FunsP nf kid ∧ 0 ≤ i ∧ i < nf ∧ DepOk (kid i.toNat)) ∧ DepL (kid i.toNat) D) ∨ (b = false ∧ ¬ (FunsP nf kid ∧ 0 ≤ i ∧ i < nf ∧ DepOk (kid i.toNat)) ∧ D = [])
def DepsPost (nf : Nat) (kid : Nat → Fu) (i : Int) (w : World) (e : Ending) (w' : World) : Prop :=
  ∃ u b D, e = .returned (.tuple #[u, .bool b]) ∧ Below w.heap.size w w' ∧ w'.ownsRow w.heap.size 3 1 u D.length (D.map (Value.int .i64)) ∧ DepsOf nf kid i b D
theorem own_none15 (w : World) (B : Nat) (hB : B ≤ w.heap.size) (e : TypeId) : (w.alloc (.cells #[] e)).ownsRow B e 1 (.slice (some ⟨w.heap.size, 0, none⟩) 0 0) 0 [] :=
  ⟨rfl, .inr ⟨w.heap.size, 0, #[], rfl, hB, heap_alloc_new w _, Nat.le_refl _, Nat.zero_le _, rfl, rfl⟩⟩
theorem own_baseV {w : World} {base base' e size n : Nat} {v : Value} {xs : List Value} (h : w.ownsRow base e size v n xs) (hb : base' ≤ base) : w.ownsRow base' e size v n xs := by
  refine ⟨h.1, ?_⟩
  rcases h.2 with hn | ⟨g, cap, cur, rfl, hbg, rest⟩
  · exact .inl hn
  · exact .inr ⟨g, cap, cur, rfl, Nat.le_trans hb hbg, rest⟩

set_option maxRecDepth 100000 in
set_option maxHeartbeats 16000000 in
theorem spec_depths15 (nf : Nat) (kid : Nat → Fu) (i : Int) (w : World) (v : Value) (hv : Fl w nf kid v) (hnf : nf ≤ 1048576) :
    Calls Tryd.prog 10 #[v, .int .i64 i] w (DepsPost nf kid i w) := by
  obtain ⟨p, cap, ev, hlm, hat⟩ := hv.at
  have HFO : Hid (∀ R, (R = true ↔ FunsP nf kid) → Calls Tryd.prog 22 #[v] w fun e w' => e = .returned (.bool R) ∧ Below w.heap.size w w') := fun R h => spec_funs_ok nf kid w v hv R h
  by_cases hF : FunsP nf kid
  · have HFT : Hid (Calls Tryd.prog 22 #[v] w fun e w' => e = .returned (.bool true) ∧ Below w.heap.size w w') := HFO.out true ⟨fun _ => hF, fun _ => rfl⟩
    clear HFO
    by_cases hI : 0 ≤ i ∧ i ≤ (nf : Int) - 1
    · have HIN : Hid (∀ w1, Calls Tryd.prog 23 #[.int .i64 i, .int .i64 0, .int .i64 ((nf : Int) - 1)] w1 fun e w' => e = .returned (.bool true) ∧ w1 = w') := fun w1 => (spec_in13 i 0 ((nf : Int) - 1) true (by rw [decide_eq_true hI.1, decide_eq_true hI.2]; rfl) w1).mono fun e w' ⟨a, b⟩ => ⟨a, b.symm⟩
      obtain ⟨j, rfl⟩ : ∃ j : Nat, i = j := ⟨i.toNat, by omega⟩
      have hj : j < nf := by omega
      have hji : (j : Int) < nf := by omega
      obtain ⟨⟨hl1, hl2⟩, hops⟩ := ops_right hF hj
      obtain ⟨b, o, u, ep, hd, hin⟩ := hat j hj
      obtain ⟨pu, cu, eu⟩ := hin.2.shape
      have HD : Hid (∀ wx, Below w.heap.size w wx → wx.cell? ⟨b, o + j * 2 + 1, none⟩ = some (.slice pu (kid j).len cu)) := fun wx h => by rw [← eu]; exact (hd.below h).c1
      have HOL : Hid (Ol w (kid j).len (kid j).op (.slice pu (kid j).len cu)) := by rw [← eu]; exact hin.2
      have HRT : Hid (∀ k, k < (kid j).len → 0 ≤ takesO ((kid j).op k) ∧ ∀ s ∈ succO ((kid j).op k) k, 0 ≤ s) := hops
      have HOF : Hid (∀ b D, ((b = true ∧ DepOk (kid j) ∧ DepL (kid j) D) ∨ (b = false ∧ ¬ DepOk (kid j) ∧ D = [])) → DepsOf nf kid (j : Int) b D) := fun b D h => by
        unfold DepsOf
        rw [Int.toNat_natCast]
        rcases h with ⟨h1, h2, h3⟩ | ⟨h1, h2, h3⟩
        · exact .inl ⟨h1, ⟨hF, by omega, by omega, h2⟩, h3⟩
        · exact .inr ⟨h1, fun h => h2 h.2.2.2, h3⟩
      have HRF : Hid (Rnd (kid j) ((List.replicate (kid j).len (-1)).set 0 1) [0] true ∧ goL 0 1 (List.replicate (kid j).len (-1), [], true) = ((List.replicate (kid j).len (-1)).set 0 1, [0], true)) := ⟨rnd_first hl1, go_first hl1⟩
      generalize kid j = f at *
      obtain ⟨n0, hn0⟩ : ∃ n0, n0 = muL ((List.replicate f.len (-1)).set 0 1) [0] := ⟨_, rfl⟩
      have hn7 : n0 ≤ 7000 := by
        rw [hn0]
        unfold muL
        have := List.countP_le_length (p := fun d : Int => decide (d < 0)) (l := (List.replicate f.len (-1)).set 0 1)
        rw [List.length_set, List.length_replicate] at this
        simp only [List.length_cons, List.length_nil]
        omega
      have HN0 : Hid (n0 = muL ((List.replicate f.len (-1)).set 0 1) [0]) := hn0
      obtain ⟨iI, hi, hz0, hz1, hz2⟩ := info_parts int_info
      unfold maxLen at hlm
      clear hn0 hF hI hat hd hin hv hops eu
      subst ev ep
      go_enter Tryd.func10, Tryd.ntmps10
      go_wp2_with fail
      refine HFT.out.mono ?_
      rintro e w1 ⟨rfl, hb1⟩
      have HB1 : Hid (Below w.heap.size w w1) := hb1
      clear hb1
      go_wp2_with fail
      refine (HIN.out w1).mono ?_
      rintro e w1' ⟨rfl, rfl⟩
      obtain ⟨Q, hQ⟩ : ∃ Q, Q = w1.heap.size := ⟨_, rfl⟩
      obtain ⟨W, hW⟩ : ∃ W, W = w1.alloc (.cells #[.slice none 0 0, .slice none 0 0, .bool true] 51) := ⟨_, rfl⟩
      have bW : Below w1.heap.size w1 W := by rw [hW]; exact newb w1 _
      have hbx : W.heap[Q]? = some (.cells #[.slice none 0 0, .slice none 0 0, .bool true] 51 (0, 0)) := by rw [hW, hQ]; exact heap_alloc_new w1 _
      have HST0 : Hid (VSt 51 w.heap.size Q (.slice none 0 0) (.slice none 0 0) [] [] true W) :=
        ⟨hbx, ⟨rfl, .inl ⟨rfl, rfl⟩⟩, ⟨rfl, .inl ⟨rfl, rfl⟩⟩, (by intro e; cases e), (by intro e; cases e), (by intro g e; cases e), by rw [hQ]; exact HB1.out.size⟩
      have HBW : Hid (Below w.heap.size w W) := HB1.out.trans (bW.mono HB1.out.size)
      have HWW : Hid (W = w1.alloc (.cells #[.slice none 0 0, .slice none 0 0, .bool true] 51) ∧ Q = w1.heap.size) := ⟨hW, hQ⟩
      clear hQ hW bW hbx HIN HFT
      go_upto_region 4 with fail
      rw [← HWW.out.2, ← HWW.out.1]
      go_wp2_with fail
      go_loopw [7] (fun x wr => ∃ (k : Nat) (vd : Value), x = .int .i64 k ∧ k ≤ f.len ∧ VSt 51 w.heap.size Q vd (.slice none 0 0) (List.replicate k (-1)) [] true wr ∧ VK Q (.slice none 0 0) (.slice none 0 0) W vd (.slice none 0 0) wr) (fun x _ => f.len - (intOf x).toNat)
      case atStart => exact ⟨0, .slice none 0 0, rfl, Nat.zero_le _, HST0.out, VK.refl _ _ _ _⟩
      case round =>
        obtain ⟨k, vd, rfl, hk, hst, hvk⟩ := hrel
        have HST : Hid (VSt 51 w.heap.size Q vd (.slice none 0 0) (List.replicate k (-1)) [] true wr) := hst
        have HVK : Hid (VK Q (.slice none 0 0) (.slice none 0 0) W vd (.slice none 0 0) wr) := hvk
        have HBR : Hid (Below w.heap.size w wr) := hvk.old HST0.out HBW.out
        have hcd := HD.out wr HBR.out
        clear hst hvk
        by_cases hlt : (k : Int) < f.len
        · have hlt' : k < f.len := by omega
          obtain ⟨⟨k0, k1, k2⟩, kf⟩ := HST.out.cell
          obtain ⟨pd, cd, ed⟩ := own_shapeV HST.out.deps
          rw [List.length_replicate] at ed
          have nb1 := newb wr (.cells #[.int .i64 (-1)] 3)
          have HROW : Hid ((wr.alloc (.cells #[.int .i64 (-1)] 3)).ownsRow w.heap.size 3 1 vd k ((List.replicate k (-1)).map (Value.int .i64))) := by
            have := own_belowV HST.out.deps nb1
            rwa [List.length_replicate] at this
          have HNEW : Hid (∀ j u, [Value.int .i64 (-1)][j]? = some u → (wr.alloc (.cells #[.int .i64 (-1)] 3)).cell? ((⟨wr.heap.size, 0, none⟩ : Addr).add j) = some u) := fun j u hj => by
            have hj0 : j = 0 := by have := (List.getElem?_eq_some_iff.1 hj).1; simp at this; omega
            subst hj0
            have := cell_of_row (wr.alloc (.cells #[.int .i64 (-1)] 3)) wr.heap.size 0 _ _ _ (heap_alloc_new wr _)
            simpa [Addr.add] using this.trans hj
          have HBN : Hid (w.heap.size ≤ (wr.alloc (.cells #[.int .i64 (-1)] 3)).heap.size) := Nat.le_trans HBR.out.size nb1.size
          have HOUT : Hid (∀ v' w', w'.ownsRow w.heap.size 3 1 v' (k + 1) ((List.replicate k (-1)).map (Value.int .i64) ++ [.int .i64 (-1)]) → (wr.alloc (.cells #[.int .i64 (-1)] 3)).grownBy w' vd.ownBlock → (v'.ownBlock = vd.ownBlock ∨ v'.ownBlock = some (wr.alloc (.cells #[.int .i64 (-1)] 3)).heap.size) →
              VSt 51 w.heap.size Q v' (.slice none 0 0) (List.replicate (k + 1) (-1)) [] true (w'.setCell ⟨Q, 0, none⟩ v') ∧ VK Q (.slice none 0 0) (.slice none 0 0) W v' (.slice none 0 0) (w'.setCell ⟨Q, 0, none⟩ v')) := fun v' w' a1 a2 a3 => by
            have a1' : w'.ownsRow w.heap.size 3 1 v' (List.replicate (k + 1) (-1 : Int)).length ((List.replicate (k + 1) (-1)).map (Value.int .i64)) := by
              rw [List.length_replicate, List.replicate_succ', List.map_append]
              exact a1
            have := HST.out.depsNew nb1 a1' a2 a3
            exact ⟨this.1, HVK.out.trans this.2⟩
          have HQK : Hid (∀ w', (wr.alloc (.cells #[.int .i64 (-1)] 3)).grownBy w' vd.ownBlock → w'.cell? ⟨Q, 0, none⟩ = some vd ∧ w'.frozen? ⟨Q, 0, none⟩ = false) := fun w' hg => by
            have hs := HST.out
            have hb : w'.heap[Q]? = wr.heap[Q]? := (hg.block Q (Nat.lt_of_lt_of_le hs.lt nb1.size) (fun e => hs.nd e.symm)).trans (nb1.block Q hs.lt)
            exact ⟨(World.cell?_of_block (w := wr) hb).trans k0, (World.frozen?_of_block (w := wr) hb).trans (kf 0)⟩
          clear nb1
          subst ed
          go_wp2_with (at_builtin; refine wpList_append_1 _ rfl (.tmp 37) (.tmp 38) 31 rfl w.heap.size 3 iI _ 1 8 Tryd.underlying31 hi hz0 hz1 hz2 rfl (by omega) (.slice pd k cd) k ((List.replicate k (-1)).map (Value.int .i64)) rfl HROW.out ⟨wr.heap.size, 0, none⟩ 1 1 [.int .i64 (-1)] rfl rfl HNEW.out (by simp [Value.oneCell']) (by unfold maxLen; omega) (by omega) HBN.out (by omega) ?_; intro v' w' hown2 hg2 hat2; (obtain ⟨kq, kqf⟩ := HQK.out w' hg2.out); (have HE := hid_of1 (HOUT.out v' w' hown2.out hg2.out hat2.out)); (obtain ⟨pv, cv, epv⟩ := own_shapeV hown2.out); subst epv)
          go_roundw
          case rel => exact ⟨k + 1, _, by go_num, by omega, HE.out.1, HE.out.2⟩
          case measure => simp [intOf]; omega
        · have hke : k = f.len := by omega
          subst hke
          go_wp2_with fail
          have HGO : Hid (Calls Tryd.prog 24 #[.pointer (some ⟨Q, 0, none⟩), .int .i64 0, .int .i64 1] wr (VPost 51 w.heap.size Q vd (.slice none 0 0) ((List.replicate f.len (-1)).set 0 1, [0], true) wr)) := by
            have := spec_go15 w.heap.size Q vd (.slice none 0 0) _ [] true wr HST.out 0 1 (by omega) (by rw [List.length_replicate]; omega) (by simp)
            rw [HRF.out.2] at this
            exact this
          refine HGO.out.mono ?_
          rintro e w3 ⟨rfl, vd3, vt3, hs3, hk3⟩
          have HS3 : Hid (VSt 51 w.heap.size Q vd3 vt3 ((List.replicate f.len (-1)).set 0 1) [0] true w3) := hs3
          have HK3 : Hid (VK Q (.slice none 0 0) (.slice none 0 0) W vd3 vt3 w3) := HVK.out.trans hk3
          clear hs3 hk3 HGO HST HVK HBR hcd
          go_wp2_with fail
          go_loopg [8] n0 (fun n x wr => ∃ (vd vt : Value) (D T : List Int) (ok : Bool), muL D T = n ∧ n ≤ 7000 ∧ VSt 51 w.heap.size Q vd vt D T ok wr ∧ VK Q (.slice none 0 0) (.slice none 0 0) W vd vt wr ∧ Rnd f D T ok)
          case atStart => exact ⟨vd3, vt3, _, _, true, HN0.out.symm, hn7, HS3.out, HK3.out, HRF.out.1⟩
          case round =>
            obtain ⟨vd, vt, D, T, ok, hmu, hg7, hst, hvk, hrn⟩ := hrel
            have HST : Hid (VSt 51 w.heap.size Q vd vt D T ok wr) := hst
            have HVK : Hid (VK Q (.slice none 0 0) (.slice none 0 0) W vd vt wr) := hvk
            have HBR : Hid (Below w.heap.size w wr) := hvk.old HST0.out HBW.out
            have HRN : Hid (Rnd f D T ok) := hrn
            have HMU : Hid (muL D T = gk ∧ gk ≤ 7000) := ⟨hmu, hg7⟩
            have hDl : D.length = f.len := hrn.1.len
            have hTl : T.length ≤ 7000 := by unfold muL at hmu; omega
            obtain ⟨⟨k0, k1, k2⟩, kf⟩ := hst.cell
            obtain ⟨pd, cd, ed⟩ := own_shapeV hst.deps
            obtain ⟨pt, ct, et⟩ := own_shapeV hst.todo
            have HDL : Hid (D.length = f.len) := hDl
            clear hst hvk hrn hmu hg7 HS3 HK3 HN0 HRF
            cases ok with
            | false =>
              have HE : Hid (¬ DepOk f) := by
                rcases rnd_end HRN.out (.inl rfl) with h | h
                · cases h.1
                · exact h.2
              clear HRN
              subst ed et
              go_wp2_with fail
              go_ret2
              exact ⟨_, _, [], rfl, HBR.out.trans ((newb wr _).mono HBR.out.size), own_none15 wr _ HBR.out.size _, HOF.out _ _ (.inr ⟨rfl, HE.out, rfl⟩)⟩
            | true =>
              rcases List.eq_nil_or_concat T with hnil | ⟨T', t, hT⟩
              · subst hnil
                have HE : Hid (DepOk f ∧ DepL f D) := by
                  rcases rnd_end HRN.out (.inr rfl) with h | h
                  · exact h.2
                  · cases h.1
                clear HRN
                subst et
                rw [hDl] at ed
                have HDP : Hid (wr.ownsRow w.heap.size 3 1 vd D.length (D.map (Value.int .i64))) := HST.out.deps
                subst ed
                go_wp2_with fail
                go_ret2
                exact ⟨_, _, D, rfl, HBR.out, HDP.out, HOF.out _ _ (.inl ⟨rfl, HE.out.1, HE.out.2⟩)⟩
              · rw [List.concat_eq_append] at hT
                subst hT
                obtain ⟨k, d, htk, hkl, hdk, hd0, hd60, hrn2, hmu2⟩ := rnd_round HRN.out (fun k hk => (HRT.out k hk).2)
                subst htk
                have hTl' : T'.length + 1 ≤ 7000 := by rw [List.length_append] at hTl; exact hTl
                have HR2 : Hid (Rnd f (oneL (f.op k) k d (D, T', true)).1 (oneL (f.op k) k d (D, T', true)).2.1 (oneL (f.op k) k d (D, T', true)).2.2) := hrn2
                have HM2 : Hid (muL (oneL (f.op k) k d (D, T', true)).1 (oneL (f.op k) k d (D, T', true)).2.1 < gk) := by rw [← HMU.out.1]; exact hmu2
                obtain ⟨g, ct', et', hown, hcc, hcm, hfz, hcl⟩ := own_cells HST.out.todo (by simp)
                rw [show (T' ++ [(k : Int)]).length = T'.length + 1 by simp] at et et' hcc
                have ct0 : wr.cell? ⟨g, T'.length, none⟩ = some (.int .i64 (k : Int)) := hcl T'.length k (by simp)
                have hsrc : ∀ j u, (T'.map (Value.int .i64))[j]? = some u → wr.cell? ⟨g, j, none⟩ = some u := fun j u hj => by
                  rw [List.getElem?_map] at hj
                  obtain ⟨z, hz, rfl⟩ := Option.map_eq_some_iff.1 hj
                  have hjl := (List.getElem?_eq_some_iff.1 hz).1
                  exact hcl j z (by rw [List.getElem?_append_left hjl]; exact hz)
                have hgQ : g ≠ Q := fun e => HST.out.nt (by rw [hown, e])
                have HGL : Hid (g < wr.heap.size ∧ Q < wr.heap.size ∧ g ≠ Q) := ⟨(own_betweenV HST.out.todo hown).2, HST.out.lt, hgQ⟩
                have HSRC : Hid (∀ j u, (T'.map (Value.int .i64))[j]? = some u → wr.cell? ⟨g, j, none⟩ = some u) := hsrc
                have hcd := HD.out wr HBR.out
                clear hcl hrn2 hmu2 HRN hfz hsrc et
                subst ed
                rw [et'] at k1
                unfold maxLen at hcm
                go_upto_region 10 with fail
                go_region
                obtain ⟨W3, hW3⟩ : ∃ W3, W3 = wr.drew.drew := ⟨_, rfl⟩
                have hs2 : VSt 51 w.heap.size Q (.slice pd D.length cd) vt D (T' ++ [(k : Int)]) true W3 := by rw [hW3]; exact HST.out.drewn.drewn
                have HS2 : Hid (VSt 51 w.heap.size Q (.slice pd D.length cd) vt D (T' ++ [(k : Int)]) true W3) := hs2
                have HK2 : Hid (VK Q (.slice none 0 0) (.slice none 0 0) W (.slice pd D.length cd) vt W3) := by rw [hW3]; exact HVK.out.drewn.drewn
                have HB2 : Hid (Below w.heap.size w W3) := HK2.out.old HST0.out HBW.out
                have HSZ2 : Hid (W3.heap.size = wr.heap.size) := by rw [hW3]; rfl
                have HSRC2 : Hid (∀ j u, (T'.map (Value.int .i64))[j]? = some u → W3.cell? ⟨g, j, none⟩ = some u) := by rw [hW3]; exact HSRC.out
                have k1' : W3.cell? ⟨Q, 1, none⟩ = some (.slice (some ⟨g, 0, none⟩) (T'.length + 1) ct') := by rw [hW3]; exact k1
                have HW3 : Hid (W3 = wr.drew.drew) := hW3
                clear hW3 hs2 k0 k1 k2 kf ct0 HSRC HST HVK HBR hcd
                have k1a : ∀ ob, (W3.alloc ob).cell? ⟨Q, 1, none⟩ = some (.slice (some ⟨g, 0, none⟩) (T'.length + 1) ct') := fun ob => keeps (newb W3 ob) _ _ k1'
                have HOE : Hid ((W3.alloc (.cells #[] 3)).ownsRow W3.heap.size 3 1 (.slice (some ⟨W3.heap.size, 0, none⟩) 0 0) 0 []) := own_none15 W3 _ (Nat.le_refl _) _
                have HLM : Hid ((T'.map (Value.int .i64)).length = T'.length * 1) := by show _ = _; rw [List.length_map, Nat.mul_one]
                have HSR : Hid (∀ ad, some (⟨g, 0, none⟩ : Addr) = some ad → ∀ j u, (T'.map (Value.int .i64))[j]? = some u → (W3.alloc (.cells #[] 3)).cell? (ad.add j) = some u) := fun ad e j u hj => by
                  injection e with e
                  subst e
                  have h1 := keeps (newb W3 (.cells #[] 3)) _ _ (HSRC2.out j u hj)
                  have e : (⟨g, 0, none⟩ : Addr).add j = ⟨g, j, none⟩ := by cases j <;> simp [Addr.add]
                  rw [e]
                  exact h1
                have HL1 : Hid (0 + T'.length ≤ maxLen) := by show _ ≤ _; unfold maxLen; omega
                have HL2 : Hid ((0 + T'.length) * 8 ≤ 140737488355328) := by show _ ≤ _; omega
                have HSZ : Hid (W3.heap.size ≤ (W3.alloc (.cells #[] 3)).heap.size) := (newb W3 _).size
                have HQK : Hid (∀ w4, (W3.alloc (.cells #[] 3)).grownBy w4 (Value.slice (some ⟨W3.heap.size, 0, none⟩) 0 0).ownBlock → w4.cell? ⟨Q, 1, none⟩ = some (.slice (some ⟨g, 0, none⟩) (T'.length + 1) ct') ∧ w4.frozen? ⟨Q, 1, none⟩ = false) := fun w4 hg => by
                  have hlt := HS2.out.lt
                  have hb : w4.heap[Q]? = W3.heap[Q]? := (hg.block Q (Nat.lt_of_lt_of_le hlt (newb W3 _).size) (fun e => by have e' : some Q = some W3.heap.size := e; injection e' with e'; omega)).trans ((newb W3 _).block Q hlt)
                  exact ⟨(World.cell?_of_block (w := W3) hb).trans k1', (World.frozen?_of_block (w := W3) hb).trans (HS2.out.cell.2 1)⟩
                have HOUT : Hid (∀ v' w4, w4.ownsRow W3.heap.size 3 1 v' (0 + T'.length) ([] ++ T'.map (Value.int .i64)) → (W3.alloc (.cells #[] 3)).grownBy w4 (Value.slice (some ⟨W3.heap.size, 0, none⟩) 0 0).ownBlock →
                    VSt 51 w.heap.size Q (.slice pd D.length cd) v' D T' true (w4.setCell ⟨Q, 1, none⟩ v') ∧ VK Q (.slice none 0 0) (.slice none 0 0) W (.slice pd D.length cd) v' (w4.setCell ⟨Q, 1, none⟩ v')) := fun v' w4 a1 a2 => by
                  rw [Nat.zero_add, List.nil_append] at a1
                  have hnb := newb W3 (.cells #[] 3)
                  have := HS2.out.todoNew (Below.refl _ _) (own_baseV a1 HB2.out.size) (fun j hj _ => (a2.block j (Nat.lt_of_lt_of_le hj hnb.size) (fun e => by have e' : some j = some W3.heap.size := e; injection e' with e'; omega)).trans (hnb.block j hj))
                    ⟨a2.os.trans hnb.os, a2.tape.trans hnb.tape, a2.output.trans hnb.output, Nat.le_trans hnb.size a2.size⟩ (fun g' e => .inr (own_betweenV a1 e).1)
                  exact ⟨this.1, HK2.out.trans this.2⟩
                have hcap : T'.length ≤ ct' := by omega
                have HONE : Hid (∀ w4 vd4 vt4, VSt 51 w.heap.size Q vd4 vt4 D T' true w4 → VK Q (.slice none 0 0) (.slice none 0 0) W vd4 vt4 w4 → Calls Tryd.prog 25 #[.pointer (some ⟨Q, 0, none⟩), .slice pu f.len cu, .int .i64 k] w4 (VPost 51 w.heap.size Q vd4 vt4 (oneL (f.op k) k d (D, T', true)) w4)) := fun w4 vd4 vt4 h4 k4 =>
                  spec_one15 f w w4 Q vd4 vt4 D T' true h4 (k4.old HST0.out HBW.out) _ HOL.out k hkl d hdk hd0 hd60 (HRT.out k hkl).1 (HRT.out k hkl).2 (by omega) (by omega)
                go_upto_region 11 with fail
                go_cut [8] from 44 to 91 (fun x wx => x = .int .i64 k ∧ ∃ vt4, VSt 51 w.heap.size Q (.slice pd D.length cd) vt4 D T' true wx ∧ VK Q (.slice none 0 0) (.slice none 0 0) W (.slice pd D.length cd) vt4 wx)
                case first =>
                  refine wp_region_held_drew (S := fun _ => True) (by kernel_rfl) trivial (fun _ => ?_)
                  rw [← HW3.out]
                  refine wpAnyH_take (i := 0) (oi := { dst := some 68, op := Op.move (Operand.tmp 6), type := 49, pos := "l15_verify.go:79", after := #[], guard := none }) (v := (.pointer (some ⟨Q, 0, none⟩))) rfl (by kernel_rfl) (by kernel_rfl) (by kernel_rfl) (fun _ _ _ h => h) (Or.inl ⟨by rfl, ?_⟩) trivial ?_
                  · intro wq hSq
                    clear hSq
                    go_simp
                  try simp only [Act.put, List.setIfInBounds_toArray, List.set_cons_zero, List.set_cons_succ]
                  refine wpAnyH_take (i := 2) (oi := { dst := some 70, op := Op.move (Operand.tmp 6), type := 49, pos := "l15_verify.go:79", after := #[], guard := none }) (v := (.pointer (some ⟨Q, 0, none⟩))) rfl (by kernel_rfl) (by kernel_rfl) (by kernel_rfl) (fun _ _ _ h => h) (Or.inl ⟨by rfl, ?_⟩) trivial ?_
                  · intro wq hSq
                    clear hSq
                    go_simp
                  try simp only [Act.put, List.setIfInBounds_toArray, List.set_cons_zero, List.set_cons_succ]
                  refine wpAnyH_take (i := 3) (oi := { dst := some 71, op := Op.nilCheck (Operand.tmp 70), type := 0, pos := "l15_verify.go:79", after := #[{ on := 2, ground := Ground.data }], guard := none }) (v := (.pointer (some ⟨Q, 0, none⟩))) rfl (by kernel_rfl) (by kernel_rfl) (by kernel_rfl) (fun _ _ _ h => h) (Or.inl ⟨by rfl, ?_⟩) trivial ?_
                  · intro wq hSq
                    clear hSq
                    go_simp
                  try simp only [Act.put, List.setIfInBounds_toArray, List.set_cons_zero, List.set_cons_succ]
                  refine wpAnyH_take (i := 4) (oi := { dst := some 72, op := Op.fieldAddr 51 (Operand.tmp 71) 1, type := 0, pos := "l15_verify.go:79", after := #[{ on := 3, ground := Ground.data }], guard := none }) (v := (.pointer (some ⟨Q, 1, none⟩))) rfl (by kernel_rfl) (by kernel_rfl) (by kernel_rfl) (fun _ _ _ h => h) (Or.inl ⟨by rfl, ?_⟩) trivial ?_
                  · intro wq hSq
                    clear hSq
                    go_simp
                  try simp only [Act.put, List.setIfInBounds_toArray, List.set_cons_zero, List.set_cons_succ]
                  refine wpAnyH_take (i := 6) (oi := { dst := some 74, op := Op.move (Operand.tmp 6), type := 49, pos := "l15_verify.go:79", after := #[], guard := none }) (v := (.pointer (some ⟨Q, 0, none⟩))) rfl (by kernel_rfl) (by kernel_rfl) (by kernel_rfl) (fun _ _ _ h => h) (Or.inl ⟨by rfl, ?_⟩) trivial ?_
                  · intro wq hSq
                    clear hSq
                    go_simp
                  try simp only [Act.put, List.setIfInBounds_toArray, List.set_cons_zero, List.set_cons_succ]
                  refine wpAnyH_take (i := 7) (oi := { dst := some 75, op := Op.nilCheck (Operand.tmp 74), type := 0, pos := "l15_verify.go:79", after := #[{ on := 6, ground := Ground.data }], guard := none }) (v := (.pointer (some ⟨Q, 0, none⟩))) rfl (by kernel_rfl) (by kernel_rfl) (by kernel_rfl) (fun _ _ _ h => h) (Or.inl ⟨by rfl, ?_⟩) trivial ?_
                  · intro wq hSq
                    clear hSq
                    go_simp
                  try simp only [Act.put, List.setIfInBounds_toArray, List.set_cons_zero, List.set_cons_succ]
                  refine wpAnyH_take (i := 8) (oi := { dst := some 76, op := Op.fieldAddr 51 (Operand.tmp 75) 1, type := 0, pos := "l15_verify.go:79", after := #[{ on := 7, ground := Ground.data }], guard := none }) (v := (.pointer (some ⟨Q, 1, none⟩))) rfl (by kernel_rfl) (by kernel_rfl) (by kernel_rfl) (fun _ _ _ h => h) (Or.inl ⟨by rfl, ?_⟩) trivial ?_
                  · intro wq hSq
                    clear hSq
                    go_simp
                  try simp only [Act.put, List.setIfInBounds_toArray, List.set_cons_zero, List.set_cons_succ]
                  refine wpAnyH_ready (rs := [1, 5, 9]) (by kernel_rfl) (by simp) ?_
                  refine AllReadyH.cons (o := { dst := some 69, op := Op.buildSlice 31 0 #[], type := 31, pos := "l15_verify.go:79", after := #[], guard := none }) rfl (fun KK hK => ?g1) (AllReadyH.cons (o := { dst := some 73, op := Op.load 31 (Operand.tmp 72), type := 31, pos := "l15_verify.go:79", after := #[{ on := 4, ground := Ground.data }], guard := none }) rfl (fun KK hK => ?g5) (AllReadyH.cons (o := { dst := some 77, op := Op.load 31 (Operand.tmp 76), type := 31, pos := "l15_verify.go:79", after := #[{ on := 8, ground := Ground.data }], guard := none }) rfl (fun KK hK => ?g9) AllReadyH.nil))
                  case' g1 =>
                    go_simp
                    refine hK.out _ _ trivial (fun _ => ?_)
                    clear hK KK
                    try simp only [Act.put, List.setIfInBounds_toArray, List.set_cons_zero, List.set_cons_succ]
                    refine wpAnyH_ready (rs := [5, 9]) (by kernel_rfl) (by simp) ?_
                    refine AllReadyH.cons (o := { dst := some 73, op := Op.load 31 (Operand.tmp 72), type := 31, pos := "l15_verify.go:79", after := #[{ on := 4, ground := Ground.data }], guard := none }) rfl (fun KK hK => ?g1x5) (AllReadyH.cons (o := { dst := some 77, op := Op.load 31 (Operand.tmp 76), type := 31, pos := "l15_verify.go:79", after := #[{ on := 8, ground := Ground.data }], guard := none }) rfl (fun KK hK => ?g1x9) AllReadyH.nil)
                    case' g1x5 =>
                      go_simp
                      refine hK.out _ _ trivial (fun _ => ?_)
                      clear hK KK
                      try simp only [Act.put, List.setIfInBounds_toArray, List.set_cons_zero, List.set_cons_succ]
                      refine wpAnyH_ready (rs := [9]) (by kernel_rfl) (by simp) ?_
                      refine AllReadyH.cons (o := { dst := some 77, op := Op.load 31 (Operand.tmp 76), type := 31, pos := "l15_verify.go:79", after := #[{ on := 8, ground := Ground.data }], guard := none }) rfl (fun KK hK => ?g1x5x9) AllReadyH.nil
                      case' g1x5x9 =>
                        go_simp
                        refine hK.out _ _ trivial (fun _ => ?_)
                        clear hK KK
                        try simp only [Act.put, List.setIfInBounds_toArray, List.set_cons_zero, List.set_cons_succ]
                        refine wpAnyH_take (i := 10) (oi := { dst := some 78, op := Op.call { callee := Callee.builtin Builtin.len, args := #[Operand.tmp 77], argTypes := #[31] }, type := 3, pos := "l15_verify.go:79", after := #[{ on := 9, ground := Ground.data }], guard := none }) (v := (.int .i64 ((T'.length : Int) + 1))) rfl (by kernel_rfl) (by kernel_rfl) (by kernel_rfl) (fun _ _ _ h => h) (Or.inl ⟨by rfl, ?_⟩) trivial ?_
                        · intro wq hSq
                          clear hSq
                          go_simp
                        try simp only [Act.put, List.setIfInBounds_toArray, List.set_cons_zero, List.set_cons_succ]
                        refine wpAnyH_take (i := 11) (oi := { dst := some 79, op := Op.binOp BinOp.sub 3 (Operand.tmp 78) (Operand.const (Value.int IntKind.i64 1)) 3, type := 3, pos := "l15_verify.go:79", after := #[{ on := 10, ground := Ground.data }], guard := none }) (v := (.int .i64 (T'.length : Int))) rfl (by kernel_rfl) (by kernel_rfl) (by kernel_rfl) (fun _ _ _ h => h) (Or.inl ⟨by rfl, ?_⟩) trivial ?_
                        · intro wq hSq
                          clear hSq
                          go_simp; first | done | (rw [IntKind.wrap_i64]; omega)
                        try simp only [Act.put, List.setIfInBounds_toArray, List.set_cons_zero, List.set_cons_succ]
                        refine wpAnyH_take (i := 12) (oi := { dst := some 80, op := Op.slice 31 (Operand.tmp 73) none (some (Operand.tmp 79)) none, type := 31, pos := "l15_verify.go:79", after := #[{ on := 5, ground := Ground.data }, { on := 11, ground := Ground.data }], guard := none }) (v := (.slice (some ⟨g, 0, none⟩) T'.length ct')) rfl (by kernel_rfl) (by kernel_rfl) (by kernel_rfl) (fun _ _ _ h => h) (Or.inl ⟨by rfl, ?_⟩) trivial ?_
                        · intro wq hSq
                          clear hSq
                          go_simp; first | done | omega | (refine ⟨by omega, by omega⟩)
                        try simp only [Act.put, List.setIfInBounds_toArray, List.set_cons_zero, List.set_cons_succ]
                        refine wpAnyH_ready (rs := [13]) (by kernel_rfl) (by simp) ?_
                        refine AllReadyH.cons (o := { dst := some 81, op := Op.call { callee := Callee.builtin Builtin.append, args := #[Operand.tmp 69, Operand.tmp 80], argTypes := #[31, 31] }, type := 31, pos := "l15_verify.go:79", after := #[{ on := 1, ground := Ground.data }, { on := 12, ground := Ground.data }], guard := none }) rfl (fun KK hK => ?_) AllReadyH.nil
                        refine step_append_any rfl (.tmp 69) (.tmp 80) 31 rfl W3.heap.size 3 iI (.int .i64 0) 1 8 Tryd.underlying31 hi hz0 hz1 hz2 rfl Nat.one_pos (.slice (some ⟨W3.heap.size, 0, none⟩) 0 0) 0 [] rfl HOE.out (some ⟨g, 0, none⟩) T'.length ct' (T'.map (Value.int .i64)) rfl HLM.out (by intro e; cases e) HSR.out (ints_cells T') HL1.out HL2.out HSZ.out ?_
                        intro v' w4 hown4 hg4
                        obtain ⟨kq, kqf⟩ := HQK.out w4 hg4.out
                        have HE := hid_of1 (HOUT.out v' w4 hown4.out hg4.out)
                        have hown5 := hown4.out
                        rw [Nat.zero_add] at hown5
                        obtain ⟨pv, cv, epv⟩ := own_shapeV hown5
                        subst epv
                        refine hK.out _ _ trivial (fun _ => ?_)
                        clear hK KK
                        try simp only [Act.put, List.setIfInBounds_toArray, List.set_cons_zero, List.set_cons_succ]
                        refine wpAnyH_take (i := 14) (oi := { dst := some 82, op := Op.nilCheck (Operand.tmp 68), type := 0, pos := "l15_verify.go:79", after := #[{ on := 0, ground := Ground.data }, { on := 0, ground := Ground.phase }, { on := 1, ground := Ground.phase }, { on := 2, ground := Ground.phase }, { on := 3, ground := Ground.phase }, { on := 4, ground := Ground.phase }, { on := 5, ground := Ground.phase }, { on := 6, ground := Ground.phase }, { on := 7, ground := Ground.phase }, { on := 8, ground := Ground.phase }, { on := 9, ground := Ground.phase }, { on := 10, ground := Ground.phase }, { on := 11, ground := Ground.phase }, { on := 12, ground := Ground.phase }, { on := 13, ground := Ground.phase }], guard := none }) (v := (.pointer (some ⟨Q, 0, none⟩))) rfl (by kernel_rfl) (by kernel_rfl) (by kernel_rfl) (fun _ _ _ h => h) (Or.inl ⟨by rfl, ?_⟩) trivial ?_
                        · intro wq hSq
                          clear hSq
                          go_simp
                        try simp only [Act.put, List.setIfInBounds_toArray, List.set_cons_zero, List.set_cons_succ]
                        refine wpAnyH_take (i := 15) (oi := { dst := some 83, op := Op.fieldAddr 51 (Operand.tmp 82) 1, type := 0, pos := "l15_verify.go:79", after := #[{ on := 14, ground := Ground.data }, { on := 0, ground := Ground.phase }, { on := 1, ground := Ground.phase }, { on := 2, ground := Ground.phase }, { on := 3, ground := Ground.phase }, { on := 4, ground := Ground.phase }, { on := 5, ground := Ground.phase }, { on := 6, ground := Ground.phase }, { on := 7, ground := Ground.phase }, { on := 8, ground := Ground.phase }, { on := 9, ground := Ground.phase }, { on := 10, ground := Ground.phase }, { on := 11, ground := Ground.phase }, { on := 12, ground := Ground.phase }, { on := 13, ground := Ground.phase }], guard := none }) (v := (.pointer (some ⟨Q, 1, none⟩))) rfl (by kernel_rfl) (by kernel_rfl) (by kernel_rfl) (fun _ _ _ h => h) (Or.inl ⟨by rfl, ?_⟩) trivial ?_
                        · intro wq hSq
                          clear hSq
                          go_simp
                        try simp only [Act.put, List.setIfInBounds_toArray, List.set_cons_zero, List.set_cons_succ]
                        refine wpAnyH_ready (rs := [16]) (by kernel_rfl) (by simp) ?_
                        refine AllReadyH.cons (o := { dst := none, op := Op.store 31 (Operand.tmp 83) (Operand.tmp 81), type := 0, pos := "l15_verify.go:79", after := #[{ on := 15, ground := Ground.data }, { on := 13, ground := Ground.data }, { on := 13, ground := Ground.chain }, { on := 0, ground := Ground.phase }, { on := 1, ground := Ground.phase }, { on := 2, ground := Ground.phase }, { on := 3, ground := Ground.phase }, { on := 4, ground := Ground.phase }, { on := 5, ground := Ground.phase }, { on := 6, ground := Ground.phase }, { on := 7, ground := Ground.phase }, { on := 8, ground := Ground.phase }, { on := 9, ground := Ground.phase }, { on := 10, ground := Ground.phase }, { on := 11, ground := Ground.phase }, { on := 12, ground := Ground.phase }, { on := 13, ground := Ground.phase }], guard := none }) rfl (fun KK hK => ?_) AllReadyH.nil
                        go_simp
                        refine hK.out _ _ trivial (fun _ => ?_)
                        clear hK KK
                        try simp only [Act.put, List.setIfInBounds_toArray, List.set_cons_zero, List.set_cons_succ]
                        refine wpAnyH_done (by kernel_rfl) ?_ _
                        go_wp2_with fail
                        go_meet
                        exact ⟨rfl, _, HE.out.1, HE.out.2⟩
                    case' g1x9 =>
                      go_simp
                      refine hK.out _ _ trivial (fun _ => ?_)
                      clear hK KK
                      try simp only [Act.put, List.setIfInBounds_toArray, List.set_cons_zero, List.set_cons_succ]
                      refine wpAnyH_take (i := 10) (oi := { dst := some 78, op := Op.call { callee := Callee.builtin Builtin.len, args := #[Operand.tmp 77], argTypes := #[31] }, type := 3, pos := "l15_verify.go:79", after := #[{ on := 9, ground := Ground.data }], guard := none }) (v := (.int .i64 ((T'.length : Int) + 1))) rfl (by kernel_rfl) (by kernel_rfl) (by kernel_rfl) (fun _ _ _ h => h) (Or.inl ⟨by rfl, ?_⟩) trivial ?_
                      · intro wq hSq
                        clear hSq
                        go_simp
                      try simp only [Act.put, List.setIfInBounds_toArray, List.set_cons_zero, List.set_cons_succ]
                      refine wpAnyH_take (i := 11) (oi := { dst := some 79, op := Op.binOp BinOp.sub 3 (Operand.tmp 78) (Operand.const (Value.int IntKind.i64 1)) 3, type := 3, pos := "l15_verify.go:79", after := #[{ on := 10, ground := Ground.data }], guard := none }) (v := (.int .i64 (T'.length : Int))) rfl (by kernel_rfl) (by kernel_rfl) (by kernel_rfl) (fun _ _ _ h => h) (Or.inl ⟨by rfl, ?_⟩) trivial ?_
                      · intro wq hSq
                        clear hSq
                        go_simp; first | done | (rw [IntKind.wrap_i64]; omega)
                      try simp only [Act.put, List.setIfInBounds_toArray, List.set_cons_zero, List.set_cons_succ]
                      refine wpAnyH_ready (rs := [5]) (by kernel_rfl) (by simp) ?_
                      refine AllReadyH.cons (o := { dst := some 73, op := Op.load 31 (Operand.tmp 72), type := 31, pos := "l15_verify.go:79", after := #[{ on := 4, ground := Ground.data }], guard := none }) rfl (fun KK hK => ?g1x9x5) AllReadyH.nil
                      case' g1x9x5 =>
                        go_simp
                        refine hK.out _ _ trivial (fun _ => ?_)
                        clear hK KK
                        try simp only [Act.put, List.setIfInBounds_toArray, List.set_cons_zero, List.set_cons_succ]
                        refine wpAnyH_take (i := 12) (oi := { dst := some 80, op := Op.slice 31 (Operand.tmp 73) none (some (Operand.tmp 79)) none, type := 31, pos := "l15_verify.go:79", after := #[{ on := 5, ground := Ground.data }, { on := 11, ground := Ground.data }], guard := none }) (v := (.slice (some ⟨g, 0, none⟩) T'.length ct')) rfl (by kernel_rfl) (by kernel_rfl) (by kernel_rfl) (fun _ _ _ h => h) (Or.inl ⟨by rfl, ?_⟩) trivial ?_
                        · intro wq hSq
                          clear hSq
                          go_simp; first | done | omega | (refine ⟨by omega, by omega⟩)
                        try simp only [Act.put, List.setIfInBounds_toArray, List.set_cons_zero, List.set_cons_succ]
                        refine wpAnyH_ready (rs := [13]) (by kernel_rfl) (by simp) ?_
                        refine AllReadyH.cons (o := { dst := some 81, op := Op.call { callee := Callee.builtin Builtin.append, args := #[Operand.tmp 69, Operand.tmp 80], argTypes := #[31, 31] }, type := 31, pos := "l15_verify.go:79", after := #[{ on := 1, ground := Ground.data }, { on := 12, ground := Ground.data }], guard := none }) rfl (fun KK hK => ?_) AllReadyH.nil
                        refine step_append_any rfl (.tmp 69) (.tmp 80) 31 rfl W3.heap.size 3 iI (.int .i64 0) 1 8 Tryd.underlying31 hi hz0 hz1 hz2 rfl Nat.one_pos (.slice (some ⟨W3.heap.size, 0, none⟩) 0 0) 0 [] rfl HOE.out (some ⟨g, 0, none⟩) T'.length ct' (T'.map (Value.int .i64)) rfl HLM.out (by intro e; cases e) HSR.out (ints_cells T') HL1.out HL2.out HSZ.out ?_
                        intro v' w4 hown4 hg4
                        obtain ⟨kq, kqf⟩ := HQK.out w4 hg4.out
                        have HE := hid_of1 (HOUT.out v' w4 hown4.out hg4.out)
                        have hown5 := hown4.out
                        rw [Nat.zero_add] at hown5
                        obtain ⟨pv, cv, epv⟩ := own_shapeV hown5
                        subst epv
                        refine hK.out _ _ trivial (fun _ => ?_)
                        clear hK KK
                        try simp only [Act.put, List.setIfInBounds_toArray, List.set_cons_zero, List.set_cons_succ]
                        refine wpAnyH_take (i := 14) (oi := { dst := some 82, op := Op.nilCheck (Operand.tmp 68), type := 0, pos := "l15_verify.go:79", after := #[{ on := 0, ground := Ground.data }, { on := 0, ground := Ground.phase }, { on := 1, ground := Ground.phase }, { on := 2, ground := Ground.phase }, { on := 3, ground := Ground.phase }, { on := 4, ground := Ground.phase }, { on := 5, ground := Ground.phase }, { on := 6, ground := Ground.phase }, { on := 7, ground := Ground.phase }, { on := 8, ground := Ground.phase }, { on := 9, ground := Ground.phase }, { on := 10, ground := Ground.phase }, { on := 11, ground := Ground.phase }, { on := 12, ground := Ground.phase }, { on := 13, ground := Ground.phase }], guard := none }) (v := (.pointer (some ⟨Q, 0, none⟩))) rfl (by kernel_rfl) (by kernel_rfl) (by kernel_rfl) (fun _ _ _ h => h) (Or.inl ⟨by rfl, ?_⟩) trivial ?_
                        · intro wq hSq
                          clear hSq
                          go_simp
                        try simp only [Act.put, List.setIfInBounds_toArray, List.set_cons_zero, List.set_cons_succ]
                        refine wpAnyH_take (i := 15) (oi := { dst := some 83, op := Op.fieldAddr 51 (Operand.tmp 82) 1, type := 0, pos := "l15_verify.go:79", after := #[{ on := 14, ground := Ground.data }, { on := 0, ground := Ground.phase }, { on := 1, ground := Ground.phase }, { on := 2, ground := Ground.phase }, { on := 3, ground := Ground.phase }, { on := 4, ground := Ground.phase }, { on := 5, ground := Ground.phase }, { on := 6, ground := Ground.phase }, { on := 7, ground := Ground.phase }, { on := 8, ground := Ground.phase }, { on := 9, ground := Ground.phase }, { on := 10, ground := Ground.phase }, { on := 11, ground := Ground.phase }, { on := 12, ground := Ground.phase }, { on := 13, ground := Ground.phase }], guard := none }) (v := (.pointer (some ⟨Q, 1, none⟩))) rfl (by kernel_rfl) (by kernel_rfl) (by kernel_rfl) (fun _ _ _ h => h) (Or.inl ⟨by rfl, ?_⟩) trivial ?_
                        · intro wq hSq
                          clear hSq
                          go_simp
                        try simp only [Act.put, List.setIfInBounds_toArray, List.set_cons_zero, List.set_cons_succ]
                        refine wpAnyH_ready (rs := [16]) (by kernel_rfl) (by simp) ?_
                        refine AllReadyH.cons (o := { dst := none, op := Op.store 31 (Operand.tmp 83) (Operand.tmp 81), type := 0, pos := "l15_verify.go:79", after := #[{ on := 15, ground := Ground.data }, { on := 13, ground := Ground.data }, { on := 13, ground := Ground.chain }, { on := 0, ground := Ground.phase }, { on := 1, ground := Ground.phase }, { on := 2, ground := Ground.phase }, { on := 3, ground := Ground.phase }, { on := 4, ground := Ground.phase }, { on := 5, ground := Ground.phase }, { on := 6, ground := Ground.phase }, { on := 7, ground := Ground.phase }, { on := 8, ground := Ground.phase }, { on := 9, ground := Ground.phase }, { on := 10, ground := Ground.phase }, { on := 11, ground := Ground.phase }, { on := 12, ground := Ground.phase }, { on := 13, ground := Ground.phase }], guard := none }) rfl (fun KK hK => ?_) AllReadyH.nil
                        go_simp
                        refine hK.out _ _ trivial (fun _ => ?_)
                        clear hK KK
                        try simp only [Act.put, List.setIfInBounds_toArray, List.set_cons_zero, List.set_cons_succ]
                        refine wpAnyH_done (by kernel_rfl) ?_ _
                        go_wp2_with fail
                        go_meet
                        exact ⟨rfl, _, HE.out.1, HE.out.2⟩
                  case' g5 =>
                    go_simp
                    refine hK.out _ _ trivial (fun _ => ?_)
                    clear hK KK
                    try simp only [Act.put, List.setIfInBounds_toArray, List.set_cons_zero, List.set_cons_succ]
                    refine wpAnyH_ready (rs := [1, 9]) (by kernel_rfl) (by simp) ?_
                    refine AllReadyH.cons (o := { dst := some 69, op := Op.buildSlice 31 0 #[], type := 31, pos := "l15_verify.go:79", after := #[], guard := none }) rfl (fun KK hK => ?g5x1) (AllReadyH.cons (o := { dst := some 77, op := Op.load 31 (Operand.tmp 76), type := 31, pos := "l15_verify.go:79", after := #[{ on := 8, ground := Ground.data }], guard := none }) rfl (fun KK hK => ?g5x9) AllReadyH.nil)
                    case' g5x1 =>
                      go_simp
                      refine hK.out _ _ trivial (fun _ => ?_)
                      clear hK KK
                      try simp only [Act.put, List.setIfInBounds_toArray, List.set_cons_zero, List.set_cons_succ]
                      refine wpAnyH_ready (rs := [9]) (by kernel_rfl) (by simp) ?_
                      refine AllReadyH.cons (o := { dst := some 77, op := Op.load 31 (Operand.tmp 76), type := 31, pos := "l15_verify.go:79", after := #[{ on := 8, ground := Ground.data }], guard := none }) rfl (fun KK hK => ?g5x1x9) AllReadyH.nil
                      case' g5x1x9 =>
                        go_simp
                        refine hK.out _ _ trivial (fun _ => ?_)
                        clear hK KK
                        try simp only [Act.put, List.setIfInBounds_toArray, List.set_cons_zero, List.set_cons_succ]
                        refine wpAnyH_take (i := 10) (oi := { dst := some 78, op := Op.call { callee := Callee.builtin Builtin.len, args := #[Operand.tmp 77], argTypes := #[31] }, type := 3, pos := "l15_verify.go:79", after := #[{ on := 9, ground := Ground.data }], guard := none }) (v := (.int .i64 ((T'.length : Int) + 1))) rfl (by kernel_rfl) (by kernel_rfl) (by kernel_rfl) (fun _ _ _ h => h) (Or.inl ⟨by rfl, ?_⟩) trivial ?_
                        · intro wq hSq
                          clear hSq
                          go_simp
                        try simp only [Act.put, List.setIfInBounds_toArray, List.set_cons_zero, List.set_cons_succ]
                        refine wpAnyH_take (i := 11) (oi := { dst := some 79, op := Op.binOp BinOp.sub 3 (Operand.tmp 78) (Operand.const (Value.int IntKind.i64 1)) 3, type := 3, pos := "l15_verify.go:79", after := #[{ on := 10, ground := Ground.data }], guard := none }) (v := (.int .i64 (T'.length : Int))) rfl (by kernel_rfl) (by kernel_rfl) (by kernel_rfl) (fun _ _ _ h => h) (Or.inl ⟨by rfl, ?_⟩) trivial ?_
                        · intro wq hSq
                          clear hSq
                          go_simp; first | done | (rw [IntKind.wrap_i64]; omega)
                        try simp only [Act.put, List.setIfInBounds_toArray, List.set_cons_zero, List.set_cons_succ]
                        refine wpAnyH_take (i := 12) (oi := { dst := some 80, op := Op.slice 31 (Operand.tmp 73) none (some (Operand.tmp 79)) none, type := 31, pos := "l15_verify.go:79", after := #[{ on := 5, ground := Ground.data }, { on := 11, ground := Ground.data }], guard := none }) (v := (.slice (some ⟨g, 0, none⟩) T'.length ct')) rfl (by kernel_rfl) (by kernel_rfl) (by kernel_rfl) (fun _ _ _ h => h) (Or.inl ⟨by rfl, ?_⟩) trivial ?_
                        · intro wq hSq
                          clear hSq
                          go_simp; first | done | omega | (refine ⟨by omega, by omega⟩)
                        try simp only [Act.put, List.setIfInBounds_toArray, List.set_cons_zero, List.set_cons_succ]
                        refine wpAnyH_ready (rs := [13]) (by kernel_rfl) (by simp) ?_
                        refine AllReadyH.cons (o := { dst := some 81, op := Op.call { callee := Callee.builtin Builtin.append, args := #[Operand.tmp 69, Operand.tmp 80], argTypes := #[31, 31] }, type := 31, pos := "l15_verify.go:79", after := #[{ on := 1, ground := Ground.data }, { on := 12, ground := Ground.data }], guard := none }) rfl (fun KK hK => ?_) AllReadyH.nil
                        refine step_append_any rfl (.tmp 69) (.tmp 80) 31 rfl W3.heap.size 3 iI (.int .i64 0) 1 8 Tryd.underlying31 hi hz0 hz1 hz2 rfl Nat.one_pos (.slice (some ⟨W3.heap.size, 0, none⟩) 0 0) 0 [] rfl HOE.out (some ⟨g, 0, none⟩) T'.length ct' (T'.map (Value.int .i64)) rfl HLM.out (by intro e; cases e) HSR.out (ints_cells T') HL1.out HL2.out HSZ.out ?_
                        intro v' w4 hown4 hg4
                        obtain ⟨kq, kqf⟩ := HQK.out w4 hg4.out
                        have HE := hid_of1 (HOUT.out v' w4 hown4.out hg4.out)
                        have hown5 := hown4.out
                        rw [Nat.zero_add] at hown5
                        obtain ⟨pv, cv, epv⟩ := own_shapeV hown5
                        subst epv
                        refine hK.out _ _ trivial (fun _ => ?_)
                        clear hK KK
                        try simp only [Act.put, List.setIfInBounds_toArray, List.set_cons_zero, List.set_cons_succ]
                        refine wpAnyH_take (i := 14) (oi := { dst := some 82, op := Op.nilCheck (Operand.tmp 68), type := 0, pos := "l15_verify.go:79", after := #[{ on := 0, ground := Ground.data }, { on := 0, ground := Ground.phase }, { on := 1, ground := Ground.phase }, { on := 2, ground := Ground.phase }, { on := 3, ground := Ground.phase }, { on := 4, ground := Ground.phase }, { on := 5, ground := Ground.phase }, { on := 6, ground := Ground.phase }, { on := 7, ground := Ground.phase }, { on := 8, ground := Ground.phase }, { on := 9, ground := Ground.phase }, { on := 10, ground := Ground.phase }, { on := 11, ground := Ground.phase }, { on := 12, ground := Ground.phase }, { on := 13, ground := Ground.phase }], guard := none }) (v := (.pointer (some ⟨Q, 0, none⟩))) rfl (by kernel_rfl) (by kernel_rfl) (by kernel_rfl) (fun _ _ _ h => h) (Or.inl ⟨by rfl, ?_⟩) trivial ?_
                        · intro wq hSq
                          clear hSq
                          go_simp
                        try simp only [Act.put, List.setIfInBounds_toArray, List.set_cons_zero, List.set_cons_succ]
                        refine wpAnyH_take (i := 15) (oi := { dst := some 83, op := Op.fieldAddr 51 (Operand.tmp 82) 1, type := 0, pos := "l15_verify.go:79", after := #[{ on := 14, ground := Ground.data }, { on := 0, ground := Ground.phase }, { on := 1, ground := Ground.phase }, { on := 2, ground := Ground.phase }, { on := 3, ground := Ground.phase }, { on := 4, ground := Ground.phase }, { on := 5, ground := Ground.phase }, { on := 6, ground := Ground.phase }, { on := 7, ground := Ground.phase }, { on := 8, ground := Ground.phase }, { on := 9, ground := Ground.phase }, { on := 10, ground := Ground.phase }, { on := 11, ground := Ground.phase }, { on := 12, ground := Ground.phase }, { on := 13, ground := Ground.phase }], guard := none }) (v := (.pointer (some ⟨Q, 1, none⟩))) rfl (by kernel_rfl) (by kernel_rfl) (by kernel_rfl) (fun _ _ _ h => h) (Or.inl ⟨by rfl, ?_⟩) trivial ?_
                        · intro wq hSq
                          clear hSq
                          go_simp
                        try simp only [Act.put, List.setIfInBounds_toArray, List.set_cons_zero, List.set_cons_succ]
                        refine wpAnyH_ready (rs := [16]) (by kernel_rfl) (by simp) ?_
                        refine AllReadyH.cons (o := { dst := none, op := Op.store 31 (Operand.tmp 83) (Operand.tmp 81), type := 0, pos := "l15_verify.go:79", after := #[{ on := 15, ground := Ground.data }, { on := 13, ground := Ground.data }, { on := 13, ground := Ground.chain }, { on := 0, ground := Ground.phase }, { on := 1, ground := Ground.phase }, { on := 2, ground := Ground.phase }, { on := 3, ground := Ground.phase }, { on := 4, ground := Ground.phase }, { on := 5, ground := Ground.phase }, { on := 6, ground := Ground.phase }, { on := 7, ground := Ground.phase }, { on := 8, ground := Ground.phase }, { on := 9, ground := Ground.phase }, { on := 10, ground := Ground.phase }, { on := 11, ground := Ground.phase }, { on := 12, ground := Ground.phase }, { on := 13, ground := Ground.phase }], guard := none }) rfl (fun KK hK => ?_) AllReadyH.nil
                        go_simp
                        refine hK.out _ _ trivial (fun _ => ?_)
                        clear hK KK
                        try simp only [Act.put, List.setIfInBounds_toArray, List.set_cons_zero, List.set_cons_succ]
                        refine wpAnyH_done (by kernel_rfl) ?_ _
                        go_wp2_with fail
                        go_meet
                        exact ⟨rfl, _, HE.out.1, HE.out.2⟩
                    case' g5x9 =>
                      go_simp
                      refine hK.out _ _ trivial (fun _ => ?_)
                      clear hK KK
                      try simp only [Act.put, List.setIfInBounds_toArray, List.set_cons_zero, List.set_cons_succ]
                      refine wpAnyH_take (i := 10) (oi := { dst := some 78, op := Op.call { callee := Callee.builtin Builtin.len, args := #[Operand.tmp 77], argTypes := #[31] }, type := 3, pos := "l15_verify.go:79", after := #[{ on := 9, ground := Ground.data }], guard := none }) (v := (.int .i64 ((T'.length : Int) + 1))) rfl (by kernel_rfl) (by kernel_rfl) (by kernel_rfl) (fun _ _ _ h => h) (Or.inl ⟨by rfl, ?_⟩) trivial ?_
                      · intro wq hSq
                        clear hSq
                        go_simp
                      try simp only [Act.put, List.setIfInBounds_toArray, List.set_cons_zero, List.set_cons_succ]
                      refine wpAnyH_take (i := 11) (oi := { dst := some 79, op := Op.binOp BinOp.sub 3 (Operand.tmp 78) (Operand.const (Value.int IntKind.i64 1)) 3, type := 3, pos := "l15_verify.go:79", after := #[{ on := 10, ground := Ground.data }], guard := none }) (v := (.int .i64 (T'.length : Int))) rfl (by kernel_rfl) (by kernel_rfl) (by kernel_rfl) (fun _ _ _ h => h) (Or.inl ⟨by rfl, ?_⟩) trivial ?_
                      · intro wq hSq
                        clear hSq
                        go_simp; first | done | (rw [IntKind.wrap_i64]; omega)
                      try simp only [Act.put, List.setIfInBounds_toArray, List.set_cons_zero, List.set_cons_succ]
                      refine wpAnyH_take (i := 12) (oi := { dst := some 80, op := Op.slice 31 (Operand.tmp 73) none (some (Operand.tmp 79)) none, type := 31, pos := "l15_verify.go:79", after := #[{ on := 5, ground := Ground.data }, { on := 11, ground := Ground.data }], guard := none }) (v := (.slice (some ⟨g, 0, none⟩) T'.length ct')) rfl (by kernel_rfl) (by kernel_rfl) (by kernel_rfl) (fun _ _ _ h => h) (Or.inl ⟨by rfl, ?_⟩) trivial ?_
                      · intro wq hSq
                        clear hSq
                        go_simp; first | done | omega | (refine ⟨by omega, by omega⟩)
                      try simp only [Act.put, List.setIfInBounds_toArray, List.set_cons_zero, List.set_cons_succ]
                      refine wpAnyH_ready (rs := [1]) (by kernel_rfl) (by simp) ?_
                      refine AllReadyH.cons (o := { dst := some 69, op := Op.buildSlice 31 0 #[], type := 31, pos := "l15_verify.go:79", after := #[], guard := none }) rfl (fun KK hK => ?g5x9x1) AllReadyH.nil
                      case' g5x9x1 =>
                        go_simp
                        refine hK.out _ _ trivial (fun _ => ?_)
                        clear hK KK
                        try simp only [Act.put, List.setIfInBounds_toArray, List.set_cons_zero, List.set_cons_succ]
                        refine wpAnyH_ready (rs := [13]) (by kernel_rfl) (by simp) ?_
                        refine AllReadyH.cons (o := { dst := some 81, op := Op.call { callee := Callee.builtin Builtin.append, args := #[Operand.tmp 69, Operand.tmp 80], argTypes := #[31, 31] }, type := 31, pos := "l15_verify.go:79", after := #[{ on := 1, ground := Ground.data }, { on := 12, ground := Ground.data }], guard := none }) rfl (fun KK hK => ?_) AllReadyH.nil
                        refine step_append_any rfl (.tmp 69) (.tmp 80) 31 rfl W3.heap.size 3 iI (.int .i64 0) 1 8 Tryd.underlying31 hi hz0 hz1 hz2 rfl Nat.one_pos (.slice (some ⟨W3.heap.size, 0, none⟩) 0 0) 0 [] rfl HOE.out (some ⟨g, 0, none⟩) T'.length ct' (T'.map (Value.int .i64)) rfl HLM.out (by intro e; cases e) HSR.out (ints_cells T') HL1.out HL2.out HSZ.out ?_
                        intro v' w4 hown4 hg4
                        obtain ⟨kq, kqf⟩ := HQK.out w4 hg4.out
                        have HE := hid_of1 (HOUT.out v' w4 hown4.out hg4.out)
                        have hown5 := hown4.out
                        rw [Nat.zero_add] at hown5
                        obtain ⟨pv, cv, epv⟩ := own_shapeV hown5
                        subst epv
                        refine hK.out _ _ trivial (fun _ => ?_)
                        clear hK KK
                        try simp only [Act.put, List.setIfInBounds_toArray, List.set_cons_zero, List.set_cons_succ]
                        refine wpAnyH_take (i := 14) (oi := { dst := some 82, op := Op.nilCheck (Operand.tmp 68), type := 0, pos := "l15_verify.go:79", after := #[{ on := 0, ground := Ground.data }, { on := 0, ground := Ground.phase }, { on := 1, ground := Ground.phase }, { on := 2, ground := Ground.phase }, { on := 3, ground := Ground.phase }, { on := 4, ground := Ground.phase }, { on := 5, ground := Ground.phase }, { on := 6, ground := Ground.phase }, { on := 7, ground := Ground.phase }, { on := 8, ground := Ground.phase }, { on := 9, ground := Ground.phase }, { on := 10, ground := Ground.phase }, { on := 11, ground := Ground.phase }, { on := 12, ground := Ground.phase }, { on := 13, ground := Ground.phase }], guard := none }) (v := (.pointer (some ⟨Q, 0, none⟩))) rfl (by kernel_rfl) (by kernel_rfl) (by kernel_rfl) (fun _ _ _ h => h) (Or.inl ⟨by rfl, ?_⟩) trivial ?_
                        · intro wq hSq
                          clear hSq
                          go_simp
                        try simp only [Act.put, List.setIfInBounds_toArray, List.set_cons_zero, List.set_cons_succ]
                        refine wpAnyH_take (i := 15) (oi := { dst := some 83, op := Op.fieldAddr 51 (Operand.tmp 82) 1, type := 0, pos := "l15_verify.go:79", after := #[{ on := 14, ground := Ground.data }, { on := 0, ground := Ground.phase }, { on := 1, ground := Ground.phase }, { on := 2, ground := Ground.phase }, { on := 3, ground := Ground.phase }, { on := 4, ground := Ground.phase }, { on := 5, ground := Ground.phase }, { on := 6, ground := Ground.phase }, { on := 7, ground := Ground.phase }, { on := 8, ground := Ground.phase }, { on := 9, ground := Ground.phase }, { on := 10, ground := Ground.phase }, { on := 11, ground := Ground.phase }, { on := 12, ground := Ground.phase }, { on := 13, ground := Ground.phase }], guard := none }) (v := (.pointer (some ⟨Q, 1, none⟩))) rfl (by kernel_rfl) (by kernel_rfl) (by kernel_rfl) (fun _ _ _ h => h) (Or.inl ⟨by rfl, ?_⟩) trivial ?_
                        · intro wq hSq
                          clear hSq
                          go_simp
                        try simp only [Act.put, List.setIfInBounds_toArray, List.set_cons_zero, List.set_cons_succ]
                        refine wpAnyH_ready (rs := [16]) (by kernel_rfl) (by simp) ?_
                        refine AllReadyH.cons (o := { dst := none, op := Op.store 31 (Operand.tmp 83) (Operand.tmp 81), type := 0, pos := "l15_verify.go:79", after := #[{ on := 15, ground := Ground.data }, { on := 13, ground := Ground.data }, { on := 13, ground := Ground.chain }, { on := 0, ground := Ground.phase }, { on := 1, ground := Ground.phase }, { on := 2, ground := Ground.phase }, { on := 3, ground := Ground.phase }, { on := 4, ground := Ground.phase }, { on := 5, ground := Ground.phase }, { on := 6, ground := Ground.phase }, { on := 7, ground := Ground.phase }, { on := 8, ground := Ground.phase }, { on := 9, ground := Ground.phase }, { on := 10, ground := Ground.phase }, { on := 11, ground := Ground.phase }, { on := 12, ground := Ground.phase }, { on := 13, ground := Ground.phase }], guard := none }) rfl (fun KK hK => ?_) AllReadyH.nil
                        go_simp
                        refine hK.out _ _ trivial (fun _ => ?_)
                        clear hK KK
                        try simp only [Act.put, List.setIfInBounds_toArray, List.set_cons_zero, List.set_cons_succ]
                        refine wpAnyH_done (by kernel_rfl) ?_ _
                        go_wp2_with fail
                        go_meet
                        exact ⟨rfl, _, HE.out.1, HE.out.2⟩
                  case' g9 =>
                    go_simp
                    refine hK.out _ _ trivial (fun _ => ?_)
                    clear hK KK
                    try simp only [Act.put, List.setIfInBounds_toArray, List.set_cons_zero, List.set_cons_succ]
                    refine wpAnyH_take (i := 10) (oi := { dst := some 78, op := Op.call { callee := Callee.builtin Builtin.len, args := #[Operand.tmp 77], argTypes := #[31] }, type := 3, pos := "l15_verify.go:79", after := #[{ on := 9, ground := Ground.data }], guard := none }) (v := (.int .i64 ((T'.length : Int) + 1))) rfl (by kernel_rfl) (by kernel_rfl) (by kernel_rfl) (fun _ _ _ h => h) (Or.inl ⟨by rfl, ?_⟩) trivial ?_
                    · intro wq hSq
                      clear hSq
                      go_simp
                    try simp only [Act.put, List.setIfInBounds_toArray, List.set_cons_zero, List.set_cons_succ]
                    refine wpAnyH_take (i := 11) (oi := { dst := some 79, op := Op.binOp BinOp.sub 3 (Operand.tmp 78) (Operand.const (Value.int IntKind.i64 1)) 3, type := 3, pos := "l15_verify.go:79", after := #[{ on := 10, ground := Ground.data }], guard := none }) (v := (.int .i64 (T'.length : Int))) rfl (by kernel_rfl) (by kernel_rfl) (by kernel_rfl) (fun _ _ _ h => h) (Or.inl ⟨by rfl, ?_⟩) trivial ?_
                    · intro wq hSq
                      clear hSq
                      go_simp; first | done | (rw [IntKind.wrap_i64]; omega)
                    try simp only [Act.put, List.setIfInBounds_toArray, List.set_cons_zero, List.set_cons_succ]
                    refine wpAnyH_ready (rs := [1, 5]) (by kernel_rfl) (by simp) ?_
                    refine AllReadyH.cons (o := { dst := some 69, op := Op.buildSlice 31 0 #[], type := 31, pos := "l15_verify.go:79", after := #[], guard := none }) rfl (fun KK hK => ?g9x1) (AllReadyH.cons (o := { dst := some 73, op := Op.load 31 (Operand.tmp 72), type := 31, pos := "l15_verify.go:79", after := #[{ on := 4, ground := Ground.data }], guard := none }) rfl (fun KK hK => ?g9x5) AllReadyH.nil)
                    case' g9x1 =>
                      go_simp
                      refine hK.out _ _ trivial (fun _ => ?_)
                      clear hK KK
                      try simp only [Act.put, List.setIfInBounds_toArray, List.set_cons_zero, List.set_cons_succ]
                      refine wpAnyH_ready (rs := [5]) (by kernel_rfl) (by simp) ?_
                      refine AllReadyH.cons (o := { dst := some 73, op := Op.load 31 (Operand.tmp 72), type := 31, pos := "l15_verify.go:79", after := #[{ on := 4, ground := Ground.data }], guard := none }) rfl (fun KK hK => ?g9x1x5) AllReadyH.nil
                      case' g9x1x5 =>
                        go_simp
                        refine hK.out _ _ trivial (fun _ => ?_)
                        clear hK KK
                        try simp only [Act.put, List.setIfInBounds_toArray, List.set_cons_zero, List.set_cons_succ]
                        refine wpAnyH_take (i := 12) (oi := { dst := some 80, op := Op.slice 31 (Operand.tmp 73) none (some (Operand.tmp 79)) none, type := 31, pos := "l15_verify.go:79", after := #[{ on := 5, ground := Ground.data }, { on := 11, ground := Ground.data }], guard := none }) (v := (.slice (some ⟨g, 0, none⟩) T'.length ct')) rfl (by kernel_rfl) (by kernel_rfl) (by kernel_rfl) (fun _ _ _ h => h) (Or.inl ⟨by rfl, ?_⟩) trivial ?_
                        · intro wq hSq
                          clear hSq
                          go_simp; first | done | omega | (refine ⟨by omega, by omega⟩)
                        try simp only [Act.put, List.setIfInBounds_toArray, List.set_cons_zero, List.set_cons_succ]
                        refine wpAnyH_ready (rs := [13]) (by kernel_rfl) (by simp) ?_
                        refine AllReadyH.cons (o := { dst := some 81, op := Op.call { callee := Callee.builtin Builtin.append, args := #[Operand.tmp 69, Operand.tmp 80], argTypes := #[31, 31] }, type := 31, pos := "l15_verify.go:79", after := #[{ on := 1, ground := Ground.data }, { on := 12, ground := Ground.data }], guard := none }) rfl (fun KK hK => ?_) AllReadyH.nil
                        refine step_append_any rfl (.tmp 69) (.tmp 80) 31 rfl W3.heap.size 3 iI (.int .i64 0) 1 8 Tryd.underlying31 hi hz0 hz1 hz2 rfl Nat.one_pos (.slice (some ⟨W3.heap.size, 0, none⟩) 0 0) 0 [] rfl HOE.out (some ⟨g, 0, none⟩) T'.length ct' (T'.map (Value.int .i64)) rfl HLM.out (by intro e; cases e) HSR.out (ints_cells T') HL1.out HL2.out HSZ.out ?_
                        intro v' w4 hown4 hg4
                        obtain ⟨kq, kqf⟩ := HQK.out w4 hg4.out
                        have HE := hid_of1 (HOUT.out v' w4 hown4.out hg4.out)
                        have hown5 := hown4.out
                        rw [Nat.zero_add] at hown5
                        obtain ⟨pv, cv, epv⟩ := own_shapeV hown5
                        subst epv
                        refine hK.out _ _ trivial (fun _ => ?_)
                        clear hK KK
                        try simp only [Act.put, List.setIfInBounds_toArray, List.set_cons_zero, List.set_cons_succ]
                        refine wpAnyH_take (i := 14) (oi := { dst := some 82, op := Op.nilCheck (Operand.tmp 68), type := 0, pos := "l15_verify.go:79", after := #[{ on := 0, ground := Ground.data }, { on := 0, ground := Ground.phase }, { on := 1, ground := Ground.phase }, { on := 2, ground := Ground.phase }, { on := 3, ground := Ground.phase }, { on := 4, ground := Ground.phase }, { on := 5, ground := Ground.phase }, { on := 6, ground := Ground.phase }, { on := 7, ground := Ground.phase }, { on := 8, ground := Ground.phase }, { on := 9, ground := Ground.phase }, { on := 10, ground := Ground.phase }, { on := 11, ground := Ground.phase }, { on := 12, ground := Ground.phase }, { on := 13, ground := Ground.phase }], guard := none }) (v := (.pointer (some ⟨Q, 0, none⟩))) rfl (by kernel_rfl) (by kernel_rfl) (by kernel_rfl) (fun _ _ _ h => h) (Or.inl ⟨by rfl, ?_⟩) trivial ?_
                        · intro wq hSq
                          clear hSq
                          go_simp
                        try simp only [Act.put, List.setIfInBounds_toArray, List.set_cons_zero, List.set_cons_succ]
                        refine wpAnyH_take (i := 15) (oi := { dst := some 83, op := Op.fieldAddr 51 (Operand.tmp 82) 1, type := 0, pos := "l15_verify.go:79", after := #[{ on := 14, ground := Ground.data }, { on := 0, ground := Ground.phase }, { on := 1, ground := Ground.phase }, { on := 2, ground := Ground.phase }, { on := 3, ground := Ground.phase }, { on := 4, ground := Ground.phase }, { on := 5, ground := Ground.phase }, { on := 6, ground := Ground.phase }, { on := 7, ground := Ground.phase }, { on := 8, ground := Ground.phase }, { on := 9, ground := Ground.phase }, { on := 10, ground := Ground.phase }, { on := 11, ground := Ground.phase }, { on := 12, ground := Ground.phase }, { on := 13, ground := Ground.phase }], guard := none }) (v := (.pointer (some ⟨Q, 1, none⟩))) rfl (by kernel_rfl) (by kernel_rfl) (by kernel_rfl) (fun _ _ _ h => h) (Or.inl ⟨by rfl, ?_⟩) trivial ?_
                        · intro wq hSq
                          clear hSq
                          go_simp
                        try simp only [Act.put, List.setIfInBounds_toArray, List.set_cons_zero, List.set_cons_succ]
                        refine wpAnyH_ready (rs := [16]) (by kernel_rfl) (by simp) ?_
                        refine AllReadyH.cons (o := { dst := none, op := Op.store 31 (Operand.tmp 83) (Operand.tmp 81), type := 0, pos := "l15_verify.go:79", after := #[{ on := 15, ground := Ground.data }, { on := 13, ground := Ground.data }, { on := 13, ground := Ground.chain }, { on := 0, ground := Ground.phase }, { on := 1, ground := Ground.phase }, { on := 2, ground := Ground.phase }, { on := 3, ground := Ground.phase }, { on := 4, ground := Ground.phase }, { on := 5, ground := Ground.phase }, { on := 6, ground := Ground.phase }, { on := 7, ground := Ground.phase }, { on := 8, ground := Ground.phase }, { on := 9, ground := Ground.phase }, { on := 10, ground := Ground.phase }, { on := 11, ground := Ground.phase }, { on := 12, ground := Ground.phase }, { on := 13, ground := Ground.phase }], guard := none }) rfl (fun KK hK => ?_) AllReadyH.nil
                        go_simp
                        refine hK.out _ _ trivial (fun _ => ?_)
                        clear hK KK
                        try simp only [Act.put, List.setIfInBounds_toArray, List.set_cons_zero, List.set_cons_succ]
                        refine wpAnyH_done (by kernel_rfl) ?_ _
                        go_wp2_with fail
                        go_meet
                        exact ⟨rfl, _, HE.out.1, HE.out.2⟩
                    case' g9x5 =>
                      go_simp
                      refine hK.out _ _ trivial (fun _ => ?_)
                      clear hK KK
                      try simp only [Act.put, List.setIfInBounds_toArray, List.set_cons_zero, List.set_cons_succ]
                      refine wpAnyH_take (i := 12) (oi := { dst := some 80, op := Op.slice 31 (Operand.tmp 73) none (some (Operand.tmp 79)) none, type := 31, pos := "l15_verify.go:79", after := #[{ on := 5, ground := Ground.data }, { on := 11, ground := Ground.data }], guard := none }) (v := (.slice (some ⟨g, 0, none⟩) T'.length ct')) rfl (by kernel_rfl) (by kernel_rfl) (by kernel_rfl) (fun _ _ _ h => h) (Or.inl ⟨by rfl, ?_⟩) trivial ?_
                      · intro wq hSq
                        clear hSq
                        go_simp; first | done | omega | (refine ⟨by omega, by omega⟩)
                      try simp only [Act.put, List.setIfInBounds_toArray, List.set_cons_zero, List.set_cons_succ]
                      refine wpAnyH_ready (rs := [1]) (by kernel_rfl) (by simp) ?_
                      refine AllReadyH.cons (o := { dst := some 69, op := Op.buildSlice 31 0 #[], type := 31, pos := "l15_verify.go:79", after := #[], guard := none }) rfl (fun KK hK => ?g9x5x1) AllReadyH.nil
                      case' g9x5x1 =>
                        go_simp
                        refine hK.out _ _ trivial (fun _ => ?_)
                        clear hK KK
                        try simp only [Act.put, List.setIfInBounds_toArray, List.set_cons_zero, List.set_cons_succ]
                        refine wpAnyH_ready (rs := [13]) (by kernel_rfl) (by simp) ?_
                        refine AllReadyH.cons (o := { dst := some 81, op := Op.call { callee := Callee.builtin Builtin.append, args := #[Operand.tmp 69, Operand.tmp 80], argTypes := #[31, 31] }, type := 31, pos := "l15_verify.go:79", after := #[{ on := 1, ground := Ground.data }, { on := 12, ground := Ground.data }], guard := none }) rfl (fun KK hK => ?_) AllReadyH.nil
                        refine step_append_any rfl (.tmp 69) (.tmp 80) 31 rfl W3.heap.size 3 iI (.int .i64 0) 1 8 Tryd.underlying31 hi hz0 hz1 hz2 rfl Nat.one_pos (.slice (some ⟨W3.heap.size, 0, none⟩) 0 0) 0 [] rfl HOE.out (some ⟨g, 0, none⟩) T'.length ct' (T'.map (Value.int .i64)) rfl HLM.out (by intro e; cases e) HSR.out (ints_cells T') HL1.out HL2.out HSZ.out ?_
                        intro v' w4 hown4 hg4
                        obtain ⟨kq, kqf⟩ := HQK.out w4 hg4.out
                        have HE := hid_of1 (HOUT.out v' w4 hown4.out hg4.out)
                        have hown5 := hown4.out
                        rw [Nat.zero_add] at hown5
                        obtain ⟨pv, cv, epv⟩ := own_shapeV hown5
                        subst epv
                        refine hK.out _ _ trivial (fun _ => ?_)
                        clear hK KK
                        try simp only [Act.put, List.setIfInBounds_toArray, List.set_cons_zero, List.set_cons_succ]
                        refine wpAnyH_take (i := 14) (oi := { dst := some 82, op := Op.nilCheck (Operand.tmp 68), type := 0, pos := "l15_verify.go:79", after := #[{ on := 0, ground := Ground.data }, { on := 0, ground := Ground.phase }, { on := 1, ground := Ground.phase }, { on := 2, ground := Ground.phase }, { on := 3, ground := Ground.phase }, { on := 4, ground := Ground.phase }, { on := 5, ground := Ground.phase }, { on := 6, ground := Ground.phase }, { on := 7, ground := Ground.phase }, { on := 8, ground := Ground.phase }, { on := 9, ground := Ground.phase }, { on := 10, ground := Ground.phase }, { on := 11, ground := Ground.phase }, { on := 12, ground := Ground.phase }, { on := 13, ground := Ground.phase }], guard := none }) (v := (.pointer (some ⟨Q, 0, none⟩))) rfl (by kernel_rfl) (by kernel_rfl) (by kernel_rfl) (fun _ _ _ h => h) (Or.inl ⟨by rfl, ?_⟩) trivial ?_
                        · intro wq hSq
                          clear hSq
                          go_simp
                        try simp only [Act.put, List.setIfInBounds_toArray, List.set_cons_zero, List.set_cons_succ]
                        refine wpAnyH_take (i := 15) (oi := { dst := some 83, op := Op.fieldAddr 51 (Operand.tmp 82) 1, type := 0, pos := "l15_verify.go:79", after := #[{ on := 14, ground := Ground.data }, { on := 0, ground := Ground.phase }, { on := 1, ground := Ground.phase }, { on := 2, ground := Ground.phase }, { on := 3, ground := Ground.phase }, { on := 4, ground := Ground.phase }, { on := 5, ground := Ground.phase }, { on := 6, ground := Ground.phase }, { on := 7, ground := Ground.phase }, { on := 8, ground := Ground.phase }, { on := 9, ground := Ground.phase }, { on := 10, ground := Ground.phase }, { on := 11, ground := Ground.phase }, { on := 12, ground := Ground.phase }, { on := 13, ground := Ground.phase }], guard := none }) (v := (.pointer (some ⟨Q, 1, none⟩))) rfl (by kernel_rfl) (by kernel_rfl) (by kernel_rfl) (fun _ _ _ h => h) (Or.inl ⟨by rfl, ?_⟩) trivial ?_
                        · intro wq hSq
                          clear hSq
                          go_simp
                        try simp only [Act.put, List.setIfInBounds_toArray, List.set_cons_zero, List.set_cons_succ]
                        refine wpAnyH_ready (rs := [16]) (by kernel_rfl) (by simp) ?_
                        refine AllReadyH.cons (o := { dst := none, op := Op.store 31 (Operand.tmp 83) (Operand.tmp 81), type := 0, pos := "l15_verify.go:79", after := #[{ on := 15, ground := Ground.data }, { on := 13, ground := Ground.data }, { on := 13, ground := Ground.chain }, { on := 0, ground := Ground.phase }, { on := 1, ground := Ground.phase }, { on := 2, ground := Ground.phase }, { on := 3, ground := Ground.phase }, { on := 4, ground := Ground.phase }, { on := 5, ground := Ground.phase }, { on := 6, ground := Ground.phase }, { on := 7, ground := Ground.phase }, { on := 8, ground := Ground.phase }, { on := 9, ground := Ground.phase }, { on := 10, ground := Ground.phase }, { on := 11, ground := Ground.phase }, { on := 12, ground := Ground.phase }, { on := 13, ground := Ground.phase }], guard := none }) rfl (fun KK hK => ?_) AllReadyH.nil
                        go_simp
                        refine hK.out _ _ trivial (fun _ => ?_)
                        clear hK KK
                        try simp only [Act.put, List.setIfInBounds_toArray, List.set_cons_zero, List.set_cons_succ]
                        refine wpAnyH_done (by kernel_rfl) ?_ _
                        go_wp2_with fail
                        go_meet
                        exact ⟨rfl, _, HE.out.1, HE.out.2⟩
                case rest =>
                  obtain ⟨rfl, vt4, h4, k4⟩ := hcut
                  have HB4 := hid_of1 (k4.old HST0.out HBW.out)
                  have hcd := HD.out _ HB4.out
                  have HC4 := hid_of1 (HONE.out _ _ _ h4 k4)
                  have HK4 := hid_of1 k4
                  have HS4 := hid_of1 h4
                  clear h4 k4 HONE
                  go_wp2_with fail
                  refine HC4.out.mono ?_
                  rintro e w5 ⟨rfl, vd5, vt5, hs5, hk5⟩
                  have HS5 := hid_of1 hs5
                  have HK5 := hid_of1 (HK4.out.trans hk5)
                  clear hs5 hk5 HC4
                  go_wp2_with fail
                  go_roundg (muL (oneL (f.op k) k d (D, T', true)).1 (oneL (f.op k) k d (D, T', true)).2.1)
                  case measure => exact HM2.out
                  case rel => exact ⟨vd5, vt5, _, _, _, rfl, by have := HM2.out; have := HMU.out.2; omega, HS5.out, HK5.out, HR2.out⟩
    · have HIN : Hid (∀ w1, Calls Tryd.prog 23 #[.int .i64 i, .int .i64 0, .int .i64 ((nf : Int) - 1)] w1 fun e w' => e = .returned (.bool false) ∧ w1 = w') := fun w1 => (spec_in13 i 0 ((nf : Int) - 1) false (by
        by_cases h0 : 0 ≤ i
        · rw [decide_eq_true h0, decide_eq_false (fun h => hI ⟨h0, h⟩)]; rfl
        · rw [decide_eq_false h0]; rfl) w1).mono fun e w' ⟨a, b⟩ => ⟨a, b.symm⟩
      have HNO : Hid (DepsOf nf kid i false []) := .inr ⟨rfl, fun h => hI ⟨h.2.1, by omega⟩, rfl⟩
      unfold maxLen at hlm
      clear hF hI hat hv
      subst ev
      go_enter Tryd.func10, Tryd.ntmps10
      go_wp2_with fail
      refine HFT.out.mono ?_
      rintro e w1 ⟨rfl, hb1⟩
      have HB1 : Hid (Below w.heap.size w w1) := hb1
      clear hb1
      go_wp2_with fail
      refine (HIN.out w1).mono ?_
      rintro e w1' ⟨rfl, rfl⟩
      go_wp2_with fail
      go_ret2
      exact ⟨_, _, [], rfl, HB1.out.trans ((newb w1 _).mono HB1.out.size), own_none15 w1 _ HB1.out.size _, HNO.out⟩
  · have HFT : Hid (Calls Tryd.prog 22 #[v] w fun e w' => e = .returned (.bool false) ∧ Below w.heap.size w w') := HFO.out false ⟨fun h => (by cases h), fun h => absurd h hF⟩
    have HNO : Hid (DepsOf nf kid i false []) := .inr ⟨rfl, fun h => hF h.1, rfl⟩
    clear hF hat hv HFO
    subst ev
    go_enter Tryd.func10, Tryd.ntmps10
    go_wp2_with fail
    refine HFT.out.mono ?_
    rintro e w1 ⟨rfl, hb1⟩
    have HB1 : Hid (Below w.heap.size w w1) := hb1
    clear hb1
    go_wp2_with fail
    go_ret2
    exact ⟨_, _, [], rfl, HB1.out.trans ((newb w1 _).mono HB1.out.size), own_none15 w1 _ HB1.out.size _, HNO.out⟩
end Go.Proofs.YtkbbfgfmlilfbaaDoor
