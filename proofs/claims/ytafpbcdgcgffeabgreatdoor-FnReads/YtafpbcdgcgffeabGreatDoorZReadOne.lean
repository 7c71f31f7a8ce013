/- (*impl.datReader).readOne. Conditions: as of readKids; the tokens are right. -/
import Derived.Test.YtafpbcdgcgffeabGreatDoorZReadImpl
import Derived.Deep.Cut
import Derived.RegionDies
namespace Go.Proofs.YtafpbcdgcgffeabGreatDoor
open Go.ChangeShapes Go.WideShapes Go.ChangeAt Go.RowKit

/-- The world behind the token was taken. -/
abbrev took (w : World) (K i : Nat) (o1 o2 : Obj) : World := (((w.setCell ⟨K, 1, none⟩ (.int .i64 ((i : Int) + 1))).alloc o1).alloc o2).drew

theorem took_says {w : World} {K : Nat} {tv : Value} {i E : Nat} (h : RdAt w K tv i E) (o1 o2 : Obj) :
    FrS w (took w K i o1 o2) [K] ∧ RdAt (took w K i o1 o2) K tv (i + 1) E ∧ (took w K i o1 o2).heap.size = w.heap.size + 2 ∧ (took w K i o1 o2).heap[w.heap.size]? = some o1 ∧ (took w K i o1 o2).heap[w.heap.size + 1]? = some o2 := by
  have hs : (w.setCell ⟨K, 1, none⟩ (.int .i64 ((i : Int) + 1))).heap.size = w.heap.size := by simp [World.setCell]
  have b : Below (w.setCell ⟨K, 1, none⟩ (.int .i64 ((i : Int) + 1))).heap.size (w.setCell ⟨K, 1, none⟩ (.int .i64 ((i : Int) + 1))) (took w K i o1 o2) := ((newb _ o1).trans ((newb _ o2).mono (by simp))).drew
  have n1 := heap_alloc_new (w.setCell ⟨K, 1, none⟩ (.int .i64 ((i : Int) + 1))) o1
  have n2 := heap_alloc_new ((w.setCell ⟨K, 1, none⟩ (.int .i64 ((i : Int) + 1))).alloc o1) o2
  have e1 : ((w.setCell ⟨K, 1, none⟩ (.int .i64 ((i : Int) + 1))).alloc o1).heap.size = w.heap.size + 1 := by simp [World.setCell]
  rw [e1] at n2
  rw [hs] at n1
  refine ⟨⟨b.os, b.tape, b.output, by have := b.size; omega, fun x hx hn => (b.block x (by omega)).trans (Below.heap_setCell w ⟨K, 1, none⟩ _ x (by simpa using hn))⟩, h.next.below b, by simp [took, World.setCell, World.drew], ?_, n2⟩
  exact (Below.heap_alloc _ o2 w.heap.size (by omega)).trans n1

theorem dnum_own (w : World) (t : Tok) (h : -1073741824 ≤ t.n ∧ t.n ≤ 1073741823) : DOwn w (dNum t) (.slice none 0 0) [] := by
  refine ⟨⟨Nat.zero_le _, ?_, ?_⟩, .inl ⟨rfl, rfl, rfl⟩⟩
  · omega
  · omega
theorem dsym_own (w : World) (t : Tok) (h : t.text.size ≤ 4000) : DOwn w (dSym t) (.slice none 0 0) [] := by
  refine ⟨⟨by unfold maxLen; omega, by omega, by omega⟩, .inl ⟨rfl, rfl, rfl⟩⟩

theorem dlist_own {w : World} {t : Tok} {ds : List D} {v : Value} {T : List Nat} (h : SOwn w ds.length (kidsOf ds) v T) : DOwn w (dList t ds) v T := by
  refine ⟨⟨Nat.zero_le _, by omega, by omega⟩, h⟩

theorem set5_same {w : World} {N x : Nat} {v0 v1 v2 v3 v4 : Value} (h : x ≠ N) :
    (((((w.setCell ⟨N, 0, none⟩ v0).setCell ⟨N, 1, none⟩ v1).setCell ⟨N, 2, none⟩ v2).setCell ⟨N, 3, none⟩ v3).setCell ⟨N, 4, none⟩ v4).heap[x]? = w.heap[x]? := by
  rw [Below.heap_setCell _ _ _ _ h, Below.heap_setCell _ _ _ _ h, Below.heap_setCell _ _ _ _ h, Below.heap_setCell _ _ _ _ h, Below.heap_setCell _ _ _ _ h]

set_option maxRecDepth 100000 in
set_option maxHeartbeats 4000000 in
theorem one_of_kids (w0 : World) (K : Nat) (hK : w0.heap.size ≤ K) (tv : Value) (ts : List Tok) (E f : Nat) (htv : TokCells w0 tv ts) (hts : ts.length ≤ 4000) (hok : TokOk ts) (hkids : KidsAt w0 K tv ts E f) : OneAt w0 K tv ts E (f + 1) := by
  intro w i hbel hrd hi hf
  obtain ⟨g, cap, rfl, t0, t1, t2, t3⟩ := tok_at (htv.below hbel) i hi
  have hdrop : ts.drop i = ts[i] :: ts.drop (i + 1) := List.drop_eq_getElem_cons hi
  have htk := hok ts[i] (List.getElem_mem hi)
  have c0 := hrd.c0; have c1 := hrd.c1
  have hKw := hrd.lt
  have hcf := hrd.fr 1
  have HTS : Hid (∀ o1 o2, FrS w (took w K i o1 o2) [K] ∧ RdAt (took w K i o1 o2) K (.slice (some ⟨g, 0, none⟩) ts.length cap) (i + 1) E ∧ (took w K i o1 o2).heap.size = w.heap.size + 2 ∧ (took w K i o1 o2).heap[w.heap.size]? = some o1 ∧ (took w K i o1 o2).heap[w.heap.size + 1]? = some o2) := fun o1 o2 => took_says hrd o1 o2
  have HB : Hid (Below w0.heap.size w0 w) := hbel
  have HKD : Hid (KidsAt w0 K (.slice (some ⟨g, 0, none⟩) ts.length cap) ts E f) := hkids
  have HRES : Hid (one E (f + 1) (ts.drop i) = if ts[i].kind = 3 then .ok (dNum ts[i]) (ts.drop (i + 1)) else if ts[i].kind = 4 then .ok (dSym ts[i]) (ts.drop (i + 1)) else if ts[i].kind = 2 then .bad ts[i].at_
    else match kidsL E (one E f) ((ts.drop (i + 1)).length + 1) [] (ts.drop (i + 1)) with
      | .bad p => .bad p
      | .ok ds r1 => .ok (dList ts[i] ds) r1) := by rw [hdrop]; rfl
  generalize one E (f + 1) (ts.drop i) = res at *
  generalize hT : ts[i] = t at *
  clear hrd hbel hkids hT htv hok hdrop
  obtain ⟨tk, ta, tn, tx⟩ := t
  simp only at t0 t1 t2 t3 htk HRES
  have a0 := fun x y => keeps ((newb w x).trans ((newb _ y).mono (by simp))) _ _ c0; have a1 := fun x y => keeps ((newb w x).trans ((newb _ y).mono (by simp))) _ _ c1
  have d0 := fun x => keeps (newb w x) _ _ c0; have d1 := fun x => keeps (newb w x) _ _ c1
  by_cases h3 : tk = 3
  · subst h3
    have HX : Hid (res = .ok (dNum ⟨3, ta, tn, tx⟩) (ts.drop (i + 1))) := HRES.out.trans (by rw [if_pos rfl])
    have b0 := fun x y => keeps ((newb w x).trans ((newb _ y).mono (by simp))) _ _ t0; have b1 := fun x y => keeps ((newb w x).trans ((newb _ y).mono (by simp))) _ _ t1; have b2 := fun x y => keeps ((newb w x).trans ((newb _ y).mono (by simp))) _ _ t2; have b3 := fun x y => keeps ((newb w x).trans ((newb _ y).mono (by simp))) _ _ t3
    have e0 := fun x => keeps (newb w x) _ _ t0; have e1 := fun x => keeps (newb w x) _ _ t1; have e2 := fun x => keeps (newb w x) _ _ t2; have e3 := fun x => keeps (newb w x) _ _ t3
    clear HRES
    go_enter Tryz.func58, Tryz.ntmps58
    go_wp2_with fail
    go_region
    all_goals
      go_wp2_with fail
      refine bodyPost_ret (v := .agg #[.int .i64 1, .int .i64 ta, .int .i64 tn, .string ⟨#[]⟩, .slice none 0 0]) (by rw [results_cell1 (p := 2) (ty := 30) (by kernel_rfl)]; simp [go_sem]) rfl ?_
      obtain ⟨q1, q2, -⟩ := HTS.out (.cells #[.int .i64 1, .int .i64 ta, .int .i64 tn, .string ⟨#[]⟩, .slice none 0 0] 30) (.cells #[.int .i64 3, .int .i64 ta, .int .i64 tn, .string tx] 84)
      rw [HX.out]
      exact ⟨q1, .slice none 0 0, [], i + 1, rfl, dnum_own _ _ htk.2.1, by simp, by simp, rfl, by omega, q2⟩
  · by_cases h4 : tk = 4
    · subst h4
      have HX : Hid (res = .ok (dSym ⟨4, ta, tn, tx⟩) (ts.drop (i + 1))) := HRES.out.trans (by rw [if_neg (by omega), if_pos rfl])
      have b0 := fun x y => keeps ((newb w x).trans ((newb _ y).mono (by simp))) _ _ t0; have b1 := fun x y => keeps ((newb w x).trans ((newb _ y).mono (by simp))) _ _ t1; have b2 := fun x y => keeps ((newb w x).trans ((newb _ y).mono (by simp))) _ _ t2; have b3 := fun x y => keeps ((newb w x).trans ((newb _ y).mono (by simp))) _ _ t3
      have e0 := fun x => keeps (newb w x) _ _ t0; have e1 := fun x => keeps (newb w x) _ _ t1; have e2 := fun x => keeps (newb w x) _ _ t2; have e3 := fun x => keeps (newb w x) _ _ t3
      clear HRES
      go_enter Tryz.func58, Tryz.ntmps58
      go_wp2_with fail
      go_region
      all_goals
        go_wp2_with fail
        refine bodyPost_ret (v := .agg #[.int .i64 2, .int .i64 ta, .int .i64 0, .string tx, .slice none 0 0]) (by rw [results_cell1 (p := 2) (ty := 30) (by kernel_rfl)]; simp [go_sem]) rfl ?_
        obtain ⟨q1, q2, -⟩ := HTS.out (.cells #[.int .i64 2, .int .i64 ta, .int .i64 0, .string tx, .slice none 0 0] 30) (.cells #[.int .i64 4, .int .i64 ta, .int .i64 tn, .string tx] 84)
        rw [HX.out]
        exact ⟨q1, .slice none 0 0, [], i + 1, rfl, dsym_own _ _ htk.2.2, by simp, by simp, rfl, by omega, q2⟩
    · by_cases h2 : tk = 2
      · subst h2
        have HX : Hid (res = .bad ta) := HRES.out.trans (by rw [if_neg (by omega), if_neg (by omega), if_pos rfl])
        have b0 := fun x y => keeps ((newb w x).trans ((newb _ y).mono (by simp))) _ _ t0; have b1 := fun x y => keeps ((newb w x).trans ((newb _ y).mono (by simp))) _ _ t1; have b2 := fun x y => keeps ((newb w x).trans ((newb _ y).mono (by simp))) _ _ t2; have b3 := fun x y => keeps ((newb w x).trans ((newb _ y).mono (by simp))) _ _ t3
        have e0 := fun x => keeps (newb w x) _ _ t0; have e1 := fun x => keeps (newb w x) _ _ t1; have e2 := fun x => keeps (newb w x) _ _ t2; have e3 := fun x => keeps (newb w x) _ _ t3
        clear HRES
        go_enter Tryz.func58, Tryz.ntmps58
        go_wp2_with fail
        go_region
        all_goals
          go_wp2_with fail
          obtain ⟨q1, q2, -⟩ := HTS.out (.cells #[.int .i64 0, .int .i64 0, .int .i64 0, .string ⟨#[]⟩, .slice none 0 0] 30) (.cells #[.int .i64 2, .int .i64 ta, .int .i64 tn, .string tx] 84)
          rw [HX.out]
          exact ⟨rfl, q1, rfl⟩
      · have h1 : tk = 1 := by omega
        subst h1
        have HX : Hid (res = match kidsL E (one E f) ((ts.drop (i + 1)).length + 1) [] (ts.drop (i + 1)) with
          | .bad p => .bad p
          | .ok ds r1 => .ok (dList ⟨1, ta, tn, tx⟩ ds) r1) := HRES.out.trans (by rw [if_neg (by omega), if_neg (by omega), if_neg (by omega)])
        have b0 := fun x y => keeps ((newb w x).trans ((newb _ y).mono (by simp))) _ _ t0; have b1 := fun x y => keeps ((newb w x).trans ((newb _ y).mono (by simp))) _ _ t1; have b2 := fun x y => keeps ((newb w x).trans ((newb _ y).mono (by simp))) _ _ t2; have b3 := fun x y => keeps ((newb w x).trans ((newb _ y).mono (by simp))) _ _ t3
        have e0 := fun x => keeps (newb w x) _ _ t0; have e1 := fun x => keeps (newb w x) _ _ t1; have e2 := fun x => keeps (newb w x) _ _ t2; have e3 := fun x => keeps (newb w x) _ _ t3
        clear HRES
        have HCK : Hid (∀ W, Below w0.heap.size w0 W → RdAt W K (.slice (some ⟨g, 0, none⟩) ts.length cap) (i + 1) E → Calls Tryz.prog 70 #[.pointer (some ⟨K, 0, none⟩)] W (KidsSay W K (.slice (some ⟨g, 0, none⟩) ts.length cap) ts E (kidsL E (one E f) ((ts.drop (i + 1)).length + 1) [] (ts.drop (i + 1))))) :=
          fun W h1 h2 => HKD.out W (i + 1) h1 h2 (by omega) (by omega)
        generalize kidsL E (one E f) ((ts.drop (i + 1)).length + 1) [] (ts.drop (i + 1)) = kres at *
        clear HKD
        obtain ⟨q1, q2, q3, q4, q5⟩ := HTS.out (.cells #[.int .i64 0, .int .i64 0, .int .i64 0, .string ⟨#[]⟩, .slice none 0 0] 30) (.cells #[.int .i64 1, .int .i64 ta, .int .i64 tn, .string tx] 84)
        have HQ : Hid (FrS w (took w K i (.cells #[.int .i64 0, .int .i64 0, .int .i64 0, .string ⟨#[]⟩, .slice none 0 0] 30) (.cells #[.int .i64 1, .int .i64 ta, .int .i64 tn, .string tx] 84)) [K] ∧ RdAt (took w K i (.cells #[.int .i64 0, .int .i64 0, .int .i64 0, .string ⟨#[]⟩, .slice none 0 0] 30) (.cells #[.int .i64 1, .int .i64 ta, .int .i64 tn, .string tx] 84)) K (.slice (some ⟨g, 0, none⟩) ts.length cap) (i + 1) E ∧ (took w K i (.cells #[.int .i64 0, .int .i64 0, .int .i64 0, .string ⟨#[]⟩, .slice none 0 0] 30) (.cells #[.int .i64 1, .int .i64 ta, .int .i64 tn, .string tx] 84)).heap.size = w.heap.size + 2 ∧ (took w K i (.cells #[.int .i64 0, .int .i64 0, .int .i64 0, .string ⟨#[]⟩, .slice none 0 0] 30) (.cells #[.int .i64 1, .int .i64 ta, .int .i64 tn, .string tx] 84)).heap[w.heap.size]? = some (.cells #[.int .i64 0, .int .i64 0, .int .i64 0, .string ⟨#[]⟩, .slice none 0 0] 30) ∧ (took w K i (.cells #[.int .i64 0, .int .i64 0, .int .i64 0, .string ⟨#[]⟩, .slice none 0 0] 30) (.cells #[.int .i64 1, .int .i64 ta, .int .i64 tn, .string tx] 84)).heap[w.heap.size + 1]? = some (.cells #[.int .i64 1, .int .i64 ta, .int .i64 tn, .string tx] 84)) := ⟨q1, q2, q3, q4, q5⟩
        clear q1 q2 q3 q4 q5
        cases kres with
        | bad p =>
          have HY : Hid (res = .bad p) := HX.out
          clear HX
          go_enter Tryz.func58, Tryz.ntmps58
          go_wp2_with fail
          go_region
          all_goals
            go_upto_region 9 with fail
            unfold took at HQ
            generalize hW : (((w.setCell ⟨K, 1, none⟩ (.int .i64 ((i : Int) + 1))).alloc (.cells #[.int .i64 0, .int .i64 0, .int .i64 0, .string ⟨#[]⟩, .slice none 0 0] 30)).alloc (.cells #[.int .i64 1, .int .i64 ta, .int .i64 tn, .string tx] 84)).drew = W at *
            have k1 : W.cell? ⟨w.heap.size + 1, 1, none⟩ = some (.int .i64 ta) := cell_of_row W _ 1 _ _ _ HQ.out.2.2.2.2
            have HBW : Hid (Below w0.heap.size w0 W) := HQ.out.1.below0 HB.out hK
            clear hW a0 a1 d0 d1 b0 b1 b2 b3 e0 e1 e2 e3 t0 t1 t2 t3 c0 c1 hcf HTS
            go_region_dies
            all_goals
              refine (HCK.out _ ?_ ?_).mono ?_
              · exact HBW.out.drew
              · exact HQ.out.2.1
              · rintro e w1 ⟨hf1, rfl⟩
                simp only
                rw [HY.out]
                exact ⟨rfl, HQ.out.1.trans ((frs_drew _ _).trans hf1), rfl⟩
        | ok ds r1 =>
          have HY : Hid (res = .ok (dList ⟨1, ta, tn, tx⟩ ds) r1) := HX.out
          clear HX
          go_enter Tryz.func58, Tryz.ntmps58
          go_wp2_with fail
          go_region
          all_goals
            go_upto_region 9 with fail
            unfold took at HQ
            generalize hW : (((w.setCell ⟨K, 1, none⟩ (.int .i64 ((i : Int) + 1))).alloc (.cells #[.int .i64 0, .int .i64 0, .int .i64 0, .string ⟨#[]⟩, .slice none 0 0] 30)).alloc (.cells #[.int .i64 1, .int .i64 ta, .int .i64 tn, .string tx] 84)).drew = W at *
            have k1 : W.cell? ⟨w.heap.size + 1, 1, none⟩ = some (.int .i64 ta) := cell_of_row W _ 1 _ _ _ HQ.out.2.2.2.2
            have HBW : Hid (Below w0.heap.size w0 W) := HQ.out.1.below0 HB.out hK
            clear hW a0 a1 d0 d1 b0 b1 b2 b3 e0 e1 e2 e3 t0 t1 t2 t3 c0 c1 hcf HTS
            go_region_with ((go_at_call 70; refine (HCK.out _ ?_ ?_).mono ?_; exact HBW.out.drew; exact HQ.out.2.1; rintro e w1 ⟨hf1, v, T, i', rfl, hs, hn, hTB, hr1, hi', hr⟩; obtain ⟨pv, cv, ev⟩ := hs.sl.shape; subst ev; have hz : w1.heap[w.heap.size]? = some (.cells #[.int .i64 0, .int .i64 0, .int .i64 0, .string ⟨#[]⟩, .slice none 0 0] 30) := (hf1.block _ (by show w.heap.size < W.heap.size; have := HQ.out.2.2.1; omega) (by simp only [List.mem_singleton]; omega)).trans HQ.out.2.2.2.1; have hk : w1.heap[w.heap.size + 1]? = some (.cells #[.int .i64 1, .int .i64 ta, .int .i64 tn, .string tx] 84) := (hf1.block _ (by show w.heap.size + 1 < W.heap.size; have := HQ.out.2.2.1; omega) (by simp only [List.mem_singleton]; omega)).trans HQ.out.2.2.2.2; have k2 : w1.cell? ⟨w.heap.size + 1, 1, none⟩ = some (.int .i64 ta) := cell_of_row w1 _ 1 _ _ _ hk; have z0 : w1.cell? ⟨w.heap.size, 0, none⟩ = some (.int .i64 0) := cell_of_row w1 _ 0 _ _ _ hz; have z1 : w1.cell? ⟨w.heap.size, 1, none⟩ = some (.int .i64 0) := cell_of_row w1 _ 1 _ _ _ hz; have z2 : w1.cell? ⟨w.heap.size, 2, none⟩ = some (.int .i64 0) := cell_of_row w1 _ 2 _ _ _ hz; have z3 : w1.cell? ⟨w.heap.size, 3, none⟩ = some (.string ⟨#[]⟩) := cell_of_row w1 _ 3 _ _ _ hz; have z4 : w1.cell? ⟨w.heap.size, 4, none⟩ = some (.slice none 0 0) := cell_of_row w1 _ 4 _ _ _ hz; have zf : ∀ j, w1.frozen? ⟨w.heap.size, j, none⟩ = false := fun j => frozen_of_row w1 _ j _ _ hz; have HE : Hid (FrS W.drew w1 [K] ∧ SOwn w1 ds.length (kidsOf ds) (.slice pv ds.length cv) T ∧ T.Nodup ∧ (∀ x ∈ T, w.heap.size + 2 ≤ x) ∧ r1 = ts.drop i' ∧ i' ≤ ts.length ∧ RdAt w1 K (.slice (some ⟨g, 0, none⟩) ts.length cap) i' E) := ⟨hf1, hs, hn, (fun x hx => by have h1 := hTB x hx; have h2 : W.drew.heap.size = w.heap.size + 2 := HQ.out.2.2.1; omega), hr1, hi', hr⟩; clear hf1 hs hn hTB hr1 hi' hr hz hk))
            all_goals
              go_wp2_with fail
              refine bodyPost_ret (v := .agg #[.int .i64 3, .int .i64 ta, .int .i64 0, .string ⟨#[]⟩, .slice pv ds.length cv]) (by rw [results_cell1 (p := 2) (ty := 30) (by kernel_rfl)]; simp [go_sem, z0, z1, z2, z3, z4]) rfl ?_
              rw [HY.out]
              obtain ⟨p1, p2, p3, p4, p5, p6, p7⟩ := HE.out
              have hs2 := HQ.out.2.2.1
              have hsd : W.drew.heap.size = w.heap.size + 2 := hs2
              exact ⟨⟨p1.os.trans HQ.out.1.os, p1.tape.trans HQ.out.1.tape, p1.output.trans HQ.out.1.output, by have h1 := p1.size; simp [World.setCell]; omega, fun x hx hn => (set5_same (by omega)).trans ((p1.block x (by omega) hn).trans (HQ.out.1.block x hx hn))⟩, _, T, i', rfl, dlist_own (p2.same (fun x hx => set5_same (by have := p4 x hx; omega))), p3, (fun x hx => by have := p4 x hx; omega), p5, p6, (set5_same (by omega)).trans p7⟩
end Go.Proofs.YtafpbcdgcgffeabGreatDoor
