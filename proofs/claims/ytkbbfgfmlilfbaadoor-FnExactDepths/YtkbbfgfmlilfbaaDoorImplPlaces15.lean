/- impl.nextPlaces at every op: the places behind a place, in a row of one's own. No conditions. Written by wip/tools/mknext15.py. -/
import Derived.Test.YtkbbfgfmlilfbaaDoorImplWork15
import Derived.Test.YtkbbfgfmlilfbaaDoorIntsOwn
import Derived.Test.YtkbbfgfmlilfbaaDoorAppendOne
import Derived.Deep.Cut
namespace Go.Proofs.YtkbbfgfmlilfbaaDoor
open Go.ChangeShapes Go.WideShapes Go.ChangeAt Go.RowKit

/-- What is answered. -/
def NPost (q : O3) (k : Int) (w : World) (e : Ending) (w' : World) : Prop :=
  ∃ v, e = .returned v ∧ Below w.heap.size w w' ∧ w'.ownsRow w.heap.size 3 1 v (succI q k).length ((succI q k).map (Value.int .i64))
theorem new_one (wq : World) (z : Int) : ∀ j u, [Value.int .i64 z][j]? = some u → (wq.alloc (.cells #[.int .i64 z] 3)).cell? ((⟨wq.heap.size, 0, none⟩ : Addr).add j) = some u := fun j u hj => by
  have hj0 : j = 0 := by have := (List.getElem?_eq_some_iff.1 hj).1; simp at this; omega
  subst hj0
  have := cell_of_row (wq.alloc (.cells #[.int .i64 z] 3)) wq.heap.size 0 _ _ _ (heap_alloc_new wq _)
  simpa [Addr.add] using this.trans hj
theorem grown_old {B : Nat} {w w1 w2 : World} {v : Value} {n : Nat} {xs : List Value} (hb : Below w.heap.size w w1) (hB : B = w.heap.size) (hg : w1.grownBy w2 v.ownBlock) (ho : w1.ownsRow B 3 1 v n xs) : Below w.heap.size w w2 :=
  ⟨hg.os.trans hb.os, hg.tape.trans hb.tape, hg.output.trans hb.output, Nat.le_trans hb.size hg.size, fun k hk => (hg.block k (Nat.lt_of_lt_of_le hk hb.size) (fun e => by have := (own_betweenV ho e.symm).1; omega)).trans (hb.block k hk)⟩
theorem below_grown {w : World} {o : Obj} {w' : World} (hg : (w.alloc o).grownBy w' (Value.slice none 0 0).ownBlock) : Below w.heap.size w w' :=
  ⟨hg.os, hg.tape, hg.output, Nat.le_trans (newb w o).size hg.size, fun k hk => (hg.block k (Nat.lt_of_lt_of_le hk (newb w o).size) (fun e => by cases e)).trans ((newb w o).block k hk)⟩
theorem own_none_r (w : World) (B : Nat) : w.ownsRow B 3 1 (.slice none 0 0) 0 [] := ⟨rfl, .inl ⟨rfl, rfl⟩⟩

set_option maxRecDepth 100000 in
set_option maxHeartbeats 8000000 in
theorem next_places (q : O3) (k : Int) (w : World) (hk0 : 0 ≤ k) (hk1 : k ≤ 1073741824) : Calls Tryd.prog 54 #[.agg #[.int .i64 q.c, .int .i64 q.n, .int .i64 q.m], .int .i64 k] w (NPost q k w) := by
  obtain ⟨W, hW⟩ : ∃ W, W = w.alloc (.cells #[.int .i64 q.c, .int .i64 q.n, .int .i64 q.m] 26) := ⟨_, rfl⟩
  obtain ⟨K, hK⟩ : ∃ K, K = w.heap.size := ⟨_, rfl⟩
  have bW : Below w.heap.size w W := by rw [hW]; exact newb w _
  have hk : W.heap[K]? = some (.cells #[.int .i64 q.c, .int .i64 q.n, .int .i64 q.m] 26 (0, 0)) := by rw [hW, hK]; exact heap_alloc_new w _
  have k0 : W.cell? ⟨K, 0, none⟩ = some (.int .i64 q.c) := cell_of_row W K 0 _ _ _ hk
  have k1 : W.cell? ⟨K, 1, none⟩ = some (.int .i64 q.n) := cell_of_row W K 1 _ _ _ hk
  have k2 : W.cell? ⟨K, 2, none⟩ = some (.int .i64 q.m) := cell_of_row W K 2 _ _ _ hk
  have HC : Hid (∀ wq, Below W.heap.size W wq → wq.cell? ⟨K, 0, none⟩ = some (.int .i64 q.c) ∧ wq.cell? ⟨K, 1, none⟩ = some (.int .i64 q.n) ∧ wq.cell? ⟨K, 2, none⟩ = some (.int .i64 q.m)) := fun wq h => ⟨keeps h _ _ k0, keeps h _ _ k1, keeps h _ _ k2⟩
  have HWW : Hid (W = w.alloc (.cells #[.int .i64 q.c, .int .i64 q.n, .int .i64 q.m] 26) ∧ K = w.heap.size) := ⟨hW, hK⟩
  have HB : Hid (Below w.heap.size w W) := bW
  obtain ⟨i0, hi, hz0, hz1, hz2⟩ := info_parts int_info
  obtain ⟨POST, hPO⟩ : ∃ POST, POST = NPost q k w := ⟨_, rfl⟩
  rw [← hPO]
  have HP : Hid (∀ S, succI q k = S → ∀ v w', Below w.heap.size w w' → w'.ownsRow w.heap.size 3 1 v S.length (S.map (Value.int .i64)) → POST (.returned v) w') := fun S hS v w' hb ho => by
    rw [hPO]
    exact ⟨v, rfl, hb, by rw [hS]; exact ho⟩
  have hsu : succI q k = if q.c = 7 ∨ q.c = 21 then [] else if q.c = 19 then [q.n] else if q.c = 18 then [k + 1, q.n] else if q.c = 10 ∨ q.c = 11 then [q.m, k + 1] else [k + 1] := rfl
  clear hPO hk bW hW hK k0 k1 k2
  obtain ⟨c, n, m⟩ := q
  simp only at HC HWW hsu ⊢
  obtain ⟨c0, c1, c2⟩ := HC.out W (Below.refl _ _)
  generalize succI ⟨c, n, m⟩ k = SS at *
  by_cases e7 : c = 7
  · subst e7
    rw [if_pos (by omega)] at hsu
    have HE : Hid (POST (.returned (.slice none 0 0)) W) := HP.out _ hsu _ _ HB.out (own_none_r _ _)
    clear hsu
    go_enter Tryd.func54, Tryd.ntmps54
    go_upto_region 1 with fail
    rw [← HWW.out.2, ← HWW.out.1]
    go_wp2_with fail
    first
      | exact HE.out
      | (go_ret; exact HE.out)
  have b7 : (c == 7) = false := by simpa using e7
  by_cases e21 : c = 21
  · subst e21
    rw [if_pos (by omega)] at hsu
    have HE : Hid (POST (.returned (.slice none 0 0)) W) := HP.out _ hsu _ _ HB.out (own_none_r _ _)
    clear hsu
    go_enter Tryd.func54, Tryd.ntmps54
    go_upto_region 1 with fail
    rw [← HWW.out.2, ← HWW.out.1]
    go_wp2_with fail
    first
      | exact HE.out
      | (go_ret; exact HE.out)
  have b21 : (c == 21) = false := by simpa using e21
  rw [if_neg (by omega)] at hsu
  by_cases e19 : c = 19
  · subst e19
    rw [if_pos rfl] at hsu
    have HS : Hid (SS = [n]) := hsu
    clear hsu
    have HN1 : Hid (Below w.heap.size w (W.alloc (.cells #[.int .i64 (n)] 3))) := HB.out.trans ((newb W _).mono HB.out.size)
    have HBN : Hid (w.heap.size ≤ (W.alloc (.cells #[.int .i64 (n)] 3)).heap.size) := HN1.out.size
    go_enter Tryd.func54, Tryd.ntmps54
    go_upto_region 1 with fail
    rw [← HWW.out.2, ← HWW.out.1]
    go_wp2_with (at_builtin; refine wpList_append_1 _ rfl (.tmp 23) (.tmp 26) 31 rfl w.heap.size 3 i0 _ 1 8 Tryd.underlying31 hi hz0 hz1 hz2 rfl (by omega) (.slice none 0 0) 0 ([]) rfl (own_none_r _ _) ⟨W.heap.size, 0, none⟩ 1 1 [.int .i64 (n)] rfl rfl (new_one W _) (by simp [Value.oneCell']) (by unfold maxLen; omega) (by omega) HBN.out (by omega) ?_; intro v' w' hown2 hg2 hat2; (have HE := hid_of1 (HP.out _ HS.out v' w' (grown_old HN1.out rfl hg2.out (own_none_r _ _)) hown2.out)); (obtain ⟨pv, cv, epv⟩ := own_shapeV hown2.out); subst epv)
    first
      | exact HE.out
      | (go_ret; exact HE.out)
  have b19 : (c == 19) = false := by simpa using e19
  rw [if_neg e19] at hsu
  by_cases e18 : c = 18
  · subst e18
    rw [if_pos rfl] at hsu
    have HS : Hid (SS = [k + 1, n]) := hsu
    clear hsu
    have HN1 : Hid (Below w.heap.size w (W.alloc (.cells #[.int .i64 (k + 1)] 3))) := HB.out.trans ((newb W _).mono HB.out.size)
    have HBN : Hid (w.heap.size ≤ (W.alloc (.cells #[.int .i64 (k + 1)] 3)).heap.size) := HN1.out.size
    go_enter Tryd.func54, Tryd.ntmps54
    go_upto_region 1 with fail
    rw [← HWW.out.2, ← HWW.out.1]
    go_upto_region 10 with (at_builtin; refine wpList_append_1 _ rfl (.tmp 18) (.tmp 21) 31 rfl w.heap.size 3 i0 _ 1 8 Tryd.underlying31 hi hz0 hz1 hz2 rfl (by omega) (.slice none 0 0) 0 ([]) rfl (own_none_r _ _) ⟨W.heap.size, 0, none⟩ 1 1 [.int .i64 (k + 1)] rfl rfl (new_one W _) (by simp [Value.oneCell']) (by unfold maxLen; omega) (by omega) HBN.out (by omega) ?_; intro v1 w1 hown1 hg1 hat1; (have HO1 := hid_of1 hown1.out); (have HB1 := hid_of1 (grown_old HN1.out rfl hg1.out (own_none_r _ _))); (have HC1 := hid_of1 (HC.out w1 (below_grown hg1.out))); (obtain ⟨pv, cv, epv⟩ := own_shapeV HO1.out); subst epv; clear hown1 hg1 hat1)
    obtain ⟨d0, d1, d2⟩ := HC1.out
    have HBN2 : Hid (w.heap.size ≤ (w1.alloc (.cells #[.int .i64 (n)] 3)).heap.size) := Nat.le_trans HB1.out.size (newb w1 _).size
    have HO2 : Hid ((w1.alloc (.cells #[.int .i64 (n)] 3)).ownsRow w.heap.size 3 1 (.slice pv (0 + 1) cv) (0 + 1) ([] ++ [.int .i64 (k + 1)])) := own_belowV HO1.out (newb w1 _)
    have HN2 : Hid (Below w.heap.size w (w1.alloc (.cells #[.int .i64 (n)] 3))) := HB1.out.trans ((newb w1 _).mono HB1.out.size)
    go_wp2_with (at_builtin; refine wpList_append_1 _ rfl (.tmp 23) (.tmp 26) 31 rfl w.heap.size 3 i0 _ 1 8 Tryd.underlying31 hi hz0 hz1 hz2 rfl (by omega) (.slice pv (0 + 1) cv) (0 + 1) ([] ++ [.int .i64 (k + 1)]) rfl HO2.out ⟨w1.heap.size, 0, none⟩ 1 1 [.int .i64 (n)] rfl rfl (new_one w1 _) (by simp [Value.oneCell']) (by unfold maxLen; omega) (by omega) HBN2.out (by omega) ?_; intro v' w' hown2 hg2 hat2; (have HE := hid_of1 (HP.out _ HS.out v' w' (grown_old HN2.out rfl hg2.out HO2.out) hown2.out)); (obtain ⟨pv', cv', epv⟩ := own_shapeV hown2.out); subst epv)
    first
      | exact HE.out
      | (go_ret; exact HE.out)
  have b18 : (c == 18) = false := by simpa using e18
  rw [if_neg e18] at hsu
  by_cases e10 : c = 10
  · subst e10
    rw [if_pos (by omega)] at hsu
    have HS : Hid (SS = [m, k + 1]) := hsu
    clear hsu
    have HN1 : Hid (Below w.heap.size w (W.alloc (.cells #[.int .i64 (m)] 3))) := HB.out.trans ((newb W _).mono HB.out.size)
    have HBN : Hid (w.heap.size ≤ (W.alloc (.cells #[.int .i64 (m)] 3)).heap.size) := HN1.out.size
    go_enter Tryd.func54, Tryd.ntmps54
    go_upto_region 1 with fail
    rw [← HWW.out.2, ← HWW.out.1]
    go_upto_region 12 with (at_builtin; refine wpList_append_1 _ rfl (.tmp 28) (.tmp 31) 31 rfl w.heap.size 3 i0 _ 1 8 Tryd.underlying31 hi hz0 hz1 hz2 rfl (by omega) (.slice none 0 0) 0 ([]) rfl (own_none_r _ _) ⟨W.heap.size, 0, none⟩ 1 1 [.int .i64 (m)] rfl rfl (new_one W _) (by simp [Value.oneCell']) (by unfold maxLen; omega) (by omega) HBN.out (by omega) ?_; intro v1 w1 hown1 hg1 hat1; (have HO1 := hid_of1 hown1.out); (have HB1 := hid_of1 (grown_old HN1.out rfl hg1.out (own_none_r _ _))); (have HC1 := hid_of1 (HC.out w1 (below_grown hg1.out))); (obtain ⟨pv, cv, epv⟩ := own_shapeV HO1.out); subst epv; clear hown1 hg1 hat1)
    obtain ⟨d0, d1, d2⟩ := HC1.out
    have HBN2 : Hid (w.heap.size ≤ (w1.alloc (.cells #[.int .i64 (k + 1)] 3)).heap.size) := Nat.le_trans HB1.out.size (newb w1 _).size
    have HO2 : Hid ((w1.alloc (.cells #[.int .i64 (k + 1)] 3)).ownsRow w.heap.size 3 1 (.slice pv (0 + 1) cv) (0 + 1) ([] ++ [.int .i64 (m)])) := own_belowV HO1.out (newb w1 _)
    have HN2 : Hid (Below w.heap.size w (w1.alloc (.cells #[.int .i64 (k + 1)] 3))) := HB1.out.trans ((newb w1 _).mono HB1.out.size)
    go_wp2_with (at_builtin; refine wpList_append_1 _ rfl (.tmp 33) (.tmp 36) 31 rfl w.heap.size 3 i0 _ 1 8 Tryd.underlying31 hi hz0 hz1 hz2 rfl (by omega) (.slice pv (0 + 1) cv) (0 + 1) ([] ++ [.int .i64 (m)]) rfl HO2.out ⟨w1.heap.size, 0, none⟩ 1 1 [.int .i64 (k + 1)] rfl rfl (new_one w1 _) (by simp [Value.oneCell']) (by unfold maxLen; omega) (by omega) HBN2.out (by omega) ?_; intro v' w' hown2 hg2 hat2; (have HE := hid_of1 (HP.out _ HS.out v' w' (grown_old HN2.out rfl hg2.out HO2.out) hown2.out)); (obtain ⟨pv', cv', epv⟩ := own_shapeV hown2.out); subst epv)
    first
      | exact HE.out
      | (go_ret; exact HE.out)
  have b10 : (c == 10) = false := by simpa using e10
  by_cases e11 : c = 11
  · subst e11
    rw [if_pos (by omega)] at hsu
    have HS : Hid (SS = [m, k + 1]) := hsu
    clear hsu
    have HN1 : Hid (Below w.heap.size w (W.alloc (.cells #[.int .i64 (m)] 3))) := HB.out.trans ((newb W _).mono HB.out.size)
    have HBN : Hid (w.heap.size ≤ (W.alloc (.cells #[.int .i64 (m)] 3)).heap.size) := HN1.out.size
    go_enter Tryd.func54, Tryd.ntmps54
    go_upto_region 1 with fail
    rw [← HWW.out.2, ← HWW.out.1]
    go_upto_region 12 with (at_builtin; refine wpList_append_1 _ rfl (.tmp 28) (.tmp 31) 31 rfl w.heap.size 3 i0 _ 1 8 Tryd.underlying31 hi hz0 hz1 hz2 rfl (by omega) (.slice none 0 0) 0 ([]) rfl (own_none_r _ _) ⟨W.heap.size, 0, none⟩ 1 1 [.int .i64 (m)] rfl rfl (new_one W _) (by simp [Value.oneCell']) (by unfold maxLen; omega) (by omega) HBN.out (by omega) ?_; intro v1 w1 hown1 hg1 hat1; (have HO1 := hid_of1 hown1.out); (have HB1 := hid_of1 (grown_old HN1.out rfl hg1.out (own_none_r _ _))); (have HC1 := hid_of1 (HC.out w1 (below_grown hg1.out))); (obtain ⟨pv, cv, epv⟩ := own_shapeV HO1.out); subst epv; clear hown1 hg1 hat1)
    obtain ⟨d0, d1, d2⟩ := HC1.out
    have HBN2 : Hid (w.heap.size ≤ (w1.alloc (.cells #[.int .i64 (k + 1)] 3)).heap.size) := Nat.le_trans HB1.out.size (newb w1 _).size
    have HO2 : Hid ((w1.alloc (.cells #[.int .i64 (k + 1)] 3)).ownsRow w.heap.size 3 1 (.slice pv (0 + 1) cv) (0 + 1) ([] ++ [.int .i64 (m)])) := own_belowV HO1.out (newb w1 _)
    have HN2 : Hid (Below w.heap.size w (w1.alloc (.cells #[.int .i64 (k + 1)] 3))) := HB1.out.trans ((newb w1 _).mono HB1.out.size)
    go_wp2_with (at_builtin; refine wpList_append_1 _ rfl (.tmp 33) (.tmp 36) 31 rfl w.heap.size 3 i0 _ 1 8 Tryd.underlying31 hi hz0 hz1 hz2 rfl (by omega) (.slice pv (0 + 1) cv) (0 + 1) ([] ++ [.int .i64 (m)]) rfl HO2.out ⟨w1.heap.size, 0, none⟩ 1 1 [.int .i64 (k + 1)] rfl rfl (new_one w1 _) (by simp [Value.oneCell']) (by unfold maxLen; omega) (by omega) HBN2.out (by omega) ?_; intro v' w' hown2 hg2 hat2; (have HE := hid_of1 (HP.out _ HS.out v' w' (grown_old HN2.out rfl hg2.out HO2.out) hown2.out)); (obtain ⟨pv', cv', epv⟩ := own_shapeV hown2.out); subst epv)
    first
      | exact HE.out
      | (go_ret; exact HE.out)
  have b11 : (c == 11) = false := by simpa using e11
  rw [if_neg (by omega)] at hsu
  have HS : Hid (SS = [k + 1]) := hsu
  clear hsu
  have HN1 : Hid (Below w.heap.size w (W.alloc (.cells #[.int .i64 (k + 1)] 3))) := HB.out.trans ((newb W _).mono HB.out.size)
  have HBN : Hid (w.heap.size ≤ (W.alloc (.cells #[.int .i64 (k + 1)] 3)).heap.size) := HN1.out.size
  go_enter Tryd.func54, Tryd.ntmps54
  go_upto_region 1 with fail
  rw [← HWW.out.2, ← HWW.out.1]
  go_wp2_with (at_builtin; refine wpList_append_1 _ rfl (.tmp 33) (.tmp 36) 31 rfl w.heap.size 3 i0 _ 1 8 Tryd.underlying31 hi hz0 hz1 hz2 rfl (by omega) (.slice none 0 0) 0 ([]) rfl (own_none_r _ _) ⟨W.heap.size, 0, none⟩ 1 1 [.int .i64 (k + 1)] rfl rfl (new_one W _) (by simp [Value.oneCell']) (by unfold maxLen; omega) (by omega) HBN.out (by omega) ?_; intro v' w' hown2 hg2 hat2; (have HE := hid_of1 (HP.out _ HS.out v' w' (grown_old HN1.out rfl hg2.out (own_none_r _ _)) hown2.out)); (obtain ⟨pv, cv, epv⟩ := own_shapeV hown2.out); subst epv)
  first
    | exact HE.out
    | (go_ret; exact HE.out)
end Go.Proofs.YtkbbfgfmlilfbaaDoor
