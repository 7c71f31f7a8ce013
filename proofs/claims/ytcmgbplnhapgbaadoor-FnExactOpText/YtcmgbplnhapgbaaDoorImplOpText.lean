/- impl.OpText at every op: the name of its code, N and M, each behind a blank; the empty text where there is no such code. Condition: the tables read as their text lays them. -/
import Derived.Test.YtcmgbplnhapgbaaDoorOpTrim
import Derived.Test.YtcmgbplnhapgbaaDoorSpecOpText
import Derived.Test.YtcmgbplnhapgbaaDoorImplDigits
import Derived.Test.YtcmgbplnhapgbaaDoorLater
namespace Go.Proofs.YtcmgbplnhapgbaaDoor
open Go.ChangeShapes Go.WideShapes Go.ChangeAt Go.RowKit

set_option maxRecDepth 100000 in
set_option maxHeartbeats 4000000 in
theorem impl_optext (c n m : Int) (hn0 : -9223372036854775808 ≤ n) (hn1 : n ≤ 9223372036854775807) (hm0 : -9223372036854775808 ≤ m) (hm1 : m ≤ 9223372036854775807) (w : World) (ht : NameTab w) (hp : PowTab w) :
    Calls Tryd.prog 12 #[.agg #[.int .i64 c, .int .i64 n, .int .i64 m]] w fun e w' => e = .returned (.string (opTextB c n m)) ∧ Below w.heap.size w w' := by
  obtain ⟨W, hW⟩ : ∃ W, W = w.alloc (.cells #[.int .i64 c, .int .i64 n, .int .i64 m] 32) := ⟨_, rfl⟩
  obtain ⟨K, hK⟩ : ∃ K, K = w.heap.size := ⟨_, rfl⟩
  have bW : Below w.heap.size w W := by rw [hW]; exact newb w _
  have hk : W.heap[K]? = some (.cells #[.int .i64 c, .int .i64 n, .int .i64 m] 32 (0, 0)) := by rw [hW, hK]; exact heap_alloc_new w _
  have k0 : W.cell? ⟨K, 0, none⟩ = some (.int .i64 c) := cell_of_row W K 0 _ _ _ hk
  have k1 : W.cell? ⟨K, 1, none⟩ = some (.int .i64 n) := cell_of_row W K 1 _ _ _ hk
  have k2 : W.cell? ⟨K, 2, none⟩ = some (.int .i64 m) := cell_of_row W K 2 _ _ _ hk
  have HC : Hid (∀ wq, Below W.heap.size W wq → wq.cell? ⟨K, 0, none⟩ = some (.int .i64 c) ∧ wq.cell? ⟨K, 1, none⟩ = some (.int .i64 n) ∧ wq.cell? ⟨K, 2, none⟩ = some (.int .i64 m)) := fun wq h => ⟨keeps h _ _ k0, keeps h _ _ k1, keeps h _ _ k2⟩
  have HWW : Hid (W = w.alloc (.cells #[.int .i64 c, .int .i64 n, .int .i64 m] 32)) := hW
  have HK : Hid (K = w.heap.size) := hK
  have HB : Hid (Below w.heap.size w W) := bW
  have HP : Hid (∀ wq, Below w.heap.size w wq → PowTab wq) := fun wq h => hp.below h
  have HNM : Hid (NameTab W) := ht.below bW
  have HD : Hid ((∀ wq, PowTab wq → Calls Tryd.prog 25 #[.int .i64 n] wq fun e w' => e = .returned (.string ⟨(Lib.itoa n).toArray⟩) ∧ Below wq.heap.size wq w') ∧ (∀ wq, PowTab wq → Calls Tryd.prog 25 #[.int .i64 m] wq fun e w' => e = .returned (.string ⟨(Lib.itoa m).toArray⟩) ∧ Below wq.heap.size wq w')) := ⟨fun wq => impl_digits n hn0 hn1 wq, fun wq => impl_digits m hm0 hm1 wq⟩
  have hA := Lib.itoa_length_le n hn0 hn1
  have hBm := Lib.itoa_length_le m hm0 hm1
  clear hk hW hK bW hn0 hn1 hm0 hm1 ht hp
  have HTT : Hid (opTextB c n m = if codeB c = true then ⟨(nameL c ++ [32] ++ Lib.itoa n ++ [32] ++ Lib.itoa m).toArray⟩ else ⟨#[]⟩) := rfl
  generalize opTextB c n m = T at *
  generalize Lib.itoa n = A at *
  generalize Lib.itoa m = B at *
  cases hc : codeB c with
  | false =>
    have HT : Hid (T = ⟨#[]⟩ ∧ nameL c = []) := by
      refine ⟨?_, ?_⟩
      · rw [HTT.out, hc]; rfl
      · unfold nameL; rw [hc]; rfl
    clear HTT hc
    rw [HT.out.1]
    go_enter Tryd.func12, Tryd.ntmps12
    go_upto_region 1 with fail
    rw [← HWW.out, ← HK.out]
    go_wp2_with fail
    refine (name_of_code c _ HNM.out).mono ?_
    rintro e w1 ⟨rfl, hb1⟩
    rw [HT.out.2]
    have HB1 : Hid (∀ o, Below w.heap.size w (w1.alloc o)) := fun o => (HB.out.trans (hb1.mono HB.out.size)).trans ((newb w1 o).mono (Nat.le_trans HB.out.size hb1.size))
    clear hb1
    unfold nameV
    go_wp2_with fail
    refine (is_empty [] true rfl _).mono ?_
    rintro e w2 ⟨rfl, hb2⟩
    have HB2 : Hid (Below w.heap.size w w2) := (HB1.out _).trans (hb2.mono (HB1.out _).size)
    clear hb2
    go_wp2_with fail
    go_ret
    exact ⟨rfl, HB2.out⟩
  | true =>
    obtain ⟨i, rfl, hi1, hi2⟩ := code_cases hc
    have HT : Hid (T = ⟨(opL.getD i [] ++ [32] ++ A ++ [32] ++ B).toArray⟩) := by show _ = _; rw [HTT.out, hc, nameL_at (by omega)]; rfl
    clear HTT
    have hl5 := opL_len i hi2
    have HNL : Hid (nameL i = opL.getD i []) := nameL_at hi2
    have HOK : Hid (NameOk (opL.getD i [])) := name_ok i hi1 hi2
    have HEM : Hid ((five (opL.getD i []) == [0, 0, 0, 0, 0]) = false) := name_full HOK.out
    generalize opL.getD i [] = l at *
    clear hc
    rw [HT.out]
    go_enter Tryd.func12, Tryd.ntmps12
    go_upto_region 1 with fail
    rw [← HWW.out, ← HK.out]
    go_wp2_with fail
    refine (name_of_code i _ HNM.out).mono ?_
    rintro e w1 ⟨rfl, hb1⟩
    rw [HNL.out]
    obtain ⟨V, hV⟩ : ∃ V, V = w1.alloc (.cells #[.int .u8 (l.getD 0 0).toNat, .int .u8 (l.getD 1 0).toNat, .int .u8 (l.getD 2 0).toNat, .int .u8 (l.getD 3 0).toNat, .int .u8 (l.getD 4 0).toNat] 54) := ⟨_, rfl⟩
    obtain ⟨G, hG⟩ : ∃ G, G = w1.heap.size := ⟨_, rfl⟩
    have hv : V.heap[G]? = some (.cells #[.int .u8 (l.getD 0 0).toNat, .int .u8 (l.getD 1 0).toNat, .int .u8 (l.getD 2 0).toNat, .int .u8 (l.getD 3 0).toNat, .int .u8 (l.getD 4 0).toNat] 54 (0, 0)) := by rw [hV, hG]; exact heap_alloc_new w1 _
    have bV1 : Below W.heap.size W V := hb1.trans ((by rw [hV]; exact newb w1 _ : Below w1.heap.size w1 V).mono hb1.size)
    have HV : Hid (Below W.heap.size W V) := bV1
    have v0 : V.cell? ⟨G, 0, none⟩ = some (.int .u8 (l.getD 0 0).toNat) := cell_of_row V G 0 _ _ _ hv
    have v1 : V.cell? ⟨G, 1, none⟩ = some (.int .u8 (l.getD 1 0).toNat) := cell_of_row V G 1 _ _ _ hv
    have v2 : V.cell? ⟨G, 2, none⟩ = some (.int .u8 (l.getD 2 0).toNat) := cell_of_row V G 2 _ _ _ hv
    have v3 : V.cell? ⟨G, 3, none⟩ = some (.int .u8 (l.getD 3 0).toNat) := cell_of_row V G 3 _ _ _ hv
    have v4 : V.cell? ⟨G, 4, none⟩ = some (.int .u8 (l.getD 4 0).toNat) := cell_of_row V G 4 _ _ _ hv
    have HVV : Hid (V = w1.alloc (.cells #[.int .u8 (l.getD 0 0).toNat, .int .u8 (l.getD 1 0).toNat, .int .u8 (l.getD 2 0).toNat, .int .u8 (l.getD 3 0).toNat, .int .u8 (l.getD 4 0).toNat] 54)) := hV
    have HG : Hid (G = w1.heap.size) := hG
    clear hv hV hG bV1 hb1 k0 k1 k2
    have HI : Hid (∀ wq, Calls Tryd.prog 23 #[nameV l] wq fun e w' => e = .returned (.bool false) ∧ Below wq.heap.size wq w') := fun wq => is_empty l false HEM.out.symm wq
    have HX : Hid (∀ wq, Calls Tryd.prog 24 #[nameV l] wq fun e w' => e = .returned (.string ⟨l.toArray⟩) ∧ Below wq.heap.size wq w') := fun wq => name_text l HOK.out wq
    unfold nameV at *
    clear HOK HEM HNL
    generalize ((l.getD 0 0).toNat : Int) = z0 at *
    generalize ((l.getD 1 0).toNat : Int) = z1 at *
    generalize ((l.getD 2 0).toNat : Int) = z2 at *
    generalize ((l.getD 3 0).toNat : Int) = z3 at *
    generalize ((l.getD 4 0).toNat : Int) = z4 at *
    go_upto_region 2 with fail
    rw [← HVV.out, ← HG.out]
    go_wp2_with fail
    refine (HI.out _).mono ?_
    rintro e w2 ⟨rfl, hb2⟩
    have B2 : Below W.heap.size W w2 := HV.out.trans (hb2.mono HV.out.size)
    obtain ⟨c0, c1, c2⟩ := HC.out w2 B2
    have g0 := keeps hb2 _ _ v0
    have g1 := keeps hb2 _ _ v1
    have g2 := keeps hb2 _ _ v2
    have g3 := keeps hb2 _ _ v3
    have g4 := keeps hb2 _ _ v4
    have HE2 : Hid (Below w.heap.size w w2) := HB.out.trans (B2.mono HB.out.size)
    clear hb2 v0 v1 v2 v3 v4 B2 HC HV HI HNM
    go_upto_region 4 with fail
    have hone := Later.one w2
    have y0 := fun x : Later w2 => x.cell c0
    have y1 := fun x : Later w2 => x.cell c1
    have y2 := fun x : Later w2 => x.cell c2
    have y3 := fun x : Later w2 => x.cell g0
    have y4 := fun x : Later w2 => x.cell g1
    have y5 := fun x : Later w2 => x.cell g2
    have y6 := fun x : Later w2 => x.cell g3
    have y7 := fun x : Later w2 => x.cell g4
    have HPX : Hid (∀ x : Later w2, PowTab x.w) := fun x => HP.out _ (HE2.out.trans (x.le.mono HE2.out.size))
    clear c0 c1 c2 g0 g1 g2 g3 g4
    have s1 : ¬ 9223372036854775807 < l.length + 1 := by omega
    have s2 : ¬ 9223372036854775807 < l.length + 1 + A.length := by omega
    have s3 : ¬ 9223372036854775807 < l.length + (A.length + 1) + 1 := by omega
    have s4 : ¬ 9223372036854775807 < l.length + (A.length + 1 + 1) + B.length := by omega
    refine wp_region_later (by kernel_rfl) (by kernel_rfl) ?_
    repeat (go_big_quiet_step (first | (go_at_call 24; refine calls_later (HX.out _)) | (go_at_call 25; first | refine calls_later (HD.out.1 _ (HPX.out _)) | refine calls_later (HD.out.2 _ (HPX.out _)))))
    refine wpQuiet_nil ?_
    rintro _ ⟨x, rfl⟩
    go_wp2_with fail
    go_ret
    exact ⟨by simp [cat_two, cat_two _ [32]], HE2.out.trans (x.le.mono HE2.out.size)⟩
end Go.Proofs.YtcmgbplnhapgbaaDoor
