/- The walk of laws.FnReads: it returns true. Conditions: the code's bytes can be read; the library's table of powers of ten and its two errors lie as their text lays them. -/
import Derived.Test.YtoljphjmekkneabGreatDoorZG44LawReads1
import Derived.Test.YtoljphjmekkneabGreatDoorTie
import Derived.Test.YtoljphjmekkneabGreatDoorCards
import Derived.Test.YtoljphjmekkneabGreatDoorZG0Dat
import Derived.LaidMore
import Derived.OpenShut
import Derived.ChangeOld
import Derived.Stop.Joined
import Derived.Stop.LaidErr
import Derived.SevenTiedAt
namespace Go.Proofs.YtoljphjmekkneabGreatDoor.fnReads
open Go.ChangeShapes Go.WideShapes Go.ChangeAt Go.RowKit

set_option maxRecDepth 100000 in
set_option maxHeartbeats 8000000 in
theorem walk (a : Option Addr) (len cap : Nat) (w : World) (hl : len ≤ 1048576) (hg : Ground a len w) :
    Calls Tryz.prog 3 #[.slice a len cap] w fun e w' => e = .returned (.bool true) ∧ Below w.heap.size w w' := by
  have hb0 : ¬ (1048576 : Int) < len := by omega
  have HG : Hid (∀ w1, Below w.heap.size w w1 → Ground a len w1) := fun w1 h => hg.below h
  clear hg hl
  go_enter Tryz.func3, Tryz.ntmps3
  go_wp2_with (go_at_call 4; go_in)
  refine (drawReadAll_any a len cap w (HG.out _ (Below.refl _ _)).code).mono ?_
  rintro e w1 ⟨⟨s, hs, rfl⟩, b1⟩
  have B1 : Hid (Below w.heap.size w w1) := b1
  clear b1
  go_wp2_with fail
  refine (read_all s (by omega) w1 (HG.out _ B1.out).tab (HG.out _ B1.out).errs).mono ?_
  rintro e w2 ⟨b2, hsay2⟩
  have B2 : Hid (Below w.heap.size w w2) := B1.out.trans (b2.mono B1.out.size)
  have HUP : Hid (∀ p, readP s = .bad p → 0 ≤ p) := fun p h => readP_up s p h
  have HRT : Hid (∀ ds r, readP s = .ok ds r → datsB ds.length (kidsOf ds) = true ∧ kidsWeight ds.length (kidsOf ds) ≤ 52000) := fun ds r h => ⟨readP_right s ds r h, readP_weight s ds r h⟩
  have HSP : Hid (∀ w0, Calls Tryz.prog 7 #[.string s] w0 (SAllSay w0 (readP s))) := fun w0 => spec_all s (by omega) w0
  generalize readP s = res at hsay2 HUP HRT HSP
  clear b2 hs
  cases res with
  | bad p =>
    have hp0 := HUP.out p rfl
    obtain rfl := hsay2
    go_wp2_with fail
    refine (HSP.out w2).mono ?_
    rintro e w3 ⟨b3, q3, c3, rfl⟩
    have B3 : Hid (Below w.heap.size w w3) := B2.out.trans (b3.mono B2.out.size)
    clear b3 HSP HUP HRT
    go_wp2_with fail
    refine (drawDatsOk_any a len cap w3 (HG.out _ B3.out).code).mono ?_
    rintro e w4 ⟨vo, no, kido, rfl, hso, hwo, b4⟩
    have B4 : Hid (Below w.heap.size w w4) := B3.out.trans (b4.mono B3.out.size)
    obtain ⟨po, qo, hvo⟩ := hso.shape
    subst hvo
    have S4 : Hid (Sl w4 no kido (.slice po no qo) ∧ kidsWeight no kido ≤ 60000) := ⟨hso, hwo⟩
    clear b4 hso hwo
    go_wp2_with fail
    refine (drawDatText_any a len cap w4 (HG.out _ B4.out).code).mono ?_
    rintro e w5 ⟨t, vt, rfl, hit, hwt, b5⟩
    have B5 : Hid (Below w.heap.size w w5) := B4.out.trans (b5.mono B4.out.size)
    obtain ⟨pt, qt, hvt⟩ := hit.sl.shape
    subst hvt
    have S5 : Hid (Sl w5 no kido (.slice po no qo) ∧ kidsWeight no kido ≤ 60000 ∧ t.In w5 (.slice pt t.len qt) ∧ t.weight ≤ 60000 ∧ Below w4.heap.size w4 w5) := ⟨S4.out.1.below b5, S4.out.2, hit, hwt, b5⟩
    have B5' : Hid (Below w.heap.size w (w5.alloc (datObj t (.slice pt t.len qt)))) := B5.out.trans ((newb _ _).mono B5.out.size)
    clear b5 hit hwt
    go_wp2_with fail
    refine (drawSameDat_any a len cap _ (HG.out _ B5'.out).code).mono ?_
    rintro e w6 ⟨ta, va, tb, vb, rfl, ⟨hia, hib, b6⟩, hwa, hwb⟩
    obtain ⟨pa, qa, hva⟩ := hia.sl.shape
    subst hva
    obtain ⟨pb, qb, hvb⟩ := hib.sl.shape
    subst hvb
    go_wp2_with fail
    obtain ⟨W, hW⟩ : ∃ W, W = (w6.alloc (datObj ta (.slice pa ta.len qa))).alloc (datObj tb (.slice pb tb.len qb)) := ⟨_, rfl⟩
    obtain ⟨T, hT⟩ : ∃ T, T = w5.heap.size := ⟨_, rfl⟩
    obtain ⟨A1, hA1⟩ : ∃ A, A = w6.heap.size := ⟨_, rfl⟩
    obtain ⟨A2, hA2⟩ : ∃ A, A = w6.heap.size + 1 := ⟨_, rfl⟩
    have nb5 := newb w5 (datObj t (.slice pt t.len qt))
    have nb6 := newb w6 (datObj ta (.slice pa ta.len qa))
    have nb7 := newb (w6.alloc (datObj ta (.slice pa ta.len qa))) (datObj tb (.slice pb tb.len qb))
    have b67 : Below w6.heap.size w6 W := by rw [hW]; exact nb6.trans (nb7.mono (by simp))
    have b57 : Below w5.heap.size w5 W := (nb5.trans (b6.mono (by simp))).trans (b67.mono (by have := b6.size; simp at this; omega))
    have HSX : Hid (Six W T A1 A2 no kido (.slice po no qo) t ta tb (.slice pt t.len qt) (.slice pa ta.len qa) (.slice pb tb.len qb)) := by
      refine ⟨S5.out.1.below b57, S5.out.2.1, S5.out.2.2.1.below b57, S5.out.2.2.2.1, hia.below b67, hib.below b67, hwa, ?_, ?_, ?_⟩
      · rw [hT]
        exact (b67.block _ (by have := b6.size; simp at this; omega)).trans ((b6.block _ (by simp)).trans (heap_alloc_new w5 _))
      · rw [hA1, hW]
        exact (nb7.block _ (by simp)).trans (heap_alloc_new w6 _)
      · rw [hA2, hW]
        have := heap_alloc_new (w6.alloc (datObj ta (.slice pa ta.len qa))) (datObj tb (.slice pb tb.len qb))
        rw [show (w6.alloc (datObj ta (.slice pa ta.len qa))).heap.size = w6.heap.size + 1 by simp] at this
        exact this
    have BW : Hid (Below w.heap.size w W ∧ Below w5.heap.size w5 W) := ⟨B5.out.trans (b57.mono B5.out.size), b57⟩
    have HX1 : Hid (∀ x : Later W, _) := six_dats HSX.out
    have HX2 : Hid (∀ x : Later W, _) := six_text HSX.out (HG.out _ BW.out.1).tab
    have HX3 : Hid (∀ x : Later W, _) := six_same HSX.out
    generalize datsB no kido = d1 at HX1
    generalize (⟨t.text.toArray⟩ : ByteArray) = tx at HX2
    generalize sameD ta tb = d2 at HX3
    have e1 : (d1 != d1) = false := by simp
    have e2 : (d2 != d2) = false := by simp
    have e3 : (tx.toList != tx.toList) = false := by simp
    rw [← hA2, ← hW, ← hA1, ← hT]
    have ne1 : ¬ A1 = A2 := by omega
    clear nb5 nb6 nb7 b67 b57 b6 hW hT hA1 hA2 hia hib hwa hwb
    have hone := Later.one W
    have ct0 := fun x : Later W => x.cell (cell_of_row W T 0 _ _ _ HSX.out.bT : W.cell? ⟨T, 0, none⟩ = some (.int .i64 t.op))
    have ct1 := fun x : Later W => x.cell (cell_of_row W T 1 _ _ _ HSX.out.bT : W.cell? ⟨T, 1, none⟩ = some (.int .i64 t.at_))
    have ct2 := fun x : Later W => x.cell (cell_of_row W T 2 _ _ _ HSX.out.bT : W.cell? ⟨T, 2, none⟩ = some (.int .i64 t.n))
    have ct3 := fun x : Later W => x.cell (cell_of_row W T 3 _ _ _ HSX.out.bT : W.cell? ⟨T, 3, none⟩ = some (.string t.s))
    have ct4 := fun x : Later W => x.cell (cell_of_row W T 4 _ _ _ HSX.out.bT : W.cell? ⟨T, 4, none⟩ = some (.slice pt t.len qt))
    have ca0 := fun x : Later W => x.cell (cell_of_row W A1 0 _ _ _ HSX.out.bA : W.cell? ⟨A1, 0, none⟩ = some (.int .i64 ta.op))
    have ca1 := fun x : Later W => x.cell (cell_of_row W A1 1 _ _ _ HSX.out.bA : W.cell? ⟨A1, 1, none⟩ = some (.int .i64 ta.at_))
    have ca2 := fun x : Later W => x.cell (cell_of_row W A1 2 _ _ _ HSX.out.bA : W.cell? ⟨A1, 2, none⟩ = some (.int .i64 ta.n))
    have ca3 := fun x : Later W => x.cell (cell_of_row W A1 3 _ _ _ HSX.out.bA : W.cell? ⟨A1, 3, none⟩ = some (.string ta.s))
    have ca4 := fun x : Later W => x.cell (cell_of_row W A1 4 _ _ _ HSX.out.bA : W.cell? ⟨A1, 4, none⟩ = some (.slice pa ta.len qa))
    have cb0 := fun x : Later W => x.cell (cell_of_row W A2 0 _ _ _ HSX.out.bB : W.cell? ⟨A2, 0, none⟩ = some (.int .i64 tb.op))
    have cb1 := fun x : Later W => x.cell (cell_of_row W A2 1 _ _ _ HSX.out.bB : W.cell? ⟨A2, 1, none⟩ = some (.int .i64 tb.at_))
    have cb2 := fun x : Later W => x.cell (cell_of_row W A2 2 _ _ _ HSX.out.bB : W.cell? ⟨A2, 2, none⟩ = some (.int .i64 tb.n))
    have cb3 := fun x : Later W => x.cell (cell_of_row W A2 3 _ _ _ HSX.out.bB : W.cell? ⟨A2, 3, none⟩ = some (.string tb.s))
    have cb4 := fun x : Later W => x.cell (cell_of_row W A2 4 _ _ _ HSX.out.bB : W.cell? ⟨A2, 4, none⟩ = some (.slice pb tb.len qb))
    refine wp_region_later (by kernel_rfl) (by kernel_rfl) ?_
    repeat (go_big_quiet_step (first | (go_at_call 11; refine calls_later (HX1.out _).1) | (go_at_call 12; refine calls_later (HX1.out _).2) | (go_at_call 13; refine calls_later (HX2.out _).1) | (go_at_call 14; refine calls_later (HX2.out _).2) | (go_at_call 15; refine calls_later (HX3.out _).1) | (go_at_call 16; refine calls_later (HX3.out _).2)))
    refine wpQuiet_nil ?_
    rintro _ ⟨xl, rfl⟩
    have HE : Hid (Below w.heap.size w xl.w) := BW.out.1.trans (xl.le.mono BW.out.1.size)
    go_wp2
    go_ret
    exact ⟨rfl, HE.out⟩
  | ok ds r =>
    obtain ⟨lv, T0, rfl, hown, -, -⟩ := hsay2
    obtain ⟨hright, hweight⟩ := HRT.out ds r rfl
    have HSPK : Hid (∀ w0, Calls Tryz.prog 7 #[.string s] w0 (SAllSay w0 (.ok ds r))) := HSP.out
    have hl2 : Sl w2 ds.length (kidsOf ds) lv := hown.sl
    have HRB : Hid (∀ txt : ByteArray, txt.data.toList = toldText (kidsOf ds) 0 ds.length → txt.size ≤ 4000 → ∃ ds', readP txt = .ok ds' [] ∧ ds'.length = ds.length ∧ ∀ i, i < ds.length → LikeD (kidsOf ds' i) (kidsOf ds i)) := fun txt h1 h2 => read_back ds hright txt h1 h2
    have HTL : Hid (∀ m, m ≤ ds.length → (toldText (kidsOf ds) 0 m).length ≤ 85000) := fun m hm => by
      have h1 := told_len (kidsOf ds) w2 ds.length (fun i hi => by
        obtain ⟨p, c, _, _, hat⟩ := hl2.at
        obtain ⟨b, o, u, _, _, hin⟩ := hat i hi
        exact ⟨u, hin⟩) m hm
      have h2 := sumTo_le (fun i => (kidsOf ds i).count) m ds.length hm
      have h3 := sumTo_le (fun i => (kidsOf ds i).weight) m ds.length hm
      have h4 := right_count hright
      unfold kidsWeight at hweight
      omega
    obtain ⟨pl, cl, hlv⟩ := hl2.shape
    subst hlv
    have HL2 : Hid (Sl w2 ds.length (kidsOf ds) (.slice pl ds.length cl)) := hl2
    have HRW : Hid (datsB ds.length (kidsOf ds) = true ∧ kidsWeight ds.length (kidsOf ds) ≤ 52000) := ⟨hright, hweight⟩
    have hnw : ds.length ≤ 52000 := by unfold kidsWeight at hweight; omega
    clear hown hl2 hright hweight HSP HUP HRT
    go_wp2_with fail
    refine (HSPK.out w2).mono ?_
    rintro e w3 ⟨b3, wv, rfl, hw3, -⟩
    obtain ⟨pw, cw, hwv⟩ := hw3.shape
    subst hwv
    have HL3 : Hid (Sl w3 ds.length (kidsOf ds) (.slice pl ds.length cl) ∧ Sl w3 ds.length (kidsOf ds) (.slice pw ds.length cw)) := ⟨HL2.out.below b3, hw3⟩
    clear hw3 HL2
    generalize kidsOf ds = kid at *
    generalize ds.length = n at *
    have B3 : Hid (Below w.heap.size w w3) := B2.out.trans (b3.mono B2.out.size)
    clear b3 HSPK
    go_wp2_with fail
    refine (drawDatsOk_any a len cap w3 (HG.out _ B3.out).code).mono ?_
    rintro e w4 ⟨vo, no, kido, rfl, hso, hwo, b4⟩
    have B4 : Hid (Below w.heap.size w w4) := B3.out.trans (b4.mono B3.out.size)
    obtain ⟨po, qo, hvo⟩ := hso.shape
    subst hvo
    have S4 : Hid (Sl w4 no kido (.slice po no qo) ∧ kidsWeight no kido ≤ 60000) := ⟨hso, hwo⟩
    have B34 : Hid (Below w3.heap.size w3 w4) := b4
    clear b4 hso hwo
    go_wp2_with fail
    refine (drawDatText_any a len cap w4 (HG.out _ B4.out).code).mono ?_
    rintro e w5 ⟨t, vt, rfl, hit, hwt, b5⟩
    have B5 : Hid (Below w.heap.size w w5) := B4.out.trans (b5.mono B4.out.size)
    obtain ⟨pt, qt, hvt⟩ := hit.sl.shape
    subst hvt
    have S5 : Hid (Sl w5 no kido (.slice po no qo) ∧ kidsWeight no kido ≤ 60000 ∧ t.In w5 (.slice pt t.len qt) ∧ t.weight ≤ 60000 ∧ Below w4.heap.size w4 w5) := ⟨S4.out.1.below b5, S4.out.2, hit, hwt, b5⟩
    have B5' : Hid (Below w.heap.size w (w5.alloc (datObj t (.slice pt t.len qt)))) := B5.out.trans ((newb _ _).mono B5.out.size)
    clear b5 hit hwt
    go_wp2_with fail
    refine (drawSameDat_any a len cap _ (HG.out _ B5'.out).code).mono ?_
    rintro e w6 ⟨ta, va, tb, vb, rfl, ⟨hia, hib, b6⟩, hwa, hwb⟩
    obtain ⟨pa, qa, hva⟩ := hia.sl.shape
    subst hva
    obtain ⟨pb, qb, hvb⟩ := hib.sl.shape
    subst hvb
    go_wp2_with fail
    obtain ⟨W, hW⟩ : ∃ W, W = (w6.alloc (datObj ta (.slice pa ta.len qa))).alloc (datObj tb (.slice pb tb.len qb)) := ⟨_, rfl⟩
    obtain ⟨T, hT⟩ : ∃ T, T = w5.heap.size := ⟨_, rfl⟩
    obtain ⟨A1, hA1⟩ : ∃ A, A = w6.heap.size := ⟨_, rfl⟩
    obtain ⟨A2, hA2⟩ : ∃ A, A = w6.heap.size + 1 := ⟨_, rfl⟩
    have nb5 := newb w5 (datObj t (.slice pt t.len qt))
    have nb6 := newb w6 (datObj ta (.slice pa ta.len qa))
    have nb7 := newb (w6.alloc (datObj ta (.slice pa ta.len qa))) (datObj tb (.slice pb tb.len qb))
    have b67 : Below w6.heap.size w6 W := by rw [hW]; exact nb6.trans (nb7.mono (by simp))
    have b57 : Below w5.heap.size w5 W := (nb5.trans (b6.mono (by simp))).trans (b67.mono (by have := b6.size; simp at this; omega))
    have HSX : Hid (Six W T A1 A2 no kido (.slice po no qo) t ta tb (.slice pt t.len qt) (.slice pa ta.len qa) (.slice pb tb.len qb)) := by
      refine ⟨S5.out.1.below b57, S5.out.2.1, S5.out.2.2.1.below b57, S5.out.2.2.2.1, hia.below b67, hib.below b67, hwa, ?_, ?_, ?_⟩
      · rw [hT]
        exact (b67.block _ (by have := b6.size; simp at this; omega)).trans ((b6.block _ (by simp)).trans (heap_alloc_new w5 _))
      · rw [hA1, hW]
        exact (nb7.block _ (by simp)).trans (heap_alloc_new w6 _)
      · rw [hA2, hW]
        have := heap_alloc_new (w6.alloc (datObj ta (.slice pa ta.len qa))) (datObj tb (.slice pb tb.len qb))
        rw [show (w6.alloc (datObj ta (.slice pa ta.len qa))).heap.size = w6.heap.size + 1 by simp] at this
        exact this
    have b3W : Below w3.heap.size w3 W := (B34.out.trans (S5.out.2.2.2.2.mono B34.out.size)).trans (b57.mono (Nat.le_trans B34.out.size S5.out.2.2.2.2.size))
    have BW : Hid (Below w.heap.size w W ∧ Below w3.heap.size w3 W) := ⟨B5.out.trans (b57.mono B5.out.size), b3W⟩
    have HX1 : Hid (∀ x : Later W, _) := six_dats HSX.out
    have HX2 : Hid (∀ x : Later W, _) := six_text HSX.out (HG.out _ BW.out.1).tab
    have HX3 : Hid (∀ x : Later W, _) := six_same HSX.out
    generalize datsB no kido = d1 at HX1
    generalize (⟨t.text.toArray⟩ : ByteArray) = tx at HX2
    generalize sameD ta tb = d2 at HX3
    have e1 : (d1 != d1) = false := by simp
    have e2 : (d2 != d2) = false := by simp
    have e3 : (tx.toList != tx.toList) = false := by simp
    rw [← hA2, ← hW, ← hA1, ← hT]
    have ne1 : ¬ A1 = A2 := by omega
    clear b3W nb5 nb6 nb7 b67 b57 b6 hW hT hA1 hA2 hia hib hwa hwb
    have HLW : Hid ((∀ i, i < n → ∃ b o u, pl = some ⟨b, o, none⟩ ∧ Head W b (o + i * 5) (kid i) u ∧ (kid i).In W u) ∧ (∀ i, i < n → ∃ b o u, pw = some ⟨b, o, none⟩ ∧ Head W b (o + i * 5) (kid i) u ∧ (kid i).In W u) ∧ Sl W n kid (.slice pl n cl)) := by
      have h1 := HL3.out.1.below BW.out.2
      have h2 := HL3.out.2.below BW.out.2
      obtain ⟨p1, c1, e1, _, a1⟩ := h1.at
      obtain ⟨p2, c2, e2, _, a2⟩ := h2.at
      simp only [Value.slice.injEq, true_and] at e1 e2
      obtain ⟨rfl, rfl⟩ := e1
      obtain ⟨rfl, rfl⟩ := e2
      exact ⟨a1, a2, h1⟩
    have hone := Later.one W
    have ct0 := fun x : Later W => x.cell (cell_of_row W T 0 _ _ _ HSX.out.bT : W.cell? ⟨T, 0, none⟩ = some (.int .i64 t.op))
    have ct1 := fun x : Later W => x.cell (cell_of_row W T 1 _ _ _ HSX.out.bT : W.cell? ⟨T, 1, none⟩ = some (.int .i64 t.at_))
    have ct2 := fun x : Later W => x.cell (cell_of_row W T 2 _ _ _ HSX.out.bT : W.cell? ⟨T, 2, none⟩ = some (.int .i64 t.n))
    have ct3 := fun x : Later W => x.cell (cell_of_row W T 3 _ _ _ HSX.out.bT : W.cell? ⟨T, 3, none⟩ = some (.string t.s))
    have ct4 := fun x : Later W => x.cell (cell_of_row W T 4 _ _ _ HSX.out.bT : W.cell? ⟨T, 4, none⟩ = some (.slice pt t.len qt))
    have ca0 := fun x : Later W => x.cell (cell_of_row W A1 0 _ _ _ HSX.out.bA : W.cell? ⟨A1, 0, none⟩ = some (.int .i64 ta.op))
    have ca1 := fun x : Later W => x.cell (cell_of_row W A1 1 _ _ _ HSX.out.bA : W.cell? ⟨A1, 1, none⟩ = some (.int .i64 ta.at_))
    have ca2 := fun x : Later W => x.cell (cell_of_row W A1 2 _ _ _ HSX.out.bA : W.cell? ⟨A1, 2, none⟩ = some (.int .i64 ta.n))
    have ca3 := fun x : Later W => x.cell (cell_of_row W A1 3 _ _ _ HSX.out.bA : W.cell? ⟨A1, 3, none⟩ = some (.string ta.s))
    have ca4 := fun x : Later W => x.cell (cell_of_row W A1 4 _ _ _ HSX.out.bA : W.cell? ⟨A1, 4, none⟩ = some (.slice pa ta.len qa))
    have cb0 := fun x : Later W => x.cell (cell_of_row W A2 0 _ _ _ HSX.out.bB : W.cell? ⟨A2, 0, none⟩ = some (.int .i64 tb.op))
    have cb1 := fun x : Later W => x.cell (cell_of_row W A2 1 _ _ _ HSX.out.bB : W.cell? ⟨A2, 1, none⟩ = some (.int .i64 tb.at_))
    have cb2 := fun x : Later W => x.cell (cell_of_row W A2 2 _ _ _ HSX.out.bB : W.cell? ⟨A2, 2, none⟩ = some (.int .i64 tb.n))
    have cb3 := fun x : Later W => x.cell (cell_of_row W A2 3 _ _ _ HSX.out.bB : W.cell? ⟨A2, 3, none⟩ = some (.string tb.s))
    have cb4 := fun x : Later W => x.cell (cell_of_row W A2 4 _ _ _ HSX.out.bB : W.cell? ⟨A2, 4, none⟩ = some (.slice pb tb.len qb))
    refine wp_region_later (by kernel_rfl) (by kernel_rfl) ?_
    repeat (go_big_quiet_step (first | (go_at_call 11; refine calls_later (HX1.out _).1) | (go_at_call 12; refine calls_later (HX1.out _).2) | (go_at_call 13; refine calls_later (HX2.out _).1) | (go_at_call 14; refine calls_later (HX2.out _).2) | (go_at_call 15; refine calls_later (HX3.out _).1) | (go_at_call 16; refine calls_later (HX3.out _).2)))
    refine wpQuiet_nil ?_
    rintro _ ⟨xl, rfl⟩
    have HE : Hid (Below W.heap.size W xl.w) := xl.le
    have HKW : Hid (∀ i, i < n → (kid i).weight ≤ 52000 ∧ (kid i).count ≤ 52001) := fun i hi => by
      have h1 := sumTo_at (fun i => (kid i).weight) i n hi
      have h2 := HRW.out.2
      have h3 := (kid i).count_weight
      unfold kidsWeight at h2
      omega
    have HXW : Hid (Below W.heap.size W xl.w) := xl.le
    generalize xl.w = wx at *
    clear ct0 ct1 ct2 ct3 ct4 ca0 ca1 ca2 ca3 ca4 cb0 cb1 cb2 cb3 cb4 HX1 HX2 HX3 HSX e1 e2 e3 hone xl
    go_wp2
    go_loopw [12, 13] (fun tx i wr => ∃ (k : Nat) (txt : ByteArray), tx = .string txt ∧ i = .int .i64 k ∧ k ≤ n ∧ txt.data.toList = toldText kid 0 k ∧ Below W.heap.size W wr) (fun _ i _ => n - (intOf i).toNat)
    case atStart => exact ⟨0, ⟨#[]⟩, rfl, rfl, by omega, rfl, HXW.out⟩
    case round =>
      obtain ⟨k, txt, rfl, rfl, hk, htx, hbel⟩ := hrel
      have HTX : Hid (txt.data.toList = toldText kid 0 k) := htx
      have HBL : Hid (Below W.heap.size W wr) := hbel
      have htsz : txt.size ≤ 85000 := by
        have h1 := HTL.out k hk
        have h2 : txt.size = txt.data.toList.length := rfl
        rw [h2, htx]; exact h1
      clear htx hbel HXW
      by_cases hlt : (k : Int) < n
      · obtain ⟨b, o, u, hpl, hd, hin⟩ := HLW.out.1 k (by omega)
        obtain ⟨b2, o2, u2, hpw, hd2, hin2⟩ := HLW.out.2.1 k (by omega)
        subst hpl
        subst hpw
        have HD1 := hd.below HBL.out
        have HD2 := hd2.below HBL.out
        have HI1 : Hid ((kid k).In wr u) := hin.below HBL.out
        have HI2 : Hid ((kid k).In wr u2) := hin2.below HBL.out
        have HSK : Hid (∀ x : Later wr, Calls Tryz.prog 15 #[.agg #[.int .i64 (kid k).op, .int .i64 (kid k).at_, .int .i64 (kid k).n, .string (kid k).s, u], .agg #[.int .i64 (kid k).op, .int .i64 (kid k).at_, .int .i64 (kid k).n, .string (kid k).s, u2]] x.w fun e w' => e = .returned (.bool true) ∧ Below x.w.heap.size x.w w') := fun x => by
          have := impl_same (kid k) (kid k) x.w u u2 (HI1.out.below x.le) (HI2.out.below x.le) (by have := (HKW.out k (by omega)).2; omega)
          rw [sameD_self] at this
          exact this
        have HTK : Hid (∀ x : Later wr, Calls Tryz.prog 13 #[.agg #[.int .i64 (kid k).op, .int .i64 (kid k).at_, .int .i64 (kid k).n, .string (kid k).s, u]] x.w fun e w' => e = .returned (.string ⟨(kid k).text.toArray⟩) ∧ Below x.w.heap.size x.w w') := fun x => impl_text (kid k) x.w u (HI1.out.below x.le) (by have := (HKW.out k (by omega)).1; omega) ((HG.out _ (BW.out.1.trans (HBL.out.mono BW.out.1.size))).tab.below x.le)
        have HTN : Hid (toldText kid 0 (k + 1) = toldText kid 0 k ++ ((kid k).text ++ [10]) ∧ (toldText kid 0 (k + 1)).length ≤ 85000) := ⟨by have := told_snoc kid k 0; rw [Nat.zero_add] at this; exact this, HTL.out (k + 1) (by omega)⟩
        have HKT : Hid ((⟨(kid k).text.toArray⟩ : ByteArray).data.toList = (kid k).text) := by show _ = _; simp
        have hdsz : (⟨(kid k).text.toArray⟩ : ByteArray).size ≤ 85000 := by
          have h1 := HTN.out.2
          rw [HTN.out.1, List.length_append, List.length_append] at h1
          have h2 : (⟨(kid k).text.toArray⟩ : ByteArray).size = (kid k).text.length := by simp [ByteArray.size]
          omega
        generalize (⟨(kid k).text.toArray⟩ : ByteArray) = dt at HTK HKT hdsz
        generalize kid k = t at *
        clear hd hd2 hin hin2
        go_wp2_with fail
        have hone := Later.one wr
        have p0 := fun x : Later wr => x.cell HD1.c0
        have p1 := fun x : Later wr => x.cell HD1.c1
        have p2 := fun x : Later wr => x.cell HD1.c2
        have p3 := fun x : Later wr => x.cell HD1.c3
        have p4 := fun x : Later wr => x.cell HD1.c4
        have q0 := fun x : Later wr => x.cell HD2.c0
        have q1 := fun x : Later wr => x.cell HD2.c1
        have q2 := fun x : Later wr => x.cell HD2.c2
        have q3 := fun x : Later wr => x.cell HD2.c3
        have q4 := fun x : Later wr => x.cell HD2.c4
        refine wp_region_later (by kernel_rfl) (by kernel_rfl) ?_
        repeat (go_big_quiet_step ((go_at_call 15; refine calls_later (HSK.out _))))
        refine wpQuiet_nil ?_
        rintro _ ⟨x2, rfl⟩
        have g0 := x2.cell HD1.c0
        have g1 := x2.cell HD1.c1
        have g2 := x2.cell HD1.c2
        have g3 := x2.cell HD1.c3
        have g4 := x2.cell HD1.c4
        have HCT := HTK.out x2
        have HB2 : Hid (Below W.heap.size W x2.w) := HBL.out.trans (x2.le.mono HBL.out.size)
        clear p0 p1 p2 p3 p4 q0 q1 q2 q3 q4 hone HSK HTK
        generalize x2.w = wx at *
        clear x2
        go_wp2_with fail
        refine HCT.mono ?_
        rintro e w7 ⟨rfl, b7⟩
        have HB7 : Hid (Below W.heap.size W w7) := HB2.out.trans (b7.mono HB2.out.size)
        clear b7 HCT g0 g1 g2 g3 g4
        go_wp2_with fail
        go_roundw
        case rel => exact ⟨k + 1, _, rfl, by go_num, by omega, by rw [HTN.out.1]; simp [ByteArray.data_append, HTX.out, HKT.out], HB7.out⟩
        case measure => simp [intOf]; omega
      · obtain rfl : k = n := by omega
        have BWR : Hid (Below w.heap.size w wr) := BW.out.1.trans (HBL.out.mono BW.out.1.size)
        have HRA := read_all txt (by omega) wr (HG.out _ BWR.out).tab (HG.out _ BWR.out).errs
        have HLR : Hid (Sl wr k kid (.slice pl k cl)) := HLW.out.2.2.below HBL.out
        by_cases h4 : txt.size ≤ 4000
        · obtain ⟨ds', hr, hlen, hlike⟩ := HRB.out txt HTX.out h4
          have h4' : ¬ (4000 : Int) < txt.size := by omega
          rw [hr] at HRA
          have HLK : Hid (∀ i, i < k → LikeD (kidsOf ds' i) (kid i)) := hlike
          have HLN : Hid (ds'.length = k) := hlen
          clear hr hlen hlike
          go_wp2_with fail
          refine HRA.mono ?_
          rintro e w8 ⟨b8, bv, T8, rfl, hown8, -, -⟩
          have hs8 : Sl w8 k (kidsOf ds') bv := by have := hown8.sl; rw [HLN.out] at this; exact this
          have hl8 : Sl w8 k kid (.slice pl k cl) := HLR.out.below b8
          have B8 : Hid (Below w.heap.size w w8) := BWR.out.trans (b8.mono BWR.out.size)
          obtain ⟨pb8, cb8, hbv⟩ := hs8.shape
          subst hbv
          have HL8 : Hid ((∀ i, i < k → ∃ b o u, pb8 = some ⟨b, o, none⟩ ∧ Head w8 b (o + i * 5) (kidsOf ds' i) u ∧ (kidsOf ds' i).In w8 u) ∧ (∀ i, i < k → ∃ b o u, pl = some ⟨b, o, none⟩ ∧ Head w8 b (o + i * 5) (kid i) u ∧ (kid i).In w8 u) ∧ Sl w8 k kid (.slice pl k cl)) := by
            obtain ⟨p1, c1, e1, _, a1⟩ := hs8.at
            obtain ⟨p2, c2, e2, _, a2⟩ := hl8.at
            simp only [Value.slice.injEq, true_and] at e1 e2
            obtain ⟨rfl, rfl⟩ := e1
            obtain ⟨rfl, rfl⟩ := e2
            exact ⟨a1, a2, hl8⟩
          clear b8 hown8 hs8 hl8 HRA HLW HLR HBL HTX
          go_wp2_with fail
          go_loopw [16] (fun i wr2 => ∃ j : Nat, i = .int .i64 j ∧ j ≤ k ∧ Below w8.heap.size w8 wr2) (fun i _ => k - (intOf i).toNat)
          case atStart => exact ⟨0, rfl, by omega, Below.refl _ _⟩
          case round =>
            obtain ⟨j, rfl, hj, hbel⟩ := hrel
            have HBL : Hid (Below w8.heap.size w8 wr) := hbel
            clear hbel
            by_cases hjl : (j : Int) < k
            · obtain ⟨b, o, u, hpb, hd, hin⟩ := HL8.out.1 j (by omega)
              obtain ⟨b2, o2, u2, hpl, hd2, hin2⟩ := HL8.out.2.1 j (by omega)
              subst hpb
              subst hpl
              have HD1 := hd.below HBL.out
              have HD2 := hd2.below HBL.out
              have HI1 : Hid ((kidsOf ds' j).In wr u) := hin.below HBL.out
              have HI2 : Hid ((kid j).In wr u2) := hin2.below HBL.out
              have HLJ := HLK.out j (by omega)
              have HSK : Hid (∀ x : Later wr, Calls Tryz.prog 15 #[.agg #[.int .i64 (kidsOf ds' j).op, .int .i64 (kidsOf ds' j).at_, .int .i64 (kidsOf ds' j).n, .string (kidsOf ds' j).s, u], .agg #[.int .i64 (kid j).op, .int .i64 (kid j).at_, .int .i64 (kid j).n, .string (kid j).s, u2]] x.w fun e w' => e = .returned (.bool true) ∧ Below x.w.heap.size x.w w') := fun x => by
                have := impl_same (kidsOf ds' j) (kid j) x.w u u2 (HI1.out.below x.le) (HI2.out.below x.le) (by have := (HKW.out j (by omega)).2; have := HLJ.count; omega)
                rw [HLJ.same] at this
                exact this
              generalize kidsOf ds' j = t1 at *
              generalize kid j = t2 at *
              clear hd hd2 hin hin2 HLJ
              go_wp2_with fail
              have hone := Later.one wr
              have p0 := fun x : Later wr => x.cell HD1.c0
              have p1 := fun x : Later wr => x.cell HD1.c1
              have p2 := fun x : Later wr => x.cell HD1.c2
              have p3 := fun x : Later wr => x.cell HD1.c3
              have p4 := fun x : Later wr => x.cell HD1.c4
              have q0 := fun x : Later wr => x.cell HD2.c0
              have q1 := fun x : Later wr => x.cell HD2.c1
              have q2 := fun x : Later wr => x.cell HD2.c2
              have q3 := fun x : Later wr => x.cell HD2.c3
              have q4 := fun x : Later wr => x.cell HD2.c4
              refine wp_region_later (by kernel_rfl) (by kernel_rfl) ?_
              repeat (go_big_quiet_step ((go_at_call 15; refine calls_later (HSK.out _))))
              refine wpQuiet_nil ?_
              rintro _ ⟨x2, rfl⟩
              have HB2 : Hid (Below w8.heap.size w8 x2.w) := HBL.out.trans (x2.le.mono HBL.out.size)
              clear p0 p1 p2 p3 p4 q0 q1 q2 q3 q4 hone HSK
              go_wp2_with fail
              go_roundw
              case rel => exact ⟨j + 1, by go_num, by omega, HB2.out⟩
              case measure => simp [intOf]; omega
            · have HB9 : Hid (Below w.heap.size w wr) := B8.out.trans (HBL.out.mono B8.out.size)
              have HDO := impl_dats k kid wr (.slice pl k cl) (HL8.out.2.2.below HBL.out) (by have := HRW.out.2; omega)
              rw [HRW.out.1] at HDO
              go_wp2_with fail
              refine HDO.mono ?_
              rintro e w9 ⟨rfl, b9⟩
              have HB10 : Hid (Below w.heap.size w w9) := HB9.out.trans (b9.mono HB9.out.size)
              clear b9 HDO
              go_wp2_with fail
              go_ret
              exact ⟨rfl, HB10.out⟩
        · have h4' : (4000 : Int) < txt.size := by omega
          have hbad : readP txt = .bad 0 := by
            unfold readP
            rw [toks_long txt h4]
            rfl
          rw [hbad] at HRA
          clear hbad
          go_wp2_with fail
          refine HRA.mono ?_
          rintro e w8 ⟨b8, rfl⟩
          have B8 : Hid (Below w.heap.size w w8) := BWR.out.trans (b8.mono BWR.out.size)
          have HDO := impl_dats k kid w8 (.slice pl k cl) (HLR.out.below b8) (by have := HRW.out.2; omega)
          rw [HRW.out.1] at HDO
          clear b8 HRA
          go_wp2_with fail
          refine HDO.mono ?_
          rintro e w9 ⟨rfl, b9⟩
          have HB10 : Hid (Below w.heap.size w w9) := B8.out.trans (b9.mono B8.out.size)
          clear b9 HDO
          go_wp2_with fail
          go_ret
          exact ⟨rfl, HB10.out⟩
end Go.Proofs.YtoljphjmekkneabGreatDoor.fnReads

/- A drawn text's data, told, are read as they were; each stands where it is told: laws.FnReads returns true at every code, and the code reads as before. Condition (the card ties it to the program's text): the listed tables and errors of the library read as their text lays them. -/
namespace Go.Proofs.YtoljphjmekkneabGreatDoor.fnReads
open Go.ChangeShapes Go.WideShapes Go.ChangeAt Go.RowKit

set_option maxRecDepth 100000 in
theorem walk_big (a : Option Addr) (len cap : Nat) (w : World) (hl : ¬ len ≤ 1048576) :
    Calls Tryz.prog 3 #[.slice a len cap] w fun e w' => e = .returned (.bool true) ∧ Below w.heap.size w w' := by
  have hb0 : (1048576 : Int) < len := by omega
  go_enter Tryz.func3, Tryz.ntmps3
  go_wp2_with (go_at_call 4; go_in)
  go_ret
  exact ⟨rfl, Below.refl _ _⟩

theorem own : ownKnob Tryz.prog.godebug = none := by kernel_rfl
theorem laidOut : laidOutB Tryz.prog = true := by kernel_rfl

/-- What the row lists. -/
def lst : List (String × DataW Unit) := Rows.fnReadsRow.laid

theorem door_met (os : Os) (args : Array Value) : laidMetH Tryz.prog lst ((World.doorLaid Tryz.prog 4000 os).forCall (fun _ _ => 0) ⟨#[], args, []⟩).memory :=
  laidMetH_of_parts3 (fuel := 8) (laidMet_of_run' 8 (by kernel_rfl) (by kernel_rfl)) (by kernel_rfl) (by kernel_rfl)

theorem star : "*" ++ "errors.errorString" = "*errors.errorString" := by decide
theorem row_err (u : TypeId) (h : Tryz.prog.typeName? 3 u = some "*errors.errorString") : u = 155 :=
  typeName_ptr_named (nm := "errors.errorString") (by rw [star]; kernel_rfl) (by kernel_rfl) (by decide) u (by rw [star]; exact h)

theorem of_laid {W : World} (h : laidMetH Tryz.prog lst W) : PowTab W ∧ ErrVars W := by
  rw [MakeChecks.laidMetH_plain _ _ _ (by kernel_rfl)] at h
  have h3 := laidMet_tail (laidMet_tail h)
  have h4 := laidMet_tail h3
  have h5 := laidMet_tail h4
  refine ⟨Lib.tabIs_of_head (zs := Lib.pow10Tab) gPow (t := 144) (e := 132) (n := 20) (by kernel_rfl) (by kernel_rfl) (by kernel_rfl) (by kernel_rfl) (by kernel_rfl) h3, ?_, ?_⟩
  · obtain ⟨a0, s0, hv0, -, -, -⟩ := laid_sentinel (ti := 96) h5 gSyn (by kernel_rfl) Tryz.underlying96 row_err Tryz.underlying155 Tryz.underlying157 rfl rfl Tryz.underlying9 (by kernel_rfl) (by kernel_rfl)
    exact ⟨_, _, hv0⟩
  · obtain ⟨a0, s0, hv0, -, -, -⟩ := laid_sentinel (ti := 96) h4 gRng (by kernel_rfl) Tryz.underlying96 row_err Tryz.underlying155 Tryz.underlying157 rfl rfl Tryz.underlying9 (by kernel_rfl) (by kernel_rfl)
    exact ⟨_, _, hv0⟩

set_option maxRecDepth 100000 in
theorem lifted (os : Os) (started : os.Started) (H : Type) (enc : TypeId × Value → H) :
    ReturnsInHanded {} Tryz.checked os 3 .any (fun w args => (Rows.fnReadsSpec.pre enc Tryz.prog Tryz.f3 [] false w args ∧ laidMetH Tryz.prog lst w) ∧ sizedMet enc Tryz.prog Tryz.f3 (OpenSpec.ofChange Rows.fnReadsSpec) false w args)
      (Rows.fnReadsSpec.post enc Tryz.prog Tryz.f3 false true false false) := by
  refine returnsInHanded_of_change_and (C := Tryz.checked) (X := fun w _ => laidMetH Tryz.prog lst w) (fun _ _ _ hh h => h.of_heap hh) own started (by kernel_rfl) Tryz.func3
    (ChangeSpec.witness_shaped (enc := enc) (C := Tryz.checked) (os := os) (X := fun w _ => laidMetH Tryz.prog lst w) false (World.doorLaid Tryz.prog 4000 os) #[.slice none 0 0] 8 rfl (World.shaped_of_RefB (by kernel_rfl) (by kernel_rfl)) (by kernel_rfl) (by kernel_rfl) (by kernel_rfl) (door_met os _)) ?_
  intro W base args ds gs before hval0 hW _ _ hL _
  have hval : ∀ (j : Nat) t v, Tryz.f3.params[j]? = some t → args[j]? = some v → Value.okWide Tryz.prog W .any base t v := hval0
  have hW' := hW
  obtain ⟨p, q, hA0, hV, rfl, hfz, hnd⟩ := hW
  have hA : DataW.TrodAll enc Tryz.prog W 0 (fun _ => true) true Tryz.f3.params.toList args.toList ds p := hA0
  rw [Tryz.params3] at hA hval
  obtain ⟨v0, d0, rfl, rfl, h0⟩ := trodAll_one hA
  obtain ⟨rfl, rfl⟩ := trodVars_none hV
  obtain ⟨a0, len0, cap0, rfl⟩ := okWide_slice Tryz.underlying22 (hval 0 22 v0 rfl rfl)
  have k0 := h0
  have lt0 : ∀ x ∈ p, x.block < W.heap.size := by obtain ⟨m, hm⟩ := k0; exact DataW.trod_lt m _ _ _ hm
  have row0 : ByteRow W a0 len0 cap0 := by
    obtain ⟨fuel, hf⟩ := h0
    rcases open_ints Tryz.underlying22 Tryz.underlying5 (by kernel_rfl) hf with ⟨hcs, _⟩ | ⟨x, l, c, zs, hcs, _, hl, hm, hz, _, hcell, hwz⟩
    · simp [Value.cells] at hcs
      obtain ⟨rfl, rfl, rfl⟩ := hcs
      exact .inl ⟨rfl, rfl, rfl⟩
    · simp [Value.cells] at hcs
      obtain ⟨rfl, rfl, rfl⟩ := hcs
      exact .inr ⟨_, zs, rfl, hl, hm, by simpa using hz, hcell, hwz⟩
  have ht := of_laid hL
  clear hA0 hval0
  have hwalk : Calls Tryz.prog 3 #[.slice a0 len0 cap0] W fun e w' => e = .returned (.bool true) ∧ Below W.heap.size W w' := by
    by_cases hl : len0 ≤ 1048576
    · exact walk a0 len0 cap0 W hl ⟨codeOk_of_row row0 hl, ht.1, ht.2⟩
    · exact walk_big a0 len0 cap0 W hl
  refine hwalk.mono fun e W' ⟨he, bel⟩ => ?_
  subst he
  exact ⟨_, rfl, _, _, _, [], _, [], hW', trodAll_mk1 (shut_bool Tryz.underlying4 _), trodAll_mk1 (Below.trod laidOut (by kernel_rfl) (of_decide_eq_true (by kernel_rfl)) k0 bel lt0), rfl, bel.frame _, fun h => by cases h⟩

theorem over : Rows.FnReadsSaid :=
  OpenClaim.holds_of_wide 3 Tryz.f3 rfl rfl rfl rfl rfl rfl rfl ⟨rfl, rfl, rfl, rfl, rfl⟩ rfl rfl rfl rfl rfl (by kernel_rfl) Tryz.func3 (by kernel_rfl)
    (of_decide_eq_true (by kernel_rfl)) (by unfold Func.isWrapper; first | (rw [if_pos (by decide +kernel)]; kernel_rfl) | (rw [if_neg (by decide +kernel)]; exact ⟨rfl, rfl⟩))
    (fun os started H enc _ => lifted os started H enc)

/-- The tied card. -/
theorem proved : Rows.FnReadsCardSaid :=
  Claim7.holds_tied_plain_at .later [] [.data, .data, .data, .sentinel, .sentinel] true (true, "9c5f485c772905a563f2fa57fe71d0b1a7875b61086af91937ff522ce4e2888b") true
    over (fun _ h => by cases h) (by kernel_rfl) (fun _ h => by cases h) fnReads_row_tie rfl ⟨rfl, rfl⟩ (by kernel_rfl) rfl
    (fun f fn hf hfn => by
      obtain rfl : f = 3 := Option.some.inj ((show Tryz.prog.funcNamed "loop.example/g00396/laws.FnReads" = some 3 by kernel_rfl).symm.trans hf) |>.symm
      obtain rfl : fn = Tryz.f3 := (Option.some.inj (Tryz.func3.symm.trans hfn)).symm
      exact ⟨by kernel_rfl, fun j t ht => by
        rw [Tryz.params3] at ht
        have hm : t ∈ [22] := by simpa using Array.mem_of_getElem? ht
        have hall : ([22].all fun u => !Tryz.prog.wantsStandIn u) = true := by kernel_rfl
        exact (show Tryz.prog.wantsStandIn t = false by simpa using List.all_eq_true.1 hall t hm)⟩)
    (by kernel_rfl)
#print axioms proved
end Go.Proofs.YtoljphjmekkneabGreatDoor.fnReads
