/- The walk of laws.FnTokens: it returns true. Conditions: the code's bytes can be read; the library's table of powers of ten and its two errors lie as their text lays them. -/
import Derived.Test.YtmldognpldfdjacDoorCodeRow
import Derived.Test.YtmldognpldfdjacDoorDrawTok
import Derived.Test.YtmldognpldfdjacDoorTokCells
import Derived.Test.YtmldognpldfdjacDoorImplTokens
import Derived.Test.YtmldognpldfdjacDoorSpecTokens
import Derived.Test.YtmldognpldfdjacDoorImplDigits
import Derived.Test.YtmldognpldfdjacDoorLater
namespace Go.Proofs.YtmldognpldfdjacDoor.fnTokens
open Go.ChangeShapes Go.WideShapes Go.ChangeAt Go.RowKit

/-- What the law needs of the world. -/
structure Ground (a : Option Addr) (len : Nat) (w : World) : Prop where
  code : CodeOk a len w.heap.size w
  tab : PowTab w
  errs : ErrVars w

theorem Ground.below {a : Option Addr} {len : Nat} {w w' : World} (h : Ground a len w) (hb : Below w.heap.size w w') : Ground a len w' :=
  ⟨(show CodeOk a len w'.heap.size w' from by
      have := h.code.keep (w' := w') fun k hk _ => hb.block k hk
      obtain ⟨h1, h2 | ⟨b, off, e, hlt, hz⟩⟩ := this
      · exact ⟨h1, .inl h2⟩
      · exact ⟨h1, .inr ⟨b, off, e, Nat.lt_of_lt_of_le hlt hb.size, hz⟩⟩), h.tab.below hb, h.errs.below hb⟩

theorem tokCells_nil {w : World} {v : Value} (h : TokCells w v []) : ∃ p c, v = .slice p 0 c := by
  rcases h with ⟨rfl, _⟩ | ⟨g, cap, rfl, _⟩
  · exact ⟨_, _, rfl⟩
  · exact ⟨_, _, rfl⟩

theorem endAt_succ (ts : List Tok) (k : Nat) (h : k < ts.length) : endAt ts (k + 1) = ts[k].at_ + ts[k].text.size := by
  unfold endAt
  rw [if_neg (by omega), Nat.add_sub_cancel, List.getElem?_eq_getElem h]

set_option maxRecDepth 100000 in
set_option maxHeartbeats 8000000 in
theorem walk (a : Option Addr) (len cap : Nat) (w : World) (hl : len ≤ 1048576) (hg : Ground a len w) :
    Calls Tryd.prog 3 #[.slice a len cap] w fun e w' => e = .returned (.bool true) ∧ Below w.heap.size w w' := by
  have hb0 : ¬ (1048576 : Int) < len := by omega
  go_enter Tryd.func3, Tryd.ntmps3
  go_wp2_with (go_at_call 4; go_in)
  refine (drawTokens_any a len cap _ hg.code).mono ?_
  rintro e w1 ⟨⟨s, hs, rfl⟩, b1⟩
  have g1 := hg.below b1
  go_wp2_with fail
  refine (impl_tokens s (by omega) _ g1.tab g1.errs).mono ?_
  rintro e w2 ⟨lv, rfl, b2, own2⟩
  have g2 := g1.below b2
  have c2 := TokCells.of_own own2
  clear own2
  go_wp2_with fail
  refine (spec_tokens s (by unfold maxLen; omega) _).mono ?_
  rintro e w3 ⟨wv, rfl, b3, own3⟩
  have g3 := g2.below b3
  have c3 := TokCells.of_own own3
  have c2' := c2.below b3
  clear own3 c2
  go_wp2_with fail
  refine (drawSymOk_any a len cap _ g3.code).mono ?_
  rintro e w4 ⟨⟨o, ho, rfl⟩, b4⟩
  have g4 := g3.below b4
  have d2 := c2'.below b4
  have d3 := c3.below b4
  have B4 : Below w.heap.size w w4 := ((b1.trans (b2.mono b1.size)).trans (b3.mono (Nat.le_trans b1.size b2.size))).trans (b4.mono (Nat.le_trans b1.size (Nat.le_trans b2.size b3.size)))
  clear b1 b2 b3 b4 g1 g2 g3 c2' c3 hg
  obtain ⟨hchain, hlen, hend⟩ := toks_good s
  generalize hT : toks s = T at *
  obtain ⟨ts, z⟩ := T
  simp only at hchain hlen hend d2 d3 ⊢
  have HCH : Hid (Chain s ts) := hchain
  clear hchain hT
  cases ts with
  | nil =>
    obtain ⟨p2, q2, rfl⟩ := tokCells_nil d2
    obtain ⟨p3, q3, rfl⟩ := tokCells_nil d3
    clear d2 d3 hend
    go_wp2_with fail
    refine (impl_sym o (by omega) _).mono ?_
    rintro e w5 ⟨rfl, b5⟩
    have B5 : Below w.heap.size w w5 := B4.trans (b5.mono B4.size)
    clear b5 B4
    generalize hsy : symB o.data.toList = sy
    go_wp2_with fail
    refine (spec_sym o _ (by unfold maxLen; omega)).mono ?_
    rintro e w6 ⟨rfl, hw6⟩
    subst hw6
    rw [hsy]
    clear hsy
    go_wp2
    go_loop [9, 10] (fun f i => i = .int .i64 0) (fun _ _ => 0)
    case atStart => rfl
    case round =>
      obtain rfl := hrel
      by_cases hz : z < 0
      · go_wp2
        go_ret
        exact ⟨rfl, B5⟩
      · have hz' : decide (z < 0) = false := by simpa using hz
        go_wp2
        go_ret
        exact ⟨rfl, B5⟩
  | cons t0 r =>
    have hz : z = -1 := by
      rcases hend with h | ⟨h, _⟩
      · exact h
      · cases h
    subst hz
    clear hend
    rcases d2 with ⟨_, h⟩ | ⟨ga, capa, rfl, hca, hca2⟩
    · cases h
    rcases d3 with ⟨_, h⟩ | ⟨gb, capb, rfl, hcb, hcb2⟩
    · cases h
    generalize hts : t0 :: r = ts at *
    have hpos : 0 < ts.length := by rw [← hts]; simp
    clear hts
    have HA : Hid (∀ j u, (rows ts)[j]? = some u → w4.cell? ⟨ga, j, none⟩ = some u) := hca2
    have HB : Hid (∀ j u, (rows ts)[j]? = some u → w4.cell? ⟨gb, j, none⟩ = some u) := hcb2
    clear hca2 hcb2
    go_wp2_with fail
    refine (impl_sym o (by omega) _).mono ?_
    rintro e w5 ⟨rfl, b5⟩
    generalize hsy : symB o.data.toList = sy
    go_wp2_with fail
    refine (spec_sym o _ (by unfold maxLen; omega)).mono ?_
    rintro e w6 ⟨rfl, hw6⟩
    subst hw6
    rw [hsy]
    clear hsy
    go_wp2
    have HB5 : Hid (Below w4.heap.size w4 w6) := b5
    clear b5
    go_loopw [9, 10] (fun f i wr => ∃ k : Nat, i = .int .i64 k ∧ f = .int .i64 (endAt ts k) ∧ k ≤ ts.length ∧ Below w4.heap.size w4 wr) (fun _ i _ => ts.length - (intOf i).toNat)
    case atStart => exact ⟨0, rfl, rfl, Nat.zero_le _, HB5.out⟩
    case round =>
      obtain ⟨k, rfl, rfl, hk, hbel⟩ := hrel
      have HBL : Hid (Below w4.heap.size w4 wr) := hbel
      clear hbel
      by_cases hlt : (k : Int) < ts.length
      · have hlt' : k < ts.length := by omega
        obtain ⟨r0, r1, r2, r3⟩ := rows_at ts k hlt'
        have kp : ∀ {x : Addr} {u : Value}, w4.cell? x = some u → wr.cell? x = some u := fun h => (HBL.out.cell (World.block_lt_of_cell? w4 _ h)).trans h
        have a0 := kp (HA.out _ _ r0); have a1 := kp (HA.out _ _ r1); have a2 := kp (HA.out _ _ r2); have a3 := kp (HA.out _ _ r3)
        have q0 := kp (HB.out _ _ r0); have q1 := kp (HB.out _ _ r1); have q2 := kp (HB.out _ _ r2); have q3 := kp (HB.out _ _ r3)
        have hgb : gb < wr.heap.size := World.block_lt_of_cell? wr _ q0
        obtain ⟨hfrom, hst⟩ := HCH.out k ts[k] (List.getElem?_eq_getElem hlt')
        have HE : Hid (endAt ts (k + 1) = ts[k].at_ + ts[k].text.size) := endAt_succ ts k hlt'
        clear kp r0 r1 r2 r3
        generalize ts[k] = t at *
        generalize hF : endAt ts k = F at *
        clear hF
        have hfit := hst.fit
        have htx := hst.text
        have hnn := hst.n
        have hkd := hst.kind
        have HST : Hid (Stands s t) := hst
        clear hst
        obtain ⟨kd, at_, nn, tx⟩ := t
        simp only at *
        have hd1 : decide (at_ < F) = false := by rw [decide_eq_false_iff_not]; omega
        have htl : ((s.extract at_ (at_ + tx.size)).toList == tx.toList) = true := by rw [htx]; simp
        clear htx
        have hwr : IntKind.i64.wrap ((at_ : Int) + (tx.size : Int)) = (at_ : Int) + (tx.size : Int) := by rw [IntKind.wrap_i64]; omega
        have hi0 : (0 : Int) ≤ (at_ : Int) := by omega
        have hi1 : (at_ : Int) ≤ (at_ : Int) + (tx.size : Int) := by omega
        have hi2 : (at_ : Int) + (tx.size : Int) ≤ (s.size : Int) := by omega
        have HSY : Hid (kd = 4 → ∀ w0, Calls Tryd.prog 9 #[.string tx] w0 fun e w' => e = .returned (.bool true) ∧ Below w0.heap.size w0 w') := fun h w0 => by
          have := impl_sym tx (by omega) w0
          rw [HST.out.sym h] at this
          exact this
        have HDI : Hid (kd = 3 → ∀ w0, PowTab w0 → Calls Tryd.prog 11 #[.int .i64 nn] w0 fun e w' => e = .returned (.string tx) ∧ Below w0.heap.size w0 w') := fun h w0 h0 => by
          have := impl_digits nn (by omega) (by omega) w0 h0
          rw [show (⟨(Lib.itoa nn).toArray⟩ : ByteArray) = tx from by rw [(HST.out.num h).2.2]] at this
          exact this
        go_wp2_with fail
        generalize hW : wr.alloc (.cells #[.int .i64 kd, .int .i64 at_, .int .i64 nn, .string tx] 30) = W
        have hWb : Below wr.heap.size wr W := by rw [← hW]; exact below_new wr _
        have hWd : W.heap[wr.heap.size]? = some (.cells #[.int .i64 kd, .int .i64 at_, .int .i64 nn, .string tx] 30 (0, 0)) := by rw [← hW]; exact heap_alloc_new wr _
        clear hW
        have y0 := fun x : Later W => x.cell (cell_of_row W _ 0 _ _ _ hWd : W.cell? ⟨wr.heap.size, 0, none⟩ = some (.int .i64 kd))
        have y1 := fun x : Later W => x.cell (cell_of_row W _ 1 _ _ _ hWd : W.cell? ⟨wr.heap.size, 1, none⟩ = some (.int .i64 at_))
        have y2 := fun x : Later W => x.cell (cell_of_row W _ 2 _ _ _ hWd : W.cell? ⟨wr.heap.size, 2, none⟩ = some (.int .i64 nn))
        have y3 := fun x : Later W => x.cell (cell_of_row W _ 3 _ _ _ hWd : W.cell? ⟨wr.heap.size, 3, none⟩ = some (.string tx))
        have z0 := fun x : Later W => x.cell ((hWb.cell (World.block_lt_of_cell? wr _ q0)).trans q0)
        have z1 := fun x : Later W => x.cell ((hWb.cell (World.block_lt_of_cell? wr _ q1)).trans q1)
        have z2 := fun x : Later W => x.cell ((hWb.cell (World.block_lt_of_cell? wr _ q2)).trans q2)
        have z3 := fun x : Later W => x.cell ((hWb.cell (World.block_lt_of_cell? wr _ q3)).trans q3)
        have HWB : Hid (Below w4.heap.size w4 W) := HBL.out.trans (hWb.mono HBL.out.size)
        have HPT : Hid (∀ x : Later W, PowTab x.w) := fun x => (g4.below HWB.out).tab.below x.le
        have HGO : Hid (∀ x : Later W, Below w4.heap.size w4 x.w) := fun x => HWB.out.trans (x.le.mono HWB.out.size)
        clear hWb hWd q0 q1 q2 q3 a0 a1 a2 a3 HBL HWB HST
        generalize wr.heap.size = D at *
        have hone := Later.one W
        by_cases h4 : kd = 4
        · subst h4
          refine wp_region_later (by kernel_rfl) (by kernel_rfl) ?_
          repeat (go_big_quiet_step ((go_at_call 9; refine calls_later (HSY.out rfl _))))
          refine wpQuiet_nil ?_
          rintro _ ⟨x, rfl⟩
          go_wp2
          go_roundw
          case rel => exact ⟨k + 1, by go_num, by rw [HE.out]; go_num, by omega, HGO.out x⟩
          case measure => simp [intOf]; omega
        · by_cases h3 : kd = 3
          · subst h3
            refine wp_region_later (by kernel_rfl) (by kernel_rfl) ?_
            repeat (go_big_quiet_step ((go_at_call 11; refine calls_later (HDI.out rfl _ (HPT.out _)))))
            refine wpQuiet_nil ?_
            rintro _ ⟨x, rfl⟩
            go_wp2
            go_roundw
            case rel => exact ⟨k + 1, by go_num, by rw [HE.out]; go_num, by omega, HGO.out x⟩
            case measure => simp [intOf]; omega
          · have e4 : (kd == 4) = false := by simp [h4]
            have e3 : (kd == 3) = false := by simp [h3]
            refine wp_region_later (by kernel_rfl) (by kernel_rfl) ?_
            repeat (go_big_quiet_step (fail))
            refine wpQuiet_nil ?_
            rintro _ ⟨x, rfl⟩
            go_wp2
            go_roundw
            case rel => exact ⟨k + 1, by go_num, by rw [HE.out]; go_num, by omega, HGO.out x⟩
            case measure => simp [intOf]; omega
      · go_wp2
        go_ret
        exact ⟨rfl, B4.trans (HBL.out.mono B4.size)⟩
end Go.Proofs.YtmldognpldfdjacDoor.fnTokens
