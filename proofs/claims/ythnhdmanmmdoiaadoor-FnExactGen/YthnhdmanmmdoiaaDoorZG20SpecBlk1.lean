/- A region that draws its order, whose operations only read and whose callees only make new memory: one walk in the text's order. No conditions of our own. -/
import Derived.Test.YthnhdmanmmdoiaaDoorRows
import Derived.Test.YthnhdmanmmdoiaaDoorZG19SpecBlk0
import Derived.Test.YthnhdmanmmdoiaaDoorZG3IrRows
import Derived.WalkKit
import Derived.ProofKit
import Derived.Below
import Derived.Deep.QuietTactic
import Derived.BigQuiet
import Derived.Deep.Cut
import Derived.Deep.CutRange
namespace Go.Proofs.YthnhdmanmmdoiaaDoor
open Go.ChangeShapes Go.WideShapes Go.ChangeAt Go.RowKit

/-- A world that is W but for new memory. -/
structure Later (W : World) where
  w : World
  le : Below W.heap.size W w

theorem Later.one (W : World) : Nonempty (Later W) := ⟨⟨W, Below.refl _ _⟩⟩

theorem Later.cell {W : World} (x : Later W) {a : Addr} {v : Value} (h : W.cell? a = some v) : x.w.cell? a = some v :=
  (x.le.cell (World.block_lt_of_cell? W _ h)).trans h

theorem calls_later {P : Program} {f : FuncId} {args : Array Value} {W : World} {x : Later W} {v : Value}
    (h : Calls P f args x.w fun e w' => e = .returned v ∧ Below x.w.heap.size x.w w') : Calls P f args x.w fun e w' => e = .returned v ∧ ∃ y : Later W, w' = y.w :=
  h.mono fun _ w' ⟨he, hb⟩ => ⟨he, ⟨w', x.le.trans (hb.mono x.le.size)⟩, rfl⟩

theorem calls_later_same {P : Program} {f : FuncId} {args : Array Value} {W : World} {x : Later W} {v : Value}
    (h : Calls P f args x.w fun e w' => e = .returned v ∧ w' = x.w) : Calls P f args x.w fun e w' => e = .returned v ∧ ∃ y : Later W, w' = y.w :=
  h.mono fun _ _ ⟨he, hb⟩ => ⟨he, x, hb⟩

theorem wp_region_later {P : Program} {id : Nat} {Q : Exit → Act → World → Prop} {a : Act} {w : World} {l : List Oper} (hm : P.follows .mixedOrders = true) (hB : Region.lexB .any l.toArray = true)
    (h : wpQuiet P l.toArray (fun w' => ∃ x : Later w, w' = x.w) (fun a' => ∀ w', (∃ x : Later w, w' = x.w) → Q .normal a' w') l a) : (Code.region id l.toArray true).wp P Q a w :=
  wp_region_quiet (C := fun w' => ∃ x : Later w, w' = x.w) hm hB ⟨⟨{ w with drawn := w.drawn + 1 }, ⟨rfl, rfl, rfl, Nat.le_refl _, fun _ _ => rfl⟩⟩, rfl⟩ (by simpa using h)
end Go.Proofs.YthnhdmanmmdoiaaDoor

/- spec.l12Right. Conditions: the block is one of the list, and keeps not below 0; at most 2^40 in all. -/
namespace Go.Proofs.YthnhdmanmmdoiaaDoor
open Go.ChangeShapes Go.WideShapes Go.ChangeAt Go.RowKit

def SRightAt (nb : Nat) (kb : Nat → Kb) (at_ : Nat) (t : It) : Prop := ∀ (w : World) (v lv : Value) (deep : Nat), Kl w nb kb lv → t.In w v → 1 ≤ deep → deep + t.count ≤ 1099511627776 →
  Calls Tryd.prog 29 #[lv, .int .i64 at_, .agg #[.int .i64 t.op, .int .i64 t.n, v], .int .i64 deep] w fun e w' => e = .returned (.bool (rightI nb kb at_ t deep)) ∧ Below w.heap.size w w'

/-- A block with three cells. -/
def Three (w : World) (g : Nat) (a b : Int) (v : Value) (ty : TypeId) : Prop := w.heap[g]? = some (.cells #[.int .i64 a, .int .i64 b, v] ty (0, 0))
theorem Three.below {w w' : World} {g : Nat} {a b : Int} {v : Value} {ty : TypeId} (h : Three w g a b v ty) (hb : Below w.heap.size w w') : Three w' g a b v ty := (hb.block _ (Array.getElem?_eq_some_iff.1 h).1).trans h
theorem Three.cells {w : World} {g : Nat} {a b : Int} {v : Value} {ty : TypeId} (h : Three w g a b v ty) :
    w.cell? ⟨g, 0, none⟩ = some (.int .i64 a) ∧ w.cell? ⟨g, 1, none⟩ = some (.int .i64 b) ∧ w.cell? ⟨g, 2, none⟩ = some v :=
  ⟨cell_of_row w g 0 _ _ _ h, cell_of_row w g 1 _ _ _ h, cell_of_row w g 2 _ _ _ h⟩

set_option maxRecDepth 100000 in
set_option maxHeartbeats 8000000 in
theorem spec_iright (nb : Nat) (kb : Nat → Kb) (at_ : Nat) (hnb : at_ < nb) (hfr : 0 ≤ (kb at_).fr) (t : It) : SRightAt nb kb at_ t := by
  induction t with
  | no => intro w v lv deep _ h; exact h.elim
  | mk op n len kid ih =>
    intro w v lv deep hlv hin hd hdc
    have h1 := hin.sl
    have hce : (It.mk op n len kid).count = 1 + sumTo (fun i => (kid i).count) len := rfl
    have HRE : Hid (rightI nb kb at_ (.mk op n len kid) deep = ((opB op && cntB op len) && (allTo (fun i => rightI nb kb at_ (kid i) (deep + bitI op i)) len && numI nb kb at_ op n len deep))) := rfl
    have HCN : Hid (∀ i, i < len → deep + 1 + (kid i).count ≤ 1099511627776) := fun i hi => by
      have := sumTo_at (fun i => (kid i).count) i len hi
      omega
    have hdp : deep ≤ 1099511627776 := by omega
    clear hce hdc
    simp only [It.op, It.n, It.len, It.kid] at h1 ⊢
    generalize rightI nb kb at_ (It.mk op n len kid) deep = R at *
    obtain ⟨p, cap, e1, hlen, hat⟩ := h1.at
    obtain ⟨pl, cl, el, hll, hal⟩ := hlv.at
    have HC : Hid (∀ i, i < len → ∃ b o u, p = some ⟨b, o, none⟩ ∧ HeadI w b (o + i * 3) (kid i) u ∧ (kid i).In w u) := hat
    have HLV : Hid (Kl w nb kb lv) := hlv
    have HL : Hid (∀ i, i < nb → ∃ b o u, pl = some ⟨b, o, none⟩ ∧ HeadK w b (o + i * 4) (kb i) u ∧ (kb i).In w u) := hal
    have IH : Hid (∀ i, SRightAt nb kb at_ (kid i)) := ih
    obtain ⟨W, hW⟩ : ∃ W, W = w.alloc (.cells #[.int .i64 op, .int .i64 n, v] 48) := ⟨_, rfl⟩
    obtain ⟨TB, hTB⟩ : ∃ TB, TB = w.heap.size := ⟨_, rfl⟩
    have HBW : Hid (Below w.heap.size w W ∧ Three W TB op n v 48) := by
      have nb : Below w.heap.size w W := by rw [hW]; exact newb w _
      exact ⟨nb, by rw [hW, hTB]; exact heap_alloc_new w _⟩
    have HWW : Hid (W = w.alloc (.cells #[.int .i64 op, .int .i64 n, v] 48) ∧ TB = w.heap.size) := ⟨hW, hTB⟩
    have HNB : Hid (at_ < nb ∧ 0 ≤ (kb at_).fr) := ⟨hnb, hfr⟩
    clear hin h1 hat hal ih hlv hW hTB hnb hfr
    unfold maxLen at hlen hll
    subst e1 el
    have HIO : Hid (∀ w, Calls Tryd.prog 30 #[.int .i64 op, .int .i64 1, .int .i64 19] w fun e w' => e = .returned (.bool (opB op)) ∧ w' = w) := fun w => spec_inI _ _ _ _ rfl w
    have HKI : Hid (∀ w, Calls Tryd.prog 42 #[.int .i64 op] w fun e w' => e = .returned (.int .i64 (kidsI op)) ∧ w' = w) := fun w => spec_kidsI op w
    obtain ⟨q0, q1, q2⟩ := HBW.out.2.cells
    cases hop : opB op with
    | false =>
      have HR : Hid (R = false) := by show _ = _; rw [HRE.out, hop]; rfl
      rw [hop] at HIO
      generalize kidsI op = K at *
      clear HRE hop HC HL IH HLV
      go_enter Tryd.func29, Tryd.ntmps29
      go_upto_region 1 with fail
      rw [← HWW.out.1, ← HWW.out.2]
      go_wp2_with (first | (go_at_call 42; refine (HKI.out _).mono ?_; rintro e w1 ⟨rfl, rfl⟩) | (go_at_call 30; refine (HIO.out _).mono ?_; rintro e w1 ⟨rfl, rfl⟩))
      go_ret
      exact ⟨by rw [HR.out]; rfl, HBW.out.1⟩
    | true =>
      rw [hop] at HIO
      have HOP : Hid (opB op = true) := hop
      clear hop
      cases hcn : cntB op len with
      | false =>
        have HR : Hid (R = false) := by show _ = _; rw [HRE.out, HOP.out, hcn]; rfl
        have hk : 0 ≤ kidsI op ∧ ((len : Int) != kidsI op) = true := by
          unfold cntB at hcn
          simp only [Bool.or_eq_false_iff, Bool.not_eq_false', decide_eq_true_eq] at hcn
          exact ⟨hcn.1, by rw [bne, hcn.2]; rfl⟩
        obtain ⟨hk0, hk1⟩ := hk
        generalize kidsI op = K at *
        clear HRE HOP HC HL IH HLV hcn
        go_enter Tryd.func29, Tryd.ntmps29
        go_upto_region 1 with fail
        rw [← HWW.out.1, ← HWW.out.2]
        go_wp2_with (first | (go_at_call 42; refine (HKI.out _).mono ?_; rintro e w1 ⟨rfl, rfl⟩) | (go_at_call 30; refine (HIO.out _).mono ?_; rintro e w1 ⟨rfl, rfl⟩))
        go_ret
        exact ⟨by rw [HR.out]; rfl, HBW.out.1⟩
      | true =>
        have HRE2 : Hid (R = (allTo (fun i => rightI nb kb at_ (kid i) (deep + bitI op i)) len && numI nb kb at_ op n len deep)) := by show _ = _; rw [HRE.out, HOP.out, hcn]; simp
        have hk : ¬ 0 ≤ kidsI op ∨ (0 ≤ kidsI op ∧ ((len : Int) != kidsI op) = false) := by
          by_cases h0 : 0 ≤ kidsI op
          · refine .inr ⟨h0, ?_⟩
            unfold cntB at hcn
            rw [decide_eq_true h0] at hcn
            simp only [Bool.not_true, Bool.false_or] at hcn
            rw [bne, hcn]; rfl
          · exact .inl h0
        clear HRE hcn
        go_enter Tryd.func29, Tryd.ntmps29
        go_upto_region 1 with fail
        rw [← HWW.out.1, ← HWW.out.2]
        go_upto_region 2 with (go_at_call 42; refine (HKI.out _).mono ?_; rintro e w1 ⟨rfl, rfl⟩)
        go_cut [28] from 14 (fun z wx => z = .bool false ∧ wx = w1)
        case first =>
          generalize kidsI op = K at *
          rcases hk with hk | ⟨hk, hk1⟩
          all_goals
            go_wp2_with (first | (go_at_call 30; refine (HIO.out _).mono ?_; rintro e w1 ⟨rfl, rfl⟩))
            go_meet
            exact ⟨rfl, rfl⟩
        case rest =>
        obtain ⟨rfl, hwc⟩ := hcut
        subst hwc
        clear hk HIO HKI
        go_wp2_with fail
        go_loopw [10] (fun i wr => ∃ k : Nat, i = .int .i64 k ∧ k ≤ len ∧ allTo (fun i => rightI nb kb at_ (kid i) (deep + bitI op i)) k = true ∧ Three wr TB op n (.slice p len cap) 48 ∧ Below w.heap.size w wr) (fun i _ => len - (intOf i).toNat)
        case atStart => exact ⟨0, rfl, Nat.zero_le _, rfl, HBW.out.2, HBW.out.1⟩
        case round =>
          obtain ⟨k, rfl, hk, hcc, hblk, hbel⟩ := hrel
          have HBL : Hid (Below w.heap.size w wr) := hbel
          have HA : Hid (allTo (fun i => rightI nb kb at_ (kid i) (deep + bitI op i)) k = true) := hcc
          have HK3 : Hid (Three wr TB op n (.slice p len cap) 48) := hblk
          clear hbel hcc hblk q0 q1 q2
          obtain ⟨q0, q1, q2⟩ := HK3.out.cells
          by_cases hlt : (k : Int) < len
          · have hlt' : k < len := by omega
            obtain ⟨b, o, u, hp, hd0, hin⟩ := HC.out k hlt'
            subst hp
            obtain ⟨c0, c1, c2⟩ := hd0.below HBL.out
            have HI : Hid ((kid k).In wr u ∧ Kl wr nb kb (.slice pl nb cl)) := ⟨hin.below HBL.out, HLV.out.below HBL.out⟩
            obtain ⟨RK, hRK⟩ : ∃ RK, rightI nb kb at_ (kid k) (deep + bitI op k) = RK := ⟨_, rfl⟩
            have HCL : Hid (∀ x : Later wr, Calls Tryd.prog 29 #[.slice pl nb cl, .int .i64 at_, .agg #[.int .i64 (kid k).op, .int .i64 (kid k).n, u], .int .i64 ((deep + bitI op k : Nat) : Int)] x.w fun e w' => e = .returned (.bool RK) ∧ Below x.w.heap.size x.w w') := fun x => by
              have := IH.out k x.w u (.slice pl nb cl) (deep + bitI op k) (HI.out.2.below x.le) (HI.out.1.below x.le) (by omega) (by have := HCN.out k hlt'; unfold bitI; split <;> omega)
              rw [hRK] at this
              exact this
            have HRK : Hid (rightI nb kb at_ (kid k) (deep + bitI op k) = RK) := hRK
            obtain ⟨BT, hBT⟩ : ∃ BT, bitI op k = BT := ⟨_, rfl⟩
            have hbt : BT ≤ 1 := by rw [← hBT]; unfold bitI; split <;> omega
            have HBT : Hid (∀ x : Later wr, Calls Tryd.prog 43 #[.bool ((op == 7) && ((k : Int) == 1))] x.w fun e w' => e = .returned (.int .i64 (BT : Int)) ∧ w' = x.w) := fun x => by
              have := spec_bitI ((op == 7) && ((k : Int) == 1)) x.w
              rw [← hBT]
              cases h7 : (op == 7)
              · rw [h7] at this; rw [bit_no1 k h7]; exact this
              · cases h8 : ((k : Int) == 1)
                · rw [h7, h8] at this; rw [bit_no2 h8]; exact this
                · rw [h7, h8] at this; rw [bit_yes h7 h8]; exact this
            rw [hBT] at HCL
            clear hd0 hin hRK hBT
            go_upto_region 7 with fail
            go_cut [54] from 36 to 54 (fun z wx => z = .bool (!RK) ∧ Below wr.heap.size wr wx)
            case first =>
              have hone := Later.one wr
              have y0 := fun x : Later wr => x.cell q0
              have y1 := fun x : Later wr => x.cell q1
              have y2 := fun x : Later wr => x.cell q2
              have z0 := fun x : Later wr => x.cell c0
              have z1 := fun x : Later wr => x.cell c1
              have z2 := fun x : Later wr => x.cell c2
              clear q0 q1 q2 c0 c1 c2
              cases h7 : (op == 7) <;> cases h8 : ((k : Int) == 1)
              all_goals
                rw [h7, h8] at HBT
                simp only [Bool.and_false, Bool.and_true, Bool.and_self] at HBT
                refine wp_region_later (by kernel_rfl) (by kernel_rfl) ?_
                repeat (go_big_quiet_step (first | (go_at_call 43; refine calls_later_same (HBT.out _)) | (go_at_call 29; refine calls_later (HCL.out _))))
                refine wpQuiet_nil ?_
                rintro _ ⟨x, rfl⟩
                go_wp2_with fail
                go_meet
                exact ⟨rfl, x.le⟩
            case rest =>
            obtain ⟨rfl, hwb⟩ := hcut
            have HB1 : Hid (Below w.heap.size w wc) := HBL.out.trans (hwb.mono HBL.out.size)
            have HX : Hid (Three wc TB op n (.slice (some ⟨b, o, none⟩) len cap) 48) := HK3.out.below hwb
            clear hwb q0 q1 q2 c0 c1 c2 HBT HCL
            cases RK with
            | true =>
              have HN : Hid (allTo (fun i => rightI nb kb at_ (kid i) (deep + bitI op i)) (k + 1) = true) := by
                show _ = _
                simp only [allTo, HA.out, HRK.out, Bool.and_self]
              go_wp2_with fail
              go_roundw
              case rel => first | exact ⟨k + 1, by go_num, by omega, HN.out, HX.out, HB1.out⟩ | ((repeat apply Exists.intro); exact ⟨⟨k + 1, (show Value.int .i64 ((k : Int) + 1) = .int .i64 ((k + 1 : Nat) : Int) from by go_num), by omega, HN.out, HX.out, HB1.out⟩, rfl⟩)
              case measure => simp [intOf]; omega
            | false =>
              have HN : Hid (R = false) := HRE2.out.trans (by rw [allTo_false hlt' HRK.out]; rfl)
              go_wp2_with fail
              go_ret
              exact ⟨by rw [HN.out]; rfl, HB1.out⟩
          · have hke : k = len := by omega
            have HR : Hid (R = numI nb kb at_ op n len deep) := HRE2.out.trans (by rw [← hke, HA.out, Bool.true_and])
            clear HRE2 HA HC IH hke
            by_cases h1 : op = 1
            · subst h1
              have HR2 : Hid (R = wokB n) := HR.out.trans (num_word (by omega))
              have HW : Hid (∀ w, Calls Tryd.prog 44 #[.int .i64 n] w fun e w' => e = .returned (.bool (wokB n)) ∧ w' = w) := fun w => spec_wordOk n w
              go_wp2_with (go_at_call 44; refine (HW.out _).mono ?_; rintro e w1 ⟨rfl, rfl⟩)
              go_ret
              exact ⟨by rw [HR2.out]; rfl, HBL.out⟩
            by_cases h18 : op = 18
            · subst h18
              have HR2 : Hid (R = wokB n) := HR.out.trans (num_word (by omega))
              have HW : Hid (∀ w, Calls Tryd.prog 44 #[.int .i64 n] w fun e w' => e = .returned (.bool (wokB n)) ∧ w' = w) := fun w => spec_wordOk n w
              go_wp2_with (go_at_call 44; refine (HW.out _).mono ?_; rintro e w1 ⟨rfl, rfl⟩)
              go_ret
              exact ⟨by rw [HR2.out]; rfl, HBL.out⟩
            by_cases h2 : op = 2
            · subst h2
              have HR2 : Hid (R = _) := HR.out.trans num_local
              have HW : Hid (∀ w, Calls Tryd.prog 30 #[.int .i64 n, .int .i64 0, .int .i64 ((deep : Int) - 1)] w fun e w' => e = .returned (.bool (decide (0 ≤ n) && decide (n ≤ (deep : Int) - 1))) ∧ w' = w) := fun w => spec_inI _ _ _ _ rfl w
              go_wp2_with (go_at_call 30; refine (HW.out _).mono ?_; rintro e w1 ⟨rfl, rfl⟩)
              go_ret
              exact ⟨by rw [HR2.out]; rfl, HBL.out⟩
            by_cases h3 : op = 3
            · subst h3
              have HR2 : Hid (R = _) := HR.out.trans num_free
              obtain ⟨b, o, u, hp, hd0, hin⟩ := HL.out at_ HNB.out.1
              subst hp
              obtain ⟨c0, -, -, -⟩ := hd0.below HBL.out
              have hf0 := HNB.out.2
              have hf1 := hin.1.2
              have hnb := HNB.out.1
              generalize (kb at_).fr = F at *
              have HW : Hid (∀ w, Calls Tryd.prog 30 #[.int .i64 n, .int .i64 0, .int .i64 (F - 1)] w fun e w' => e = .returned (.bool (decide (0 ≤ n) && decide (n ≤ F - 1))) ∧ w' = w) := fun w => spec_inI _ _ _ _ rfl w
              clear hd0 hin
              have hone := Later.one wr
              have y1 := fun x : Later wr => x.cell q1
              have z0 := fun x : Later wr => x.cell c0
              go_upto_region 16 with fail
              clear q0 q1 q2 c0
              refine wp_region_later (by kernel_rfl) (by kernel_rfl) ?_
              repeat (go_big_quiet_step (first | (go_at_call 30; refine calls_later_same (HW.out _))))
              refine wpQuiet_nil ?_
              rintro _ ⟨x, rfl⟩
              go_wp2_with fail
              go_ret
              exact ⟨by rw [HR2.out]; rfl, HBL.out.trans (x.le.mono HBL.out.size)⟩
            by_cases h4 : op = 4
            · subst h4
              have HR2 : Hid (R = _) := HR.out.trans num_self
              by_cases ha : 0 < at_
              · rw [decide_eq_true ha, Bool.and_true] at HR2
                cases hn : (n == 0)
                all_goals
                  rw [hn] at HR2
                  clear HR
                  go_wp2_with fail
                  go_ret
                  exact ⟨by rw [HR2.out]; rfl, HBL.out⟩
              · rw [decide_eq_false ha, Bool.and_false] at HR2
                cases hn : (n == 0)
                all_goals
                  clear HR
                  go_wp2_with fail
                  go_ret
                  exact ⟨by rw [HR2.out]; rfl, HBL.out⟩
            by_cases h5 : op = 5
            · subst h5
              have HR2 : Hid (R = _) := HR.out.trans num_clos
              have HW : Hid (∀ w, Calls Tryd.prog 30 #[.int .i64 n, .int .i64 1, .int .i64 ((nb : Int) - 1)] w fun e w' => e = .returned (.bool (decide (1 ≤ n) && decide (n ≤ (nb : Int) - 1))) ∧ w' = w) := fun w => spec_inI _ _ _ _ rfl w
              cases hx : (decide (1 ≤ n) && decide (n ≤ (nb : Int) - 1)) with
              | false =>
                rw [hx] at HW
                have HR3 : Hid (R = false) := HR2.out.trans (by rw [hx]; rfl)
                clear HR2 HR hx
                have hone := Later.one wr
                have y1 := fun x : Later wr => x.cell q1
                have y2 := fun x : Later wr => x.cell q2
                go_upto_region 20 with fail
                clear q0 q1 q2
                refine wp_region_later (by kernel_rfl) (by kernel_rfl) ?_
                repeat (go_big_quiet_step (first | (go_at_call 30; refine calls_later_same (HW.out _))))
                refine wpQuiet_nil ?_
                rintro _ ⟨x, rfl⟩
                go_wp2_with fail
                go_ret
                exact ⟨by rw [HR3.out]; rfl, HBL.out.trans (x.le.mono HBL.out.size)⟩
              | true =>
                rw [hx] at HW
                have hxx : 1 ≤ n ∧ n ≤ (nb : Int) - 1 := by simpa using hx
                have HR3 : Hid (R = ((len : Int) == (kb n.toNat).fr)) := HR2.out.trans (by rw [hx, Bool.true_and])
                obtain ⟨m, rfl⟩ : ∃ m : Nat, n = m := ⟨n.toNat, by omega⟩
                obtain ⟨b, o, u, hp, hd0, hin⟩ := HL.out m (by omega)
                subst hp
                obtain ⟨c0, -, -, -⟩ := hd0.below HBL.out
                rw [Int.toNat_natCast] at HR3
                generalize (kb m).fr = F at *
                clear HR2 HR hx hd0 hin
                obtain ⟨hm0, hm1⟩ := hxx
                have hm2 : (m : Int) < nb := by omega
                have hone := Later.one wr
                have y1 := fun x : Later wr => x.cell q1
                have y2 := fun x : Later wr => x.cell q2
                have z0 := fun x : Later wr => x.cell c0
                go_upto_region 20 with fail
                clear q0 q1 q2 c0
                refine wp_region_later (by kernel_rfl) (by kernel_rfl) ?_
                repeat (go_big_quiet_step (first | (go_at_call 30; refine calls_later_same (HW.out _))))
                refine wpQuiet_nil ?_
                rintro _ ⟨x, rfl⟩
                go_wp2_with fail
                go_ret
                exact ⟨by rw [HR3.out]; rfl, HBL.out.trans (x.le.mono HBL.out.size)⟩
            by_cases h14 : op = 14
            · subst h14
              have HR2 : Hid (R = _) := HR.out.trans (num_con (by omega))
              have HW : Hid (∀ w, Calls Tryd.prog 30 #[.int .i64 n, .int .i64 0, .int .i64 1073741823] w fun e w' => e = .returned (.bool (decide (0 ≤ n) && decide (n ≤ 1073741823))) ∧ w' = w) := fun w => spec_inI _ _ _ _ rfl w
              go_wp2_with (go_at_call 30; refine (HW.out _).mono ?_; rintro e w1 ⟨rfl, rfl⟩)
              go_ret
              exact ⟨by rw [HR2.out]; rfl, HBL.out⟩
            by_cases h16 : op = 16
            · subst h16
              have HR2 : Hid (R = _) := HR.out.trans (num_con (by omega))
              have HW : Hid (∀ w, Calls Tryd.prog 30 #[.int .i64 n, .int .i64 0, .int .i64 1073741823] w fun e w' => e = .returned (.bool (decide (0 ≤ n) && decide (n ≤ 1073741823))) ∧ w' = w) := fun w => spec_inI _ _ _ _ rfl w
              go_wp2_with (go_at_call 30; refine (HW.out _).mono ?_; rintro e w1 ⟨rfl, rfl⟩)
              go_ret
              exact ⟨by rw [HR2.out]; rfl, HBL.out⟩
            by_cases h17 : op = 17
            · subst h17
              have HR2 : Hid (R = _) := HR.out.trans (num_con (by omega))
              have HW : Hid (∀ w, Calls Tryd.prog 30 #[.int .i64 n, .int .i64 0, .int .i64 1073741823] w fun e w' => e = .returned (.bool (decide (0 ≤ n) && decide (n ≤ 1073741823))) ∧ w' = w) := fun w => spec_inI _ _ _ _ rfl w
              go_wp2_with (go_at_call 30; refine (HW.out _).mono ?_; rintro e w1 ⟨rfl, rfl⟩)
              go_ret
              exact ⟨by rw [HR2.out]; rfl, HBL.out⟩
            have HR2 : Hid (R = (n == 0)) := HR.out.trans (num_else h1 h18 h2 h3 h4 h5 h14 h16 h17)
            have g1 : (op == 1) = false := by simpa using h1
            have g18 : (op == 18) = false := by simpa using h18
            have g2 : (op == 2) = false := by simpa using h2
            have g3 : (op == 3) = false := by simpa using h3
            have g4 : (op == 4) = false := by simpa using h4
            have g5 : (op == 5) = false := by simpa using h5
            have g14 : (op == 14) = false := by simpa using h14
            have g16 : (op == 16) = false := by simpa using h16
            have g17 : (op == 17) = false := by simpa using h17
            clear HR
            go_wp2_with fail
            go_ret
            exact ⟨by rw [HR2.out]; rfl, HBL.out⟩
end Go.Proofs.YthnhdmanmmdoiaaDoor
