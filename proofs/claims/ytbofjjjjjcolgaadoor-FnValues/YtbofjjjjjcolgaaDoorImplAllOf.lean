/- impl.valueFieldsOk, and impl.allOf with it. No conditions. -/
import Derived.Test.YtbofjjjjjcolgaaDoorRows
import Derived.Test.YtbofjjjjjcolgaaDoorValOkP
import Derived.Test.YtbofjjjjjcolgaaDoorValRows
import Derived.WalkKit
import Derived.ProofKit
import Derived.OwnWalk
import Derived.Deep.Cut
namespace Go.Proofs.YtbofjjjjjcolgaaDoor
open Go.ChangeShapes Go.WideShapes Go.ChangeAt Go.RowKit

set_option maxRecDepth 100000 in
set_option maxHeartbeats 8000000 in
theorem value_fields (t : Vt) (w : World) (p : Option Addr) (cap : Nat) :
    Calls Tryd.prog 17 #[.agg #[.int .i64 t.op, .int .i64 t.n, .slice p t.len cap]] w fun e w' => e = .returned (.bool (fieldsV t)) ∧ Below w.heap.size w w' := by
  have HW : Hid (∀ w, Calls Tryd.prog 31 #[.int .i64 t.n] w fun e w' => e = .returned (.bool (wokB t.n)) ∧ w' = w) := fun w => impl_wordOk t.n w
  have HR : Hid (fieldsV t = fVB t.op (wokB t.n) (t.n == 0) ((t.len : Int) == 0) ((t.len : Int) == 2)) := rfl
  generalize fieldsV t = R at *
  generalize wokB t.n = wb at *
  generalize t.op = op at *
  generalize t.n = n at *
  generalize t.len = len at *
  have HB : Hid (∀ o1, Below w.heap.size w (w.alloc o1)) := fun o1 => newb w _
  cases hn : (n == 0) <;> cases hl : ((len : Int) == 0) <;> cases hl2 : ((len : Int) == 2)
  all_goals
    rw [hn, hl, hl2] at HR
    by_cases h1 : op = 1
    · subst h1
      cases wb
      all_goals
        have HR2 : Hid _ := HR.out.trans (by unfold fVB; rw [if_pos rfl])
        clear HR
        go_enter Tryd.func17, Tryd.ntmps17
        go_wp2_with ((go_at_call 31; refine (HW.out _).mono ?_; rintro e w1 ⟨rfl, rfl⟩))
        go_ret
        exact ⟨ret_bool HR2.out.symm, HB.out _⟩
    · by_cases h2 : op = 2
      · subst h2
        have HR2 : Hid _ := HR.out.trans (by unfold fVB; rw [if_neg (by omega), if_pos rfl])
        clear HR
        go_enter Tryd.func17, Tryd.ntmps17
        go_wp2_with fail
        go_ret
        exact ⟨ret_bool HR2.out.symm, HB.out _⟩
      · by_cases h4 : op = 4
        · subst h4
          have HR2 : Hid _ := HR.out.trans (by unfold fVB; rw [if_neg (by omega), if_neg (by omega), if_pos rfl])
          clear HR
          go_enter Tryd.func17, Tryd.ntmps17
          go_wp2_with fail
          go_ret
          exact ⟨ret_bool HR2.out.symm, HB.out _⟩
        · by_cases h3 : op = 3
          · subst h3
            have HR2 : Hid _ := HR.out.trans (by unfold fVB; rw [if_neg (by omega), if_neg (by omega), if_neg (by omega), if_pos rfl])
            clear HR
            go_enter Tryd.func17, Tryd.ntmps17
            go_wp2_with fail
            go_ret
            exact ⟨ret_bool HR2.out.symm, HB.out _⟩
          · have HR2 : Hid _ := HR.out.trans (by unfold fVB; rw [if_neg h1, if_neg h2, if_neg h4, if_neg h3])
            clear HR
            have g1 : (op == 1) = false := by simpa using h1
            have g2 : (op == 2) = false := by simpa using h2
            have g3 : (op == 3) = false := by simpa using h3
            have g4 : (op == 4) = false := by simpa using h4
            go_enter Tryd.func17, Tryd.ntmps17
            go_wp2_with fail
            go_ret
            exact ⟨ret_bool HR2.out.symm, HB.out _⟩

theorem hid_ofA {p : Prop} (h : p) : Hid p := h

set_option maxRecDepth 100000 in
set_option maxHeartbeats 2000000 in
theorem not_fields (t : Vt) (w : World) (p : Option Addr) (cap B : Nat) (hB : w.cell? ⟨B, 0, none⟩ = some (.func (.func 17) #[] #[])) :
    Calls Tryd.prog 30 #[.agg #[.int .i64 t.op, .int .i64 t.n, .slice p t.len cap], .pointer (some ⟨B, 0, none⟩)] w fun e w' => e = .returned (.bool (!fieldsV t)) ∧ Below w.heap.size w w' := by
  have hb0 : (w.alloc (.cells #[.int .i64 t.op, .int .i64 t.n, .slice p t.len cap] 26)).cell? ⟨B, 0, none⟩ = some (.func (.func 17) #[] #[]) := keeps (newb w _) _ _ hB
  have HF : Hid (∀ w, Calls Tryd.prog 17 #[.agg #[.int .i64 t.op, .int .i64 t.n, .slice p t.len cap]] w fun e w' => e = .returned (.bool (fieldsV t)) ∧ Below w.heap.size w w') := fun w => value_fields t w p cap
  generalize fieldsV t = R at *
  clear hB
  go_enter Tryd.func30, Tryd.ntmps30
  go_wp2_with fail
  refine (HF.out _).mono ?_
  rintro e w1 ⟨rfl, hb1⟩
  have HB1 : Hid (Below w.heap.size w w1) := (newb w _).trans (hb1.mono (newb w _).size)
  clear hb1
  go_wp2_with fail
  go_ret
  exact ⟨rfl, HB1.out⟩

set_option maxRecDepth 100000 in
set_option maxHeartbeats 2000000 in
theorem index_not (len : Nat) (kid : Nat → Vt) (w : World) (v : Value) (B : Nat) (hv : Vl w len kid v) (hl : len ≤ 1099511627776) (hB : w.cell? ⟨B, 0, none⟩ = some (.func (.func 17) #[] #[])) :
    Calls Tryd.prog 38 #[v, .func (.func 30) #[] #[.pointer (some ⟨B, 0, none⟩)]] w fun e w' => ∃ i : Int, e = .returned (.int .i64 i) ∧ (decide (0 ≤ i) = !allTo (fun i => fieldsV (kid i)) len) ∧ Below w.heap.size w w' := by
  obtain ⟨p, cap, rfl, hlen, hat⟩ := hv.at
  have HC : Hid (∀ i, i < len → ∃ b o u, p = some ⟨b, o, none⟩ ∧ HeadV w b (o + i * 3) (kid i) u ∧ (kid i).In w u) := hat
  have HBX : Hid (w.cell? ⟨B, 0, none⟩ = some (.func (.func 17) #[] #[])) := hB
  clear hat hv hB
  unfold maxLen at hlen
  go_enter Tryd.func38, Tryd.ntmps38
  go_wp2_with fail
  go_loopw [5, 8] (fun j i wr => ∃ k : Nat, i = .int .i64 k ∧ k ≤ len ∧ allTo (fun i => fieldsV (kid i)) k = true ∧ Below w.heap.size w wr) (fun _ i _ => len - (intOf i).toNat)
  case atStart => exact ⟨0, rfl, Nat.zero_le _, rfl, Below.refl _ _⟩
  case round =>
    obtain ⟨k, rfl, hk, hall, hbel⟩ := hrel
    have HBL : Hid (Below w.heap.size w wr) := hbel
    have HA : Hid (allTo (fun i => fieldsV (kid i)) k = true) := hall
    clear hbel hall
    by_cases hlt : (k : Int) < len
    · have hlt' : k < len := by omega
      obtain ⟨b, o, u, hp, hd, hin⟩ := HC.out k hlt'
      subst hp
      obtain ⟨c0, c1, c2⟩ := hd.below HBL.out
      obtain ⟨pu, cu, hu⟩ := hin.sl.shape
      subst hu
      have HF : Hid (Calls Tryd.prog 30 #[.agg #[.int .i64 (kid k).op, .int .i64 (kid k).n, .slice pu (kid k).len cu], .pointer (some ⟨B, 0, none⟩)] wr fun e w' => e = .returned (.bool (!fieldsV (kid k))) ∧ Below wr.heap.size wr w') := not_fields (kid k) wr pu cu B (keeps HBL.out _ _ HBX.out)
      clear hd hin
      cases hf : fieldsV (kid k) with
      | true =>
        have HN : Hid (allTo (fun i => fieldsV (kid i)) (k + 1) = true) := by
          show _ = _
          simp only [allTo, HA.out, hf, Bool.and_self]
        rw [hf] at HF
        clear hf
        go_wp2_with fail
        refine HF.out.mono ?_
        rintro e w1 ⟨rfl, hb1⟩
        have HB1 : Hid (Below w.heap.size w w1) := HBL.out.trans (hb1.mono HBL.out.size)
        clear hb1 c0 c1 c2
        simp only [Bool.not_true]
        go_wp2_with fail
        go_roundw
        case rel => exact ⟨k + 1, by go_num, by omega, HN.out, HB1.out⟩
        case measure => simp [intOf]; omega
      | false =>
        have HN : Hid (allTo (fun i => fieldsV (kid i)) len = false) := allTo_false hlt' hf
        rw [hf] at HF
        clear hf
        go_wp2_with fail
        refine HF.out.mono ?_
        rintro e w1 ⟨rfl, hb1⟩
        have HB1 : Hid (Below w.heap.size w w1) := HBL.out.trans (hb1.mono HBL.out.size)
        clear hb1 c0 c1 c2
        simp only [Bool.not_false]
        go_wp2_with fail
        go_ret
        exact ⟨k, rfl, by rw [HN.out, decide_eq_true (by omega)]; rfl, HB1.out⟩
    · have hke : k = len := by omega
      subst hke
      go_wp2_with fail
      go_ret
      exact ⟨-1, rfl, by rw [HA.out]; rfl, HBL.out⟩

set_option maxRecDepth 100000 in
set_option maxHeartbeats 2000000 in
theorem contains_not (len : Nat) (kid : Nat → Vt) (w : World) (v : Value) (B : Nat) (hv : Vl w len kid v) (hl : len ≤ 1099511627776) (hB : w.cell? ⟨B, 0, none⟩ = some (.func (.func 17) #[] #[])) :
    Calls Tryd.prog 29 #[v, .func (.func 30) #[] #[.pointer (some ⟨B, 0, none⟩)]] w fun e w' => e = .returned (.bool (!allTo (fun i => fieldsV (kid i)) len)) ∧ Below w.heap.size w w' := by
  obtain ⟨p, cap, hsh⟩ := hv.shape
  have HI := hid_ofA (index_not len kid w v B hv hl hB)
  clear hv hB
  subst hsh
  go_enter Tryd.func29, Tryd.ntmps29
  go_wp2_with fail
  refine HI.out.mono ?_
  rintro e w1 ⟨i, rfl, hd, hb1⟩
  have HB1 : Hid (Below w.heap.size w w1 ∧ decide (0 ≤ i) = !allTo (fun i => fieldsV (kid i)) len) := ⟨hb1, hd⟩
  clear hb1 hd HI
  go_wp2_with fail
  go_ret
  exact ⟨ret_bool HB1.out.2, HB1.out.1⟩

set_option maxRecDepth 100000 in
set_option maxHeartbeats 2000000 in
theorem all_fields (len : Nat) (kid : Nat → Vt) (w : World) (v : Value) (hv : Vl w len kid v) (hl : len ≤ 1099511627776) :
    Calls Tryd.prog 16 #[v, .func (.func 17) #[] #[]] w fun e w' => e = .returned (.bool (allTo (fun i => fieldsV (kid i)) len)) ∧ Below w.heap.size w w' := by
  obtain ⟨p, cap, hsh⟩ := hv.shape
  have HI := hid_ofA (contains_not len kid (w.alloc (.cells #[.func (.func 17) #[] #[]] 29)) v w.heap.size (hv.below (newb w _)) hl (cell_of_row _ _ 0 _ _ _ (heap_alloc_new w _)))
  clear hv
  subst hsh
  generalize allTo (fun i => fieldsV (kid i)) len = R at *
  go_enter Tryd.func16, Tryd.ntmps16
  go_wp2_with fail
  refine HI.out.mono ?_
  rintro e w1 ⟨rfl, hb1⟩
  have HB1 : Hid (Below w.heap.size w w1) := (newb w _).trans (hb1.mono (newb w _).size)
  clear hb1 HI
  go_wp2_with fail
  go_ret
  exact ⟨rfl, HB1.out⟩
end Go.Proofs.YtbofjjjjjcolgaaDoor
