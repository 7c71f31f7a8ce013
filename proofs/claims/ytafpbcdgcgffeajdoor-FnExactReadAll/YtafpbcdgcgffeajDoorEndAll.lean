/- impl.readDats. Conditions: those of impl.Tokens. -/
import Derived.Test.YtafpbcdgcgffeajDoorReadW
import Derived.Test.YtafpbcdgcgffeajDoorReadRest
import Derived.Test.YtafpbcdgcgffeajDoorImplTokens
import Derived.Test.YtafpbcdgcgffeajDoorImplDats
import Derived.Test.YtafpbcdgcgffeajDoorReadAcc
import Derived.Test.YtafpbcdgcgffeajDoorSpecDeep
import Derived.Test.YtafpbcdgcgffeajDoorSpecRight
import Derived.Test.YtafpbcdgcgffeajDoorSpecList
import Derived.Test.YtafpbcdgcgffeajDoorSpecTokens
import Derived.Test.YtafpbcdgcgffeajDoorRows
import Derived.Test.YtafpbcdgcgffeajDoorDat
import Derived.Test.YtafpbcdgcgffeajDoorOneByte
import Derived.Test.YtafpbcdgcgffeajDoorFrS
import Derived.Tactics
import Derived.Tactics2
import Derived.Defers
import Derived.Recover
import Derived.Laws.Pointers
import Derived.WalkKit
import Derived.ProofKit
import Derived.OwnWalk
import Derived.BigQuiet
import Derived.Deep.QuietTactic
import Derived.Deep.RegionWith
import Derived.Lib.ItoaNum
import Derived.Lib.ItoaLen
import Derived.Below
import Derived.Deep.RegionHeld3
namespace Go.Proofs.YtafpbcdgcgffeajDoor
open Go.ChangeShapes Go.WideShapes Go.ChangeAt Go.RowKit

theorem toks_ok (s : ByteArray) (hs : s.size ≤ 4000) : TokOk (toks s).1 := by
  intro t ht
  obtain ⟨i, hi, rfl⟩ := List.mem_iff_getElem.1 ht
  have := ((toks_good s).1 i _ (List.getElem?_eq_getElem hi)).2
  exact ⟨this.kind, this.n, by have := this.fit; omega⟩
theorem toks_long (s : ByteArray) (hs : ¬ s.size ≤ 4000) : toks s = ([], 0) := by unfold toks; rw [if_neg hs]

def DatsSay (w : World) (res : Rdr (List D)) (e : Ending) (w' : World) : Prop :=
  Below w.heap.size w w' ∧ match res with
    | .bad p => e = misfit p
    | .ok ds _ => ∃ v T, e = .returned v ∧ SOwn w' ds.length (kidsOf ds) v T ∧ T.Nodup ∧ (∀ x ∈ T, w.heap.size ≤ x)

set_option maxRecDepth 100000 in
set_option maxHeartbeats 4000000 in
theorem read_dats (s : ByteArray) (hs : s.size ≤ 1048576) (w : World) (ht : PowTab w) (hv : ErrVars w) :
    Calls Tryd.prog 31 #[.string s] w (DatsSay w (readP s)) := by
  have HTK : Hid (Calls Tryd.prog 7 #[.string s] w fun e w' => ∃ lv, e = .returned (.tuple #[lv, .int .i64 (toks s).2]) ∧ Below w.heap.size w w' ∧ w'.ownsRow w.heap.size 44 4 lv (toks s).1.length (rows (toks s).1)) := impl_tokens s hs w ht hv
  clear ht hv
  by_cases hb : (toks s).2 = -1
  · have h4 : s.size ≤ 4000 := by
      by_cases h : s.size ≤ 4000
      · exact h
      · rw [toks_long s h] at hb; simp at hb
    have hg := (toks_good s).2.1
    have HP : Hid (readP s = match readL s.size (toks s).1 with | .bad p => .bad p | .ok ds _ => if datsB ds.length (kidsOf ds) = true then .ok ds [] else .bad 0) := by
      show _ = _
      unfold readP; rw [if_pos hb]
      rfl
    have HOK : Hid (TokOk (toks s).1 ∧ TokW (toks s).1) := ⟨toks_ok s h4, toks_w s⟩
    rw [hb] at HTK
    generalize readP s = res at *
    generalize (toks s).1 = ts at *
    clear hb
    go_enter Tryd.func31, Tryd.ntmps31
    go_wp2_with fail
    refine HTK.out.mono ?_
    rintro e w1 ⟨lv, rfl, hb1, ho1⟩
    have htc := TokCells.of_own ho1
    have hsh : ∃ p cap, lv = .slice p ts.length cap := by
      rcases htc with ⟨h, rfl⟩ | ⟨g, cap, h, _⟩
      · exact ⟨_, _, h⟩
      · exact ⟨_, _, h⟩
    obtain ⟨pt, ct, rfl⟩ := hsh
    have HB1 : Hid (Below w.heap.size w w1 ∧ TokCells w1 (.slice pt ts.length ct) ts) := ⟨hb1, htc⟩
    have HRD : Hid (RdAt (w1.alloc (.cells #[.slice pt ts.length ct, .int .i64 0, .int .i64 s.size] 82)) w1.heap.size (.slice pt ts.length ct) 0 s.size) := heap_alloc_new w1 _
    have hw1 := hb1.size
    clear hb1 ho1 htc
    go_wp2_with fail
    refine (read_rest w1 w1.heap.size (Nat.le_refl _) _ ts s.size HB1.out.2 hg HOK.out.1 _ (newb w1 _) HRD.out).mono ?_
    rintro e w2 ⟨hf2, hm⟩
    have HF2 : Hid (Below w.heap.size w w2) := by
      have h1 := HB1.out.1.trans ((newb w1 (.cells #[.slice pt ts.length ct, .int .i64 0, .int .i64 s.size] 82)).mono hw1)
      exact hf2.below0 h1 hw1
    have hsz2 := hf2.size
    clear hf2
    cases hr : readL s.size ts with
    | bad p =>
      rw [hr] at hm
      have HQ : Hid (res = .bad p) := HP.out.trans (by rw [hr])
      simp only at hm
      subst hm
      clear HP
      go_wp2_with fail
      rw [HQ.out]
      exact ⟨rfl, HF2.out, rfl⟩
    | ok ds r =>
      rw [hr] at hm
      simp only at hm
      obtain ⟨v, T, rfl, hso, hTn, hTB⟩ := hm
      have hwt := readL_w _ ts ds r HOK.out.2 hg hr
      have HS : Hid (SOwn w2 ds.length (kidsOf ds) v T ∧ T.Nodup ∧ (∀ x ∈ T, w.heap.size ≤ x)) := ⟨hso, hTn, fun x hx => by have h1 := hTB x hx; simp at h1; omega⟩
      have HP2 : Hid (res = if datsB ds.length (kidsOf ds) = true then .ok ds [] else .bad 0) := HP.out.trans (by rw [hr])
      have HDT : Hid (Calls Tryd.prog 49 #[v] w2 fun e w' => e = .returned (.bool (datsB ds.length (kidsOf ds))) ∧ Below w2.heap.size w2 w') := impl_dats ds.length (kidsOf ds) w2 v hso.sl (by omega)
      clear hso hTn hTB HP hr hsz2
      cases hd : datsB ds.length (kidsOf ds) with
      | true =>
        rw [hd] at HDT HP2
        have HQ : Hid (res = .ok ds []) := HP2.out.trans (by rw [if_pos rfl])
        clear hd HP2
        go_wp2_with fail
        refine HDT.out.mono ?_
        rintro e w3 ⟨rfl, hb3⟩
        have HX : Hid (Below w.heap.size w w3 ∧ SOwn w3 ds.length (kidsOf ds) v T) := ⟨HF2.out.trans (hb3.mono HF2.out.size), HS.out.1.same (fun x hx => hb3.block x (HS.out.1.lt x hx))⟩
        clear hb3
        go_wp2_with fail
        go_ret
        rw [HQ.out]
        exact ⟨HX.out.1, v, T, rfl, HX.out.2, HS.out.2.1, HS.out.2.2⟩
      | false =>
        rw [hd] at HDT HP2
        have HQ : Hid (res = .bad 0) := HP2.out.trans (by rw [if_neg (by simp)])
        clear hd HP2
        go_wp2_with fail
        refine HDT.out.mono ?_
        rintro e w3 ⟨rfl, hb3⟩
        have HX : Hid (Below w.heap.size w w3) := HF2.out.trans (hb3.mono HF2.out.size)
        clear hb3
        go_wp2_with fail
        rw [HQ.out]
        exact ⟨rfl, HX.out, rfl⟩
  · have HQ : Hid (readP s = .bad (toks s).2) := by
      show _ = _
      unfold readP; rw [if_neg hb]
    have hne : ((toks s).2 != -1) = true := by simpa using hb
    generalize (toks s).2 = z at *
    generalize (toks s).1 = ts at *
    generalize readP s = res at *
    have hne2 : (z == -1) = false := by simpa using hb
    clear hb
    go_enter Tryd.func31, Tryd.ntmps31
    go_wp2_with fail
    refine HTK.out.mono ?_
    rintro e w1 ⟨lv, rfl, hb1, -⟩
    have HX : Hid (Below w.heap.size w w1) := hb1
    clear hb1
    go_wp2_with fail
    rw [HQ.out]
    exact ⟨rfl, HX.out, rfl⟩
end Go.Proofs.YtafpbcdgcgffeajDoor

/- impl.ReadAll's deferred closure: with a misfit it lays the place, else nothing. No conditions. -/
namespace Go.Proofs.YtafpbcdgcgffeajDoor
open Go.ChangeShapes Go.WideShapes Go.ChangeAt Go.RowKit

theorem assert_yes (W : World) (v : Value) : (Instr.typeAssert (.iface 59 v) 20 59 true).run Tryd.prog W = .ok (.tuple #[v, .bool true]) W := by kernel_rfl
theorem assert_no (W : World) : (Instr.typeAssert .nilIface 20 59 true).run Tryd.prog W = .ok (.tuple #[.int .i64 0, .bool false]) W := by kernel_rfl

set_option maxRecDepth 100000 in
set_option maxHeartbeats 2000000 in
theorem door_panics (a b : Nat) (x y : Value) (p : Int) (older : List PanicEntry) (w : World) (ha : w.cell? ⟨a, 0, none⟩ = some x) (hb : w.cell? ⟨b, 0, none⟩ = some y) (hab : a ≠ b) (hfa : w.frozen? ⟨a, 0, none⟩ = false) (hfb : w.frozen? ⟨b, 0, none⟩ = false) :
    CallsD Tryd.prog 30 #[.pointer (some ⟨a, 0, none⟩), .pointer (some ⟨b, 0, none⟩)] (.panicking ({ v := .iface 59 (.int .i64 p), recovered := false } :: older)) w fun e u' w' =>
      e = .returned (.tuple #[]) ∧ u' = .panicking ({ v := .iface 59 (.int .i64 p), recovered := true } :: older) ∧ w' = (w.setCell ⟨a, 0, none⟩ (.slice none 0 0)).setCell ⟨b, 0, none⟩ (.int .i64 p) := by
  refine callsD_of_wpS Tryd.func30 rfl fun c₀ cs hu => ?_
  apply wpS_seq
  apply wpS_region
  simp [wpOpsS, go_sem, recoverD, hu, Tryd.ntmps30, Exit.thenS, assert_yes, Array.replicate]
  apply wpS_seq
  apply wpS_region
  simp [wpOpsS, go_sem, Exit.thenS]
  refine wpS_cond (t := true) (by simp [Act.eval]) ?_
  simp only [if_true]
  apply wpS_region
  have hba : (⟨b, 0, none⟩ : Addr) ≠ ⟨a, 0, none⟩ := by intro e; injection e with e; exact hab e.symm
  have hb2 : (w.setCell ⟨a, 0, none⟩ (.slice none 0 0)).cell? ⟨b, 0, none⟩ = some y := (World.cell?_of_block (w := w) (Below.heap_setCell w ⟨a, 0, none⟩ _ b (fun e => hab e.symm))).trans hb
  have hf2 : (w.setCell ⟨a, 0, none⟩ (.slice none 0 0)).frozen? ⟨b, 0, none⟩ = false := (World.frozen?_of_block (w := w) (Below.heap_setCell w ⟨a, 0, none⟩ _ b (fun e => hab e.symm))).trans hfb
  simp [wpOpsS, go_sem, ha, hfa, hb2, hf2, bodyPostS, results, Tryd.results30]

set_option maxRecDepth 100000 in
set_option maxHeartbeats 2000000 in
theorem door_idle (a b : Nat) (w : World) :
    CallsD Tryd.prog 30 #[.pointer (some ⟨a, 0, none⟩), .pointer (some ⟨b, 0, none⟩)] .returning w fun e u' w' => e = .returned (.tuple #[]) ∧ u' = .returning ∧ w' = w := by
  refine callsD_of_wpS Tryd.func30 rfl fun c₀ cs hu => ?_
  apply wpS_seq
  apply wpS_region
  simp [wpOpsS, go_sem, recoverD, hu, Tryd.ntmps30, Exit.thenS, assert_no, Array.replicate]
  apply wpS_seq
  apply wpS_region
  simp [wpOpsS, go_sem, Exit.thenS]
  refine wpS_cond (t := false) (by simp [Act.eval]) ?_
  simp only [Bool.false_eq_true, if_false]
  refine wpS_of_wp (wp_skip ?_)
  cases c₀
  simp_all [bodyPostS, results, Tryd.results30]
end Go.Proofs.YtafpbcdgcgffeajDoor

/- spec.DatsOk. Condition: at most 2^40 data. -/
namespace Go.Proofs.YtafpbcdgcgffeajDoor
open Go.ChangeShapes Go.WideShapes Go.ChangeAt Go.RowKit

set_option maxRecDepth 100000 in
set_option maxHeartbeats 4000000 in
theorem spec_dats (len : Nat) (kid : Nat → D) (w : World) (v : Value) (hv : Sl w len kid v) (hc : sumTo (fun i => (kid i).count) len ≤ 1099511627776) :
    Calls Tryd.prog 29 #[v] w fun e w' => e = .returned (.bool (datsB len kid)) ∧ Below w.heap.size w w' := by
  obtain ⟨p, cap, rfl, hlen, hat⟩ := hv.at
  have HC : Hid (∀ i, i < len → ∃ b o u, p = some ⟨b, o, none⟩ ∧ Head w b (o + i * 5) (kid i) u ∧ (kid i).In w u) := hat
  have HRE : Hid (datsB len kid = (allTo (fun i => decide ((kid i).deep ≤ 20) && rightB (kid i)) len && decide (sumTo (fun i => (kid i).count) len ≤ 1500))) := rfl
  have HSC : Hid (sumTo (fun i => (kid i).count) len ≤ 1099511627776) := hc
  generalize datsB len kid = R at *
  clear hat hv hc
  unfold maxLen at hlen
  go_enter Tryd.func29, Tryd.ntmps29
  go_wp2_with fail
  go_loopw [3, 4] (fun x i wr => ∃ k c : Nat, i = .int .i64 k ∧ x = .int .i64 c ∧ k ≤ len ∧ c = sumTo (fun i => (kid i).count) k ∧ allTo (fun i => decide ((kid i).deep ≤ 20) && rightB (kid i)) k = true ∧ Below w.heap.size w wr) (fun _ i _ => len - (intOf i).toNat)
  case atStart => exact ⟨0, 0, rfl, rfl, Nat.zero_le _, rfl, rfl, Below.refl _ _⟩
  case round =>
    obtain ⟨k, c, rfl, rfl, hk, hcc, hall, hbel⟩ := hrel
    have HBL : Hid (Below w.heap.size w wr) := hbel
    have HS : Hid (c = sumTo (fun i => (kid i).count) k) := hcc
    have HA : Hid (allTo (fun i => decide ((kid i).deep ≤ 20) && rightB (kid i)) k = true) := hall
    clear hbel hcc hall
    by_cases hlt : (k : Int) < len
    · have hlt' : k < len := by omega
      obtain ⟨b, o, u, hp, hd, hin⟩ := HC.out k hlt'
      subst hp
      obtain ⟨c0, c1, c2, c3, c4⟩ := hd.below HBL.out
      have HI : Hid ((kid k).In wr u) := hin.below HBL.out
      have HH : Hid (Head w b (o + k * 5) (kid k) u) := hd
      have hsum : c + (kid k).count ≤ 1099511627776 := by
        have h1 := sumTo_at (fun i => (kid i).count) k len hlt'
        have h2 := HS.out
        have h3 := HSC.out
        omega
      have hck : (kid k).count ≤ 1099511627776 := by omega
      have HNS : Hid (c + (kid k).count = sumTo (fun i => (kid i).count) (k + 1)) := by
        show _ = _
        rw [HS.out]; rfl
      clear hd hin
      go_wp2_with fail
      refine (spec_size (kid k) wr u HI.out hck).mono ?_
      rintro e w1 ⟨rfl, hb1⟩
      have HB1 : Hid (Below w.heap.size w w1) := HBL.out.trans (hb1.mono HBL.out.size)
      have HI1 : Hid ((kid k).In w1 u) := HI.out.below hb1
      clear hb1 c0 c1 c2 c3 c4 HI HBL
      obtain ⟨c0, c1, c2, c3, c4⟩ := HH.out.below HB1.out
      go_wp2_with fail
      refine (spec_deep (kid k) w1 u HI1.out hck).mono ?_
      rintro e w2 ⟨rfl, hb2⟩
      have HB2 : Hid (Below w.heap.size w w2) := HB1.out.trans (hb2.mono HB1.out.size)
      have HI2 : Hid ((kid k).In w2 u) := HI1.out.below hb2
      clear hb2 c0 c1 c2 c3 c4 HI1 HB1
      obtain ⟨c0, c1, c2, c3, c4⟩ := HH.out.below HB2.out
      by_cases hdp : (20 : Int) < (kid k).deep
      · have HN : Hid (R = false) := HRE.out.trans (by rw [allTo_false hlt' (by rw [decide_eq_false (by omega)]; rfl)]; rfl)
        clear HRE
        go_wp2_with fail
        go_ret
        exact ⟨ret_bool HN.out.symm, HB2.out⟩
      · have hd20 : decide ((kid k).deep ≤ 20) = true := decide_eq_true (by omega)
        cases hr : rightB (kid k) with
        | true =>
          have HN : Hid (allTo (fun i => decide ((kid i).deep ≤ 20) && rightB (kid i)) (k + 1) = true) := by
            show _ = _
            simp only [allTo, HA.out, hr, hd20, Bool.and_self]
          have HRK : Hid (rightB (kid k) = true) := hr
          clear hr hd20
          go_wp2_with fail
          refine (spec_right (kid k) w2 u HI2.out).mono ?_
          rintro e w3 ⟨rfl, hb3⟩
          rw [HRK.out]
          have HB3 : Hid (Below w.heap.size w w3) := HB2.out.trans (hb3.mono HB2.out.size)
          clear hb3 c0 c1 c2 c3 c4
          go_wp2_with fail
          go_roundw
          case rel => exact ⟨k + 1, c + (kid k).count, by go_num, by go_num, by omega, HNS.out, HN.out, HB3.out⟩
          case measure => simp [intOf]; omega
        | false =>
          have HN : Hid (R = false) := HRE.out.trans (by rw [allTo_false hlt' (by rw [hr, Bool.and_false])]; rfl)
          have HRK : Hid (rightB (kid k) = false) := hr
          clear hr hd20 HRE
          go_wp2_with fail
          refine (spec_right (kid k) w2 u HI2.out).mono ?_
          rintro e w3 ⟨rfl, hb3⟩
          rw [HRK.out]
          have HB3 : Hid (Below w.heap.size w w3) := HB2.out.trans (hb3.mono HB2.out.size)
          clear hb3 c0 c1 c2 c3 c4
          go_wp2_with fail
          go_ret
          exact ⟨ret_bool HN.out.symm, HB3.out⟩
    · have hke : k = len := by omega
      have HR : Hid (R = decide ((c : Int) ≤ 1500)) := HRE.out.trans (by
        rw [← hke, HA.out, Bool.true_and, ← HS.out]
        by_cases h : c ≤ 1500
        · rw [decide_eq_true h, decide_eq_true (by omega)]
        · rw [decide_eq_false h, decide_eq_false (by omega)])
      go_wp2_with fail
      go_ret
      exact ⟨ret_bool HR.out.symm, HBL.out⟩
end Go.Proofs.YtafpbcdgcgffeajDoor

/- spec.ReadAll. Conditions: the text is no longer than a text may be. -/
namespace Go.Proofs.YtafpbcdgcgffeajDoor
open Go.ChangeShapes Go.WideShapes Go.ChangeAt Go.RowKit

theorem sone_all (w0 : World) (C : Nat) (hC0 : w0.heap.size ≤ C) (tv : Value) (ts : List Tok) (E : Nat) (htv : TokCells w0 tv ts) (hts : ts.length ≤ 4000) (hok : TokOk ts) (f : Nat) : SOneAt w0 C tv ts E f := by
  have hend : ∀ (f : Nat) (w : World), CuAt w C tv ts.length E (-1) → Calls Tryd.prog 28 #[.pointer (some ⟨C, 0, none⟩)] w (SOneSay w C tv ts E (one E (f + 1) (ts.drop ts.length))) := by
    intro f w hcu
    have hsh : ∃ p cap, tv = .slice p ts.length cap := by
      rcases htv with ⟨h, rfl⟩ | ⟨g, cap, h, _⟩
      · exact ⟨_, _, h⟩
      · exact ⟨_, _, h⟩
    obtain ⟨pt, ct, rfl⟩ := hsh
    refine (sone_end w C pt ts.length ct E hcu).mono ?_
    rintro e w' ⟨h1, h2, h3⟩
    have he : one E (f + 1) (ts.drop ts.length) = .bad E := by simp [one]
    rw [he]
    exact ⟨h2, h1, by omega, _, h3⟩
  induction f with
  | zero =>
    intro w i _ hcu hi hf
    obtain rfl : i = ts.length := by omega
    exact hend 0 w hcu
  | succ f ih =>
    intro w i hbel hcu hi hf
    by_cases hie : i = ts.length
    · subst hie
      exact hend (f + 1) w hcu
    · have hil : i < ts.length := by omega
      obtain ⟨g, cap, rfl, t0, t1, t2, t3⟩ := tok_at (htv.below hbel) i hil
      have hdrop : ts.drop i = ts[i] :: ts.drop (i + 1) := List.drop_eq_getElem_cons hil
      have htk := hok ts[i] (List.getElem_mem hil)
      have hone : one E (f + 1 + 1) (ts.drop i) = if ts[i].kind = 3 then .ok (dNum ts[i]) (ts.drop (i + 1)) else if ts[i].kind = 4 then .ok (dSym ts[i]) (ts.drop (i + 1)) else if ts[i].kind = 2 then .bad ts[i].at_
        else match kidsL E (one E (f + 1)) ((ts.drop (i + 1)).length + 1) [] (ts.drop (i + 1)) with
          | .bad p => .bad p
          | .ok ds r1 => .ok (dList ts[i] ds) r1 := by rw [hdrop]; rfl
      by_cases h1 : ts[i].kind = 1
      · refine sone_list w0 C hC0 ts g cap E f htv hts ih w i hbel hcu hil hf ts[i] h1 t0 t1 t2 t3 _ ?_
        rw [hone, if_neg (by omega), if_neg (by omega), if_neg (by omega)]
        rfl
      · refine sone_flat w C ts g cap E i ts[i] hcu hts hil htk.2 t0 t1 t2 t3 (by have := htk.1; omega) _ ?_
        rw [hone]
        by_cases h3 : ts[i].kind = 3
        · rw [if_pos h3, if_pos h3]
        · rw [if_neg h3, if_neg h3]
          by_cases h4 : ts[i].kind = 4
          · rw [if_pos h4, if_pos h4]
          · rw [if_neg h4, if_neg h4, if_pos (by have := htk.1; omega)]

def SAllSay (w : World) (res : Rdr (List D)) (e : Ending) (w' : World) : Prop :=
  Below w.heap.size w w' ∧ match res with
    | .bad p => ∃ q c, e = .returned (.tuple #[.slice q 0 c, .int .i64 p])
    | .ok ds _ => ∃ v, e = .returned (.tuple #[v, .int .i64 (-1)]) ∧ Sl w' ds.length (kidsOf ds) v ∧ (ds ≠ [] → ∃ S, SOwn w' ds.length (kidsOf ds) v S ∧ S.Nodup ∧ ∀ x ∈ S, w.heap.size ≤ x)

theorem Acc.empty (w : World) (B : Nat) (hB : B ≤ w.heap.size) : Acc B (w.alloc (.cells #[] 39)) [] (.slice (some ⟨w.heap.size, 0, none⟩) 0 0) [] [] := by
  refine ⟨?_, rfl, rfl, fun i hi => by simp at hi, by simp, fun g h => ?_, fun x hx => by simp at hx⟩
  · have hq := World.ownsRow_lit (base := 0) (e := 39) (size := 5) w #[] 0 (by simp) (by unfold maxLen; omega) (by simp)
    exact hq
  · simp [Value.ownBlock] at h
    subst h
    exact ⟨by simp, hB⟩

theorem Acc.shape {B : Nat} {w : World} {acc : List D} {lv : Value} {la : List (D × Value)} {SS : List (List Nat)} (h : Acc B w acc lv la SS) : ∃ p c, lv = .slice p acc.length c := by
  rcases h.own.2 with ⟨h1, h2⟩ | ⟨g, cap, cur, h1, _⟩
  · exact ⟨_, _, by rw [h1, h2]⟩
  · exact ⟨_, _, h1⟩

theorem Acc.sl' {B : Nat} {w : World} {acc : List D} {lv : Value} {la : List (D × Value)} {SS : List (List Nat)} (h : Acc B w acc lv la SS) : Sl w acc.length (kidsOf acc) lv := by
  by_cases ha : acc = []
  · obtain ⟨p, c, e⟩ := h.shape
    subst ha
    exact .inl ⟨rfl, p, c, e⟩
  · obtain ⟨S, hS, _⟩ := h.sown (.inr ha)
    exact hS.sl

/-- What the loop keeps. -/
def SALoop (w1 wr : World) (C : Nat) (tv : Value) (ts : List Tok) (E k : Nat) (lv : Value) (res : Rdr (List D)) : Prop :=
  Below w1.heap.size w1 wr ∧ w1.heap.size + 1 ≤ wr.heap.size ∧ C = w1.heap.size ∧
    ((∃ acc j m, k = m + 1 ∧ CuAt wr C tv (j : Nat) E (-1) ∧ (∃ la SS, Acc (w1.heap.size + 1) wr acc lv la SS) ∧ j ≤ ts.length ∧ restL (one E (ts.length + 1)) (m + 1) acc (ts.drop j) = res ∧ ts.length - j ≤ m ∧ acc.length + (ts.length - j) ≤ ts.length)
     ∨ (k = 0 ∧ ∃ p z, res = .bad p ∧ 0 ≤ p ∧ CuAt wr C tv z E p))

theorem counts_le (len : Nat) (kid : Nat → D) : sumTo (fun i => (kid i).count) len ≤ kidsWeight len kid := by
  unfold kidsWeight
  induction len with
  | zero => simp [sumTo]
  | succ n ih =>
    have := (kid n).count_weight
    simp only [sumTo]
    omega
end Go.Proofs.YtafpbcdgcgffeajDoor

/- spec.ReadAll. Conditions: the text is no longer than a text may be. -/
namespace Go.Proofs.YtafpbcdgcgffeajDoor
open Go.ChangeShapes Go.WideShapes Go.ChangeAt Go.RowKit

/-- Behind an append. -/
theorem all_next {w1 w2 w3 : World} {C E : Nat} {tv lv : Value} {z b : Int} {o o' : Obj} (hC : C = w1.heap.size) (hbl : Below w1.heap.size w1 w2) (hsz : w1.heap.size + 1 ≤ w2.heap.size) (hcu : CuAt w2 C tv z E b)
    (hg : ((w2.alloc o).alloc o').grownBy w3 lv.ownBlock) (hB : ∀ x, lv.ownBlock = some x → w1.heap.size + 1 ≤ x) :
    Below w1.heap.size w1 w3 ∧ w1.heap.size + 1 ≤ w3.heap.size ∧ CuAt w3 C tv z E b := by
  have hs1 : ((w2.alloc o).alloc o').heap.size = w2.heap.size + 2 := by simp
  have hgs := hg.size
  rw [hs1] at hgs
  have keep : ∀ x, x < w1.heap.size + 1 → w3.heap[x]? = w2.heap[x]? := fun x hx =>
    (hg.block x (by omega) (fun e => by have := hB x e.symm; omega)).trans ((Below.heap_alloc (w2.alloc o) o' x (by simp; omega)).trans (Below.heap_alloc w2 o x (by omega)))
  exact ⟨⟨hg.os.trans hbl.os, hg.tape.trans hbl.tape, hg.output.trans hbl.output, by omega, fun x hx => (keep x (by omega)).trans (hbl.block x hx)⟩, by omega, (keep C (by omega)).trans hcu⟩

set_option maxRecDepth 100000 in
set_option maxHeartbeats 4000000 in
theorem spec_all (s : ByteArray) (hs : s.size ≤ 1048576) (w : World) : Calls Tryd.prog 11 #[.string s] w (SAllSay w (readP s)) := by
  obtain ⟨i0, hin, hz0, hz1, hz2⟩ := info_parts dat_info2
  have HTK : Hid (∀ w, Calls Tryd.prog 6 #[.string s] w fun e w' => ∃ lv, e = .returned (.tuple #[lv, .int .i64 (toks s).2]) ∧ Below w.heap.size w w' ∧ w'.ownsRow w.heap.size 44 4 lv (toks s).1.length (rows (toks s).1)) := fun w => spec_tokens s (by unfold maxLen; omega) w
  by_cases hb : (toks s).2 = -1
  · have h4 : s.size ≤ 4000 := by
      by_cases h : s.size ≤ 4000
      · exact h
      · rw [toks_long s h] at hb; simp at hb
    have hg := (toks_good s).2.1
    have HP : Hid (readP s = match readL s.size (toks s).1 with | .bad p => .bad p | .ok ds _ => if datsB ds.length (kidsOf ds) = true then .ok ds [] else .bad 0) := by
      show _ = _
      unfold readP; rw [if_pos hb]
      rfl
    have HOK : Hid (TokOk (toks s).1 ∧ TokW (toks s).1) := ⟨toks_ok s h4, toks_w s⟩
    rw [hb] at HTK
    generalize readP s = res at *
    generalize (toks s).1 = ts at *
    clear hb
    go_enter Tryd.func11, Tryd.ntmps11
    go_wp2_with fail
    refine (HTK.out _).mono ?_
    rintro e w1 ⟨lv, rfl, hb1, ho1⟩
    have htc := TokCells.of_own ho1
    have hsh : ∃ p cap, lv = .slice p ts.length cap := by
      rcases htc with ⟨h, rfl⟩ | ⟨g, cap, h, _⟩
      · exact ⟨_, _, h⟩
      · exact ⟨_, _, h⟩
    obtain ⟨pt, ct, rfl⟩ := hsh
    have HB1 : Hid (Below w.heap.size w w1) := (newb w _).trans (hb1.mono (by simp))
    have HT1 : Hid (TokCells w1 (.slice pt ts.length ct) ts) := htc
    clear hb1 ho1 htc HTK
    have HONE : Hid (SOneAt w1 w1.heap.size (.slice pt ts.length ct) ts s.size ts.length) := sone_all w1 w1.heap.size (Nat.le_refl _) _ ts s.size HT1.out hg HOK.out.1 _
    have HCU : Hid (CuAt (w1.alloc (.cells #[.slice pt ts.length ct, .int .i64 0, .int .i64 s.size, .int .i64 (-1)] 56)) w1.heap.size (.slice pt ts.length ct) (0 : Nat) s.size (-1)) := heap_alloc_new w1 _
    go_wp2_with fail
    have hs1 : (w1.alloc (.cells #[.slice pt ts.length ct, .int .i64 0, .int .i64 s.size, .int .i64 (-1)] 56)).heap.size = w1.heap.size + 1 := by simp
    have H0 : Hid (SALoop w1 ((w1.alloc (.cells #[.slice pt ts.length ct, .int .i64 0, .int .i64 s.size, .int .i64 (-1)] 56)).alloc (.cells #[] 39)) w1.heap.size (.slice pt ts.length ct) ts s.size (ts.length + 1) (.slice (some ⟨w1.heap.size + 1, 0, none⟩) 0 0) (readL s.size ts)) := by
      have ha := Acc.empty (w1.alloc (.cells #[.slice pt ts.length ct, .int .i64 0, .int .i64 s.size, .int .i64 (-1)] 56)) (w1.heap.size + 1) (by omega)
      rw [hs1] at ha
      exact ⟨(newb w1 _).trans ((newb _ _).mono (by omega)), by simp, rfl, .inl ⟨[], 0, ts.length, rfl, HCU.out.below (newb _ _), ⟨_, _, ha⟩, Nat.zero_le _, rfl, by omega, by simp⟩⟩
    clear hs1 HCU HT1
    go_loopg [8] (ts.length + 1) (fun k lv wr => SALoop w1 wr w1.heap.size (.slice pt ts.length ct) ts s.size k lv (readL s.size ts))
    case atStart => exact H0.out
    case round =>
      obtain ⟨hbl, hsz, -, hcase⟩ := hrel
      have HBL : Hid (Below w1.heap.size w1 wr) := hbl
      clear hbl H0
      rcases hcase with ⟨acc, j, m, hkm, hcu, ⟨la, SS, hacc⟩, hjle, heq, hfuel, hfew⟩ | ⟨hk0, p, z, hkp, hp0, hcu⟩
      · have HCU : Hid (CuAt wr w1.heap.size (.slice pt ts.length ct) (j : Nat) s.size (-1)) := hcu
        have c1 := hcu.c1; have c3 := hcu.c3
        have HACC : Hid (Acc (w1.heap.size + 1) wr acc u8 la SS) := hacc
        clear hcu hacc
        by_cases hje : j = ts.length
        · have HR : Hid (readL s.size ts = .ok acc []) := by
            show _ = _
            rw [← heq, hje]
            simp [restL]
          have hwt := readL_w _ ts acc [] HOK.out.2 hg HR.out
          have hcn := counts_le acc.length (kidsOf acc)
          have HDT : Hid (Calls Tryd.prog 29 #[u8] wr fun e w' => e = .returned (.bool (datsB acc.length (kidsOf acc))) ∧ Below wr.heap.size wr w') := spec_dats acc.length (kidsOf acc) wr u8 HACC.out.sl' (by omega)
          have HSL : Hid (Sl wr acc.length (kidsOf acc) u8) := HACC.out.sl'
          have HSO : Hid (acc ≠ [] → ∃ S, SOwn wr acc.length (kidsOf acc) u8 S ∧ S.Nodup ∧ ∀ x ∈ S, w.heap.size ≤ x) := fun ha => by
            obtain ⟨S, h1, h2, h3⟩ := HACC.out.sown (.inr ha)
            exact ⟨S, h1, h2, fun x hx => by have := h3 x hx; have := HB1.out.size; omega⟩
          have HP2 : Hid (res = if datsB acc.length (kidsOf acc) = true then .ok acc [] else .bad 0) := HP.out.trans (by rw [HR.out])
          have HBW : Hid (Below w.heap.size w wr) := HB1.out.trans (HBL.out.mono HB1.out.size)
          clear hwt hcn HP HR heq HACC HCU
          subst hje
          cases hd : datsB acc.length (kidsOf acc) with
          | true =>
            rw [hd] at HDT HP2
            have HQ : Hid (res = .ok acc []) := HP2.out.trans (by rw [if_pos rfl])
            clear hd HP2
            go_wp2_with fail
            refine HDT.out.mono ?_
            rintro e w3 ⟨rfl, hb3⟩
            have HX : Hid (Below w.heap.size w w3 ∧ Sl w3 acc.length (kidsOf acc) u8 ∧ (acc ≠ [] → ∃ S, SOwn w3 acc.length (kidsOf acc) u8 S ∧ S.Nodup ∧ ∀ x ∈ S, w.heap.size ≤ x)) := ⟨HBW.out.trans (hb3.mono HBW.out.size), HSL.out.below hb3, fun ha => by
              obtain ⟨S, h1, h2, h3⟩ := HSO.out ha
              exact ⟨S, h1.same (fun x hx => hb3.block x (h1.lt x hx)), h2, h3⟩⟩
            clear hb3
            go_wp2_with fail
            go_ret2
            rw [HQ.out]
            exact ⟨HX.out.1, _, rfl, HX.out.2⟩
          | false =>
            rw [hd] at HDT HP2
            have HQ : Hid (res = .bad 0) := HP2.out.trans (by rw [if_neg (by simp)])
            clear hd HP2
            go_wp2_with fail
            refine HDT.out.mono ?_
            rintro e w3 ⟨rfl, hb3⟩
            have HX : Hid (Below w.heap.size w w3) := HBW.out.trans (hb3.mono HBW.out.size)
            clear hb3
            go_wp2_with fail
            go_ret2
            rw [HQ.out]
            exact ⟨HX.out, _, _, rfl⟩
        · have hjl : j < ts.length := by omega
          have hjd : ((j : Int) < (ts.length : Int)) := by omega
          have hjd1 : decide ((j : Int) < (ts.length : Int)) = true := decide_eq_true hjd
          have heq2 : (match one s.size (ts.length + 1) (ts.drop j) with | .bad p => (.bad p : Rdr (List D)) | .ok d r1 => restL (one s.size (ts.length + 1)) m (acc ++ [d]) r1) = readL s.size ts := by
            rw [← heq, List.drop_eq_getElem_cons hjl]
            rfl
          have HEQ : Hid ((match one s.size (ts.length + 1) (ts.drop j) with | .bad p => (.bad p : Rdr (List D)) | .ok d r1 => restL (one s.size (ts.length + 1)) m (acc ++ [d]) r1) = readL s.size ts) := heq2
          have HJ : Hid (ts.length - j ≤ m ∧ acc.length + (ts.length - j) ≤ ts.length ∧ j ≤ ts.length) := ⟨hfuel, hfew, hjle⟩
          clear heq heq2 hfuel hfew
          go_wp2_with fail
          refine (HONE.out wr j HBL.out HCU.out HJ.out.2.2 (by omega)).mono ?_
          rintro e w2 ⟨hf2, hm⟩
          have hsz2 : w1.heap.size + 1 ≤ w2.heap.size := by have := hf2.size; omega
          have hbl2 : Below w1.heap.size w1 w2 := hf2.below0 HBL.out (Nat.le_refl _)
          have hacc2 : Acc (w1.heap.size + 1) w2 acc u8 la SS := HACC.out.same (fun x h1 h2 => hf2.block x h2 (by simp only [List.mem_singleton]; omega))
          have hlB : ∀ x, u8.ownBlock = some x → w1.heap.size + 1 ≤ x := fun x e => (HACC.out.out x e).2
          have hfew : acc.length ≤ 4000 := by have := HJ.out; omega
          have HW : Hid (Below w1.heap.size w1 w2 ∧ Acc (w1.heap.size + 1) w2 acc u8 la SS) := ⟨hbl2, hacc2⟩
          clear hf2 hbl2 hacc2 c1 c3 HCU
          cases hres : one s.size (ts.length + 1) (ts.drop j) with
          | bad p =>
            rw [hres] at hm
            have HK : Hid (readL s.size ts = .bad p) := by
              have h := HEQ.out
              rw [hres] at h
              exact h.symm
            obtain ⟨⟨v, rfl, va, vb, vc, vs, vp, vl, vk, rfl⟩, hp0, z, hcu2⟩ := hm
            have HCU2 : Hid (CuAt w2 w1.heap.size (.slice pt ts.length ct) z s.size p) := hcu2
            clear hcu2 HEQ hres
            go_wp2_with (at_builtin; refine wpList_append_lies _ rfl _ _ 28 rfl 0 39 i0 _ 5 64 Tryd.underlying28 hin hz0 hz1 hz2 rfl (by decide) u8 acc.length (drows la) rfl ((HW.out.2.own.alloc _).alloc _) ⟨w2.heap.size + 1, 0, none⟩ 1 1 [.int .i64 va, .int .i64 vb, .int .i64 vc, .string vs, .slice vp vl vk] rfl rfl ?c1 ?c2 (by decide) ?c3 ?c4 (Nat.zero_le _) (w2.heap.size + 1 + 1) (by simp) ?_)
            case c1 =>
              have hn := heap_alloc_new (w2.alloc (.cells #[.int .i64 va, .int .i64 vb, .int .i64 vc, .string vs, .slice vp vl vk] 39)) (.cells #[.int .i64 va, .int .i64 vb, .int .i64 vc, .string vs, .slice vp vl vk] 39)
              rw [show (w2.alloc (.cells #[.int .i64 va, .int .i64 vb, .int .i64 vc, .string vs, .slice vp vl vk] 39)).heap.size = w2.heap.size + 1 from by simp] at hn
              exact World.news_of_block hn
            case c2 => simp [Value.oneCell']
            case c3 => unfold maxLen; omega
            case c4 => omega
            intro gg cap3 w3 hown3 hgrow hat hlt3
            obtain ⟨k1, k2, k3⟩ := all_next rfl HW.out.1 hsz2 HCU2.out hgrow hlB
            have HN : Hid (SALoop w1 w3 w1.heap.size (.slice pt ts.length ct) ts s.size 0 (.slice (some ⟨gg, 0, none⟩) (acc.length + 1) cap3) (readL s.size ts)) :=
              ⟨k1, k2, rfl, .inr ⟨rfl, p, z, HK.out, hp0, k3⟩⟩
            clear k1 k2 k3 hown3 hgrow hat hlt3 HW HK HCU2
            go_wp2_with fail
            go_roundg 0
            case measure => omega
            case rel => exact HN.out
          | ok d r =>
            rw [hres] at hm
            have hless := (one_less s.size (ts.length + 1) _ _ _ hres).1
            have HK : Hid (restL (one s.size (ts.length + 1)) m (acc ++ [d]) r = readL s.size ts) := by
              have h := HEQ.out
              rw [hres] at h
              exact h
            obtain ⟨v, T, i', rfl, hdo, hTn, hTB, rfl, hi', hcu2⟩ := hm
            rw [List.length_drop, List.length_drop] at hless
            have hgk : 1 ≤ m := by have := HJ.out; omega
            obtain ⟨pv, cv, ev⟩ := hdo.sown.sl.shape
            subst ev
            have HCU2 : Hid (CuAt w2 w1.heap.size (.slice pt ts.length ct) (i' : Nat) s.size (-1)) := hcu2
            have HD : Hid (DOwn w2 d (.slice pv d.len cv) T ∧ T.Nodup ∧ (∀ x ∈ T, wr.heap.size ≤ x)) := ⟨hdo, hTn, hTB⟩
            have HI : Hid (i' ≤ ts.length ∧ j < i') := ⟨hi', by omega⟩
            clear hcu2 HEQ hres hdo hTn hTB hless hi'
            go_wp2_with (at_builtin; refine wpList_append_lies _ rfl _ _ 28 rfl 0 39 i0 _ 5 64 Tryd.underlying28 hin hz0 hz1 hz2 rfl (by decide) u8 acc.length (drows la) rfl ((HW.out.2.own.alloc _).alloc _) ⟨w2.heap.size + 1, 0, none⟩ 1 1 [.int .i64 d.op, .int .i64 d.at_, .int .i64 d.n, .string d.s, .slice pv d.len cv] rfl rfl ?c1 ?c2 (by decide) ?c3 ?c4 (Nat.zero_le _) (w2.heap.size + 1 + 1) (by simp) ?_)
            case c1 =>
              have hn := heap_alloc_new (w2.alloc (.cells #[.int .i64 d.op, .int .i64 d.at_, .int .i64 d.n, .string d.s, .slice pv d.len cv] 39)) (.cells #[.int .i64 d.op, .int .i64 d.at_, .int .i64 d.n, .string d.s, .slice pv d.len cv] 39)
              rw [show (w2.alloc (.cells #[.int .i64 d.op, .int .i64 d.at_, .int .i64 d.n, .string d.s, .slice pv d.len cv] 39)).heap.size = w2.heap.size + 1 from by simp] at hn
              exact World.news_of_block hn
            case c2 => simp [Value.oneCell']
            case c3 => unfold maxLen; omega
            case c4 => omega
            intro gg cap3 w3 hown3 hgrow hat hlt3
            obtain ⟨k1, k2, k3⟩ := all_next rfl HW.out.1 hsz2 HCU2.out hgrow hlB
            have HN : Hid (SALoop w1 w3 w1.heap.size (.slice pt ts.length ct) ts s.size m (.slice (some ⟨gg, 0, none⟩) (acc.length + 1) cap3) (readL s.size ts)) := by
              obtain ⟨d1, d2, d3⟩ := HD.out
              have hb1 := newb w2 (.cells #[.int .i64 d.op, .int .i64 d.at_, .int .i64 d.n, .string d.s, .slice pv d.len cv] 39)
              have hss : (w2.alloc (.cells #[.int .i64 d.op, .int .i64 d.at_, .int .i64 d.n, .string d.s, .slice pv d.len cv] 39)).heap.size = w2.heap.size + 1 := by simp
              have a1 := HW.out.2.same (w' := w2.alloc (.cells #[.int .i64 d.op, .int .i64 d.at_, .int .i64 d.n, .string d.s, .slice pv d.len cv] 39)) (fun x _ hx => hb1.block x hx)
              have a2 := d1.same (w' := w2.alloc (.cells #[.int .i64 d.op, .int .i64 d.at_, .int .i64 d.n, .string d.s, .slice pv d.len cv] 39)) _ (fun x hx => hb1.block x (d1.there _ x hx))
              have a3 := a1.app a2 d2 (fun x hx h => by have h1 := HACC.out.lt x h; have h2 := d3 x hx; omega) (fun x hx h => by have h1 := (HACC.out.own.lt x h).2; have h2 := d3 x hx; omega) (fun x hx => by have h2 := d3 x hx; omega) (by rw [hss]; omega) hown3 hgrow (by rw [hss]; exact hat)
              have hJ := HJ.out
              have hI := HI.out
              exact ⟨k1, k2, rfl, .inl ⟨acc ++ [d], i', m - 1, by omega, k3, ⟨_, _, a3⟩, hI.1, by rw [show m - 1 + 1 = m from by omega]; exact HK.out, by omega, by rw [List.length_append, List.length_singleton]; omega⟩⟩
            clear k1 k2 k3 hown3 hgrow hat hlt3 HW HK HCU2 HD HI
            go_wp2_with fail
            go_roundg m
            case measure => omega
            case rel => exact HN.out
      · have c1 := hcu.c1; have c3 := hcu.c3
        have HQ : Hid (res = .bad p) := HP.out.trans (by rw [hkp])
        have HBW : Hid (Below w.heap.size w wr) := HB1.out.trans (HBL.out.mono HB1.out.size)
        have hp : decide (p < 0) = false := decide_eq_false (by omega)
        have hp2 : ¬ p < 0 := by omega
        clear hcu HP hkp
        go_wp2_with fail
        go_quiet (fail)
        all_goals
          go_wp2_with fail
          go_ret2
          rw [HQ.out]
          exact ⟨HBW.out.trans ⟨rfl, rfl, rfl, Nat.le_refl _, fun _ _ => rfl⟩, _, _, rfl⟩
  · have HQ : Hid (readP s = .bad (toks s).2) := by
      show _ = _
      unfold readP; rw [if_neg hb]
    have hz : 0 ≤ (toks s).2 := by rcases (toks_good s).2.2 with h | h <;> omega
    generalize (toks s).2 = z at *
    generalize (toks s).1 = ts at *
    generalize readP s = res at *
    clear hb
    go_enter Tryd.func11, Tryd.ntmps11
    go_wp2_with fail
    refine (HTK.out _).mono ?_
    rintro e w1 ⟨lv, rfl, hb1, -⟩
    have HX : Hid (Below w.heap.size w w1) := (newb w _).trans (hb1.mono (by simp))
    clear hb1
    go_wp2_with fail
    go_ret2
    rw [HQ.out]
    exact ⟨HX.out, _, _, rfl⟩
end Go.Proofs.YtafpbcdgcgffeajDoor

/- impl.ReadAll. Conditions: those of impl.Tokens. -/
namespace Go.Proofs.YtafpbcdgcgffeajDoor
open Go.ChangeShapes Go.WideShapes Go.ChangeAt Go.RowKit

theorem results_cells2 {fn : Func} {p q : Tmp} {ty tz : TypeId} (h : fn.results = #[.cell p ty, .cell q tz]) (tmps : Array Value) (P : Program) (w : World) :
    (results fn tmps).run P w = ((asAddr (tmps.getD p undef)).run P w).andThen fun a w₁ => ((loadVar ty a).run P w₁).andThen fun v w₂ => ((asAddr (tmps.getD q undef)).run P w₂).andThen fun b w₃ => ((loadVar tz b).run P w₃).andThen fun u w₄ => .ok (.tuple #[v, u]) w₄ := by
  simp only [results, h]
  simp [Sem.run_bind, Result.andThen]

def AllSay (w : World) (res : Rdr (List D)) (e : Ending) (w' : World) : Prop :=
  Below w.heap.size w w' ∧ match res with
    | .bad p => e = .returned (.tuple #[.slice none 0 0, .int .i64 p])
    | .ok ds _ => ∃ v T, e = .returned (.tuple #[v, .int .i64 (-1)]) ∧ SOwn w' ds.length (kidsOf ds) v T ∧ T.Nodup ∧ (∀ x ∈ T, w.heap.size ≤ x)

set_option maxRecDepth 100000 in
set_option maxHeartbeats 4000000 in
theorem read_all (s : ByteArray) (hs : s.size ≤ 1048576) (w : World) (ht : PowTab w) (hv : ErrVars w) :
    Calls Tryd.prog 12 #[.string s] w (AllSay w (readP s)) := by
  have hmf : ∀ (fn : Fn) (first cap : Array Value) (w : World), (Instr.makeFunc fn first cap).run Tryd.prog w = .ok (.func fn first cap) w := fun _ _ _ _ => rfl
  have HBB : Hid (∀ o1 o2, Below w.heap.size w ((w.alloc o1).alloc o2)) := fun o1 o2 => (newb w o1).trans ((newb _ o2).mono (by simp))
  have HRD : Hid (∀ w1, Below w.heap.size w w1 → Calls Tryd.prog 31 #[.string s] w1 (DatsSay w1 (readP s))) := fun w1 h => read_dats s hs w1 (ht.below h) (hv.below h)
  clear ht hv
  generalize readP s = res at *
  have hN0 : ((w.alloc (.cells #[.slice none 0 0] 28)).alloc (.cells #[.int .i64 0] 3)).heap[w.heap.size]? = some (.cells #[.slice none 0 0] 28 (0, 0)) := (Below.heap_alloc _ _ _ (by simp)).trans (heap_alloc_new w _)
  have hN1 : ((w.alloc (.cells #[.slice none 0 0] 28)).alloc (.cells #[.int .i64 0] 3)).heap[w.heap.size + 1]? = some (.cells #[.int .i64 0] 3 (0, 0)) := by
    have := heap_alloc_new (w.alloc (.cells #[.slice none 0 0] 28)) (.cells #[.int .i64 0] 3)
    simpa using this
  have HN : Hid (((w.alloc (.cells #[.slice none 0 0] 28)).alloc (.cells #[.int .i64 0] 3)).heap[w.heap.size]? = some (.cells #[.slice none 0 0] 28 (0, 0)) ∧ ((w.alloc (.cells #[.slice none 0 0] 28)).alloc (.cells #[.int .i64 0] 3)).heap[w.heap.size + 1]? = some (.cells #[.int .i64 0] 3 (0, 0))) := ⟨hN0, hN1⟩
  clear hN0 hN1
  go_enter_defers Tryd.func12, Tryd.ntmps12
  go_wp2_with fail
  refine (HRD.out _ (HBB.out _ _)).mono ?_
  rintro e w1 ⟨hb1, hm⟩
  have hz0 : w1.heap[w.heap.size]? = some (.cells #[.slice none 0 0] 28 (0, 0)) := (hb1.block _ (by simp; omega)).trans HN.out.1
  have hz1 : w1.heap[w.heap.size + 1]? = some (.cells #[.int .i64 0] 3 (0, 0)) := (hb1.block _ (by simp)).trans HN.out.2
  have c0 : w1.cell? ⟨w.heap.size, 0, none⟩ = some (.slice none 0 0) := cell_of_row w1 _ 0 _ _ _ hz0
  have c1 : w1.cell? ⟨w.heap.size + 1, 0, none⟩ = some (.int .i64 0) := cell_of_row w1 _ 0 _ _ _ hz1
  have f0 : w1.frozen? ⟨w.heap.size, 0, none⟩ = false := frozen_of_row w1 _ 0 _ _ hz0
  have f1 : w1.frozen? ⟨w.heap.size + 1, 0, none⟩ = false := frozen_of_row w1 _ 0 _ _ hz1
  have HB1 : Hid (Below w.heap.size w w1) := (HBB.out _ _).trans (hb1.mono (HBB.out _ _).size)
  have hsz : w.heap.size + 2 ≤ w1.heap.size := by have := hb1.size; simp at this; omega
  clear hb1 hz0 hz1 HN
  cases res with
  | bad p =>
    simp only at hm
    subst hm
    go_wp2_with fail
    refine leaves_cons (f := 30) (args := #[.pointer (some ⟨w.heap.size, 0, none⟩), .pointer (some ⟨w.heap.size + 1, 0, none⟩)]) (by simp) (by simp [go_sem]) ?_
    refine (door_panics w.heap.size (w.heap.size + 1) _ _ p [] w1 c0 c1 (by omega) f0 f1).mono ?_
    rintro e u' w'' ⟨rfl, rfl, rfl⟩
    simp only [settle]
    refine ⟨.tuple #[.slice none 0 0, .int .i64 p], ?_, ?_⟩
    · rw [results_cells2 (p := 2) (q := 3) (ty := 28) (tz := 3) (by kernel_rfl)]
      simp [go_sem, c0, c1]
    · exact ⟨(HB1.out.setCell (p := ⟨w.heap.size, 0, none⟩) (Nat.le_refl _) _).setCell (p := ⟨w.heap.size + 1, 0, none⟩) (by show _ ≤ _ + 1; omega) _, rfl⟩
  | ok ds r =>
    simp only at hm
    obtain ⟨v, T, rfl, hso, hTn, hTB⟩ := hm
    obtain ⟨pv, cv, ev⟩ := hso.sl.shape
    have HS : Hid (SOwn w1 ds.length (kidsOf ds) v T ∧ T.Nodup ∧ (∀ x ∈ T, w.heap.size + 2 ≤ x)) := ⟨hso, hTn, fun x hx => by have := hTB x hx; simp at this; omega⟩
    clear hso hTn hTB
    subst ev
    go_wp2_with fail
    refine leaves_cons (f := 30) (args := #[.pointer (some ⟨w.heap.size, 0, none⟩), .pointer (some ⟨w.heap.size + 1, 0, none⟩)]) (by simp) (by simp [go_sem]) ?_
    refine (door_idle w.heap.size (w.heap.size + 1) _).mono ?_
    rintro e u' w'' ⟨rfl, rfl, rfl⟩
    simp only [settle, Leaves]
    refine ⟨.tuple #[.slice pv ds.length cv, .int .i64 (-1)], ?_, ?_⟩
    · rw [results_cells2 (p := 2) (q := 3) (ty := 28) (tz := 3) (by kernel_rfl)]
      simp [go_sem, c0, c1]
    · refine ⟨(HB1.out.setCell (p := ⟨w.heap.size, 0, none⟩) (Nat.le_refl _) _).setCell (p := ⟨w.heap.size + 1, 0, none⟩) (by show _ ≤ _ + 1; omega) _, _, T, rfl, HS.out.1.same (fun x hx => ?_), HS.out.2.1, fun x hx => by have := HS.out.2.2 x hx; omega⟩
      have h2 := HS.out.2.2 x hx
      rw [Below.heap_setCell _ _ _ _ (by show x ≠ w.heap.size + 1; omega), Below.heap_setCell _ _ _ _ (by show x ≠ w.heap.size; omega)]
end Go.Proofs.YtafpbcdgcgffeajDoor

/- laws.eqDat and laws.eqDatS: of one datum, laid twice, the answer is true. No conditions. -/
namespace Go.Proofs.YtafpbcdgcgffeajDoor
open Go.ChangeShapes Go.WideShapes Go.ChangeAt Go.RowKit

def EqAt (t : D) : Prop := ∀ (w : World) (u v : Value), t.In w u → t.In w v →
  Calls Tryd.prog 20 #[.agg #[.int .i64 t.op, .int .i64 t.at_, .int .i64 t.n, .string t.s, u], .agg #[.int .i64 t.op, .int .i64 t.at_, .int .i64 t.n, .string t.s, v]] w fun e w' => e = .returned (.bool true) ∧ Below w.heap.size w w'

set_option maxRecDepth 100000 in
set_option maxHeartbeats 2000000 in
theorem eq_dats (len : Nat) (kid : Nat → D) (ih : ∀ i, i < len → EqAt (kid i)) (w : World) (u v : Value) (hu : Sl w len kid u) (hv : Sl w len kid v) :
    Calls Tryd.prog 13 #[u, v] w fun e w' => e = .returned (.bool true) ∧ Below w.heap.size w w' := by
  obtain ⟨p, cap, rfl, hlen, hat⟩ := hu.at
  obtain ⟨q, cap2, rfl, -, hat2⟩ := hv.at
  have HC : Hid (∀ i, i < len → ∃ b o u, p = some ⟨b, o, none⟩ ∧ Head w b (o + i * 5) (kid i) u ∧ (kid i).In w u) := hat
  have HD : Hid (∀ i, i < len → ∃ b o u, q = some ⟨b, o, none⟩ ∧ Head w b (o + i * 5) (kid i) u ∧ (kid i).In w u) := hat2
  have IH : Hid (∀ i, i < len → EqAt (kid i)) := ih
  clear hat hat2 ih hu hv
  unfold maxLen at hlen
  go_enter Tryd.func13, Tryd.ntmps13
  go_wp2_with fail
  go_loopw [5] (fun i wr => ∃ k : Nat, i = .int .i64 k ∧ k ≤ len ∧ Below w.heap.size w wr) (fun i _ => len - (intOf i).toNat)
  case atStart => exact ⟨0, rfl, Nat.zero_le _, Below.refl _ _⟩
  case round =>
    obtain ⟨k, rfl, hk, hbel⟩ := hrel
    have HBL : Hid (Below w.heap.size w wr) := hbel
    clear hbel
    by_cases hlt : (k : Int) < len
    · have hlt' : k < len := by omega
      obtain ⟨b, o, x, hp, hd, hin⟩ := HC.out k hlt'
      obtain ⟨b2, o2, y, hq, hd2, hin2⟩ := HD.out k hlt'
      subst hp hq
      obtain ⟨c0, c1, c2, c3, c4⟩ := hd.below HBL.out
      obtain ⟨d0, d1, d2, d3, d4⟩ := hd2.below HBL.out
      have HI : Hid ((kid k).In wr x ∧ (kid k).In wr y) := ⟨hin.below HBL.out, hin2.below HBL.out⟩
      clear hd hin hd2 hin2
      have HCL : Hid (∀ w1 : World, Below wr.heap.size wr w1 → Calls Tryd.prog 20 #[.agg #[.int .i64 (kid k).op, .int .i64 (kid k).at_, .int .i64 (kid k).n, .string (kid k).s, x], .agg #[.int .i64 (kid k).op, .int .i64 (kid k).at_, .int .i64 (kid k).n, .string (kid k).s, y]] w1 fun e w' => e = .returned (.bool true) ∧ Below w1.heap.size w1 w') :=
        fun w1 h1 => IH.out k hlt' w1 x y (HI.out.1.below h1) (HI.out.2.below h1)
      go_wp2_with fail
      go_region_with ((go_at_call 20; refine (HCL.out _ ?_).mono ?_; exact (Below.refl _ _).drew; rintro e w1 ⟨rfl, hb1⟩))
      all_goals
        have HB1 : Hid (Below w.heap.size w w1) := HBL.out.trans ⟨hb1.os, hb1.tape, hb1.output, hb1.size, fun j hj => hb1.block j (Nat.lt_of_lt_of_le hj HBL.out.size)⟩
        clear hb1
        go_wp2_with fail
        go_roundw
        case rel => first | exact ⟨k + 1, by go_num, by omega, HB1.out⟩ | ((repeat apply Exists.intro); exact ⟨⟨k + 1, by go_num, by omega, HB1.out⟩, rfl⟩)
        case measure => simp [intOf]; omega
    · go_wp2_with fail
      go_ret
      exact ⟨rfl, HBL.out⟩

set_option maxRecDepth 100000 in
set_option maxHeartbeats 2000000 in
theorem eq_dat (t : D) : EqAt t := by
  induction t with
  | no => intro w u v h _; exact h.elim
  | mk op a n s len kid ih =>
    intro w u v hu hv
    have h1 := hu.sl
    have h2 := hv.sl
    simp only [D.op, D.at_, D.n, D.s, D.len, D.kid] at h1 h2 ⊢
    obtain ⟨p, cap, e1⟩ := h1.shape
    obtain ⟨q, cap2, e2⟩ := h2.shape
    have H1 : Hid (Sl w len kid u) := h1
    have H2 : Hid (Sl w len kid v) := h2
    have IH : Hid (∀ i, EqAt (kid i)) := ih
    clear hu hv h1 h2 ih
    subst e1 e2
    go_enter Tryd.func20, Tryd.ntmps20
    go_wp2_with fail
    refine (eq_dats len kid (fun i _ => IH.out i) _ _ _ (H1.out.below ((newb w _).trans ((newb _ _).mono (by simp)))) (H2.out.below ((newb w _).trans ((newb _ _).mono (by simp))))).mono ?_
    rintro e w1 ⟨rfl, hb1⟩
    have HB : Hid (Below w.heap.size w w1) := ((newb w _).trans ((newb _ _).mono (by simp))).trans (hb1.mono (by simp; omega))
    clear hb1
    go_wp2_with fail
    go_ret
    exact ⟨rfl, HB.out⟩
end Go.Proofs.YtafpbcdgcgffeajDoor

/- What a mark's text is. No conditions. -/
namespace Go.Proofs.YtafpbcdgcgffeajDoor

/-- What markText answers at k. -/
def markB (k : Nat) : ByteArray := ⟨(109 :: Lib.decDigits k).toArray⟩

theorem markB_sizeX (c : Nat) (h : c ≤ 100000000000000) : (markB c).size ≤ maxLen := by
  have h1 : (markB c).size = 1 + (Lib.decDigits c).length := by show ((109 :: Lib.decDigits c).toArray).size = _; simp; omega
  have h2 : (Lib.decDigits c).length ≤ 20 := by rw [Lib.decDigits_length]; exact Lib.nDigits_le20 c (by omega)
  unfold maxLen; omega
end Go.Proofs.YtafpbcdgcgffeajDoor

/- laws.markText. Condition: a number from 1 to 10^15. -/
namespace Go.Proofs.YtafpbcdgcgffeajDoor
open Go.ChangeShapes Go.WideShapes Go.ChangeAt Go.RowKit

theorem join_mark (l : List UInt8) : ((⟨#[109]⟩ : ByteArray) ++ ⟨l.toArray⟩) = ⟨(109 :: l).toArray⟩ := join_one 109 l

set_option maxRecDepth 100000 in
set_option maxHeartbeats 1000000 in
theorem mark_text (n : Nat) (h0 : 0 < n) (h1 : n ≤ 1000000000000000) (w : World) :
    Calls Tryd.prog 27 #[.int .i64 n] w fun e w' => e = .returned (.string (markB n)) ∧ Below w.heap.size w w' := by
  have t0 : ¬ ((n : Int) ≤ 0) := by omega
  go_enter Tryd.func27, Tryd.ntmps27
  go_wp2
  go_loopw [0, 3] (fun x o w1 => ∃ (k : Nat) (l : List UInt8), k ≤ n ∧ x = .int .i64 k ∧ o = .string ⟨l.toArray⟩ ∧ decD k ++ l = Lib.decDigits n ∧ Below w.heap.size w w1) (fun x _ _ => (intOf x).toNat)
  case atStart => exact ⟨n, [], Nat.le_refl _, rfl, rfl, by rw [decD_pos n h0]; simp, Below.refl _ _⟩
  case round =>
    obtain ⟨k, l, hk, rfl, rfl, hl, hg⟩ := hrel
    have hlen := acc_len k n l (by omega) hl
    have HL : Hid (decD k ++ l = Lib.decDigits n) := hl
    clear hl
    by_cases hz : (k : Int) > 0
    · have hr := one_byte wr (48 + (k : Int) % 10) _ (digit_byte k)
      go_wp2
      refine ⟨⟨k / 10, (48 + UInt8.ofNat (k % 10)) :: l, by omega, by simp, by rw [join_one], acc_step k n (by omega) l HL.out, hg.alloc hg.size _⟩, ?_⟩
      simp [intOf]; omega
    · have hk0 : k = 0 := by omega
      subst hk0
      go_wp2
      go_ret
      have e := HL.out
      rw [decD_zero, List.nil_append] at e
      subst e
      exact ⟨by rw [← join_mark]; rfl, hg⟩

theorem mark_text_int (z : Int) (h0 : 0 < z) (h1 : z ≤ 1000000000000000) (w : World) :
    Calls Tryd.prog 27 #[.int .i64 z] w fun e w' => e = .returned (.string (markB z.toNat)) ∧ Below w.heap.size w w' := by
  have := mark_text z.toNat (by omega) (by omega) w
  rwa [show ((z.toNat : Nat) : Int) = z from by omega] at this

end Go.Proofs.YtafpbcdgcgffeajDoor

/- laws.heldDatS, of data that were marked. Condition: marks up to 10^14. -/
namespace Go.Proofs.YtafpbcdgcgffeajDoor
open Go.ChangeShapes Go.WideShapes Go.ChangeAt Go.RowKit

/-- A datum marked from k on, its kids behind it. -/
def markD : D → Nat → D
  | .no, _ => .no
  | .mk _ _ _ _ len kid, k => .mk k ((k + 1 : Nat) : Int) ((k + 2 : Nat) : Int) (markB (k + 3)) len (fun i => markD (kid i) (k + 4 + 4 * sumTo (fun j => (kid j).count) i))
/-- Data marked one behind the other. -/
def markK (kid : Nat → D) (k : Nat) : Nat → D := fun i => markD (kid i) (k + 4 * sumTo (fun j => (kid j).count) i)
theorem markD_kid (t : D) (k : Nat) : (markD t k).kid = markK t.kid (k + 4) := by
  cases t with
  | no => funext i; simp [markD, D.kid, markK]
  | mk op a n s len kid => rfl
theorem markD_len (t : D) (k : Nat) : (markD t k).len = t.len := by cases t <;> rfl

def HeldAt (t : D) : Prop := ∀ (w : World) (v : Value) (k : Nat), Sl w t.len (markK t.kid k) v → 0 < k → k + 4 * sumTo (fun j => (t.kid j).count) t.len ≤ 100000000000000 →
  Calls Tryd.prog 15 #[v, .int .i64 k] w fun e w' => e = .returned (.int .i64 ((k + 4 * sumTo (fun j => (t.kid j).count) t.len : Nat) : Int)) ∧ Below w.heap.size w w'

set_option maxRecDepth 100000 in
set_option maxHeartbeats 4000000 in
theorem held_dats (len : Nat) (kid : Nat → D) (hmk : ∀ i, i < len → kid i ≠ .no) (ih : ∀ i, i < len → HeldAt (kid i)) (w : World) (v : Value) (k : Nat) (hv : Sl w len (markK kid k) v) (hk0 : 0 < k) (hk : k + 4 * sumTo (fun j => (kid j).count) len ≤ 100000000000000) :
    Calls Tryd.prog 15 #[v, .int .i64 k] w fun e w' => e = .returned (.int .i64 ((k + 4 * sumTo (fun j => (kid j).count) len : Nat) : Int)) ∧ Below w.heap.size w w' := by
  obtain ⟨p, cap, rfl, hlen, hat⟩ := hv.at
  have HC : Hid (∀ i, i < len → ∃ b o u, p = some ⟨b, o, none⟩ ∧ Head w b (o + i * 5) (markK kid k i) u ∧ (markK kid k i).In w u) := hat
  have IH : Hid (∀ i, i < len → HeldAt (kid i)) := ih
  have HM : Hid (∀ i, i < len → kid i ≠ .no) := hmk
  have HKK : Hid (k + 4 * sumTo (fun j => (kid j).count) len ≤ 100000000000000) := hk
  clear hat ih hv hmk hk
  unfold maxLen at hlen
  go_enter Tryd.func15, Tryd.ntmps15
  go_wp2_with fail
  go_loopw [1, 5] (fun x i wr => ∃ j c : Nat, i = .int .i64 j ∧ x = .int .i64 c ∧ j ≤ len ∧ c = k + 4 * sumTo (fun j => (kid j).count) j ∧ Below w.heap.size w wr) (fun _ i _ => len - (intOf i).toNat)
  case atStart => exact ⟨0, k, rfl, rfl, Nat.zero_le _, by simp [sumTo], Below.refl _ _⟩
  case round =>
    obtain ⟨j, c, rfl, rfl, hj, hc, hbel⟩ := hrel
    have HBL : Hid (Below w.heap.size w wr) := hbel
    have HCC : Hid (c = k + 4 * sumTo (fun j => (kid j).count) j) := hc
    clear hbel hc
    by_cases hlt : (j : Int) < len
    · have hlt' : j < len := by omega
      obtain ⟨b, o, u, hp, hd, hin⟩ := HC.out j hlt'
      subst hp
      have hsum := sumTo_at (fun j => (kid j).count) j len hlt'
      have hcount : 1 ≤ (kid j).count := by rw [D.count_eq]; omega
      have hcb : c + 4 * (kid j).count ≤ 100000000000000 := by have h1 := HCC.out; have h2 := HKK.out; omega
      have hc0 : 0 < c := by have := HCC.out; omega
      have hmj : markK kid k j = markD (kid j) c := by unfold markK; rw [HCC.out]
      rw [hmj] at hd hin
      have HCE : Hid ((kid j).count = 1 + sumTo (fun i => ((kid j).kid i).count) (kid j).len) := (kid j).count_eq
      have HI : Hid (Sl wr (kid j).len (markK (kid j).kid (c + 4)) u) := by
        have := (hin.below HBL.out).sl
        rw [markD_kid, markD_len] at this
        exact this
      have hne := HM.out j hlt'
      have hh : (markD (kid j) c).op = c ∧ (markD (kid j) c).at_ = ((c + 1 : Nat) : Int) ∧ (markD (kid j) c).n = ((c + 2 : Nat) : Int) ∧ (markD (kid j) c).s = markB (c + 3) := by
        cases e : kid j with
        | no => exact absurd e hne
        | mk op a n s l kd => exact ⟨rfl, rfl, rfl, rfl⟩
      obtain ⟨e0, e1, e2, e3⟩ := hh
      obtain ⟨a0, a1, a2, a3, a4⟩ := hd.below HBL.out
      rw [e0] at a0; rw [e1] at a1; rw [e2] at a2; rw [e3] at a3
      have a1' : wr.cell? ⟨b, o + j * 5 + 1, none⟩ = some (.int .i64 ((c : Int) + 1)) := by rw [a1]; congr 2
      have a2' : wr.cell? ⟨b, o + j * 5 + 2, none⟩ = some (.int .i64 ((c : Int) + 1 + 1)) := by rw [a2]; congr 2
      have a3' : wr.cell? ⟨b, o + j * 5 + 3, none⟩ = some (.string (markB ((c : Int) + 1 + 1 + 1).toNat)) := by rw [a3]; congr 3
      have hbl : b < wr.heap.size := World.block_lt_of_cell? wr _ a0
      clear hd hin hmj e0 e1 e2 e3 a1 a2 a3 hne hsum
      have hst : ∀ s : ByteArray, (s.toList == s.toList) = true := fun s => by simp
      go_wp2_with fail
      go_region_held3 (fun w' => w'.cell? ⟨b, o + j * 5 + 3, none⟩ = some (.string (markB ((c : Int) + 1 + 1 + 1).toNat)))
        (first | go_keep | exact hs3)
        ((go_at_call 27; refine (mark_text_int ((c : Int) + 1 + 1 + 1) (by omega) (by omega) _).mono ?_; rintro e w1 ⟨rfl, hb1⟩; have hbw : Below wr.heap.size wr w1 := ⟨hb1.os, hb1.tape, hb1.output, hb1.size, hb1.block⟩; have hs3 : w1.cell? ⟨b, o + j * 5 + 3, none⟩ = some (.string (markB ((c : Int) + 1 + 1 + 1).toNat)) := (hbw.cell (by exact hbl)).trans a3'))
      all_goals
        have HB1 : Hid (Below w.heap.size w w1) := HBL.out.trans (hbw.mono HBL.out.size)
        have HI1 : Hid (Sl w1 (kid j).len (markK (kid j).kid (c + 4)) u) := HI.out.below hbw
        have a4' := keeps hbw _ _ a4
        clear hbw hb1 hs3
        have e4 : (c : Int) + 1 + 1 + 1 + 1 = ((c + 4 : Nat) : Int) := by omega
        go_wp2_with fail
        refine (IH.out j hlt' w1 u (c + 4) HI1.out (by omega) (by have := HCE.out; omega)).mono ?_
        rintro e w2 ⟨rfl, hb2⟩
        have HB2 : Hid (Below w.heap.size w w2) := HB1.out.trans (hb2.mono HB1.out.size)
        have hN : c + 4 + 4 * sumTo (fun i => ((kid j).kid i).count) (kid j).len = k + 4 * sumTo (fun j => (kid j).count) (j + 1) := by
          have h1 := HCC.out
          have h2 := HCE.out
          simp only [sumTo]
          omega
        rw [hN]
        have HNN : Hid (k + 4 * sumTo (fun j => (kid j).count) (j + 1) = k + 4 * sumTo (fun j => (kid j).count) (j + 1)) := rfl
        generalize hgen : k + 4 * sumTo (fun j => (kid j).count) (j + 1) = c2 at *
        have HG : Hid (c2 = k + 4 * sumTo (fun j => (kid j).count) (j + 1)) := hgen.symm
        clear hb2 hgen hN HNN a4' e4
        go_wp2_with fail
        go_roundw
        case rel => exact ⟨j + 1, c2, by go_num, rfl, by omega, HG.out, HB2.out⟩
        case measure => simp [intOf]; omega
    · have hje : j = len := by omega
      subst hje
      go_wp2_with fail
      go_ret
      have h : (k : Int) + 4 * (sumTo (fun j => (kid j).count) j : Nat) = (c : Int) := by have := HCC.out; omega
      exact ⟨by rw [h]; rfl, HBL.out⟩
end Go.Proofs.YtafpbcdgcgffeajDoor

/- laws.markDatS, of data whose rows are owned, each in its block. Condition: marks up to 10^14. -/
namespace Go.Proofs.YtafpbcdgcgffeajDoor
open Go.ChangeShapes Go.WideShapes Go.ChangeAt Go.RowKit

theorem mark_no {w : World} {len : Nat} {kid : Nat → D} {k : Nat} {v : Value} (hv : Sl w len (markK kid k) v) : ∀ i, i < len → kid i ≠ .no := by
  obtain ⟨p, cap, rfl, hlen, hat⟩ := hv.at
  intro i hi e
  obtain ⟨b, o, u, _, _, hin⟩ := hat i hi
  have h : markK kid k i = .no := by unfold markK; rw [e]; rfl
  rw [h] at hin
  exact hin.elim

theorem held_all (t : D) : HeldAt t := by
  induction t with
  | no => intro w v k hv hk0 hk; exact held_dats 0 _ (fun i hi => by omega) (fun i hi => by omega) w v k hv hk0 hk
  | mk op a n s len kid ih => intro w v k hv hk0 hk; exact held_dats len kid (mark_no hv) (fun i _ => ih i) w v k hv hk0 hk

/-- The first i are marked. -/
def markTo (kid : Nat → D) (k i : Nat) : Nat → D := fun j => if j < i then markK kid k j else kid j
theorem markTo_zero (kid : Nat → D) (k : Nat) : markTo kid k 0 = kid := by funext j; simp [markTo]
theorem markTo_at (kid : Nat → D) (k i : Nat) : markTo kid k i i = kid i := by simp [markTo]

def MarkAt (t : D) : Prop := ∀ (w : World) (v : Value) (S : List Nat) (k : Nat), SOwn w t.len t.kid v S → S.Nodup → 0 < k → k + 4 * sumTo (fun j => (t.kid j).count) t.len ≤ 90000000000000 →
  Calls Tryd.prog 14 #[v, .int .i64 k] w fun e w' => e = .returned (.int .i64 ((k + 4 * sumTo (fun j => (t.kid j).count) t.len : Nat) : Int)) ∧ SOwn w' t.len (markK t.kid k) v S ∧ FrS w w' S

theorem DOwn.ne {w : World} {t : D} {v : Value} {S : List Nat} (h : DOwn w t v S) : t ≠ .no := by
  rintro rfl; exact h.elim

theorem flat_split {SS : List (List Nat)} : ∀ {i : Nat} {T : List Nat}, SS[i]? = some T → SS.flatten.Nodup → T.Nodup ∧ ∀ j U, j ≠ i → SS[j]? = some U → ∀ g ∈ U, g ∉ T := by
  induction SS with
  | nil => intro i T h; simp at h
  | cons A SS ih =>
    intro i T hT hn
    rw [List.flatten_cons, List.nodup_append] at hn
    obtain ⟨h1, h2, h3⟩ := hn
    cases i with
    | zero =>
      simp at hT
      subst hT
      refine ⟨h1, fun j U hj hU g hg hgA => ?_⟩
      cases j with
      | zero => exact hj rfl
      | succ j => simp at hU; exact h3 g hgA g (mem_flat hU hg) rfl
    | succ i =>
      simp at hT
      obtain ⟨a, b⟩ := ih hT h2
      refine ⟨a, fun j U hj hU g hg hgT => ?_⟩
      cases j with
      | zero => simp at hU; subst hU; exact h3 g hg g (mem_flat hT hgT) rfl
      | succ j => simp at hU; exact b j U (by omega) hU g hg hgT

/-- A row's cells at i set anew. -/
theorem drows_set (l : List (D × Value)) (i : Nat) (d0 : D) (u : Value) (h : l[i]? = some (d0, u)) (d : D) :
    ((((drows l).set (i * 5) (.int .i64 d.op)).set (i * 5 + 1) (.int .i64 d.at_)).set (i * 5 + 2) (.int .i64 d.n)).set (i * 5 + 3) (.string d.s) = drows (l.set i (d, u)) := by
  obtain ⟨hi, he⟩ := List.getElem?_eq_some_iff.1 h
  have e1 : l = l.take i ++ (d0, u) :: l.drop (i + 1) := by
    rw [← he, ← List.drop_eq_getElem_cons hi, List.take_append_drop]
  have e2 : l.set i (d, u) = l.take i ++ (d, u) :: l.drop (i + 1) := List.set_eq_take_append_cons_drop.trans (by rw [if_pos hi])
  have hl : (drows (l.take i)).length = i * 5 := by rw [drows_length, List.length_take]; congr 1; omega
  have a : ∀ q : D × Value, drows (l.take i ++ q :: l.drop (i + 1)) = drows (l.take i) ++ (dcells q ++ drows (l.drop (i + 1))) := by
    intro q; rw [drows_append]; rfl
  have s : ∀ (c : List Value) (j : Nat) (x : Value), (drows (l.take i) ++ c).set (i * 5 + j) x = drows (l.take i) ++ c.set j x := by
    intro c j x
    rw [List.set_append_right _ _ (by omega), hl]
    congr 2; omega
  rw [e2, a]
  conv => lhs; rw [e1, a]
  have s0 : (drows (l.take i) ++ (dcells (d0, u) ++ drows (l.drop (i + 1)))).set (i * 5) (.int .i64 d.op) = _ := s (dcells (d0, u) ++ drows (l.drop (i + 1))) 0 (.int .i64 d.op)
  rw [s0, s, s, s]
  rfl

/-- One round: the row's cells are marked, then the kid's rows. -/
theorem mark_step {w w' : World} {len g cap k i : Nat} {kid : Nat → D} {l : List (D × Value)} {SS : List (List Nat)} {u : Value} {T : List Nat}
    (hown : w.ownsRow 0 39 5 (.slice (some ⟨g, 0, none⟩) len cap) len (drows (l.set i (markK kid k i, u)))) (hl : l.length = len) (hS : SS.length = len) (hks : Ks (markTo kid k i) l) (hn : (g :: SS.flatten).Nodup) (hi : i < len)
    (hrest : ∀ j, j < len → ∃ u T, l[j]? = some (markTo kid k i j, u) ∧ SS[j]? = some T ∧ (j ≠ i → DOwn w (markTo kid k i j) u T)) (hlu : l[i]? = some (markTo kid k i i, u)) (hT : SS[i]? = some T)
    (hf : FrS w w' T) (hd : DOwn w' (markK kid k i) u T) (hlt : ∀ g ∈ SS.flatten, g < w.heap.size) : SOwn w' len (markTo kid k (i + 1)) (.slice (some ⟨g, 0, none⟩) len cap) (g :: SS.flatten) := by
  have hgn : g ∉ SS.flatten := (List.nodup_cons.1 hn).1
  obtain ⟨hTn, hdis⟩ := flat_split hT (List.nodup_cons.1 hn).2
  have hgT : g ∉ T := fun h => hgn (mem_flat hT h)
  have hgl : g < w.heap.size := (hown.lt g rfl).2
  refine .inr ⟨g, cap, l.set i (markK kid k i, u), SS, rfl, own_same hown (fun g' hg' => ?_), by simpa using hl, hS, ?_, rfl, fun j hj => ?_⟩
  · simp only [Value.ownBlock, Option.some.injEq] at hg'
    subst hg'
    exact hf.block g hgl hgT
  · intro j q hq
    rw [List.getElem?_set] at hq
    by_cases hji : i = j
    · subst hji
      rw [if_pos rfl, if_pos (by omega)] at hq
      injection hq with hq
      subst hq
      simp [markTo]
    · rw [if_neg hji] at hq
      rw [hks j q hq]
      unfold markTo
      by_cases h : j < i
      · rw [if_pos h, if_pos (by omega)]
      · rw [if_neg h, if_neg (by omega)]
  · by_cases hji : j = i
    · subst hji
      refine ⟨u, T, ?_, hT, ?_⟩
      · rw [List.getElem?_set, if_pos rfl, if_pos (by omega)]; simp [markTo]
      · have : markTo kid k (j + 1) j = markK kid k j := by simp [markTo]
        rw [this]; exact hd
    · obtain ⟨uj, Tj, k1, k2, k3⟩ := hrest j hj
      have hm : markTo kid k (i + 1) j = markTo kid k i j := by
        unfold markTo
        by_cases h : j < i
        · rw [if_pos h, if_pos (by omega)]
        · rw [if_neg h, if_neg (by omega)]
      refine ⟨uj, Tj, ?_, k2, ?_⟩
      · rw [List.getElem?_set, if_neg (fun e => hji e.symm), hm]; exact k1
      · rw [hm]
        exact (k3 hji).same _ (fun g' hg' => hf.block g' (hlt g' (mem_flat k2 hg')) (hdis j Tj hji k2 g' hg'))

theorem SOwn.congr {w : World} {len : Nat} {kid kid' : Nat → D} {v : Value} {S : List Nat} (h : SOwn w len kid v S) (he : ∀ i, i < len → kid i = kid' i) : SOwn w len kid' v S := by
  rcases h with h0 | ⟨g, cap, l, SS, h1, h2, h3, h4, h5, h6, h7⟩
  · exact .inl h0
  · refine .inr ⟨g, cap, l, SS, h1, h2, h3, h4, fun i q hq => ?_, h6, fun i hi => ?_⟩
    · have hi : i < len := by have := (List.getElem?_eq_some_iff.1 hq).1; omega
      rw [h5 i q hq, he i hi]
    · obtain ⟨u, T, k1, k2, k3⟩ := h7 i hi
      exact ⟨u, T, by rw [k1, he i hi], k2, by rw [← he i hi]; exact k3⟩

theorem mark_text_c (c : Nat) (h : c ≤ 99999999999990) (w : World) :
    Calls Tryd.prog 27 #[.int .i64 ((c : Int) + 1 + 1 + 1)] w fun e w' => e = .returned (.string (markB (c + 3))) ∧ Below w.heap.size w w' := by
  have := mark_text (c + 3) (by omega) (by omega) w
  rwa [show ((c + 3 : Nat) : Int) = (c : Int) + 1 + 1 + 1 from by omega] at this

theorem markD_op (t : D) (c : Nat) (h : t ≠ .no) : (markD t c).op = c ∧ (markD t c).at_ = ((c + 1 : Nat) : Int) ∧ (markD t c).n = ((c + 2 : Nat) : Int) ∧ (markD t c).s = markB (c + 3) := by
  cases t with
  | no => exact absurd rfl h
  | mk op a n s l kd => exact ⟨rfl, rfl, rfl, rfl⟩

theorem markD_own {w : World} {t : D} {c : Nat} {u : Value} {T : List Nat} (h : t ≠ .no) (hb : (markB (c + 3)).size ≤ maxLen) (hc : c ≤ 100000000000000) (hs : SOwn w t.len (markK t.kid (c + 4)) u T) : DOwn w (markD t c) u T := by
  cases t with
  | no => exact absurd rfl h
  | mk op a n s l kd => exact ⟨⟨hb, by omega, by omega⟩, hs⟩

theorem markB_size (c : Nat) (h : c ≤ 200000000000000) : (markB c).size ≤ maxLen := by
  have h1 : (markB c).size = 1 + (Lib.decDigits c).length := by show ((109 :: Lib.decDigits c).toArray).size = _; simp; omega
  have h2 : (Lib.decDigits c).length ≤ 20 := by rw [Lib.decDigits_length]; exact Lib.nDigits_le20 c (by omega)
  unfold maxLen; omega

set_option maxRecDepth 100000 in
set_option maxHeartbeats 4000000 in
theorem mark_dats (len : Nat) (kid : Nat → D) (ih : ∀ i, i < len → MarkAt (kid i)) (w : World) (v : Value) (S : List Nat) (k : Nat) (hv : SOwn w len kid v S) (hnd : S.Nodup) (hk0 : 0 < k) (hk : k + 4 * sumTo (fun j => (kid j).count) len ≤ 90000000000000) :
    Calls Tryd.prog 14 #[v, .int .i64 k] w fun e w' => e = .returned (.int .i64 ((k + 4 * sumTo (fun j => (kid j).count) len : Nat) : Int)) ∧ SOwn w' len (markK kid k) v S ∧ FrS w w' S := by
  have HV : Hid (SOwn w len kid v S) := hv
  have hsh := hv.sl.at
  have HND : Hid (S.Nodup) := hnd
  have IH : Hid (∀ i, i < len → MarkAt (kid i)) := ih
  have HKK : Hid (k + 4 * sumTo (fun j => (kid j).count) len ≤ 90000000000000) := hk
  obtain ⟨p, cap, rfl, hlen, -⟩ := hsh
  clear ih hv hnd hk
  unfold maxLen at hlen
  go_enter Tryd.func14, Tryd.ntmps14
  go_wp2_with fail
  go_loopw [1, 5] (fun x i wr => ∃ j c : Nat, i = .int .i64 j ∧ x = .int .i64 c ∧ j ≤ len ∧ c = k + 4 * sumTo (fun j => (kid j).count) j ∧ SOwn wr len (markTo kid k j) (.slice p len cap) S ∧ FrS w wr S) (fun _ i _ => len - (intOf i).toNat)
  case atStart => exact ⟨0, k, rfl, rfl, Nat.zero_le _, by simp [sumTo], by rw [markTo_zero]; exact HV.out, FrS.refl _ _⟩
  case round =>
    obtain ⟨j, c, rfl, rfl, hj, hc, hso, hfr⟩ := hrel
    have HFR : Hid (FrS w wr S) := hfr
    have HCC : Hid (c = k + 4 * sumTo (fun j => (kid j).count) j) := hc
    have HSO : Hid (SOwn wr len (markTo kid k j) (.slice p len cap) S) := hso
    clear hc hso hfr
    by_cases hlt : (j : Int) < len
    · have hlt' : j < len := by omega
      have hso := HSO.out
      rcases hso with ⟨h0, _⟩ | ⟨g, cap', l, SS, he, hown, hl, hSl, hks, hSe, heach⟩
      · omega
      injection he with he1 _ he2
      subst he1 he2
      obtain ⟨u, T, k1, k2, k3⟩ := heach j hlt'
      have hn : (g :: SS.flatten).Nodup := by have := HND.out; rw [hSe] at this; exact this
      have hdj : DOwn wr (kid j) u T := by rw [markTo_at] at k3; exact k3
      have hltS : ∀ x ∈ SS.flatten, x < wr.heap.size := fun x hx => HSO.out.lt x (by rw [hSe]; exact List.mem_cons_of_mem _ hx)
      have hsum := sumTo_at (fun j => (kid j).count) j len hlt'
      have hcount : 1 ≤ (kid j).count := by rw [D.count_eq]; omega
      have hcb : c + 4 * (kid j).count ≤ 90000000000000 := by have h1 := HCC.out; have h2 := HKK.out; omega
      have hc0 : 0 < c := by have := HCC.out; omega
      have HCE : Hid ((kid j).count = 1 + sumTo (fun i => ((kid j).kid i).count) (kid j).len) := (kid j).count_eq
      have hmj : markK kid k j = markD (kid j) c := by unfold markK; rw [HCC.out]
      obtain ⟨e0, e1, e2, e3⟩ := markD_op (kid j) c hdj.ne
      have HOW : Hid (wr.ownsRow 0 39 5 (.slice (some ⟨g, 0, none⟩) len cap) len (drows l)) := hown
      have hf : ∀ x, wr.frozen? ⟨g, x, none⟩ = false := fun x => hown.frozenAt x
      have hcl : ∀ x, x < 5 → wr.cell? ⟨g, j * 5 + x, none⟩ = (dcells (markTo kid k j j, u))[x]? := by
        intro x hx
        rw [hown.cellAt (j * 5 + x) (by omega)]
        have := drows_at l [] j _ k1 x hx
        simpa using this
      have u0 := hcl 0 (by omega); have u1 := hcl 1 (by omega); have u2 := hcl 2 (by omega); have u3 := hcl 3 (by omega); have u4 := hcl 4 (by omega)
      simp only [dcells, Nat.add_zero, List.getElem?_cons_zero, List.getElem?_cons_succ] at u0 u1 u2 u3 u4
      clear hcl
      have HQ : Hid (((((drows l).set (j * 5) (.int .i64 (c : Int))).set (j * 5 + 1) (.int .i64 ((c : Int) + 1))).set (j * 5 + 2) (.int .i64 ((c : Int) + 1 + 1))).set (j * 5 + 3) (.string (markB (c + 3))) = drows (l.set j (markK kid k j, u))) := by
        show _ = _
        rw [hmj, ← drows_set l j _ u k1 (markD (kid j) c), e0, e1, e2, e3]
        have x1 : ((c + 1 : Nat) : Int) = (c : Int) + 1 := by omega
        have x2 : ((c + 2 : Nat) : Int) = (c : Int) + 1 + 1 := by omega
        rw [x1, x2]
      have HREST : Hid (∀ i, i < len → ∃ u T, l[i]? = some (markTo kid k j i, u) ∧ SS[i]? = some T ∧ DOwn wr (markTo kid k j i) u T) := heach
      have HDJ : Hid (DOwn wr (kid j) u T) := hdj
      have HNN : Hid ((g :: SS.flatten).Nodup ∧ S = g :: SS.flatten ∧ (∀ x ∈ SS.flatten, x < wr.heap.size) ∧ l.length = len ∧ SS.length = len ∧ Ks (markTo kid k j) l ∧ l[j]? = some (markTo kid k j j, u) ∧ SS[j]? = some T ∧ markK kid k j = markD (kid j) c) := ⟨hn, hSe, hltS, hl, hSl, hks, k1, k2, hmj⟩
      generalize (markTo kid k j j).op = z0 at u0
      generalize (markTo kid k j j).at_ = z1 at u1
      generalize (markTo kid k j j).n = z2 at u2
      generalize (markTo kid k j j).s = z3 at u3
      clear heach hown hdj hn hSe hltS hks k1 k2 k3 hmj e0 e1 e2 e3 hsum hl hSl HV
      go_wp2_with fail
      refine (mark_text_c c (by omega) _).mono ?_
      rintro e w1 ⟨rfl, hb1⟩
      obtain ⟨q1, g1⟩ := HOW.out.stored (j * 5) (.int .i64 (c : Int))
      obtain ⟨q2, g2⟩ := q1.stored (j * 5 + 1) (.int .i64 ((c : Int) + 1))
      obtain ⟨q3, g3⟩ := q2.stored (j * 5 + 2) (.int .i64 ((c : Int) + 1 + 1))
      have q4 := own_below5 q3 hb1
      have hf1 : ∀ x, w1.frozen? ⟨g, x, none⟩ = false := fun x => q4.frozenAt x
      have hc1 : ∃ x, w1.cell? ⟨g, j * 5 + 3, none⟩ = some x := by
        have hlx : j * 5 + 3 < (drows l).length := by rw [drows_length, HNN.out.2.2.2.1]; omega
        exact ⟨_, (q4.cellAt (j * 5 + 3) (by omega)).trans (List.getElem?_eq_getElem (by simp only [List.length_set]; exact hlx))⟩
      obtain ⟨x3, hx3⟩ := hc1
      have hx4 : w1.cell? ⟨g, j * 5 + 4, none⟩ = some u := by
        rw [q4.cellAt (j * 5 + 4) (by omega), List.getElem?_set_ne (by omega), List.getElem?_set_ne (by omega), List.getElem?_set_ne (by omega), ← HOW.out.cellAt (j * 5 + 4) (by omega)]
        exact u4
      obtain ⟨q5, g5⟩ := q4.stored (j * 5 + 3) (.string (markB (c + 3)))
      rw [HQ.out] at q5
      have hu4 : (w1.setCell ⟨g, j * 5 + 3, none⟩ (.string (markB (c + 3)))).cell? ⟨g, j * 5 + 4, none⟩ = some u := by
        have h1 := q5.cellAt (j * 5 + 4) (by omega)
        rw [h1]
        have h2 : (l.set j (markK kid k j, u))[j]? = some (markK kid k j, u) := by rw [List.getElem?_set, if_pos rfl, if_pos (by rw [HNN.out.2.2.2.1]; omega)]
        have h3 := drows_at (l.set j (markK kid k j, u)) [] j _ h2 4 (by omega)
        rw [List.append_nil] at h3
        exact h3
      have F5 : FrS wr (w1.setCell ⟨g, j * 5 + 3, none⟩ (.string (markB (c + 3)))) [g] :=
        ((FrS.grown (S := [g]) (grownb (grownb g1 g2) g3) (by simp)).trans (FrS.below hb1 _)).trans (FrS.grown g5 (by simp))
      have Q5 : Hid ((w1.setCell ⟨g, j * 5 + 3, none⟩ (.string (markB (c + 3)))).ownsRow 0 39 5 (.slice (some ⟨g, 0, none⟩) len cap) len (drows (l.set j (markK kid k j, u)))) := q5
      have HF5 : Hid (FrS wr (w1.setCell ⟨g, j * 5 + 3, none⟩ (.string (markB (c + 3)))) [g]) := F5
      have hgf : ∀ x ∈ SS.flatten, (w1.setCell ⟨g, j * 5 + 3, none⟩ (.string (markB (c + 3)))).heap[x]? = wr.heap[x]? := fun x hx =>
        F5.block x (HNN.out.2.2.1 x hx) (by simp only [List.mem_singleton]; rintro rfl; exact (List.nodup_cons.1 HNN.out.1).1 hx)
      have HGF : Hid (∀ x ∈ SS.flatten, (w1.setCell ⟨g, j * 5 + 3, none⟩ (.string (markB (c + 3)))).heap[x]? = wr.heap[x]?) := hgf
      clear q1 q2 q3 q4 q5 g1 g2 g3 g5 F5 hb1 hgf u0 u1 u2 u3 u4 hf HQ HOW
      have e4 : (c : Int) + 1 + 1 + 1 + 1 = ((c + 4 : Nat) : Int) := by omega
      go_wp2_with fail
      generalize hW5 : w1.setCell ⟨g, j * 5 + 3, none⟩ (.string (markB (c + 3))) = W5 at *
      obtain ⟨n1, n2, n3, n4, n5, n6, n7, n8, n9⟩ := HNN.out
      have hdj5 : DOwn W5 (kid j) u T := HDJ.out.same _ (fun x hx => HGF.out x (mem_flat n8 hx))
      have hTn := (flat_split n8 (List.nodup_cons.1 n1).2).1
      refine (IH.out j hlt' W5 u T (c + 4) hdj5.sown hTn (by omega) (by have := HCE.out; omega)).mono ?_
      rintro e w6 ⟨rfl, hs6, hf6⟩
      have hd6 : DOwn w6 (markK kid k j) u T := by
        rw [n9]
        exact markD_own hdj5.ne (markB_size _ (by omega)) (by omega) hs6
      have hnew : SOwn w6 len (markTo kid k (j + 1)) (.slice (some ⟨g, 0, none⟩) len cap) (g :: SS.flatten) :=
        mark_step Q5.out n4 n5 n6 n1 hlt' (fun i hi => by
          obtain ⟨ui, Ti, m1, m2, m3⟩ := HREST.out i hi
          exact ⟨ui, Ti, m1, m2, fun _ => m3.same _ (fun x hx => HGF.out x (mem_flat m2 hx))⟩) n7 n8 hf6 hd6 (fun x hx => Nat.lt_of_lt_of_le (n3 x hx) HF5.out.size)
      rw [← n2] at hnew
      have hfr6 : FrS w w6 S := HFR.out.trans ((HF5.out.mono (fun x hx => by simp only [List.mem_singleton] at hx; rw [n2, hx]; simp)).trans (hf6.mono (fun x hx => by rw [n2]; exact List.mem_cons_of_mem _ (mem_flat n8 hx))))
      have hN : c + 4 + 4 * sumTo (fun i => ((kid j).kid i).count) (kid j).len = k + 4 * sumTo (fun j => (kid j).count) (j + 1) := by
        have h1 := HCC.out
        have h2 := HCE.out
        simp only [sumTo]
        omega
      rw [hN]
      generalize hgen : k + 4 * sumTo (fun j => (kid j).count) (j + 1) = c2 at *
      have HG : Hid (c2 = k + 4 * sumTo (fun j => (kid j).count) (j + 1) ∧ SOwn w6 len (markTo kid k (j + 1)) (.slice (some ⟨g, 0, none⟩) len cap) S ∧ FrS w w6 S) := ⟨hgen.symm, hnew, hfr6⟩
      clear hgen hN hnew hfr6 hd6 hs6 hf6 hdj5 hTn n1 n2 n3 n4 n5 n6 n7 n8 n9 e4
      go_wp2_with fail
      go_roundw
      case rel => exact ⟨j + 1, c2, by go_num, rfl, by omega, HG.out.1, HG.out.2.1, HG.out.2.2⟩
      case measure => simp [intOf]; omega
    · have hje : j = len := by omega
      subst hje
      go_wp2_with fail
      go_ret
      have h : (k : Int) + 4 * (sumTo (fun j => (kid j).count) j : Nat) = (c : Int) := by have := HCC.out; omega
      refine ⟨by rw [h]; rfl, ?_, HFR.out⟩
      exact HSO.out.congr (fun i hi => by unfold markTo; rw [if_pos hi])

theorem mark_all (t : D) : MarkAt t := by
  induction t with
  | no => intro w v S k hv hn hk0 hk; exact mark_dats 0 _ (fun i hi => by omega) w v S k hv hn hk0 hk
  | mk op a n s len kid ih => intro w v S k hv hn hk0 hk; exact mark_dats len kid (fun i _ => ih i) w v S k hv hn hk0 hk
end Go.Proofs.YtafpbcdgcgffeajDoor
