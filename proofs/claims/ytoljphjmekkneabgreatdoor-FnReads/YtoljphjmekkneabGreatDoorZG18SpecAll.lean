/- spec.DatsOk. Condition: at most 2^40 data. -/
import Derived.Test.YtoljphjmekkneabGreatDoorZG16SpecDeep
import Derived.Test.YtoljphjmekkneabGreatDoorZG17SpecRight
import Derived.Test.YtoljphjmekkneabGreatDoorZG10SpecList
import Derived.Test.YtoljphjmekkneabGreatDoorZG12ReadToks
namespace Go.Proofs.YtoljphjmekkneabGreatDoor
open Go.ChangeShapes Go.WideShapes Go.ChangeAt Go.RowKit

set_option maxRecDepth 100000 in
set_option maxHeartbeats 4000000 in
theorem spec_dats (len : Nat) (kid : Nat → D) (w : World) (v : Value) (hv : Sl w len kid v) (hc : sumTo (fun i => (kid i).count) len ≤ 1099511627776) :
    Calls Tryz.prog 12 #[v] w fun e w' => e = .returned (.bool (datsB len kid)) ∧ Below w.heap.size w w' := by
  obtain ⟨p, cap, rfl, hlen, hat⟩ := hv.at
  have HC : Hid (∀ i, i < len → ∃ b o u, p = some ⟨b, o, none⟩ ∧ Head w b (o + i * 5) (kid i) u ∧ (kid i).In w u) := hat
  have HRE : Hid (datsB len kid = (allTo (fun i => decide ((kid i).deep ≤ 20) && rightB (kid i)) len && decide (sumTo (fun i => (kid i).count) len ≤ 1500))) := rfl
  have HSC : Hid (sumTo (fun i => (kid i).count) len ≤ 1099511627776) := hc
  generalize datsB len kid = R at *
  clear hat hv hc
  unfold maxLen at hlen
  go_enter Tryz.func12, Tryz.ntmps12
  go_wp2_with fail
  go_loopw [3, 4] (fun x i wr => ∃ k c : Nat, i = .int .i64 k ∧ x = .int .i64 c ∧ k ≤ len ∧ c = sumTo (fun i => (kid i).count) k ∧ allTo (fun i => decide ((kid i).deep ≤ 20) && rightB (kid i)) k = true ∧ Below w.heap.size w wr) (fun _ i _ => len - (intOf i).toNat)
  case atStart => exact ⟨0, 0, rfl, rfl, Nat.zero_le _, rfl, rfl, Below.refl _ _⟩
  case round =>
    obtain ⟨k, c, rfl, rfl, hk, hcc, hall, hbel⟩ := hrel
    have HBL : Hid (Below w.heap.size w wr) := hbel
    have HS : Hid (c = sumTo (fun i => (kid i).count) k) := hcc
    have HA : Hid (allTo (fun i => decide ((kid i).deep ≤ 20) && rightB (kid i)) k = true) := hall
    clear hbel hcc hall
    by_cases hlt : (k : Int) < len
    · have hlt' : k < len := by omega
      obtain ⟨b, o, u, hp, hd, hin⟩ := HC.out k hlt'
      subst hp
      obtain ⟨c0, c1, c2, c3, c4⟩ := hd.below HBL.out
      have HI : Hid ((kid k).In wr u) := hin.below HBL.out
      have HH : Hid (Head w b (o + k * 5) (kid k) u) := hd
      have hsum : c + (kid k).count ≤ 1099511627776 := by
        have h1 := sumTo_at (fun i => (kid i).count) k len hlt'
        have h2 := HS.out
        have h3 := HSC.out
        omega
      have hck : (kid k).count ≤ 1099511627776 := by omega
      have HNS : Hid (c + (kid k).count = sumTo (fun i => (kid i).count) (k + 1)) := by
        show _ = _
        rw [HS.out]; rfl
      clear hd hin
      go_wp2_with fail
      refine (spec_size (kid k) wr u HI.out hck).mono ?_
      rintro e w1 ⟨rfl, hb1⟩
      have HB1 : Hid (Below w.heap.size w w1) := HBL.out.trans (hb1.mono HBL.out.size)
      have HI1 : Hid ((kid k).In w1 u) := HI.out.below hb1
      clear hb1 c0 c1 c2 c3 c4 HI HBL
      obtain ⟨c0, c1, c2, c3, c4⟩ := HH.out.below HB1.out
      go_wp2_with fail
      refine (spec_deep (kid k) w1 u HI1.out hck).mono ?_
      rintro e w2 ⟨rfl, hb2⟩
      have HB2 : Hid (Below w.heap.size w w2) := HB1.out.trans (hb2.mono HB1.out.size)
      have HI2 : Hid ((kid k).In w2 u) := HI1.out.below hb2
      clear hb2 c0 c1 c2 c3 c4 HI1 HB1
      obtain ⟨c0, c1, c2, c3, c4⟩ := HH.out.below HB2.out
      by_cases hdp : (20 : Int) < (kid k).deep
      · have HN : Hid (R = false) := HRE.out.trans (by rw [allTo_false hlt' (by rw [decide_eq_false (by omega)]; rfl)]; rfl)
        clear HRE
        go_wp2_with fail
        go_ret
        exact ⟨ret_bool HN.out.symm, HB2.out⟩
      · have hd20 : decide ((kid k).deep ≤ 20) = true := decide_eq_true (by omega)
        cases hr : rightB (kid k) with
        | true =>
          have HN : Hid (allTo (fun i => decide ((kid i).deep ≤ 20) && rightB (kid i)) (k + 1) = true) := by
            show _ = _
            simp only [allTo, HA.out, hr, hd20, Bool.and_self]
          have HRK : Hid (rightB (kid k) = true) := hr
          clear hr hd20
          go_wp2_with fail
          refine (spec_right (kid k) w2 u HI2.out).mono ?_
          rintro e w3 ⟨rfl, hb3⟩
          rw [HRK.out]
          have HB3 : Hid (Below w.heap.size w w3) := HB2.out.trans (hb3.mono HB2.out.size)
          clear hb3 c0 c1 c2 c3 c4
          go_wp2_with fail
          go_roundw
          case rel => exact ⟨k + 1, c + (kid k).count, by go_num, by go_num, by omega, HNS.out, HN.out, HB3.out⟩
          case measure => simp [intOf]; omega
        | false =>
          have HN : Hid (R = false) := HRE.out.trans (by rw [allTo_false hlt' (by rw [hr, Bool.and_false])]; rfl)
          have HRK : Hid (rightB (kid k) = false) := hr
          clear hr hd20 HRE
          go_wp2_with fail
          refine (spec_right (kid k) w2 u HI2.out).mono ?_
          rintro e w3 ⟨rfl, hb3⟩
          rw [HRK.out]
          have HB3 : Hid (Below w.heap.size w w3) := HB2.out.trans (hb3.mono HB2.out.size)
          clear hb3 c0 c1 c2 c3 c4
          go_wp2_with fail
          go_ret
          exact ⟨ret_bool HN.out.symm, HB3.out⟩
    · have hke : k = len := by omega
      have HR : Hid (R = decide ((c : Int) ≤ 1500)) := HRE.out.trans (by
        rw [← hke, HA.out, Bool.true_and, ← HS.out]
        by_cases h : c ≤ 1500
        · rw [decide_eq_true h, decide_eq_true (by omega)]
        · rw [decide_eq_false h, decide_eq_false (by omega)])
      go_wp2_with fail
      go_ret
      exact ⟨ret_bool HR.out.symm, HBL.out⟩
end Go.Proofs.YtoljphjmekkneabGreatDoor

/- spec.ReadAll. Conditions: the text is no longer than a text may be. -/
namespace Go.Proofs.YtoljphjmekkneabGreatDoor
open Go.ChangeShapes Go.WideShapes Go.ChangeAt Go.RowKit

theorem sone_all (w0 : World) (C : Nat) (hC0 : w0.heap.size ≤ C) (tv : Value) (ts : List Tok) (E : Nat) (htv : TokCells w0 tv ts) (hts : ts.length ≤ 4000) (hok : TokOk ts) (f : Nat) : SOneAt w0 C tv ts E f := by
  have hend : ∀ (f : Nat) (w : World), CuAt w C tv ts.length E (-1) → Calls Tryz.prog 23 #[.pointer (some ⟨C, 0, none⟩)] w (SOneSay w C tv ts E (one E (f + 1) (ts.drop ts.length))) := by
    intro f w hcu
    have hsh : ∃ p cap, tv = .slice p ts.length cap := by
      rcases htv with ⟨h, rfl⟩ | ⟨g, cap, h, _⟩
      · exact ⟨_, _, h⟩
      · exact ⟨_, _, h⟩
    obtain ⟨pt, ct, rfl⟩ := hsh
    refine (sone_end w C pt ts.length ct E hcu).mono ?_
    rintro e w' ⟨h1, h2, h3⟩
    have he : one E (f + 1) (ts.drop ts.length) = .bad E := by simp [one]
    rw [he]
    exact ⟨h2, h1, by omega, _, h3⟩
  induction f with
  | zero =>
    intro w i _ hcu hi hf
    obtain rfl : i = ts.length := by omega
    exact hend 0 w hcu
  | succ f ih =>
    intro w i hbel hcu hi hf
    by_cases hie : i = ts.length
    · subst hie
      exact hend (f + 1) w hcu
    · have hil : i < ts.length := by omega
      obtain ⟨g, cap, rfl, t0, t1, t2, t3⟩ := tok_at (htv.below hbel) i hil
      have hdrop : ts.drop i = ts[i] :: ts.drop (i + 1) := List.drop_eq_getElem_cons hil
      have htk := hok ts[i] (List.getElem_mem hil)
      have hone : one E (f + 1 + 1) (ts.drop i) = if ts[i].kind = 3 then .ok (dNum ts[i]) (ts.drop (i + 1)) else if ts[i].kind = 4 then .ok (dSym ts[i]) (ts.drop (i + 1)) else if ts[i].kind = 2 then .bad ts[i].at_
        else match kidsL E (one E (f + 1)) ((ts.drop (i + 1)).length + 1) [] (ts.drop (i + 1)) with
          | .bad p => .bad p
          | .ok ds r1 => .ok (dList ts[i] ds) r1 := by rw [hdrop]; rfl
      by_cases h1 : ts[i].kind = 1
      · refine sone_list w0 C hC0 ts g cap E f htv hts ih w i hbel hcu hil hf ts[i] h1 t0 t1 t2 t3 _ ?_
        rw [hone, if_neg (by omega), if_neg (by omega), if_neg (by omega)]
        rfl
      · refine sone_flat w C ts g cap E i ts[i] hcu hts hil htk.2 t0 t1 t2 t3 (by have := htk.1; omega) _ ?_
        rw [hone]
        by_cases h3 : ts[i].kind = 3
        · rw [if_pos h3, if_pos h3]
        · rw [if_neg h3, if_neg h3]
          by_cases h4 : ts[i].kind = 4
          · rw [if_pos h4, if_pos h4]
          · rw [if_neg h4, if_neg h4, if_pos (by have := htk.1; omega)]

def SAllSay (w : World) (res : Rdr (List D)) (e : Ending) (w' : World) : Prop :=
  Below w.heap.size w w' ∧ match res with
    | .bad p => ∃ q c, e = .returned (.tuple #[.slice q 0 c, .int .i64 p])
    | .ok ds _ => ∃ v, e = .returned (.tuple #[v, .int .i64 (-1)]) ∧ Sl w' ds.length (kidsOf ds) v ∧ (ds ≠ [] → ∃ S, SOwn w' ds.length (kidsOf ds) v S ∧ S.Nodup ∧ ∀ x ∈ S, w.heap.size ≤ x)

theorem Acc.empty (w : World) (B : Nat) (hB : B ≤ w.heap.size) : Acc B (w.alloc (.cells #[] 30)) [] (.slice (some ⟨w.heap.size, 0, none⟩) 0 0) [] [] := by
  refine ⟨?_, rfl, rfl, fun i hi => by simp at hi, by simp, fun g h => ?_, fun x hx => by simp at hx⟩
  · have hq := World.ownsRow_lit (base := 0) (e := 30) (size := 5) w #[] 0 (by simp) (by unfold maxLen; omega) (by simp)
    exact hq
  · simp [Value.ownBlock] at h
    subst h
    exact ⟨by simp, hB⟩

theorem Acc.shape {B : Nat} {w : World} {acc : List D} {lv : Value} {la : List (D × Value)} {SS : List (List Nat)} (h : Acc B w acc lv la SS) : ∃ p c, lv = .slice p acc.length c := by
  rcases h.own.2 with ⟨h1, h2⟩ | ⟨g, cap, cur, h1, _⟩
  · exact ⟨_, _, by rw [h1, h2]⟩
  · exact ⟨_, _, h1⟩

theorem Acc.sl' {B : Nat} {w : World} {acc : List D} {lv : Value} {la : List (D × Value)} {SS : List (List Nat)} (h : Acc B w acc lv la SS) : Sl w acc.length (kidsOf acc) lv := by
  by_cases ha : acc = []
  · obtain ⟨p, c, e⟩ := h.shape
    subst ha
    exact .inl ⟨rfl, p, c, e⟩
  · obtain ⟨S, hS, _⟩ := h.sown (.inr ha)
    exact hS.sl

/-- What the loop keeps. -/
def SALoop (w1 wr : World) (C : Nat) (tv : Value) (ts : List Tok) (E k : Nat) (lv : Value) (res : Rdr (List D)) : Prop :=
  Below w1.heap.size w1 wr ∧ w1.heap.size + 1 ≤ wr.heap.size ∧ C = w1.heap.size ∧
    ((∃ acc j m, k = m + 1 ∧ CuAt wr C tv (j : Nat) E (-1) ∧ (∃ la SS, Acc (w1.heap.size + 1) wr acc lv la SS) ∧ j ≤ ts.length ∧ restL (one E (ts.length + 1)) (m + 1) acc (ts.drop j) = res ∧ ts.length - j ≤ m ∧ acc.length + (ts.length - j) ≤ ts.length)
     ∨ (k = 0 ∧ ∃ p z, res = .bad p ∧ 0 ≤ p ∧ CuAt wr C tv z E p))

theorem counts_le (len : Nat) (kid : Nat → D) : sumTo (fun i => (kid i).count) len ≤ kidsWeight len kid := by
  unfold kidsWeight
  induction len with
  | zero => simp [sumTo]
  | succ n ih =>
    have := (kid n).count_weight
    simp only [sumTo]
    omega
end Go.Proofs.YtoljphjmekkneabGreatDoor
