/- impl.DatsOk. Condition: at most 2^20 in all. -/
import Derived.Test.YtoljphjmekkneabGreatDoorZG32DatLook
import Derived.Test.YtoljphjmekkneabGreatDoorZG12ReadToks
import Derived.Test.YtoljphjmekkneabGreatDoorZG22ReadRest
import Derived.Test.YtoljphjmekkneabGreatDoorZG29FieldsOk
import Derived.Laws.EntriesVeiled
namespace Go.Proofs.YtoljphjmekkneabGreatDoor
open Go.ChangeShapes Go.WideShapes Go.ChangeAt Go.RowKit

set_option maxRecDepth 100000 in
set_option maxHeartbeats 4000000 in
theorem impl_dats (len : Nat) (kid : Nat → D) (w : World) (v : Value) (hv : Sl w len kid v) (hw : kidsWeight len kid ≤ 1048576) :
    Calls Tryz.prog 11 #[v] w fun e w' => e = .returned (.bool (datsB len kid)) ∧ Below w.heap.size w w' := by
  obtain ⟨p, cap, hp⟩ := hv.shape
  have HL : Hid (∀ w1, Below w.heap.size w w1 → CntD w1 w.heap.size 1500 → Calls Tryz.prog 30 #[.pointer (some ⟨w.heap.size, 0, none⟩), v, .int .i64 20] w1 fun e w' => e = .returned (.bool (look 20 1500 len kid).isSome) ∧ Below w.heap.size w w') := by
    intro w1 h1 h2
    refine (list_okD w w.heap.size (Nat.le_refl _) 20 1500 len kid v w1 hv h1 h2 (by omega) (by omega) hw).mono ?_
    rintro e w' ⟨he, hf, -⟩
    exact ⟨he, GdD.fr h1 hf (Nat.le_refl _)⟩
  have HR : Hid (datsB len kid = (look 20 1500 len kid).isSome) := look_datsB len kid
  have HN : Hid (CntD (w.alloc (.cells #[.int .i64 1500, .func (.func 28) #[] #[], .func (.func 29) #[] #[]] 58)) w.heap.size 1500) := heap_alloc_new w _
  clear hv hw
  subst hp
  go_enter Tryz.func11, Tryz.ntmps11
  go_wp2_with fail
  refine (HL.out _ (newb w _) HN.out).mono ?_
  rintro e w1 ⟨rfl, hb1⟩
  have HB : Hid (Below w.heap.size w w1) := hb1
  clear hb1
  go_wp2_with fail
  go_ret
  exact ⟨by rw [HR.out]; rfl, HB.out⟩
end Go.Proofs.YtoljphjmekkneabGreatDoor

/- impl.readDats. Conditions: those of impl.Tokens. -/
namespace Go.Proofs.YtoljphjmekkneabGreatDoor
open Go.ChangeShapes Go.WideShapes Go.ChangeAt Go.RowKit

def DatsSay (w : World) (res : Rdr (List D)) (e : Ending) (w' : World) : Prop :=
  Below w.heap.size w w' ∧ match res with
    | .bad p => e = misfit p
    | .ok ds _ => ∃ v T, e = .returned v ∧ SOwn w' ds.length (kidsOf ds) v T ∧ T.Nodup ∧ (∀ x ∈ T, w.heap.size ≤ x)

set_option maxRecDepth 100000 in
set_option maxHeartbeats 4000000 in
theorem read_dats (s : ByteArray) (hs : s.size ≤ 1048576) (w : World) (ht : PowTab w) (hv : ErrVars w) :
    Calls Tryz.prog 21 #[.string s] w (DatsSay w (readP s)) := by
  have HTK : Hid (Calls Tryz.prog 41 #[.string s] w fun e w' => ∃ lv, e = .returned (.tuple #[lv, .int .i64 (toks s).2]) ∧ Below w.heap.size w w' ∧ w'.ownsRow w.heap.size 78 4 lv (toks s).1.length (rows (toks s).1)) := impl_tokens s hs w ht hv
  clear ht hv
  by_cases hb : (toks s).2 = -1
  · have h4 : s.size ≤ 4000 := by
      by_cases h : s.size ≤ 4000
      · exact h
      · rw [toks_long s h] at hb; simp at hb
    have hg := (toks_good s).2.1
    have HP : Hid (readP s = match readL s.size (toks s).1 with | .bad p => .bad p | .ok ds _ => if datsB ds.length (kidsOf ds) = true then .ok ds [] else .bad 0) := by
      show _ = _
      unfold readP; rw [if_pos hb]
      rfl
    have HOK : Hid (TokOk (toks s).1 ∧ TokW (toks s).1) := ⟨toks_ok s h4, toks_w s⟩
    rw [hb] at HTK
    generalize readP s = res at *
    generalize (toks s).1 = ts at *
    clear hb
    go_enter Tryz.func21, Tryz.ntmps21
    go_wp2_with fail
    refine HTK.out.mono ?_
    rintro e w1 ⟨lv, rfl, hb1, ho1⟩
    have htc := TokCells.of_own ho1
    have hsh : ∃ p cap, lv = .slice p ts.length cap := by
      rcases htc with ⟨h, rfl⟩ | ⟨g, cap, h, _⟩
      · exact ⟨_, _, h⟩
      · exact ⟨_, _, h⟩
    obtain ⟨pt, ct, rfl⟩ := hsh
    have HB1 : Hid (Below w.heap.size w w1 ∧ TokCells w1 (.slice pt ts.length ct) ts) := ⟨hb1, htc⟩
    have HRD : Hid (RdAt (w1.alloc (.cells #[.slice pt ts.length ct, .int .i64 0, .int .i64 s.size] 75)) w1.heap.size (.slice pt ts.length ct) 0 s.size) := heap_alloc_new w1 _
    have hw1 := hb1.size
    clear hb1 ho1 htc
    go_wp2_with fail
    refine (read_rest w1 w1.heap.size (Nat.le_refl _) _ ts s.size HB1.out.2 hg HOK.out.1 _ (newb w1 _) HRD.out).mono ?_
    rintro e w2 ⟨hf2, hm⟩
    have HF2 : Hid (Below w.heap.size w w2) := by
      have h1 := HB1.out.1.trans ((newb w1 (.cells #[.slice pt ts.length ct, .int .i64 0, .int .i64 s.size] 75)).mono hw1)
      exact hf2.below0 h1 hw1
    have hsz2 := hf2.size
    clear hf2
    cases hr : readL s.size ts with
    | bad p =>
      rw [hr] at hm
      have HQ : Hid (res = .bad p) := HP.out.trans (by rw [hr])
      simp only at hm
      subst hm
      clear HP
      go_wp2_with fail
      rw [HQ.out]
      exact ⟨rfl, HF2.out, rfl⟩
    | ok ds r =>
      rw [hr] at hm
      simp only at hm
      obtain ⟨v, T, rfl, hso, hTn, hTB⟩ := hm
      have hwt := readL_w _ ts ds r HOK.out.2 hg hr
      have HS : Hid (SOwn w2 ds.length (kidsOf ds) v T ∧ T.Nodup ∧ (∀ x ∈ T, w.heap.size ≤ x)) := ⟨hso, hTn, fun x hx => by have h1 := hTB x hx; simp at h1; omega⟩
      have HP2 : Hid (res = if datsB ds.length (kidsOf ds) = true then .ok ds [] else .bad 0) := HP.out.trans (by rw [hr])
      have HDT : Hid (Calls Tryz.prog 11 #[v] w2 fun e w' => e = .returned (.bool (datsB ds.length (kidsOf ds))) ∧ Below w2.heap.size w2 w') := impl_dats ds.length (kidsOf ds) w2 v hso.sl (by omega)
      clear hso hTn hTB HP hr hsz2
      cases hd : datsB ds.length (kidsOf ds) with
      | true =>
        rw [hd] at HDT HP2
        have HQ : Hid (res = .ok ds []) := HP2.out.trans (by rw [if_pos rfl])
        clear hd HP2
        go_wp2_with fail
        refine HDT.out.mono ?_
        rintro e w3 ⟨rfl, hb3⟩
        have HX : Hid (Below w.heap.size w w3 ∧ SOwn w3 ds.length (kidsOf ds) v T) := ⟨HF2.out.trans (hb3.mono HF2.out.size), HS.out.1.same (fun x hx => hb3.block x (HS.out.1.lt x hx))⟩
        clear hb3
        go_wp2_with fail
        go_ret
        rw [HQ.out]
        exact ⟨HX.out.1, v, T, rfl, HX.out.2, HS.out.2.1, HS.out.2.2⟩
      | false =>
        rw [hd] at HDT HP2
        have HQ : Hid (res = .bad 0) := HP2.out.trans (by rw [if_neg (by simp)])
        clear hd HP2
        go_wp2_with fail
        refine HDT.out.mono ?_
        rintro e w3 ⟨rfl, hb3⟩
        have HX : Hid (Below w.heap.size w w3) := HF2.out.trans (hb3.mono HF2.out.size)
        clear hb3
        go_wp2_with fail
        rw [HQ.out]
        exact ⟨rfl, HX.out, rfl⟩
  · have HQ : Hid (readP s = .bad (toks s).2) := by
      show _ = _
      unfold readP; rw [if_neg hb]
    have hne : ((toks s).2 != -1) = true := by simpa using hb
    generalize (toks s).2 = z at *
    generalize (toks s).1 = ts at *
    generalize readP s = res at *
    have hne2 : (z == -1) = false := by simpa using hb
    clear hb
    go_enter Tryz.func21, Tryz.ntmps21
    go_wp2_with fail
    refine HTK.out.mono ?_
    rintro e w1 ⟨lv, rfl, hb1, -⟩
    have HX : Hid (Below w.heap.size w w1) := hb1
    clear hb1
    go_wp2_with fail
    rw [HQ.out]
    exact ⟨rfl, HX.out, rfl⟩
end Go.Proofs.YtoljphjmekkneabGreatDoor
