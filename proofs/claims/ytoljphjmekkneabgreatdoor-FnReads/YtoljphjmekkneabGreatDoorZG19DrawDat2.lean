/- spec.ReadAll. Conditions: the text is no longer than a text may be. -/
import Derived.Test.YtoljphjmekkneabGreatDoorZG18SpecAll
import Derived.Test.YtoljphjmekkneabGreatDoorZG8DrawTok
import Derived.Deep.RegionHeld3
import Derived.Deep.AppendLies
namespace Go.Proofs.YtoljphjmekkneabGreatDoor
open Go.ChangeShapes Go.WideShapes Go.ChangeAt Go.RowKit

/-- Behind an append. -/
theorem all_next {w1 w2 w3 : World} {C E : Nat} {tv lv : Value} {z b : Int} {o o' : Obj} (hC : C = w1.heap.size) (hbl : Below w1.heap.size w1 w2) (hsz : w1.heap.size + 1 ≤ w2.heap.size) (hcu : CuAt w2 C tv z E b)
    (hg : ((w2.alloc o).alloc o').grownBy w3 lv.ownBlock) (hB : ∀ x, lv.ownBlock = some x → w1.heap.size + 1 ≤ x) :
    Below w1.heap.size w1 w3 ∧ w1.heap.size + 1 ≤ w3.heap.size ∧ CuAt w3 C tv z E b := by
  have hs1 : ((w2.alloc o).alloc o').heap.size = w2.heap.size + 2 := by simp
  have hgs := hg.size
  rw [hs1] at hgs
  have keep : ∀ x, x < w1.heap.size + 1 → w3.heap[x]? = w2.heap[x]? := fun x hx =>
    (hg.block x (by omega) (fun e => by have := hB x e.symm; omega)).trans ((Below.heap_alloc (w2.alloc o) o' x (by simp; omega)).trans (Below.heap_alloc w2 o x (by omega)))
  exact ⟨⟨hg.os.trans hbl.os, hg.tape.trans hbl.tape, hg.output.trans hbl.output, by omega, fun x hx => (keep x (by omega)).trans (hbl.block x hx)⟩, by omega, (keep C (by omega)).trans hcu⟩

set_option maxRecDepth 100000 in
set_option maxHeartbeats 4000000 in
theorem spec_all (s : ByteArray) (hs : s.size ≤ 1048576) (w : World) : Calls Tryz.prog 7 #[.string s] w (SAllSay w (readP s)) := by
  obtain ⟨i0, hin, hz0, hz1, hz2⟩ := info_parts dat_info2
  have HTK : Hid (∀ w, Calls Tryz.prog 22 #[.string s] w fun e w' => ∃ lv, e = .returned (.tuple #[lv, .int .i64 (toks s).2]) ∧ Below w.heap.size w w' ∧ w'.ownsRow w.heap.size 78 4 lv (toks s).1.length (rows (toks s).1)) := fun w => spec_tokens s (by unfold maxLen; omega) w
  by_cases hb : (toks s).2 = -1
  · have h4 : s.size ≤ 4000 := by
      by_cases h : s.size ≤ 4000
      · exact h
      · rw [toks_long s h] at hb; simp at hb
    have hg := (toks_good s).2.1
    have HP : Hid (readP s = match readL s.size (toks s).1 with | .bad p => .bad p | .ok ds _ => if datsB ds.length (kidsOf ds) = true then .ok ds [] else .bad 0) := by
      show _ = _
      unfold readP; rw [if_pos hb]
      rfl
    have HOK : Hid (TokOk (toks s).1 ∧ TokW (toks s).1) := ⟨toks_ok s h4, toks_w s⟩
    rw [hb] at HTK
    generalize readP s = res at *
    generalize (toks s).1 = ts at *
    clear hb
    go_enter Tryz.func7, Tryz.ntmps7
    go_wp2_with fail
    refine (HTK.out _).mono ?_
    rintro e w1 ⟨lv, rfl, hb1, ho1⟩
    have htc := TokCells.of_own ho1
    have hsh : ∃ p cap, lv = .slice p ts.length cap := by
      rcases htc with ⟨h, rfl⟩ | ⟨g, cap, h, _⟩
      · exact ⟨_, _, h⟩
      · exact ⟨_, _, h⟩
    obtain ⟨pt, ct, rfl⟩ := hsh
    have HB1 : Hid (Below w.heap.size w w1) := (newb w _).trans (hb1.mono (by simp))
    have HT1 : Hid (TokCells w1 (.slice pt ts.length ct) ts) := htc
    clear hb1 ho1 htc HTK
    have HONE : Hid (SOneAt w1 w1.heap.size (.slice pt ts.length ct) ts s.size ts.length) := sone_all w1 w1.heap.size (Nat.le_refl _) _ ts s.size HT1.out hg HOK.out.1 _
    have HCU : Hid (CuAt (w1.alloc (.cells #[.slice pt ts.length ct, .int .i64 0, .int .i64 s.size, .int .i64 (-1)] 49)) w1.heap.size (.slice pt ts.length ct) (0 : Nat) s.size (-1)) := heap_alloc_new w1 _
    go_wp2_with fail
    have hs1 : (w1.alloc (.cells #[.slice pt ts.length ct, .int .i64 0, .int .i64 s.size, .int .i64 (-1)] 49)).heap.size = w1.heap.size + 1 := by simp
    have H0 : Hid (SALoop w1 ((w1.alloc (.cells #[.slice pt ts.length ct, .int .i64 0, .int .i64 s.size, .int .i64 (-1)] 49)).alloc (.cells #[] 30)) w1.heap.size (.slice pt ts.length ct) ts s.size (ts.length + 1) (.slice (some ⟨w1.heap.size + 1, 0, none⟩) 0 0) (readL s.size ts)) := by
      have ha := Acc.empty (w1.alloc (.cells #[.slice pt ts.length ct, .int .i64 0, .int .i64 s.size, .int .i64 (-1)] 49)) (w1.heap.size + 1) (by omega)
      rw [hs1] at ha
      exact ⟨(newb w1 _).trans ((newb _ _).mono (by omega)), by simp, rfl, .inl ⟨[], 0, ts.length, rfl, HCU.out.below (newb _ _), ⟨_, _, ha⟩, Nat.zero_le _, rfl, by omega, by simp⟩⟩
    clear hs1 HCU HT1
    go_loopg [8] (ts.length + 1) (fun k lv wr => SALoop w1 wr w1.heap.size (.slice pt ts.length ct) ts s.size k lv (readL s.size ts))
    case atStart => exact H0.out
    case round =>
      obtain ⟨hbl, hsz, -, hcase⟩ := hrel
      have HBL : Hid (Below w1.heap.size w1 wr) := hbl
      clear hbl H0
      rcases hcase with ⟨acc, j, m, hkm, hcu, ⟨la, SS, hacc⟩, hjle, heq, hfuel, hfew⟩ | ⟨hk0, p, z, hkp, hp0, hcu⟩
      · have HCU : Hid (CuAt wr w1.heap.size (.slice pt ts.length ct) (j : Nat) s.size (-1)) := hcu
        have c1 := hcu.c1; have c3 := hcu.c3
        have HACC : Hid (Acc (w1.heap.size + 1) wr acc u8 la SS) := hacc
        clear hcu hacc
        by_cases hje : j = ts.length
        · have HR : Hid (readL s.size ts = .ok acc []) := by
            show _ = _
            rw [← heq, hje]
            simp [restL]
          have hwt := readL_w _ ts acc [] HOK.out.2 hg HR.out
          have hcn := counts_le acc.length (kidsOf acc)
          have HDT : Hid (Calls Tryz.prog 12 #[u8] wr fun e w' => e = .returned (.bool (datsB acc.length (kidsOf acc))) ∧ Below wr.heap.size wr w') := spec_dats acc.length (kidsOf acc) wr u8 HACC.out.sl' (by omega)
          have HSL : Hid (Sl wr acc.length (kidsOf acc) u8) := HACC.out.sl'
          have HSO : Hid (acc ≠ [] → ∃ S, SOwn wr acc.length (kidsOf acc) u8 S ∧ S.Nodup ∧ ∀ x ∈ S, w.heap.size ≤ x) := fun ha => by
            obtain ⟨S, h1, h2, h3⟩ := HACC.out.sown (.inr ha)
            exact ⟨S, h1, h2, fun x hx => by have := h3 x hx; have := HB1.out.size; omega⟩
          have HP2 : Hid (res = if datsB acc.length (kidsOf acc) = true then .ok acc [] else .bad 0) := HP.out.trans (by rw [HR.out])
          have HBW : Hid (Below w.heap.size w wr) := HB1.out.trans (HBL.out.mono HB1.out.size)
          clear hwt hcn HP HR heq HACC HCU
          subst hje
          cases hd : datsB acc.length (kidsOf acc) with
          | true =>
            rw [hd] at HDT HP2
            have HQ : Hid (res = .ok acc []) := HP2.out.trans (by rw [if_pos rfl])
            clear hd HP2
            go_wp2_with fail
            refine HDT.out.mono ?_
            rintro e w3 ⟨rfl, hb3⟩
            have HX : Hid (Below w.heap.size w w3 ∧ Sl w3 acc.length (kidsOf acc) u8 ∧ (acc ≠ [] → ∃ S, SOwn w3 acc.length (kidsOf acc) u8 S ∧ S.Nodup ∧ ∀ x ∈ S, w.heap.size ≤ x)) := ⟨HBW.out.trans (hb3.mono HBW.out.size), HSL.out.below hb3, fun ha => by
              obtain ⟨S, h1, h2, h3⟩ := HSO.out ha
              exact ⟨S, h1.same (fun x hx => hb3.block x (h1.lt x hx)), h2, h3⟩⟩
            clear hb3
            go_wp2_with fail
            go_ret2
            rw [HQ.out]
            exact ⟨HX.out.1, _, rfl, HX.out.2⟩
          | false =>
            rw [hd] at HDT HP2
            have HQ : Hid (res = .bad 0) := HP2.out.trans (by rw [if_neg (by simp)])
            clear hd HP2
            go_wp2_with fail
            refine HDT.out.mono ?_
            rintro e w3 ⟨rfl, hb3⟩
            have HX : Hid (Below w.heap.size w w3) := HBW.out.trans (hb3.mono HBW.out.size)
            clear hb3
            go_wp2_with fail
            go_ret2
            rw [HQ.out]
            exact ⟨HX.out, _, _, rfl⟩
        · have hjl : j < ts.length := by omega
          have hjd : ((j : Int) < (ts.length : Int)) := by omega
          have hjd1 : decide ((j : Int) < (ts.length : Int)) = true := decide_eq_true hjd
          have heq2 : (match one s.size (ts.length + 1) (ts.drop j) with | .bad p => (.bad p : Rdr (List D)) | .ok d r1 => restL (one s.size (ts.length + 1)) m (acc ++ [d]) r1) = readL s.size ts := by
            rw [← heq, List.drop_eq_getElem_cons hjl]
            rfl
          have HEQ : Hid ((match one s.size (ts.length + 1) (ts.drop j) with | .bad p => (.bad p : Rdr (List D)) | .ok d r1 => restL (one s.size (ts.length + 1)) m (acc ++ [d]) r1) = readL s.size ts) := heq2
          have HJ : Hid (ts.length - j ≤ m ∧ acc.length + (ts.length - j) ≤ ts.length ∧ j ≤ ts.length) := ⟨hfuel, hfew, hjle⟩
          clear heq heq2 hfuel hfew
          go_wp2_with fail
          refine (HONE.out wr j HBL.out HCU.out HJ.out.2.2 (by omega)).mono ?_
          rintro e w2 ⟨hf2, hm⟩
          have hsz2 : w1.heap.size + 1 ≤ w2.heap.size := by have := hf2.size; omega
          have hbl2 : Below w1.heap.size w1 w2 := hf2.below0 HBL.out (Nat.le_refl _)
          have hacc2 : Acc (w1.heap.size + 1) w2 acc u8 la SS := HACC.out.same (fun x h1 h2 => hf2.block x h2 (by simp only [List.mem_singleton]; omega))
          have hlB : ∀ x, u8.ownBlock = some x → w1.heap.size + 1 ≤ x := fun x e => (HACC.out.out x e).2
          have hfew : acc.length ≤ 4000 := by have := HJ.out; omega
          have HW : Hid (Below w1.heap.size w1 w2 ∧ Acc (w1.heap.size + 1) w2 acc u8 la SS) := ⟨hbl2, hacc2⟩
          clear hf2 hbl2 hacc2 c1 c3 HCU
          cases hres : one s.size (ts.length + 1) (ts.drop j) with
          | bad p =>
            rw [hres] at hm
            have HK : Hid (readL s.size ts = .bad p) := by
              have h := HEQ.out
              rw [hres] at h
              exact h.symm
            obtain ⟨⟨v, rfl, va, vb, vc, vs, vp, vl, vk, rfl⟩, hp0, z, hcu2⟩ := hm
            have HCU2 : Hid (CuAt w2 w1.heap.size (.slice pt ts.length ct) z s.size p) := hcu2
            clear hcu2 HEQ hres
            go_wp2_with (at_builtin; refine wpList_append_lies _ rfl _ _ 25 rfl 0 30 i0 _ 5 64 Tryz.underlying25 hin hz0 hz1 hz2 rfl (by decide) u8 acc.length (drows la) rfl ((HW.out.2.own.alloc _).alloc _) ⟨w2.heap.size + 1, 0, none⟩ 1 1 [.int .i64 va, .int .i64 vb, .int .i64 vc, .string vs, .slice vp vl vk] rfl rfl ?c1 ?c2 (by decide) ?c3 ?c4 (Nat.zero_le _) (w2.heap.size + 1 + 1) (by simp) ?_)
            case c1 =>
              have hn := heap_alloc_new (w2.alloc (.cells #[.int .i64 va, .int .i64 vb, .int .i64 vc, .string vs, .slice vp vl vk] 30)) (.cells #[.int .i64 va, .int .i64 vb, .int .i64 vc, .string vs, .slice vp vl vk] 30)
              rw [show (w2.alloc (.cells #[.int .i64 va, .int .i64 vb, .int .i64 vc, .string vs, .slice vp vl vk] 30)).heap.size = w2.heap.size + 1 from by simp] at hn
              exact World.news_of_block hn
            case c2 => simp [Value.oneCell']
            case c3 => unfold maxLen; omega
            case c4 => omega
            intro gg cap3 w3 hown3 hgrow hat hlt3
            obtain ⟨k1, k2, k3⟩ := all_next rfl HW.out.1 hsz2 HCU2.out hgrow hlB
            have HN : Hid (SALoop w1 w3 w1.heap.size (.slice pt ts.length ct) ts s.size 0 (.slice (some ⟨gg, 0, none⟩) (acc.length + 1) cap3) (readL s.size ts)) :=
              ⟨k1, k2, rfl, .inr ⟨rfl, p, z, HK.out, hp0, k3⟩⟩
            clear k1 k2 k3 hown3 hgrow hat hlt3 HW HK HCU2
            go_wp2_with fail
            go_roundg 0
            case measure => omega
            case rel => exact HN.out
          | ok d r =>
            rw [hres] at hm
            have hless := (one_less s.size (ts.length + 1) _ _ _ hres).1
            have HK : Hid (restL (one s.size (ts.length + 1)) m (acc ++ [d]) r = readL s.size ts) := by
              have h := HEQ.out
              rw [hres] at h
              exact h
            obtain ⟨v, T, i', rfl, hdo, hTn, hTB, rfl, hi', hcu2⟩ := hm
            rw [List.length_drop, List.length_drop] at hless
            have hgk : 1 ≤ m := by have := HJ.out; omega
            obtain ⟨pv, cv, ev⟩ := hdo.sown.sl.shape
            subst ev
            have HCU2 : Hid (CuAt w2 w1.heap.size (.slice pt ts.length ct) (i' : Nat) s.size (-1)) := hcu2
            have HD : Hid (DOwn w2 d (.slice pv d.len cv) T ∧ T.Nodup ∧ (∀ x ∈ T, wr.heap.size ≤ x)) := ⟨hdo, hTn, hTB⟩
            have HI : Hid (i' ≤ ts.length ∧ j < i') := ⟨hi', by omega⟩
            clear hcu2 HEQ hres hdo hTn hTB hless hi'
            go_wp2_with (at_builtin; refine wpList_append_lies _ rfl _ _ 25 rfl 0 30 i0 _ 5 64 Tryz.underlying25 hin hz0 hz1 hz2 rfl (by decide) u8 acc.length (drows la) rfl ((HW.out.2.own.alloc _).alloc _) ⟨w2.heap.size + 1, 0, none⟩ 1 1 [.int .i64 d.op, .int .i64 d.at_, .int .i64 d.n, .string d.s, .slice pv d.len cv] rfl rfl ?c1 ?c2 (by decide) ?c3 ?c4 (Nat.zero_le _) (w2.heap.size + 1 + 1) (by simp) ?_)
            case c1 =>
              have hn := heap_alloc_new (w2.alloc (.cells #[.int .i64 d.op, .int .i64 d.at_, .int .i64 d.n, .string d.s, .slice pv d.len cv] 30)) (.cells #[.int .i64 d.op, .int .i64 d.at_, .int .i64 d.n, .string d.s, .slice pv d.len cv] 30)
              rw [show (w2.alloc (.cells #[.int .i64 d.op, .int .i64 d.at_, .int .i64 d.n, .string d.s, .slice pv d.len cv] 30)).heap.size = w2.heap.size + 1 from by simp] at hn
              exact World.news_of_block hn
            case c2 => simp [Value.oneCell']
            case c3 => unfold maxLen; omega
            case c4 => omega
            intro gg cap3 w3 hown3 hgrow hat hlt3
            obtain ⟨k1, k2, k3⟩ := all_next rfl HW.out.1 hsz2 HCU2.out hgrow hlB
            have HN : Hid (SALoop w1 w3 w1.heap.size (.slice pt ts.length ct) ts s.size m (.slice (some ⟨gg, 0, none⟩) (acc.length + 1) cap3) (readL s.size ts)) := by
              obtain ⟨d1, d2, d3⟩ := HD.out
              have hb1 := newb w2 (.cells #[.int .i64 d.op, .int .i64 d.at_, .int .i64 d.n, .string d.s, .slice pv d.len cv] 30)
              have hss : (w2.alloc (.cells #[.int .i64 d.op, .int .i64 d.at_, .int .i64 d.n, .string d.s, .slice pv d.len cv] 30)).heap.size = w2.heap.size + 1 := by simp
              have a1 := HW.out.2.same (w' := w2.alloc (.cells #[.int .i64 d.op, .int .i64 d.at_, .int .i64 d.n, .string d.s, .slice pv d.len cv] 30)) (fun x _ hx => hb1.block x hx)
              have a2 := d1.same (w' := w2.alloc (.cells #[.int .i64 d.op, .int .i64 d.at_, .int .i64 d.n, .string d.s, .slice pv d.len cv] 30)) _ (fun x hx => hb1.block x (d1.there _ x hx))
              have a3 := a1.app a2 d2 (fun x hx h => by have h1 := HACC.out.lt x h; have h2 := d3 x hx; omega) (fun x hx h => by have h1 := (HACC.out.own.lt x h).2; have h2 := d3 x hx; omega) (fun x hx => by have h2 := d3 x hx; omega) (by rw [hss]; omega) hown3 hgrow (by rw [hss]; exact hat)
              have hJ := HJ.out
              have hI := HI.out
              exact ⟨k1, k2, rfl, .inl ⟨acc ++ [d], i', m - 1, by omega, k3, ⟨_, _, a3⟩, hI.1, by rw [show m - 1 + 1 = m from by omega]; exact HK.out, by omega, by rw [List.length_append, List.length_singleton]; omega⟩⟩
            clear k1 k2 k3 hown3 hgrow hat hlt3 HW HK HCU2 HD HI
            go_wp2_with fail
            go_roundg m
            case measure => omega
            case rel => exact HN.out
      · have c1 := hcu.c1; have c3 := hcu.c3
        have HQ : Hid (res = .bad p) := HP.out.trans (by rw [hkp])
        have HBW : Hid (Below w.heap.size w wr) := HB1.out.trans (HBL.out.mono HB1.out.size)
        have hp : decide (p < 0) = false := decide_eq_false (by omega)
        have hp2 : ¬ p < 0 := by omega
        clear hcu HP hkp
        go_wp2_with fail
        go_quiet (fail)
        all_goals
          go_wp2_with fail
          go_ret2
          rw [HQ.out]
          exact ⟨HBW.out.trans ⟨rfl, rfl, rfl, Nat.le_refl _, fun _ _ => rfl⟩, _, _, rfl⟩
  · have HQ : Hid (readP s = .bad (toks s).2) := by
      show _ = _
      unfold readP; rw [if_neg hb]
    have hz : 0 ≤ (toks s).2 := by rcases (toks_good s).2.2 with h | h <;> omega
    generalize (toks s).2 = z at *
    generalize (toks s).1 = ts at *
    generalize readP s = res at *
    clear hb
    go_enter Tryz.func7, Tryz.ntmps7
    go_wp2_with fail
    refine (HTK.out _).mono ?_
    rintro e w1 ⟨lv, rfl, hb1, -⟩
    have HX : Hid (Below w.heap.size w w1) := (newb w _).trans (hb1.mono (by simp))
    clear hb1
    go_wp2_with fail
    go_ret2
    rw [HQ.out]
    exact ⟨HX.out, _, _, rfl⟩
end Go.Proofs.YtoljphjmekkneabGreatDoor

/- spec.l3Draw: some data in memory of the call's own. Condition: the code's bytes can be read. -/
namespace Go.Proofs.YtoljphjmekkneabGreatDoor
open Go.ChangeShapes Go.WideShapes Go.ChangeAt Go.RowKit

/-- What a text's data weigh. -/
theorem readP_weight (s : ByteArray) (ds : List D) (r : List Tok) (h : readP s = .ok ds r) : kidsWeight ds.length (kidsOf ds) ≤ 52000 := by
  unfold readP at h
  split at h
  · rename_i hb
    have h4 : s.size ≤ 4000 := by
      by_cases h4 : s.size ≤ 4000
      · exact h4
      · rw [toks_long s h4] at hb; simp at hb
    cases hr : readL s.size (toks s).1 with
    | bad p => rw [hr] at h; simp at h
    | ok ds' r' =>
      rw [hr] at h
      simp only at h
      split at h
      · injection h with h1 _
        subst h1
        exact readL_w _ _ _ _ (toks_w s) (toks_good s).2.1 hr
      · simp at h
  · simp at h

theorem NodeAt.apart {w : World} {t : D} {v : Value} {S : List Nat} {g j : Nat} {x : D} {u : Value} {T : List Nat} (h : NodeAt w t v S g j x u T) (hn : S.Nodup) : T.Nodup ∧ g ∉ T := by
  induction h with
  | here hp hr hj h1 h2 =>
    rw [hr.eq, List.nodup_cons] at hn
    exact ⟨(List.pairwise_flatten.1 hn.2).1 _ (List.mem_of_getElem? h2), fun hg => hn.1 (mem_flat h2 hg)⟩
  | there hp hr hi h1 h2 _ ih =>
    rw [hr.eq, List.nodup_cons] at hn
    exact ih ((List.pairwise_flatten.1 hn.2).1 _ (List.mem_of_getElem? h2))

theorem root_there {w : World} {t : D} {v : Value} {S : List Nat} {g j : Nat} {x : D} {u : Value} {T : List Nat} (h : NodeAt w t v S g j x u T) : ∀ b ∈ S, b < w.heap.size := by
  cases h with
  | here hp hr hj h1 h2 => exact fun b hb => DOwn.there (.mk t.op t.at_ t.n t.s t.len t.kid) (v := v) (S := S) ⟨hp, hr.sown⟩ b hb
  | there hp hr hi h1 h2 _ => exact fun b hb => DOwn.there (.mk t.op t.at_ t.n t.s t.len t.kid) (v := v) (S := S) ⟨hp, hr.sown⟩ b hb

theorem swap_weight {n : Nat} {kid kid' : Nat → D} {x x' : D} {q : Nat} (h : (rootD n kid').weight + x.weight = (rootD n kid).weight + x'.weight) (hw : kidsWeight n kid ≤ 52000) (hx : x'.weight ≤ x.weight + q) (hq : q ≤ 8000) : kidsWeight n kid' ≤ 60000 := by
  have e1 : (rootD n kid').weight = kidsWeight n kid' := by rw [D.weight_eq]; exact Nat.zero_add _
  have e2 : (rootD n kid).weight = kidsWeight n kid := by rw [D.weight_eq]; exact Nat.zero_add _
  omega

/-- One field of a node put anew. -/
theorem put_done {w0 wr : World} {c B n : Nat} {kid : Nat → D} {v : Value} {S : List Nat} {g j : Nat} {x : D} {u : Value} {T : List Nat} (hN : NodeAt w0 (rootD n kid) v S g j x u T) (hn : S.Nodup) (hS : ∀ b ∈ S, B ≤ b) (hcB : c < B) (hw : kidsWeight n kid ≤ 52000) (he : Ext c w0 wr)
    (f : Nat) (y : Value) (x' : D) (hf : f < 5) (hx : dcells (x', u) = (dcells (x, u)).set f y) (hl : x'.len = x.len) (hk : x'.kid = x.kid) (hm : ∃ op a n s k kd, x' = .mk op a n s k kd) (hp : x'.s.size ≤ maxLen ∧ -9223372036854775808 ≤ x'.n ∧ x'.n ≤ 9223372036854775807) (hwt : x'.s.size ≤ 100 + x.s.size) :
    ∃ kid', SlB B (wr.setCell ⟨g, j * 5 + f, none⟩ y) n kid' v ∧ kidsWeight n kid' ≤ 60000 := by
  obtain ⟨h1, h2, h3, -⟩ := hN.facts
  obtain ⟨hTn, hgT⟩ := hN.apart hn
  have hlt : ∀ b ∈ T, b < w0.heap.size := fun b hb => DOwn.there _ h1 b hb
  have hgl : g < w0.heap.size := by
    have := (hN.cells).1.c0
    exact World.block_lt_of_cell? w0 _ this
  have same : ∀ b, b < w0.heap.size → b ≠ g → B ≤ b → (wr.setCell ⟨g, j * 5 + f, none⟩ y).heap[b]? = w0.heap[b]? := fun b hb hbg hB =>
    (Below.heap_setCell wr ⟨g, j * 5 + f, none⟩ y b hbg).trans (he.block b hb (by omega))
  have hd : DOwn (wr.setCell ⟨g, j * 5 + f, none⟩ y) x' u T := by
    obtain ⟨op, a, nn, s, k, kd, rfl⟩ := hm
    refine ⟨hp, ?_⟩
    have := h1.sown.same (w' := wr.setCell ⟨g, j * 5 + f, none⟩ y) (fun b hb => same b (hlt b hb) (fun e => hgT (e ▸ hb)) (hS b (h3 b hb)))
    simp only [D.len, D.kid] at hl hk
    rw [hl, hk]
    exact this
  obtain ⟨kid', S', k1, k2, k3, k4, k5⟩ := hN.swap hn (w' := wr.setCell ⟨g, j * 5 + f, none⟩ y) (x' := x') (u' := u) (T' := T)
    (fun len cap l ho hl hj => row_put (x', u) y (he.block g hgl (by have := hS g h2; omega)) hf hx ho hj) hd hTn (fun b hb => .inl hb)
    (fun b hb hbg _ => same b (by
      have := (root_there hN b hb)
      exact this) hbg (hS b hb))
  refine ⟨kid', k1.sown.slB (fun b hb => ?_), swap_weight k5 hw (q := 100) ?_ (by omega)⟩
  · rcases k3 b hb with h | h
    · exact hS b h
    · exact hS b (h3 b h)
  · rw [D.weight_eq x', D.weight_eq x, hl, hk]
    omega

theorem Ext.transB {c : Nat} {w w1 w2 : World} (h : Ext c w w1) (g : Below w.heap.size w1 w2) : Ext c w w2 :=
  ⟨g.os.trans h.os, g.tape.trans h.tape, g.output.trans h.output, Nat.le_trans h.size g.size, fun k hk hc => (g.block k hk).trans (h.block k hk hc)⟩
theorem CurAt.keepC {c : Nat} {a : Option Addr} {len cap : Nat} {w w' : World} (h : CurAt c a len cap w) (hb : ∀ k, k ≤ c → w'.heap[k]? = w.heap[k]?) : CurAt c a len cap w' := by
  obtain ⟨hc, i, hh, h0, hk⟩ := h
  exact ⟨hc.keep fun k hk _ => hb k (by omega), i, hh, h0, by rw [hb c (Nat.le_refl _)]; exact hk⟩

/-- What is told of drawn data. -/
structure Drawn3 (w w' : World) (c : Nat) (a : Option Addr) (len cap : Nat) (v : Value) : Prop where
  ex : ∃ n kid, SlB w.heap.size w' n kid v ∧ kidsWeight n kid ≤ 60000
  ext : Ext c w w'
  cur : CurAt c a len cap w'

/-- What the walk knows behind the reading. -/
structure Base3 (w w2 : World) (c n : Nat) (kid : Nat → D) (v : Value) (S : List Nat) : Prop where
  nd : S.Nodup
  up : ∀ b ∈ S, w.heap.size ≤ b
  cw : c < w.heap.size
  wt : kidsWeight n kid ≤ 52000
  ext : Ext c w w2

theorem put_finish {w w2 wr : World} {c n : Nat} {kid : Nat → D} {v : Value} {S : List Nat} {a : Option Addr} {len cap : Nat} (hb : Base3 w w2 c n kid v S) {g j : Nat} {x : D} {u : Value} {T : List Nat} (hN : NodeAt w2 (rootD n kid) v S g j x u T) (he : Ext c w2 wr) (hc : CurAt c a len cap wr)
    (f : Nat) (y : Value) (x' : D) (hf : f < 5) (hx : dcells (x', u) = (dcells (x, u)).set f y) (hl : x'.len = x.len) (hk : x'.kid = x.kid) (hm : ∃ op a n s k kd, x' = .mk op a n s k kd) (hp : x'.s.size ≤ maxLen ∧ -9223372036854775808 ≤ x'.n ∧ x'.n ≤ 9223372036854775807) (hwt : x'.s.size ≤ 100 + x.s.size) :
    Drawn3 w (wr.setCell ⟨g, j * 5 + f, none⟩ y) c a len cap v := by
  have hg : w.heap.size ≤ g := hb.up g hN.facts.2.1
  obtain ⟨kid', h1, h2⟩ := put_done hN hb.nd hb.up hb.cw hb.wt he f y x' hf hx hl hk hm hp hwt
  refine ⟨⟨n, kid', h1, h2⟩, (hb.ext.trans he).transB ((Below.refl _ wr).setCell (by exact hg) y), hc.keepC fun k hk => ?_⟩
  exact Below.heap_setCell wr ⟨g, j * 5 + f, none⟩ y k (by have := hb.cw; simp only; omega)

theorem same_finish {w w2 wr : World} {c n : Nat} {kid : Nat → D} {v : Value} {S : List Nat} {a : Option Addr} {len cap : Nat} (hb : Base3 w w2 c n kid v S) (hs : SOwn w2 n kid v S) (he : Ext c w2 wr) (hc : CurAt c a len cap wr) (hlt : ∀ b ∈ S, b < w2.heap.size) : Drawn3 w wr c a len cap v :=
  ⟨⟨n, kid, (hs.same (fun b h => he.block b (hlt b h) (by have := hb.up b h; have := hb.cw; omega))).slB hb.up, by have := hb.wt; omega⟩, hb.ext.trans he, hc⟩
end Go.Proofs.YtoljphjmekkneabGreatDoor
