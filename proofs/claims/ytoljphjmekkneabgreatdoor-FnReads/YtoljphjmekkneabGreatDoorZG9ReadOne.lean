/- (*impl.datReader).listIsOver and readKids. Conditions: the tokens lie in memory ahead of the reader; at most 4000. -/
import Derived.Test.YtoljphjmekkneabGreatDoorZG5ReadAcc
import Derived.WalkLawsBesides
import Derived.Deep.LoopGhost
import Derived.BigQuiet
import Derived.Deep.QuietTactic
import Derived.Deep.RegionWith
import Derived.Deep.Cut
import Derived.RegionDies
namespace Go.Proofs.YtoljphjmekkneabGreatDoor
open Go.ChangeShapes Go.WideShapes Go.ChangeAt Go.RowKit

theorem frs_drew (w : World) (S : List Nat) : FrS w w.drew S := ⟨rfl, rfl, rfl, Nat.le_refl _, fun _ _ _ => rfl⟩

set_option maxRecDepth 100000 in
set_option maxHeartbeats 2000000 in
theorem over_end (w : World) (K : Nat) (p : Option Addr) (n cap E : Nat) (h : RdAt w K (.slice p n cap) n E) :
    Calls Tryz.prog 79 #[.pointer (some ⟨K, 0, none⟩)] w fun e w' => e = misfit E ∧ FrS w w' [K] := by
  have c0 := h.c0; have c1 := h.c1; have c2 := h.c2
  go_enter Tryz.func79, Tryz.ntmps79
  go_wp2_with fail
  go_region
  all_goals
    go_wp2_with fail
    exact ⟨rfl, rfl, frs_drew _ _⟩

set_option maxRecDepth 100000 in
set_option maxHeartbeats 2000000 in
theorem over_no (w : World) (K g n cap E i : Nat) (kd : Int) (h : RdAt w K (.slice (some ⟨g, 0, none⟩) n cap) i E) (hi : i < n) (hk : kd ≠ 2) (hc : w.cell? ⟨g, i * 4, none⟩ = some (.int .i64 kd)) :
    Calls Tryz.prog 79 #[.pointer (some ⟨K, 0, none⟩)] w fun e w' => e = .returned (.bool false) ∧ FrS w w' [K] ∧ RdAt w' K (.slice (some ⟨g, 0, none⟩) n cap) i E := by
  have c0 := h.c0; have c1 := h.c1
  have H : Hid (RdAt w K (.slice (some ⟨g, 0, none⟩) n cap) i E) := h
  have hne : ((i : Int) == (n : Int)) = false := by rw [beq_eq_false_iff_ne]; omega
  have hk2 : (kd != 2) = true := by simpa using hk
  have hk3 : (kd == 2) = false := by simpa using hk
  clear h
  go_enter Tryz.func79, Tryz.ntmps79
  go_wp2_with fail
  go_region
  all_goals
    go_wp2_with fail
    go_region
    all_goals
      go_wp2_with fail
      go_ret
      exact ⟨rfl, (frs_drew _ _).trans (frs_drew _ _), H.out⟩

set_option maxRecDepth 100000 in
set_option maxHeartbeats 2000000 in
theorem over_yes (w : World) (K g n cap E i : Nat) (h : RdAt w K (.slice (some ⟨g, 0, none⟩) n cap) i E) (hi : i < n) (hn : n ≤ 4000) (hc : w.cell? ⟨g, i * 4, none⟩ = some (.int .i64 2)) :
    Calls Tryz.prog 79 #[.pointer (some ⟨K, 0, none⟩)] w fun e w' => e = .returned (.bool true) ∧ FrS w w' [K] ∧ RdAt w' K (.slice (some ⟨g, 0, none⟩) n cap) (i + 1) E := by
  have c0 := h.c0; have c1 := h.c1
  have hf := h.fr 1
  have H : Hid (RdAt w K (.slice (some ⟨g, 0, none⟩) n cap) i E) := h
  have hne : ((i : Int) == (n : Int)) = false := by rw [beq_eq_false_iff_ne]; omega
  clear h
  go_enter Tryz.func79, Tryz.ntmps79
  go_wp2_with fail
  go_region
  all_goals
    go_wp2_with fail
    go_region
    all_goals
      go_wp2_with fail
      go_ret
      refine ⟨rfl, ?_, H.out.next⟩
      exact ⟨rfl, rfl, rfl, by simp [World.setCell, World.drew], fun x hx hn => Below.heap_setCell w ⟨K, 1, none⟩ _ x (by simpa using hn)⟩

theorem tok_at {w : World} {tv : Value} {ts : List Tok} (h : TokCells w tv ts) (i : Nat) (hi : i < ts.length) : ∃ g cap, tv = .slice (some ⟨g, 0, none⟩) ts.length cap ∧ w.cell? ⟨g, i * 4, none⟩ = some (.int .i64 ts[i].kind) ∧ w.cell? ⟨g, i * 4 + 1, none⟩ = some (.int .i64 ts[i].at_) ∧ w.cell? ⟨g, i * 4 + 2, none⟩ = some (.int .i64 ts[i].n) ∧ w.cell? ⟨g, i * 4 + 3, none⟩ = some (.string ts[i].text) := by
  rcases h with ⟨_, h⟩ | ⟨g, cap, h1, h2, h3⟩
  · subst h; simp at hi
  · obtain ⟨r0, r1, r2, r3⟩ := rows_at ts i hi
    exact ⟨g, cap, h1, h3 _ _ r0, h3 _ _ r1, h3 _ _ r2, h3 _ _ r3⟩

theorem dat_info2 : (Tryz.prog.info? 30).map (fun i => (i.zero, i.size, i.bytes)) = some (some (.agg #[.int .i64 0, .int .i64 0, .int .i64 0, .string ⟨#[]⟩, .slice none 0 0]), 5, 64) := by kernel_rfl

/-- What the loop of readKids keeps. -/
structure KLoop (w0 w wr : World) (K : Nat) (tv : Value) (ts : List Tok) (E f m : Nat) (res : Rdr (List D)) (acc : List D) (lv : Value) (i : Nat) : Prop where
  ac : ∃ la SS, Acc w.heap.size wr acc lv la SS
  nil : lv = .slice none 0 0 ∨ acc ≠ []
  rd : RdAt wr K tv i E
  fr : FrS w wr [K]
  bel : Below w0.heap.size w0 wr
  le : i ≤ ts.length
  eq : kidsL E (one E f) (m + 1) acc (ts.drop i) = res
  fuel : ts.length - i ≤ m
  few : acc.length + (ts.length - i) ≤ ts.length

set_option maxRecDepth 100000 in
set_option maxHeartbeats 4000000 in
theorem kids_of_one (w0 : World) (K : Nat) (hK : w0.heap.size ≤ K) (tv : Value) (ts : List Tok) (E f : Nat) (htv : TokCells w0 tv ts) (hts : ts.length ≤ 4000) (hone : OneAt w0 K tv ts E f) : KidsAt w0 K tv ts E f := by
  intro w i hbel hrd hi hf
  obtain ⟨i0, hin, hz0, hz1, hz2⟩ := info_parts dat_info2
  have HONE : Hid (OneAt w0 K tv ts E f) := hone
  have HTV : Hid (TokCells w0 tv ts) := htv
  have hl0 : (ts.drop i).length = ts.length - i := by simp
  have H0 : Hid (KLoop w0 w w K tv ts E f (ts.length - i) (kidsL E (one E f) ((ts.drop i).length + 1) [] (ts.drop i)) [] (.slice none 0 0) i) :=
    ⟨⟨[], [], Acc.nil _ _⟩, .inl rfl, hrd, FrS.refl _ _, hbel, hi, by rw [hl0], Nat.le_refl _, by simp⟩
  have HF : Hid (ts.length - i ≤ f) := hf
  have hKw : K < w.heap.size := hrd.lt
  generalize kidsL E (one E f) ((ts.drop i).length + 1) [] (ts.drop i) = res at *
  clear hbel hrd hone htv hl0 hf
  go_enter Tryz.func71, Tryz.ntmps71
  go_wp2_with fail
  go_loopg [3] (ts.length - i) (fun m lv wr => ∃ acc j, j ≥ i ∧ KLoop w0 w wr K tv ts E f m res acc lv j)
  case atStart => exact ⟨[], i, Nat.le_refl _, H0.out⟩
  case round =>
    obtain ⟨acc, j, hji, hL⟩ := hrel
    have HL : Hid (KLoop w0 w wr K tv ts E f gk res acc u3 j) := hL
    obtain ⟨la, SS, hacc⟩ := hL.ac
    have HACC : Hid (Acc w.heap.size wr acc u3 la SS) := hacc
    clear hL hacc H0
    by_cases hje : j = ts.length
    · subst hje
      have hres : res = .bad E := by
        rw [← HL.out.eq]
        simp [kidsL]
      subst hres
      have hsh : ∃ p cap, tv = .slice p ts.length cap := by
        rcases HTV.out with ⟨h, rfl⟩ | ⟨g, cap, h, _⟩
        · exact ⟨_, _, h⟩
        · exact ⟨_, _, h⟩
      obtain ⟨pt, ct, rfl⟩ := hsh
      have HRD : Hid (RdAt wr K (.slice pt ts.length ct) ts.length E ∧ FrS w wr [K]) := ⟨HL.out.rd, HL.out.fr⟩
      clear HL HACC
      go_wp2_with fail
      refine (over_end wr K pt ts.length ct E HRD.out.1).mono ?_
      rintro e w1 ⟨rfl, hf1⟩
      have HX : Hid (FrS w w1 [K]) := HRD.out.2.trans hf1
      clear hf1
      go_wp2_with fail
      exact ⟨rfl, HX.out, rfl⟩
    · have hjl : j < ts.length := by have := HL.out.le; omega
      obtain ⟨g, cap, hgv, t0, t1, t2, t3⟩ := tok_at (HTV.out.below HL.out.bel) j hjl
      subst hgv
      have hdrop : ts.drop j = ts[j] :: ts.drop (j + 1) := List.drop_eq_getElem_cons hjl
      by_cases hk : ts[j].kind = 2
      · have hres : res = .ok acc (ts.drop (j + 1)) := by
          rw [← HL.out.eq, hdrop]
          show (if _ then _ else _) = _
          rw [if_pos hk]
        subst hres
        rw [hk] at t0
        obtain ⟨S, hS, hSn, hSB⟩ := HACC.out.sown HL.out.nil
        have HRD : Hid (RdAt wr K (.slice (some ⟨g, 0, none⟩) ts.length cap) j E ∧ FrS w wr [K] ∧ SOwn wr acc.length (kidsOf acc) u3 S ∧ S.Nodup ∧ (∀ x ∈ S, w.heap.size ≤ x)) := ⟨HL.out.rd, HL.out.fr, hS, hSn, hSB⟩
        clear HL HACC hS hSn hSB
        go_wp2_with fail
        refine (over_yes wr K g ts.length cap E j HRD.out.1 hjl hts t0).mono ?_
        rintro e w1 ⟨rfl, hf1, hr1⟩
        have HX : Hid (FrS w w1 [K] ∧ SOwn w1 acc.length (kidsOf acc) u3 S ∧ RdAt w1 K (.slice (some ⟨g, 0, none⟩) ts.length cap) (j + 1) E) := by
          obtain ⟨_, h2, h3, _, h5⟩ := HRD.out
          exact ⟨h2.trans hf1, h3.same (fun x hx => hf1.block x (h3.lt x hx) (by simp only [List.mem_singleton]; have := h5 x hx; omega)), hr1⟩
        clear hf1 hr1
        go_wp2_with fail
        go_ret
        exact ⟨HX.out.1, u3, S, j + 1, rfl, HX.out.2.1, HRD.out.2.2.2.1, HRD.out.2.2.2.2, rfl, by omega, HX.out.2.2⟩
      · have HRD : Hid (RdAt wr K (.slice (some ⟨g, 0, none⟩) ts.length cap) j E) := HL.out.rd
        go_wp2_with fail
        refine (over_no wr K g ts.length cap E j ts[j].kind HRD.out hjl hk t0).mono ?_
        rintro e w1 ⟨rfl, hf1, hr1⟩
        have HF1 : Hid (FrS wr w1 [K] ∧ RdAt w1 K (.slice (some ⟨g, 0, none⟩) ts.length cap) j E ∧ Below w0.heap.size w0 w1) := ⟨hf1, hr1, hf1.below0 HL.out.bel hK⟩
        clear hf1 hr1 t0 t1 t2 t3
        go_wp2_with fail
        refine (HONE.out w1 j HF1.out.2.2 HF1.out.2.1 hjl (by have := HF.out; omega)).mono ?_
        rintro e w2 ⟨hf2, hm⟩
        have heq := HL.out.eq
        rw [hdrop] at heq
        have heq2 : (match one E f (ts[j] :: ts.drop (j + 1)) with | .bad p => (.bad p : Rdr (List D)) | .ok d r1 => kidsL E (one E f) gk (acc ++ [d]) r1) = res := by
          rw [← heq]
          show _ = (if _ then _ else _)
          rw [if_neg hk]
          rfl
        rw [← hdrop] at heq2
        cases hres : one E f (ts.drop j) with
        | bad p =>
          rw [hres] at hm heq2
          simp only at hm heq2
          subst hm heq2
          have HX : Hid (FrS w w2 [K]) := (HL.out.fr.trans HF1.out.1).trans hf2
          clear hf2 heq
          go_wp2_with fail
          exact ⟨rfl, HX.out, rfl⟩
        | ok d r =>
          rw [hres] at hm heq2
          simp only at hm heq2
          obtain ⟨v, T, i', rfl, hdo, hTn, hTB, rfl, hi', hr2⟩ := hm
          have hless := (one_less E f _ _ _ hres).1
          rw [List.length_drop, List.length_drop] at hless
          have hgk : 1 ≤ gk := by have := HL.out.fuel; omega
          have hsz1 : wr.heap.size ≤ w1.heap.size := HF1.out.1.size
          have hsz2 : w1.heap.size ≤ w2.heap.size := hf2.size
          have hszw : w.heap.size ≤ wr.heap.size := HL.out.fr.size
          have hacc2 : Acc w.heap.size w2 acc u3 la SS := HACC.out.same (fun x hx1 hx2 => (hf2.block x (by omega) (by simp only [List.mem_singleton]; omega)).trans (HF1.out.1.block x hx2 (by simp only [List.mem_singleton]; omega)))
          have hTS : ∀ x ∈ T, x ∉ SS.flatten := fun x hx h => by have h1 := HACC.out.lt x h; have h2 := hTB x hx; omega
          have hTl : ∀ x ∈ T, u3.ownBlock ≠ some x := fun x hx h => by have h1 := (HACC.out.own.lt x h).2; have h2 := hTB x hx; omega
          have hTB2 : ∀ x ∈ T, w.heap.size ≤ x := fun x hx => by have h2 := hTB x hx; omega
          obtain ⟨pv, cv, ev⟩ := hdo.sown.sl.shape
          have HA2 : Hid (Acc w.heap.size w2 acc u3 la SS ∧ DOwn w2 d v T ∧ T.Nodup ∧ (∀ x ∈ T, x ∉ SS.flatten) ∧ (∀ x ∈ T, u3.ownBlock ≠ some x) ∧ (∀ x ∈ T, w.heap.size ≤ x)) := ⟨hacc2, hdo, hTn, hTS, hTl, hTB2⟩
          have HF2 : Hid (FrS w w2 [K] ∧ RdAt w2 K (.slice (some ⟨g, 0, none⟩) ts.length cap) i' E ∧ Below w0.heap.size w0 w2) := ⟨(HL.out.fr.trans HF1.out.1).trans hf2, hr2, hf2.below0 HF1.out.2.2 hK⟩
          have HEQ : Hid (kidsL E (one E f) gk (acc ++ [d]) (ts.drop i') = res) := heq2
          have hfew : acc.length ≤ 4000 := by have := HL.out.few; omega
          have hi'j : j < i' := by omega
          have HLF : Hid (ts.length - j ≤ gk ∧ acc.length + (ts.length - j) ≤ ts.length) := ⟨HL.out.fuel, HL.out.few⟩
          clear hf2 hdo hTn hTB hr2 heq heq2 hres hacc2 hTS hTl hTB2 HL HACC HF1 HRD hless
          subst ev
          go_wp2_with (at_builtin; refine wpList_append_lies _ rfl _ _ 25 rfl 0 30 i0 _ 5 64 Tryz.underlying25 hin hz0 hz1 hz2 rfl (by decide) u3 acc.length (drows la) rfl (HA2.out.1.own.alloc _) ⟨w2.heap.size, 0, none⟩ 1 1 [.int .i64 d.op, .int .i64 d.at_, .int .i64 d.n, .string d.s, .slice pv d.len cv] rfl rfl ?c1 ?c2 (by decide) ?c3 ?c4 (Nat.zero_le _) (w2.heap.size + 1) (by simp) ?_)
          case c1 => exact World.news_of_block (cs := #[.int .i64 d.op, .int .i64 d.at_, .int .i64 d.n, .string d.s, .slice pv d.len cv]) (t := 30) (fr := (0, 0)) (heap_alloc_new w2 _)
          case c2 => simp [Value.oneCell']
          case c3 => unfold maxLen; omega
          case c4 => omega
          intro gg cap3 w3 hown3 hgrow hat hlt3
          obtain ⟨a1, a2, a3, a4, a5, a6⟩ := HA2.out
          obtain ⟨b1, b2, b3⟩ := HF2.out
          have hacc3 := a1.app a2 a3 a4 a5 a6 (by omega) hown3 hgrow hat
          have hsz : ∀ o, (w2.alloc o).heap.size = w2.heap.size + 1 := fun o => by simp
          have hgs := hgrow.size
          rw [hsz] at hgs
          have hb1s := b1.size
          have keep : ∀ x, x < w.heap.size → w3.heap[x]? = w2.heap[x]? := fun x hx =>
            (hgrow.block x (by rw [hsz]; omega) (fun e => by have := (a1.out x e.symm).2; omega)).trans (Below.heap_alloc w2 _ x (by omega))
          have hfr3 : FrS w w3 [K] := ⟨hgrow.os.trans b1.os, hgrow.tape.trans b1.tape, hgrow.output.trans b1.output, by omega, fun x hx hn => (keep x hx).trans (b1.block x hx hn)⟩
          have hrd3 : RdAt w3 K (.slice (some ⟨g, 0, none⟩) ts.length cap) i' E := (keep K hKw).trans b2
          have hb3s := b3.size
          have hbel3 : Below w0.heap.size w0 w3 := b3.trans ⟨hgrow.os, hgrow.tape, hgrow.output, by omega, fun x hx => keep x (by omega)⟩
          have HN : Hid (KLoop w0 w w3 K (.slice (some ⟨g, 0, none⟩) ts.length cap) ts E f (gk - 1) res (acc ++ [d]) (.slice (some ⟨gg, 0, none⟩) (acc.length + 1) cap3) i') :=
            ⟨⟨_, _, hacc3⟩, .inr (by simp), hrd3, hfr3, hbel3, hi', by rw [show gk - 1 + 1 = gk from by omega]; exact HEQ.out, by have := HLF.out.1; omega, by have := HLF.out.2; rw [List.length_append, List.length_singleton]; omega⟩
          clear hown3 hgrow hat hlt3 a1 a2 a3 a4 a5 a6 b1 b2 b3 hacc3 hsz hgs hb1s keep hfr3 hrd3 hb3s hbel3 HA2 HF2 HEQ
          go_wp2_with fail
          go_roundg (gk - 1)
          case measure => omega
          case rel => exact ⟨acc ++ [d], i', by omega, HN.out⟩
end Go.Proofs.YtoljphjmekkneabGreatDoor

/- (*impl.datReader).readOne. Conditions: as of readKids; the tokens are right. -/
namespace Go.Proofs.YtoljphjmekkneabGreatDoor
open Go.ChangeShapes Go.WideShapes Go.ChangeAt Go.RowKit

/-- The world behind the token was taken. -/
abbrev took (w : World) (K i : Nat) (o1 o2 : Obj) : World := (((w.setCell ⟨K, 1, none⟩ (.int .i64 ((i : Int) + 1))).alloc o1).alloc o2).drew

theorem took_says {w : World} {K : Nat} {tv : Value} {i E : Nat} (h : RdAt w K tv i E) (o1 o2 : Obj) :
    FrS w (took w K i o1 o2) [K] ∧ RdAt (took w K i o1 o2) K tv (i + 1) E ∧ (took w K i o1 o2).heap.size = w.heap.size + 2 ∧ (took w K i o1 o2).heap[w.heap.size]? = some o1 ∧ (took w K i o1 o2).heap[w.heap.size + 1]? = some o2 := by
  have hs : (w.setCell ⟨K, 1, none⟩ (.int .i64 ((i : Int) + 1))).heap.size = w.heap.size := by simp [World.setCell]
  have b : Below (w.setCell ⟨K, 1, none⟩ (.int .i64 ((i : Int) + 1))).heap.size (w.setCell ⟨K, 1, none⟩ (.int .i64 ((i : Int) + 1))) (took w K i o1 o2) := ((newb _ o1).trans ((newb _ o2).mono (by simp))).drew
  have n1 := heap_alloc_new (w.setCell ⟨K, 1, none⟩ (.int .i64 ((i : Int) + 1))) o1
  have n2 := heap_alloc_new ((w.setCell ⟨K, 1, none⟩ (.int .i64 ((i : Int) + 1))).alloc o1) o2
  have e1 : ((w.setCell ⟨K, 1, none⟩ (.int .i64 ((i : Int) + 1))).alloc o1).heap.size = w.heap.size + 1 := by simp [World.setCell]
  rw [e1] at n2
  rw [hs] at n1
  refine ⟨⟨b.os, b.tape, b.output, by have := b.size; omega, fun x hx hn => (b.block x (by omega)).trans (Below.heap_setCell w ⟨K, 1, none⟩ _ x (by simpa using hn))⟩, h.next.below b, by simp [took, World.setCell, World.drew], ?_, n2⟩
  exact (Below.heap_alloc _ o2 w.heap.size (by omega)).trans n1

theorem dnum_own (w : World) (t : Tok) (h : -1073741824 ≤ t.n ∧ t.n ≤ 1073741823) : DOwn w (dNum t) (.slice none 0 0) [] := by
  refine ⟨⟨Nat.zero_le _, ?_, ?_⟩, .inl ⟨rfl, rfl, rfl⟩⟩
  · omega
  · omega
theorem dsym_own (w : World) (t : Tok) (h : t.text.size ≤ 4000) : DOwn w (dSym t) (.slice none 0 0) [] := by
  refine ⟨⟨by unfold maxLen; omega, by omega, by omega⟩, .inl ⟨rfl, rfl, rfl⟩⟩

theorem dlist_own {w : World} {t : Tok} {ds : List D} {v : Value} {T : List Nat} (h : SOwn w ds.length (kidsOf ds) v T) : DOwn w (dList t ds) v T := by
  refine ⟨⟨Nat.zero_le _, by omega, by omega⟩, h⟩

theorem set5_same {w : World} {N x : Nat} {v0 v1 v2 v3 v4 : Value} (h : x ≠ N) :
    (((((w.setCell ⟨N, 0, none⟩ v0).setCell ⟨N, 1, none⟩ v1).setCell ⟨N, 2, none⟩ v2).setCell ⟨N, 3, none⟩ v3).setCell ⟨N, 4, none⟩ v4).heap[x]? = w.heap[x]? := by
  rw [Below.heap_setCell _ _ _ _ h, Below.heap_setCell _ _ _ _ h, Below.heap_setCell _ _ _ _ h, Below.heap_setCell _ _ _ _ h, Below.heap_setCell _ _ _ _ h]

set_option maxRecDepth 100000 in
set_option maxHeartbeats 4000000 in
theorem one_of_kids (w0 : World) (K : Nat) (hK : w0.heap.size ≤ K) (tv : Value) (ts : List Tok) (E f : Nat) (htv : TokCells w0 tv ts) (hts : ts.length ≤ 4000) (hok : TokOk ts) (hkids : KidsAt w0 K tv ts E f) : OneAt w0 K tv ts E (f + 1) := by
  intro w i hbel hrd hi hf
  obtain ⟨g, cap, rfl, t0, t1, t2, t3⟩ := tok_at (htv.below hbel) i hi
  have hdrop : ts.drop i = ts[i] :: ts.drop (i + 1) := List.drop_eq_getElem_cons hi
  have htk := hok ts[i] (List.getElem_mem hi)
  have c0 := hrd.c0; have c1 := hrd.c1
  have hKw := hrd.lt
  have hcf := hrd.fr 1
  have HTS : Hid (∀ o1 o2, FrS w (took w K i o1 o2) [K] ∧ RdAt (took w K i o1 o2) K (.slice (some ⟨g, 0, none⟩) ts.length cap) (i + 1) E ∧ (took w K i o1 o2).heap.size = w.heap.size + 2 ∧ (took w K i o1 o2).heap[w.heap.size]? = some o1 ∧ (took w K i o1 o2).heap[w.heap.size + 1]? = some o2) := fun o1 o2 => took_says hrd o1 o2
  have HB : Hid (Below w0.heap.size w0 w) := hbel
  have HKD : Hid (KidsAt w0 K (.slice (some ⟨g, 0, none⟩) ts.length cap) ts E f) := hkids
  have HRES : Hid (one E (f + 1) (ts.drop i) = if ts[i].kind = 3 then .ok (dNum ts[i]) (ts.drop (i + 1)) else if ts[i].kind = 4 then .ok (dSym ts[i]) (ts.drop (i + 1)) else if ts[i].kind = 2 then .bad ts[i].at_
    else match kidsL E (one E f) ((ts.drop (i + 1)).length + 1) [] (ts.drop (i + 1)) with
      | .bad p => .bad p
      | .ok ds r1 => .ok (dList ts[i] ds) r1) := by rw [hdrop]; rfl
  generalize one E (f + 1) (ts.drop i) = res at *
  generalize hT : ts[i] = t at *
  clear hrd hbel hkids hT htv hok hdrop
  obtain ⟨tk, ta, tn, tx⟩ := t
  simp only at t0 t1 t2 t3 htk HRES
  have a0 := fun x y => keeps ((newb w x).trans ((newb _ y).mono (by simp))) _ _ c0; have a1 := fun x y => keeps ((newb w x).trans ((newb _ y).mono (by simp))) _ _ c1
  have d0 := fun x => keeps (newb w x) _ _ c0; have d1 := fun x => keeps (newb w x) _ _ c1
  by_cases h3 : tk = 3
  · subst h3
    have HX : Hid (res = .ok (dNum ⟨3, ta, tn, tx⟩) (ts.drop (i + 1))) := HRES.out.trans (by rw [if_pos rfl])
    have b0 := fun x y => keeps ((newb w x).trans ((newb _ y).mono (by simp))) _ _ t0; have b1 := fun x y => keeps ((newb w x).trans ((newb _ y).mono (by simp))) _ _ t1; have b2 := fun x y => keeps ((newb w x).trans ((newb _ y).mono (by simp))) _ _ t2; have b3 := fun x y => keeps ((newb w x).trans ((newb _ y).mono (by simp))) _ _ t3
    have e0 := fun x => keeps (newb w x) _ _ t0; have e1 := fun x => keeps (newb w x) _ _ t1; have e2 := fun x => keeps (newb w x) _ _ t2; have e3 := fun x => keeps (newb w x) _ _ t3
    clear HRES
    go_enter Tryz.func59, Tryz.ntmps59
    go_wp2_with fail
    go_region
    all_goals
      go_wp2_with fail
      refine bodyPost_ret (v := .agg #[.int .i64 1, .int .i64 ta, .int .i64 tn, .string ⟨#[]⟩, .slice none 0 0]) (by rw [results_cell1 (p := 2) (ty := 30) (by kernel_rfl)]; simp [go_sem]) rfl ?_
      obtain ⟨q1, q2, -⟩ := HTS.out (.cells #[.int .i64 1, .int .i64 ta, .int .i64 tn, .string ⟨#[]⟩, .slice none 0 0] 30) (.cells #[.int .i64 3, .int .i64 ta, .int .i64 tn, .string tx] 78)
      rw [HX.out]
      exact ⟨q1, .slice none 0 0, [], i + 1, rfl, dnum_own _ _ htk.2.1, by simp, by simp, rfl, by omega, q2⟩
  · by_cases h4 : tk = 4
    · subst h4
      have HX : Hid (res = .ok (dSym ⟨4, ta, tn, tx⟩) (ts.drop (i + 1))) := HRES.out.trans (by rw [if_neg (by omega), if_pos rfl])
      have b0 := fun x y => keeps ((newb w x).trans ((newb _ y).mono (by simp))) _ _ t0; have b1 := fun x y => keeps ((newb w x).trans ((newb _ y).mono (by simp))) _ _ t1; have b2 := fun x y => keeps ((newb w x).trans ((newb _ y).mono (by simp))) _ _ t2; have b3 := fun x y => keeps ((newb w x).trans ((newb _ y).mono (by simp))) _ _ t3
      have e0 := fun x => keeps (newb w x) _ _ t0; have e1 := fun x => keeps (newb w x) _ _ t1; have e2 := fun x => keeps (newb w x) _ _ t2; have e3 := fun x => keeps (newb w x) _ _ t3
      clear HRES
      go_enter Tryz.func59, Tryz.ntmps59
      go_wp2_with fail
      go_region
      all_goals
        go_wp2_with fail
        refine bodyPost_ret (v := .agg #[.int .i64 2, .int .i64 ta, .int .i64 0, .string tx, .slice none 0 0]) (by rw [results_cell1 (p := 2) (ty := 30) (by kernel_rfl)]; simp [go_sem]) rfl ?_
        obtain ⟨q1, q2, -⟩ := HTS.out (.cells #[.int .i64 2, .int .i64 ta, .int .i64 0, .string tx, .slice none 0 0] 30) (.cells #[.int .i64 4, .int .i64 ta, .int .i64 tn, .string tx] 78)
        rw [HX.out]
        exact ⟨q1, .slice none 0 0, [], i + 1, rfl, dsym_own _ _ htk.2.2, by simp, by simp, rfl, by omega, q2⟩
    · by_cases h2 : tk = 2
      · subst h2
        have HX : Hid (res = .bad ta) := HRES.out.trans (by rw [if_neg (by omega), if_neg (by omega), if_pos rfl])
        have b0 := fun x y => keeps ((newb w x).trans ((newb _ y).mono (by simp))) _ _ t0; have b1 := fun x y => keeps ((newb w x).trans ((newb _ y).mono (by simp))) _ _ t1; have b2 := fun x y => keeps ((newb w x).trans ((newb _ y).mono (by simp))) _ _ t2; have b3 := fun x y => keeps ((newb w x).trans ((newb _ y).mono (by simp))) _ _ t3
        have e0 := fun x => keeps (newb w x) _ _ t0; have e1 := fun x => keeps (newb w x) _ _ t1; have e2 := fun x => keeps (newb w x) _ _ t2; have e3 := fun x => keeps (newb w x) _ _ t3
        clear HRES
        go_enter Tryz.func59, Tryz.ntmps59
        go_wp2_with fail
        go_region
        all_goals
          go_wp2_with fail
          obtain ⟨q1, q2, -⟩ := HTS.out (.cells #[.int .i64 0, .int .i64 0, .int .i64 0, .string ⟨#[]⟩, .slice none 0 0] 30) (.cells #[.int .i64 2, .int .i64 ta, .int .i64 tn, .string tx] 78)
          rw [HX.out]
          exact ⟨rfl, q1, rfl⟩
      · have h1 : tk = 1 := by omega
        subst h1
        have HX : Hid (res = match kidsL E (one E f) ((ts.drop (i + 1)).length + 1) [] (ts.drop (i + 1)) with
          | .bad p => .bad p
          | .ok ds r1 => .ok (dList ⟨1, ta, tn, tx⟩ ds) r1) := HRES.out.trans (by rw [if_neg (by omega), if_neg (by omega), if_neg (by omega)])
        have b0 := fun x y => keeps ((newb w x).trans ((newb _ y).mono (by simp))) _ _ t0; have b1 := fun x y => keeps ((newb w x).trans ((newb _ y).mono (by simp))) _ _ t1; have b2 := fun x y => keeps ((newb w x).trans ((newb _ y).mono (by simp))) _ _ t2; have b3 := fun x y => keeps ((newb w x).trans ((newb _ y).mono (by simp))) _ _ t3
        have e0 := fun x => keeps (newb w x) _ _ t0; have e1 := fun x => keeps (newb w x) _ _ t1; have e2 := fun x => keeps (newb w x) _ _ t2; have e3 := fun x => keeps (newb w x) _ _ t3
        clear HRES
        have HCK : Hid (∀ W, Below w0.heap.size w0 W → RdAt W K (.slice (some ⟨g, 0, none⟩) ts.length cap) (i + 1) E → Calls Tryz.prog 71 #[.pointer (some ⟨K, 0, none⟩)] W (KidsSay W K (.slice (some ⟨g, 0, none⟩) ts.length cap) ts E (kidsL E (one E f) ((ts.drop (i + 1)).length + 1) [] (ts.drop (i + 1))))) :=
          fun W h1 h2 => HKD.out W (i + 1) h1 h2 (by omega) (by omega)
        generalize kidsL E (one E f) ((ts.drop (i + 1)).length + 1) [] (ts.drop (i + 1)) = kres at *
        clear HKD
        obtain ⟨q1, q2, q3, q4, q5⟩ := HTS.out (.cells #[.int .i64 0, .int .i64 0, .int .i64 0, .string ⟨#[]⟩, .slice none 0 0] 30) (.cells #[.int .i64 1, .int .i64 ta, .int .i64 tn, .string tx] 78)
        have HQ : Hid (FrS w (took w K i (.cells #[.int .i64 0, .int .i64 0, .int .i64 0, .string ⟨#[]⟩, .slice none 0 0] 30) (.cells #[.int .i64 1, .int .i64 ta, .int .i64 tn, .string tx] 78)) [K] ∧ RdAt (took w K i (.cells #[.int .i64 0, .int .i64 0, .int .i64 0, .string ⟨#[]⟩, .slice none 0 0] 30) (.cells #[.int .i64 1, .int .i64 ta, .int .i64 tn, .string tx] 78)) K (.slice (some ⟨g, 0, none⟩) ts.length cap) (i + 1) E ∧ (took w K i (.cells #[.int .i64 0, .int .i64 0, .int .i64 0, .string ⟨#[]⟩, .slice none 0 0] 30) (.cells #[.int .i64 1, .int .i64 ta, .int .i64 tn, .string tx] 78)).heap.size = w.heap.size + 2 ∧ (took w K i (.cells #[.int .i64 0, .int .i64 0, .int .i64 0, .string ⟨#[]⟩, .slice none 0 0] 30) (.cells #[.int .i64 1, .int .i64 ta, .int .i64 tn, .string tx] 78)).heap[w.heap.size]? = some (.cells #[.int .i64 0, .int .i64 0, .int .i64 0, .string ⟨#[]⟩, .slice none 0 0] 30) ∧ (took w K i (.cells #[.int .i64 0, .int .i64 0, .int .i64 0, .string ⟨#[]⟩, .slice none 0 0] 30) (.cells #[.int .i64 1, .int .i64 ta, .int .i64 tn, .string tx] 78)).heap[w.heap.size + 1]? = some (.cells #[.int .i64 1, .int .i64 ta, .int .i64 tn, .string tx] 78)) := ⟨q1, q2, q3, q4, q5⟩
        clear q1 q2 q3 q4 q5
        cases kres with
        | bad p =>
          have HY : Hid (res = .bad p) := HX.out
          clear HX
          go_enter Tryz.func59, Tryz.ntmps59
          go_wp2_with fail
          go_region
          all_goals
            go_upto_region 9 with fail
            unfold took at HQ
            generalize hW : (((w.setCell ⟨K, 1, none⟩ (.int .i64 ((i : Int) + 1))).alloc (.cells #[.int .i64 0, .int .i64 0, .int .i64 0, .string ⟨#[]⟩, .slice none 0 0] 30)).alloc (.cells #[.int .i64 1, .int .i64 ta, .int .i64 tn, .string tx] 78)).drew = W at *
            have k1 : W.cell? ⟨w.heap.size + 1, 1, none⟩ = some (.int .i64 ta) := cell_of_row W _ 1 _ _ _ HQ.out.2.2.2.2
            have HBW : Hid (Below w0.heap.size w0 W) := HQ.out.1.below0 HB.out hK
            clear hW a0 a1 d0 d1 b0 b1 b2 b3 e0 e1 e2 e3 t0 t1 t2 t3 c0 c1 hcf HTS
            go_region_dies
            all_goals
              refine (HCK.out _ ?_ ?_).mono ?_
              · exact HBW.out.drew
              · exact HQ.out.2.1
              · rintro e w1 ⟨hf1, rfl⟩
                simp only
                rw [HY.out]
                exact ⟨rfl, HQ.out.1.trans ((frs_drew _ _).trans hf1), rfl⟩
        | ok ds r1 =>
          have HY : Hid (res = .ok (dList ⟨1, ta, tn, tx⟩ ds) r1) := HX.out
          clear HX
          go_enter Tryz.func59, Tryz.ntmps59
          go_wp2_with fail
          go_region
          all_goals
            go_upto_region 9 with fail
            unfold took at HQ
            generalize hW : (((w.setCell ⟨K, 1, none⟩ (.int .i64 ((i : Int) + 1))).alloc (.cells #[.int .i64 0, .int .i64 0, .int .i64 0, .string ⟨#[]⟩, .slice none 0 0] 30)).alloc (.cells #[.int .i64 1, .int .i64 ta, .int .i64 tn, .string tx] 78)).drew = W at *
            have k1 : W.cell? ⟨w.heap.size + 1, 1, none⟩ = some (.int .i64 ta) := cell_of_row W _ 1 _ _ _ HQ.out.2.2.2.2
            have HBW : Hid (Below w0.heap.size w0 W) := HQ.out.1.below0 HB.out hK
            clear hW a0 a1 d0 d1 b0 b1 b2 b3 e0 e1 e2 e3 t0 t1 t2 t3 c0 c1 hcf HTS
            go_region_with ((go_at_call 71; refine (HCK.out _ ?_ ?_).mono ?_; exact HBW.out.drew; exact HQ.out.2.1; rintro e w1 ⟨hf1, v, T, i', rfl, hs, hn, hTB, hr1, hi', hr⟩; obtain ⟨pv, cv, ev⟩ := hs.sl.shape; subst ev; have hz : w1.heap[w.heap.size]? = some (.cells #[.int .i64 0, .int .i64 0, .int .i64 0, .string ⟨#[]⟩, .slice none 0 0] 30) := (hf1.block _ (by show w.heap.size < W.heap.size; have := HQ.out.2.2.1; omega) (by simp only [List.mem_singleton]; omega)).trans HQ.out.2.2.2.1; have hk : w1.heap[w.heap.size + 1]? = some (.cells #[.int .i64 1, .int .i64 ta, .int .i64 tn, .string tx] 78) := (hf1.block _ (by show w.heap.size + 1 < W.heap.size; have := HQ.out.2.2.1; omega) (by simp only [List.mem_singleton]; omega)).trans HQ.out.2.2.2.2; have k2 : w1.cell? ⟨w.heap.size + 1, 1, none⟩ = some (.int .i64 ta) := cell_of_row w1 _ 1 _ _ _ hk; have z0 : w1.cell? ⟨w.heap.size, 0, none⟩ = some (.int .i64 0) := cell_of_row w1 _ 0 _ _ _ hz; have z1 : w1.cell? ⟨w.heap.size, 1, none⟩ = some (.int .i64 0) := cell_of_row w1 _ 1 _ _ _ hz; have z2 : w1.cell? ⟨w.heap.size, 2, none⟩ = some (.int .i64 0) := cell_of_row w1 _ 2 _ _ _ hz; have z3 : w1.cell? ⟨w.heap.size, 3, none⟩ = some (.string ⟨#[]⟩) := cell_of_row w1 _ 3 _ _ _ hz; have z4 : w1.cell? ⟨w.heap.size, 4, none⟩ = some (.slice none 0 0) := cell_of_row w1 _ 4 _ _ _ hz; have zf : ∀ j, w1.frozen? ⟨w.heap.size, j, none⟩ = false := fun j => frozen_of_row w1 _ j _ _ hz; have HE : Hid (FrS W.drew w1 [K] ∧ SOwn w1 ds.length (kidsOf ds) (.slice pv ds.length cv) T ∧ T.Nodup ∧ (∀ x ∈ T, w.heap.size + 2 ≤ x) ∧ r1 = ts.drop i' ∧ i' ≤ ts.length ∧ RdAt w1 K (.slice (some ⟨g, 0, none⟩) ts.length cap) i' E) := ⟨hf1, hs, hn, (fun x hx => by have h1 := hTB x hx; have h2 : W.drew.heap.size = w.heap.size + 2 := HQ.out.2.2.1; omega), hr1, hi', hr⟩; clear hf1 hs hn hTB hr1 hi' hr hz hk))
            all_goals
              go_wp2_with fail
              refine bodyPost_ret (v := .agg #[.int .i64 3, .int .i64 ta, .int .i64 0, .string ⟨#[]⟩, .slice pv ds.length cv]) (by rw [results_cell1 (p := 2) (ty := 30) (by kernel_rfl)]; simp [go_sem, z0, z1, z2, z3, z4]) rfl ?_
              rw [HY.out]
              obtain ⟨p1, p2, p3, p4, p5, p6, p7⟩ := HE.out
              have hs2 := HQ.out.2.2.1
              have hsd : W.drew.heap.size = w.heap.size + 2 := hs2
              exact ⟨⟨p1.os.trans HQ.out.1.os, p1.tape.trans HQ.out.1.tape, p1.output.trans HQ.out.1.output, by have h1 := p1.size; simp [World.setCell]; omega, fun x hx hn => (set5_same (by omega)).trans ((p1.block x (by omega) hn).trans (HQ.out.1.block x hx hn))⟩, _, T, i', rfl, dlist_own (p2.same (fun x hx => set5_same (by have := p4 x hx; omega))), p3, (fun x hx => by have := p4 x hx; omega), p5, p6, (set5_same (by omega)).trans p7⟩
end Go.Proofs.YtoljphjmekkneabGreatDoor
