/- What the draws of chapter 3 answer: data in memory of the call's own, and a text. Condition: the code's bytes can be read. -/
import Derived.Test.YtoljphjmekkneabGreatDoorZG20DrawDat3
import Derived.Test.YtoljphjmekkneabGreatDoorZG21CopyDat
import Derived.Test.YtoljphjmekkneabGreatDoorZG9ReadOne
import Derived.Deep.RegionWith
namespace Go.Proofs.YtoljphjmekkneabGreatDoor
open Go.ChangeShapes Go.WideShapes Go.ChangeAt Go.RowKit

abbrev zeroObj : Obj := .cells #[.int .i64 0, .int .i64 0, .int .i64 0, .string ⟨#[]⟩, .slice none 0 0] 30

/-- A datum that is a draw's, kept where block c alone turns. -/
theorem D.InB.ext {B c : Nat} {w w' : World} {t : D} {v : Value} (h : t.InB B w v) (he : Ext c w w') (hc : c < B) : t.InB B w' v :=
  D.InB.kept (fun a u ha hx => (World.cell?_of_block (he.block a.block (World.block_lt_of_cell? w a hx) (by omega))).trans hx) t h
theorem SlB.ext {B c : Nat} {w w' : World} {n : Nat} {kid : Nat → D} {v : Value} (h : SlB B w n kid v) (he : Ext c w w') (hc : c < B) : SlB B w' n kid v :=
  SlB.kept (fun a u ha hx => (World.cell?_of_block (he.block a.block (World.block_lt_of_cell? w a hx) (by omega))).trans hx) h

theorem five_same (w : World) (R : Nat) (v0 v1 v2 v3 v4 : Value) (x : Nat) (h : x ≠ R) : (((((w.setCell ⟨R, 0, none⟩ v0).setCell ⟨R, 1, none⟩ v1).setCell ⟨R, 2, none⟩ v2).setCell ⟨R, 3, none⟩ v3).setCell ⟨R, 4, none⟩ v4).heap[x]? = w.heap[x]? := by
  rw [Below.heap_setCell _ _ _ _ h, Below.heap_setCell _ _ _ _ h, Below.heap_setCell _ _ _ _ h, Below.heap_setCell _ _ _ _ h, Below.heap_setCell _ _ _ _ h]
/-- Five stores into a new block. -/
theorem five_below (w : World) (B R : Nat) (hR : B ≤ R) (v0 v1 v2 v3 v4 : Value) : Below B w (((((w.setCell ⟨R, 0, none⟩ v0).setCell ⟨R, 1, none⟩ v1).setCell ⟨R, 2, none⟩ v2).setCell ⟨R, 3, none⟩ v3).setCell ⟨R, 4, none⟩ v4) :=
  (((((Below.refl B w).setCell (by exact hR) v0).setCell (by exact hR) v1).setCell (by exact hR) v2).setCell (by exact hR) v3).setCell (by exact hR) v4
theorem five_ext {c : Nat} {w w1 : World} (h : Ext c w w1) (R : Nat) (hR : w.heap.size ≤ R) (v0 v1 v2 v3 v4 : Value) : Ext c w (((((w1.setCell ⟨R, 0, none⟩ v0).setCell ⟨R, 1, none⟩ v1).setCell ⟨R, 2, none⟩ v2).setCell ⟨R, 3, none⟩ v3).setCell ⟨R, 4, none⟩ v4) :=
  h.transB (five_below w1 w.heap.size R hR v0 v1 v2 v3 v4)

theorem row5 {w : World} {R : Nat} {v0 v1 v2 v3 v4 : Value} (h : w.heap[R]? = some (.cells #[v0, v1, v2, v3, v4] 30 (0, 0))) :
    w.cell? ⟨R, 0, none⟩ = some v0 ∧ w.cell? ⟨R, 1, none⟩ = some v1 ∧ w.cell? ⟨R, 2, none⟩ = some v2 ∧ w.cell? ⟨R, 3, none⟩ = some v3 ∧ w.cell? ⟨R, 4, none⟩ = some v4 :=
  ⟨cell_of_row w _ 0 _ _ _ h, cell_of_row w _ 1 _ _ _ h, cell_of_row w _ 2 _ _ _ h, cell_of_row w _ 3 _ _ _ h, cell_of_row w _ 4 _ _ _ h⟩
theorem frz5 {w : World} {R : Nat} {v0 v1 v2 v3 v4 : Value} (h : w.heap[R]? = some (.cells #[v0, v1, v2, v3, v4] 30 (0, 0))) :
    w.frozen? ⟨R, 0, none⟩ = false ∧ w.frozen? ⟨R, 1, none⟩ = false ∧ w.frozen? ⟨R, 2, none⟩ = false ∧ w.frozen? ⟨R, 3, none⟩ = false ∧ w.frozen? ⟨R, 4, none⟩ = false :=
  ⟨frozen_of_row w _ 0 _ _ h, frozen_of_row w _ 1 _ _ h, frozen_of_row w _ 2 _ _ h, frozen_of_row w _ 3 _ _ h, frozen_of_row w _ 4 _ _ h⟩

set_option maxRecDepth 100000 in
set_option maxHeartbeats 4000000 in
theorem drawDat_any (c : Nat) (a : Option Addr) (len cap : Nat) (w : World) (hc : CurAt c a len cap w) :
    Calls Tryz.prog 25 #[.pointer (some ⟨c, 0, none⟩)] w fun e w' => ∃ (t : D) (v : Value), e = .returned (.agg #[.int .i64 t.op, .int .i64 t.at_, .int .i64 t.n, .string t.s, v]) ∧ t.InB w.heap.size w' v ∧ t.weight ≤ 60000 ∧ Ext c w w' ∧ CurAt c a len cap w' := by
  have HCW : Hid (c < w.heap.size) := hc.lt
  obtain ⟨R, hR⟩ : ∃ R, R = w.heap.size := ⟨_, rfl⟩
  go_enter Tryz.func25, Tryz.ntmps25
  go_wp2_with fail
  refine (draw3_any c a len cap _ (hc.alloc _)).mono ?_
  rintro e w2 ⟨v, rfl, hd⟩
  obtain ⟨n, kid, hsl, hwt⟩ := hd.ex
  have hcur2 := hd.cur
  have HE2 : Hid (Ext c (w.alloc zeroObj) w2) := hd.ext
  have hsz : (w.alloc zeroObj).heap.size = w.heap.size + 1 := by simp
  rw [hsz] at hsl
  have HRR : Hid (R = w.heap.size) := hR
  have HR2 : Hid (w2.heap[R]? = some (.cells #[.int .i64 0, .int .i64 0, .int .i64 0, .string ⟨#[]⟩, .slice none 0 0] 30 (0, 0))) := by
    show _ = _
    rw [hR]
    exact (HE2.out.block _ (by simp) (by have := HCW.out; omega)).trans (heap_alloc_new w _)
  have HEW : Hid (Ext c w w2) := ((Ext.refl c w).alloc _).trans HE2.out
  have HSL : Hid (SlB (w.heap.size + 1) w2 n kid v ∧ kidsWeight n kid ≤ 60000) := ⟨hsl, hwt⟩
  obtain ⟨p, q, hv⟩ := hsl.shape
  have hn6 : n ≤ 60000 := by unfold kidsWeight at hwt; omega
  clear hd hsl hwt hsz hc HE2
  rw [← hR]
  clear hR
  subst hv
  by_cases h0 : n = 0
  · subst h0
    obtain ⟨r0, r1, r2, r3, r4⟩ := row5 HR2.out
    obtain ⟨f0, f1, f2, f3, f4⟩ := frz5 HR2.out
    go_wp2_with fail
    refine bodyPost_ret (v := .agg #[.int .i64 0, .int .i64 0, .int .i64 0, .string ⟨#[]⟩, .slice none 0 0]) (by rw [results_cell1 (p := 2) (ty := 30) (by kernel_rfl)]; simp [go_sem, r0, r1, r2, r3, r4]) rfl ?_
    refine ⟨.mk 0 0 0 ⟨#[]⟩ 0 (fun _ => .no), .slice none 0 0, rfl, D.InB.mk' (by unfold maxLen; exact Nat.zero_le _) ⟨by omega, by omega⟩ (.inl ⟨rfl, _, _, rfl⟩), by decide, ?_, ?_⟩
    · exact five_ext HEW.out R (by rw [HRR.out]; exact Nat.le_refl _) _ _ _ _ _
    · exact hcur2.keepC fun k hk => five_same w2 R _ _ _ _ _ k (by have := HCW.out; have := HRR.out; omega)
  · have hne : ((n : Int) == 0) = false := by simp; omega
    go_wp2_with fail
    refine (l1Below_any c a len cap (n : Int) (by omega) _ hcur2).mono ?_
    rintro e w3 ⟨⟨z, z0, _, z1, rfl⟩, hx3, hcur3⟩
    have hzn := z1 (by omega)
    obtain ⟨zn, rfl⟩ : ∃ k : Nat, z = k := ⟨z.toNat, by omega⟩
    have HE3 : Hid (Ext c w w3) := HEW.out.trans hx3
    have HR3 : Hid (w3.heap[R]? = some (.cells #[.int .i64 0, .int .i64 0, .int .i64 0, .string ⟨#[]⟩, .slice none 0 0] 30 (0, 0))) :=
      (hx3.block R (Array.getElem?_eq_some_iff.1 HR2.out).1 (by have := HCW.out; have := HRR.out; omega)).trans HR2.out
    have HS3 : Hid (SlB (w.heap.size + 1) w3 n kid (.slice p n q)) := HSL.out.1.ext hx3 (by have := HCW.out; omega)
    rcases HS3.out with ⟨h, _⟩ | ⟨b, o, cp, V, hv, hBb, hlc, hcm, hall⟩
    · omega
    simp only [Value.slice.injEq, true_and] at hv
    obtain ⟨rfl, rfl⟩ := hv
    obtain ⟨⟨k0, k1, k2, k3, k4⟩, hin⟩ := hall zn (by omega)
    have HT : Hid ((kid zn).InB (w.heap.size + 1) w3 (V zn) ∧ (kid zn).weight ≤ 60000) := ⟨hin, by
      have h1 := sumTo_at (fun i => (kid i).weight) zn n (by omega)
      have h2 := HSL.out.2
      unfold kidsWeight at h2
      omega⟩
    obtain ⟨pk, ck, hvk⟩ := hin.sl.shape
    obtain ⟨r0, r1, r2, r3, r4⟩ := row5 HR3.out
    obtain ⟨f0, f1, f2, f3, f4⟩ := frz5 HR3.out
    have hbR : ¬ b = R := by have := HRR.out; omega
    have hRb : ¬ R = b := by omega
    clear hall hin z1 hx3 hcur2 HEW HR2 HSL
    rw [hvk] at k4 HT
    generalize kid zn = t at *
    clear HS3
    go_wp2_with fail
    refine bodyPost_ret (v := .agg #[.int .i64 t.op, .int .i64 t.at_, .int .i64 t.n, .string t.s, .slice pk t.len ck]) (by rw [results_cell1 (p := 2) (ty := 30) (by kernel_rfl)]; simp [go_sem, r0, r1, r2, r3, r4]) rfl ?_
    refine ⟨t, _, rfl, ?_, HT.out.2, five_ext HE3.out R (by rw [HRR.out]; exact Nat.le_refl _) _ _ _ _ _, ?_⟩
    · refine D.InB.mono (Nat.le_succ _) _ (D.InB.kept (w := w3) (fun ad u ha hx => ?_) t HT.out.1)
      exact (World.cell?_of_block (five_same w3 R _ _ _ _ _ ad.block (by have := HRR.out; omega))).trans hx
    · exact hcur3.keepC fun k hk => five_same w3 R _ _ _ _ _ k (by have := HCW.out; have := HRR.out; omega)
end Go.Proofs.YtoljphjmekkneabGreatDoor

/- (*impl.datReader).readRest. Conditions: as of readOne. -/
namespace Go.Proofs.YtoljphjmekkneabGreatDoor
open Go.ChangeShapes Go.WideShapes Go.ChangeAt Go.RowKit

theorem one_all (w0 : World) (K : Nat) (hK : w0.heap.size ≤ K) (tv : Value) (ts : List Tok) (E : Nat) (htv : TokCells w0 tv ts) (hts : ts.length ≤ 4000) (hok : TokOk ts) (f : Nat) : OneAt w0 K tv ts E f := by
  induction f with
  | zero => intro w i _ _ hi hf; omega
  | succ f ih => exact one_of_kids w0 K hK tv ts E f htv hts hok (kids_of_one w0 K hK tv ts E f htv hts ih)

/-- What the loop of readRest keeps. -/
structure RLoop (w0 w wr : World) (K : Nat) (tv : Value) (ts : List Tok) (E f m : Nat) (res : Rdr (List D)) (acc : List D) (lv : Value) (i : Nat) : Prop where
  ac : ∃ la SS, Acc w.heap.size wr acc lv la SS
  nil : lv = .slice none 0 0 ∨ acc ≠ []
  rd : RdAt wr K tv i E
  fr : FrS w wr [K]
  bel : Below w0.heap.size w0 wr
  le : i ≤ ts.length
  eq : restL (one E f) (m + 1) acc (ts.drop i) = res
  fuel : ts.length - i ≤ m
  few : acc.length + (ts.length - i) ≤ ts.length

def RestSay (w : World) (K : Nat) (res : Rdr (List D)) (e : Ending) (w' : World) : Prop :=
  FrS w w' [K] ∧ match res with
    | .bad p => e = misfit p
    | .ok ds _ => ∃ v T, e = .returned v ∧ SOwn w' ds.length (kidsOf ds) v T ∧ T.Nodup ∧ (∀ x ∈ T, w.heap.size ≤ x)

set_option maxRecDepth 100000 in
set_option maxHeartbeats 4000000 in
theorem read_rest (w0 : World) (K : Nat) (hK : w0.heap.size ≤ K) (tv : Value) (ts : List Tok) (E : Nat) (htv : TokCells w0 tv ts) (hts : ts.length ≤ 4000) (hok : TokOk ts) (w : World) (hbel : Below w0.heap.size w0 w) (hrd : RdAt w K tv 0 E) :
    Calls Tryz.prog 42 #[.pointer (some ⟨K, 0, none⟩)] w (RestSay w K (readL E ts)) := by
  obtain ⟨i0, hin, hz0, hz1, hz2⟩ := info_parts dat_info2
  have HONE : Hid (OneAt w0 K tv ts E (ts.length + 1)) := one_all w0 K hK tv ts E htv hts hok _
  have hsh : ∃ p cap, tv = .slice p ts.length cap := by
    rcases htv with ⟨h, rfl⟩ | ⟨g, cap, h, _⟩
    · exact ⟨_, _, h⟩
    · exact ⟨_, _, h⟩
  obtain ⟨pt, ct, rfl⟩ := hsh
  have H0 : Hid (RLoop w0 w w K (.slice pt ts.length ct) ts E (ts.length + 1) ts.length (readL E ts) [] (.slice none 0 0) 0) :=
    ⟨⟨[], [], Acc.nil _ _⟩, .inl rfl, hrd, FrS.refl _ _, hbel, Nat.zero_le _, rfl, by omega, by simp⟩
  have hKw : K < w.heap.size := hrd.lt
  generalize readL E ts = res at *
  clear hbel hrd htv hok
  go_enter Tryz.func42, Tryz.ntmps42
  go_wp2_with fail
  go_loopg [3] ts.length (fun m lv wr => ∃ acc j, RLoop w0 w wr K (.slice pt ts.length ct) ts E (ts.length + 1) m res acc lv j)
  case atStart => exact ⟨[], 0, H0.out⟩
  case round =>
    obtain ⟨acc, j, hL⟩ := hrel
    have HL : Hid (RLoop w0 w wr K (.slice pt ts.length ct) ts E (ts.length + 1) gk res acc u3 j) := hL
    obtain ⟨la, SS, hacc⟩ := hL.ac
    have HACC : Hid (Acc w.heap.size wr acc u3 la SS) := hacc
    have c0 := hL.rd.c0
    have c1 := hL.rd.c1
    have hjle := hL.le
    clear hL hacc H0
    by_cases hje : j = ts.length
    · subst hje
      have hres : res = .ok acc [] := by
        rw [← HL.out.eq]
        simp [restL]
      subst hres
      obtain ⟨S, hS, hSn, hSB⟩ := HACC.out.sown HL.out.nil
      have HX : Hid (FrS w wr [K] ∧ SOwn wr acc.length (kidsOf acc) u3 S ∧ S.Nodup ∧ (∀ x ∈ S, w.heap.size ≤ x)) := ⟨HL.out.fr, hS, hSn, hSB⟩
      clear hS hSn hSB HL HACC
      go_wp2_with fail
      go_region
      all_goals
        go_wp2_with fail
        go_ret
        exact ⟨HX.out.1.trans (frs_drew _ _), u3, S, rfl, HX.out.2.1.same (fun _ _ => rfl), HX.out.2.2.1, HX.out.2.2.2⟩
    · have hjl : j < ts.length := by omega
      have hdrop : ts.drop j = ts[j] :: ts.drop (j + 1) := List.drop_eq_getElem_cons hjl
      go_wp2_with fail
      go_region
      all_goals
        go_wp2_with fail
        refine (HONE.out _ j HL.out.bel.drew HL.out.rd hjl (by omega)).mono ?_
        rintro e w2 ⟨hf2, hm⟩
        have heq := HL.out.eq
        rw [hdrop] at heq
        have heq2 : (match one E (ts.length + 1) (ts[j] :: ts.drop (j + 1)) with | .bad p => (.bad p : Rdr (List D)) | .ok d r1 => restL (one E (ts.length + 1)) gk (acc ++ [d]) r1) = res := by
          rw [← heq]
          rfl
        rw [← hdrop] at heq2
        cases hres : one E (ts.length + 1) (ts.drop j) with
        | bad p =>
          rw [hres] at hm heq2
          simp only at hm heq2
          subst hm heq2
          have HX : Hid (FrS w w2 [K]) := (HL.out.fr.trans (frs_drew _ _)).trans hf2
          clear hf2 heq
          go_wp2_with fail
          exact ⟨rfl, HX.out, rfl⟩
        | ok d r =>
          rw [hres] at hm heq2
          simp only at hm heq2
          obtain ⟨v, T, i', rfl, hdo, hTn, hTB, rfl, hi', hr2⟩ := hm
          have hless := (one_less E (ts.length + 1) _ _ _ hres).1
          rw [List.length_drop, List.length_drop] at hless
          have hgk : 1 ≤ gk := by have := HL.out.fuel; omega
          have hszd : wr.drew.heap.size = wr.heap.size := rfl
          have hsz2 : wr.heap.size ≤ w2.heap.size := hf2.size
          have hszw : w.heap.size ≤ wr.heap.size := HL.out.fr.size
          have hacc2 : Acc w.heap.size w2 acc u3 la SS := HACC.out.same (fun x hx1 hx2 => hf2.block x hx2 (by simp only [List.mem_singleton]; omega))
          have hTS : ∀ x ∈ T, x ∉ SS.flatten := fun x hx h => by have h1 := HACC.out.lt x h; have h2 := hTB x hx; omega
          have hTl : ∀ x ∈ T, u3.ownBlock ≠ some x := fun x hx h => by have h1 := (HACC.out.own.lt x h).2; have h2 := hTB x hx; omega
          have hTB2 : ∀ x ∈ T, w.heap.size ≤ x := fun x hx => by have h2 := hTB x hx; omega
          obtain ⟨pv, cv, ev⟩ := hdo.sown.sl.shape
          have HA2 : Hid (Acc w.heap.size w2 acc u3 la SS ∧ DOwn w2 d v T ∧ T.Nodup ∧ (∀ x ∈ T, x ∉ SS.flatten) ∧ (∀ x ∈ T, u3.ownBlock ≠ some x) ∧ (∀ x ∈ T, w.heap.size ≤ x)) := ⟨hacc2, hdo, hTn, hTS, hTl, hTB2⟩
          have HF2 : Hid (FrS w w2 [K] ∧ RdAt w2 K (.slice pt ts.length ct) i' E ∧ Below w0.heap.size w0 w2) := ⟨(HL.out.fr.trans (frs_drew _ _)).trans hf2, hr2, hf2.below0 HL.out.bel.drew hK⟩
          have HEQ : Hid (restL (one E (ts.length + 1)) gk (acc ++ [d]) (ts.drop i') = res) := heq2
          have hfew : acc.length ≤ 4000 := by have := HL.out.few; omega
          have hi'j : j < i' := by omega
          have HLF : Hid (ts.length - j ≤ gk ∧ acc.length + (ts.length - j) ≤ ts.length) := ⟨HL.out.fuel, HL.out.few⟩
          clear hf2 hdo hTn hTB hr2 heq heq2 hres hacc2 hTS hTl hTB2 HL HACC hless c0 c1
          subst ev
          go_wp2_with (at_builtin; refine wpList_append_lies _ rfl _ _ 25 rfl 0 30 i0 _ 5 64 Tryz.underlying25 hin hz0 hz1 hz2 rfl (by decide) u3 acc.length (drows la) rfl (HA2.out.1.own.alloc _) ⟨w2.heap.size, 0, none⟩ 1 1 [.int .i64 d.op, .int .i64 d.at_, .int .i64 d.n, .string d.s, .slice pv d.len cv] rfl rfl ?c1 ?c2 (by decide) ?c3 ?c4 (Nat.zero_le _) (w2.heap.size + 1) (by simp) ?_)
          case c1 => exact World.news_of_block (cs := #[.int .i64 d.op, .int .i64 d.at_, .int .i64 d.n, .string d.s, .slice pv d.len cv]) (t := 30) (fr := (0, 0)) (heap_alloc_new w2 _)
          case c2 => simp [Value.oneCell']
          case c3 => unfold maxLen; omega
          case c4 => omega
          intro gg cap3 w3 hown3 hgrow hat hlt3
          obtain ⟨a1, a2, a3, a4, a5, a6⟩ := HA2.out
          obtain ⟨b1, b2, b3⟩ := HF2.out
          have hacc3 := a1.app a2 a3 a4 a5 a6 (by omega) hown3 hgrow hat
          have hsz : ∀ o, (w2.alloc o).heap.size = w2.heap.size + 1 := fun o => by simp
          have hgs := hgrow.size
          rw [hsz] at hgs
          have hb1s := b1.size
          have keep : ∀ x, x < w.heap.size → w3.heap[x]? = w2.heap[x]? := fun x hx =>
            (hgrow.block x (by rw [hsz]; omega) (fun e => by have := (a1.out x e.symm).2; omega)).trans (Below.heap_alloc w2 _ x (by omega))
          have hfr3 : FrS w w3 [K] := ⟨hgrow.os.trans b1.os, hgrow.tape.trans b1.tape, hgrow.output.trans b1.output, by omega, fun x hx hn => (keep x hx).trans (b1.block x hx hn)⟩
          have hrd3 : RdAt w3 K (.slice pt ts.length ct) i' E := (keep K hKw).trans b2
          have hb3s := b3.size
          have hbel3 : Below w0.heap.size w0 w3 := b3.trans ⟨hgrow.os, hgrow.tape, hgrow.output, by omega, fun x hx => keep x (by omega)⟩
          have HN : Hid (RLoop w0 w w3 K (.slice pt ts.length ct) ts E (ts.length + 1) (gk - 1) res (acc ++ [d]) (.slice (some ⟨gg, 0, none⟩) (acc.length + 1) cap3) i') :=
            ⟨⟨_, _, hacc3⟩, .inr (by simp), hrd3, hfr3, hbel3, hi', by rw [show gk - 1 + 1 = gk from by omega]; exact HEQ.out, by have := HLF.out.1; omega, by have := HLF.out.2; rw [List.length_append, List.length_singleton]; omega⟩
          clear hown3 hgrow hat hlt3 a1 a2 a3 a4 a5 a6 b1 b2 b3 hacc3 hsz hgs hb1s keep hfr3 hrd3 hb3s hbel3 HA2 HF2 HEQ
          go_wp2_with fail
          go_roundg (gk - 1)
          case measure => omega
          case rel => exact ⟨acc ++ [d], i', HN.out⟩
end Go.Proofs.YtoljphjmekkneabGreatDoor
