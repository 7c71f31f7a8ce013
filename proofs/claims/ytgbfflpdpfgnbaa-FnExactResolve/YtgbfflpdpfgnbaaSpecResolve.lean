/- spec.Resolve at every row of binds. Condition: at most 2^20 of them, no set of more than 2^22. -/
import Derived.Test.YtgbfflpdpfgnbaaImplResolve2
import Derived.Test.YtgbfflpdpfgnbaaIntsRead
import Derived.Test.YtgbfflpdpfgnbaaIntsSpec
import Derived.Deep.Cut
import Derived.BigQuiet
import Derived.Deep.RegionHeld3
import Derived.Deep.QuietTactic
namespace Go.Proofs.Ytgbfflpdpfgnbaa
open Go.ChangeShapes Go.WideShapes Go.ChangeAt Go.RowKit

theorem res_found (bd : Nat → Bd) (l : List Nat) (k : Nat) (hk : k < l.length) (hno : ∀ j (hj : j < k), allIn bd l (bd (l[j]'(by omega))).set = false) (h : allIn bd l (bd l[k]).set = true) : resOf bd l = (((l[k] : Nat) : Int), (0 : Int)) := by
  unfold resOf
  have hf : l.find? (fun i => allIn bd l (bd i).set) = some l[k] := by
    rw [List.find?_eq_some_iff_getElem]
    exact ⟨h, k, hk, rfl, fun j hj => by simp [hno j hj]⟩
  rw [hf]
theorem res_none (bd : Nat → Bd) (l : List Nat) (hno : ∀ j (hj : j < l.length), allIn bd l (bd l[j]).set = false) : resOf bd l = (-1, 2) := by
  unfold resOf
  have hf : l.find? (fun i => allIn bd l (bd i).set) = none := by
    rw [List.find?_eq_none]
    intro x hx
    obtain ⟨j, hj, rfl⟩ := List.mem_iff_getElem.1 hx
    simp [hno j hj]
  rw [hf]

theorem below_drewN {B : Nat} {w w1 : World} (h : Below B w w1) (n : Nat) : Below B w (w1.drewN n) := ⟨h.os, h.tape, h.output, h.size, h.block⟩

set_option maxRecDepth 100000 in
set_option maxHeartbeats 4000000 in
theorem spec_resolve (len : Nat) (bd : Nat → Bd) (name : ByteArray) (set : List Int) (v sv : Value) (w : World) (hr : Row w len bd v) (hs : Rd w sv set) (hl : set.length ≤ 4194304) :
    Calls Try.prog 6 #[v, .string name, sv] w fun e w' => e = .returned (.tuple #[.int .i64 (resB bd (fitsTo (fun i => fitB name set (bd i)) len)).1, .int .i64 (resB bd (fitsTo (fun i => fitB name set (bd i)) len)).2]) ∧ Below w.heap.size w w' := by
  obtain ⟨res, hres⟩ : ∃ r, r = resB bd (fitsTo (fun i => fitB name set (bd i)) len) := ⟨_, rfl⟩
  rw [← hres]
  have HRES : Hid (res = resB bd (fitsTo (fun i => fitB name set (bd i)) len)) := hres
  clear hres
  have HR : Hid (Row w len bd v) := hr
  have hfl : (fitsTo (fun i => fitB name set (bd i)) len).length ≤ 1048576 := Nat.le_trans (fitsTo_len _ _) hr.few
  have HLT : Hid (∀ i ∈ fitsTo (fun i => fitB name set (bd i)) len, i < len) := fitsTo_lt _ _
  obtain ⟨p, cap, rfl, hlen, hat⟩ := hr.at0.at
  obtain ⟨ps, cs, hsv, -⟩ := hs.shape
  have HC : Hid (∀ i, i < len → ∃ b o sv, p = some ⟨b, o, none⟩ ∧ HeadB w b (o + i * 5) (bd i) sv ∧ SetB 0 w sv (bd i).set ∧ (bd i).Fits) := hat
  have HSM : Hid (∀ i, i < len → (bd i).set.length ≤ 4194304) := hr.sets
  have HRD : Hid (Rd w sv set ∧ set.length ≤ 4194304) := ⟨hs, hl⟩
  have hfew := hr.few
  clear hat hr hs hl hlen
  subst hsv
  obtain ⟨i0, hi, hz0, hz1, hz2⟩ := info_parts int_info
  have HW : Hid (Own (w.alloc (.cells #[] 3)) w.heap.size (.slice (some ⟨w.heap.size, 0, none⟩) 0 0) (natsZ (fitsTo (fun i => fitB name set (bd i)) 0)) ∧ Below w.heap.size w (w.alloc (.cells #[] 3))) := ⟨own_lit w w.heap.size (Nat.le_refl _), newx w _⟩
  generalize set.length = sl at *
  go_enter Try.func6, Try.ntmps6
  go_wp2_with fail
  go_loopw [8, 9] (fun r i wr => ∃ (k : Nat) (r0 : Value), r0 = r ∧ i = .int .i64 k ∧ k ≤ len ∧ Own wr w.heap.size r0 (natsZ (fitsTo (fun i => fitB name set (bd i)) k)) ∧ Below w.heap.size w wr) (fun _ i _ => len - (intOf i).toNat)
  case atStart => exact ⟨0, _, rfl, rfl, Nat.zero_le _, HW.out.1, HW.out.2⟩
  case round =>
    obtain ⟨k, r0, rfl, rfl, hk, hown, hbel⟩ := hrel
    have HOW : Hid (Own wr w.heap.size r0 (natsZ (fitsTo (fun i => fitB name set (bd i)) k))) := hown
    have HB : Hid (Below w.heap.size w wr) := hbel
    have hle : (natsZ (fitsTo (fun i => fitB name set (bd i)) k)).length ≤ k := by rw [natsZ_len]; exact fitsTo_len _ _
    clear hown hbel HW
    by_cases hlt : (k : Int) < len
    · have hlt' : k < len := by omega
      have HS : Hid (natsZ (fitsTo (fun i => fitB name set (bd i)) (k + 1)) = if fitB name set (bd k) then natsZ (fitsTo (fun i => fitB name set (bd i)) k) ++ [(k : Int)] else natsZ (fitsTo (fun i => fitB name set (bd i)) k)) := natsZ_fits (fun i => fitB name set (bd i)) k
      obtain ⟨b, o, su, hp, hd, hin, -⟩ := HC.out k hlt'
      subst hp
      obtain ⟨pu, cu, hsu⟩ := hin.shape
      subst hsu
      have HSU : Hid (Rd w (.slice pu (bd k).set.length cu) (bd k).set ∧ (bd k).set.length ≤ 4194304) := ⟨hin.rd, HSM.out k hlt'⟩
      obtain ⟨c0, c1, c2, c3, c4⟩ := hd.below HB.out
      have HFB : Hid (fitB name set (bd k) = (((bd k).name.toList == name.toList) && withinB (bd k).set set)) := rfl
      clear hd hin c2 c3 c4
      generalize natsZ (fitsTo (fun i => fitB name set (bd i)) k) = L at *
      generalize (bd k).set.length = m at *
      cases he : ((bd k).name.toList == name.toList)
      · have HNO : Hid (fitB name set (bd k) = false) := by show _ = _; rw [HFB.out, he]; rfl
        go_wp2_with fail
        go_roundw
        case rel =>
          have h := HS.out
          rw [HNO.out] at h
          exact ⟨k + 1, _, rfl, by go_num, by omega, by rw [h]; exact HOW.out, HB.out⟩
        case measure => simp [intOf]; omega
      · have HSZ : Hid (w.heap.size ≤ wr.heap.size) := HB.out.size
        go_wp2_with fail
        refine (spec_within (bd k).set set _ _ wr (HSU.out.1.below HB.out) (HRD.out.1.below HB.out) (by rw [← HSU.out.1.len]; exact HSU.out.2) (by rw [← HRD.out.1.len]; exact HRD.out.2)).mono ?_
        rintro e w1 ⟨rfl, hw1⟩
        subst hw1
        cases hq : withinB (bd k).set set
        · have HNO : Hid (fitB name set (bd k) = false) := by show _ = _; rw [HFB.out, he, hq]; rfl
          go_wp2_with fail
          go_roundw
          case rel =>
            have h := HS.out
            rw [HNO.out] at h
            exact ⟨k + 1, _, rfl, by go_num, by omega, by rw [h]; exact HOW.out, HB.out⟩
          case measure => simp [intOf]; omega
        · have HYE : Hid (fitB name set (bd k) = true) := by show _ = _; rw [HFB.out, he, hq]; rfl
          clear c0 c1
          go_wp2_with (at_builtin; refine wpList_append_any _ rfl (.tmp 36) (.tmp 38) 23 rfl w.heap.size 3 i0 (.int .i64 0) 1 8 Try.underlying23 hi hz0 hz1 hz2 rfl (by decide) r0 L.length (L.map (Value.int .i64)) rfl (World.ownsRow.alloc HOW.out _) (some ⟨w1.heap.size, 0, none⟩) 1 1 [.int .i64 k] rfl rfl (by simp) (one_new w1 _ _) (by simp [Value.oneCell']) (by unfold maxLen; omega) (by omega) (by have := HSZ.out; simp; omega) ?_; intro v' w2 hown2 hg2)
          have R := own_push HOW.out HB.out HSZ.out hown2.out hg2.out
          have HRR : Hid (Own w2 w.heap.size v' (L ++ [(k : Int)]) ∧ Below w.heap.size w w2) := R
          clear R hown2 hg2
          go_roundw
          case rel =>
            have h := HS.out
            rw [HYE.out] at h
            exact ⟨k + 1, _, rfl, by go_num, by omega, by rw [h]; exact HRR.out.1, HRR.out.2⟩
          case measure => simp [intOf]; omega
    · have hke : k = len := by omega
      subst hke
      obtain ⟨wf, rfl⟩ : ∃ x, x = wr := ⟨_, rfl⟩
      have HBW : Hid (Below w.heap.size w wf) := HB.out
      have HRW : Hid (Row wf k bd (.slice p k cap)) := HR.out.below HB.out
      have HC2 : Hid (∀ i, i < k → ∃ b o sv, p = some ⟨b, o, none⟩ ∧ HeadB wf b (o + i * 5) (bd i) sv ∧ SetB 0 wf sv (bd i).set) := fun i hi => by
        obtain ⟨b, o, su, h1, h2, h3, _⟩ := HC.out i hi
        exact ⟨b, o, su, h1, h2.below HB.out, h3.kept (Nat.le_refl _) (fun a u _ hc => keepsX HB.out a u hc)⟩
      generalize hf : fitsTo (fun i => fitB name set (bd i)) k = l at *
      have HN : Hid (Nums wf k l r0) := ⟨HOW.out.rd, HLT.out, hfl⟩
      obtain ⟨a, cap2, hu, hnum⟩ := HN.out.at
      have HNM : Hid (∀ j (hj : j < l.length), ∃ b off, a = some ⟨b, off, none⟩ ∧ wf.cell? ⟨b, off + j, none⟩ = some (.int .i64 (l[j] : Nat)) ∧ l[j] < k) := hnum
      subst hu
      clear hnum hf HOW HR HC HLT HB
      by_cases h0 : l.length = 0
      · obtain rfl : l = [] := List.eq_nil_of_length_eq_zero h0
        go_wp2_with fail
        go_ret2
        exact ⟨by rw [HRES.out]; rfl, HBW.out⟩
      have hne : (((l.length : Nat) : Int) == 0) = false := by rw [beq_eq_false_iff_ne]; omega
      have HRL : Hid (res = resOf bd l) := by
        show _ = _
        rw [HRES.out]
        cases l with
        | nil => exact absurd rfl h0
        | cons x t => rfl
      clear HRES h0
      go_wp2_with fail
      go_loopw [10] (fun i wx => ∃ n : Nat, i = .int .i64 n ∧ n ≤ l.length ∧ (∀ j (hj : j < n) (hj2 : j < l.length), allIn bd l (bd l[j]).set = false) ∧ Below wf.heap.size wf wx) (fun i _ => l.length - (intOf i).toNat)
      case atStart => exact ⟨0, rfl, Nat.zero_le _, fun j hj => absurd hj (Nat.not_lt_zero _), Below.refl _ _⟩
      case round =>
        obtain ⟨n, rfl, hn, hno, hbx⟩ := hrel
        obtain ⟨wg, rfl⟩ : ∃ x, x = wr := ⟨_, rfl⟩
        have HNO : Hid (∀ j (hj : j < n) (hj2 : j < l.length), allIn bd l (bd l[j]).set = false) := hno
        have HBX : Hid (Below wf.heap.size wf wg) := hbx
        clear hno hbx
        by_cases hltn : (n : Int) < l.length
        · have hn' : n < l.length := by omega
          obtain ⟨b1, o1, ha, hcn, hy⟩ := HNM.out n hn'
          subst ha
          have HFO : Hid (allIn bd l (bd l[n]).set = true → res = (((l[n] : Nat) : Int), (0 : Int))) := fun h => by rw [HRL.out]; exact res_found bd l n hn' (fun j hj => HNO.out j hj (by omega)) h
          have HGO : Hid (allIn bd l (bd l[n]).set = false → ∀ j (hj : j < n + 1) (hj2 : j < l.length), allIn bd l (bd l[j]).set = false) := fun h j hj hj2 => by
            by_cases hjn : j = n
            · subst hjn; exact h
            · exact HNO.out j (by omega) hj2
          obtain ⟨y, hly⟩ : ∃ y, y = l[n] := ⟨_, rfl⟩
          rw [← hly] at hcn hy
          rw [← hly] at HFO HGO
          clear hly
          obtain ⟨b, o, sy, hp, hdy, hiny⟩ := HC2.out y hy
          subst hp
          obtain ⟨py, cy, hsy⟩ := hiny.shape
          subst hsy
          have HSY : Hid (Rd wf (.slice py (bd y).set.length cy) (bd y).set ∧ (bd y).set.length ≤ 4194304) := ⟨hiny.rd, HSM.out y hy⟩
          have HD1 : Hid (wf.cell? ⟨b, o + y * 5 + 1, none⟩ = some (.slice py (bd y).set.length cy)) := hdy.c1
          have HCN : Hid (wf.cell? ⟨b1, o1 + n, none⟩ = some (.int .i64 (y : Nat))) := hcn
          clear hdy hiny hcn
          generalize (bd y).set.length = my at *
          go_wp2_with fail
          go_loopw [11, 12] (fun q i wx => ∃ m : Nat, i = .int .i64 m ∧ m ≤ l.length ∧ q = .bool (allIn bd (l.take m) (bd y).set) ∧ Below wf.heap.size wf wx) (fun _ i _ => l.length - (intOf i).toNat)
          case atStart => exact ⟨0, rfl, Nat.zero_le _, by simp [allIn], HBX.out⟩
          case round =>
            obtain ⟨m, rfl, hm, rfl, hby⟩ := hrel
            obtain ⟨wh, rfl⟩ : ∃ x, x = wr := ⟨_, rfl⟩
            have HBY : Hid (Below wf.heap.size wf wh) := hby
            have HBD : Hid (Below wf.heap.size wf wh.drew) := hby.drew
            clear hby
            by_cases hltm : (m : Int) < l.length
            · have hm' : m < l.length := by omega
              have HT : Hid (allIn bd (l.take (m + 1)) (bd y).set = (allIn bd (l.take m) (bd y).set && withinB (bd l[m]).set (bd y).set)) := allIn_take bd l _ m hm'
              cases hq0 : allIn bd (l.take m) (bd y).set
              · have HT2 : Hid (allIn bd (l.take (m + 1)) (bd y).set = false) := by show _ = _; rw [HT.out, hq0]; rfl
                go_wp2_with fail
                go_quiet (fail)
                go_wp2_with fail
                go_roundw
                case rel => exact ⟨m + 1, by go_num, by omega, by rw [HT2.out], below_drewN HBY.out _⟩
                case measure => simp [intOf]; omega
              · obtain ⟨b1', o1', ha', hcm, hx⟩ := HNM.out m hm'
                simp only [Option.some.injEq, Addr.mk.injEq, and_true] at ha'
                obtain ⟨rfl, rfl⟩ := ha'
                have HT2 : Hid (allIn bd (l.take (m + 1)) (bd y).set = withinB (bd l[m]).set (bd y).set) := by show _ = _; rw [HT.out, hq0]; rfl
                generalize l[m] = x at *
                obtain ⟨b', o', sx, hp', hdx, hinx⟩ := HC2.out x hx
                simp only [Option.some.injEq, Addr.mk.injEq, and_true] at hp'
                obtain ⟨rfl, rfl⟩ := hp'
                obtain ⟨px, cx, hsx⟩ := hinx.shape
                subst hsx
                have HCL : Hid (∀ w1 : World, Below wh.heap.size wh w1 → Calls Try.prog 18 #[.slice px (bd x).set.length cx, .slice py my cy] w1 fun e w' => e = .returned (.bool (withinB (bd x).set (bd y).set)) ∧ w' = w1) :=
                  fun w1 h1 => spec_within (bd x).set (bd y).set _ _ w1 ((hinx.rd.below HBY.out).below h1) ((HSY.out.1.below HBY.out).below h1) (HSM.out x hx) (by rw [← HSY.out.1.len]; exact HSY.out.2)
                have e1 : wh.cell? ⟨b1, o1 + m, none⟩ = some (.int .i64 (x : Nat)) := keepsX HBY.out _ _ hcm
                have e2 : wh.cell? ⟨b1, o1 + n, none⟩ = some (.int .i64 (y : Nat)) := keepsX HBY.out _ _ HCN.out
                have e3 : wh.cell? ⟨b, o + x * 5 + 1, none⟩ = some (.slice px (bd x).set.length cx) := keepsX HBY.out _ _ hdx.c1
                have e4 : wh.cell? ⟨b, o + y * 5 + 1, none⟩ = some (.slice py my cy) := keepsX HBY.out _ _ HD1.out
                clear hdx hinx hcm
                generalize (bd x).set.length = mx at *
                have hxk : ((x : Nat) : Int) < (k : Int) := by omega
                have hyk : ((y : Nat) : Int) < (k : Int) := by omega
                have hx0 : (0 : Int) ≤ ((x : Nat) : Int) := by omega
                have hy0 : (0 : Int) ≤ ((y : Nat) : Int) := by omega
                go_wp2_with fail
                go_region_held3 (fun w' => w'.cell? ⟨b1, o1 + m, none⟩ = some (.int .i64 (x : Nat)) ∧ w'.cell? ⟨b1, o1 + n, none⟩ = some (.int .i64 (y : Nat)) ∧ w'.cell? ⟨b, o + x * 5 + 1, none⟩ = some (.slice px mx cx) ∧ w'.cell? ⟨b, o + y * 5 + 1, none⟩ = some (.slice py my cy)) (first | go_keep | (with_reducible assumption)) (first
                  | (go_at_call 18; refine (HCL.out _ ?_).mono ?_; exact (Below.refl _ _).drew; rintro e w1 ⟨rfl, hw1⟩; subst hw1))
                go_wp2_with fail
                go_roundw
                case rel => exact ⟨m + 1, by go_num, by omega, by rw [HT2.out], HBD.out⟩
                case measure => simp [intOf]; omega
            · have hme : m = l.length := by omega
              subst hme
              rw [List.take_length]
              cases hq0 : allIn bd l (bd y).set
              · have HG := HGO.out hq0
                have HGH : Hid (∀ j (hj : j < n + 1) (hj2 : j < l.length), allIn bd l (bd l[j]).set = false) := HG
                clear HG
                go_wp2_with fail
                go_roundw
                case rel => exact ⟨n + 1, by go_num, by omega, HGH.out, HBY.out⟩
                case measure => simp [intOf]; omega
              · have HQ : Hid (res = (((y : Nat) : Int), (0 : Int))) := HFO.out hq0
                have e2 : wh.cell? ⟨b1, o1 + n, none⟩ = some (.int .i64 (y : Nat)) := keepsX HBY.out _ _ HCN.out
                have HBE : Hid (Below w.heap.size w wh) := HBW.out.trans (HBY.out.mono HBW.out.size)
                go_wp2_with fail
                go_ret2
                exact ⟨by rw [HQ.out]; rfl, HBE.out⟩
        · have hne : n = l.length := by omega
          subst hne
          have HQ : Hid (res = (-1, 2)) := by show _ = _; rw [HRL.out]; exact res_none bd l (fun j hj => HNO.out j hj hj)
          have HBE : Hid (Below w.heap.size w wg) := HBW.out.trans (HBX.out.mono HBW.out.size)
          go_wp2_with fail
          go_ret2
          exact ⟨by rw [HQ.out]; rfl, HBE.out⟩
end Go.Proofs.Ytgbfflpdpfgnbaa
