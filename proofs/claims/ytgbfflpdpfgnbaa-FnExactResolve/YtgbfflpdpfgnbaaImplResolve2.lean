/- impl.likeliest, impl.hasAll and impl.Resolve. Condition: at most 2^20 binds, no set of more than 2^22. -/
import Derived.Test.YtgbfflpdpfgnbaaImplResolve
namespace Go.Proofs.Ytgbfflpdpfgnbaa
open Go.ChangeShapes Go.WideShapes Go.ChangeAt Go.RowKit

theorem best_take (bd : Nat → Bd) (b : Nat) (l : List Nat) (k : Nat) (h : k < l.length) : bestOf bd b (l.take (k + 1)) = if withinB (bd l[k]).set (bd (bestOf bd b (l.take k))).set then bestOf bd b (l.take k) else l[k] := by
  rw [List.take_add_one, List.getElem?_eq_getElem h, best_append]
  rfl
theorem best_lt (bd : Nat → Bd) (b : Nat) (l : List Nat) (n : Nat) (hb : b < n) (hl : ∀ i ∈ l, i < n) : bestOf bd b l < n := by
  rcases best_mem bd l b with h | h
  · rw [h]; exact hb
  · exact hl _ h
theorem allIn_take (bd : Nat → Bd) (l : List Nat) (s : List Int) (k : Nat) (h : k < l.length) : allIn bd (l.take (k + 1)) s = (allIn bd (l.take k) s && withinB (bd l[k]).set s) := by
  unfold allIn
  rw [List.take_add_one, List.getElem?_eq_getElem h, List.all_append]
  simp
theorem allIn_no {bd : Nat → Bd} {l : List Nat} {s : List Int} (k : Nat) (h : k < l.length) (hw : withinB (bd l[k]).set s = false) : allIn bd l s = false := by
  unfold allIn
  rw [List.all_eq_false]
  exact ⟨l[k], List.getElem_mem h, by simp [hw]⟩

/-- What is told of the numbers that fit. -/
structure Nums (w : World) (len : Nat) (l : List Nat) (u : Value) : Prop where
  rd : Rd w u (natsZ l)
  lt : ∀ i ∈ l, i < len
  few : l.length ≤ 1048576
theorem Nums.below {w w' : World} {len : Nat} {l : List Nat} {u : Value} (h : Nums w len l u) (hb : Below w.heap.size w w') : Nums w' len l u := ⟨h.rd.below hb, h.lt, h.few⟩
theorem Nums.at {w : World} {len : Nat} {l : List Nat} {u : Value} (h : Nums w len l u) : ∃ a cap, u = .slice a l.length cap ∧ ∀ k (hk : k < l.length), ∃ b off, a = some ⟨b, off, none⟩ ∧ w.cell? ⟨b, off + k, none⟩ = some (.int .i64 (l[k] : Nat)) ∧ l[k] < len := by
  obtain ⟨a, cap, e, hc⟩ := h.rd.shape
  rw [natsZ_len] at e hc
  refine ⟨a, cap, e, fun k hk => ?_⟩
  obtain ⟨b, off, e2, h2⟩ := hc k hk
  rw [natsZ_at l k hk] at h2
  exact ⟨b, off, e2, h2, h.lt _ (List.getElem_mem hk)⟩

set_option maxRecDepth 100000 in
set_option maxHeartbeats 2000000 in
theorem impl_likeliest (len : Nat) (bd : Nat → Bd) (l : List Nat) (h0 : Nat) (v u : Value) (w : World) (hr : Row w len bd v) (hn : Nums w len l u) (hh : l.head? = some h0) :
    Calls Try.prog 21 #[v, u] w fun e w' => e = .returned (.int .i64 (bestOf bd h0 l : Nat)) ∧ Below w.heap.size w w' := by
  obtain ⟨p, cap, rfl, hlen, hat⟩ := hr.at0.at
  obtain ⟨a, cap2, rfl, hnum⟩ := hn.at
  have HC : Hid (∀ i, i < len → ∃ b o sv, p = some ⟨b, o, none⟩ ∧ HeadB w b (o + i * 5) (bd i) sv ∧ SetB 0 w sv (bd i).set ∧ (bd i).Fits) := hat
  have HSM : Hid (∀ i, i < len → (bd i).set.length ≤ 4194304) := hr.sets
  have HN : Hid (∀ k (hk : k < l.length), ∃ b off, a = some ⟨b, off, none⟩ ∧ w.cell? ⟨b, off + k, none⟩ = some (.int .i64 (l[k] : Nat)) ∧ l[k] < len) := hnum
  have hfew := hr.few
  have hfl := hn.few
  have HLT : Hid (∀ i ∈ l, i < len) := hn.lt
  have h0l : 0 < l.length := by
    cases l with
    | nil => cases hh
    | cons x r => simp
  have hl0 : l[0] = h0 := by
    cases l with
    | nil => cases hh
    | cons x r => simpa using hh
  obtain ⟨b0, o0, ha, hc0, hlt0⟩ := HN.out 0 h0l
  subst ha
  rw [hl0, Nat.add_zero] at hc0
  rw [hl0] at hlt0
  have HH0 : Hid (h0 < len) := hlt0
  clear hat hr hn hlen hnum hh hl0 hlt0
  go_enter Try.func21, Try.ntmps21
  go_wp2_with fail
  go_loopw [5, 13] (fun r i wr => ∃ k : Nat, i = .int .i64 k ∧ k ≤ l.length ∧ r = .int .i64 (bestOf bd h0 (l.take k) : Nat) ∧ Below w.heap.size w wr) (fun _ i _ => l.length - (intOf i).toNat)
  case atStart => exact ⟨0, rfl, Nat.zero_le _, by simp [bestOf], Below.refl _ _⟩
  case round =>
    obtain ⟨k, rfl, hk, rfl, hbel⟩ := hrel
    have HB : Hid (Below w.heap.size w wr) := hbel
    clear hbel hc0
    by_cases hlt : (k : Int) < l.length
    · have hlt' : k < l.length := by omega
      have HBT : Hid (bestOf bd h0 (l.take (k + 1)) = if withinB (bd l[k]).set (bd (bestOf bd h0 (l.take k))).set then bestOf bd h0 (l.take k) else l[k]) := best_take bd h0 l k hlt'
      have hb1 : bestOf bd h0 (l.take k) < len := best_lt bd h0 _ len HH0.out (fun i hi => HLT.out i (List.mem_of_mem_take hi))
      obtain ⟨b1, o1, ha1, hc1, hx⟩ := HN.out k hlt'
      simp only [Option.some.injEq, Addr.mk.injEq, and_true] at ha1
      obtain ⟨rfl, rfl⟩ := ha1
      have cK : wr.cell? ⟨b0, o0 + k, none⟩ = some (.int .i64 (l[k] : Nat)) := keepsX HB.out _ _ hc1
      clear hc1
      generalize bestOf bd h0 (l.take k) = B at *
      generalize l[k] = x at *
      obtain ⟨b, o, su, hp, hd, hin, -⟩ := HC.out x hx
      obtain ⟨b', o', sv, hp', hd', hin', -⟩ := HC.out B hb1
      subst hp
      simp only [Option.some.injEq, Addr.mk.injEq, and_true] at hp'
      obtain ⟨rfl, rfl⟩ := hp'
      obtain ⟨pu, cu, hsu⟩ := hin.shape
      obtain ⟨pv, cv, hsv⟩ := hin'.shape
      subst hsu hsv
      have c1 := (hd.below HB.out).c1
      have d1 := (hd'.below HB.out).c1
      have HCL : Hid (∀ w1 : World, Below wr.heap.size wr w1 → Calls Try.prog 32 #[.slice pu (bd x).set.length cu, .slice pv (bd B).set.length cv] w1 fun e w' => e = .returned (.bool (withinB (bd x).set (bd B).set)) ∧ w' = w1) :=
        fun w1 h1 => impl_within (bd x).set (bd B).set _ _ w1 ((hin.rd.below HB.out).below h1) ((hin'.rd.below HB.out).below h1) (HSM.out x hx) (HSM.out B hb1)
      have HWD : Hid (Below w.heap.size w wr.drew) := HB.out.drew
      clear hd hin hd' hin'
      generalize (bd x).set.length = m1 at *
      generalize (bd B).set.length = m2 at *
      cases hq : withinB (bd x).set (bd B).set
      all_goals
        have HQ : Hid (withinB (bd x).set (bd B).set = _) := hq
        rw [hq] at HCL
        go_wp2_with fail
        go_region_with ((go_at_call 32; refine (HCL.out _ ?_).mono ?_; exact (Below.refl _ _).drew; rintro e w1 ⟨rfl, hw1⟩; subst hw1))
        all_goals
          go_wp2_with fail
          go_roundw
          case rel =>
            have h := HBT.out
            rw [HQ.out] at h
            exact ⟨k + 1, by go_num, by omega, by rw [h]; rfl, HWD.out⟩
          case measure => simp [intOf]; omega
    · have hke : k = l.length := by omega
      subst hke
      rw [List.take_length]
      go_wp2_with fail
      go_ret
      exact ⟨rfl, HB.out⟩

set_option maxRecDepth 100000 in
set_option maxHeartbeats 2000000 in
theorem impl_has_all (len : Nat) (bd : Nat → Bd) (l : List Nat) (s : List Int) (sv v u : Value) (w : World) (hs : Rd w sv s) (hsl : s.length ≤ 4194304) (hr : Row w len bd v) (hn : Nums w len l u) :
    Calls Try.prog 22 #[sv, v, u] w fun e w' => e = .returned (.bool (allIn bd l s)) ∧ Below w.heap.size w w' := by
  obtain ⟨p, cap, rfl, hlen, hat⟩ := hr.at0.at
  obtain ⟨a, cap2, rfl, hnum⟩ := hn.at
  obtain ⟨ps, cs, hsv, -⟩ := hs.shape
  have HC : Hid (∀ i, i < len → ∃ b o sv, p = some ⟨b, o, none⟩ ∧ HeadB w b (o + i * 5) (bd i) sv ∧ SetB 0 w sv (bd i).set ∧ (bd i).Fits) := hat
  have HSM : Hid (∀ i, i < len → (bd i).set.length ≤ 4194304) := hr.sets
  have HN : Hid (∀ k (hk : k < l.length), ∃ b off, a = some ⟨b, off, none⟩ ∧ w.cell? ⟨b, off + k, none⟩ = some (.int .i64 (l[k] : Nat)) ∧ l[k] < len) := hnum
  have HRS : Hid (Rd w sv s ∧ s.length ≤ 4194304) := ⟨hs, hsl⟩
  have hfew := hr.few
  have hfl := hn.few
  clear hat hr hn hlen hnum hs hsl
  subst hsv
  generalize s.length = sl at *
  go_enter Try.func22, Try.ntmps22
  go_wp2_with fail
  go_loopw [11] (fun i wr => ∃ k : Nat, i = .int .i64 k ∧ k ≤ l.length ∧ allIn bd (l.take k) s = true ∧ Below w.heap.size w wr) (fun i _ => l.length - (intOf i).toNat)
  case atStart => exact ⟨0, rfl, Nat.zero_le _, by simp [allIn], Below.refl _ _⟩
  case round =>
    obtain ⟨k, rfl, hk, hall, hbel⟩ := hrel
    have HB : Hid (Below w.heap.size w wr) := hbel
    have HALL : Hid (allIn bd (l.take k) s = true) := hall
    clear hbel hall
    by_cases hlt : (k : Int) < l.length
    · have hlt' : k < l.length := by omega
      have HT : Hid (allIn bd (l.take (k + 1)) s = (allIn bd (l.take k) s && withinB (bd l[k]).set s)) := allIn_take bd l s k hlt'
      have HNO : Hid (withinB (bd l[k]).set s = false → allIn bd l s = false) := allIn_no k hlt'
      obtain ⟨b1, o1, ha1, hc1, hx⟩ := HN.out k hlt'
      subst ha1
      have cK : wr.cell? ⟨b1, o1 + k, none⟩ = some (.int .i64 (l[k] : Nat)) := keepsX HB.out _ _ hc1
      clear hc1
      generalize l[k] = x at *
      obtain ⟨b, o, su, hp, hd, hin, -⟩ := HC.out x hx
      subst hp
      obtain ⟨pu, cu, hsu⟩ := hin.shape
      subst hsu
      have c1 := (hd.below HB.out).c1
      have HCL : Hid (Calls Try.prog 32 #[.slice pu (bd x).set.length cu, .slice ps sl cs] wr fun e w' => e = .returned (.bool (withinB (bd x).set s)) ∧ w' = wr) :=
        impl_within (bd x).set s _ _ wr (hin.rd.below HB.out) (HRS.out.1.below HB.out) (HSM.out x hx) (by rw [← HRS.out.1.len]; exact HRS.out.2)
      clear hd hin
      generalize (bd x).set.length = m1 at *
      cases hq : withinB (bd x).set s
      · have HQ : Hid (allIn bd l s = false) := HNO.out hq
        rw [hq] at HCL
        go_wp2_with fail
        refine HCL.out.mono ?_
        rintro e w1 ⟨rfl, hw1⟩
        subst hw1
        go_wp2_with fail
        go_ret
        exact ⟨by rw [HQ.out]; rfl, HB.out⟩
      · have HQ : Hid (allIn bd (l.take (k + 1)) s = true) := by show _ = _; rw [HT.out, HALL.out, hq]; rfl
        rw [hq] at HCL
        go_wp2_with fail
        refine HCL.out.mono ?_
        rintro e w1 ⟨rfl, hw1⟩
        subst hw1
        go_wp2_with fail
        go_roundw
        case rel => exact ⟨k + 1, by go_num, by omega, HQ.out, HB.out⟩
        case measure => simp [intOf]; omega
    · have hke : k = l.length := by omega
      subst hke
      have HQ : Hid (allIn bd l s = true) := by
        have h := HALL.out
        rw [List.take_length] at h
        exact h
      go_wp2_with fail
      go_ret
      exact ⟨by rw [HQ.out]; rfl, HB.out⟩

/-- What is answered. -/
def resB (bd : Nat → Bd) (l : List Nat) : Int × Int := match l with
  | [] => (-1, 1)
  | h :: t => resOf bd (h :: t)

set_option maxRecDepth 100000 in
set_option maxHeartbeats 2000000 in
theorem impl_resolve (len : Nat) (bd : Nat → Bd) (name : ByteArray) (set : List Int) (v sv : Value) (w : World) (hr : Row w len bd v) (hs : Rd w sv set) (hl : set.length ≤ 4194304) :
    Calls Try.prog 9 #[v, .string name, sv] w fun e w' => e = .returned (.tuple #[.int .i64 (resB bd (fitsTo (fun i => fitB name set (bd i)) len)).1, .int .i64 (resB bd (fitsTo (fun i => fitB name set (bd i)) len)).2]) ∧ Below w.heap.size w w' := by
  obtain ⟨res, hres⟩ : ∃ r, r = resB bd (fitsTo (fun i => fitB name set (bd i)) len) := ⟨_, rfl⟩
  rw [← hres]
  have HRES : Hid (res = resB bd (fitsTo (fun i => fitB name set (bd i)) len)) := hres
  clear hres
  have HR : Hid (Row w len bd v) := hr
  have hfl : (fitsTo (fun i => fitB name set (bd i)) len).length ≤ 1048576 := Nat.le_trans (fitsTo_len _ _) hr.few
  have HLT : Hid (∀ i ∈ fitsTo (fun i => fitB name set (bd i)) len, i < len) := fitsTo_lt _ _
  go_enter Try.func9, Try.ntmps9
  go_wp2_with fail
  refine (impl_fitting len bd name set v sv w hr hs hl).mono ?_
  rintro e w1 ⟨u, rfl, hb1, hown⟩
  generalize hf : fitsTo (fun i => fitB name set (bd i)) len = l at *
  have HB1 : Hid (Below w.heap.size w w1) := hb1
  have HN : Hid (Nums w1 len l u) := ⟨hown.rd, HLT.out, hfl⟩
  have HR1 : Hid (Row w1 len bd v) := HR.out.below hb1
  obtain ⟨p, cap, hv, -, hat⟩ := HR1.out.at0.at
  have HC : Hid (∀ i, i < len → ∃ b o sv, p = some ⟨b, o, none⟩ ∧ HeadB w1 b (o + i * 5) (bd i) sv ∧ SetB 0 w1 sv (bd i).set ∧ (bd i).Fits) := hat
  obtain ⟨a, cap2, hu, -⟩ := HN.out.at
  subst hv hu
  clear hb1 hown hat hr hs hl HR hf HLT
  cases l with
  | nil =>
    go_wp2_with fail
    go_ret2
    exact ⟨by rw [HRES.out]; rfl, HB1.out⟩
  | cons h0 t =>
    have hne : ((((h0 :: t).length : Nat) : Int) == 0) = false := by rw [beq_eq_false_iff_ne]; simp; omega
    have HRB : Hid (resB bd (h0 :: t) = if allIn bd (h0 :: t) (bd (bestOf bd h0 (h0 :: t))).set then (((bestOf bd h0 (h0 :: t) : Nat) : Int), (0 : Int)) else ((-1 : Int), (2 : Int))) := res_best bd h0 t
    have hbl : bestOf bd h0 (h0 :: t) < len := best_lt bd h0 _ len (HN.out.lt h0 (List.mem_cons_self ..)) HN.out.lt
    have hfew := HR1.out.few
    have HLK : Hid (∀ w', Below w1.heap.size w1 w' → Calls Try.prog 21 #[.slice p len cap, .slice a (h0 :: t).length cap2] w' fun e w'' => e = .returned (.int .i64 (bestOf bd h0 (h0 :: t) : Nat)) ∧ Below w'.heap.size w' w'') := fun w' hb => impl_likeliest len bd (h0 :: t) h0 _ _ w' (HR1.out.below hb) (HN.out.below hb) rfl
    generalize (h0 :: t) = l at *
    generalize l.length = ll at *
    go_wp2_with fail
    refine (HLK.out w1 (Below.refl _ _)).mono ?_
    rintro e w2 ⟨rfl, hb2⟩
    have HB2 : Hid (Below w.heap.size w w2) := HB1.out.trans (hb2.mono HB1.out.size)
    generalize bestOf bd h0 l = B at *
    obtain ⟨b, o, su, hp, hd, hin, -⟩ := HC.out B hbl
    subst hp
    obtain ⟨pu, cu, hsu⟩ := hin.shape
    subst hsu
    have c1 := (hd.below hb2).c1
    have HHA : Hid (Calls Try.prog 22 #[.slice pu (bd B).set.length cu, .slice (some ⟨b, o, none⟩) len cap, .slice a ll cap2] w2 fun e w' => e = .returned (.bool (allIn bd l (bd B).set)) ∧ Below w2.heap.size w2 w') :=
      impl_has_all len bd l (bd B).set _ _ _ w2 (hin.rd.below hb2) (HR1.out.sets B hbl) (HR1.out.below hb2) (HN.out.below hb2)
    clear hb2 hd hin
    generalize (bd B).set.length = m1 at *
    cases hq : allIn bd l (bd B).set
    · have HQ : Hid (resB bd l = (-1, 2)) := by
        have h := HRB.out
        rw [hq] at h
        exact h
      rw [hq] at HHA
      go_wp2_with fail
      refine HHA.out.mono ?_
      rintro e w3 ⟨rfl, hb3⟩
      have HB3 : Hid (Below w.heap.size w w3) := HB2.out.trans (hb3.mono HB2.out.size)
      clear hb3
      go_wp2_with fail
      go_ret2
      exact ⟨by rw [HRES.out, HQ.out]; rfl, HB3.out⟩
    · have HQ : Hid (resB bd l = ((B : Int), 0)) := by
        have h := HRB.out
        rw [hq] at h
        exact h
      rw [hq] at HHA
      go_wp2_with fail
      refine HHA.out.mono ?_
      rintro e w3 ⟨rfl, hb3⟩
      have HB3 : Hid (Below w.heap.size w w3) := HB2.out.trans (hb3.mono HB2.out.size)
      clear hb3
      go_wp2_with fail
      go_ret2
      exact ⟨by rw [HRES.out, HQ.out]; rfl, HB3.out⟩
end Go.Proofs.Ytgbfflpdpfgnbaa
