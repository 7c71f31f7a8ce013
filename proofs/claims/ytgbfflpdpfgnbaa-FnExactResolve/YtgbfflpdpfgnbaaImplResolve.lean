/- impl.fitting, impl.likeliest, impl.hasAll and impl.Resolve at every row of binds. Condition: at most 2^20 of them, no set of more than 2^22. -/
import Derived.Test.YtgbfflpdpfgnbaaBindP
import Derived.Test.YtgbfflpdpfgnbaaIntsOwn
import Derived.Test.YtgbfflpdpfgnbaaIntsImpl
import Derived.Test.YtgbfflpdpfgnbaaIntsWithout
import Derived.Test.YtgbfflpdpfgnbaaStxRows
import Derived.Deep.RegionWith
namespace Go.Proofs.Ytgbfflpdpfgnbaa
open Go.ChangeShapes Go.WideShapes Go.ChangeAt Go.RowKit

def natsZ (l : List Nat) : List Int := l.map Int.ofNat
theorem natsZ_len (l : List Nat) : (natsZ l).length = l.length := by simp [natsZ]
theorem natsZ_at (l : List Nat) (k : Nat) (h : k < l.length) : (natsZ l).getD k 0 = (l[k] : Int) := by
  simp [natsZ, List.getD_eq_getElem?_getD, h]
theorem natsZ_fits (p : Nat → Bool) (k : Nat) : natsZ (fitsTo p (k + 1)) = if p k then natsZ (fitsTo p k) ++ [(k : Int)] else natsZ (fitsTo p k) := by
  simp only [fitsTo]
  split <;> simp [natsZ]

/-- What is asked of a row of binds that is looked through. -/
structure Row (w : World) (len : Nat) (bd : Nat → Bd) (v : Value) : Prop where
  at0 : BsAt 0 w len bd v
  few : len ≤ 1048576
  sets : ∀ i, i < len → (bd i).set.length ≤ 4194304
theorem Row.below {w w' : World} {len : Nat} {bd : Nat → Bd} {v : Value} (h : Row w len bd v) (hb : Below w.heap.size w w') : Row w' len bd v := ⟨h.at0.below hb, h.few, h.sets⟩

set_option maxRecDepth 100000 in
set_option maxHeartbeats 2000000 in
theorem impl_fitting (len : Nat) (bd : Nat → Bd) (name : ByteArray) (set : List Int) (v sv : Value) (w : World) (hr : Row w len bd v) (hs : Rd w sv set) (hl : set.length ≤ 4194304) :
    Calls Try.prog 20 #[v, .string name, sv] w fun e w' => ∃ u, e = .returned u ∧ Below w.heap.size w w' ∧ Own w' w.heap.size u (natsZ (fitsTo (fun i => fitB name set (bd i)) len)) := by
  obtain ⟨p, cap, rfl, hlen, hat⟩ := hr.at0.at
  obtain ⟨ps, cs, hsv, -⟩ := hs.shape
  have HC : Hid (∀ i, i < len → ∃ b o sv, p = some ⟨b, o, none⟩ ∧ HeadB w b (o + i * 5) (bd i) sv ∧ SetB 0 w sv (bd i).set ∧ (bd i).Fits) := hat
  have HSM : Hid (∀ i, i < len → (bd i).set.length ≤ 4194304) := hr.sets
  have HRD : Hid (Rd w sv set ∧ set.length ≤ 4194304) := ⟨hs, hl⟩
  have hfew := hr.few
  clear hat hr hs hl hlen
  subst hsv
  obtain ⟨i0, hi, hz0, hz1, hz2⟩ := info_parts int_info
  have HW : Hid (Own w w.heap.size (.slice none 0 0) (natsZ (fitsTo (fun i => fitB name set (bd i)) 0))) := ⟨by simp [natsZ, fitsTo], .inl ⟨rfl, rfl⟩⟩
  generalize set.length = sl at *
  go_enter Try.func20, Try.ntmps20
  go_wp2_with fail
  go_loopw [7, 12] (fun r i wr => ∃ (k : Nat) (r0 : Value), r0 = r ∧ i = .int .i64 k ∧ k ≤ len ∧ Own wr w.heap.size r0 (natsZ (fitsTo (fun i => fitB name set (bd i)) k)) ∧ Below w.heap.size w wr) (fun _ i _ => len - (intOf i).toNat)
  case atStart => exact ⟨0, _, rfl, rfl, Nat.zero_le _, HW.out, Below.refl _ _⟩
  case round =>
    obtain ⟨k, r0, rfl, rfl, hk, hown, hbel⟩ := hrel
    have HOW : Hid (Own wr w.heap.size r0 (natsZ (fitsTo (fun i => fitB name set (bd i)) k))) := hown
    have HB : Hid (Below w.heap.size w wr) := hbel
    have hle : (natsZ (fitsTo (fun i => fitB name set (bd i)) k)).length ≤ k := by rw [natsZ_len]; exact fitsTo_len _ _
    clear hown hbel HW
    by_cases hlt : (k : Int) < len
    · have hlt' : k < len := by omega
      have HS : Hid (natsZ (fitsTo (fun i => fitB name set (bd i)) (k + 1)) = if fitB name set (bd k) then natsZ (fitsTo (fun i => fitB name set (bd i)) k) ++ [(k : Int)] else natsZ (fitsTo (fun i => fitB name set (bd i)) k)) := natsZ_fits (fun i => fitB name set (bd i)) k
      obtain ⟨b, o, su, hp, hd, hin, -⟩ := HC.out k hlt'
      subst hp
      obtain ⟨pu, cu, hsu⟩ := hin.shape
      subst hsu
      have HSU : Hid (Rd w (.slice pu (bd k).set.length cu) (bd k).set ∧ (bd k).set.length ≤ 4194304) := ⟨hin.rd, HSM.out k hlt'⟩
      obtain ⟨c0, c1, c2, c3, c4⟩ := hd.below HB.out
      have HFB : Hid (fitB name set (bd k) = (((bd k).name.toList == name.toList) && withinB (bd k).set set)) := rfl
      clear hd hin
      generalize natsZ (fitsTo (fun i => fitB name set (bd i)) k) = L at *
      generalize (bd k).set.length = m at *
      cases he : ((bd k).name.toList == name.toList)
      · have HNO : Hid (fitB name set (bd k) = false) := by show _ = _; rw [HFB.out, he]; rfl
        obtain ⟨W, hW⟩ : ∃ W, W = wr.alloc (.cells #[.string (bd k).name, .slice pu m cu, .int .i64 (bd k).kind, .int .i64 (bd k).n, .int .i64 (bd k).at_] 46) := ⟨_, rfl⟩
        have HWB : Hid (Below w.heap.size w W ∧ Own W w.heap.size r0 L) := by
          rw [hW]
          exact ⟨HB.out.trans ((newx wr _).mono HB.out.size), HOW.out.below (newx wr _)⟩
        go_wp2_with fail
        go_roundw
        case rel =>
          have h := HS.out
          rw [HNO.out] at h
          exact ⟨k + 1, _, rfl, by go_num, by omega, by rw [h, ← hW]; exact HWB.out.2, by rw [← hW]; exact HWB.out.1⟩
        case measure => simp [intOf]; omega
      · obtain ⟨W, hW⟩ : ∃ W, W = wr.alloc (.cells #[.string (bd k).name, .slice pu m cu, .int .i64 (bd k).kind, .int .i64 (bd k).n, .int .i64 (bd k).at_] 46) := ⟨_, rfl⟩
        have HWB : Hid (Below w.heap.size w W ∧ Own W w.heap.size r0 L) := by
          rw [hW]
          exact ⟨HB.out.trans ((newx wr _).mono HB.out.size), HOW.out.below (newx wr _)⟩
        have HSZ : Hid (w.heap.size ≤ W.heap.size) := HWB.out.1.size
        go_wp2_with fail
        rw [← hW]
        clear hW
        refine (impl_within (bd k).set set _ _ W (HSU.out.1.below HWB.out.1) (HRD.out.1.below HWB.out.1) (by rw [← HSU.out.1.len]; exact HSU.out.2) (by rw [← HRD.out.1.len]; exact HRD.out.2)).mono ?_
        rintro e w1 ⟨rfl, hw1⟩
        subst hw1
        cases hq : withinB (bd k).set set
        · have HNO : Hid (fitB name set (bd k) = false) := by show _ = _; rw [HFB.out, he, hq]; rfl
          go_wp2_with fail
          go_roundw
          case rel =>
            have h := HS.out
            rw [HNO.out] at h
            exact ⟨k + 1, _, rfl, by go_num, by omega, by rw [h]; exact HWB.out.2, HWB.out.1⟩
          case measure => simp [intOf]; omega
        · have HYE : Hid (fitB name set (bd k) = true) := by show _ = _; rw [HFB.out, he, hq]; rfl
          clear c0 c1 c2 c3 c4
          go_wp2_with (at_builtin; refine wpList_append_any _ rfl (.tmp 27) (.tmp 29) 23 rfl w.heap.size 3 i0 (.int .i64 0) 1 8 Try.underlying23 hi hz0 hz1 hz2 rfl (by decide) r0 L.length (L.map (Value.int .i64)) rfl (World.ownsRow.alloc HWB.out.2 _) (some ⟨w1.heap.size, 0, none⟩) 1 1 [.int .i64 k] rfl rfl (by simp) (one_new w1 _ _) (by simp [Value.oneCell']) (by unfold maxLen; omega) (by omega) (by have := HSZ.out; simp; omega) ?_; intro v' w2 hown2 hg2)
          have R := own_push HWB.out.2 HWB.out.1 HSZ.out hown2.out hg2.out
          have HR : Hid (Own w2 w.heap.size v' (L ++ [(k : Int)]) ∧ Below w.heap.size w w2) := R
          clear R hown2 hg2
          go_roundw
          case rel =>
            have h := HS.out
            rw [HYE.out] at h
            exact ⟨k + 1, _, rfl, by go_num, by omega, by rw [h]; exact HR.out.1, HR.out.2⟩
          case measure => simp [intOf]; omega
    · have hke : k = len := by omega
      subst hke
      go_wp2_with fail
      go_ret
      exact ⟨_, rfl, HB.out, HOW.out⟩
end Go.Proofs.Ytgbfflpdpfgnbaa
