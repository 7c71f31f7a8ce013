/- impl.Tokens at every text: its tokens and -1, or none and the place of the first word that is none. Conditions: the text has at most 2^20 bytes; those of impl.readWord. -/
import Derived.Test.YtoljphjmekkneabGreatDoorZG28TokEnd
import Derived.Test.YtoljphjmekkneabGreatDoorRows
import Derived.Test.YtoljphjmekkneabGreatDoorZG11DatOkP
import Derived.Test.YtoljphjmekkneabGreatDoorZG17SpecRight
import Derived.Test.YtoljphjmekkneabGreatDoorZG24ImplSym2
import Derived.WalkKit
import Derived.ProofKit
namespace Go.Proofs.YtoljphjmekkneabGreatDoor
open Go.ChangeShapes Go.WideShapes Go.ChangeAt Go.RowKit

/-- What a sign does to the scan at p, which goes on at q. -/
def Step (C : Nat) (s : ByteArray) (acc : List Tok) (b p q : Nat) (e : Ending) (w' : World) : Prop :=
  (e = .returned (.bool true) ∧ ∃ acc2 b2 lv, CutAt w' C s (begI b2 q) acc2 lv ∧ rest s acc2 b2 q = rest s acc b p ∧ b2 ≤ q ∧ acc2.length ≤ b2) ∨
  (e = .returned (.bool false) ∧ ∃ lv, CutAt w' C s (begI b p) acc lv ∧ rest s acc b p = ([], begI b p))

theorem step_of_end {C : Nat} {s : ByteArray} {acc : List Tok} {b p : Nat} {e : Ending} {w' : World} (hp : p < s.size) (hpart : partB (s[p]'hp) = true) (hb : b ≤ p) (hl : acc.length ≤ b)
    (he : e = .returned (.bool (endTok s (begI b p) p acc).isSome)) {lv' : Value} (hy : ∀ acc', endTok s (begI b p) p acc = some acc' → CutAt w' C s (-1) (acc' ++ brack (s[p]'hp) p) lv')
    (hn : endTok s (begI b p) p acc = none → CutAt w' C s (begI b p) acc lv') : Step C s acc b p (p + 1) e w' := by
  cases E : endTok s (begI b p) p acc with
  | none =>
    rw [E] at he
    exact .inr ⟨he, lv', hn E, endTok_no hb (fun _ => hpart) E⟩
  | some acc' =>
    rw [E] at he
    obtain ⟨h1, h2⟩ := endTok_yes hb hl (fun _ => hpart) E
    refine .inl ⟨he, acc' ++ brack (s[p]'hp) p, p + 1, lv', ?_, ?_, Nat.le_refl _, ?_⟩
    · rw [begI_out]; exact hy acc' E
    · rw [h1, rest_part s acc' p hp hpart]
    · have : (brack (s[p]'hp) p).length ≤ 1 := by
        unfold brack
        repeat' split
        all_goals simp
      rw [List.length_append]; omega

theorem take_step (C : Nat) (s : ByteArray) (b p : Nat) (acc : List Tok) (lv : Value) (w : World) (hc : CutAt w C s (begI b p) acc lv) (hC1 : C + 1 < w.heap.size) (hb : b ≤ p) (hl : acc.length ≤ b)
    (hp : p < s.size) (hs : s.size ≤ 4000) (ht : PowTab w) (hv : ErrVars w) :
    Calls Tryz.prog 57 #[.pointer (some ⟨C, 0, none⟩), .int .i32 (Utf8.decode s p).1, .int .i64 p] w fun e w' => Keeps C w w' ∧ Step C s acc b p (p + (Utf8.decode s p).2) e w' := by
  by_cases ha : (s[p]).toNat < 128
  · rw [decode_ascii s p hp ha]
    simp only
    cases hpart : partB s[p] with
    | true =>
      rcases part_cases hpart with h | h | h | h
      · refine (take_blank C s (begI b p) (s[p]).toNat p acc lv w hc hC1 (by omega) (begI_or hb) (.inl h) (by omega) hs ht hv).mono ?_
        rintro e w' ⟨he, hk, lv', hy, hn⟩
        exact ⟨hk, step_of_end hp hpart hb hl he (fun a ha => by rw [brack_blank (.inl h), List.append_nil]; exact hy a ha) hn⟩
      · refine (take_blank C s (begI b p) (s[p]).toNat p acc lv w hc hC1 (by omega) (begI_or hb) (.inr h) (by omega) hs ht hv).mono ?_
        rintro e w' ⟨he, hk, lv', hy, hn⟩
        exact ⟨hk, step_of_end hp hpart hb hl he (fun a ha => by rw [brack_blank (.inr h), List.append_nil]; exact hy a ha) hn⟩
      · have hr : ((s[p]).toNat : Int) = 40 := by rw [h]; rfl
        rw [hr]
        refine (take_open C s (begI b p) p acc lv w hc hC1 (by omega) (begI_or hb) (by omega) hs ht hv).mono ?_
        rintro e w' ⟨he, hk, lv', hy, hn⟩
        exact ⟨hk, step_of_end hp hpart hb hl he (fun a ha => by rw [h]; exact hy a ha) hn⟩
      · have hr : ((s[p]).toNat : Int) = 41 := by rw [h]; rfl
        rw [hr]
        refine (take_shut C s (begI b p) p acc lv w hc hC1 (by omega) (begI_or hb) (by omega) hs ht hv).mono ?_
        rintro e w' ⟨he, hk, lv', hy, hn⟩
        exact ⟨hk, step_of_end hp hpart hb hl he (fun a ha => by rw [h]; exact hy a ha) hn⟩
    | false =>
      obtain ⟨h1, h2, h3, h4⟩ := part_no hpart
      refine (take_other C s (begI b p) (s[p]).toNat p acc lv w hc hC1 ((begI_or hb).imp id And.left) (by omega) (by omega) h1 h2 h3 h4).mono ?_
      rintro e w' ⟨he, hk, hcut⟩
      rw [begI_next hb (by omega : p < p + 1)] at hcut
      exact ⟨hk, .inl ⟨he, acc, b, lv, hcut, (rest_other s acc b p hp hpart).symm, by omega, hl⟩⟩
  · obtain ⟨d1, d2⟩ := decode_valid s p hp (by omega)
    obtain ⟨d3, d4⟩ := decode_high s p hp (by omega)
    refine (take_other C s (begI b p) (Utf8.decode s p).1 p acc lv w hc hC1 ((begI_or hb).imp id And.left) d1 (fun _ => d2) (by omega) (by omega) (by omega) (by omega)).mono ?_
    rintro e w' ⟨he, hk, hcut⟩
    rw [begI_next hb (by omega : p < p + (Utf8.decode s p).2)] at hcut
    exact ⟨hk, .inl ⟨he, acc, b, lv, hcut, (rest_rune s acc b p hp (by omega)).symm, by omega, hl⟩⟩

theorem own_mono {w : World} {base base' e size n : Nat} {v : Value} {xs : List Value} (h : w.ownsRow base e size v n xs) (hb : base' ≤ base) : w.ownsRow base' e size v n xs := by
  refine ⟨h.1, ?_⟩
  rcases h.2 with hn | ⟨g, cap, cur, rfl, hbg, rest⟩
  · exact .inl hn
  · exact .inr ⟨g, cap, cur, rfl, by omega, rest⟩

set_option maxHeartbeats 2000000 in
theorem tokens_long (s : ByteArray) (hs : (4000 : Int) < s.size) (hm : s.size ≤ 1048576) (w : World) :
    Calls Tryz.prog 41 #[.string s] w fun e w' => ∃ lv, e = .returned (.tuple #[lv, .int .i64 (toks s).2]) ∧ Below w.heap.size w w' ∧ w'.ownsRow w.heap.size 78 4 lv (toks s).1.length (rows (toks s).1) := by
  have H : Hid (toks s = ([], 0)) := show toks s = ([], 0) by unfold toks; rw [if_neg (by omega)]
  go_enter Tryz.func41, Tryz.ntmps41
  go_wp2
  go_ret2
  rw [H.out]
  exact ⟨_, rfl, Below.refl _ _, World.ownsRow_nil _ _ _ _⟩

set_option maxHeartbeats 2000000 in
theorem tokens_short (s : ByteArray) (hs : ¬ (4000 : Int) < s.size) (w : World) (ht : PowTab w) (hv : ErrVars w) :
    Calls Tryz.prog 41 #[.string s] w fun e w' => ∃ lv, e = .returned (.tuple #[lv, .int .i64 (toks s).2]) ∧ Below w.heap.size w w' ∧ w'.ownsRow w.heap.size 78 4 lv (toks s).1.length (rows (toks s).1) := by
  have HT : Hid (PowTab w) := ht
  have HV : Hid (ErrVars w) := hv
  have HS : Hid (toks s = rest s [] 0 0) := rest_start s (by omega)
  have hs4 : s.size ≤ 4000 := by omega
  clear ht hv
  go_enter Tryz.func41, Tryz.ntmps41
  go_wp2
  generalize hC : w.heap.size = C
  go_loopw [5, 6] (fun _ _ wr => ∃ (pos b : Nat) (acc : List Tok) (lv : Value), CutAt wr C s (begI b pos) acc lv ∧ wr.heap[C + 1]? = some (.stringIter s pos) ∧ Below C w wr ∧ rest s acc b pos = toks s ∧ b ≤ pos ∧ pos ≤ s.size ∧ acc.length ≤ b)
    (fun _ _ wr => s.size - wr.iterPos (C + 1))
  case atStart =>
    subst hC
    refine ⟨0, 0, [], .slice none 0 0, ⟨?_, World.ownsRow_nil _ _ _ _⟩, ?_, ?_, HS.out.symm, Nat.le_refl _, Nat.zero_le _, Nat.le_refl _⟩
    · rw [begI_out]
      exact ((below_iter _ s 0).block w.heap.size (by simp)).trans (heap_alloc_new w _)
    · have := World.iter_heap (w.alloc (.cells #[.string s, .int .i64 (-1), .slice none 0 0] 104)) s 0
      simpa using this
    · exact (below_alloc w _).trans ((below_iter _ s 0).mono (by simp))
  case round =>
    obtain ⟨pos, b, acc, lv, hcut, hit, hbel, hrest, hb, hpos, hlen⟩ := hrel
    have hC1 : C + 1 < wr.heap.size := (Array.getElem?_eq_some_iff.1 hit).1
    have HB : Hid (Below C w wr) := hbel
    have HRS : Hid (rest s acc b pos = toks s) := hrest
    by_cases hp : pos < s.size
    · have hnx : ∀ ty, (Instr.next (.pointer (some ⟨C + 1, 0, none⟩)) true ty).run Tryz.prog wr = _ := fun ty => Lib.run_next_any_at wr (C + 1) s pos ty hit hp
      have HSTEP : Hid (Calls Tryz.prog 57 #[.pointer (some ⟨C, 0, none⟩), .int .i32 (Utf8.decode s pos).1, .int .i64 pos] (wr.iterAt (C + 1) s (pos + (Utf8.decode s pos).2)) fun e w' => Keeps C (wr.iterAt (C + 1) s (pos + (Utf8.decode s pos).2)) w' ∧ Step C s acc b pos (pos + (Utf8.decode s pos).2) e w') :=
        take_step C s b pos acc lv _ (cut_iterAt hcut s _) (by rw [Lib.iterAt_size]; exact hC1) hb hlen hp hs4 (HT.out.below (by rw [hC]; exact Lib.below_iterAt hbel (by omega) s _)) (HV.out.below (by rw [hC]; exact Lib.below_iterAt hbel (by omega) s _))
      have HIT : Hid ((wr.iterAt (C + 1) s (pos + (Utf8.decode s pos).2)).heap[C + 1]? = some (.stringIter s (pos + (Utf8.decode s pos).2))) := Lib.iterAt_heap wr (C + 1) s pos _ hit
      have HBI : Hid (Below C w (wr.iterAt (C + 1) s (pos + (Utf8.decode s pos).2))) := Lib.below_iterAt hbel (by omega) s _
      have hwid : 1 ≤ (Utf8.decode s pos).2 ∧ pos + (Utf8.decode s pos).2 ≤ s.size := by
        by_cases ha : (s[pos]).toNat < 128
        · rw [decode_ascii s pos hp ha]; exact ⟨Nat.le_refl _, by simp only; omega⟩
        · exact ⟨(decode_high s pos hp (by omega)).2, (decode_wide s pos hp (by omega)).1⟩
      have HPOS : Hid (wr.iterPos (C + 1) = pos) := show wr.iterPos (C + 1) = pos by unfold World.iterPos; rw [hit]
      clear hcut hbel hrest hit
      go_wp2_with fail
      refine HSTEP.out.mono ?_
      rintro e w2 ⟨hk2, hst⟩
      have HIT2 : Hid (w2.heap[C + 1]? = some (.stringIter s (pos + (Utf8.decode s pos).2))) := hk2.2.trans HIT.out
      have HB2 : Hid (Below C w w2) := HBI.out.trans hk2.1
      clear HSTEP hk2 hnx
      rcases hst with ⟨rfl, acc2, b2, lv2, g1, g2, g3, g4⟩ | ⟨rfl, lv2, g1, g2⟩
      · have G : Hid (CutAt w2 C s (begI b2 (pos + (Utf8.decode s pos).2)) acc2 lv2 ∧ rest s acc2 b2 (pos + (Utf8.decode s pos).2) = toks s ∧ b2 ≤ pos + (Utf8.decode s pos).2 ∧ acc2.length ≤ b2) := ⟨g1, g2.trans HRS.out, g3, g4⟩
        clear g1 g2 g3 g4
        go_wp2
        go_roundw
        case rel => exact ⟨_, b2, acc2, lv2, G.out.1, HIT2.out, HB2.out, G.out.2.1, G.out.2.2.1, hwid.2, G.out.2.2.2⟩
        case measure =>
          have e1 : w2.iterPos (C + 1) = pos + (Utf8.decode s pos).2 := by unfold World.iterPos; rw [HIT2.out]
          rw [e1, HPOS.out]
          omega
      · have c1 := g1.c1
        have HE : Hid (toks s = ([], begI b pos)) := HRS.out.symm.trans g2
        clear g1 g2
        generalize begI b pos = x at c1 HE
        go_wp2
        go_quiet (fail)
        go_wp2
        go_ret2
        rw [HE.out]
        exact ⟨_, rfl, by rw [hC]; exact ⟨HB2.out.os, HB2.out.tape, HB2.out.output, HB2.out.size, HB2.out.block⟩, World.ownsRow_nil _ _ _ _⟩
    · have hnx : ∀ ty, (Instr.next (.pointer (some ⟨C + 1, 0, none⟩)) true ty).run Tryz.prog wr = _ := fun ty => Lib.run_next_end_at wr (C + 1) s pos ty hit hp
      have hpe : pos = s.size := by omega
      subst hpe
      have HEND : Hid (Calls Tryz.prog 58 #[.pointer (some ⟨C, 0, none⟩), .int .i64 s.size] wr fun e w' => e = .returned (.bool (endTok s (begI b s.size) s.size acc).isSome) ∧ Keeps C wr w' ∧ ∃ lv', (∀ acc', endTok s (begI b s.size) s.size acc = some acc' → CutAt w' C s (-1) acc' lv') ∧ (endTok s (begI b s.size) s.size acc = none → CutAt w' C s (begI b s.size) acc lv')) :=
        end_all C s (begI b s.size) s.size acc lv wr hcut hC1 (by omega) (begI_or hb) (Nat.le_refl _) hs4 (HT.out.below (by rw [hC]; exact hbel)) (HV.out.below (by rw [hC]; exact hbel))
      have HNO : Hid (endTok s (begI b s.size) s.size acc = none → toks s = ([], begI b s.size)) := fun h => HRS.out.symm.trans (endTok_no hb (fun h => absurd h (by omega)) h)
      have HYES : Hid (∀ acc', endTok s (begI b s.size) s.size acc = some acc' → toks s = (acc', -1)) := fun acc' h => by
        have := (endTok_yes hb hlen (fun h => absurd h (by omega)) h).1
        rw [rest_done] at this
        exact HRS.out.symm.trans this
      clear hcut hbel hrest hit
      generalize begI b s.size = x at HEND HNO HYES
      generalize endTok s x s.size acc = E at HEND HNO HYES
      cases E with
      | none =>
        have HE : Hid (toks s = ([], x)) := HNO.out rfl
        go_wp2_with fail
        refine HEND.out.mono ?_
        rintro e w2 ⟨rfl, hk2, lv2, -, hn2⟩
        have c1 := (hn2 (by simp)).c1
        have HB2 : Hid (Below C w w2) := HB.out.trans hk2.1
        clear HEND hk2 hn2 hnx HNO HYES
        go_wp2
        go_quiet (fail)
        go_wp2
        go_ret2
        rw [HE.out]
        exact ⟨_, rfl, by rw [hC]; exact ⟨HB2.out.os, HB2.out.tape, HB2.out.output, HB2.out.size, HB2.out.block⟩, World.ownsRow_nil _ _ _ _⟩
      | some acc' =>
        have HE : Hid (toks s = (acc', -1)) := HYES.out acc' rfl
        go_wp2_with fail
        refine HEND.out.mono ?_
        rintro e w2 ⟨rfl, hk2, lv2, hy2, -⟩
        have hcut2 := hy2 acc' rfl
        have c2 := hcut2.c2
        have HB2 : Hid (Below C w w2) := HB.out.trans hk2.1
        have HO : Hid (w2.ownsRow C 78 4 lv2 acc'.length (rows acc')) := own_mono hcut2.own (by omega)
        clear HEND hk2 hy2 hnx HNO HYES hcut2
        go_wp2
        go_ret2
        rw [HE.out]
        exact ⟨lv2, rfl, by rw [hC]; exact HB2.out, by rw [hC]; exact HO.out⟩

theorem impl_tokens (s : ByteArray) (hm : s.size ≤ 1048576) (w : World) (ht : PowTab w) (hv : ErrVars w) :
    Calls Tryz.prog 41 #[.string s] w fun e w' => ∃ lv, e = .returned (.tuple #[lv, .int .i64 (toks s).2]) ∧ Below w.heap.size w w' ∧ w'.ownsRow w.heap.size 78 4 lv (toks s).1.length (rows (toks s).1) := by
  by_cases hs : (4000 : Int) < s.size
  · exact tokens_long s hs hm w
  · exact tokens_short s hs w ht hv
end Go.Proofs.YtoljphjmekkneabGreatDoor

/- impl.datFieldsOk. Condition: the text has at most 2^20 bytes. -/
namespace Go.Proofs.YtoljphjmekkneabGreatDoor
open Go.ChangeShapes Go.WideShapes Go.ChangeAt Go.RowKit

set_option maxRecDepth 100000 in
set_option maxHeartbeats 8000000 in
theorem fields_ok (t : D) (w : World) (p : Option Addr) (cap : Nat) (hs : t.s.size ≤ 1048576) :
    Calls Tryz.prog 28 #[.agg #[.int .i64 t.op, .int .i64 t.at_, .int .i64 t.n, .string t.s, .slice p t.len cap]] w fun e w' => e = .returned (.bool (fieldsB t)) ∧ Below w.heap.size w w' := by
  have HW : Hid (∀ w, Calls Tryz.prog 47 #[.int .i64 t.n] w fun e w' => e = .returned (.bool (wokB t.n)) ∧ w' = w) := fun w => impl_wordOk t.n w
  have HS : Hid (∀ w, Calls Tryz.prog 48 #[.string t.s] w fun e w' => e = .returned (.bool (symB t.s.data.toList)) ∧ Below w.heap.size w w') := fun w => impl_sym t.s hs w
  have HR : Hid (fieldsB t = fB t.at_ t.op (wokB t.n) (symB t.s.data.toList) (t.s.toList == []) (t.n == 0) ((t.len : Int) == 0)) := rfl
  generalize fieldsB t = R at *
  generalize symB t.s.data.toList = sb at *
  generalize wokB t.n = wb at *
  generalize t.op = op at *
  generalize t.at_ = a at *
  generalize t.n = n at *
  generalize t.s = s at *
  generalize t.len = len at *
  have HB : Hid (∀ o1, Below w.heap.size w (w.alloc o1)) := fun o1 => newb w _
  have HBB : Hid (∀ o1 w2, Below (w.alloc o1).heap.size (w.alloc o1) w2 → Below w.heap.size w w2) := fun o1 w2 h => (newb w _).trans (h.mono (newb w _).size)
  clear hs
  cases he : (s.toList == ([] : List UInt8)) <;> cases hn : (n == 0) <;> cases hl : ((len : Int) == 0)
  all_goals
    rw [he, hn, hl] at HR
    rcases Int.lt_or_le a 0 with ha | ha
    · have HR2 : Hid (R = false) := HR.out.trans (by unfold fB; rw [decide_eq_false (by omega)]; rfl)
      clear HR
      go_enter Tryz.func28, Tryz.ntmps28
      go_wp2_with fail
      go_ret
      exact ⟨ret_bool HR2.out.symm, HB.out _⟩
    · by_cases h1 : op = 1
      · subst h1
        cases wb
        all_goals
          have HR2 : Hid _ := HR.out.trans (by unfold fB; rw [decide_eq_true ha, if_pos rfl])
          clear HR
          go_enter Tryz.func28, Tryz.ntmps28
          go_wp2_with ((go_at_call 47; refine (HW.out _).mono ?_; rintro e w1 ⟨rfl, rfl⟩))
          go_ret
          exact ⟨ret_bool HR2.out.symm, HB.out _⟩
      · by_cases h2 : op = 2
        · subst h2
          cases sb
          all_goals
            have HR2 : Hid _ := HR.out.trans (by unfold fB; rw [decide_eq_true ha, if_neg (by omega), if_pos rfl])
            clear HR
            go_enter Tryz.func28, Tryz.ntmps28
            go_wp2_with fail
            refine (HS.out _).mono ?_
            rintro e w1 ⟨rfl, hb1⟩
            have HB1 : Hid (Below w.heap.size w w1) := HBB.out _ _ hb1
            have hbk := hb1.block w.heap.size (by simp)
            rw [heap_alloc_new] at hbk
            have k2 : w1.cell? ⟨w.heap.size, 2, none⟩ = some (.int .i64 n) := cell_of_row w1 _ 2 _ _ _ hbk
            have k4 : w1.cell? ⟨w.heap.size, 4, none⟩ = some (.slice p len cap) := cell_of_row w1 _ 4 _ _ _ hbk
            clear hb1 hbk
            go_wp2_with fail
            go_ret
            exact ⟨ret_bool HR2.out.symm, HB1.out⟩
        · by_cases h3 : op = 3
          · subst h3
            have HR2 : Hid _ := HR.out.trans (by unfold fB; rw [decide_eq_true ha, if_neg (by omega), if_neg (by omega), if_pos rfl])
            clear HR
            go_enter Tryz.func28, Tryz.ntmps28
            go_wp2_with fail
            go_ret
            exact ⟨ret_bool HR2.out.symm, HB.out _⟩
          · have HR2 : Hid (R = false) := HR.out.trans (by unfold fB; rw [if_neg h1, if_neg h2, if_neg h3]; simp)
            clear HR
            have g1 : (op == 1) = false := by simpa using h1
            have g2 : (op == 2) = false := by simpa using h2
            have g3 : (op == 3) = false := by simpa using h3
            go_enter Tryz.func28, Tryz.ntmps28
            go_wp2_with fail
            go_ret
            exact ⟨ret_bool HR2.out.symm, HB.out _⟩
end Go.Proofs.YtoljphjmekkneabGreatDoor
