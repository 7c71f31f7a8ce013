/- spec.Tokens at every text: its tokens and -1, or none and the place of the first word that is none. Condition: the text is no longer than a text can be. -/
import Derived.Test.YtoljphjmekkneabGreatDoorZG15SpecSym
import Derived.Test.YtoljphjmekkneabGreatDoorZG4TokGood
import Derived.Test.YtoljphjmekkneabGreatDoorRows
import Derived.Test.YtoljphjmekkneabGreatDoorZG11DatOkP
import Derived.OwnWalk
import Derived.Deep.AppendLies
import Derived.WalkKit
import Derived.ProofKit
namespace Go.Proofs.YtoljphjmekkneabGreatDoor
open Go.ChangeShapes Go.WideShapes Go.ChangeAt Go.RowKit

theorem tok_info' : (Tryz.prog.info? 78).map (fun i => (i.zero, i.size, i.bytes)) = some (some (.agg #[.int .i64 0, .int .i64 0, .int .i64 0, .string ⟨#[]⟩]), 4, 40) := by kernel_rfl

set_option maxHeartbeats 1000000 in
theorem spec_part (c : UInt8) (w : World) : Calls Tryz.prog 43 #[.int .u8 c.toNat] w fun e w' => e = .returned (.bool (partB c)) ∧ w' = w := by
  have H : Hid (partB c = ((c.toNat : Int) == 32 || (c.toNat : Int) == 10 || (c.toNat : Int) == 40 || (c.toNat : Int) == 41)) := show partB c = _ by
    unfold partB
    rw [u8_eq' c 32, u8_eq' c 10, u8_eq' c 40, u8_eq' c 41]; rfl
  cases h1 : ((c.toNat : Int) == 32)
  · cases h2 : ((c.toNat : Int) == 10)
    · cases h3 : ((c.toNat : Int) == 40)
      · cases h4 : ((c.toNat : Int) == 41)
        all_goals
          have HN := H.out
          rw [h1, h2, h3, h4] at HN
          have HM : Hid (partB c = _) := HN
          clear HN
          go_enter Tryz.func43, Tryz.ntmps43
          go_wp2
          go_ret
          exact ⟨by rw [HM.out]; rfl, rfl⟩
      · have HN := H.out
        rw [h1, h2, h3] at HN
        have HM : Hid (partB c = true) := HN.trans (by simp)
        clear HN
        go_enter Tryz.func43, Tryz.ntmps43
        go_wp2
        go_ret
        exact ⟨by rw [HM.out]; rfl, rfl⟩
    · have HN := H.out
      rw [h1, h2] at HN
      have HM : Hid (partB c = true) := HN.trans (by simp)
      clear HN
      go_enter Tryz.func43, Tryz.ntmps43
      go_wp2
      go_ret
      exact ⟨by rw [HM.out]; rfl, rfl⟩
  · have HN := H.out
    rw [h1] at HN
    have HM : Hid (partB c = true) := HN.trans (by simp)
    clear HN
    go_enter Tryz.func43, Tryz.ntmps43
    go_wp2
    go_ret
    exact ⟨by rw [HM.out]; rfl, rfl⟩

theorem below_al (w : World) (o : Obj) : Below w.heap.size w (w.alloc o) :=
  ⟨rfl, rfl, rfl, by simp, fun k hk => (World.grownBy_alloc w o none).block k hk (by simp)⟩

/-- What an append leaves of the loop's relation. -/
theorem rel_app {w W X w4 : World} {B : Nat} {acc : List Tok} {v v' : Value} {t : Tok} {cells : Obj} (hB : W.heap[B]? = some cells) (hbel : Below B w W) (hX : Below W.heap.size W X)
    (hown : W.ownsRow (B + 1) 78 4 v acc.length (rows acc))
    (ho : w4.ownsRow (B + 1) 78 4 v' (acc.length + 1) (rows acc ++ [.int .i64 t.kind, .int .i64 t.at_, .int .i64 t.n, .string t.text])) (hg : X.grownBy w4 v.ownBlock) :
    w4.heap[B]? = some cells ∧ Below B w w4 ∧ w4.ownsRow (B + 1) 78 4 v' (acc ++ [t]).length (rows (acc ++ [t])) := by
  have hBs : B < W.heap.size := (Array.getElem?_eq_some_iff.1 hB).1
  have hrow : ∀ k, k < B + 1 → some k ≠ v.ownBlock := by intro k hk e; have := (hown.lt k e.symm).1; omega
  have hold : ∀ k, k < B + 1 → w4.heap[k]? = W.heap[k]? := by
    intro k hk
    rw [hg.block k (Nat.lt_of_lt_of_le (by omega : k < W.heap.size) hX.size) (hrow k hk)]
    exact hX.block k (by omega)
  refine ⟨(hold B (by omega)).trans hB, ⟨(hg.os.trans hX.os).trans hbel.os, (hg.tape.trans hX.tape).trans hbel.tape, (hg.output.trans hX.output).trans hbel.output, ?_, fun k hk => (hold k (by omega)).trans (hbel.block k hk)⟩, ?_⟩
  · have h1 := hg.size
    have h2 := hX.size
    have h3 := hbel.size
    omega
  · have hl : (acc ++ [t]).length = acc.length + 1 := by simp
    have hr : rows (acc ++ [t]) = rows acc ++ [.int .i64 t.kind, .int .i64 t.at_, .int .i64 t.n, .string t.text] := by rw [rows_append]; rfl
    rw [hl, hr]; exact ho

theorem own_below {w w' : World} {base e size n : Nat} {v : Value} {xs : List Value} (h : w.ownsRow base e size v n xs) (hb : Below w.heap.size w w') : w'.ownsRow base e size v n xs := by
  refine ⟨h.1, ?_⟩
  rcases h.2 with hn | ⟨g, cap, cur, rfl, hbg, hgg, rest⟩
  · exact .inl hn
  · exact .inr ⟨g, cap, cur, rfl, hbg, (hb.block g (Array.getElem?_eq_some_iff.1 hgg).1).trans hgg, rest⟩

theorem own_baseT {w : World} {base base' e size n : Nat} {v : Value} {xs : List Value} (h : w.ownsRow base e size v n xs) (hb : base' ≤ base) : w.ownsRow base' e size v n xs := by
  refine ⟨h.1, ?_⟩
  rcases h.2 with hn | ⟨g, cap, cur, rfl, hbg, rest⟩
  · exact .inl hn
  · exact .inr ⟨g, cap, cur, rfl, by omega, rest⟩

theorem own_none {w : World} {B : Nat} {e : TypeId} (hB : w.heap[B]? = some (.cells #[] e (0, 0))) : w.ownsRow B e 4 (.slice (some ⟨B, 0, none⟩) 0 0) 0 [] :=
  ⟨rfl, .inr ⟨B, 0, #[], rfl, Nat.le_refl _, hB, Nat.le_refl _, Nat.zero_le _, rfl, rfl⟩⟩

theorem rest_word {s : ByteArray} {acc : List Tok} {p q : Nat} (hpq : p < q) (hq : q ≤ s.size) (hno : ∀ j (hj : j < q - p), partB (s[p + j]'(by omega)) = false) (hend : ∀ h : q < s.size, partB (s[q]'h) = true) :
    rest s acc p p = match tokOf (s.extract p q) p with | none => ([], (p : Int)) | some t => rest s (acc ++ [t]) q q := by
  have h1 := rest_others s acc p p (q - p) (by omega) hno
  have e : p + (q - p) = q := by omega
  rw [e] at h1
  rw [h1]
  exact rest_end s acc p q hpq hend

theorem spec_word_some (x : ByteArray) (hx : x.size ≤ maxLen) (v : Int) (h : wordV x.data.toList = some v) (w : World) :
    Calls Tryz.prog 44 #[.string x] w fun e w' => e = .returned (.tuple #[.int .i64 v, .bool true]) ∧ Below w.heap.size w w' := by
  refine (spec_word x w hx).mono ?_
  rintro e w' ⟨⟨n, rfl, hn⟩, hb⟩
  rw [h, hn v h]
  exact ⟨rfl, hb⟩

theorem spec_word_none (x : ByteArray) (hx : x.size ≤ maxLen) (h : wordV x.data.toList = none) (w : World) :
    Calls Tryz.prog 44 #[.string x] w fun e w' => (∃ n, e = .returned (.tuple #[.int .i64 n, .bool false])) ∧ Below w.heap.size w w' := by
  refine (spec_word x w hx).mono ?_
  rintro e w' ⟨⟨n, rfl, hn⟩, hb⟩
  rw [h]
  exact ⟨⟨n, rfl⟩, hb⟩

set_option maxRecDepth 1000000 in
set_option maxHeartbeats 8000000 in
theorem spec_tokens (s : ByteArray) (hm : s.size ≤ maxLen) (w : World) :
    Calls Tryz.prog 22 #[.string s] w fun e w' => ∃ lv, e = .returned (.tuple #[lv, .int .i64 (toks s).2]) ∧ Below w.heap.size w w' ∧ w'.ownsRow w.heap.size 78 4 lv (toks s).1.length (rows (toks s).1) := by
  have HM := hm
  unfold maxLen at hm
  obtain ⟨i0, hi, hz0, hz1, hz2⟩ := info_parts tok_info'
  by_cases hs : (4000 : Int) < s.size
  · have H : Hid (toks s = ([], 0)) := show toks s = ([], 0) by unfold toks; rw [if_neg (by omega)]
    go_enter Tryz.func22, Tryz.ntmps22
    go_wp2
    go_ret2
    rw [H.out]
    refine ⟨_, rfl, (below_al w _).trans ((below_al _ _).mono (by simp)), own_none ?_⟩
    exact ((below_al _ _).block _ (by simp)).trans (heap_alloc_new w _)
  have HS : Hid (toks s = rest s [] 0 0) := rest_start s (by omega)
  have hs4 : s.size ≤ 4000 := by omega
  go_enter Tryz.func22, Tryz.ntmps22
  go_wp2
  generalize hBw : w.heap.size = B
  go_loopw [5, 6] (fun v5 v6 wr => ∃ (pos : Nat) (acc : List Tok), v6 = .int .i64 pos ∧ pos ≤ s.size ∧ wr.ownsRow (B + 1) 78 4 v5 acc.length (rows acc) ∧ wr.heap[B]? = some (.cells #[] 78 (0, 0)) ∧ Below B w wr ∧ rest s acc pos pos = toks s ∧ acc.length ≤ pos)
    (fun _ v6 _ => s.size - (intOf v6).toNat)
  case atStart =>
    subst hBw
    refine ⟨0, [], rfl, Nat.zero_le _, ?_, ?_, ?_, HS.out.symm, Nat.le_refl _⟩
    · have hq := World.ownsRow_lit (base := w.heap.size + 1) (e := 78) (size := 4) (w.alloc (.cells #[] 78)) #[] 0 (by simp) (by unfold maxLen; omega) (by simp)
      rw [World.size_alloc] at hq
      exact hq
    · exact ((below_al _ _).block _ (by simp)).trans (heap_alloc_new w _)
    · exact (below_al w _).trans ((below_al _ _).mono (by simp))
  case round =>
    obtain ⟨pos, acc, rfl, hpos, hown, hB, hbel, hrest, hlen⟩ := hrel
    have HO : Hid (wr.ownsRow (B + 1) 78 4 u5 acc.length (rows acc)) := hown
    have HB : Hid (wr.heap[B]? = some (.cells #[] 78 (0, 0)) ∧ Below B w wr) := ⟨hB, hbel⟩
    have HR : Hid (rest s acc pos pos = toks s) := hrest
    clear hown hB hbel hrest
    by_cases hp : (pos : Int) < s.size
    · have hp' : pos < s.size := by omega
      cases hpart : partB s[pos] with
      | true =>
        rcases part_cases hpart with h | h | h | h
        · have t32 : ((s[pos].toNat : Int) == 32) = true := by rw [h]; rfl
          have HQ : Hid (rest s acc (pos + 1) (pos + 1) = toks s) := show rest s acc (pos + 1) (pos + 1) = toks s by
            rw [← HR.out, rest_part s acc pos hp' hpart, brack_blank (.inl h), List.append_nil]
          clear h
          go_wp2
          go_roundw
          case rel => exact ⟨pos + 1, acc, by go_num, by omega, HO.out, HB.out.1, HB.out.2, HQ.out, by omega⟩
          case measure => simp [intOf]; omega
        · have t32 : ((s[pos].toNat : Int) == 32) = false := by rw [h]; rfl
          have t10 : ((s[pos].toNat : Int) == 10) = true := by rw [h]; rfl
          have HQ : Hid (rest s acc (pos + 1) (pos + 1) = toks s) := show rest s acc (pos + 1) (pos + 1) = toks s by
            rw [← HR.out, rest_part s acc pos hp' hpart, brack_blank (.inr h), List.append_nil]
          clear h
          go_wp2
          go_roundw
          case rel => exact ⟨pos + 1, acc, by go_num, by omega, HO.out, HB.out.1, HB.out.2, HQ.out, by omega⟩
          case measure => simp [intOf]; omega
        · have t32 : ((s[pos].toNat : Int) == 32) = false := by rw [h]; rfl
          have t10 : ((s[pos].toNat : Int) == 10) = false := by rw [h]; rfl
          have t40 : ((s[pos].toNat : Int) == 40) = true := by rw [h]; rfl
          have HQ : Hid (rest s (acc ++ [⟨1, pos, 0, ⟨#[40]⟩⟩]) (pos + 1) (pos + 1) = toks s) := show rest s (acc ++ [⟨1, pos, 0, ⟨#[40]⟩⟩]) (pos + 1) (pos + 1) = toks s by
            rw [← HR.out, rest_part s acc pos hp' hpart, h]; rfl
          clear h
          go_wp2_with (first | (at_builtin; refine wpList_append_own _ rfl _ _ 44 rfl (B + 1) 78 i0 _ 4 40 Tryz.underlying44 hi hz0 hz1 hz2 rfl (by decide) _ acc.length (rows acc) rfl (HO.out.alloc _) ⟨wr.heap.size, 0, none⟩ 1 1 [.int .i64 1, .int .i64 pos, .int .i64 0, .string ⟨#[40]⟩] rfl rfl ?c1 ?c2 ?c3 ?c4 ?c5 ?_))
          case c1 => exact World.news_of_block (cs := #[.int .i64 1, .int .i64 pos, .int .i64 0, .string ⟨#[40]⟩]) (t := 78) (fr := (0, 0)) (heap_alloc_new wr _)
          case c2 => simp [Value.oneCell']
          case c3 => unfold maxLen; omega
          case c4 => omega
          case c5 => have := (Array.getElem?_eq_some_iff.1 HB.out.1).1; simp; omega
          intro v' w4 hown4 hgrow4 _
          have R := rel_app (t := ⟨1, pos, 0, ⟨#[40]⟩⟩) HB.out.1 HB.out.2 (below_al wr _) HO.out hown4 hgrow4
          have HRR : Hid _ := R
          clear hown4 hgrow4 R
          go_wp2
          go_roundw
          case rel => first | exact ⟨pos + 1, acc ++ [⟨1, pos, 0, ⟨#[40]⟩⟩], by go_num, by omega, HRR.out.2.2, HRR.out.1, HRR.out.2.1, HQ.out, by simp; omega⟩ | ((repeat apply Exists.intro); exact ⟨⟨pos + 1, acc ++ [⟨1, pos, 0, ⟨#[40]⟩⟩], by go_num, by omega, HRR.out.2.2, HRR.out.1, HRR.out.2.1, HQ.out, by simp; omega⟩, rfl⟩)
          case measure => simp [intOf]; omega
        · have t32 : ((s[pos].toNat : Int) == 32) = false := by rw [h]; rfl
          have t10 : ((s[pos].toNat : Int) == 10) = false := by rw [h]; rfl
          have t40 : ((s[pos].toNat : Int) == 40) = false := by rw [h]; rfl
          have t41 : ((s[pos].toNat : Int) == 41) = true := by rw [h]; rfl
          have HQ : Hid (rest s (acc ++ [⟨2, pos, 0, ⟨#[41]⟩⟩]) (pos + 1) (pos + 1) = toks s) := show rest s (acc ++ [⟨2, pos, 0, ⟨#[41]⟩⟩]) (pos + 1) (pos + 1) = toks s by
            rw [← HR.out, rest_part s acc pos hp' hpart, h]; rfl
          clear h
          go_wp2_with (first | (at_builtin; refine wpList_append_own _ rfl _ _ 44 rfl (B + 1) 78 i0 _ 4 40 Tryz.underlying44 hi hz0 hz1 hz2 rfl (by decide) _ acc.length (rows acc) rfl (HO.out.alloc _) ⟨wr.heap.size, 0, none⟩ 1 1 [.int .i64 2, .int .i64 pos, .int .i64 0, .string ⟨#[41]⟩] rfl rfl ?c1 ?c2 ?c3 ?c4 ?c5 ?_))
          case c1 => exact World.news_of_block (cs := #[.int .i64 2, .int .i64 pos, .int .i64 0, .string ⟨#[41]⟩]) (t := 78) (fr := (0, 0)) (heap_alloc_new wr _)
          case c2 => simp [Value.oneCell']
          case c3 => unfold maxLen; omega
          case c4 => omega
          case c5 => have := (Array.getElem?_eq_some_iff.1 HB.out.1).1; simp; omega
          intro v' w4 hown4 hgrow4 _
          have R := rel_app (t := ⟨2, pos, 0, ⟨#[41]⟩⟩) HB.out.1 HB.out.2 (below_al wr _) HO.out hown4 hgrow4
          have HRR : Hid _ := R
          clear hown4 hgrow4 R
          go_wp2
          go_roundw
          case rel => first | exact ⟨pos + 1, acc ++ [⟨2, pos, 0, ⟨#[41]⟩⟩], by go_num, by omega, HRR.out.2.2, HRR.out.1, HRR.out.2.1, HQ.out, by simp; omega⟩ | ((repeat apply Exists.intro); exact ⟨⟨pos + 1, acc ++ [⟨2, pos, 0, ⟨#[41]⟩⟩], by go_num, by omega, HRR.out.2.2, HRR.out.1, HRR.out.2.1, HQ.out, by simp; omega⟩, rfl⟩)
          case measure => simp [intOf]; omega
      | false =>
        obtain ⟨n32, n10, n40, n41⟩ := part_no hpart
        have t32 : ((s[pos].toNat : Int) == 32) = false := by rw [beq_eq_false_iff_ne]; omega
        have t10 : ((s[pos].toNat : Int) == 10) = false := by rw [beq_eq_false_iff_ne]; omega
        have t40 : ((s[pos].toNat : Int) == 40) = false := by rw [beq_eq_false_iff_ne]; omega
        have t41 : ((s[pos].toNat : Int) == 41) = false := by rw [beq_eq_false_iff_ne]; omega
        clear n32 n10 n40 n41
        go_wp2
        go_loop [7] (fun v7 => ∃ to : Nat, v7 = .int .i64 to ∧ pos ≤ to ∧ to ≤ s.size ∧ ∀ k, pos ≤ k → ∀ h : k < s.size, k < to → partB (s[k]'h) = false) (fun v7 => s.size - (intOf v7).toNat)
        case atStart => exact ⟨pos, rfl, Nat.le_refl _, by omega, by intro k h1 h h2; omega⟩
        case round =>
          obtain ⟨to, rfl, h1, h2, h3⟩ := hrel
          have HNP : Hid (∀ k, pos ≤ k → ∀ h : k < s.size, k < to → partB (s[k]'h) = false) := h3
          clear h3
          by_cases hto : (to : Int) < s.size
          · have hto' : to < s.size := by omega
            cases hpt : partB s[to] with
            | false =>
              have HPT : Hid (partB s[to] = false) := hpt
              go_wp2_with fail
              refine (spec_part _ _).mono ?_
              rintro e w1 ⟨rfl, hw1⟩
              subst hw1
              go_wp2
              go_round
              case rel =>
                refine ⟨to + 1, by go_num, by omega, by omega, ?_⟩
                intro k hk1 hk2 hk3
                rcases Nat.lt_or_ge k to with hh | hh
                · exact HNP.out k hk1 hk2 hh
                · have e : k = to := by omega
                  subst e; exact HPT.out
              case measure => simp [intOf]; omega
            | true =>
              have HEND : Hid (∀ h : to < s.size, partB (s[to]'h) = true) := fun _ => hpt
              have hgt : pos < to := by
                rcases Nat.lt_or_ge pos to with hh | hh
                · exact hh
                · exfalso
                  have e : to = pos := by omega
                  have := HEND.out (by omega)
                  simp only [e, hpart] at this
                  cases this
              have HX : Hid (rest s acc pos pos = match tokOf (s.extract pos to) pos with | none => ([], (pos : Int)) | some t => rest s (acc ++ [t]) to to) :=
                rest_word hgt h2 (fun j hj => HNP.out (pos + j) (by omega) (by omega) (by omega)) HEND.out
              have hx : (s.extract pos to).size ≤ maxLen := by rw [size_extract' s pos to (by omega) h2]; unfold maxLen; omega
              have hi1 : (pos : Int) ≤ (to : Int) := by omega
              have hi2 : (to : Int) ≤ (s.size : Int) := by omega
              cases hw : wordV (s.extract pos to).data.toList with
              | some v =>
                have HQ : Hid (rest s (acc ++ [⟨3, pos, v, s.extract pos to⟩]) to to = toks s) := show _ = toks s by
                  rw [← HR.out, HX.out]; unfold tokOf; rw [hw]
                have HC : Hid (∀ w, Calls Tryz.prog 44 #[.string (s.extract pos to)] w fun e w' => e = .returned (.tuple #[.int .i64 v, .bool true]) ∧ Below w.heap.size w w') := fun w => spec_word_some _ hx v hw w
                clear hw hpart
                go_wp2_with fail
                refine (spec_part _ _).mono ?_
                rintro e w1 ⟨rfl, hw1⟩
                subst hw1
                go_wp2_with fail
                refine (HC.out _).mono ?_
                rintro e w2 ⟨rfl, hb2⟩
                have HO2 : Hid (w2.ownsRow (B + 1) 78 4 u5 acc.length (rows acc)) := own_below HO.out hb2
                have HB2 : Hid (w2.heap[B]? = some (.cells #[] 78 (0, 0)) ∧ Below B w w2) := ⟨(hb2.block _ (Array.getElem?_eq_some_iff.1 HB.out.1).1).trans HB.out.1, HB.out.2.trans (hb2.mono (by have := (Array.getElem?_eq_some_iff.1 HB.out.1).1; omega))⟩
                clear hb2
                go_wp2_with (first | (at_builtin; refine wpList_append_own _ rfl _ _ 44 rfl (B + 1) 78 i0 _ 4 40 Tryz.underlying44 hi hz0 hz1 hz2 rfl (by decide) _ acc.length (rows acc) rfl (HO2.out.alloc _) ⟨w2.heap.size, 0, none⟩ 1 1 [.int .i64 3, .int .i64 pos, .int .i64 v, .string (s.extract pos to)] rfl rfl ?c1 ?c2 ?c3 ?c4 ?c5 ?_))
                case c1 => exact World.news_of_block (cs := #[.int .i64 3, .int .i64 pos, .int .i64 v, .string (s.extract pos to)]) (t := 78) (fr := (0, 0)) (heap_alloc_new w2 _)
                case c2 => simp [Value.oneCell']
                case c3 => unfold maxLen; omega
                case c4 => omega
                case c5 => have := (Array.getElem?_eq_some_iff.1 HB2.out.1).1; simp; omega
                intro v' w4 hown4 hgrow4 _
                have R := rel_app (t := ⟨3, pos, v, s.extract pos to⟩) HB2.out.1 HB2.out.2 (below_al w2 _) HO2.out hown4 hgrow4
                have HRR : Hid _ := R
                clear hown4 hgrow4 R
                go_wp2
                go_roundw
                case rel => first | exact ⟨to, acc ++ [⟨3, pos, v, s.extract pos to⟩], by go_num, by omega, HRR.out.2.2, HRR.out.1, HRR.out.2.1, HQ.out, by simp; omega⟩ | ((repeat apply Exists.intro); exact ⟨⟨to, acc ++ [⟨3, pos, v, s.extract pos to⟩], by go_num, by omega, HRR.out.2.2, HRR.out.1, HRR.out.2.1, HQ.out, by simp; omega⟩, rfl⟩)
                case measure => simp [intOf]; omega
              | none =>
                have HC : Hid (∀ w, Calls Tryz.prog 44 #[.string (s.extract pos to)] w fun e w' => (∃ n, e = .returned (.tuple #[.int .i64 n, .bool false])) ∧ Below w.heap.size w w') := fun w => spec_word_none _ hx hw w
                cases hsy : symB (s.extract pos to).data.toList with
                | true =>
                  have HQ : Hid (rest s (acc ++ [⟨4, pos, 0, s.extract pos to⟩]) to to = toks s) := show _ = toks s by
                    rw [← HR.out, HX.out]; unfold tokOf; rw [hw, hsy]; rfl
                  have HSY : Hid (∀ w, Calls Tryz.prog 45 #[.string (s.extract pos to)] w fun e w' => e = .returned (.bool true) ∧ w' = w) := fun w => by
                    have := spec_sym (s.extract pos to) w hx
                    rw [hsy] at this
                    exact this
                  clear hw hsy hpart
                  go_wp2_with fail
                  refine (spec_part _ _).mono ?_
                  rintro e w1 ⟨rfl, hw1⟩
                  subst hw1
                  go_wp2_with fail
                  refine (HC.out _).mono ?_
                  rintro e w2 ⟨⟨n, rfl⟩, hb2⟩
                  have HO2 : Hid (w2.ownsRow (B + 1) 78 4 u5 acc.length (rows acc)) := own_below HO.out hb2
                  have HB2 : Hid (w2.heap[B]? = some (.cells #[] 78 (0, 0)) ∧ Below B w w2) := ⟨(hb2.block _ (Array.getElem?_eq_some_iff.1 HB.out.1).1).trans HB.out.1, HB.out.2.trans (hb2.mono (by have := (Array.getElem?_eq_some_iff.1 HB.out.1).1; omega))⟩
                  clear hb2
                  go_wp2_with fail
                  refine (HSY.out _).mono ?_
                  rintro e w3 ⟨rfl, hw3⟩
                  subst hw3
                  go_wp2_with (first | (at_builtin; refine wpList_append_own _ rfl _ _ 44 rfl (B + 1) 78 i0 _ 4 40 Tryz.underlying44 hi hz0 hz1 hz2 rfl (by decide) _ acc.length (rows acc) rfl (HO2.out.alloc _) ⟨w3.heap.size, 0, none⟩ 1 1 [.int .i64 4, .int .i64 pos, .int .i64 0, .string (s.extract pos to)] rfl rfl ?c1 ?c2 ?c3 ?c4 ?c5 ?_))
                  case c1 => exact World.news_of_block (cs := #[.int .i64 4, .int .i64 pos, .int .i64 0, .string (s.extract pos to)]) (t := 78) (fr := (0, 0)) (heap_alloc_new w3 _)
                  case c2 => simp [Value.oneCell']
                  case c3 => unfold maxLen; omega
                  case c4 => omega
                  case c5 => have := (Array.getElem?_eq_some_iff.1 HB2.out.1).1; simp; omega
                  intro v' w4 hown4 hgrow4 _
                  have R := rel_app (t := ⟨4, pos, 0, s.extract pos to⟩) HB2.out.1 HB2.out.2 (below_al w3 _) HO2.out hown4 hgrow4
                  have HRR : Hid _ := R
                  clear hown4 hgrow4 R
                  go_wp2
                  go_roundw
                  case rel => first | exact ⟨to, acc ++ [⟨4, pos, 0, s.extract pos to⟩], by go_num, by omega, HRR.out.2.2, HRR.out.1, HRR.out.2.1, HQ.out, by simp; omega⟩ | ((repeat apply Exists.intro); exact ⟨⟨to, acc ++ [⟨4, pos, 0, s.extract pos to⟩], by go_num, by omega, HRR.out.2.2, HRR.out.1, HRR.out.2.1, HQ.out, by simp; omega⟩, rfl⟩)
                  case measure => simp [intOf]; omega
                | false =>
                  have HQ : Hid (toks s = ([], (pos : Int))) := show toks s = _ by
                    rw [← HR.out, HX.out]; unfold tokOf; rw [hw, hsy]; rfl
                  have HSY : Hid (∀ w, Calls Tryz.prog 45 #[.string (s.extract pos to)] w fun e w' => e = .returned (.bool false) ∧ w' = w) := fun w => by
                    have := spec_sym (s.extract pos to) w hx
                    rw [hsy] at this
                    exact this
                  clear hw hsy hpart
                  go_wp2_with fail
                  refine (spec_part _ _).mono ?_
                  rintro e w1 ⟨rfl, hw1⟩
                  subst hw1
                  go_wp2_with fail
                  refine (HC.out _).mono ?_
                  rintro e w2 ⟨⟨n, rfl⟩, hb2⟩
                  have HO2 : Hid (w2.ownsRow (B + 1) 78 4 u5 acc.length (rows acc)) := own_below HO.out hb2
                  have HB2 : Hid (w2.heap[B]? = some (.cells #[] 78 (0, 0)) ∧ Below B w w2) := ⟨(hb2.block _ (Array.getElem?_eq_some_iff.1 HB.out.1).1).trans HB.out.1, HB.out.2.trans (hb2.mono (by have := (Array.getElem?_eq_some_iff.1 HB.out.1).1; omega))⟩
                  clear hb2
                  go_wp2_with fail
                  refine (HSY.out _).mono ?_
                  rintro e w3 ⟨rfl, hw3⟩
                  subst hw3
                  go_wp2
                  go_ret2
                  rw [HQ.out]
                  exact ⟨_, rfl, by first | exact HB2.out.2 | (rw [hBw]; exact HB2.out.2), by first | exact own_none HB2.out.1 | (rw [hBw]; exact own_none HB2.out.1)⟩
          · have HEND : Hid (∀ h : to < s.size, partB (s[to]'h) = true) := fun h => absurd h (by omega)
            have hgt : pos < to := by
              rcases Nat.lt_or_ge pos to with hh | hh
              · exact hh
              · exfalso
                have e : to = pos := by omega
                have := HEND.out (by omega)
                simp only [e, hpart] at this
                cases this
            have HX : Hid (rest s acc pos pos = match tokOf (s.extract pos to) pos with | none => ([], (pos : Int)) | some t => rest s (acc ++ [t]) to to) :=
              rest_word hgt h2 (fun j hj => HNP.out (pos + j) (by omega) (by omega) (by omega)) HEND.out
            have hx : (s.extract pos to).size ≤ maxLen := by rw [size_extract' s pos to (by omega) h2]; unfold maxLen; omega
            have hi1 : (pos : Int) ≤ (to : Int) := by omega
            have hi2 : (to : Int) ≤ (s.size : Int) := by omega
            cases hw : wordV (s.extract pos to).data.toList with
            | some v =>
              have HQ : Hid (rest s (acc ++ [⟨3, pos, v, s.extract pos to⟩]) to to = toks s) := show _ = toks s by
                rw [← HR.out, HX.out]; unfold tokOf; rw [hw]
              have HC : Hid (∀ w, Calls Tryz.prog 44 #[.string (s.extract pos to)] w fun e w' => e = .returned (.tuple #[.int .i64 v, .bool true]) ∧ Below w.heap.size w w') := fun w => spec_word_some _ hx v hw w
              clear hw hpart

              go_wp2_with fail
              refine (HC.out _).mono ?_
              rintro e w2 ⟨rfl, hb2⟩
              have HO2 : Hid (w2.ownsRow (B + 1) 78 4 u5 acc.length (rows acc)) := own_below HO.out hb2
              have HB2 : Hid (w2.heap[B]? = some (.cells #[] 78 (0, 0)) ∧ Below B w w2) := ⟨(hb2.block _ (Array.getElem?_eq_some_iff.1 HB.out.1).1).trans HB.out.1, HB.out.2.trans (hb2.mono (by have := (Array.getElem?_eq_some_iff.1 HB.out.1).1; omega))⟩
              clear hb2
              go_wp2_with (first | (at_builtin; refine wpList_append_own _ rfl _ _ 44 rfl (B + 1) 78 i0 _ 4 40 Tryz.underlying44 hi hz0 hz1 hz2 rfl (by decide) _ acc.length (rows acc) rfl (HO2.out.alloc _) ⟨w2.heap.size, 0, none⟩ 1 1 [.int .i64 3, .int .i64 pos, .int .i64 v, .string (s.extract pos to)] rfl rfl ?c1 ?c2 ?c3 ?c4 ?c5 ?_))
              case c1 => exact World.news_of_block (cs := #[.int .i64 3, .int .i64 pos, .int .i64 v, .string (s.extract pos to)]) (t := 78) (fr := (0, 0)) (heap_alloc_new w2 _)
              case c2 => simp [Value.oneCell']
              case c3 => unfold maxLen; omega
              case c4 => omega
              case c5 => have := (Array.getElem?_eq_some_iff.1 HB2.out.1).1; simp; omega
              intro v' w4 hown4 hgrow4 _
              have R := rel_app (t := ⟨3, pos, v, s.extract pos to⟩) HB2.out.1 HB2.out.2 (below_al w2 _) HO2.out hown4 hgrow4
              have HRR : Hid _ := R
              clear hown4 hgrow4 R
              go_wp2
              go_roundw
              case rel => first | exact ⟨to, acc ++ [⟨3, pos, v, s.extract pos to⟩], by go_num, by omega, HRR.out.2.2, HRR.out.1, HRR.out.2.1, HQ.out, by simp; omega⟩ | ((repeat apply Exists.intro); exact ⟨⟨to, acc ++ [⟨3, pos, v, s.extract pos to⟩], by go_num, by omega, HRR.out.2.2, HRR.out.1, HRR.out.2.1, HQ.out, by simp; omega⟩, rfl⟩)
              case measure => simp [intOf]; omega
            | none =>
              have HC : Hid (∀ w, Calls Tryz.prog 44 #[.string (s.extract pos to)] w fun e w' => (∃ n, e = .returned (.tuple #[.int .i64 n, .bool false])) ∧ Below w.heap.size w w') := fun w => spec_word_none _ hx hw w
              cases hsy : symB (s.extract pos to).data.toList with
              | true =>
                have HQ : Hid (rest s (acc ++ [⟨4, pos, 0, s.extract pos to⟩]) to to = toks s) := show _ = toks s by
                  rw [← HR.out, HX.out]; unfold tokOf; rw [hw, hsy]; rfl
                have HSY : Hid (∀ w, Calls Tryz.prog 45 #[.string (s.extract pos to)] w fun e w' => e = .returned (.bool true) ∧ w' = w) := fun w => by
                  have := spec_sym (s.extract pos to) w hx
                  rw [hsy] at this
                  exact this
                clear hw hsy hpart

                go_wp2_with fail
                refine (HC.out _).mono ?_
                rintro e w2 ⟨⟨n, rfl⟩, hb2⟩
                have HO2 : Hid (w2.ownsRow (B + 1) 78 4 u5 acc.length (rows acc)) := own_below HO.out hb2
                have HB2 : Hid (w2.heap[B]? = some (.cells #[] 78 (0, 0)) ∧ Below B w w2) := ⟨(hb2.block _ (Array.getElem?_eq_some_iff.1 HB.out.1).1).trans HB.out.1, HB.out.2.trans (hb2.mono (by have := (Array.getElem?_eq_some_iff.1 HB.out.1).1; omega))⟩
                clear hb2
                go_wp2_with fail
                refine (HSY.out _).mono ?_
                rintro e w3 ⟨rfl, hw3⟩
                subst hw3
                go_wp2_with (first | (at_builtin; refine wpList_append_own _ rfl _ _ 44 rfl (B + 1) 78 i0 _ 4 40 Tryz.underlying44 hi hz0 hz1 hz2 rfl (by decide) _ acc.length (rows acc) rfl (HO2.out.alloc _) ⟨w3.heap.size, 0, none⟩ 1 1 [.int .i64 4, .int .i64 pos, .int .i64 0, .string (s.extract pos to)] rfl rfl ?c1 ?c2 ?c3 ?c4 ?c5 ?_))
                case c1 => exact World.news_of_block (cs := #[.int .i64 4, .int .i64 pos, .int .i64 0, .string (s.extract pos to)]) (t := 78) (fr := (0, 0)) (heap_alloc_new w3 _)
                case c2 => simp [Value.oneCell']
                case c3 => unfold maxLen; omega
                case c4 => omega
                case c5 => have := (Array.getElem?_eq_some_iff.1 HB2.out.1).1; simp; omega
                intro v' w4 hown4 hgrow4 _
                have R := rel_app (t := ⟨4, pos, 0, s.extract pos to⟩) HB2.out.1 HB2.out.2 (below_al w3 _) HO2.out hown4 hgrow4
                have HRR : Hid _ := R
                clear hown4 hgrow4 R
                go_wp2
                go_roundw
                case rel => first | exact ⟨to, acc ++ [⟨4, pos, 0, s.extract pos to⟩], by go_num, by omega, HRR.out.2.2, HRR.out.1, HRR.out.2.1, HQ.out, by simp; omega⟩ | ((repeat apply Exists.intro); exact ⟨⟨to, acc ++ [⟨4, pos, 0, s.extract pos to⟩], by go_num, by omega, HRR.out.2.2, HRR.out.1, HRR.out.2.1, HQ.out, by simp; omega⟩, rfl⟩)
                case measure => simp [intOf]; omega
              | false =>
                have HQ : Hid (toks s = ([], (pos : Int))) := show toks s = _ by
                  rw [← HR.out, HX.out]; unfold tokOf; rw [hw, hsy]; rfl
                have HSY : Hid (∀ w, Calls Tryz.prog 45 #[.string (s.extract pos to)] w fun e w' => e = .returned (.bool false) ∧ w' = w) := fun w => by
                  have := spec_sym (s.extract pos to) w hx
                  rw [hsy] at this
                  exact this
                clear hw hsy hpart

                go_wp2_with fail
                refine (HC.out _).mono ?_
                rintro e w2 ⟨⟨n, rfl⟩, hb2⟩
                have HO2 : Hid (w2.ownsRow (B + 1) 78 4 u5 acc.length (rows acc)) := own_below HO.out hb2
                have HB2 : Hid (w2.heap[B]? = some (.cells #[] 78 (0, 0)) ∧ Below B w w2) := ⟨(hb2.block _ (Array.getElem?_eq_some_iff.1 HB.out.1).1).trans HB.out.1, HB.out.2.trans (hb2.mono (by have := (Array.getElem?_eq_some_iff.1 HB.out.1).1; omega))⟩
                clear hb2
                go_wp2_with fail
                refine (HSY.out _).mono ?_
                rintro e w3 ⟨rfl, hw3⟩
                subst hw3
                go_wp2
                go_ret2
                rw [HQ.out]
                exact ⟨_, rfl, by first | exact HB2.out.2 | (rw [hBw]; exact HB2.out.2), by first | exact own_none HB2.out.1 | (rw [hBw]; exact own_none HB2.out.1)⟩
    · have hpe : pos = s.size := by omega
      have HQ : Hid (toks s = (acc, -1)) := show toks s = _ by rw [← HR.out, hpe, rest_done]
      clear hpe
      go_wp2
      go_ret2
      rw [HQ.out]
      exact ⟨_, rfl, HB.out.2, own_baseT HO.out (by omega)⟩
end Go.Proofs.YtoljphjmekkneabGreatDoor

/- spec.l3Size, spec.l3Deep and spec.l1Max. Condition: at most 2^40 data. -/
namespace Go.Proofs.YtoljphjmekkneabGreatDoor
open Go.ChangeShapes Go.WideShapes Go.ChangeAt Go.RowKit

theorem spec_max (a b : Nat) (w : World) : Calls Tryz.prog 49 #[.int .i64 a, .int .i64 b] w fun e w' => e = .returned (.int .i64 ((max a b : Nat) : Int)) ∧ w' = w := by
  by_cases h : (b : Int) < a
  · have H : Hid (max a b = a) := by show _ = _; omega
    go_enter Tryz.func49, Tryz.ntmps49
    go_wp2
    go_ret
    exact ⟨by rw [H.out]; rfl, rfl⟩
  · have H : Hid (max a b = b) := by show _ = _; omega
    go_enter Tryz.func49, Tryz.ntmps49
    go_wp2
    go_ret
    exact ⟨by rw [H.out]; rfl, rfl⟩

def SizeAt (t : D) : Prop := ∀ (w : World) (v : Value), t.In w v → t.count ≤ 1099511627776 →
  Calls Tryz.prog 31 #[.agg #[.int .i64 t.op, .int .i64 t.at_, .int .i64 t.n, .string t.s, v]] w fun e w' => e = .returned (.int .i64 t.count) ∧ Below w.heap.size w w'
def DeepAt (t : D) : Prop := ∀ (w : World) (v : Value), t.In w v → t.count ≤ 1099511627776 →
  Calls Tryz.prog 32 #[.agg #[.int .i64 t.op, .int .i64 t.at_, .int .i64 t.n, .string t.s, v]] w fun e w' => e = .returned (.int .i64 t.deep) ∧ Below w.heap.size w w'

set_option maxRecDepth 100000 in
set_option maxHeartbeats 2000000 in
theorem spec_size (t : D) : SizeAt t := by
  induction t with
  | no => intro w v h _; exact h.elim
  | mk op a n s len kid ih =>
    intro w v hin hc
    have h1 := hin.sl
    have HCE : Hid ((D.mk op a n s len kid).count = 1 + sumTo (fun i => (kid i).count) len) := rfl
    simp only [D.op, D.at_, D.n, D.s, D.len, D.kid] at h1 ⊢
    generalize (D.mk op a n s len kid).count = C at *
    obtain ⟨p, cap, e1, hlen, hat⟩ := h1.at
    have HC : Hid (∀ i, i < len → ∃ b o u, p = some ⟨b, o, none⟩ ∧ Head w b (o + i * 5) (kid i) u ∧ (kid i).In w u) := hat
    have IH : Hid (∀ i, SizeAt (kid i)) := ih
    clear hin h1 hat ih
    unfold maxLen at hlen
    subst e1
    go_enter Tryz.func31, Tryz.ntmps31
    go_wp2_with fail
    go_loopw [3, 4] (fun x i wr => ∃ k c : Nat, i = .int .i64 k ∧ x = .int .i64 c ∧ k ≤ len ∧ c = 1 + sumTo (fun i => (kid i).count) k ∧ wr.cell? ⟨w.heap.size, 4, none⟩ = some (.slice p len cap) ∧ Below w.heap.size w wr) (fun _ i _ => len - (intOf i).toNat)
    case atStart => exact ⟨0, 1, rfl, rfl, Nat.zero_le _, rfl, by simp, newb w _⟩
    case round =>
      obtain ⟨k, c, rfl, rfl, hk, hcc, hc1, hbel⟩ := hrel
      have HBL : Hid (Below w.heap.size w wr) := hbel
      have HS : Hid (c = 1 + sumTo (fun i => (kid i).count) k) := hcc
      clear hbel hcc
      by_cases hlt : (k : Int) < len
      · have hlt' : k < len := by omega
        obtain ⟨b, o, u, hp, hd, hin⟩ := HC.out k hlt'
        subst hp
        obtain ⟨c0, c1, c2, c3, c4⟩ := hd.below HBL.out
        have HI : Hid ((kid k).In wr u) := hin.below HBL.out
        have hsum : c + (kid k).count ≤ C := by
          have h1 := sumTo_at (fun i => (kid i).count) k len hlt'
          have h2 := HS.out
          have h3 := HCE.out
          omega
        have hck : (kid k).count ≤ 1099511627776 := by omega
        clear hd hin
        go_wp2_with fail
        refine (IH.out k wr u HI.out hck).mono ?_
        rintro e w1 ⟨rfl, hb1⟩
        have HB1 : Hid (Below w.heap.size w w1) := HBL.out.trans (hb1.mono HBL.out.size)
        have HX : Hid (w1.cell? ⟨w.heap.size, 4, none⟩ = some (.slice (some ⟨b, o, none⟩) len cap)) := keeps hb1 _ _ hc1
        clear hb1 c0 c1 c2 c3 c4
        go_wp2_with fail
        go_roundw
        case rel => exact ⟨k + 1, c + (kid k).count, by go_num, by go_num, by omega, by rw [HS.out]; simp only [sumTo]; omega, HX.out, HB1.out⟩
        case measure => simp [intOf]; omega
      · have hke : k = len := by omega
        subst hke
        have HE : Hid (c = C) := HS.out.trans HCE.out.symm
        go_wp2_with fail
        go_ret
        exact ⟨by rw [← HE.out]; rfl, HBL.out⟩

set_option maxRecDepth 100000 in
set_option maxHeartbeats 2000000 in
theorem spec_deep (t : D) : DeepAt t := by
  induction t with
  | no => intro w v h _; exact h.elim
  | mk op a n s len kid ih =>
    intro w v hin hc
    have h1 := hin.sl
    have HCE : Hid ((D.mk op a n s len kid).count = 1 + sumTo (fun i => (kid i).count) len) := rfl
    have HDE : Hid ((D.mk op a n s len kid).deep = maxTo (fun i => (kid i).deep) len + 1) := rfl
    have hdc := (D.mk op a n s len kid).deep_count
    simp only [D.op, D.at_, D.n, D.s, D.len, D.kid] at h1 ⊢
    generalize (D.mk op a n s len kid).count = C at *
    generalize (D.mk op a n s len kid).deep = E at *
    obtain ⟨p, cap, e1, hlen, hat⟩ := h1.at
    have HC : Hid (∀ i, i < len → ∃ b o u, p = some ⟨b, o, none⟩ ∧ Head w b (o + i * 5) (kid i) u ∧ (kid i).In w u) := hat
    have IH : Hid (∀ i, DeepAt (kid i)) := ih
    clear hin h1 hat ih
    unfold maxLen at hlen
    subst e1
    go_enter Tryz.func32, Tryz.ntmps32
    go_wp2_with fail
    go_loopw [3, 4] (fun x i wr => ∃ k c : Nat, i = .int .i64 k ∧ x = .int .i64 c ∧ k ≤ len ∧ c = maxTo (fun i => (kid i).deep) k ∧ wr.cell? ⟨w.heap.size, 4, none⟩ = some (.slice p len cap) ∧ Below w.heap.size w wr) (fun _ i _ => len - (intOf i).toNat)
    case atStart => exact ⟨0, 0, rfl, rfl, Nat.zero_le _, rfl, by simp, newb w _⟩
    case round =>
      obtain ⟨k, c, rfl, rfl, hk, hcc, hc1, hbel⟩ := hrel
      have HBL : Hid (Below w.heap.size w wr) := hbel
      have HS : Hid (c = maxTo (fun i => (kid i).deep) k) := hcc
      clear hbel hcc
      by_cases hlt : (k : Int) < len
      · have hlt' : k < len := by omega
        obtain ⟨b, o, u, hp, hd, hin⟩ := HC.out k hlt'
        subst hp
        obtain ⟨c0, c1, c2, c3, c4⟩ := hd.below HBL.out
        have HI : Hid ((kid k).In wr u) := hin.below HBL.out
        have hck : (kid k).count ≤ 1099511627776 := by
          have h1 := sumTo_at (fun i => (kid i).count) k len hlt'
          have h3 := HCE.out
          omega
        clear hd hin
        go_wp2_with fail
        refine (IH.out k wr u HI.out hck).mono ?_
        rintro e w1 ⟨rfl, hb1⟩
        have HB1 : Hid (Below w.heap.size w w1) := HBL.out.trans (hb1.mono HBL.out.size)
        have HX : Hid (w1.cell? ⟨w.heap.size, 4, none⟩ = some (.slice (some ⟨b, o, none⟩) len cap)) := keeps hb1 _ _ hc1
        clear hb1 c0 c1 c2 c3 c4
        go_wp2_with fail
        refine (spec_max c (kid k).deep _).mono ?_
        rintro e w2 ⟨rfl, hw2⟩
        subst hw2
        go_wp2_with fail
        go_roundw
        case rel => exact ⟨k + 1, max c (kid k).deep, by go_num, rfl, by omega, by rw [HS.out]; rfl, HX.out, HB1.out⟩
        case measure => simp [intOf]; omega
      · have hke : k = len := by omega
        subst hke
        have HE : Hid (c + 1 = E) := by
          have h1 := HS.out
          have h2 := HDE.out
          show _ = _
          omega
        have hcb : c ≤ 1099511627776 := by have := HE.out; omega
        go_wp2_with fail
        go_ret
        exact ⟨by rw [← HE.out]; rfl, HBL.out⟩
end Go.Proofs.YtoljphjmekkneabGreatDoor
