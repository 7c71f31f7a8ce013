/- impl.listPieces and impl.datPieces. Conditions: at most 2^20 in all; those of impl.Digits. -/
import Derived.Test.YtoljphjmekkneabGreatDoorZG41ImplDigits
import Derived.Test.YtoljphjmekkneabGreatDoorRows
import Derived.Test.YtoljphjmekkneabGreatDoorZG36DatTell
import Derived.Test.YtoljphjmekkneabGreatDoorZG13SpecDigits
import Derived.WalkKit
import Derived.ProofKit
import Derived.OwnWalk
namespace Go.Proofs.YtoljphjmekkneabGreatDoor
open Go.ChangeShapes Go.WideShapes Go.ChangeAt Go.RowKit

theorem kidPcs_len (kid : Nat → D) (V : Nat → Value) (b o : Nat) : ∀ k, (kidPcs kid V b o k).length ≤ 2 * k
  | 0 => Nat.le_refl _
  | k + 1 => by
    have := kidPcs_len kid V b o k
    unfold kidPcs
    rw [List.length_append]
    by_cases h : k = 0
    · rw [if_pos h]; simp only [List.nil_append, List.length_cons, List.length_nil]; omega
    · rw [if_neg h]; simp only [List.length_append, List.length_cons, List.length_nil]; omega

theorem own_monoPc {w : World} {base base' e size n : Nat} {v : Value} {xs : List Value} (h : w.ownsRow base e size v n xs) (hb : base' ≤ base) : w.ownsRow base' e size v n xs := by
  refine ⟨h.1, ?_⟩
  rcases h.2 with hn | ⟨g, cap, cur, rfl, hbg, rest⟩
  · exact .inl hn
  · exact .inr ⟨g, cap, cur, rfl, Nat.le_trans hb hbg, rest⟩
/-- What the loop keeps. -/
structure PL (W wr : World) (l : List Pc) (g cap : Nat) : Prop where
  own : wr.ownsRow W.heap.size 93 2 (.slice (some ⟨g, 0, none⟩) l.length cap) l.length (pcrows l)
  bel : Below W.heap.size W wr
/-- One piece more. -/
theorem PL.more {W wr w1 w2 : World} {l ps : List Pc} {g cap : Nat} {v' : Value} (h : PL W wr l g cap) (hb : Below wr.heap.size wr w1) (ho : w2.ownsRow W.heap.size 93 2 v' (l.length + ps.length) (pcrows l ++ pcrows ps)) (hg : w1.grownBy w2 (Value.slice (some ⟨g, 0, none⟩) l.length cap).ownBlock) (hp : 0 < ps.length) :
    ∃ g2 cap2, v' = .slice (some ⟨g2, 0, none⟩) ((l ++ ps).length : Nat) cap2 ∧ PL W w2 (l ++ ps) g2 cap2 := by
  obtain ⟨g2, cap2, rfl, -, -⟩ := own_somePc ho (by omega)
  have h1 := h.bel.trans (hb.mono h.bel.size)
  refine ⟨g2, cap2, by rw [List.length_append], ⟨by rw [List.length_append, pcrows_append]; exact ho, h1.trans (grown_below hg h1.size (fun b e => ?_))⟩⟩
  simp only [Value.ownBlock, Option.some.injEq] at e
  have := (own_room h.own).2.2.1
  omega

set_option maxRecDepth 100000 in
set_option maxHeartbeats 2000000 in
theorem list_pieces (len : Nat) (kid : Nat → D) (v : Value) (w1 W : World) (hsl : Sl w1 len kid v) (hw : kidsWeight len kid ≤ 1048576) :
    Calls Tryz.prog 55 #[v] W fun e w' => ∃ (g cap : Nat) (ps : List Pc), e = .returned (.slice (some ⟨g, 0, none⟩) ps.length cap) ∧ PL W w' ps g cap ∧ toldAll ps = 40 :: (joinTo (fun i => (kid i).text) len ++ [41]) ∧ goesP ps ≤ 2 + sumTo (fun i => 2 + (kid i).steps) len ∧ PcsIn w1 ps := by
  obtain ⟨i0, hi, hz0, hz1, hz2⟩ := info_parts piece_info
  obtain ⟨p, cap, b, o, V, ev, hlen, hbo, hat⟩ : ∃ (p : Option Addr) (cap b o : Nat) (V : Nat → Value), v = .slice p len cap ∧ len ≤ maxLen ∧ (0 < len → p = some ⟨b, o, none⟩) ∧ ∀ i, i < len → Head w1 b (o + i * 5) (kid i) (V i) ∧ (kid i).In w1 (V i) := by
    rcases hsl with ⟨h0, p, cap, rfl⟩ | ⟨b, o, cap, V, rfl, _, h1, h2, h4⟩
    · subst h0; exact ⟨p, cap, 0, 0, fun _ => .bool false, rfl, Nat.zero_le _, fun h => by omega, fun i hi => by omega⟩
    · exact ⟨_, cap, b, o, V, rfl, Nat.le_trans h1 h2, fun _ => rfl, h4⟩
  have hl20 : len ≤ 1048576 := by unfold kidsWeight at hw; omega
  have HF : Hid (toldAll (listPcs kid V b o len) = 40 :: (joinTo (fun i => (kid i).text) len ++ [41]) ∧ goesP (listPcs kid V b o len) ≤ 2 + sumTo (fun i => 2 + (kid i).steps) len ∧ PcsIn w1 (listPcs kid V b o len)) := by
    refine ⟨listPcs_told kid V b o len, listPcs_goes kid V b o len, listPcs_in (fun i hi => ⟨(hat i hi).1, (hat i hi).2, ?_⟩)⟩
    have := sumTo_at (fun i => (kid i).weight) i len hi
    unfold kidsWeight at hw
    omega
  have HLN : Hid (∀ k, (kidPcs kid V b o k).length ≤ 2 * k) := kidPcs_len kid V b o
  clear hsl hat hw
  unfold maxLen at hlen
  subst ev
  have HS : Hid (PL W (W.alloc (.cells #[.string ⟨#[40]⟩, .pointer none] 93)) [Pc.of ⟨#[40]⟩] W.heap.size 1) := ⟨own_new rfl rfl (Nat.le_refl _) rfl rfl (by unfold maxLen; omega), newb W _⟩
  go_enter Tryz.func55, Tryz.ntmps55
  go_wp2_with fail
  go_loopw [3, 9] (fun lv i wr => ∃ (k g cap : Nat), i = .int .i64 k ∧ k ≤ len ∧ lv = .slice (some ⟨g, 0, none⟩) ([Pc.of ⟨#[40]⟩] ++ kidPcs kid V b o k).length cap ∧ PL W wr ([Pc.of ⟨#[40]⟩] ++ kidPcs kid V b o k) g cap) (fun _ i _ => len - (intOf i).toNat)
  case atStart => exact ⟨0, W.heap.size, 1, rfl, Nat.zero_le _, rfl, by rw [show [Pc.of ⟨#[40]⟩] ++ kidPcs kid V b o 0 = [Pc.of ⟨#[40]⟩] from rfl]; exact HS.out⟩
  case round =>
    obtain ⟨k, g, gc, rfl, hk, rfl, hL⟩ := hrel
    have HL : Hid (PL W wr ([Pc.of ⟨#[40]⟩] ++ kidPcs kid V b o k) g gc) := hL
    have hcl : ([Pc.of ⟨#[40]⟩] ++ kidPcs kid V b o k).length ≤ 3000000 := by have := HLN.out k; rw [List.length_append]; simp; omega
    obtain ⟨hr1, hr2, hr3, hr4⟩ := own_room hL.own
    unfold maxLen at hr2
    have hWS : W.heap.size ≤ wr.heap.size := hL.bel.size
    clear hL HS
    by_cases hlt : (k : Int) < len
    · have hlt' : k < len := by omega
      obtain rfl := hbo (by omega)
      by_cases hk0 : (0 : Int) < k
      · have HNX : Hid (([Pc.of ⟨#[40]⟩] ++ kidPcs kid V b o k) ++ [Pc.of ⟨#[32]⟩] ++ [Pc.tree (kid k) (V k) b (o + k * 5)] = [Pc.of ⟨#[40]⟩] ++ kidPcs kid V b o (k + 1)) := by
          show _ = [Pc.of ⟨#[40]⟩] ++ (kidPcs kid V b o k ++ ((if k = 0 then [] else [Pc.of ⟨#[32]⟩]) ++ [Pc.tree (kid k) (V k) b (o + k * 5)]))
          rw [if_neg (by omega)]; simp
        generalize [Pc.of ⟨#[40]⟩] ++ kidPcs kid V b o k = l at *
        obtain ⟨l2, hl2e⟩ : ∃ l2, l2 = [Pc.of ⟨#[40]⟩] ++ kidPcs kid V b o (k + 1) := ⟨_, rfl⟩
        have HE2 := hid_ofP hl2e
        rw [← hl2e] at HNX
        clear hl2e
        go_wp2_with (at_builtin; refine wpList_append_own _ rfl _ _ 94 rfl W.heap.size 93 i0 (.agg #[.string ⟨#[]⟩, .pointer none]) 2 24 Tryz.underlying94 hi hz0 hz1 hz2 rfl (by decide) _ _ _ rfl (HL.out.own.alloc _) ⟨wr.heap.size, 0, none⟩ 1 1 (pcrows [Pc.of ⟨#[32]⟩]) rfl rfl ?c1 (pcs_oneCell _) ?c3 ?c4 ?c5 ?_)
        case c1 => first | exact fun j u h => h | exact World.news_of_block (cs := #[.string ⟨#[32]⟩, .pointer none]) (t := 93) (fr := (0, 0)) (heap_alloc_new wr _)
        case c3 => unfold maxLen; omega
        case c4 => omega
        case c5 => first | omega | (simp; omega)
        intro v' w2 hown' hgrow _
        obtain ⟨g2, cap2, rfl, hL2⟩ := HL.out.more (newb wr _) (ps := [Pc.of ⟨#[32]⟩]) hown' hgrow (by simp)
        have HL2 : Hid (PL W w2 (l ++ [Pc.of ⟨#[32]⟩]) g2 cap2) := hL2
        have hl2 : (l ++ [Pc.of ⟨#[32]⟩]).length ≤ 3000001 := by rw [List.length_append]; simp; omega
        have hWS2 : W.heap.size ≤ w2.heap.size := hL2.bel.size
        clear hown' hgrow hL2 HL hWS hcl hr1 hr2 hr3 hr4
        generalize l ++ [Pc.of ⟨#[32]⟩] = l3 at *
        go_wp2_with (at_builtin; refine wpList_append_own _ rfl _ _ 94 rfl W.heap.size 93 i0 (.agg #[.string ⟨#[]⟩, .pointer none]) 2 24 Tryz.underlying94 hi hz0 hz1 hz2 rfl (by decide) _ _ _ rfl (HL2.out.own.alloc _) ⟨w2.heap.size, 0, none⟩ 1 1 (pcrows [Pc.tree (kid k) (V k) b (o + k * 5)]) rfl rfl ?d1 (pcs_oneCell _) ?d3 ?d4 ?d5 ?_)
        case d1 => first | exact fun j u h => h | exact World.news_of_block (cs := #[.string ⟨#[]⟩, .pointer (some ⟨b, o + k * 5, none⟩)]) (t := 93) (fr := (0, 0)) (heap_alloc_new w2 _)
        case d3 => unfold maxLen; omega
        case d4 => omega
        case d5 => first | omega | (simp; omega)
        intro v3 w3 hown3 hgrow3 _
        obtain ⟨g3, cap3, rfl, hL3⟩ := HL2.out.more (newb w2 _) (ps := [Pc.tree (kid k) (V k) b (o + k * 5)]) hown3 hgrow3 (by simp)
        rw [HNX.out] at hL3 ⊢
        have HL3 : Hid (PL W w3 l2 g3 cap3) := hL3
        clear hown3 hgrow3 hL3 HL2
        go_wp2_with fail
        go_roundw
        case rel =>
          have h := HL3.out
          rw [HE2.out] at h
          first | exact ⟨k + 1, g3, cap3, by go_num, by omega, by rw [HE2.out], h⟩ | ((repeat apply Exists.intro); exact ⟨⟨k + 1, g3, cap3, by go_num, by omega, by rw [HE2.out], h⟩, rfl⟩)
        case measure => simp [intOf]; omega
      · have HNX : Hid (([Pc.of ⟨#[40]⟩] ++ kidPcs kid V b o k) ++ [Pc.tree (kid k) (V k) b (o + k * 5)] = [Pc.of ⟨#[40]⟩] ++ kidPcs kid V b o (k + 1)) := by
          show _ = [Pc.of ⟨#[40]⟩] ++ (kidPcs kid V b o k ++ ((if k = 0 then [] else [Pc.of ⟨#[32]⟩]) ++ [Pc.tree (kid k) (V k) b (o + k * 5)]))
          rw [if_pos (by omega)]; simp
        generalize [Pc.of ⟨#[40]⟩] ++ kidPcs kid V b o k = l at *
        obtain ⟨l2, hl2⟩ : ∃ l2, l2 = [Pc.of ⟨#[40]⟩] ++ kidPcs kid V b o (k + 1) := ⟨_, rfl⟩
        have HE2 := hid_ofP hl2
        rw [← hl2] at HNX
        clear hl2
        go_wp2_with (at_builtin; refine wpList_append_own _ rfl _ _ 94 rfl W.heap.size 93 i0 (.agg #[.string ⟨#[]⟩, .pointer none]) 2 24 Tryz.underlying94 hi hz0 hz1 hz2 rfl (by decide) _ _ _ rfl (HL.out.own.alloc _) ⟨wr.heap.size, 0, none⟩ 1 1 (pcrows [Pc.tree (kid k) (V k) b (o + k * 5)]) rfl rfl ?d1 (pcs_oneCell _) ?d3 ?d4 ?d5 ?_)
        case d1 => first | exact fun j u h => h | exact World.news_of_block (cs := #[.string ⟨#[]⟩, .pointer (some ⟨b, o + k * 5, none⟩)]) (t := 93) (fr := (0, 0)) (heap_alloc_new wr _)
        case d3 => unfold maxLen; omega
        case d4 => omega
        case d5 => first | omega | (simp; omega)
        intro v3 w3 hown3 hgrow3 _
        obtain ⟨g3, cap3, rfl, hL3⟩ := HL.out.more (newb wr _) (ps := [Pc.tree (kid k) (V k) b (o + k * 5)]) hown3 hgrow3 (by simp)
        rw [HNX.out] at hL3 ⊢
        have HL3 : Hid (PL W w3 l2 g3 cap3) := hL3
        clear hown3 hgrow3 hL3 HL
        go_wp2_with fail
        go_roundw
        case rel =>
          have h := HL3.out
          rw [HE2.out] at h
          first | exact ⟨k + 1, g3, cap3, by go_num, by omega, by rw [HE2.out], h⟩ | ((repeat apply Exists.intro); exact ⟨⟨k + 1, g3, cap3, by go_num, by omega, by rw [HE2.out], h⟩, rfl⟩)
        case measure => simp [intOf]; omega
    · have hke : k = len := by omega
      have HNX : Hid (([Pc.of ⟨#[40]⟩] ++ kidPcs kid V b o k) ++ [Pc.of ⟨#[41]⟩] = listPcs kid V b o len) := by rw [hke]; rfl
      generalize [Pc.of ⟨#[40]⟩] ++ kidPcs kid V b o k = l at *
      generalize listPcs kid V b o len = L at *
      go_wp2_with (at_builtin; refine wpList_append_own _ rfl _ _ 94 rfl W.heap.size 93 i0 (.agg #[.string ⟨#[]⟩, .pointer none]) 2 24 Tryz.underlying94 hi hz0 hz1 hz2 rfl (by decide) _ _ _ rfl (HL.out.own.alloc _) ⟨wr.heap.size, 0, none⟩ 1 1 (pcrows [Pc.of ⟨#[41]⟩]) rfl rfl ?d1 (pcs_oneCell _) ?d3 ?d4 ?d5 ?_)
      case d1 => first | exact fun j u h => h | exact World.news_of_block (cs := #[.string ⟨#[41]⟩, .pointer none]) (t := 93) (fr := (0, 0)) (heap_alloc_new wr _)
      case d3 => unfold maxLen; omega
      case d4 => omega
      case d5 => first | omega | (simp; omega)
      intro v3 w3 hown3 hgrow3 _
      obtain ⟨g3, cap3, rfl, hL3⟩ := HL.out.more (newb wr _) (ps := [Pc.of ⟨#[41]⟩]) hown3 hgrow3 (by simp)
      rw [HNX.out] at hL3 ⊢
      have HL3 : Hid (PL W w3 L g3 cap3) := hL3
      clear hown3 hgrow3 hL3 HL
      go_wp2_with fail
      go_ret
      exact ⟨g3, cap3, L, rfl, HL3.out, HF.out⟩

set_option maxRecDepth 100000 in
set_option maxHeartbeats 2000000 in
theorem dat_pieces (w : World) (ht : PowTab w) : PiecesAt w := by
  intro w1 W t v hb0 hb1 hin hw
  obtain ⟨pv, cv, ev⟩ := hin.sl.shape
  have hno : t ≠ .no := fun e => by subst e; exact hin.elim
  have hn := hin.num
  have HP : Hid (∀ W', Below W.heap.size W W' → PowTab W') := fun W' h => (ht.below (hb0.trans (hb1.mono hb0.size))).below h
  have HNB : Hid (∀ o, Below W.heap.size W (W.alloc o)) := fun o => newb W o
  by_cases c1 : t.op = 1
  · have HT : Hid (t.text = Lib.itoa t.n) := t.text_num c1
    rw [c1]
    clear hin hb0 hb1 ht
    subst ev
    go_enter Tryz.func35, Tryz.ntmps35
    go_wp2_with fail
    refine (impl_digits t.n hn.1 hn.2 _ (HP.out _ (HNB.out _))).mono ?_
    rintro e w2 ⟨rfl, hb2⟩
    have HB2 : Hid (Below W.heap.size W w2) := (HNB.out _).trans (hb2.mono (HNB.out _).size)
    clear hb2
    go_wp2_with fail
    go_ret
    refine ⟨w2.heap.size, 1, [Pc.of ⟨(Lib.itoa t.n).toArray⟩], rfl, own_new rfl rfl HB2.out.size rfl rfl (by unfold maxLen; omega), HB2.out.trans ((newb _ _).mono HB2.out.size), PcsOf.one (by rw [HT.out])⟩
  by_cases c2 : t.op = 2
  · have HT : Hid (t.text = t.s.data.toList) := t.text_sym c2
    rw [c2]
    clear hin hb0 hb1 ht
    subst ev
    go_enter Tryz.func35, Tryz.ntmps35
    go_wp2_with fail
    go_ret
    refine ⟨W.heap.size + 1, 1, [Pc.of t.s], by simp, own_new rfl (by simp) (by omega) rfl rfl (by unfold maxLen; omega), (HNB.out _).trans ((newb _ _).mono (by simp)), PcsOf.one (by rw [HT.out])⟩
  by_cases c3 : t.op = 3
  · have HT : Hid (t.text = 40 :: (joinTo (fun i => (t.kid i).text) t.len ++ [41]) ∧ t.steps = 2 + sumTo (fun i => 2 + (t.kid i).steps) t.len) := ⟨t.text_list c3, t.steps_eq hno⟩
    have HLP : Hid (∀ o, Calls Tryz.prog 55 #[v] (W.alloc o) fun e w' => ∃ (g cap : Nat) (ps : List Pc), e = .returned (.slice (some ⟨g, 0, none⟩) ps.length cap) ∧ PL (W.alloc o) w' ps g cap ∧ toldAll ps = 40 :: (joinTo (fun i => (t.kid i).text) t.len ++ [41]) ∧ goesP ps ≤ 2 + sumTo (fun i => 2 + (t.kid i).steps) t.len ∧ PcsIn w1 ps) := fun o => list_pieces t.len t.kid v w1 _ hin.sl (by have := t.weight_eq; omega)
    rw [c3]
    clear hin hb0 hb1 ht
    subst ev
    go_enter Tryz.func35, Tryz.ntmps35
    go_wp2_with fail
    refine (HLP.out _).mono ?_
    rintro e w2 ⟨g, cap, ps, rfl, hL, h1, h2, h3⟩
    have HF : Hid (PcsAre w1 W t (.returned (.slice (some ⟨g, 0, none⟩) ps.length cap)) w2) := by
      have hnb := newb W (.cells #[.int .i64 3, .int .i64 t.at_, .int .i64 t.n, .string t.s, .slice pv t.len cv] 30)
      refine ⟨g, cap, ps, rfl, ?_, hnb.trans (hL.bel.mono hnb.size), ⟨h1.trans HT.out.1.symm, by rw [HT.out.2]; exact h2, h3⟩⟩
      exact own_monoPc hL.own hnb.size
    clear hL h1 h2 h3
    go_wp2_with fail
    go_ret
    exact HF.out
  · have HT : Hid (t.text = [63]) := t.text_none c1 c2 c3
    have g1 : (t.op == 1) = false := by simpa using c1
    have g2 : (t.op == 2) = false := by simpa using c2
    have g3 : (t.op == 3) = false := by simpa using c3
    clear hin hb0 hb1 ht
    subst ev
    go_enter Tryz.func35, Tryz.ntmps35
    go_wp2_with fail
    go_ret
    refine ⟨W.heap.size + 1, 1, [Pc.of ⟨#[63]⟩], by simp, own_new rfl (by simp) (by omega) rfl rfl (by unfold maxLen; omega), (HNB.out _).trans ((newb _ _).mono (by simp)), PcsOf.one (by rw [HT.out])⟩

set_option maxRecDepth 100000 in
set_option maxHeartbeats 2000000 in
theorem impl_text (x : D) (w : World) (v : Value) (hin : x.In w v) (hw : x.weight ≤ 1048576) (ht : PowTab w) :
    Calls Tryz.prog 13 #[.agg #[.int .i64 x.op, .int .i64 x.at_, .int .i64 x.n, .string x.s, v]] w fun e w' => e = .returned (.string ⟨x.text.toArray⟩) ∧ Below w.heap.size w w' := by
  obtain ⟨pv, cv, ev⟩ := hin.sl.shape
  have HC : Hid (∀ o, Calls Tryz.prog 34 #[.agg #[.int .i64 x.op, .int .i64 x.at_, .int .i64 x.n, .string x.s, v], .func (.func 35) #[] #[]] (w.alloc o) fun e w' => e = .returned (.string ⟨x.text.toArray⟩) ∧ Below w.heap.size w w') :=
    fun o => (told_text x _ v (hin.below (newb w o)) hw (dat_pieces _ (ht.below (newb w o)))).mono (fun e w' h => ⟨h.1, (newb w o).trans (h.2.mono (newb w o).size)⟩)
  clear hin hw ht
  subst ev
  generalize x.text = T at *
  go_enter Tryz.func13, Tryz.ntmps13
  go_wp2_with fail
  refine (HC.out _).mono ?_
  rintro e w1 ⟨rfl, hb1⟩
  have HB1 : Hid (Below w.heap.size w w1) := hb1
  clear hb1
  go_wp2_with fail
  go_ret
  exact ⟨rfl, HB1.out⟩
end Go.Proofs.YtoljphjmekkneabGreatDoor

/- spec.DatText. Condition: at most 2^20 in all. -/
namespace Go.Proofs.YtoljphjmekkneabGreatDoor
open Go.ChangeShapes Go.WideShapes Go.ChangeAt Go.RowKit

def TextAt (t : D) : Prop := ∀ (w : World) (v : Value), t.In w v → t.weight ≤ 1048576 →
  Calls Tryz.prog 14 #[.agg #[.int .i64 t.op, .int .i64 t.at_, .int .i64 t.n, .string t.s, v]] w fun e w' => e = .returned (.string ⟨t.text.toArray⟩) ∧ Below w.heap.size w w'

theorem join_bytes (a b : List UInt8) : ((⟨a.toArray⟩ : ByteArray) ++ ⟨b.toArray⟩) = ⟨(a ++ b).toArray⟩ := by
  apply ByteArray.ext
  simp [ByteArray.data_append]

theorem D.text_small (w : World) (t : D) (v : Value) (h : t.In w v) (hw : t.weight ≤ 1048576) : t.text.length ≤ 33554432 := by
  have h1 := t.text_len w v h
  have h2 := t.count_weight
  omega

set_option maxRecDepth 100000 in
set_option maxHeartbeats 4000000 in
theorem spec_text (t : D) : TextAt t := by
  induction t with
  | no => intro w v h _; exact h.elim
  | mk op a n s len kid ih =>
    intro w v hin hwt
    have h1 := hin.sl
    have hs := hin.size
    have hn := hin.num
    have hsm := (D.mk op a n s len kid).text_small w v hin hwt
    have hnum := (D.mk op a n s len kid).text_num
    have hsym := (D.mk op a n s len kid).text_sym
    have hlist := (D.mk op a n s len kid).text_list
    have hnone := (D.mk op a n s len kid).text_none
    have hwk : ∀ i, i < len → (kid i).weight ≤ 1048576 := fun i hi => by
      have e : (D.mk op a n s len kid).weight = s.size + kidsWeight len kid := rfl
      have h2 := sumTo_at (fun i => (kid i).weight) i len hi
      unfold kidsWeight at e
      omega
    simp only [D.op, D.at_, D.n, D.s, D.len, D.kid] at h1 hs hn hnum hsym hlist hnone ⊢
    generalize (D.mk op a n s len kid).text = T at *
    obtain ⟨p, cap, e1, hlen, hat⟩ := h1.at
    have HC : Hid (∀ i, i < len → ∃ b o u, p = some ⟨b, o, none⟩ ∧ Head w b (o + i * 5) (kid i) u ∧ (kid i).In w u) := hat
    have IH : Hid (∀ i, TextAt (kid i)) := ih
    have HWK : Hid (∀ i, i < len → (kid i).weight ≤ 1048576) := hwk
    have HB : Hid (∀ o1, Below w.heap.size w (w.alloc o1)) := fun o1 => newb w _
    clear hin h1 hat ih hwk hwt
    unfold maxLen at hlen hs
    subst e1
    by_cases c1 : op = 1
    · subst c1
      have HT : Hid (T = Lib.itoa n) := hnum rfl
      clear hnum hsym hlist hnone
      go_enter Tryz.func14, Tryz.ntmps14
      go_wp2_with fail
      refine (spec_digits n hn.1 hn.2 _).mono ?_
      rintro e w1 ⟨rfl, hb1⟩
      have HB1 : Hid (Below w.heap.size w w1) := (newb w _).trans (hb1.mono (newb w _).size)
      clear hb1
      go_wp2_with fail
      go_ret
      exact ⟨by rw [HT.out]; rfl, HB1.out⟩
    · by_cases c2 : op = 2
      · subst c2
        have HT : Hid (T = s.data.toList) := hsym rfl
        clear hnum hsym hlist hnone
        go_enter Tryz.func14, Tryz.ntmps14
        go_wp2_with fail
        go_ret
        exact ⟨by rw [HT.out]; rfl, HB.out _⟩
      · by_cases c3 : op = 3
        · subst c3
          have HT : Hid (T = 40 :: (joinTo (fun i => (kid i).text) len ++ [41])) := hlist rfl
          have hjl : (joinTo (fun i => (kid i).text) len).length ≤ 33554432 := by
            have := HT.out
            rw [this] at hsm
            simp only [List.length_cons, List.length_append] at hsm
            omega
          have HJ : Hid (∀ k, k ≤ len → (joinTo (fun i => (kid i).text) k).length ≤ 33554432) := fun k hk => by
            have h2 := join_split (fun i => (kid i).text) (len - k) k
            rw [show k + (len - k) = len from by omega] at h2
            have h3 := congrArg List.length h2
            rw [List.length_append] at h3
            omega
          clear hnum hsym hlist hnone hjl
          go_enter Tryz.func14, Tryz.ntmps14
          go_wp2_with fail
          go_loopw [3, 4] (fun x i wr => ∃ (k : Nat) (l : List UInt8), i = .int .i64 k ∧ x = .string ⟨l.toArray⟩ ∧ k ≤ len ∧ l = 40 :: joinTo (fun i => (kid i).text) k ∧ wr.cell? ⟨w.heap.size, 4, none⟩ = some (.slice p len cap) ∧ Below w.heap.size w wr) (fun _ i _ => len - (intOf i).toNat)
          case atStart => exact ⟨0, [40], rfl, rfl, Nat.zero_le _, rfl, by simp, newb w _⟩
          case round =>
            obtain ⟨k, l, rfl, rfl, hk, hl, hc4, hbel⟩ := hrel
            have HBL : Hid (Below w.heap.size w wr) := hbel
            have HLL : Hid (l = 40 :: joinTo (fun i => (kid i).text) k) := hl
            have hll : l.length ≤ 33554433 := by
              have := HJ.out k hk
              rw [hl]; simp only [List.length_cons]; omega
            clear hbel hl
            by_cases hlt : (k : Int) < len
            · have hlt' : k < len := by omega
              obtain ⟨b, o, u, hp, hd, hin⟩ := HC.out k hlt'
              subst hp
              obtain ⟨c0, c1, c2, c3, c4⟩ := hd.below HBL.out
              have HI : Hid ((kid k).In wr u) := hin.below HBL.out
              have hts : (kid k).text.length ≤ 33554432 := (kid k).text_small w u hin (HWK.out k hlt')
              have HNX : Hid (l ++ (sep k ++ (kid k).text) = 40 :: joinTo (fun i => (kid i).text) (k + 1)) := by
                show _ = _
                rw [HLL.out]; rfl
              clear hd hin
              by_cases hk1 : (0 : Int) < k
              · have HNY : Hid ((l ++ [32]) ++ (kid k).text = 40 :: joinTo (fun i => (kid i).text) (k + 1)) := by
                  have := HNX.out
                  unfold sep at this
                  rw [if_neg (by omega)] at this
                  show _ = _
                  rw [← this]; simp
                have e32 : ((⟨l.toArray⟩ : ByteArray) ++ ⟨#[32]⟩) = ⟨(l ++ [32]).toArray⟩ := join_bytes l [32]
                have hl32 : (l ++ [32]).length ≤ 33554434 := by simp; omega
                go_wp2_with fail
                generalize l ++ [32] = l2 at *
                refine (IH.out k wr u HI.out (HWK.out k hlt')).mono ?_
                rintro e w1 ⟨rfl, hb1⟩
                have HB1 : Hid (Below w.heap.size w w1) := HBL.out.trans (hb1.mono HBL.out.size)
                have HX : Hid (w1.cell? ⟨w.heap.size, 4, none⟩ = some (.slice (some ⟨b, o, none⟩) len cap)) := keeps hb1 _ _ hc4
                clear hb1 c0 c1 c2 c3 c4 e32
                go_wp2_with fail
                go_roundw
                case rel => exact ⟨k + 1, l2 ++ (kid k).text, by go_num, by rw [join_bytes], by omega, HNY.out, HX.out, HB1.out⟩
                case measure => simp [intOf]; omega
              · have HNY : Hid (l ++ (kid k).text = 40 :: joinTo (fun i => (kid i).text) (k + 1)) := by
                  have := HNX.out
                  unfold sep at this
                  rw [if_pos (by omega)] at this
                  show _ = _
                  rw [← this]; simp
                go_wp2_with fail
                refine (IH.out k wr u HI.out (HWK.out k hlt')).mono ?_
                rintro e w1 ⟨rfl, hb1⟩
                have HB1 : Hid (Below w.heap.size w w1) := HBL.out.trans (hb1.mono HBL.out.size)
                have HX : Hid (w1.cell? ⟨w.heap.size, 4, none⟩ = some (.slice (some ⟨b, o, none⟩) len cap)) := keeps hb1 _ _ hc4
                clear hb1 c0 c1 c2 c3 c4
                go_wp2_with fail
                go_roundw
                case rel => exact ⟨k + 1, l ++ (kid k).text, by go_num, by rw [join_bytes], by omega, HNY.out, HX.out, HB1.out⟩
                case measure => simp [intOf]; omega
            · have hke : k = len := by omega
              subst hke
              go_wp2_with fail
              go_ret
              refine ⟨?_, HBL.out⟩
              rw [HT.out, ← List.cons_append, ← HLL.out, ← join_bytes]; rfl
        · have HT : Hid (T = [63]) := hnone c1 c2 c3
          have g1 : (op == 1) = false := by simpa using c1
          have g2 : (op == 2) = false := by simpa using c2
          have g3 : (op == 3) = false := by simpa using c3
          clear hnum hsym hlist hnone
          go_enter Tryz.func14, Tryz.ntmps14
          go_wp2_with fail
          go_ret
          exact ⟨by rw [HT.out]; rfl, HB.out _⟩
end Go.Proofs.YtoljphjmekkneabGreatDoor
