/- impl.listPieces and impl.datPieces. Conditions: at most 2^20 in all; those of impl.Digits. -/
import Derived.Test.YtoljphjmekkneabDoorTold
import Derived.Test.YtoljphjmekkneabDoorImplDigits
namespace Go.Proofs.YtoljphjmekkneabDoor
open Go.ChangeShapes Go.WideShapes Go.ChangeAt Go.RowKit

theorem kidPcs_len (kid : Nat → D) (V : Nat → Value) (b o : Nat) : ∀ k, (kidPcs kid V b o k).length ≤ 2 * k
  | 0 => Nat.le_refl _
  | k + 1 => by
    have := kidPcs_len kid V b o k
    unfold kidPcs
    rw [List.length_append]
    by_cases h : k = 0
    · rw [if_pos h]; simp only [List.nil_append, List.length_cons, List.length_nil]; omega
    · rw [if_neg h]; simp only [List.length_append, List.length_cons, List.length_nil]; omega

theorem own_monoPc {w : World} {base base' e size n : Nat} {v : Value} {xs : List Value} (h : w.ownsRow base e size v n xs) (hb : base' ≤ base) : w.ownsRow base' e size v n xs := by
  refine ⟨h.1, ?_⟩
  rcases h.2 with hn | ⟨g, cap, cur, rfl, hbg, rest⟩
  · exact .inl hn
  · exact .inr ⟨g, cap, cur, rfl, Nat.le_trans hb hbg, rest⟩
/-- What the loop keeps. -/
structure PL (W wr : World) (l : List Pc) (g cap : Nat) : Prop where
  own : wr.ownsRow W.heap.size 45 2 (.slice (some ⟨g, 0, none⟩) l.length cap) l.length (pcrows l)
  bel : Below W.heap.size W wr
/-- One piece more. -/
theorem PL.more {W wr w1 w2 : World} {l ps : List Pc} {g cap : Nat} {v' : Value} (h : PL W wr l g cap) (hb : Below wr.heap.size wr w1) (ho : w2.ownsRow W.heap.size 45 2 v' (l.length + ps.length) (pcrows l ++ pcrows ps)) (hg : w1.grownBy w2 (Value.slice (some ⟨g, 0, none⟩) l.length cap).ownBlock) (hp : 0 < ps.length) :
    ∃ g2 cap2, v' = .slice (some ⟨g2, 0, none⟩) ((l ++ ps).length : Nat) cap2 ∧ PL W w2 (l ++ ps) g2 cap2 := by
  obtain ⟨g2, cap2, rfl, -, -⟩ := own_somePc ho (by omega)
  have h1 := h.bel.trans (hb.mono h.bel.size)
  refine ⟨g2, cap2, by rw [List.length_append], ⟨by rw [List.length_append, pcrows_append]; exact ho, h1.trans (grown_below hg h1.size (fun b e => ?_))⟩⟩
  simp only [Value.ownBlock, Option.some.injEq] at e
  have := (own_room h.own).2.2.1
  omega

set_option maxRecDepth 100000 in
set_option maxHeartbeats 2000000 in
theorem list_pieces (len : Nat) (kid : Nat → D) (v : Value) (w1 W : World) (hsl : Sl w1 len kid v) (hw : kidsWeight len kid ≤ 1048576) :
    Calls Tryd.prog 19 #[v] W fun e w' => ∃ (g cap : Nat) (ps : List Pc), e = .returned (.slice (some ⟨g, 0, none⟩) ps.length cap) ∧ PL W w' ps g cap ∧ toldAll ps = 40 :: (joinTo (fun i => (kid i).text) len ++ [41]) ∧ goesP ps ≤ 2 + sumTo (fun i => 2 + (kid i).steps) len ∧ PcsIn w1 ps := by
  obtain ⟨i0, hi, hz0, hz1, hz2⟩ := info_parts piece_info
  obtain ⟨p, cap, b, o, V, ev, hlen, hbo, hat⟩ : ∃ (p : Option Addr) (cap b o : Nat) (V : Nat → Value), v = .slice p len cap ∧ len ≤ maxLen ∧ (0 < len → p = some ⟨b, o, none⟩) ∧ ∀ i, i < len → Head w1 b (o + i * 5) (kid i) (V i) ∧ (kid i).In w1 (V i) := by
    rcases hsl with ⟨h0, p, cap, rfl⟩ | ⟨b, o, cap, V, rfl, _, h1, h2, h4⟩
    · subst h0; exact ⟨p, cap, 0, 0, fun _ => .bool false, rfl, Nat.zero_le _, fun h => by omega, fun i hi => by omega⟩
    · exact ⟨_, cap, b, o, V, rfl, Nat.le_trans h1 h2, fun _ => rfl, h4⟩
  have hl20 : len ≤ 1048576 := by unfold kidsWeight at hw; omega
  have HF : Hid (toldAll (listPcs kid V b o len) = 40 :: (joinTo (fun i => (kid i).text) len ++ [41]) ∧ goesP (listPcs kid V b o len) ≤ 2 + sumTo (fun i => 2 + (kid i).steps) len ∧ PcsIn w1 (listPcs kid V b o len)) := by
    refine ⟨listPcs_told kid V b o len, listPcs_goes kid V b o len, listPcs_in (fun i hi => ⟨(hat i hi).1, (hat i hi).2, ?_⟩)⟩
    have := sumTo_at (fun i => (kid i).weight) i len hi
    unfold kidsWeight at hw
    omega
  have HLN : Hid (∀ k, (kidPcs kid V b o k).length ≤ 2 * k) := kidPcs_len kid V b o
  clear hsl hat hw
  unfold maxLen at hlen
  subst ev
  have HS : Hid (PL W (W.alloc (.cells #[.string ⟨#[40]⟩, .pointer none] 45)) [Pc.of ⟨#[40]⟩] W.heap.size 1) := ⟨own_new rfl rfl (Nat.le_refl _) rfl rfl (by unfold maxLen; omega), newb W _⟩
  go_enter Tryd.func19, Tryd.ntmps19
  go_wp2_with fail
  go_loopw [3, 9] (fun lv i wr => ∃ (k g cap : Nat), i = .int .i64 k ∧ k ≤ len ∧ lv = .slice (some ⟨g, 0, none⟩) ([Pc.of ⟨#[40]⟩] ++ kidPcs kid V b o k).length cap ∧ PL W wr ([Pc.of ⟨#[40]⟩] ++ kidPcs kid V b o k) g cap) (fun _ i _ => len - (intOf i).toNat)
  case atStart => exact ⟨0, W.heap.size, 1, rfl, Nat.zero_le _, rfl, by rw [show [Pc.of ⟨#[40]⟩] ++ kidPcs kid V b o 0 = [Pc.of ⟨#[40]⟩] from rfl]; exact HS.out⟩
  case round =>
    obtain ⟨k, g, gc, rfl, hk, rfl, hL⟩ := hrel
    have HL : Hid (PL W wr ([Pc.of ⟨#[40]⟩] ++ kidPcs kid V b o k) g gc) := hL
    have hcl : ([Pc.of ⟨#[40]⟩] ++ kidPcs kid V b o k).length ≤ 3000000 := by have := HLN.out k; rw [List.length_append]; simp; omega
    obtain ⟨hr1, hr2, hr3, hr4⟩ := own_room hL.own
    unfold maxLen at hr2
    have hWS : W.heap.size ≤ wr.heap.size := hL.bel.size
    clear hL HS
    by_cases hlt : (k : Int) < len
    · have hlt' : k < len := by omega
      obtain rfl := hbo (by omega)
      by_cases hk0 : (0 : Int) < k
      · have HNX : Hid (([Pc.of ⟨#[40]⟩] ++ kidPcs kid V b o k) ++ [Pc.of ⟨#[32]⟩] ++ [Pc.tree (kid k) (V k) b (o + k * 5)] = [Pc.of ⟨#[40]⟩] ++ kidPcs kid V b o (k + 1)) := by
          show _ = [Pc.of ⟨#[40]⟩] ++ (kidPcs kid V b o k ++ ((if k = 0 then [] else [Pc.of ⟨#[32]⟩]) ++ [Pc.tree (kid k) (V k) b (o + k * 5)]))
          rw [if_neg (by omega)]; simp
        generalize [Pc.of ⟨#[40]⟩] ++ kidPcs kid V b o k = l at *
        obtain ⟨l2, hl2e⟩ : ∃ l2, l2 = [Pc.of ⟨#[40]⟩] ++ kidPcs kid V b o (k + 1) := ⟨_, rfl⟩
        have HE2 := hid_ofP hl2e
        rw [← hl2e] at HNX
        clear hl2e
        go_wp2_with (at_builtin; refine wpList_append_own _ rfl _ _ 46 rfl W.heap.size 45 i0 (.agg #[.string ⟨#[]⟩, .pointer none]) 2 24 Tryd.underlying46 hi hz0 hz1 hz2 rfl (by decide) _ _ _ rfl (HL.out.own.alloc _) ⟨wr.heap.size, 0, none⟩ 1 1 (pcrows [Pc.of ⟨#[32]⟩]) rfl rfl ?c1 (pcs_oneCell _) ?c3 ?c4 ?c5 ?_)
        case c1 => first | exact fun j u h => h | exact World.news_of_block (cs := #[.string ⟨#[32]⟩, .pointer none]) (t := 45) (fr := (0, 0)) (heap_alloc_new wr _)
        case c3 => unfold maxLen; omega
        case c4 => omega
        case c5 => first | omega | (simp; omega)
        intro v' w2 hown' hgrow _
        obtain ⟨g2, cap2, rfl, hL2⟩ := HL.out.more (newb wr _) (ps := [Pc.of ⟨#[32]⟩]) hown' hgrow (by simp)
        have HL2 : Hid (PL W w2 (l ++ [Pc.of ⟨#[32]⟩]) g2 cap2) := hL2
        have hl2 : (l ++ [Pc.of ⟨#[32]⟩]).length ≤ 3000001 := by rw [List.length_append]; simp; omega
        have hWS2 : W.heap.size ≤ w2.heap.size := hL2.bel.size
        clear hown' hgrow hL2 HL hWS hcl hr1 hr2 hr3 hr4
        generalize l ++ [Pc.of ⟨#[32]⟩] = l3 at *
        go_wp2_with (at_builtin; refine wpList_append_own _ rfl _ _ 46 rfl W.heap.size 45 i0 (.agg #[.string ⟨#[]⟩, .pointer none]) 2 24 Tryd.underlying46 hi hz0 hz1 hz2 rfl (by decide) _ _ _ rfl (HL2.out.own.alloc _) ⟨w2.heap.size, 0, none⟩ 1 1 (pcrows [Pc.tree (kid k) (V k) b (o + k * 5)]) rfl rfl ?d1 (pcs_oneCell _) ?d3 ?d4 ?d5 ?_)
        case d1 => first | exact fun j u h => h | exact World.news_of_block (cs := #[.string ⟨#[]⟩, .pointer (some ⟨b, o + k * 5, none⟩)]) (t := 45) (fr := (0, 0)) (heap_alloc_new w2 _)
        case d3 => unfold maxLen; omega
        case d4 => omega
        case d5 => first | omega | (simp; omega)
        intro v3 w3 hown3 hgrow3 _
        obtain ⟨g3, cap3, rfl, hL3⟩ := HL2.out.more (newb w2 _) (ps := [Pc.tree (kid k) (V k) b (o + k * 5)]) hown3 hgrow3 (by simp)
        rw [HNX.out] at hL3 ⊢
        have HL3 : Hid (PL W w3 l2 g3 cap3) := hL3
        clear hown3 hgrow3 hL3 HL2
        go_wp2_with fail
        go_roundw
        case rel =>
          have h := HL3.out
          rw [HE2.out] at h
          first | exact ⟨k + 1, g3, cap3, by go_num, by omega, by rw [HE2.out], h⟩ | ((repeat apply Exists.intro); exact ⟨⟨k + 1, g3, cap3, by go_num, by omega, by rw [HE2.out], h⟩, rfl⟩)
        case measure => simp [intOf]; omega
      · have HNX : Hid (([Pc.of ⟨#[40]⟩] ++ kidPcs kid V b o k) ++ [Pc.tree (kid k) (V k) b (o + k * 5)] = [Pc.of ⟨#[40]⟩] ++ kidPcs kid V b o (k + 1)) := by
          show _ = [Pc.of ⟨#[40]⟩] ++ (kidPcs kid V b o k ++ ((if k = 0 then [] else [Pc.of ⟨#[32]⟩]) ++ [Pc.tree (kid k) (V k) b (o + k * 5)]))
          rw [if_pos (by omega)]; simp
        generalize [Pc.of ⟨#[40]⟩] ++ kidPcs kid V b o k = l at *
        obtain ⟨l2, hl2⟩ : ∃ l2, l2 = [Pc.of ⟨#[40]⟩] ++ kidPcs kid V b o (k + 1) := ⟨_, rfl⟩
        have HE2 := hid_ofP hl2
        rw [← hl2] at HNX
        clear hl2
        go_wp2_with (at_builtin; refine wpList_append_own _ rfl _ _ 46 rfl W.heap.size 45 i0 (.agg #[.string ⟨#[]⟩, .pointer none]) 2 24 Tryd.underlying46 hi hz0 hz1 hz2 rfl (by decide) _ _ _ rfl (HL.out.own.alloc _) ⟨wr.heap.size, 0, none⟩ 1 1 (pcrows [Pc.tree (kid k) (V k) b (o + k * 5)]) rfl rfl ?d1 (pcs_oneCell _) ?d3 ?d4 ?d5 ?_)
        case d1 => first | exact fun j u h => h | exact World.news_of_block (cs := #[.string ⟨#[]⟩, .pointer (some ⟨b, o + k * 5, none⟩)]) (t := 45) (fr := (0, 0)) (heap_alloc_new wr _)
        case d3 => unfold maxLen; omega
        case d4 => omega
        case d5 => first | omega | (simp; omega)
        intro v3 w3 hown3 hgrow3 _
        obtain ⟨g3, cap3, rfl, hL3⟩ := HL.out.more (newb wr _) (ps := [Pc.tree (kid k) (V k) b (o + k * 5)]) hown3 hgrow3 (by simp)
        rw [HNX.out] at hL3 ⊢
        have HL3 : Hid (PL W w3 l2 g3 cap3) := hL3
        clear hown3 hgrow3 hL3 HL
        go_wp2_with fail
        go_roundw
        case rel =>
          have h := HL3.out
          rw [HE2.out] at h
          first | exact ⟨k + 1, g3, cap3, by go_num, by omega, by rw [HE2.out], h⟩ | ((repeat apply Exists.intro); exact ⟨⟨k + 1, g3, cap3, by go_num, by omega, by rw [HE2.out], h⟩, rfl⟩)
        case measure => simp [intOf]; omega
    · have hke : k = len := by omega
      have HNX : Hid (([Pc.of ⟨#[40]⟩] ++ kidPcs kid V b o k) ++ [Pc.of ⟨#[41]⟩] = listPcs kid V b o len) := by rw [hke]; rfl
      generalize [Pc.of ⟨#[40]⟩] ++ kidPcs kid V b o k = l at *
      generalize listPcs kid V b o len = L at *
      go_wp2_with (at_builtin; refine wpList_append_own _ rfl _ _ 46 rfl W.heap.size 45 i0 (.agg #[.string ⟨#[]⟩, .pointer none]) 2 24 Tryd.underlying46 hi hz0 hz1 hz2 rfl (by decide) _ _ _ rfl (HL.out.own.alloc _) ⟨wr.heap.size, 0, none⟩ 1 1 (pcrows [Pc.of ⟨#[41]⟩]) rfl rfl ?d1 (pcs_oneCell _) ?d3 ?d4 ?d5 ?_)
      case d1 => first | exact fun j u h => h | exact World.news_of_block (cs := #[.string ⟨#[41]⟩, .pointer none]) (t := 45) (fr := (0, 0)) (heap_alloc_new wr _)
      case d3 => unfold maxLen; omega
      case d4 => omega
      case d5 => first | omega | (simp; omega)
      intro v3 w3 hown3 hgrow3 _
      obtain ⟨g3, cap3, rfl, hL3⟩ := HL.out.more (newb wr _) (ps := [Pc.of ⟨#[41]⟩]) hown3 hgrow3 (by simp)
      rw [HNX.out] at hL3 ⊢
      have HL3 : Hid (PL W w3 L g3 cap3) := hL3
      clear hown3 hgrow3 hL3 HL
      go_wp2_with fail
      go_ret
      exact ⟨g3, cap3, L, rfl, HL3.out, HF.out⟩

set_option maxRecDepth 100000 in
set_option maxHeartbeats 2000000 in
theorem dat_pieces (w : World) (ht : PowTab w) : PiecesAt w := by
  intro w1 W t v hb0 hb1 hin hw
  obtain ⟨pv, cv, ev⟩ := hin.sl.shape
  have hno : t ≠ .no := fun e => by subst e; exact hin.elim
  have hn := hin.num
  have HP : Hid (∀ W', Below W.heap.size W W' → PowTab W') := fun W' h => (ht.below (hb0.trans (hb1.mono hb0.size))).below h
  have HNB : Hid (∀ o, Below W.heap.size W (W.alloc o)) := fun o => newb W o
  by_cases c1 : t.op = 1
  · have HT : Hid (t.text = Lib.itoa t.n) := t.text_num c1
    rw [c1]
    clear hin hb0 hb1 ht
    subst ev
    go_enter Tryd.func13, Tryd.ntmps13
    go_wp2_with fail
    refine (impl_digits t.n hn.1 hn.2 _ (HP.out _ (HNB.out _))).mono ?_
    rintro e w2 ⟨rfl, hb2⟩
    have HB2 : Hid (Below W.heap.size W w2) := (HNB.out _).trans (hb2.mono (HNB.out _).size)
    clear hb2
    go_wp2_with fail
    go_ret
    refine ⟨w2.heap.size, 1, [Pc.of ⟨(Lib.itoa t.n).toArray⟩], rfl, own_new rfl rfl HB2.out.size rfl rfl (by unfold maxLen; omega), HB2.out.trans ((newb _ _).mono HB2.out.size), PcsOf.one (by rw [HT.out])⟩
  by_cases c2 : t.op = 2
  · have HT : Hid (t.text = t.s.data.toList) := t.text_sym c2
    rw [c2]
    clear hin hb0 hb1 ht
    subst ev
    go_enter Tryd.func13, Tryd.ntmps13
    go_wp2_with fail
    go_ret
    refine ⟨W.heap.size + 1, 1, [Pc.of t.s], by simp, own_new rfl (by simp) (by omega) rfl rfl (by unfold maxLen; omega), (HNB.out _).trans ((newb _ _).mono (by simp)), PcsOf.one (by rw [HT.out])⟩
  by_cases c3 : t.op = 3
  · have HT : Hid (t.text = 40 :: (joinTo (fun i => (t.kid i).text) t.len ++ [41]) ∧ t.steps = 2 + sumTo (fun i => 2 + (t.kid i).steps) t.len) := ⟨t.text_list c3, t.steps_eq hno⟩
    have HLP : Hid (∀ o, Calls Tryd.prog 19 #[v] (W.alloc o) fun e w' => ∃ (g cap : Nat) (ps : List Pc), e = .returned (.slice (some ⟨g, 0, none⟩) ps.length cap) ∧ PL (W.alloc o) w' ps g cap ∧ toldAll ps = 40 :: (joinTo (fun i => (t.kid i).text) t.len ++ [41]) ∧ goesP ps ≤ 2 + sumTo (fun i => 2 + (t.kid i).steps) t.len ∧ PcsIn w1 ps) := fun o => list_pieces t.len t.kid v w1 _ hin.sl (by have := t.weight_eq; omega)
    rw [c3]
    clear hin hb0 hb1 ht
    subst ev
    go_enter Tryd.func13, Tryd.ntmps13
    go_wp2_with fail
    refine (HLP.out _).mono ?_
    rintro e w2 ⟨g, cap, ps, rfl, hL, h1, h2, h3⟩
    have HF : Hid (PcsAre w1 W t (.returned (.slice (some ⟨g, 0, none⟩) ps.length cap)) w2) := by
      have hnb := newb W (.cells #[.int .i64 3, .int .i64 t.at_, .int .i64 t.n, .string t.s, .slice pv t.len cv] 29)
      refine ⟨g, cap, ps, rfl, ?_, hnb.trans (hL.bel.mono hnb.size), ⟨h1.trans HT.out.1.symm, by rw [HT.out.2]; exact h2, h3⟩⟩
      exact own_monoPc hL.own hnb.size
    clear hL h1 h2 h3
    go_wp2_with fail
    go_ret
    exact HF.out
  · have HT : Hid (t.text = [63]) := t.text_none c1 c2 c3
    have g1 : (t.op == 1) = false := by simpa using c1
    have g2 : (t.op == 2) = false := by simpa using c2
    have g3 : (t.op == 3) = false := by simpa using c3
    clear hin hb0 hb1 ht
    subst ev
    go_enter Tryd.func13, Tryd.ntmps13
    go_wp2_with fail
    go_ret
    refine ⟨W.heap.size + 1, 1, [Pc.of ⟨#[63]⟩], by simp, own_new rfl (by simp) (by omega) rfl rfl (by unfold maxLen; omega), (HNB.out _).trans ((newb _ _).mono (by simp)), PcsOf.one (by rw [HT.out])⟩

set_option maxRecDepth 100000 in
set_option maxHeartbeats 2000000 in
theorem impl_text (x : D) (w : World) (v : Value) (hin : x.In w v) (hw : x.weight ≤ 1048576) (ht : PowTab w) :
    Calls Tryd.prog 7 #[.agg #[.int .i64 x.op, .int .i64 x.at_, .int .i64 x.n, .string x.s, v]] w fun e w' => e = .returned (.string ⟨x.text.toArray⟩) ∧ Below w.heap.size w w' := by
  obtain ⟨pv, cv, ev⟩ := hin.sl.shape
  have HC : Hid (∀ o, Calls Tryd.prog 12 #[.agg #[.int .i64 x.op, .int .i64 x.at_, .int .i64 x.n, .string x.s, v], .func (.func 13) #[] #[]] (w.alloc o) fun e w' => e = .returned (.string ⟨x.text.toArray⟩) ∧ Below w.heap.size w w') :=
    fun o => (told_text x _ v (hin.below (newb w o)) hw (dat_pieces _ (ht.below (newb w o)))).mono (fun e w' h => ⟨h.1, (newb w o).trans (h.2.mono (newb w o).size)⟩)
  clear hin hw ht
  subst ev
  generalize x.text = T at *
  go_enter Tryd.func7, Tryd.ntmps7
  go_wp2_with fail
  refine (HC.out _).mono ?_
  rintro e w1 ⟨rfl, hb1⟩
  have HB1 : Hid (Below w.heap.size w w1) := hb1
  clear hb1
  go_wp2_with fail
  go_ret
  exact ⟨rfl, HB1.out⟩
end Go.Proofs.YtoljphjmekkneabDoor
