/- (*impl.tokenCut).takeSign: one sign of the text. Conditions: as endWord's. -/
import Derived.Test.YtoljphjmekkneabGreatDoorZG27ImplEnd
namespace Go.Proofs.YtoljphjmekkneabGreatDoor
open Go.ChangeShapes Go.WideShapes Go.ChangeAt Go.RowKit

/-- The list behind the word that ends at p; none where that word is no token. -/
def endTok (s : ByteArray) (bI : Int) (p : Nat) (acc : List Tok) : Option (List Tok) :=
  if bI = -1 then some acc else (tokOf (s.extract bI.toNat p) bI.toNat).map (fun t => acc ++ [t])

/-- What a call leaves of the rest: all below the cut, and the block behind it. -/
def Keeps (C : Nat) (w w' : World) : Prop := Below C w w' ∧ w'.heap[C + 1]? = w.heap[C + 1]?
theorem Keeps.refl (C : Nat) (w : World) : Keeps C w w := ⟨Below.refl _ _, rfl⟩
theorem Keeps.trans {C : Nat} {a b c : World} (h : Keeps C a b) (k : Keeps C b c) : Keeps C a c := ⟨h.1.trans k.1, k.2.trans h.2⟩
theorem Keeps.of_below {C : Nat} {w w' : World} (h : Below w.heap.size w w') (hC : C + 1 < w.heap.size) : Keeps C w w' := ⟨h.mono (by omega), h.block _ hC⟩

theorem end_all (C : Nat) (s : ByteArray) (bI : Int) (p : Nat) (acc : List Tok) (lv : Value) (w : World) (hc : CutAt w C s bI acc lv) (hC1 : C + 1 < w.heap.size) (hacc : acc.length ≤ 4000)
    (hb : bI = -1 ∨ (0 ≤ bI ∧ bI < p)) (hp : p ≤ s.size) (hs : s.size ≤ 4000) (ht : PowTab w) (hv : ErrVars w) :
    Calls Tryz.prog 58 #[.pointer (some ⟨C, 0, none⟩), .int .i64 p] w fun e w' => e = .returned (.bool (endTok s bI p acc).isSome) ∧ Keeps C w w' ∧ ∃ lv', (∀ acc', endTok s bI p acc = some acc' → CutAt w' C s (-1) acc' lv') ∧ (endTok s bI p acc = none → CutAt w' C s bI acc lv') := by
  unfold endTok
  by_cases hm : bI = -1
  · subst hm
    simp only [if_true]
    refine (end_out C s p acc lv w hc).mono ?_
    rintro e w' ⟨rfl, rfl⟩
    refine ⟨rfl, Keeps.refl _ _, lv, ?_, by simp⟩
    intro acc' h
    injection h with h
    subst h
    exact hc
  · rw [if_neg hm]
    obtain ⟨h0, h1⟩ := hb.resolve_left hm
    obtain ⟨b, rfl⟩ : ∃ b : Nat, bI = b := ⟨bI.toNat, by omega⟩
    rw [Int.toNat_natCast]
    cases e : tokOf (s.extract b p) b with
    | none =>
      refine (end_no C s b p acc lv w hc (by omega) hp hs ht hv e).mono ?_
      rintro e w' ⟨rfl, hbl⟩
      exact ⟨rfl, Keeps.of_below hbl hC1, lv, by simp, fun _ => hc.below hbl⟩
    | some t =>
      refine (end_yes C s b p acc lv t w hc hC1 hacc (by omega) hp hs ht hv e).mono ?_
      rintro e w' ⟨rfl, h2, h3, lv', h4⟩
      refine ⟨rfl, ⟨h2, h3⟩, lv', ?_, by simp⟩
      intro acc' h
      simp only [Option.map_some, Option.some.injEq] at h
      subst h
      exact h4

theorem bracket_none (r : Nat) (h1 : r ≠ 40) (h2 : r ≠ 41) (w : World) : Calls Tryz.prog 68 #[.int .i32 r] w fun e w' => e = .returned (.int .i64 0) ∧ w' = w := by
  have h1' : ((r : Int) == 40) = false := by rw [beq_eq_false_iff_ne]; omega
  have h2' : ((r : Int) == 41) = false := by rw [beq_eq_false_iff_ne]; omega
  clear h1 h2
  go_enter Tryz.func68, Tryz.ntmps68
  go_wp2
  go_ret
  exact ⟨rfl, rfl⟩

theorem bracket_open (w : World) : Calls Tryz.prog 68 #[.int .i32 40] w fun e w' => e = .returned (.int .i64 1) ∧ w' = w := by
  go_enter Tryz.func68, Tryz.ntmps68
  go_wp2
  go_ret
  exact ⟨rfl, rfl⟩

theorem bracket_shut (w : World) : Calls Tryz.prog 68 #[.int .i32 41] w fun e w' => e = .returned (.int .i64 2) ∧ w' = w := by
  go_enter Tryz.func68, Tryz.ntmps68
  go_wp2
  go_ret
  exact ⟨rfl, rfl⟩

/-- strings.ContainsRune on the blanks at a rune that is neither. -/
theorem blank_no (r : Nat) (hr : r ≤ 1114111) (hv : 128 ≤ r → Utf8.valid (r : Int) = true) (h1 : r ≠ 32) (h2 : r ≠ 10) (w : World) :
    Calls Tryz.prog 69 #[.string ⟨#[32, 10]⟩, .int .i32 r] w fun e w' => e = .returned (.bool false) ∧ Below w.heap.size w w' := by
  by_cases h : r < 128
  · refine (contains_low ⟨#[32, 10]⟩ r h w).mono ?_
    rintro e w' ⟨rfl, rfl⟩
    refine ⟨?_, Below.refl _ _⟩
    have hc : (UInt8.ofNat r).toNat = r := by rw [UInt8.toNat_ofNat']; omega
    have e1 : (UInt8.ofNat r == 32) = false := beq_eq_false_iff_ne.2 (fun e => h1 (by rw [← hc, e]; rfl))
    have e2 : (UInt8.ofNat r == 10) = false := beq_eq_false_iff_ne.2 (fun e => h2 (by rw [← hc, e]; rfl))
    show Ending.returned (.bool (([32, 10] : List UInt8).contains (UInt8.ofNat r))) = _
    rw [List.contains_cons, List.contains_cons, e1, e2]; rfl
  · exact contains_high _ blanks_ascii r (by omega) hr (hv (by omega)) w

theorem blank_yes (r : Nat) (h : r = 32 ∨ r = 10) (w : World) :
    Calls Tryz.prog 69 #[.string ⟨#[32, 10]⟩, .int .i32 r] w fun e w' => e = .returned (.bool true) ∧ w' = w := by
  refine (contains_low ⟨#[32, 10]⟩ r (by omega) w).mono ?_
  rintro e w' ⟨rfl, rfl⟩
  refine ⟨?_, rfl⟩
  rcases h with rfl | rfl <;> rfl

set_option maxHeartbeats 2000000 in
theorem take_other (C : Nat) (s : ByteArray) (bI : Int) (r p : Nat) (acc : List Tok) (lv : Value) (w : World) (hc : CutAt w C s bI acc lv) (hC1 : C + 1 < w.heap.size) (hb : bI = -1 ∨ 0 ≤ bI)
    (hr : r ≤ 1114111) (hv : 128 ≤ r → Utf8.valid (r : Int) = true) (h1 : r ≠ 32) (h2 : r ≠ 10) (h3 : r ≠ 40) (h4 : r ≠ 41) :
    Calls Tryz.prog 57 #[.pointer (some ⟨C, 0, none⟩), .int .i32 r, .int .i64 p] w fun e w' => e = .returned (.bool true) ∧ Keeps C w w' ∧ CutAt w' C s (if bI = -1 then (p : Int) else bI) acc lv := by
  have HB : Hid (∀ w, Calls Tryz.prog 68 #[.int .i32 r] w fun e w' => e = .returned (.int .i64 0) ∧ w' = w) := fun w => bracket_none r h3 h4 w
  have HR : Hid (∀ w, Calls Tryz.prog 69 #[.string ⟨#[32, 10]⟩, .int .i32 r] w fun e w' => e = .returned (.bool false) ∧ Below w.heap.size w w') := fun w => blank_no r hr hv h1 h2 w
  have HC : Hid (CutAt w C s bI acc lv) := hc
  clear hc hv h1 h2 h3 h4
  by_cases hm : bI = -1
  · subst hm
    go_enter Tryz.func57, Tryz.ntmps57
    go_wp2_with fail
    refine (HB.out _).mono ?_
    rintro e w1 ⟨rfl, hw⟩
    subst hw
    go_wp2_with fail
    refine (HR.out _).mono ?_
    rintro e w2 ⟨rfl, hb2⟩
    have hcut := HC.out.below hb2
    have k1 := hcut.c1
    have kf := hcut.fr
    have HCUT : Hid (CutAt w2 C s (-1) acc lv) := hcut
    have HB2 : Hid (Keeps C w1 w2) := Keeps.of_below hb2 hC1
    clear hcut hb2
    go_wp2
    go_ret
    refine ⟨rfl, HB2.out.trans ⟨below_set (a := ⟨C, 1, none⟩) (Below.refl C _) (Nat.le_refl C) _, heap_setCell_other _ _ _ _ (by simp)⟩, ?_⟩
    try rw [if_pos rfl]
    refine ⟨heap_setCell_same _ C 1 _ _ _ HCUT.out.blk, HCUT.out.own.1, ?_⟩
    rcases HCUT.out.own.2 with hn | ⟨g, cap, cur, rfl, hbg, hgg, rest⟩
    · exact .inl hn
    · exact .inr ⟨g, cap, cur, rfl, hbg, (heap_setCell_other _ _ _ _ (by simp; omega)).trans hgg, rest⟩
  · have hm' : (bI == -1) = false := by rw [beq_eq_false_iff_ne]; exact hm
    have HM : Hid (¬ bI = -1) := hm
    clear hm
    go_enter Tryz.func57, Tryz.ntmps57
    go_wp2_with fail
    refine (HB.out _).mono ?_
    rintro e w1 ⟨rfl, hw⟩
    subst hw
    go_wp2_with fail
    refine (HR.out _).mono ?_
    rintro e w2 ⟨rfl, hb2⟩
    have hcut := HC.out.below hb2
    have k1 := hcut.c1
    have kf := hcut.fr
    have HCUT : Hid (CutAt w2 C s bI acc lv) := hcut
    have HB2 : Hid (Keeps C w1 w2) := Keeps.of_below hb2 hC1
    clear hcut hb2
    go_wp2
    go_ret
    refine ⟨rfl, HB2.out, ?_⟩
    try rw [if_neg HM.out]
    exact HCUT.out

theorem own_form {w : World} {base e size n : Nat} {v : Value} {xs : List Value} (h : w.ownsRow base e size v n xs) (hn : 0 < n) : ∃ g cap, v = .slice (some ⟨g, 0, none⟩) n cap := by
  rcases h.2 with ⟨_, h0⟩ | ⟨g, cap, cur, rfl, _⟩
  · omega
  · exact ⟨g, cap, rfl⟩

/-- The cut behind an append to its list. -/
theorem cut_app {W X w3 : World} {C : Nat} {s : ByteArray} {acc : List Tok} {lv L : Value} {t : Tok} (hc : CutAt W C s (-1) acc lv) (hX : Below W.heap.size W X)
    (ho : w3.ownsRow (C + 2) 78 4 L (acc.length + 1) (rows acc ++ [.int .i64 t.kind, .int .i64 t.at_, .int .i64 t.n, .string t.text]))
    (hg : X.grownBy w3 lv.ownBlock) (hC1 : C + 1 < W.heap.size) :
    CutAt (w3.setCell ⟨C, 2, none⟩ L) C s (-1) (acc ++ [t]) L ∧ Keeps C W (w3.setCell ⟨C, 2, none⟩ L) := by
  have hrow : ∀ k, k < C + 2 → some k ≠ lv.ownBlock := by intro k hk e; have := (hc.own.lt k e.symm).1; omega
  have hold : ∀ k, k < C + 2 → w3.heap[k]? = W.heap[k]? := by
    intro k hk
    rw [hg.block k (Nat.lt_of_lt_of_le (by omega : k < W.heap.size) hX.size) (hrow k hk)]
    exact hX.block k (by omega)
  have hk : w3.heap[C]? = some (.cells #[.string s, .int .i64 (-1), lv] 104 (0, 0)) := (hold C (by omega)).trans hc.blk
  have hoth : ∀ k, k ≠ C → (w3.setCell ⟨C, 2, none⟩ L).heap[k]? = w3.heap[k]? := fun k hne => heap_setCell_other _ _ _ _ hne
  refine ⟨⟨heap_setCell_same _ C 2 _ _ _ hk, by rw [rows_length], ?_⟩, ⟨hg.os.trans hX.os, hg.tape.trans hX.tape, hg.output.trans hX.output, ?_, ?_⟩, ?_⟩
  · have hl : (acc ++ [t]).length = acc.length + 1 := by simp
    have hr : rows (acc ++ [t]) = rows acc ++ [.int .i64 t.kind, .int .i64 t.at_, .int .i64 t.n, .string t.text] := by rw [rows_append]; rfl
    rw [hl, hr]
    rcases ho.2 with hn | ⟨g, cap, cur, rfl, hbg, hgg, rest⟩
    · exact .inl hn
    · exact .inr ⟨g, cap, cur, rfl, hbg, (hoth g (by omega)).trans hgg, rest⟩
  · have h1 := hg.size
    have h2 := hX.size
    simp only [World.setCell, Array.size_modify]
    omega
  · intro k hk
    rw [hoth k (by omega), hold k (by omega)]
  · rw [hoth _ (by omega), hold _ (by omega)]

set_option maxHeartbeats 2000000 in
theorem take_blank (C : Nat) (s : ByteArray) (bI : Int) (r p : Nat) (acc : List Tok) (lv : Value) (w : World) (hc : CutAt w C s bI acc lv) (hC1 : C + 1 < w.heap.size) (hacc : acc.length ≤ 4000) (hb : bI = -1 ∨ (0 ≤ bI ∧ bI < p))
    (hr : r = 32 ∨ r = 10) (hp : p ≤ s.size) (hs : s.size ≤ 4000) (ht : PowTab w) (hv : ErrVars w) :
    Calls Tryz.prog 57 #[.pointer (some ⟨C, 0, none⟩), .int .i32 r, .int .i64 p] w fun e w' => e = .returned (.bool (endTok s bI p acc).isSome) ∧ Keeps C w w' ∧ ∃ lv', (∀ acc', endTok s bI p acc = some acc' → CutAt w' C s (-1) acc' lv') ∧ (endTok s bI p acc = none → CutAt w' C s bI acc lv') := by
  have HB : Hid (∀ w, Calls Tryz.prog 68 #[.int .i32 r] w fun e w' => e = .returned (.int .i64 0) ∧ w' = w) := fun w => bracket_none r (by omega) (by omega) w
  have HR : Hid (∀ w, Calls Tryz.prog 69 #[.string ⟨#[32, 10]⟩, .int .i32 r] w fun e w' => e = .returned (.bool true) ∧ w' = w) := fun w => blank_yes r hr w
  have HE : Hid (Calls Tryz.prog 58 #[.pointer (some ⟨C, 0, none⟩), .int .i64 p] w fun e w' => e = .returned (.bool (endTok s bI p acc).isSome) ∧ Keeps C w w' ∧ ∃ lv', (∀ acc', endTok s bI p acc = some acc' → CutAt w' C s (-1) acc' lv') ∧ (endTok s bI p acc = none → CutAt w' C s bI acc lv')) := end_all C s bI p acc lv w hc hC1 hacc hb hp hs ht hv
  clear hc hC1 hacc hb hr ht hv
  generalize hE : endTok s bI p acc = E at HE ⊢
  clear hE
  cases E with
  | none =>
    go_enter Tryz.func57, Tryz.ntmps57
    go_wp2_with fail
    refine (HB.out _).mono ?_
    rintro e w1 ⟨rfl, hw⟩
    subst hw
    go_wp2_with fail
    refine (HR.out _).mono ?_
    rintro e w2 ⟨rfl, hw⟩
    subst hw
    go_wp2_with fail
    refine HE.out.mono ?_
    rintro e w3 ⟨rfl, h3⟩
    have H3 : Hid _ := h3
    clear h3 HE
    go_wp2
    go_ret
    exact ⟨rfl, H3⟩
  | some acc' =>
    go_enter Tryz.func57, Tryz.ntmps57
    go_wp2_with fail
    refine (HB.out _).mono ?_
    rintro e w1 ⟨rfl, hw⟩
    subst hw
    go_wp2_with fail
    refine (HR.out _).mono ?_
    rintro e w2 ⟨rfl, hw⟩
    subst hw
    go_wp2_with fail
    refine HE.out.mono ?_
    rintro e w3 ⟨rfl, h3⟩
    have H3 : Hid _ := h3
    clear h3 HE
    go_wp2
    go_ret
    exact ⟨rfl, H3⟩

set_option maxHeartbeats 2000000 in
theorem take_open (C : Nat) (s : ByteArray) (bI : Int) (p : Nat) (acc : List Tok) (lv : Value) (w : World) (hc : CutAt w C s bI acc lv) (hC1 : C + 1 < w.heap.size) (hacc : acc.length < 4000) (hb : bI = -1 ∨ (0 ≤ bI ∧ bI < p))
    (hp : p ≤ s.size) (hs : s.size ≤ 4000) (ht : PowTab w) (hv : ErrVars w) :
    Calls Tryz.prog 57 #[.pointer (some ⟨C, 0, none⟩), .int .i32 40, .int .i64 p] w fun e w' => e = .returned (.bool (endTok s bI p acc).isSome) ∧ Keeps C w w' ∧ ∃ lv', (∀ acc', endTok s bI p acc = some acc' → CutAt w' C s (-1) (acc' ++ [⟨1, p, 0, ⟨#[40]⟩⟩]) lv') ∧ (endTok s bI p acc = none → CutAt w' C s bI acc lv') := by
  obtain ⟨i0, hi, hz0, hz1, hz2⟩ := info_parts tok_info
  have HE : Hid (Calls Tryz.prog 58 #[.pointer (some ⟨C, 0, none⟩), .int .i64 p] w fun e w' => e = .returned (.bool (endTok s bI p acc).isSome) ∧ Keeps C w w' ∧ ∃ lv', (∀ acc', endTok s bI p acc = some acc' → CutAt w' C s (-1) acc' lv') ∧ (endTok s bI p acc = none → CutAt w' C s bI acc lv')) := end_all C s bI p acc lv w hc hC1 (by omega) hb hp hs ht hv
  have hlen : ∀ acc', endTok s bI p acc = some acc' → acc'.length ≤ 4000 := by
    intro acc' h
    unfold endTok at h
    split at h
    · injection h with h; subst h; omega
    · cases e : tokOf (s.extract bI.toNat p) bI.toNat with
      | none => rw [e] at h; cases h
      | some t => rw [e] at h; simp only [Option.map_some, Option.some.injEq] at h; subst h; simp; omega
  clear hc hacc hb ht hv
  generalize hE : endTok s bI p acc = E at HE hlen ⊢
  clear hE
  cases E with
  | none =>
    clear hlen
    go_enter Tryz.func57, Tryz.ntmps57
    go_wp2_with fail
    refine (bracket_open _).mono ?_
    rintro e w1 ⟨rfl, hw⟩
    subst hw
    go_wp2_with fail
    refine HE.out.mono ?_
    rintro e w3 ⟨rfl, hkeep, lv', -, hno⟩
    have H3 : Hid (Keeps C w1 w3 ∧ CutAt w3 C s bI acc lv') := ⟨hkeep, hno (by simp)⟩
    clear hkeep hno HE
    go_wp2
    go_ret
    exact ⟨rfl, H3.out.1, lv', by simp, fun _ => H3.out.2⟩
  | some acc' =>
    have hl' := hlen acc' rfl
    clear hlen
    go_enter Tryz.func57, Tryz.ntmps57
    go_wp2_with fail
    refine (bracket_open _).mono ?_
    rintro e w1 ⟨rfl, hw⟩
    subst hw
    go_wp2_with fail
    refine HE.out.mono ?_
    rintro e w3 ⟨rfl, hkeep, lv', hyes, -⟩
    have hcut := hyes acc' rfl
    have HK : Hid (Keeps C w1 w3) := hkeep
    have HCUT : Hid (CutAt w3 C s (-1) acc' lv') := hcut
    have h2 := hcut.c2
    have hf := hcut.fr
    have hC3 : C + 1 < w3.heap.size := Nat.lt_of_lt_of_le hC1 hkeep.1.size
    have hnl : lv'.ownBlock ≠ some C := by intro e; have := (hcut.own.lt C e).1; omega
    clear hkeep hyes hcut HE hC1
    go_wp2_with (first
      | (at_builtin; refine wpList_append_own _ rfl _ _ 44 rfl (C + 2) 78 i0 _ 4 40 Tryz.underlying44 hi hz0 hz1 hz2 rfl (by decide) lv' acc'.length (rows acc') rfl (HCUT.out.own.alloc _) ⟨w3.heap.size, 0, none⟩ 1 1 [.int .i64 1, .int .i64 p, .int .i64 0, .string ⟨#[40]⟩] rfl rfl ?c1 ?c2 ?c3 ?c4 ?c5 ?_))
    case c1 => exact World.news_of_block (cs := #[.int .i64 1, .int .i64 p, .int .i64 0, .string ⟨#[40]⟩]) (t := 78) (fr := (0, 0)) (heap_alloc_new w3 _)
    case c2 => simp [Value.oneCell']
    case c3 => unfold maxLen; omega
    case c4 => omega
    case c5 => simp; omega
    intro v' w4 hown4 hgrow4 _
    obtain ⟨g, cap, hform⟩ := own_form hown4 (by omega)
    subst hform
    have hblk4 : w4.heap[C]? = some (.cells #[.string s, .int .i64 (-1), lv'] 104 (0, 0)) :=
      (hgrow4.block C (by simp; omega) (fun e => hnl e.symm)).trans (((below_alloc w3 _).block C (by omega)).trans HCUT.out.blk)
    have e2 : w4.cell? ⟨C, 2, none⟩ = some lv' := cell_of_row w4 C 2 _ _ _ hblk4
    have ef : ∀ j, w4.frozen? ⟨C, j, none⟩ = false := fun j => frozen_of_row w4 C j _ _ hblk4
    have HQ : Hid (CutAt (w4.setCell ⟨C, 2, none⟩ (.slice (some ⟨g, 0, none⟩) (acc'.length + 1) cap)) C s (-1) (acc' ++ [⟨1, p, 0, ⟨#[40]⟩⟩]) (.slice (some ⟨g, 0, none⟩) (acc'.length + 1) cap) ∧ Keeps C w3 (w4.setCell ⟨C, 2, none⟩ (.slice (some ⟨g, 0, none⟩) (acc'.length + 1) cap))) := cut_app (t := ⟨1, p, 0, ⟨#[40]⟩⟩) HCUT.out (below_alloc w3 _) hown4 hgrow4 hC3
    clear hown4 hgrow4 hblk4 h2 hf
    go_wp2
    go_ret
    refine ⟨rfl, HK.out.trans HQ.out.2, .slice (some ⟨g, 0, none⟩) (acc'.length + 1) cap, ?_, by simp⟩
    intro a ha
    injection ha with ha
    subst ha
    exact HQ.out.1

set_option maxHeartbeats 2000000 in
theorem take_shut (C : Nat) (s : ByteArray) (bI : Int) (p : Nat) (acc : List Tok) (lv : Value) (w : World) (hc : CutAt w C s bI acc lv) (hC1 : C + 1 < w.heap.size) (hacc : acc.length < 4000) (hb : bI = -1 ∨ (0 ≤ bI ∧ bI < p))
    (hp : p ≤ s.size) (hs : s.size ≤ 4000) (ht : PowTab w) (hv : ErrVars w) :
    Calls Tryz.prog 57 #[.pointer (some ⟨C, 0, none⟩), .int .i32 41, .int .i64 p] w fun e w' => e = .returned (.bool (endTok s bI p acc).isSome) ∧ Keeps C w w' ∧ ∃ lv', (∀ acc', endTok s bI p acc = some acc' → CutAt w' C s (-1) (acc' ++ [⟨2, p, 0, ⟨#[41]⟩⟩]) lv') ∧ (endTok s bI p acc = none → CutAt w' C s bI acc lv') := by
  obtain ⟨i0, hi, hz0, hz1, hz2⟩ := info_parts tok_info
  have HE : Hid (Calls Tryz.prog 58 #[.pointer (some ⟨C, 0, none⟩), .int .i64 p] w fun e w' => e = .returned (.bool (endTok s bI p acc).isSome) ∧ Keeps C w w' ∧ ∃ lv', (∀ acc', endTok s bI p acc = some acc' → CutAt w' C s (-1) acc' lv') ∧ (endTok s bI p acc = none → CutAt w' C s bI acc lv')) := end_all C s bI p acc lv w hc hC1 (by omega) hb hp hs ht hv
  have hlen : ∀ acc', endTok s bI p acc = some acc' → acc'.length ≤ 4000 := by
    intro acc' h
    unfold endTok at h
    split at h
    · injection h with h; subst h; omega
    · cases e : tokOf (s.extract bI.toNat p) bI.toNat with
      | none => rw [e] at h; cases h
      | some t => rw [e] at h; simp only [Option.map_some, Option.some.injEq] at h; subst h; simp; omega
  clear hc hacc hb ht hv
  generalize hE : endTok s bI p acc = E at HE hlen ⊢
  clear hE
  cases E with
  | none =>
    clear hlen
    go_enter Tryz.func57, Tryz.ntmps57
    go_wp2_with fail
    refine (bracket_shut _).mono ?_
    rintro e w1 ⟨rfl, hw⟩
    subst hw
    go_wp2_with fail
    refine HE.out.mono ?_
    rintro e w3 ⟨rfl, hkeep, lv', -, hno⟩
    have H3 : Hid (Keeps C w1 w3 ∧ CutAt w3 C s bI acc lv') := ⟨hkeep, hno (by simp)⟩
    clear hkeep hno HE
    go_wp2
    go_ret
    exact ⟨rfl, H3.out.1, lv', by simp, fun _ => H3.out.2⟩
  | some acc' =>
    have hl' := hlen acc' rfl
    clear hlen
    go_enter Tryz.func57, Tryz.ntmps57
    go_wp2_with fail
    refine (bracket_shut _).mono ?_
    rintro e w1 ⟨rfl, hw⟩
    subst hw
    go_wp2_with fail
    refine HE.out.mono ?_
    rintro e w3 ⟨rfl, hkeep, lv', hyes, -⟩
    have hcut := hyes acc' rfl
    have HK : Hid (Keeps C w1 w3) := hkeep
    have HCUT : Hid (CutAt w3 C s (-1) acc' lv') := hcut
    have h2 := hcut.c2
    have hf := hcut.fr
    have hC3 : C + 1 < w3.heap.size := Nat.lt_of_lt_of_le hC1 hkeep.1.size
    have hnl : lv'.ownBlock ≠ some C := by intro e; have := (hcut.own.lt C e).1; omega
    clear hkeep hyes hcut HE hC1
    go_wp2_with (first
      | (at_builtin; refine wpList_append_own _ rfl _ _ 44 rfl (C + 2) 78 i0 _ 4 40 Tryz.underlying44 hi hz0 hz1 hz2 rfl (by decide) lv' acc'.length (rows acc') rfl (HCUT.out.own.alloc _) ⟨w3.heap.size, 0, none⟩ 1 1 [.int .i64 2, .int .i64 p, .int .i64 0, .string ⟨#[41]⟩] rfl rfl ?c1 ?c2 ?c3 ?c4 ?c5 ?_))
    case c1 => exact World.news_of_block (cs := #[.int .i64 2, .int .i64 p, .int .i64 0, .string ⟨#[41]⟩]) (t := 78) (fr := (0, 0)) (heap_alloc_new w3 _)
    case c2 => simp [Value.oneCell']
    case c3 => unfold maxLen; omega
    case c4 => omega
    case c5 => simp; omega
    intro v' w4 hown4 hgrow4 _
    obtain ⟨g, cap, hform⟩ := own_form hown4 (by omega)
    subst hform
    have hblk4 : w4.heap[C]? = some (.cells #[.string s, .int .i64 (-1), lv'] 104 (0, 0)) :=
      (hgrow4.block C (by simp; omega) (fun e => hnl e.symm)).trans (((below_alloc w3 _).block C (by omega)).trans HCUT.out.blk)
    have e2 : w4.cell? ⟨C, 2, none⟩ = some lv' := cell_of_row w4 C 2 _ _ _ hblk4
    have ef : ∀ j, w4.frozen? ⟨C, j, none⟩ = false := fun j => frozen_of_row w4 C j _ _ hblk4
    have HQ : Hid (CutAt (w4.setCell ⟨C, 2, none⟩ (.slice (some ⟨g, 0, none⟩) (acc'.length + 1) cap)) C s (-1) (acc' ++ [⟨2, p, 0, ⟨#[41]⟩⟩]) (.slice (some ⟨g, 0, none⟩) (acc'.length + 1) cap) ∧ Keeps C w3 (w4.setCell ⟨C, 2, none⟩ (.slice (some ⟨g, 0, none⟩) (acc'.length + 1) cap))) := cut_app (t := ⟨2, p, 0, ⟨#[41]⟩⟩) HCUT.out (below_alloc w3 _) hown4 hgrow4 hC3
    clear hown4 hgrow4 hblk4 h2 hf
    go_wp2
    go_ret
    refine ⟨rfl, HK.out.trans HQ.out.2, .slice (some ⟨g, 0, none⟩) (acc'.length + 1) cap, ?_, by simp⟩
    intro a ha
    injection ha with ha
    subst ha
    exact HQ.out.1
end Go.Proofs.YtoljphjmekkneabGreatDoor

/- Plain facts: what the end of a word does to the rest of the scan. No conditions. -/
namespace Go.Proofs.YtoljphjmekkneabGreatDoor

/-- Where the word begins, as the cut tells it. -/
def begI (b p : Nat) : Int := if b = p then -1 else b
theorem begI_out (p : Nat) : begI p p = -1 := by simp [begI]
theorem begI_in {b p : Nat} (h : b < p) : begI b p = b := by unfold begI; rw [if_neg (by omega)]
theorem begI_or {b p : Nat} (h : b ≤ p) : begI b p = -1 ∨ (0 ≤ begI b p ∧ begI b p < p) := by
  rcases Nat.lt_or_ge b p with h1 | h1
  · right; rw [begI_in h1]; omega
  · left; have : b = p := by omega
    subst this; exact begI_out b
theorem begI_next {b p q : Nat} (h : b ≤ p) (hq : p < q) : (if begI b p = -1 then (p : Int) else begI b p) = begI b q := by
  rw [begI_in (by omega : b < q)]
  rcases Nat.lt_or_ge b p with h1 | h1
  · rw [begI_in h1, if_neg (by omega)]
  · have : b = p := by omega
    subst this; rw [begI_out, if_pos rfl]

theorem endTok_no {s : ByteArray} {acc : List Tok} {b p : Nat} (hb : b ≤ p) (hp : ∀ h : p < s.size, partB (s[p]'h) = true) (h : endTok s (begI b p) p acc = none) : rest s acc b p = ([], begI b p) := by
  rcases Nat.lt_or_ge b p with h1 | h1
  · rw [begI_in h1] at h ⊢
    unfold endTok at h
    rw [if_neg (by omega), Int.toNat_natCast] at h
    rw [rest_end s acc b p h1 hp]
    cases e : tokOf (s.extract b p) b with
    | none => rfl
    | some t => rw [e] at h; cases h
  · have : b = p := by omega
    subst this
    rw [begI_out] at h
    unfold endTok at h
    simp at h

theorem endTok_yes {s : ByteArray} {acc acc' : List Tok} {b p : Nat} (hb : b ≤ p) (hl : acc.length ≤ b) (hp : ∀ h : p < s.size, partB (s[p]'h) = true) (h : endTok s (begI b p) p acc = some acc') : rest s acc b p = rest s acc' p p ∧ acc'.length ≤ p := by
  rcases Nat.lt_or_ge b p with h1 | h1
  · rw [begI_in h1] at h
    unfold endTok at h
    rw [if_neg (by omega), Int.toNat_natCast] at h
    rw [rest_end s acc b p h1 hp]
    cases e : tokOf (s.extract b p) b with
    | none => rw [e] at h; cases h
    | some t =>
      rw [e] at h
      simp only [Option.map_some, Option.some.injEq] at h
      subst h
      exact ⟨rfl, by simp; omega⟩
  · have : b = p := by omega
    subst this
    rw [begI_out] at h
    unfold endTok at h
    simp only [if_true, Option.some.injEq] at h
    subst h
    exact ⟨rfl, hl⟩

theorem cut_iterAt {w : World} {C : Nat} {s : ByteArray} {bI : Int} {acc : List Tok} {lv : Value} (h : CutAt w C s bI acc lv) (t : ByteArray) (pos : Nat) : CutAt (w.iterAt (C + 1) t pos) C s bI acc lv := by
  refine ⟨(Lib.iterAt_other w (C + 1) C t pos (by omega)).trans h.blk, h.own.1, ?_⟩
  rcases h.own.2 with hn | ⟨g, cap, cur, rfl, hbg, hgg, rest⟩
  · exact .inl hn
  · exact .inr ⟨g, cap, cur, rfl, hbg, (Lib.iterAt_other w (C + 1) g t pos (by omega)).trans hgg, rest⟩

end Go.Proofs.YtoljphjmekkneabGreatDoor
