/- What the draws of chapter 3 answer, called with a code. Condition: the code's bytes can be read. -/
import Derived.Test.YtoljphjmekkneabGreatDoorZG22ReadRest
import Derived.Test.YtoljphjmekkneabGreatDoorZG34ReadAllImpl
namespace Go.Proofs.YtoljphjmekkneabGreatDoor
open Go.ChangeShapes Go.WideShapes Go.ChangeAt Go.RowKit

theorem code_below3 {a : Option Addr} {len : Nat} {w w' : World} (h : CodeOk a len w.heap.size w) (hb : Below w.heap.size w w') : CodeOk a len w'.heap.size w' := by
  have := h.keep (w' := w') fun k hk _ => hb.block k hk
  obtain ⟨h1, h2 | ⟨b, off, e, hlt, hz⟩⟩ := this
  · exact ⟨h1, .inl h2⟩
  · exact ⟨h1, .inr ⟨b, off, e, Nat.lt_of_lt_of_le hlt hb.size, hz⟩⟩

set_option maxHeartbeats 2000000 in
theorem drawReadAll_any (a : Option Addr) (len cap : Nat) (w : World) (hc : CodeOk a len w.heap.size w) :
    Calls Tryz.prog 5 #[.slice a len cap] w fun e w' => (∃ s : ByteArray, s.size ≤ 700 ∧ e = .returned (.string s)) ∧ Below w.heap.size w w' := by
  go_enter Tryz.func5, Tryz.ntmps5
  go_wp2_with fail
  refine (l1New_any a len cap w hc).mono ?_
  rintro e w1 ⟨rfl, hb, hcur, -⟩
  go_wp2_with fail
  refine (l10DrawSource_any w.heap.size a len cap _ hcur).mono ?_
  rintro e w3 ⟨⟨s, hs, rfl⟩, hx3, hcur3⟩
  go_wp2_with fail
  refine (l3Dent_any w.heap.size a len cap s hs _ hcur3).mono ?_
  rintro e w4 ⟨⟨t, ht, rfl⟩, hx4, hcur4⟩
  go_wp2
  go_ret
  exact ⟨⟨t, ht, rfl⟩, hb.trans ((hx3.trans hx4).below (Nat.le_refl _) hb.size)⟩

set_option maxHeartbeats 2000000 in
theorem drawDatsOk_any (a : Option Addr) (len cap : Nat) (w : World) (hc : CodeOk a len w.heap.size w) :
    Calls Tryz.prog 8 #[.slice a len cap] w fun e w' => ∃ (v : Value) (n : Nat) (kid : Nat → D), e = .returned v ∧ Sl w' n kid v ∧ kidsWeight n kid ≤ 60000 ∧ Below w.heap.size w w' := by
  go_enter Tryz.func8, Tryz.ntmps8
  go_wp2_with fail
  refine (l1New_any a len cap w hc).mono ?_
  rintro e w1 ⟨rfl, hb, hcur, -⟩
  go_wp2_with fail
  refine (draw3_any w.heap.size a len cap w1 hcur).mono ?_
  rintro e w2 ⟨v, rfl, hd⟩
  obtain ⟨n, kid, h1, h2⟩ := hd.ex
  have HD : Hid (Sl w2 n kid v ∧ kidsWeight n kid ≤ 60000 ∧ Below w.heap.size w w2) := ⟨h1.all, h2, hb.trans (hd.ext.below (Nat.le_refl _) hb.size)⟩
  clear hd h1 h2 hcur hb hc
  go_wp2
  go_ret
  exact ⟨_, n, kid, rfl, HD.out⟩

set_option maxRecDepth 100000 in
set_option maxHeartbeats 2000000 in
theorem drawDatText_any (a : Option Addr) (len cap : Nat) (w : World) (hc : CodeOk a len w.heap.size w) :
    Calls Tryz.prog 9 #[.slice a len cap] w fun e w' => ∃ (t : D) (v : Value), e = .returned (.agg #[.int .i64 t.op, .int .i64 t.at_, .int .i64 t.n, .string t.s, v]) ∧ t.In w' v ∧ t.weight ≤ 60000 ∧ Below w.heap.size w w' := by
  have hc1 := code_below3 hc (newb w zeroObj)
  have hs0 : (w.alloc zeroObj).heap.size = w.heap.size + 1 := by simp
  obtain ⟨R, hR⟩ : ∃ R, R = w.heap.size := ⟨_, rfl⟩
  go_enter Tryz.func9, Tryz.ntmps9
  go_wp2_with fail
  refine (l1New_any a len cap _ hc1).mono ?_
  rintro e w1 ⟨rfl, hb, hcur, hs1⟩
  have HR1 : Hid (w1.heap[R]? = some (.cells #[.int .i64 0, .int .i64 0, .int .i64 0, .string ⟨#[]⟩, .slice none 0 0] 30 (0, 0))) := by
    show _ = _
    rw [hR]
    exact (hb.block _ (by simp)).trans (heap_alloc_new w _)
  have HB1 : Hid (Below w.heap.size w w1 ∧ w1.heap.size = w.heap.size + 2) := ⟨(newb w zeroObj).trans (hb.mono (by simp)), by rw [hs1, hs0]⟩
  have hCe : (w.alloc zeroObj).heap.size = w.heap.size + 1 := hs0
  rw [hCe] at hcur ⊢
  clear hb hs1 hc1 hc hCe hs0
  go_wp2_with fail
  refine (drawDat_any (w.heap.size + 1) a len cap w1 hcur).mono ?_
  rintro e w2 ⟨t, v, rfl, hin, hwt, hext, hcur2⟩
  obtain ⟨pv, cv, hv⟩ := hin.sl.shape
  subst hv
  have HR2 : Hid (w2.heap[R]? = some (.cells #[.int .i64 0, .int .i64 0, .int .i64 0, .string ⟨#[]⟩, .slice none 0 0] 30 (0, 0))) := (hext.block R (Array.getElem?_eq_some_iff.1 HR1.out).1 (by omega)).trans HR1.out
  have HD : Hid (t.InB (w.heap.size + 2) w2 (.slice pv t.len cv) ∧ t.weight ≤ 60000 ∧ Below w.heap.size w w2 ∧ R = w.heap.size) := ⟨by rw [← HB1.out.2]; exact hin, hwt, HB1.out.1.trans (hext.below (by omega) (by have := HB1.out.2; omega)), hR⟩
  clear hin hwt hext hcur hcur2 HR1 HB1
  rw [← hR]
  clear hR
  obtain ⟨r0, r1, r2, r3, r4⟩ := row5 HR2.out
  obtain ⟨f0, f1, f2, f3, f4⟩ := frz5 HR2.out
  go_wp2_with fail
  refine bodyPost_ret (v := .agg #[.int .i64 t.op, .int .i64 t.at_, .int .i64 t.n, .string t.s, .slice pv t.len cv]) (by rw [results_cell1 (p := 2) (ty := 30) (by kernel_rfl)]; simp [go_sem, r0, r1, r2, r3, r4]) rfl ?_
  obtain ⟨h1, h2, h3, h4⟩ := HD.out
  refine ⟨t, _, rfl, ?_, h2, h3.trans (five_below w2 w.heap.size R (by omega) _ _ _ _ _)⟩
  refine D.InB.all (D.InB.kept (w := w2) (fun ad u ha hx => ?_) t h1)
  exact (World.cell?_of_block (five_same w2 R _ _ _ _ _ ad.block (by omega))).trans hx
end Go.Proofs.YtoljphjmekkneabGreatDoor

/- spec.DrawSameDat: two data in memory of the call's own. Condition: the code's bytes can be read. -/
namespace Go.Proofs.YtoljphjmekkneabGreatDoor
open Go.ChangeShapes Go.WideShapes Go.ChangeAt Go.RowKit

/-- A datum's five cells. -/
abbrev datObj (t : D) (v : Value) : Obj := .cells #[.int .i64 t.op, .int .i64 t.at_, .int .i64 t.n, .string t.s, v] 30
abbrev datBlk (w : World) (R : Nat) (t : D) (v : Value) : Prop := w.heap[R]? = some (.cells #[.int .i64 t.op, .int .i64 t.at_, .int .i64 t.n, .string t.s, v] 30 (0, 0))
abbrev zeroBlk (w : World) (R : Nat) : Prop := w.heap[R]? = some (.cells #[.int .i64 0, .int .i64 0, .int .i64 0, .string ⟨#[]⟩, .slice none 0 0] 30 (0, 0))
abbrev put5 (w : World) (R : Nat) (t : D) (v : Value) : World := ((((w.setCell ⟨R, 0, none⟩ (.int .i64 t.op)).setCell ⟨R, 1, none⟩ (.int .i64 t.at_)).setCell ⟨R, 2, none⟩ (.int .i64 t.n)).setCell ⟨R, 3, none⟩ (.string t.s)).setCell ⟨R, 4, none⟩ v

theorem put5_blk {w : World} {R : Nat} {a0 a1 a2 a3 a4 : Value} (h : w.heap[R]? = some (.cells #[a0, a1, a2, a3, a4] 30 (0, 0))) (t : D) (v : Value) : datBlk (put5 w R t v) R t v := by
  have h0 := heap_setCell_same w R 0 _ _ (.int .i64 t.op) h
  have h1 := heap_setCell_same _ R 1 _ _ (.int .i64 t.at_) h0
  have h2 := heap_setCell_same _ R 2 _ _ (.int .i64 t.n) h1
  have h3 := heap_setCell_same _ R 3 _ _ (.string t.s) h2
  exact heap_setCell_same _ R 4 _ _ v h3

theorem put5_same (w : World) (R : Nat) (t : D) (v : Value) (x : Nat) (h : x ≠ R) : (put5 w R t v).heap[x]? = w.heap[x]? := five_same w R _ _ _ _ _ x h
theorem put5_b (w : World) (R : Nat) (t : D) (v : Value) : Below 0 w (put5 w R t v) := five_below w 0 R (Nat.zero_le _) _ _ _ _ _

/-- What the walk knows ahead of the last region. -/
structure Same3 (w w3 : World) (R2 R3 A : Nat) (t : D) (v : Value) : Prop where
  bel : Below w.heap.size w w3
  e2 : R2 = w.heap.size
  e3 : R3 = w.heap.size + 1
  aw : w.heap.size + 3 ≤ A
  z2 : zeroBlk w3 R2
  z3 : zeroBlk w3 R3
  a : datBlk w3 A t v
  inn : t.InB (w.heap.size + 3) w3 v
  wt : t.weight ≤ 60000

theorem InB_high {B : Nat} {w w' : World} {t : D} {v : Value} (h : t.InB B w v) (hs : ∀ x, B ≤ x → x < w.heap.size → w'.heap[x]? = w.heap[x]?) : t.InB B w' v :=
  D.InB.kept (fun ad _ ha hx => (World.cell?_of_block (hs ad.block ha (World.block_lt_of_cell? w ad hx))).trans hx) t h

/-- The last region's end: in whatever order the two were stored. -/
theorem same_end {w w3 w4 : World} {R2 R3 A : Nat} {t t' : D} {v v' : Value} (h : Same3 w w3 R2 R3 A t v) (hlow : ∀ x, x < w.heap.size → w4.heap[x]? = w3.heap[x]?) (hhigh : ∀ x, w.heap.size + 3 ≤ x → x < w3.heap.size → w4.heap[x]? = w3.heap[x]?) (hsz : w3.heap.size ≤ w4.heap.size) (ho : w4.os = w3.os ∧ w4.tape = w3.tape ∧ w4.output = w3.output) (hin : t'.InB (w.heap.size + 3) w4 v') :
    (∀ W, (∀ x, x ≠ R2 → x ≠ R3 → W.heap[x]? = w4.heap[x]?) → w4.heap.size ≤ W.heap.size → W.os = w4.os → W.tape = w4.tape → W.output = w4.output → t.In W v ∧ t'.In W v' ∧ Below w.heap.size w W) := by
  intro W hW hs h1 h2 h3
  have e2 := h.e2
  have e3 := h.e3
  have k : ∀ x, w.heap.size + 3 ≤ x → W.heap[x]? = w4.heap[x]? := fun x hx => hW x (by omega) (by omega)
  refine ⟨D.InB.all (InB_high h.inn (fun x hx hl => (k x hx).trans (hhigh x hx hl))), D.InB.all (InB_high hin (fun x hx _ => k x hx)), ?_⟩
  exact ⟨h1.trans (ho.1.trans h.bel.os), h2.trans (ho.2.1.trans h.bel.tape), h3.trans (ho.2.2.trans h.bel.output), by have := h.bel.size; omega, fun x hx => (hW x (by omega) (by omega)).trans ((hlow x hx).trans (h.bel.block x hx))⟩

theorem own_high {w w3 w4 : World} {R2 R3 A : Nat} {t t' : D} {v v' : Value} {T : List Nat} (h : Same3 w w3 R2 R3 A t v) (hd : DOwn w4 t' v' T) (hT : ∀ x ∈ T, w3.heap.size ≤ x) : t'.InB (w.heap.size + 3) w4 v' :=
  hd.inB _ (fun b hb => by have := hT b hb; have := h.aw; have := (Array.getElem?_eq_some_iff.1 h.a).1; omega)

theorem end_plain {w w3 w4 : World} {R2 R3 A : Nat} {t t' : D} {v v' : Value} {T : List Nat} (h : Same3 w w3 R2 R3 A t v) (hb : Below w3.heap.size w3 w4) (hd : DOwn w4 t' v' T) (hT : ∀ x ∈ T, w3.heap.size ≤ x) :
    t.In (put5 (put5 w4 R2 t v) R3 t' v') v ∧ t'.In (put5 (put5 w4 R2 t v) R3 t' v') v' ∧ Below w.heap.size w (put5 (put5 w4 R2 t v) R3 t' v') :=
  same_end h (fun x hx => hb.block x (by have := h.bel.size; omega)) (fun x _ hl => hb.block x hl) hb.size ⟨hb.os, hb.tape, hb.output⟩ (own_high h hd hT) _ (fun x h2 h3 => (put5_same (put5 w4 R2 t v) R3 t' v' x h3).trans (put5_same w4 R2 t v x h2)) ((put5_b w4 R2 t v).trans (put5_b _ R3 t' v')).size ((put5_b w4 R2 t v).trans (put5_b _ R3 t' v')).os ((put5_b w4 R2 t v).trans (put5_b _ R3 t' v')).tape ((put5_b w4 R2 t v).trans (put5_b _ R3 t' v')).output

theorem end_plain' {w w3 w4 : World} {R2 R3 A : Nat} {t t' : D} {v v' : Value} {T : List Nat} (h : Same3 w w3 R2 R3 A t v) (hb : Below w3.heap.size w3 w4) (hd : DOwn w4 t' v' T) (hT : ∀ x ∈ T, w3.heap.size ≤ x) :
    t.In (put5 (put5 w4 R3 t' v') R2 t v) v ∧ t'.In (put5 (put5 w4 R3 t' v') R2 t v) v' ∧ Below w.heap.size w (put5 (put5 w4 R3 t' v') R2 t v) :=
  same_end h (fun x hx => hb.block x (by have := h.bel.size; omega)) (fun x _ hl => hb.block x hl) hb.size ⟨hb.os, hb.tape, hb.output⟩ (own_high h hd hT) _ (fun x h2 h3 => (put5_same (put5 w4 R3 t' v') R2 t v x h2).trans (put5_same w4 R3 t' v' x h3)) ((put5_b w4 R3 t' v').trans (put5_b _ R2 t v)).size ((put5_b w4 R3 t' v').trans (put5_b _ R2 t v)).os ((put5_b w4 R3 t' v').trans (put5_b _ R2 t v)).tape ((put5_b w4 R3 t' v').trans (put5_b _ R2 t v)).output

theorem end_after {w w3 w4 : World} {R2 R3 A : Nat} {t t' : D} {v v' : Value} {T : List Nat} (h : Same3 w w3 R2 R3 A t v) (hb : Below (put5 w3 R2 t v).heap.size (put5 w3 R2 t v) w4) (hd : DOwn w4 t' v' T) (hT : ∀ x ∈ T, w3.heap.size ≤ x) :
    t.In (put5 w4 R3 t' v') v ∧ t'.In (put5 w4 R3 t' v') v' ∧ Below w.heap.size w (put5 w4 R3 t' v') := by
  have e2 := h.e2
  have hz := (put5_b w3 R2 t v).size
  have k : ∀ x, x ≠ R2 → x < w3.heap.size → w4.heap[x]? = w3.heap[x]? := fun x hx hl => (hb.block x (by omega)).trans (put5_same w3 R2 t v x hx)
  exact same_end h (fun x hx => k x (by omega) (by have := h.bel.size; omega)) (fun x hx hl => k x (by omega) hl) (by have := hb.size; omega) ⟨hb.os.trans (put5_b w3 R2 t v).os, hb.tape.trans (put5_b w3 R2 t v).tape, hb.output.trans (put5_b w3 R2 t v).output⟩ (own_high h hd hT) _ (fun x h2 h3 => put5_same w4 R3 t' v' x h3) (put5_b w4 R3 t' v').size (put5_b w4 R3 t' v').os (put5_b w4 R3 t' v').tape (put5_b w4 R3 t' v').output

theorem endE_plain {w w3 w4 : World} {R2 R3 A C : Nat} {t t' : D} {v v' : Value} (h : Same3 w w3 R2 R3 A t v) (hC : C = w.heap.size + 2) (hb : Ext C w3 w4) (hin : t'.InB w3.heap.size w4 v') :
    t.In (put5 (put5 w4 R2 t v) R3 t' v') v ∧ t'.In (put5 (put5 w4 R2 t v) R3 t' v') v' ∧ Below w.heap.size w (put5 (put5 w4 R2 t v) R3 t' v') :=
  same_end h (fun x hx => hb.block x (by have := h.bel.size; omega) (by omega)) (fun x hx hl => hb.block x hl (by omega)) hb.size ⟨hb.os, hb.tape, hb.output⟩ (hin.mono (by have := h.aw; have := (Array.getElem?_eq_some_iff.1 h.a).1; omega)) _ (fun x h2 h3 => (put5_same (put5 w4 R2 t v) R3 t' v' x h3).trans (put5_same w4 R2 t v x h2)) ((put5_b w4 R2 t v).trans (put5_b _ R3 t' v')).size ((put5_b w4 R2 t v).trans (put5_b _ R3 t' v')).os ((put5_b w4 R2 t v).trans (put5_b _ R3 t' v')).tape ((put5_b w4 R2 t v).trans (put5_b _ R3 t' v')).output

theorem endE_plain' {w w3 w4 : World} {R2 R3 A C : Nat} {t t' : D} {v v' : Value} (h : Same3 w w3 R2 R3 A t v) (hC : C = w.heap.size + 2) (hb : Ext C w3 w4) (hin : t'.InB w3.heap.size w4 v') :
    t.In (put5 (put5 w4 R3 t' v') R2 t v) v ∧ t'.In (put5 (put5 w4 R3 t' v') R2 t v) v' ∧ Below w.heap.size w (put5 (put5 w4 R3 t' v') R2 t v) :=
  same_end h (fun x hx => hb.block x (by have := h.bel.size; omega) (by omega)) (fun x hx hl => hb.block x hl (by omega)) hb.size ⟨hb.os, hb.tape, hb.output⟩ (hin.mono (by have := h.aw; have := (Array.getElem?_eq_some_iff.1 h.a).1; omega)) _ (fun x h2 h3 => (put5_same (put5 w4 R3 t' v') R2 t v x h2).trans (put5_same w4 R3 t' v' x h3)) ((put5_b w4 R3 t' v').trans (put5_b _ R2 t v)).size ((put5_b w4 R3 t' v').trans (put5_b _ R2 t v)).os ((put5_b w4 R3 t' v').trans (put5_b _ R2 t v)).tape ((put5_b w4 R3 t' v').trans (put5_b _ R2 t v)).output

theorem endE_after {w w3 w4 : World} {R2 R3 A C : Nat} {t t' : D} {v v' : Value} (h : Same3 w w3 R2 R3 A t v) (hC : C = w.heap.size + 2) (hb : Ext C (put5 w3 R2 t v) w4) (hin : t'.InB w3.heap.size w4 v') :
    t.In (put5 w4 R3 t' v') v ∧ t'.In (put5 w4 R3 t' v') v' ∧ Below w.heap.size w (put5 w4 R3 t' v') := by
  have e2 := h.e2
  have hz := (put5_b w3 R2 t v).size
  have k : ∀ x, x ≠ R2 → x ≠ C → x < w3.heap.size → w4.heap[x]? = w3.heap[x]? := fun x hx hc hl => (hb.block x (by omega) hc).trans (put5_same w3 R2 t v x hx)
  exact same_end h (fun x hx => k x (by omega) (by omega) (by have := h.bel.size; omega)) (fun x hx hl => k x (by omega) (by omega) hl) (by have := hb.size; omega) ⟨hb.os.trans (put5_b w3 R2 t v).os, hb.tape.trans (put5_b w3 R2 t v).tape, hb.output.trans (put5_b w3 R2 t v).output⟩ (hin.mono (by have := h.aw; have := (Array.getElem?_eq_some_iff.1 h.a).1; omega)) _ (fun x h2 h3 => put5_same w4 R3 t' v' x h3) (put5_b w4 R3 t' v').size (put5_b w4 R3 t' v').os (put5_b w4 R3 t' v').tape (put5_b w4 R3 t' v').output

/-- The cursor stays where its own block and the code's are kept. -/
theorem cur_put {w w3 W : World} {C len cap : Nat} {a : Option Addr} (hc : CodeOk a len w.heap.size w) (hcu : CurAt C a len cap w3) (hb : Below w.heap.size w W) (hC : W.heap[C]? = w3.heap[C]?) (hCw : w.heap.size ≤ C) : CurAt C a len cap W := by
  obtain ⟨_, i, hh, h0, hk⟩ := hcu
  have := hc.keep (w' := W) fun k hk _ => hb.block k hk
  refine ⟨?_, i, hh, h0, hC.trans hk⟩
  obtain ⟨h1, h2 | ⟨b, off, e, hlt, hz⟩⟩ := this
  · exact ⟨h1, .inl h2⟩
  · exact ⟨h1, .inr ⟨b, off, e, Nat.lt_of_lt_of_le hlt hCw, hz⟩⟩
end Go.Proofs.YtoljphjmekkneabGreatDoor
