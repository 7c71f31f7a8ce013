/- Drawn sets flipped twice are as they were; with and without a number they have it, or not: laws.FnSets returns true at every code, and the code reads as before. No conditions. -/
import Derived.Test.YtjadjahbblkeoabRows
import Derived.Test.YtjadjahbblkeoabSetsQ
import Derived.Test.YtjadjahbblkeoabDrawSet
import Derived.Test.YtjadjahbblkeoabCodeRow
import Derived.Test.YtjadjahbblkeoabIntsSame
import Derived.WalkKit
import Derived.ProofKit
import Derived.OpenShut
import Derived.ChangeOld
import Derived.Below
namespace Go.Proofs.Ytjadjahbblkeoab.fnSets
open Go.ChangeShapes Go.WideShapes Go.ChangeAt Go.RowKit
set_option linter.unusedVariables false

theorem own : ownKnob Try.prog.godebug = none := by kernel_rfl
theorem laidOut : laidOutB Try.prog = true := by kernel_rfl

/-- All of these are rows of the call's own. -/
def Hold (w : World) (B : Nat) (l : List (Value × List Int)) : Prop := ∀ p ∈ l, Own w B p.1 p.2
theorem Hold.below {w w' : World} {B : Nat} {l : List (Value × List Int)} (h : Hold w B l) (hb : Below w.heap.size w w') : Hold w' B l := fun p hp => (h p hp).below hb
theorem Hold.add {w : World} {B : Nat} {l : List (Value × List Int)} {v : Value} {xs : List Int} (h : Hold w B l) (ho : Own w B v xs) : Hold w B (l ++ [(v, xs)]) := fun p hp => by
  rcases List.mem_append.1 hp with hp | hp
  · exact h p hp
  · obtain rfl := List.mem_singleton.1 hp
    exact ho
theorem Hold.rd {w : World} {B : Nat} {l : List (Value × List Int)} {v : Value} {xs : List Int} (h : Hold w B l) (hm : (v, xs) ∈ l) : Rd w v xs := (h _ hm).rd
theorem Hold.at {w : World} {B : Nat} {l : List (Value × List Int)} {v : Value} {xs : List Int} (h : Hold w B l) (hm : (v, xs) ∈ l) : Own w B v xs := h _ hm

theorem own_one (w : World) (n : Int) {B : Nat} (hB : B ≤ w.heap.size) : Own (w.alloc (.cells #[.int .i64 n] 3)) B (.slice (some ⟨w.heap.size, 0, none⟩) 1 1) [n] :=
  World.ownsRow_lit w #[.int .i64 n] 1 hB (by unfold maxLen; omega) rfl

theorem code_below {a : Option Addr} {len : Nat} {w w' : World} (h : CodeOk a len w.heap.size w) (hb : Below w.heap.size w w') : CodeOk a len w'.heap.size w' := by
  have := h.keep (w' := w') fun k hk _ => hb.block k hk
  obtain ⟨h1, h2 | ⟨b, off, e, hlt, hz⟩⟩ := this
  · exact ⟨h1, .inl h2⟩
  · exact ⟨h1, .inr ⟨b, off, e, Nat.lt_of_lt_of_le hlt hb.size, hz⟩⟩

set_option maxRecDepth 100000 in
set_option maxHeartbeats 8000000 in
theorem walk_in (a : Option Addr) (len cap : Nat) (w : World) (hl : len ≤ 1048576) (hc : CodeOk a len w.heap.size w) :
    Calls Try.prog 3 #[.slice a len cap] w fun e w' => e = .returned (.bool true) ∧ Below w.heap.size w w' := by
  have hb0 : ¬ (1048576 : Int) < len := by omega
  have HC : Hid (∀ w1, Below w.heap.size w w1 → CodeOk a len w1.heap.size w1) := fun w1 h => code_below hc h
  have B0 : Hid (Below w.heap.size w w) := Below.refl _ _
  have D0 : Hid (Hold w w.heap.size []) := fun p hp => by cases hp
  clear hc hl
  go_enter Try.func3, Try.ntmps3
  go_wp2_with (go_at_call 4; go_in)
  refine (drawFlip_any a len cap w (HC.out _ B0.out)).mono ?_
  rintro e w1 ⟨s, n, S, rfl, l1, o1, b1⟩
  have L1 : Hid (S.length ≤ 9) := by show _ ≤ _; omega
  have B1 : Hid (Below w.heap.size w w1) := B0.out.trans (b1.mono B0.out.size)
  have D1 : Hid (Hold w1 w.heap.size [(s, S)]) := Hold.add (D0.out.below b1) (o1.mono B0.out.size)
  clear b1 B0 D0 o1 l1
  go_wp2_with fail
  refine (impl_flip S n s w1 (D1.out.rd (v := s) (xs := S) (by simp)) (by have := L1.out; omega)).mono ?_
  rintro e w2 ⟨fa, rfl, b2, o2⟩
  have B2 : Hid (Below w.heap.size w w2) := B1.out.trans (b2.mono B1.out.size)
  have D2 : Hid (Hold w2 w.heap.size [(s, S), (fa, (flipL S n))]) := Hold.add (D1.out.below b2) (o2.mono B1.out.size)
  clear b2 B1 D1 o2
  go_wp2_with fail
  refine (drawWith_any a len cap w2 (HC.out _ B2.out)).mono ?_
  rintro e w3 ⟨sb, m, SB, rfl, l3, o3, b3⟩
  have L3 : Hid (SB.length ≤ 9) := by show _ ≤ _; omega
  have B3 : Hid (Below w.heap.size w w3) := B2.out.trans (b3.mono B2.out.size)
  have D3 : Hid (Hold w3 w.heap.size [(s, S), (fa, (flipL S n)), (sb, SB)]) := Hold.add (D2.out.below b3) (o3.mono B2.out.size)
  clear b3 B2 D2 o3 l3
  go_wp2_with fail
  refine (drawWithout_any a len cap w3 (HC.out _ B3.out)).mono ?_
  rintro e w4 ⟨sc, k, SC, rfl, l4, o4, b4⟩
  have L4 : Hid (SC.length ≤ 9) := by show _ ≤ _; omega
  have B4 : Hid (Below w.heap.size w w4) := B3.out.trans (b4.mono B3.out.size)
  have D4 : Hid (Hold w4 w.heap.size [(s, S), (fa, (flipL S n)), (sb, SB), (sc, SC)]) := Hold.add (D3.out.below b4) (o4.mono B3.out.size)
  clear b4 B3 D3 o4 l4
  go_wp2_with fail
  refine (drawWithin_any a len cap w4 (HC.out _ B4.out)).mono ?_
  rintro e w5 ⟨sx, sy, SX, SY, rfl, l5, m5, o5, p5, b5⟩
  have L5 : Hid (SX.length ≤ 9) := by show _ ≤ _; omega
  have M5 : Hid (SY.length ≤ 9) := m5
  have B5 : Hid (Below w.heap.size w w5) := B4.out.trans (b5.mono B4.out.size)
  have D5 : Hid (Hold w5 w.heap.size [(s, S), (fa, (flipL S n)), (sb, SB), (sc, SC), (sx, SX), (sy, SY)]) := Hold.add (Hold.add (D4.out.below b5) (o5.mono B4.out.size)) (p5.mono B4.out.size)
  clear b5 B4 D4 o5 p5 l5 m5
  go_wp2_with fail
  refine (drawSetOk_any a len cap w5 (HC.out _ B5.out)).mono ?_
  rintro e w6 ⟨so, SO, rfl, l6, o6, b6⟩
  have L6 : Hid (SO.length ≤ 9) := by show _ ≤ _; omega
  have B6 : Hid (Below w.heap.size w w6) := B5.out.trans (b6.mono B5.out.size)
  have D6 : Hid (Hold w6 w.heap.size [(s, S), (fa, (flipL S n)), (sb, SB), (sc, SC), (sx, SX), (sy, SY), (so, SO)]) := Hold.add (D5.out.below b6) (o6.mono B5.out.size)
  clear b6 B5 D5 o6 l6
  go_wp2_with fail
  refine (drawSameSet_any a len cap w6 (HC.out _ B6.out)).mono ?_
  rintro e w7 ⟨sp, sq, SP, SQ, rfl, l7, m7, o7, p7, b7⟩
  have L7 : Hid (SP.length ≤ 9) := by show _ ≤ _; omega
  have M7 : Hid (SQ.length ≤ 9) := m7
  have B7 : Hid (Below w.heap.size w w7) := B6.out.trans (b7.mono B6.out.size)
  have D7 : Hid (Hold w7 w.heap.size [(s, S), (fa, (flipL S n)), (sb, SB), (sc, SC), (sx, SX), (sy, SY), (so, SO), (sp, SP), (sq, SQ)]) := Hold.add (Hold.add (D6.out.below b7) (o7.mono B6.out.size)) (p7.mono B6.out.size)
  clear b7 B6 D6 o7 p7 l7 m7
  go_wp2_with fail
  refine (spec_flip S n s w7 (D7.out.rd (v := s) (xs := S) (by simp)) (by have := L1.out; omega)).mono ?_
  rintro e w8 ⟨fs, rfl, b8, o8⟩
  have B8 : Hid (Below w.heap.size w w8) := B7.out.trans (b8.mono B7.out.size)
  have D8 : Hid (Hold w8 w.heap.size [(s, S), (fa, (flipL S n)), (sb, SB), (sc, SC), (sx, SX), (sy, SY), (so, SO), (sp, SP), (sq, SQ), (fs, (flipL S n))]) := Hold.add (D7.out.below b8) (o8.mono B7.out.size)
  clear b8 B7 D7 o8
  go_wp2_with fail
  refine (same_ints _ _ fa fs w8 (D8.out.rd (v := fa) (xs := (flipL S n)) (by simp)) (D8.out.rd (v := fs) (xs := (flipL S n)) (by simp)) (by have := L1.out; have := flip_len S n; omega) (by have := L1.out; have := flip_len S n; omega)).mono ?_
  rintro e w9 ⟨rfl, b9⟩
  have B9 : Hid (Below w.heap.size w w9) := B8.out.trans (b9.mono B8.out.size)
  have D9 : Hid (Hold w9 w.heap.size [(s, S), (fa, (flipL S n)), (sb, SB), (sc, SC), (sx, SX), (sy, SY), (so, SO), (sp, SP), (sq, SQ), (fs, (flipL S n))]) := (D8.out.below b9)
  clear b9 B8 D8
  rw [same_self]
  go_wp2_with fail
  refine (impl_with SB m sb w9 (D9.out.rd (v := sb) (xs := SB) (by simp)) (by have := L3.out; omega)).mono ?_
  rintro e w10 ⟨wi, rfl, b10, o10⟩
  have B10 : Hid (Below w.heap.size w w10) := B9.out.trans (b10.mono B9.out.size)
  have D10 : Hid (Hold w10 w.heap.size [(s, S), (fa, (flipL S n)), (sb, SB), (sc, SC), (sx, SX), (sy, SY), (so, SO), (sp, SP), (sq, SQ), (fs, (flipL S n)), (wi, (withL SB m))]) := Hold.add (D9.out.below b10) (o10.mono B9.out.size)
  clear b10 B9 D9 o10
  go_wp2_with fail
  refine (spec_with SB m sb w10 (D10.out.rd (v := sb) (xs := SB) (by simp)) (by have := L3.out; omega)).mono ?_
  rintro e w11 ⟨ws, rfl, b11, o11⟩
  have B11 : Hid (Below w.heap.size w w11) := B10.out.trans (b11.mono B10.out.size)
  have D11 : Hid (Hold w11 w.heap.size [(s, S), (fa, (flipL S n)), (sb, SB), (sc, SC), (sx, SX), (sy, SY), (so, SO), (sp, SP), (sq, SQ), (fs, (flipL S n)), (wi, (withL SB m)), (ws, (withL SB m))]) := Hold.add (D10.out.below b11) (o11.mono B10.out.size)
  clear b11 B10 D10 o11
  go_wp2_with fail
  refine (same_ints _ _ wi ws w11 (D11.out.rd (v := wi) (xs := (withL SB m)) (by simp)) (D11.out.rd (v := ws) (xs := (withL SB m)) (by simp)) (by have := L3.out; have := with_len SB m; omega) (by have := L3.out; have := with_len SB m; omega)).mono ?_
  rintro e w12 ⟨rfl, b12⟩
  have B12 : Hid (Below w.heap.size w w12) := B11.out.trans (b12.mono B11.out.size)
  have D12 : Hid (Hold w12 w.heap.size [(s, S), (fa, (flipL S n)), (sb, SB), (sc, SC), (sx, SX), (sy, SY), (so, SO), (sp, SP), (sq, SQ), (fs, (flipL S n)), (wi, (withL SB m)), (ws, (withL SB m))]) := (D11.out.below b12)
  clear b12 B11 D11
  rw [same_self]
  go_wp2_with fail
  refine (impl_without SC k sc w12 (D12.out.rd (v := sc) (xs := SC) (by simp)) (by have := L4.out; omega)).mono ?_
  rintro e w13 ⟨oi, rfl, b13, o13⟩
  have B13 : Hid (Below w.heap.size w w13) := B12.out.trans (b13.mono B12.out.size)
  have D13 : Hid (Hold w13 w.heap.size [(s, S), (fa, (flipL S n)), (sb, SB), (sc, SC), (sx, SX), (sy, SY), (so, SO), (sp, SP), (sq, SQ), (fs, (flipL S n)), (wi, (withL SB m)), (ws, (withL SB m)), (oi, (withoutL SC k))]) := Hold.add (D12.out.below b13) (o13.mono B12.out.size)
  clear b13 B12 D12 o13
  go_wp2_with fail
  refine (spec_without SC k sc w13 (D13.out.rd (v := sc) (xs := SC) (by simp)) (by have := L4.out; omega)).mono ?_
  rintro e w14 ⟨os, rfl, b14, o14⟩
  have B14 : Hid (Below w.heap.size w w14) := B13.out.trans (b14.mono B13.out.size)
  have D14 : Hid (Hold w14 w.heap.size [(s, S), (fa, (flipL S n)), (sb, SB), (sc, SC), (sx, SX), (sy, SY), (so, SO), (sp, SP), (sq, SQ), (fs, (flipL S n)), (wi, (withL SB m)), (ws, (withL SB m)), (oi, (withoutL SC k)), (os, (withoutL SC k))]) := Hold.add (D13.out.below b14) (o14.mono B13.out.size)
  clear b14 B13 D13 o14
  go_wp2_with fail
  refine (same_ints _ _ oi os w14 (D14.out.rd (v := oi) (xs := (withoutL SC k)) (by simp)) (D14.out.rd (v := os) (xs := (withoutL SC k)) (by simp)) (by have := L4.out; have := without_len SC k; omega) (by have := L4.out; have := without_len SC k; omega)).mono ?_
  rintro e w15 ⟨rfl, b15⟩
  have B15 : Hid (Below w.heap.size w w15) := B14.out.trans (b15.mono B14.out.size)
  have D15 : Hid (Hold w15 w.heap.size [(s, S), (fa, (flipL S n)), (sb, SB), (sc, SC), (sx, SX), (sy, SY), (so, SO), (sp, SP), (sq, SQ), (fs, (flipL S n)), (wi, (withL SB m)), (ws, (withL SB m)), (oi, (withoutL SC k)), (os, (withoutL SC k))]) := (D14.out.below b15)
  clear b15 B14 D14
  rw [same_self]
  go_wp2_with fail
  refine (impl_within SX SY sx sy w15 (D15.out.rd (v := sx) (xs := SX) (by simp)) (D15.out.rd (v := sy) (xs := SY) (by simp)) (by have := L5.out; omega) (by have := M5.out; omega)).mono ?_
  rintro e w16 ⟨rfl, hw16⟩
  have b16 : Below w15.heap.size w15 w16 := by rw [hw16]; exact Below.refl _ _
  have B16 : Hid (Below w.heap.size w w16) := B15.out.trans (b16.mono B15.out.size)
  have D16 : Hid (Hold w16 w.heap.size [(s, S), (fa, (flipL S n)), (sb, SB), (sc, SC), (sx, SX), (sy, SY), (so, SO), (sp, SP), (sq, SQ), (fs, (flipL S n)), (wi, (withL SB m)), (ws, (withL SB m)), (oi, (withoutL SC k)), (os, (withoutL SC k))]) := (D15.out.below b16)
  clear b16 B15 D15 hw16
  generalize hv1 : withinB SX SY = v1
  have HV1 : Hid (withinB SX SY = v1) := hv1
  clear hv1
  go_wp2_with fail
  refine (spec_within SX SY sx sy w16 (D16.out.rd (v := sx) (xs := SX) (by simp)) (D16.out.rd (v := sy) (xs := SY) (by simp)) (by have := L5.out; omega) (by have := M5.out; omega)).mono ?_
  rintro e w17 ⟨rfl, hw17⟩
  have b17 : Below w16.heap.size w16 w17 := by rw [hw17]; exact Below.refl _ _
  have B17 : Hid (Below w.heap.size w w17) := B16.out.trans (b17.mono B16.out.size)
  have D17 : Hid (Hold w17 w.heap.size [(s, S), (fa, (flipL S n)), (sb, SB), (sc, SC), (sx, SX), (sy, SY), (so, SO), (sp, SP), (sq, SQ), (fs, (flipL S n)), (wi, (withL SB m)), (ws, (withL SB m)), (oi, (withoutL SC k)), (os, (withoutL SC k))]) := (D16.out.below b17)
  clear b17 B16 D16 hw17
  rw [HV1.out]
  go_wp2_with fail
  refine (impl_setok SO so w17 (D17.out.rd (v := so) (xs := SO) (by simp)) (by have := L6.out; omega)).mono ?_
  rintro e w18 ⟨rfl, hw18⟩
  have b18 : Below w17.heap.size w17 w18 := by rw [hw18]; exact Below.refl _ _
  have B18 : Hid (Below w.heap.size w w18) := B17.out.trans (b18.mono B17.out.size)
  have D18 : Hid (Hold w18 w.heap.size [(s, S), (fa, (flipL S n)), (sb, SB), (sc, SC), (sx, SX), (sy, SY), (so, SO), (sp, SP), (sq, SQ), (fs, (flipL S n)), (wi, (withL SB m)), (ws, (withL SB m)), (oi, (withoutL SC k)), (os, (withoutL SC k))]) := (D17.out.below b18)
  clear b18 B17 D17 hw18
  generalize hv2 : setB SO = v2
  have HV2 : Hid (setB SO = v2) := hv2
  clear hv2
  go_wp2_with fail
  refine (spec_setok SO so w18 (D18.out.rd (v := so) (xs := SO) (by simp)) (by have := L6.out; omega)).mono ?_
  rintro e w19 ⟨rfl, b19⟩
  have B19 : Hid (Below w.heap.size w w19) := B18.out.trans (b19.mono B18.out.size)
  have D19 : Hid (Hold w19 w.heap.size [(s, S), (fa, (flipL S n)), (sb, SB), (sc, SC), (sx, SX), (sy, SY), (so, SO), (sp, SP), (sq, SQ), (fs, (flipL S n)), (wi, (withL SB m)), (ws, (withL SB m)), (oi, (withoutL SC k)), (os, (withoutL SC k))]) := (D18.out.below b19)
  clear b19 B18 D18
  rw [HV2.out]
  go_wp2_with fail
  refine (impl_same_set SP SQ sp sq w19 (D19.out.rd (v := sp) (xs := SP) (by simp)) (D19.out.rd (v := sq) (xs := SQ) (by simp)) (by have := L7.out; omega) (by have := M7.out; omega)).mono ?_
  rintro e w20 ⟨rfl, b20⟩
  have B20 : Hid (Below w.heap.size w w20) := B19.out.trans (b20.mono B19.out.size)
  have D20 : Hid (Hold w20 w.heap.size [(s, S), (fa, (flipL S n)), (sb, SB), (sc, SC), (sx, SX), (sy, SY), (so, SO), (sp, SP), (sq, SQ), (fs, (flipL S n)), (wi, (withL SB m)), (ws, (withL SB m)), (oi, (withoutL SC k)), (os, (withoutL SC k))]) := (D19.out.below b20)
  clear b20 B19 D19
  generalize hv3 : sameB SP SQ = v3
  have HV3 : Hid (sameB SP SQ = v3) := hv3
  clear hv3
  go_wp2_with fail
  refine (spec_same_set SP SQ sp sq w20 (D20.out.rd (v := sp) (xs := SP) (by simp)) (D20.out.rd (v := sq) (xs := SQ) (by simp)) (by have := L7.out; omega) (by have := M7.out; omega)).mono ?_
  rintro e w21 ⟨rfl, b21⟩
  have B21 : Hid (Below w.heap.size w w21) := B20.out.trans (b21.mono B20.out.size)
  have D21 : Hid (Hold w21 w.heap.size [(s, S), (fa, (flipL S n)), (sb, SB), (sc, SC), (sx, SX), (sy, SY), (so, SO), (sp, SP), (sq, SQ), (fs, (flipL S n)), (wi, (withL SB m)), (ws, (withL SB m)), (oi, (withoutL SC k)), (os, (withoutL SC k))]) := (D20.out.below b21)
  clear b21 B20 D20
  rw [HV3.out]
  go_wp2_with fail
  refine (impl_setok S s w21 (D21.out.rd (v := s) (xs := S) (by simp)) (by have := L1.out; omega)).mono ?_
  rintro e w22 ⟨rfl, hw22⟩
  have b22 : Below w21.heap.size w21 w22 := by rw [hw22]; exact Below.refl _ _
  have B22 : Hid (Below w.heap.size w w22) := B21.out.trans (b22.mono B21.out.size)
  have D22 : Hid (Hold w22 w.heap.size [(s, S), (fa, (flipL S n)), (sb, SB), (sc, SC), (sx, SX), (sy, SY), (so, SO), (sp, SP), (sq, SQ), (fs, (flipL S n)), (wi, (withL SB m)), (ws, (withL SB m)), (oi, (withoutL SC k)), (os, (withoutL SC k))]) := (D21.out.below b22)
  clear b22 B21 D21 hw22
  cases hset : setB S with
  | false =>
    go_wp2_with fail
    go_ret
    exact ⟨rfl, B22.out⟩
  | true =>
  by_cases hn : n < 0
  · go_wp2_with fail
    go_ret
    exact ⟨rfl, B22.out⟩
  have HSET : Hid (setB S = true ∧ 0 ≤ n) := ⟨hset, by omega⟩
  have hn0 : decide (n < 0) = false := by simpa using hn
  clear hset hn
  go_wp2_with fail
  refine (impl_flip (flipL S n) n fa w22 (D22.out.rd (v := fa) (xs := (flipL S n)) (by simp)) (by have := L1.out; have := flip_len S n; omega)).mono ?_
  rintro e w23 ⟨ff, rfl, b23, o23⟩
  have B23 : Hid (Below w.heap.size w w23) := B22.out.trans (b23.mono B22.out.size)
  have D23 : Hid (Hold w23 w.heap.size [(s, S), (fa, (flipL S n)), (sb, SB), (sc, SC), (sx, SX), (sy, SY), (so, SO), (sp, SP), (sq, SQ), (fs, (flipL S n)), (wi, (withL SB m)), (ws, (withL SB m)), (oi, (withoutL SC k)), (os, (withoutL SC k)), (ff, (flipL (flipL S n) n))]) := Hold.add (D22.out.below b23) (o23.mono B22.out.size)
  clear b23 B22 D22 o23
  go_wp2_with fail
  refine (same_ints _ _ ff s w23 (D23.out.rd (v := ff) (xs := (flipL (flipL S n) n)) (by simp)) (D23.out.rd (v := s) (xs := S) (by simp)) (by rw [flip_flip HSET.out.1]; have := L1.out; omega) (by have := L1.out; omega)).mono ?_
  rintro e w24 ⟨rfl, b24⟩
  have B24 : Hid (Below w.heap.size w w24) := B23.out.trans (b24.mono B23.out.size)
  have D24 : Hid (Hold w24 w.heap.size [(s, S), (fa, (flipL S n)), (sb, SB), (sc, SC), (sx, SX), (sy, SY), (so, SO), (sp, SP), (sq, SQ), (fs, (flipL S n)), (wi, (withL SB m)), (ws, (withL SB m)), (oi, (withoutL SC k)), (os, (withoutL SC k)), (ff, (flipL (flipL S n) n))]) := (D23.out.below b24)
  clear b24 B23 D23
  rw [flip_flip HSET.out.1, same_self]
  go_wp2_with fail
  refine (impl_setok (flipL S n) fa w24 (D24.out.rd (v := fa) (xs := (flipL S n)) (by simp)) (by have := L1.out; have := flip_len S n; omega)).mono ?_
  rintro e w25 ⟨rfl, hw25⟩
  have b25 : Below w24.heap.size w24 w25 := by rw [hw25]; exact Below.refl _ _
  have B25 : Hid (Below w.heap.size w w25) := B24.out.trans (b25.mono B24.out.size)
  have D25 : Hid (Hold w25 w.heap.size [(s, S), (fa, (flipL S n)), (sb, SB), (sc, SC), (sx, SX), (sy, SY), (so, SO), (sp, SP), (sq, SQ), (fs, (flipL S n)), (wi, (withL SB m)), (ws, (withL SB m)), (oi, (withoutL SC k)), (os, (withoutL SC k)), (ff, (flipL (flipL S n) n))]) := (D24.out.below b25)
  clear b25 B24 D24 hw25
  rw [flip_set HSET.out.1 HSET.out.2]
  have E25 : Hid (Below w.heap.size w (w25.alloc (.cells #[.int .i64 n] 3)) ∧ Own (w25.alloc (.cells #[.int .i64 n] 3)) w.heap.size s S ∧ Own (w25.alloc (.cells #[.int .i64 n] 3)) w.heap.size (.slice (some ⟨w25.heap.size, 0, none⟩) 1 1) [n]) :=
    ⟨B25.out.trans ((new_below _ _).mono B25.out.size), (D25.out.at (v := s) (xs := S) (by simp)).below (new_below _ _), own_one _ n B25.out.size⟩
  clear B25 D25
  go_wp2_with fail
  refine (impl_with S n s _ E25.out.2.1.rd (by have := L1.out; omega)).mono ?_
  rintro e w26 ⟨va, rfl, b26, o26⟩
  have F26 : Hid (Below w.heap.size w w26 ∧ Own w26 w.heap.size s S ∧ Own w26 w.heap.size (.slice (some ⟨w25.heap.size, 0, none⟩) 1 1) [n] ∧ Own w26 w.heap.size va (withL S n)) := ⟨E25.out.1.trans (b26.mono E25.out.1.size), E25.out.2.1.below b26, E25.out.2.2.below b26, o26.mono E25.out.1.size⟩
  clear b26 o26 E25
  go_wp2_with fail
  refine (impl_within [n] (withL S n) _ va w26 F26.out.2.2.1.rd F26.out.2.2.2.rd (by simp) (by have := L1.out; have := with_len S n; omega)).mono ?_
  rintro e w27 ⟨rfl, hw27⟩
  subst w27
  rw [with_has]
  have E26 : Hid (Below w.heap.size w (w26.alloc (.cells #[.int .i64 n] 3)) ∧ Own (w26.alloc (.cells #[.int .i64 n] 3)) w.heap.size s S ∧ Own (w26.alloc (.cells #[.int .i64 n] 3)) w.heap.size (.slice (some ⟨w26.heap.size, 0, none⟩) 1 1) [n]) :=
    ⟨F26.out.1.trans ((new_below _ _).mono F26.out.1.size), F26.out.2.1.below (new_below _ _), own_one _ n F26.out.1.size⟩
  clear F26
  go_wp2_with fail
  refine (impl_without S n s _ E26.out.2.1.rd (by have := L1.out; omega)).mono ?_
  rintro e w27 ⟨vb, rfl, b27, o27⟩
  have F27 : Hid (Below w.heap.size w w27 ∧ Own w27 w.heap.size s S ∧ Own w27 w.heap.size (.slice (some ⟨w26.heap.size, 0, none⟩) 1 1) [n] ∧ Own w27 w.heap.size vb (withoutL S n)) := ⟨E26.out.1.trans (b27.mono E26.out.1.size), E26.out.2.1.below b27, E26.out.2.2.below b27, o27.mono E26.out.1.size⟩
  clear b27 o27 E26
  go_wp2_with fail
  refine (impl_within [n] (withoutL S n) _ vb w27 F27.out.2.2.1.rd F27.out.2.2.2.rd (by simp) (by have := L1.out; have := without_len S n; omega)).mono ?_
  rintro e w28 ⟨rfl, hw28⟩
  subst w28
  rw [without_has]
  go_wp2_with fail
  refine (impl_without S n s _ F27.out.2.1.rd (by have := L1.out; omega)).mono ?_
  rintro e w28 ⟨vc, rfl, b28, o28⟩
  have F28 : Hid (Below w.heap.size w w28 ∧ Own w28 w.heap.size s S ∧ Own w28 w.heap.size vc (withoutL S n)) := ⟨F27.out.1.trans (b28.mono F27.out.1.size), F27.out.2.1.below b28, o28.mono F27.out.1.size⟩
  clear b28 o28 F27
  go_wp2_with fail
  refine (impl_within (withoutL S n) S vc s w28 F28.out.2.2.rd F28.out.2.1.rd (by have := L1.out; have := without_len S n; omega) (by have := L1.out; omega)).mono ?_
  rintro e w29 ⟨rfl, hw29⟩
  subst w29
  rw [without_within]
  go_wp2_with fail
  refine (impl_with S n s _ F28.out.2.1.rd (by have := L1.out; omega)).mono ?_
  rintro e w29 ⟨vd, rfl, b29, o29⟩
  have F29 : Hid (Below w.heap.size w w29 ∧ Own w29 w.heap.size s S ∧ Own w29 w.heap.size vd (withL S n)) := ⟨F28.out.1.trans (b29.mono F28.out.1.size), F28.out.2.1.below b29, o29.mono F28.out.1.size⟩
  clear b29 o29 F28
  go_wp2_with fail
  refine (impl_within S (withL S n) s vd w29 F29.out.2.1.rd F29.out.2.2.rd (by have := L1.out; omega) (by have := L1.out; have := with_len S n; omega)).mono ?_
  rintro e w30 ⟨rfl, hw30⟩
  subst w30
  rw [within_with]
  go_wp2_with fail
  go_ret
  exact ⟨rfl, F29.out.1⟩

set_option maxRecDepth 100000 in
set_option maxHeartbeats 1000000 in
theorem walk_out (a : Option Addr) (len cap : Nat) (w : World) (hl : ¬ len ≤ 1048576) :
    Calls Try.prog 3 #[.slice a len cap] w fun e w' => e = .returned (.bool true) ∧ Below w.heap.size w w' := by
  have hb0 : (1048576 : Int) < len := by omega
  go_enter Try.func3, Try.ntmps3
  go_wp2_with (go_at_call 4; go_in)
  go_ret
  exact ⟨rfl, Below.refl _ _⟩

/-- The shell's word for a slice of bytes that came in. -/
def IsRow (k : IntKind) (w : World) (a : Option Addr) (len cap : Nat) (zs : List Int) : Prop :=
  (a = none ∧ len = 0 ∧ cap = 0 ∧ zs = []) ∨
  ∃ x, a = some x ∧ len ≤ cap ∧ cap ≤ maxLen ∧ zs.length = cap ∧ (∀ i, i < zs.length → w.cell? (x.add i) = some (.int k (zs.getD i 0))) ∧ ∀ n ∈ zs, (Lit.int k n).wf = true

theorem walk (a0 : Option Addr) (len0 cap0 : Nat) (z0 : List Int) (w : World) (w0 : IsRow .u8 w a0 len0 cap0 z0) :
    Calls Try.prog 3 #[.slice a0 len0 cap0] w fun e w' => e = .returned (.bool true) ∧ Below w.heap.size w w' := by
  by_cases hl : len0 ≤ 1048576
  · refine walk_in a0 len0 cap0 w hl (codeOk_of_row (cap := cap0) ?_ hl)
    rcases w0 with ⟨h1, h2, h3, _⟩ | ⟨x, h⟩
    · exact .inl ⟨h1, h2, h3⟩
    · exact .inr ⟨x, z0, h⟩
  · exact walk_out a0 len0 cap0 w hl

set_option maxRecDepth 100000 in
theorem lifted (os : Os) (started : os.Started) (H : Type) (enc : TypeId × Value → H) :
    ReturnsInHanded {} Try.checked os 3 .any (Rows.fnSetsSpec.pre6 enc Try.prog Try.f3 Rows.fnSetsRow.domain false) (Rows.fnSetsSpec.post enc Try.prog Try.f3 false true false false) := by
  refine returnsInHanded_of_change (C := Try.checked) own started (by kernel_rfl) Try.func3
    (ChangeSpec.witness6 (enc := enc) (C := Try.checked) false ⟨#[], #[.slice none 0 0], []⟩ 8 (by kernel_rfl) (by kernel_rfl) (by kernel_rfl) (by kernel_rfl)) ?_
  intro W base args ds gs before hval0 hW hcnd _
  have hval : ∀ (j : Nat) t v, Try.f3.params[j]? = some t → args[j]? = some v → Value.okWide Try.prog W .any base t v := hval0
  have hW' := hW
  obtain ⟨p, q, hA0, hV, rfl, hfz, hnd⟩ := hW
  have hA : DataW.TrodAll enc Try.prog W 0 (fun _ => true) true Try.f3.params.toList args.toList ds p := hA0
  rw [Try.params3] at hA hval
  obtain ⟨v0, vs0, d0, ds0, p0, q0, hargs, rfl, rfl, h0, r0⟩ := trodAll_cons hA
  obtain ⟨rfl, rfl, rfl⟩ := trodAll_nil r0
  obtain rfl : args = #[v0] := by cases args; simp_all
  obtain ⟨rfl, rfl⟩ := trodVars_none hV
  obtain ⟨a0, len0, cap0, rfl⟩ := okWide_slice Try.underlying22 (hval 0 22 v0 rfl rfl)
  have k0 := h0
  have lt0 : ∀ x ∈ p0, x.block < W.heap.size := by obtain ⟨m, hm⟩ := k0; exact DataW.trod_lt m _ _ _ hm
  obtain ⟨z0, w0⟩ : ∃ zs, IsRow .u8 W a0 len0 cap0 zs := by
    obtain ⟨fuel, hf⟩ := h0
    rcases open_ints Try.underlying22 Try.underlying5 (by kernel_rfl) hf with ⟨hcs, _⟩ | ⟨x, l, c, zs, hcs, _, hl, hm, hz, _, hcell, hwz⟩
    · simp [Value.cells] at hcs
      obtain ⟨rfl, rfl, rfl⟩ := hcs
      exact ⟨[], .inl ⟨rfl, rfl, rfl, rfl⟩⟩
    · simp [Value.cells] at hcs
      obtain ⟨rfl, rfl, rfl⟩ := hcs
      exact ⟨zs, .inr ⟨_, rfl, hl, hm, by simpa using hz, hcell, hwz⟩⟩
  clear hA0 hval0
  refine (walk a0 len0 cap0 z0 W w0).mono fun e W' ⟨he, bel⟩ => ?_
  subst he
  exact ⟨_, rfl, _, _, _, [], _, [], hW', trodAll_mk1 (shut_bool Try.underlying4 _), (trodAll_cons_mk (Below.trod laidOut (by kernel_rfl) (of_decide_eq_true (by kernel_rfl)) k0 bel lt0) trodAll_mk0), rfl, bel.frame _, fun h => by cases h⟩

theorem over : Rows.fnSetsRow.holds Try.pinned (OpenSpec.ofChange Rows.fnSetsSpec) :=
  OpenClaim.holds_of_wide 3 Try.f3 rfl rfl rfl rfl rfl rfl rfl ⟨rfl, rfl, rfl, rfl, rfl⟩ rfl rfl rfl rfl rfl (by kernel_rfl) Try.func3 (by kernel_rfl)
    (of_decide_eq_true (by kernel_rfl)) (by unfold Func.isWrapper; first | (rw [if_pos (by decide +kernel)]; kernel_rfl) | (rw [if_neg (by decide +kernel)]; exact ⟨rfl, rfl⟩))
    (fun os started H enc _ => lifted os started H enc)

/-- The statement. -/
theorem proved : Rows.FnSetsSaid := over
#print axioms proved
end Go.Proofs.Ytjadjahbblkeoab.fnSets
