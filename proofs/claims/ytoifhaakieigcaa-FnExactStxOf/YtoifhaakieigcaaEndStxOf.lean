/- What stands while laws.FnExactStxOf runs: the arguments, what was asked for, what was handed in and what came out. No conditions. -/
import Derived.Test.YtoifhaakieigcaaMarkTop
import Derived.Test.YtoifhaakieigcaaMarkTopD
import Derived.Test.YtoifhaakieigcaaSzDat
import Derived.Test.YtoifhaakieigcaaToDatOwn
import Derived.Test.YtoifhaakieigcaaEqStx
import Derived.Test.YtoifhaakieigcaaEqDat
import Derived.Test.YtoifhaakieigcaaSpecStart
import Derived.Test.YtoifhaakieigcaaStepAny
import Derived.Test.YtoifhaakieigcaaIntsSpec
import Derived.Test.YtoifhaakieigcaaStxD
import Derived.Test.YtoifhaakieigcaaDatRows
import Derived.Test.YtoifhaakieigcaaToStx
import Derived.Test.YtoifhaakieigcaaRemWalkDX
import Derived.Test.YtoifhaakieigcaaRows
import Derived.Deep.AppendLies
import Derived.Deep.Cut
import Derived.OpenShut
import Derived.WideKeyArgs
namespace Go.Proofs.Ytoifhaakieigcaa
open Go.ChangeShapes Go.WideShapes Go.ChangeAt Go.RowKit

abbrev Nd (W : World) (g : Nat) (t : X) (sv v : Value) (ty : TypeId) : Prop := Six W g t.op t.at_ t.n t.s sv v ty
abbrev Nd5 (W : World) (g : Nat) (t : D) (v : Value) (ty : TypeId) : Prop := Five W g t.op t.at_ t.n t.s v ty
theorem Six.frx {W W' : World} {S : List Nat} {g : Nat} {a b c : Int} {s : ByteArray} {u v : Value} {ty : TypeId} (h : Six W g a b c s u v ty) (hf : FrX W W' S) (hg : g ∉ S) : Six W' g a b c s u v ty := (hf.block g h.lt hg).trans h
theorem Five.frx {W W' : World} {S : List Nat} {g : Nat} {a b c : Int} {s : ByteArray} {v : Value} {ty : TypeId} (h : Five W g a b c s v ty) (hf : FrX W W' S) (hg : g ∉ S) : Five W' g a b c s v ty := (hf.block g h.lt hg).trans h
theorem FrS.frx {W W' : World} {S : List Nat} (h : FrS W W' S) : FrX W W' S := ⟨h.os, h.tape, h.output, h.size, h.block⟩

/-- The argument, and what was asked for. -/
structure R1 (w W : World) (a : D) (t : X) (u sw vw : Value) (gW : Nat) (Sw : List Nat) : Prop where
  bel : Below w.heap.size w W
  arg : Nd5 W w.heap.size a u 24
  bW : Nd W gW t sw vw 29
  oW : XOwn W t sw vw Sw
  rW : ∀ x ∈ Sw, w.heap.size < x ∧ x < gW
  lW : w.heap.size < gW
theorem R1.below {w W W' : World} {a : D} {t : X} {u sw vw : Value} {gW : Nat} {Sw : List Nat} (h : R1 w W a t u sw vw gW Sw) (hb : Below W.heap.size W W') : R1 w W' a t u sw vw gW Sw :=
  ⟨h.bel.trans (hb.mono h.bel.size), h.arg.below hb, h.bW.below hb, h.oW.same _ (fun g hg => hb.block g (h.oW.there _ g hg)), h.rW, h.lW⟩
theorem R1.frx {w W W' : World} {a : D} {t : X} {u sw vw : Value} {gW : Nat} {Sw S : List Nat} (h : R1 w W a t u sw vw gW Sw) (hf : FrX W W' S) (hS : ∀ x ∈ S, gW < x) : R1 w W' a t u sw vw gW Sw := by
  have hl := h.lW
  have hws := h.bel.size
  exact ⟨⟨hf.os.trans h.bel.os, hf.tape.trans h.bel.tape, hf.output.trans h.bel.output, Nat.le_trans h.bel.size hf.size, fun x hx => (hf.block x (by omega) (fun hc => by have := hS x hc; omega)).trans (h.bel.block x hx)⟩,
    h.arg.frx hf (fun hc => by have := hS _ hc; omega), h.bW.frx hf (fun hc => by have := hS _ hc; omega), h.oW.same _ (fun g hg => hf.block g (h.oW.there _ g hg) (fun hc => by have := hS g hc; have := (h.rW g hg).2; omega)), h.rW, h.lW⟩

/-- .. and what was handed in: the datum. -/
structure R2 (w W : World) (a : D) (t : X) (u sw vw vx : Value) (gW gX : Nat) (Sw Sx : List Nat) : Prop extends R1 w W a t u sw vw gW Sw where
  bX : Nd5 W gX a vx 33
  oX : DOwn W a vx Sx
  nX : Sx.Nodup
  rX : ∀ x ∈ Sx, gW < x ∧ x < gX
  lX : gW < gX
theorem R2.below {w W W' : World} {a : D} {t : X} {u sw vw vx : Value} {gW gX : Nat} {Sw Sx : List Nat} (h : R2 w W a t u sw vw vx gW gX Sw Sx) (hb : Below W.heap.size W W') : R2 w W' a t u sw vw vx gW gX Sw Sx :=
  ⟨h.toR1.below hb, h.bX.below hb, h.oX.same _ (fun g hg => hb.block g (h.oX.there _ g hg)), h.nX, h.rX, h.lX⟩

/-- .. and the set. -/
structure R3 (w W : World) (a : D) (t : X) (xs : List Int) (u sw vw vx v1 : Value) (gW gX B1 : Nat) (Sw Sx : List Nat) : Prop extends R2 w W a t u sw vw vx gW gX Sw Sx where
  i1 : Own W 0 v1 xs
  r1 : ∀ g, v1.ownBlock = some g → gX < g ∧ g < B1
  l1 : gX < B1 ∧ B1 ≤ W.heap.size
theorem R3.below {w W W' : World} {a : D} {t : X} {xs : List Int} {u sw vw vx v1 : Value} {gW gX B1 : Nat} {Sw Sx : List Nat} (h : R3 w W a t xs u sw vw vx v1 gW gX B1 Sw Sx) (hb : Below W.heap.size W W') : R3 w W' a t xs u sw vw vx v1 gW gX B1 Sw Sx :=
  ⟨h.toR2.below hb, h.i1.below hb, h.r1, h.l1.1, Nat.le_trans h.l1.2 hb.size⟩

/-- .. and what came out. -/
structure R4 (w W : World) (a : D) (t : X) (xs : List Int) (u sw vw vx v1 sg vg : Value) (gW gX B1 gG : Nat) (Sw Sx Sg : List Nat) : Prop extends R3 w W a t xs u sw vw vx v1 gW gX B1 Sw Sx where
  bG : Nd W gG t sg vg 29
  oG : XOwn W t sg vg Sg
  nG : Sg.Nodup
  rG : ∀ x ∈ Sg, B1 ≤ x ∧ x < gG
  lG : B1 ≤ gG
theorem R4.below {w W W' : World} {a : D} {t : X} {xs : List Int} {u sw vw vx v1 sg vg : Value} {gW gX B1 gG : Nat} {Sw Sx Sg : List Nat} (h : R4 w W a t xs u sw vw vx v1 sg vg gW gX B1 gG Sw Sx Sg) (hb : Below W.heap.size W W') : R4 w W' a t xs u sw vw vx v1 sg vg gW gX B1 gG Sw Sx Sg :=
  ⟨h.toR3.below hb, h.bG.below hb, h.oG.same _ (fun g hg => hb.block g (h.oG.there _ g hg)), h.nG, h.rG, h.lG⟩

/-- The datum that was handed in has been marked. -/
structure R5 (w W : World) (a : D) (t : X) (xs : List Int) (u sw vw v1 sg vg : Value) (gW gX B1 gG : Nat) (Sw Sg : List Nat) : Prop extends R1 w W a t u sw vw gW Sw where
  i1 : Own W 0 v1 xs
  r1 : ∀ g, v1.ownBlock = some g → gX < g ∧ g < B1
  bG : Nd W gG t sg vg 29
  oG : XOwn W t sg vg Sg
  nG : Sg.Nodup
  rG : ∀ x ∈ Sg, B1 ≤ x ∧ x < gG
  ls : gW < gX ∧ gX < B1 ∧ B1 ≤ gG
theorem R4.marked {w W W' : World} {a : D} {t : X} {xs : List Int} {u sw vw vx v1 sg vg : Value} {gW gX B1 gG : Nat} {Sw Sx Sg : List Nat} (h : R4 w W a t xs u sw vw vx v1 sg vg gW gX B1 gG Sw Sx Sg) (hf0 : FrS W W' Sx) : R5 w W' a t xs u sw vw v1 sg vg gW gX B1 gG Sw Sg := by
  have hf := hf0.frx
  have h1 := h.l1.1
  have h2 := h.lG
  exact ⟨h.toR1.frx hf (fun x hx => (h.rX x hx).1), h.i1.sameX (fun g hg => hf.block g (World.ownsRow.lt h.i1 g hg).2 (fun hc => by have := (h.rX g hc).2; have := (h.r1 g hg).1; omega)), h.r1, h.bG.frx hf (fun hc => by have := (h.rX _ hc).2; omega), h.oG.same _ (fun g hg => hf.block g (h.oG.there _ g hg) (fun hc => by have := (h.rX g hc).2; have := (h.rG g hg).1; omega)), h.nG, h.rG, h.lX, h1, h2⟩
theorem R5.below {w W W' : World} {a : D} {t : X} {xs : List Int} {u sw vw v1 sg vg : Value} {gW gX B1 gG : Nat} {Sw Sg : List Nat} (h : R5 w W a t xs u sw vw v1 sg vg gW gX B1 gG Sw Sg) (hb : Below W.heap.size W W') : R5 w W' a t xs u sw vw v1 sg vg gW gX B1 gG Sw Sg :=
  ⟨h.toR1.below hb, h.i1.below hb, h.r1, h.bG.below hb, h.oG.same _ (fun g hg => hb.block g (h.oG.there _ g hg)), h.nG, h.rG, h.ls⟩

/-- The set, too. -/
structure R6 (w W : World) (a : D) (t : X) (u sw vw sg vg : Value) (gW B1 gG : Nat) (Sw Sg : List Nat) : Prop extends R1 w W a t u sw vw gW Sw where
  bG : Nd W gG t sg vg 29
  oG : XOwn W t sg vg Sg
  nG : Sg.Nodup
  rG : ∀ x ∈ Sg, B1 ≤ x ∧ x < gG
  ls : gW < B1 ∧ B1 ≤ gG
theorem R5.marked {w W W' : World} {a : D} {t : X} {xs : List Int} {u sw vw v1 sg vg : Value} {gW gX B1 gG : Nat} {Sw Sg : List Nat} (h : R5 w W a t xs u sw vw v1 sg vg gW gX B1 gG Sw Sg) (hg1 : W.grownBy W' v1.ownBlock) : R6 w W' a t u sw vw sg vg gW B1 gG Sw Sg := by
  have hf : FrX W W' v1.ownBlock.toList := FrX.grown hg1 (fun g hg => hg)
  obtain ⟨h1, h2, h3⟩ := h.ls
  exact ⟨h.toR1.frx hf (fun x hx => by have := (h.r1 x (by simpa using hx)).1; omega), h.bG.frx hf (fun hc => by have := (h.r1 _ (by simpa using hc)).2; omega), h.oG.same _ (fun g hg => hf.block g (h.oG.there _ g hg) (fun hc => by have := (h.r1 g (by simpa using hc)).2; have := (h.rG g hg).1; omega)), h.nG, h.rG, by omega, h3⟩
theorem R6.below {w W W' : World} {a : D} {t : X} {u sw vw sg vg : Value} {gW B1 gG : Nat} {Sw Sg : List Nat} (h : R6 w W a t u sw vw sg vg gW B1 gG Sw Sg) (hb : Below W.heap.size W W') : R6 w W' a t u sw vw sg vg gW B1 gG Sw Sg :=
  ⟨h.toR1.below hb, h.bG.below hb, h.oG.same _ (fun g hg => hb.block g (h.oG.there _ g hg)), h.nG, h.rG, h.ls⟩

/-- What came out has been marked. -/
structure R7 (w W : World) (a : D) (t : X) (u sw vw sg vg : Value) (gW gG : Nat) (Sw : List Nat) : Prop extends R1 w W a t u sw vw gW Sw where
  bG : Nd W gG t sg vg 29
  mG : Marked W t sg vg 1
theorem R6.marked {w W W' : World} {a : D} {t : X} {u sw vw sg vg : Value} {gW B1 gG : Nat} {Sw Sg : List Nat} (h : R6 w W a t u sw vw sg vg gW B1 gG Sw Sg) (hf : FrX W W' Sg) (hm : Marked W' t sg vg 1) : R7 w W' a t u sw vw sg vg gW gG Sw :=
  ⟨h.toR1.frx hf (fun x hx => by have := (h.rG x hx).1; have := h.ls.1; omega), h.bG.frx hf (fun hc => by have := (h.rG _ hc).2; omega), hm⟩
theorem R7.below {w W W' : World} {a : D} {t : X} {u sw vw sg vg : Value} {gW gG : Nat} {Sw : List Nat} (h : R7 w W a t u sw vw sg vg gW gG Sw) (hb : Below W.heap.size W W') : R7 w W' a t u sw vw sg vg gW gG Sw :=
  ⟨h.toR1.below hb, h.bG.below hb, h.mG.below hb⟩

theorem R1.new {w W2 w3 : World} {a : D} {t : X} {u sw vw : Value} {Sw : List Nat} (hb2 : Below w.heap.size w W2) (ha : Nd5 W2 w.heap.size a u 24) (hb : Below W2.heap.size W2 w3) (ho : XOwn w3 t sw vw Sw) (hS : ∀ x ∈ Sw, W2.heap.size ≤ x) :
    R1 w (w3.alloc (.cells #[.int .i64 t.op, .int .i64 t.at_, .int .i64 t.n, .string t.s, sw, vw] 29)) a t u sw vw w3.heap.size Sw := by
  have hn := newx w3 (.cells #[.int .i64 t.op, .int .i64 t.at_, .int .i64 t.n, .string t.s, sw, vw] 29)
  have hl := ha.lt
  have hbs := hb.size
  exact ⟨(hb2.trans (hb.mono hb2.size)).trans (hn.mono (by omega)), (ha.below hb).below hn, heap_alloc_new w3 _, ho.same _ (fun g hg => hn.block g (ho.there _ g hg)), fun x hx => ⟨by have := hS x hx; omega, ho.there _ x hx⟩, by omega⟩
theorem R2.new {w W w3 : World} {a : D} {t : X} {u sw vw vx : Value} {gW : Nat} {Sw Sx : List Nat} (h : R1 w W a t u sw vw gW Sw) (hb : Below W.heap.size W w3) (ho : DOwn w3 a vx Sx) (hn : Sx.Nodup) (hS : ∀ x ∈ Sx, W.heap.size ≤ x) :
    R2 w (w3.alloc (.cells #[.int .i64 a.op, .int .i64 a.at_, .int .i64 a.n, .string a.s, vx] 33)) a t u sw vw vx gW w3.heap.size Sw Sx := by
  have hb2 := newx w3 (.cells #[.int .i64 a.op, .int .i64 a.at_, .int .i64 a.n, .string a.s, vx] 33)
  have hl := h.bW.lt
  have hbs := hb.size
  exact ⟨(h.below hb).below hb2, heap_alloc_new w3 _, ho.same _ (fun g hg => hb2.block g (ho.there _ g hg)), hn, fun x hx => ⟨by have := hS x hx; omega, ho.there _ x hx⟩, by omega⟩
theorem R3.new {w W w3 : World} {a : D} {t : X} {xs : List Int} {u sw vw vx v1 : Value} {gW gX : Nat} {Sw Sx : List Nat} (h : R2 w W a t u sw vw vx gW gX Sw Sx) (hb : Below W.heap.size W w3) (ho : Own w3 W.heap.size v1 xs) : R3 w w3 a t xs u sw vw vx v1 gW gX w3.heap.size Sw Sx := by
  have hl := h.bX.lt
  have hbs := hb.size
  exact ⟨h.below hb, ho.mono (Nat.zero_le _), fun g hg => by have := World.ownsRow.lt ho g hg; omega, by omega, Nat.le_refl _⟩
theorem R4.new {w W w3 : World} {a : D} {t : X} {xs : List Int} {u sw vw vx v1 sg vg : Value} {gW gX B1 : Nat} {Sw Sx Sg : List Nat} (h : R3 w W a t xs u sw vw vx v1 gW gX B1 Sw Sx) (hb : Below W.heap.size W w3) (ho : XOwn w3 t sg vg Sg) (hn : Sg.Nodup) (hS : ∀ x ∈ Sg, W.heap.size ≤ x) :
    R4 w (w3.alloc (.cells #[.int .i64 t.op, .int .i64 t.at_, .int .i64 t.n, .string t.s, sg, vg] 29)) a t xs u sw vw vx v1 sg vg gW gX B1 w3.heap.size Sw Sx Sg := by
  have hb2 := newx w3 (.cells #[.int .i64 t.op, .int .i64 t.at_, .int .i64 t.n, .string t.s, sg, vg] 29)
  have hl := h.l1
  have hbs := hb.size
  exact ⟨(h.below hb).below hb2, heap_alloc_new w3 _, ho.same _ (fun g hg => hb2.block g (ho.there _ g hg)), hn, fun x hx => ⟨by have := hS x hx; omega, ho.there _ x hx⟩, by omega⟩
end Go.Proofs.Ytoifhaakieigcaa

/- spec.StxOf. Condition: at most 2^20 of the datum, a set of at most 2^22. -/
namespace Go.Proofs.Ytoifhaakieigcaa
open Go.ChangeShapes Go.WideShapes Go.ChangeAt Go.RowKit

def SpecStxAt (set : List Int) (t : D) : Prop := ∀ (w : World) (v sv : Value), t.In w v → Rd w sv set → t.weight ≤ 1048576 → Calls Try.prog 10 #[.agg #[.int .i64 t.op, .int .i64 t.at_, .int .i64 t.n, .string t.s, v], sv] w fun e w' =>
  ∃ su u S, e = .returned (.agg #[.int .i64 t.op, .int .i64 t.at_, .int .i64 t.n, .string t.s, su, u]) ∧ Below w.heap.size w w' ∧ XOwn w' (stxD set t) su u S ∧ S.Nodup ∧ ∀ x ∈ S, w.heap.size ≤ x

theorem specStx_enter (vs : Array Value) (w : World) : (callFunc 10 vs).run Try.prog w = .ok (.enter 10 vs) w := by kernel_rfl

theorem stx_cells (set : List Int) (d : D) (su v : Value) : xcells (stxD set d, su, v) = [.int .i64 d.op, .int .i64 d.at_, .int .i64 d.n, .string d.s, su, v] := by cases d <;> rfl

set_option maxRecDepth 100000 in
set_option maxHeartbeats 4000000 in
theorem spec_stx_of (set : List Int) (hl : set.length ≤ 4194304) (t : D) : SpecStxAt set t := by
  induction t with
  | no => intro w v sv h; exact h.elim
  | mk op a n s len kid ih =>
    intro w v sv hin hrd hwt
    obtain ⟨i0, hi0, hz0, hz1, hz2⟩ := info_parts stx_info
    obtain ⟨iI, hiI, hzI0, hzI1, hzI2⟩ := info_parts int_info
    have hsl : Sl w len kid v := hin.sl
    have HPL : Hid (s.size ≤ maxLen ∧ -9223372036854775808 ≤ n ∧ n ≤ 9223372036854775807) := ⟨hin.size, hin.num⟩
    obtain ⟨p, cap, rfl, -, hat⟩ := hsl.at
    obtain ⟨ps, cps, hsv, -⟩ := hrd.shape
    subst hsv
    have hwe : (D.mk op a n s len kid).weight = s.size + (len + sumTo (fun i => (kid i).weight) len) := rfl
    have hlen : len ≤ 1048576 := by omega
    have HRD : Hid (Rd w (.slice ps set.length cps) set) := hrd
    have IH : Hid (∀ i, i < len → ∀ (w : World) (v sv : Value), (kid i).In w v → Rd w sv set → Calls Try.prog 10 #[.agg #[.int .i64 (kid i).op, .int .i64 (kid i).at_, .int .i64 (kid i).n, .string (kid i).s, v], sv] w fun e w' =>
      ∃ su u S, e = .returned (.agg #[.int .i64 (kid i).op, .int .i64 (kid i).at_, .int .i64 (kid i).n, .string (kid i).s, su, u]) ∧ Below w.heap.size w w' ∧ XOwn w' (stxD set (kid i)) su u S ∧ S.Nodup ∧ ∀ x ∈ S, w.heap.size ≤ x) := fun i hi w v sv h h2 => ih i w v sv h h2 (by
        have h1 := sumTo_at (fun i => (kid i).weight) i len hi
        omega)
    have HAT : Hid (∀ i, i < len → ∃ b o u, p = some ⟨b, o, none⟩ ∧ Head w b (o + i * 5) (kid i) u ∧ (kid i).In w u) := hat
    obtain ⟨Y, hY⟩ : ∃ Y, Y = (if op = 2 then set else []) := ⟨_, rfl⟩
    have HY : Hid (stxD set (.mk op a n s len kid) = .mk op a n s Y len (fun i => stxD set (kid i))) := by show _ = _; rw [hY]; rfl
    have HYL : Hid (Y.length ≤ maxLen) := by
      show _ ≤ _
      rw [hY]
      by_cases h : op = 2
      · rw [if_pos h]; unfold maxLen; omega
      · rw [if_neg h]; exact Nat.zero_le _
    have HST := stx_start w (.cells #[.int .i64 op, .int .i64 a, .int .i64 n, .string s, .slice p len cap] 33) op a n s (fun i => stxD set (kid i))
    have HS0 : Hid (XLoop [] w (((w.alloc (.cells #[.int .i64 op, .int .i64 a, .int .i64 n, .string s, .slice p len cap] 33)).alloc (.cells #[.int .i64 0, .int .i64 0, .int .i64 0, .string ⟨#[]⟩, .slice none 0 0, .slice none 0 0] 29)).alloc (.cells #[.int .i64 op, .int .i64 a, .int .i64 n, .string s, .slice none 0 0, .slice none 0 0] 29)) (w.heap.size + 3) w.heap.size (w.heap.size + 1) (w.heap.size + 1 + 1) (.cells #[.int .i64 op, .int .i64 a, .int .i64 n, .string s, .slice p len cap] 33) op a n s [] (.slice none 0 0) (fun i => stxD set (kid i)) 0 (.slice none 0 0) [] []) := HST
    simp only [D.op, D.at_, D.n, D.s]
    rw [HY.out]
    clear hin hsl ih hat hwe hwt hrd HST
    have HO1 : Hid (Own ((((w.alloc (.cells #[.int .i64 op, .int .i64 a, .int .i64 n, .string s, .slice p len cap] 33)).alloc (.cells #[.int .i64 0, .int .i64 0, .int .i64 0, .string ⟨#[]⟩, .slice none 0 0, .slice none 0 0] 29)).alloc (.cells #[.int .i64 op, .int .i64 a, .int .i64 n, .string s, .slice none 0 0, .slice none 0 0] 29)).alloc (.cells #[] 3)) (w.heap.size + 3) (.slice (some ⟨w.heap.size + 1 + 1 + 1, 0, none⟩) 0 0) []) := by
      have h := own_lit (((w.alloc (.cells #[.int .i64 op, .int .i64 a, .int .i64 n, .string s, .slice p len cap] 33)).alloc (.cells #[.int .i64 0, .int .i64 0, .int .i64 0, .string ⟨#[]⟩, .slice none 0 0, .slice none 0 0] 29)).alloc (.cells #[.int .i64 op, .int .i64 a, .int .i64 n, .string s, .slice none 0 0, .slice none 0 0] 29)) (w.heap.size + 3) (by simp)
      simp only [World.size_alloc] at h
      exact h
    have hb4 : Below w.heap.size w ((((w.alloc (.cells #[.int .i64 op, .int .i64 a, .int .i64 n, .string s, .slice p len cap] 33)).alloc (.cells #[.int .i64 0, .int .i64 0, .int .i64 0, .string ⟨#[]⟩, .slice none 0 0, .slice none 0 0] 29)).alloc (.cells #[.int .i64 op, .int .i64 a, .int .i64 n, .string s, .slice none 0 0, .slice none 0 0] 29)).alloc (.cells #[] 3)) := HS0.out.bel.toBelow.trans ((newx _ _).mono HS0.out.bel.size)
    have hs := (HRD.out.below hb4).src
    have HS : Hid ((ps = none → set.length = 0 ∧ cps = 0) ∧ ∀ ad, ps = some ad → ∀ j u, (set.map (Value.int .i64))[j]? = some u → ((((w.alloc (.cells #[.int .i64 op, .int .i64 a, .int .i64 n, .string s, .slice p len cap] 33)).alloc (.cells #[.int .i64 0, .int .i64 0, .int .i64 0, .string ⟨#[]⟩, .slice none 0 0, .slice none 0 0] 29)).alloc (.cells #[.int .i64 op, .int .i64 a, .int .i64 n, .string s, .slice none 0 0, .slice none 0 0] 29)).alloc (.cells #[] 3)).cell? (ad.add j) = some u) := hs
    clear hs hb4
    go_enter Try.func10, Try.ntmps10
    go_upto_if 18 with fail
    go_cut [] from 7 (fun wx => ∃ (B : Nat) (sv : Value), XLoop [] w wx B w.heap.size (w.heap.size + 1) (w.heap.size + 1 + 1) (.cells #[.int .i64 op, .int .i64 a, .int .i64 n, .string s, .slice p len cap] 33) op a n s Y sv (fun i => stxD set (kid i)) 0 (.slice none 0 0) [] [])
    case first =>
      by_cases h2 : op = 2
      · have HYY : Hid (Y = set) := hY.trans (if_pos h2)
        clear hY
        subst h2
        go_wp2_with (at_builtin; refine wpList_append_any _ rfl (.tmp 19) (.tmp 20) 25 rfl (w.heap.size + 3) 3 iI (.int .i64 0) 1 8 Try.underlying25 hiI hzI0 hzI1 hzI2 rfl (by decide) (.slice (some ⟨w.heap.size + 1 + 1 + 1, 0, none⟩) 0 0) 0 [] rfl HO1.out ps set.length cps (set.map (Value.int .i64)) rfl (by simp) HS.out.1 HS.out.2 (ints_cells set) (by unfold maxLen; omega) (by omega) (by simp) ?_; intro v' w2 hown2 hg2; obtain ⟨hX2, hO2, ⟨pv, cv, hv⟩⟩ := set_grown HS0.out (by simp) rfl hown2.out hg2.out; subst hv; have HX2 : Hid (XLoop [] w (w2.setCell ⟨w.heap.size + 1 + 1, 4, none⟩ (.slice pv set.length cv)) w2.heap.size w.heap.size (w.heap.size + 1) (w.heap.size + 1 + 1) (.cells #[.int .i64 2, .int .i64 a, .int .i64 n, .string s, .slice p len cap] 33) 2 a n s set (.slice pv set.length cv) (fun i => stxD set (kid i)) 0 (.slice none 0 0) [] []) := hX2; have x4 := hO2.cells.2.2.2.2.1; have xf := hO2.fr 4; clear hX2 hO2 hown2 hg2)
        go_meet
        exact ⟨_, _, by rw [HYY.out]; exact HX2.out⟩
      · have HYY : Hid (Y = []) := hY.trans (if_neg h2)
        have d2 : (op == 2) = false := by simpa using h2
        clear hY h2
        go_wp2_with fail
        go_meet
        exact ⟨_, _, by rw [HYY.out]; exact HS0.out⟩
    case rest =>
      obtain ⟨B, sv, hL0⟩ := hcut
      have H00 : Hid (XLoop [] w wc B w.heap.size (w.heap.size + 1) (w.heap.size + 1 + 1) (.cells #[.int .i64 op, .int .i64 a, .int .i64 n, .string s, .slice p len cap] 33) op a n s Y sv (fun i => stxD set (kid i)) 0 (.slice none 0 0) [] []) := hL0
      clear hL0 HO1 HS HS0 hY
      obtain ⟨C, hC⟩ : ∃ C, C = w.heap.size := ⟨_, rfl⟩
      obtain ⟨R, hR⟩ : ∃ R, R = w.heap.size + 1 := ⟨_, rfl⟩
      obtain ⟨O, hO⟩ : ∃ O, O = w.heap.size + 1 + 1 := ⟨_, rfl⟩
      have HH0 : Hid (XLoop [] w wc B C R O (.cells #[.int .i64 op, .int .i64 a, .int .i64 n, .string s, .slice p len cap] 33) op a n s Y sv (fun i => stxD set (kid i)) 0 (.slice none 0 0) [] []) := by
        show XLoop _ _ _ _ _ _ _ _ _ _ _ _ _ _ _ _ _ _ _
        rw [hO, hR, hC]; exact H00.out
      clear H00
      rw [← hO, ← hR, ← hC]
      have hCO : C ≠ O := by omega
      have hRO : R ≠ O := by omega
      clear hC hR hO
      go_wp2_with fail
      go_loopw [6] (fun v4 wr => ∃ (k : Nat) (lv : Value) (la : List XR) (SS : List (List Nat)), v4 = .int .i64 k ∧ k ≤ len ∧ XLoop [] w wr B C R O (.cells #[.int .i64 op, .int .i64 a, .int .i64 n, .string s, .slice p len cap] 33) op a n s Y sv (fun i => stxD set (kid i)) k lv la SS) (fun v4 _ => len - (intOf v4).toNat)
      case atStart => exact ⟨0, _, _, _, rfl, Nat.zero_le _, HH0.out⟩
      case round =>
        obtain ⟨k, lv, la, SS, rfl, hk, hL⟩ := hrel
        have HL : Hid (XLoop [] w wr B C R O (.cells #[.int .i64 op, .int .i64 a, .int .i64 n, .string s, .slice p len cap] 33) op a n s Y sv (fun i => stxD set (kid i)) k lv la SS) := hL
        have hA : Five wr C op a n s (.slice p len cap) 33 := hL.arg
        have a4 := hA.cells.2.2.2.2
        obtain ⟨o0, o1, o2, o3, o4, o5⟩ := hL.out.cells
        clear hL HH0
        by_cases hkl : (k : Int) < len
        · obtain ⟨b, o, u, hp, hd, hinu⟩ := HAT.out k (by omega)
          subst hp
          obtain ⟨c0, c1, c2, c3, c4⟩ := hd.below HL.out.bel.toBelow
          have HIN : Hid ((kid k).In wr.drew u ∧ Rd wr.drew (.slice ps set.length cps) set) := ⟨(hinu.below HL.out.bel.toBelow).below (Below.refl _ wr).drew, (HRD.out.below HL.out.bel.toBelow).below (Below.refl _ wr).drew⟩
          have HKL : Hid (k < len) := by show k < len; omega
          have HOWN : Hid (wr.ownsRow 0 29 6 lv k (xrows la)) := HL.out.rows.own
          have hOl : O < wr.heap.size := HL.out.out.lt
          have hCl : C < wr.heap.size := hA.lt
          have hbl : b < wr.heap.size := World.block_lt_of_cell? wr _ c0
          clear hd hinu hA
          have hki0 : (0 : Int) ≤ (k : Int) := by omega
          have HCF : Hid (∀ (vs : Array Value) (w : World), (callFunc 10 vs).run Try.prog w = .ok (.enter 10 vs) w) := fun vs w => specStx_enter vs w
          go_wp2_with fail
          go_region_law
            (first
              | (refine step_call2 rfl 10 (.tmp 36) (.tmp 37) 33 25 rfl HCF.out (.agg #[.int .i64 (kid k).op, .int .i64 (kid k).at_, .int .i64 (kid k).n, .string (kid k).s, u]) (.slice ps set.length cps) rfl rfl _ (IH.out k HKL.out wr.drew u _ HIN.out.1 HIN.out.2) ?_; rintro e w1 ⟨su', v', T, rfl, hb1, hd1, hn1, hT1⟩; refine ⟨_, rfl, ?_⟩; have HC1 : Hid (Below wr.heap.size wr w1 ∧ XOwn w1 (stxD set (kid k)) su' v' T ∧ T.Nodup ∧ ∀ x ∈ T, wr.heap.size ≤ x) := ⟨⟨hb1.os, hb1.tape, hb1.output, hb1.size, hb1.block⟩, hd1, hn1, hT1⟩; obtain ⟨pv, cv, hv'⟩ := hd1.at0.xs.shape; obtain ⟨pw, cw, hw'⟩ := hd1.at0.sets.shape; subst hv' hw'; have z4 : w1.cell? ⟨O, 5, none⟩ = some lv := (HC1.out.1.cell (by exact hOl)).trans o5; have z5 : ∀ ob, (w1.alloc ob).cell? ⟨O, 5, none⟩ = some lv := fun ob => ((newx w1 ob).cell (by exact Nat.lt_of_lt_of_le hOl HC1.out.1.size)).trans z4; have y4 : w1.cell? ⟨C, 4, none⟩ = some (.slice (some ⟨b, o, none⟩) len cap) := (HC1.out.1.cell (by exact hCl)).trans a4; have HO1 : Hid (w1.ownsRow 0 29 6 lv k (xrows la)) := own_belowX HOWN.out HC1.out.1; clear hb1 hd1 hn1 hT1)
              | (refine step_append_lies _ (by rfl) _ _ _ (by rfl) 0 29 i0 _ 6 88 Try.underlying27 hi0 hz0 hz1 hz2 rfl (by omega) lv k (xrows la) (by rfl) (HO1.out.alloc _) ⟨w1.heap.size, 0, none⟩ 1 1 [.int .i64 (kid k).op, .int .i64 (kid k).at_, .int .i64 (kid k).n, .string (kid k).s, .slice pw (stxD set (kid k)).set.length cw, .slice pv (stxD set (kid k)).len cv] (by rfl) (by rfl) (World.news_of_block (cs := #[.int .i64 (kid k).op, .int .i64 (kid k).at_, .int .i64 (kid k).n, .string (kid k).s, .slice pw (stxD set (kid k)).set.length cw, .slice pv (stxD set (kid k)).len cv]) (t := 29) (fr := (0, 0)) (heap_alloc_new w1 _)) (by simp [Value.oneCell']) (by omega) (by unfold maxLen; omega) (by omega) (Nat.zero_le _) (w1.heap.size + 1) (by simp) ?_; intro gg cap3 w3 hown3 hgrow hat hlt3; obtain ⟨hO3, hnx⟩ := HL.out.next (Fr.below HC1.out.1 []) HC1.out.2.1 HC1.out.2.2.1 HC1.out.2.2.2 (by rw [stx_cells]; exact hown3) hgrow hat; have HNX : Hid (XLoop [] w (w3.setCell ⟨O, 5, none⟩ (.slice (some ⟨gg, 0, none⟩) (k + 1) cap3)) B C R O (.cells #[.int .i64 op, .int .i64 a, .int .i64 n, .string s, .slice (some ⟨b, o, none⟩) len cap] 33) op a n s Y sv (fun i => stxD set (kid i)) (k + 1) (.slice (some ⟨gg, 0, none⟩) (k + 1) cap3) (la ++ [(stxD set (kid k), .slice pw (stxD set (kid k)).set.length cw, .slice pv (stxD set (kid k)).len cv)]) (SS ++ [T])) := hnx; have x4 : w3.cell? ⟨O, 5, none⟩ = some lv := (World.cell?_of_block (a := ⟨O, 5, none⟩) hO3).trans o5; have xf : w3.frozen? ⟨O, 5, none⟩ = false := (World.frozen?_of_block (a := ⟨O, 5, none⟩) hO3).trans (HL.out.out.fr 5); clear hO3 hnx hown3 hgrow hat hlt3))
          all_goals
            go_wp2_with fail
            go_roundw
            case rel => exact ⟨k + 1, _, _, _, by go_num, by omega, HNX.out⟩
            case measure => simp [intOf]; omega
        · obtain rfl : k = len := by omega
          obtain ⟨r0, r1, r2, r3, r4, r5⟩ := HL.out.res.cells
          have rf := HL.out.res.fr
          obtain ⟨hfr, S, hX, hSn, hSg⟩ := HL.out.done ⟨HPL.out.1, HPL.out.2, HYL.out⟩
          obtain ⟨pv, cv, hlv⟩ := hX.at0.xs.shape
          obtain ⟨pw, cw, hsv⟩ := hX.at0.sets.shape
          simp only [X.len, X.set] at hlv hsv
          subst hlv hsv
          have HS : Hid (Fr [] w (put6 wr R op a n s (.slice pw Y.length cw) (.slice pv k cv)) ∧ XOwn (put6 wr R op a n s (.slice pw Y.length cw) (.slice pv k cv)) (.mk op a n s Y k (fun i => stxD set (kid i))) (.slice pw Y.length cw) (.slice pv k cv) S ∧ S.Nodup ∧ ∀ x ∈ S, w.heap.size ≤ x) := ⟨hfr, hX, hSn, hSg⟩
          clear hfr hX hSn hSg HL HAT IH
          generalize Y.length = yl at *
          go_wp2_with fail
          refine bodyPost_ret (v := .agg #[.int .i64 op, .int .i64 a, .int .i64 n, .string s, .slice pw yl cw, .slice pv k cv]) (by rw [results_cellX (p := 4) (ty := 29) (by kernel_rfl)]; simp [go_sem, r0, r1, r2, r3, r4, r5]) rfl ⟨_, _, rfl, HS.out.1.toBelow, S, HS.out.2.1, HS.out.2.2.1, HS.out.2.2.2⟩
end Go.Proofs.Ytoifhaakieigcaa

/- impl.StxOf. Condition: at most 2^20 data, a set of at most 2^22. -/
namespace Go.Proofs.Ytoifhaakieigcaa
open Go.ChangeShapes Go.WideShapes Go.ChangeAt Go.RowKit

/-- A symbol's set. -/
def symSet (set : List Int) (d : D) : List Int := if d.op = 2 then set else []
theorem stx_turns (set : List Int) (hl : set.length ≤ 4194304) : TurnDX (stxD set) (symSet set) where
  ne := fun x h => by
    cases x with
    | no => exact absurd rfl h
    | mk op a n s len kid => intro e; cases e
  op := fun x => by cases x <;> rfl
  at_ := fun x => by cases x <;> rfl
  n := fun x => by cases x <;> rfl
  s := fun x => by cases x <;> rfl
  set := fun x => by cases x <;> rfl
  len := fun x => by cases x <;> rfl
  kid := fun x i => by cases x <;> rfl
  small := fun x => by
    unfold symSet
    by_cases h3 : x.op = 2
    · rw [if_pos h3]; unfold maxLen; omega
    · rw [if_neg h3]; exact Nat.zero_le _

set_option maxRecDepth 100000 in
set_option maxHeartbeats 2000000 in
theorem impl_stx_of (set : List Int) (t : D) (u sv : Value) (w : World) (hin : t.In w u) (hs : Rd w sv set) (hl : set.length ≤ 4194304) (hc : t.count ≤ 1048577) :
    Calls Try.prog 13 #[.agg #[.int .i64 t.op, .int .i64 t.at_, .int .i64 t.n, .string t.s, u], sv] w fun e w' =>
      ∃ su' u' S, e = .returned (.agg #[.int .i64 t.op, .int .i64 t.at_, .int .i64 t.n, .string t.s, su', u']) ∧ Below w.heap.size w w' ∧ XOwn w' (stxD set t) su' u' S ∧ S.Nodup ∧ ∀ x ∈ S, w.heap.size ≤ x := by
  obtain ⟨p, cap, hu⟩ := hin.sl.shape
  obtain ⟨ps, cps, hsv, -⟩ := hs.shape
  subst hu hsv
  have HC : Hid (∀ o1 o2, Calls Try.prog 36 #[.agg #[.int .i64 t.op, .int .i64 t.at_, .int .i64 t.n, .string t.s, .slice p t.len cap], .func (.func 37) #[] #[], .func (.func 38) #[] #[.pointer (some ⟨w.heap.size + 1, 0, none⟩)]] (((w.alloc o1).alloc (.cells #[.slice ps set.length cps] 25)).alloc o2) fun e w' =>
      ∃ su' u' S, e = .returned (.agg #[.int .i64 t.op, .int .i64 t.at_, .int .i64 t.n, .string t.s, su', u']) ∧ Below (((w.alloc o1).alloc (.cells #[.slice ps set.length cps] 25)).alloc o2).heap.size (((w.alloc o1).alloc (.cells #[.slice ps set.length cps] 25)).alloc o2) w' ∧ XOwn w' (stxD set t) su' u' S ∧ S.Nodup ∧ ∀ x ∈ S, w.heap.size + 3 ≤ x) := by
    intro o1 o2
    have hb : Below w.heap.size w (((w.alloc o1).alloc (.cells #[.slice ps set.length cps] 25)).alloc o2) := (newx w _).trans (((newx _ _).mono (by simp)).trans ((newx _ _).mono (by simp; omega)))
    have hS : (((w.alloc o1).alloc (.cells #[.slice ps set.length cps] 25)).alloc o2).heap[w.heap.size + 1]? = some (.cells #[.slice ps set.length cps] 25 (0, 0)) := by
      have n2 := heap_alloc_new (w.alloc o1) (.cells #[.slice ps set.length cps] 25)
      have e1 : (w.alloc o1).heap.size = w.heap.size + 1 := by simp
      rw [e1] at n2
      exact (Below.heap_alloc _ _ _ (by simp)).trans n2
    refine (remade_dx (stxD set) (symSet set) (stx_turns set hl) (w.heap.size + 1) t _ _ (hin.below hb) hc ?_).mono ?_
    · intro x vp vc kp kn kc W hW hx
      exact made_stx set (.slice ps set.length cps) (.slice vp x.len vc) (w.heap.size + 1) x.op x.at_ x.n x.s kp kn kc W (keepsX hW _ _ (cell_of_row _ _ 0 _ _ _ hS)) ((hs.below hb).below hW) hl
    · rintro e w' ⟨su', u', S, h1, h2, h3, h4, h5⟩
      exact ⟨su', u', S, h1, h2, h3, h4, fun x hx => by have := h5 x hx; simp at this; omega⟩
  clear hin hs hc hl
  go_enter Try.func13, Try.ntmps13
  go_wp2_with fail
  refine (HC.out _ _).mono ?_
  rintro e w1 ⟨su', u', S, rfl, hb1, hX, hSn, hSg⟩
  obtain ⟨h1, h2, h3, h4, h5⟩ := threeX hb1
  have hR : Six w1 (w.heap.size + 1 + 1) 0 0 0 ⟨#[]⟩ (.slice none 0 0) (.slice none 0 0) 29 := h3
  obtain ⟨r0, r1, r2, r3, r4, r5⟩ := hR.cells
  have rf := hR.fr
  obtain ⟨pu, cu, hu⟩ := hX.at0.xs.shape
  obtain ⟨pv, cv, hv⟩ := hX.at0.sets.shape
  subst hu hv
  have HX : Hid (XOwn w1 (stxD set t) (.slice pv (stxD set t).set.length cv) (.slice pu (stxD set t).len cu) S ∧ S.Nodup ∧ ∀ x ∈ S, w.heap.size + 3 ≤ x) := ⟨hX, hSn, hSg⟩
  have HB : Hid (Below w.heap.size w w1) := h5
  clear hb1 hX hSn hSg h1 h2 h3 h4 h5 hR HC
  generalize (stxD set t).set.length = sl at *
  generalize (stxD set t).len = tl at *
  go_wp2_with fail
  refine bodyPost_ret (v := .agg #[.int .i64 t.op, .int .i64 t.at_, .int .i64 t.n, .string t.s, .slice pv sl cv, .slice pu tl cu]) (by rw [results_cellX (p := 4) (ty := 29) (by kernel_rfl)]; simp [go_sem, r0, r1, r2, r3, r4, r5]) rfl ⟨_, _, S, rfl, ?_, ?_, HX.out.2.1, fun x hx => by have := HX.out.2.2 x hx; omega⟩
  · exact put6_below HB.out (w.heap.size + 1 + 1) (by omega) _ _ _ _ _ _
  · exact HX.out.1.same _ (fun x hx => put6_other w1 (w.heap.size + 1 + 1) t.op t.at_ t.n t.s (.slice pv sl cv) (.slice pu tl cu) x (by have := HX.out.2.2 x hx; omega))
end Go.Proofs.Ytoifhaakieigcaa

/- The walk of laws.FnExactStxOf. No conditions. -/
namespace Go.Proofs.Ytoifhaakieigcaa.fnExactStxOf
open Go.ChangeShapes Go.WideShapes Go.ChangeAt Go.RowKit

theorem stx_fields (xs : List Int) (a : D) : (stxD xs a).op = a.op ∧ (stxD xs a).at_ = a.at_ ∧ (stxD xs a).n = a.n ∧ (stxD xs a).s = a.s := by cases a <;> exact ⟨rfl, rfl, rfl, rfl⟩
theorem tops_le (xs : List Int) (a : D) (h : a ≠ .no) (hc : a.count ≤ 1048577) (hl : xs.length ≤ 1048576) : 1 + (stxD xs a).tops ≤ 90000000000000 := by
  have hne : stxD xs a ≠ .no := by
    cases a with
    | no => exact absurd rfl h
    | mk op a n s len kid => intro e; cases e
  have h1 := X.marks_eq hne
  have h2 := (stxD xs a).marks_le
  have h3 := stxD_nums xs a
  rw [stxD_count] at h2
  have h4 : a.count * xs.length ≤ 1048577 * 1048576 := Nat.mul_le_mul hc hl
  unfold X.tops
  omega
theorem marks_le (t : D) (hc : t.count ≤ 1048577) : 1 + 4 * sumTo (fun j => (t.kid j).count) t.len ≤ 90000000000000 ∧ 1 + 4 * sumTo (fun j => (t.kid j).count) t.len ≤ 10000000 := by
  have := t.count_eq
  omega

set_option maxRecDepth 100000 in
set_option maxHeartbeats 8000000 in
theorem walk_in (a : D) (u sv : Value) (xs : List Int) (w : World) (ha : a.In w u) (hs : Rs w sv xs) (hl : xs.length ≤ 1048576) :
    Calls Try.prog 3 #[.agg #[.int .i64 a.op, .int .i64 a.at_, .int .i64 a.n, .string a.s, u], sv] w fun e w' => e = .returned (.bool true) ∧ Below w.heap.size w w' := by
  obtain ⟨p, cap, e1⟩ := ha.sl.shape
  have hane : a ≠ .no := by rintro rfl; exact ha.elim
  have HA : Hid (∀ W, Below w.heap.size w W → a.In W u) := fun W h => ha.below h
  have HV : Hid (∀ W, Below w.heap.size w W → Rs W sv xs) := fun W h => hs.below h
  obtain ⟨p0, c0', e2, -⟩ := hs
  clear ha
  subst e1 e2
  have HL : Hid (xs.length ≤ 4194304) := by show _ ≤ _; omega
  have hb0 : ¬ (1048576 : Int) < xs.length := by omega
  have hN0 : Nd5 (w.alloc (.cells #[.int .i64 a.op, .int .i64 a.at_, .int .i64 a.n, .string a.s, .slice p a.len cap] 24)) w.heap.size a (.slice p a.len cap) 24 := heap_alloc_new w _
  have hB0 := newx w (.cells #[.int .i64 a.op, .int .i64 a.at_, .int .i64 a.n, .string a.s, .slice p a.len cap] 24)
  by_cases h1 : a.weight ≤ 1048576
  · have E1 : Hid (szR 1048576 a.weight = ((1048576 - a.weight : Nat) : Int)) := szR_yes h1
    have H1 : Hid (a.weight ≤ 1048576) := h1
    have hcnt : a.count ≤ 1048577 := by have := a.count_weight; omega
    have hst : (stxD xs a).Small := X.SetsLe.small (m := xs.length) (by omega) _ (stxD_setsLe xs a)
    have HTA := marks_le a hcnt
    have hTT := tops_le xs a hane hcnt hl
    obtain ⟨f0, f1, f2, f3⟩ := stx_fields xs a
    have hspec : ∀ W sv v, a.In W v → Rd W sv xs → Calls Try.prog 10 #[.agg #[.int .i64 a.op, .int .i64 a.at_, .int .i64 a.n, .string a.s, v], sv] W fun e w' => ∃ su u S, e = .returned (.agg #[.int .i64 (stxD xs a).op, .int .i64 (stxD xs a).at_, .int .i64 (stxD xs a).n, .string (stxD xs a).s, su, u]) ∧ Below W.heap.size W w' ∧ XOwn w' (stxD xs a) su u S ∧ S.Nodup ∧ ∀ x ∈ S, W.heap.size ≤ x := by
      intro W sv v h h2
      rw [f0, f1, f2, f3]
      exact spec_stx_of xs HL.out a W v sv h h2 h1
    have himpl : ∀ W sv v, a.In W v → Rd W sv xs → Calls Try.prog 13 #[.agg #[.int .i64 a.op, .int .i64 a.at_, .int .i64 a.n, .string a.s, v], sv] W fun e w' => ∃ su u S, e = .returned (.agg #[.int .i64 (stxD xs a).op, .int .i64 (stxD xs a).at_, .int .i64 (stxD xs a).n, .string (stxD xs a).s, su, u]) ∧ Below W.heap.size W w' ∧ XOwn w' (stxD xs a) su u S ∧ S.Nodup ∧ ∀ x ∈ S, W.heap.size ≤ x := by
      intro W sv v h h2
      rw [f0, f1, f2, f3]
      exact impl_stx_of xs a v sv W h h2 HL.out hcnt
    clear f0 f1 f2 f3
    generalize stxD xs a = t at *
    have HSP : Hid (∀ W sv v, a.In W v → Rd W sv xs → Calls Try.prog 10 #[.agg #[.int .i64 a.op, .int .i64 a.at_, .int .i64 a.n, .string a.s, v], sv] W fun e w' => ∃ su u S, e = .returned (.agg #[.int .i64 t.op, .int .i64 t.at_, .int .i64 t.n, .string t.s, su, u]) ∧ Below W.heap.size W w' ∧ XOwn w' t su u S ∧ S.Nodup ∧ ∀ x ∈ S, W.heap.size ≤ x) := hspec
    have HIM : Hid (∀ W sv v, a.In W v → Rd W sv xs → Calls Try.prog 13 #[.agg #[.int .i64 a.op, .int .i64 a.at_, .int .i64 a.n, .string a.s, v], sv] W fun e w' => ∃ su u S, e = .returned (.agg #[.int .i64 t.op, .int .i64 t.at_, .int .i64 t.n, .string t.s, su, u]) ∧ Below W.heap.size W w' ∧ XOwn w' t su u S ∧ S.Nodup ∧ ∀ x ∈ S, W.heap.size ≤ x) := himpl
    have HST : Hid t.Small := hst
    have HTT : Hid (1 + t.tops ≤ 90000000000000) := hTT
    have HMA : Hid (1 + 4 * sumTo (fun j => (a.kid j).count) a.len ≤ 90000000000000 ∧ 1 + 4 * sumTo (fun j => (a.kid j).count) a.len ≤ 10000000) := HTA
    have HNB : Hid (Nd5 (w.alloc (.cells #[.int .i64 a.op, .int .i64 a.at_, .int .i64 a.n, .string a.s, .slice p a.len cap] 24)) w.heap.size a (.slice p a.len cap) 24 ∧ Below w.heap.size w (w.alloc (.cells #[.int .i64 a.op, .int .i64 a.at_, .int .i64 a.n, .string a.s, .slice p a.len cap] 24))) := ⟨hN0, hB0⟩
    clear hspec himpl hst hTT h1 hcnt hN0 hB0 hane HTA
    generalize 1048576 - a.weight = y1 at *
    go_enter Try.func3, Try.ntmps3
    go_wp2_with fail
    refine (sz_dat a _ _ 1048576 (HA.out _ HNB.out.2) (by omega)).mono ?_
    rintro e w1 ⟨rfl, hb1⟩
    rw [E1.out]
    have N1 : Hid (Nd5 w1 w.heap.size a (.slice p a.len cap) 24 ∧ Below w.heap.size w w1) := ⟨HNB.out.1.below hb1, HNB.out.2.trans (hb1.mono HNB.out.2.size)⟩
    obtain ⟨c0, c1, c2, c3, c4⟩ := N1.out.1.cells
    clear hb1 HNB
    go_wp2_with fail
    refine (to_dat_own a _ _ (HA.out _ N1.out.2) H1.out).mono ?_
    rintro e w2 ⟨x0, S0, rfl, hb2, hx0, -, -⟩
    have N2 : Hid (Nd5 w2 w.heap.size a (.slice p a.len cap) 24 ∧ Below w.heap.size w w2 ∧ DOwn w2 a x0 S0) := ⟨N1.out.1.below hb2, N1.out.2.trans (hb2.mono N1.out.2.size), hx0⟩
    clear hb2 hx0 N1 c0 c1 c2 c3 c4
    go_wp2_with fail
    refine (to_ints xs _ w2 (HV.out _ N2.out.2.1) HL.out).mono ?_
    rintro e w2b ⟨s0, rfl, hb2b, ho2b⟩
    have N2b : Hid (Nd5 w2b w.heap.size a (.slice p a.len cap) 24 ∧ Below w.heap.size w w2b ∧ a.In w2b x0 ∧ Rd w2b s0 xs) := ⟨N2.out.1.below hb2b, N2.out.2.1.trans (hb2b.mono N2.out.2.1.size), (N2.out.2.2.in' _).below hb2b, ho2b.rd⟩
    clear hb2b ho2b N2
    go_wp2_with fail
    refine (HSP.out w2b _ _ N2b.out.2.2.1 N2b.out.2.2.2).mono ?_
    rintro e w3 ⟨sw, vw, Sw, rfl, hb3, hw3, -, hS3⟩
    obtain ⟨pw, cw, hvw⟩ := hw3.at0.xs.shape
    obtain ⟨pws, cws, hsw⟩ := hw3.at0.sets.shape
    subst hvw hsw
    have Q1 : Hid (R1 w (w3.alloc (.cells #[.int .i64 t.op, .int .i64 t.at_, .int .i64 t.n, .string t.s, .slice pws t.set.length cws, .slice pw t.len cw] 29)) a t (.slice p a.len cap) (.slice pws t.set.length cws) (.slice pw t.len cw) w3.heap.size Sw) := R1.new N2b.out.2.1 N2b.out.1 hb3 hw3 hS3
    clear hb3 hw3 hS3 N2b
    obtain ⟨c0, c1, c2, c3, c4⟩ := Q1.out.arg.cells
    go_wp2_with fail
    refine (to_dat_own a _ _ (HA.out _ Q1.out.bel) H1.out).mono ?_
    rintro e w4 ⟨vx, Sx, rfl, hb4, hx4, hn4, hS4⟩
    obtain ⟨px, cx, hvx⟩ := hx4.sown.sl.shape
    subst hvx
    have Q2 : Hid (R2 w (w4.alloc (.cells #[.int .i64 a.op, .int .i64 a.at_, .int .i64 a.n, .string a.s, .slice px a.len cx] 33)) a t (.slice p a.len cap) (.slice pws t.set.length cws) (.slice pw t.len cw) (.slice px a.len cx) w3.heap.size w4.heap.size Sw Sx) := R2.new Q1.out hb4 hx4 hn4 hS4
    clear hb4 hx4 hn4 hS4 Q1 c0 c1 c2 c3 c4
    generalize w3.heap.size = gW at *
    go_wp2_with fail
    refine (to_ints xs _ _ (HV.out _ Q2.out.bel) HL.out).mono ?_
    rintro e w4b ⟨v1, rfl, hb4b, ho4b⟩
    obtain ⟨p1, c1', hv1⟩ := own_shape ho4b
    subst hv1
    have Q2b : Hid (R3 w w4b a t xs (.slice p a.len cap) (.slice pws t.set.length cws) (.slice pw t.len cw) (.slice px a.len cx) (.slice p1 xs.length c1') gW w4.heap.size w4b.heap.size Sw Sx) := R3.new Q2.out hb4b ho4b
    clear hb4b ho4b Q2
    generalize w4.heap.size = gX at *
    obtain ⟨c0, c1, c2, c3, c4⟩ := Q2b.out.bX.cells
    go_wp2_with fail
    refine (HIM.out _ _ _ (Q2b.out.oX.in' _) Q2b.out.i1.rd).mono ?_
    rintro e w5 ⟨sg, vg, Sg, rfl, hb5, hg5, hn5, hS5⟩
    obtain ⟨pg, cg, hvg⟩ := hg5.at0.xs.shape
    obtain ⟨pgs, cgs, hsg⟩ := hg5.at0.sets.shape
    subst hvg hsg
    have Q3 : Hid (R4 w (w5.alloc (.cells #[.int .i64 t.op, .int .i64 t.at_, .int .i64 t.n, .string t.s, .slice pgs t.set.length cgs, .slice pg t.len cg] 29)) a t xs (.slice p a.len cap) (.slice pws t.set.length cws) (.slice pw t.len cw) (.slice px a.len cx) (.slice p1 xs.length c1') (.slice pgs t.set.length cgs) (.slice pg t.len cg) gW gX w4b.heap.size w5.heap.size Sw Sx Sg) := R4.new Q2b.out hb5 hg5 hn5 hS5
    clear hb5 hg5 hn5 hS5 Q2b c0 c1 c2 c3 c4
    generalize w4b.heap.size = B1 at *
    obtain ⟨c0, c1, c2, c3, c4, c5⟩ := Q3.out.bG.cells
    obtain ⟨d0, d1, d2, d3, d4, d5⟩ := Q3.out.bW.cells
    go_wp2_with fail
    refine (eq_stx t _ _ _ _ _ Q3.out.oG.at0 Q3.out.oW.at0 HST.out).mono ?_
    rintro e w6 ⟨rfl, hb6⟩
    have Q6 : Hid (R4 w (w6) a t xs (.slice p a.len cap) (.slice pws t.set.length cws) (.slice pw t.len cw) (.slice px a.len cx) (.slice p1 xs.length c1') (.slice pgs t.set.length cgs) (.slice pg t.len cg) gW gX B1 w5.heap.size Sw Sx Sg) := Q3.out.below hb6
    clear hb6 Q3 c0 c1 c2 c3 c4 c5 d0 d1 d2 d3 d4 d5
    generalize w5.heap.size = gG at *
    obtain ⟨c0, c1, c2, c3, c4⟩ := Q6.out.bX.cells
    obtain ⟨d0, d1, d2, d3, d4⟩ := Q6.out.arg.cells
    go_upto_region 13 with fail
    go_cut [42] from 38 (fun z wx => z = .bool false ∧ R4 w (wx) a t xs (.slice p a.len cap) (.slice pws t.set.length cws) (.slice pw t.len cw) (.slice px a.len cx) (.slice p1 xs.length c1') (.slice pgs t.set.length cgs) (.slice pg t.len cg) gW gX B1 gG Sw Sx Sg)
    case first =>
      go_region_with (first
        | (go_at_call 11; refine (to_dat_own a _ _ (HA.out _ ?_) H1.out).mono ?_; exact Q6.out.bel.drew; rintro e w8 ⟨z, Sz, rfl, hb8, hin8, -, -⟩; have Q8 : Hid (R4 w (w8) a t xs (.slice p a.len cap) (.slice pws t.set.length cws) (.slice pw t.len cw) (.slice px a.len cx) (.slice p1 xs.length c1') (.slice pgs t.set.length cgs) (.slice pg t.len cg) gW gX B1 gG Sw Sx Sg ∧ a.In w8 z) := ⟨Q6.out.below ((Below.refl _ _).drew.trans hb8), hin8.in' _⟩; clear hb8 hin8; obtain ⟨q0, q1, q2, q3, q4⟩ := Q8.out.1.bX.cells)
        | (go_at_call 15; refine (eq_dat a _ _ _ (Q8.out.1.oX.in' _) Q8.out.2).mono ?_; rintro e w9 ⟨rfl, hb9⟩; have Q9 : Hid (R4 w (w9) a t xs (.slice p a.len cap) (.slice pws t.set.length cws) (.slice pw t.len cw) (.slice px a.len cx) (.slice p1 xs.length c1') (.slice pgs t.set.length cgs) (.slice pg t.len cg) gW gX B1 gG Sw Sx Sg) := Q8.out.1.below hb9; clear hb9))
      all_goals
        go_wp2_with fail
        go_meet
        exact ⟨rfl, Q9.out⟩
    case rest =>
    obtain ⟨rfl, hQ9⟩ := hcut
    have Q9 : Hid (R4 w (wc) a t xs (.slice p a.len cap) (.slice pws t.set.length cws) (.slice pw t.len cw) (.slice px a.len cx) (.slice p1 xs.length c1') (.slice pgs t.set.length cgs) (.slice pg t.len cg) gW gX B1 gG Sw Sx Sg) := hQ9
    clear hQ9 Q6 c0 c1 c2 c3 c4 d0 d1 d2 d3 d4
    go_wp2_with fail
    refine (to_ints xs _ _ (HV.out _ Q9.out.bel) HL.out).mono ?_
    rintro e w9b ⟨s9, rfl, hb9b, ho9b⟩
    have Q9b : Hid (R4 w (w9b) a t xs (.slice p a.len cap) (.slice pws t.set.length cws) (.slice pw t.len cw) (.slice px a.len cx) (.slice p1 xs.length c1') (.slice pgs t.set.length cgs) (.slice pg t.len cg) gW gX B1 gG Sw Sx Sg ∧ Rd w9b s9 xs) := ⟨Q9.out.below hb9b, ho9b.rd⟩
    clear hb9b ho9b Q9
    go_wp2_with fail
    refine (eq_ints xs xs _ _ w9b Q9b.out.1.i1.rd Q9b.out.2 HL.out HL.out).mono ?_
    rintro e w9c ⟨rfl, hb9c⟩
    rw [same_self]
    have Q9c : Hid (R4 w (w9c) a t xs (.slice p a.len cap) (.slice pws t.set.length cws) (.slice pw t.len cw) (.slice px a.len cx) (.slice p1 xs.length c1') (.slice pgs t.set.length cgs) (.slice pg t.len cg) gW gX B1 gG Sw Sx Sg) := Q9b.out.1.below hb9c
    clear hb9c Q9b
    obtain ⟨c0, c1, c2, c3, c4⟩ := Q9c.out.bX.cells
    go_wp2_with fail
    refine (mark_dat a _ _ Sx 1 Q9c.out.oX Q9c.out.nX (by omega) HMA.out.1).mono ?_
    rintro e w10 ⟨rfl, -, hf10⟩
    have Q10 : Hid (R5 w w10 a t xs (.slice p a.len cap) (.slice pws t.set.length cws) (.slice pw t.len cw) (.slice p1 xs.length c1') (.slice pgs t.set.length cgs) (.slice pg t.len cg) gW gX B1 gG Sw Sg) := Q9c.out.marked hf10
    clear hf10 Q9c c0 c1 c2 c3 c4
    obtain ⟨K1, hK1⟩ : ∃ K1, K1 = 1 + 4 * sumTo (fun j => (a.kid j).count) a.len := ⟨_, rfl⟩
    rw [← hK1]
    have hK1' : K1 ≤ 10000000 := by have := HMA.out.2; omega
    clear hK1
    go_wp2_with fail
    refine (mark_ints _ 0 xs K1 w10 Q10.out.i1 HL.out (by omega)).mono ?_
    rintro e w10b ⟨rfl, -, hg10⟩
    have Q10b : Hid (R6 w w10b a t (.slice p a.len cap) (.slice pws t.set.length cws) (.slice pw t.len cw) (.slice pgs t.set.length cgs) (.slice pg t.len cg) gW B1 gG Sw Sg) := Q10.out.marked hg10
    clear hg10 Q10
    obtain ⟨c0, c1, c2, c3, c4, c5⟩ := Q10b.out.bG.cells
    obtain ⟨d0, d1, d2, d3, d4, d5⟩ := Q10b.out.bW.cells
    generalize K1 + xs.length = kk at *
    have hkk : ¬ ((kk : Int) < 0) := by omega
    go_wp2_with fail
    refine (eq_stx t _ _ _ _ _ Q10b.out.oG.at0 Q10b.out.oW.at0 HST.out).mono ?_
    rintro e w11 ⟨rfl, hb11⟩
    have Q11 : Hid (R6 w w11 a t (.slice p a.len cap) (.slice pws t.set.length cws) (.slice pw t.len cw) (.slice pgs t.set.length cgs) (.slice pg t.len cg) gW B1 gG Sw Sg) := Q10b.out.below hb11
    clear hb11 Q10b c0 c1 c2 c3 c4 c5 d0 d1 d2 d3 d4 d5
    obtain ⟨c0, c1, c2, c3, c4, c5⟩ := Q11.out.bG.cells
    go_wp2_with fail
    refine (mark_stx t _ _ _ Sg 1 Q11.out.oG Q11.out.nG HST.out (by omega) HTT.out).mono ?_
    rintro e w12 ⟨rfl, hm12, hf12⟩
    have Q12 : Hid (R7 w w12 a t (.slice p a.len cap) (.slice pws t.set.length cws) (.slice pw t.len cw) (.slice pgs t.set.length cgs) (.slice pg t.len cg) gW gG Sw) := Q11.out.marked hf12 hm12
    clear hm12 hf12 Q11 c0 c1 c2 c3 c4 c5
    obtain ⟨c0, c1, c2, c3, c4, c5⟩ := Q12.out.bG.cells
    obtain ⟨MM, hMM⟩ : ∃ MM, MM = 1 + t.tops := ⟨_, rfl⟩
    rw [← hMM]
    have HMM : Hid (MM = 1 + t.tops) := hMM
    have hM0 : ¬ ((MM : Int) < 0) := by omega
    have hM1 : ((MM : Int) != (MM : Int)) = false := by simp
    clear hMM
    go_wp2_with fail
    refine (held_stx t _ pgs pg cgs cg 1 Q12.out.mG HST.out (by omega) HTT.out).mono ?_
    rintro e w13 ⟨rfl, hb13⟩
    rw [← HMM.out]
    have Q13 : Hid (R7 w w13 a t (.slice p a.len cap) (.slice pws t.set.length cws) (.slice pw t.len cw) (.slice pgs t.set.length cgs) (.slice pg t.len cg) gW gG Sw) := Q12.out.below hb13
    clear hb13 Q12 c0 c1 c2 c3 c4 c5
    obtain ⟨c0, c1, c2, c3, c4⟩ := Q13.out.arg.cells
    go_wp2_with fail
    refine (to_dat_own a _ _ (HA.out _ Q13.out.bel) H1.out).mono ?_
    rintro e w14 ⟨vy, Sy, rfl, hb14, hy14, -, -⟩
    have Q14 : Hid (R7 w w14 a t (.slice p a.len cap) (.slice pws t.set.length cws) (.slice pw t.len cw) (.slice pgs t.set.length cgs) (.slice pg t.len cg) gW gG Sw ∧ DOwn w14 a vy Sy) := ⟨Q13.out.below hb14, hy14⟩
    clear hb14 hy14 Q13 c0 c1 c2 c3 c4
    go_wp2_with fail
    refine (to_ints xs _ _ (HV.out _ Q14.out.1.bel) HL.out).mono ?_
    rintro e w14b ⟨sy, rfl, hb14b, ho14b⟩
    have Q14b : Hid (R7 w w14b a t (.slice p a.len cap) (.slice pws t.set.length cws) (.slice pw t.len cw) (.slice pgs t.set.length cgs) (.slice pg t.len cg) gW gG Sw ∧ a.In w14b vy ∧ Rd w14b sy xs) := ⟨Q14.out.1.below hb14b, (Q14.out.2.in' _).below hb14b, ho14b.rd⟩
    clear hb14b ho14b Q14
    go_wp2_with fail
    refine (HIM.out _ _ _ Q14b.out.2.1 Q14b.out.2.2).mono ?_
    rintro e w15 ⟨sh, vh, Sh, rfl, hb15, hh15, -, -⟩
    obtain ⟨ph, ch, hvh⟩ := hh15.at0.xs.shape
    obtain ⟨phs, chs, hsh⟩ := hh15.at0.sets.shape
    subst hvh hsh
    have hnb := newx w15 (.cells #[.int .i64 t.op, .int .i64 t.at_, .int .i64 t.n, .string t.s, .slice phs t.set.length chs, .slice ph t.len ch] 29)
    have Q15 : Hid (R7 w (w15.alloc (.cells #[.int .i64 t.op, .int .i64 t.at_, .int .i64 t.n, .string t.s, .slice phs t.set.length chs, .slice ph t.len ch] 29)) a t (.slice p a.len cap) (.slice pws t.set.length cws) (.slice pw t.len cw) (.slice pgs t.set.length cgs) (.slice pg t.len cg) gW gG Sw ∧ t.At 0 (w15.alloc (.cells #[.int .i64 t.op, .int .i64 t.at_, .int .i64 t.n, .string t.s, .slice phs t.set.length chs, .slice ph t.len ch] 29)) (.slice phs t.set.length chs) (.slice ph t.len ch)) := ⟨(Q14b.out.1.below hb15).below hnb, X.At.below hnb hh15.at0⟩
    clear hb15 hh15 hnb Q14b
    obtain ⟨d0, d1, d2, d3, d4, d5⟩ := Q15.out.1.bW.cells
    go_wp2_with fail
    refine (eq_stx t _ _ _ _ _ Q15.out.2 Q15.out.1.oW.at0 HST.out).mono ?_
    rintro e w16 ⟨rfl, hb16⟩
    have Q16 : Hid (R7 w w16 a t (.slice p a.len cap) (.slice pws t.set.length cws) (.slice pw t.len cw) (.slice pgs t.set.length cgs) (.slice pg t.len cg) gW gG Sw) := Q15.out.1.below hb16
    clear hb16 Q15 d0 d1 d2 d3 d4 d5
    obtain ⟨c0, c1, c2, c3, c4, c5⟩ := Q16.out.bG.cells
    go_wp2_with fail
    refine (held_stx t _ pgs pg cgs cg 1 Q16.out.mG HST.out (by omega) HTT.out).mono ?_
    rintro e w17 ⟨rfl, hb17⟩
    rw [← HMM.out]
    have Q17 : Hid (Below w.heap.size w w17) := Q16.out.bel.trans (hb17.mono Q16.out.bel.size)
    clear hb17 Q16 c0 c1 c2 c3 c4 c5
    go_wp2_with fail
    go_ret
    exact ⟨rfl, Q17.out⟩
  · have E1 : Hid (szR 1048576 a.weight = -1) := szR_no (by omega)
    have HNB : Hid (Below w.heap.size w (w.alloc (.cells #[.int .i64 a.op, .int .i64 a.at_, .int .i64 a.n, .string a.s, .slice p a.len cap] 24))) := hB0
    clear hN0 hB0 h1
    go_enter Try.func3, Try.ntmps3
    go_wp2_with fail
    refine (sz_dat a _ _ 1048576 (HA.out _ HNB.out) (by omega)).mono ?_
    rintro e w1 ⟨rfl, hb1⟩
    rw [E1.out]
    have B1 : Hid (Below w.heap.size w w1) := HNB.out.trans (hb1.mono HNB.out.size)
    clear hb1
    go_wp2_with fail
    go_ret
    exact ⟨rfl, B1.out⟩

theorem walk_out (a : D) (p : Option Addr) (cap : Nat) (u : Value) (len : Nat) (p0 : Option Addr) (c0 : Nat) (w : World) (hu : u = .slice p a.len cap) (hl : ¬ len ≤ 1048576) :
    Calls Try.prog 3 #[.agg #[.int .i64 a.op, .int .i64 a.at_, .int .i64 a.n, .string a.s, u], .slice p0 len c0] w fun e w' => e = .returned (.bool true) ∧ Below w.heap.size w w' := by
  subst hu
  have hb0 : (1048576 : Int) < len := by omega
  have HB : Hid (∀ o, Below w.heap.size w (w.alloc o)) := fun o => newx w o
  go_enter Try.func3, Try.ntmps3
  go_wp2_with fail
  go_ret
  exact ⟨rfl, HB.out _⟩
end Go.Proofs.Ytoifhaakieigcaa.fnExactStxOf
