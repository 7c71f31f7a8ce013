/- What stands while laws.FnExactStxOf runs: the arguments, what was asked for, what was handed in and what came out. No conditions. -/
import Derived.Test.YtoifhaakieigcaaMarkTop
import Derived.Test.YtoifhaakieigcaaMarkTopD
import Derived.Test.YtoifhaakieigcaaSzDat
import Derived.Test.YtoifhaakieigcaaToDatOwn
import Derived.Test.YtoifhaakieigcaaEqStx
import Derived.Test.YtoifhaakieigcaaEqDat
namespace Go.Proofs.Ytoifhaakieigcaa
open Go.ChangeShapes Go.WideShapes Go.ChangeAt Go.RowKit

abbrev Nd (W : World) (g : Nat) (t : X) (sv v : Value) (ty : TypeId) : Prop := Six W g t.op t.at_ t.n t.s sv v ty
abbrev Nd5 (W : World) (g : Nat) (t : D) (v : Value) (ty : TypeId) : Prop := Five W g t.op t.at_ t.n t.s v ty
theorem Six.frx {W W' : World} {S : List Nat} {g : Nat} {a b c : Int} {s : ByteArray} {u v : Value} {ty : TypeId} (h : Six W g a b c s u v ty) (hf : FrX W W' S) (hg : g ∉ S) : Six W' g a b c s u v ty := (hf.block g h.lt hg).trans h
theorem Five.frx {W W' : World} {S : List Nat} {g : Nat} {a b c : Int} {s : ByteArray} {v : Value} {ty : TypeId} (h : Five W g a b c s v ty) (hf : FrX W W' S) (hg : g ∉ S) : Five W' g a b c s v ty := (hf.block g h.lt hg).trans h
theorem FrS.frx {W W' : World} {S : List Nat} (h : FrS W W' S) : FrX W W' S := ⟨h.os, h.tape, h.output, h.size, h.block⟩

/-- The argument, and what was asked for. -/
structure R1 (w W : World) (a : D) (t : X) (u sw vw : Value) (gW : Nat) (Sw : List Nat) : Prop where
  bel : Below w.heap.size w W
  arg : Nd5 W w.heap.size a u 24
  bW : Nd W gW t sw vw 29
  oW : XOwn W t sw vw Sw
  rW : ∀ x ∈ Sw, w.heap.size < x ∧ x < gW
  lW : w.heap.size < gW
theorem R1.below {w W W' : World} {a : D} {t : X} {u sw vw : Value} {gW : Nat} {Sw : List Nat} (h : R1 w W a t u sw vw gW Sw) (hb : Below W.heap.size W W') : R1 w W' a t u sw vw gW Sw :=
  ⟨h.bel.trans (hb.mono h.bel.size), h.arg.below hb, h.bW.below hb, h.oW.same _ (fun g hg => hb.block g (h.oW.there _ g hg)), h.rW, h.lW⟩
theorem R1.frx {w W W' : World} {a : D} {t : X} {u sw vw : Value} {gW : Nat} {Sw S : List Nat} (h : R1 w W a t u sw vw gW Sw) (hf : FrX W W' S) (hS : ∀ x ∈ S, gW < x) : R1 w W' a t u sw vw gW Sw := by
  have hl := h.lW
  have hws := h.bel.size
  exact ⟨⟨hf.os.trans h.bel.os, hf.tape.trans h.bel.tape, hf.output.trans h.bel.output, Nat.le_trans h.bel.size hf.size, fun x hx => (hf.block x (by omega) (fun hc => by have := hS x hc; omega)).trans (h.bel.block x hx)⟩,
    h.arg.frx hf (fun hc => by have := hS _ hc; omega), h.bW.frx hf (fun hc => by have := hS _ hc; omega), h.oW.same _ (fun g hg => hf.block g (h.oW.there _ g hg) (fun hc => by have := hS g hc; have := (h.rW g hg).2; omega)), h.rW, h.lW⟩

/-- .. and what was handed in: the datum. -/
structure R2 (w W : World) (a : D) (t : X) (u sw vw vx : Value) (gW gX : Nat) (Sw Sx : List Nat) : Prop extends R1 w W a t u sw vw gW Sw where
  bX : Nd5 W gX a vx 33
  oX : DOwn W a vx Sx
  nX : Sx.Nodup
  rX : ∀ x ∈ Sx, gW < x ∧ x < gX
  lX : gW < gX
theorem R2.below {w W W' : World} {a : D} {t : X} {u sw vw vx : Value} {gW gX : Nat} {Sw Sx : List Nat} (h : R2 w W a t u sw vw vx gW gX Sw Sx) (hb : Below W.heap.size W W') : R2 w W' a t u sw vw vx gW gX Sw Sx :=
  ⟨h.toR1.below hb, h.bX.below hb, h.oX.same _ (fun g hg => hb.block g (h.oX.there _ g hg)), h.nX, h.rX, h.lX⟩

/-- .. and the set. -/
structure R3 (w W : World) (a : D) (t : X) (xs : List Int) (u sw vw vx v1 : Value) (gW gX B1 : Nat) (Sw Sx : List Nat) : Prop extends R2 w W a t u sw vw vx gW gX Sw Sx where
  i1 : Own W 0 v1 xs
  r1 : ∀ g, v1.ownBlock = some g → gX < g ∧ g < B1
  l1 : gX < B1 ∧ B1 ≤ W.heap.size
theorem R3.below {w W W' : World} {a : D} {t : X} {xs : List Int} {u sw vw vx v1 : Value} {gW gX B1 : Nat} {Sw Sx : List Nat} (h : R3 w W a t xs u sw vw vx v1 gW gX B1 Sw Sx) (hb : Below W.heap.size W W') : R3 w W' a t xs u sw vw vx v1 gW gX B1 Sw Sx :=
  ⟨h.toR2.below hb, h.i1.below hb, h.r1, h.l1.1, Nat.le_trans h.l1.2 hb.size⟩

/-- .. and what came out. -/
structure R4 (w W : World) (a : D) (t : X) (xs : List Int) (u sw vw vx v1 sg vg : Value) (gW gX B1 gG : Nat) (Sw Sx Sg : List Nat) : Prop extends R3 w W a t xs u sw vw vx v1 gW gX B1 Sw Sx where
  bG : Nd W gG t sg vg 29
  oG : XOwn W t sg vg Sg
  nG : Sg.Nodup
  rG : ∀ x ∈ Sg, B1 ≤ x ∧ x < gG
  lG : B1 ≤ gG
theorem R4.below {w W W' : World} {a : D} {t : X} {xs : List Int} {u sw vw vx v1 sg vg : Value} {gW gX B1 gG : Nat} {Sw Sx Sg : List Nat} (h : R4 w W a t xs u sw vw vx v1 sg vg gW gX B1 gG Sw Sx Sg) (hb : Below W.heap.size W W') : R4 w W' a t xs u sw vw vx v1 sg vg gW gX B1 gG Sw Sx Sg :=
  ⟨h.toR3.below hb, h.bG.below hb, h.oG.same _ (fun g hg => hb.block g (h.oG.there _ g hg)), h.nG, h.rG, h.lG⟩

/-- The datum that was handed in has been marked. -/
structure R5 (w W : World) (a : D) (t : X) (xs : List Int) (u sw vw v1 sg vg : Value) (gW gX B1 gG : Nat) (Sw Sg : List Nat) : Prop extends R1 w W a t u sw vw gW Sw where
  i1 : Own W 0 v1 xs
  r1 : ∀ g, v1.ownBlock = some g → gX < g ∧ g < B1
  bG : Nd W gG t sg vg 29
  oG : XOwn W t sg vg Sg
  nG : Sg.Nodup
  rG : ∀ x ∈ Sg, B1 ≤ x ∧ x < gG
  ls : gW < gX ∧ gX < B1 ∧ B1 ≤ gG
theorem R4.marked {w W W' : World} {a : D} {t : X} {xs : List Int} {u sw vw vx v1 sg vg : Value} {gW gX B1 gG : Nat} {Sw Sx Sg : List Nat} (h : R4 w W a t xs u sw vw vx v1 sg vg gW gX B1 gG Sw Sx Sg) (hf0 : FrS W W' Sx) : R5 w W' a t xs u sw vw v1 sg vg gW gX B1 gG Sw Sg := by
  have hf := hf0.frx
  have h1 := h.l1.1
  have h2 := h.lG
  exact ⟨h.toR1.frx hf (fun x hx => (h.rX x hx).1), h.i1.sameX (fun g hg => hf.block g (World.ownsRow.lt h.i1 g hg).2 (fun hc => by have := (h.rX g hc).2; have := (h.r1 g hg).1; omega)), h.r1, h.bG.frx hf (fun hc => by have := (h.rX _ hc).2; omega), h.oG.same _ (fun g hg => hf.block g (h.oG.there _ g hg) (fun hc => by have := (h.rX g hc).2; have := (h.rG g hg).1; omega)), h.nG, h.rG, h.lX, h1, h2⟩
theorem R5.below {w W W' : World} {a : D} {t : X} {xs : List Int} {u sw vw v1 sg vg : Value} {gW gX B1 gG : Nat} {Sw Sg : List Nat} (h : R5 w W a t xs u sw vw v1 sg vg gW gX B1 gG Sw Sg) (hb : Below W.heap.size W W') : R5 w W' a t xs u sw vw v1 sg vg gW gX B1 gG Sw Sg :=
  ⟨h.toR1.below hb, h.i1.below hb, h.r1, h.bG.below hb, h.oG.same _ (fun g hg => hb.block g (h.oG.there _ g hg)), h.nG, h.rG, h.ls⟩

/-- The set, too. -/
structure R6 (w W : World) (a : D) (t : X) (u sw vw sg vg : Value) (gW B1 gG : Nat) (Sw Sg : List Nat) : Prop extends R1 w W a t u sw vw gW Sw where
  bG : Nd W gG t sg vg 29
  oG : XOwn W t sg vg Sg
  nG : Sg.Nodup
  rG : ∀ x ∈ Sg, B1 ≤ x ∧ x < gG
  ls : gW < B1 ∧ B1 ≤ gG
theorem R5.marked {w W W' : World} {a : D} {t : X} {xs : List Int} {u sw vw v1 sg vg : Value} {gW gX B1 gG : Nat} {Sw Sg : List Nat} (h : R5 w W a t xs u sw vw v1 sg vg gW gX B1 gG Sw Sg) (hg1 : W.grownBy W' v1.ownBlock) : R6 w W' a t u sw vw sg vg gW B1 gG Sw Sg := by
  have hf : FrX W W' v1.ownBlock.toList := FrX.grown hg1 (fun g hg => hg)
  obtain ⟨h1, h2, h3⟩ := h.ls
  exact ⟨h.toR1.frx hf (fun x hx => by have := (h.r1 x (by simpa using hx)).1; omega), h.bG.frx hf (fun hc => by have := (h.r1 _ (by simpa using hc)).2; omega), h.oG.same _ (fun g hg => hf.block g (h.oG.there _ g hg) (fun hc => by have := (h.r1 g (by simpa using hc)).2; have := (h.rG g hg).1; omega)), h.nG, h.rG, by omega, h3⟩
theorem R6.below {w W W' : World} {a : D} {t : X} {u sw vw sg vg : Value} {gW B1 gG : Nat} {Sw Sg : List Nat} (h : R6 w W a t u sw vw sg vg gW B1 gG Sw Sg) (hb : Below W.heap.size W W') : R6 w W' a t u sw vw sg vg gW B1 gG Sw Sg :=
  ⟨h.toR1.below hb, h.bG.below hb, h.oG.same _ (fun g hg => hb.block g (h.oG.there _ g hg)), h.nG, h.rG, h.ls⟩

/-- What came out has been marked. -/
structure R7 (w W : World) (a : D) (t : X) (u sw vw sg vg : Value) (gW gG : Nat) (Sw : List Nat) : Prop extends R1 w W a t u sw vw gW Sw where
  bG : Nd W gG t sg vg 29
  mG : Marked W t sg vg 1
theorem R6.marked {w W W' : World} {a : D} {t : X} {u sw vw sg vg : Value} {gW B1 gG : Nat} {Sw Sg : List Nat} (h : R6 w W a t u sw vw sg vg gW B1 gG Sw Sg) (hf : FrX W W' Sg) (hm : Marked W' t sg vg 1) : R7 w W' a t u sw vw sg vg gW gG Sw :=
  ⟨h.toR1.frx hf (fun x hx => by have := (h.rG x hx).1; have := h.ls.1; omega), h.bG.frx hf (fun hc => by have := (h.rG _ hc).2; omega), hm⟩
theorem R7.below {w W W' : World} {a : D} {t : X} {u sw vw sg vg : Value} {gW gG : Nat} {Sw : List Nat} (h : R7 w W a t u sw vw sg vg gW gG Sw) (hb : Below W.heap.size W W') : R7 w W' a t u sw vw sg vg gW gG Sw :=
  ⟨h.toR1.below hb, h.bG.below hb, h.mG.below hb⟩

theorem R1.new {w W2 w3 : World} {a : D} {t : X} {u sw vw : Value} {Sw : List Nat} (hb2 : Below w.heap.size w W2) (ha : Nd5 W2 w.heap.size a u 24) (hb : Below W2.heap.size W2 w3) (ho : XOwn w3 t sw vw Sw) (hS : ∀ x ∈ Sw, W2.heap.size ≤ x) :
    R1 w (w3.alloc (.cells #[.int .i64 t.op, .int .i64 t.at_, .int .i64 t.n, .string t.s, sw, vw] 29)) a t u sw vw w3.heap.size Sw := by
  have hn := newx w3 (.cells #[.int .i64 t.op, .int .i64 t.at_, .int .i64 t.n, .string t.s, sw, vw] 29)
  have hl := ha.lt
  have hbs := hb.size
  exact ⟨(hb2.trans (hb.mono hb2.size)).trans (hn.mono (by omega)), (ha.below hb).below hn, heap_alloc_new w3 _, ho.same _ (fun g hg => hn.block g (ho.there _ g hg)), fun x hx => ⟨by have := hS x hx; omega, ho.there _ x hx⟩, by omega⟩
theorem R2.new {w W w3 : World} {a : D} {t : X} {u sw vw vx : Value} {gW : Nat} {Sw Sx : List Nat} (h : R1 w W a t u sw vw gW Sw) (hb : Below W.heap.size W w3) (ho : DOwn w3 a vx Sx) (hn : Sx.Nodup) (hS : ∀ x ∈ Sx, W.heap.size ≤ x) :
    R2 w (w3.alloc (.cells #[.int .i64 a.op, .int .i64 a.at_, .int .i64 a.n, .string a.s, vx] 33)) a t u sw vw vx gW w3.heap.size Sw Sx := by
  have hb2 := newx w3 (.cells #[.int .i64 a.op, .int .i64 a.at_, .int .i64 a.n, .string a.s, vx] 33)
  have hl := h.bW.lt
  have hbs := hb.size
  exact ⟨(h.below hb).below hb2, heap_alloc_new w3 _, ho.same _ (fun g hg => hb2.block g (ho.there _ g hg)), hn, fun x hx => ⟨by have := hS x hx; omega, ho.there _ x hx⟩, by omega⟩
theorem R3.new {w W w3 : World} {a : D} {t : X} {xs : List Int} {u sw vw vx v1 : Value} {gW gX : Nat} {Sw Sx : List Nat} (h : R2 w W a t u sw vw vx gW gX Sw Sx) (hb : Below W.heap.size W w3) (ho : Own w3 W.heap.size v1 xs) : R3 w w3 a t xs u sw vw vx v1 gW gX w3.heap.size Sw Sx := by
  have hl := h.bX.lt
  have hbs := hb.size
  exact ⟨h.below hb, ho.mono (Nat.zero_le _), fun g hg => by have := World.ownsRow.lt ho g hg; omega, by omega, Nat.le_refl _⟩
theorem R4.new {w W w3 : World} {a : D} {t : X} {xs : List Int} {u sw vw vx v1 sg vg : Value} {gW gX B1 : Nat} {Sw Sx Sg : List Nat} (h : R3 w W a t xs u sw vw vx v1 gW gX B1 Sw Sx) (hb : Below W.heap.size W w3) (ho : XOwn w3 t sg vg Sg) (hn : Sg.Nodup) (hS : ∀ x ∈ Sg, W.heap.size ≤ x) :
    R4 w (w3.alloc (.cells #[.int .i64 t.op, .int .i64 t.at_, .int .i64 t.n, .string t.s, sg, vg] 29)) a t xs u sw vw vx v1 sg vg gW gX B1 w3.heap.size Sw Sx Sg := by
  have hb2 := newx w3 (.cells #[.int .i64 t.op, .int .i64 t.at_, .int .i64 t.n, .string t.s, sg, vg] 29)
  have hl := h.l1
  have hbs := hb.size
  exact ⟨(h.below hb).below hb2, heap_alloc_new w3 _, ho.same _ (fun g hg => hb2.block g (ho.there _ g hg)), hn, fun x hx => ⟨by have := hS x hx; omega, ho.there _ x hx⟩, by omega⟩
end Go.Proofs.Ytoifhaakieigcaa
