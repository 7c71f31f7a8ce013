/- What stands while laws.FnExactDatOf runs: the argument, what was asked for, what was handed in and what came out. No conditions. -/
import Derived.Test.YtoifhaakieigcaaMarkTop
import Derived.Test.YtoifhaakieigcaaMarkTopD
import Derived.Test.YtoifhaakieigcaaSzStx
import Derived.Test.YtoifhaakieigcaaToStxOwn
import Derived.Test.YtoifhaakieigcaaEqStx
import Derived.Test.YtoifhaakieigcaaEqDat
import Derived.Test.YtoifhaakieigcaaStxOpen
namespace Go.Proofs.Ytoifhaakieigcaa
open Go.ChangeShapes Go.WideShapes Go.ChangeAt Go.RowKit

/-- A node in a block. -/
abbrev Nd (W : World) (g : Nat) (t : X) (sv v : Value) (ty : TypeId) : Prop := Six W g t.op t.at_ t.n t.s sv v ty

/-- Block g stays where the blocks S alone turn. -/
theorem Six.frx {W W' : World} {S : List Nat} {g : Nat} {a b c : Int} {s : ByteArray} {u v : Value} {ty : TypeId} (h : Six W g a b c s u v ty) (hf : FrX W W' S) (hg : g ∉ S) : Six W' g a b c s u v ty := (hf.block g h.lt hg).trans h

/-- A datum in a block. -/
abbrev Nd5 (W : World) (g : Nat) (t : D) (v : Value) : Prop := Five W g t.op t.at_ t.n t.s v 33
theorem Five.frx5 {W W' : World} {S : List Nat} {g : Nat} {a b c : Int} {s : ByteArray} {v : Value} {ty : TypeId} (h : Five W g a b c s v ty) (hf : FrX W W' S) (hg : g ∉ S) : Five W' g a b c s v ty := (hf.block g h.lt hg).trans h

/-- The argument, and what was asked for. -/
structure PD1 (w W : World) (a : X) (t : D) (su u vw : Value) (gW : Nat) (Sw : List Nat) : Prop where
  bel : Below w.heap.size w W
  arg : Nd W w.heap.size a su u 45
  bW : Nd5 W gW t vw
  oW : DOwn W t vw Sw
  rW : ∀ x ∈ Sw, w.heap.size < x ∧ x < gW
  lW : w.heap.size < gW
theorem PD1.below {w W W' : World} {a : X} {t : D} {su u vw : Value} {gW : Nat} {Sw : List Nat} (h : PD1 w W a t su u vw gW Sw) (hb : Below W.heap.size W W') : PD1 w W' a t su u vw gW Sw :=
  ⟨h.bel.trans (hb.mono h.bel.size), h.arg.below hb, h.bW.below hb, h.oW.same _ (fun g hg => hb.block g (h.oW.there _ g hg)), h.rW, h.lW⟩
/-- .. where newer blocks alone turn. -/
theorem PD1.frx {w W W' : World} {a : X} {t : D} {su u vw : Value} {gW : Nat} {Sw S : List Nat} (h : PD1 w W a t su u vw gW Sw) (hf : FrX W W' S) (hS : ∀ x ∈ S, gW < x) : PD1 w W' a t su u vw gW Sw := by
  have hl := h.lW
  have hws := h.bel.size
  exact ⟨⟨hf.os.trans h.bel.os, hf.tape.trans h.bel.tape, hf.output.trans h.bel.output, Nat.le_trans h.bel.size hf.size, fun x hx => (hf.block x (by omega) (fun hc => by have := hS x hc; omega)).trans (h.bel.block x hx)⟩,
    h.arg.frx hf (fun hc => by have := hS _ hc; omega), h.bW.frx5 hf (fun hc => by have := hS _ hc; omega), h.oW.same _ (fun g hg => hf.block g (h.oW.there _ g hg) (fun hc => by have := hS g hc; have := (h.rW g hg).2; omega)), h.rW, h.lW⟩

/-- .. and what was handed in. -/
structure PD2 (w W : World) (a : X) (t : D) (su u vw sx vx : Value) (gW gX : Nat) (Sw Sx : List Nat) : Prop extends PD1 w W a t su u vw gW Sw where
  bX : Nd W gX a sx vx 29
  oX : XOwn W a sx vx Sx
  nX : Sx.Nodup
  rX : ∀ x ∈ Sx, gW < x ∧ x < gX
  lX : gW < gX
theorem PD2.below {w W W' : World} {a : X} {t : D} {su u vw sx vx : Value} {gW gX : Nat} {Sw Sx : List Nat} (h : PD2 w W a t su u vw sx vx gW gX Sw Sx) (hb : Below W.heap.size W W') : PD2 w W' a t su u vw sx vx gW gX Sw Sx :=
  ⟨h.toPD1.below hb, h.bX.below hb, h.oX.same _ (fun g hg => hb.block g (h.oX.there _ g hg)), h.nX, h.rX, h.lX⟩

/-- .. and what came out. -/
structure PD3 (w W : World) (a : X) (t : D) (su u vw sx vx vg : Value) (gW gX gG : Nat) (Sw Sx Sg : List Nat) : Prop extends PD2 w W a t su u vw sx vx gW gX Sw Sx where
  bG : Nd5 W gG t vg
  oG : DOwn W t vg Sg
  nG : Sg.Nodup
  rG : ∀ x ∈ Sg, gX < x ∧ x < gG
  lG : gX < gG
theorem PD3.below {w W W' : World} {a : X} {t : D} {su u vw sx vx vg : Value} {gW gX gG : Nat} {Sw Sx Sg : List Nat} (h : PD3 w W a t su u vw sx vx vg gW gX gG Sw Sx Sg) (hb : Below W.heap.size W W') : PD3 w W' a t su u vw sx vx vg gW gX gG Sw Sx Sg :=
  ⟨h.toPD2.below hb, h.bG.below hb, h.oG.same _ (fun g hg => hb.block g (h.oG.there _ g hg)), h.nG, h.rG, h.lG⟩

/-- What was handed in has been marked. -/
structure PD4 (w W : World) (a : X) (t : D) (su u vw vg : Value) (gW gX gG : Nat) (Sw Sg : List Nat) : Prop extends PD1 w W a t su u vw gW Sw where
  bG : Nd5 W gG t vg
  oG : DOwn W t vg Sg
  nG : Sg.Nodup
  rG : ∀ x ∈ Sg, gX < x ∧ x < gG
  lX : gW < gX
  lG : gX < gG
theorem PD3.marked {w W W' : World} {a : X} {t : D} {su u vw sx vx vg : Value} {gW gX gG : Nat} {Sw Sx Sg : List Nat} (h : PD3 w W a t su u vw sx vx vg gW gX gG Sw Sx Sg) (hf : FrX W W' Sx) : PD4 w W' a t su u vw vg gW gX gG Sw Sg :=
  ⟨h.toPD1.frx hf (fun x hx => (h.rX x hx).1), h.bG.frx5 hf (fun hc => by have := (h.rX _ hc).2; have := h.lG; omega), h.oG.same _ (fun g hg => hf.block g (h.oG.there _ g hg) (fun hc => by have := (h.rX g hc).2; have := (h.rG g hg).1; omega)), h.nG, h.rG, h.lX, h.lG⟩
theorem PD4.below {w W W' : World} {a : X} {t : D} {su u vw vg : Value} {gW gX gG : Nat} {Sw Sg : List Nat} (h : PD4 w W a t su u vw vg gW gX gG Sw Sg) (hb : Below W.heap.size W W') : PD4 w W' a t su u vw vg gW gX gG Sw Sg :=
  ⟨h.toPD1.below hb, h.bG.below hb, h.oG.same _ (fun g hg => hb.block g (h.oG.there _ g hg)), h.nG, h.rG, h.lX, h.lG⟩

/-- What came out has been marked, too. -/
structure PD5 (w W : World) (a : X) (t : D) (su u vw vg : Value) (gW gG : Nat) (Sw : List Nat) : Prop extends PD1 w W a t su u vw gW Sw where
  bG : Nd5 W gG t vg
  mG : Sl W t.len (markK t.kid 1) vg
theorem PD4.marked {w W W' : World} {a : X} {t : D} {su u vw vg : Value} {gW gX gG : Nat} {Sw Sg : List Nat} (h : PD4 w W a t su u vw vg gW gX gG Sw Sg) (hf0 : FrS W W' Sg) (hm : Sl W' t.len (markK t.kid 1) vg) : PD5 w W' a t su u vw vg gW gG Sw := by
  have hf : FrX W W' Sg := ⟨hf0.os, hf0.tape, hf0.output, hf0.size, hf0.block⟩
  exact ⟨h.toPD1.frx hf (fun x hx => by have := (h.rG x hx).1; have := h.lX; omega), h.bG.frx5 hf (fun hc => by have := (h.rG _ hc).2; omega), hm⟩
theorem PD5.below {w W W' : World} {a : X} {t : D} {su u vw vg : Value} {gW gG : Nat} {Sw : List Nat} (h : PD5 w W a t su u vw vg gW gG Sw) (hb : Below W.heap.size W W') : PD5 w W' a t su u vw vg gW gG Sw :=
  ⟨h.toPD1.below hb, h.bG.below hb, h.mG.below hb⟩

theorem PD1.new {w W2 w3 : World} {a : X} {t : D} {su u vw : Value} {Sw : List Nat} (hb2 : Below w.heap.size w W2) (ha : Nd W2 w.heap.size a su u 45) (hb : Below W2.heap.size W2 w3) (ho : DOwn w3 t vw Sw) (hS : ∀ x ∈ Sw, W2.heap.size ≤ x) :
    PD1 w (w3.alloc (.cells #[.int .i64 t.op, .int .i64 t.at_, .int .i64 t.n, .string t.s, vw] 33)) a t su u vw w3.heap.size Sw := by
  have hn := newx w3 (.cells #[.int .i64 t.op, .int .i64 t.at_, .int .i64 t.n, .string t.s, vw] 33)
  have hl := ha.lt
  have hbs := hb.size
  exact ⟨(hb2.trans (hb.mono hb2.size)).trans (hn.mono (by omega)), (ha.below hb).below hn, heap_alloc_new w3 _, ho.same _ (fun g hg => hn.block g (ho.there _ g hg)), fun x hx => ⟨by have := hS x hx; omega, ho.there _ x hx⟩, by omega⟩
theorem PD2.new {w W w3 : World} {a : X} {t : D} {su u vw sx vx : Value} {gW : Nat} {Sw Sx : List Nat} (h : PD1 w W a t su u vw gW Sw) (hb : Below W.heap.size W w3) (ho : XOwn w3 a sx vx Sx) (hn : Sx.Nodup) (hS : ∀ x ∈ Sx, W.heap.size ≤ x) :
    PD2 w (w3.alloc (.cells #[.int .i64 a.op, .int .i64 a.at_, .int .i64 a.n, .string a.s, sx, vx] 29)) a t su u vw sx vx gW w3.heap.size Sw Sx := by
  have hb2 := newx w3 (.cells #[.int .i64 a.op, .int .i64 a.at_, .int .i64 a.n, .string a.s, sx, vx] 29)
  have hl := h.bW.lt
  have hbs := hb.size
  exact ⟨(h.below hb).below hb2, heap_alloc_new w3 _, ho.same _ (fun g hg => hb2.block g (ho.there _ g hg)), hn, fun x hx => ⟨by have := hS x hx; omega, ho.there _ x hx⟩, by omega⟩
theorem PD3.new {w W w3 : World} {a : X} {t : D} {su u vw sx vx vg : Value} {gW gX : Nat} {Sw Sx Sg : List Nat} (h : PD2 w W a t su u vw sx vx gW gX Sw Sx) (hb : Below W.heap.size W w3) (ho : DOwn w3 t vg Sg) (hn : Sg.Nodup) (hS : ∀ x ∈ Sg, W.heap.size ≤ x) :
    PD3 w (w3.alloc (.cells #[.int .i64 t.op, .int .i64 t.at_, .int .i64 t.n, .string t.s, vg] 33)) a t su u vw sx vx vg gW gX w3.heap.size Sw Sx Sg := by
  have hb2 := newx w3 (.cells #[.int .i64 t.op, .int .i64 t.at_, .int .i64 t.n, .string t.s, vg] 33)
  have hl := h.bX.lt
  have hbs := hb.size
  exact ⟨(h.below hb).below hb2, heap_alloc_new w3 _, ho.same _ (fun g hg => hb2.block g (ho.there _ g hg)), hn, fun x hx => ⟨by have := hS x hx; omega, ho.there _ x hx⟩, by omega⟩
end Go.Proofs.Ytoifhaakieigcaa
