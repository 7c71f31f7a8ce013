/- What stands while laws.FnExactFlipAll and FnExactWithAll run: the argument, what was asked for, what was handed in and what came out. No conditions. -/
import Derived.Test.YtoifhaakieigcaaMarkTop
import Derived.Test.YtoifhaakieigcaaSzStx
import Derived.Test.YtoifhaakieigcaaToStxOwn
import Derived.Test.YtoifhaakieigcaaEqStx
import Derived.Test.YtoifhaakieigcaaStxOpen
namespace Go.Proofs.Ytoifhaakieigcaa
open Go.ChangeShapes Go.WideShapes Go.ChangeAt Go.RowKit

/-- A node in a block. -/
abbrev Nd (W : World) (g : Nat) (t : X) (sv v : Value) (ty : TypeId) : Prop := Six W g t.op t.at_ t.n t.s sv v ty

/-- Block g stays where the blocks S alone turn. -/
theorem Six.frx {W W' : World} {S : List Nat} {g : Nat} {a b c : Int} {s : ByteArray} {u v : Value} {ty : TypeId} (h : Six W g a b c s u v ty) (hf : FrX W W' S) (hg : g ∉ S) : Six W' g a b c s u v ty := (hf.block g h.lt hg).trans h

/-- The argument, and what was asked for. -/
structure P1 (w W : World) (a t : X) (su u sw vw : Value) (gW : Nat) (Sw : List Nat) : Prop where
  bel : Below w.heap.size w W
  arg : Nd W w.heap.size a su u 45
  bW : Nd W gW t sw vw 29
  oW : XOwn W t sw vw Sw
  rW : ∀ x ∈ Sw, w.heap.size < x ∧ x < gW
  lW : w.heap.size < gW
theorem P1.below {w W W' : World} {a t : X} {su u sw vw : Value} {gW : Nat} {Sw : List Nat} (h : P1 w W a t su u sw vw gW Sw) (hb : Below W.heap.size W W') : P1 w W' a t su u sw vw gW Sw :=
  ⟨h.bel.trans (hb.mono h.bel.size), h.arg.below hb, h.bW.below hb, h.oW.same _ (fun g hg => hb.block g (h.oW.there _ g hg)), h.rW, h.lW⟩
/-- .. where newer blocks alone turn. -/
theorem P1.frx {w W W' : World} {a t : X} {su u sw vw : Value} {gW : Nat} {Sw S : List Nat} (h : P1 w W a t su u sw vw gW Sw) (hf : FrX W W' S) (hS : ∀ x ∈ S, gW < x) : P1 w W' a t su u sw vw gW Sw := by
  have hl := h.lW
  have hws := h.bel.size
  exact ⟨⟨hf.os.trans h.bel.os, hf.tape.trans h.bel.tape, hf.output.trans h.bel.output, Nat.le_trans h.bel.size hf.size, fun x hx => (hf.block x (by omega) (fun hc => by have := hS x hc; omega)).trans (h.bel.block x hx)⟩,
    h.arg.frx hf (fun hc => by have := hS _ hc; omega), h.bW.frx hf (fun hc => by have := hS _ hc; omega), h.oW.same _ (fun g hg => hf.block g (h.oW.there _ g hg) (fun hc => by have := hS g hc; have := (h.rW g hg).2; omega)), h.rW, h.lW⟩
theorem P1.at' {w W : World} {a t : X} {su u sw vw : Value} {gW : Nat} {Sw : List Nat} (h : P1 w W a t su u sw vw gW Sw) : t.At 0 W sw vw := h.oW.at0

/-- .. and what was handed in. -/
structure P2 (w W : World) (a t : X) (su u sw vw sx vx : Value) (gW gX : Nat) (Sw Sx : List Nat) : Prop extends P1 w W a t su u sw vw gW Sw where
  bX : Nd W gX a sx vx 29
  oX : XOwn W a sx vx Sx
  nX : Sx.Nodup
  rX : ∀ x ∈ Sx, gW < x ∧ x < gX
  lX : gW < gX
theorem P2.below {w W W' : World} {a t : X} {su u sw vw sx vx : Value} {gW gX : Nat} {Sw Sx : List Nat} (h : P2 w W a t su u sw vw sx vx gW gX Sw Sx) (hb : Below W.heap.size W W') : P2 w W' a t su u sw vw sx vx gW gX Sw Sx :=
  ⟨h.toP1.below hb, h.bX.below hb, h.oX.same _ (fun g hg => hb.block g (h.oX.there _ g hg)), h.nX, h.rX, h.lX⟩

/-- .. and what came out. -/
structure P3 (w W : World) (a t : X) (su u sw vw sx vx sg vg : Value) (gW gX gG : Nat) (Sw Sx Sg : List Nat) : Prop extends P2 w W a t su u sw vw sx vx gW gX Sw Sx where
  bG : Nd W gG t sg vg 29
  oG : XOwn W t sg vg Sg
  nG : Sg.Nodup
  rG : ∀ x ∈ Sg, gX < x ∧ x < gG
  lG : gX < gG
theorem P3.below {w W W' : World} {a t : X} {su u sw vw sx vx sg vg : Value} {gW gX gG : Nat} {Sw Sx Sg : List Nat} (h : P3 w W a t su u sw vw sx vx sg vg gW gX gG Sw Sx Sg) (hb : Below W.heap.size W W') : P3 w W' a t su u sw vw sx vx sg vg gW gX gG Sw Sx Sg :=
  ⟨h.toP2.below hb, h.bG.below hb, h.oG.same _ (fun g hg => hb.block g (h.oG.there _ g hg)), h.nG, h.rG, h.lG⟩

/-- What was handed in has been marked. -/
structure P4 (w W : World) (a t : X) (su u sw vw sg vg : Value) (gW gX gG : Nat) (Sw Sg : List Nat) : Prop extends P1 w W a t su u sw vw gW Sw where
  bG : Nd W gG t sg vg 29
  oG : XOwn W t sg vg Sg
  nG : Sg.Nodup
  rG : ∀ x ∈ Sg, gX < x ∧ x < gG
  lX : gW < gX
  lG : gX < gG
theorem P3.marked {w W W' : World} {a t : X} {su u sw vw sx vx sg vg : Value} {gW gX gG : Nat} {Sw Sx Sg : List Nat} (h : P3 w W a t su u sw vw sx vx sg vg gW gX gG Sw Sx Sg) (hf : FrX W W' Sx) : P4 w W' a t su u sw vw sg vg gW gX gG Sw Sg :=
  ⟨h.toP1.frx hf (fun x hx => (h.rX x hx).1), h.bG.frx hf (fun hc => by have := (h.rX _ hc).2; have := h.lG; omega), h.oG.same _ (fun g hg => hf.block g (h.oG.there _ g hg) (fun hc => by have := (h.rX g hc).2; have := (h.rG g hg).1; omega)), h.nG, h.rG, h.lX, h.lG⟩
theorem P4.below {w W W' : World} {a t : X} {su u sw vw sg vg : Value} {gW gX gG : Nat} {Sw Sg : List Nat} (h : P4 w W a t su u sw vw sg vg gW gX gG Sw Sg) (hb : Below W.heap.size W W') : P4 w W' a t su u sw vw sg vg gW gX gG Sw Sg :=
  ⟨h.toP1.below hb, h.bG.below hb, h.oG.same _ (fun g hg => hb.block g (h.oG.there _ g hg)), h.nG, h.rG, h.lX, h.lG⟩

/-- What came out has been marked, too. -/
structure P5 (w W : World) (a t : X) (su u sw vw sg vg : Value) (gW gG : Nat) (Sw : List Nat) : Prop extends P1 w W a t su u sw vw gW Sw where
  bG : Nd W gG t sg vg 29
  mG : Marked W t sg vg 1
theorem P4.marked {w W W' : World} {a t : X} {su u sw vw sg vg : Value} {gW gX gG : Nat} {Sw Sg : List Nat} (h : P4 w W a t su u sw vw sg vg gW gX gG Sw Sg) (hf : FrX W W' Sg) (hm : Marked W' t sg vg 1) : P5 w W' a t su u sw vw sg vg gW gG Sw :=
  ⟨h.toP1.frx hf (fun x hx => by have := (h.rG x hx).1; have := h.lX; omega), h.bG.frx hf (fun hc => by have := (h.rG _ hc).2; omega), hm⟩
theorem P5.below {w W W' : World} {a t : X} {su u sw vw sg vg : Value} {gW gG : Nat} {Sw : List Nat} (h : P5 w W a t su u sw vw sg vg gW gG Sw) (hb : Below W.heap.size W W') : P5 w W' a t su u sw vw sg vg gW gG Sw :=
  ⟨h.toP1.below hb, h.bG.below hb, h.mG.below hb⟩

theorem P1.new {w W2 w3 : World} {a t : X} {su u sw vw : Value} {Sw : List Nat} (hb2 : Below w.heap.size w W2) (ha : Nd W2 w.heap.size a su u 45) (hb : Below W2.heap.size W2 w3) (ho : XOwn w3 t sw vw Sw) (hS : ∀ x ∈ Sw, W2.heap.size ≤ x) :
    P1 w (w3.alloc (.cells #[.int .i64 t.op, .int .i64 t.at_, .int .i64 t.n, .string t.s, sw, vw] 29)) a t su u sw vw w3.heap.size Sw := by
  have hn := newx w3 (.cells #[.int .i64 t.op, .int .i64 t.at_, .int .i64 t.n, .string t.s, sw, vw] 29)
  have hl := ha.lt
  have hbs := hb.size
  exact ⟨(hb2.trans (hb.mono hb2.size)).trans (hn.mono (by omega)), (ha.below hb).below hn, heap_alloc_new w3 _, ho.same _ (fun g hg => hn.block g (ho.there _ g hg)), fun x hx => ⟨by have := hS x hx; omega, ho.there _ x hx⟩, by omega⟩
theorem P2.new {w W w3 : World} {a t : X} {su u sw vw sx vx : Value} {gW : Nat} {Sw Sx : List Nat} (h : P1 w W a t su u sw vw gW Sw) (hb : Below W.heap.size W w3) (ho : XOwn w3 a sx vx Sx) (hn : Sx.Nodup) (hS : ∀ x ∈ Sx, W.heap.size ≤ x) :
    P2 w (w3.alloc (.cells #[.int .i64 a.op, .int .i64 a.at_, .int .i64 a.n, .string a.s, sx, vx] 29)) a t su u sw vw sx vx gW w3.heap.size Sw Sx := by
  have hb2 := newx w3 (.cells #[.int .i64 a.op, .int .i64 a.at_, .int .i64 a.n, .string a.s, sx, vx] 29)
  have hl := h.bW.lt
  have hbs := hb.size
  exact ⟨(h.below hb).below hb2, heap_alloc_new w3 _, ho.same _ (fun g hg => hb2.block g (ho.there _ g hg)), hn, fun x hx => ⟨by have := hS x hx; omega, ho.there _ x hx⟩, by omega⟩
theorem P3.new {w W w3 : World} {a t : X} {su u sw vw sx vx sg vg : Value} {gW gX : Nat} {Sw Sx Sg : List Nat} (h : P2 w W a t su u sw vw sx vx gW gX Sw Sx) (hb : Below W.heap.size W w3) (ho : XOwn w3 t sg vg Sg) (hn : Sg.Nodup) (hS : ∀ x ∈ Sg, W.heap.size ≤ x) :
    P3 w (w3.alloc (.cells #[.int .i64 t.op, .int .i64 t.at_, .int .i64 t.n, .string t.s, sg, vg] 29)) a t su u sw vw sx vx sg vg gW gX w3.heap.size Sw Sx Sg := by
  have hb2 := newx w3 (.cells #[.int .i64 t.op, .int .i64 t.at_, .int .i64 t.n, .string t.s, sg, vg] 29)
  have hl := h.bX.lt
  have hbs := hb.size
  exact ⟨(h.below hb).below hb2, heap_alloc_new w3 _, ho.same _ (fun g hg => hb2.block g (ho.there _ g hg)), hn, fun x hx => ⟨by have := hS x hx; omega, ho.there _ x hx⟩, by omega⟩
end Go.Proofs.Ytoifhaakieigcaa
