/- What is written and came in lies in memory as a tree. No conditions. -/
import Derived.Test.YtlclfmjpnchmbaaGreatZG1StxOwn
import Derived.Test.YtlclfmjpnchmbaaGreatZG6SzStx
import Derived.Test.YtlclfmjpnchmbaaGreatZG7EqStx
import Derived.OpenShut
import Derived.Below
import Derived.Deep.Slices
import Derived.ProofKit
import Derived.WalkKit
namespace Go.Proofs.YtlclfmjpnchmbaaGreat
open Go.ChangeShapes Go.WideShapes Go.ChangeAt Go.RowKit

/-- The types of what is written. -/
structure StxT (P : Program) (tD tI tS tZ tK : TypeId) : Prop where
  ex : ∃ fs : Array Field, P.underlying tD = some (.struct fs) ∧ fs.size = 6 ∧ (∀ i, i < 3 → ∃ f, fs[i]? = some f ∧ f.type = tI ∧ f.offset = i) ∧
    (∃ f, fs[3]? = some f ∧ f.type = tS ∧ f.offset = 3) ∧ (∃ f, fs[4]? = some f ∧ f.type = tZ ∧ f.offset = 4) ∧ (∃ f, fs[5]? = some f ∧ f.type = tK ∧ f.offset = 5)
  i : P.underlying tI = some (.int .i64)
  s : P.underlying tS = some .string
  z : P.underlying tZ = some (.slice tI)
  k : P.underlying tK = some (.slice tD)
  ci : P.cellsOf tI = 1
  cs : P.cellsOf tS = 1
  cz : P.cellsOf tZ = 1
  ck : P.cellsOf tK = 1
  cd : P.cellsOf tD = 6

section
variable {H : Type} {enc : TypeId × Value → H} {P : Program} {w : World} {base : Nat} {spare : Nat → Bool} {held : Bool} {tD tI tS tZ tK : TypeId}

theorem i64_boundsX {n : Int} (h : (Lit.int .i64 n).wf = true) : -9223372036854775808 ≤ n ∧ n ≤ 9223372036854775807 := by
  have := bounds_i64 h
  omega

theorem set_of (T : StxT P tD tI tS tZ tK) {m : Nat} {c : Value} {y : DataW H × List MemPlace} (h : DataW.trod enc P w base spare held m tZ [c] = some y) : ∃ xs : List Int, xs.length ≤ maxLen ∧ SetR w c xs := by
  rcases DataW.trod_slice T.z h with ⟨h0, _⟩ | ⟨a, len, cap, elems, rest, n, hn, h1, _, hb, hl, hm, hlen, hel, _, _⟩
  · simp at h0
    exact ⟨[], by simp, none, 0, h0, fun j hj => by simp at hj⟩
  · simp at h1
    subst h1
    rw [T.ci] at hel
    have each : ∀ i, i < len → ∃ z : Int, w.cell? (a.add i) = some (.int .i64 z) := by
      intro i hi
      have h2 := hel i hi
      rw [List.getElem?_eq_getElem (by omega)] at h2
      obtain ⟨cs', hc, ht⟩ := Option.bind_eq_some_iff.1 h2
      obtain ⟨z, rfl, -, -⟩ := DataW.trod_int T.i ht
      obtain ⟨_, _, hcell⟩ := World.cells?_some hc
      have := hcell 0 (by omega)
      exact ⟨z, by simpa [Addr.add] using this⟩
    obtain ⟨F, hF⟩ := Go.Deep.choose_lt each
    have hle : ((List.range len).map F).length = len := by simp
    refine ⟨(List.range len).map F, by rw [hle]; exact Nat.le_trans hl hm, some a, cap, by rw [hle], fun j hj => ?_⟩
    rw [hle] at hj
    have hc := hF j hj
    obtain ⟨b, off, spot⟩ := a
    have hsp : spot = none := by
      have := World.cell?_spot (hF 0 (by omega))
      simpa [Addr.add] using this
    subst hsp
    refine ⟨b, off, rfl, ?_⟩
    simp only [add_plain] at hc
    rw [hc]
    simp [List.getD_eq_getElem?_getD, hj]

theorem xs_of (T : StxT P tD tI tS tZ tK) (m : Nat) (ih : ∀ cs x, DataW.trod enc P w base spare held m tD cs = some x → ∃ (t : X) (sv v : Value), cs = [.int .i64 t.op, .int .i64 t.at_, .int .i64 t.n, .string t.s, sv, v] ∧ t.Of w sv v)
    {c5 : Value} {y : DataW H × List MemPlace} (h : DataW.trod enc P w base spare held (m + 1) tK [c5] = some y) : ∃ len kid, XsOf w len kid c5 := by
  rcases DataW.trod_slice T.k h with ⟨h0, _⟩ | ⟨a, len, cap, elems, rest, n, hn, h1, _, hb, hl, hm, hlen, hel, _, _⟩
  · simp at h0
    exact ⟨0, fun _ => .no, .inl ⟨rfl, _, _, h0⟩⟩
  · simp at h1
    obtain rfl : m = n := by omega
    subst h1
    by_cases hz : len = 0
    · subst hz; exact ⟨0, fun _ => .no, .inl ⟨rfl, _, _, rfl⟩⟩
    rw [T.cd] at hel
    have each : ∀ i, i < len → ∃ q : XR, (∀ j, j < 6 → w.cell? ((a.add (i * 6)).add j) = [Value.int .i64 q.1.op, .int .i64 q.1.at_, .int .i64 q.1.n, .string q.1.s, q.2.1, q.2.2][j]?) ∧ q.1.Of w q.2.1 q.2.2 := by
      intro i hi
      have h2 := hel i hi
      rw [List.getElem?_eq_getElem (by omega)] at h2
      obtain ⟨cs', hc, ht⟩ := Option.bind_eq_some_iff.1 h2
      obtain ⟨t, sv, v, rfl, hin⟩ := ih _ _ ht
      obtain ⟨_, _, hcell⟩ := World.cells?_some hc
      exact ⟨(t, sv, v), hcell, hin⟩
    obtain ⟨F, hF⟩ := Go.Deep.choose_lt each
    obtain ⟨b, off, spot⟩ := a
    have hsp : spot = none := by
      have := (hF 0 (by omega)).1 0 (by omega)
      have := World.cell?_spot (this.trans rfl)
      simpa [Addr.add] using this
    subst hsp
    refine ⟨len, fun i => (F i).1, .inr ⟨b, off, cap, fun i => (F i).2.1, fun i => (F i).2.2, rfl, Nat.zero_le _, hl, hm, fun i hi => ⟨?_, (hF i hi).2⟩⟩⟩
    have h0 := (hF i hi).1 0 (by omega)
    have h1 := (hF i hi).1 1 (by omega)
    have h2 := (hF i hi).1 2 (by omega)
    have h3 := (hF i hi).1 3 (by omega)
    have h4 := (hF i hi).1 4 (by omega)
    have h5 := (hF i hi).1 5 (by omega)
    simp only [add_plain, Nat.add_zero] at h0 h1 h2 h3 h4 h5
    exact ⟨h0, h1, h2, h3, h4, h5⟩

theorem open_stx (T : StxT P tD tI tS tZ tK) : ∀ (fuel : Nat) (cs : List Value) (x : DataW H × List MemPlace), DataW.trod enc P w base spare held fuel tD cs = some x →
    ∃ (t : X) (sv v : Value), cs = [.int .i64 t.op, .int .i64 t.at_, .int .i64 t.n, .string t.s, sv, v] ∧ t.Of w sv v := by
  intro fuel
  induction fuel using Nat.strongRecOn with
  | ind fuel ih =>
    intro cs x h
    obtain ⟨fs, hu, hfs, hi, ⟨f3, h3, ht3, ho3⟩, ⟨f4, h4, ht4, ho4⟩, ⟨f5, h5, ht5, ho5⟩⟩ := T.ex
    obtain ⟨xs, n, rfl, _, hlen, hxl, hf⟩ := DataW.trod_struct hu h
    rw [T.cd] at hlen
    obtain ⟨f0, h0, ht0, ho0⟩ := hi 0 (by omega)
    obtain ⟨f1, h1, ht1, ho1⟩ := hi 1 (by omega)
    obtain ⟨f2, h2, ht2, ho2⟩ := hi 2 (by omega)
    have g0 := hf 0 f0 h0
    have g1 := hf 1 f1 h1
    have g2 := hf 2 f2 h2
    have g3 := hf 3 f3 h3
    have g4 := hf 4 f4 h4
    have g5 := hf 5 f5 h5
    rw [hfs] at hxl
    rw [ht0, ho0, T.ci, List.getElem?_eq_getElem (by omega)] at g0
    rw [ht1, ho1, T.ci, List.getElem?_eq_getElem (by omega)] at g1
    rw [ht2, ho2, T.ci, List.getElem?_eq_getElem (by omega)] at g2
    rw [ht3, ho3, T.cs, List.getElem?_eq_getElem (by omega)] at g3
    rw [ht4, ho4, T.cz, List.getElem?_eq_getElem (by omega)] at g4
    rw [ht5, ho5, T.ck, List.getElem?_eq_getElem (by omega)] at g5
    match cs, hlen with
    | [c0, c1, c2, c3, c4, c5], _ =>
      simp only [List.drop_zero, List.drop_succ_cons, List.take_succ_cons, List.take_zero] at g0 g1 g2 g3 g4 g5
      obtain ⟨z0, e0, -, -⟩ := DataW.trod_int T.i g0
      obtain ⟨z1, e1, -, -⟩ := DataW.trod_int T.i g1
      obtain ⟨z2, e2, -, w2⟩ := DataW.trod_int T.i g2
      obtain ⟨s, e3, -, ws⟩ := DataW.trod_string T.s g3
      simp only [List.cons.injEq, and_true] at e0 e1 e2 e3
      subst e0 e1 e2 e3
      cases n with
      | zero => simp [DataW.trod] at g4
      | succ m =>
        obtain ⟨set, hsl, hset⟩ := set_of T g4
        obtain ⟨len, kid, hs⟩ := xs_of T m (ih m (by omega)) g5
        exact ⟨.mk z0 z1 z2 s set len kid, c4, c5, rfl, X.InB.mk' ws (i64_boundsX w2) hsl hset hs⟩

theorem open_stxs (T : StxT P tD tI tS tZ tK) {fuel : Nat} {v : Value} {x : DataW H × List MemPlace} (h : DataW.trod enc P w base spare held fuel tK [v] = some x) : ∃ len kid, XsOf w len kid v := by
  cases fuel with
  | zero => simp [DataW.trod] at h
  | succ m => exact xs_of T m (fun cs x => open_stx T m cs x) h
end
end Go.Proofs.YtlclfmjpnchmbaaGreat

/- What stands while laws.FnExactFlipAll and FnExactWithAll run: the argument, what was asked for, what was handed in and what came out. No conditions. -/
namespace Go.Proofs.YtlclfmjpnchmbaaGreat
open Go.ChangeShapes Go.WideShapes Go.ChangeAt Go.RowKit

/-- A node in a block. -/
abbrev Nd (W : World) (g : Nat) (t : X) (sv v : Value) (ty : TypeId) : Prop := Six W g t.op t.at_ t.n t.s sv v ty

/-- Block g stays where the blocks S alone turn. -/
theorem Six.frx {W W' : World} {S : List Nat} {g : Nat} {a b c : Int} {s : ByteArray} {u v : Value} {ty : TypeId} (h : Six W g a b c s u v ty) (hf : FrX W W' S) (hg : g ∉ S) : Six W' g a b c s u v ty := (hf.block g h.lt hg).trans h

/-- The argument, and what was asked for. -/
structure P1 (w W : World) (a t : X) (su u sw vw : Value) (gW : Nat) (Sw : List Nat) : Prop where
  bel : Below w.heap.size w W
  arg : Nd W w.heap.size a su u 25
  bW : Nd W gW t sw vw 32
  oW : XOwn W t sw vw Sw
  rW : ∀ x ∈ Sw, w.heap.size < x ∧ x < gW
  lW : w.heap.size < gW
theorem P1.below {w W W' : World} {a t : X} {su u sw vw : Value} {gW : Nat} {Sw : List Nat} (h : P1 w W a t su u sw vw gW Sw) (hb : Below W.heap.size W W') : P1 w W' a t su u sw vw gW Sw :=
  ⟨h.bel.trans (hb.mono h.bel.size), h.arg.below hb, h.bW.below hb, h.oW.same _ (fun g hg => hb.block g (h.oW.there _ g hg)), h.rW, h.lW⟩
/-- .. where newer blocks alone turn. -/
theorem P1.frx {w W W' : World} {a t : X} {su u sw vw : Value} {gW : Nat} {Sw S : List Nat} (h : P1 w W a t su u sw vw gW Sw) (hf : FrX W W' S) (hS : ∀ x ∈ S, gW < x) : P1 w W' a t su u sw vw gW Sw := by
  have hl := h.lW
  have hws := h.bel.size
  exact ⟨⟨hf.os.trans h.bel.os, hf.tape.trans h.bel.tape, hf.output.trans h.bel.output, Nat.le_trans h.bel.size hf.size, fun x hx => (hf.block x (by omega) (fun hc => by have := hS x hc; omega)).trans (h.bel.block x hx)⟩,
    h.arg.frx hf (fun hc => by have := hS _ hc; omega), h.bW.frx hf (fun hc => by have := hS _ hc; omega), h.oW.same _ (fun g hg => hf.block g (h.oW.there _ g hg) (fun hc => by have := hS g hc; have := (h.rW g hg).2; omega)), h.rW, h.lW⟩
theorem P1.at' {w W : World} {a t : X} {su u sw vw : Value} {gW : Nat} {Sw : List Nat} (h : P1 w W a t su u sw vw gW Sw) : t.At 0 W sw vw := h.oW.at0

/-- .. and what was handed in. -/
structure P2 (w W : World) (a t : X) (su u sw vw sx vx : Value) (gW gX : Nat) (Sw Sx : List Nat) : Prop extends P1 w W a t su u sw vw gW Sw where
  bX : Nd W gX a sx vx 32
  oX : XOwn W a sx vx Sx
  nX : Sx.Nodup
  rX : ∀ x ∈ Sx, gW < x ∧ x < gX
  lX : gW < gX
theorem P2.below {w W W' : World} {a t : X} {su u sw vw sx vx : Value} {gW gX : Nat} {Sw Sx : List Nat} (h : P2 w W a t su u sw vw sx vx gW gX Sw Sx) (hb : Below W.heap.size W W') : P2 w W' a t su u sw vw sx vx gW gX Sw Sx :=
  ⟨h.toP1.below hb, h.bX.below hb, h.oX.same _ (fun g hg => hb.block g (h.oX.there _ g hg)), h.nX, h.rX, h.lX⟩

/-- .. and what came out. -/
structure P3 (w W : World) (a t : X) (su u sw vw sx vx sg vg : Value) (gW gX gG : Nat) (Sw Sx Sg : List Nat) : Prop extends P2 w W a t su u sw vw sx vx gW gX Sw Sx where
  bG : Nd W gG t sg vg 32
  oG : XOwn W t sg vg Sg
  nG : Sg.Nodup
  rG : ∀ x ∈ Sg, gX < x ∧ x < gG
  lG : gX < gG
theorem P3.below {w W W' : World} {a t : X} {su u sw vw sx vx sg vg : Value} {gW gX gG : Nat} {Sw Sx Sg : List Nat} (h : P3 w W a t su u sw vw sx vx sg vg gW gX gG Sw Sx Sg) (hb : Below W.heap.size W W') : P3 w W' a t su u sw vw sx vx sg vg gW gX gG Sw Sx Sg :=
  ⟨h.toP2.below hb, h.bG.below hb, h.oG.same _ (fun g hg => hb.block g (h.oG.there _ g hg)), h.nG, h.rG, h.lG⟩

/-- What was handed in has been marked. -/
structure P4 (w W : World) (a t : X) (su u sw vw sg vg : Value) (gW gX gG : Nat) (Sw Sg : List Nat) : Prop extends P1 w W a t su u sw vw gW Sw where
  bG : Nd W gG t sg vg 32
  oG : XOwn W t sg vg Sg
  nG : Sg.Nodup
  rG : ∀ x ∈ Sg, gX < x ∧ x < gG
  lX : gW < gX
  lG : gX < gG
theorem P3.marked {w W W' : World} {a t : X} {su u sw vw sx vx sg vg : Value} {gW gX gG : Nat} {Sw Sx Sg : List Nat} (h : P3 w W a t su u sw vw sx vx sg vg gW gX gG Sw Sx Sg) (hf : FrX W W' Sx) : P4 w W' a t su u sw vw sg vg gW gX gG Sw Sg :=
  ⟨h.toP1.frx hf (fun x hx => (h.rX x hx).1), h.bG.frx hf (fun hc => by have := (h.rX _ hc).2; have := h.lG; omega), h.oG.same _ (fun g hg => hf.block g (h.oG.there _ g hg) (fun hc => by have := (h.rX g hc).2; have := (h.rG g hg).1; omega)), h.nG, h.rG, h.lX, h.lG⟩
theorem P4.below {w W W' : World} {a t : X} {su u sw vw sg vg : Value} {gW gX gG : Nat} {Sw Sg : List Nat} (h : P4 w W a t su u sw vw sg vg gW gX gG Sw Sg) (hb : Below W.heap.size W W') : P4 w W' a t su u sw vw sg vg gW gX gG Sw Sg :=
  ⟨h.toP1.below hb, h.bG.below hb, h.oG.same _ (fun g hg => hb.block g (h.oG.there _ g hg)), h.nG, h.rG, h.lX, h.lG⟩

/-- What came out has been marked, too. -/
structure P5 (w W : World) (a t : X) (su u sw vw sg vg : Value) (gW gG : Nat) (Sw : List Nat) : Prop extends P1 w W a t su u sw vw gW Sw where
  bG : Nd W gG t sg vg 32
  mG : Marked W t sg vg 1
theorem P4.marked {w W W' : World} {a t : X} {su u sw vw sg vg : Value} {gW gX gG : Nat} {Sw Sg : List Nat} (h : P4 w W a t su u sw vw sg vg gW gX gG Sw Sg) (hf : FrX W W' Sg) (hm : Marked W' t sg vg 1) : P5 w W' a t su u sw vw sg vg gW gG Sw :=
  ⟨h.toP1.frx hf (fun x hx => by have := (h.rG x hx).1; have := h.lX; omega), h.bG.frx hf (fun hc => by have := (h.rG _ hc).2; omega), hm⟩
theorem P5.below {w W W' : World} {a t : X} {su u sw vw sg vg : Value} {gW gG : Nat} {Sw : List Nat} (h : P5 w W a t su u sw vw sg vg gW gG Sw) (hb : Below W.heap.size W W') : P5 w W' a t su u sw vw sg vg gW gG Sw :=
  ⟨h.toP1.below hb, h.bG.below hb, h.mG.below hb⟩

theorem P1.new {w W2 w3 : World} {a t : X} {su u sw vw : Value} {Sw : List Nat} (hb2 : Below w.heap.size w W2) (ha : Nd W2 w.heap.size a su u 25) (hb : Below W2.heap.size W2 w3) (ho : XOwn w3 t sw vw Sw) (hS : ∀ x ∈ Sw, W2.heap.size ≤ x) :
    P1 w (w3.alloc (.cells #[.int .i64 t.op, .int .i64 t.at_, .int .i64 t.n, .string t.s, sw, vw] 32)) a t su u sw vw w3.heap.size Sw := by
  have hn := newx w3 (.cells #[.int .i64 t.op, .int .i64 t.at_, .int .i64 t.n, .string t.s, sw, vw] 32)
  have hl := ha.lt
  have hbs := hb.size
  exact ⟨(hb2.trans (hb.mono hb2.size)).trans (hn.mono (by omega)), (ha.below hb).below hn, heap_alloc_new w3 _, ho.same _ (fun g hg => hn.block g (ho.there _ g hg)), fun x hx => ⟨by have := hS x hx; omega, ho.there _ x hx⟩, by omega⟩
theorem P2.new {w W w3 : World} {a t : X} {su u sw vw sx vx : Value} {gW : Nat} {Sw Sx : List Nat} (h : P1 w W a t su u sw vw gW Sw) (hb : Below W.heap.size W w3) (ho : XOwn w3 a sx vx Sx) (hn : Sx.Nodup) (hS : ∀ x ∈ Sx, W.heap.size ≤ x) :
    P2 w (w3.alloc (.cells #[.int .i64 a.op, .int .i64 a.at_, .int .i64 a.n, .string a.s, sx, vx] 32)) a t su u sw vw sx vx gW w3.heap.size Sw Sx := by
  have hb2 := newx w3 (.cells #[.int .i64 a.op, .int .i64 a.at_, .int .i64 a.n, .string a.s, sx, vx] 32)
  have hl := h.bW.lt
  have hbs := hb.size
  exact ⟨(h.below hb).below hb2, heap_alloc_new w3 _, ho.same _ (fun g hg => hb2.block g (ho.there _ g hg)), hn, fun x hx => ⟨by have := hS x hx; omega, ho.there _ x hx⟩, by omega⟩
theorem P3.new {w W w3 : World} {a t : X} {su u sw vw sx vx sg vg : Value} {gW gX : Nat} {Sw Sx Sg : List Nat} (h : P2 w W a t su u sw vw sx vx gW gX Sw Sx) (hb : Below W.heap.size W w3) (ho : XOwn w3 t sg vg Sg) (hn : Sg.Nodup) (hS : ∀ x ∈ Sg, W.heap.size ≤ x) :
    P3 w (w3.alloc (.cells #[.int .i64 t.op, .int .i64 t.at_, .int .i64 t.n, .string t.s, sg, vg] 32)) a t su u sw vw sx vx sg vg gW gX w3.heap.size Sw Sx Sg := by
  have hb2 := newx w3 (.cells #[.int .i64 t.op, .int .i64 t.at_, .int .i64 t.n, .string t.s, sg, vg] 32)
  have hl := h.bX.lt
  have hbs := hb.size
  exact ⟨(h.below hb).below hb2, heap_alloc_new w3 _, ho.same _ (fun g hg => hb2.block g (ho.there _ g hg)), hn, fun x hx => ⟨by have := hS x hx; omega, ho.there _ x hx⟩, by omega⟩
end Go.Proofs.YtlclfmjpnchmbaaGreat

/- What is read, as a tree, and how it lies in memory. No conditions. -/
namespace Go.Proofs.YtlclfmjpnchmbaaGreat
open Go.ChangeShapes Go.WideShapes Go.ChangeAt Go.RowKit

/-- A datum: its op, place, number and text, and its kids by their index. -/
inductive D where
  | no
  | mk (op at_ n : Int) (s : ByteArray) (len : Nat) (kid : Nat → D)

namespace D
def op : D → Int | .no => 0 | .mk x _ _ _ _ _ => x
def at_ : D → Int | .no => 0 | .mk _ x _ _ _ _ => x
def n : D → Int | .no => 0 | .mk _ _ x _ _ _ => x
def s : D → ByteArray | .no => ⟨#[]⟩ | .mk _ _ _ x _ _ => x
def len : D → Nat | .no => 0 | .mk _ _ _ _ x _ => x
def kid : D → Nat → D | .no => fun _ => .no | .mk _ _ _ _ _ x => x
end D
instance : Inhabited D := ⟨.no⟩

/-- The sum of the first k. -/
def sumTo (f : Nat → Nat) : Nat → Nat
  | 0 => 0
  | k + 1 => sumTo f k + f k

theorem sumTo_le (f : Nat → Nat) (j k : Nat) (h : j ≤ k) : sumTo f j ≤ sumTo f k := by
  induction k with
  | zero => simp at h; subst h; exact Nat.le_refl _
  | succ k ih =>
    rcases Nat.lt_or_ge j (k + 1) with h1 | h1
    · have := ih (by omega); simp only [sumTo]; omega
    · have : j = k + 1 := by omega
      subst this; exact Nat.le_refl _

theorem sumTo_at (f : Nat → Nat) (j k : Nat) (h : j < k) : sumTo f j + f j ≤ sumTo f k := sumTo_le f (j + 1) k h

/-- How many data there are, itself among them. -/
def D.count : D → Nat | .no => 1 | .mk _ _ _ _ len kid => 1 + sumTo (fun i => (kid i).count) len
/-- What is reckoned of it: the text's bytes and how many kids there are, all through. -/
def D.weight : D → Nat | .no => 0 | .mk _ _ _ s len kid => s.size + (len + sumTo (fun i => (kid i).weight) len)

def kidsWeight (len : Nat) (kid : Nat → D) : Nat := len + sumTo (fun i => (kid i).weight) len
theorem D.weight_eq (t : D) : t.weight = t.s.size + kidsWeight t.len t.kid := by cases t <;> rfl
theorem D.count_eq (t : D) : t.count = 1 + sumTo (fun i => (t.kid i).count) t.len := by cases t <;> rfl

theorem D.count_weight (t : D) : t.count ≤ 1 + t.weight := by
  induction t with
  | no => simp [count]
  | mk op a n s len kid ih =>
    unfold count weight
    have : ∀ k, sumTo (fun i => (kid i).count) k ≤ k + sumTo (fun i => (kid i).weight) k := by
      intro k
      induction k with
      | zero => simp [sumTo]
      | succ k ihk => simp only [sumTo]; have := ih k; omega
    have := this len
    omega

/-- Five cells from p on. -/
structure Head (w : World) (b p : Nat) (t : D) (v : Value) : Prop where
  c0 : w.cell? ⟨b, p, none⟩ = some (.int .i64 t.op)
  c1 : w.cell? ⟨b, p + 1, none⟩ = some (.int .i64 t.at_)
  c2 : w.cell? ⟨b, p + 2, none⟩ = some (.int .i64 t.n)
  c3 : w.cell? ⟨b, p + 3, none⟩ = some (.string t.s)
  c4 : w.cell? ⟨b, p + 4, none⟩ = some v

/-- v is the slice of a datum's kids, which lie in w, from block B on. -/
def D.InB (B : Nat) (w : World) : D → Value → Prop
  | .no, _ => False
  | .mk _ _ n s len kid, v => (s.size ≤ maxLen ∧ -9223372036854775808 ≤ n ∧ n ≤ 9223372036854775807) ∧
    ((len = 0 ∧ ∃ p cap, v = .slice p 0 cap) ∨
     ∃ (b o cap : Nat) (V : Nat → Value), v = .slice (some ⟨b, o, none⟩) len cap ∧ B ≤ b ∧ len ≤ cap ∧ cap ≤ maxLen ∧
       ∀ i, i < len → Head w b (o + i * 5) (kid i) (V i) ∧ (kid i).InB B w (V i))
abbrev D.In (w : World) (t : D) (v : Value) : Prop := t.InB 0 w v

/-- A slice of data that lie in w, from block B on. -/
def SlB (B : Nat) (w : World) (len : Nat) (kid : Nat → D) (v : Value) : Prop :=
  (len = 0 ∧ ∃ p cap, v = .slice p 0 cap) ∨
   ∃ (b o cap : Nat) (V : Nat → Value), v = .slice (some ⟨b, o, none⟩) len cap ∧ B ≤ b ∧ len ≤ cap ∧ cap ≤ maxLen ∧
     ∀ i, i < len → Head w b (o + i * 5) (kid i) (V i) ∧ (kid i).InB B w (V i)
abbrev Sl (w : World) (len : Nat) (kid : Nat → D) (v : Value) : Prop := SlB 0 w len kid v

theorem D.InB.sl {B : Nat} {w : World} {t : D} {v : Value} (h : t.InB B w v) : SlB B w t.len t.kid v := by
  cases t <;> unfold D.InB at h <;> first | exact h.elim | exact h.2
theorem D.InB.size {B : Nat} {w : World} {t : D} {v : Value} (h : t.InB B w v) : t.s.size ≤ maxLen := by
  cases t <;> unfold D.InB at h <;> first | exact h.elim | exact h.1.1
theorem D.InB.num {B : Nat} {w : World} {t : D} {v : Value} (h : t.InB B w v) : -9223372036854775808 ≤ t.n ∧ t.n ≤ 9223372036854775807 := by
  cases t <;> unfold D.InB at h <;> first | exact h.elim | exact h.1.2
theorem D.InB.mk' {B : Nat} {w : World} {op a n : Int} {s : ByteArray} {len : Nat} {kid : Nat → D} {v : Value} (h0 : s.size ≤ maxLen) (h1 : -9223372036854775808 ≤ n ∧ n ≤ 9223372036854775807) (h : SlB B w len kid v) : (D.mk op a n s len kid).InB B w v := by
  unfold D.InB; exact ⟨⟨h0, h1⟩, h⟩

theorem SlB.shape {B : Nat} {w : World} {len : Nat} {kid : Nat → D} {v : Value} (h : SlB B w len kid v) : ∃ p cap, v = .slice p len cap := by
  rcases h with ⟨rfl, p, cap, rfl⟩ | ⟨b, o, cap, V, rfl, _⟩
  · exact ⟨_, _, rfl⟩
  · exact ⟨_, _, rfl⟩

/-- Memory that is kept keeps what lies in it. -/
theorem Head.kept {w w' : World} {b p : Nat} {t : D} {v : Value} (h : Head w b p t v) (hk : ∀ a u, a.block = b → w.cell? a = some u → w'.cell? a = some u) : Head w' b p t v :=
  ⟨hk _ _ rfl h.c0, hk _ _ rfl h.c1, hk _ _ rfl h.c2, hk _ _ rfl h.c3, hk _ _ rfl h.c4⟩

theorem D.InB.kept {B : Nat} {w w' : World} (hk : ∀ a u, B ≤ a.block → w.cell? a = some u → w'.cell? a = some u) (t : D) : ∀ {v : Value}, t.InB B w v → t.InB B w' v := by
  induction t with
  | no => intro v h; exact h.elim
  | mk op a n s len kid ih =>
    intro v h
    unfold D.InB at h ⊢
    refine ⟨h.1, ?_⟩
    rcases h.2 with h0 | ⟨b, o, cap, V, h1, hB, h2, h3, h4⟩
    · exact .inl h0
    · exact .inr ⟨b, o, cap, V, h1, hB, h2, h3, fun i hi => ⟨(h4 i hi).1.kept (fun a u ha => hk a u (by omega)), ih i (h4 i hi).2⟩⟩

theorem SlB.kept {B : Nat} {w w' : World} (hk : ∀ a u, B ≤ a.block → w.cell? a = some u → w'.cell? a = some u) {len : Nat} {kid : Nat → D} {v : Value} (h : SlB B w len kid v) : SlB B w' len kid v := by
  rcases h with h0 | ⟨b, o, cap, V, h1, hB, h2, h3, h4⟩
  · exact .inl h0
  · exact .inr ⟨b, o, cap, V, h1, hB, h2, h3, fun i hi => ⟨(h4 i hi).1.kept (fun a u ha => hk a u (by omega)), D.InB.kept hk _ (h4 i hi).2⟩⟩

theorem D.InB.mono {B B' : Nat} (hB : B' ≤ B) {w : World} (t : D) : ∀ {v : Value}, t.InB B w v → t.InB B' w v := by
  induction t with
  | no => intro v h; exact h.elim
  | mk op a n s len kid ih =>
    intro v h
    unfold D.InB at h ⊢
    refine ⟨h.1, ?_⟩
    rcases h.2 with h0 | ⟨b, o, cap, V, h1, hb, h2, h3, h4⟩
    · exact .inl h0
    · exact .inr ⟨b, o, cap, V, h1, by omega, h2, h3, fun i hi => ⟨(h4 i hi).1, ih i (h4 i hi).2⟩⟩
theorem SlB.mono {B B' : Nat} (hB : B' ≤ B) {w : World} {len : Nat} {kid : Nat → D} {v : Value} (h : SlB B w len kid v) : SlB B' w len kid v := by
  rcases h with h0 | ⟨b, o, cap, V, h1, hb, h2, h3, h4⟩
  · exact .inl h0
  · exact .inr ⟨b, o, cap, V, h1, by omega, h2, h3, fun i hi => ⟨(h4 i hi).1, (h4 i hi).2.mono hB⟩⟩
theorem D.InB.all {B : Nat} {w : World} {t : D} {v : Value} (h : t.InB B w v) : t.In w v := h.mono (Nat.zero_le _)
theorem SlB.all {B : Nat} {w : World} {len : Nat} {kid : Nat → D} {v : Value} (h : SlB B w len kid v) : Sl w len kid v := h.mono (Nat.zero_le _)

theorem keeps {w w' : World} (hb : Below w.heap.size w w') (a : Addr) (u : Value) (h : w.cell? a = some u) : w'.cell? a = some u :=
  (hb.cell (World.block_lt_of_cell? w a h)).trans h

theorem D.InB.below {B : Nat} {w w' : World} (hb : Below w.heap.size w w') {t : D} {v : Value} (h : t.InB B w v) : t.InB B w' v := D.InB.kept (fun a u _ => keeps hb a u) t h
theorem SlB.below {B : Nat} {w w' : World} (hb : Below w.heap.size w w') {len : Nat} {kid : Nat → D} {v : Value} (h : SlB B w len kid v) : SlB B w' len kid v := SlB.kept (fun a u _ => keeps hb a u) h
theorem Head.below {w w' : World} (hb : Below w.heap.size w w') {b p : Nat} {t : D} {v : Value} (h : Head w b p t v) : Head w' b p t v := h.kept (fun a u _ => keeps hb a u)

/-- What is told of a slice of data, by index. -/
theorem SlB.at {B : Nat} {w : World} {len : Nat} {kid : Nat → D} {v : Value} (h : SlB B w len kid v) : ∃ p cap, v = .slice p len cap ∧ len ≤ maxLen ∧
    ∀ i, i < len → ∃ b o u, p = some ⟨b, o, none⟩ ∧ Head w b (o + i * 5) (kid i) u ∧ (kid i).InB B w u := by
  rcases h with ⟨rfl, p, cap, rfl⟩ | ⟨b, o, cap, V, rfl, hB, h1, h2, h3⟩
  · exact ⟨p, cap, rfl, Nat.zero_le _, fun i hi => by omega⟩
  · exact ⟨_, cap, rfl, Nat.le_trans h1 h2, fun i hi => ⟨b, o, V i, rfl, h3 i hi⟩⟩

theorem SlB.fn {B : Nat} {w : World} {len : Nat} {kid : Nat → D} {v : Value} (h : SlB B w len kid v) : ∃ (p : Option Addr) (cap : Nat) (V : Nat → Value), v = .slice p len cap ∧ len ≤ maxLen ∧
    ∀ i, i < len → ∃ b o, p = some ⟨b, o, none⟩ ∧ Head w b (o + i * 5) (kid i) (V i) ∧ (kid i).InB B w (V i) := by
  rcases h with ⟨rfl, p, cap, rfl⟩ | ⟨b, o, cap, V, rfl, hB, h1, h2, h3⟩
  · exact ⟨p, cap, fun _ => .bool false, rfl, Nat.zero_le _, fun i hi => by omega⟩
  · exact ⟨_, cap, V, rfl, Nat.le_trans h1 h2, fun i hi => ⟨b, o, rfl, h3 i hi⟩⟩

theorem newb (w : World) (o : Obj) : Below w.heap.size w (w.alloc o) := (Below.refl _ _).alloc (Nat.le_refl _) o

/-- A datum's value. -/
def D.val (t : D) (v : Value) : Value := .agg #[.int .i64 t.op, .int .i64 t.at_, .int .i64 t.n, .string t.s, v]

end Go.Proofs.YtlclfmjpnchmbaaGreat
