/- What stands while laws.FnExactMatch runs: the arguments, what was asked for, what was handed in and what came out. No conditions. -/
import Derived.Test.YtlclfmjpnchmbaaGreatZG8Dat
import Derived.Test.YtlclfmjpnchmbaaGreatZG17EqGot
import Derived.Test.YtlclfmjpnchmbaaGreatZG0Stx
import Derived.Test.YtlclfmjpnchmbaaGreatZG1StxOwn
import Derived.Deep.QuietTactic
import Derived.BigQuiet
import Derived.WalkSpells
import Derived.WalkSmall
namespace Go.Proofs.YtlclfmjpnchmbaaGreat
open Go.ChangeShapes Go.WideShapes Go.ChangeAt Go.RowKit

/-- The arguments' two blocks. -/
structure M0 (w W : World) (a b : X) (su u sv v : Value) : Prop where
  bel : Below w.heap.size w W
  ba : Nd W w.heap.size a su u 25
  bb : Nd W (w.heap.size + 1) b sv v 25
theorem M0.below {w W W' : World} {a b : X} {su u sv v : Value} (h : M0 w W a b su u sv v) (hb : Below W.heap.size W W') : M0 w W' a b su u sv v := ⟨h.bel.trans (hb.mono h.bel.size), h.ba.below hb, h.bb.below hb⟩
theorem M0.frx {w W W' : World} {a b : X} {su u sv v : Value} {S : List Nat} (h : M0 w W a b su u sv v) (hf : FrX W W' S) (hS : ∀ x ∈ S, w.heap.size + 1 < x) : M0 w W' a b su u sv v := by
  have hl := h.bb.lt
  exact ⟨⟨hf.os.trans h.bel.os, hf.tape.trans h.bel.tape, hf.output.trans h.bel.output, Nat.le_trans h.bel.size hf.size, fun x hx => (hf.block x (by omega) (fun hc => by have := hS x hc; omega)).trans (h.bel.block x hx)⟩,
    h.ba.frx hf (fun hc => by have := hS _ hc; omega), h.bb.frx hf (fun hc => by have := hS _ hc; omega)⟩
theorem M0.new (w : World) (a b : X) (su u sv v : Value) : M0 w ((w.alloc (.cells #[.int .i64 a.op, .int .i64 a.at_, .int .i64 a.n, .string a.s, su, u] 25)).alloc (.cells #[.int .i64 b.op, .int .i64 b.at_, .int .i64 b.n, .string b.s, sv, v] 25)) a b su u sv v := by
  have hn : Nd (w.alloc (.cells #[.int .i64 a.op, .int .i64 a.at_, .int .i64 a.n, .string a.s, su, u] 25)) w.heap.size a su u 25 := heap_alloc_new w _
  refine ⟨(newx w _).trans ((newx _ _).mono (by simp)), hn.below (newx _ _), ?_⟩
  have h1 := heap_alloc_new (w.alloc (.cells #[.int .i64 a.op, .int .i64 a.at_, .int .i64 a.n, .string a.s, su, u] 25)) (.cells #[.int .i64 b.op, .int .i64 b.at_, .int .i64 b.n, .string b.s, sv, v] 25)
  rw [World.size_alloc] at h1
  exact h1
/-- .. and what was asked for. -/
structure M1 (w W : World) (a b : X) (su u sv v vw : Value) (n : Nat) (sm : Nat → G) (kW : Nat) (Sw : List Nat) : Prop extends M0 w W a b su u sv v where
  oW : GsOwn W n sm vw Sw
  rW : ∀ x ∈ Sw, w.heap.size + 1 < x ∧ x < kW
  lW : w.heap.size + 1 < kW
  kle : kW ≤ W.heap.size
section
variable {w W W' : World} {a b : X} {su u sv v vw : Value} {n : Nat} {sm : Nat → G} {kW : Nat} {Sw : List Nat}
theorem M1.below (h : M1 w W a b su u sv v vw n sm kW Sw) (hb : Below W.heap.size W W') : M1 w W' a b su u sv v vw n sm kW Sw := ⟨h.toM0.below hb, h.oW.below hb, h.rW, h.lW, Nat.le_trans h.kle hb.size⟩
theorem M1.frx {S : List Nat} (h : M1 w W a b su u sv v vw n sm kW Sw) (hf : FrX W W' S) (hS : ∀ x ∈ S, kW ≤ x) : M1 w W' a b su u sv v vw n sm kW Sw :=
  ⟨h.toM0.frx hf (fun x hx => by have := hS x hx; have := h.lW; omega), h.oW.same (fun g hg => hf.block g (h.oW.lt g hg) (fun hc => by have := hS g hc; have := (h.rW g hg).2; omega)), h.rW, h.lW, Nat.le_trans h.kle hf.size⟩
theorem M1.new {W3 : World} (h : M0 w W a b su u sv v) (hb : Below W.heap.size W W3) (ho : GsOwn W3 n sm vw Sw) (hS : ∀ x ∈ Sw, W.heap.size ≤ x) : M1 w W3 a b su u sv v vw n sm W3.heap.size Sw := by
  have hl := h.bb.lt
  have hbs := hb.size
  exact ⟨h.below hb, ho, fun x hx => ⟨by have := hS x hx; omega, ho.lt x hx⟩, by omega, Nat.le_refl _⟩
/-- .. and what was handed in. -/
structure M2 (w W : World) (a b : X) (su u sv v vw : Value) (n : Nat) (sm : Nat → G) (kW : Nat) (Sw : List Nat) (sx vx : Value) (gX : Nat) (Sx : List Nat) : Prop extends M1 w W a b su u sv v vw n sm kW Sw where
  bX : Nd W gX a sx vx 32
  oX : XOwn W a sx vx Sx
  nX : Sx.Nodup
  rX : ∀ x ∈ Sx, kW ≤ x ∧ x < gX
  lX : kW ≤ gX
structure M3 (w W : World) (a b : X) (su u sv v vw : Value) (n : Nat) (sm : Nat → G) (kW : Nat) (Sw : List Nat) (sx vx : Value) (gX : Nat) (Sx : List Nat) (sy vy : Value) (gY : Nat) (Sy : List Nat) : Prop extends M2 w W a b su u sv v vw n sm kW Sw sx vx gX Sx where
  bY : Nd W gY b sy vy 32
  oY : XOwn W b sy vy Sy
  nY : Sy.Nodup
  rY : ∀ x ∈ Sy, gX < x ∧ x < gY
  lY : gX < gY
structure M4 (w W : World) (a b : X) (su u sv v vw : Value) (n : Nat) (sm : Nat → G) (kW : Nat) (Sw : List Nat) (sx vx : Value) (gX : Nat) (Sx : List Nat) (sy vy : Value) (gY : Nat) (Sy : List Nat) (vg : Value) (Sg : List Nat) : Prop extends M3 w W a b su u sv v vw n sm kW Sw sx vx gX Sx sy vy gY Sy where
  oG : GsOwn W n sm vg Sg
  nG : Sg.Nodup
  rG : ∀ x ∈ Sg, gY < x
/-- The first that was handed in has been marked. -/
structure M5 (w W : World) (a b : X) (su u sv v vw : Value) (n : Nat) (sm : Nat → G) (kW : Nat) (Sw : List Nat) (gX : Nat) (sy vy : Value) (gY : Nat) (Sy : List Nat) (vg : Value) (Sg : List Nat) : Prop extends M1 w W a b su u sv v vw n sm kW Sw where
  lX : kW ≤ gX
  bY : Nd W gY b sy vy 32
  oY : XOwn W b sy vy Sy
  nY : Sy.Nodup
  rY : ∀ x ∈ Sy, gX < x ∧ x < gY
  lY : gX < gY
  oG : GsOwn W n sm vg Sg
  nG : Sg.Nodup
  rG : ∀ x ∈ Sg, gY < x
/-- Both have been marked. -/
structure M6 (w W : World) (a b : X) (su u sv v vw : Value) (n : Nat) (sm : Nat → G) (kW : Nat) (Sw : List Nat) (vg : Value) (Sg : List Nat) : Prop extends M1 w W a b su u sv v vw n sm kW Sw where
  oG : GsOwn W n sm vg Sg
  nG : Sg.Nodup
  rG : ∀ x ∈ Sg, kW ≤ x
/-- What came out has been marked, too. -/
structure M7 (w W : World) (a b : X) (su u sv v vw : Value) (n : Nat) (sm : Nat → G) (kW : Nat) (Sw : List Nat) (vg : Value) (Sg : List Nat) : Prop extends M1 w W a b su u sv v vw n sm kW Sw where
  mG : GsOwn W n (markGK sm 1) vg Sg
variable {sx vx sy vy vg : Value} {gX gY : Nat} {Sx Sy Sg : List Nat}
theorem M2.below (h : M2 w W a b su u sv v vw n sm kW Sw sx vx gX Sx) (hb : Below W.heap.size W W') : M2 w W' a b su u sv v vw n sm kW Sw sx vx gX Sx := ⟨h.toM1.below hb, h.bX.below hb, h.oX.same _ (fun g hg => hb.block g (h.oX.there _ g hg)), h.nX, h.rX, h.lX⟩
theorem M3.below (h : M3 w W a b su u sv v vw n sm kW Sw sx vx gX Sx sy vy gY Sy) (hb : Below W.heap.size W W') : M3 w W' a b su u sv v vw n sm kW Sw sx vx gX Sx sy vy gY Sy := ⟨h.toM2.below hb, h.bY.below hb, h.oY.same _ (fun g hg => hb.block g (h.oY.there _ g hg)), h.nY, h.rY, h.lY⟩
theorem M4.below (h : M4 w W a b su u sv v vw n sm kW Sw sx vx gX Sx sy vy gY Sy vg Sg) (hb : Below W.heap.size W W') : M4 w W' a b su u sv v vw n sm kW Sw sx vx gX Sx sy vy gY Sy vg Sg := ⟨h.toM3.below hb, h.oG.below hb, h.nG, h.rG⟩
theorem M6.below (h : M6 w W a b su u sv v vw n sm kW Sw vg Sg) (hb : Below W.heap.size W W') : M6 w W' a b su u sv v vw n sm kW Sw vg Sg := ⟨h.toM1.below hb, h.oG.below hb, h.nG, h.rG⟩
theorem M7.below (h : M7 w W a b su u sv v vw n sm kW Sw vg Sg) (hb : Below W.heap.size W W') : M7 w W' a b su u sv v vw n sm kW Sw vg Sg := ⟨h.toM1.below hb, h.mG.below hb⟩
theorem M2.new {w3 : World} (h : M1 w W a b su u sv v vw n sm kW Sw) (hb : Below W.heap.size W w3) (ho : XOwn w3 a sx vx Sx) (hn : Sx.Nodup) (hS : ∀ x ∈ Sx, W.heap.size ≤ x) :
    M2 w (w3.alloc (.cells #[.int .i64 a.op, .int .i64 a.at_, .int .i64 a.n, .string a.s, sx, vx] 32)) a b su u sv v vw n sm kW Sw sx vx w3.heap.size Sx := by
  have hb2 := newx w3 (.cells #[.int .i64 a.op, .int .i64 a.at_, .int .i64 a.n, .string a.s, sx, vx] 32)
  have hk := h.kle
  have hbs := hb.size
  exact ⟨(h.below hb).below hb2, heap_alloc_new w3 _, ho.same _ (fun g hg => hb2.block g (ho.there _ g hg)), hn, fun x hx => ⟨by have := hS x hx; omega, ho.there _ x hx⟩, by omega⟩
theorem M3.new {w3 : World} (h : M2 w W a b su u sv v vw n sm kW Sw sx vx gX Sx) (hb : Below W.heap.size W w3) (ho : XOwn w3 b sy vy Sy) (hn : Sy.Nodup) (hS : ∀ x ∈ Sy, W.heap.size ≤ x) :
    M3 w (w3.alloc (.cells #[.int .i64 b.op, .int .i64 b.at_, .int .i64 b.n, .string b.s, sy, vy] 32)) a b su u sv v vw n sm kW Sw sx vx gX Sx sy vy w3.heap.size Sy := by
  have hb2 := newx w3 (.cells #[.int .i64 b.op, .int .i64 b.at_, .int .i64 b.n, .string b.s, sy, vy] 32)
  have hl := h.bX.lt
  have hbs := hb.size
  exact ⟨(h.below hb).below hb2, heap_alloc_new w3 _, ho.same _ (fun g hg => hb2.block g (ho.there _ g hg)), hn, fun x hx => ⟨by have := hS x hx; omega, ho.there _ x hx⟩, by omega⟩
theorem M4.new {w3 : World} (h : M3 w W a b su u sv v vw n sm kW Sw sx vx gX Sx sy vy gY Sy) (hb : Below W.heap.size W w3) (ho : GsOwn w3 n sm vg Sg) (hn : Sg.Nodup) (hS : ∀ x ∈ Sg, W.heap.size ≤ x) : M4 w w3 a b su u sv v vw n sm kW Sw sx vx gX Sx sy vy gY Sy vg Sg := by
  have hl := h.bY.lt
  exact ⟨h.below hb, ho, hn, fun x hx => by have := hS x hx; omega⟩
theorem M4.marked (h : M4 w W a b su u sv v vw n sm kW Sw sx vx gX Sx sy vy gY Sy vg Sg) (hf : FrX W W' Sx) : M5 w W' a b su u sv v vw n sm kW Sw gX sy vy gY Sy vg Sg :=
  ⟨h.toM1.frx hf (fun x hx => (h.rX x hx).1), h.lX, h.bY.frx hf (fun hc => by have := (h.rX _ hc).2; have := h.lY; omega), h.oY.same _ (fun g hg => hf.block g (h.oY.there _ g hg) (fun hc => by have := (h.rX g hc).2; have := (h.rY g hg).1; omega)), h.nY, h.rY, h.lY, h.oG.same (fun g hg => hf.block g (h.oG.lt g hg) (fun hc => by have := (h.rX g hc).2; have := h.rG g hg; have := h.lY; omega)), h.nG, h.rG⟩
theorem M5.marked (h : M5 w W a b su u sv v vw n sm kW Sw gX sy vy gY Sy vg Sg) (hf : FrX W W' Sy) : M6 w W' a b su u sv v vw n sm kW Sw vg Sg :=
  ⟨h.toM1.frx hf (fun x hx => by have := (h.rY x hx).1; have := h.lX; omega), h.oG.same (fun g hg => hf.block g (h.oG.lt g hg) (fun hc => by have := (h.rY g hc).2; have := h.rG g hg; omega)), h.nG, fun x hx => by have := h.rG x hx; have := h.lX; have := h.lY; omega⟩
theorem M6.marked (h : M6 w W a b su u sv v vw n sm kW Sw vg Sg) (hf : FrX W W' Sg) (hm : GsOwn W' n (markGK sm 1) vg Sg) : M7 w W' a b su u sv v vw n sm kW Sw vg Sg := ⟨h.toM1.frx hf h.rG, hm⟩
end
end Go.Proofs.YtlclfmjpnchmbaaGreat

/- How slices of texts lie: to be read (RdS), and owned (OwnS). No conditions. -/
namespace Go.Proofs.YtlclfmjpnchmbaaGreat
open Go.ChangeShapes Go.WideShapes Go.ChangeAt Go.RowKit

/-- The slice v lies in w and holds xs. -/
def RdS (w : World) (v : Value) (xs : List ByteArray) : Prop :=
  ∃ a cap, v = .slice a xs.length cap ∧ ∀ j, j < xs.length → ∃ b off, a = some ⟨b, off, none⟩ ∧ w.cell? ⟨b, off + j, none⟩ = some (.string (xs.getD j ⟨#[]⟩))
theorem RdS.below {w w' : World} {v : Value} {xs : List ByteArray} (h : RdS w v xs) (hb : Below w.heap.size w w') : RdS w' v xs := by
  obtain ⟨a, cap, rfl, hc⟩ := h
  refine ⟨a, cap, rfl, fun j hj => ?_⟩
  obtain ⟨b, off, e, h⟩ := hc j hj
  exact ⟨b, off, e, (hb.cell (World.block_lt_of_cell? w _ h)).trans h⟩
/-- The slice v is a row of its own, from block base on, and holds xs. -/
def OwnS (w : World) (base : Nat) (v : Value) (xs : List ByteArray) : Prop := w.ownsRow base 9 1 v xs.length (xs.map Value.string)
theorem OwnS.rd {w : World} {base : Nat} {v : Value} {xs : List ByteArray} (h : OwnS w base v xs) : RdS w v xs := by
  have h' := h
  rcases h.2 with ⟨rfl, hn⟩ | ⟨g, cap, cur, rfl, hbg, hg, hnc, _⟩
  · have : xs = [] := List.eq_nil_of_length_eq_zero hn
    subst this
    exact ⟨none, 0, rfl, fun j hj => by simp at hj⟩
  · refine ⟨_, cap, rfl, fun j hj => ⟨g, 0, rfl, ?_⟩⟩
    rw [Nat.zero_add, World.ownsRow.cellAt h' j (by omega)]
    simp [List.getElem?_eq_getElem hj]
theorem OwnS.below {w w' : World} {base : Nat} {v : Value} {xs : List ByteArray} (h : OwnS w base v xs) (hb : Below w.heap.size w w') : OwnS w' base v xs :=
  World.ownsRow.kept (row := none) h ⟨hb.os, hb.tape, hb.output, hb.size, fun k hk _ => hb.block k hk⟩ (by
    cases hv : v.ownBlock with
    | none => exact .inl rfl
    | some k => exact .inr (by simp))
theorem OwnS.mono {w : World} {base base' : Nat} {v : Value} {xs : List ByteArray} (h : OwnS w base v xs) (hb : base' ≤ base) : OwnS w base' v xs := by
  refine ⟨h.1, ?_⟩
  rcases h.2 with h | ⟨g, cap, cur, rfl, hbg, rest⟩
  · exact .inl h
  · exact .inr ⟨g, cap, cur, rfl, Nat.le_trans hb hbg, rest⟩
theorem own_belowV {w w' : World} {base e size n : Nat} {v : Value} {xs : List Value} (h : w.ownsRow base e size v n xs) (hb : Below w.heap.size w w') : w'.ownsRow base e size v n xs := by
  refine ⟨h.1, ?_⟩
  rcases h.2 with hn | ⟨g, cap, cur, rfl, hbg, hgg, rest⟩
  · exact .inl hn
  · exact .inr ⟨g, cap, cur, rfl, hbg, (hb.block g (Array.getElem?_eq_some_iff.1 hgg).1).trans hgg, rest⟩
theorem string_info : (Tryz.prog.info? 9).map (fun i => (i.zero, i.size, i.bytes)) = some (some (.string ⟨#[]⟩), 1, 16) := by kernel_rfl
theorem strs_cells (xs : List ByteArray) : ∀ v ∈ xs.map Value.string, v.oneCell' = true := by
  intro v hv
  obtain ⟨x, _, rfl⟩ := List.mem_map.1 hv
  rfl
theorem own_pushS {B : Nat} {w wr w1 : World} {r0 v' : Value} {L : List ByteArray} {x : ByteArray} {t : TypeId} (h : OwnS wr B r0 L) (hb : Below B w wr) (hB : B ≤ wr.heap.size)
    (h1 : w1.ownsRow B 9 1 v' (L.length + 1) (L.map Value.string ++ [.string x])) (hg : (wr.alloc (.cells #[.string x] t)).grownBy w1 r0.ownBlock) : OwnS w1 B v' (L ++ [x]) ∧ Below B w w1 := by
  refine ⟨?_, ?_⟩
  · unfold OwnS
    rw [List.length_append, List.length_singleton, List.map_append]
    exact h1
  · exact (hb.alloc hB _).grown hg (by simp; omega) (fun k hk => (h.lt k hk).1)
end Go.Proofs.YtlclfmjpnchmbaaGreat

/- impl's sets of ints, what only reads: has, okFrom, placeFor, within, and slices.Index, slices.Contains. Condition: at most 2^22 of them. -/
namespace Go.Proofs.YtlclfmjpnchmbaaGreat
open Go.ChangeShapes Go.WideShapes Go.ChangeAt Go.RowKit

set_option maxHeartbeats 1000000 in
theorem impl_okfrom (xs : List Int) (v : Value) (w : World) (hv : Rd w v xs) (hl : xs.length ≤ 4194304) :
    Calls Tryz.prog 72 #[v, .int .i64 0] w fun e w' => e = .returned (.bool (setB xs)) ∧ w' = w := by
  obtain ⟨a, cap, rfl, hc⟩ := hv.shape
  have HC : Hid (∀ j, j < xs.length → ∃ b off, a = some ⟨b, off, none⟩ ∧ w.cell? ⟨b, off + j, none⟩ = some (.int .i64 (xs.getD j 0))) := hc
  clear hc hv
  obtain ⟨m, hm⟩ : ∃ m, m = xs.length := ⟨_, rfl⟩
  rw [← hm] at HC hl ⊢
  have HM : Hid (m = xs.length) := hm
  clear hm
  go_enter Tryz.func72, Tryz.ntmps72
  go_wp2
  go_loop [9] (fun i => ∃ k : Nat, k ≤ m ∧ i = .int .i64 k ∧ (∀ j, j < k → standsB xs j = true)) (fun i => m - (intOf i).toNat)
  case atStart => exact ⟨0, by omega, rfl, fun j hj => by omega⟩
  case round =>
    obtain ⟨k, hk, rfl, hno⟩ := hrel
    have HNO : Hid (∀ j, j < k → standsB xs j = true) := hno
    clear hno
    have hup : ∀ (b : Bool), standsB xs k = b → b = true → ∀ j, j < k + 1 → standsB xs j = true := by
      intro b h1 h2 j hj
      by_cases hjk : j = k
      · subst hjk; rw [h1, h2]
      · exact HNO.out j (by omega)
    have HUP : Hid (∀ (b : Bool), standsB xs k = b → b = true → ∀ j, j < k + 1 → standsB xs j = true) := hup
    clear hup
    by_cases hlt : (k : Int) < m
    · have HK : Hid (k < xs.length) := by show k < _; rw [← HM.out]; omega
      obtain ⟨b, off, rfl, hcell⟩ := HC.out k (by omega)
      generalize hx : xs.getD k 0 = x at hcell
      have HX : Hid (xs.getD k 0 = x) := hx
      clear hx
      by_cases h0 : x < 0
      · have d0 : decide (x < 0) = true := by simpa using h0
        go_wp2
        go_ret
        have hs : standsB xs k = false := by unfold standsB; rw [HX.out]; simp; omega
        rw [set_no k HK.out hs]
        exact ⟨rfl, rfl⟩
      · have d0 : decide (x < 0) = false := by simpa using h0
        by_cases hk0 : 0 < k
        · have dk : decide (0 < k) = true := by simpa using hk0
          obtain ⟨b', off', hbb, hcell2⟩ := HC.out (k - 1) (by omega)
          simp only [Option.some.injEq, Addr.mk.injEq, and_true] at hbb
          obtain ⟨rfl, rfl⟩ := hbb
          generalize hy : xs.getD (k - 1) 0 = y at hcell2
          have HY : Hid (xs.getD (k - 1) 0 = y) := hy
          clear hy
          have hs : standsB xs k = decide (y < x) := by
            unfold standsB; rw [HX.out, HY.out, decide_eq_true (by omega : 0 ≤ x), decide_eq_false (by omega : ¬ k = 0)]; simp
          have HS : Hid (standsB xs k = decide (y < x)) := hs
          clear hs
          have e1 : (((k : Int) - 1).toNat) = k - 1 := by omega
          by_cases hyx : x ≤ y
          · go_wp2
            go_ret
            rw [set_no k HK.out (by rw [HS.out]; simp; omega)]
            exact ⟨rfl, rfl⟩
          · have d1 : decide (x ≤ y) = false := by simpa using hyx
            go_wp2
            go_round
            case rel => exact ⟨k + 1, by omega, by go_num, HUP.out _ HS.out (by simp; omega)⟩
            case measure => simp [intOf]; omega
        · have dk : decide (0 < k) = false := by simpa using hk0
          have hs : standsB xs k = true := by
            unfold standsB; rw [HX.out, decide_eq_true (by omega : 0 ≤ x), decide_eq_true (by omega : k = 0)]; rfl
          have HS : Hid (standsB xs k = true) := hs
          clear hs
          go_wp2
          go_round
          case rel => exact ⟨k + 1, by omega, by go_num, HUP.out _ HS.out rfl⟩
          case measure => simp [intOf]; omega
    · go_wp2
      go_ret
      have hke : k = m := by omega
      subst hke
      rw [set_yes (fun i hi => HNO.out i (by rw [HM.out]; exact hi))]
      exact ⟨rfl, rfl⟩

set_option maxHeartbeats 400000 in
theorem impl_setok (xs : List Int) (v : Value) (w : World) (hv : Rd w v xs) (hl : xs.length ≤ 4194304) :
    Calls Tryz.prog 57 #[v] w fun e w' => e = .returned (.bool (setB xs)) ∧ w' = w := by
  go_enter Tryz.func57, Tryz.ntmps57
  go_wp2_with fail
  refine (impl_okfrom xs v w hv hl).mono ?_
  rintro e w1 ⟨rfl, hw1⟩
  subst hw1
  go_wp2
  go_ret
  exact ⟨rfl, rfl⟩

end Go.Proofs.YtlclfmjpnchmbaaGreat
