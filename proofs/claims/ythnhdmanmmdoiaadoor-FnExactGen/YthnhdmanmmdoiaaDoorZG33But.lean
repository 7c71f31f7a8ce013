/- (*blockLook).kidCountOk. Conditions: the table reads as its text lays it; the op is one; a closure's number is one of the list. -/
import Derived.Test.YthnhdmanmmdoiaaDoorZG32ImplBlk1
import Derived.Test.YthnhdmanmmdoiaaDoorRows
import Derived.RangeFuncNested
import Derived.Below
namespace Go.Proofs.YthnhdmanmmdoiaaDoor
open Go.ChangeShapes Go.WideShapes Go.ChangeAt Go.RowKit

set_option maxRecDepth 100000 in
set_option maxHeartbeats 4000000 in
theorem kid_count_ok (nb : Nat) (kb : Nat → Kb) (at_ : Nat) (op n : Int) (hop : opB op = true) (hcl : op = 5 → 1 ≤ n ∧ n < nb) (w : World) (K : Nat) (lv v : Value) (left : Int) (p : Option Addr) (len cap : Nat) (hv : v = .slice p len cap) (hlv : Kl w nb kb lv) (hK : Look w K lv at_ left) (ht : KidTab w) :
    Calls Tryd.prog 48 #[.pointer (some ⟨K, 0, none⟩), .agg #[.int .i64 op, .int .i64 n, v]] w fun e w' => e = .returned (.bool (kidJ kb op n len)) ∧ Below w.heap.size w w' := by
  obtain ⟨pl, cl, el, hll, hal⟩ := hlv.at
  obtain ⟨W, hW⟩ : ∃ W, W = w.alloc (.cells #[.int .i64 op, .int .i64 n, v] 48) := ⟨_, rfl⟩
  obtain ⟨TB, hTB⟩ : ∃ TB, TB = w.heap.size := ⟨_, rfl⟩
  have nb1 : Below w.heap.size w W := by rw [hW]; exact newb w _
  have HBL : Hid (Below w.heap.size w W) := nb1
  have hbx : W.heap[TB]? = some (.cells #[.int .i64 op, .int .i64 n, v] 48 (0, 0)) := by rw [hW, hTB]; exact heap_alloc_new w _
  have q0 : W.cell? ⟨TB, 0, none⟩ = some (.int .i64 op) := cell_of_row W TB 0 _ _ _ hbx
  have q1 : W.cell? ⟨TB, 1, none⟩ = some (.int .i64 n) := cell_of_row W TB 1 _ _ _ hbx
  have q2 : W.cell? ⟨TB, 2, none⟩ = some v := cell_of_row W TB 2 _ _ _ hbx
  obtain ⟨k0, -, -⟩ := (hK.below nb1).cells
  have HL : Hid (∀ i, i < nb → ∃ b o, pl = some ⟨b, o, none⟩ ∧ W.cell? ⟨b, o + i * 4, none⟩ = some (.int .i64 (kb i).fr)) := fun i hi => by
    obtain ⟨b, o, u, hp, hd, -⟩ := hal i hi
    exact ⟨b, o, hp, (hd.below nb1).c0⟩
  have HWW : Hid (W = w.alloc (.cells #[.int .i64 op, .int .i64 n, v] 48) ∧ TB = w.heap.size) := ⟨hW, hTB⟩
  have HT : Hid (KidTab W) := ht.below nb1
  obtain ⟨R, hR⟩ : ∃ R, kidJ kb op n len = R := ⟨_, rfl⟩
  rw [hR]
  have HR : Hid (R = kidJ kb op n len) := hR.symm
  have HOP : Hid (opB op = true) := hop
  clear hW hTB hbx hal hlv hK nb1 ht hR hop
  unfold maxLen at hll
  subst hv el
  by_cases h14 : op = 14
  · subst h14
    have HR2 : Hid (R = true) := HR.out
    clear HR hcl
    go_enter Tryd.func48, Tryd.ntmps48
    go_upto_region 1 with fail
    rw [← HWW.out.1, ← HWW.out.2]
    go_wp2_with fail
    go_ret
    exact ⟨by rw [HR2.out]; rfl, HBL.out⟩
  by_cases h5 : op = 5
  · subst h5
    obtain ⟨hn0, hn1⟩ := hcl rfl
    have HR2 : Hid (R = ((len : Int) == (kb n.toNat).fr)) := HR.out
    obtain ⟨m, rfl⟩ : ∃ m : Nat, n = m := ⟨n.toNat, by omega⟩
    obtain ⟨b, o, hp, c0⟩ := HL.out m (by omega)
    subst hp
    rw [Int.toNat_natCast] at HR2
    generalize (kb m).fr = F at *
    clear HR HL hcl
    have hone := Later.one W
    have y0 := fun x : Later W => x.cell q0
    have y1 := fun x : Later W => x.cell q1
    have y2 := fun x : Later W => x.cell q2
    have y3 := fun x : Later W => x.cell k0
    have y4 := fun x : Later W => x.cell c0
    go_enter Tryd.func48, Tryd.ntmps48
    go_upto_region 1 with fail
    rw [← HWW.out.1, ← HWW.out.2]
    go_upto_region 5 with fail
    clear q0 q1 q2 k0 c0
    refine wp_region_later (by kernel_rfl) (by kernel_rfl) ?_
    repeat (go_big_quiet_step (fail))
    refine wpQuiet_nil ?_
    rintro _ ⟨x, rfl⟩
    go_wp2_with fail
    go_ret
    exact ⟨by rw [HR2.out]; rfl, HBL.out.trans (x.le.mono HBL.out.size)⟩
  obtain ⟨i, rfl, hi1, hi2⟩ := op_cases HOP.out
  have g14 : ((i : Int) == 14) = false := by simpa using h14
  have g5 : ((i : Int) == 5) = false := by simpa using h5
  have c0 := HT.out i (by omega)
  have HR2 : Hid (R = ((len : Int) == kidTab.getD i 0)) := HR.out.trans (by unfold kidJ; rw [if_neg h14, if_neg h5, Int.toNat_natCast])
  generalize kidTab.getD i 0 = F at *
  have hi3 : (i : Int) < 20 := by omega
  clear HR HL hcl h14 h5
  have hone := Later.one W
  have y0 := fun x : Later W => x.cell q0
  have y1 := fun x : Later W => x.cell q1
  have y2 := fun x : Later W => x.cell q2
  have y4 := fun x : Later W => x.cell c0
  go_enter Tryd.func48, Tryd.ntmps48
  go_upto_region 1 with fail
  rw [← HWW.out.1, ← HWW.out.2]
  go_upto_region 6 with fail
  clear q0 q1 q2 k0 c0
  refine wp_region_later (by kernel_rfl) (by kernel_rfl) ?_
  repeat (go_big_quiet_step (fail))
  refine wpQuiet_nil ?_
  rintro _ ⟨x, rfl⟩
  go_wp2_with fail
  go_ret
  exact ⟨by rw [HR2.out]; rfl, HBL.out.trans (x.le.mono HBL.out.size)⟩
end Go.Proofs.YthnhdmanmmdoiaaDoor

/- What lay stays as it was, but for some blocks. No conditions. -/
namespace Go.Proofs.YthnhdmanmmdoiaaDoor
open Go.RowKit

/-- The world w' is as w was, but for the blocks of which X is told, and for new ones. -/
structure But (X : Nat → Prop) (w w' : World) : Prop where
  os : w'.os = w.os
  tape : w'.tape = w.tape
  output : w'.output = w.output
  size : w.heap.size ≤ w'.heap.size
  block : ∀ k, k < w.heap.size → ¬ X k → w'.heap[k]? = w.heap[k]?

variable {X Y : Nat → Prop} {a b c w w' : World}
theorem But.refl (X : Nat → Prop) (w : World) : But X w w := ⟨rfl, rfl, rfl, Nat.le_refl _, fun _ _ _ => rfl⟩
theorem But.trans (h : But X a b) (k : But X b c) : But X a c :=
  ⟨k.os.trans h.os, k.tape.trans h.tape, k.output.trans h.output, Nat.le_trans h.size k.size, fun i hi hx => (k.block i (Nat.lt_of_lt_of_le hi h.size) hx).trans (h.block i hi hx)⟩
theorem But.mono (h : But X a b) (hx : ∀ k, k < a.heap.size → X k → Y k) : But Y a b := ⟨h.os, h.tape, h.output, h.size, fun k hk hy => h.block k hk (fun x => hy (hx k hk x))⟩
theorem But.of_below {B : Nat} (h : Below B a b) (hx : ∀ k, k < a.heap.size → B ≤ k → X k) : But X a b := ⟨h.os, h.tape, h.output, h.size, fun k hk hn => h.block k (by rcases Nat.lt_or_ge k B with h1 | h1; exact h1; exact absurd (hx k hk h1) hn)⟩
theorem But.of_all (h : Below a.heap.size a b) : But X a b := But.of_below h (fun k hk hB => absurd hk (by omega))
theorem But.below (h : But X a b) {B : Nat} (hB : B ≤ a.heap.size) (hx : ∀ k, X k → B ≤ k) : Below B a b := ⟨h.os, h.tape, h.output, h.size, fun k hk => h.block k (by omega) (fun x => by have := hx k x; omega)⟩
theorem But.alloc (h : But X a b) (o : Obj) : But X a (b.alloc o) :=
  h.trans ⟨rfl, rfl, rfl, by simp, fun k hk _ => Below.heap_alloc _ _ _ hk⟩
theorem But.setCell (h : But X a b) {p : Addr} (hp : a.heap.size ≤ p.block ∨ X p.block) (u : Value) : But X a (b.setCell p u) :=
  ⟨h.os, h.tape, h.output, by have := h.size; simpa [World.setCell] using this, fun k hk hx => (Below.heap_setCell _ _ _ _ (by rintro rfl; rcases hp with h1 | h1; omega; exact hx h1)).trans (h.block k hk hx)⟩
theorem But.putObj (h : But X a b) {r : Nat} (hp : a.heap.size ≤ r ∨ X r) (o : Obj) : But X a (b.putObj r o) :=
  ⟨h.os, h.tape, h.output, by have := h.size; simpa using this, fun k hk hx => (World.putObj_heap_other (by rintro rfl; rcases hp with h1 | h1; omega; exact hx h1)).trans (h.block k hk hx)⟩
theorem But.grown {row : Option Nat} (h : But X a b) (hg : b.grownBy c row) (hr : ∀ k, row = some k → a.heap.size ≤ k ∨ X k) : But X a c :=
  ⟨hg.os.trans h.os, hg.tape.trans h.tape, hg.output.trans h.output, Nat.le_trans h.size hg.size, fun k hk hx => (hg.block k (Nat.lt_of_lt_of_le hk h.size) (by intro e; rcases hr k e.symm with h1 | h1; omega; exact hx h1)).trans (h.block k hk hx)⟩
theorem But.drew (h : But X a b) : But X a b.drew := ⟨h.os, h.tape, h.output, h.size, h.block⟩
theorem But.cell (h : But X a b) {p : Addr} (hp : p.block < a.heap.size) (hx : ¬ X p.block) : b.cell? p = a.cell? p := World.cell?_of_block (w := a) (h.block p.block hp hx)
theorem But.at (h : But X a b) {k : Nat} {o : Obj} (hk : a.heap[k]? = some o) (hx : ¬ X k) : b.heap[k]? = some o := (h.block k (Array.getElem?_eq_some_iff.1 hk).1 hx).trans hk
/-- Two steps, the second one's blocks being new to the first. -/
theorem But.step (h : But X a b) (k : But Y b c) (hy : ∀ j, j < a.heap.size → Y j → X j) : But X a c :=
  ⟨k.os.trans h.os, k.tape.trans h.tape, k.output.trans h.output, Nat.le_trans h.size k.size, fun i hi hx => (k.block i (Nat.lt_of_lt_of_le hi h.size) (fun y => hx (hy i hi y))).trans (h.block i hi hx)⟩
theorem But.toGrown {g : Nat} (h : But (fun k => k = g) a b) : a.grownBy b (some g) := ⟨h.os, h.tape, h.output, h.size, fun k hk hne => h.block k hk (fun e => hne (by rw [e]))⟩
theorem But.owns (h : But X a b) {base e size n : Nat} {v : Value} {xs : List Value} (ho : a.ownsRow base e size v n xs) (hx : ∀ g, v.ownBlock = some g → ¬ X g) : b.ownsRow base e size v n xs := by
  refine ⟨ho.1, ?_⟩
  rcases ho.2 with hn | ⟨g, cap, cur, rfl, hbg, hgg, rest⟩
  · exact .inl hn
  · exact .inr ⟨g, cap, cur, rfl, hbg, h.at hgg (hx g rfl), rest⟩
end Go.Proofs.YthnhdmanmmdoiaaDoor
