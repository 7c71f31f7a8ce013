/- impl.appendNum again, with where its answer lies; a row of bytes that grows beside a block that stays. Conditions: as at PutNum16. -/
import Derived.Test.YtocdpgogoadfnaaDoorPutNum16
import Derived.Test.YtocdpgogoadfnaaDoorAppendOne
namespace Go.Proofs.YtocdpgogoadfnaaDoor
open Go.ChangeShapes Go.WideShapes Go.ChangeAt Go.RowKit

/-- Where a row lies behind it: where it lay, or anew. -/
def WhereY (w : World) (v u : Value) : Prop := u.ownBlock = v.ownBlock ∨ ∃ g, u.ownBlock = some g ∧ w.heap.size ≤ g
theorem WhereY.refl (w : World) (v : Value) : WhereY w v v := .inl rfl

theorem grown_where {w wr w2 : World} {v r u : Value} (hg : w.grownBy wr v.ownBlock) (hw : WhereY w v r) (h2 : wr.grownBy w2 r.ownBlock) (h3 : u.ownBlock = r.ownBlock ∨ u.ownBlock = some wr.heap.size) : w.grownBy w2 v.ownBlock ∧ WhereY w v u := by
  refine ⟨⟨h2.os.trans hg.os, h2.tape.trans hg.tape, h2.output.trans hg.output, Nat.le_trans hg.size h2.size, fun k hk hn => ?_⟩, ?_⟩
  · refine (h2.block k (Nat.lt_of_lt_of_le hk hg.size) ?_).trans (hg.block k hk hn)
    rcases hw with e | ⟨g, e, hge⟩
    · rw [e]; exact hn
    · rw [e]; intro h; injection h with h; omega
  · rcases h3 with h3 | h3
    · rcases hw with e | ⟨g, e, hge⟩
      · exact .inl (h3.trans e)
      · exact .inr ⟨g, h3.trans e, hge⟩
    · exact .inr ⟨_, h3, hg.size⟩
theorem grown_alloc {w wr : World} {v : Value} (hg : w.grownBy wr v.ownBlock) (o : Obj) : w.grownBy (wr.alloc o) v.ownBlock :=
  ⟨hg.os, hg.tape, hg.output, by have := hg.size; simp; omega, fun k hk hn => (Below.heap_alloc wr o k (Nat.lt_of_lt_of_le hk hg.size)).trans (hg.block k hk hn)⟩
theorem where_alloc {w wr : World} {v r u : Value} {o : Obj} (hg : w.grownBy wr v.ownBlock) (hw : WhereY w v r) {w2 : World} (h2 : (wr.alloc o).grownBy w2 r.ownBlock) (h3 : u.ownBlock = r.ownBlock ∨ u.ownBlock = some (wr.alloc o).heap.size) : w.grownBy w2 v.ownBlock ∧ WhereY w v u :=
  grown_where (grown_alloc hg o) hw h2 h3

theorem own_pushY2 {B : Nat} {w1 : World} {v' : Value} {L : List Nat} {x : Nat} {y : Int} (hy : y = x) (h1 : w1.ownsRow B 5 1 v' (L.length + 1) (L.map byV ++ [.int .u8 y])) : OwnY w1 B v' (L ++ [x]) := by
  subst hy
  unfold OwnY
  rw [List.length_append, List.length_singleton, List.map_append]
  exact h1

set_option maxRecDepth 100000 in
set_option maxHeartbeats 1000000 in
theorem append_num2 (n : Nat) (B : Nat) (v : Value) (L : List Nat) (w : World) (hown : OwnY w B v L) (hB : B ≤ w.heap.size) (hL : L.length ≤ 1099511627776) (hn : n ≤ 9223372036854775807) :
    Calls Tryd.prog 23 #[v, .int .i64 n] w fun e w' => ∃ u, e = .returned u ∧ OwnY w' B u (L ++ putN n) ∧ w.grownBy w' v.ownBlock ∧ WhereY w v u := by
  obtain ⟨i0, hi, hz0, hz1, hz2⟩ := info_parts by_info
  have HO : Hid (OwnY w B v L) := hown
  clear hown
  go_enter Tryd.func23, Tryd.ntmps23
  go_wp2_with fail
  go_loopw [0, 1] (fun r i wr => ∃ (m : Nat) (r0 : Value) (M : List Nat), r0 = r ∧ i = .int .i64 m ∧ m ≤ n ∧ OwnY wr B r0 M ∧ M ++ putN m = L ++ putN n ∧ w.grownBy wr v.ownBlock ∧ WhereY w v r0) (fun _ i _ => (intOf i).toNat)
  case atStart => exact ⟨n, _, L, rfl, rfl, by omega, HO.out, rfl, World.grownBy.refl _ _, WhereY.refl _ _⟩
  case round =>
    obtain ⟨m, r0, M, rfl, rfl, hm, hown, hput, hgr, hwh⟩ := hrel
    have HOW : Hid (OwnY wr B r0 M) := hown
    have HP : Hid (M ++ putN m = L ++ putN n) := hput
    have HG : Hid (w.grownBy wr v.ownBlock ∧ WhereY w v r0) := ⟨hgr, hwh⟩
    have hml := put_len M L m n hput hn
    have HSZ : Hid (B ≤ wr.heap.size) := Nat.le_trans hB hgr.size
    clear hown hput hgr hwh HO
    by_cases hlt : (128 : Int) ≤ m
    · have hm0 : (0 : Int) ≤ m := by omega
      go_wp2_with (at_builtin; refine wpList_append_1 _ rfl (.tmp 7) (.tmp 12) 24 rfl B 5 i0 (.int .u8 0) 1 1 Tryd.underlying24 hi hz0 hz1 hz2 rfl (by decide) r0 M.length (M.map byV) rfl (World.ownsRow.alloc HOW.out _) ⟨wr.heap.size, 0, none⟩ 1 1 [.int .u8 ((m : Int) % 128 + 128)] rfl rfl (one_newY wr _ _) (by simp [Value.oneCell']) (by unfold maxLen; omega) (by omega) (by have := HSZ.out; simp; omega) (by decide) ?_; intro v' w2 hown2 hg2 hwh2)
      have HR : Hid (OwnY w2 B v' (M ++ [m % 128 + 128])) := own_pushY2 (x := m % 128 + 128) (y := (m : Int) % 128 + 128) (by omega) hown2
      have HR2 : Hid (w.grownBy w2 v.ownBlock ∧ WhereY w v v') := where_alloc HG.out.1 HG.out.2 hg2 hwh2
      clear hown2 hg2 hwh2
      go_wp2_with fail
      go_roundw
      case rel =>
        refine ⟨m / 128, _, _, rfl, by go_num, by omega, HR.out, ?_, HR2.out.1, HR2.out.2⟩
        rw [← HP.out, putN_big (n := m) (by omega), List.append_assoc]; rfl
      case measure => simp [intOf]; omega
    · have hm0 : (m : Int) < 128 := by omega
      go_wp2_with (at_builtin; refine wpList_append_1 _ rfl (.tmp 16) (.tmp 19) 24 rfl B 5 i0 (.int .u8 0) 1 1 Tryd.underlying24 hi hz0 hz1 hz2 rfl (by decide) r0 M.length (M.map byV) rfl (World.ownsRow.alloc HOW.out _) ⟨wr.heap.size, 0, none⟩ 1 1 [.int .u8 (m : Int)] rfl rfl (one_newY wr _ _) (by simp [Value.oneCell']) (by unfold maxLen; omega) (by omega) (by have := HSZ.out; simp; omega) (by decide) ?_; intro v' w2 hown2 hg2 hwh2)
      have HR : Hid (OwnY w2 B v' (M ++ [m])) := own_pushY2 (x := m) rfl hown2
      have HR2 : Hid (w.grownBy w2 v.ownBlock ∧ WhereY w v v') := where_alloc HG.out.1 HG.out.2 hg2 hwh2
      clear hown2 hg2 hwh2
      go_ret
      refine ⟨_, rfl, ?_, HR2.out.1, HR2.out.2⟩
      rw [← HP.out, putN_small (n := m) (by omega)]
      exact HR.out

/-- A row of bytes of one's own, and block K that it does not lie in. -/
structure AY (K B : Nat) (w : World) (r : Value) (M : List Nat) : Prop where
  own : OwnY w B r M
  ne : r.ownBlock ≠ some K
  lt : K < w.heap.size
  le : B ≤ w.heap.size
/-- It came from w0: all older blocks and K are as they were. -/
structure SY (K B : Nat) (w0 w : World) : Prop where
  below : Below B w0 w
  at_ : w.heap[K]? = w0.heap[K]?
theorem SY.refl (K B : Nat) (w : World) : SY K B w w := ⟨Below.refl _ _, rfl⟩
theorem SY.trans {K B : Nat} {w0 w1 w2 : World} (h1 : SY K B w0 w1) (h2 : SY K B w1 w2) : SY K B w0 w2 := ⟨h1.below.trans h2.below, h2.at_.trans h1.at_⟩
theorem SY.cell {K B : Nat} {w0 w : World} (h : SY K B w0 w) {j : Nat} {u : Value} (hc : w0.cell? ⟨K, j, none⟩ = some u) : w.cell? ⟨K, j, none⟩ = some u := (World.cell?_of_block (w := w0) h.at_).trans hc

theorem AY.new {B : Nat} {wr : World} {r : Value} {M : List Nat} (h : OwnY wr B r M) (hB : B ≤ wr.heap.size) (o : Obj) : AY wr.heap.size B (wr.alloc o) r M :=
  ⟨World.ownsRow.alloc h _, fun e => by have := (h.lt _ e).2; omega, by simp, by simp; omega⟩
/-- appendNum. -/
theorem AY.app {K B : Nat} {w w1 : World} {r u : Value} {M L : List Nat} (h : AY K B w r M) (ho : OwnY w1 B u L) (hg : w.grownBy w1 r.ownBlock) (hw : WhereY w r u) : AY K B w1 u L ∧ SY K B w w1 := by
  refine ⟨⟨ho, ?_, Nat.lt_of_lt_of_le h.lt hg.size, Nat.le_trans h.le hg.size⟩, ⟨?_, hg.block K h.lt (fun e => h.ne e.symm)⟩⟩
  · rcases hw with e | ⟨g, e, hge⟩
    · rw [e]; exact h.ne
    · rw [e]; intro e2; injection e2 with e2; have := h.lt; omega
  · exact (Below.refl B w).grown hg h.le (fun k hk => (h.own.lt k hk).1)
/-- PutNum, and an append of all of it. -/
theorem AY.put {K B : Nat} {w w1 w2 : World} {r v' : Value} {M L : List Nat} (h : AY K B w r M) (hb : Below w.heap.size w w1)
    (ho : w2.ownsRow B 5 1 v' (M.length + L.length) (M.map byV ++ L.map byV)) (hg : w1.grownBy w2 r.ownBlock) (hw : v'.ownBlock = r.ownBlock ∨ v'.ownBlock = some w1.heap.size) : AY K B w2 v' (M ++ L) ∧ SY K B w w2 := by
  have h1 : AY K B w1 r M := ⟨h.own.below hb, h.ne, Nat.lt_of_lt_of_le h.lt hb.size, Nat.le_trans h.le hb.size⟩
  have ho2 : OwnY w2 B v' (M ++ L) := by
    unfold OwnY
    rw [List.length_append, List.map_append]
    exact ho
  have h2 := h1.app ho2 hg (by
    rcases hw with e | e
    · exact .inl e
    · exact .inr ⟨_, e, Nat.le_refl _⟩)
  exact ⟨h2.1, (SY.mk (hb.mono h.le) (hb.block K h.lt)).trans h2.2⟩
/-- A row that is not empty, as a source of an append. -/
theorem OwnY.src {w : World} {B : Nat} {u : Value} {L : List Nat} (h : OwnY w B u L) (hl : 0 < L.length) : ∃ ad c, u = .slice (some ad) L.length c ∧ ∀ j x, (L.map byV)[j]? = some x → w.cell? (ad.add j) = some x := by
  have h' := h
  rcases h.2 with ⟨rfl, hn⟩ | ⟨g, cap, cur, rfl, hbg, hg, hnc, _⟩
  · omega
  · refine ⟨⟨g, 0, none⟩, cap, rfl, fun j x hx => ?_⟩
    have hj : j < L.length := by
      have := List.getElem?_eq_some_iff.1 hx
      obtain ⟨h1, _⟩ := this
      simpa using h1
    rw [Addr.add_lit, Nat.zero_add, World.ownsRow.cellAt h' j (by omega)]
    exact hx
theorem one_cellsY (L : List Nat) : ∀ u ∈ L.map byV, u.oneCell' = true := by
  intro u hu
  obtain ⟨x, _, rfl⟩ := List.mem_map.1 hu
  rfl
end Go.Proofs.YtocdpgogoadfnaaDoor
