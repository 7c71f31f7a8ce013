/- laws.toIntS, laws.markIntS, laws.heldIntS at lists of ints; and how a slice that came in is read. Condition: at most 2^22 of them; what is marked is a row of the call's own. -/
import Derived.Test.YtaflnjhknnnaoaaZG8StxOwn
import Derived.Test.YtaflnjhknnnaoaaZG32IntsSame
import Derived.Test.YtaflnjhknnnaoaaRows
import Derived.Test.YtaflnjhknnnaoaaZG7StxParts
import Derived.OpenShut
import Derived.WalkSpells
import Derived.WalkKit
import Derived.ProofKit
namespace Go.Proofs.Ytaflnjhknnnaoaa
open Go.ChangeShapes Go.WideShapes Go.ChangeAt Go.RowKit

/-- A slice that came in: its first cells are xs. -/
def Rs (w : World) (v : Value) (xs : List Int) : Prop :=
  ∃ a cap, v = .slice a xs.length cap ∧ ∀ j, j < xs.length → ∃ b off, a = some ⟨b, off, none⟩ ∧ w.cell? ⟨b, off + j, none⟩ = some (.int .i64 (xs.getD j 0))

theorem Rs.below {w w' : World} {v : Value} {xs : List Int} (h : Rs w v xs) (hb : Below w.heap.size w w') : Rs w' v xs := by
  obtain ⟨a, cap, rfl, hc⟩ := h
  refine ⟨a, cap, rfl, fun j hj => ?_⟩
  obtain ⟨b, off, e, h⟩ := hc j hj
  exact ⟨b, off, e, (hb.cell (World.block_lt_of_cell? w _ h)).trans h⟩

/-- The shell's word for a slice of ints that came in. -/
def IsRow (w : World) (a : Option Addr) (len cap : Nat) (zs : List Int) : Prop :=
  (a = none ∧ len = 0 ∧ cap = 0 ∧ zs = []) ∨
  ∃ x, a = some x ∧ len ≤ cap ∧ cap ≤ maxLen ∧ zs.length = cap ∧ (∀ i, i < zs.length → w.cell? (x.add i) = some (.int .i64 (zs.getD i 0))) ∧ ∀ n ∈ zs, (Lit.int .i64 n).wf = true

theorem IsRow.rs {w : World} {a : Option Addr} {len cap : Nat} {zs : List Int} (h : IsRow w a len cap zs) : ∃ xs, xs.length = len ∧ Rs w (.slice a len cap) xs := by
  rcases h with ⟨rfl, rfl, rfl, rfl⟩ | ⟨x, rfl, hl, _, hz, hc, _⟩
  · exact ⟨[], rfl, none, 0, rfl, fun j hj => by simp at hj⟩
  · have hlen : (zs.take len).length = len := by rw [List.length_take]; omega
    refine ⟨zs.take len, hlen, some x, cap, by rw [hlen], fun j hj => ?_⟩
    rw [hlen] at hj
    obtain ⟨b, off, rfl, hc'⟩ := ints_at hc (by omega)
    refine ⟨b, off, rfl, ?_⟩
    rw [hc' j (by omega)]
    simp [List.getD_eq_getElem?_getD, hj]

theorem row_set_int {xs : List Int} {Z : List Value} {k : Nat} (hk : k < xs.length) (hZ : Z.length = xs.length) :
    (((xs.take k).map (Value.int .i64)) ++ Z.drop k).set k (.int .i64 (xs.getD k 0)) = ((xs.take (k + 1)).map (Value.int .i64)) ++ Z.drop (k + 1) := by
  have hl : ((xs.take k).map (Value.int .i64)).length = k := by simp; omega
  rw [List.set_append_right _ _ (by omega), hl, Nat.sub_self, List.drop_eq_getElem_cons (by omega : k < Z.length), List.set_cons_zero, List.take_add_one, List.getElem?_eq_getElem hk, getD_int xs k hk, List.map_append]
  simp only [Option.toList_some, List.map_cons, List.map_nil, List.append_assoc, List.cons_append, List.nil_append]

set_option maxRecDepth 100000 in
set_option maxHeartbeats 1000000 in
theorem to_ints (xs : List Int) (v : Value) (w : World) (hv : Rs w v xs) (hl : xs.length ≤ 4194304) :
    Calls Try.prog 27 #[v] w fun e w' => ∃ u, e = .returned u ∧ Below w.heap.size w w' ∧ Own w' w.heap.size u xs := by
  obtain ⟨a, cap, rfl, hc⟩ := hv
  have HC : Hid (∀ j, j < xs.length → ∃ b off, a = some ⟨b, off, none⟩ ∧ w.cell? ⟨b, off + j, none⟩ = some (.int .i64 (xs.getD j 0))) := hc
  clear hc
  obtain ⟨m, hm⟩ : ∃ m, m = xs.length := ⟨_, rfl⟩
  rw [← hm] at HC hl ⊢
  have HM : Hid (m = xs.length) := hm
  clear hm
  obtain ⟨i0, hi, hz0, hz1, hz2⟩ := info_parts int_info
  obtain ⟨w1, hrun, hown, hg⟩ := run_make_full (P := Try.prog) w w.heap.size 27 3 i0 _ 1 Try.underlying27 hi hz0 hz1 .i64 .i64 m (by rw [hz2]; omega) (by unfold maxLen; omega) (Nat.le_refl _)
  obtain ⟨Z, hZ⟩ : ∃ Z, Z = (madeCells (Value.int IntKind.i64 0).cells (m * 1)).toList := ⟨_, rfl⟩
  rw [← hZ] at hown
  have HZ : Hid (Z.length = xs.length) := by show _ = _; have := hown.1; rw [← HM.out]; omega
  have HW : Hid (w1.ownsRow w.heap.size 3 1 (.slice (some ⟨w.heap.size, 0, none⟩) m m) m (((xs.take 0).map (Value.int .i64)) ++ Z.drop 0) ∧ Below w.heap.size w w1) := ⟨by simpa using hown, ⟨hg.os, hg.tape, hg.output, hg.size, fun k hk => hg.block k hk (by simp)⟩⟩
  clear hown hg hi hz0 hz1 hz2 hZ
  go_enter Try.func27, Try.ntmps27
  go_wp2_with fail
  clear hrun
  go_loopw [4] (fun i wr => ∃ k : Nat, i = .int .i64 k ∧ k ≤ m ∧ wr.ownsRow w.heap.size 3 1 (.slice (some ⟨w.heap.size, 0, none⟩) m m) m (((xs.take k).map (Value.int .i64)) ++ Z.drop k) ∧ Below w.heap.size w wr) (fun i _ => m - (intOf i).toNat)
  case atStart => exact ⟨0, rfl, by omega, HW.out.1, HW.out.2⟩
  case round =>
    obtain ⟨k, rfl, hk, hown, hbel⟩ := hrel
    have HOW : Hid (wr.ownsRow w.heap.size 3 1 (.slice (some ⟨w.heap.size, 0, none⟩) m m) m (((xs.take k).map (Value.int .i64)) ++ Z.drop k)) := hown
    have HB : Hid (Below w.heap.size w wr) := hbel
    clear hown hbel HW
    by_cases hlt : (k : Int) < m
    · have HK : Hid (k < xs.length) := by show k < _; rw [← HM.out]; omega
      obtain ⟨b, off, rfl, hcell⟩ := HC.out k (by omega)
      have hst := HOW.out.stored k (.int .i64 (xs.getD k 0))
      rw [row_set_int HK.out HZ.out] at hst
      generalize hx : xs.getD k 0 = x at hcell hst
      have hcell1 := cell_later HB.out hcell
      have hf := HOW.out.frozenAt k
      have hcl : ∃ u, wr.cell? ⟨w.heap.size, k, none⟩ = some u := by
        have hll := HOW.out.1
        exact ⟨_, (HOW.out.cellAt k (by omega)).trans (List.getElem?_eq_getElem (by omega))⟩
      obtain ⟨u0, hu0⟩ := hcl
      have HST : Hid ((wr.setCell ⟨w.heap.size, k, none⟩ (.int .i64 x)).ownsRow w.heap.size 3 1 (.slice (some ⟨w.heap.size, 0, none⟩) m m) m (((xs.take (k + 1)).map (Value.int .i64)) ++ Z.drop (k + 1)) ∧ Below w.heap.size w (wr.setCell ⟨w.heap.size, k, none⟩ (.int .i64 x))) := ⟨hst.1, HB.out.setCell (Nat.le_refl _) _⟩
      clear hst hcell hx
      go_wp2
      go_roundw
      case rel => exact ⟨k + 1, by go_num, by omega, HST.out.1, HST.out.2⟩
      case measure => simp [intOf]; omega
    · go_wp2
      go_ret
      have hke : k = m := by omega
      have h := HOW.out
      rw [hke, HM.out, List.take_length, List.drop_eq_nil_of_le (by rw [HZ.out]; omega), List.append_nil] at h
      exact ⟨_, rfl, HB.out, by rw [HM.out]; exact h⟩

/-- What is marked from k on. -/
def marksI (k n : Nat) : List Int := (List.range n).map fun i => ((k + i : Nat) : Int)
theorem marksI_len (k n : Nat) : (marksI k n).length = n := by simp [marksI]
theorem marksI_get (k n i : Nat) (h : i < n) : (marksI k n).getD i 0 = ((k + i : Nat) : Int) := by simp [marksI, List.getD_eq_getElem?_getD, h]

set_option maxRecDepth 100000 in
set_option maxHeartbeats 1000000 in
theorem mark_ints_some (g cap base : Nat) (xs : List Int) (q : Nat) (w : World) (hown : Own w base (.slice (some ⟨g, 0, none⟩) xs.length cap) xs) (hl : xs.length ≤ 4194304) (hq : q ≤ 1000000000000000) :
    Calls Try.prog 19 #[.slice (some ⟨g, 0, none⟩) xs.length cap, .int .i64 (q : Int)] w fun e w' => e = .returned (.int .i64 ((q + xs.length : Nat) : Int)) ∧ Own w' base (.slice (some ⟨g, 0, none⟩) xs.length cap) (marksI q xs.length) ∧ w.grownBy w' (some g) := by
  obtain ⟨m, hm⟩ : ∃ m, m = xs.length := ⟨_, rfl⟩
  have HW : Hid (w.ownsRow base 3 1 (.slice (some ⟨g, 0, none⟩) m cap) m ((((marksI q m).take 0).map (Value.int .i64)) ++ (xs.map (Value.int .i64)).drop 0)) := by
    show World.ownsRow _ _ _ _ _ _ _
    rw [hm]; simpa [Own] using hown
  rw [← hm] at hl ⊢
  have HZ : Hid ((xs.map (Value.int .i64)).length = (marksI q m).length) := by show _ = _; rw [marksI_len, List.length_map, hm]
  generalize xs.map (Value.int .i64) = Z at HW HZ
  clear hm hown
  go_enter Try.func19, Try.ntmps19
  go_wp2_with fail
  go_loopw [1, 5] (fun x i wr => ∃ k : Nat, i = .int .i64 k ∧ x = .int .i64 ((q : Int) + k) ∧ k ≤ m ∧ wr.ownsRow base 3 1 (.slice (some ⟨g, 0, none⟩) m cap) m ((((marksI q m).take k).map (Value.int .i64)) ++ Z.drop k) ∧ w.grownBy wr (some g)) (fun _ i _ => m - (intOf i).toNat)
  case atStart => exact ⟨0, rfl, by simp, by omega, HW.out, World.grownBy.refl _ _⟩
  case round =>
    obtain ⟨k, rfl, rfl, hk, hown, hgr⟩ := hrel
    have HOW : Hid (wr.ownsRow base 3 1 (.slice (some ⟨g, 0, none⟩) m cap) m ((((marksI q m).take k).map (Value.int .i64)) ++ Z.drop k)) := hown
    have HG : Hid (w.grownBy wr (some g)) := hgr
    clear hown hgr HW
    by_cases hlt : (k : Int) < m
    · have HK : Hid (k < (marksI q m).length) := by show k < _; rw [marksI_len]; omega
      have hst := HOW.out.stored k (.int .i64 ((marksI q m).getD k 0))
      rw [row_set_int HK.out HZ.out, marksI_get q m k (by omega), show ((q + k : Nat) : Int) = (q : Int) + k from by omega] at hst
      have hf := HOW.out.frozenAt k
      have hcl : ∃ u, wr.cell? ⟨g, k, none⟩ = some u := by
        have hll := HOW.out.1
        exact ⟨_, (HOW.out.cellAt k (by omega)).trans (List.getElem?_eq_getElem (by omega))⟩
      obtain ⟨u0, hu0⟩ := hcl
      have HST : Hid ((wr.setCell ⟨g, k, none⟩ (.int .i64 ((q : Int) + k))).ownsRow base 3 1 (.slice (some ⟨g, 0, none⟩) m cap) m ((((marksI q m).take (k + 1)).map (Value.int .i64)) ++ Z.drop (k + 1)) ∧ w.grownBy (wr.setCell ⟨g, k, none⟩ (.int .i64 ((q : Int) + k))) (some g)) :=
        ⟨hst.1, ⟨hst.2.os.trans HG.out.os, hst.2.tape.trans HG.out.tape, hst.2.output.trans HG.out.output, Nat.le_trans HG.out.size hst.2.size, fun j hj hr => (hst.2.block j (Nat.lt_of_lt_of_le hj HG.out.size) hr).trans (HG.out.block j hj hr)⟩⟩
      clear hst
      go_wp2
      go_roundw
      case rel => exact ⟨k + 1, by go_num, by go_num, by omega, HST.out.1, HST.out.2⟩
      case measure => simp [intOf]; omega
    · go_wp2
      go_ret
      have hke : k = m := by omega
      subst hke
      have h := HOW.out
      rw [List.take_of_length_le (by rw [marksI_len]; omega), List.drop_eq_nil_of_le (by rw [HZ.out, marksI_len]; omega), List.append_nil] at h
      refine ⟨by simp, ?_, HG.out⟩
      unfold Own
      rw [marksI_len]
      exact h

theorem mark_ints (v : Value) (base : Nat) (xs : List Int) (q : Nat) (w : World) (hown : Own w base v xs) (hl : xs.length ≤ 4194304) (hq : q ≤ 1000000000000000) :
    Calls Try.prog 19 #[v, .int .i64 (q : Int)] w fun e w' => e = .returned (.int .i64 ((q + xs.length : Nat) : Int)) ∧ Own w' base v (marksI q xs.length) ∧ w.grownBy w' v.ownBlock := by
  rcases hown.2 with ⟨rfl, hn⟩ | ⟨g, cap, cur, rfl, rest⟩
  · have hts : xs = [] := List.eq_nil_of_length_eq_zero hn
    subst hts
    clear hown hn hl
    go_enter Try.func19, Try.ntmps19
    go_wp2
    go_loop [1, 5] (fun x i => i = .int .i64 0 ∧ x = .int .i64 (q : Int)) (fun _ _ => 0)
    case atStart => exact ⟨rfl, rfl⟩
    case round =>
      obtain ⟨rfl, rfl⟩ := hrel
      go_wp2
      go_ret
      exact ⟨rfl, World.ownsRow_nil _ _ _ _, World.grownBy.refl _ _⟩
  · exact mark_ints_some g cap base xs q w hown hl hq

set_option maxRecDepth 100000 in
set_option maxHeartbeats 1000000 in
theorem held_ints (n : Nat) (v : Value) (q : Nat) (w : World) (hv : Rd w v (marksI q n)) (hl : n ≤ 4194304) (hq : q ≤ 1000000000000000) :
    Calls Try.prog 20 #[v, .int .i64 (q : Int)] w fun e w' => e = .returned (.int .i64 ((q + n : Nat) : Int)) ∧ w' = w := by
  obtain ⟨a, cap, rfl, hc⟩ := hv.shape
  rw [marksI_len] at hc ⊢
  have HC : Hid (∀ j, j < n → ∃ b off, a = some ⟨b, off, none⟩ ∧ w.cell? ⟨b, off + j, none⟩ = some (.int .i64 ((q : Int) + j))) := by
    intro j hj
    obtain ⟨b, off, e, h⟩ := hc j hj
    rw [marksI_get q n j hj, show ((q + j : Nat) : Int) = (q : Int) + j from by omega] at h
    exact ⟨b, off, e, h⟩
  clear hc hv
  go_enter Try.func20, Try.ntmps20
  go_wp2_with fail
  go_loop [1, 5] (fun x i => ∃ k : Nat, i = .int .i64 k ∧ x = .int .i64 ((q : Int) + k) ∧ k ≤ n) (fun _ i => n - (intOf i).toNat)
  case atStart => exact ⟨0, rfl, by simp, by omega⟩
  case round =>
    obtain ⟨k, rfl, rfl, hk⟩ := hrel
    by_cases hlt : (k : Int) < n
    · obtain ⟨b, off, rfl, hcell⟩ := HC.out k (by omega)
      go_wp2
      go_round
      case rel => exact ⟨k + 1, by go_num, by go_num, by omega⟩
      case measure => simp [intOf]; omega
    · go_wp2
      go_ret
      have hke : k = n := by omega
      subst hke
      exact ⟨by simp, rfl⟩

theorem Own.kept {w w' : World} {base : Nat} {v v' : Value} {xs : List Int} (h : Own w base v xs) (hg : w.grownBy w' v'.ownBlock) (hne : ∀ g, v.ownBlock = some g → v'.ownBlock ≠ some g) : Own w' base v xs :=
  World.ownsRow.kept h hg (by
    cases hv : v.ownBlock with
    | none => exact .inl rfl
    | some g => exact .inr (fun e => hne g hv e.symm))

theorem grown_below' {B : Nat} {w0 w w' : World} {base : Nat} {v : Value} {xs : List Int} (hb : Below B w0 w) (h : Own w base v xs) (hB : B ≤ base) (hw : w0.heap.size ≤ w.heap.size) (h0 : B ≤ w0.heap.size) (hg : w.grownBy w' v.ownBlock) : Below B w0 w' :=
  hb.grown hg (Nat.le_trans h0 hw) (fun k hk => Nat.le_trans hB (h.lt k hk).1)
end Go.Proofs.Ytaflnjhknnnaoaa

/- laws.toStx and laws.toStxS: what is written, laid anew, in memory of the call's own. Condition: at most 2^20 of it. -/
namespace Go.Proofs.Ytaflnjhknnnaoaa
open Go.ChangeShapes Go.WideShapes Go.ChangeAt Go.RowKit

/-- The contract of toStx at a datum. -/
def ToXAt (t : X) : Prop := ∀ (w : World) (sv v : Value), t.Of w sv v → t.weight ≤ 1048576 →
  Calls Try.prog 12 #[.agg #[.int .i64 t.op, .int .i64 t.at_, .int .i64 t.n, .string t.s, sv, v]] w fun e w' => ∃ su u, e = .returned (.agg #[.int .i64 t.op, .int .i64 t.at_, .int .i64 t.n, .string t.s, su, u]) ∧ Below w.heap.size w w' ∧ t.At w.heap.size w' su u

set_option maxRecDepth 100000 in
set_option maxHeartbeats 2000000 in
theorem to_stxs (len : Nat) (kid : Nat → X) (ih : ∀ i, i < len → ToXAt (kid i)) (w : World) (v : Value) (hv : XsOf w len kid v) (hw : kidsWeightX len kid ≤ 1048576) :
    Calls Try.prog 28 #[v] w fun e w' => ∃ u, e = .returned u ∧ Below w.heap.size w w' ∧ XsAt w.heap.size w' len kid u := by
  obtain ⟨p, cap, rfl, hlen, hat⟩ := hv.at
  have HC : Hid (∀ i, i < len → ∃ b o sv u, p = some ⟨b, o, none⟩ ∧ Head6 w b (o + i * 6) (kid i) sv u ∧ (kid i).Of w sv u) := hat
  have IH : Hid (∀ i, i < len → ToXAt (kid i)) := ih
  have HW : Hid (∀ i, i < len → (kid i).weight ≤ 1048576) := fun i hi => by
    have := sumX_at (fun i => (kid i).weight) i len hi
    unfold kidsWeightX at hw; omega
  have hl2 : len ≤ 1048576 := by unfold kidsWeightX at hw; omega
  clear hat ih hv hw hlen
  obtain ⟨i0, hi, hz0, hz1, hz2⟩ := info_parts stx_info
  obtain ⟨w1, hrun, hown, hg⟩ := run_make_full (P := Try.prog) w w.heap.size 33 35 i0 _ 6 Try.underlying33 hi hz0 hz1 .i64 .i64 len (by rw [hz2]; omega) (by unfold maxLen; omega) (Nat.le_refl _)
  have HO : Hid (∃ junk : List Value, junk.length = len * 6 ∧ w1.ownsRow w.heap.size 35 6 (.slice (some ⟨w.heap.size, 0, none⟩) len len) len (xrows [] ++ junk)) := ⟨_, by simp [size_madeCells], hown⟩
  have HG : Hid (Below w.heap.size w w1 ∧ w.heap.size < w1.heap.size) := ⟨⟨hg.os, hg.tape, hg.output, hg.size, fun k hk => hg.block k hk (by simp)⟩, (hown.lt _ rfl).2⟩
  clear hown hg hi hz0 hz1 hz2
  go_enter Try.func28, Try.ntmps28
  go_wp2_with fail
  clear hrun
  go_loopw [4] (fun i wr => ∃ (l : List XR) (junk : List Value), i = .int .i64 l.length ∧ l.length ≤ len ∧ l.length * 6 + junk.length = len * 6 ∧ wr.ownsRow w.heap.size 35 6 (.slice (some ⟨w.heap.size, 0, none⟩) len len) len (xrows l ++ junk) ∧ XKs kid l ∧ (∀ q ∈ l, q.1.At (w.heap.size + 1) wr q.2.1 q.2.2) ∧ Below w.heap.size w wr ∧ w.heap.size < wr.heap.size) (fun i _ => len - (intOf i).toNat)
  case atStart =>
    obtain ⟨junk, h1, h2⟩ := HO.out
    exact ⟨[], junk, rfl, Nat.zero_le _, by simpa using h1, h2, XKs.nil _, by simp, HG.out.1, HG.out.2⟩
  case round =>
    obtain ⟨l, junk, rfl, hl, hjl, hown, hks, hin, hbel, hsz⟩ := hrel
    have HOW : Hid (wr.ownsRow w.heap.size 35 6 (.slice (some ⟨w.heap.size, 0, none⟩) len len) len (xrows l ++ junk)) := hown
    have HIN : Hid (∀ q ∈ l, q.1.At (w.heap.size + 1) wr q.2.1 q.2.2) := hin
    have HBL : Hid (Below w.heap.size w wr) := hbel
    have HKS : Hid (XKs kid l) := hks
    have HSZ : Hid (w.heap.size < wr.heap.size) := hsz
    clear hown hin hbel hks hsz HO HG
    generalize hk : l.length = k at *
    have HK : Hid (l.length = k) := hk
    clear hk
    by_cases hlt : (k : Int) < len
    · have hlt' : k < len := by omega
      obtain ⟨b, o, su, u, hp, hd, hinu⟩ := HC.out k hlt'
      subst hp
      obtain ⟨c0, c1, c2, c3, c4, c5⟩ := hd.below HBL.out
      have HI : Hid ((kid k).Of wr su u) := X.Of.below HBL.out hinu
      clear hd hinu
      go_wp2_with fail
      refine (IH.out k hlt' wr su u HI.out (HW.out k hlt')).mono ?_
      rintro e w2 ⟨sv, v, rfl, hb2, hinv⟩
      obtain ⟨pv, cv, hvv⟩ := hinv.xs.shape
      obtain ⟨ps, cs, hss⟩ := hinv.sets.shape
      clear c0 c1 c2 c3 c4 c5
      have q0 := own_belowX HOW.out hb2
      have hf : ∀ j, w2.frozen? ⟨w.heap.size, j, none⟩ = false := fun j => q0.frozenAt j
      have hcl : ∀ j, j < 6 → ∃ u, w2.cell? ⟨w.heap.size, k * 6 + j, none⟩ = some u := by
        intro j hj
        have hl : k * 6 + j < (xrows l ++ junk).length := by rw [List.length_append, xrows_length, HK.out]; omega
        exact ⟨_, (q0.cellAt (k * 6 + j) (by omega)).trans (List.getElem?_eq_getElem hl)⟩
      obtain ⟨u0, hu0⟩ := hcl 0 (by omega)
      obtain ⟨u1, hu1⟩ := hcl 1 (by omega)
      obtain ⟨u2, hu2⟩ := hcl 2 (by omega)
      obtain ⟨u3, hu3⟩ := hcl 3 (by omega)
      obtain ⟨u4, hu4⟩ := hcl 4 (by omega)
      obtain ⟨u5, hu5⟩ := hcl 5 (by omega)
      rw [Nat.add_zero] at hu0
      have N := row_stepX (kid := kid) (sv := sv) (v := v) HOW.out (by omega) HKS.out HIN.out HBL.out HSZ.out hb2 (by rw [HK.out]; exact hinv)
      rw [HK.out] at N
      have HN : Hid _ := N
      clear N hinv hb2 q0 hcl HI
      subst hvv hss
      go_wp2_with fail
      go_roundw
      case rel =>
        obtain ⟨n1, n2, n3, n4, n5⟩ := HN.out
        have h := HK.out
        exact ⟨l ++ [(kid k, _, _)], junk.drop 6, by rw [List.length_append, h]; go_num, by rw [List.length_append, h]; simp; omega, by rw [List.length_append, h]; simp; omega, n1, n2, n3, n4, n5⟩
      case measure => simp [intOf]; omega
    · have hke : k = len := by omega
      subst hke
      go_wp2
      go_ret
      have hj : junk = [] := List.eq_nil_of_length_eq_zero (by omega)
      subst hj
      have h1 := HOW.out
      rw [List.append_nil] at h1
      exact ⟨_, rfl, HBL.out, XsB.of_own h1 HK.out (Nat.le_refl _) HKS.out (fun q hq => X.At.mono (by omega) (HIN.out q hq))⟩


set_option maxRecDepth 100000 in
set_option maxHeartbeats 2000000 in
theorem to_stx (t : X) : ToXAt t := by
  induction t with
  | no => intro w sv v h _; exact h.elim
  | mk op a n s set len kid ih =>
    intro w sv v hin hwt
    have hs := hin.size
    have hn := hin.num
    have hsl := hin.xs
    have hset := hin.sets
    have hsm := hin.setLen
    simp only [X.op, X.at_, X.n, X.s, X.set, X.len, X.kid] at hs hn hsl hset hsm ⊢
    obtain ⟨p, cap, hv⟩ := hsl.shape
    obtain ⟨p2, cap2, hv2⟩ := hset.shape
    have HSL : Hid (XsOf w len kid v) := hsl
    have HST : Hid (Rs w sv set) := hset
    have IH : Hid (∀ i, ToXAt (kid i)) := ih
    have HS : Hid (s.size ≤ maxLen ∧ (-9223372036854775808 ≤ n ∧ n ≤ 9223372036854775807) ∧ set.length ≤ maxLen) := ⟨hs, hn, hsm⟩
    have e : (X.mk op a n s set len kid).weight = s.size + (set.length + kidsWeightX len kid) := rfl
    have HW : Hid (kidsWeightX len kid ≤ 1048576) := by
      show _ ≤ _
      omega
    have HL : Hid (set.length ≤ 4194304) := by
      show _ ≤ _
      omega
    clear hin hsl ih hs hn hwt hset hsm e
    subst hv hv2
    go_enter Try.func12, Try.ntmps12
    go_wp2_with fail
    refine (to_ints set _ _ (HST.out.below ((newx w _).trans (((newx _ _).mono (by simp)).trans ((newx _ _).mono (by simp; omega))))) HL.out).mono ?_
    rintro e w1 ⟨su, rfl, hb1, hown⟩
    obtain ⟨h1, h2, h3, h4, h5⟩ := threeX hb1
    have hsb : SetB (w.heap.size + 3) w1 su set := hown.setB (by simp)
    obtain ⟨ps, cs, hsu⟩ := hsb.shape
    subst hsu
    have HSB : Hid (SetB (w.heap.size + 3) w1 (.slice ps set.length cs) set) := hsb
    have HB1 : Hid (Below w.heap.size w w1 ∧ w.heap.size + 3 ≤ w1.heap.size) := ⟨h5, h4⟩
    have hf1 : ∀ j, w1.frozen? ⟨w.heap.size + 1, j, none⟩ = false := fun j => frozen_of_row w1 _ j _ _ h2
    have hf2 : ∀ j, w1.frozen? ⟨w.heap.size + 1 + 1, j, none⟩ = false := fun j => frozen_of_row w1 _ j _ _ h3
    have a5 : w1.cell? ⟨w.heap.size, 5, none⟩ = some (.slice p len cap) := cell_of_row w1 _ 5 _ _ _ h1
    have b0 : w1.cell? ⟨w.heap.size + 1, 0, none⟩ = some (.int .i64 0) := cell_of_row w1 _ 0 _ _ _ h2
    have b1 : w1.cell? ⟨w.heap.size + 1, 1, none⟩ = some (.int .i64 0) := cell_of_row w1 _ 1 _ _ _ h2
    have b2 : w1.cell? ⟨w.heap.size + 1, 2, none⟩ = some (.int .i64 0) := cell_of_row w1 _ 2 _ _ _ h2
    have b3 : w1.cell? ⟨w.heap.size + 1, 3, none⟩ = some (.string ⟨#[]⟩) := cell_of_row w1 _ 3 _ _ _ h2
    have b4 : w1.cell? ⟨w.heap.size + 1, 4, none⟩ = some (.slice none 0 0) := cell_of_row w1 _ 4 _ _ _ h2
    have b5 : w1.cell? ⟨w.heap.size + 1, 5, none⟩ = some (.slice none 0 0) := cell_of_row w1 _ 5 _ _ _ h2
    have c0 : w1.cell? ⟨w.heap.size + 1 + 1, 0, none⟩ = some (.int .i64 op) := cell_of_row w1 _ 0 _ _ _ h3
    have c1 : w1.cell? ⟨w.heap.size + 1 + 1, 1, none⟩ = some (.int .i64 a) := cell_of_row w1 _ 1 _ _ _ h3
    have c2 : w1.cell? ⟨w.heap.size + 1 + 1, 2, none⟩ = some (.int .i64 n) := cell_of_row w1 _ 2 _ _ _ h3
    have c3 : w1.cell? ⟨w.heap.size + 1 + 1, 3, none⟩ = some (.string s) := cell_of_row w1 _ 3 _ _ _ h3
    have c4 : w1.cell? ⟨w.heap.size + 1 + 1, 4, none⟩ = some (.slice none 0 0) := cell_of_row w1 _ 4 _ _ _ h3
    have c5 : w1.cell? ⟨w.heap.size + 1 + 1, 5, none⟩ = some (.slice none 0 0) := cell_of_row w1 _ 5 _ _ _ h3
    clear hb1 hown hsb h1 h2 h3 h4 h5 HST
    go_wp2_with fail
    have hbs : Below w.heap.size w (w1.setCell ⟨w.heap.size + 1 + 1, 4, none⟩ (.slice ps set.length cs)) := HB1.out.1.setCell (by show _ ≤ _ + 1 + 1; omega) _
    refine (to_stxs len kid (fun i _ => IH.out i) _ _ (XsOf.below hbs HSL.out) HW.out).mono ?_
    rintro e w2 ⟨u, rfl, hb2, hsl2⟩
    obtain ⟨pu, cu, hu⟩ := hsl2.shape
    subst hu
    have hz : (w1.setCell ⟨w.heap.size + 1 + 1, 4, none⟩ (.slice ps set.length cs)).heap.size = w1.heap.size := by simp
    have hlt := HB1.out.2
    have HSU : Hid (XsAt (w.heap.size + 3) w2 len kid (.slice pu len cu)) := XsAt.mono (by rw [hz]; exact hlt) hsl2
    have HB2 : Hid (Below w.heap.size w w2) := hbs.trans (hb2.mono (by rw [hz]; omega))
    have ne : ∀ (x : Addr) (y : Value) (W : World) (k j : Nat) (z : Value), w.heap.size + 3 ≤ x.block → k < w.heap.size + 3 → W.cell? x = some y → (W.setCell ⟨k, j, none⟩ z).cell? x = some y := fun x y W k j z hx hk h =>
      (World.cell?_of_block (w := W) (Below.heap_setCell W ⟨k, j, none⟩ z x.block (by simp only; omega))).trans h
    have HNE : Hid (∀ (x : Addr) (y : Value) (W : World) (k j : Nat) (z : Value), w.heap.size + 3 ≤ x.block → k < w.heap.size + 3 → W.cell? x = some y → (W.setCell ⟨k, j, none⟩ z).cell? x = some y) := ne
    have HSB2 : Hid (SetB (w.heap.size + 3) w2 (.slice ps set.length cs) set) := HSB.out.kept (Nat.le_refl _) (fun x y hx hc => keepsX hb2 _ _ (ne x y _ _ _ _ hx (by omega) hc))
    have K : ∀ x y, (w1.setCell ⟨w.heap.size + 1 + 1, 4, none⟩ (.slice ps set.length cs)).cell? x = some y → w2.cell? x = some y := fun x y h => keepsX hb2 x y h
    have F : ∀ x : Addr, x.block < w.heap.size + 3 → w2.frozen? x = w1.frozen? x := fun x hx => (hb2.frozen (by rw [hz]; omega)).trans (by simp)
    have hg1 : ∀ j, w2.frozen? ⟨w.heap.size + 1, j, none⟩ = false := fun j => (F _ (by show _ + 1 < _; omega)).trans (hf1 j)
    have hg2 : ∀ j, w2.frozen? ⟨w.heap.size + 1 + 1, j, none⟩ = false := fun j => (F _ (by show _ + 1 + 1 < _; omega)).trans (hf2 j)
    have d0 : w2.cell? ⟨w.heap.size + 1 + 1, 0, none⟩ = some (.int .i64 op) := K _ _ (by simp [go_sem, c0])
    have d1 : w2.cell? ⟨w.heap.size + 1 + 1, 1, none⟩ = some (.int .i64 a) := K _ _ (by simp [go_sem, c1])
    have d2 : w2.cell? ⟨w.heap.size + 1 + 1, 2, none⟩ = some (.int .i64 n) := K _ _ (by simp [go_sem, c2])
    have d3 : w2.cell? ⟨w.heap.size + 1 + 1, 3, none⟩ = some (.string s) := K _ _ (by simp [go_sem, c3])
    have d4 : w2.cell? ⟨w.heap.size + 1 + 1, 4, none⟩ = some (.slice ps set.length cs) := K _ _ (by simp [go_sem, c4])
    have d5 : w2.cell? ⟨w.heap.size + 1 + 1, 5, none⟩ = some (.slice none 0 0) := K _ _ (by simp [go_sem, c5])
    have e0 : w2.cell? ⟨w.heap.size + 1, 0, none⟩ = some (.int .i64 0) := K _ _ (by simp [go_sem, b0])
    have e1 : w2.cell? ⟨w.heap.size + 1, 1, none⟩ = some (.int .i64 0) := K _ _ (by simp [go_sem, b1])
    have e2 : w2.cell? ⟨w.heap.size + 1, 2, none⟩ = some (.int .i64 0) := K _ _ (by simp [go_sem, b2])
    have e3 : w2.cell? ⟨w.heap.size + 1, 3, none⟩ = some (.string ⟨#[]⟩) := K _ _ (by simp [go_sem, b3])
    have e4 : w2.cell? ⟨w.heap.size + 1, 4, none⟩ = some (.slice none 0 0) := K _ _ (by simp [go_sem, b4])
    have e5 : w2.cell? ⟨w.heap.size + 1, 5, none⟩ = some (.slice none 0 0) := K _ _ (by simp [go_sem, b5])
    clear hb2 hsl2 hbs hz K F ne HB1 HSB HSL c0 c1 c2 c3 c4 c5 b0 b1 b2 b3 b4 b5 hf1 hf2 a5 hlt
    go_wp2_with fail
    refine bodyPost_ret (v := .agg #[.int .i64 op, .int .i64 a, .int .i64 n, .string s, .slice ps set.length cs, .slice pu len cu]) (by rw [results_cellX (p := 2) (ty := 35) (by kernel_rfl)]; simp [go_sem, e0, e1, e2, e3, e4, e5]) rfl ⟨_, _, rfl, ?_, ?_⟩
    · exact (((((((HB2.out.setCell (by show _ ≤ _ + 1 + 1; omega) _).setCell (by show _ ≤ _ + 1; omega) _).setCell (by show _ ≤ _ + 1; omega) _).setCell (by show _ ≤ _ + 1; omega) _).setCell (by show _ ≤ _ + 1; omega) _).setCell (by show _ ≤ _ + 1; omega) _).setCell (by show _ ≤ _ + 1; omega) _)
    · refine X.InB.mk' HS.out.1 HS.out.2.1 HS.out.2.2 (SetB.kept (B := w.heap.size + 3) (w := w2) (by omega) ?_ HSB2.out) (XsAt.kept (B := w.heap.size + 3) (w := w2) (by omega) ?_ HSU.out)
      all_goals
        intro x y hx hc
        exact HNE.out x y _ _ _ _ hx (by omega) (HNE.out x y _ _ _ _ hx (by omega) (HNE.out x y _ _ _ _ hx (by omega) (HNE.out x y _ _ _ _ hx (by omega) (HNE.out x y _ _ _ _ hx (by omega) (HNE.out x y _ _ _ _ hx (by omega) (HNE.out x y _ _ _ _ hx (by omega) hc))))))
end Go.Proofs.Ytaflnjhknnnaoaa
