/- laws.toIntS, laws.markIntS, laws.heldIntS at lists of ints; and how a slice that came in is read. Condition: at most 2^22 of them; what is marked is a row of the call's own. -/
import Derived.Test.YtgcegjgjegkahabIntsOwn
import Derived.Test.YtgcegjgjegkahabIntsSame
import Derived.OpenShut
import Derived.WalkSpells
namespace Go.Proofs.Ytgcegjgjegkahab
open Go.ChangeShapes Go.WideShapes Go.ChangeAt Go.RowKit

/-- A slice that came in: its first cells are xs. -/
def Rs (w : World) (v : Value) (xs : List Int) : Prop :=
  ∃ a cap, v = .slice a xs.length cap ∧ ∀ j, j < xs.length → ∃ b off, a = some ⟨b, off, none⟩ ∧ w.cell? ⟨b, off + j, none⟩ = some (.int .i64 (xs.getD j 0))

theorem Rs.below {w w' : World} {v : Value} {xs : List Int} (h : Rs w v xs) (hb : Below w.heap.size w w') : Rs w' v xs := by
  obtain ⟨a, cap, rfl, hc⟩ := h
  refine ⟨a, cap, rfl, fun j hj => ?_⟩
  obtain ⟨b, off, e, h⟩ := hc j hj
  exact ⟨b, off, e, (hb.cell (World.block_lt_of_cell? w _ h)).trans h⟩

/-- The shell's word for a slice of ints that came in. -/
def IsRow (w : World) (a : Option Addr) (len cap : Nat) (zs : List Int) : Prop :=
  (a = none ∧ len = 0 ∧ cap = 0 ∧ zs = []) ∨
  ∃ x, a = some x ∧ len ≤ cap ∧ cap ≤ maxLen ∧ zs.length = cap ∧ (∀ i, i < zs.length → w.cell? (x.add i) = some (.int .i64 (zs.getD i 0))) ∧ ∀ n ∈ zs, (Lit.int .i64 n).wf = true

theorem IsRow.rs {w : World} {a : Option Addr} {len cap : Nat} {zs : List Int} (h : IsRow w a len cap zs) : ∃ xs, xs.length = len ∧ Rs w (.slice a len cap) xs := by
  rcases h with ⟨rfl, rfl, rfl, rfl⟩ | ⟨x, rfl, hl, _, hz, hc, _⟩
  · exact ⟨[], rfl, none, 0, rfl, fun j hj => by simp at hj⟩
  · have hlen : (zs.take len).length = len := by rw [List.length_take]; omega
    refine ⟨zs.take len, hlen, some x, cap, by rw [hlen], fun j hj => ?_⟩
    rw [hlen] at hj
    obtain ⟨b, off, rfl, hc'⟩ := ints_at hc (by omega)
    refine ⟨b, off, rfl, ?_⟩
    rw [hc' j (by omega)]
    simp [List.getD_eq_getElem?_getD, hj]

theorem row_set_int {xs : List Int} {Z : List Value} {k : Nat} (hk : k < xs.length) (hZ : Z.length = xs.length) :
    (((xs.take k).map (Value.int .i64)) ++ Z.drop k).set k (.int .i64 (xs.getD k 0)) = ((xs.take (k + 1)).map (Value.int .i64)) ++ Z.drop (k + 1) := by
  have hl : ((xs.take k).map (Value.int .i64)).length = k := by simp; omega
  rw [List.set_append_right _ _ (by omega), hl, Nat.sub_self, List.drop_eq_getElem_cons (by omega : k < Z.length), List.set_cons_zero, List.take_add_one, List.getElem?_eq_getElem hk, getD_int xs k hk, List.map_append]
  simp only [Option.toList_some, List.map_cons, List.map_nil, List.append_assoc, List.cons_append, List.nil_append]

set_option maxRecDepth 100000 in
set_option maxHeartbeats 1000000 in
theorem to_ints (xs : List Int) (v : Value) (w : World) (hv : Rs w v xs) (hl : xs.length ≤ 4194304) :
    Calls Try.prog 21 #[v] w fun e w' => ∃ u, e = .returned u ∧ Below w.heap.size w w' ∧ Own w' w.heap.size u xs := by
  obtain ⟨a, cap, rfl, hc⟩ := hv
  have HC : Hid (∀ j, j < xs.length → ∃ b off, a = some ⟨b, off, none⟩ ∧ w.cell? ⟨b, off + j, none⟩ = some (.int .i64 (xs.getD j 0))) := hc
  clear hc
  obtain ⟨m, hm⟩ : ∃ m, m = xs.length := ⟨_, rfl⟩
  rw [← hm] at HC hl ⊢
  have HM : Hid (m = xs.length) := hm
  clear hm
  obtain ⟨i0, hi, hz0, hz1, hz2⟩ := info_parts int_info
  obtain ⟨w1, hrun, hown, hg⟩ := run_make_full (P := Try.prog) w w.heap.size 22 3 i0 _ 1 Try.underlying22 hi hz0 hz1 .i64 .i64 m (by rw [hz2]; omega) (by unfold maxLen; omega) (Nat.le_refl _)
  obtain ⟨Z, hZ⟩ : ∃ Z, Z = (madeCells (Value.int IntKind.i64 0).cells (m * 1)).toList := ⟨_, rfl⟩
  rw [← hZ] at hown
  have HZ : Hid (Z.length = xs.length) := by show _ = _; have := hown.1; rw [← HM.out]; omega
  have HW : Hid (w1.ownsRow w.heap.size 3 1 (.slice (some ⟨w.heap.size, 0, none⟩) m m) m (((xs.take 0).map (Value.int .i64)) ++ Z.drop 0) ∧ Below w.heap.size w w1) := ⟨by simpa using hown, ⟨hg.os, hg.tape, hg.output, hg.size, fun k hk => hg.block k hk (by simp)⟩⟩
  clear hown hg hi hz0 hz1 hz2 hZ
  go_enter Try.func21, Try.ntmps21
  go_wp2_with fail
  clear hrun
  go_loopw [4] (fun i wr => ∃ k : Nat, i = .int .i64 k ∧ k ≤ m ∧ wr.ownsRow w.heap.size 3 1 (.slice (some ⟨w.heap.size, 0, none⟩) m m) m (((xs.take k).map (Value.int .i64)) ++ Z.drop k) ∧ Below w.heap.size w wr) (fun i _ => m - (intOf i).toNat)
  case atStart => exact ⟨0, rfl, by omega, HW.out.1, HW.out.2⟩
  case round =>
    obtain ⟨k, rfl, hk, hown, hbel⟩ := hrel
    have HOW : Hid (wr.ownsRow w.heap.size 3 1 (.slice (some ⟨w.heap.size, 0, none⟩) m m) m (((xs.take k).map (Value.int .i64)) ++ Z.drop k)) := hown
    have HB : Hid (Below w.heap.size w wr) := hbel
    clear hown hbel HW
    by_cases hlt : (k : Int) < m
    · have HK : Hid (k < xs.length) := by show k < _; rw [← HM.out]; omega
      obtain ⟨b, off, rfl, hcell⟩ := HC.out k (by omega)
      have hst := HOW.out.stored k (.int .i64 (xs.getD k 0))
      rw [row_set_int HK.out HZ.out] at hst
      generalize hx : xs.getD k 0 = x at hcell hst
      have hcell1 := cell_later HB.out hcell
      have hf := HOW.out.frozenAt k
      have hcl : ∃ u, wr.cell? ⟨w.heap.size, k, none⟩ = some u := by
        have hll := HOW.out.1
        exact ⟨_, (HOW.out.cellAt k (by omega)).trans (List.getElem?_eq_getElem (by omega))⟩
      obtain ⟨u0, hu0⟩ := hcl
      have HST : Hid ((wr.setCell ⟨w.heap.size, k, none⟩ (.int .i64 x)).ownsRow w.heap.size 3 1 (.slice (some ⟨w.heap.size, 0, none⟩) m m) m (((xs.take (k + 1)).map (Value.int .i64)) ++ Z.drop (k + 1)) ∧ Below w.heap.size w (wr.setCell ⟨w.heap.size, k, none⟩ (.int .i64 x))) := ⟨hst.1, HB.out.setCell (Nat.le_refl _) _⟩
      clear hst hcell hx
      go_wp2
      go_roundw
      case rel => exact ⟨k + 1, by go_num, by omega, HST.out.1, HST.out.2⟩
      case measure => simp [intOf]; omega
    · go_wp2
      go_ret
      have hke : k = m := by omega
      have h := HOW.out
      rw [hke, HM.out, List.take_length, List.drop_eq_nil_of_le (by rw [HZ.out]; omega), List.append_nil] at h
      exact ⟨_, rfl, HB.out, by rw [HM.out]; exact h⟩

/-- What is marked from k on. -/
def marksI (k n : Nat) : List Int := (List.range n).map fun i => ((k + i : Nat) : Int)
theorem marksI_len (k n : Nat) : (marksI k n).length = n := by simp [marksI]
theorem marksI_get (k n i : Nat) (h : i < n) : (marksI k n).getD i 0 = ((k + i : Nat) : Int) := by simp [marksI, List.getD_eq_getElem?_getD, h]

set_option maxRecDepth 100000 in
set_option maxHeartbeats 1000000 in
theorem mark_ints_some (g cap base : Nat) (xs : List Int) (q : Nat) (w : World) (hown : Own w base (.slice (some ⟨g, 0, none⟩) xs.length cap) xs) (hl : xs.length ≤ 4194304) (hq : q ≤ 1000000000000000) :
    Calls Try.prog 18 #[.slice (some ⟨g, 0, none⟩) xs.length cap, .int .i64 (q : Int)] w fun e w' => e = .returned (.int .i64 ((q + xs.length : Nat) : Int)) ∧ Own w' base (.slice (some ⟨g, 0, none⟩) xs.length cap) (marksI q xs.length) ∧ w.grownBy w' (some g) := by
  obtain ⟨m, hm⟩ : ∃ m, m = xs.length := ⟨_, rfl⟩
  have HW : Hid (w.ownsRow base 3 1 (.slice (some ⟨g, 0, none⟩) m cap) m ((((marksI q m).take 0).map (Value.int .i64)) ++ (xs.map (Value.int .i64)).drop 0)) := by
    show World.ownsRow _ _ _ _ _ _ _
    rw [hm]; simpa [Own] using hown
  rw [← hm] at hl ⊢
  have HZ : Hid ((xs.map (Value.int .i64)).length = (marksI q m).length) := by show _ = _; rw [marksI_len, List.length_map, hm]
  generalize xs.map (Value.int .i64) = Z at HW HZ
  clear hm hown
  go_enter Try.func18, Try.ntmps18
  go_wp2_with fail
  go_loopw [1, 5] (fun x i wr => ∃ k : Nat, i = .int .i64 k ∧ x = .int .i64 ((q : Int) + k) ∧ k ≤ m ∧ wr.ownsRow base 3 1 (.slice (some ⟨g, 0, none⟩) m cap) m ((((marksI q m).take k).map (Value.int .i64)) ++ Z.drop k) ∧ w.grownBy wr (some g)) (fun _ i _ => m - (intOf i).toNat)
  case atStart => exact ⟨0, rfl, by simp, by omega, HW.out, World.grownBy.refl _ _⟩
  case round =>
    obtain ⟨k, rfl, rfl, hk, hown, hgr⟩ := hrel
    have HOW : Hid (wr.ownsRow base 3 1 (.slice (some ⟨g, 0, none⟩) m cap) m ((((marksI q m).take k).map (Value.int .i64)) ++ Z.drop k)) := hown
    have HG : Hid (w.grownBy wr (some g)) := hgr
    clear hown hgr HW
    by_cases hlt : (k : Int) < m
    · have HK : Hid (k < (marksI q m).length) := by show k < _; rw [marksI_len]; omega
      have hst := HOW.out.stored k (.int .i64 ((marksI q m).getD k 0))
      rw [row_set_int HK.out HZ.out, marksI_get q m k (by omega), show ((q + k : Nat) : Int) = (q : Int) + k from by omega] at hst
      have hf := HOW.out.frozenAt k
      have hcl : ∃ u, wr.cell? ⟨g, k, none⟩ = some u := by
        have hll := HOW.out.1
        exact ⟨_, (HOW.out.cellAt k (by omega)).trans (List.getElem?_eq_getElem (by omega))⟩
      obtain ⟨u0, hu0⟩ := hcl
      have HST : Hid ((wr.setCell ⟨g, k, none⟩ (.int .i64 ((q : Int) + k))).ownsRow base 3 1 (.slice (some ⟨g, 0, none⟩) m cap) m ((((marksI q m).take (k + 1)).map (Value.int .i64)) ++ Z.drop (k + 1)) ∧ w.grownBy (wr.setCell ⟨g, k, none⟩ (.int .i64 ((q : Int) + k))) (some g)) :=
        ⟨hst.1, ⟨hst.2.os.trans HG.out.os, hst.2.tape.trans HG.out.tape, hst.2.output.trans HG.out.output, Nat.le_trans HG.out.size hst.2.size, fun j hj hr => (hst.2.block j (Nat.lt_of_lt_of_le hj HG.out.size) hr).trans (HG.out.block j hj hr)⟩⟩
      clear hst
      go_wp2
      go_roundw
      case rel => exact ⟨k + 1, by go_num, by go_num, by omega, HST.out.1, HST.out.2⟩
      case measure => simp [intOf]; omega
    · go_wp2
      go_ret
      have hke : k = m := by omega
      subst hke
      have h := HOW.out
      rw [List.take_of_length_le (by rw [marksI_len]; omega), List.drop_eq_nil_of_le (by rw [HZ.out, marksI_len]; omega), List.append_nil] at h
      refine ⟨by simp, ?_, HG.out⟩
      unfold Own
      rw [marksI_len]
      exact h

theorem mark_ints (v : Value) (base : Nat) (xs : List Int) (q : Nat) (w : World) (hown : Own w base v xs) (hl : xs.length ≤ 4194304) (hq : q ≤ 1000000000000000) :
    Calls Try.prog 18 #[v, .int .i64 (q : Int)] w fun e w' => e = .returned (.int .i64 ((q + xs.length : Nat) : Int)) ∧ Own w' base v (marksI q xs.length) ∧ w.grownBy w' v.ownBlock := by
  rcases hown.2 with ⟨rfl, hn⟩ | ⟨g, cap, cur, rfl, rest⟩
  · have hts : xs = [] := List.eq_nil_of_length_eq_zero hn
    subst hts
    clear hown hn hl
    go_enter Try.func18, Try.ntmps18
    go_wp2
    go_loop [1, 5] (fun x i => i = .int .i64 0 ∧ x = .int .i64 (q : Int)) (fun _ _ => 0)
    case atStart => exact ⟨rfl, rfl⟩
    case round =>
      obtain ⟨rfl, rfl⟩ := hrel
      go_wp2
      go_ret
      exact ⟨rfl, World.ownsRow_nil _ _ _ _, World.grownBy.refl _ _⟩
  · exact mark_ints_some g cap base xs q w hown hl hq

set_option maxRecDepth 100000 in
set_option maxHeartbeats 1000000 in
theorem held_ints (n : Nat) (v : Value) (q : Nat) (w : World) (hv : Rd w v (marksI q n)) (hl : n ≤ 4194304) (hq : q ≤ 1000000000000000) :
    Calls Try.prog 19 #[v, .int .i64 (q : Int)] w fun e w' => e = .returned (.int .i64 ((q + n : Nat) : Int)) ∧ w' = w := by
  obtain ⟨a, cap, rfl, hc⟩ := hv.shape
  rw [marksI_len] at hc ⊢
  have HC : Hid (∀ j, j < n → ∃ b off, a = some ⟨b, off, none⟩ ∧ w.cell? ⟨b, off + j, none⟩ = some (.int .i64 ((q : Int) + j))) := by
    intro j hj
    obtain ⟨b, off, e, h⟩ := hc j hj
    rw [marksI_get q n j hj, show ((q + j : Nat) : Int) = (q : Int) + j from by omega] at h
    exact ⟨b, off, e, h⟩
  clear hc hv
  go_enter Try.func19, Try.ntmps19
  go_wp2_with fail
  go_loop [1, 5] (fun x i => ∃ k : Nat, i = .int .i64 k ∧ x = .int .i64 ((q : Int) + k) ∧ k ≤ n) (fun _ i => n - (intOf i).toNat)
  case atStart => exact ⟨0, rfl, by simp, by omega⟩
  case round =>
    obtain ⟨k, rfl, rfl, hk⟩ := hrel
    by_cases hlt : (k : Int) < n
    · obtain ⟨b, off, rfl, hcell⟩ := HC.out k (by omega)
      go_wp2
      go_round
      case rel => exact ⟨k + 1, by go_num, by go_num, by omega⟩
      case measure => simp [intOf]; omega
    · go_wp2
      go_ret
      have hke : k = n := by omega
      subst hke
      exact ⟨by simp, rfl⟩

theorem Own.kept {w w' : World} {base : Nat} {v v' : Value} {xs : List Int} (h : Own w base v xs) (hg : w.grownBy w' v'.ownBlock) (hne : ∀ g, v.ownBlock = some g → v'.ownBlock ≠ some g) : Own w' base v xs :=
  World.ownsRow.kept h hg (by
    cases hv : v.ownBlock with
    | none => exact .inl rfl
    | some g => exact .inr (fun e => hne g hv e.symm))

theorem grown_below' {B : Nat} {w0 w w' : World} {base : Nat} {v : Value} {xs : List Int} (hb : Below B w0 w) (h : Own w base v xs) (hB : B ≤ base) (hw : w0.heap.size ≤ w.heap.size) (h0 : B ≤ w0.heap.size) (hg : w.grownBy w' v.ownBlock) : Below B w0 w' :=
  hb.grown hg (Nat.le_trans h0 hw) (fun k hk => Nat.le_trans hB (h.lt k hk).1)
end Go.Proofs.Ytgcegjgjegkahab
