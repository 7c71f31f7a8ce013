/- laws.toByteS, laws.markByteS, laws.heldByteS, laws.eqByteS at lists of bytes; and how a slice that came in is read. Condition: at most 2^22 of them; what is marked is a row of the call's own. -/
import Derived.Test.YtocdpgogoadfnaaDoorBys
import Derived.Deep.QuietTactic
import Derived.BigQuiet
import Derived.WalkSpells
import Derived.WalkSmall
import Derived.OpenShut
namespace Go.Proofs.YtocdpgogoadfnaaDoor
open Go.ChangeShapes Go.WideShapes Go.ChangeAt Go.RowKit

theorem by_info : (Tryd.prog.info? 5).map (fun i => (i.zero, i.size, i.bytes)) = some (some (.int .u8 0), 1, 1) := by kernel_rfl

/-- A slice that came in: its first cells are xs. -/
def RsY (w : World) (v : Value) (xs : List Nat) : Prop :=
  ∃ a cap, v = .slice a xs.length cap ∧ ∀ j, j < xs.length → ∃ b off, a = some ⟨b, off, none⟩ ∧ w.cell? ⟨b, off + j, none⟩ = some (.int .u8 (xs.getD j 0 : Nat))

theorem RsY.below {w w' : World} {v : Value} {xs : List Nat} (h : RsY w v xs) (hb : Below w.heap.size w w') : RsY w' v xs := by
  obtain ⟨a, cap, rfl, hc⟩ := h
  refine ⟨a, cap, rfl, fun j hj => ?_⟩
  obtain ⟨b, off, e, h⟩ := hc j hj
  exact ⟨b, off, e, (hb.cell (World.block_lt_of_cell? w _ h)).trans h⟩

/-- The shell's word for a slice of bytes that came in. -/
def IsRowY (w : World) (a : Option Addr) (len cap : Nat) (zs : List Int) : Prop :=
  (a = none ∧ len = 0 ∧ cap = 0 ∧ zs = []) ∨
  ∃ x, a = some x ∧ len ≤ cap ∧ cap ≤ maxLen ∧ zs.length = cap ∧ (∀ i, i < zs.length → w.cell? (x.add i) = some (.int .u8 (zs.getD i 0))) ∧ ∀ n ∈ zs, (Lit.int .u8 n).wf = true

theorem IsRowY.rs {w : World} {a : Option Addr} {len cap : Nat} {zs : List Int} (h : IsRowY w a len cap zs) : ∃ xs : List Nat, xs.length = len ∧ RsY w (.slice a len cap) xs ∧ ∀ x ∈ xs, x < 256 := by
  rcases h with ⟨rfl, rfl, rfl, rfl⟩ | ⟨x, rfl, hl, _, hz, hc, hw⟩
  · exact ⟨[], rfl, ⟨none, 0, rfl, fun j hj => by simp at hj⟩, fun x hx => by cases hx⟩
  · have hlen : ((zs.take len).map Int.toNat).length = len := by rw [List.length_map, List.length_take]; omega
    refine ⟨(zs.take len).map Int.toNat, hlen, ⟨some x, cap, by rw [hlen], fun j hj => ?_⟩, fun y hy => ?_⟩
    · rw [hlen] at hj
      obtain ⟨b, off, rfl, hc'⟩ := ints_at hc (by omega)
      refine ⟨b, off, rfl, ?_⟩
      rw [hc' j (by omega)]
      have hm : zs.getD j 0 ∈ zs := by rw [List.getD_eq_getElem?_getD, List.getElem?_eq_getElem (by omega), Option.getD_some]; exact List.getElem_mem _
      have hb := bounds_u8 (hw _ hm)
      have e : ((zs.take len).map Int.toNat).getD j 0 = (zs.getD j 0).toNat := by
        simp [List.getD_eq_getElem?_getD, hj, List.getElem?_eq_getElem (show j < zs.length by omega)]
      rw [e, Int.toNat_of_nonneg hb.1]
    · obtain ⟨z, hz, rfl⟩ := List.mem_map.1 hy
      have hb := bounds_u8 (hw _ (List.mem_of_mem_take hz))
      omega

theorem row_set_by {xs : List Nat} {Z : List Value} {k : Nat} (hk : k < xs.length) (hZ : Z.length = xs.length) :
    (((xs.take k).map byV) ++ Z.drop k).set k (.int .u8 (xs.getD k 0 : Nat)) = ((xs.take (k + 1)).map byV) ++ Z.drop (k + 1) := by
  have hl : ((xs.take k).map byV).length = k := by simp; omega
  rw [List.set_append_right _ _ (by omega), hl, Nat.sub_self, List.drop_eq_getElem_cons (by omega : k < Z.length), List.set_cons_zero, List.take_add_one, List.getElem?_eq_getElem hk, getD_by xs k hk, List.map_append]
  simp only [Option.toList_some, List.map_cons, List.map_nil, List.append_assoc, List.cons_append, List.nil_append]
  rfl

set_option maxRecDepth 100000 in
set_option maxHeartbeats 1000000 in
theorem to_bytes (xs : List Nat) (v : Value) (w : World) (hv : RsY w v xs) (hl : xs.length ≤ 4194304) :
    Calls Tryd.prog 15 #[v] w fun e w' => ∃ u, e = .returned u ∧ Below w.heap.size w w' ∧ OwnY w' w.heap.size u xs := by
  obtain ⟨a, cap, rfl, hc⟩ := hv
  have HC : Hid (∀ j, j < xs.length → ∃ b off, a = some ⟨b, off, none⟩ ∧ w.cell? ⟨b, off + j, none⟩ = some (.int .u8 (xs.getD j 0 : Nat))) := hc
  clear hc
  obtain ⟨m, hm⟩ : ∃ m, m = xs.length := ⟨_, rfl⟩
  rw [← hm] at HC hl ⊢
  have HM : Hid (m = xs.length) := hm
  clear hm
  obtain ⟨i0, hi, hz0, hz1, hz2⟩ := info_parts by_info
  obtain ⟨w1, hrun, hown, hg⟩ := run_make_full (P := Tryd.prog) w w.heap.size 24 5 i0 _ 1 Tryd.underlying24 hi hz0 hz1 .i64 .i64 m (by rw [hz2]; omega) (by unfold maxLen; omega) (Nat.le_refl _)
  obtain ⟨Z, hZ⟩ : ∃ Z, Z = (madeCells (Value.int IntKind.u8 0).cells (m * 1)).toList := ⟨_, rfl⟩
  rw [← hZ] at hown
  have HZ : Hid (Z.length = xs.length) := by show _ = _; have := hown.1; rw [← HM.out]; omega
  have HW : Hid (w1.ownsRow w.heap.size 5 1 (.slice (some ⟨w.heap.size, 0, none⟩) m m) m (((xs.take 0).map byV) ++ Z.drop 0) ∧ Below w.heap.size w w1) := ⟨by simpa using hown, ⟨hg.os, hg.tape, hg.output, hg.size, fun k hk => hg.block k hk (by simp)⟩⟩
  clear hown hg hi hz0 hz1 hz2 hZ
  go_enter Tryd.func15, Tryd.ntmps15
  go_wp2_with fail
  clear hrun
  go_loopw [4] (fun i wr => ∃ k : Nat, i = .int .i64 k ∧ k ≤ m ∧ wr.ownsRow w.heap.size 5 1 (.slice (some ⟨w.heap.size, 0, none⟩) m m) m (((xs.take k).map byV) ++ Z.drop k) ∧ Below w.heap.size w wr) (fun i _ => m - (intOf i).toNat)
  case atStart => exact ⟨0, rfl, by omega, HW.out.1, HW.out.2⟩
  case round =>
    obtain ⟨k, rfl, hk, hown, hbel⟩ := hrel
    have HOW : Hid (wr.ownsRow w.heap.size 5 1 (.slice (some ⟨w.heap.size, 0, none⟩) m m) m (((xs.take k).map byV) ++ Z.drop k)) := hown
    have HB : Hid (Below w.heap.size w wr) := hbel
    clear hown hbel HW
    by_cases hlt : (k : Int) < m
    · have HK : Hid (k < xs.length) := by show k < _; rw [← HM.out]; omega
      obtain ⟨b, off, rfl, hcell⟩ := HC.out k (by omega)
      have hst := HOW.out.stored k (.int .u8 (xs.getD k 0 : Nat))
      rw [row_set_by HK.out HZ.out] at hst
      generalize hx : xs.getD k 0 = x at hcell hst
      have hcell1 := cell_later HB.out hcell
      have hf := HOW.out.frozenAt k
      have hcl : ∃ u, wr.cell? ⟨w.heap.size, k, none⟩ = some u := by
        have hll := HOW.out.1
        exact ⟨_, (HOW.out.cellAt k (by omega)).trans (List.getElem?_eq_getElem (by omega))⟩
      obtain ⟨u0, hu0⟩ := hcl
      have HST : Hid ((wr.setCell ⟨w.heap.size, k, none⟩ (.int .u8 (x : Nat))).ownsRow w.heap.size 5 1 (.slice (some ⟨w.heap.size, 0, none⟩) m m) m (((xs.take (k + 1)).map byV) ++ Z.drop (k + 1)) ∧ Below w.heap.size w (wr.setCell ⟨w.heap.size, k, none⟩ (.int .u8 (x : Nat)))) := ⟨hst.1, HB.out.setCell (Nat.le_refl _) _⟩
      clear hst hcell hx
      go_wp2
      go_roundw
      case rel => exact ⟨k + 1, by go_num, by omega, HST.out.1, HST.out.2⟩
      case measure => simp [intOf]; omega
    · go_wp2
      go_ret
      have hke : k = m := by omega
      have h := HOW.out
      rw [hke, HM.out, List.take_length, List.drop_eq_nil_of_le (by rw [HZ.out]; omega), List.append_nil] at h
      exact ⟨_, rfl, HB.out, by rw [HM.out]; exact h⟩

/-- What is marked from k on. -/
def marksY (k n : Nat) : List Nat := (List.range n).map fun i => (k + i) % 256
theorem marksY_len (k n : Nat) : (marksY k n).length = n := by simp [marksY]
theorem marksY_get (k n i : Nat) (h : i < n) : (marksY k n).getD i 0 = (k + i) % 256 := by simp [marksY, List.getD_eq_getElem?_getD, h]

set_option maxRecDepth 100000 in
set_option maxHeartbeats 1000000 in
theorem mark_bytes_some (g cap base : Nat) (xs : List Nat) (q : Nat) (w : World) (hown : OwnY w base (.slice (some ⟨g, 0, none⟩) xs.length cap) xs) (hl : xs.length ≤ 4194304) (hq : q ≤ 1000000000000000) :
    Calls Tryd.prog 12 #[.slice (some ⟨g, 0, none⟩) xs.length cap, .int .i64 (q : Int)] w fun e w' => e = .returned (.int .i64 ((q + xs.length : Nat) : Int)) ∧ OwnY w' base (.slice (some ⟨g, 0, none⟩) xs.length cap) (marksY q xs.length) ∧ w.grownBy w' (some g) := by
  obtain ⟨m, hm⟩ : ∃ m, m = xs.length := ⟨_, rfl⟩
  have HW : Hid (w.ownsRow base 5 1 (.slice (some ⟨g, 0, none⟩) m cap) m ((((marksY q m).take 0).map byV) ++ (xs.map byV).drop 0)) := by
    show World.ownsRow _ _ _ _ _ _ _
    rw [hm]; simpa [OwnY] using hown
  rw [← hm] at hl ⊢
  have HZ : Hid ((xs.map byV).length = (marksY q m).length) := by show _ = _; rw [marksY_len, List.length_map, hm]
  generalize xs.map byV = Z at HW HZ
  clear hm hown
  go_enter Tryd.func12, Tryd.ntmps12
  go_wp2_with fail
  go_loopw [1, 5] (fun x i wr => ∃ k : Nat, i = .int .i64 k ∧ x = .int .i64 ((q : Int) + k) ∧ k ≤ m ∧ wr.ownsRow base 5 1 (.slice (some ⟨g, 0, none⟩) m cap) m ((((marksY q m).take k).map byV) ++ Z.drop k) ∧ w.grownBy wr (some g)) (fun _ i _ => m - (intOf i).toNat)
  case atStart => exact ⟨0, rfl, by simp, by omega, HW.out, World.grownBy.refl _ _⟩
  case round =>
    obtain ⟨k, rfl, rfl, hk, hown, hgr⟩ := hrel
    have HOW : Hid (wr.ownsRow base 5 1 (.slice (some ⟨g, 0, none⟩) m cap) m ((((marksY q m).take k).map byV) ++ Z.drop k)) := hown
    have HG : Hid (w.grownBy wr (some g)) := hgr
    clear hown hgr HW
    by_cases hlt : (k : Int) < m
    · have HK : Hid (k < (marksY q m).length) := by show k < _; rw [marksY_len]; omega
      have hst := HOW.out.stored k (.int .u8 ((marksY q m).getD k 0 : Nat))
      rw [row_set_by HK.out HZ.out, marksY_get q m k (by omega), show (((q + k) % 256 : Nat) : Int) = ((q : Int) + k) % 256 from by omega] at hst
      have hf := HOW.out.frozenAt k
      have hcl : ∃ u, wr.cell? ⟨g, k, none⟩ = some u := by
        have hll := HOW.out.1
        exact ⟨_, (HOW.out.cellAt k (by omega)).trans (List.getElem?_eq_getElem (by omega))⟩
      obtain ⟨u0, hu0⟩ := hcl
      have HST : Hid ((wr.setCell ⟨g, k, none⟩ (.int .u8 (((q : Int) + k) % 256))).ownsRow base 5 1 (.slice (some ⟨g, 0, none⟩) m cap) m ((((marksY q m).take (k + 1)).map byV) ++ Z.drop (k + 1)) ∧ w.grownBy (wr.setCell ⟨g, k, none⟩ (.int .u8 (((q : Int) + k) % 256))) (some g)) :=
        ⟨hst.1, ⟨hst.2.os.trans HG.out.os, hst.2.tape.trans HG.out.tape, hst.2.output.trans HG.out.output, Nat.le_trans HG.out.size hst.2.size, fun j hj hr => (hst.2.block j (Nat.lt_of_lt_of_le hj HG.out.size) hr).trans (HG.out.block j hj hr)⟩⟩
      clear hst
      go_wp2
      go_roundw
      case rel => exact ⟨k + 1, by go_num, by go_num, by omega, HST.out.1, HST.out.2⟩
      case measure => simp [intOf]; omega
    · go_wp2
      go_ret
      have hke : k = m := by omega
      subst hke
      have h := HOW.out
      rw [List.take_of_length_le (by rw [marksY_len]; omega), List.drop_eq_nil_of_le (by rw [HZ.out, marksY_len]; omega), List.append_nil] at h
      refine ⟨by simp, ?_, HG.out⟩
      unfold OwnY
      rw [marksY_len]
      exact h

theorem mark_bytes (v : Value) (base : Nat) (xs : List Nat) (q : Nat) (w : World) (hown : OwnY w base v xs) (hl : xs.length ≤ 4194304) (hq : q ≤ 1000000000000000) :
    Calls Tryd.prog 12 #[v, .int .i64 (q : Int)] w fun e w' => e = .returned (.int .i64 ((q + xs.length : Nat) : Int)) ∧ OwnY w' base v (marksY q xs.length) ∧ w.grownBy w' v.ownBlock := by
  rcases hown.2 with ⟨rfl, hn⟩ | ⟨g, cap, cur, rfl, rest⟩
  · have hts : xs = [] := List.eq_nil_of_length_eq_zero hn
    subst hts
    clear hown hn hl
    go_enter Tryd.func12, Tryd.ntmps12
    go_wp2
    go_loop [1, 5] (fun x i => i = .int .i64 0 ∧ x = .int .i64 (q : Int)) (fun _ _ => 0)
    case atStart => exact ⟨rfl, rfl⟩
    case round =>
      obtain ⟨rfl, rfl⟩ := hrel
      go_wp2
      go_ret
      exact ⟨rfl, World.ownsRow_nil _ _ _ _, World.grownBy.refl _ _⟩
  · exact mark_bytes_some g cap base xs q w hown hl hq

set_option maxRecDepth 100000 in
set_option maxHeartbeats 1000000 in
theorem held_bytes (n : Nat) (v : Value) (q : Nat) (w : World) (hv : RdY w v (marksY q n)) (hl : n ≤ 4194304) (hq : q ≤ 1000000000000000) :
    Calls Tryd.prog 13 #[v, .int .i64 (q : Int)] w fun e w' => e = .returned (.int .i64 ((q + n : Nat) : Int)) ∧ w' = w := by
  obtain ⟨a, cap, rfl, hc⟩ := hv.shape
  rw [marksY_len] at hc ⊢
  have HC : Hid (∀ j, j < n → ∃ b off, a = some ⟨b, off, none⟩ ∧ w.cell? ⟨b, off + j, none⟩ = some (.int .u8 (((q : Int) + j) % 256))) := by
    intro j hj
    obtain ⟨b, off, e, h⟩ := hc j hj
    rw [marksY_get q n j hj, show (((q + j) % 256 : Nat) : Int) = ((q : Int) + j) % 256 from by omega] at h
    exact ⟨b, off, e, h⟩
  clear hc hv
  go_enter Tryd.func13, Tryd.ntmps13
  go_wp2_with fail
  go_loop [1, 5] (fun x i => ∃ k : Nat, i = .int .i64 k ∧ x = .int .i64 ((q : Int) + k) ∧ k ≤ n) (fun _ i => n - (intOf i).toNat)
  case atStart => exact ⟨0, rfl, by simp, by omega⟩
  case round =>
    obtain ⟨k, rfl, rfl, hk⟩ := hrel
    by_cases hlt : (k : Int) < n
    · obtain ⟨b, off, rfl, hcell⟩ := HC.out k (by omega)
      go_wp2
      go_round
      case rel => exact ⟨k + 1, by go_num, by go_num, by omega⟩
      case measure => simp [intOf]; omega
    · go_wp2
      go_ret
      have hke : k = n := by omega
      subst hke
      exact ⟨by simp, rfl⟩

set_option maxHeartbeats 1000000 in
theorem eq_bytes (xs : List Nat) (v u : Value) (w : World) (hv : RdY w v xs) (hu : RdY w u xs) (hl : xs.length ≤ 4194304) :
    Calls Tryd.prog 9 #[v, u] w fun e w' => e = .returned (.bool true) ∧ Below w.heap.size w w' := by
  obtain ⟨a, cap, rfl, hc⟩ := hv.shape
  obtain ⟨a2, cap2, rfl, hc2⟩ := hu.shape
  have HC : Hid (∀ j, j < xs.length → ∃ b off, a = some ⟨b, off, none⟩ ∧ w.cell? ⟨b, off + j, none⟩ = some (.int .u8 (xs.getD j 0 : Nat))) := hc
  have HC2 : Hid (∀ j, j < xs.length → ∃ b off, a2 = some ⟨b, off, none⟩ ∧ w.cell? ⟨b, off + j, none⟩ = some (.int .u8 (xs.getD j 0 : Nat))) := hc2
  clear hc hv hc2 hu
  generalize xs.length = m at *
  go_enter Tryd.func9, Tryd.ntmps9
  go_wp2
  go_loopw [5] (fun i wr => ∃ k : Nat, k ≤ m ∧ i = .int .i64 k ∧ Below w.heap.size w wr) (fun i _ => m - (intOf i).toNat)
  case atStart => exact ⟨0, by omega, rfl, Below.refl _ _⟩
  case round =>
    obtain ⟨k, hk, rfl, hb⟩ := hrel
    have HB : Hid (Below w.heap.size w wr) := hb
    clear hb
    by_cases hlt : (k : Int) < m
    · obtain ⟨b, off, rfl, hcell⟩ := HC.out k (by omega)
      obtain ⟨b2, off2, rfl, hcell2⟩ := HC2.out k (by omega)
      generalize ((xs.getD k 0 : Nat) : Int) = x at hcell hcell2
      have c1 := cell_later HB.out hcell
      have c2 := cell_later HB.out hcell2
      clear hcell hcell2
      have he : (x != x) = false := by simp
      go_wp2_with fail
      go_quiet (fail)
      go_wp2
      go_roundw
      case rel => exact ⟨k + 1, by omega, by go_num, below_drewN HB.out _⟩
      case measure => simp [intOf]; omega
    · go_wp2
      go_ret
      exact ⟨rfl, HB.out⟩

theorem OwnY.kept {w w' : World} {base : Nat} {v v' : Value} {xs : List Nat} (h : OwnY w base v xs) (hg : w.grownBy w' v'.ownBlock) (hne : ∀ g, v.ownBlock = some g → v'.ownBlock ≠ some g) : OwnY w' base v xs :=
  World.ownsRow.kept h hg (by
    cases hv : v.ownBlock with
    | none => exact .inl rfl
    | some g => exact .inr (fun e => hne g hv e.symm))

theorem grown_belowY {B : Nat} {w0 w w' : World} {base : Nat} {v : Value} {xs : List Nat} (hb : Below B w0 w) (h : OwnY w base v xs) (hB : B ≤ base) (hw : w0.heap.size ≤ w.heap.size) (h0 : B ≤ w0.heap.size) (hg : w.grownBy w' v.ownBlock) : Below B w0 w' :=
  hb.grown hg (Nat.le_trans h0 hw) (fun k hk => Nat.le_trans hB (h.lt k hk).1)
end Go.Proofs.YtocdpgogoadfnaaDoor
