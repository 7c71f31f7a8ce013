/- impl.inOrder: it gives a list as long as the map. Condition: at most 2^30 names. -/
import Derived.Test.YtefjnhkaampmcaaDoorZCorNext
import Derived.Maps.RangeWalk
import Derived.Maps.OwnSet
import Derived.Maps.Views
import Derived.StringKeys
namespace Go.Proofs.YtefjnhkaampmcaaDoor
open Go.ChangeShapes Go.WideShapes Go.ChangeAt Go.RowKit Go.Shelf
open Go.Maps (Keyed IsMap)
open Go.WideMaps
attribute [local go_sem] Oper.semAt_some

theorem str_infoN : (Tryd.prog.info? 9).map (fun i => (i.zero, i.size, i.bytes)) = some (some (.string ⟨#[]⟩), 1, 16) := by kernel_rfl
/-- Names that are numbered: each number is below how many there are. -/
def NumD (D : DataW Unit) : Prop := IsMap D ∧ ∀ kl (c : Int), Maps.has D kl = true → D.atKey kl .nil = .lit (.int .i64 c) → 0 ≤ c ∧ c < Maps.size D
def Nums (w : World) (M n : Nat) (D : DataW Unit) : Prop := w.ownsMap Tryd.prog 9 (plainElem Tryd.prog 3) M n D ∧ NumD D
theorem NumD.nil : NumD (.map []) := ⟨⟨[], rfl⟩, fun kl c h => by simp [Maps.has] at h⟩
theorem NumD.more {D : DataW Unit} (h : NumD D) (ht : Maps.Tidy D) (s : List UInt8) (h0 : Maps.has D (.string s) = false) : NumD (D.put (.string s) (.lit (.int .i64 (Maps.size D)))) ∧ Maps.size (D.put (.string s) (.lit (.int .i64 (Maps.size D)))) = Maps.size D + 1 := by
  have hs : Maps.size (D.put (.string s) (.lit (.int .i64 (Maps.size D)))) = Maps.size D + 1 := by rw [Maps.size_put ht, h0]; rfl
  refine ⟨⟨h.1.put _ _, fun kl c h1 h2 => ?_⟩, hs⟩
  rw [hs]
  by_cases e : kl = .string s
  · subst e
    rw [Maps.atKey_put_same h.1 (keyLit _)] at h2
    injection h2 with h2
    injection h2 with _ h2
    omega
  · rw [Maps.has_put_other e] at h1
    rw [Maps.atKey_put_other e] at h2
    have := h.2 kl c h1 h2
    omega

/-- The range's step, string keys, int elements. -/
theorem next_si {P : Program} (w : World) {ops : Array Oper} {rest : List Oper} {o : Oper} {a : Act} {Q : Exit → Act → World → Prop}
    (hg : o.guard = none) (it : Operand) (hop : o.op = Op.next it false) (k e : TypeId) (K : Keyed P k) (hk : P.underlying k = some .string) (he : P.underlying e = some (.int .i64))
    (b r n : Nat) (D : DataW Unit) (left : Lit → Bool) (cnt : Nat) (hit : a.eval it = .pointer (some ⟨r, 0, none⟩)) (h : w.ranges P k (plainElem P e) b r n D left cnt)
    (hDone : wpList P ops Q rest (a.put o.dst (.tuple #[.bool false])) w)
    (hMore : ∀ (x : ByteArray) (c : Int) (w' : World) (cnt' : Nat), left (.string x.data.toList) = true → D.atKey (.string x.data.toList) .nil = .lit (.int .i64 c) → w'.ranges P k (plainElem P e) b r n D (fun z => left z && !z.sameKey (.string x.data.toList)) cnt' → cnt' < cnt →
      w.grownBy w' (some r) → w'.heap.size = w.heap.size → (Instr.entry (.pointer (some ⟨r, 0, none⟩))).run P w' = .ok (.tuple #[.string x, .int .i64 c]) w' → wpList P ops Q rest (a.put o.dst (.tuple #[.bool true, .string x, .int .i64 c])) w') :
    wpList P ops Q (o :: rest) a w :=
  wpList_next_ranges w hg it hop k K (plainElem P e) Value.string (Value.int .i64) (fun key kl hkey => by obtain ⟨x, rfl, _⟩ := string_of_keyOf hk hkey; exact ⟨x, rfl⟩) (fun v y hv => by obtain ⟨c, rfl, _⟩ := plainElem_int_inv he hv; exact ⟨c, rfl⟩)
    b r n D left cnt hit h (fun _ _ => hDone) (fun x c kl y w' cnt' hkey hlk hv hat hrg hlt hgr hsz hen => by
      obtain ⟨x', ex, rfl, hwx⟩ := string_of_keyOf hk hkey
      cases ex
      obtain ⟨c', ec, rfl, hwc⟩ := plainElem_int_inv he hv
      cases ec
      exact hMore x c w' cnt' hlk (hat _) hrg hlt hgr hsz hen)

/-- What stands between two rounds. -/
structure Ord9 (w : World) (M LB R n k : Nat) (D : DataW Unit) (cnt : Nat) (wr : World) : Prop where
  rg : ∃ left, (∀ kl, left kl = true → Maps.has D kl = true) ∧ wr.ranges Tryd.prog 9 (plainElem Tryd.prog 3) M R n D left cnt
  row : ∃ cur : Array Value, cur.size = k ∧ wr.heap[LB]? = some (.cells cur 9 (0, 0))
  bel : Below w.heap.size w wr

set_option maxRecDepth 100000 in
set_option maxHeartbeats 4000000 in
theorem in_order (M n : Nat) (D : DataW Unit) (w : World) (h : Nums w M n D) (hn : n ≤ 1073741824) :
    Calls Tryd.prog 31 #[.map (some M)] w fun e w' => (∃ p c, e = .returned (.slice p (Maps.size D : Nat) c)) ∧ Below w.heap.size w w' := by
  obtain ⟨i0, hi, hz0, hz1, hz2⟩ := info_parts str_infoN
  obtain ⟨hown, hnum⟩ := h
  have HN : Hid (NumD D) := hnum
  have hsz := hown.size_le
  generalize hk : Maps.size D = k at *
  have HK : Hid (Maps.size D = k) := hk
  obtain ⟨w1, hrun, hrow, hg1⟩ := run_make_full (P := Tryd.prog) w w.heap.size 36 9 i0 _ 1 Tryd.underlying36 hi hz0 hz1 .i64 .i64 k (by rw [hz2]; omega) (by unfold maxLen; omega) (Nat.le_refl _)
  have hown1 := hown.kept hg1 (by simp)
  have HL : Hid (w1.ownsRow w.heap.size 9 1 (.slice (some ⟨w.heap.size, 0, none⟩) k k) k (madeCells (Value.string ⟨#[]⟩).cells (k * 1)).toList ∧ w.grownBy w1 none ∧ M < w.heap.size) := ⟨hrow, hg1, hown.lt⟩
  clear hrow hg1 hnum
  go_enter Tryd.func31, Tryd.ntmps31
  go_wp2_with (first
    | (at_len; refine wpList_len_own _ rfl _ 53 rfl 9 3 Tryd.underlying53 _ M n D rfl hown ?_; rw [HK.out])
    | (at_range; refine wpList_range_own _ rfl _ 53 rfl 9 3 lawB Tryd.underlying53 _ M n D rfl hown1 ?_; intro w2 hrg0 hg0 hs0)
    | go_in)
  go_frame
  obtain ⟨LB, hLB⟩ : ∃ x, x = w.heap.size := ⟨_, rfl⟩
  obtain ⟨R, hR⟩ : ∃ x, x = w1.heap.size := ⟨_, rfl⟩
  have HR : Hid (LB = w.heap.size ∧ R = w1.heap.size ∧ M < LB ∧ LB < R) := by
    obtain ⟨a1, a2, a3⟩ := HL.out
    refine ⟨hLB, hR, by omega, ?_⟩
    have := (own_room a1).2.2.2
    omega
  have HO : Hid (Ord9 w M LB R n k D k w2) := by
    obtain ⟨a1, a2, a3⟩ := HL.out
    have b1 : Below w.heap.size w w1 := ⟨a2.os, a2.tape, a2.output, a2.size, fun g hg => a2.block g hg (by simp)⟩
    have b2 : Below w1.heap.size w1 w2 := ⟨hg0.os, hg0.tape, hg0.output, hg0.size, fun g hg => hg0.block g hg (by simp)⟩
    refine ⟨⟨Maps.has D, fun _ h => h, ?_⟩, ?_, b1.trans (b2.mono a2.size)⟩
    · rw [hR]; have := hrg0; rw [HK.out] at this; exact this
    · rcases a1.2 with ⟨h0, _⟩ | ⟨g, cap, cur, he, _, hgg, _, _, hcs, _⟩
      · cases h0
      · injection he with e1 e2 e3
        injection e1 with e1
        injection e1 with e1
        subst e1
        rw [hLB]
        exact ⟨cur, by omega, (b2.block _ (Array.getElem?_eq_some_iff.1 hgg).1).trans hgg⟩
  rw [← hLB, ← hR]
  clear hrg0 hg0 hs0 hown1 hrun hown hLB hR HL hk hi hz0 hz1 hz2
  go_loopw [11] (fun _ wr => ∃ cnt, Ord9 w M LB R n k D cnt wr) (fun _ wr => wr.rangeLeft M R)
  case atStart => exact ⟨_, HO.out⟩
  case round =>
    obtain ⟨cnt, hO⟩ := hrel
    obtain ⟨⟨left, hleft, hrg⟩, ⟨cur, hcs, hrow⟩, hbel⟩ := hO
    have HS : Hid ((∀ kl, left kl = true → Maps.has D kl = true) ∧ wr.ranges Tryd.prog 9 (plainElem Tryd.prog 3) M R n D left cnt ∧ cur.size = k ∧ wr.heap[LB]? = some (.cells cur 9 (0, 0)) ∧ Below w.heap.size w wr) := ⟨hleft, hrg, hcs, hrow, hbel⟩
    clear hleft hcs hrow hbel
    go_wp2_with (first
      | (at_next; refine next_si _ rfl _ rfl 9 3 lawB Tryd.underlying9 Tryd.underlying3 M R n D left cnt rfl hrg ?_ ?_)
      | go_in)
    · go_wp2_with fail
      go_ret
      exact ⟨⟨_, _, rfl⟩, HS.out.2.2.2.2⟩
    · intro x c w3 cnt3 hlk hat hrg3 hlt hg3 hs3 hen
      obtain ⟨g1, g2, g3, g4, g5⟩ := HS.out
      obtain ⟨c0, c1⟩ := HN.out.2 _ c (g1 _ hlk) hat
      rw [HK.out] at c1
      obtain ⟨cn, rfl⟩ : ∃ cn : Nat, c = cn := ⟨c.toNat, by omega⟩
      have hneq : LB ≠ R := by have := HR.out; omega
      have hrow3 : w3.heap[LB]? = some (.cells cur 9 (0, 0)) := (hg3.block LB (Array.getElem?_eq_some_iff.1 g4).1 (by intro e; injection e with e; exact hneq e)).trans g4
      have k0 : w3.cell? ⟨LB, cn, none⟩ = cur[cn]? := by simp [World.cell?, hrow3]
      obtain ⟨old, hold⟩ : ∃ old, cur[cn]? = some old := ⟨_, Array.getElem?_eq_getElem (by omega)⟩
      rw [hold] at k0
      have f0 : w3.frozen? ⟨LB, cn, none⟩ = false := frozen_of_row w3 LB cn _ _ hrow3
      have HQ : Hid (Ord9 w M LB R n k D cnt3 (w3.setCell ⟨LB, cn, none⟩ (.string x)) ∧ (w3.setCell ⟨LB, cn, none⟩ (.string x)).rangeLeft M R < wr.rangeLeft M R) := by
        have hrgN := hrg3.kept (grown_cell w3 LB cn (.string x)) (by have := HR.out; intro e; injection e with e; omega) (by intro e; injection e with e; exact hneq e.symm)
        have hw : w.heap.size ≤ R := by have := HR.out; omega
        refine ⟨⟨⟨_, fun kl h => ?_, hrgN⟩, ⟨_, ?_, heap_setCell_same w3 LB cn _ _ _ hrow3⟩, ?_⟩, ?_⟩
        · simp only [Bool.and_eq_true] at h; exact g1 kl h.1
        · simp [g3]
        · have b3 : Below w.heap.size w w3 := g5.trans ⟨hg3.os, hg3.tape, hg3.output, hg3.size, fun g hg => hg3.block g (by have := g5.size; omega) (by intro e; injection e with e; omega)⟩
          exact b3.setCell (by show _ ≤ LB; have := HR.out; omega) _
        · rw [hrgN.left_eq, hrg.left_eq]; exact hlt
      clear g1 g2 g3 g4 g5 hrg hrg3 hlk hat hg3 hs3 HS hrow3 hold
      go_wp2_with fail
      go_roundw
      case rel => first | exact ⟨_, HQ.out.1⟩ | ((repeat apply Exists.intro); exact ⟨⟨_, HQ.out.1⟩, rfl⟩)
      case measure => exact HQ.out.2
end Go.Proofs.YtefjnhkaampmcaaDoor
