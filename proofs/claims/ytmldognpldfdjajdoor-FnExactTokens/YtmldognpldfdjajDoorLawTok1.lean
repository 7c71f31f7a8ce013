/- laws.eqTokenS and laws.markText. Conditions: the cells of the lists are there. -/
import Derived.Test.YtmldognpldfdjajDoorSpecDigits
import Derived.Test.YtmldognpldfdjajDoorTokCells
import Derived.WalkKit
import Derived.ProofKit
import Derived.Below
import Derived.OwnWalk
import Derived.BigQuiet
import Derived.Deep.QuietTactic
import Derived.Deep.RegionHeld3
namespace Go.Proofs.YtmldognpldfdjajDoor
open Go.ChangeShapes Go.WideShapes Go.ChangeAt Go.RowKit

set_option maxHeartbeats 1000000 in
theorem eq_token (t : Tok) (w : World) : Calls Tryd.prog 14 #[.agg #[.int .i64 t.kind, .int .i64 t.at_, .int .i64 t.n, .string t.text], .agg #[.int .i64 t.kind, .int .i64 t.at_, .int .i64 t.n, .string t.text]] w fun e w' => e = .returned (.bool true) ∧ Below w.heap.size w w' := by
  go_enter Tryd.func14, Tryd.ntmps14
  go_wp2
  go_ret
  exact ⟨rfl, (below_new w _).trans ((below_new _ _).mono (by simp))⟩

set_option maxRecDepth 100000 in
set_option maxHeartbeats 2000000 in
theorem eq_tokens (a b : Value) (ts : List Tok) (w : World) (ha : TokCells w a ts) (hb : TokCells w b ts) (hlen : ts.length ≤ 4000) :
    Calls Tryd.prog 6 #[a, b] w fun e w' => e = .returned (.bool true) ∧ Below w.heap.size w w' := by
  cases ts with
  | nil =>
    have h1 : ∃ p c, a = .slice p 0 c := by
      rcases ha with ⟨rfl, _⟩ | ⟨g, cap, rfl, _⟩
      · exact ⟨_, _, rfl⟩
      · exact ⟨_, _, rfl⟩
    have h2 : ∃ p c, b = .slice p 0 c := by
      rcases hb with ⟨rfl, _⟩ | ⟨g, cap, rfl, _⟩
      · exact ⟨_, _, rfl⟩
      · exact ⟨_, _, rfl⟩
    obtain ⟨p1, c1, rfl⟩ := h1
    obtain ⟨p2, c2, rfl⟩ := h2
    clear ha hb hlen
    go_enter Tryd.func6, Tryd.ntmps6
    go_wp2
    go_loop [5] (fun i => i = .int .i64 0) (fun _ => 0)
    case atStart => rfl
    case round =>
      obtain rfl := hrel
      go_wp2
      go_ret
      exact ⟨rfl, Below.refl _ _⟩
  | cons t r =>
    rcases ha with ⟨_, h⟩ | ⟨ga, capa, rfl, hca, hca2⟩
    · cases h
    rcases hb with ⟨_, h⟩ | ⟨gb, capb, rfl, hcb, hcb2⟩
    · cases h
    generalize hts : t :: r = ts at *
    have HA : Hid (∀ j u, (rows ts)[j]? = some u → w.cell? ⟨ga, j, none⟩ = some u) := hca2
    have HB : Hid (∀ j u, (rows ts)[j]? = some u → w.cell? ⟨gb, j, none⟩ = some u) := hcb2
    clear hca2 hcb2 hts
    go_enter Tryd.func6, Tryd.ntmps6
    go_wp2
    go_loopw [5] (fun i wr => ∃ k : Nat, i = .int .i64 k ∧ k ≤ ts.length ∧ Below w.heap.size w wr) (fun i _ => ts.length - (intOf i).toNat)
    case atStart => exact ⟨0, rfl, Nat.zero_le _, Below.refl _ _⟩
    case round =>
      obtain ⟨k, rfl, hk, hbel⟩ := hrel
      have HBL : Hid (Below w.heap.size w wr) := hbel
      clear hbel
      by_cases hlt : (k : Int) < ts.length
      · have hlt' : k < ts.length := by omega
        obtain ⟨r0, r1, r2, r3⟩ := rows_at ts k hlt'
        have kp : ∀ {x : Addr} {u : Value}, w.cell? x = some u → wr.cell? x = some u := fun h => (HBL.out.cell (World.block_lt_of_cell? w _ h)).trans h
        have a0 := kp (HA.out _ _ r0); have a1 := kp (HA.out _ _ r1); have a2 := kp (HA.out _ _ r2); have a3 := kp (HA.out _ _ r3)
        have b0 := kp (HB.out _ _ r0); have b1 := kp (HB.out _ _ r1); have b2 := kp (HB.out _ _ r2); have b3 := kp (HB.out _ _ r3)
        clear kp r0 r1 r2 r3
        generalize ts[k] = t at *
        go_wp2_with fail
        go_region_with ((go_at_call 14; refine (eq_token t _).mono ?_; rintro e w1 ⟨rfl, hb1⟩))
        all_goals
          have HB1 : Hid (Below w.heap.size w w1) := HBL.out.trans ⟨hb1.os, hb1.tape, hb1.output, hb1.size, fun j hj => hb1.block j (Nat.lt_of_lt_of_le hj HBL.out.size)⟩
          clear hb1
          go_wp2
          go_roundw
          case rel => first | exact ⟨k + 1, by go_num, by omega, HB1.out⟩ | ((repeat apply Exists.intro); exact ⟨⟨k + 1, by go_num, by omega, HB1.out⟩, rfl⟩)
          case measure => simp [intOf]; omega
      · go_wp2
        go_ret
        exact ⟨rfl, HBL.out⟩


/-- What markText answers at k. -/
def markB (k : Nat) : ByteArray := ⟨(109 :: Lib.decDigits k).toArray⟩
end Go.Proofs.YtmldognpldfdjajDoor
