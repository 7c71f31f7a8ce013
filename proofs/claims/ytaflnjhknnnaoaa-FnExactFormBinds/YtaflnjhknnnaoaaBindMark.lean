/- laws.markBindS and laws.heldBindS of binds whose sets are empty. Condition: at most 2^20 binds, numbers below 10^14. -/
import Derived.Test.YtaflnjhknnnaoaaFormBindsP
import Derived.Test.YtaflnjhknnnaoaaStrLaw
import Derived.Test.YtaflnjhknnnaoaaIntsLaw
import Derived.Deep.RegionWith
namespace Go.Proofs.Ytaflnjhknnnaoaa
open Go.ChangeShapes Go.WideShapes Go.ChangeAt Go.RowKit

/-- An empty list, to be read. -/
def Nil (v : Value) : Prop := ∃ a cap, v = .slice a 0 cap
set_option maxRecDepth 100000 in
theorem mark_nil (v : Value) (h : Nil v) (q : Int) (w : World) : Calls Try.prog 19 #[v, .int .i64 q] w fun e w' => e = .returned (.int .i64 q) ∧ w' = w := by
  obtain ⟨a, cap, rfl⟩ := h
  go_enter Try.func19, Try.ntmps19
  go_wp2
  go_loop [1, 5] (fun x i => i = .int .i64 0 ∧ x = .int .i64 q) (fun _ _ => 0)
  case atStart => exact ⟨rfl, rfl⟩
  case round =>
    obtain ⟨rfl, rfl⟩ := hrel
    go_wp2
    go_ret
    exact ⟨rfl, rfl⟩
set_option maxRecDepth 100000 in
theorem held_nil (v : Value) (h : Nil v) (q : Int) (w : World) : Calls Try.prog 20 #[v, .int .i64 q] w fun e w' => e = .returned (.int .i64 q) ∧ w' = w := by
  obtain ⟨a, cap, rfl⟩ := h
  go_enter Try.func20, Try.ntmps20
  go_wp2
  go_loop [1, 5] (fun x i => i = .int .i64 0 ∧ x = .int .i64 q) (fun _ _ => 0)
  case atStart => exact ⟨rfl, rfl⟩
  case round =>
    obtain ⟨rfl, rfl⟩ := hrel
    go_wp2
    go_ret
    exact ⟨rfl, rfl⟩

/-- The i-th bind, marked from q on. -/
def mbd (q i : Nat) : Bd := ⟨markB (q + 4 * i), [], (q + 4 * i + 1 : Nat), (q + 4 * i + 2 : Nat), (q + 4 * i + 3 : Nat)⟩
/-- A row of marked binds lies in block g. -/
def Marked (w : World) (g q n : Nat) (sv : Nat → Value) : Prop := ∀ i, i < n → HeadB w g (i * 5) (mbd q i) (sv i)
theorem Marked.below {w w' : World} {g q n : Nat} {sv : Nat → Value} (h : Marked w g q n sv) (hb : Below w.heap.size w w') : Marked w' g q n sv := fun i hi => (h i hi).below hb

theorem mark_rel {w w1 : World} {base g cap n q k : Nat} {ys : List Value} {sv : Nat → Value} {a b c d : Value} (ho : w1.ownsRow base 42 5 (.slice (some ⟨g, 0, none⟩) n cap) n ys) (hsv : ∀ i, i < n → w1.cell? ⟨g, i * 5 + 1, none⟩ = some (sv i)) (hmk : Marked w1 g q k sv) (hk : k < n) (hgr : w.grownBy w1 (some g))
    (ha : a = .string (mbd q k).name) (hb : b = .int .i64 (mbd q k).kind) (hc : c = .int .i64 (mbd q k).n) (hd : d = .int .i64 (mbd q k).at_) :
    (∃ ys, ((((w1.setCell ⟨g, k * 5, none⟩ a).setCell ⟨g, k * 5 + 2, none⟩ b).setCell ⟨g, k * 5 + 3, none⟩ c).setCell ⟨g, k * 5 + 4, none⟩ d).ownsRow base 42 5 (.slice (some ⟨g, 0, none⟩) n cap) n ys) ∧ Marked ((((w1.setCell ⟨g, k * 5, none⟩ a).setCell ⟨g, k * 5 + 2, none⟩ b).setCell ⟨g, k * 5 + 3, none⟩ c).setCell ⟨g, k * 5 + 4, none⟩ d) g q (k + 1) sv ∧
    (∀ i, i < n → ((((w1.setCell ⟨g, k * 5, none⟩ a).setCell ⟨g, k * 5 + 2, none⟩ b).setCell ⟨g, k * 5 + 3, none⟩ c).setCell ⟨g, k * 5 + 4, none⟩ d).cell? ⟨g, i * 5 + 1, none⟩ = some (sv i)) ∧ w.grownBy ((((w1.setCell ⟨g, k * 5, none⟩ a).setCell ⟨g, k * 5 + 2, none⟩ b).setCell ⟨g, k * 5 + 3, none⟩ c).setCell ⟨g, k * 5 + 4, none⟩ d) (some g) := by
  obtain ⟨q1, g1⟩ := ho.stored (k * 5) a
  obtain ⟨q2, g2⟩ := q1.stored (k * 5 + 2) b
  obtain ⟨q3, g3⟩ := q2.stored (k * 5 + 3) c
  obtain ⟨q4, g4⟩ := q3.stored (k * 5 + 4) d
  generalize ((((w1.setCell ⟨g, k * 5, none⟩ a).setCell ⟨g, k * 5 + 2, none⟩ b).setCell ⟨g, k * 5 + 3, none⟩ c).setCell ⟨g, k * 5 + 4, none⟩ d) = W at *
  have gw : w.grownBy W (some g) := by
    have h := grownX (grownX (grownX g1 g2) g3) g4
    exact grownX hgr h
  have hll := ho.1
  have old : ∀ j, j < n * 5 → j ≠ k * 5 → j ≠ k * 5 + 2 → j ≠ k * 5 + 3 → j ≠ k * 5 + 4 → W.cell? ⟨g, j, none⟩ = w1.cell? ⟨g, j, none⟩ := fun j hj h0 h2 h3 h4 => by
    rw [q4.cellAt j hj, ho.cellAt j hj, List.getElem?_set_ne (by omega), List.getElem?_set_ne (by omega), List.getElem?_set_ne (by omega), List.getElem?_set_ne (by omega)]
  have e0 : W.cell? ⟨g, k * 5, none⟩ = some a := by
    rw [q4.cellAt (k * 5) (by omega), List.getElem?_set_ne (by omega), List.getElem?_set_ne (by omega), List.getElem?_set_ne (by omega), List.getElem?_set_self (by omega)]
  have e2 : W.cell? ⟨g, k * 5 + 2, none⟩ = some b := by
    rw [q4.cellAt (k * 5 + 2) (by omega), List.getElem?_set_ne (by omega), List.getElem?_set_ne (by omega), List.getElem?_set_self (by simp; omega)]
  have e3 : W.cell? ⟨g, k * 5 + 3, none⟩ = some c := by
    rw [q4.cellAt (k * 5 + 3) (by omega), List.getElem?_set_ne (by omega), List.getElem?_set_self (by simp; omega)]
  have e4 : W.cell? ⟨g, k * 5 + 4, none⟩ = some d := by
    rw [q4.cellAt (k * 5 + 4) (by omega), List.getElem?_set_self (by simp; omega)]
  refine ⟨⟨_, q4⟩, fun i hi => ?_, fun i hi => (old (i * 5 + 1) (by omega) (by omega) (by omega) (by omega) (by omega)).trans (hsv i hi), gw⟩
  by_cases hik : i = k
  · subst hik
    exact ⟨e0.trans (by rw [ha]), (old (i * 5 + 1) (by omega) (by omega) (by omega) (by omega) (by omega)).trans (hsv i hk), e2.trans (by rw [hb]), e3.trans (by rw [hc]), e4.trans (by rw [hd])⟩
  · have h := hmk i (by omega)
    exact ⟨(old (i * 5) (by omega) (by omega) (by omega) (by omega) (by omega)).trans h.c0, (old (i * 5 + 1) (by omega) (by omega) (by omega) (by omega) (by omega)).trans h.c1, (old (i * 5 + 2) (by omega) (by omega) (by omega) (by omega) (by omega)).trans h.c2, (old (i * 5 + 3) (by omega) (by omega) (by omega) (by omega) (by omega)).trans h.c3, (old (i * 5 + 4) (by omega) (by omega) (by omega) (by omega) (by omega)).trans h.c4⟩

set_option maxRecDepth 100000 in
set_option maxHeartbeats 4000000 in
theorem mark_binds (g cap base n : Nat) (l : List BR) (q : Nat) (w : World) (hown : OwnB w base (.slice (some ⟨g, 0, none⟩) n cap) l) (hl : l.length = n) (hnil : ∀ x ∈ l, Nil x.2) (hn : n ≤ 1048576) (h0 : 0 < q) (hq : q ≤ 100000000000) :
    Calls Try.prog 8 #[.slice (some ⟨g, 0, none⟩) n cap, .int .i64 (q : Int)] w fun e w' => e = .returned (.int .i64 ((q + 4 * n : Nat) : Int)) ∧ (∃ ys, w'.ownsRow base 42 5 (.slice (some ⟨g, 0, none⟩) n cap) n ys) ∧ (∃ sv : Nat → Value, Marked w' g q n sv ∧ ∀ i, i < n → Nil (sv i)) ∧ w.grownBy w' (some g) := by
  obtain ⟨sv, hsv⟩ : ∃ sv : Nat → Value, ∀ i, i < n → w.cell? ⟨g, i * 5 + 1, none⟩ = some (sv i) ∧ Nil (sv i) := by
    refine ⟨fun i => ((l[i]?).getD (default, .bool false)).2, fun i hi => ?_⟩
    have hi' : i < l.length := by omega
    have hq2 : l[i]? = some l[i] := List.getElem?_eq_getElem hi'
    have hown' : w.ownsRow base 42 5 (.slice (some ⟨g, 0, none⟩) n cap) n (brows l) := by have h := hown; unfold OwnB at h; rw [hl] at h; exact h
    have h1 := hown'.cellAt (i * 5 + 1) (by omega)
    have h2 := brows_at l [] i _ hq2 1 (by omega)
    rw [List.append_nil] at h2
    simp only [hq2, Option.getD_some]
    exact ⟨h1.trans h2, hnil _ (List.getElem_mem hi')⟩
  have HSV : Hid (∀ i, i < n → w.cell? ⟨g, i * 5 + 1, none⟩ = some (sv i) ∧ Nil (sv i)) := hsv
  have HO : Hid (∃ ys, w.ownsRow base 42 5 (.slice (some ⟨g, 0, none⟩) n cap) n ys) := ⟨brows l, by have h := hown; unfold OwnB at h; rw [hl] at h; exact h⟩
  clear hown hl hnil hsv
  go_enter Try.func8, Try.ntmps8
  go_wp2_with fail
  go_loopw [1, 5] (fun x i wr => ∃ k : Nat, i = .int .i64 k ∧ x = .int .i64 ((q + 4 * k : Nat) : Int) ∧ k ≤ n ∧ (∃ ys, wr.ownsRow base 42 5 (.slice (some ⟨g, 0, none⟩) n cap) n ys) ∧ Marked wr g q k sv ∧ (∀ i, i < n → wr.cell? ⟨g, i * 5 + 1, none⟩ = some (sv i)) ∧ w.grownBy wr (some g)) (fun _ i _ => n - (intOf i).toNat)
  case atStart => exact ⟨0, rfl, by simp, Nat.zero_le _, HO.out, fun i hi => absurd hi (Nat.not_lt_zero _), fun i hi => (HSV.out i hi).1, World.grownBy.refl _ _⟩
  case round =>
    obtain ⟨k, rfl, rfl, hk, ⟨ys, hown⟩, hmk, hsc, hgr⟩ := hrel
    have HOW : Hid (wr.ownsRow base 42 5 (.slice (some ⟨g, 0, none⟩) n cap) n ys) := hown
    have HMK : Hid (Marked wr g q k sv) := hmk
    have HSC : Hid (∀ i, i < n → wr.cell? ⟨g, i * 5 + 1, none⟩ = some (sv i)) := hsc
    have HG : Hid (w.grownBy wr (some g)) := hgr
    clear hown hmk hsc hgr HO
    by_cases hlt : (k : Int) < n
    · have hk' : k < n := by omega
      go_wp2_with fail
      refine (mark_text (q + 4 * k) (by omega) (by omega) wr).mono ?_
      rintro e w1 ⟨rfl, hb1⟩
      have O1 := own_belowV HOW.out hb1
      have hll := O1.1
      have fz : ∀ j, w1.frozen? ⟨g, j, none⟩ = false := fun j => O1.frozenAt j
      have cl : ∀ j, j < 5 → ∃ u, w1.cell? ⟨g, k * 5 + j, none⟩ = some u := fun j hj => ⟨_, (O1.cellAt (k * 5 + j) (by omega)).trans (List.getElem?_eq_getElem (by omega))⟩
      obtain ⟨u0, c0⟩ := cl 0 (by omega)
      obtain ⟨u2, c2⟩ := cl 2 (by omega)
      obtain ⟨u3, c3⟩ := cl 3 (by omega)
      obtain ⟨u4, c4⟩ := cl 4 (by omega)
      have c1 : w1.cell? ⟨g, k * 5 + 1, none⟩ = some (sv k) := keepsX hb1 _ _ (HSC.out k hk')
      rw [Nat.add_zero] at c0
      have HNV : Hid (Nil (sv k)) := (HSV.out k hk').2
      have HMW : Hid (Marked w1 g q k sv) := HMK.out.below hb1
      have HSW : Hid (∀ i, i < n → w1.cell? ⟨g, i * 5 + 1, none⟩ = some (sv i)) := fun i hi => keepsX hb1 _ _ (HSC.out i hi)
      have HGW : Hid (w.grownBy w1 (some g)) := ⟨hb1.os.trans HG.out.os, hb1.tape.trans HG.out.tape, hb1.output.trans HG.out.output, Nat.le_trans HG.out.size hb1.size, fun j hj hr => (hb1.block j (Nat.lt_of_lt_of_le hj HG.out.size)).trans (HG.out.block j hj hr)⟩
      have HO1 : Hid (w1.ownsRow base 42 5 (.slice (some ⟨g, 0, none⟩) n cap) n ys) := O1
      clear hb1 O1 cl hll HOW HMK HSC HG
      go_wp2_with fail
      refine (mark_nil _ HNV.out _ _).mono ?_
      rintro e w2 ⟨rfl, hw2⟩
      subst hw2
      go_wp2_with fail
      go_roundw
      case rel =>
        refine ⟨k + 1, by go_num, by go_num, by omega, ?_⟩
        refine mark_rel HO1.out HSW.out HMW.out hk' HGW.out ?_ ?_ ?_ ?_
        all_goals (first | rfl | (simp only [mbd]; go_num))
      case measure => simp [intOf]; omega
    · have hke : k = n := by omega
      subst hke
      go_wp2_with fail
      go_ret
      exact ⟨rfl, ⟨ys, HOW.out⟩, ⟨sv, HMK.out, fun i hi => (HSV.out i hi).2⟩, HG.out⟩

set_option maxRecDepth 100000 in
set_option maxHeartbeats 4000000 in
theorem held_binds (g cap n q : Nat) (sv : Nat → Value) (w : World) (hm : Marked w g q n sv) (hnil : ∀ i, i < n → Nil (sv i)) (hn : n ≤ 1048576) (h0 : 0 < q) (hq : q ≤ 100000000000) :
    Calls Try.prog 9 #[.slice (some ⟨g, 0, none⟩) n cap, .int .i64 (q : Int)] w fun e w' => e = .returned (.int .i64 ((q + 4 * n : Nat) : Int)) ∧ Below w.heap.size w w' := by
  have HM : Hid (Marked w g q n sv) := hm
  have HNIL : Hid (∀ i, i < n → Nil (sv i)) := hnil
  clear hm hnil
  go_enter Try.func9, Try.ntmps9
  go_wp2_with fail
  go_loopw [1, 5] (fun x i wr => ∃ k : Nat, i = .int .i64 k ∧ x = .int .i64 ((q + 4 * k : Nat) : Int) ∧ k ≤ n ∧ Below w.heap.size w wr) (fun _ i _ => n - (intOf i).toNat)
  case atStart => exact ⟨0, rfl, by simp, Nat.zero_le _, Below.refl _ _⟩
  case round =>
    obtain ⟨k, rfl, rfl, hk, hbel⟩ := hrel
    have HB : Hid (Below w.heap.size w wr) := hbel
    clear hbel
    by_cases hlt : (k : Int) < n
    · have hk' : k < n := by omega
      obtain ⟨c0, c1, c2, c3, c4⟩ := (HM.out k hk').below HB.out
      simp only [mbd] at c0 c2 c3 c4
      have HN : Hid (Nil (sv k)) := HNIL.out k hk'
      have HMT : Hid (∀ w1 : World, Calls Try.prog 18 #[.int .i64 ((q + 4 * k : Nat) : Int)] w1 fun e w' => e = .returned (.string (markB (q + 4 * k))) ∧ Below w1.heap.size w1 w') := fun w1 => mark_text (q + 4 * k) (by omega) (by omega) w1
      have HKK : Hid (((q + 4 * (k + 1) : Nat) : Int) = ((q + 4 * k : Nat) : Int) + 1 + 1 + 1 + 1) := by show _ = _; omega
      have e1 : ((q + 4 * k + 1 : Nat) : Int) = ((q + 4 * k : Nat) : Int) + 1 := by omega
      have e2 : ((q + 4 * k + 2 : Nat) : Int) = ((q + 4 * k : Nat) : Int) + 1 + 1 := by omega
      have e3 : ((q + 4 * k + 3 : Nat) : Int) = ((q + 4 * k : Nat) : Int) + 1 + 1 + 1 := by omega
      rw [e1] at c2
      rw [e2] at c3
      rw [e3] at c4
      have hz : ∃ z : Int, z = ((q + 4 * k : Nat) : Int) ∧ 0 < z ∧ z ≤ 1000000000000 := ⟨_, rfl, by omega, by omega⟩
      obtain ⟨z, hz, hz0, hz1⟩ := hz
      rw [← hz] at c2 c3 c4 HMT HKK ⊢
      generalize markB (q + 4 * k) = s at *
      clear e1 e2 e3 hz
      go_wp2_with fail
      go_region_with ((go_at_call 18; refine (HMT.out _).mono ?_; rintro e w1 ⟨rfl, hb1⟩; have d0 : w1.cell? ⟨g, k * 5, none⟩ = some (.string s) := keepsX hb1 _ _ c0; have d1 : w1.cell? ⟨g, k * 5 + 1, none⟩ = some (sv k) := keepsX hb1 _ _ c1; have d2 : w1.cell? ⟨g, k * 5 + 2, none⟩ = some (.int .i64 (z + 1)) := keepsX hb1 _ _ c2; have d3 : w1.cell? ⟨g, k * 5 + 3, none⟩ = some (.int .i64 (z + 1 + 1)) := keepsX hb1 _ _ c3; have d4 : w1.cell? ⟨g, k * 5 + 4, none⟩ = some (.int .i64 (z + 1 + 1 + 1)) := keepsX hb1 _ _ c4))
      all_goals
        have HB1 : Hid (Below w.heap.size w w1) := HB.out.trans ⟨hb1.os, hb1.tape, hb1.output, hb1.size, fun j hj => hb1.block j (Nat.lt_of_lt_of_le hj HB.out.size)⟩
        clear hb1
        go_wp2_with fail
        refine (held_nil _ HN.out _ _).mono ?_
        rintro e w2 ⟨rfl, hw2⟩
        subst hw2
        go_wp2_with fail
        go_roundw
        case rel => exact ⟨k + 1, by go_num, by rw [HKK.out], by omega, HB1.out⟩
        case measure => simp [intOf]; omega
    · have hke : k = n := by omega
      subst hke
      go_wp2_with fail
      go_ret
      exact ⟨rfl, HB.out⟩
end Go.Proofs.Ytaflnjhknnnaoaa
