/- laws.eqBind and laws.eqBindS: of binds laid twice the answer is true. Condition: no set of more than 2^22. -/
import Derived.Test.YtaflnjhknnnaoaaBindP
import Derived.Test.YtaflnjhknnnaoaaStxRows
import Derived.Test.YtaflnjhknnnaoaaIntsSame
import Derived.Test.YtaflnjhknnnaoaaSetsQ
import Derived.Deep.RegionWith
namespace Go.Proofs.Ytaflnjhknnnaoaa
open Go.ChangeShapes Go.WideShapes Go.ChangeAt Go.RowKit

set_option maxRecDepth 100000 in
set_option maxHeartbeats 2000000 in
theorem eq_bind (t : Bd) (w : World) (su sv : Value) (hu : SetB 0 w su t.set) (hv : SetB 0 w sv t.set) (hsm : t.set.length ≤ 4194304) :
    Calls Try.prog 17 #[.agg #[.string t.name, su, .int .i64 t.kind, .int .i64 t.n, .int .i64 t.at_], .agg #[.string t.name, sv, .int .i64 t.kind, .int .i64 t.n, .int .i64 t.at_]] w fun e w' => e = .returned (.bool true) ∧ Below w.heap.size w w' := by
  obtain ⟨s, set, kd, n, a⟩ := t
  simp only at hu hv hsm ⊢
  obtain ⟨ps, cs, e3⟩ := hu.shape
  obtain ⟨qs, cs2, e4⟩ := hv.shape
  have R1 : Hid (Rd w su set) := hu.rd
  have R2 : Hid (Rd w sv set) := hv.rd
  clear hu hv
  subst e3 e4
  go_enter Try.func17, Try.ntmps17
  go_wp2_with fail
  have hb0 : ∀ o1 o2, Below w.heap.size w ((w.alloc o1).alloc o2) := fun o1 o2 => (newx w _).trans ((newx _ _).mono (by simp))
  refine (eq_ints set set _ _ _ (R1.out.below (hb0 _ _)) (R2.out.below (hb0 _ _)) hsm hsm).mono ?_
  rintro e w1 ⟨rfl, hb1⟩
  rw [same_self]
  have HB1 : Hid (Below w.heap.size w w1) := (hb0 _ _).trans (hb1.mono (by simp; omega))
  have a2 : w1.cell? ⟨w.heap.size, 2, none⟩ = some (.int .i64 kd) := keepsX hb1 _ _ (by simp [go_sem])
  have b2 : w1.cell? ⟨w.heap.size + 1, 2, none⟩ = some (.int .i64 kd) := keepsX hb1 _ _ (by simp [go_sem])
  have a3 : w1.cell? ⟨w.heap.size, 3, none⟩ = some (.int .i64 n) := keepsX hb1 _ _ (by simp [go_sem])
  have b3 : w1.cell? ⟨w.heap.size + 1, 3, none⟩ = some (.int .i64 n) := keepsX hb1 _ _ (by simp [go_sem])
  have a4 : w1.cell? ⟨w.heap.size, 4, none⟩ = some (.int .i64 a) := keepsX hb1 _ _ (by simp [go_sem])
  have b4 : w1.cell? ⟨w.heap.size + 1, 4, none⟩ = some (.int .i64 a) := keepsX hb1 _ _ (by simp [go_sem])
  clear hb1 hb0 R1 R2
  go_wp2_with fail
  go_ret
  exact ⟨rfl, HB1.out⟩

set_option maxRecDepth 100000 in
set_option maxHeartbeats 2000000 in
theorem eq_binds (len : Nat) (bd : Nat → Bd) (w : World) (u v : Value) (hu : BsAt 0 w len bd u) (hv : BsAt 0 w len bd v) (hsm : ∀ i, i < len → (bd i).set.length ≤ 4194304) :
    Calls Try.prog 7 #[u, v] w fun e w' => e = .returned (.bool true) ∧ Below w.heap.size w w' := by
  obtain ⟨p, cap, rfl, hlen, hat⟩ := hu.at
  obtain ⟨q, cap2, rfl, -, hat2⟩ := hv.at
  have HC : Hid (∀ i, i < len → ∃ b o sv, p = some ⟨b, o, none⟩ ∧ HeadB w b (o + i * 5) (bd i) sv ∧ SetB 0 w sv (bd i).set ∧ (bd i).Fits) := hat
  have HD : Hid (∀ i, i < len → ∃ b o sv, q = some ⟨b, o, none⟩ ∧ HeadB w b (o + i * 5) (bd i) sv ∧ SetB 0 w sv (bd i).set ∧ (bd i).Fits) := hat2
  have HSM : Hid (∀ i, i < len → (bd i).set.length ≤ 4194304) := hsm
  clear hat hat2 hu hv hsm
  unfold maxLen at hlen
  go_enter Try.func7, Try.ntmps7
  go_wp2_with fail
  go_loopw [5] (fun i wr => ∃ k : Nat, i = .int .i64 k ∧ k ≤ len ∧ Below w.heap.size w wr) (fun i _ => len - (intOf i).toNat)
  case atStart => exact ⟨0, rfl, Nat.zero_le _, Below.refl _ _⟩
  case round =>
    obtain ⟨k, rfl, hk, hbel⟩ := hrel
    have HBL : Hid (Below w.heap.size w wr) := hbel
    clear hbel
    by_cases hlt : (k : Int) < len
    · have hlt' : k < len := by omega
      obtain ⟨b, o, sx, hp, hd, hin, -⟩ := HC.out k hlt'
      obtain ⟨b2, o2, sy, hq, hd2, hin2, -⟩ := HD.out k hlt'
      subst hp hq
      obtain ⟨c0, c1, c2, c3, c4⟩ := hd.below HBL.out
      obtain ⟨d0, d1, d2, d3, d4⟩ := hd2.below HBL.out
      have HCL : Hid (∀ w1 : World, Below wr.heap.size wr w1 → Calls Try.prog 17 #[.agg #[.string (bd k).name, sx, .int .i64 (bd k).kind, .int .i64 (bd k).n, .int .i64 (bd k).at_], .agg #[.string (bd k).name, sy, .int .i64 (bd k).kind, .int .i64 (bd k).n, .int .i64 (bd k).at_]] w1 fun e w' => e = .returned (.bool true) ∧ Below w1.heap.size w1 w') :=
        fun w1 h1 => eq_bind (bd k) w1 sx sy (hin.kept (Nat.le_refl _) (fun a u _ hc => keepsX h1 a u (keepsX HBL.out a u hc))) (hin2.kept (Nat.le_refl _) (fun a u _ hc => keepsX h1 a u (keepsX HBL.out a u hc))) (HSM.out k hlt')
      clear hd hin hd2 hin2
      go_wp2_with fail
      go_region_with ((go_at_call 17; refine (HCL.out _ ?_).mono ?_; exact (Below.refl _ _).drew; rintro e w1 ⟨rfl, hb1⟩))
      all_goals
        have HB1 : Hid (Below w.heap.size w w1) := HBL.out.trans ⟨hb1.os, hb1.tape, hb1.output, hb1.size, fun j hj => hb1.block j (Nat.lt_of_lt_of_le hj HBL.out.size)⟩
        clear hb1
        go_wp2_with fail
        go_roundw
        case rel => first | exact ⟨k + 1, by go_num, by omega, HB1.out⟩ | ((repeat apply Exists.intro); exact ⟨⟨k + 1, by go_num, by omega, HB1.out⟩, rfl⟩)
        case measure => simp [intOf]; omega
    · go_wp2_with fail
      go_ret
      exact ⟨rfl, HBL.out⟩
end Go.Proofs.Ytaflnjhknnnaoaa
