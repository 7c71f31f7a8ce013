/- laws.heldFunS: functions that are marked hold their marks. Condition: at most 2^40 marks. -/
import Derived.Test.YtocdpgogoadfnaaDoorMarkFun2
import Derived.Test.YtocdpgogoadfnaaDoorHeldOp
namespace Go.Proofs.YtocdpgogoadfnaaDoor
open Go.ChangeShapes Go.WideShapes Go.ChangeAt Go.RowKit

theorem markF_get (c : Nat) (le : List Fe) : ∀ (n k : Nat), k < n → n ≤ le.length → (markF c le n)[k]? = some ⟨(cAt c le k : Nat), markO (cAt c le k + 1) (le.getD k default).ol (le.getD k default).ol.length, (le.getD k default).u⟩
  | 0, _, h, _ => absurd h (Nat.not_lt_zero _)
  | n + 1, k, h, hn => by
    simp only [markF]
    rcases Nat.lt_or_ge k n with h1 | h1
    · rw [List.getElem?_set_ne (by omega)]
      exact markF_get c le n k h1 (by omega)
    · obtain rfl : k = n := by omega
      rw [List.getElem?_set_self (by rw [markF_len]; omega)]
theorem markO_all (c : Nat) (l : List O3) : OKs (mkO c) (markO c l l.length) := fun i q hq => by
  unfold markO at hq
  rw [List.drop_length, List.append_nil, List.getElem?_map] at hq
  obtain ⟨j, hj, rfl⟩ := Option.map_eq_some_iff.1 hq
  have hlt := (List.getElem?_eq_some_iff.1 hj).1
  rw [List.getElem?_range (by simpa using hlt)] at hj
  injection hj with hj
  rw [hj]
theorem mkO_ok {c i n : Nat} (hi : i < n) (hc : c + n * 3 ≤ 1099511627776) : (mkO c i).Ok := by
  refine ⟨?_, ?_, ?_⟩
  · show I64 ((c + i * 3 : Nat) : Int); unfold I64; omega
  · show I64 ((c + i * 3 + 1 : Nat) : Int); unfold I64; omega
  · show I64 ((c + i * 3 + 2 : Nat) : Int); unfold I64; omega

/-- What a marked list is read as. -/
def HeldAt (w : World) (p : Option Addr) (c : Nat) (le : List Fe) : Prop := ∀ k, k < le.length → ∃ g u, p = some ⟨g, 0, none⟩ ∧ w.cell? ⟨g, k * 2, none⟩ = some (.int .i64 (cAt c le k : Nat)) ∧ w.cell? ⟨g, k * 2 + 1, none⟩ = some u ∧ Ol w (le.getD k default).ol.length (mkO (cAt c le k + 1)) u
theorem HeldAt.below {w w' : World} {p : Option Addr} {c : Nat} {le : List Fe} (h : HeldAt w p c le) (hb : Below w.heap.size w w') : HeldAt w' p c le := fun k hk => by
  obtain ⟨g, u, h1, h2, h3, h4⟩ := h k hk
  exact ⟨g, u, h1, keeps hb _ _ h2, keeps hb _ _ h3, h4.below hb⟩
theorem FOwn.held {B : Nat} {w : World} {vo : Value} {c : Nat} {le : List Fe} (h : FOwn B w vo (markF c le le.length)) (hc : cAt c le le.length ≤ 1099511627776) : ∃ p cap, vo = .slice p le.length cap ∧ le.length ≤ maxLen ∧ HeldAt w p c le := by
  have hr := h.row
  rw [markF_len] at hr
  rcases hr.2 with ⟨e, h0⟩ | ⟨g, cap, cur, e, _, _, h1, h2, _⟩
  · exact ⟨none, 0, by rw [e, h0], by omega, fun k hk => by omega⟩
  · subst e
    refine ⟨_, cap, rfl, Nat.le_trans h1 h2, fun k hk => ?_⟩
    have hq := markF_get c le le.length k hk (Nat.le_refl _)
    have a0 := hr.cellAt (k * 2) (by omega)
    have a1 := hr.cellAt (k * 2 + 1) (by omega)
    have b0 := ferows_at _ k _ hq 0 (by omega)
    have b1 := ferows_at _ k _ hq 1 (by omega)
    rw [Nat.add_zero] at b0
    have hm := cAt_mono c le le.length (k + 1) (by omega)
    have hce : cAt c le (k + 1) = cAt c le k + 1 + (le.getD k default).ol.length * 3 := rfl
    refine ⟨g, (le.getD k default).u, rfl, by rw [a0, b0]; rfl, by rw [a1, b1]; rfl, ?_⟩
    have ho := h.el k _ hq
    have hlen : (markO (cAt c le k + 1) (le.getD k default).ol (le.getD k default).ol.length).length = (le.getD k default).ol.length := markO_len _ _ _ (Nat.le_refl _)
    simp only at ho
    exact OlB.of_own (B := 0) (by rw [hlen] at ho; exact ho) hlen (Nat.zero_le _) (markO_all _ _) (fun i hi => mkO_ok hi (by omega))

set_option maxRecDepth 100000 in
set_option maxHeartbeats 8000000 in
theorem held_funs (le : List Fe) (w : World) (p : Option Addr) (cap c : Nat) (h : HeldAt w p c le) (hlm : le.length ≤ maxLen) (hc : cAt c le le.length ≤ 1099511627776) :
    Calls Tryd.prog 17 #[.slice p le.length cap, .int .i64 c] w fun e w' => e = .returned (.int .i64 (cAt c le le.length : Nat)) ∧ Below w.heap.size w w' := by
  have HH : Hid (HeldAt w p c le) := h
  have HC : Hid (∀ k, k ≤ le.length → cAt c le k ≤ 1099511627776) := fun k hk => Nat.le_trans (cAt_mono c le _ k hk) hc
  unfold maxLen at hlm
  clear h hc
  go_enter Tryd.func17, Tryd.ntmps17
  go_wp2_with fail
  go_loopw [1, 5] (fun x i wr => ∃ k : Nat, x = .int .i64 (cAt c le k : Nat) ∧ i = .int .i64 k ∧ k ≤ le.length ∧ Below w.heap.size w wr) (fun _ i _ => le.length - (intOf i).toNat)
  case atStart => exact ⟨0, rfl, rfl, Nat.zero_le _, Below.refl _ _⟩
  case round =>
    obtain ⟨k, rfl, rfl, hk, hbel⟩ := hrel
    have HBL : Hid (Below w.heap.size w wr) := hbel
    clear hbel
    by_cases hlt : (k : Int) < le.length
    · have hlt' : k < le.length := by omega
      obtain ⟨g, u, hp, c0, c1, hol⟩ := (HH.out.below HBL.out) k hlt'
      subst hp
      obtain ⟨pu, cu, eu⟩ := hol.shape
      subst eu
      have hX0 := HC.out k hk
      have hX1 := HC.out (k + 1) (by omega)
      have HCE : Hid (cAt c le (k + 1) = cAt c le k + 1 + (le.getD k default).ol.length * 3) := rfl
      rw [HCE.out] at hX1
      generalize (le.getD k default).ol.length = L at *
      generalize cAt c le k = X at *
      have HCL : Hid (Calls Tryd.prog 30 #[.slice pu L cu, .int .i64 ((X : Int) + 1)] wr fun e w' => e = .returned (.int .i64 (X + 1 + L * 3 : Nat)) ∧ Below wr.heap.size wr w') := held_ops L wr _ (X + 1) hol (by omega)
      clear hol
      go_wp2_with fail
      refine HCL.out.mono ?_
      rintro e w2 ⟨rfl, hb2⟩
      have HB2 : Hid (Below w.heap.size w w2) := HBL.out.trans (hb2.mono HBL.out.size)
      clear hb2
      go_wp2_with fail
      go_roundw
      case rel => exact ⟨k + 1, by rw [HCE.out]; go_num, by go_num, by omega, HB2.out⟩
      case measure => simp [intOf]; omega
    · have hke : k = le.length := by omega
      rw [hke]
      clear hke
      go_wp2_with fail
      go_ret
      exact ⟨rfl, HBL.out⟩
end Go.Proofs.YtocdpgogoadfnaaDoor
