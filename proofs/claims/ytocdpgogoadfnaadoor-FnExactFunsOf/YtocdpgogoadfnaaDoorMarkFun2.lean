/- laws.markFunS: the walk. Condition: at most 2^40 marks. -/
import Derived.Test.YtocdpgogoadfnaaDoorMarkFun
import Derived.Deep.Cut
namespace Go.Proofs.YtocdpgogoadfnaaDoor
open Go.ChangeShapes Go.WideShapes Go.ChangeAt Go.RowKit

instance : Inhabited Fe := ⟨⟨0, [], .slice none 0 0⟩⟩
/-- The mark of the function number k. -/
def cAt (c : Nat) (le : List Fe) : Nat → Nat
  | 0 => c
  | k + 1 => cAt c le k + 1 + (le.getD k default).ol.length * 3
/-- The first k are marked. -/
def markF (c : Nat) (le : List Fe) : Nat → List Fe
  | 0 => le
  | k + 1 => (markF c le k).set k ⟨(cAt c le k : Nat), markO (cAt c le k + 1) (le.getD k default).ol (le.getD k default).ol.length, (le.getD k default).u⟩
theorem markF_len (c : Nat) (le : List Fe) (k : Nat) : (markF c le k).length = le.length := by
  induction k with
  | zero => rfl
  | succ k ih => simp only [markF, List.length_set]; exact ih
theorem markF_at (c : Nat) (le : List Fe) : ∀ (k j : Nat), k ≤ j → (markF c le k)[j]? = le[j]?
  | 0, _, _ => rfl
  | k + 1, j, h => by simp only [markF]; rw [List.getElem?_set_ne (by omega)]; exact markF_at c le k j (by omega)
theorem cAt_mono (c : Nat) (le : List Fe) : ∀ (n k : Nat), k ≤ n → cAt c le k ≤ cAt c le n
  | 0, k, h => by
    obtain rfl : k = 0 := by omega
    exact Nat.le_refl _
  | n + 1, k, h => by
    rcases Nat.lt_or_ge k (n + 1) with h1 | h1
    · have := cAt_mono c le n k (by omega); simp only [cAt]; omega
    · obtain rfl : k = n + 1 := by omega
      exact Nat.le_refl _
theorem FKeep.refl (vo : Value) (le : List Fe) (w : World) : FKeep vo le w w := ⟨rfl, rfl, rfl, Nat.le_refl _, fun _ _ _ _ => rfl⟩
theorem FKeep.grown {vo : Value} {le : List Fe} {w w1 w2 : World} {row : Option Nat} (h : FKeep vo le w w1) (hg : w1.grownBy w2 row) (hr : ∀ g, row = some g → vo.ownBlock = some g ∨ ∃ (i : Nat) (e : Fe), le[i]? = some e ∧ e.u.ownBlock = some g) : FKeep vo le w w2 := by
  obtain ⟨h1, h2, h3, h4, h5⟩ := h
  refine ⟨hg.os.trans h1, hg.tape.trans h2, hg.output.trans h3, Nat.le_trans h4 hg.size, fun k hk hv he => ?_⟩
  rw [hg.block k (Nat.lt_of_lt_of_le hk h4) (fun e => ?_), h5 k hk hv he]
  rcases hr k e.symm with h6 | ⟨i, e', h6, h7⟩
  · exact hv h6
  · exact he i e' h6 h7

set_option maxRecDepth 100000 in
set_option maxHeartbeats 8000000 in
theorem mark_funs (B : Nat) (le : List Fe) (w : World) (vo : Value) (c : Nat) (h : FOwn B w vo le) (hc : cAt c le le.length ≤ 1099511627776) :
    Calls Tryd.prog 11 #[vo, .int .i64 c] w fun e w' => e = .returned (.int .i64 (cAt c le le.length : Nat)) ∧ FOwn B w' vo (markF c le le.length) ∧ FKeep vo le w w' := by
  obtain ⟨p, cap, hm, ev, hlm⟩ : ∃ p cap, (0 < le.length → ∃ g, p = some ⟨g, 0, none⟩) ∧ vo = .slice p le.length cap ∧ le.length ≤ maxLen := by
    rcases h.row.2 with ⟨e, h0⟩ | ⟨g, cap, cur, e, _, _, h1, h2, _⟩
    · exact ⟨none, 0, fun h => by omega, by rw [e, h0], by omega⟩
    · exact ⟨_, cap, fun _ => ⟨g, rfl⟩, e, Nat.le_trans h1 h2⟩
  subst ev
  have HH : Hid (FOwn B w (.slice p le.length cap) le) := h
  have HC : Hid (∀ k, k ≤ le.length → cAt c le k ≤ 1099511627776) := fun k hk => Nat.le_trans (cAt_mono c le _ k hk) hc
  have HP : Hid (0 < le.length → ∃ g, p = some ⟨g, 0, none⟩) := hm
  unfold maxLen at hlm
  clear h hm hc
  go_enter Tryd.func11, Tryd.ntmps11
  go_wp2_with fail
  go_loopw [1, 5] (fun x i wr => ∃ k : Nat, x = .int .i64 (cAt c le k : Nat) ∧ i = .int .i64 k ∧ k ≤ le.length ∧ FOwn B wr (.slice p le.length cap) (markF c le k) ∧ FKeep (.slice p le.length cap) le w wr) (fun _ i _ => le.length - (intOf i).toNat)
  case atStart => exact ⟨0, rfl, rfl, Nat.zero_le _, HH.out, FKeep.refl _ _ _⟩
  case round =>
    obtain ⟨k, rfl, rfl, hk, hown, hkp⟩ := hrel
    have HOW : Hid (FOwn B wr (.slice p le.length cap) (markF c le k)) := hown
    have HKP : Hid (FKeep (.slice p le.length cap) le w wr) := hkp
    clear hown hkp HH
    by_cases hlt : (k : Int) < le.length
    · have hlt' : k < le.length := by omega
      obtain ⟨g, hg⟩ := HP.out (by omega)
      subst hg
      have hX0 := HC.out k hk
      have hX1 := HC.out (k + 1) (by omega)
      have HCE : Hid (cAt c le (k + 1) = cAt c le k + 1 + (le.getD k default).ol.length * 3) := rfl
      have HMF : Hid (markF c le (k + 1) = (markF c le k).set k ⟨(cAt c le k : Nat), markO (cAt c le k + 1) (le.getD k default).ol (le.getD k default).ol.length, (le.getD k default).u⟩) := rfl
      rw [HCE.out] at hX1
      have hqe : le[k]? = some (le.getD k default) := by rw [List.getD_eq_getElem?_getD, List.getElem?_eq_getElem hlt']; rfl
      have hq : (markF c le k)[k]? = some (le.getD k default) := (markF_at c le k k (Nat.le_refl _)).trans hqe
      generalize le.getD k default = q at *
      generalize cAt c le k = X at *
      have hml := markF_len c le k
      obtain ⟨pq, cq, eq⟩ : ∃ pq cq, q.u = .slice pq q.ol.length cq := by
        rcases (HOW.out.el k q hq).2 with ⟨e, h0⟩ | ⟨g', cap', cur, e, _⟩
        · exact ⟨none, 0, by rw [e, h0]⟩
        · exact ⟨_, cap', e⟩
      have hr0 := HOW.out.row
      rw [hml] at hr0
      have cu : wr.cell? ⟨g, k * 2 + 1, none⟩ = some (.slice pq q.ol.length cq) := by
        have := hr0.cellAt (k * 2 + 1) (by omega)
        rw [this, ferows_at _ k q hq 1 (by omega), ← eq]; rfl
      have cf : wr.cell? ⟨g, k * 2, none⟩ = some (.int .i64 q.fr) := by
        have := hr0.cellAt (k * 2) (by omega)
        rw [this]
        have := ferows_at _ k q hq 0 (by omega)
        rw [Nat.add_zero] at this
        rw [this]; rfl
      have hf : ∀ j, wr.frozen? ⟨g, j, none⟩ = false := fun j => hr0.frozenAt j
      obtain ⟨q1, g1⟩ := hr0.stored (k * 2) (.int .i64 (X : Int))
      rw [ferows_set hq] at q1
      have hF1 := HOW.out.free (z := (X : Int)) hq (by rw [hml]; exact q1) g1
      have hq1 : ((markF c le k).set k ⟨(X : Int), q.ol, q.u⟩)[k]? = some ⟨(X : Int), q.ol, q.u⟩ := List.getElem?_set_self (by rw [hml]; exact hlt')
      have hK1 := HKP.out.grown g1 (fun g' e => .inl e)
      have HMO : Hid (Calls Tryd.prog 26 #[.slice pq q.ol.length cq, .int .i64 ((X : Int) + 1)] (wr.setCell ⟨g, k * 2, none⟩ (.int .i64 (X : Int))) fun e w' => e = .returned (.int .i64 (X + 1 + q.ol.length * 3 : Nat)) ∧ FOwn B w' (.slice (some ⟨g, 0, none⟩) le.length cap) (markF c le (k + 1)) ∧ FKeep (.slice (some ⟨g, 0, none⟩) le.length cap) le w w') := by
        have h1 := hF1.el k _ hq1
        have := mark_ops B q.ol (wr.setCell ⟨g, k * 2, none⟩ (.int .i64 (X : Int))) q.u (X + 1) h1 (by omega)
        rw [eq] at this
        refine this.mono fun e w' ⟨he, hr, hg⟩ => ⟨he, ?_, hK1.grown hg (fun g' e2 => .inr ⟨k, q, hqe, by rw [eq]; exact e2⟩)⟩
        have h2 := hF1.ops (ol := markO (X + 1) q.ol q.ol.length) hq1 (markO_len _ _ _ (Nat.le_refl _)) (by rw [eq]; exact hr) (by rw [eq]; exact hg)
        rw [List.set_set] at h2
        rw [HMF.out]
        exact h2
      clear q1 g1 hF1 hq1 hK1 hr0 hq hqe
      go_wp2_with fail
      refine HMO.out.mono ?_
      rintro e w2 ⟨rfl, hF, hK⟩
      have HF : Hid (FOwn B w2 (.slice (some ⟨g, 0, none⟩) le.length cap) (markF c le (k + 1))) := hF
      have HK : Hid (FKeep (.slice (some ⟨g, 0, none⟩) le.length cap) le w w2) := hK
      clear hF hK
      go_wp2_with fail
      go_roundw
      case rel => exact ⟨k + 1, by rw [HCE.out]; go_num, by go_num, by omega, HF.out, HK.out⟩
      case measure => simp [intOf]; omega
    · have hke : k = le.length := by omega
      rw [hke] at HOW ⊢
      clear hke
      go_wp2_with fail
      go_ret
      exact ⟨rfl, HOW.out, HKP.out⟩
end Go.Proofs.YtocdpgogoadfnaaDoor
