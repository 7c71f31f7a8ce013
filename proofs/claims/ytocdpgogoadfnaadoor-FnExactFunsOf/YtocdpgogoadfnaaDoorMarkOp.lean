/- laws.markOpS and laws.heldOpS: a row of ops of one's own is marked by numbers one behind the other, and holds them. Condition: at most 2^40. -/
import Derived.Test.YtocdpgogoadfnaaDoorRows
import Derived.Test.YtocdpgogoadfnaaDoorOpRows
import Derived.WalkKit
import Derived.ProofKit
namespace Go.Proofs.YtocdpgogoadfnaaDoor
open Go.ChangeShapes Go.WideShapes Go.ChangeAt Go.RowKit

/-- The marks of the op number i, from c on. -/
def mkO (c i : Nat) : O3 := ⟨(c + i * 3 : Nat), (c + i * 3 + 1 : Nat), (c + i * 3 + 2 : Nat)⟩
/-- The first k are marked. -/
def markO (c : Nat) (l : List O3) (k : Nat) : List O3 := (List.range k).map (mkO c) ++ l.drop k
theorem markO_zero (c : Nat) (l : List O3) : markO c l 0 = l := by simp [markO]
theorem markO_len (c : Nat) (l : List O3) (k : Nat) (hk : k ≤ l.length) : (markO c l k).length = l.length := by simp [markO]; omega
theorem markO_step (c : Nat) (l : List O3) (k : Nat) (hk : k < l.length) : (markO c l k).set k (mkO c k) = markO c l (k + 1) := by
  unfold markO
  have hl : ((List.range k).map (mkO c)).length = k := by simp
  rw [List.set_append_right _ _ (by omega), hl, Nat.sub_self, List.range_succ, List.map_append, List.append_assoc]
  congr 1
  show (l.drop k).set 0 (mkO c k) = mkO c k :: l.drop (k + 1)
  rw [List.drop_eq_getElem_cons hk, List.set_cons_zero]
theorem markO_at (c : Nat) (l : List O3) (k : Nat) (hk : k < l.length) : ∃ q, (markO c l k)[k]? = some q := ⟨_, List.getElem?_eq_getElem (by rw [markO_len c l k (by omega)]; exact hk)⟩

theorem orows_set3 {l : List O3} {a : Nat} {q : O3} (ha : a < l.length) : (((orows l).set (a * 3) (.int .i64 q.c)).set (a * 3 + 1) (.int .i64 q.n)).set (a * 3 + 2) (.int .i64 q.m) = orows (l.set a q) := by
  induction l generalizing a with
  | nil => exact absurd ha (Nat.not_lt_zero _)
  | cons x r ih =>
    have e : orows (x :: r) = ocells x ++ orows r := by simp [orows]
    cases a with
    | zero => rw [e]; simp [orows, ocells]
    | succ a =>
      have h1 := ih (a := a) (by simp at ha; omega)
      have hx : (ocells x).length = 3 := rfl
      have s : ∀ (y : List Value) (j : Nat) (u : Value), (ocells x ++ y).set ((a + 1) * 3 + j) u = ocells x ++ y.set (a * 3 + j) u := fun y j u => by
        rw [List.set_append_right _ _ (by omega), hx]; congr 2; omega
      have s0 : ∀ (y : List Value) (u : Value), (ocells x ++ y).set ((a + 1) * 3) u = ocells x ++ y.set (a * 3) u := fun y u => s y 0 u
      rw [e, s0, s, s, h1]
      simp [orows]

set_option maxRecDepth 100000 in
set_option maxHeartbeats 4000000 in
theorem mark_ops (B : Nat) (l : List O3) (w : World) (v : Value) (c : Nat) (h : w.ownsRow B 47 3 v l.length (orows l)) (hc : c + l.length * 3 ≤ 1099511627776) :
    Calls Tryd.prog 26 #[v, .int .i64 c] w fun e w' => e = .returned (.int .i64 (c + l.length * 3 : Nat)) ∧ w'.ownsRow B 47 3 v l.length (orows (markO c l l.length)) ∧ w.grownBy w' v.ownBlock := by
  rcases h.2 with ⟨e, h0⟩ | ⟨g, cap, cur, e, hrest⟩
  · have hl : l = [] := List.eq_nil_of_length_eq_zero h0
    subst hl e
    have HH : Hid (w.ownsRow B 47 3 (.slice none 0 0) 0 (orows [])) := h
    clear h h0
    go_enter Tryd.func26, Tryd.ntmps26
    go_wp2_with fail
    go_loopw [1, 5] (fun x i wr => x = .int .i64 c ∧ i = .int .i64 0 ∧ wr = w) (fun _ _ _ => 0)
    case atStart => exact ⟨rfl, rfl, rfl⟩
    case round =>
      obtain ⟨rfl, rfl, rfl⟩ := hrel
      go_wp2_with fail
      go_ret
      exact ⟨by simp, by simpa [markO] using HH.out, World.grownBy.refl _ _⟩
  · subst e
    have HH : Hid (w.ownsRow B 47 3 (.slice (some ⟨g, 0, none⟩) l.length cap) l.length (orows l)) := h
    have hlm : l.length ≤ 366503875925 := by omega
    clear h hrest
    go_enter Tryd.func26, Tryd.ntmps26
    go_wp2_with fail
    go_loopw [1, 5] (fun x i wr => ∃ k : Nat, x = .int .i64 (c + k * 3 : Nat) ∧ i = .int .i64 k ∧ k ≤ l.length ∧ wr.ownsRow B 47 3 (.slice (some ⟨g, 0, none⟩) l.length cap) l.length (orows (markO c l k)) ∧ w.grownBy wr (some g)) (fun _ i _ => l.length - (intOf i).toNat)
    case atStart => exact ⟨0, by simp, rfl, Nat.zero_le _, by rw [markO_zero]; exact HH.out, World.grownBy.refl _ _⟩
    case round =>
      obtain ⟨k, rfl, rfl, hk, hown, hg⟩ := hrel
      have HOW : Hid (wr.ownsRow B 47 3 (.slice (some ⟨g, 0, none⟩) l.length cap) l.length (orows (markO c l k))) := hown
      have HG : Hid (w.grownBy wr (some g)) := hg
      clear hown hg HH
      by_cases hlt : (k : Int) < l.length
      · have hlt' : k < l.length := by omega
        have hml := markO_len c l k hk
        have hf : ∀ j, wr.frozen? ⟨g, j, none⟩ = false := fun j => HOW.out.frozenAt j
        have hcl : ∀ j, j < 3 → ∃ u, wr.cell? ⟨g, k * 3 + j, none⟩ = some u := fun j hj => by
          have hl2 : k * 3 + j < (orows (markO c l k)).length := by rw [orows_length, hml]; omega
          exact ⟨_, (HOW.out.cellAt (k * 3 + j) (by omega)).trans (List.getElem?_eq_getElem hl2)⟩
        obtain ⟨u0, hu0⟩ := hcl 0 (by omega)
        obtain ⟨u1, hu1⟩ := hcl 1 (by omega)
        obtain ⟨u2, hu2⟩ := hcl 2 (by omega)
        rw [Nat.add_zero] at hu0
        obtain ⟨X, hX⟩ : ∃ X, X = c + k * 3 := ⟨_, rfl⟩
        have hX40 : X + 3 ≤ 1099511627776 := by omega
        have HX : Hid (X = c + k * 3) := hX
        obtain ⟨q1, g1⟩ := HOW.out.stored (k * 3) (.int .i64 (X : Int))
        obtain ⟨q2, g2⟩ := q1.stored (k * 3 + 1) (.int .i64 ((X : Int) + 1))
        obtain ⟨q3, g3⟩ := q2.stored (k * 3 + 2) (.int .i64 ((X : Int) + 1 + 1))
        have e3 := orows_set3 (l := markO c l k) (a := k) (q := mkO c k) (by rw [hml]; exact hlt')
        rw [markO_step c l k hlt'] at e3
        have em : mkO c k = ⟨(X : Int), (X : Int) + 1, (X : Int) + 1 + 1⟩ := by
          rw [hX]
          unfold mkO
          congr 1
        rw [em] at e3
        have HN : Hid ((((wr.setCell ⟨g, k * 3, none⟩ (.int .i64 (X : Int))).setCell ⟨g, k * 3 + 1, none⟩ (.int .i64 ((X : Int) + 1))).setCell ⟨g, k * 3 + 2, none⟩ (.int .i64 ((X : Int) + 1 + 1))).ownsRow B 47 3 (.slice (some ⟨g, 0, none⟩) l.length cap) l.length (orows (markO c l (k + 1))) ∧
            w.grownBy (((wr.setCell ⟨g, k * 3, none⟩ (.int .i64 (X : Int))).setCell ⟨g, k * 3 + 1, none⟩ (.int .i64 ((X : Int) + 1))).setCell ⟨g, k * 3 + 2, none⟩ (.int .i64 ((X : Int) + 1 + 1))) (some g)) := ⟨by rw [← e3]; exact q3, grownb HG.out (grownb (grownb g1 g2) g3)⟩
        rw [← hX]
        clear q1 q2 q3 g1 g2 g3 e3 hcl hml em hX
        go_wp2_with fail
        go_roundw
        case rel => exact ⟨k + 1, by have := HX.out; congr 1; omega, by go_num, by omega, HN.out.1, HN.out.2⟩
        case measure => simp [intOf]; omega
      · have hke : k = l.length := by omega
        subst hke
        go_wp2_with fail
        go_ret
        exact ⟨rfl, HOW.out, HG.out⟩
end Go.Proofs.YtocdpgogoadfnaaDoor
