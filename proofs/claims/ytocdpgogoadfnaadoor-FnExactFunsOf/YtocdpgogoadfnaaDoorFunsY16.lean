/- The bytes of functions, plainly. No conditions. -/
import Derived.Test.YtocdpgogoadfnaaDoorNumP
import Derived.Test.YtocdpgogoadfnaaDoorFunOkP
namespace Go.Proofs.YtocdpgogoadfnaaDoor
open Go.ChangeShapes Go.WideShapes Go.ChangeAt Go.RowKit

/-- The bytes of an op. -/
def opY (t : O3) : List Nat := putN t.c.toNat ++ (putN (t.n + 1073741824).toNat ++ putN t.m.toNat)
def opsY (op : Nat → O3) : Nat → List Nat
  | 0 => []
  | k + 1 => opsY op k ++ opY (op k)
def funY (t : Fu) : List Nat := putN t.fr.toNat ++ (putN t.len ++ opsY t.op t.len)
def funsY (kid : Nat → Fu) : Nat → List Nat
  | 0 => []
  | k + 1 => funsY kid k ++ funY (kid k)
/-- The bytes of functions. -/
def bytesF (nf : Nat) (kid : Nat → Fu) : List Nat := putN nf ++ funsY kid nf

theorem opY_len {t : O3} (h : t.c ≤ 2147483647 ∧ t.n ≤ 1073741823 ∧ t.m ≤ 2147483647) : (opY t).length ≤ 15 := by
  unfold opY
  rw [List.length_append, List.length_append]
  have h1 := putN_len5 (n := t.c.toNat) (by omega)
  have h2 := putN_len5 (n := (t.n + 1073741824).toNat) (by omega)
  have h3 := putN_len5 (n := t.m.toNat) (by omega)
  omega
theorem opsY_len {op : Nat → O3} {n : Nat} (h : ∀ i, i < n → (op i).c ≤ 2147483647 ∧ (op i).n ≤ 1073741823 ∧ (op i).m ≤ 2147483647) : ∀ k, k ≤ n → (opsY op k).length ≤ 15 * k
  | 0, _ => by simp [opsY]
  | k + 1, hk => by
    have := opsY_len h k (by omega)
    have := opY_len (h k (by omega))
    simp only [opsY, List.length_append]
    omega

/-- What is asked of the numbers of an op. -/
def NumsO (t : O3) : Prop := (0 ≤ t.c ∧ t.c ≤ 2147483647) ∧ (-1073741824 ≤ t.n ∧ t.n ≤ 1073741823) ∧ (0 ≤ t.m ∧ t.m ≤ 2147483647)
def NumsF (t : Fu) : Prop := (0 ≤ t.fr ∧ t.fr ≤ 20) ∧ t.len ≤ 3000 ∧ ∀ k, k < t.len → NumsO (t.op k)

theorem bel_iff {z e : Int} : belB z e = true ↔ 0 ≤ z ∧ z < e := by unfold belB; simp

theorem nums_op {nf : Nat} {kid : Nat → Fu} {i : Nat} {t : O3} (hf : ∀ j, j < nf → belB (kid j).fr 21 = true) (hi : (kid i).len ≤ 3000) (hfi : belB (kid i).fr 21 = true) (hn : nf ≤ 60) (h : opOkF nf kid i t = true) : NumsO t := by
  unfold opOkF at h
  rw [Bool.and_eq_true, Bool.and_eq_true] at h
  obtain ⟨⟨h1, h2⟩, h3⟩ := h
  obtain ⟨c, hc, hc1, hc2⟩ := code_cases h1
  have hfi' := bel_iff.1 hfi
  refine ⟨by omega, ?_, ?_⟩
  · unfold nOkF at h2
    split at h2
    · have h7 : -1073741824 ≤ t.n ∧ t.n ≤ 1073741823 := by simpa [wokB] using h2
      omega
    · split at h2
      · have := bel_iff.1 h2; omega
      · split at h2
        · have := bel_iff.1 h2; omega
        · split at h2
          · simp at h2; omega
          · split at h2
            · rw [Bool.and_eq_true] at h2; have := bel_iff.1 h2.2; omega
            · split at h2
              · have := bel_iff.1 h2; omega
              · split at h2
                · have := bel_iff.1 h2; omega
                · simp at h2; omega
  · unfold mOkF at h3
    split at h3
    · rename_i h5
      unfold nOkF at h2
      rw [if_neg (by omega), if_neg (by omega), if_neg (by omega), if_neg (by omega), if_pos h5, Bool.and_eq_true] at h2
      have h4 := bel_iff.1 h2.2
      have h6 := bel_iff.1 (hf t.n.toNat (by omega))
      simp at h3; omega
    · split at h3
      · have := bel_iff.1 h3; omega
      · split at h3
        · have := bel_iff.1 h3; omega
        · simp at h3; omega

theorem nums_fun {nf : Nat} {kid : Nat → Fu} (h : FunsP nf kid) : nf ≤ 60 ∧ 1 ≤ nf ∧ ∀ i, i < nf → NumsF (kid i) := by
  obtain ⟨⟨h1, h2⟩, h3, h4⟩ := h
  refine ⟨h2, h1, fun i hi => ?_⟩
  have h5 := h4 i hi
  have h6 := bel_iff.1 h5.1
  exact ⟨by omega, h5.2.1.2, fun k hk => nums_op (fun j hj => (h4 j hj).1) h5.2.1.2 h5.1 h2 (h5.2.2.2 k hk)⟩

theorem opsY_len2 {t : Fu} (h : NumsF t) (k : Nat) (hk : k ≤ t.len) : (opsY t.op k).length ≤ 15 * k := opsY_len (n := t.len) (fun i hi => ⟨(h.2.2 i hi).1.2, (h.2.2 i hi).2.1.2, (h.2.2 i hi).2.2.2⟩) k hk
theorem funY_len {t : Fu} (h : NumsF t) : (funY t).length ≤ 46000 := by
  have h1 := putN_len5 (n := t.fr.toNat) (by have := h.1; omega)
  have h2 := putN_len5 (n := t.len) (by have := h.2.1; omega)
  have h3 := opsY_len2 h t.len (Nat.le_refl _)
  have h4 := h.2.1
  unfold funY
  rw [List.length_append, List.length_append]
  omega
theorem funsY_len {nf : Nat} {kid : Nat → Fu} (h : ∀ i, i < nf → NumsF (kid i)) : ∀ k, k ≤ nf → (funsY kid k).length ≤ 46000 * k
  | 0, _ => by simp [funsY]
  | k + 1, hk => by
    have := funsY_len h k (by omega)
    have := funY_len (h k (by omega))
    simp only [funsY, List.length_append]
    omega
theorem bytesF_len {nf : Nat} {kid : Nat → Fu} (h : FunsP nf kid) : (bytesF nf kid).length ≤ 2760010 := by
  obtain ⟨h1, h2, h3⟩ := nums_fun h
  have := funsY_len h3 nf (Nat.le_refl _)
  have := putN_len5 (n := nf) (by omega)
  unfold bytesF
  rw [List.length_append]
  omega
end Go.Proofs.YtocdpgogoadfnaaDoor
