/- bytes.TrimRight of a name's letters, and (opName).text. Conditions: the name has 1 to 5 letters, none of them nought. -/
import Derived.Test.YtcmgbplnhapgbaaDoorOpName
import Derived.Laws.IdiomStrings
import Derived.Deep.Cut
namespace Go.Proofs.YtcmgbplnhapgbaaDoor
open Go.ChangeShapes Go.WideShapes Go.ChangeAt Go.RowKit

/-- A name as it may be told. -/
def NameOk (l : List UInt8) : Prop := 1 ≤ l.length ∧ l.length ≤ 5 ∧ ∀ j, j < l.length → ((l.getD j 0).toNat : Int) ≠ 0
instance (l : List UInt8) : Decidable (NameOk l) := by unfold NameOk; infer_instance
theorem name_ok : ∀ i : Nat, 1 ≤ i → i ≤ 21 → NameOk (opL.getD i [])
  | 0, h, _ => absurd h (by omega)
  | 1, _, _ => by decide
  | 2, _, _ => by decide
  | 3, _, _ => by decide
  | 4, _, _ => by decide
  | 5, _, _ => by decide
  | 6, _, _ => by decide
  | 7, _, _ => by decide
  | 8, _, _ => by decide
  | 9, _, _ => by decide
  | 10, _, _ => by decide
  | 11, _, _ => by decide
  | 12, _, _ => by decide
  | 13, _, _ => by decide
  | 14, _, _ => by decide
  | 15, _, _ => by decide
  | 16, _, _ => by decide
  | 17, _, _ => by decide
  | 18, _, _ => by decide
  | 19, _, _ => by decide
  | 20, _, _ => by decide
  | 21, _, _ => by decide
  | n + 22, _, h => absurd h (by omega)
theorem name_full {l : List UInt8} (h : NameOk l) : (five l == [0, 0, 0, 0, 0]) = false := by
  have := h.2.2 0 h.1
  unfold five
  rw [Bool.eq_false_iff]
  intro hb
  have hb' := eq_of_beq hb
  injection hb' with h1 _
  rw [h1] at this
  exact this rfl

/-- The letters lie in block K. -/
def LetAt (w : World) (K : Nat) (l : List UInt8) : Prop := ∀ j, j < 5 → w.cell? ⟨K, j, none⟩ = some (.int .u8 (l.getD j 0).toNat)

set_option maxRecDepth 100000 in
set_option maxHeartbeats 2000000 in
theorem trim_byte (l : List UInt8) (hl : NameOk l) (w : World) (K : Nat) (hc : LetAt w K l) :
    Calls Tryd.prog 38 #[.slice (some ⟨K, 0, none⟩) 5 5, .int .u8 0] w fun e w' => e = .returned (.slice (some ⟨K, 0, none⟩) l.length 5) ∧ w' = w := by
  have HL : Hid (NameOk l) := hl
  have HC : Hid (LetAt w K l) := hc
  have h1 := hl.1
  have h5 := hl.2.1
  clear hl hc
  go_enter Tryd.func38, Tryd.ntmps38
  go_wp2
  go_loopw [0] (fun s w1 => ∃ n : Nat, l.length ≤ n + 1 ∧ n + 1 ≤ 5 ∧ s = .slice (some ⟨K, 0, none⟩) (n + 1) 5 ∧ w1 = w) (fun s _ => match s with | .slice _ n _ => n | _ => 0)
  case atStart => exact ⟨4, h5, by omega, rfl, rfl⟩
  case round =>
    obtain ⟨n, hn, hm, rfl, rfl⟩ := hrel
    have hcell := HC.out n (by omega)
    by_cases hz : n + 1 = l.length
    · have t1 : (((l.getD n 0).toNat : Int) == 0) = false := by simpa using HL.out.2.2 n (by omega)
      have HZ : Hid (n + 1 = l.length) := hz
      generalize ((l.getD n 0).toNat : Int) = z at *
      clear hz h1 h5 hn
      go_wp2
      go_ret
      exact ⟨by rw [HZ.out]; rfl, rfl⟩
    · have t1 : (((l.getD n 0).toNat : Int) == 0) = true := by
        rw [List.getD_eq_getElem?_getD, List.getElem?_eq_none (by omega)]; rfl
      generalize ((l.getD n 0).toNat : Int) = z at *
      obtain ⟨m, rfl⟩ : ∃ m, n = m + 1 := ⟨n - 1, by omega⟩
      go_wp2
      refine ⟨⟨m, by omega, by omega, rfl, ?_⟩, ?_⟩
      all_goals simp

set_option maxRecDepth 100000 in
set_option maxHeartbeats 2000000 in
theorem trim_right (l : List UInt8) (hl : NameOk l) (w : World) (K : Nat) (hc : LetAt w K l) :
    Calls Tryd.prog 33 #[.slice (some ⟨K, 0, none⟩) 5 5, .string ⟨#[0]⟩] w fun e w' => e = .returned (.slice (some ⟨K, 0, none⟩) l.length 5) ∧ w' = w := by
  have HC := trim_byte l hl w K hc
  have HCC : Hid (Calls Tryd.prog 38 #[.slice (some ⟨K, 0, none⟩) 5 5, .int .u8 0] w fun e w' => e = .returned (.slice (some ⟨K, 0, none⟩) l.length 5) ∧ w' = w) := HC
  clear HC hl hc
  go_enter Tryd.func33, Tryd.ntmps33
  go_wp2_with (go_at_call 38; refine HCC.out.mono ?_; rintro e w1 ⟨rfl, rfl⟩)
  go_ret
  exact ⟨rfl, rfl⟩

set_option maxRecDepth 100000 in
set_option maxHeartbeats 2000000 in
theorem name_text (l : List UInt8) (hl : NameOk l) (w : World) :
    Calls Tryd.prog 24 #[nameV l] w fun e w' => e = .returned (.string ⟨l.toArray⟩) ∧ Below w.heap.size w w' := by
  obtain ⟨W, hW⟩ : ∃ W, W = w.alloc (.cells #[.int .u8 (l.getD 0 0).toNat, .int .u8 (l.getD 1 0).toNat, .int .u8 (l.getD 2 0).toNat, .int .u8 (l.getD 3 0).toNat, .int .u8 (l.getD 4 0).toNat] 54) := ⟨_, rfl⟩
  obtain ⟨K, hK⟩ : ∃ K, K = w.heap.size := ⟨_, rfl⟩
  have HB : Hid (Below w.heap.size w W) := by show Below _ _ _; rw [hW]; exact newb w _
  have hk : W.heap[K]? = some (.cells #[.int .u8 (l.getD 0 0).toNat, .int .u8 (l.getD 1 0).toNat, .int .u8 (l.getD 2 0).toNat, .int .u8 (l.getD 3 0).toNat, .int .u8 (l.getD 4 0).toNat] 54 (0, 0)) := by rw [hW, hK]; exact heap_alloc_new w _
  have hlet : LetAt W K l := fun j hj => by
    match j, hj with
    | 0, _ => exact cell_of_row W K 0 _ _ _ hk
    | 1, _ => exact cell_of_row W K 1 _ _ _ hk
    | 2, _ => exact cell_of_row W K 2 _ _ _ hk
    | 3, _ => exact cell_of_row W K 3 _ _ _ hk
    | 4, _ => exact cell_of_row W K 4 _ _ _ hk
    | n + 5, h => exact absurd h (by omega)
  have hcv : (convert 62 9 (.slice (some ⟨K, 0, none⟩) l.length 5)).run Tryd.prog W = .ok (.string ⟨l.toArray⟩) W :=
    run_convert_bytes_back (P := Tryd.prog) W 62 9 5 ⟨K, 0, none⟩ 5 l Tryd.underlying62 Tryd.underlying5 Tryd.underlying9 (fun j hj => by
      have := hlet j (by have := hl.2.1; omega)
      rw [List.getD_eq_getElem?_getD, List.getElem?_eq_getElem hj] at this
      have e : (⟨K, 0, none⟩ : Addr).add j = ⟨K, j, none⟩ := by cases j <;> simp [Addr.add]
      rw [e]
      simpa using this)
  have HT : Hid (Calls Tryd.prog 33 #[.slice (some ⟨K, 0, none⟩) 5 5, .string ⟨#[0]⟩] W fun e w' => e = .returned (.slice (some ⟨K, 0, none⟩) l.length 5) ∧ w' = W) := trim_right l hl W K hlet
  have HWW : Hid (W = w.alloc (.cells #[.int .u8 (l.getD 0 0).toNat, .int .u8 (l.getD 1 0).toNat, .int .u8 (l.getD 2 0).toNat, .int .u8 (l.getD 3 0).toNat, .int .u8 (l.getD 4 0).toNat] 54)) := hW
  have HK : Hid (K = w.heap.size) := hK
  clear hk hW hK hlet hl
  unfold nameV
  generalize ((l.getD 0 0).toNat : Int) = z0 at *
  generalize ((l.getD 1 0).toNat : Int) = z1 at *
  generalize ((l.getD 2 0).toNat : Int) = z2 at *
  generalize ((l.getD 3 0).toNat : Int) = z3 at *
  generalize ((l.getD 4 0).toNat : Int) = z4 at *
  go_enter Tryd.func24, Tryd.ntmps24
  go_wp2_with fail
  rw [← HWW.out, ← HK.out]
  refine HT.out.mono ?_
  rintro e w1 ⟨rfl, rfl⟩
  go_wp2
  go_ret
  exact ⟨rfl, HB.out⟩
end Go.Proofs.YtcmgbplnhapgbaaDoor
