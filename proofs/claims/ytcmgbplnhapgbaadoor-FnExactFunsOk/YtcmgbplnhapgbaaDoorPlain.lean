/- Plain facts on decimal digits: the digits of k are those of k / 10, then that of k % 10. No conditions. -/
import Derived.Lib.ItoaNum
import Derived.Lib.ItoaLen
namespace Go.Proofs.YtcmgbplnhapgbaaDoor

/-- The digits of k, none of 0. -/
def decD (k : Nat) : List UInt8 := if k = 0 then [] else Lib.decDigits k

theorem decD_zero : decD 0 = [] := by simp [decD]

theorem decD_pos (k : Nat) (h : 0 < k) : decD k = Lib.decDigits k := by
  unfold decD; rw [if_neg (by omega)]

theorem decD_step (k : Nat) (h : 0 < k) : decD k = decD (k / 10) ++ [UInt8.ofNat (48 + k % 10)] := by
  rw [decD_pos k h]
  by_cases hs : k < 10
  · rw [Lib.decDigits_one hs]
    have e : k / 10 = 0 := by omega
    have e2 : k % 10 = k := by omega
    rw [e, e2, decD_zero]; rfl
  · rw [Lib.decDigits, dif_neg hs, decD_pos (k / 10) (by omega)]

theorem acc_step (k n : Nat) (h : 0 < k) (l : List UInt8) (hl : decD k ++ l = Lib.decDigits n) :
    decD (k / 10) ++ ((48 + UInt8.ofNat (k % 10)) :: l) = Lib.decDigits n := by
  have e : UInt8.ofNat (48 + k % 10) = 48 + UInt8.ofNat (k % 10) := by rw [UInt8.ofNat_add]; rfl
  rw [← hl, decD_step k h, e]; simp

theorem acc_len (k n : Nat) (l : List UInt8) (hn : n < 18446744073709551616) (hl : decD k ++ l = Lib.decDigits n) : l.length ≤ 20 := by
  have h1 := congrArg List.length hl
  rw [List.length_append, Lib.decDigits_length] at h1
  have := Lib.nDigits_le20 n hn
  omega

theorem join_one (c : UInt8) (l : List UInt8) : ((⟨#[c]⟩ : ByteArray) ++ ⟨l.toArray⟩) = ⟨(c :: l).toArray⟩ := by
  apply ByteArray.ext
  simp [ByteArray.data_append]

end Go.Proofs.YtcmgbplnhapgbaaDoor
