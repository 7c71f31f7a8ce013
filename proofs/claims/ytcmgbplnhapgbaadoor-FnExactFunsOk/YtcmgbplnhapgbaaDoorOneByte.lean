/- A text of one byte. No conditions. -/
import Derived.Test.YtcmgbplnhapgbaaDoorRows
import Derived.Test.YtcmgbplnhapgbaaDoorPlain
import Derived.WalkKit
import Derived.ProofKit
import Derived.OwnWalk
import Derived.Below
import Derived.Laws.BytesArg
import Derived.Laws.IdiomStrings
namespace Go.Proofs.YtcmgbplnhapgbaaDoor
open Go.ChangeShapes Go.WideShapes Go.ChangeAt Go.RowKit

/-- A text of one byte, made of a slice that was just made. -/
theorem one_byte (W : World) (c : Int) (b : UInt8) (hb : (b.toNat : Int) = c) :
    Sem.run Tryd.prog (convert 62 9 (Value.slice (some ⟨W.heap.size, 0, none⟩) 1 1)) (W.alloc (.cells #[.int .u8 c] 5)) =
      .ok (.string ⟨#[b]⟩) (W.alloc (.cells #[.int .u8 c] 5)) := by
  have := run_convert_bytes_back (P := Tryd.prog) (W.alloc (.cells #[.int .u8 c] 5)) 62 9 5 ⟨W.heap.size, 0, none⟩ 1 [b] Tryd.underlying62 Tryd.underlying5 Tryd.underlying9 (fun j hj => by
    have hj0 : j = 0 := by simp at hj; omega
    subst hj0
    rw [show (⟨W.heap.size, 0, none⟩ : Addr).add 0 = ⟨W.heap.size, 0, none⟩ from rfl, World.cell?_alloc_mark]
    simp [hb])
  simpa using this

theorem digit_byte (k : Nat) : ((48 + UInt8.ofNat (k % 10)).toNat : Int) = 48 + (k : Int) % 10 := by
  have e : UInt8.ofNat (48 + k % 10) = 48 + UInt8.ofNat (k % 10) := by rw [UInt8.ofNat_add]; rfl
  rw [← e, UInt8.toNat_ofNat']; omega
end Go.Proofs.YtcmgbplnhapgbaaDoor
