/- impl.partOf, impl.isSym, impl.datKids, impl.stxKids. No conditions. -/
import Derived.Test.YtgbfflpdpfgnbaaStxRows
import Derived.WalkKit
import Derived.ProofKit
namespace Go.Proofs.Ytgbfflpdpfgnbaa
open Go.ChangeShapes Go.WideShapes Go.ChangeAt Go.RowKit

/-- The type of a kind's part. -/
def PartT (op : Int) (T : TypeId) : Prop := (op = 1 ∧ T = 64) ∨ (op = 2 ∧ T = 65) ∨ (op = 3 ∧ T = 66) ∨ ((op ≠ 1 ∧ op ≠ 2 ∧ op ≠ 3) ∧ T = 67)

set_option maxRecDepth 100000 in
set_option maxHeartbeats 1000000 in
theorem part_of (op a n : Int) (s : ByteArray) (sv v : Value) (w : World) :
    Calls Try.prog 33 #[.agg #[.int .i64 op, .int .i64 a, .int .i64 n, .string s, sv, v]] w fun e w' => ∃ T, e = .returned (.iface T (.agg #[.int .i64 op, .int .i64 a, .int .i64 n, .string s, sv, v])) ∧ Below w.heap.size w w' ∧ PartT op T := by
  have HB : Hid (∀ o1, Below w.heap.size w (w.alloc o1)) := fun o1 => newx w _
  by_cases h1 : op = 1
  · subst h1
    go_enter Try.func33, Try.ntmps33
    go_wp2_with fail
    go_ret
    exact ⟨_, rfl, HB.out _, .inl ⟨rfl, rfl⟩⟩
  by_cases h2 : op = 2
  · subst h2
    go_enter Try.func33, Try.ntmps33
    go_wp2_with fail
    go_ret
    exact ⟨_, rfl, HB.out _, .inr (.inl ⟨rfl, rfl⟩)⟩
  by_cases h3 : op = 3
  · subst h3
    go_enter Try.func33, Try.ntmps33
    go_wp2_with fail
    go_ret
    exact ⟨_, rfl, HB.out _, .inr (.inr (.inl ⟨rfl, rfl⟩))⟩
  · have d1 : (op == 1) = false := by simpa using h1
    have d2 : (op == 2) = false := by simpa using h2
    have d3 : (op == 3) = false := by simpa using h3
    have HO : Hid (op ≠ 1 ∧ op ≠ 2 ∧ op ≠ 3) := ⟨h1, h2, h3⟩
    clear h1 h2 h3
    go_enter Try.func33, Try.ntmps33
    go_wp2_with fail
    go_ret
    exact ⟨_, rfl, HB.out _, .inr (.inr (.inr ⟨HO.out, rfl⟩))⟩

/-- A part is of the type asked for. -/
theorem assert_yes {P : Program} {t : TypeId} {fs : Array Field} (hu : P.underlying t = some (.struct fs)) (v : Value) (xT : TypeId) (w : World) : (Instr.typeAssert (.iface t v) xT t true).run P w = .ok (.tuple #[v, .bool true]) w := by
  simp [Instr.typeAssert, run_underlying hu, go_sem, Result.andThen]
/-- .. or of another. -/
theorem assert_no {P : Program} {t ty : TypeId} {fs : Array Field} {z : Value} (hu : P.underlying t = some (.struct fs)) (hz : (P.info? t).map (·.zero) = some (some z)) (hne : ty ≠ t) (v : Value) (xT : TypeId) (w : World) : (Instr.typeAssert (.iface ty v) xT t true).run P w = .ok (.tuple #[z, .bool false]) w := by
  obtain ⟨j, hj, hz'⟩ := Option.map_eq_some_iff.1 hz
  simp [Instr.typeAssert, run_underlying hu, hne, zeroValue, typeInfo, hj, hz']
/-- A part's zero. -/
abbrev zero6 : Value := .agg #[.int .i64 0, .int .i64 0, .int .i64 0, .string ⟨#[]⟩, .slice none 0 0, .slice none 0 0]
theorem is_numPart (v : Value) (w : World) : (Instr.typeAssert (.iface 64 v) 59 64 true).run Try.prog w = .ok (.tuple #[v, .bool true]) w := assert_yes Try.underlying64 v _ w
theorem no_numPart {ty : TypeId} (hne : ty ≠ 64) (v : Value) (w : World) : (Instr.typeAssert (.iface ty v) 59 64 true).run Try.prog w = .ok (.tuple #[zero6, .bool false]) w := assert_no Try.underlying64 (by kernel_rfl) hne v _ w
theorem is_symPart (v : Value) (w : World) : (Instr.typeAssert (.iface 65 v) 59 65 true).run Try.prog w = .ok (.tuple #[v, .bool true]) w := assert_yes Try.underlying65 v _ w
theorem no_symPart {ty : TypeId} (hne : ty ≠ 65) (v : Value) (w : World) : (Instr.typeAssert (.iface ty v) 59 65 true).run Try.prog w = .ok (.tuple #[zero6, .bool false]) w := assert_no Try.underlying65 (by kernel_rfl) hne v _ w
theorem is_listPart (v : Value) (w : World) : (Instr.typeAssert (.iface 66 v) 59 66 true).run Try.prog w = .ok (.tuple #[v, .bool true]) w := assert_yes Try.underlying66 v _ w
theorem no_listPart {ty : TypeId} (hne : ty ≠ 66) (v : Value) (w : World) : (Instr.typeAssert (.iface ty v) 59 66 true).run Try.prog w = .ok (.tuple #[zero6, .bool false]) w := assert_no Try.underlying66 (by kernel_rfl) hne v _ w

set_option maxRecDepth 100000 in
theorem kind_numPart (op a n : Int) (s : ByteArray) (sv v : Value) (w : World) :
    Calls Try.prog 53 #[.agg #[.int .i64 op, .int .i64 a, .int .i64 n, .string s, sv, v]] w fun e w' => e = .returned (.int .i64 1) ∧ Below w.heap.size w w' := by
  go_enter Try.func53, Try.ntmps53
  go_wp2_with fail
  go_ret
  exact ⟨rfl, newx _ _⟩
set_option maxRecDepth 100000 in
theorem kind_symPart (op a n : Int) (s : ByteArray) (sv v : Value) (w : World) :
    Calls Try.prog 54 #[.agg #[.int .i64 op, .int .i64 a, .int .i64 n, .string s, sv, v]] w fun e w' => e = .returned (.int .i64 2) ∧ Below w.heap.size w w' := by
  go_enter Try.func54, Try.ntmps54
  go_wp2_with fail
  go_ret
  exact ⟨rfl, newx _ _⟩
set_option maxRecDepth 100000 in
theorem kind_listPart (op a n : Int) (s : ByteArray) (sv v : Value) (w : World) :
    Calls Try.prog 55 #[.agg #[.int .i64 op, .int .i64 a, .int .i64 n, .string s, sv, v]] w fun e w' => e = .returned (.int .i64 3) ∧ Below w.heap.size w w' := by
  go_enter Try.func55, Try.ntmps55
  go_wp2_with fail
  go_ret
  exact ⟨rfl, newx _ _⟩
set_option maxRecDepth 100000 in
theorem kind_nonePart (op a n : Int) (s : ByteArray) (sv v : Value) (w : World) :
    Calls Try.prog 56 #[.agg #[.int .i64 op, .int .i64 a, .int .i64 n, .string s, sv, v]] w fun e w' => e = .returned (.int .i64 0) ∧ Below w.heap.size w w' := by
  go_enter Try.func56, Try.ntmps56
  go_wp2_with fail
  go_ret
  exact ⟨rfl, newx _ _⟩
set_option maxRecDepth 100000 in
set_option maxHeartbeats 1000000 in
theorem is_sym (op a n : Int) (s : ByteArray) (sv v : Value) (w : World) :
    Calls Try.prog 28 #[.agg #[.int .i64 op, .int .i64 a, .int .i64 n, .string s, sv, v]] w fun e w' => e = .returned (.bool (decide (op = 2))) ∧ Below w.heap.size w w' := by
  go_enter Try.func28, Try.ntmps28
  go_wp2_with fail
  refine (part_of op a n s sv v _).mono ?_
  rintro e w1 ⟨T, rfl, hb1, hT⟩
  have HB1 : Hid (Below w.heap.size w w1) := (newx w _).trans (hb1.mono (by simp))
  clear hb1
  rcases hT with ⟨h, rfl⟩ | ⟨h, rfl⟩ | ⟨h, rfl⟩ | ⟨⟨h1, h2, h3⟩, rfl⟩
  · have HR : Hid (decide (op = 2) = false) := decide_eq_false (by omega)
    clear h
    go_wp2_with fail
    refine (kind_numPart op a n s sv v _).mono ?_
    rintro e w2 ⟨rfl, hb2⟩
    have HB2 : Hid (Below w.heap.size w w2) := HB1.out.trans (hb2.mono HB1.out.size)
    clear hb2
    go_wp2_with fail
    go_ret
    exact ⟨by rw [HR.out]; rfl, HB2.out⟩
  · have HR : Hid (decide (op = 2) = true) := decide_eq_true h
    clear h
    go_wp2_with fail
    refine (kind_symPart op a n s sv v _).mono ?_
    rintro e w2 ⟨rfl, hb2⟩
    have HB2 : Hid (Below w.heap.size w w2) := HB1.out.trans (hb2.mono HB1.out.size)
    clear hb2
    go_wp2_with fail
    go_ret
    exact ⟨by rw [HR.out]; rfl, HB2.out⟩
  · have HR : Hid (decide (op = 2) = false) := decide_eq_false (by omega)
    clear h
    go_wp2_with fail
    refine (kind_listPart op a n s sv v _).mono ?_
    rintro e w2 ⟨rfl, hb2⟩
    have HB2 : Hid (Below w.heap.size w w2) := HB1.out.trans (hb2.mono HB1.out.size)
    clear hb2
    go_wp2_with fail
    go_ret
    exact ⟨by rw [HR.out]; rfl, HB2.out⟩
  · have HR : Hid (decide (op = 2) = false) := decide_eq_false h2
    clear h1 h2 h3
    go_wp2_with fail
    refine (kind_nonePart op a n s sv v _).mono ?_
    rintro e w2 ⟨rfl, hb2⟩
    have HB2 : Hid (Below w.heap.size w w2) := HB1.out.trans (hb2.mono HB1.out.size)
    clear hb2
    go_wp2_with fail
    go_ret
    exact ⟨by rw [HR.out]; rfl, HB2.out⟩
theorem is_symB (op a n : Int) (s : ByteArray) (sv v : Value) (b : Bool) (hb : decide (op = 2) = b) (w : World) :
    Calls Try.prog 28 #[.agg #[.int .i64 op, .int .i64 a, .int .i64 n, .string s, sv, v]] w fun e w' => e = .returned (.bool b) ∧ Below w.heap.size w w' := by
  subst hb
  exact is_sym op a n s sv v w


end Go.Proofs.Ytgbfflpdpfgnbaa
