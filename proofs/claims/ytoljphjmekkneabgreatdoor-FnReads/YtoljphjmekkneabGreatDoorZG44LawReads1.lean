/- A slice of bytes that came in can be read as a draw's code. Condition: it has at most 2^20 bytes. -/
import Derived.Test.YtoljphjmekkneabGreatDoorZG7Cur2
import Derived.Test.YtoljphjmekkneabGreatDoorZG36DatTell
import Derived.Test.YtoljphjmekkneabGreatDoorZG38DatPc
import Derived.Test.YtoljphjmekkneabGreatDoorZG34ReadAllImpl
import Derived.Test.YtoljphjmekkneabGreatDoorZG19DrawDat2
import Derived.Test.YtoljphjmekkneabGreatDoorZG42SpecText
import Derived.Test.YtoljphjmekkneabGreatDoorZG43ImplSame
import Derived.Test.YtoljphjmekkneabGreatDoorZG32DatLook
import Derived.OpenShut
namespace Go.Proofs.YtoljphjmekkneabGreatDoor
open Go.ChangeShapes Go.WideShapes Go.ChangeAt Go.RowKit

/-- What is told of a slice of bytes that came in: nil, or a row of cells. -/
def ByteRow (w : World) (a : Option Addr) (len cap : Nat) : Prop :=
  (a = none ∧ len = 0 ∧ cap = 0) ∨
  ∃ (x : Addr) (zs : List Int), a = some x ∧ len ≤ cap ∧ cap ≤ maxLen ∧ zs.length = cap ∧ (∀ i, i < zs.length → w.cell? (x.add i) = some (.int .u8 (zs.getD i 0))) ∧ ∀ n ∈ zs, (Lit.int .u8 n).wf = true

theorem codeOk_of_row {w : World} {a : Option Addr} {len cap : Nat} (h : ByteRow w a len cap) (hl : len ≤ 1048576) : CodeOk a len w.heap.size w := by
  refine ⟨hl, ?_⟩
  rcases h with ⟨_, h, _⟩ | ⟨x, zs, rfl, h1, _, h3, hc, hw⟩
  · exact .inl h
  by_cases h0 : len = 0
  · exact .inl h0
  obtain ⟨b, off, rfl, hc'⟩ := ints_at hc (by omega)
  have hin : ∀ j, j < len → w.cell? ⟨b, off + j, none⟩ = some (.int .u8 (zs.getD j 0)) := fun j hj => by first | exact hc' j (by omega) | simpa using hc' j (by omega)
  refine .inr ⟨b, off, rfl, cell_lt (hin 0 (by omega)), fun j hj => ⟨zs.getD j 0, ?_, ?_, hin j hj⟩⟩
  all_goals
    have hm : zs.getD j 0 ∈ zs := getD_mem (by omega) _
    have hb := bounds_u8 (hw _ hm)
    omega
end Go.Proofs.YtoljphjmekkneabGreatDoor

/- The walk of laws.FnReads: it returns true. Conditions: the code's bytes can be read; the library's table of powers of ten and its two errors lie as their text lays them. -/
namespace Go.Proofs.YtoljphjmekkneabGreatDoor.fnReads
open Go.ChangeShapes Go.WideShapes Go.ChangeAt Go.RowKit

/-- What the law needs of the world. -/
structure Ground (a : Option Addr) (len : Nat) (w : World) : Prop where
  code : CodeOk a len w.heap.size w
  tab : PowTab w
  errs : ErrVars w

theorem Ground.below {a : Option Addr} {len : Nat} {w w' : World} (h : Ground a len w) (hb : Below w.heap.size w w') : Ground a len w' :=
  ⟨code_below3 h.code hb, h.tab.below hb, h.errs.below hb⟩

/-- What is known ahead of the great test: the drawn data, in a world W, and what the callees answer there and later. -/
structure Six (W : World) (T A1 A2 no : Nat) (kido : Nat → D) (vo : Value) (t ta tb : D) (vt va vb : Value) : Prop where
  o : Sl W no kido vo
  ow : kidsWeight no kido ≤ 60000
  ti : t.In W vt
  tw : t.weight ≤ 60000
  ai : ta.In W va
  bi : tb.In W vb
  aw : ta.weight ≤ 60000
  bT : datBlk W T t vt
  bA : datBlk W A1 ta va
  bB : datBlk W A2 tb vb

theorem six_dats {W : World} {T A1 A2 no : Nat} {kido : Nat → D} {vo : Value} {t ta tb : D} {vt va vb : Value} (h : Six W T A1 A2 no kido vo t ta tb vt va vb) (x : Later W) :
    Calls Tryz.prog 11 #[vo] x.w (fun e w' => e = .returned (.bool (datsB no kido)) ∧ Below x.w.heap.size x.w w') ∧ Calls Tryz.prog 12 #[vo] x.w (fun e w' => e = .returned (.bool (datsB no kido)) ∧ Below x.w.heap.size x.w w') :=
  ⟨impl_dats no kido x.w vo (h.o.below x.le) (by have := h.ow; omega), spec_dats no kido x.w vo (h.o.below x.le) (by have := counts_le no kido; have := h.ow; omega)⟩

theorem six_text {W : World} {T A1 A2 no : Nat} {kido : Nat → D} {vo : Value} {t ta tb : D} {vt va vb : Value} (h : Six W T A1 A2 no kido vo t ta tb vt va vb) (hp : PowTab W) (x : Later W) :
    Calls Tryz.prog 13 #[.agg #[.int .i64 t.op, .int .i64 t.at_, .int .i64 t.n, .string t.s, vt]] x.w (fun e w' => e = .returned (.string ⟨t.text.toArray⟩) ∧ Below x.w.heap.size x.w w') ∧ Calls Tryz.prog 14 #[.agg #[.int .i64 t.op, .int .i64 t.at_, .int .i64 t.n, .string t.s, vt]] x.w (fun e w' => e = .returned (.string ⟨t.text.toArray⟩) ∧ Below x.w.heap.size x.w w') :=
  ⟨impl_text t x.w vt (h.ti.below x.le) (by have := h.tw; omega) (hp.below x.le), spec_text t x.w vt (h.ti.below x.le) (by have := h.tw; omega)⟩

theorem six_same {W : World} {T A1 A2 no : Nat} {kido : Nat → D} {vo : Value} {t ta tb : D} {vt va vb : Value} (h : Six W T A1 A2 no kido vo t ta tb vt va vb) (x : Later W) :
    Calls Tryz.prog 15 #[.agg #[.int .i64 ta.op, .int .i64 ta.at_, .int .i64 ta.n, .string ta.s, va], .agg #[.int .i64 tb.op, .int .i64 tb.at_, .int .i64 tb.n, .string tb.s, vb]] x.w (fun e w' => e = .returned (.bool (sameD ta tb)) ∧ Below x.w.heap.size x.w w') ∧ Calls Tryz.prog 16 #[.agg #[.int .i64 ta.op, .int .i64 ta.at_, .int .i64 ta.n, .string ta.s, va], .agg #[.int .i64 tb.op, .int .i64 tb.at_, .int .i64 tb.n, .string tb.s, vb]] x.w (fun e w' => e = .returned (.bool (sameD ta tb)) ∧ Below x.w.heap.size x.w w') :=
  ⟨impl_same ta tb x.w va vb (h.ai.below x.le) (h.bi.below x.le) (by have := ta.count_weight; have := h.aw; omega), spec_same ta tb x.w va vb (h.ai.below x.le) (h.bi.below x.le)⟩
end Go.Proofs.YtoljphjmekkneabGreatDoor.fnReads
