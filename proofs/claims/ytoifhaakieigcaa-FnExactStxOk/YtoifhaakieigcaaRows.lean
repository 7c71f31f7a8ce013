/-
  NARROWER THAN 'FOR EVERY INPUT', by the rows' own cells (each row's printed sentence says how): FnExactStxOf: loops · FnExactDatOf: loops · FnExactStxOk: loops · FnExactFlipAll: loops · FnExactWithAll: loops · FnExactSameStx: loops.
  DERIVED. THE GIVEN ROWS OF THIS SEAT. 6 by the template 'for every input the law returns true; each argument reads behind the call as it read before'; 0 by the template 'total and deterministic' (their statements: YtoifhaakieigcaaTotals.lean).
  GIVEN WITH THE SEED: the statements are not yours to turn. If you find one false, say at which input.
  Laid BY PROGRAM, IN A SANDBOX (cutbox-rows.mjs): the forced cells as the released guide's own fill.sh prints them over the translation 757ab187f39edf43… (all of the seat's roots in one cut). By AI agents, Wed Nov 11 2026. No macro, syntax, notation, axiom, sorry.
-/
import Derived.Test.YtoifhaakieigcaaChecked
import GoSem.Claim
import GoSem.ClaimJoined
import GoSem.ClaimMapViews
import Derived.JoinedTies
import Derived.KernelRfl
namespace Go.Proofs.Ytoifhaakieigcaa
/- THE CELL 'sum', in the pinned program and in every row, IS THE sha256 OF THE DUMP (.gsa) THAT YtoifhaakieigcaaProg.lean LOADS. Nothing in Lean hashes anything: it is a label: what it is worth is what the hold of that sum in a sandbox is worth. -/
noncomputable def Try.pinned : Pinned := { name := "ytoifhaakieigcaa", sum := "757ab187f39edf43b23244afee3304be9267c09b638a6bb3179f70108f5afe96", checked := Try.checked }
namespace Rows
def none {H : Type} : Left H := { results := [], args := [] }

/-- 'laws.FnExactStxOf': WHATEVER THE INPUT: true; the input reads as it did. -/
def fnExactStxOfSpec : ChangeSpec := { name := "fnExactStxOf", fn := fun _ => fun
  | [d1, d2] => { results := [.lit (.bool true)], args := [d1, d2] }
  | _ => none }
def fnExactStxOfRow : OpenClaim := { program := "ytoifhaakieigcaa", sum := "757ab187f39edf43b23244afee3304be9267c09b638a6bb3179f70108f5afe96", func := "loop.example/g00396/laws.FnExactStxOf", spec := "fnExactStxOf", unfollowed := true, recurses := true, loops := true, apart := false }
def FnExactStxOfSaid : Prop := fnExactStxOfRow.holds Try.pinned (OpenSpec.ofChange fnExactStxOfSpec)

/-- ITS FALSE NEIGHBOUR: 'it returns false'. Refute it at one input. -/
def fnExactStxOfWrong : ChangeSpec := { name := "fnExactStxOf", fn := fun _ => fun
  | [d1, d2] => { results := [.lit (.bool false)], args := [d1, d2] }
  | _ => none }
def FnExactStxOfWrongFalsely : Prop := fnExactStxOfRow.holds Try.pinned (OpenSpec.ofChange fnExactStxOfWrong)

/-- 'laws.FnExactDatOf': WHATEVER THE INPUT: true; the input reads as it did. -/
def fnExactDatOfSpec : ChangeSpec := { name := "fnExactDatOf", fn := fun _ => fun
  | [d] => { results := [.lit (.bool true)], args := [d] }
  | _ => none }
def fnExactDatOfRow : OpenClaim := { program := "ytoifhaakieigcaa", sum := "757ab187f39edf43b23244afee3304be9267c09b638a6bb3179f70108f5afe96", func := "loop.example/g00396/laws.FnExactDatOf", spec := "fnExactDatOf", unfollowed := true, recurses := true, loops := true, apart := false }
def FnExactDatOfSaid : Prop := fnExactDatOfRow.holds Try.pinned (OpenSpec.ofChange fnExactDatOfSpec)

/-- ITS FALSE NEIGHBOUR: 'it returns false'. Refute it at one input. -/
def fnExactDatOfWrong : ChangeSpec := { name := "fnExactDatOf", fn := fun _ => fun
  | [d] => { results := [.lit (.bool false)], args := [d] }
  | _ => none }
def FnExactDatOfWrongFalsely : Prop := fnExactDatOfRow.holds Try.pinned (OpenSpec.ofChange fnExactDatOfWrong)

/-- 'laws.FnExactStxOk': WHATEVER THE INPUT: true; the input reads as it did. -/
def fnExactStxOkSpec : ChangeSpec := { name := "fnExactStxOk", fn := fun _ => fun
  | [d] => { results := [.lit (.bool true)], args := [d] }
  | _ => none }
def fnExactStxOkRow : OpenClaim := { program := "ytoifhaakieigcaa", sum := "757ab187f39edf43b23244afee3304be9267c09b638a6bb3179f70108f5afe96", func := "loop.example/g00396/laws.FnExactStxOk", spec := "fnExactStxOk", inPlace := ["internal/bytealg.IndexByteString", "internal/bytealg.IndexString"], unfollowed := true, recurses := true, named := ["internal/bytealg.MaxLen"], loops := true, apart := false }
def FnExactStxOkSaid : Prop := fnExactStxOkRow.holds Try.pinned (OpenSpec.ofChange fnExactStxOkSpec)

/-- ITS FALSE NEIGHBOUR: 'it returns false'. Refute it at one input. -/
def fnExactStxOkWrong : ChangeSpec := { name := "fnExactStxOk", fn := fun _ => fun
  | [d] => { results := [.lit (.bool false)], args := [d] }
  | _ => none }
def FnExactStxOkWrongFalsely : Prop := fnExactStxOkRow.holds Try.pinned (OpenSpec.ofChange fnExactStxOkWrong)

/-- 'laws.FnExactFlipAll': WHATEVER THE INPUT: true; the input reads as it did. -/
def fnExactFlipAllSpec : ChangeSpec := { name := "fnExactFlipAll", fn := fun _ => fun
  | [d1, d2] => { results := [.lit (.bool true)], args := [d1, d2] }
  | _ => none }
def fnExactFlipAllRow : OpenClaim := { program := "ytoifhaakieigcaa", sum := "757ab187f39edf43b23244afee3304be9267c09b638a6bb3179f70108f5afe96", func := "loop.example/g00396/laws.FnExactFlipAll", spec := "fnExactFlipAll", unfollowed := true, recurses := true, loops := true, apart := false }
def FnExactFlipAllSaid : Prop := fnExactFlipAllRow.holds Try.pinned (OpenSpec.ofChange fnExactFlipAllSpec)

/-- ITS FALSE NEIGHBOUR: 'it returns false'. Refute it at one input. -/
def fnExactFlipAllWrong : ChangeSpec := { name := "fnExactFlipAll", fn := fun _ => fun
  | [d1, d2] => { results := [.lit (.bool false)], args := [d1, d2] }
  | _ => none }
def FnExactFlipAllWrongFalsely : Prop := fnExactFlipAllRow.holds Try.pinned (OpenSpec.ofChange fnExactFlipAllWrong)

/-- 'laws.FnExactWithAll': WHATEVER THE INPUT: true; the input reads as it did. -/
def fnExactWithAllSpec : ChangeSpec := { name := "fnExactWithAll", fn := fun _ => fun
  | [d1, d2] => { results := [.lit (.bool true)], args := [d1, d2] }
  | _ => none }
def fnExactWithAllRow : OpenClaim := { program := "ytoifhaakieigcaa", sum := "757ab187f39edf43b23244afee3304be9267c09b638a6bb3179f70108f5afe96", func := "loop.example/g00396/laws.FnExactWithAll", spec := "fnExactWithAll", unfollowed := true, recurses := true, loops := true, apart := false }
def FnExactWithAllSaid : Prop := fnExactWithAllRow.holds Try.pinned (OpenSpec.ofChange fnExactWithAllSpec)

/-- ITS FALSE NEIGHBOUR: 'it returns false'. Refute it at one input. -/
def fnExactWithAllWrong : ChangeSpec := { name := "fnExactWithAll", fn := fun _ => fun
  | [d1, d2] => { results := [.lit (.bool false)], args := [d1, d2] }
  | _ => none }
def FnExactWithAllWrongFalsely : Prop := fnExactWithAllRow.holds Try.pinned (OpenSpec.ofChange fnExactWithAllWrong)

/-- 'laws.FnExactSameStx': WHATEVER THE INPUT: true; the input reads as it did. -/
def fnExactSameStxSpec : ChangeSpec := { name := "fnExactSameStx", fn := fun _ => fun
  | [d1, d2] => { results := [.lit (.bool true)], args := [d1, d2] }
  | _ => none }
def fnExactSameStxRow : OpenClaim := { program := "ytoifhaakieigcaa", sum := "757ab187f39edf43b23244afee3304be9267c09b638a6bb3179f70108f5afe96", func := "loop.example/g00396/laws.FnExactSameStx", spec := "fnExactSameStx", recurses := true, loops := true, apart := false }
def FnExactSameStxSaid : Prop := fnExactSameStxRow.holds Try.pinned (OpenSpec.ofChange fnExactSameStxSpec)

/-- ITS FALSE NEIGHBOUR: 'it returns false'. Refute it at one input. -/
def fnExactSameStxWrong : ChangeSpec := { name := "fnExactSameStx", fn := fun _ => fun
  | [d1, d2] => { results := [.lit (.bool false)], args := [d1, d2] }
  | _ => none }
def FnExactSameStxWrongFalsely : Prop := fnExactSameStxRow.holds Try.pinned (OpenSpec.ofChange fnExactSameStxWrong)

/- THE SECOND FORM. 'bulk': how many values and letters a reading holds, each counted each time it is reached (what is shared counts as often as it is met; a slice's spare places count too). A statement '..UptoSaid' is the law's where the arguments, and the package variables that the reading takes, are together of bulk at most 1048576: NARROWER than '..Said'. Prove '..Said' where nothing that the law and all that it calls make is longer than what came in: it says more and counts as full. Else prove '..UptoSaid'. A law counts once. -/
mutual
def uptoBulk {H : Type} : DataW H → Nat
  | .lit (.string bytes) => bytes.length + 1
  | .lit _ => 1
  | .nil => 1
  | .ptr d => uptoBulk d + 1
  | .slice elems spare => uptoBulkAll elems + uptoBulkAll spare + 1
  | .agg parts => uptoBulkAll parts + 1
  | .iface _ d => uptoBulk d + 1
  | .map entries => uptoBulkEntries entries + 1
  | .held _ => 1
def uptoBulkAll {H : Type} : List (DataW H) → Nat
  | [] => 0
  | d :: r => uptoBulk d + uptoBulkAll r
def uptoBulkEntries {H : Type} : List (Lit × DataW H) → Nat
  | [] => 0
  | x :: r => uptoBulkEntry x + uptoBulkEntries r
def uptoBulkEntry {H : Type} : Lit × DataW H → Nat
  | (.string bytes, d) => bytes.length + uptoBulk d + 1
  | (_, d) => uptoBulk d + 1
 end
def uptoSmall : (H : Type) → List (DataW H) → Bool := fun _ ds => decide (uptoBulkAll ds ≤ 1048576)
def OpenSpec.upto (s : _root_.Go.ChangeSpec) : _root_.Go.OpenSpec := { _root_.Go.OpenSpec.ofChange s with cond := some uptoSmall }

/-- 'laws.FnExactStxOf', WHERE WHAT IT READS IS OF BULK AT MOST 1048576: true; the input reads as it did. -/
def fnExactStxOfUptoRow : OpenClaim := { program := "ytoifhaakieigcaa", sum := "757ab187f39edf43b23244afee3304be9267c09b638a6bb3179f70108f5afe96", func := "loop.example/g00396/laws.FnExactStxOf", spec := "fnExactStxOf", unfollowed := true, recurses := true, loops := true, apart := false, narrowed := true }
def FnExactStxOfUptoSaid : Prop := fnExactStxOfUptoRow.holds Try.pinned (OpenSpec.upto fnExactStxOfSpec)

/-- 'laws.FnExactDatOf', WHERE WHAT IT READS IS OF BULK AT MOST 1048576: true; the input reads as it did. -/
def fnExactDatOfUptoRow : OpenClaim := { program := "ytoifhaakieigcaa", sum := "757ab187f39edf43b23244afee3304be9267c09b638a6bb3179f70108f5afe96", func := "loop.example/g00396/laws.FnExactDatOf", spec := "fnExactDatOf", unfollowed := true, recurses := true, loops := true, apart := false, narrowed := true }
def FnExactDatOfUptoSaid : Prop := fnExactDatOfUptoRow.holds Try.pinned (OpenSpec.upto fnExactDatOfSpec)

/-- 'laws.FnExactStxOk', WHERE WHAT IT READS IS OF BULK AT MOST 1048576: true; the input reads as it did. -/
def fnExactStxOkUptoRow : OpenClaim := { program := "ytoifhaakieigcaa", sum := "757ab187f39edf43b23244afee3304be9267c09b638a6bb3179f70108f5afe96", func := "loop.example/g00396/laws.FnExactStxOk", spec := "fnExactStxOk", inPlace := ["internal/bytealg.IndexByteString", "internal/bytealg.IndexString"], unfollowed := true, recurses := true, named := ["internal/bytealg.MaxLen"], loops := true, apart := false, narrowed := true }
def FnExactStxOkUptoSaid : Prop := fnExactStxOkUptoRow.holds Try.pinned (OpenSpec.upto fnExactStxOkSpec)

/-- 'laws.FnExactFlipAll', WHERE WHAT IT READS IS OF BULK AT MOST 1048576: true; the input reads as it did. -/
def fnExactFlipAllUptoRow : OpenClaim := { program := "ytoifhaakieigcaa", sum := "757ab187f39edf43b23244afee3304be9267c09b638a6bb3179f70108f5afe96", func := "loop.example/g00396/laws.FnExactFlipAll", spec := "fnExactFlipAll", unfollowed := true, recurses := true, loops := true, apart := false, narrowed := true }
def FnExactFlipAllUptoSaid : Prop := fnExactFlipAllUptoRow.holds Try.pinned (OpenSpec.upto fnExactFlipAllSpec)

/-- 'laws.FnExactWithAll', WHERE WHAT IT READS IS OF BULK AT MOST 1048576: true; the input reads as it did. -/
def fnExactWithAllUptoRow : OpenClaim := { program := "ytoifhaakieigcaa", sum := "757ab187f39edf43b23244afee3304be9267c09b638a6bb3179f70108f5afe96", func := "loop.example/g00396/laws.FnExactWithAll", spec := "fnExactWithAll", unfollowed := true, recurses := true, loops := true, apart := false, narrowed := true }
def FnExactWithAllUptoSaid : Prop := fnExactWithAllUptoRow.holds Try.pinned (OpenSpec.upto fnExactWithAllSpec)

/-- 'laws.FnExactSameStx', WHERE WHAT IT READS IS OF BULK AT MOST 1048576: true; the input reads as it did. -/
def fnExactSameStxUptoRow : OpenClaim := { program := "ytoifhaakieigcaa", sum := "757ab187f39edf43b23244afee3304be9267c09b638a6bb3179f70108f5afe96", func := "loop.example/g00396/laws.FnExactSameStx", spec := "fnExactSameStx", recurses := true, loops := true, apart := false, narrowed := true }
def FnExactSameStxUptoSaid : Prop := fnExactSameStxUptoRow.holds Try.pinned (OpenSpec.upto fnExactSameStxSpec)

end Rows
end Go.Proofs.Ytoifhaakieigcaa
