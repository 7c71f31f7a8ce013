/-
  NARROWER THAN 'FOR EVERY INPUT', by the rows' own cells (each row's printed sentence says how): FnExactCoreOk: loops, laid.
  DERIVED. THE GIVEN ROWS OF THIS SEAT. 1 by the template 'for every input the law returns true; each argument reads behind the call as it read before'; 0 by the template 'total and deterministic' (their statements: YtefjnhkaampmcaaDoorTotals.lean).
  GIVEN WITH THE SEED: the statements are not yours to turn. If you find one false, say at which input.
  Laid BY PROGRAM, IN A SANDBOX (cutbox-rows.mjs): the forced cells as the released guide's own fill.sh prints them over the translation f58719f4cb28c2a2… (all of the seat's roots in one cut). By AI agents, Wed Nov 11 2026. No macro, syntax, notation, axiom, sorry.
-/
import Derived.Test.YtefjnhkaampmcaaDoorChecked
import GoSem.Claim
import GoSem.ClaimJoined
import GoSem.ClaimMapViews
import Derived.JoinedTies
import Derived.KernelRfl
namespace Go.Proofs.YtefjnhkaampmcaaDoor
/- THE CELL 'sum', in the pinned program and in every row, IS THE sha256 OF THE DUMP (.gsa) THAT YtefjnhkaampmcaaDoorProg.lean LOADS. Nothing in Lean hashes anything: it is a label: what it is worth is what the hold of that sum in a sandbox is worth. -/
noncomputable def Tryd.pinned : Pinned := { name := "ytefjnhkaampmcaadoor", sum := "f58719f4cb28c2a24a5cc99f7e42554f0b6b0cd63ca56b3742f6005ac0df1a1c", checked := Tryd.checked }
namespace Rows
def none {H : Type} : Left H := { results := [], args := [] }

/- WHAT THE LISTED PACKAGE-LEVEL VARIABLES READ AS WHEN THE CALL BEGINS. Each datum BY PROGRAM (the guide's laid-datum.mjs) off the statement by which the dump's own 'gosem.cut.vars' lays the variable. In a bare row this is a premise. The card (YtefjnhkaampmcaaDoorCards.lean) ties it to the program's text. -/
def laid_loop_example_g00396_impl_coreShapes {H : Type} : DataW H := .agg [.agg [.lit (.string [63]), .lit (.int .i64 0), .lit (.int .i64 0)], .agg [.lit (.string []), .lit (.int .i64 0), .lit (.int .i64 0)], .agg [.lit (.string []), .lit (.int .i64 1), .lit (.int .i64 0)], .agg [.lit (.string [102, 117, 110]), .lit (.int .i64 1), .lit (.int .i64 1)], .agg [.lit (.string [97, 112, 112]), .lit (.int .i64 0), .lit (.int .i64 2)], .agg [.lit (.string [108, 101, 116]), .lit (.int .i64 1), .lit (.int .i64 2)], .agg [.lit (.string [114, 101, 99]), .lit (.int .i64 2), .lit (.int .i64 2)], .agg [.lit (.string [105, 102]), .lit (.int .i64 0), .lit (.int .i64 3)], .agg [.lit (.string [43]), .lit (.int .i64 0), .lit (.int .i64 2)], .agg [.lit (.string [45]), .lit (.int .i64 0), .lit (.int .i64 2)], .agg [.lit (.string [42]), .lit (.int .i64 0), .lit (.int .i64 2)], .agg [.lit (.string [60]), .lit (.int .i64 0), .lit (.int .i64 2)], .agg [.lit (.string [61]), .lit (.int .i64 0), .lit (.int .i64 2)], .agg [.lit (.string []), .lit (.int .i64 0), .lit (.int .i64 0)], .agg [.lit (.string [99, 111, 110, 115]), .lit (.int .i64 0), .lit (.int .i64 2)], .agg [.lit (.string [99, 97, 114]), .lit (.int .i64 0), .lit (.int .i64 1)], .agg [.lit (.string [99, 100, 114]), .lit (.int .i64 0), .lit (.int .i64 1)], .agg [.lit (.string [112, 97, 105, 114, 63]), .lit (.int .i64 0), .lit (.int .i64 1)], .agg [.lit (.string [112, 117, 116]), .lit (.int .i64 0), .lit (.int .i64 1)]]

/-- 'laws.FnExactCoreOk': WHATEVER THE INPUT: true; the input reads as it did. -/
def fnExactCoreOkSpec : ChangeSpec := { name := "fnExactCoreOk", vars := ["loop.example/g00396/impl.coreShapes"], fn := fun _ => fun
  | [d, g1] => { results := [.lit (.bool true)], args := [d], vars := [g1] }
  | _ => none }
def fnExactCoreOkRow : OpenClaim := { program := "ytefjnhkaampmcaadoor", sum := "f58719f4cb28c2a24a5cc99f7e42554f0b6b0cd63ca56b3742f6005ac0df1a1c", func := "loop.example/g00396/laws.FnExactCoreOk", spec := "fnExactCoreOk", unfollowed := true, recurses := true, named := ["loop.example/g00396/impl.coreShapes"], loops := true, apart := false, laid := [("loop.example/g00396/impl.coreShapes", laid_loop_example_g00396_impl_coreShapes)] }
def FnExactCoreOkSaid : Prop := fnExactCoreOkRow.holds Tryd.pinned (OpenSpec.ofChange fnExactCoreOkSpec)

/-- ITS FALSE NEIGHBOUR: 'it returns false'. Refute it at one input. -/
def fnExactCoreOkWrong : ChangeSpec := { name := "fnExactCoreOk", vars := ["loop.example/g00396/impl.coreShapes"], fn := fun _ => fun
  | [d, g1] => { results := [.lit (.bool false)], args := [d], vars := [g1] }
  | _ => none }
def FnExactCoreOkWrongFalsely : Prop := fnExactCoreOkRow.holds Tryd.pinned (OpenSpec.ofChange fnExactCoreOkWrong)

/- THE SECOND FORM. 'bulk': how many values and letters a reading holds, each counted each time it is reached (what is shared counts as often as it is met; a slice's spare places count too). A statement '..UptoSaid' is the law's where the arguments, and the package variables that the reading takes, are together of bulk at most 1048576: NARROWER than '..Said'. Prove '..Said' where nothing that the law and all that it calls make is longer than what came in: it says more and counts as full. Else prove '..UptoSaid'. A law counts once. -/
mutual
def uptoBulk {H : Type} : DataW H → Nat
  | .lit (.string bytes) => bytes.length + 1
  | .lit _ => 1
  | .nil => 1
  | .ptr d => uptoBulk d + 1
  | .slice elems spare => uptoBulkAll elems + uptoBulkAll spare + 1
  | .agg parts => uptoBulkAll parts + 1
  | .iface _ d => uptoBulk d + 1
  | .map entries => uptoBulkEntries entries + 1
  | .held _ => 1
def uptoBulkAll {H : Type} : List (DataW H) → Nat
  | [] => 0
  | d :: r => uptoBulk d + uptoBulkAll r
def uptoBulkEntries {H : Type} : List (Lit × DataW H) → Nat
  | [] => 0
  | x :: r => uptoBulkEntry x + uptoBulkEntries r
def uptoBulkEntry {H : Type} : Lit × DataW H → Nat
  | (.string bytes, d) => bytes.length + uptoBulk d + 1
  | (_, d) => uptoBulk d + 1
 end
def uptoSmall : (H : Type) → List (DataW H) → Bool := fun _ ds => decide (uptoBulkAll ds ≤ 1048576)
def OpenSpec.upto (s : _root_.Go.ChangeSpec) : _root_.Go.OpenSpec := { _root_.Go.OpenSpec.ofChange s with cond := some uptoSmall }

/-- 'laws.FnExactCoreOk', WHERE WHAT IT READS IS OF BULK AT MOST 1048576: true; the input reads as it did. -/
def fnExactCoreOkUptoRow : OpenClaim := { program := "ytefjnhkaampmcaadoor", sum := "f58719f4cb28c2a24a5cc99f7e42554f0b6b0cd63ca56b3742f6005ac0df1a1c", func := "loop.example/g00396/laws.FnExactCoreOk", spec := "fnExactCoreOk", unfollowed := true, recurses := true, named := ["loop.example/g00396/impl.coreShapes"], loops := true, apart := false, laid := [("loop.example/g00396/impl.coreShapes", laid_loop_example_g00396_impl_coreShapes)], narrowed := true }
def FnExactCoreOkUptoSaid : Prop := fnExactCoreOkUptoRow.holds Tryd.pinned (OpenSpec.upto fnExactCoreOkSpec)

end Rows
end Go.Proofs.YtefjnhkaampmcaaDoor
