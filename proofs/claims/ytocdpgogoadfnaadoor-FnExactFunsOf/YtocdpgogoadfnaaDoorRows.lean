/-
  NARROWER THAN 'FOR EVERY INPUT', by the rows' own cells (each row's printed sentence says how): FnExactFunsBytes: laid · FnExactFunsOf: laid.
  DERIVED. THE GIVEN ROWS OF THIS SEAT. 2 by the template 'for every input the law returns true; each argument reads behind the call as it read before'; 0 by the template 'total and deterministic' (their statements: YtocdpgogoadfnaaDoorTotals.lean).
  GIVEN WITH THE SEED: the statements are not yours to turn. If you find one false, say at which input.
  Laid BY PROGRAM, IN A SANDBOX (cutbox-rows.mjs): the forced cells as the released guide's own fill.sh prints them over the translation e6c87d2348b256df… (all of the seat's roots in one cut). By AI agents, Wed Nov 11 2026. No macro, syntax, notation, axiom, sorry.
-/
import Derived.Test.YtocdpgogoadfnaaDoorChecked
import GoSem.Claim
import GoSem.ClaimJoined
import GoSem.ClaimMapViews
import Derived.JoinedTies
import Derived.KernelRfl
namespace Go.Proofs.YtocdpgogoadfnaaDoor
/- THE CELL 'sum', in the pinned program and in every row, IS THE sha256 OF THE DUMP (.gsa) THAT YtocdpgogoadfnaaDoorProg.lean LOADS. Nothing in Lean hashes anything: it is a label: what it is worth is what the hold of that sum in a sandbox is worth. -/
noncomputable def Tryd.pinned : Pinned := { name := "ytocdpgogoadfnaadoor", sum := "e6c87d2348b256dfa309148cff68b77470e54530a07b71933dbb49e8324adcc2", checked := Tryd.checked }
namespace Rows
def none {H : Type} : Left H := { results := [], args := [] }

/- WHAT THE LISTED PACKAGE-LEVEL VARIABLES READ AS WHEN THE CALL BEGINS. Each datum BY PROGRAM (the guide's laid-datum.mjs) off the statement by which the dump's own 'gosem.cut.vars' lays the variable. In a bare row this is a premise. The card (YtocdpgogoadfnaaDoorCards.lean) ties it to the program's text. -/
def laid_loop_example_g00396_impl_opNames {H : Type} : DataW H := .agg [.agg [.lit (.int .u8 0), .lit (.int .u8 0), .lit (.int .u8 0), .lit (.int .u8 0), .lit (.int .u8 0)], .agg [.lit (.int .u8 110), .lit (.int .u8 117), .lit (.int .u8 109), .lit (.int .u8 0), .lit (.int .u8 0)], .agg [.lit (.int .u8 108), .lit (.int .u8 111), .lit (.int .u8 99), .lit (.int .u8 97), .lit (.int .u8 108)], .agg [.lit (.int .u8 102), .lit (.int .u8 114), .lit (.int .u8 101), .lit (.int .u8 101), .lit (.int .u8 0)], .agg [.lit (.int .u8 115), .lit (.int .u8 101), .lit (.int .u8 108), .lit (.int .u8 102), .lit (.int .u8 0)], .agg [.lit (.int .u8 99), .lit (.int .u8 108), .lit (.int .u8 111), .lit (.int .u8 115), .lit (.int .u8 0)], .agg [.lit (.int .u8 99), .lit (.int .u8 97), .lit (.int .u8 108), .lit (.int .u8 108), .lit (.int .u8 0)], .agg [.lit (.int .u8 114), .lit (.int .u8 101), .lit (.int .u8 116), .lit (.int .u8 0), .lit (.int .u8 0)], .agg [.lit (.int .u8 99), .lit (.int .u8 111), .lit (.int .u8 110), .lit (.int .u8 0), .lit (.int .u8 0)], .agg [.lit (.int .u8 102), .lit (.int .u8 105), .lit (.int .u8 101), .lit (.int .u8 108), .lit (.int .u8 100)], .agg [.lit (.int .u8 105), .lit (.int .u8 115), .lit (.int .u8 99), .lit (.int .u8 111), .lit (.int .u8 110)], .agg [.lit (.int .u8 105), .lit (.int .u8 115), .lit (.int .u8 110), .lit (.int .u8 117), .lit (.int .u8 109)], .agg [.lit (.int .u8 97), .lit (.int .u8 100), .lit (.int .u8 100), .lit (.int .u8 0), .lit (.int .u8 0)], .agg [.lit (.int .u8 115), .lit (.int .u8 117), .lit (.int .u8 98), .lit (.int .u8 0), .lit (.int .u8 0)], .agg [.lit (.int .u8 109), .lit (.int .u8 117), .lit (.int .u8 108), .lit (.int .u8 0), .lit (.int .u8 0)], .agg [.lit (.int .u8 108), .lit (.int .u8 101), .lit (.int .u8 115), .lit (.int .u8 115), .lit (.int .u8 0)], .agg [.lit (.int .u8 115), .lit (.int .u8 97), .lit (.int .u8 109), .lit (.int .u8 101), .lit (.int .u8 0)], .agg [.lit (.int .u8 112), .lit (.int .u8 117), .lit (.int .u8 116), .lit (.int .u8 0), .lit (.int .u8 0)], .agg [.lit (.int .u8 122), .lit (.int .u8 101), .lit (.int .u8 114), .lit (.int .u8 111), .lit (.int .u8 0)], .agg [.lit (.int .u8 106), .lit (.int .u8 117), .lit (.int .u8 109), .lit (.int .u8 112), .lit (.int .u8 0)], .agg [.lit (.int .u8 115), .lit (.int .u8 108), .lit (.int .u8 105), .lit (.int .u8 100), .lit (.int .u8 101)], .agg [.lit (.int .u8 102), .lit (.int .u8 97), .lit (.int .u8 105), .lit (.int .u8 108), .lit (.int .u8 0)]]

/-- 'laws.FnExactFunsBytes': WHATEVER THE INPUT: true; the input reads as it did. -/
def fnExactFunsBytesSpec : ChangeSpec := { name := "fnExactFunsBytes", vars := ["loop.example/g00396/impl.opNames"], fn := fun _ => fun
  | [d, g1] => { results := [.lit (.bool true)], args := [d], vars := [g1] }
  | _ => none }
def fnExactFunsBytesRow : OpenClaim := { program := "ytocdpgogoadfnaadoor", sum := "e6c87d2348b256dfa309148cff68b77470e54530a07b71933dbb49e8324adcc2", func := "loop.example/g00396/laws.FnExactFunsBytes", spec := "fnExactFunsBytes", named := ["loop.example/g00396/impl.opNames"], apart := false, laid := [("loop.example/g00396/impl.opNames", laid_loop_example_g00396_impl_opNames)] }
def FnExactFunsBytesSaid : Prop := fnExactFunsBytesRow.holds Tryd.pinned (OpenSpec.ofChange fnExactFunsBytesSpec)

/-- ITS FALSE NEIGHBOUR: 'it returns false'. Refute it at one input. -/
def fnExactFunsBytesWrong : ChangeSpec := { name := "fnExactFunsBytes", vars := ["loop.example/g00396/impl.opNames"], fn := fun _ => fun
  | [d, g1] => { results := [.lit (.bool false)], args := [d], vars := [g1] }
  | _ => none }
def FnExactFunsBytesWrongFalsely : Prop := fnExactFunsBytesRow.holds Tryd.pinned (OpenSpec.ofChange fnExactFunsBytesWrong)

/-- 'laws.FnExactFunsOf': WHATEVER THE INPUT: true; the input reads as it did. -/
def fnExactFunsOfSpec : ChangeSpec := { name := "fnExactFunsOf", vars := ["loop.example/g00396/impl.opNames"], fn := fun _ => fun
  | [d, g1] => { results := [.lit (.bool true)], args := [d], vars := [g1] }
  | _ => none }
def fnExactFunsOfRow : OpenClaim := { program := "ytocdpgogoadfnaadoor", sum := "e6c87d2348b256dfa309148cff68b77470e54530a07b71933dbb49e8324adcc2", func := "loop.example/g00396/laws.FnExactFunsOf", spec := "fnExactFunsOf", unfollowed := true, recurses := true, named := ["loop.example/g00396/impl.opNames"], apart := false, laid := [("loop.example/g00396/impl.opNames", laid_loop_example_g00396_impl_opNames)] }
def FnExactFunsOfSaid : Prop := fnExactFunsOfRow.holds Tryd.pinned (OpenSpec.ofChange fnExactFunsOfSpec)

/-- ITS FALSE NEIGHBOUR: 'it returns false'. Refute it at one input. -/
def fnExactFunsOfWrong : ChangeSpec := { name := "fnExactFunsOf", vars := ["loop.example/g00396/impl.opNames"], fn := fun _ => fun
  | [d, g1] => { results := [.lit (.bool false)], args := [d], vars := [g1] }
  | _ => none }
def FnExactFunsOfWrongFalsely : Prop := fnExactFunsOfRow.holds Tryd.pinned (OpenSpec.ofChange fnExactFunsOfWrong)

/- THE SECOND FORM. 'bulk': how many values and letters a reading holds, each counted each time it is reached (what is shared counts as often as it is met; a slice's spare places count too). A statement '..UptoSaid' is the law's where the arguments, and the package variables that the reading takes, are together of bulk at most 1048576: NARROWER than '..Said'. Prove '..Said' where nothing that the law and all that it calls make is longer than what came in: it says more and counts as full. Else prove '..UptoSaid'. A law counts once. -/
mutual
def uptoBulk {H : Type} : DataW H → Nat
  | .lit (.string bytes) => bytes.length + 1
  | .lit _ => 1
  | .nil => 1
  | .ptr d => uptoBulk d + 1
  | .slice elems spare => uptoBulkAll elems + uptoBulkAll spare + 1
  | .agg parts => uptoBulkAll parts + 1
  | .iface _ d => uptoBulk d + 1
  | .map entries => uptoBulkEntries entries + 1
  | .held _ => 1
def uptoBulkAll {H : Type} : List (DataW H) → Nat
  | [] => 0
  | d :: r => uptoBulk d + uptoBulkAll r
def uptoBulkEntries {H : Type} : List (Lit × DataW H) → Nat
  | [] => 0
  | x :: r => uptoBulkEntry x + uptoBulkEntries r
def uptoBulkEntry {H : Type} : Lit × DataW H → Nat
  | (.string bytes, d) => bytes.length + uptoBulk d + 1
  | (_, d) => uptoBulk d + 1
 end
def uptoSmall : (H : Type) → List (DataW H) → Bool := fun _ ds => decide (uptoBulkAll ds ≤ 1048576)
def OpenSpec.upto (s : _root_.Go.ChangeSpec) : _root_.Go.OpenSpec := { _root_.Go.OpenSpec.ofChange s with cond := some uptoSmall }

/-- 'laws.FnExactFunsBytes', WHERE WHAT IT READS IS OF BULK AT MOST 1048576: true; the input reads as it did. -/
def fnExactFunsBytesUptoRow : OpenClaim := { program := "ytocdpgogoadfnaadoor", sum := "e6c87d2348b256dfa309148cff68b77470e54530a07b71933dbb49e8324adcc2", func := "loop.example/g00396/laws.FnExactFunsBytes", spec := "fnExactFunsBytes", named := ["loop.example/g00396/impl.opNames"], apart := false, laid := [("loop.example/g00396/impl.opNames", laid_loop_example_g00396_impl_opNames)], narrowed := true }
def FnExactFunsBytesUptoSaid : Prop := fnExactFunsBytesUptoRow.holds Tryd.pinned (OpenSpec.upto fnExactFunsBytesSpec)

/-- 'laws.FnExactFunsOf', WHERE WHAT IT READS IS OF BULK AT MOST 1048576: true; the input reads as it did. -/
def fnExactFunsOfUptoRow : OpenClaim := { program := "ytocdpgogoadfnaadoor", sum := "e6c87d2348b256dfa309148cff68b77470e54530a07b71933dbb49e8324adcc2", func := "loop.example/g00396/laws.FnExactFunsOf", spec := "fnExactFunsOf", unfollowed := true, recurses := true, named := ["loop.example/g00396/impl.opNames"], apart := false, laid := [("loop.example/g00396/impl.opNames", laid_loop_example_g00396_impl_opNames)], narrowed := true }
def FnExactFunsOfUptoSaid : Prop := fnExactFunsOfUptoRow.holds Tryd.pinned (OpenSpec.upto fnExactFunsOfSpec)

end Rows
end Go.Proofs.YtocdpgogoadfnaaDoor
