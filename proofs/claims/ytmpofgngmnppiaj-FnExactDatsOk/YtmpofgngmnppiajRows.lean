/-
  NARROWER THAN 'FOR EVERY INPUT', by the rows' own cells (each row's printed sentence says how): FnExactDatsOk: loops · FnExactSameDat: loops.
  DERIVED. THE GIVEN ROWS OF THIS SEAT. 3 by the template 'for every input the law returns true; each argument reads behind the call as it read before'; 0 by the template 'total and deterministic' (their statements: YtmpofgngmnppiajTotals.lean).
  GIVEN WITH THE SEED: the statements are not yours to turn. If you find one false, say at which input.
  Laid BY PROGRAM, IN A SANDBOX (cutbox-rows.mjs): the forced cells as the released guide's own fill.sh prints them over the translation e587837404693d97… (all of the seat's roots in one cut). By AI agents, Wed Nov 11 2026. No macro, syntax, notation, axiom, sorry.
-/
import Derived.Test.YtmpofgngmnppiajChecked
import GoSem.Claim
import GoSem.ClaimJoined
import GoSem.ClaimMapViews
import Derived.JoinedTies
import Derived.KernelRfl
namespace Go.Proofs.Ytmpofgngmnppiaj
/- THE CELL 'sum', in the pinned program and in every row, IS THE sha256 OF THE DUMP (.gsa) THAT YtmpofgngmnppiajProg.lean LOADS. Nothing in Lean hashes anything: it is a label: what it is worth is what the hold of that sum in a sandbox is worth. -/
noncomputable def Try.pinned : Pinned := { name := "ytmpofgngmnppiaj", sum := "e587837404693d97ea03610e59b5ebb97a1d8905bed34a0bb0655f959c41c155", checked := Try.checked }
namespace Rows
def none {H : Type} : Left H := { results := [], args := [] }

/-- 'laws.FnExactSymOk': WHATEVER THE INPUT: true; the input reads as it did. -/
def fnExactSymOkSpec : ChangeSpec := { name := "fnExactSymOk", fn := fun _ => fun
  | [d] => { results := [.lit (.bool true)], args := [d] }
  | _ => none }
def fnExactSymOkRow : OpenClaim := { program := "ytmpofgngmnppiaj", sum := "e587837404693d97ea03610e59b5ebb97a1d8905bed34a0bb0655f959c41c155", func := "loop.example/g00396/laws.FnExactSymOk", spec := "fnExactSymOk", inPlace := ["internal/bytealg.IndexByteString", "internal/bytealg.IndexString"], named := ["internal/bytealg.MaxLen"], apart := false }
def FnExactSymOkSaid : Prop := fnExactSymOkRow.holds Try.pinned (OpenSpec.ofChange fnExactSymOkSpec)

/-- ITS FALSE NEIGHBOUR: 'it returns false'. Refute it at one input. -/
def fnExactSymOkWrong : ChangeSpec := { name := "fnExactSymOk", fn := fun _ => fun
  | [d] => { results := [.lit (.bool false)], args := [d] }
  | _ => none }
def FnExactSymOkWrongFalsely : Prop := fnExactSymOkRow.holds Try.pinned (OpenSpec.ofChange fnExactSymOkWrong)

/-- 'laws.FnExactDatsOk': WHATEVER THE INPUT: true; the input reads as it did. -/
def fnExactDatsOkSpec : ChangeSpec := { name := "fnExactDatsOk", fn := fun _ => fun
  | [d] => { results := [.lit (.bool true)], args := [d] }
  | _ => none }
def fnExactDatsOkRow : OpenClaim := { program := "ytmpofgngmnppiaj", sum := "e587837404693d97ea03610e59b5ebb97a1d8905bed34a0bb0655f959c41c155", func := "loop.example/g00396/laws.FnExactDatsOk", spec := "fnExactDatsOk", inPlace := ["internal/bytealg.IndexByteString", "internal/bytealg.IndexString"], recurses := true, named := ["internal/bytealg.MaxLen"], loops := true, apart := false }
def FnExactDatsOkSaid : Prop := fnExactDatsOkRow.holds Try.pinned (OpenSpec.ofChange fnExactDatsOkSpec)

/-- ITS FALSE NEIGHBOUR: 'it returns false'. Refute it at one input. -/
def fnExactDatsOkWrong : ChangeSpec := { name := "fnExactDatsOk", fn := fun _ => fun
  | [d] => { results := [.lit (.bool false)], args := [d] }
  | _ => none }
def FnExactDatsOkWrongFalsely : Prop := fnExactDatsOkRow.holds Try.pinned (OpenSpec.ofChange fnExactDatsOkWrong)

/-- 'laws.FnExactSameDat': WHATEVER THE INPUT: true; the input reads as it did. -/
def fnExactSameDatSpec : ChangeSpec := { name := "fnExactSameDat", fn := fun _ => fun
  | [d1, d2] => { results := [.lit (.bool true)], args := [d1, d2] }
  | _ => none }
def fnExactSameDatRow : OpenClaim := { program := "ytmpofgngmnppiaj", sum := "e587837404693d97ea03610e59b5ebb97a1d8905bed34a0bb0655f959c41c155", func := "loop.example/g00396/laws.FnExactSameDat", spec := "fnExactSameDat", recurses := true, loops := true, apart := false }
def FnExactSameDatSaid : Prop := fnExactSameDatRow.holds Try.pinned (OpenSpec.ofChange fnExactSameDatSpec)

/-- ITS FALSE NEIGHBOUR: 'it returns false'. Refute it at one input. -/
def fnExactSameDatWrong : ChangeSpec := { name := "fnExactSameDat", fn := fun _ => fun
  | [d1, d2] => { results := [.lit (.bool false)], args := [d1, d2] }
  | _ => none }
def FnExactSameDatWrongFalsely : Prop := fnExactSameDatRow.holds Try.pinned (OpenSpec.ofChange fnExactSameDatWrong)

/- THE SECOND FORM. 'bulk': how many values and letters a reading holds, each counted each time it is reached (what is shared counts as often as it is met; a slice's spare places count too). A statement '..UptoSaid' is the law's where the arguments, and the package variables that the reading takes, are together of bulk at most 1048576: NARROWER than '..Said'. Prove '..Said' where nothing that the law and all that it calls make is longer than what came in: it says more and counts as full. Else prove '..UptoSaid'. A law counts once. -/
mutual
def uptoBulk {H : Type} : DataW H → Nat
  | .lit (.string bytes) => bytes.length + 1
  | .lit _ => 1
  | .nil => 1
  | .ptr d => uptoBulk d + 1
  | .slice elems spare => uptoBulkAll elems + uptoBulkAll spare + 1
  | .agg parts => uptoBulkAll parts + 1
  | .iface _ d => uptoBulk d + 1
  | .map entries => uptoBulkEntries entries + 1
  | .held _ => 1
def uptoBulkAll {H : Type} : List (DataW H) → Nat
  | [] => 0
  | d :: r => uptoBulk d + uptoBulkAll r
def uptoBulkEntries {H : Type} : List (Lit × DataW H) → Nat
  | [] => 0
  | x :: r => uptoBulkEntry x + uptoBulkEntries r
def uptoBulkEntry {H : Type} : Lit × DataW H → Nat
  | (.string bytes, d) => bytes.length + uptoBulk d + 1
  | (_, d) => uptoBulk d + 1
 end
def uptoSmall : (H : Type) → List (DataW H) → Bool := fun _ ds => decide (uptoBulkAll ds ≤ 1048576)
def OpenSpec.upto (s : _root_.Go.ChangeSpec) : _root_.Go.OpenSpec := { _root_.Go.OpenSpec.ofChange s with cond := some uptoSmall }

/-- 'laws.FnExactSymOk', WHERE WHAT IT READS IS OF BULK AT MOST 1048576: true; the input reads as it did. -/
def fnExactSymOkUptoRow : OpenClaim := { program := "ytmpofgngmnppiaj", sum := "e587837404693d97ea03610e59b5ebb97a1d8905bed34a0bb0655f959c41c155", func := "loop.example/g00396/laws.FnExactSymOk", spec := "fnExactSymOk", inPlace := ["internal/bytealg.IndexByteString", "internal/bytealg.IndexString"], named := ["internal/bytealg.MaxLen"], apart := false, narrowed := true }
def FnExactSymOkUptoSaid : Prop := fnExactSymOkUptoRow.holds Try.pinned (OpenSpec.upto fnExactSymOkSpec)

/-- 'laws.FnExactDatsOk', WHERE WHAT IT READS IS OF BULK AT MOST 1048576: true; the input reads as it did. -/
def fnExactDatsOkUptoRow : OpenClaim := { program := "ytmpofgngmnppiaj", sum := "e587837404693d97ea03610e59b5ebb97a1d8905bed34a0bb0655f959c41c155", func := "loop.example/g00396/laws.FnExactDatsOk", spec := "fnExactDatsOk", inPlace := ["internal/bytealg.IndexByteString", "internal/bytealg.IndexString"], recurses := true, named := ["internal/bytealg.MaxLen"], loops := true, apart := false, narrowed := true }
def FnExactDatsOkUptoSaid : Prop := fnExactDatsOkUptoRow.holds Try.pinned (OpenSpec.upto fnExactDatsOkSpec)

/-- 'laws.FnExactSameDat', WHERE WHAT IT READS IS OF BULK AT MOST 1048576: true; the input reads as it did. -/
def fnExactSameDatUptoRow : OpenClaim := { program := "ytmpofgngmnppiaj", sum := "e587837404693d97ea03610e59b5ebb97a1d8905bed34a0bb0655f959c41c155", func := "loop.example/g00396/laws.FnExactSameDat", spec := "fnExactSameDat", recurses := true, loops := true, apart := false, narrowed := true }
def FnExactSameDatUptoSaid : Prop := fnExactSameDatUptoRow.holds Try.pinned (OpenSpec.upto fnExactSameDatSpec)

end Rows
end Go.Proofs.Ytmpofgngmnppiaj
