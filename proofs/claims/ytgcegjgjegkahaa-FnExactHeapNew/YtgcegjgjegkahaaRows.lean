/-
  No cell of these rows narrows 'for every input' (looked for: loops, veiled, ifaces, maps, wideKeys, modest, calm, conditions, laid).
  DERIVED. THE GIVEN ROWS OF THIS SEAT. 6 by the template 'for every input the law returns true; each argument reads behind the call as it read before'; 0 by the template 'total and deterministic' (their statements: YtgcegjgjegkahaaTotals.lean).
  GIVEN WITH THE SEED: the statements are not yours to turn. If you find one false, say at which input.
  Laid BY PROGRAM, IN A SANDBOX (cutbox-rows.mjs): the forced cells as the released guide's own fill.sh prints them over the translation d6bc10d8c06b5899… (all of the seat's roots in one cut). By AI agents, Wed Nov 11 2026. No macro, syntax, notation, axiom, sorry.
-/
import Derived.Test.YtgcegjgjegkahaaChecked
import GoSem.Claim
import GoSem.ClaimJoined
import GoSem.ClaimMapViews
import Derived.JoinedTies
import Derived.KernelRfl
namespace Go.Proofs.Ytgcegjgjegkahaa
/- THE CELL 'sum', in the pinned program and in every row, IS THE sha256 OF THE DUMP (.gsa) THAT YtgcegjgjegkahaaProg.lean LOADS. Nothing in Lean hashes anything: it is a label: what it is worth is what the hold of that sum in a sandbox is worth. -/
noncomputable def Try.pinned : Pinned := { name := "ytgcegjgjegkahaa", sum := "d6bc10d8c06b58993f7fad851c6c6998223140352b865e41f3d3ba9a4581cd17", checked := Try.checked }
namespace Rows
def none {H : Type} : Left H := { results := [], args := [] }

/-- 'laws.FnExactIntWord': WHATEVER THE INPUT: true; the input reads as it did. -/
def fnExactIntWordSpec : ChangeSpec := { name := "fnExactIntWord", fn := fun _ => fun
  | [d] => { results := [.lit (.bool true)], args := [d] }
  | _ => none }
def fnExactIntWordRow : OpenClaim := { program := "ytgcegjgjegkahaa", sum := "d6bc10d8c06b58993f7fad851c6c6998223140352b865e41f3d3ba9a4581cd17", func := "loop.example/g00396/laws.FnExactIntWord", spec := "fnExactIntWord", apart := false }
def FnExactIntWordSaid : Prop := fnExactIntWordRow.holds Try.pinned (OpenSpec.ofChange fnExactIntWordSpec)

/-- ITS FALSE NEIGHBOUR: 'it returns false'. Refute it at one input. -/
def fnExactIntWordWrong : ChangeSpec := { name := "fnExactIntWord", fn := fun _ => fun
  | [d] => { results := [.lit (.bool false)], args := [d] }
  | _ => none }
def FnExactIntWordWrongFalsely : Prop := fnExactIntWordRow.holds Try.pinned (OpenSpec.ofChange fnExactIntWordWrong)

/-- 'laws.FnExactRefWord': WHATEVER THE INPUT: true; the input reads as it did. -/
def fnExactRefWordSpec : ChangeSpec := { name := "fnExactRefWord", fn := fun _ => fun
  | [d] => { results := [.lit (.bool true)], args := [d] }
  | _ => none }
def fnExactRefWordRow : OpenClaim := { program := "ytgcegjgjegkahaa", sum := "d6bc10d8c06b58993f7fad851c6c6998223140352b865e41f3d3ba9a4581cd17", func := "loop.example/g00396/laws.FnExactRefWord", spec := "fnExactRefWord", apart := false }
def FnExactRefWordSaid : Prop := fnExactRefWordRow.holds Try.pinned (OpenSpec.ofChange fnExactRefWordSpec)

/-- ITS FALSE NEIGHBOUR: 'it returns false'. Refute it at one input. -/
def fnExactRefWordWrong : ChangeSpec := { name := "fnExactRefWord", fn := fun _ => fun
  | [d] => { results := [.lit (.bool false)], args := [d] }
  | _ => none }
def FnExactRefWordWrongFalsely : Prop := fnExactRefWordRow.holds Try.pinned (OpenSpec.ofChange fnExactRefWordWrong)

/-- 'laws.FnExactIsRef': WHATEVER THE INPUT: true; the input reads as it did. -/
def fnExactIsRefSpec : ChangeSpec := { name := "fnExactIsRef", fn := fun _ => fun
  | [d] => { results := [.lit (.bool true)], args := [d] }
  | _ => none }
def fnExactIsRefRow : OpenClaim := { program := "ytgcegjgjegkahaa", sum := "d6bc10d8c06b58993f7fad851c6c6998223140352b865e41f3d3ba9a4581cd17", func := "loop.example/g00396/laws.FnExactIsRef", spec := "fnExactIsRef", apart := false }
def FnExactIsRefSaid : Prop := fnExactIsRefRow.holds Try.pinned (OpenSpec.ofChange fnExactIsRefSpec)

/-- ITS FALSE NEIGHBOUR: 'it returns false'. Refute it at one input. -/
def fnExactIsRefWrong : ChangeSpec := { name := "fnExactIsRef", fn := fun _ => fun
  | [d] => { results := [.lit (.bool false)], args := [d] }
  | _ => none }
def FnExactIsRefWrongFalsely : Prop := fnExactIsRefRow.holds Try.pinned (OpenSpec.ofChange fnExactIsRefWrong)

/-- 'laws.FnExactWordInt': WHATEVER THE INPUT: true; the input reads as it did. -/
def fnExactWordIntSpec : ChangeSpec := { name := "fnExactWordInt", fn := fun _ => fun
  | [d] => { results := [.lit (.bool true)], args := [d] }
  | _ => none }
def fnExactWordIntRow : OpenClaim := { program := "ytgcegjgjegkahaa", sum := "d6bc10d8c06b58993f7fad851c6c6998223140352b865e41f3d3ba9a4581cd17", func := "loop.example/g00396/laws.FnExactWordInt", spec := "fnExactWordInt", apart := false }
def FnExactWordIntSaid : Prop := fnExactWordIntRow.holds Try.pinned (OpenSpec.ofChange fnExactWordIntSpec)

/-- ITS FALSE NEIGHBOUR: 'it returns false'. Refute it at one input. -/
def fnExactWordIntWrong : ChangeSpec := { name := "fnExactWordInt", fn := fun _ => fun
  | [d] => { results := [.lit (.bool false)], args := [d] }
  | _ => none }
def FnExactWordIntWrongFalsely : Prop := fnExactWordIntRow.holds Try.pinned (OpenSpec.ofChange fnExactWordIntWrong)

/-- 'laws.FnExactWordRef': WHATEVER THE INPUT: true; the input reads as it did. -/
def fnExactWordRefSpec : ChangeSpec := { name := "fnExactWordRef", fn := fun _ => fun
  | [d] => { results := [.lit (.bool true)], args := [d] }
  | _ => none }
def fnExactWordRefRow : OpenClaim := { program := "ytgcegjgjegkahaa", sum := "d6bc10d8c06b58993f7fad851c6c6998223140352b865e41f3d3ba9a4581cd17", func := "loop.example/g00396/laws.FnExactWordRef", spec := "fnExactWordRef", apart := false }
def FnExactWordRefSaid : Prop := fnExactWordRefRow.holds Try.pinned (OpenSpec.ofChange fnExactWordRefSpec)

/-- ITS FALSE NEIGHBOUR: 'it returns false'. Refute it at one input. -/
def fnExactWordRefWrong : ChangeSpec := { name := "fnExactWordRef", fn := fun _ => fun
  | [d] => { results := [.lit (.bool false)], args := [d] }
  | _ => none }
def FnExactWordRefWrongFalsely : Prop := fnExactWordRefRow.holds Try.pinned (OpenSpec.ofChange fnExactWordRefWrong)

/-- 'laws.FnExactHeapNew': WHATEVER THE INPUT: true; the input reads as it did. -/
def fnExactHeapNewSpec : ChangeSpec := { name := "fnExactHeapNew", fn := fun _ => fun
  | [d] => { results := [.lit (.bool true)], args := [d] }
  | _ => none }
def fnExactHeapNewRow : OpenClaim := { program := "ytgcegjgjegkahaa", sum := "d6bc10d8c06b58993f7fad851c6c6998223140352b865e41f3d3ba9a4581cd17", func := "loop.example/g00396/laws.FnExactHeapNew", spec := "fnExactHeapNew", apart := false }
def FnExactHeapNewSaid : Prop := fnExactHeapNewRow.holds Try.pinned (OpenSpec.ofChange fnExactHeapNewSpec)

/-- ITS FALSE NEIGHBOUR: 'it returns false'. Refute it at one input. -/
def fnExactHeapNewWrong : ChangeSpec := { name := "fnExactHeapNew", fn := fun _ => fun
  | [d] => { results := [.lit (.bool false)], args := [d] }
  | _ => none }
def FnExactHeapNewWrongFalsely : Prop := fnExactHeapNewRow.holds Try.pinned (OpenSpec.ofChange fnExactHeapNewWrong)

/- THE SECOND FORM. 'bulk': how many values and letters a reading holds, each counted each time it is reached (what is shared counts as often as it is met; a slice's spare places count too). A statement '..UptoSaid' is the law's where the arguments, and the package variables that the reading takes, are together of bulk at most 1048576: NARROWER than '..Said'. Prove '..Said' where nothing that the law and all that it calls make is longer than what came in: it says more and counts as full. Else prove '..UptoSaid'. A law counts once. -/
mutual
def uptoBulk {H : Type} : DataW H → Nat
  | .lit (.string bytes) => bytes.length + 1
  | .lit _ => 1
  | .nil => 1
  | .ptr d => uptoBulk d + 1
  | .slice elems spare => uptoBulkAll elems + uptoBulkAll spare + 1
  | .agg parts => uptoBulkAll parts + 1
  | .iface _ d => uptoBulk d + 1
  | .map entries => uptoBulkEntries entries + 1
  | .held _ => 1
def uptoBulkAll {H : Type} : List (DataW H) → Nat
  | [] => 0
  | d :: r => uptoBulk d + uptoBulkAll r
def uptoBulkEntries {H : Type} : List (Lit × DataW H) → Nat
  | [] => 0
  | x :: r => uptoBulkEntry x + uptoBulkEntries r
def uptoBulkEntry {H : Type} : Lit × DataW H → Nat
  | (.string bytes, d) => bytes.length + uptoBulk d + 1
  | (_, d) => uptoBulk d + 1
 end
def uptoSmall : (H : Type) → List (DataW H) → Bool := fun _ ds => decide (uptoBulkAll ds ≤ 1048576)
def OpenSpec.upto (s : _root_.Go.ChangeSpec) : _root_.Go.OpenSpec := { _root_.Go.OpenSpec.ofChange s with cond := some uptoSmall }

/-- 'laws.FnExactIntWord', WHERE WHAT IT READS IS OF BULK AT MOST 1048576: true; the input reads as it did. -/
def fnExactIntWordUptoRow : OpenClaim := { program := "ytgcegjgjegkahaa", sum := "d6bc10d8c06b58993f7fad851c6c6998223140352b865e41f3d3ba9a4581cd17", func := "loop.example/g00396/laws.FnExactIntWord", spec := "fnExactIntWord", apart := false, narrowed := true }
def FnExactIntWordUptoSaid : Prop := fnExactIntWordUptoRow.holds Try.pinned (OpenSpec.upto fnExactIntWordSpec)

/-- 'laws.FnExactRefWord', WHERE WHAT IT READS IS OF BULK AT MOST 1048576: true; the input reads as it did. -/
def fnExactRefWordUptoRow : OpenClaim := { program := "ytgcegjgjegkahaa", sum := "d6bc10d8c06b58993f7fad851c6c6998223140352b865e41f3d3ba9a4581cd17", func := "loop.example/g00396/laws.FnExactRefWord", spec := "fnExactRefWord", apart := false, narrowed := true }
def FnExactRefWordUptoSaid : Prop := fnExactRefWordUptoRow.holds Try.pinned (OpenSpec.upto fnExactRefWordSpec)

/-- 'laws.FnExactIsRef', WHERE WHAT IT READS IS OF BULK AT MOST 1048576: true; the input reads as it did. -/
def fnExactIsRefUptoRow : OpenClaim := { program := "ytgcegjgjegkahaa", sum := "d6bc10d8c06b58993f7fad851c6c6998223140352b865e41f3d3ba9a4581cd17", func := "loop.example/g00396/laws.FnExactIsRef", spec := "fnExactIsRef", apart := false, narrowed := true }
def FnExactIsRefUptoSaid : Prop := fnExactIsRefUptoRow.holds Try.pinned (OpenSpec.upto fnExactIsRefSpec)

/-- 'laws.FnExactWordInt', WHERE WHAT IT READS IS OF BULK AT MOST 1048576: true; the input reads as it did. -/
def fnExactWordIntUptoRow : OpenClaim := { program := "ytgcegjgjegkahaa", sum := "d6bc10d8c06b58993f7fad851c6c6998223140352b865e41f3d3ba9a4581cd17", func := "loop.example/g00396/laws.FnExactWordInt", spec := "fnExactWordInt", apart := false, narrowed := true }
def FnExactWordIntUptoSaid : Prop := fnExactWordIntUptoRow.holds Try.pinned (OpenSpec.upto fnExactWordIntSpec)

/-- 'laws.FnExactWordRef', WHERE WHAT IT READS IS OF BULK AT MOST 1048576: true; the input reads as it did. -/
def fnExactWordRefUptoRow : OpenClaim := { program := "ytgcegjgjegkahaa", sum := "d6bc10d8c06b58993f7fad851c6c6998223140352b865e41f3d3ba9a4581cd17", func := "loop.example/g00396/laws.FnExactWordRef", spec := "fnExactWordRef", apart := false, narrowed := true }
def FnExactWordRefUptoSaid : Prop := fnExactWordRefUptoRow.holds Try.pinned (OpenSpec.upto fnExactWordRefSpec)

/-- 'laws.FnExactHeapNew', WHERE WHAT IT READS IS OF BULK AT MOST 1048576: true; the input reads as it did. -/
def fnExactHeapNewUptoRow : OpenClaim := { program := "ytgcegjgjegkahaa", sum := "d6bc10d8c06b58993f7fad851c6c6998223140352b865e41f3d3ba9a4581cd17", func := "loop.example/g00396/laws.FnExactHeapNew", spec := "fnExactHeapNew", apart := false, narrowed := true }
def FnExactHeapNewUptoSaid : Prop := fnExactHeapNewUptoRow.holds Try.pinned (OpenSpec.upto fnExactHeapNewSpec)

end Rows
end Go.Proofs.Ytgcegjgjegkahaa
