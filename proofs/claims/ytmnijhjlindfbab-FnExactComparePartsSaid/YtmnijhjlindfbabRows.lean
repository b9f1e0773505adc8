/-
  No cell of these rows narrows 'for every input' (looked for: loops, veiled, ifaces, maps, wideKeys, modest, calm, conditions, laid).
  DERIVED. THE GIVEN ROWS OF THIS SEAT. 3 by the template 'for every input the law returns true; each argument reads behind the call as it read before'; 0 by the template 'total and deterministic' (their statements: YtmnijhjlindfbabTotals.lean).
  GIVEN WITH THE SEED: the statements are not yours to turn. If you find one false, say at which input.
  Laid BY PROGRAM, IN A SANDBOX (cutbox-rows.mjs): the forced cells as the released guide's own fill.sh prints them over the translation f848068e6ce4eacc… (all of the seat's roots in one cut). By AI agents, Wed Nov 11 2026. No macro, syntax, notation, axiom, sorry.
-/
import Derived.Test.YtmnijhjlindfbabChecked
import GoSem.Claim
import GoSem.ClaimJoined
import GoSem.ClaimMapViews
import Derived.JoinedTies
import Derived.KernelRfl
namespace Go.Proofs.Ytmnijhjlindfbab
/- THE CELL 'sum', in the pinned program and in every row, IS THE sha256 OF THE DUMP (.gsa) THAT YtmnijhjlindfbabProg.lean LOADS. Nothing in Lean hashes anything: it is a label: what it is worth is what the hold of that sum in a sandbox is worth. -/
noncomputable def Try.pinned : Pinned := { name := "ytmnijhjlindfbab", sum := "f848068e6ce4eacc4cc6e17d31dbc43b453b69ffd54c4f7c5849940424e58b9b", checked := Try.checked }
namespace Rows
def none {H : Type} : Left H := { results := [], args := [] }

/-- 'laws.FnExactTupleKey': WHATEVER THE INPUT: true; the input reads as it did. -/
def fnExactTupleKeySpec : ChangeSpec := { name := "fnExactTupleKey", fn := fun _ => fun
  | [d] => { results := [.lit (.bool true)], args := [d] }
  | _ => none }
def fnExactTupleKeyRow : OpenClaim := { program := "ytmnijhjlindfbab", sum := "f848068e6ce4eacc4cc6e17d31dbc43b453b69ffd54c4f7c5849940424e58b9b", func := "loop.example/g00163/laws.FnExactTupleKey", spec := "fnExactTupleKey", inPlace := ["math.Float64bits"], apart := false }
def FnExactTupleKeySaid : Prop := fnExactTupleKeyRow.holds Try.pinned (OpenSpec.ofChange fnExactTupleKeySpec)

/-- ITS FALSE NEIGHBOUR: 'it returns false'. Refute it at one input. -/
def fnExactTupleKeyWrong : ChangeSpec := { name := "fnExactTupleKey", fn := fun _ => fun
  | [d] => { results := [.lit (.bool false)], args := [d] }
  | _ => none }
def FnExactTupleKeyWrongFalsely : Prop := fnExactTupleKeyRow.holds Try.pinned (OpenSpec.ofChange fnExactTupleKeyWrong)

/-- 'laws.FnExactReadTuple': WHATEVER THE INPUT: true; the input reads as it did. -/
def fnExactReadTupleSpec : ChangeSpec := { name := "fnExactReadTuple", fn := fun _ => fun
  | [d] => { results := [.lit (.bool true)], args := [d] }
  | _ => none }
def fnExactReadTupleRow : OpenClaim := { program := "ytmnijhjlindfbab", sum := "f848068e6ce4eacc4cc6e17d31dbc43b453b69ffd54c4f7c5849940424e58b9b", func := "loop.example/g00163/laws.FnExactReadTuple", spec := "fnExactReadTuple", inPlace := ["math.Float64frombits"], apart := false }
def FnExactReadTupleSaid : Prop := fnExactReadTupleRow.holds Try.pinned (OpenSpec.ofChange fnExactReadTupleSpec)

/-- ITS FALSE NEIGHBOUR: 'it returns false'. Refute it at one input. -/
def fnExactReadTupleWrong : ChangeSpec := { name := "fnExactReadTuple", fn := fun _ => fun
  | [d] => { results := [.lit (.bool false)], args := [d] }
  | _ => none }
def FnExactReadTupleWrongFalsely : Prop := fnExactReadTupleRow.holds Try.pinned (OpenSpec.ofChange fnExactReadTupleWrong)

/-- 'laws.FnExactCompareParts': WHATEVER THE INPUT: true; the input reads as it did. -/
def fnExactComparePartsSpec : ChangeSpec := { name := "fnExactCompareParts", fn := fun _ => fun
  | [d1, d2] => { results := [.lit (.bool true)], args := [d1, d2] }
  | _ => none }
def fnExactComparePartsRow : OpenClaim := { program := "ytmnijhjlindfbab", sum := "f848068e6ce4eacc4cc6e17d31dbc43b453b69ffd54c4f7c5849940424e58b9b", func := "loop.example/g00163/laws.FnExactCompareParts", spec := "fnExactCompareParts", inPlace := ["math.Float64bits", "internal/bytealg.abigen_runtime_cmpstring"], apart := false }
def FnExactComparePartsSaid : Prop := fnExactComparePartsRow.holds Try.pinned (OpenSpec.ofChange fnExactComparePartsSpec)

/-- ITS FALSE NEIGHBOUR: 'it returns false'. Refute it at one input. -/
def fnExactComparePartsWrong : ChangeSpec := { name := "fnExactCompareParts", fn := fun _ => fun
  | [d1, d2] => { results := [.lit (.bool false)], args := [d1, d2] }
  | _ => none }
def FnExactComparePartsWrongFalsely : Prop := fnExactComparePartsRow.holds Try.pinned (OpenSpec.ofChange fnExactComparePartsWrong)

/- THE SECOND FORM. 'bulk': how many values and letters a reading holds, each counted each time it is reached (what is shared counts as often as it is met; a slice's spare places count too). A statement '..UptoSaid' is the law's where the arguments, and the package variables that the reading takes, are together of bulk at most 1048576: NARROWER than '..Said'. Prove '..Said' where nothing that the law and all that it calls make is longer than what came in: it says more and counts as full. Else prove '..UptoSaid'. A law counts once. -/
mutual
def uptoBulk {H : Type} : DataW H → Nat
  | .lit (.string bytes) => bytes.length + 1
  | .lit _ => 1
  | .nil => 1
  | .ptr d => uptoBulk d + 1
  | .slice elems spare => uptoBulkAll elems + uptoBulkAll spare + 1
  | .agg parts => uptoBulkAll parts + 1
  | .iface _ d => uptoBulk d + 1
  | .map entries => uptoBulkEntries entries + 1
  | .held _ => 1
def uptoBulkAll {H : Type} : List (DataW H) → Nat
  | [] => 0
  | d :: r => uptoBulk d + uptoBulkAll r
def uptoBulkEntries {H : Type} : List (Lit × DataW H) → Nat
  | [] => 0
  | x :: r => uptoBulkEntry x + uptoBulkEntries r
def uptoBulkEntry {H : Type} : Lit × DataW H → Nat
  | (.string bytes, d) => bytes.length + uptoBulk d + 1
  | (_, d) => uptoBulk d + 1
 end
def uptoSmall : (H : Type) → List (DataW H) → Bool := fun _ ds => decide (uptoBulkAll ds ≤ 1048576)
def OpenSpec.upto (s : _root_.Go.ChangeSpec) : _root_.Go.OpenSpec := { _root_.Go.OpenSpec.ofChange s with cond := some uptoSmall }

/-- 'laws.FnExactTupleKey', WHERE WHAT IT READS IS OF BULK AT MOST 1048576: true; the input reads as it did. -/
def fnExactTupleKeyUptoRow : OpenClaim := { program := "ytmnijhjlindfbab", sum := "f848068e6ce4eacc4cc6e17d31dbc43b453b69ffd54c4f7c5849940424e58b9b", func := "loop.example/g00163/laws.FnExactTupleKey", spec := "fnExactTupleKey", inPlace := ["math.Float64bits"], apart := false, narrowed := true }
def FnExactTupleKeyUptoSaid : Prop := fnExactTupleKeyUptoRow.holds Try.pinned (OpenSpec.upto fnExactTupleKeySpec)

/-- 'laws.FnExactReadTuple', WHERE WHAT IT READS IS OF BULK AT MOST 1048576: true; the input reads as it did. -/
def fnExactReadTupleUptoRow : OpenClaim := { program := "ytmnijhjlindfbab", sum := "f848068e6ce4eacc4cc6e17d31dbc43b453b69ffd54c4f7c5849940424e58b9b", func := "loop.example/g00163/laws.FnExactReadTuple", spec := "fnExactReadTuple", inPlace := ["math.Float64frombits"], apart := false, narrowed := true }
def FnExactReadTupleUptoSaid : Prop := fnExactReadTupleUptoRow.holds Try.pinned (OpenSpec.upto fnExactReadTupleSpec)

/-- 'laws.FnExactCompareParts', WHERE WHAT IT READS IS OF BULK AT MOST 1048576: true; the input reads as it did. -/
def fnExactComparePartsUptoRow : OpenClaim := { program := "ytmnijhjlindfbab", sum := "f848068e6ce4eacc4cc6e17d31dbc43b453b69ffd54c4f7c5849940424e58b9b", func := "loop.example/g00163/laws.FnExactCompareParts", spec := "fnExactCompareParts", inPlace := ["math.Float64bits", "internal/bytealg.abigen_runtime_cmpstring"], apart := false, narrowed := true }
def FnExactComparePartsUptoSaid : Prop := fnExactComparePartsUptoRow.holds Try.pinned (OpenSpec.upto fnExactComparePartsSpec)

end Rows
end Go.Proofs.Ytmnijhjlindfbab
