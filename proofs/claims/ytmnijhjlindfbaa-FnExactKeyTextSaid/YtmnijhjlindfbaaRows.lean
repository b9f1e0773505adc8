/-
  No cell of these rows narrows 'for every input' (looked for: loops, veiled, ifaces, maps, wideKeys, modest, calm, conditions, laid).
  DERIVED. THE GIVEN ROWS OF THIS SEAT. 6 by the template 'for every input the law returns true; each argument reads behind the call as it read before'; 0 by the template 'total and deterministic' (their statements: YtmnijhjlindfbaaTotals.lean).
  GIVEN WITH THE SEED: the statements are not yours to turn. If you find one false, say at which input.
  Laid BY PROGRAM, IN A SANDBOX (cutbox-rows.mjs): the forced cells as the released guide's own fill.sh prints them over the translation 48e33246ca593eaa… (all of the seat's roots in one cut). By AI agents, Wed Nov 11 2026. No macro, syntax, notation, axiom, sorry.
-/
import Derived.Test.YtmnijhjlindfbaaChecked
import GoSem.Claim
import GoSem.ClaimJoined
import GoSem.ClaimMapViews
import Derived.JoinedTies
import Derived.KernelRfl
namespace Go.Proofs.Ytmnijhjlindfbaa
/- THE CELL 'sum', in the pinned program and in every row, IS THE sha256 OF THE DUMP (.gsa) THAT YtmnijhjlindfbaaProg.lean LOADS. Nothing in Lean hashes anything: it is a label: what it is worth is what the hold of that sum in a sandbox is worth. -/
noncomputable def Try.pinned : Pinned := { name := "ytmnijhjlindfbaa", sum := "48e33246ca593eaa2a135b7a2fe2ca36e0e0f00283c20f05400aa43d3e8c1faa", checked := Try.checked }
namespace Rows
def none {H : Type} : Left H := { results := [], args := [] }

/-- 'laws.FnExactNameOK': WHATEVER THE INPUT: true; the input reads as it did. -/
def fnExactNameOKSpec : ChangeSpec := { name := "fnExactNameOK", fn := fun _ => fun
  | [d] => { results := [.lit (.bool true)], args := [d] }
  | _ => none }
def fnExactNameOKRow : OpenClaim := { program := "ytmnijhjlindfbaa", sum := "48e33246ca593eaa2a135b7a2fe2ca36e0e0f00283c20f05400aa43d3e8c1faa", func := "loop.example/g00163/laws.FnExactNameOK", spec := "fnExactNameOK", apart := false }
def FnExactNameOKSaid : Prop := fnExactNameOKRow.holds Try.pinned (OpenSpec.ofChange fnExactNameOKSpec)

/-- ITS FALSE NEIGHBOUR: 'it returns false'. Refute it at one input. -/
def fnExactNameOKWrong : ChangeSpec := { name := "fnExactNameOK", fn := fun _ => fun
  | [d] => { results := [.lit (.bool false)], args := [d] }
  | _ => none }
def FnExactNameOKWrongFalsely : Prop := fnExactNameOKRow.holds Try.pinned (OpenSpec.ofChange fnExactNameOKWrong)

/-- 'laws.FnExactIntKey': WHATEVER THE INPUT: true; the input reads as it did. -/
def fnExactIntKeySpec : ChangeSpec := { name := "fnExactIntKey", fn := fun _ => fun
  | [d] => { results := [.lit (.bool true)], args := [d] }
  | _ => none }
def fnExactIntKeyRow : OpenClaim := { program := "ytmnijhjlindfbaa", sum := "48e33246ca593eaa2a135b7a2fe2ca36e0e0f00283c20f05400aa43d3e8c1faa", func := "loop.example/g00163/laws.FnExactIntKey", spec := "fnExactIntKey", apart := false }
def FnExactIntKeySaid : Prop := fnExactIntKeyRow.holds Try.pinned (OpenSpec.ofChange fnExactIntKeySpec)

/-- ITS FALSE NEIGHBOUR: 'it returns false'. Refute it at one input. -/
def fnExactIntKeyWrong : ChangeSpec := { name := "fnExactIntKey", fn := fun _ => fun
  | [d] => { results := [.lit (.bool false)], args := [d] }
  | _ => none }
def FnExactIntKeyWrongFalsely : Prop := fnExactIntKeyRow.holds Try.pinned (OpenSpec.ofChange fnExactIntKeyWrong)

/-- 'laws.FnExactFloatKey': WHATEVER THE INPUT: true; the input reads as it did. -/
def fnExactFloatKeySpec : ChangeSpec := { name := "fnExactFloatKey", fn := fun _ => fun
  | [d] => { results := [.lit (.bool true)], args := [d] }
  | _ => none }
def fnExactFloatKeyRow : OpenClaim := { program := "ytmnijhjlindfbaa", sum := "48e33246ca593eaa2a135b7a2fe2ca36e0e0f00283c20f05400aa43d3e8c1faa", func := "loop.example/g00163/laws.FnExactFloatKey", spec := "fnExactFloatKey", inPlace := ["math.Float64bits"], apart := false }
def FnExactFloatKeySaid : Prop := fnExactFloatKeyRow.holds Try.pinned (OpenSpec.ofChange fnExactFloatKeySpec)

/-- ITS FALSE NEIGHBOUR: 'it returns false'. Refute it at one input. -/
def fnExactFloatKeyWrong : ChangeSpec := { name := "fnExactFloatKey", fn := fun _ => fun
  | [d] => { results := [.lit (.bool false)], args := [d] }
  | _ => none }
def FnExactFloatKeyWrongFalsely : Prop := fnExactFloatKeyRow.holds Try.pinned (OpenSpec.ofChange fnExactFloatKeyWrong)

/-- 'laws.FnExactCompareFloats': WHATEVER THE INPUT: true; the input reads as it did. -/
def fnExactCompareFloatsSpec : ChangeSpec := { name := "fnExactCompareFloats", fn := fun _ => fun
  | [d1, d2] => { results := [.lit (.bool true)], args := [d1, d2] }
  | _ => none }
def fnExactCompareFloatsRow : OpenClaim := { program := "ytmnijhjlindfbaa", sum := "48e33246ca593eaa2a135b7a2fe2ca36e0e0f00283c20f05400aa43d3e8c1faa", func := "loop.example/g00163/laws.FnExactCompareFloats", spec := "fnExactCompareFloats", inPlace := ["math.Float64bits"], apart := false }
def FnExactCompareFloatsSaid : Prop := fnExactCompareFloatsRow.holds Try.pinned (OpenSpec.ofChange fnExactCompareFloatsSpec)

/-- ITS FALSE NEIGHBOUR: 'it returns false'. Refute it at one input. -/
def fnExactCompareFloatsWrong : ChangeSpec := { name := "fnExactCompareFloats", fn := fun _ => fun
  | [d1, d2] => { results := [.lit (.bool false)], args := [d1, d2] }
  | _ => none }
def FnExactCompareFloatsWrongFalsely : Prop := fnExactCompareFloatsRow.holds Try.pinned (OpenSpec.ofChange fnExactCompareFloatsWrong)

/-- 'laws.FnExactTextKey': WHATEVER THE INPUT: true; the input reads as it did. -/
def fnExactTextKeySpec : ChangeSpec := { name := "fnExactTextKey", fn := fun _ => fun
  | [d] => { results := [.lit (.bool true)], args := [d] }
  | _ => none }
def fnExactTextKeyRow : OpenClaim := { program := "ytmnijhjlindfbaa", sum := "48e33246ca593eaa2a135b7a2fe2ca36e0e0f00283c20f05400aa43d3e8c1faa", func := "loop.example/g00163/laws.FnExactTextKey", spec := "fnExactTextKey", apart := false }
def FnExactTextKeySaid : Prop := fnExactTextKeyRow.holds Try.pinned (OpenSpec.ofChange fnExactTextKeySpec)

/-- ITS FALSE NEIGHBOUR: 'it returns false'. Refute it at one input. -/
def fnExactTextKeyWrong : ChangeSpec := { name := "fnExactTextKey", fn := fun _ => fun
  | [d] => { results := [.lit (.bool false)], args := [d] }
  | _ => none }
def FnExactTextKeyWrongFalsely : Prop := fnExactTextKeyRow.holds Try.pinned (OpenSpec.ofChange fnExactTextKeyWrong)

/-- 'laws.FnExactKeyText': WHATEVER THE INPUT: true; the input reads as it did. -/
def fnExactKeyTextSpec : ChangeSpec := { name := "fnExactKeyText", fn := fun _ => fun
  | [d1, d2] => { results := [.lit (.bool true)], args := [d1, d2] }
  | _ => none }
def fnExactKeyTextRow : OpenClaim := { program := "ytmnijhjlindfbaa", sum := "48e33246ca593eaa2a135b7a2fe2ca36e0e0f00283c20f05400aa43d3e8c1faa", func := "loop.example/g00163/laws.FnExactKeyText", spec := "fnExactKeyText", apart := false }
def FnExactKeyTextSaid : Prop := fnExactKeyTextRow.holds Try.pinned (OpenSpec.ofChange fnExactKeyTextSpec)

/-- ITS FALSE NEIGHBOUR: 'it returns false'. Refute it at one input. -/
def fnExactKeyTextWrong : ChangeSpec := { name := "fnExactKeyText", fn := fun _ => fun
  | [d1, d2] => { results := [.lit (.bool false)], args := [d1, d2] }
  | _ => none }
def FnExactKeyTextWrongFalsely : Prop := fnExactKeyTextRow.holds Try.pinned (OpenSpec.ofChange fnExactKeyTextWrong)

/- THE SECOND FORM. 'bulk': how many values and letters a reading holds, each counted each time it is reached (what is shared counts as often as it is met; a slice's spare places count too). A statement '..UptoSaid' is the law's where the arguments, and the package variables that the reading takes, are together of bulk at most 1048576: NARROWER than '..Said'. Prove '..Said' where nothing that the law and all that it calls make is longer than what came in: it says more and counts as full. Else prove '..UptoSaid'. A law counts once. -/
mutual
def uptoBulk {H : Type} : DataW H → Nat
  | .lit (.string bytes) => bytes.length + 1
  | .lit _ => 1
  | .nil => 1
  | .ptr d => uptoBulk d + 1
  | .slice elems spare => uptoBulkAll elems + uptoBulkAll spare + 1
  | .agg parts => uptoBulkAll parts + 1
  | .iface _ d => uptoBulk d + 1
  | .map entries => uptoBulkEntries entries + 1
  | .held _ => 1
def uptoBulkAll {H : Type} : List (DataW H) → Nat
  | [] => 0
  | d :: r => uptoBulk d + uptoBulkAll r
def uptoBulkEntries {H : Type} : List (Lit × DataW H) → Nat
  | [] => 0
  | x :: r => uptoBulkEntry x + uptoBulkEntries r
def uptoBulkEntry {H : Type} : Lit × DataW H → Nat
  | (.string bytes, d) => bytes.length + uptoBulk d + 1
  | (_, d) => uptoBulk d + 1
 end
def uptoSmall : (H : Type) → List (DataW H) → Bool := fun _ ds => decide (uptoBulkAll ds ≤ 1048576)
def OpenSpec.upto (s : _root_.Go.ChangeSpec) : _root_.Go.OpenSpec := { _root_.Go.OpenSpec.ofChange s with cond := some uptoSmall }

/-- 'laws.FnExactNameOK', WHERE WHAT IT READS IS OF BULK AT MOST 1048576: true; the input reads as it did. -/
def fnExactNameOKUptoRow : OpenClaim := { program := "ytmnijhjlindfbaa", sum := "48e33246ca593eaa2a135b7a2fe2ca36e0e0f00283c20f05400aa43d3e8c1faa", func := "loop.example/g00163/laws.FnExactNameOK", spec := "fnExactNameOK", apart := false, narrowed := true }
def FnExactNameOKUptoSaid : Prop := fnExactNameOKUptoRow.holds Try.pinned (OpenSpec.upto fnExactNameOKSpec)

/-- 'laws.FnExactIntKey', WHERE WHAT IT READS IS OF BULK AT MOST 1048576: true; the input reads as it did. -/
def fnExactIntKeyUptoRow : OpenClaim := { program := "ytmnijhjlindfbaa", sum := "48e33246ca593eaa2a135b7a2fe2ca36e0e0f00283c20f05400aa43d3e8c1faa", func := "loop.example/g00163/laws.FnExactIntKey", spec := "fnExactIntKey", apart := false, narrowed := true }
def FnExactIntKeyUptoSaid : Prop := fnExactIntKeyUptoRow.holds Try.pinned (OpenSpec.upto fnExactIntKeySpec)

/-- 'laws.FnExactFloatKey', WHERE WHAT IT READS IS OF BULK AT MOST 1048576: true; the input reads as it did. -/
def fnExactFloatKeyUptoRow : OpenClaim := { program := "ytmnijhjlindfbaa", sum := "48e33246ca593eaa2a135b7a2fe2ca36e0e0f00283c20f05400aa43d3e8c1faa", func := "loop.example/g00163/laws.FnExactFloatKey", spec := "fnExactFloatKey", inPlace := ["math.Float64bits"], apart := false, narrowed := true }
def FnExactFloatKeyUptoSaid : Prop := fnExactFloatKeyUptoRow.holds Try.pinned (OpenSpec.upto fnExactFloatKeySpec)

/-- 'laws.FnExactCompareFloats', WHERE WHAT IT READS IS OF BULK AT MOST 1048576: true; the input reads as it did. -/
def fnExactCompareFloatsUptoRow : OpenClaim := { program := "ytmnijhjlindfbaa", sum := "48e33246ca593eaa2a135b7a2fe2ca36e0e0f00283c20f05400aa43d3e8c1faa", func := "loop.example/g00163/laws.FnExactCompareFloats", spec := "fnExactCompareFloats", inPlace := ["math.Float64bits"], apart := false, narrowed := true }
def FnExactCompareFloatsUptoSaid : Prop := fnExactCompareFloatsUptoRow.holds Try.pinned (OpenSpec.upto fnExactCompareFloatsSpec)

/-- 'laws.FnExactTextKey', WHERE WHAT IT READS IS OF BULK AT MOST 1048576: true; the input reads as it did. -/
def fnExactTextKeyUptoRow : OpenClaim := { program := "ytmnijhjlindfbaa", sum := "48e33246ca593eaa2a135b7a2fe2ca36e0e0f00283c20f05400aa43d3e8c1faa", func := "loop.example/g00163/laws.FnExactTextKey", spec := "fnExactTextKey", apart := false, narrowed := true }
def FnExactTextKeyUptoSaid : Prop := fnExactTextKeyUptoRow.holds Try.pinned (OpenSpec.upto fnExactTextKeySpec)

/-- 'laws.FnExactKeyText', WHERE WHAT IT READS IS OF BULK AT MOST 1048576: true; the input reads as it did. -/
def fnExactKeyTextUptoRow : OpenClaim := { program := "ytmnijhjlindfbaa", sum := "48e33246ca593eaa2a135b7a2fe2ca36e0e0f00283c20f05400aa43d3e8c1faa", func := "loop.example/g00163/laws.FnExactKeyText", spec := "fnExactKeyText", apart := false, narrowed := true }
def FnExactKeyTextUptoSaid : Prop := fnExactKeyTextUptoRow.holds Try.pinned (OpenSpec.upto fnExactKeyTextSpec)

end Rows
end Go.Proofs.Ytmnijhjlindfbaa
