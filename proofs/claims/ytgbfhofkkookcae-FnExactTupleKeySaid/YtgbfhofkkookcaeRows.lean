/-
  No cell of these rows narrows 'for every input' (looked for: loops, veiled, ifaces, maps, wideKeys, modest, calm, conditions, laid).
  DERIVED. THE GIVEN ROWS OF THIS SEAT. 6 by the template 'for every input the law returns true; each argument reads behind the call as it read before'; 0 by the template 'total and deterministic' (their statements: YtgbfhofkkookcaeTotals.lean).
  GIVEN WITH THE SEED: the statements are not yours to turn. If you find one false, say at which input.
  Laid BY PROGRAM, IN A SANDBOX (cutbox-rows.mjs): the forced cells as the released guide's own fill.sh prints them over the translation 250538c6104b6f04… (all of the seat's roots in one cut). By AI agents, Wed Nov 11 2026. No macro, syntax, notation, axiom, sorry.
-/
import Derived.Test.YtgbfhofkkookcaeChecked
import GoSem.Claim
import GoSem.ClaimJoined
import GoSem.ClaimMapViews
import Derived.JoinedTies
import Derived.KernelRfl
namespace Go.Proofs.Ytgbfhofkkookcae
/- THE CELL 'sum', in the pinned program and in every row, IS THE sha256 OF THE DUMP (.gsa) THAT YtgbfhofkkookcaeProg.lean LOADS. Nothing in Lean hashes anything: it is a label: what it is worth is what the hold of that sum in a sandbox is worth. -/
noncomputable def Try.pinned : Pinned := { name := "ytgbfhofkkookcae", sum := "250538c6104b6f0480717a6ac890b2270711e735157d4800e91b9a4d14686e36", checked := Try.checked }
namespace Rows
def none {H : Type} : Left H := { results := [], args := [] }

/-- 'laws.FnExactFloatKey': WHATEVER THE INPUT: true; the input reads as it did. -/
def fnExactFloatKeySpec : ChangeSpec := { name := "fnExactFloatKey", fn := fun _ => fun
  | [d] => { results := [.lit (.bool true)], args := [d] }
  | _ => none }
def fnExactFloatKeyRow : OpenClaim := { program := "ytgbfhofkkookcae", sum := "250538c6104b6f0480717a6ac890b2270711e735157d4800e91b9a4d14686e36", func := "loop.example/g00163/laws.FnExactFloatKey", spec := "fnExactFloatKey", inPlace := ["math.Float64bits"], apart := false }
def FnExactFloatKeySaid : Prop := fnExactFloatKeyRow.holds Try.pinned (OpenSpec.ofChange fnExactFloatKeySpec)

/-- ITS FALSE NEIGHBOUR: 'it returns false'. Refute it at one input. -/
def fnExactFloatKeyWrong : ChangeSpec := { name := "fnExactFloatKey", fn := fun _ => fun
  | [d] => { results := [.lit (.bool false)], args := [d] }
  | _ => none }
def FnExactFloatKeyWrongFalsely : Prop := fnExactFloatKeyRow.holds Try.pinned (OpenSpec.ofChange fnExactFloatKeyWrong)

/-- 'laws.FnExactKeyFloat': WHATEVER THE INPUT: true; the input reads as it did. -/
def fnExactKeyFloatSpec : ChangeSpec := { name := "fnExactKeyFloat", fn := fun _ => fun
  | [d] => { results := [.lit (.bool true)], args := [d] }
  | _ => none }
def fnExactKeyFloatRow : OpenClaim := { program := "ytgbfhofkkookcae", sum := "250538c6104b6f0480717a6ac890b2270711e735157d4800e91b9a4d14686e36", func := "loop.example/g00163/laws.FnExactKeyFloat", spec := "fnExactKeyFloat", inPlace := ["math.Float64frombits"], apart := false }
def FnExactKeyFloatSaid : Prop := fnExactKeyFloatRow.holds Try.pinned (OpenSpec.ofChange fnExactKeyFloatSpec)

/-- ITS FALSE NEIGHBOUR: 'it returns false'. Refute it at one input. -/
def fnExactKeyFloatWrong : ChangeSpec := { name := "fnExactKeyFloat", fn := fun _ => fun
  | [d] => { results := [.lit (.bool false)], args := [d] }
  | _ => none }
def FnExactKeyFloatWrongFalsely : Prop := fnExactKeyFloatRow.holds Try.pinned (OpenSpec.ofChange fnExactKeyFloatWrong)

/-- 'laws.FnExactCompareFloats': WHATEVER THE INPUT: true; the input reads as it did. -/
def fnExactCompareFloatsSpec : ChangeSpec := { name := "fnExactCompareFloats", fn := fun _ => fun
  | [d1, d2] => { results := [.lit (.bool true)], args := [d1, d2] }
  | _ => none }
def fnExactCompareFloatsRow : OpenClaim := { program := "ytgbfhofkkookcae", sum := "250538c6104b6f0480717a6ac890b2270711e735157d4800e91b9a4d14686e36", func := "loop.example/g00163/laws.FnExactCompareFloats", spec := "fnExactCompareFloats", inPlace := ["math.Float64bits"], apart := false }
def FnExactCompareFloatsSaid : Prop := fnExactCompareFloatsRow.holds Try.pinned (OpenSpec.ofChange fnExactCompareFloatsSpec)

/-- ITS FALSE NEIGHBOUR: 'it returns false'. Refute it at one input. -/
def fnExactCompareFloatsWrong : ChangeSpec := { name := "fnExactCompareFloats", fn := fun _ => fun
  | [d1, d2] => { results := [.lit (.bool false)], args := [d1, d2] }
  | _ => none }
def FnExactCompareFloatsWrongFalsely : Prop := fnExactCompareFloatsRow.holds Try.pinned (OpenSpec.ofChange fnExactCompareFloatsWrong)

/-- 'laws.FnExactTextKey': WHATEVER THE INPUT: true; the input reads as it did. -/
def fnExactTextKeySpec : ChangeSpec := { name := "fnExactTextKey", fn := fun _ => fun
  | [d] => { results := [.lit (.bool true)], args := [d] }
  | _ => none }
def fnExactTextKeyRow : OpenClaim := { program := "ytgbfhofkkookcae", sum := "250538c6104b6f0480717a6ac890b2270711e735157d4800e91b9a4d14686e36", func := "loop.example/g00163/laws.FnExactTextKey", spec := "fnExactTextKey", apart := false }
def FnExactTextKeySaid : Prop := fnExactTextKeyRow.holds Try.pinned (OpenSpec.ofChange fnExactTextKeySpec)

/-- ITS FALSE NEIGHBOUR: 'it returns false'. Refute it at one input. -/
def fnExactTextKeyWrong : ChangeSpec := { name := "fnExactTextKey", fn := fun _ => fun
  | [d] => { results := [.lit (.bool false)], args := [d] }
  | _ => none }
def FnExactTextKeyWrongFalsely : Prop := fnExactTextKeyRow.holds Try.pinned (OpenSpec.ofChange fnExactTextKeyWrong)

/-- 'laws.FnExactKeyText': WHATEVER THE INPUT: true; the input reads as it did. -/
def fnExactKeyTextSpec : ChangeSpec := { name := "fnExactKeyText", fn := fun _ => fun
  | [d1, d2] => { results := [.lit (.bool true)], args := [d1, d2] }
  | _ => none }
def fnExactKeyTextRow : OpenClaim := { program := "ytgbfhofkkookcae", sum := "250538c6104b6f0480717a6ac890b2270711e735157d4800e91b9a4d14686e36", func := "loop.example/g00163/laws.FnExactKeyText", spec := "fnExactKeyText", apart := false }
def FnExactKeyTextSaid : Prop := fnExactKeyTextRow.holds Try.pinned (OpenSpec.ofChange fnExactKeyTextSpec)

/-- ITS FALSE NEIGHBOUR: 'it returns false'. Refute it at one input. -/
def fnExactKeyTextWrong : ChangeSpec := { name := "fnExactKeyText", fn := fun _ => fun
  | [d1, d2] => { results := [.lit (.bool false)], args := [d1, d2] }
  | _ => none }
def FnExactKeyTextWrongFalsely : Prop := fnExactKeyTextRow.holds Try.pinned (OpenSpec.ofChange fnExactKeyTextWrong)

/-- 'laws.FnExactTupleKey': WHATEVER THE INPUT: true; the input reads as it did. -/
def fnExactTupleKeySpec : ChangeSpec := { name := "fnExactTupleKey", fn := fun _ => fun
  | [d] => { results := [.lit (.bool true)], args := [d] }
  | _ => none }
def fnExactTupleKeyRow : OpenClaim := { program := "ytgbfhofkkookcae", sum := "250538c6104b6f0480717a6ac890b2270711e735157d4800e91b9a4d14686e36", func := "loop.example/g00163/laws.FnExactTupleKey", spec := "fnExactTupleKey", inPlace := ["math.Float64bits"], apart := false }
def FnExactTupleKeySaid : Prop := fnExactTupleKeyRow.holds Try.pinned (OpenSpec.ofChange fnExactTupleKeySpec)

/-- ITS FALSE NEIGHBOUR: 'it returns false'. Refute it at one input. -/
def fnExactTupleKeyWrong : ChangeSpec := { name := "fnExactTupleKey", fn := fun _ => fun
  | [d] => { results := [.lit (.bool false)], args := [d] }
  | _ => none }
def FnExactTupleKeyWrongFalsely : Prop := fnExactTupleKeyRow.holds Try.pinned (OpenSpec.ofChange fnExactTupleKeyWrong)

/- THE SECOND FORM. 'bulk': how many values and letters a reading holds, each counted each time it is reached (what is shared counts as often as it is met; a slice's spare places count too). A statement '..UptoSaid' is the law's where the arguments, and the package variables that the reading takes, are together of bulk at most 1048576: NARROWER than '..Said'. Prove '..Said' where nothing that the law and all that it calls make is longer than what came in: it says more and counts as full. Else prove '..UptoSaid'. A law counts once. -/
mutual
def uptoBulk {H : Type} : DataW H → Nat
  | .lit (.string bytes) => bytes.length + 1
  | .lit _ => 1
  | .nil => 1
  | .ptr d => uptoBulk d + 1
  | .slice elems spare => uptoBulkAll elems + uptoBulkAll spare + 1
  | .agg parts => uptoBulkAll parts + 1
  | .iface _ d => uptoBulk d + 1
  | .map entries => uptoBulkEntries entries + 1
  | .held _ => 1
def uptoBulkAll {H : Type} : List (DataW H) → Nat
  | [] => 0
  | d :: r => uptoBulk d + uptoBulkAll r
def uptoBulkEntries {H : Type} : List (Lit × DataW H) → Nat
  | [] => 0
  | x :: r => uptoBulkEntry x + uptoBulkEntries r
def uptoBulkEntry {H : Type} : Lit × DataW H → Nat
  | (.string bytes, d) => bytes.length + uptoBulk d + 1
  | (_, d) => uptoBulk d + 1
 end
def uptoSmall : (H : Type) → List (DataW H) → Bool := fun _ ds => decide (uptoBulkAll ds ≤ 1048576)
def OpenSpec.upto (s : _root_.Go.ChangeSpec) : _root_.Go.OpenSpec := { _root_.Go.OpenSpec.ofChange s with cond := some uptoSmall }

/-- 'laws.FnExactFloatKey', WHERE WHAT IT READS IS OF BULK AT MOST 1048576: true; the input reads as it did. -/
def fnExactFloatKeyUptoRow : OpenClaim := { program := "ytgbfhofkkookcae", sum := "250538c6104b6f0480717a6ac890b2270711e735157d4800e91b9a4d14686e36", func := "loop.example/g00163/laws.FnExactFloatKey", spec := "fnExactFloatKey", inPlace := ["math.Float64bits"], apart := false, narrowed := true }
def FnExactFloatKeyUptoSaid : Prop := fnExactFloatKeyUptoRow.holds Try.pinned (OpenSpec.upto fnExactFloatKeySpec)

/-- 'laws.FnExactKeyFloat', WHERE WHAT IT READS IS OF BULK AT MOST 1048576: true; the input reads as it did. -/
def fnExactKeyFloatUptoRow : OpenClaim := { program := "ytgbfhofkkookcae", sum := "250538c6104b6f0480717a6ac890b2270711e735157d4800e91b9a4d14686e36", func := "loop.example/g00163/laws.FnExactKeyFloat", spec := "fnExactKeyFloat", inPlace := ["math.Float64frombits"], apart := false, narrowed := true }
def FnExactKeyFloatUptoSaid : Prop := fnExactKeyFloatUptoRow.holds Try.pinned (OpenSpec.upto fnExactKeyFloatSpec)

/-- 'laws.FnExactCompareFloats', WHERE WHAT IT READS IS OF BULK AT MOST 1048576: true; the input reads as it did. -/
def fnExactCompareFloatsUptoRow : OpenClaim := { program := "ytgbfhofkkookcae", sum := "250538c6104b6f0480717a6ac890b2270711e735157d4800e91b9a4d14686e36", func := "loop.example/g00163/laws.FnExactCompareFloats", spec := "fnExactCompareFloats", inPlace := ["math.Float64bits"], apart := false, narrowed := true }
def FnExactCompareFloatsUptoSaid : Prop := fnExactCompareFloatsUptoRow.holds Try.pinned (OpenSpec.upto fnExactCompareFloatsSpec)

/-- 'laws.FnExactTextKey', WHERE WHAT IT READS IS OF BULK AT MOST 1048576: true; the input reads as it did. -/
def fnExactTextKeyUptoRow : OpenClaim := { program := "ytgbfhofkkookcae", sum := "250538c6104b6f0480717a6ac890b2270711e735157d4800e91b9a4d14686e36", func := "loop.example/g00163/laws.FnExactTextKey", spec := "fnExactTextKey", apart := false, narrowed := true }
def FnExactTextKeyUptoSaid : Prop := fnExactTextKeyUptoRow.holds Try.pinned (OpenSpec.upto fnExactTextKeySpec)

/-- 'laws.FnExactKeyText', WHERE WHAT IT READS IS OF BULK AT MOST 1048576: true; the input reads as it did. -/
def fnExactKeyTextUptoRow : OpenClaim := { program := "ytgbfhofkkookcae", sum := "250538c6104b6f0480717a6ac890b2270711e735157d4800e91b9a4d14686e36", func := "loop.example/g00163/laws.FnExactKeyText", spec := "fnExactKeyText", apart := false, narrowed := true }
def FnExactKeyTextUptoSaid : Prop := fnExactKeyTextUptoRow.holds Try.pinned (OpenSpec.upto fnExactKeyTextSpec)

/-- 'laws.FnExactTupleKey', WHERE WHAT IT READS IS OF BULK AT MOST 1048576: true; the input reads as it did. -/
def fnExactTupleKeyUptoRow : OpenClaim := { program := "ytgbfhofkkookcae", sum := "250538c6104b6f0480717a6ac890b2270711e735157d4800e91b9a4d14686e36", func := "loop.example/g00163/laws.FnExactTupleKey", spec := "fnExactTupleKey", inPlace := ["math.Float64bits"], apart := false, narrowed := true }
def FnExactTupleKeyUptoSaid : Prop := fnExactTupleKeyUptoRow.holds Try.pinned (OpenSpec.upto fnExactTupleKeySpec)

end Rows
end Go.Proofs.Ytgbfhofkkookcae
