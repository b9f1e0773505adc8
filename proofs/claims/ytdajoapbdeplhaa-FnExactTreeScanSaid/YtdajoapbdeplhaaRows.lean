/-
  No cell of these rows narrows 'for every input' (looked for: loops, veiled, ifaces, maps, wideKeys, modest, calm, conditions, laid).
  DERIVED. THE GIVEN ROWS OF THIS SEAT. 3 by the template 'for every input the law returns true; each argument reads behind the call as it read before'; 0 by the template 'total and deterministic' (their statements: YtdajoapbdeplhaaTotals.lean).
  GIVEN WITH THE SEED: the statements are not yours to turn. If you find one false, say at which input.
  Laid BY PROGRAM, IN A SANDBOX (cutbox-rows.mjs): the forced cells as the released guide's own fill.sh prints them over the translation d1efd4742a956262… (all of the seat's roots in one cut). By AI agents, Wed Nov 11 2026. No macro, syntax, notation, axiom, sorry.
-/
import Derived.Test.YtdajoapbdeplhaaChecked
import GoSem.Claim
import GoSem.ClaimJoined
import GoSem.ClaimMapViews
import Derived.JoinedTies
import Derived.KernelRfl
namespace Go.Proofs.Ytdajoapbdeplhaa
/- THE CELL 'sum', in the pinned program and in every row, IS THE sha256 OF THE DUMP (.gsa) THAT YtdajoapbdeplhaaProg.lean LOADS. Nothing in Lean hashes anything: it is a label: what it is worth is what the hold of that sum in a sandbox is worth. -/
noncomputable def Try.pinned : Pinned := { name := "ytdajoapbdeplhaa", sum := "d1efd4742a956262106212cd0dc219e493221331e0fe26d12c466752bcdc60c3", checked := Try.checked }
namespace Rows
def none {H : Type} : Left H := { results := [], args := [] }

/-- 'laws.FnExactTreeOK': WHATEVER THE INPUT: true; the input reads as it did. -/
def fnExactTreeOKSpec : ChangeSpec := { name := "fnExactTreeOK", fn := fun _ => fun
  | [d] => { results := [.lit (.bool true)], args := [d] }
  | _ => none }
def fnExactTreeOKRow : OpenClaim := { program := "ytdajoapbdeplhaa", sum := "d1efd4742a956262106212cd0dc219e493221331e0fe26d12c466752bcdc60c3", func := "loop.example/g00163/laws.FnExactTreeOK", spec := "fnExactTreeOK", inPlace := ["slices.overlaps[loop.example/g00163/impl.Entry]"], unfollowed := true, recurses := true, apart := false }
def FnExactTreeOKSaid : Prop := fnExactTreeOKRow.holds Try.pinned (OpenSpec.ofChange fnExactTreeOKSpec)

/-- ITS FALSE NEIGHBOUR: 'it returns false'. Refute it at one input. -/
def fnExactTreeOKWrong : ChangeSpec := { name := "fnExactTreeOK", fn := fun _ => fun
  | [d] => { results := [.lit (.bool false)], args := [d] }
  | _ => none }
def FnExactTreeOKWrongFalsely : Prop := fnExactTreeOKRow.holds Try.pinned (OpenSpec.ofChange fnExactTreeOKWrong)

/-- 'laws.FnExactTreeGet': WHATEVER THE INPUT: true; the input reads as it did. -/
def fnExactTreeGetSpec : ChangeSpec := { name := "fnExactTreeGet", fn := fun _ => fun
  | [d1, d2] => { results := [.lit (.bool true)], args := [d1, d2] }
  | _ => none }
def fnExactTreeGetRow : OpenClaim := { program := "ytdajoapbdeplhaa", sum := "d1efd4742a956262106212cd0dc219e493221331e0fe26d12c466752bcdc60c3", func := "loop.example/g00163/laws.FnExactTreeGet", spec := "fnExactTreeGet", inPlace := ["slices.overlaps[loop.example/g00163/impl.Entry]"], unfollowed := true, recurses := true, apart := false }
def FnExactTreeGetSaid : Prop := fnExactTreeGetRow.holds Try.pinned (OpenSpec.ofChange fnExactTreeGetSpec)

/-- ITS FALSE NEIGHBOUR: 'it returns false'. Refute it at one input. -/
def fnExactTreeGetWrong : ChangeSpec := { name := "fnExactTreeGet", fn := fun _ => fun
  | [d1, d2] => { results := [.lit (.bool false)], args := [d1, d2] }
  | _ => none }
def FnExactTreeGetWrongFalsely : Prop := fnExactTreeGetRow.holds Try.pinned (OpenSpec.ofChange fnExactTreeGetWrong)

/-- 'laws.FnExactTreeScan': WHATEVER THE INPUT: true; the input reads as it did. -/
def fnExactTreeScanSpec : ChangeSpec := { name := "fnExactTreeScan", fn := fun _ => fun
  | [d1, d2, d3] => { results := [.lit (.bool true)], args := [d1, d2, d3] }
  | _ => none }
def fnExactTreeScanRow : OpenClaim := { program := "ytdajoapbdeplhaa", sum := "d1efd4742a956262106212cd0dc219e493221331e0fe26d12c466752bcdc60c3", func := "loop.example/g00163/laws.FnExactTreeScan", spec := "fnExactTreeScan", inPlace := ["slices.overlaps[loop.example/g00163/impl.Entry]"], unfollowed := true, recurses := true, apart := false }
def FnExactTreeScanSaid : Prop := fnExactTreeScanRow.holds Try.pinned (OpenSpec.ofChange fnExactTreeScanSpec)

/-- ITS FALSE NEIGHBOUR: 'it returns false'. Refute it at one input. -/
def fnExactTreeScanWrong : ChangeSpec := { name := "fnExactTreeScan", fn := fun _ => fun
  | [d1, d2, d3] => { results := [.lit (.bool false)], args := [d1, d2, d3] }
  | _ => none }
def FnExactTreeScanWrongFalsely : Prop := fnExactTreeScanRow.holds Try.pinned (OpenSpec.ofChange fnExactTreeScanWrong)

/- THE SECOND FORM. 'bulk': how many values and letters a reading holds, each counted each time it is reached (what is shared counts as often as it is met; a slice's spare places count too). A statement '..UptoSaid' is the law's where the arguments, and the package variables that the reading takes, are together of bulk at most 1048576: NARROWER than '..Said'. Prove '..Said' where nothing that the law and all that it calls make is longer than what came in: it says more and counts as full. Else prove '..UptoSaid'. A law counts once. -/
mutual
def uptoBulk {H : Type} : DataW H → Nat
  | .lit (.string bytes) => bytes.length + 1
  | .lit _ => 1
  | .nil => 1
  | .ptr d => uptoBulk d + 1
  | .slice elems spare => uptoBulkAll elems + uptoBulkAll spare + 1
  | .agg parts => uptoBulkAll parts + 1
  | .iface _ d => uptoBulk d + 1
  | .map entries => uptoBulkEntries entries + 1
  | .held _ => 1
def uptoBulkAll {H : Type} : List (DataW H) → Nat
  | [] => 0
  | d :: r => uptoBulk d + uptoBulkAll r
def uptoBulkEntries {H : Type} : List (Lit × DataW H) → Nat
  | [] => 0
  | x :: r => uptoBulkEntry x + uptoBulkEntries r
def uptoBulkEntry {H : Type} : Lit × DataW H → Nat
  | (.string bytes, d) => bytes.length + uptoBulk d + 1
  | (_, d) => uptoBulk d + 1
 end
def uptoSmall : (H : Type) → List (DataW H) → Bool := fun _ ds => decide (uptoBulkAll ds ≤ 1048576)
def OpenSpec.upto (s : _root_.Go.ChangeSpec) : _root_.Go.OpenSpec := { _root_.Go.OpenSpec.ofChange s with cond := some uptoSmall }

/-- 'laws.FnExactTreeOK', WHERE WHAT IT READS IS OF BULK AT MOST 1048576: true; the input reads as it did. -/
def fnExactTreeOKUptoRow : OpenClaim := { program := "ytdajoapbdeplhaa", sum := "d1efd4742a956262106212cd0dc219e493221331e0fe26d12c466752bcdc60c3", func := "loop.example/g00163/laws.FnExactTreeOK", spec := "fnExactTreeOK", inPlace := ["slices.overlaps[loop.example/g00163/impl.Entry]"], unfollowed := true, recurses := true, apart := false, narrowed := true }
def FnExactTreeOKUptoSaid : Prop := fnExactTreeOKUptoRow.holds Try.pinned (OpenSpec.upto fnExactTreeOKSpec)

/-- 'laws.FnExactTreeGet', WHERE WHAT IT READS IS OF BULK AT MOST 1048576: true; the input reads as it did. -/
def fnExactTreeGetUptoRow : OpenClaim := { program := "ytdajoapbdeplhaa", sum := "d1efd4742a956262106212cd0dc219e493221331e0fe26d12c466752bcdc60c3", func := "loop.example/g00163/laws.FnExactTreeGet", spec := "fnExactTreeGet", inPlace := ["slices.overlaps[loop.example/g00163/impl.Entry]"], unfollowed := true, recurses := true, apart := false, narrowed := true }
def FnExactTreeGetUptoSaid : Prop := fnExactTreeGetUptoRow.holds Try.pinned (OpenSpec.upto fnExactTreeGetSpec)

/-- 'laws.FnExactTreeScan', WHERE WHAT IT READS IS OF BULK AT MOST 1048576: true; the input reads as it did. -/
def fnExactTreeScanUptoRow : OpenClaim := { program := "ytdajoapbdeplhaa", sum := "d1efd4742a956262106212cd0dc219e493221331e0fe26d12c466752bcdc60c3", func := "loop.example/g00163/laws.FnExactTreeScan", spec := "fnExactTreeScan", inPlace := ["slices.overlaps[loop.example/g00163/impl.Entry]"], unfollowed := true, recurses := true, apart := false, narrowed := true }
def FnExactTreeScanUptoSaid : Prop := fnExactTreeScanUptoRow.holds Try.pinned (OpenSpec.upto fnExactTreeScanSpec)

end Rows
end Go.Proofs.Ytdajoapbdeplhaa
