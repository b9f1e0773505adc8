/-
  No cell of these rows narrows 'for every input' (looked for: loops, veiled, ifaces, maps, wideKeys, modest, calm, conditions, laid).
  DERIVED. THE GIVEN ROWS OF THIS SEAT. 5 by the template 'for every input the law returns true; each argument reads behind the call as it read before'; 0 by the template 'total and deterministic' (their statements: YtdiakahaghggiaaTotals.lean).
  GIVEN WITH THE SEED: the statements are not yours to turn. If you find one false, say at which input.
  Laid BY PROGRAM, IN A SANDBOX (cutbox-rows.mjs): the forced cells as the released guide's own fill.sh prints them over the translation 0ce0799a81aff0e1… (all of the seat's roots in one cut). By AI agents, Wed Nov 11 2026. No macro, syntax, notation, axiom, sorry.
-/
import Derived.Test.YtdiakahaghggiaaChecked
import GoSem.Claim
import GoSem.ClaimJoined
import GoSem.ClaimMapViews
import Derived.JoinedTies
import Derived.KernelRfl
namespace Go.Proofs.Ytdiakahaghggiaa
/- THE CELL 'sum', in the pinned program and in every row, IS THE sha256 OF THE DUMP (.gsa) THAT YtdiakahaghggiaaProg.lean LOADS. Nothing in Lean hashes anything: it is a label: what it is worth is what the hold of that sum in a sandbox is worth. -/
noncomputable def Try.pinned : Pinned := { name := "ytdiakahaghggiaa", sum := "0ce0799a81aff0e160f570e6ae4c630c224e7bc55979a66155fe16a1cd5916ae", checked := Try.checked }
namespace Rows
def none {H : Type} : Left H := { results := [], args := [] }

/-- 'laws.FnExactFlashOK': WHATEVER THE INPUT: true; the input reads as it did. -/
def fnExactFlashOKSpec : ChangeSpec := { name := "fnExactFlashOK", fn := fun _ => fun
  | [d] => { results := [.lit (.bool true)], args := [d] }
  | _ => none }
def fnExactFlashOKRow : OpenClaim := { program := "ytdiakahaghggiaa", sum := "0ce0799a81aff0e160f570e6ae4c630c224e7bc55979a66155fe16a1cd5916ae", func := "loop.example/g00163/laws.FnExactFlashOK", spec := "fnExactFlashOK", apart := false }
def FnExactFlashOKSaid : Prop := fnExactFlashOKRow.holds Try.pinned (OpenSpec.ofChange fnExactFlashOKSpec)

/-- ITS FALSE NEIGHBOUR: 'it returns false'. Refute it at one input. -/
def fnExactFlashOKWrong : ChangeSpec := { name := "fnExactFlashOK", fn := fun _ => fun
  | [d] => { results := [.lit (.bool false)], args := [d] }
  | _ => none }
def FnExactFlashOKWrongFalsely : Prop := fnExactFlashOKRow.holds Try.pinned (OpenSpec.ofChange fnExactFlashOKWrong)

/-- 'laws.FnExactFlashRead': WHATEVER THE INPUT: true; the input reads as it did. -/
def fnExactFlashReadSpec : ChangeSpec := { name := "fnExactFlashRead", fn := fun _ => fun
  | [d] => { results := [.lit (.bool true)], args := [d] }
  | _ => none }
def fnExactFlashReadRow : OpenClaim := { program := "ytdiakahaghggiaa", sum := "0ce0799a81aff0e160f570e6ae4c630c224e7bc55979a66155fe16a1cd5916ae", func := "loop.example/g00163/laws.FnExactFlashRead", spec := "fnExactFlashRead", inPlace := ["maps.clone"], apart := false }
def FnExactFlashReadSaid : Prop := fnExactFlashReadRow.holds Try.pinned (OpenSpec.ofChange fnExactFlashReadSpec)

/-- ITS FALSE NEIGHBOUR: 'it returns false'. Refute it at one input. -/
def fnExactFlashReadWrong : ChangeSpec := { name := "fnExactFlashRead", fn := fun _ => fun
  | [d] => { results := [.lit (.bool false)], args := [d] }
  | _ => none }
def FnExactFlashReadWrongFalsely : Prop := fnExactFlashReadRow.holds Try.pinned (OpenSpec.ofChange fnExactFlashReadWrong)

/-- 'laws.FnExactFlashCrash': WHATEVER THE INPUT: true; the input reads as it did. -/
def fnExactFlashCrashSpec : ChangeSpec := { name := "fnExactFlashCrash", fn := fun _ => fun
  | [d1, d2, d3] => { results := [.lit (.bool true)], args := [d1, d2, d3] }
  | _ => none }
def fnExactFlashCrashRow : OpenClaim := { program := "ytdiakahaghggiaa", sum := "0ce0799a81aff0e160f570e6ae4c630c224e7bc55979a66155fe16a1cd5916ae", func := "loop.example/g00163/laws.FnExactFlashCrash", spec := "fnExactFlashCrash", inPlace := ["maps.clone"], apart := false }
def FnExactFlashCrashSaid : Prop := fnExactFlashCrashRow.holds Try.pinned (OpenSpec.ofChange fnExactFlashCrashSpec)

/-- ITS FALSE NEIGHBOUR: 'it returns false'. Refute it at one input. -/
def fnExactFlashCrashWrong : ChangeSpec := { name := "fnExactFlashCrash", fn := fun _ => fun
  | [d1, d2, d3] => { results := [.lit (.bool false)], args := [d1, d2, d3] }
  | _ => none }
def FnExactFlashCrashWrongFalsely : Prop := fnExactFlashCrashRow.holds Try.pinned (OpenSpec.ofChange fnExactFlashCrashWrong)

/-- 'laws.FnExactCrc': WHATEVER THE INPUT: true; the input reads as it did. -/
def fnExactCrcSpec : ChangeSpec := { name := "fnExactCrc", fn := fun _ => fun
  | [d] => { results := [.lit (.bool true)], args := [d] }
  | _ => none }
def fnExactCrcRow : OpenClaim := { program := "ytdiakahaghggiaa", sum := "0ce0799a81aff0e160f570e6ae4c630c224e7bc55979a66155fe16a1cd5916ae", func := "loop.example/g00163/laws.FnExactCrc", spec := "fnExactCrc", apart := false }
def FnExactCrcSaid : Prop := fnExactCrcRow.holds Try.pinned (OpenSpec.ofChange fnExactCrcSpec)

/-- ITS FALSE NEIGHBOUR: 'it returns false'. Refute it at one input. -/
def fnExactCrcWrong : ChangeSpec := { name := "fnExactCrc", fn := fun _ => fun
  | [d] => { results := [.lit (.bool false)], args := [d] }
  | _ => none }
def FnExactCrcWrongFalsely : Prop := fnExactCrcRow.holds Try.pinned (OpenSpec.ofChange fnExactCrcWrong)

/-- 'laws.FnExactImageBytes': WHATEVER THE INPUT: true; the input reads as it did. -/
def fnExactImageBytesSpec : ChangeSpec := { name := "fnExactImageBytes", fn := fun _ => fun
  | [d] => { results := [.lit (.bool true)], args := [d] }
  | _ => none }
def fnExactImageBytesRow : OpenClaim := { program := "ytdiakahaghggiaa", sum := "0ce0799a81aff0e160f570e6ae4c630c224e7bc55979a66155fe16a1cd5916ae", func := "loop.example/g00163/laws.FnExactImageBytes", spec := "fnExactImageBytes", apart := false }
def FnExactImageBytesSaid : Prop := fnExactImageBytesRow.holds Try.pinned (OpenSpec.ofChange fnExactImageBytesSpec)

/-- ITS FALSE NEIGHBOUR: 'it returns false'. Refute it at one input. -/
def fnExactImageBytesWrong : ChangeSpec := { name := "fnExactImageBytes", fn := fun _ => fun
  | [d] => { results := [.lit (.bool false)], args := [d] }
  | _ => none }
def FnExactImageBytesWrongFalsely : Prop := fnExactImageBytesRow.holds Try.pinned (OpenSpec.ofChange fnExactImageBytesWrong)

/- THE SECOND FORM. 'bulk': how many values and letters a reading holds, each counted each time it is reached (what is shared counts as often as it is met; a slice's spare places count too). A statement '..UptoSaid' is the law's where the arguments, and the package variables that the reading takes, are together of bulk at most 1048576: NARROWER than '..Said'. Prove '..Said' where nothing that the law and all that it calls make is longer than what came in: it says more and counts as full. Else prove '..UptoSaid'. A law counts once. -/
mutual
def uptoBulk {H : Type} : DataW H → Nat
  | .lit (.string bytes) => bytes.length + 1
  | .lit _ => 1
  | .nil => 1
  | .ptr d => uptoBulk d + 1
  | .slice elems spare => uptoBulkAll elems + uptoBulkAll spare + 1
  | .agg parts => uptoBulkAll parts + 1
  | .iface _ d => uptoBulk d + 1
  | .map entries => uptoBulkEntries entries + 1
  | .held _ => 1
def uptoBulkAll {H : Type} : List (DataW H) → Nat
  | [] => 0
  | d :: r => uptoBulk d + uptoBulkAll r
def uptoBulkEntries {H : Type} : List (Lit × DataW H) → Nat
  | [] => 0
  | x :: r => uptoBulkEntry x + uptoBulkEntries r
def uptoBulkEntry {H : Type} : Lit × DataW H → Nat
  | (.string bytes, d) => bytes.length + uptoBulk d + 1
  | (_, d) => uptoBulk d + 1
 end
def uptoSmall : (H : Type) → List (DataW H) → Bool := fun _ ds => decide (uptoBulkAll ds ≤ 1048576)
def OpenSpec.upto (s : _root_.Go.ChangeSpec) : _root_.Go.OpenSpec := { _root_.Go.OpenSpec.ofChange s with cond := some uptoSmall }

/-- 'laws.FnExactFlashOK', WHERE WHAT IT READS IS OF BULK AT MOST 1048576: true; the input reads as it did. -/
def fnExactFlashOKUptoRow : OpenClaim := { program := "ytdiakahaghggiaa", sum := "0ce0799a81aff0e160f570e6ae4c630c224e7bc55979a66155fe16a1cd5916ae", func := "loop.example/g00163/laws.FnExactFlashOK", spec := "fnExactFlashOK", apart := false, narrowed := true }
def FnExactFlashOKUptoSaid : Prop := fnExactFlashOKUptoRow.holds Try.pinned (OpenSpec.upto fnExactFlashOKSpec)

/-- 'laws.FnExactFlashRead', WHERE WHAT IT READS IS OF BULK AT MOST 1048576: true; the input reads as it did. -/
def fnExactFlashReadUptoRow : OpenClaim := { program := "ytdiakahaghggiaa", sum := "0ce0799a81aff0e160f570e6ae4c630c224e7bc55979a66155fe16a1cd5916ae", func := "loop.example/g00163/laws.FnExactFlashRead", spec := "fnExactFlashRead", inPlace := ["maps.clone"], apart := false, narrowed := true }
def FnExactFlashReadUptoSaid : Prop := fnExactFlashReadUptoRow.holds Try.pinned (OpenSpec.upto fnExactFlashReadSpec)

/-- 'laws.FnExactFlashCrash', WHERE WHAT IT READS IS OF BULK AT MOST 1048576: true; the input reads as it did. -/
def fnExactFlashCrashUptoRow : OpenClaim := { program := "ytdiakahaghggiaa", sum := "0ce0799a81aff0e160f570e6ae4c630c224e7bc55979a66155fe16a1cd5916ae", func := "loop.example/g00163/laws.FnExactFlashCrash", spec := "fnExactFlashCrash", inPlace := ["maps.clone"], apart := false, narrowed := true }
def FnExactFlashCrashUptoSaid : Prop := fnExactFlashCrashUptoRow.holds Try.pinned (OpenSpec.upto fnExactFlashCrashSpec)

/-- 'laws.FnExactCrc', WHERE WHAT IT READS IS OF BULK AT MOST 1048576: true; the input reads as it did. -/
def fnExactCrcUptoRow : OpenClaim := { program := "ytdiakahaghggiaa", sum := "0ce0799a81aff0e160f570e6ae4c630c224e7bc55979a66155fe16a1cd5916ae", func := "loop.example/g00163/laws.FnExactCrc", spec := "fnExactCrc", apart := false, narrowed := true }
def FnExactCrcUptoSaid : Prop := fnExactCrcUptoRow.holds Try.pinned (OpenSpec.upto fnExactCrcSpec)

/-- 'laws.FnExactImageBytes', WHERE WHAT IT READS IS OF BULK AT MOST 1048576: true; the input reads as it did. -/
def fnExactImageBytesUptoRow : OpenClaim := { program := "ytdiakahaghggiaa", sum := "0ce0799a81aff0e160f570e6ae4c630c224e7bc55979a66155fe16a1cd5916ae", func := "loop.example/g00163/laws.FnExactImageBytes", spec := "fnExactImageBytes", apart := false, narrowed := true }
def FnExactImageBytesUptoSaid : Prop := fnExactImageBytesUptoRow.holds Try.pinned (OpenSpec.upto fnExactImageBytesSpec)

end Rows
end Go.Proofs.Ytdiakahaghggiaa
