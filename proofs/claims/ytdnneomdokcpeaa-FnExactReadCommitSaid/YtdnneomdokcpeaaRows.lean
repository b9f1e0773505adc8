/-
  No cell of these rows narrows 'for every input' (looked for: loops, veiled, ifaces, maps, wideKeys, modest, calm, conditions, laid).
  DERIVED. THE GIVEN ROWS OF THIS SEAT. 4 by the template 'for every input the law returns true; each argument reads behind the call as it read before'; 0 by the template 'total and deterministic' (their statements: YtdnneomdokcpeaaTotals.lean).
  GIVEN WITH THE SEED: the statements are not yours to turn. If you find one false, say at which input.
  Laid BY PROGRAM, IN A SANDBOX (cutbox-rows.mjs): the forced cells as the released guide's own fill.sh prints them over the translation ae7a9202e105ac30… (all of the seat's roots in one cut). By AI agents, Wed Nov 11 2026. No macro, syntax, notation, axiom, sorry.
-/
import Derived.Test.YtdnneomdokcpeaaChecked
import GoSem.Claim
import GoSem.ClaimJoined
import GoSem.ClaimMapViews
import Derived.JoinedTies
import Derived.KernelRfl
namespace Go.Proofs.Ytdnneomdokcpeaa
/- THE CELL 'sum', in the pinned program and in every row, IS THE sha256 OF THE DUMP (.gsa) THAT YtdnneomdokcpeaaProg.lean LOADS. Nothing in Lean hashes anything: it is a label: what it is worth is what the hold of that sum in a sandbox is worth. -/
noncomputable def Try.pinned : Pinned := { name := "ytdnneomdokcpeaa", sum := "ae7a9202e105ac30b8222150ccd950996ade8a199ac8b3fdb8a97c1f9eee7d65", checked := Try.checked }
namespace Rows
def none {H : Type} : Left H := { results := [], args := [] }

/-- 'laws.FnExactCommitBytes': WHATEVER THE INPUT: true; the input reads as it did. -/
def fnExactCommitBytesSpec : ChangeSpec := { name := "fnExactCommitBytes", fn := fun _ => fun
  | [d] => { results := [.lit (.bool true)], args := [d] }
  | _ => none }
def fnExactCommitBytesRow : OpenClaim := { program := "ytdnneomdokcpeaa", sum := "ae7a9202e105ac30b8222150ccd950996ade8a199ac8b3fdb8a97c1f9eee7d65", func := "loop.example/g00163/laws.FnExactCommitBytes", spec := "fnExactCommitBytes", inPlace := ["internal/bytealg.abigen_runtime_cmpstring"], unfollowed := true, recurses := true, apart := false }
def FnExactCommitBytesSaid : Prop := fnExactCommitBytesRow.holds Try.pinned (OpenSpec.ofChange fnExactCommitBytesSpec)

/-- ITS FALSE NEIGHBOUR: 'it returns false'. Refute it at one input. -/
def fnExactCommitBytesWrong : ChangeSpec := { name := "fnExactCommitBytes", fn := fun _ => fun
  | [d] => { results := [.lit (.bool false)], args := [d] }
  | _ => none }
def FnExactCommitBytesWrongFalsely : Prop := fnExactCommitBytesRow.holds Try.pinned (OpenSpec.ofChange fnExactCommitBytesWrong)

/-- 'laws.FnExactReadCommit': WHATEVER THE INPUT: true; the input reads as it did. -/
def fnExactReadCommitSpec : ChangeSpec := { name := "fnExactReadCommit", fn := fun _ => fun
  | [d1, d2] => { results := [.lit (.bool true)], args := [d1, d2] }
  | _ => none }
def fnExactReadCommitRow : OpenClaim := { program := "ytdnneomdokcpeaa", sum := "ae7a9202e105ac30b8222150ccd950996ade8a199ac8b3fdb8a97c1f9eee7d65", func := "loop.example/g00163/laws.FnExactReadCommit", spec := "fnExactReadCommit", inPlace := ["internal/bytealg.abigen_runtime_cmpstring"], unfollowed := true, recurses := true, apart := false }
def FnExactReadCommitSaid : Prop := fnExactReadCommitRow.holds Try.pinned (OpenSpec.ofChange fnExactReadCommitSpec)

/-- ITS FALSE NEIGHBOUR: 'it returns false'. Refute it at one input. -/
def fnExactReadCommitWrong : ChangeSpec := { name := "fnExactReadCommit", fn := fun _ => fun
  | [d1, d2] => { results := [.lit (.bool false)], args := [d1, d2] }
  | _ => none }
def FnExactReadCommitWrongFalsely : Prop := fnExactReadCommitRow.holds Try.pinned (OpenSpec.ofChange fnExactReadCommitWrong)

/-- 'laws.FnExactVersionsOK': WHATEVER THE INPUT: true; the input reads as it did. -/
def fnExactVersionsOKSpec : ChangeSpec := { name := "fnExactVersionsOK", fn := fun _ => fun
  | [d] => { results := [.lit (.bool true)], args := [d] }
  | _ => none }
def fnExactVersionsOKRow : OpenClaim := { program := "ytdnneomdokcpeaa", sum := "ae7a9202e105ac30b8222150ccd950996ade8a199ac8b3fdb8a97c1f9eee7d65", func := "loop.example/g00163/laws.FnExactVersionsOK", spec := "fnExactVersionsOK", inPlace := ["internal/bytealg.abigen_runtime_cmpstring"], unfollowed := true, recurses := true, apart := false }
def FnExactVersionsOKSaid : Prop := fnExactVersionsOKRow.holds Try.pinned (OpenSpec.ofChange fnExactVersionsOKSpec)

/-- ITS FALSE NEIGHBOUR: 'it returns false'. Refute it at one input. -/
def fnExactVersionsOKWrong : ChangeSpec := { name := "fnExactVersionsOK", fn := fun _ => fun
  | [d] => { results := [.lit (.bool false)], args := [d] }
  | _ => none }
def FnExactVersionsOKWrongFalsely : Prop := fnExactVersionsOKRow.holds Try.pinned (OpenSpec.ofChange fnExactVersionsOKWrong)

/-- 'laws.FnExactVersionAt': WHATEVER THE INPUT: true; the input reads as it did. -/
def fnExactVersionAtSpec : ChangeSpec := { name := "fnExactVersionAt", fn := fun _ => fun
  | [d1, d2, d3] => { results := [.lit (.bool true)], args := [d1, d2, d3] }
  | _ => none }
def fnExactVersionAtRow : OpenClaim := { program := "ytdnneomdokcpeaa", sum := "ae7a9202e105ac30b8222150ccd950996ade8a199ac8b3fdb8a97c1f9eee7d65", func := "loop.example/g00163/laws.FnExactVersionAt", spec := "fnExactVersionAt", inPlace := ["internal/bytealg.abigen_runtime_cmpstring"], unfollowed := true, recurses := true, apart := false }
def FnExactVersionAtSaid : Prop := fnExactVersionAtRow.holds Try.pinned (OpenSpec.ofChange fnExactVersionAtSpec)

/-- ITS FALSE NEIGHBOUR: 'it returns false'. Refute it at one input. -/
def fnExactVersionAtWrong : ChangeSpec := { name := "fnExactVersionAt", fn := fun _ => fun
  | [d1, d2, d3] => { results := [.lit (.bool false)], args := [d1, d2, d3] }
  | _ => none }
def FnExactVersionAtWrongFalsely : Prop := fnExactVersionAtRow.holds Try.pinned (OpenSpec.ofChange fnExactVersionAtWrong)

/- THE SECOND FORM. 'bulk': how many values and letters a reading holds, each counted each time it is reached (what is shared counts as often as it is met; a slice's spare places count too). A statement '..UptoSaid' is the law's where the arguments, and the package variables that the reading takes, are together of bulk at most 1048576: NARROWER than '..Said'. Prove '..Said' where nothing that the law and all that it calls make is longer than what came in: it says more and counts as full. Else prove '..UptoSaid'. A law counts once. -/
mutual
def uptoBulk {H : Type} : DataW H → Nat
  | .lit (.string bytes) => bytes.length + 1
  | .lit _ => 1
  | .nil => 1
  | .ptr d => uptoBulk d + 1
  | .slice elems spare => uptoBulkAll elems + uptoBulkAll spare + 1
  | .agg parts => uptoBulkAll parts + 1
  | .iface _ d => uptoBulk d + 1
  | .map entries => uptoBulkEntries entries + 1
  | .held _ => 1
def uptoBulkAll {H : Type} : List (DataW H) → Nat
  | [] => 0
  | d :: r => uptoBulk d + uptoBulkAll r
def uptoBulkEntries {H : Type} : List (Lit × DataW H) → Nat
  | [] => 0
  | x :: r => uptoBulkEntry x + uptoBulkEntries r
def uptoBulkEntry {H : Type} : Lit × DataW H → Nat
  | (.string bytes, d) => bytes.length + uptoBulk d + 1
  | (_, d) => uptoBulk d + 1
 end
def uptoSmall : (H : Type) → List (DataW H) → Bool := fun _ ds => decide (uptoBulkAll ds ≤ 1048576)
def OpenSpec.upto (s : _root_.Go.ChangeSpec) : _root_.Go.OpenSpec := { _root_.Go.OpenSpec.ofChange s with cond := some uptoSmall }

/-- 'laws.FnExactCommitBytes', WHERE WHAT IT READS IS OF BULK AT MOST 1048576: true; the input reads as it did. -/
def fnExactCommitBytesUptoRow : OpenClaim := { program := "ytdnneomdokcpeaa", sum := "ae7a9202e105ac30b8222150ccd950996ade8a199ac8b3fdb8a97c1f9eee7d65", func := "loop.example/g00163/laws.FnExactCommitBytes", spec := "fnExactCommitBytes", inPlace := ["internal/bytealg.abigen_runtime_cmpstring"], unfollowed := true, recurses := true, apart := false, narrowed := true }
def FnExactCommitBytesUptoSaid : Prop := fnExactCommitBytesUptoRow.holds Try.pinned (OpenSpec.upto fnExactCommitBytesSpec)

/-- 'laws.FnExactReadCommit', WHERE WHAT IT READS IS OF BULK AT MOST 1048576: true; the input reads as it did. -/
def fnExactReadCommitUptoRow : OpenClaim := { program := "ytdnneomdokcpeaa", sum := "ae7a9202e105ac30b8222150ccd950996ade8a199ac8b3fdb8a97c1f9eee7d65", func := "loop.example/g00163/laws.FnExactReadCommit", spec := "fnExactReadCommit", inPlace := ["internal/bytealg.abigen_runtime_cmpstring"], unfollowed := true, recurses := true, apart := false, narrowed := true }
def FnExactReadCommitUptoSaid : Prop := fnExactReadCommitUptoRow.holds Try.pinned (OpenSpec.upto fnExactReadCommitSpec)

/-- 'laws.FnExactVersionsOK', WHERE WHAT IT READS IS OF BULK AT MOST 1048576: true; the input reads as it did. -/
def fnExactVersionsOKUptoRow : OpenClaim := { program := "ytdnneomdokcpeaa", sum := "ae7a9202e105ac30b8222150ccd950996ade8a199ac8b3fdb8a97c1f9eee7d65", func := "loop.example/g00163/laws.FnExactVersionsOK", spec := "fnExactVersionsOK", inPlace := ["internal/bytealg.abigen_runtime_cmpstring"], unfollowed := true, recurses := true, apart := false, narrowed := true }
def FnExactVersionsOKUptoSaid : Prop := fnExactVersionsOKUptoRow.holds Try.pinned (OpenSpec.upto fnExactVersionsOKSpec)

/-- 'laws.FnExactVersionAt', WHERE WHAT IT READS IS OF BULK AT MOST 1048576: true; the input reads as it did. -/
def fnExactVersionAtUptoRow : OpenClaim := { program := "ytdnneomdokcpeaa", sum := "ae7a9202e105ac30b8222150ccd950996ade8a199ac8b3fdb8a97c1f9eee7d65", func := "loop.example/g00163/laws.FnExactVersionAt", spec := "fnExactVersionAt", inPlace := ["internal/bytealg.abigen_runtime_cmpstring"], unfollowed := true, recurses := true, apart := false, narrowed := true }
def FnExactVersionAtUptoSaid : Prop := fnExactVersionAtUptoRow.holds Try.pinned (OpenSpec.upto fnExactVersionAtSpec)

end Rows
end Go.Proofs.Ytdnneomdokcpeaa
