/-
  No cell of these rows narrows 'for every input' (looked for: loops, veiled, ifaces, maps, wideKeys, modest, calm, conditions, laid).
  DERIVED. THE GIVEN ROWS OF THIS SEAT. 5 by the template 'for every input the law returns true; each argument reads behind the call as it read before'; 0 by the template 'total and deterministic' (their statements: YtcflepnckjappaaGreatTotals.lean).
  GIVEN WITH THE SEED: the statements are not yours to turn. If you find one false, say at which input.
  Laid BY PROGRAM, IN A SANDBOX (cutbox-rows.mjs): the forced cells as the released guide's own fill.sh prints them over the translation 305754750f279432… (all of the seat's roots in one cut). By AI agents, Wed Nov 11 2026. No macro, syntax, notation, axiom, sorry.
-/
import Derived.Test.YtcflepnckjappaaGreatChecked
import GoSem.Claim
import GoSem.ClaimJoined
import GoSem.ClaimMapViews
import Derived.JoinedTies
import Derived.KernelRfl
namespace Go.Proofs.YtcflepnckjappaaGreat
/- THE CELL 'sum', in the pinned program and in every row, IS THE sha256 OF THE DUMP (.gsa) THAT YtcflepnckjappaaGreatProg.lean LOADS. Nothing in Lean hashes anything: it is a label: what it is worth is what the hold of that sum in a sandbox is worth. -/
noncomputable def Tryz.pinned : Pinned := { name := "ytcflepnckjappaagreat", sum := "305754750f27943288d23f42d7cfb71c39777972844e57b04f90e8f0b68ca526", checked := Tryz.checked }
namespace Rows
def none {H : Type} : Left H := { results := [], args := [] }

/-- 'laws.FnDurable': WHATEVER THE INPUT: true; the input reads as it did. -/
def fnDurableSpec : ChangeSpec := { name := "fnDurable", fn := fun _ => fun
  | [d1, d2] => { results := [.lit (.bool true)], args := [d1, d2] }
  | _ => none }
def fnDurableRow : OpenClaim := { program := "ytcflepnckjappaagreat", sum := "305754750f27943288d23f42d7cfb71c39777972844e57b04f90e8f0b68ca526", func := "loop.example/g00163/laws.FnDurable", spec := "fnDurable", inPlace := ["maps.clone", "slices.overlaps[loop.example/g00163/impl.Version]", "internal/bytealg.abigen_runtime_cmpstring"], unfollowed := true, recurses := true, apart := false }
def FnDurableSaid : Prop := fnDurableRow.holds Tryz.pinned (OpenSpec.ofChange fnDurableSpec)

/-- ITS FALSE NEIGHBOUR: 'it returns false'. Refute it at one input. -/
def fnDurableWrong : ChangeSpec := { name := "fnDurable", fn := fun _ => fun
  | [d1, d2] => { results := [.lit (.bool false)], args := [d1, d2] }
  | _ => none }
def FnDurableWrongFalsely : Prop := fnDurableRow.holds Tryz.pinned (OpenSpec.ofChange fnDurableWrong)

/-- 'laws.FnClean': WHATEVER THE INPUT: true; the input reads as it did. -/
def fnCleanSpec : ChangeSpec := { name := "fnClean", fn := fun _ => fun
  | [d1, d2] => { results := [.lit (.bool true)], args := [d1, d2] }
  | _ => none }
def fnCleanRow : OpenClaim := { program := "ytcflepnckjappaagreat", sum := "305754750f27943288d23f42d7cfb71c39777972844e57b04f90e8f0b68ca526", func := "loop.example/g00163/laws.FnClean", spec := "fnClean", inPlace := ["maps.clone", "slices.overlaps[loop.example/g00163/impl.Version]", "internal/bytealg.abigen_runtime_cmpstring"], unfollowed := true, recurses := true, apart := false }
def FnCleanSaid : Prop := fnCleanRow.holds Tryz.pinned (OpenSpec.ofChange fnCleanSpec)

/-- ITS FALSE NEIGHBOUR: 'it returns false'. Refute it at one input. -/
def fnCleanWrong : ChangeSpec := { name := "fnClean", fn := fun _ => fun
  | [d1, d2] => { results := [.lit (.bool false)], args := [d1, d2] }
  | _ => none }
def FnCleanWrongFalsely : Prop := fnCleanRow.holds Tryz.pinned (OpenSpec.ofChange fnCleanWrong)

/-- 'laws.FnTop': WHATEVER THE INPUT: true; the input reads as it did. -/
def fnTopSpec : ChangeSpec := { name := "fnTop", fn := fun _ => fun
  | [d1, d2] => { results := [.lit (.bool true)], args := [d1, d2] }
  | _ => none }
def fnTopRow : OpenClaim := { program := "ytcflepnckjappaagreat", sum := "305754750f27943288d23f42d7cfb71c39777972844e57b04f90e8f0b68ca526", func := "loop.example/g00163/laws.FnTop", spec := "fnTop", inPlace := ["maps.clone", "slices.overlaps[loop.example/g00163/impl.Version]", "internal/bytealg.abigen_runtime_cmpstring", "slices.overlaps[loop.example/g00163/impl.Entry]", "slices.overlaps[loop.example/g00163/impl.Ref]"], unfollowed := true, recurses := true, apart := false }
def FnTopSaid : Prop := fnTopRow.holds Tryz.pinned (OpenSpec.ofChange fnTopSpec)

/-- ITS FALSE NEIGHBOUR: 'it returns false'. Refute it at one input. -/
def fnTopWrong : ChangeSpec := { name := "fnTop", fn := fun _ => fun
  | [d1, d2] => { results := [.lit (.bool false)], args := [d1, d2] }
  | _ => none }
def FnTopWrongFalsely : Prop := fnTopRow.holds Tryz.pinned (OpenSpec.ofChange fnTopWrong)

/-- 'laws.FnExactRecover': WHATEVER THE INPUT: true; the input reads as it did. -/
def fnExactRecoverSpec : ChangeSpec := { name := "fnExactRecover", fn := fun _ => fun
  | [d] => { results := [.lit (.bool true)], args := [d] }
  | _ => none }
def fnExactRecoverRow : OpenClaim := { program := "ytcflepnckjappaagreat", sum := "305754750f27943288d23f42d7cfb71c39777972844e57b04f90e8f0b68ca526", func := "loop.example/g00163/laws.FnExactRecover", spec := "fnExactRecover", inPlace := ["maps.clone", "internal/bytealg.abigen_runtime_cmpstring", "slices.overlaps[loop.example/g00163/impl.Version]"], unfollowed := true, recurses := true, apart := false }
def FnExactRecoverSaid : Prop := fnExactRecoverRow.holds Tryz.pinned (OpenSpec.ofChange fnExactRecoverSpec)

/-- ITS FALSE NEIGHBOUR: 'it returns false'. Refute it at one input. -/
def fnExactRecoverWrong : ChangeSpec := { name := "fnExactRecover", fn := fun _ => fun
  | [d] => { results := [.lit (.bool false)], args := [d] }
  | _ => none }
def FnExactRecoverWrongFalsely : Prop := fnExactRecoverRow.holds Tryz.pinned (OpenSpec.ofChange fnExactRecoverWrong)

/-- 'laws.FnExactEngineRun': WHATEVER THE INPUT: true; the input reads as it did. -/
def fnExactEngineRunSpec : ChangeSpec := { name := "fnExactEngineRun", fn := fun _ => fun
  | [d] => { results := [.lit (.bool true)], args := [d] }
  | _ => none }
def fnExactEngineRunRow : OpenClaim := { program := "ytcflepnckjappaagreat", sum := "305754750f27943288d23f42d7cfb71c39777972844e57b04f90e8f0b68ca526", func := "loop.example/g00163/laws.FnExactEngineRun", spec := "fnExactEngineRun", inPlace := ["maps.clone", "slices.overlaps[loop.example/g00163/impl.Version]", "internal/bytealg.abigen_runtime_cmpstring"], unfollowed := true, recurses := true, apart := false }
def FnExactEngineRunSaid : Prop := fnExactEngineRunRow.holds Tryz.pinned (OpenSpec.ofChange fnExactEngineRunSpec)

/-- ITS FALSE NEIGHBOUR: 'it returns false'. Refute it at one input. -/
def fnExactEngineRunWrong : ChangeSpec := { name := "fnExactEngineRun", fn := fun _ => fun
  | [d] => { results := [.lit (.bool false)], args := [d] }
  | _ => none }
def FnExactEngineRunWrongFalsely : Prop := fnExactEngineRunRow.holds Tryz.pinned (OpenSpec.ofChange fnExactEngineRunWrong)

/- THE SECOND FORM. 'bulk': how many values and letters a reading holds, each counted each time it is reached (what is shared counts as often as it is met; a slice's spare places count too). A statement '..UptoSaid' is the law's where the arguments, and the package variables that the reading takes, are together of bulk at most 1048576: NARROWER than '..Said'. Prove '..Said' where nothing that the law and all that it calls make is longer than what came in: it says more and counts as full. Else prove '..UptoSaid'. A law counts once. -/
mutual
def uptoBulk {H : Type} : DataW H → Nat
  | .lit (.string bytes) => bytes.length + 1
  | .lit _ => 1
  | .nil => 1
  | .ptr d => uptoBulk d + 1
  | .slice elems spare => uptoBulkAll elems + uptoBulkAll spare + 1
  | .agg parts => uptoBulkAll parts + 1
  | .iface _ d => uptoBulk d + 1
  | .map entries => uptoBulkEntries entries + 1
  | .held _ => 1
def uptoBulkAll {H : Type} : List (DataW H) → Nat
  | [] => 0
  | d :: r => uptoBulk d + uptoBulkAll r
def uptoBulkEntries {H : Type} : List (Lit × DataW H) → Nat
  | [] => 0
  | x :: r => uptoBulkEntry x + uptoBulkEntries r
def uptoBulkEntry {H : Type} : Lit × DataW H → Nat
  | (.string bytes, d) => bytes.length + uptoBulk d + 1
  | (_, d) => uptoBulk d + 1
 end
def uptoSmall : (H : Type) → List (DataW H) → Bool := fun _ ds => decide (uptoBulkAll ds ≤ 1048576)
def OpenSpec.upto (s : _root_.Go.ChangeSpec) : _root_.Go.OpenSpec := { _root_.Go.OpenSpec.ofChange s with cond := some uptoSmall }

/-- 'laws.FnDurable', WHERE WHAT IT READS IS OF BULK AT MOST 1048576: true; the input reads as it did. -/
def fnDurableUptoRow : OpenClaim := { program := "ytcflepnckjappaagreat", sum := "305754750f27943288d23f42d7cfb71c39777972844e57b04f90e8f0b68ca526", func := "loop.example/g00163/laws.FnDurable", spec := "fnDurable", inPlace := ["maps.clone", "slices.overlaps[loop.example/g00163/impl.Version]", "internal/bytealg.abigen_runtime_cmpstring"], unfollowed := true, recurses := true, apart := false, narrowed := true }
def FnDurableUptoSaid : Prop := fnDurableUptoRow.holds Tryz.pinned (OpenSpec.upto fnDurableSpec)

/-- 'laws.FnClean', WHERE WHAT IT READS IS OF BULK AT MOST 1048576: true; the input reads as it did. -/
def fnCleanUptoRow : OpenClaim := { program := "ytcflepnckjappaagreat", sum := "305754750f27943288d23f42d7cfb71c39777972844e57b04f90e8f0b68ca526", func := "loop.example/g00163/laws.FnClean", spec := "fnClean", inPlace := ["maps.clone", "slices.overlaps[loop.example/g00163/impl.Version]", "internal/bytealg.abigen_runtime_cmpstring"], unfollowed := true, recurses := true, apart := false, narrowed := true }
def FnCleanUptoSaid : Prop := fnCleanUptoRow.holds Tryz.pinned (OpenSpec.upto fnCleanSpec)

/-- 'laws.FnTop', WHERE WHAT IT READS IS OF BULK AT MOST 1048576: true; the input reads as it did. -/
def fnTopUptoRow : OpenClaim := { program := "ytcflepnckjappaagreat", sum := "305754750f27943288d23f42d7cfb71c39777972844e57b04f90e8f0b68ca526", func := "loop.example/g00163/laws.FnTop", spec := "fnTop", inPlace := ["maps.clone", "slices.overlaps[loop.example/g00163/impl.Version]", "internal/bytealg.abigen_runtime_cmpstring", "slices.overlaps[loop.example/g00163/impl.Entry]", "slices.overlaps[loop.example/g00163/impl.Ref]"], unfollowed := true, recurses := true, apart := false, narrowed := true }
def FnTopUptoSaid : Prop := fnTopUptoRow.holds Tryz.pinned (OpenSpec.upto fnTopSpec)

/-- 'laws.FnExactRecover', WHERE WHAT IT READS IS OF BULK AT MOST 1048576: true; the input reads as it did. -/
def fnExactRecoverUptoRow : OpenClaim := { program := "ytcflepnckjappaagreat", sum := "305754750f27943288d23f42d7cfb71c39777972844e57b04f90e8f0b68ca526", func := "loop.example/g00163/laws.FnExactRecover", spec := "fnExactRecover", inPlace := ["maps.clone", "internal/bytealg.abigen_runtime_cmpstring", "slices.overlaps[loop.example/g00163/impl.Version]"], unfollowed := true, recurses := true, apart := false, narrowed := true }
def FnExactRecoverUptoSaid : Prop := fnExactRecoverUptoRow.holds Tryz.pinned (OpenSpec.upto fnExactRecoverSpec)

/-- 'laws.FnExactEngineRun', WHERE WHAT IT READS IS OF BULK AT MOST 1048576: true; the input reads as it did. -/
def fnExactEngineRunUptoRow : OpenClaim := { program := "ytcflepnckjappaagreat", sum := "305754750f27943288d23f42d7cfb71c39777972844e57b04f90e8f0b68ca526", func := "loop.example/g00163/laws.FnExactEngineRun", spec := "fnExactEngineRun", inPlace := ["maps.clone", "slices.overlaps[loop.example/g00163/impl.Version]", "internal/bytealg.abigen_runtime_cmpstring"], unfollowed := true, recurses := true, apart := false, narrowed := true }
def FnExactEngineRunUptoSaid : Prop := fnExactEngineRunUptoRow.holds Tryz.pinned (OpenSpec.upto fnExactEngineRunSpec)

end Rows
end Go.Proofs.YtcflepnckjappaaGreat
