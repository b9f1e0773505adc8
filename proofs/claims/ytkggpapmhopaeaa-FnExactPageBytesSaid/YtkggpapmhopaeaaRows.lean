/-
  No cell of these rows narrows 'for every input' (looked for: loops, veiled, ifaces, maps, wideKeys, modest, calm, conditions, laid).
  DERIVED. THE GIVEN ROWS OF THIS SEAT. 6 by the template 'for every input the law returns true; each argument reads behind the call as it read before'; 0 by the template 'total and deterministic' (their statements: YtkggpapmhopaeaaTotals.lean).
  GIVEN WITH THE SEED: the statements are not yours to turn. If you find one false, say at which input.
  Laid BY PROGRAM, IN A SANDBOX (cutbox-rows.mjs): the forced cells as the released guide's own fill.sh prints them over the translation 29fca41b6cba8d97… (all of the seat's roots in one cut). By AI agents, Wed Nov 11 2026. No macro, syntax, notation, axiom, sorry.
-/
import Derived.Test.YtkggpapmhopaeaaChecked
import GoSem.Claim
import GoSem.ClaimJoined
import GoSem.ClaimMapViews
import Derived.JoinedTies
import Derived.KernelRfl
namespace Go.Proofs.Ytkggpapmhopaeaa
/- THE CELL 'sum', in the pinned program and in every row, IS THE sha256 OF THE DUMP (.gsa) THAT YtkggpapmhopaeaaProg.lean LOADS. Nothing in Lean hashes anything: it is a label: what it is worth is what the hold of that sum in a sandbox is worth. -/
noncomputable def Try.pinned : Pinned := { name := "ytkggpapmhopaeaa", sum := "29fca41b6cba8d977db0eeb9ba344852196672bbb5640b4fcce2662fed27edf7", checked := Try.checked }
namespace Rows
def none {H : Type} : Left H := { results := [], args := [] }

/-- 'laws.FnExactPageOK': WHATEVER THE INPUT: true; the input reads as it did. -/
def fnExactPageOKSpec : ChangeSpec := { name := "fnExactPageOK", fn := fun _ => fun
  | [d] => { results := [.lit (.bool true)], args := [d] }
  | _ => none }
def fnExactPageOKRow : OpenClaim := { program := "ytkggpapmhopaeaa", sum := "29fca41b6cba8d977db0eeb9ba344852196672bbb5640b4fcce2662fed27edf7", func := "loop.example/g00163/laws.FnExactPageOK", spec := "fnExactPageOK", inPlace := ["slices.overlaps[loop.example/g00163/impl.Entry]"], unfollowed := true, recurses := true, apart := false }
def FnExactPageOKSaid : Prop := fnExactPageOKRow.holds Try.pinned (OpenSpec.ofChange fnExactPageOKSpec)

/-- ITS FALSE NEIGHBOUR: 'it returns false'. Refute it at one input. -/
def fnExactPageOKWrong : ChangeSpec := { name := "fnExactPageOK", fn := fun _ => fun
  | [d] => { results := [.lit (.bool false)], args := [d] }
  | _ => none }
def FnExactPageOKWrongFalsely : Prop := fnExactPageOKRow.holds Try.pinned (OpenSpec.ofChange fnExactPageOKWrong)

/-- 'laws.FnExactBounds': WHATEVER THE INPUT: true; the input reads as it did. -/
def fnExactBoundsSpec : ChangeSpec := { name := "fnExactBounds", fn := fun _ => fun
  | [d] => { results := [.lit (.bool true)], args := [d] }
  | _ => none }
def fnExactBoundsRow : OpenClaim := { program := "ytkggpapmhopaeaa", sum := "29fca41b6cba8d977db0eeb9ba344852196672bbb5640b4fcce2662fed27edf7", func := "loop.example/g00163/laws.FnExactBounds", spec := "fnExactBounds", inPlace := ["slices.overlaps[loop.example/g00163/impl.Entry]"], unfollowed := true, recurses := true, apart := false }
def FnExactBoundsSaid : Prop := fnExactBoundsRow.holds Try.pinned (OpenSpec.ofChange fnExactBoundsSpec)

/-- ITS FALSE NEIGHBOUR: 'it returns false'. Refute it at one input. -/
def fnExactBoundsWrong : ChangeSpec := { name := "fnExactBounds", fn := fun _ => fun
  | [d] => { results := [.lit (.bool false)], args := [d] }
  | _ => none }
def FnExactBoundsWrongFalsely : Prop := fnExactBoundsRow.holds Try.pinned (OpenSpec.ofChange fnExactBoundsWrong)

/-- 'laws.FnExactFind': WHATEVER THE INPUT: true; the input reads as it did. -/
def fnExactFindSpec : ChangeSpec := { name := "fnExactFind", fn := fun _ => fun
  | [d1, d2] => { results := [.lit (.bool true)], args := [d1, d2] }
  | _ => none }
def fnExactFindRow : OpenClaim := { program := "ytkggpapmhopaeaa", sum := "29fca41b6cba8d977db0eeb9ba344852196672bbb5640b4fcce2662fed27edf7", func := "loop.example/g00163/laws.FnExactFind", spec := "fnExactFind", inPlace := ["slices.overlaps[loop.example/g00163/impl.Entry]"], unfollowed := true, recurses := true, apart := false }
def FnExactFindSaid : Prop := fnExactFindRow.holds Try.pinned (OpenSpec.ofChange fnExactFindSpec)

/-- ITS FALSE NEIGHBOUR: 'it returns false'. Refute it at one input. -/
def fnExactFindWrong : ChangeSpec := { name := "fnExactFind", fn := fun _ => fun
  | [d1, d2] => { results := [.lit (.bool false)], args := [d1, d2] }
  | _ => none }
def FnExactFindWrongFalsely : Prop := fnExactFindRow.holds Try.pinned (OpenSpec.ofChange fnExactFindWrong)

/-- 'laws.FnExactExtend': WHATEVER THE INPUT: true; the input reads as it did. -/
def fnExactExtendSpec : ChangeSpec := { name := "fnExactExtend", fn := fun _ => fun
  | [d1, d2] => { results := [.lit (.bool true)], args := [d1, d2] }
  | _ => none }
def fnExactExtendRow : OpenClaim := { program := "ytkggpapmhopaeaa", sum := "29fca41b6cba8d977db0eeb9ba344852196672bbb5640b4fcce2662fed27edf7", func := "loop.example/g00163/laws.FnExactExtend", spec := "fnExactExtend", inPlace := ["slices.overlaps[loop.example/g00163/impl.Entry]"], unfollowed := true, recurses := true, apart := false }
def FnExactExtendSaid : Prop := fnExactExtendRow.holds Try.pinned (OpenSpec.ofChange fnExactExtendSpec)

/-- ITS FALSE NEIGHBOUR: 'it returns false'. Refute it at one input. -/
def fnExactExtendWrong : ChangeSpec := { name := "fnExactExtend", fn := fun _ => fun
  | [d1, d2] => { results := [.lit (.bool false)], args := [d1, d2] }
  | _ => none }
def FnExactExtendWrongFalsely : Prop := fnExactExtendRow.holds Try.pinned (OpenSpec.ofChange fnExactExtendWrong)

/-- 'laws.FnExactConsolidate': WHATEVER THE INPUT: true; the input reads as it did. -/
def fnExactConsolidateSpec : ChangeSpec := { name := "fnExactConsolidate", fn := fun _ => fun
  | [d] => { results := [.lit (.bool true)], args := [d] }
  | _ => none }
def fnExactConsolidateRow : OpenClaim := { program := "ytkggpapmhopaeaa", sum := "29fca41b6cba8d977db0eeb9ba344852196672bbb5640b4fcce2662fed27edf7", func := "loop.example/g00163/laws.FnExactConsolidate", spec := "fnExactConsolidate", inPlace := ["slices.overlaps[loop.example/g00163/impl.Entry]"], unfollowed := true, recurses := true, apart := false }
def FnExactConsolidateSaid : Prop := fnExactConsolidateRow.holds Try.pinned (OpenSpec.ofChange fnExactConsolidateSpec)

/-- ITS FALSE NEIGHBOUR: 'it returns false'. Refute it at one input. -/
def fnExactConsolidateWrong : ChangeSpec := { name := "fnExactConsolidate", fn := fun _ => fun
  | [d] => { results := [.lit (.bool false)], args := [d] }
  | _ => none }
def FnExactConsolidateWrongFalsely : Prop := fnExactConsolidateRow.holds Try.pinned (OpenSpec.ofChange fnExactConsolidateWrong)

/-- 'laws.FnExactPageBytes': WHATEVER THE INPUT: true; the input reads as it did. -/
def fnExactPageBytesSpec : ChangeSpec := { name := "fnExactPageBytes", fn := fun _ => fun
  | [d] => { results := [.lit (.bool true)], args := [d] }
  | _ => none }
def fnExactPageBytesRow : OpenClaim := { program := "ytkggpapmhopaeaa", sum := "29fca41b6cba8d977db0eeb9ba344852196672bbb5640b4fcce2662fed27edf7", func := "loop.example/g00163/laws.FnExactPageBytes", spec := "fnExactPageBytes", inPlace := ["slices.overlaps[loop.example/g00163/impl.Entry]"], unfollowed := true, recurses := true, apart := false }
def FnExactPageBytesSaid : Prop := fnExactPageBytesRow.holds Try.pinned (OpenSpec.ofChange fnExactPageBytesSpec)

/-- ITS FALSE NEIGHBOUR: 'it returns false'. Refute it at one input. -/
def fnExactPageBytesWrong : ChangeSpec := { name := "fnExactPageBytes", fn := fun _ => fun
  | [d] => { results := [.lit (.bool false)], args := [d] }
  | _ => none }
def FnExactPageBytesWrongFalsely : Prop := fnExactPageBytesRow.holds Try.pinned (OpenSpec.ofChange fnExactPageBytesWrong)

/- THE SECOND FORM. 'bulk': how many values and letters a reading holds, each counted each time it is reached (what is shared counts as often as it is met; a slice's spare places count too). A statement '..UptoSaid' is the law's where the arguments, and the package variables that the reading takes, are together of bulk at most 1048576: NARROWER than '..Said'. Prove '..Said' where nothing that the law and all that it calls make is longer than what came in: it says more and counts as full. Else prove '..UptoSaid'. A law counts once. -/
mutual
def uptoBulk {H : Type} : DataW H → Nat
  | .lit (.string bytes) => bytes.length + 1
  | .lit _ => 1
  | .nil => 1
  | .ptr d => uptoBulk d + 1
  | .slice elems spare => uptoBulkAll elems + uptoBulkAll spare + 1
  | .agg parts => uptoBulkAll parts + 1
  | .iface _ d => uptoBulk d + 1
  | .map entries => uptoBulkEntries entries + 1
  | .held _ => 1
def uptoBulkAll {H : Type} : List (DataW H) → Nat
  | [] => 0
  | d :: r => uptoBulk d + uptoBulkAll r
def uptoBulkEntries {H : Type} : List (Lit × DataW H) → Nat
  | [] => 0
  | x :: r => uptoBulkEntry x + uptoBulkEntries r
def uptoBulkEntry {H : Type} : Lit × DataW H → Nat
  | (.string bytes, d) => bytes.length + uptoBulk d + 1
  | (_, d) => uptoBulk d + 1
 end
def uptoSmall : (H : Type) → List (DataW H) → Bool := fun _ ds => decide (uptoBulkAll ds ≤ 1048576)
def OpenSpec.upto (s : _root_.Go.ChangeSpec) : _root_.Go.OpenSpec := { _root_.Go.OpenSpec.ofChange s with cond := some uptoSmall }

/-- 'laws.FnExactPageOK', WHERE WHAT IT READS IS OF BULK AT MOST 1048576: true; the input reads as it did. -/
def fnExactPageOKUptoRow : OpenClaim := { program := "ytkggpapmhopaeaa", sum := "29fca41b6cba8d977db0eeb9ba344852196672bbb5640b4fcce2662fed27edf7", func := "loop.example/g00163/laws.FnExactPageOK", spec := "fnExactPageOK", inPlace := ["slices.overlaps[loop.example/g00163/impl.Entry]"], unfollowed := true, recurses := true, apart := false, narrowed := true }
def FnExactPageOKUptoSaid : Prop := fnExactPageOKUptoRow.holds Try.pinned (OpenSpec.upto fnExactPageOKSpec)

/-- 'laws.FnExactBounds', WHERE WHAT IT READS IS OF BULK AT MOST 1048576: true; the input reads as it did. -/
def fnExactBoundsUptoRow : OpenClaim := { program := "ytkggpapmhopaeaa", sum := "29fca41b6cba8d977db0eeb9ba344852196672bbb5640b4fcce2662fed27edf7", func := "loop.example/g00163/laws.FnExactBounds", spec := "fnExactBounds", inPlace := ["slices.overlaps[loop.example/g00163/impl.Entry]"], unfollowed := true, recurses := true, apart := false, narrowed := true }
def FnExactBoundsUptoSaid : Prop := fnExactBoundsUptoRow.holds Try.pinned (OpenSpec.upto fnExactBoundsSpec)

/-- 'laws.FnExactFind', WHERE WHAT IT READS IS OF BULK AT MOST 1048576: true; the input reads as it did. -/
def fnExactFindUptoRow : OpenClaim := { program := "ytkggpapmhopaeaa", sum := "29fca41b6cba8d977db0eeb9ba344852196672bbb5640b4fcce2662fed27edf7", func := "loop.example/g00163/laws.FnExactFind", spec := "fnExactFind", inPlace := ["slices.overlaps[loop.example/g00163/impl.Entry]"], unfollowed := true, recurses := true, apart := false, narrowed := true }
def FnExactFindUptoSaid : Prop := fnExactFindUptoRow.holds Try.pinned (OpenSpec.upto fnExactFindSpec)

/-- 'laws.FnExactExtend', WHERE WHAT IT READS IS OF BULK AT MOST 1048576: true; the input reads as it did. -/
def fnExactExtendUptoRow : OpenClaim := { program := "ytkggpapmhopaeaa", sum := "29fca41b6cba8d977db0eeb9ba344852196672bbb5640b4fcce2662fed27edf7", func := "loop.example/g00163/laws.FnExactExtend", spec := "fnExactExtend", inPlace := ["slices.overlaps[loop.example/g00163/impl.Entry]"], unfollowed := true, recurses := true, apart := false, narrowed := true }
def FnExactExtendUptoSaid : Prop := fnExactExtendUptoRow.holds Try.pinned (OpenSpec.upto fnExactExtendSpec)

/-- 'laws.FnExactConsolidate', WHERE WHAT IT READS IS OF BULK AT MOST 1048576: true; the input reads as it did. -/
def fnExactConsolidateUptoRow : OpenClaim := { program := "ytkggpapmhopaeaa", sum := "29fca41b6cba8d977db0eeb9ba344852196672bbb5640b4fcce2662fed27edf7", func := "loop.example/g00163/laws.FnExactConsolidate", spec := "fnExactConsolidate", inPlace := ["slices.overlaps[loop.example/g00163/impl.Entry]"], unfollowed := true, recurses := true, apart := false, narrowed := true }
def FnExactConsolidateUptoSaid : Prop := fnExactConsolidateUptoRow.holds Try.pinned (OpenSpec.upto fnExactConsolidateSpec)

/-- 'laws.FnExactPageBytes', WHERE WHAT IT READS IS OF BULK AT MOST 1048576: true; the input reads as it did. -/
def fnExactPageBytesUptoRow : OpenClaim := { program := "ytkggpapmhopaeaa", sum := "29fca41b6cba8d977db0eeb9ba344852196672bbb5640b4fcce2662fed27edf7", func := "loop.example/g00163/laws.FnExactPageBytes", spec := "fnExactPageBytes", inPlace := ["slices.overlaps[loop.example/g00163/impl.Entry]"], unfollowed := true, recurses := true, apart := false, narrowed := true }
def FnExactPageBytesUptoSaid : Prop := fnExactPageBytesUptoRow.holds Try.pinned (OpenSpec.upto fnExactPageBytesSpec)

end Rows
end Go.Proofs.Ytkggpapmhopaeaa
