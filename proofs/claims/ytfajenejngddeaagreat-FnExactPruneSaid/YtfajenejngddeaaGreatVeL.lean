/-
  The entries at a time: plain data; an entry appended.
-/
import Derived.Test.YtfajenejngddeaaGreatVaS
import Derived.Test.YtfajenejngddeaaGreatKyC
namespace Go.Proofs.YtfajenejngddeaaGreat
open Go.RowKit

def kvOf : Option VerD → List KvD
  | some x => [⟨x.k, x.v⟩]
  | none => []
/-- The entry of the key whose first version lies there. -/
def entOne (ds : List VerD) (t : Int) (i : Nat) (hi : i < ds.length) : List KvD := if 0 < i ∧ (ds[i - 1]'(by omega)).k = ds[i].k then [] else kvOf (verAt ds ds[i].k t)
def entsTo (ds : List VerD) (t : Int) : Nat → List KvD
  | 0 => []
  | j + 1 => entsTo ds t j ++ (if hi : j < ds.length then entOne ds t j hi else [])
/-- The entries at a time. -/
def entsAt (ds : List VerD) (t : Int) : List KvD := entsTo ds t ds.length
end Go.Proofs.YtfajenejngddeaaGreat
