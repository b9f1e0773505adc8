/-
  The keys of a right list of versions, each once, as they rise; the entries at a time are told by them.
-/
import Derived.Test.YtodmkbnoljilpaaVeL
import Derived.Sort.KeysCollected
import Derived.Sort.Walk0
namespace Go.Proofs.Ytodmkbnoljilpaa
open Go.RowKit Go.Maps

end Go.Proofs.Ytodmkbnoljilpaa
