/-
  Bytes that are marked, beside those that are copied.
-/
import Derived.Test.YtdiakahaghggiaaTo
import Derived.Test.YtdiakahaghggiaaMarkB
namespace Go.Proofs.Ytdiakahaghggiaa
end Go.Proofs.Ytdiakahaghggiaa
