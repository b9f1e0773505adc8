/-
  The walks of ImageBytes, the program's and the specification's.
-/
import Derived.Test.YtpmbpldjjnjafaaImgI1
import Derived.Test.YtpmbpldjjnjafaaImgI2
import Derived.Test.YtpmbpldjjnjafaaImgS
namespace Go.Proofs.Ytpmbpldjjnjafaa
open Go.RowKit

theorem imageBytes_any (id : Int) (gone : Bool) (b off c : Nat) (xs : List Int) (w : World) (hc : xs.length ≤ c) (h : imOK id gone xs.length = true) (h1 : Row w (some ⟨b, off, none⟩) xs.length xs) (h8 : Bytes8 xs) :
    Calls Try.prog 63 #[iv id gone (some ⟨b, off, none⟩) xs.length c] w fun e w' => ∃ v, e = .returned v ∧ Owns w' w.heap.size v (imgL id gone xs) ∧ v ≠ .slice none 0 0 ∧ Below w.heap.size w w' := by
  cases gone
  · exact imageBytes_false id b off c xs w hc h h1 h8
  · exact imageBytes_true id b off c xs w hc h h1 h8
end Go.Proofs.Ytpmbpldjjnjafaa
