/-
  spec.PageBytes.
-/
import Derived.Test.YtkggpapmhopaeaaPbS
namespace Go.Proofs.Ytkggpapmhopaeaa
open Go.RowKit

theorem owns_lit0 {w : World} {B : Nat} (h : B ≤ w.heap.size) : Owns (w.alloc (.cells #[] 5)) B (.slice (some ⟨w.heap.size, 0, none⟩) 0 0) [] :=
  World.ownsRow_lit _ _ _ h (by unfold maxLen; simp) rfl
set_option maxRecDepth 100000 in
set_option maxHeartbeats 4000000 in
theorem specPageBytes_any (lo hi : ByteArray) (r : Int) (ab : Option Addr) (nb cb : Nat) (es : List EntD) (ac : Option Addr) (nc cc : Nat) (ds : List DelD) (w : World) (hE : ERow w ab nb es) (hD : DRow w ac nc ds) (hcb : ab = none → cb = 0) :
    Calls Try.prog 26 #[pgv lo hi r ab nb cb ac nc cc] w fun e w' => PbRes lo hi r es ds w e w' := by
  have b0 : Below w.heap.size w (w.alloc (.cells #[.string lo, .string hi, .int .i64 r, .slice ab nb cb, .slice ac nc cc] 31)) := (Below.refl _ _).alloc (Nat.le_refl _) _
  have k0 := heap_alloc_new w (.cells #[.string lo, .string hi, .int .i64 r, .slice ab nb cb, .slice ac nc cc] 31)
  have hsz : (w.alloc (.cells #[.string lo, .string hi, .int .i64 r, .slice ab nb cb, .slice ac nc cc] 31)).heap.size = w.heap.size + 1 := by simp
  have RE := hide hE
  have RD := hide hD
  clear hE hD
  go_enter Try.func26, Try.ntmps26
  go_wp2_with fail
  generalize w.alloc (.cells #[.string lo, .string hi, .int .i64 r, .slice ab nb cb, .slice ac nc cc] 31) = W at *
  refine (specPageOK_any lo hi r ab nb cb es ac nc cc ds W ((unhide RE).below b0) ((unhide RD).below b0) hcb).mono ?_
  rintro e w1 ⟨rfl, hb1⟩
  rw [hsz] at hb1
  have BB := hide (b0.trans (hb1.mono (by omega)))
  have K := hide ((hb1.block w.heap.size (by omega)).trans k0)
  have hs1 : w.heap.size + 1 ≤ w1.heap.size := by have := hb1.size; omega
  clear b0 k0 hb1 hsz
  obtain ⟨p0, p1, p2, p3, p4⟩ := pg_c5 (unhide K)
  by_cases hok : okPage lo hi r es ds = true
  · rw [hok]
    have OK := hide hok
    clear hok
    go_wp2_with (go_at_call 60; refine (l04Bytes_any lo hi r ab nb cb es ac nc cc ds w1 ((unhide RE).below (unhide BB)) ((unhide RD).below (unhide BB)) (ok_small (unhide OK))).mono ?_; rintro e w2 ⟨v2, rfl, ho2, hb2⟩; (have R := hide (pb_good (unhide OK) (show w.heap.size ≤ w1.heap.size by omega) ho2 ((unhide BB).trans (hb2.mono (by omega))))); clear ho2 hb2 p0 p1 p2 p3 p4)
    go_ret2
    exact unhide R
  · have hok : okPage lo hi r es ds = false := by simpa using hok
    rw [hok]
    have R := hide (pb_bad hok (owns_lit0 (w := w1) (show w.heap.size ≤ w1.heap.size by omega)) ((unhide BB).alloc (by omega) _))
    go_wp2_with fail
    go_ret2
    exact unhide R
end Go.Proofs.Ytkggpapmhopaeaa
