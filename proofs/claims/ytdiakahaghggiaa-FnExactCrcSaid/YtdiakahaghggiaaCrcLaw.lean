/-
  The walk of FnExactCrc.
-/
import Derived.Test.YtdiakahaghggiaaCrcS
import Derived.Test.YtdiakahaghggiaaCrcI
import Derived.Test.YtdiakahaghggiaaTail
namespace Go.Proofs.Ytdiakahaghggiaa
open Go.RowKit

set_option maxHeartbeats 1000000 in
theorem lawCrc_any (a : Option Addr) (len cap : Nat) (zs : List Int) (w : World) (h0 : IsRow .u8 w a len cap zs) :
    Calls Try.prog 6 #[.slice a len cap] w fun e w' => e = .returned (.bool true) ∧ Below w.heap.size w w' := by
  obtain ⟨hr, hm, hlt⟩ := row_of_isRow h0
  have h8 : Bytes8 (zs.take len) := fun i hi => bytes_of_isRow h0 i (by rw [hr.1] at hi; exact hi)
  clear h0
  unfold maxLen at hm
  by_cases hbig : 1048576 < len
  · clear hr hlt h8
    go_enter Try.func6, Try.ntmps6
    go_wp2_with fail
    go_ret
    exact ⟨rfl, Below.refl _ _⟩
  have hn : len ≤ 1048576 := by omega
  generalize zs.take len = xs at *
  have hl : xs.length = len := hr.1
  have HL := hide hl
  have hmx : len ≤ maxLen := by unfold maxLen; omega
  have H8 := hide h8
  clear hl h8
  have B := hide (show ∀ w', Below w.heap.size w w' → Row w' a len xs from fun w' hb => by
    by_cases h : 0 < len
    · exact hr.below hb (fun x hx => hlt x hx h)
    · exact ⟨hr.1, fun i hi => absurd hi (by omega)⟩)
  have R := hide hr
  clear hr hlt
  go_enter Try.func6, Try.ntmps6
  go_wp2_with fail
  refine (toByteS_any a len cap xs w hn (unhide R)).mono ?_
  rintro e w1 ⟨v1, rfl, hm1, hb1⟩
  obtain ⟨a1, c1, rfl, _, _, hr1, hf1⟩ := hm1
  rw [unhide HL] at hr1
  rw [unhide HL]
  go_wp2_with fail
  refine (specCrc_any a1 len c1 xs w1 hn hr1 (unhide H8)).mono ?_
  rintro e w2 ⟨rfl, rfl⟩
  have hrA := unhide B w2 hb1
  generalize hq : crcR xs = q
  have HQ := hide hq
  clear hr1 hf1 hq
  go_wp2_with fail
  refine (toByteS_any a len cap xs w2 hn hrA).mono ?_
  rintro e w3 ⟨v3, rfl, hm3, hb3⟩
  obtain ⟨a3, c3, rfl, _, _, hr3, hf3⟩ := hm3
  rw [unhide HL] at hr3
  rw [unhide HL]
  have hs1 := hb1.size
  have bB : Below w.heap.size w w3 := hb1.trans (hb3.mono hs1)
  clear hb1 hb3 hrA
  go_wp2_with fail
  refine (implCrc_any a3 len c3 xs w3 hn hr3 (unhide H8)).mono ?_
  rintro e w4 ⟨rfl, rfl⟩
  rw [unhide HQ]
  have hqq : (q != q) = false := by simp
  have hrB := unhide B w4 bB
  have F3 := hide (show ∀ x, a3 = some x → x.block < w4.heap.size from fun x hx => (hf3 x hx).2.1)
  clear hf3
  go_wp2_with fail
  refine (toByteS_any a len cap xs w4 hn hrB).mono ?_
  rintro e w5 ⟨v5, rfl, hm5, hb5⟩
  obtain ⟨a5, c5, rfl, _, _, hr5, hf5⟩ := hm5
  rw [unhide HL] at hr5
  rw [unhide HL]
  have hr3D := hr3.below hb5 (unhide F3)
  have bC : Below w.heap.size w w5 := bB.trans (hb5.mono bB.size)
  clear hb5 hf5 hrB hr3 bB
  go_wp2_with fail
  refine (eqByteS_any a3 a5 len len c3 c5 xs xs w5 hmx hmx hr3D hr5).mono ?_
  rintro e w6 ⟨rfl, k6, rfl⟩
  rw [show decide (xs = xs) = true from by simp]
  go_wp2_with fail
  go_ret
  exact ⟨rfl, bel_drewN bC k6⟩
end Go.Proofs.Ytdiakahaghggiaa
