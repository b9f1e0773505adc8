/-
  Is an image's number there already: impl.recovered's closure, slices.ContainsFunc over images.
-/
import Derived.Test.YtcflepnckjappaaGreatImC
import Derived.Test.YtcflepnckjappaaGreatRowR
import Derived.Test.YtcflepnckjappaaGreatKdA
namespace Go.Proofs.YtcflepnckjappaaGreat
open Go.RowKit

/-- Is it that number. -/
def numX (i : Int) (y : ImR) : Bool := y.id == i
set_option maxHeartbeats 1000000 in
theorem numX_any (bx : Nat) (i : Int) (g : Bool) (sl : Value) (y : ImR) (w : World) (h : w.heap[bx]? = some (.cells #[.int .i64 i, .bool g, sl] 72 (0, 0))) :
    Calls Tryz.prog 138 #[gv y, .pointer (some ⟨bx, 0, none⟩)] w fun e w' => e = .returned (.bool (numX i y)) ∧ Below w.heap.size w w' := by
  obtain ⟨W, hW⟩ : ∃ W, W = w.alloc (.cells #[.int .i64 y.id, .bool y.gone, .slice y.d.a y.d.n y.d.c] 72) := ⟨_, rfl⟩
  have bW : Below w.heap.size w W := by rw [hW]; exact (Below.refl _ _).alloc (Nat.le_refl _) _
  have kb := (bW.block bx (blk_lt h)).trans h
  have c0 := (heap_at kb 0).1
  rw [hW] at c0
  clear h kb
  unfold gv numX
  go_enter Tryz.func138, Tryz.ntmps138
  go_wp2_with fail
  go_ret
  exact ⟨rfl, by rw [← hW]; exact bW⟩
set_option maxRecDepth 100000 in
set_option maxHeartbeats 4000000 in
theorem indexIm_any (bx : Nat) (x : Int) (xg : Bool) (xs : Value) (a : Option Addr) (n c : Nat) (ds : List ImR) (w : World) (hn : n ≤ 1048576) (hr : GRow w a n ds) (h : w.heap[bx]? = some (.cells #[.int .i64 x, .bool xg, xs] 72 (0, 0))) :
    Calls Tryz.prog 219 #[.slice a n c, .func (.func 138) #[] #[.pointer (some ⟨bx, 0, none⟩)]] w fun e w' => ∃ r : Int, e = .returned (.int .i64 r) ∧ decide (0 ≤ r) = ds.any (numX x) ∧ Below w.heap.size w w' := by
  have L := hide hr.1
  have R := hide hr
  have HB := hide h
  clear hr h
  go_enter Tryz.func219, Tryz.ntmps219
  go_wp2_with fail
  go_loopw [8] (fun i wr => ∃ k : Nat, k ≤ n ∧ i = .int .i64 k ∧ Hid (∀ i (h : i < ds.length), i < k → numX x ds[i] = false) ∧ Below w.heap.size w wr) (fun i _ => n - (intOf i).toNat)
  case atStart => exact ⟨0, by omega, rfl, (fun i _ hi => absurd hi (Nat.not_lt_zero _)), Below.refl _ _⟩
  case round =>
    obtain ⟨k, hk, rfl, hok, hb⟩ := hrel
    by_cases hlt : k < n
    · have hk2 : k < ds.length := by rw [unhide L]; exact hlt
      obtain ⟨b, off, rfl, d0, d1, d2⟩ := ((unhide R).below hb).2 k hk2
      have hsz := hb.size
      have C := hide (numX_any bx x xg xs ds[k] wr ((hb.block bx (blk_lt (unhide HB))).trans (unhide HB)))
      have F := hide (show numX x ds[k] = true → ds.any (numX x) = true from fun h => List.any_eq_true.2 ⟨_, List.getElem_mem hk2, h⟩)
      have G := hide (show numX x ds[k] = false → ∀ i (h : i < ds.length), i < k + 1 → numX x ds[i] = false from fun h i hi hik => by
        by_cases e : i = k
        · subst e; exact h
        · exact unhide hok i hi (by omega))
      generalize ds[k] = pd at *
      obtain ⟨b, hbv⟩ : ∃ b, b = numX x pd := ⟨_, rfl⟩
      rw [← hbv] at C F G
      clear hbv hok
      obtain ⟨pf, pu, ⟨pa, pn, pc⟩⟩ := pd
      unfold gv at C
      simp only at d0 d1 d2 C
      cases b with
      | false =>
        have Z := hide (unhide G rfl)
        clear F G
        go_wp2_with fail
        refine (unhide C).mono ?_
        rintro e w1 ⟨rfl, hb1⟩
        have bA : Below w.heap.size w w1 := hb.trans (hb1.mono hsz)
        clear hb hb1 d0 d1 d2 C
        go_wp2_with fail
        go_roundw
        case rel => exact ⟨k + 1, by omega, by go_num, unhide Z, bA⟩
        case measure => simp [intOf]; omega
      | true =>
        have Z := hide (unhide F rfl)
        clear F G
        go_wp2_with fail
        refine (unhide C).mono ?_
        rintro e w1 ⟨rfl, hb1⟩
        have bA : Below w.heap.size w w1 := hb.trans (hb1.mono hsz)
        clear hb hb1 d0 d1 d2 C
        go_wp2_with fail
        go_ret
        exact ⟨k, rfl, by rw [unhide Z]; simp, bA⟩
    · obtain rfl : k = n := by omega
      have Z := hide (show ds.any (numX x) = false from List.any_eq_false.2 fun y hy => by
        obtain ⟨i, hi, rfl⟩ := List.getElem_of_mem hy
        rw [unhide hok i hi (by have := unhide L; omega)]
        decide)
      go_wp2_with fail
      go_ret
      exact ⟨-1, rfl, by rw [unhide Z]; simp, hb⟩
set_option maxHeartbeats 1000000 in
theorem containsIm_any (bx : Nat) (x : Int) (xg : Bool) (xs : Value) (a : Option Addr) (n c : Nat) (ds : List ImR) (w : World) (hn : n ≤ 1048576) (hr : GRow w a n ds) (h : w.heap[bx]? = some (.cells #[.int .i64 x, .bool xg, xs] 72 (0, 0))) :
    Calls Tryz.prog 137 #[.slice a n c, .func (.func 138) #[] #[.pointer (some ⟨bx, 0, none⟩)]] w fun e w' => e = .returned (.bool (ds.any (numX x))) ∧ Below w.heap.size w w' := by
  have C := hide (indexIm_any bx x xg xs a n c ds w hn hr h)
  clear hr h
  go_enter Tryz.func137, Tryz.ntmps137
  go_wp2_with fail
  refine (unhide C).mono ?_
  rintro e w1 ⟨r, rfl, hr, hb⟩
  have R := hide hr
  clear hr C
  go_wp2_with fail
  go_ret
  exact ⟨ret_bool (by rw [← unhide R]), hb⟩
end Go.Proofs.YtcflepnckjappaaGreat
