/-
  slices.Concat of one list of entries, of two lists of changes.
-/
import Derived.Test.YtbboigidkimkmaaPgG
namespace Go.Proofs.Ytbboigidkimkmaa
open Go.RowKit

set_option maxRecDepth 100000 in
set_option maxHeartbeats 4000000 in
theorem concatE1 (ob : Nat) (a : Option Addr) (n c : Nat) (es : List EntD) (w : World) (hc : w.cell? ⟨ob, 0, none⟩ = some (.slice a n c)) (hR : ERow w a n es) (hcn : a = none → c = 0) (hn : n ≤ 1100000) :
    Calls Try.prog 38 #[.slice (some ⟨ob, 0, none⟩) 1 1] w fun e w' => ∃ v, e = .returned v ∧ EOwns w' w.heap.size v es ∧ Below w.heap.size w w' := by
  have R := hide hR
  have hob := cell_lt hc
  clear hR
  go_enter Try.func38, Try.ntmps38
  go_wp2_with fail
  refine wp_loop_rounds 2 ?_
  rw [rounds_succ]
  go_wp2_with fail
  rw [rounds_succ]
  go_wp2_with fail
  refine (growE n w (by omega)).mono ?_
  rintro e w1 ⟨v1, rfl, hO, _, hb⟩
  obtain ⟨v2, w2, hr, hO2, hg2, _⟩ := run_appE (c := c) 23 hO ((unhide R).below hb) (by simp) (by omega) hcn hb.size
  have hc1 := (hb.cell (p := ⟨ob, 0, none⟩) hob).trans hc
  have B2 := hide (hb.trans ((Below.refl w.heap.size w1).grown hg2 hb.size (fun k hk => (hO.lt k hk).1)))
  have O2 := hide (show EOwns w2 w.heap.size v2 es from hO2)
  clear hO hO2 hg2 hb R
  go_wp2_with fail
  refine wp_loop_rounds 2 ?_
  rw [rounds_succ]
  go_wp2_with (at_builtin; refine wpAppE rfl _ _ 23 rfl _ _ v2 w2 rfl rfl hr ?_)
  rw [rounds_succ]
  go_wp2_with fail
  go_ret
  exact ⟨v2, rfl, unhide O2, unhide B2⟩
set_option maxRecDepth 100000 in
set_option maxHeartbeats 4000000 in
theorem concatD2 (ob : Nat) (a : Option Addr) (n c : Nat) (ds : List DelD) (b : Nat) (d : DelD) (w : World) (hc : w.cell? ⟨ob, 0, none⟩ = some (.slice a n c)) (hc2 : w.cell? ⟨ob, 1, none⟩ = some (.slice (some ⟨b, 0, none⟩) 1 1)) (hR : DRow w a n ds) (hD : DRow w (some ⟨b, 0, none⟩) 1 [d]) (hcn : a = none → c = 0) (hn : n ≤ 1100000) :
    Calls Try.prog 39 #[.slice (some ⟨ob, 0, none⟩) 2 2] w fun e w' => ∃ v, e = .returned v ∧ DOwns w' w.heap.size v (ds ++ [d]) ∧ Below w.heap.size w w' := by
  have R := hide hR
  have R2 := hide hD
  have LD := hide hR.1
  have hob := cell_lt hc
  clear hR hD
  go_enter Try.func39, Try.ntmps39
  go_wp2_with fail
  refine wp_loop_rounds 3 ?_
  rw [rounds_succ]
  go_wp2_with fail
  rw [rounds_succ]
  go_wp2_with fail
  rw [rounds_succ]
  go_wp2_with fail
  refine (growDP (n + 1) w (by omega)).mono ?_
  rintro e w1 ⟨v1, rfl, hO, _, hb⟩
  obtain ⟨v2, w2, hr, hO2, hg2, _⟩ := run_appD (c := c) 24 hO ((unhide R).below hb) (by simp) (by omega) hcn hb.size
  have hc1 := (hb.cell (p := ⟨ob, 0, none⟩) hob).trans hc
  have b2 : Below w.heap.size w w2 := hb.trans ((Below.refl w.heap.size w1).grown hg2 hb.size (fun k hk => (hO.lt k hk).1))
  have hc3 := (b2.cell (p := ⟨ob, 1, none⟩) hob).trans hc2
  obtain ⟨v3, w3, hr3, hO3, hg3, _⟩ := run_appD (c := 1) 24 hO2 ((unhide R2).below b2) (by have := unhide LD; simp; omega) (by omega) (fun h => by cases h) b2.size
  have B3 := hide (b2.trans ((Below.refl w.heap.size w2).grown hg3 b2.size (fun k hk => (hO2.lt k hk).1)))
  have O3 := hide (show DOwns w3 w.heap.size v3 (ds ++ [d]) from hO3)
  clear hO hO2 hg2 hb R R2 hO3 hg3 b2
  go_wp2_with fail
  refine wp_loop_rounds 3 ?_
  rw [rounds_succ]
  go_wp2_with (at_builtin; refine wpAppE rfl _ _ 24 rfl _ _ v2 w2 rfl rfl hr ?_)
  rw [rounds_succ]
  go_wp2_with (at_builtin; refine wpAppE rfl _ _ 24 rfl _ _ v3 w3 rfl rfl hr3 ?_)
  rw [rounds_succ]
  go_wp2_with fail
  go_ret
  exact ⟨v3, rfl, unhide O3, unhide B3⟩
end Go.Proofs.Ytbboigidkimkmaa
