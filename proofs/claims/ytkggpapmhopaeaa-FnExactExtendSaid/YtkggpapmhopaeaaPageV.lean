/-
  l04Own: a page in new memory.
-/
import Derived.Test.YtkggpapmhopaeaaKdA
import Derived.Test.YtkggpapmhopaeaaPageU
import Derived.Test.YtkggpapmhopaeaaPgCc
namespace Go.Proofs.Ytkggpapmhopaeaa
open Go.RowKit

set_option maxRecDepth 100000 in
set_option maxHeartbeats 4000000 in
theorem l04Own_any (lo hi : ByteArray) (r : Int) (ab : Option Addr) (nb cb : Nat) (es : List EntD) (ac : Option Addr) (nc cc : Nat) (ds : List DelD) (w : World) (hE : ERow w ab nb es) (hD : DRow w ac nc ds) (hnb : nb ≤ 1100000) (hnc : nc ≤ 1100000) (hcb : ab = none → cb = 0) (hcc : ac = none → cc = 0) :
    Calls Try.prog 48 #[pgv lo hi r ab nb cb ac nc cc] w fun e w' => ∃ a n c a2 n2 c2, e = .returned (pgv lo hi r a n c a2 n2 c2) ∧ PgOwn w' w.heap.size a n c a2 n2 c2 es ds ∧ Below w.heap.size w w' := by
  obtain ⟨W, hW, k1, k2, z, b0⟩ := two_new w (.string lo) (.string hi) (.int .i64 r) (.slice ab nb cb) (.slice ac nc cc)
  have bA : Below W.heap.size W (W.alloc (.cells #[] 58)) := (Below.refl _ _).alloc (Nat.le_refl _) _
  have OA := nil_lit (w := W) 58 2
  have zA : (W.alloc (.cells #[] 58)).heap.size = W.heap.size + 1 := by simp
  have KA1 := (bA.block w.heap.size (by omega)).trans k1
  have KA2 := (bA.block (w.heap.size + 1) (by omega)).trans k2
  obtain ⟨v1, w1, hr1, hO1, hg1, hv1⟩ := run_appE (c := cb) 28 (show EOwns _ _ _ [] from OA) ((hE.below b0).below bA) (by simp) (by omega) hcb (by omega)
  have b1 : Below W.heap.size W w1 := bA.trans ((Below.refl _ _).grown hg1 (by omega) (fun k hk => (World.ownsRow.lt OA k hk).1))
  have zW1 : W.heap.size ≤ w1.heap.size := b1.size
  obtain ⟨a1, n1, c1, rfl⟩ : ∃ a n c, v1 = .slice a n c := by
    rcases hO1.2 with ⟨e, _⟩ | ⟨g, cap, cur, e, _⟩
    · exact ⟨_, _, _, e⟩
    · exact ⟨_, _, _, e⟩
  have K1 := (b1.block w.heap.size (by omega)).trans k1
  have K2 := (b1.block (w.heap.size + 1) (by omega)).trans k2
  have B1 := b0.trans (b1.mono b0.size)
  clear bA OA zA KA2 hg1 b1 k2
  have c13 : w1.cell? ⟨w.heap.size, 3, none⟩ = some (.slice ab nb cb) := heap_cell K1 3
  have f13 := heap_frozen K1 3
  have zs : (w1.setCell ⟨w.heap.size, 3, none⟩ (.slice a1 n1 c1)).heap.size = w1.heap.size := by simp [World.setCell]
  have K1s := heap_set K1 3 (.slice a1 n1 c1)
  have K2s := (Below.heap_setCell w1 ⟨w.heap.size, 3, none⟩ (.slice a1 n1 c1) (w.heap.size + 1) (by simp)).trans K2
  have O1s := ownsRow_set (show w1.ownsRow _ _ _ _ _ _ from hO1) (sb := w.heap.size) (by omega) 3 (.slice a1 n1 c1)
  have Bs := B1.setCell (p := ⟨w.heap.size, 3, none⟩) (Nat.le_refl _) (.slice a1 n1 c1)
  obtain ⟨ws, hws⟩ : ∃ ws, ws = w1.setCell ⟨w.heap.size, 3, none⟩ (.slice a1 n1 c1) := ⟨_, rfl⟩
  rw [← hws] at zs K1s K2s O1s Bs
  have bC : Below ws.heap.size ws (ws.alloc (.cells #[] 44)) := (Below.refl _ _).alloc (Nat.le_refl _) _
  have OC := nil_lit (w := ws) 44 4
  have zC : (ws.alloc (.cells #[] 44)).heap.size = ws.heap.size + 1 := by simp
  obtain ⟨v3, w3, hr3, hO3, hg3, hv3⟩ := run_appD (c := cc) 29 (show DOwns _ _ _ [] from OC) ((hD.below Bs).below bC) (by simp) (by omega) hcc (by omega)
  have b3 : Below ws.heap.size ws w3 := bC.trans ((Below.refl _ _).grown hg3 (by omega) (fun k hk => (World.ownsRow.lt OC k hk).1))
  obtain ⟨a3, n3, c3, rfl⟩ : ∃ a n c, v3 = .slice a n c := by
    rcases hO3.2 with ⟨e, _⟩ | ⟨g, cap, cur, e, _⟩
    · exact ⟨_, _, _, e⟩
    · exact ⟨_, _, _, e⟩
  have K1c := (bC.block w.heap.size (by omega)).trans K1s
  have K1t := (b3.block w.heap.size (by omega)).trans K1s
  have K2t := (b3.block (w.heap.size + 1) (by omega)).trans K2s
  have O1t := ownsRow_below O1s b3
  have B3 := Bs.trans (b3.mono Bs.size)
  have zz3 := b3.size
  have AP : ∀ i, (Value.slice a1 n1 c1).ownBlock = some i → ¬ (Value.slice a3 n3 c3).ownBlock = some i := fun i h1 h2 => by
    have := (O1s.lt i h1).2
    have := (hO3.lt i h2).1
    omega
  have K1u := heap_set K1t 4 (.slice a3 n3 c3)
  have K2u := (Below.heap_setCell w3 ⟨w.heap.size, 4, none⟩ (.slice a3 n3 c3) (w.heap.size + 1) (by simp)).trans K2t
  have O1u := ownsRow_set O1t (sb := w.heap.size) (by omega) 4 (.slice a3 n3 c3)
  have O3u := ownsRow_set (show w3.ownsRow _ _ _ _ _ _ from hO3) (sb := w.heap.size) (by omega) 4 (.slice a3 n3 c3)
  have Bu := B3.setCell (p := ⟨w.heap.size, 4, none⟩) (Nat.le_refl _) (.slice a3 n3 c3)
  have d3 : (ws.alloc (.cells #[] 44)).cell? ⟨w.heap.size, 4, none⟩ = some (.slice ac nc cc) := heap_cell K1c 4
  have c34 : w3.cell? ⟨w.heap.size, 4, none⟩ = some (.slice ac nc cc) := heap_cell K1t 4
  have f34 := heap_frozen K1t 4
  have cA3 : (W.alloc (.cells #[] 58)).cell? ⟨w.heap.size, 3, none⟩ = some (.slice ab nb cb) := heap_cell KA1 3
  obtain ⟨wu, hwu⟩ : ∃ wu, wu = w3.setCell ⟨w.heap.size, 4, none⟩ (.slice a3 n3 c3) := ⟨_, rfl⟩
  rw [← hwu] at K1u K2u O1u O3u Bu
  have u0 : wu.cell? ⟨w.heap.size, 0, none⟩ = some (.string lo) := heap_cell K1u 0
  have u1 : wu.cell? ⟨w.heap.size, 1, none⟩ = some (.string hi) := heap_cell K1u 1
  have u2 : wu.cell? ⟨w.heap.size, 2, none⟩ = some (.int .i64 r) := heap_cell K1u 2
  have u3 : wu.cell? ⟨w.heap.size, 3, none⟩ = some (.slice a1 n1 c1) := heap_cell K1u 3
  have u4 : wu.cell? ⟨w.heap.size, 4, none⟩ = some (.slice a3 n3 c3) := heap_cell K1u 4
  obtain ⟨t0, t1, t2, t3, t4⟩ := pg_cells5 K2u
  obtain ⟨f0, f1, f2, f3, f4⟩ := fz_cells K2u
  have hb1 : w.heap.size + 1 < W.heap.size := by omega
  have hb3 : w.heap.size + 1 < ws.heap.size := by omega
  have FE := hide (set5_owns O1u hb1 (.string lo) (.string hi) (.int .i64 r) (.slice a1 n1 c1) (.slice a3 n3 c3))
  have FD := hide (set5_owns O3u hb3 (.string lo) (.string hi) (.int .i64 r) (.slice a1 n1 c1) (.slice a3 n3 c3))
  have FB := hide (set5_below Bu (Nat.le_succ _) (.string lo) (.string hi) (.int .i64 r) (.slice a1 n1 c1) (.slice a3 n3 c3))
  have HR1 := hide hr1
  have HR3 := hide hr3
  have HWS := hide hws
  have HWU := hide hwu
  have HW := hide hW
  have HAP := hide AP
  have hle1 : w.heap.size ≤ W.heap.size := by omega
  have hle2 : w.heap.size ≤ ws.heap.size := by omega
  clear K1u K2u O1u O3u Bu K1t K2t O1t B3 hO3 hg3 b3 K1c bC OC zC O1s Bs K1s K2s K1 K2 hO1 KA1 B1 k1 b0 hE hD hr1 hr3 hws hwu hW AP hv1 hv3 zz3 zW1 hb1 hb3 z zs
  go_enter Try.func48, Try.ntmps48
  go_upto_region 1 with fail
  rw [← unhide HW]
  go_upto_region 2 with (at_builtin; refine wpAppE rfl _ _ 28 rfl _ _ _ w1 rfl rfl (unhide HR1) ?_)
  rw [← unhide HWS]
  clear cA3 c13 f13
  go_upto_region 3 with (at_builtin; refine wpAppE rfl _ _ 29 rfl _ _ _ w3 rfl rfl (unhide HR3) ?_)
  rw [← unhide HWU]
  clear d3 c34 f34
  go_wp2_with fail
  refine bodyPost_ret (v := pgv lo hi r a1 n1 c1 a3 n3 c3) (by simp [results, Try.results48, go_sem, *]) rfl ?_
  exact ⟨_, _, _, _, _, _, rfl, ⟨ownsRow_base (unhide FE) hle1, ownsRow_base (unhide FD) hle2, unhide HAP⟩, unhide FB⟩
end Go.Proofs.Ytkggpapmhopaeaa
