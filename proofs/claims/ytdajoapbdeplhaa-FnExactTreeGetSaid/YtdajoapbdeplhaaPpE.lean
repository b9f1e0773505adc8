/-
  Lists of Page: the walk of eq.. .
-/
import Derived.Test.YtdajoapbdeplhaaPpA
namespace Go.Proofs.Ytdajoapbdeplhaa
open Go.RowKit
theorem eqPage_nest (h1 h2 : PpH) (w : World) (hX : h2.X = h1.X) (r0 : RowC w (.slice h1.s0.a h1.s0.n h1.s0.c) h1.X.es.length (ecs h1.X.es)) (t0 : RowC w (.slice h2.s0.a h2.s0.n h2.s0.c) h1.X.es.length (ecs h1.X.es)) (r1 : RowC w (.slice h1.s1.a h1.s1.n h1.s1.c) h1.X.ds.length (dcs h1.X.ds)) (t1 : RowC w (.slice h2.s1.a h2.s1.n h2.s1.c) h1.X.ds.length (dcs h1.X.ds)) (hl : h1.s0.n ≤ 1048576 ∧ h1.s1.n ≤ 1048576) :
    Calls Try.prog 60 #[ppV h1, ppV h2] w fun e w' => e = .returned (.bool true) ∧ Below w.heap.size w w' := by
  obtain ⟨X, ⟨a0, n0, c0⟩, ⟨a1, n1, c1⟩⟩ := h1
  obtain ⟨X2, ⟨b0, m0, d0⟩, ⟨b1, m1, d1⟩⟩ := h2
  simp only at hX hl r0 t0 r1 t1
  subst hX
  obtain rfl := (rowC_len r0).trans (rowC_len t0).symm
  obtain rfl := (rowC_len r1).trans (rowC_len t1).symm
  exact eqPage_any X2.lo X2.hi X2.r a0 b0 _ c0 d0 X2.es a1 b1 _ c1 d1 X2.ds w hl.1 hl.2 (erow_C r0) (erow_C t0) (drow_C r1) (drow_C t1)
set_option maxHeartbeats 2000000 in
theorem eqPageS_any (a1 a2 : Option Addr) (n c1 c2 : Nat) (hs1 hs2 : List PpH) (w : World) (hn : n ≤ 1048576) (h1 : PpIn w (.slice a1 n c1) n hs1) (h2 : PpIn w (.slice a2 n c2) n hs2) (hX : hs2.map (·.X) = hs1.map (·.X)) (hl : ∀ h ∈ hs1, h.s0.n ≤ 1048576 ∧ h.s1.n ≤ 1048576) :
    Calls Try.prog 30 #[.slice a1 n c1, .slice a2 n c2] w fun e w' => e = .returned (.bool true) ∧ Below w.heap.size w w' := by
  have L1 := hide (show hs1.length = n by have := h1.len; simpa using this)
  have L2 := hide (show hs2.length = n by have := h2.len; simpa using this)
  have R1 := hide h1
  have R2 := hide h2
  have LM := hide hl
  have HX := hide hX
  clear h1 h2 hl hX
  go_enter Try.func30, Try.ntmps30
  go_wp2_with fail
  go_loopw [5] (fun i wr => ∃ k : Nat, k ≤ n ∧ i = .int .i64 k ∧ Below w.heap.size w wr) (fun i _ => n - (intOf i).toNat)
  case atStart => exact ⟨0, by omega, rfl, Below.refl _ _⟩
  case round =>
    obtain ⟨k, hk, rfl, hb⟩ := hrel
    by_cases hlt : k < n
    · have k1 : k < hs1.length := by rw [unhide L1]; exact hlt
      have k2 : k < hs2.length := by rw [unhide L2]; exact hlt
      have ex : hs2[k].X = hs1[k].X := by
        have e := congrArg (·[k]?) (unhide HX)
        simp only [List.getElem?_map, List.getElem?_eq_getElem k1, List.getElem?_eq_getElem k2, Option.map_some] at e
        injection e
      obtain ⟨b, off, rfl, _, d0, d1, d2, d3, d4⟩ := PpIn.cells ((unhide R1).below hb) k1
      obtain ⟨b', off', rfl, _, y0, y1, y2, y3, y4⟩ := PpIn.cells ((unhide R2).below hb) k2
      have C := hide (show ∀ u, Below wr.heap.size wr u → Calls Try.prog 60 #[ppV hs1[k], ppV hs2[k]] u fun e w' => e = .returned (.bool true) ∧ Below u.heap.size u w' from fun u hu => by
        have P1 := PpIn.sub (((unhide R1).below hb).below hu) k1
        have P2 := PpIn.sub (((unhide R2).below hb).below hu) k2
        rw [ex] at P2
        exact eqPage_nest hs1[k] hs2[k] u ex P1.1 P2.1 P1.2 P2.2 (unhide LM _ (List.getElem_mem k1)))
      clear ex
      generalize hs1[k] = pd at *
      generalize hs2[k] = qd at *
      obtain ⟨X, ⟨a0, n0, e0⟩, ⟨a1, n1, e1⟩⟩ := pd
      obtain ⟨Y, ⟨b0, m0, f0⟩, ⟨b1, m1, f1⟩⟩ := qd
      unfold ppV at C
      simp only at d0 d1 d2 d3 d4 y0 y1 y2 y3 y4 C
      generalize X.lo = x0 at *
      generalize Y.lo = w0 at *
      generalize X.hi = x1 at *
      generalize Y.hi = w1 at *
      generalize X.r = x2 at *
      generalize Y.r = w2 at *
      have hsz := hb.size
      go_wp2_with fail
      go_region_with (go_at_call 60; refine (unhide C _ (by first | exact Below.refl _ _ | exact (Below.refl _ _).drew | exact bel_drewN (Below.refl _ _) _)).mono ?_; rintro e w2 ⟨rfl, hb2⟩)
      all_goals
        have bA : Below w.heap.size w w2 := by first | exact hb.drew.trans (hb2.mono hsz) | exact (bel_drewN hb _).trans (hb2.mono hsz) | exact hb.trans (hb2.mono hsz)
        clear hb hb2 d0 d1 d2 d3 d4 y0 y1 y2 y3 y4 C
        go_wp2_with fail
        go_roundw
        case rel => exact ⟨k + 1, by omega, by go_num, bA⟩
        case measure => simp [intOf]; omega
    · obtain rfl : k = n := by omega
      go_wp2_with fail
      go_ret
      exact ⟨rfl, hb⟩
end Go.Proofs.Ytdajoapbdeplhaa
