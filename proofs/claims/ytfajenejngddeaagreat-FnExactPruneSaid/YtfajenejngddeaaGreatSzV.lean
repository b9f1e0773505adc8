/-
  The sizes of Versions: what was counted in all.
-/
import Derived.Test.YtfajenejngddeaaGreatVvA
import Derived.Test.YtfajenejngddeaaGreatPageL
namespace Go.Proofs.YtfajenejngddeaaGreat
open Go.RowKit

/-- How many records Versions hold. -/
def vsN (d : VsD) : Nat := d.list.length + d.fen.length + d.ses.length + (d.ses.map (fun s => s.ws.length)).sum
set_option maxHeartbeats 1000000 in
theorem szVersionS_sum (a : Option Addr) (n c : Nat) (ds : List VerD) (left : Int) (w : World) (h0 : 0 ≤ left) (h1 : left ≤ 1048576) (hr : VRow w a n ds) (hn : n ≤ maxLen) (ht : ∀ i (hi : i < ds.length), ds[i].k.size ≤ maxLen ∧ ds[i].v.size ≤ maxLen) :
    Calls Tryz.prog 40 #[.slice a n c, .int .i64 left] w fun e w' => ∃ r : Int, e = .returned (.int .i64 r) ∧ (r = -1 ∨ (0 ≤ r ∧ r + n ≤ left)) ∧ Below w.heap.size w w' := by
  unfold maxLen at hn
  have L := hide hr.1
  have R := hide hr
  have T := hide ht
  clear hr ht
  by_cases hb : left - n < 0
  · go_enter Tryz.func40, Tryz.ntmps40
    go_wp2_with fail
    go_ret
    exact ⟨-1, rfl, .inl rfl, Below.refl _ _⟩
  have hb' : 0 ≤ left - n := by omega
  go_enter Tryz.func40, Tryz.ntmps40
  go_wp2_with fail
  go_loopw [1, 5] (fun l i wr => ∃ k : Nat, k ≤ n ∧ i = .int .i64 k ∧ ∃ q : Int, l = .int .i64 q ∧ 0 ≤ q ∧ q ≤ left - n ∧ Below w.heap.size w wr) (fun _ i _ => n - (intOf i).toNat)
  case atStart => exact ⟨0, by omega, rfl, _, rfl, by omega, by omega, Below.refl _ _⟩
  case round =>
    obtain ⟨k, hk, rfl, q, rfl, hq0, hq1, hbel⟩ := hrel
    by_cases hlt : k < n
    · have hk2 : k < ds.length := by rw [unhide L]; exact hlt
      obtain ⟨b, off, rfl, d0, d1, d2, d3⟩ := ((unhide R).below hbel).2 k hk2
      have hsz := hbel.size
      have hT := unhide T k hk2
      generalize ds[k] = pd at *
      go_wp2_with fail
      refine (szVersion_any pd q wr hq0 (by omega) hT.1 hT.2).mono ?_
      rintro e w1 ⟨r, rfl, hr, hb1⟩
      have bA := hbel.trans (hb1.mono hsz)
      clear hbel hb1 d0 d1 d2 d3
      rcases hr with rfl | ⟨r0, r1⟩
      · go_wp2_with fail
        go_ret
        exact ⟨-1, rfl, .inl rfl, bA⟩
      · go_wp2_with fail
        go_roundw
        case rel => exact ⟨k + 1, by omega, by go_num, r, rfl, r0, by omega, bA⟩
        case measure => simp [intOf]; omega
    · obtain rfl : k = n := by omega
      go_wp2_with fail
      go_ret
      exact ⟨q, rfl, .inr ⟨hq0, by omega⟩, hbel⟩
set_option maxHeartbeats 1000000 in
theorem szFenceS_sum (a : Option Addr) (n c : Nat) (ds : List FenD) (left : Int) (w : World) (h0 : 0 ≤ left) (h1 : left ≤ 1048576) (hr : FRow w a n ds) (hn : n ≤ maxLen) (ht : ∀ i (hi : i < ds.length), ds[i].f.size ≤ maxLen ∧ ds[i].u.size ≤ maxLen) :
    Calls Tryz.prog 41 #[.slice a n c, .int .i64 left] w fun e w' => ∃ r : Int, e = .returned (.int .i64 r) ∧ (r = -1 ∨ (0 ≤ r ∧ r + n ≤ left)) ∧ Below w.heap.size w w' := by
  unfold maxLen at hn
  have L := hide hr.1
  have R := hide hr
  have T := hide ht
  clear hr ht
  by_cases hb : left - n < 0
  · go_enter Tryz.func41, Tryz.ntmps41
    go_wp2_with fail
    go_ret
    exact ⟨-1, rfl, .inl rfl, Below.refl _ _⟩
  have hb' : 0 ≤ left - n := by omega
  go_enter Tryz.func41, Tryz.ntmps41
  go_wp2_with fail
  go_loopw [1, 5] (fun l i wr => ∃ k : Nat, k ≤ n ∧ i = .int .i64 k ∧ ∃ q : Int, l = .int .i64 q ∧ 0 ≤ q ∧ q ≤ left - n ∧ Below w.heap.size w wr) (fun _ i _ => n - (intOf i).toNat)
  case atStart => exact ⟨0, by omega, rfl, _, rfl, by omega, by omega, Below.refl _ _⟩
  case round =>
    obtain ⟨k, hk, rfl, q, rfl, hq0, hq1, hbel⟩ := hrel
    by_cases hlt : k < n
    · have hk2 : k < ds.length := by rw [unhide L]; exact hlt
      obtain ⟨b, off, rfl, d0, d1, d2⟩ := ((unhide R).below hbel).2 k hk2
      have hsz := hbel.size
      have hT := unhide T k hk2
      generalize ds[k] = pd at *
      go_wp2_with fail
      refine (szFence_any pd q wr hq0 (by omega) hT.1 hT.2).mono ?_
      rintro e w1 ⟨r, rfl, hr, hb1⟩
      have bA := hbel.trans (hb1.mono hsz)
      clear hbel hb1 d0 d1 d2
      rcases hr with rfl | ⟨r0, r1⟩
      · go_wp2_with fail
        go_ret
        exact ⟨-1, rfl, .inl rfl, bA⟩
      · go_wp2_with fail
        go_roundw
        case rel => exact ⟨k + 1, by omega, by go_num, r, rfl, r0, by omega, bA⟩
        case measure => simp [intOf]; omega
    · obtain rfl : k = n := by omega
      go_wp2_with fail
      go_ret
      exact ⟨q, rfl, .inr ⟨hq0, by omega⟩, hbel⟩
set_option maxHeartbeats 1000000 in
theorem szSession_sum (r : SesR) (ws : List VerD) (left : Int) (w : World) (h0 : 0 ≤ left) (h1 : left ≤ 1048576) (hv : VRow w r.ws.a r.ws.n ws) (hn : r.ws.n ≤ maxLen) (hl : LimV ws) :
    Calls Tryz.prog 87 #[sv r, .int .i64 left] w fun e w' => ∃ q : Int, e = .returned (.int .i64 q) ∧ (q = -1 ∨ (0 ≤ q ∧ q + r.ws.n ≤ left)) ∧ Below w.heap.size w w' := by
  obtain ⟨o, t, a, n, c⟩ := r
  unfold sv
  simp only at hv hn ⊢
  have b0 : Below w.heap.size w (w.alloc (.cells #[.bool o, .int .i64 t, .slice a n c] 143)) := (Below.refl _ _).alloc (Nat.le_refl _) _
  have C := hide (szVersionS_sum a n c ws left _ h0 h1 (hv.below b0) hn hl)
  clear hv hl
  go_enter Tryz.func87, Tryz.ntmps87
  go_wp2_with fail
  generalize w.alloc (.cells #[.bool o, .int .i64 t, .slice a n c] 143) = W at *
  refine (unhide C).mono ?_
  rintro e w1 ⟨q, rfl, hq, hb⟩
  have bA := b0.trans (hb.mono b0.size)
  clear C b0 hb
  rcases hq with rfl | ⟨q0, q1⟩
  · go_wp2_with fail
    go_ret
    exact ⟨-1, rfl, .inl rfl, bA⟩
  · go_wp2_with fail
    go_ret
    exact ⟨q, rfl, .inr ⟨q0, q1⟩, bA⟩
set_option maxHeartbeats 1000000 in
theorem szSessionS_sum (a : Option Addr) (n c : Nat) (rs : List SesR) (ss : List SesD) (left : Int) (w : World) (h0 : 0 ≤ left) (h1 : left ≤ 1048576) (hr : SRow w a n rs) (hs : SsAt w rs ss) (hn : n ≤ maxLen) (hl : LimS rs ss) :
    Calls Tryz.prog 42 #[.slice a n c, .int .i64 left] w fun e w' => ∃ q : Int, e = .returned (.int .i64 q) ∧ (q = -1 ∨ (0 ≤ q ∧ q + n + (((ss.map (fun s => s.ws.length)).sum : Nat) : Int) ≤ left)) ∧ Below w.heap.size w w' := by
  unfold maxLen at hn
  have L := hide hr.1
  have R := hide hr
  have T := hide hl
  have SS := hide hs
  clear hr hs hl
  by_cases hb : left - n < 0
  · go_enter Tryz.func42, Tryz.ntmps42
    go_wp2_with fail
    go_ret
    exact ⟨-1, rfl, .inl rfl, Below.refl _ _⟩
  have hb' : 0 ≤ left - n := by omega
  go_enter Tryz.func42, Tryz.ntmps42
  go_wp2_with fail
  go_loopw [1, 5] (fun l i wr => ∃ k : Nat, k ≤ n ∧ i = .int .i64 k ∧ ∃ q : Int, l = .int .i64 q ∧ 0 ≤ q ∧ q + ((((ss.take k).map (fun s => s.ws.length)).sum : Nat) : Int) ≤ left - n ∧ Below w.heap.size w wr) (fun _ i _ => n - (intOf i).toNat)
  case atStart => exact ⟨0, by omega, rfl, _, rfl, by omega, by simp only [List.take_zero, List.map_nil, List.sum_nil]; omega, Below.refl _ _⟩
  case round =>
    obtain ⟨k, hk, rfl, q, rfl, hq0, hq1, hbel⟩ := hrel
    by_cases hlt : k < n
    · have hk2 : k < rs.length := by rw [unhide L]; exact hlt
      have hk3 : k < ss.length := by rw [← (unhide SS).1]; exact hk2
      obtain ⟨b, off, rfl, d0, d1, d2⟩ := ((unhide R).below hbel).2 k hk2
      have hsz := hbel.size
      have C := hide (szSession_sum rs[k] ss[k].ws q wr hq0 (by omega) (((unhide SS).below hbel).2 k hk2 hk3).2.2 (unhide T k hk2 hk3).1 (unhide T k hk2 hk3).2)
      have ST := hide (show ((ss.take (k + 1)).map (fun s => s.ws.length)).sum = ((ss.take k).map (fun s => s.ws.length)).sum + rs[k].ws.n by
        rw [takeG_snoc ss k hk3, List.map_append, List.sum_append, ← ((unhide SS).2 k hk2 hk3).2.2.1]
        simp)
      generalize rs[k] = pd at *
      obtain ⟨po, pt, pa, pn, pc⟩ := pd
      unfold sv at C
      simp only at d0 d1 d2 C ST
      go_wp2_with fail
      refine (unhide C).mono ?_
      rintro e w1 ⟨r, rfl, hr, hb1⟩
      have bA := hbel.trans (hb1.mono hsz)
      clear hbel hb1 d0 d1 d2 C
      rcases hr with rfl | ⟨r0, r1⟩
      · go_wp2_with fail
        go_ret
        exact ⟨-1, rfl, .inl rfl, bA⟩
      · go_wp2_with fail
        go_roundw
        case rel => exact ⟨k + 1, by omega, by go_num, r, rfl, r0, by rw [unhide ST]; omega, bA⟩
        case measure => simp [intOf]; omega
    · obtain rfl : k = n := by omega
      have Z := hide (show ss.take k = ss by rw [List.take_of_length_le]; have := (unhide SS).1; have := unhide L; omega)
      go_wp2_with fail
      go_ret
      exact ⟨q, rfl, .inr ⟨hq0, by rw [unhide Z] at hq1; omega⟩, hbel⟩
set_option maxRecDepth 100000 in
set_option maxHeartbeats 1000000 in
theorem szVersions_sum (next : Int) (l f s : Sl) (rs : List SesR) (d : VsD) (w : World) (h : VsAt w l f s rs d) (hi : VsIn l f s rs d) :
    Calls Tryz.prog 15 #[vsv next l f s, .int .i64 1048576] w fun e w' => ∃ q : Int, e = .returned (.int .i64 q) ∧ (q = -1 ∨ (0 ≤ q ∧ vsN d ≤ 1048576)) ∧ Below w.heap.size w w' := by
  obtain ⟨la, ln, lc⟩ := l
  obtain ⟨fa, fn, fc⟩ := f
  obtain ⟨sa, sn, sc⟩ := s
  have H := hide h
  have HI := hide hi
  have b0 : Below w.heap.size w (w.alloc (.cells #[.int .i64 next, .slice la ln lc, .slice fa fn fc, .slice sa sn sc] 52)) := (Below.refl _ _).alloc (Nat.le_refl _) _
  have k0 := heap_alloc_new w (.cells #[.int .i64 next, .slice la ln lc, .slice fa fn fc, .slice sa sn sc] 52)
  have K := hide k0
  clear h hi k0
  unfold vsv
  simp only
  go_enter Tryz.func15, Tryz.ntmps15
  go_wp2_with fail
  generalize w.alloc (.cells #[.int .i64 next, .slice la ln lc, .slice fa fn fc, .slice sa sn sc] 52) = W at *
  refine (szVersionS_sum la ln lc d.list 1048576 W (by omega) (by omega) ((unhide H).below b0).v (unhide HI).ln (unhide HI).lv).mono ?_
  rintro e w1 ⟨q, rfl, hq, hb⟩
  have K1 := hide ((hb.block w.heap.size (Array.getElem?_eq_some_iff.1 (unhide K)).1).trans (unhide K))
  replace b0 := b0.trans (hb.mono b0.size)
  clear hb K
  rcases hq with rfl | ⟨q0, q1⟩
  · go_wp2_with fail
    go_ret
    exact ⟨-1, rfl, .inl rfl, b0⟩
  have c2 : w1.cell? ⟨w.heap.size, 2, none⟩ = some (.slice fa fn fc) := (heap_at (unhide K1) 2).1
  go_wp2_with fail
  refine (szFenceS_sum fa fn fc d.fen q w1 q0 (by omega) ((unhide H).below b0).f (unhide HI).fn (unhide HI).lf).mono ?_
  rintro e w2 ⟨r, rfl, hr, hb⟩
  have K2 := hide ((hb.block w.heap.size (Array.getElem?_eq_some_iff.1 (unhide K1)).1).trans (unhide K1))
  replace b0 := b0.trans (hb.mono b0.size)
  clear hb K1 c2
  rcases hr with rfl | ⟨r0, r1⟩
  · go_wp2_with fail
    go_ret
    exact ⟨-1, rfl, .inl rfl, b0⟩
  have c3 : w2.cell? ⟨w.heap.size, 3, none⟩ = some (.slice sa sn sc) := (heap_at (unhide K2) 3).1
  go_wp2_with fail
  refine (szSessionS_sum sa sn sc rs d.ses r w2 r0 (by omega) ((unhide H).below b0).s ((unhide H).below b0).ss (unhide HI).sn (unhide HI).ls).mono ?_
  rintro e w3 ⟨u, rfl, hu, hb⟩
  replace b0 := b0.trans (hb.mono b0.size)
  clear hb K2 c3
  rcases hu with rfl | ⟨u0, u1⟩
  · go_wp2_with fail
    go_ret
    exact ⟨-1, rfl, .inl rfl, b0⟩
  have FEW := hide (show vsN d ≤ 1048576 by
    have e1 := (unhide H).v.1
    have e2 := (unhide H).f.1
    have e3 := (unhide H).s.1
    have e4 := (unhide H).ss.1
    simp only at e1 e2 e3
    unfold vsN
    omega)
  go_wp2_with fail
  go_ret
  exact ⟨u, rfl, .inr ⟨u0, unhide FEW⟩, b0⟩
end Go.Proofs.YtfajenejngddeaaGreat
