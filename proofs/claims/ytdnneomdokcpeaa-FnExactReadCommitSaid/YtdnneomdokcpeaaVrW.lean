/-
  The program's test of the writes of a session.
-/
import Derived.Test.YtdnneomdokcpeaaVrQ
namespace Go.Proofs.Ytdnneomdokcpeaa
open Go.RowKit

set_option maxHeartbeats 1000000 in
theorem writesOther_any (bx : Nat) (d : VerD) (t : Int) (w : World) (h : w.cell? ⟨bx, 0, none⟩ = some (.int .i64 t)) :
    Calls Try.prog 56 #[vv d, .pointer (some ⟨bx, 0, none⟩)] w fun e w' => e = .returned (.bool (!decide (d.t = t))) ∧ Below w.heap.size w w' := by
  have B0 := hide (show Below w.heap.size w (w.alloc (.cells #[.string d.k, .int .i64 d.t, .string d.v, .bool d.g] 52)) from (Below.refl _ _).alloc (Nat.le_refl _) _)
  have h' := (unhide B0).cell (p := ⟨bx, 0, none⟩) (cell_lt h) |>.trans h
  obtain ⟨k, s, v, g⟩ := d
  unfold vv
  simp only at B0 h'
  go_enter Try.func56, Try.ntmps56
  go_wp2_with fail
  first | (go_quiet (fail); go_wp2_with fail) | skip
  go_ret
  exact ⟨ret_bool (by by_cases e : s = t <;> simp [bne, e]), by first | exact unhide B0 | exact bel_drewN (unhide B0) _ | exact (unhide B0).drew⟩
theorem find_step {ds : List VerD} {t : Int} {k : Nat} (hk : k < ds.length) (hp : ∀ i (h : i < ds.length), i < k → ds[i].t = t) (ht : ds[k].t = t) : ∀ i (h : i < ds.length), i < k + 1 → ds[i].t = t := fun i h hi => by
  by_cases e : i < k
  · exact hp i h e
  · obtain rfl : i = k := by omega
    exact ht
set_option maxRecDepth 100000 in
set_option maxHeartbeats 4000000 in
theorem indexOther_any (bx : Nat) (a : Option Addr) (n c : Nat) (ds : List VerD) (t : Int) (w : World) (hn : n ≤ 1048576) (hr : VRow w a n ds) (h : w.cell? ⟨bx, 0, none⟩ = some (.int .i64 t)) :
    Calls Try.prog 70 #[.slice a n c, .func (.func 56) #[] #[.pointer (some ⟨bx, 0, none⟩)]] w fun e w' => ∃ r : Int, e = .returned (.int .i64 r) ∧ decide (0 ≤ r) = !oneT ds t ∧ Below w.heap.size w w' := by
  have L := hide hr.1
  have R := hide hr
  have HB := hide h
  clear hr h
  go_enter Try.func70, Try.ntmps70
  go_wp2_with fail
  go_loopw [8] (fun i wr => ∃ k : Nat, k ≤ n ∧ i = .int .i64 k ∧ Hid (∀ i (h : i < ds.length), i < k → ds[i].t = t) ∧ Below w.heap.size w wr) (fun i _ => n - (intOf i).toNat)
  case atStart => exact ⟨0, by omega, rfl, (fun i _ hi => absurd hi (Nat.not_lt_zero _)), Below.refl _ _⟩
  case round =>
    obtain ⟨k, hk, rfl, hok, hb⟩ := hrel
    by_cases hlt : k < n
    · have hk2 : k < ds.length := by rw [unhide L]; exact hlt
      obtain ⟨b, off, rfl, d0, d1, d2, d3⟩ := ((unhide R).below hb).2 k hk2
      have hsz := hb.size
      have hbx : wr.cell? ⟨bx, 0, none⟩ = some (.int .i64 t) := (hb.cell (p := ⟨bx, 0, none⟩) (cell_lt (unhide HB))).trans (unhide HB)
      have C := hide (fun (u : World) (hu : u.cell? ⟨bx, 0, none⟩ = some (.int .i64 t)) => writesOther_any bx ds[k] t u hu)
      have F := hide (fun (h : ds[k].t ≠ t) => oneT_false hk2 h)
      have G := hide (find_step hk2 (unhide hok))
      generalize ds[k] = pd at *
      obtain ⟨pk, pt, pv, pg⟩ := pd
      unfold vv at C
      simp only at d0 d1 d2 d3 C F G
      clear hok
      by_cases ht : pt = t
      · subst ht
        have E : (!decide (pt = pt)) = false := by simp
        rw [E] at C
        clear F E
        go_wp2_with fail
        refine (unhide C wr hbx).mono ?_
        rintro e w1 ⟨rfl, hb1⟩
        all_goals
          have bA : Below w.heap.size w w1 := by first | exact hb.trans (hb1.mono hsz) | exact hb.drew.trans (hb1.mono hsz) | exact (bel_drewN hb _).trans (hb1.mono hsz)
          clear hb hb1 d0 d1 d2 d3 hbx C
          go_wp2_with fail
          go_roundw
          case rel => exact ⟨k + 1, by omega, by go_num, (by first | exact unhide G rfl | exact unhide G trivial), bA⟩
          case measure => simp [intOf]; omega
      · have E : (!decide (pt = t)) = true := by simp [ht]
        rw [E] at C
        have Z := hide (unhide F ht)
        clear F E G
        go_wp2_with fail
        refine (unhide C wr hbx).mono ?_
        rintro e w1 ⟨rfl, hb1⟩
        all_goals
          have bA : Below w.heap.size w w1 := by first | exact hb.trans (hb1.mono hsz) | exact hb.drew.trans (hb1.mono hsz) | exact (bel_drewN hb _).trans (hb1.mono hsz)
          clear hb hb1 d0 d1 d2 d3 hbx C
          go_wp2_with fail
          go_ret
          exact ⟨k, rfl, by rw [unhide Z]; simp, bA⟩
    · obtain rfl : k = n := by omega
      have Z := hide (show oneT ds t = true from oneT_true fun i hi => unhide hok i hi (by have := unhide L; omega))
      go_wp2_with fail
      go_ret
      exact ⟨-1, rfl, by rw [unhide Z]; simp, hb⟩
set_option maxHeartbeats 1000000 in
theorem containsOther_any (bx : Nat) (a : Option Addr) (n c : Nat) (ds : List VerD) (t : Int) (w : World) (hn : n ≤ 1048576) (hr : VRow w a n ds) (h : w.cell? ⟨bx, 0, none⟩ = some (.int .i64 t)) :
    Calls Try.prog 47 #[.slice a n c, .func (.func 56) #[] #[.pointer (some ⟨bx, 0, none⟩)]] w fun e w' => e = .returned (.bool (!oneT ds t)) ∧ Below w.heap.size w w' := by
  have C := hide (indexOther_any bx a n c ds t w hn hr h)
  clear hr h
  go_enter Try.func47, Try.ntmps47
  go_wp2_with fail
  refine (unhide C).mono ?_
  rintro e w1 ⟨r, rfl, hr, hb⟩
  have R := hide hr
  clear hr C
  go_wp2_with fail
  go_ret
  exact ⟨ret_bool (by rw [← unhide R]), hb⟩
set_option maxRecDepth 100000 in
set_option maxHeartbeats 4000000 in
theorem writesOK_any (a : Option Addr) (n c : Nat) (ds : List VerD) (t : Int) (w : World) (hn : n ≤ 1048576) (hr : VRow w a n ds) :
    Calls Try.prog 32 #[.slice a n c, .int .i64 t] w fun e w' => e = .returned (.bool (wrV ds t)) ∧ Below w.heap.size w w' := by
  have hmf : ∀ (fn : Fn) (first cap : Array Value) (w : World), (Instr.makeFunc fn first cap).run Try.prog w = .ok (.func fn first cap) w := fun _ _ _ _ => rfl
  have b0 : Below w.heap.size w (w.alloc (.cells #[.int .i64 t] 3)) := (Below.refl _ _).alloc (Nat.le_refl _) _
  have hs0 := b0.size
  have c0 : (w.alloc (.cells #[.int .i64 t] 3)).cell? ⟨w.heap.size, 0, none⟩ = some (.int .i64 t) := by simp
  have RR := hide (hr.below b0)
  have L := hide hr.1
  clear hr
  by_cases h8 : n ≤ 8
  · have E := hide (show wrV ds t = (okVs ds && oneT ds t) by unfold wrV; rw [decide_eq_true (by rw [unhide L]; exact h8)]; simp)
    have h8' : ¬ (8 : Int) < (n : Int) := by omega
    go_enter Try.func32, Try.ntmps32
    go_wp2_with fail
    generalize w.alloc (.cells #[.int .i64 t] 3) = W at *
    refine (listOK_any a n c ds W hn (unhide RR)).mono ?_
    rintro e w1 ⟨rfl, hb1⟩
    have hbb := b0.trans (hb1.mono hs0)
    have c1 : w1.cell? ⟨w.heap.size, 0, none⟩ = some (.int .i64 t) := (hb1.cell (p := ⟨w.heap.size, 0, none⟩) (cell_lt c0)).trans c0
    have C := hide (containsOther_any w.heap.size a n c ds t w1 hn ((unhide RR).below hb1) c1)
    have hsz := hbb.size
    clear RR hb1 c0 b0 hs0 c1
    generalize okVs ds = A at *
    generalize oneT ds t = O at *
    cases A
    · have E := hide (show wrV ds t = false by rw [unhide E]; rfl)
      go_wp2_with fail
      go_ret
      exact ⟨ret_bool (unhide E).symm, hbb⟩
    · have E := hide (show O = wrV ds t by rw [unhide E]; rfl)
      go_wp2_with fail
      refine (unhide C).mono ?_
      rintro e w2 ⟨rfl, hb2⟩
      have hbc := hbb.trans (hb2.mono hsz)
      go_wp2_with fail
      go_ret
      exact ⟨ret_bool (by rw [← unhide E]), hbc⟩
  · have E := hide (show wrV ds t = false by unfold wrV; rw [decide_eq_false (by rw [unhide L]; exact h8)]; rfl)
    have h8' : (8 : Int) < (n : Int) := by omega
    go_enter Try.func32, Try.ntmps32
    go_wp2_with fail
    go_ret
    exact ⟨ret_bool (unhide E).symm, b0⟩
end Go.Proofs.Ytdnneomdokcpeaa
