/-
  Versions as plain data: when they are right; the program's small tests of them.
-/
import Derived.Test.YtdnneomdokcpeaaVvA
import Derived.Test.YtdnneomdokcpeaaVrW
namespace Go.Proofs.Ytdnneomdokcpeaa
open Go.RowKit

/-- None is as late as a time. -/
def lateK (ds : List VerD) (t : Int) : Bool := ds.all fun d => decide (d.t < t)
theorem lateK_false {ds : List VerD} {i : Nat} {t : Int} (h : i < ds.length) (hf : ¬ ds[i].t < t) : lateK ds t = false := by
  rw [lateK, List.all_eq_false]
  exact ⟨ds[i], List.getElem_mem h, by simpa using hf⟩
theorem lateK_true {ds : List VerD} {t : Int} (h : ∀ i (hi : i < ds.length), ds[i].t < t) : lateK ds t = true := List.all_eq_true.2 fun d hd => by
  obtain ⟨i, hi, rfl⟩ := List.getElem_of_mem hd
  exact decide_eq_true (h i hi)
def fenK (next : Int) (f : FenD) : Bool := decide (f.f.size ≤ 40) && (decide (f.u.size ≤ 41) && (decide (1 ≤ f.t) && decide (f.t < next)))
def sesK (next : Int) (s : SesD) : Bool := if s.o = true then decide (1 ≤ s.t) && (decide (s.t < next) && wrV s.ws s.t) else decide (s.t = 0) && decide (s.ws.length = 0)
def topK (d : VsD) : Bool := decide (1 ≤ d.next ∧ d.next ≤ 1000 ∧ d.list.length ≤ 4096 ∧ d.fen.length ≤ 4096 ∧ d.ses.length = 4)
/-- Versions are right. -/
def okVsD (d : VsD) : Bool := topK d && (okVs d.list && (lateK d.list d.next && (d.fen.all (fenK d.next) && d.ses.all (sesK d.next))))
theorem all_false {α : Type} {p : α → Bool} {l : List α} {i : Nat} (h : i < l.length) (hf : p l[i] = false) : l.all p = false := by
  rw [List.all_eq_false]
  exact ⟨l[i], List.getElem_mem h, by rw [hf]; decide⟩
theorem all_true {α : Type} {p : α → Bool} {l : List α} (h : ∀ i (hi : i < l.length), p l[i] = true) : l.all p = true := List.all_eq_true.2 fun d hd => by
  obtain ⟨i, hi, rfl⟩ := List.getElem_of_mem hd
  exact h i hi
set_option maxHeartbeats 1000000 in
theorem late_any (bx : Nat) (d : VerD) (t : Int) (w : World) (h : w.cell? ⟨bx, 0, none⟩ = some (.int .i64 t)) :
    Calls Try.prog 45 #[vv d, .pointer (some ⟨bx, 0, none⟩)] w fun e w' => e = .returned (.bool (decide (t ≤ d.t))) ∧ Below w.heap.size w w' := by
  have B0 := hide (show Below w.heap.size w (w.alloc (.cells #[.string d.k, .int .i64 d.t, .string d.v, .bool d.g] 52)) from (Below.refl _ _).alloc (Nat.le_refl _) _)
  have h' := (unhide B0).cell (p := ⟨bx, 0, none⟩) (cell_lt h) |>.trans h
  obtain ⟨k, s, v, g⟩ := d
  unfold vv
  simp only at B0 h'
  go_enter Try.func45, Try.ntmps45
  go_wp2_with fail
  first | (go_quiet (fail); go_wp2_with fail) | skip
  go_ret
  exact ⟨rfl, by first | exact unhide B0 | exact bel_drewN (unhide B0) _ | exact (unhide B0).drew⟩
theorem late_step {ds : List VerD} {t : Int} {k : Nat} (hk : k < ds.length) (hp : ∀ i (h : i < ds.length), i < k → ds[i].t < t) (ht : ds[k].t < t) : ∀ i (h : i < ds.length), i < k + 1 → ds[i].t < t := fun i h hi => by
  by_cases e : i < k
  · exact hp i h e
  · obtain rfl : i = k := by omega
    exact ht
set_option maxRecDepth 100000 in
set_option maxHeartbeats 4000000 in
theorem indexLate_any (bx : Nat) (a : Option Addr) (n c : Nat) (ds : List VerD) (t : Int) (w : World) (hn : n ≤ 1048576) (hr : VRow w a n ds) (h : w.cell? ⟨bx, 0, none⟩ = some (.int .i64 t)) :
    Calls Try.prog 70 #[.slice a n c, .func (.func 45) #[] #[.pointer (some ⟨bx, 0, none⟩)]] w fun e w' => ∃ r : Int, e = .returned (.int .i64 r) ∧ decide (0 ≤ r) = !lateK ds t ∧ Below w.heap.size w w' := by
  have L := hide hr.1
  have R := hide hr
  have HB := hide h
  clear hr h
  go_enter Try.func70, Try.ntmps70
  go_wp2_with fail
  go_loopw [8] (fun i wr => ∃ k : Nat, k ≤ n ∧ i = .int .i64 k ∧ Hid (∀ i (h : i < ds.length), i < k → ds[i].t < t) ∧ Below w.heap.size w wr) (fun i _ => n - (intOf i).toNat)
  case atStart => exact ⟨0, by omega, rfl, (fun i _ hi => absurd hi (Nat.not_lt_zero _)), Below.refl _ _⟩
  case round =>
    obtain ⟨k, hk, rfl, hok, hb⟩ := hrel
    by_cases hlt : k < n
    · have hk2 : k < ds.length := by rw [unhide L]; exact hlt
      obtain ⟨b, off, rfl, d0, d1, d2, d3⟩ := ((unhide R).below hb).2 k hk2
      have hsz := hb.size
      have hbx : wr.cell? ⟨bx, 0, none⟩ = some (.int .i64 t) := (hb.cell (p := ⟨bx, 0, none⟩) (cell_lt (unhide HB))).trans (unhide HB)
      have C := hide (fun (u : World) (hu : u.cell? ⟨bx, 0, none⟩ = some (.int .i64 t)) => late_any bx ds[k] t u hu)
      have F := hide (fun (h : ¬ ds[k].t < t) => lateK_false hk2 h)
      have G := hide (late_step hk2 (unhide hok))
      generalize ds[k] = pd at *
      obtain ⟨pk, pt, pv, pg⟩ := pd
      unfold vv at C
      simp only at d0 d1 d2 d3 C F G
      clear hok
      by_cases ht : pt < t
      · have E : decide (t ≤ pt) = false := decide_eq_false (by omega)
        rw [E] at C
        have G' := hide (unhide G ht)
        clear F E G
        go_wp2_with fail
        refine (unhide C wr hbx).mono ?_
        rintro e w1 ⟨rfl, hb1⟩
        all_goals
          have bA : Below w.heap.size w w1 := by first | exact hb.trans (hb1.mono hsz) | exact hb.drew.trans (hb1.mono hsz) | exact (bel_drewN hb _).trans (hb1.mono hsz)
          clear hb hb1 d0 d1 d2 d3 hbx C
          go_wp2_with fail
          go_roundw
          case rel => exact ⟨k + 1, by omega, by go_num, unhide G', bA⟩
          case measure => simp [intOf]; omega
      · have E : decide (t ≤ pt) = true := decide_eq_true (by omega)
        rw [E] at C
        have Z := hide (unhide F ht)
        clear F E G
        go_wp2_with fail
        refine (unhide C wr hbx).mono ?_
        rintro e w1 ⟨rfl, hb1⟩
        all_goals
          have bA : Below w.heap.size w w1 := by first | exact hb.trans (hb1.mono hsz) | exact hb.drew.trans (hb1.mono hsz) | exact (bel_drewN hb _).trans (hb1.mono hsz)
          clear hb hb1 d0 d1 d2 d3 hbx C
          go_wp2_with fail
          go_ret
          exact ⟨k, rfl, by rw [unhide Z]; simp, bA⟩
    · obtain rfl : k = n := by omega
      have Z := hide (show lateK ds t = true from lateK_true fun i hi => unhide hok i hi (by have := unhide L; omega))
      go_wp2_with fail
      go_ret
      exact ⟨-1, rfl, by rw [unhide Z]; simp, hb⟩
set_option maxHeartbeats 1000000 in
theorem containsLate_any (bx : Nat) (a : Option Addr) (n c : Nat) (ds : List VerD) (t : Int) (w : World) (hn : n ≤ 1048576) (hr : VRow w a n ds) (h : w.cell? ⟨bx, 0, none⟩ = some (.int .i64 t)) :
    Calls Try.prog 47 #[.slice a n c, .func (.func 45) #[] #[.pointer (some ⟨bx, 0, none⟩)]] w fun e w' => e = .returned (.bool (!lateK ds t)) ∧ Below w.heap.size w w' := by
  have C := hide (indexLate_any bx a n c ds t w hn hr h)
  clear hr h
  go_enter Try.func47, Try.ntmps47
  go_wp2_with fail
  refine (unhide C).mono ?_
  rintro e w1 ⟨r, rfl, hr, hb⟩
  have R := hide hr
  clear hr C
  go_wp2_with fail
  go_ret
  exact ⟨ret_bool (by rw [← unhide R]), hb⟩
set_option maxHeartbeats 1000000 in
theorem fenceOK_any (d : FenD) (next : Int) (w : World) : Calls Try.prog 48 #[fncV d, .int .i64 next] w fun e w' => e = .returned (.bool (fenK next d)) ∧ Below w.heap.size w w' := by
  obtain ⟨f, u, t⟩ := d
  unfold fncV
  have B0 := hide (show Below w.heap.size w (w.alloc (.cells #[.string f, .string u, .int .i64 t] 74)) from (Below.refl _ _).alloc (Nat.le_refl _) _)
  have E := hide (show fenK next ⟨f, u, t⟩ = (decide (f.size ≤ 40) && (decide (u.size ≤ 41) && (decide (1 ≤ t) && decide (t < next)))) from rfl)
  generalize fenK next ⟨f, u, t⟩ = R at *
  by_cases h1 : f.size ≤ 40
  · have g1 : (f.size : Int) ≤ 40 := by omega
    by_cases h2 : u.size ≤ 41
    · have g2 : (u.size : Int) ≤ 41 := by omega
      by_cases h3 : 1 ≤ t
      · have F := hide (show decide (t < next) = R by rw [unhide E]; simp [h1, h2, h3])
        clear E
        go_enter Try.func48, Try.ntmps48
        go_wp2_with fail
        go_ret
        exact ⟨ret_bool (unhide F), unhide B0⟩
      · have F := hide (show false = R by rw [unhide E]; simp [h3])
        have g3 : ¬ (1 : Int) ≤ t := h3
        clear E
        go_enter Try.func48, Try.ntmps48
        go_wp2_with fail
        go_ret
        exact ⟨ret_bool (unhide F), unhide B0⟩
    · have g2 : ¬ (u.size : Int) ≤ 41 := by omega
      have F := hide (show false = R by rw [unhide E]; simp [h2])
      clear E
      go_enter Try.func48, Try.ntmps48
      go_wp2_with fail
      go_ret
      exact ⟨ret_bool (unhide F), unhide B0⟩
  · have g1 : ¬ (f.size : Int) ≤ 40 := by omega
    have F := hide (show false = R by rw [unhide E]; simp [h1])
    clear E
    go_enter Try.func48, Try.ntmps48
    go_wp2_with fail
    go_ret
    exact ⟨ret_bool (unhide F), unhide B0⟩
set_option maxHeartbeats 1000000 in
theorem sessionOK_any (r : SesR) (d : SesD) (next : Int) (w : World) (ho : r.o = d.o) (ht : r.t = d.t) (hv : VRow w r.ws.a r.ws.n d.ws) (hn : r.ws.n ≤ 1048576) : Calls Try.prog 49 #[sv r, .int .i64 next] w fun e w' => e = .returned (.bool (sesK next d)) ∧ Below w.heap.size w w' := by
  obtain ⟨o, t, ws⟩ := d
  obtain ⟨o', t', a, n, c⟩ := r
  simp only at ho ht hv hn
  subst ho ht
  unfold sv
  simp only
  have b0 : Below w.heap.size w (w.alloc (.cells #[.bool o', .int .i64 t', .slice a n c] 76)) := (Below.refl _ _).alloc (Nat.le_refl _) _
  have LN := hide hv.1
  have C := hide (writesOK_any a n c ws t' _ hn (hv.below b0))
  clear hv
  cases o'
  · by_cases h1 : t' = 0
    · have F := hide (show decide ((n : Int) = 0) = sesK next ⟨false, t', ws⟩ by
        unfold sesK
        rw [if_neg (by simp)]
        simp only
        rw [decide_eq_true h1, unhide LN, Bool.true_and, decide_eq_decide]
        omega)
      generalize sesK next ⟨false, t', ws⟩ = R at *
      subst h1
      clear C
      go_enter Try.func49, Try.ntmps49
      go_wp2_with fail
      go_ret
      exact ⟨ret_bool (by rw [← unhide F]; first | rfl | simp), b0⟩
    · have F := hide (show false = sesK next ⟨false, t', ws⟩ by
        unfold sesK
        rw [if_neg (by simp)]
        simp only
        rw [decide_eq_false h1]; rfl)
      generalize sesK next ⟨false, t', ws⟩ = R at *
      clear C
      go_enter Try.func49, Try.ntmps49
      go_wp2_with fail
      go_ret
      exact ⟨ret_bool (unhide F), b0⟩
  · have E := hide (show sesK next ⟨true, t', ws⟩ = (decide (1 ≤ t') && (decide (t' < next) && wrV ws t')) by unfold sesK; rw [if_pos rfl])
    generalize sesK next ⟨true, t', ws⟩ = R at *
    by_cases h1 : 1 ≤ t'
    · by_cases h2 : t' < next
      · have F := hide (show wrV ws t' = R by rw [unhide E, decide_eq_true h1, decide_eq_true h2]; rfl)
        clear E
        go_enter Try.func49, Try.ntmps49
        go_wp2_with fail
        refine (unhide C).mono ?_
        rintro e w1 ⟨rfl, hb⟩
        have bA := b0.trans (hb.mono b0.size)
        rw [unhide F]
        clear C b0 hb F
        go_wp2_with fail
        go_ret
        exact ⟨rfl, bA⟩
      · have F := hide (show false = R by rw [unhide E, decide_eq_false h2]; simp)
        clear E C
        go_enter Try.func49, Try.ntmps49
        go_wp2_with fail
        go_ret
        exact ⟨ret_bool (unhide F), b0⟩
    · have F := hide (show false = R by rw [unhide E, decide_eq_false h1]; rfl)
      clear E C
      go_enter Try.func49, Try.ntmps49
      go_wp2_with fail
      go_ret
      exact ⟨ret_bool (unhide F), b0⟩
end Go.Proofs.Ytdnneomdokcpeaa
