/-
  What a page is behind all its changes: settle.
-/
import Derived.Test.YtkggpapmhopaeaaPageI
namespace Go.Proofs.Ytkggpapmhopaeaa
open Go.RowKit

/-- A page as a value. -/
abbrev pgv (lo hi : ByteArray) (r : Int) (ab : Option Addr) (nb cb : Nat) (ac : Option Addr) (nc cc : Nat) : Value := .agg #[.string lo, .string hi, .int .i64 r, .slice ab nb cb, .slice ac nc cc]
/-- What settle answers. -/
def SetOut (w w' : World) (lo hi : ByteArray) (r : Int) (es : List EntD) (ds : List DelD) (v : Value) (b : Bool) : Prop :=
  b = okPage lo hi r es ds ∧ (b = true → ∃ sb a' n' c', v = .pointer (some ⟨sb, 0, none⟩) ∧ w.heap.size ≤ sb ∧ Sett w' sb lo (highE hi ds) (rightE r ds) a' n' c' (entsE es ds))
/-- Her answer and what it leaves. -/
def SetRes (w : World) (lo hi : ByteArray) (r : Int) (es : List EntD) (ds : List DelD) (e : Ending) (w' : World) : Prop :=
  ∃ v b, e = .returned (.tuple #[v, .bool b]) ∧ SetOut w w' lo hi r es ds v b ∧ Below w.heap.size w w'
theorem out_false {w w' : World} {lo hi : ByteArray} {r : Int} {es : List EntD} {ds : List DelD} {v : Value} (h : okPage lo hi r es ds = false) : SetOut w w' lo hi r es ds v false := ⟨h.symm, fun h => by cases h⟩
theorem ok_bounds {lo hi : ByteArray} {r : Int} {es : List EntD} {ds : List DelD} (h : okBounds lo hi r = false) : okPage lo hi r es ds = false := by unfold okPage; rw [h]; rfl
theorem ok_es {lo hi : ByteArray} {r : Int} {es : List EntD} {ds : List DelD} (h : ¬ es.length ≤ 32) : okPage lo hi r es ds = false := by unfold okPage; rw [decide_eq_false h]; simp
theorem ok_ds {lo hi : ByteArray} {r : Int} {es : List EntD} {ds : List DelD} (h : ¬ ds.length ≤ 12) : okPage lo hi r es ds = false := by unfold okPage; rw [decide_eq_false h]; simp
theorem ok_base {lo hi : ByteArray} {r : Int} {es : List EntD} {ds : List DelD} {i : Nat} (hi' : i < es.length) (h : okAtE lo hi es i = false) : okPage lo hi r es ds = false := by unfold okPage; rw [okBase_false hi' h]; simp
theorem ok_chain {lo hi : ByteArray} {r : Int} {es : List EntD} {ds : List DelD} {i : Nat} (hi' : i < ds.length) (h : okAtD lo hi ds i = false) : okPage lo hi r es ds = false := by unfold okPage; rw [okChain_false hi' h]; simp
theorem ok_all {lo hi : ByteArray} {r : Int} {es : List EntD} {ds : List DelD} (h1 : okBounds lo hi r = true) (h2 : es.length ≤ 32) (h3 : ds.length ≤ 12) (h4 : ∀ i, i < es.length → okAtE lo hi es i = true) (h5 : ∀ i, i < ds.length → okAtD lo hi ds i = true) : okPage lo hi r es ds = decide ((entsE es ds).length ≤ 32) := by
  unfold okPage; rw [h1, decide_eq_true h2, decide_eq_true h3, okBase_true h4, okChain_true h5]; simp
set_option maxRecDepth 100000 in
set_option maxHeartbeats 8000000 in
theorem settle_any (lo hi : ByteArray) (r : Int) (ab : Option Addr) (nb cb : Nat) (es : List EntD) (ac : Option Addr) (nc cc : Nat) (ds : List DelD) (w : World) (hE : ERow w ab nb es) (hD : DRow w ac nc ds) :
    Calls Try.prog 40 #[pgv lo hi r ab nb cb ac nc cc] w fun e w' => SetRes w lo hi r es ds e w' := by
  obtain ⟨i0, hi0, hz0, hz1, hz2⟩ := info_parts Try.infoEntry
  have LE := hide hE.1
  have LD := hide hD.1
  have RE := hide hE
  have RD := hide hD
  clear hE hD
  have b0 : Below w.heap.size w (w.alloc (.cells #[.string lo, .string hi, .int .i64 r, .slice ab nb cb, .slice ac nc cc] 31)) := (Below.refl _ _).alloc (Nat.le_refl _) _
  go_enter Try.func40, Try.ntmps40
  go_wp2_with fail
  refine (boundsOK_any lo hi r _ _ _).mono ?_
  rintro e w1 ⟨rfl, hb1⟩
  have p0 : w1.cell? ⟨w.heap.size, 0, none⟩ = some (.string lo) := (hb1.cell (p := ⟨w.heap.size, 0, none⟩) (by simp)).trans (by simp)
  have p1 : w1.cell? ⟨w.heap.size, 1, none⟩ = some (.string hi) := (hb1.cell (p := ⟨w.heap.size, 1, none⟩) (by simp)).trans (by simp)
  have p2 : w1.cell? ⟨w.heap.size, 2, none⟩ = some (.int .i64 r) := (hb1.cell (p := ⟨w.heap.size, 2, none⟩) (by simp)).trans (by simp)
  have p3 : w1.cell? ⟨w.heap.size, 3, none⟩ = some (.slice ab nb cb) := (hb1.cell (p := ⟨w.heap.size, 3, none⟩) (by simp)).trans (by simp)
  have p4 : w1.cell? ⟨w.heap.size, 4, none⟩ = some (.slice ac nc cc) := (hb1.cell (p := ⟨w.heap.size, 4, none⟩) (by simp)).trans (by simp)
  have hpl : w.heap.size < w1.heap.size := by have := hb1.size; simp at this; omega
  have B1 := hide (b0.trans (hb1.mono b0.size))
  clear b0 hb1
  by_cases h1 : okBounds lo hi r = true
  · by_cases h2 : nb ≤ 32
    · by_cases h3 : nc ≤ 12
      · rw [h1]
        have H1 := hide h1
        clear h1
        have b2 : Below w1.heap.size w1 (w1.alloc (.cells #[.string lo, .string hi, .int .i64 r, .slice none 0 0] 73)) := (Below.refl _ _).alloc (Nat.le_refl _) _
        have S0 := hide (show Sett (w1.alloc (.cells #[.string lo, .string hi, .int .i64 r, .slice none 0 0] 73)) w1.heap.size lo hi r none 0 0 [] from ⟨heap_alloc_new _ _, World.ownsRow_nil _ _ _ _, List.Pairwise.nil⟩)
        have B2 := hide ((unhide B1).trans (b2.mono (by omega)))
        have q3 := (b2.cell (p := ⟨w.heap.size, 3, none⟩) hpl).trans p3
        have q4 := hide ((b2.cell (p := ⟨w.heap.size, 4, none⟩) hpl).trans p4)
        go_wp2_with fail
        generalize w1.alloc (.cells #[.string lo, .string hi, .int .i64 r, .slice none 0 0] 73) = W0 at *
        generalize w1.heap.size = sb at *
        clear p0 p1 p2 p3 p4 b2 q3 B1
        go_loopw [37] (fun i wr => ∃ (j : Nat) (a' : Option Addr) (n' c' : Nat), i = .int .i64 (j : Int) ∧ j ≤ nb ∧ Hid (Sett wr sb lo hi r a' n' c' (es.take j)) ∧ Hid (∀ i, i < j → okAtE lo hi es i = true) ∧ Hid (Below sb W0 wr)) (fun i _ => nb - (intOf i).toNat)
        case atStart => exact ⟨0, none, 0, 0, rfl, Nat.zero_le _, by rw [List.take_zero]; exact unhide S0, fun i h => absurd h (Nat.not_lt_zero _), Below.refl _ _⟩
        case round =>
          clear S0
          obtain ⟨j, a', n', c', rfl, hj, hS, hK, hB⟩ := hrel
          have BW := hide ((unhide B2).trans ((unhide hB).mono (by omega)))
          by_cases hlt : j < nb
          · have hje : j < es.length := by have := unhide LE; omega
            obtain ⟨b, off, rfl, c0, c1⟩ := ((unhide RE).below (unhide BW)).2 j hje
            have bA : Below wr.heap.size wr (wr.alloc (.cells #[.string es[j].k, .string es[j].v] 58)) := (Below.refl _ _).alloc (Nat.le_refl _) _
            have SA := hide ((unhide hS).step bA)
            have hn' : n' ≤ 100 := by have := (unhide hS).len; rw [List.length_take] at this; omega
            have FA := hide (follows_at (lo := lo) (hi := hi) hje)
            have TS := hide (takeG_snoc es j hje)
            have hsr : sb < wr.heap.size := (unhide hS).at_.lt
            generalize es[j] = em at *
            go_wp2_with fail
            refine (follows_any sb lo hi r a' n' c' (es.take j) em _ (unhide SA).at_ (erow_of_owns (unhide SA).own) (by omega)).mono ?_
            rintro e w3 ⟨rfl, hb3⟩
            rw [unhide FA]
            have S3 := hide ((unhide SA).step hb3)
            have e0 : w3.cell? ⟨wr.heap.size, 0, none⟩ = some (.string em.k) := (hb3.cell (p := ⟨wr.heap.size, 0, none⟩) (by simp)).trans (by simp)
            have e1 : w3.cell? ⟨wr.heap.size, 1, none⟩ = some (.string em.v) := (hb3.cell (p := ⟨wr.heap.size, 1, none⟩) (by simp)).trans (by simp)
            have hw3 : wr.heap.size < w3.heap.size := by have := hb3.size; simp at this; omega
            have B3 := hide ((unhide hB).trans ((bA.trans (hb3.mono bA.size)).mono (by omega)))
            have BW3 := hide ((unhide BW).trans ((bA.trans (hb3.mono bA.size)).mono (by omega)))
            clear bA hb3 SA c0 c1
            by_cases hok : okAtE lo hi es j = true
            · rw [hok]
              have SB := hide ((unhide S3).step ((Below.refl w3.heap.size w3).alloc (Nat.le_refl _) (.cells #[.string em.k, .string em.v] 58)))
              obtain ⟨v4, w4, hrun, hO4, hg4, hv4⟩ := run_append_own (P := Try.prog) (w3.alloc (.cells #[.string em.k, .string em.v] 58)).drew (sb + 1) 28 28 58 i0 (.agg #[.string ByteArray.empty, .string ByteArray.empty]) 2 32 Try.underlying28 hi0 hz0 hz1 hz2 rfl (by decide) (.slice a' n' c') _ _ (unhide SB).own ⟨w3.heap.size, 0, none⟩ 1 1 [.string em.k, .string em.v] rfl (cells_new (w := w3) (vs := [.string em.k, .string em.v])) (by intro u hu; simp at hu; rcases hu with rfl | rfl <;> rfl) (by rw [List.length_take]; unfold maxLen; omega) (by rw [List.length_take]; omega) (by have := (unhide SB).at_.lt; exact this)
              have hO5 : EOwns w4 (sb + 1) v4 (es.take j ++ [em]) := by
                have := hO4
                rw [← show ecs [em] = [.string em.k, .string em.v] from rfl, ← ecs_append] at this
                unfold EOwns
                rw [List.length_append]
                exact this
              have hR5 : Rise (es.take j ++ [em]) := by
                rw [← unhide TS]
                exact rise_take (lo := lo) (hi := hi) (by omega) (fun i hi' => by
                  rcases Nat.lt_or_ge i j with h | h
                  · exact unhide hK i h
                  · obtain rfl : i = j := by omega
                    exact hok)
              obtain ⟨hA4, a5, n5, c5, rfl, hS5, hB5⟩ := new_done (show Sett (w3.alloc (.cells #[.string em.k, .string em.v] 58)).drew sb lo hi r a' n' c' (es.take j) from ⟨(unhide SB).at_, (unhide SB).own, (unhide SB).rise⟩) hO5 (fun h => by have := (hv4.1 h).2; omega) hg4 hR5
              have z0 := hA4.c3
              have z1 := hA4.fz 3
              have y3 := (unhide S3).at_.c3
              have S6 := hide hS5
              have B6 := hide ((unhide B3).trans (((Below.refl w3.heap.size w3).alloc (Nat.le_refl _) (.cells #[.string em.k, .string em.v] 58)).mono (by have := (unhide S3).at_.lt; omega) |>.trans (bel_of_drew hB5)))
              have hs3 : sb < w3.heap.size := (unhide S3).at_.lt
              have HOK := hide hok
              clear hO4 hg4 hv4 hO5 hR5 hA4 hS5 hB5 hok
              go_wp2_with fail
              go_region_law (refine stepAppE rfl (.tmp 49) (.tmp 51) 28 rfl (.slice a' n' c') (.slice (some ⟨w3.heap.size, 0, none⟩) 1 1) (.slice a5 n5 c5) w4 (by simp [Act.eval]) (by simp [Act.eval]) hrun ?_)
              all_goals
                clear hrun
                go_wp2_with fail
                go_roundw
                case rel => exact ⟨j + 1, a5, n5, c5, by go_num, by omega, by rw [unhide TS]; exact unhide S6, fun i hi' => by
                  rcases Nat.lt_or_ge i j with h | h
                  · exact unhide hK i h
                  · obtain rfl : i = j := by omega
                    exact unhide HOK, unhide B6⟩
                case measure => simp [intOf]; omega
            · have hok : okAtE lo hi es j = false := by simpa using hok
              have OF := hide (ok_base (r := r) (ds := ds) hje hok)
              rw [hok]
              go_wp2_with fail
              go_ret2
              exact ⟨_, _, rfl, out_false (unhide OF), unhide BW3⟩
          · obtain rfl : j = nb := by omega
            have q4r := ((unhide hB).cell (p := ⟨w.heap.size, 4, none⟩) hpl).trans (unhide q4)
            have TE := hide (show es.take j = es from List.take_of_length_le (by rw [unhide LE]; exact Nat.le_refl _))
            have K1 := hide (show ∀ i, i < es.length → okAtE lo hi es i = true from fun i hi' => unhide hK i (by rw [← unhide LE]; exact hi'))
            have S1 := hide (show Sett wr sb lo hi r a' n' c' es by have := unhide hS; rwa [unhide TE] at this)
            clear hS hK TE
            go_wp2_with fail
            go_loopw [59] (fun i wz => ∃ (q : Nat) (a' : Option Addr) (n' c' : Nat), i = .int .i64 (q : Int) ∧ q ≤ nc ∧ Hid (Sett wz sb lo (highE hi (ds.take q)) (rightE r (ds.take q)) a' n' c' (entsE es (ds.take q))) ∧ Hid (∀ i, i < q → okAtD lo hi ds i = true) ∧ Hid (Below sb W0 wz)) (fun i _ => nc - (intOf i).toNat)
            case atStart => exact ⟨0, a', n', c', rfl, Nat.zero_le _, unhide S1, fun i h => absurd h (Nat.not_lt_zero _), unhide hB⟩
            case round =>
              clear S1 BW hB q4r
              obtain ⟨q, a', n', c', rfl, hq, hS, hK, hB⟩ := hrel
              have BW := hide ((unhide B2).trans ((unhide hB).mono (by omega)))
              have hn' : n' ≤ 100 := by
                have h1 := (unhide hS).len
                have h2 := entsE_len es (ds.take q)
                rw [List.length_take] at h2
                have := unhide LE
                omega
              by_cases hlt : q < nc
              · have hqe : q < ds.length := by have := unhide LD; omega
                obtain ⟨b, off, rfl, c0, c1, c2, c3⟩ := ((unhide RD).below (unhide BW)).2 q hqe
                have bA : Below wr.heap.size wr (wr.alloc (.cells #[.int .i64 ds[q].kind, .string ds[q].k, .string ds[q].v, .int .i64 ds[q].to] 44)) := (Below.refl _ _).alloc (Nat.le_refl _) _
                have SA := hide ((unhide hS).step bA)
                have OA := hide ((okAtD_at (lo := lo) (hi := hi) hqe).trans (okDel_eq lo (highE hi (ds.take q)) ds[q]))
                have TS := hide (takeG_snoc ds q hqe)
                have hsr : sb < wr.heap.size := (unhide hS).at_.lt
                have HH := hide (highE_snoc hi (ds.take q) ds[q])
                have HR := hide (rightE_snoc r (ds.take q) ds[q])
                have HE := hide (entsE_snoc es (ds.take q) ds[q])
                generalize ds[q] = d at *
                generalize highE hi (ds.take q) = hi2 at *
                generalize rightE r (ds.take q) = r2 at *
                go_wp2_with fail
                refine (changeOf_any d _).mono ?_
                rintro e w3 ⟨cv, rfl, hcv, hb3⟩
                have S3 := hide ((unhide SA).step hb3)
                have B3 := hide ((unhide hB).trans ((bA.trans (hb3.mono bA.size)).mono (by omega)))
                have BW3 := hide ((unhide BW).trans ((bA.trans (hb3.mono bA.size)).mono (by omega)))
                clear bA hb3 SA c0 c1 c2 c3
                by_cases hc : okC d = true
                · obtain rfl := hcv hc
                  rw [hc]
                  go_wp2_with fail
                  refine (takes_any sb lo hi2 r2 _ d w3 (unhide S3).at_ hc).mono ?_
                  rintro e w4 ⟨rfl, hb4⟩
                  have S4 := hide ((unhide S3).step hb4)
                  have hs4 : sb < w3.heap.size := (unhide S3).at_.lt
                  have B4 := hide ((unhide B3).trans (hb4.mono (by omega)))
                  have BW4 := hide ((unhide BW3).trans (hb4.mono (unhide BW3).size))
                  clear hb4 S3
                  by_cases ht : takesC lo hi2 d = true
                  · have HOK := hide (show okAtD lo hi ds q = true by rw [unhide OA, hc, ht]; rfl)
                    rw [ht]
                    go_wp2_with fail
                    refine (do_any sb lo hi2 r2 a' n' c' _ d w4 (unhide S4) hn' hc).mono ?_
                    rintro e w5 ⟨rfl, ⟨a5, n5, c5, hS5⟩, hb5⟩
                    have S6 := hide (show Sett w5 sb lo (highE hi (ds.take (q + 1))) (rightE r (ds.take (q + 1))) a5 n5 c5 (entsE es (ds.take (q + 1))) by rw [unhide TS, unhide HH, unhide HR, unhide HE]; exact hS5)
                    have B6 := hide ((unhide B4).trans hb5)
                    clear hS5 hb5 S4
                    go_wp2_with fail
                    go_roundw
                    case rel => exact ⟨q + 1, a5, n5, c5, by go_num, by omega, unhide S6, fun i hi' => by
                      rcases Nat.lt_or_ge i q with h | h
                      · exact unhide hK i h
                      · obtain rfl : i = q := by omega
                        exact unhide HOK, unhide B6⟩
                    case measure => simp [intOf]; omega
                  · have ht : takesC lo hi2 d = false := by simpa using ht
                    have OF := hide (ok_chain (r := r) (es := es) hqe (show okAtD lo hi ds q = false by rw [unhide OA, hc, ht]; rfl))
                    rw [ht]
                    go_wp2_with fail
                    go_ret2
                    exact ⟨_, _, rfl, out_false (unhide OF), unhide BW4⟩
                · have hc : okC d = false := by simpa using hc
                  have OF := hide (ok_chain (r := r) (es := es) hqe (show okAtD lo hi ds q = false by rw [unhide OA, hc]; rfl))
                  rw [hc]
                  go_wp2_with fail
                  go_ret2
                  exact ⟨_, _, rfl, out_false (unhide OF), unhide BW3⟩
              · obtain rfl : q = nc := by omega
                have TD := hide (show ds.take q = ds from List.take_of_length_le (by rw [unhide LD]; exact Nat.le_refl _))
                have K2 := hide (show ∀ i, i < ds.length → okAtD lo hi ds i = true from fun i hi' => unhide hK i (by rw [← unhide LD]; exact hi'))
                have S2 := hide (show Sett wr sb lo (highE hi ds) (rightE r ds) a' n' c' (entsE es ds) by have := unhide hS; rwa [unhide TD] at this)
                have OO := hide (ok_all (unhide H1) (by rw [unhide LE]; exact h2) (by rw [unhide LD]; exact h3) (unhide K1) (unhide K2))
                have z3 := (unhide S2).at_.c3
                have HN := hide (unhide S2).len
                clear hS hK TD
                go_wp2_with fail
                go_quiet (fail)
                go_wp2_with fail
                go_ret2
                exact ⟨_, _, rfl, ⟨by rw [unhide OO, ← unhide HN]; exact decide_eq_decide.2 (by omega), fun _ => ⟨sb, a', n', c', rfl, by omega, ⟨(unhide S2).at_, (unhide S2).own, (unhide S2).rise⟩⟩⟩, bel_drewN (unhide BW) _⟩
      · have OF := hide (ok_ds (lo := lo) (hi := hi) (r := r) (es := es) (by rw [unhide LD]; exact h3))
        rw [h1]
        go_wp2_with fail
        go_ret2
        exact ⟨_, _, rfl, out_false (unhide OF), unhide B1⟩
    · have OF := hide (ok_es (lo := lo) (hi := hi) (r := r) (ds := ds) (by rw [unhide LE]; exact h2))
      rw [h1]
      go_wp2_with fail
      go_ret2
      exact ⟨_, _, rfl, out_false (unhide OF), unhide B1⟩
  · have h1 : okBounds lo hi r = false := by simpa using h1
    have OF := hide (ok_bounds (es := es) (ds := ds) h1)
    rw [h1]
    go_wp2_with fail
    go_ret2
    exact ⟨_, _, rfl, out_false (unhide OF), unhide B1⟩
end Go.Proofs.Ytkggpapmhopaeaa
