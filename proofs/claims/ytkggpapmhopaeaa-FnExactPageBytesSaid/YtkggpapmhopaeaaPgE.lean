/-
  The walks of eqEntry, eqEntryS, eqDelta, eqDeltaS, eqPage where both sides hold the same; of szPage and toPage.
-/
import Derived.Test.YtkggpapmhopaeaaPgT
import Derived.Test.YtkggpapmhopaeaaPageJ
import Derived.Deep.RegionWith
namespace Go.Proofs.Ytkggpapmhopaeaa
open Go.RowKit

set_option maxHeartbeats 1000000 in
theorem eqEntry_any (d : EntD) (w : World) :
    Calls Try.prog 68 #[.agg #[.string d.k, .string d.v], .agg #[.string d.k, .string d.v]] w fun e w' => e = .returned (.bool true) ∧ Below w.heap.size w w' := by
  obtain ⟨k, v⟩ := d
  go_enter Try.func68, Try.ntmps68
  go_wp2_with fail
  go_ret
  exact ⟨rfl, ((Below.refl _ _).alloc (Nat.le_refl _) _).alloc (by simp) _⟩
set_option maxHeartbeats 1000000 in
theorem eqDelta_any (d : DelD) (w : World) :
    Calls Try.prog 69 #[.agg #[.int .i64 d.kind, .string d.k, .string d.v, .int .i64 d.to], .agg #[.int .i64 d.kind, .string d.k, .string d.v, .int .i64 d.to]] w fun e w' => e = .returned (.bool true) ∧ Below w.heap.size w w' := by
  obtain ⟨kind, k, v, u⟩ := d
  go_enter Try.func69, Try.ntmps69
  go_wp2_with fail
  go_ret
  exact ⟨rfl, ((Below.refl _ _).alloc (Nat.le_refl _) _).alloc (by simp) _⟩
set_option maxHeartbeats 1000000 in
theorem eqEntryS_any (a1 a2 : Option Addr) (n c1 c2 : Nat) (es : List EntD) (w : World) (hn : n ≤ 1048576) (h1 : ERow w a1 n es) (h2 : ERow w a2 n es) :
    Calls Try.prog 41 #[.slice a1 n c1, .slice a2 n c2] w fun e w' => e = .returned (.bool true) ∧ Below w.heap.size w w' := by
  have L := hide h1.1
  have R1 := hide h1
  have R2 := hide h2
  clear h1 h2
  go_enter Try.func41, Try.ntmps41
  go_wp2_with fail
  go_loopw [5] (fun i wr => ∃ k : Nat, k ≤ n ∧ i = .int .i64 k ∧ Below w.heap.size w wr) (fun i _ => n - (intOf i).toNat)
  case atStart => exact ⟨0, by omega, rfl, Below.refl _ _⟩
  case round =>
    obtain ⟨k, hk, rfl, hb⟩ := hrel
    by_cases hlt : k < n
    · have hk2 : k < es.length := by rw [unhide L]; exact hlt
      obtain ⟨b, off, rfl, d0, d1⟩ := ((unhide R1).below hb).2 k hk2
      obtain ⟨b', off', rfl, y0, y1⟩ := ((unhide R2).below hb).2 k hk2
      generalize es[k] = pd at *
      have hsz := hb.size
      go_wp2_with fail
      go_region_with (go_at_call 68; refine (eqEntry_any pd _).mono ?_; rintro e w2 ⟨rfl, hb2⟩)
      all_goals
        have bA : Below w.heap.size w w2 := by first | exact hb.drew.trans (hb2.mono hsz) | exact (bel_drewN hb _).trans (hb2.mono hsz) | exact hb.trans (hb2.mono hsz)
        clear hb hb2 d0 d1 y0 y1
        go_wp2_with fail
        go_roundw
        case rel => exact ⟨k + 1, by omega, by go_num, bA⟩
        case measure => simp [intOf]; omega
    · obtain rfl : k = n := by omega
      go_wp2_with fail
      go_ret
      exact ⟨rfl, hb⟩
set_option maxHeartbeats 1000000 in
theorem eqDeltaS_any (a1 a2 : Option Addr) (n c1 c2 : Nat) (ds : List DelD) (w : World) (hn : n ≤ 1048576) (h1 : DRow w a1 n ds) (h2 : DRow w a2 n ds) :
    Calls Try.prog 42 #[.slice a1 n c1, .slice a2 n c2] w fun e w' => e = .returned (.bool true) ∧ Below w.heap.size w w' := by
  have L := hide h1.1
  have R1 := hide h1
  have R2 := hide h2
  clear h1 h2
  go_enter Try.func42, Try.ntmps42
  go_wp2_with fail
  go_loopw [5] (fun i wr => ∃ k : Nat, k ≤ n ∧ i = .int .i64 k ∧ Below w.heap.size w wr) (fun i _ => n - (intOf i).toNat)
  case atStart => exact ⟨0, by omega, rfl, Below.refl _ _⟩
  case round =>
    obtain ⟨k, hk, rfl, hb⟩ := hrel
    by_cases hlt : k < n
    · have hk2 : k < ds.length := by rw [unhide L]; exact hlt
      obtain ⟨b, off, rfl, d0, d1, d2, d3⟩ := ((unhide R1).below hb).2 k hk2
      obtain ⟨b', off', rfl, y0, y1, y2, y3⟩ := ((unhide R2).below hb).2 k hk2
      generalize ds[k] = pd at *
      have hsz := hb.size
      go_wp2_with fail
      go_region_with (go_at_call 69; refine (eqDelta_any pd _).mono ?_; rintro e w2 ⟨rfl, hb2⟩)
      all_goals
        have bA : Below w.heap.size w w2 := by first | exact hb.drew.trans (hb2.mono hsz) | exact (bel_drewN hb _).trans (hb2.mono hsz) | exact hb.trans (hb2.mono hsz)
        clear hb hb2 d0 d1 d2 d3 y0 y1 y2 y3
        go_wp2_with fail
        go_roundw
        case rel => exact ⟨k + 1, by omega, by go_num, bA⟩
        case measure => simp [intOf]; omega
    · obtain rfl : k = n := by omega
      go_wp2_with fail
      go_ret
      exact ⟨rfl, hb⟩
set_option maxRecDepth 100000 in
set_option maxHeartbeats 1000000 in
theorem eqPage_any (lo hi : ByteArray) (r : Int) (ab ab2 : Option Addr) (nb cb cb2 : Nat) (es : List EntD) (ac ac2 : Option Addr) (nc cc cc2 : Nat) (ds : List DelD) (w : World) (hnb : nb ≤ 1048576) (hnc : nc ≤ 1048576) (hE : ERow w ab nb es) (hE2 : ERow w ab2 nb es) (hD : DRow w ac nc ds) (hD2 : DRow w ac2 nc ds) :
    Calls Try.prog 13 #[pgv lo hi r ab nb cb ac nc cc, pgv lo hi r ab2 nb cb2 ac2 nc cc2] w fun e w' => e = .returned (.bool true) ∧ Below w.heap.size w w' := by
  have b0 : Below w.heap.size w ((w.alloc (.cells #[.string lo, .string hi, .int .i64 r, .slice ab nb cb, .slice ac nc cc] 31)).alloc (.cells #[.string lo, .string hi, .int .i64 r, .slice ab2 nb cb2, .slice ac2 nc cc2] 31)) := ((Below.refl _ _).alloc (Nat.le_refl _) _).alloc (by simp) _
  have E1 := hide (hE.below b0)
  have E2 := hide (hE2.below b0)
  have D1 := hide (hD.below b0)
  have D2 := hide (hD2.below b0)
  clear hE hE2 hD hD2
  go_enter Try.func13, Try.ntmps13
  go_wp2_with fail
  refine (eqEntryS_any ab ab2 nb cb cb2 es _ hnb (unhide E1) (unhide E2)).mono ?_
  rintro e w1 ⟨rfl, hb1⟩
  have D1' := hide ((unhide D1).below hb1)
  have D2' := hide ((unhide D2).below hb1)
  have c4 : w1.cell? ⟨w.heap.size, 4, none⟩ = some (.slice ac nc cc) := (hb1.cell (p := ⟨w.heap.size, 4, none⟩) (by simp; omega)).trans (by simp)
  have c5 : w1.cell? ⟨w.heap.size + 1, 4, none⟩ = some (.slice ac2 nc cc2) := (hb1.cell (p := ⟨w.heap.size + 1, 4, none⟩) (by simp)).trans (by simp)
  have B1 := hide (b0.trans (hb1.mono b0.size))
  clear b0 hb1 E1 E2 D1 D2
  go_wp2_with fail
  refine (eqDeltaS_any ac ac2 nc cc cc2 ds w1 hnc (unhide D1') (unhide D2')).mono ?_
  rintro e w2 ⟨rfl, hb2⟩
  have B2 := hide ((unhide B1).trans (hb2.mono (unhide B1).size))
  clear hb2 D1' D2' c4 c5
  go_wp2_with fail
  go_ret
  exact ⟨rfl, unhide B2⟩
/-- A page that came in. -/
def IsPage (w : World) (lo hi : ByteArray) (ab : Option Addr) (nb : Nat) (es : List EntD) (ac : Option Addr) (nc : Nat) (ds : List DelD) : Prop :=
  ERow w ab nb es ∧ DRow w ac nc ds ∧ lo.size ≤ maxLen ∧ hi.size ≤ maxLen ∧ nb ≤ maxLen ∧ nc ≤ maxLen ∧ (∀ i (hi : i < es.length), es[i].k.size ≤ maxLen ∧ es[i].v.size ≤ maxLen) ∧ (∀ i (hi : i < ds.length), ds[i].k.size ≤ maxLen ∧ ds[i].v.size ≤ maxLen)
theorem IsPage.below {w w' : World} {lo hi : ByteArray} {ab : Option Addr} {nb : Nat} {es : List EntD} {ac : Option Addr} {nc : Nat} {ds : List DelD} (h : IsPage w lo hi ab nb es ac nc ds) (hb : Below w.heap.size w w') : IsPage w' lo hi ab nb es ac nc ds :=
  ⟨h.1.below hb, h.2.1.below hb, h.2.2⟩
set_option maxRecDepth 100000 in
set_option maxHeartbeats 1000000 in
theorem szPage_any (lo hi : ByteArray) (r : Int) (ab : Option Addr) (nb cb : Nat) (es : List EntD) (ac : Option Addr) (nc cc : Nat) (ds : List DelD) (left : Int) (w : World) (h0 : 0 ≤ left) (h1 : left ≤ 1048576) (hP : IsPage w lo hi ab nb es ac nc ds) :
    Calls Try.prog 9 #[pgv lo hi r ab nb cb ac nc cc, .int .i64 left] w fun e w' => ∃ q : Int, e = .returned (.int .i64 q) ∧ (q = -1 ∨ (0 ≤ q ∧ q ≤ left ∧ (nb : Int) ≤ left ∧ (nc : Int) ≤ left)) ∧ Below w.heap.size w w' := by
  have b0 : Below w.heap.size w (w.alloc (.cells #[.string lo, .string hi, .int .i64 r, .slice ab nb cb, .slice ac nc cc] 25)) := (Below.refl _ _).alloc (Nat.le_refl _) _
  have P := hide (hP.below b0)
  have hl : lo.size ≤ 9223372036854775807 := by have := hP.2.2.1; unfold maxLen at this; omega
  have hh : hi.size ≤ 9223372036854775807 := by have := hP.2.2.2.1; unfold maxLen at this; omega
  clear hP
  by_cases g1 : left - lo.size < 0
  · go_enter Try.func9, Try.ntmps9
    go_wp2_with fail
    go_ret
    exact ⟨-1, rfl, .inl rfl, b0⟩
  have g1' : 0 ≤ left - lo.size := by omega
  by_cases g2 : left - lo.size - hi.size < 0
  · go_enter Try.func9, Try.ntmps9
    go_wp2_with fail
    go_ret
    exact ⟨-1, rfl, .inl rfl, b0⟩
  have g2' : 0 ≤ left - lo.size - hi.size := by omega
  go_enter Try.func9, Try.ntmps9
  go_wp2_with fail
  refine (szEntryS_any ab nb cb es (left - lo.size - hi.size) _ g2' (by omega) (unhide P).1 (unhide P).2.2.2.2.1 (unhide P).2.2.2.2.2.2.1).mono ?_
  rintro e w1 ⟨q1, rfl, hq1, hb1⟩
  have P1 := hide ((unhide P).below hb1)
  have c4 : w1.cell? ⟨w.heap.size, 4, none⟩ = some (.slice ac nc cc) := (hb1.cell (p := ⟨w.heap.size, 4, none⟩) (by simp)).trans (by simp)
  have B1 := hide (b0.trans (hb1.mono b0.size))
  clear b0 hb1 P
  rcases hq1 with rfl | ⟨q10, q11, q12⟩
  · go_wp2_with fail
    go_ret
    exact ⟨-1, rfl, .inl rfl, unhide B1⟩
  go_wp2_with fail
  refine (szDeltaS_any ac nc cc ds q1 w1 q10 (by omega) (unhide P1).2.1 (unhide P1).2.2.2.2.2.1 (unhide P1).2.2.2.2.2.2.2).mono ?_
  rintro e w2 ⟨q2, rfl, hq2, hb2⟩
  have B2 := hide ((unhide B1).trans (hb2.mono (unhide B1).size))
  clear hb2 c4 P1
  rcases hq2 with rfl | ⟨q20, q21, q22⟩
  · go_wp2_with fail
    go_ret
    exact ⟨-1, rfl, .inl rfl, unhide B2⟩
  go_wp2_with fail
  go_ret
  exact ⟨q2, rfl, .inr ⟨q20, by omega, by omega, by omega⟩, unhide B2⟩
/-- A page of the call's own: both lists are its own, and they are two. -/
def OwnPage (w : World) (B g h nb nc : Nat) (es : List EntD) (ds : List DelD) : Prop :=
  EOwns w B (.slice (some ⟨g, 0, none⟩) nb nb) es ∧ DOwns w B (.slice (some ⟨h, 0, none⟩) nc nc) ds ∧ g ≠ h
theorem OwnPage.below {w w' : World} {B g h nb nc : Nat} {es : List EntD} {ds : List DelD} (x : OwnPage w B g h nb nc es ds) (hb : Below w.heap.size w w') : OwnPage w' B g h nb nc es ds :=
  ⟨eowns_below x.1 hb, downs_below x.2.1 hb, x.2.2⟩
theorem ownsRow_base {w : World} {B C e s n : Nat} {v : Value} {vs : List Value} (h : w.ownsRow B e s v n vs) (hC : C ≤ B) : w.ownsRow C e s v n vs := by
  obtain ⟨hl, h⟩ := h
  refine ⟨hl, ?_⟩
  rcases h with h | ⟨g, cap, cur, e, hb, r⟩
  · exact .inl h
  · exact .inr ⟨g, cap, cur, e, Nat.le_trans hC hb, r⟩
end Go.Proofs.Ytkggpapmhopaeaa
