/-
  ImagesOf; lists of images that are the same.
-/
import Derived.Test.YtocdbijmpecdgaaFiD
import Derived.Test.YtocdbijmpecdgaaConv
import Derived.Test.YtocdbijmpecdgaaFlashD
import Derived.BigQuiet
namespace Go.Proofs.Ytocdbijmpecdgaa
open Go.RowKit

/-- Images that lie somewhere, as they read. -/
def ImsAt (w : World) (a : Option Addr) (n : Nat) (Xs : List ImD) : Prop :=
  Xs.length = n ∧ ∀ i (hi : i < Xs.length), ∃ b off ai ci, a = some ⟨b, off, none⟩ ∧ w.cell? ⟨b, off + i * 3, none⟩ = some (.int .i64 Xs[i].id) ∧ w.cell? ⟨b, off + i * 3 + 1, none⟩ = some (.bool Xs[i].gone) ∧ w.cell? ⟨b, off + i * 3 + 2, none⟩ = some (.slice ai Xs[i].xs.length ci) ∧ Row w ai Xs[i].xs.length Xs[i].xs
theorem ImsAt.below {w w' : World} {a : Option Addr} {n : Nat} {Xs : List ImD} (h : ImsAt w a n Xs) (hb : Below w.heap.size w w') : ImsAt w' a n Xs := by
  refine ⟨h.1, fun i hi => ?_⟩
  obtain ⟨b, off, ai, ci, e, c0, c1, c2, r⟩ := h.2 i hi
  exact ⟨b, off, ai, ci, e, (hb.cell (p := ⟨b, off + i * 3, none⟩) (cell_lt c0)).trans c0, (hb.cell (p := ⟨b, off + i * 3 + 1, none⟩) (cell_lt c1)).trans c1, (hb.cell (p := ⟨b, off + i * 3 + 2, none⟩) (cell_lt c2)).trans c2, row_grow r hb⟩
theorem imsAt_own {w : World} {B : Nat} {a : Option Addr} {n c : Nat} {hs : List ImH} (h : IOwn w B (.slice a n c) hs) (hr : GRow w a n (hs.map hr)) : ImsAt w a n (hs.map (·.X)) := by
  refine ⟨by simpa using hr.1, fun i hi => ?_⟩
  have hi' : i < hs.length := by simpa using hi
  obtain ⟨b, off, e, c0, c1, c2⟩ := hr.2 i (by simpa using hi')
  have hd := (h.dat i hi').row
  simp only [List.getElem_map] at c0 c1 c2 ⊢
  exact ⟨b, off, _, _, e, c0, c1, c2, hd⟩
/-- Drawn images as they lie. -/
structure GsAt (w : World) (a : Option Addr) (n : Nat) (hs : List ImG) : Prop where
  row : GRow w a n (hs.map gr)
  dat : ∀ i (hi : i < hs.length), gDat w 0 hs[i]
  ok : ∀ i (hi : i < hs.length), gOK hs[i]
theorem GsAt.below {w w' : World} {a : Option Addr} {n : Nat} {hs : List ImG} (h : GsAt w a n hs) (hb : Below w.heap.size w w') : GsAt w' a n hs := by
  refine ⟨GRow.below h.row hb, fun i hi => (h.dat i hi).keep hb.size (fun g _ ha => ?_), h.ok⟩
  rcases h.dat i hi with ⟨g', h1, _, h3, _⟩ | ⟨h1, _⟩
  · rw [h1] at ha
    injection ha with ha
    injection ha with ha
    exact hb.block g (by omega)
  · rw [h1] at ha
    cases ha
theorem gdat_row {w : World} {B : Nat} {h : ImG} (hd : gDat w B h) : Row w h.a h.X.xs.length h.X.xs := by
  rcases hd with ⟨_, _, _, _, h⟩ | ⟨h1, _, h3, _⟩
  · exact h
  · rw [h3]
    exact ⟨rfl, fun i hi => absurd hi (Nat.not_lt_zero _)⟩
theorem GsAt.ims {w : World} {a : Option Addr} {n : Nat} {hs : List ImG} (h : GsAt w a n hs) : ImsAt w a n (hs.map (·.X)) := by
  refine ⟨by simpa using h.row.1, fun i hi => ?_⟩
  have hi' : i < hs.length := by simpa using hi
  obtain ⟨b, off, e, c0, c1, c2⟩ := h.row.2 i (by simpa using hi')
  have hd := gdat_row (h.dat i hi')
  simp only [List.getElem_map] at c0 c1 c2 ⊢
  exact ⟨b, off, _, _, e, c0, c1, c2, hd⟩
set_option maxHeartbeats 1000000 in
theorem imagesOf_any (a : Option Addr) (n c : Nat) (xs : List Int) (w : World) (hr : Row w a n xs) (hby : ∀ i, i < n → 0 ≤ xs.getD i 0 ∧ xs.getD i 0 ≤ 255) (hn : n ≤ 1048576) :
    Calls Try.prog 15 #[.slice a n c] w fun e w' => ∃ a' c' hs, e = .returned (.slice a' hs.length c') ∧ GsAt w' a' hs.length hs ∧ hs.length ≤ 9 ∧ Below w.heap.size w w' := by
  have HS := hide (source_any a n c xs w hr hby hn)
  clear hr hby
  go_enter Try.func15, Try.ntmps15
  go_wp2_with fail
  refine (unhide HS).mono ?_
  rintro e w1 ⟨rfl, hs1, hb1, hz1⟩
  have S1 := hide hs1
  have B1 := hide hb1
  clear hs1 hb1 HS
  go_wp2_with fail
  refine (images_any w.heap.size a n c xs 0 w1 (unhide S1) (by omega)).mono ?_
  rintro e w2 ⟨v, hs, rfl, hI, hl, hW⟩
  have Z := hide (show ∃ a' c' hs', Ending.returned v = .returned (.slice a' hs'.length c') ∧ GsAt w2 a' hs'.length hs' ∧ hs'.length ≤ 9 ∧ Below w.heap.size w w2 from by
    have e : ∃ a' c', v = .slice a' hs.length c' := by
      rcases hI.row.2 with ⟨e, h0⟩ | ⟨g, cap, cur, e, _⟩
      · exact ⟨none, 0, by rw [e]; simp at h0; rw [h0]; rfl⟩
      · exact ⟨some ⟨g, 0, none⟩, cap, by rw [e, List.length_map]⟩
    obtain ⟨a', c', rfl⟩ := e
    have hrow := grow_of_owns hI.row
    have b2 : Below w.heap.size w1 w2 := hW.below (Nat.le_refl _) (by omega)
    exact ⟨a', c', hs, rfl, ⟨hrow, fun i hi => (hI.dat i hi).down (Nat.zero_le _), hI.ok⟩, hl, (unhide B1).trans b2⟩)
  clear hI hW
  go_wp2_with fail
  go_ret
  exact unhide Z
set_option maxRecDepth 100000 in
set_option maxHeartbeats 4000000 in
theorem sameImages_any (a a2 : Option Addr) (n c c2 : Nat) (Xs : List ImD) (w : World) (h1 : ImsAt w a n Xs) (h2 : ImsAt w a2 n Xs) (hn : n ≤ 100000) :
    Calls Try.prog 22 #[.slice a n c, .slice a2 n c2] w fun e w' => e = .returned (.bool true) ∧ Below w.heap.size w w' := by
  have R1 := hide h1
  have R2 := hide h2
  have LN := hide h1.1
  clear h1 h2
  go_enter Try.func22, Try.ntmps22
  go_wp2_with fail
  go_loopw [5] (fun i wr => ∃ k : Nat, k ≤ n ∧ i = .int .i64 k ∧ Below w.heap.size w wr) (fun i _ => n - (intOf i).toNat)
  case atStart => exact ⟨0, Nat.zero_le _, rfl, Below.refl _ _⟩
  case round =>
    obtain ⟨k, hk, rfl, hb⟩ := hrel
    by_cases hlt : k < n
    · have hl := unhide LN
      obtain ⟨b, off, ai, ci, rfl, c0, c1, c2', r1⟩ := ((unhide R1).below hb).2 k (by omega)
      obtain ⟨b', off', ai', ci', rfl, d0, d1, d2, r2⟩ := ((unhide R2).below hb).2 k (by omega)
      generalize Xs[k]'(by omega) = X at *
      have t1 := fun q => conv_any (c := ci) (r1.drewN (k := q))
      have t2 := fun q => conv_any (c := ci') (r2.drewN (k := q))
      have q1 : (X.id != X.id) = false := by simp
      have q2 : (X.gone != X.gone) = false := by simp
      clear hl r1 r2
      go_wp2_with fail
      go_quiet (fail)
      go_wp2_with fail
      go_roundw
      case rel => exact ⟨k + 1, by omega, by go_num, bel_drewN hb _⟩
      case measure => simp [intOf]; omega
    · obtain rfl : k = n := by omega
      go_wp2_with fail
      go_ret
      exact ⟨rfl, hb⟩
end Go.Proofs.Ytocdbijmpecdgaa
