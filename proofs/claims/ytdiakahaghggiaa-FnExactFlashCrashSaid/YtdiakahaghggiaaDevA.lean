/-
  The walks of sectorOf, and of the methods put and clone of sectors.
-/
import Derived.Test.YtdiakahaghggiaaSecM
import Derived.Test.YtdiakahaghggiaaFlashD
import Derived.Deep.MidRow
import Derived.Deep.RegionWith
namespace Go.Proofs.Ytdiakahaghggiaa
open Go.RowKit Go.Maps

theorem sectorOf_any (b off len cap n : Nat) (w : World) (h1 : (n + 1) * 16 ≤ len) (h2 : len ≤ cap) (h3 : cap ≤ maxLen) :
    Calls Try.prog 60 #[.slice (some ⟨b, off, none⟩) len cap, .int .i64 (n : Int)] w fun e w' => e = .returned (.slice (some ⟨b, off + n * 16, none⟩) 16 16) ∧ w' = w := by
  unfold maxLen at h3
  go_enter Try.func60, Try.ntmps60
  go_wp2_with fail
  rw [show (n + 1) * 16 - n * 16 = 16 by omega]
  go_ret
  exact ⟨rfl, rfl⟩
/-- Nothing is written but block m and, in block p, the cell at off. -/
structure Put2 (p off m : Nat) (w w' : World) : Prop where
  os : w'.os = w.os
  tape : w'.tape = w.tape
  output : w'.output = w.output
  size : w.heap.size ≤ w'.heap.size
  block : ∀ k, k ≠ p → k ≠ m → k < w.heap.size → w'.heap[k]? = w.heap[k]?
  cell : ∀ j, j ≠ off → w'.cell? ⟨p, j, none⟩ = w.cell? ⟨p, j, none⟩
  frozen : ∀ j, w'.frozen? ⟨p, j, none⟩ = w.frozen? ⟨p, j, none⟩
  kind : ∀ cur t fr, w.heap[p]? = some (.cells cur t fr) → ∃ cur', w'.heap[p]? = some (.cells cur' t fr)
theorem setCell_kind {w : World} {b o : Nat} {v : Value} {cur : Array Value} {t : TypeId} {fr : Nat × Nat} (h : w.heap[b]? = some (.cells cur t fr)) : ∃ cur', (w.setCell ⟨b, o, none⟩ v).heap[b]? = some (.cells cur' t fr) := by
  rw [setCell_eq_setRow w b o cur t fr v h]
  exact ⟨_, setRow_heap w b cur _ t fr h⟩
theorem sec_info : (Try.prog.info? 90).map (·.size) = some 16 := by kernel_rfl
theorem load_box {w : World} {g : Nat} {cs : Array Value} (hc : ∀ j, w.cell? ⟨g, j, none⟩ = cs[j]?) (h16 : cs.size = 16) : (Instr.loadAt 90 (.pointer (some ⟨g, 0, none⟩))).run Try.prog w = .ok (.agg cs) w := by
  have := run_loadAt_mid (P := Try.prog) w g 0 90 cs.toList _ (fun j v hv => by rw [Nat.zero_add, hc j]; simpa using hv) Try.underlying90 rfl (by rw [sec_info]; simp [h16])
  simpa using this
theorem eta16 {cs : Array Value} (h : cs.size = 16) : #[cs[0], cs[1], cs[2], cs[3], cs[4], cs[5], cs[6], cs[7], cs[8], cs[9], cs[10], cs[11], cs[12], cs[13], cs[14], cs[15]] = cs := by
  apply Array.ext
  · simp [h]
  · intro i h1 h2
    simp at h1
    match i, h1 with
    | 0, _ | 1, _ | 2, _ | 3, _ | 4, _ | 5, _ | 6, _ | 7, _ | 8, _ | 9, _ | 10, _ | 11, _ | 12, _ | 13, _ | 14, _ | 15, _ => rfl
    | k + 16, h => exact absurd h (by omega)
set_option maxHeartbeats 1000000 in
theorem put_any (p o m N n c : Nat) (f : Nat → List Int) (s : List Int) (w : World) (h16 : s.length = 16) (hm : SecMap w m N f) (hN : N < maxLen) (hn : n < 128)
    (c0 : w.cell? ⟨p, o, none⟩ = some (.int .i64 (c : Int))) (c1 : w.cell? ⟨p, o + 1, none⟩ = some (.map (some m))) (f0 : w.frozen? ⟨p, o, none⟩ = false) (hpm : p ≠ m) :
    Calls Try.prog 59 #[.pointer (some ⟨p, o, none⟩), .int .i64 (n : Int), secV s] w fun e w' => e = .returned (.tuple #[]) ∧ SecMap w' m (N + 1) (updS f n s) ∧ w'.cell? ⟨p, o, none⟩ = some (.int .i64 ((max c (n + 1) : Nat) : Int)) ∧ Put2 p o m w w' := by
  obtain ⟨cs, hcs⟩ : ∃ cs, cs = (s.map (Value.int .u8)).toArray := ⟨_, rfl⟩
  have hsv : secV s = .agg cs := by rw [hcs]; rfl
  have hz : cs.size = 16 := by rw [hcs]; simp [h16]
  rw [hsv]
  have hl : p < w.heap.size := cell_lt c0
  have hml : m < w.heap.size := hm.lt
  obtain ⟨wx, hwx⟩ : ∃ wx, wx = (w.alloc (.cells cs 90)).drew := ⟨_, rfl⟩
  have hload : (Instr.loadAt 90 (.pointer (some ⟨w.heap.size, 0, none⟩))).run Try.prog wx = .ok (.agg cs) wx := load_box (fun j => by rw [hwx]; exact cell_new rfl) hz
  have hbx : Below w.heap.size w wx := by rw [hwx]; exact bel_drewN (n := 1) ((Below.refl _ _).alloc (Nat.le_refl _) _)
  have d0 := (hbx.cell (p := ⟨p, o, none⟩) hl).trans c0
  have d1 := (hbx.cell (p := ⟨p, o + 1, none⟩) hl).trans c1
  have g0 := (hbx.frozen (p := ⟨p, o, none⟩) hl).trans f0
  obtain ⟨w1, hrun, hm1, hg1⟩ := (hm.below hbx hml).update hn hN s
  rw [hsv, ← eta16 hz] at hrun
  have e0 : w1.cell? ⟨p, o, none⟩ = some (.int .i64 (c : Int)) := by rw [World.cell?_of_block (w := wx) (hg1.block p (Nat.lt_of_lt_of_le hl hbx.size) (by simp; exact hpm))]; exact d0
  have k0 : w1.frozen? ⟨p, o, none⟩ = false := by
    have := hg1.block p (Nat.lt_of_lt_of_le hl hbx.size) (by simp; exact hpm)
    simp [World.frozen?, this] at g0 ⊢
    exact g0
  have HM := hide hm1
  have HG := hide hg1
  have HB := hide hbx
  clear hm hm1 hg1 hbx hcs hsv
  rw [hwx] at hload hrun d0 d1
  go_enter Try.func59, Try.ntmps59
  go_wp2_with fail
  go_region
  clear hload hrun d0 d1
  clear hwx g0
  have hbig : ∀ v, SecMap (w1.setCell ⟨p, o, none⟩ v) m (N + 1) (updS f n s) ∧ (w1.setCell ⟨p, o, none⟩ v).cell? ⟨p, o, none⟩ = some v ∧ Put2 p o m w (w1.setCell ⟨p, o, none⟩ v) := fun v => by
    have hb := unhide HB
    have hg := unhide HG
    refine ⟨(unhide HM).block (Below.heap_setCell _ _ _ _ (fun e => hpm e.symm)), World.cell?_setCell_same _ _ _ e0, ⟨hg.os.trans hb.os, hg.tape.trans hb.tape, hg.output.trans hb.output, by simp [World.setCell]; exact Nat.le_trans hb.size hg.size, fun k hk hkm hl => ?_, fun j hj => ?_, fun j => ?_, fun cur t fr h => setCell_kind ((hg.block p (Nat.lt_of_lt_of_le hl hb.size) (by simp; exact hpm)).trans ((hb.block p hl).trans h))⟩⟩
    · rw [Below.heap_setCell _ _ _ _ hk, hg.block k (Nat.lt_of_lt_of_le hl hb.size) (by simp; exact hkm), hb.block k hl]
    · rw [World.cell?_setCell_other _ _ _ _ (by intro e; injection e; omega), World.cell?_of_block (w := wx) (hg.block p (Nat.lt_of_lt_of_le hl hb.size) (by simp; exact hpm)), hb.cell (p := ⟨p, j, none⟩) hl]
    · have h1 := hg.block p (Nat.lt_of_lt_of_le hl hb.size) (by simp; exact hpm)
      have h2 := hb.block p hl
      rw [World.frozen?_setCell]
      simp [World.frozen?, h1, h2]
  have HH := hide hbig
  clear hbig
  go_wp2_with fail
  all_goals (first
    | (go_end0
       rw [show max c (n + 1) = n + 1 by omega]
       exact ⟨rfl, (unhide HH _).1, (unhide HH _).2.1, (unhide HH _).2.2⟩)
    | (go_end0
       rw [show max c (n + 1) = c by omega]
       exact ⟨rfl, (unhide HH _).1, (unhide HH _).2.1, (unhide HH _).2.2⟩)
    | (go_end0
       exact ⟨rfl, (unhide HH _).1, (by rw [show ((max c (n + 1) : Nat) : Int) = max (c : Int) ((n : Int) + 1) by omega]; exact (unhide HH _).2.1), (unhide HH _).2.2⟩))
end Go.Proofs.Ytdiakahaghggiaa
