/-
  Two pages that are the same, as the laws hold them against each other.
-/
import Derived.Test.YtbboigidkimkmaaPgK
import Derived.Laws.StructEq
import Derived.Deep.DeepCutAuto
namespace Go.Proofs.Ytbboigidkimkmaa
open Go.RowKit

theorem Try.entS : Try.prog.underlying 57 = some (.struct (Try.prog.fieldsOf 57)) := by kernel_rfl
theorem Try.entH : Try.prog.stoodInHeld 57 = false := by kernel_rfl
theorem Try.entG : Try.prog.eqGuardType Try.prog.depth 57 = false := by kernel_rfl
theorem Try.delS : Try.prog.underlying 41 = some (.struct (Try.prog.fieldsOf 41)) := by kernel_rfl
theorem Try.delH : Try.prog.stoodInHeld 41 = false := by kernel_rfl
theorem Try.delG : Try.prog.eqGuardType Try.prog.depth 41 = false := by kernel_rfl
set_option maxRecDepth 100000 in
theorem eqEntV (e : EntD) (w : World) : (Op.equalIn 10000 57 (.agg #[.string e.k, .string e.v]) (.agg #[.string e.k, .string e.v])).run Try.prog w = .ok true w := by
  rw [run_equalIn_struct w 9999 _ _ _ Try.entS Try.entH]
  simp [Program.fieldsOf, Try.underlying57, Op.eqFields, go_sem, Try.underlying9]
set_option maxRecDepth 100000 in
theorem eqDelV (d : DelD) (w : World) : (Op.equalIn 10000 41 (.agg #[.int .i64 d.kind, .string d.k, .string d.v, .int .i64 d.to]) (.agg #[.int .i64 d.kind, .string d.k, .string d.v, .int .i64 d.to])).run Try.prog w = .ok true w := by
  rw [run_equalIn_struct w 9999 _ _ _ Try.delS Try.delH]
  simp [Program.fieldsOf, Try.underlying41, Op.eqFields, go_sem, Try.underlying9, Try.underlying3]
set_option maxRecDepth 100000 in
set_option maxHeartbeats 2000000 in
theorem sameEntries_any (a a2 : Option Addr) (n c c2 : Nat) (es : List EntD) (w : World) (h1 : ERow w a n es) (h2 : ERow w a2 n es) (hn : n ≤ 1000) :
    Calls Try.prog 33 #[.slice a n c, .slice a2 n c2] w fun e w' => e = .returned (.bool true) ∧ Below w.heap.size w w' := by
  have R1 := hide h1
  have R2 := hide h2
  have LN := hide h1.1
  have q3 := Try.entG
  have q4 := eqEntV
  clear h1 h2
  go_enter Try.func33, Try.ntmps33
  go_wp2_with fail
  go_loopw [5] (fun i wr => ∃ k : Nat, k ≤ n ∧ i = .int .i64 k ∧ Below w.heap.size w wr) (fun i _ => n - (intOf i).toNat)
  case atStart => exact ⟨0, Nat.zero_le _, rfl, Below.refl _ _⟩
  case round =>
    obtain ⟨k, hk, rfl, hb⟩ := hrel
    by_cases hlt : k < n
    · have hl := unhide LN
      obtain ⟨b, off, rfl, c0, c1⟩ := ((unhide R1).below hb).2 k (by omega)
      obtain ⟨b', off', rfl, d0, d1⟩ := ((unhide R2).below hb).2 k (by omega)
      generalize es[k]'(by omega) = em at *
      clear hl
      go_wp2_with fail
      go_quiet (fail)
      go_wp2_with fail
      go_roundw
      case rel => exact ⟨k + 1, by omega, by go_num, bel_drewN hb _⟩
      case measure => simp [intOf]; omega
    · obtain rfl : k = n := by omega
      go_wp2_with fail
      go_ret
      exact ⟨rfl, hb⟩
theorem two_boxes (w : World) (cs ds : Array Value) (t u : TypeId) : ∃ W, W = (w.alloc (.cells cs t)).alloc (.cells ds u) ∧ Below w.heap.size w W ∧ W.heap[w.heap.size]? = some (.cells cs t (0, 0)) ∧ W.heap[w.heap.size + 1]? = some (.cells ds u (0, 0)) ∧ W.heap.size = w.heap.size + 2 := by
  refine ⟨_, rfl, ((Below.refl _ _).alloc (Nat.le_refl _) _).alloc (by simp) _, ?_, ?_, by simp⟩
  · have b2 : Below (w.heap.size + 1) (w.alloc (.cells cs t)) ((w.alloc (.cells cs t)).alloc (.cells ds u)) := (Below.refl _ _).alloc (by simp) _
    exact (b2.block w.heap.size (by omega)).trans (heap_alloc_new w _)
  · have := heap_alloc_new (w.alloc (.cells cs t)) (.cells ds u)
    simpa using this
theorem five_in {w : World} {b : Nat} {v0 v1 v2 v3 v4 : Value} {t : TypeId} (h : w.heap[b]? = some (.cells #[v0, v1, v2, v3, v4] t (0, 0))) : w.cell? ⟨b, 0, none⟩ = some v0 ∧ w.cell? ⟨b, 1, none⟩ = some v1 ∧ w.cell? ⟨b, 2, none⟩ = some v2 ∧ w.cell? ⟨b, 3, none⟩ = some v3 ∧ w.cell? ⟨b, 4, none⟩ = some v4 := by
  refine ⟨?_, ?_, ?_, ?_, ?_⟩ <;> simp [World.cell?, h]
theorem heap_lt2 {w : World} {b : Nat} {o : Obj} (h : w.heap[b]? = some o) : b < w.heap.size := (Array.getElem?_eq_some_iff.1 h).1
set_option maxRecDepth 100000 in
set_option maxHeartbeats 4000000 in
theorem samePage_any (lo hi : ByteArray) (r : Int) (a a' : Option Addr) (n c c' : Nat) (es : List EntD) (a2 a2' : Option Addr) (n2 c2 c2' : Nat) (ds : List DelD) (w : World) (h1 : ERow w a n es) (h2 : ERow w a' n es) (g1 : DRow w a2 n2 ds) (g2 : DRow w a2' n2 ds) (hn : n ≤ 1000) (hn2 : n2 ≤ 1000) :
    Calls Try.prog 14 #[pgv lo hi r a n c a2 n2 c2, pgv lo hi r a' n c' a2' n2 c2'] w fun e w' => e = .returned (.bool true) ∧ Below w.heap.size w w' := by
  obtain ⟨W0, hW0, hB0, k1, k2, hz⟩ := two_boxes w #[.string lo, .string hi, .int .i64 r, .slice a n c, .slice a2 n2 c2] #[.string lo, .string hi, .int .i64 r, .slice a' n c', .slice a2' n2 c2'] 26 26
  have R1 := hide (h1.below hB0)
  have R2 := hide (h2.below hB0)
  have D1 := hide (g1.below hB0)
  have D2 := hide (g2.below hB0)
  have LN := hide g1.1
  have q3 := Try.delG
  have q4 := eqDelV
  obtain ⟨p0, p1, p2, p3, p4⟩ := five_in k1
  obtain ⟨s0, s1, s2, s3, s4⟩ := five_in k2
  have K1 := hide k1
  have K2 := hide k2
  clear h1 h2 g1 g2 k1 k2
  go_enter Try.func14, Try.ntmps14
  go_upto_region 1 with fail
  rw [← hW0]
  clear hW0
  go_wp2_with fail
  refine (sameEntries_any a a' n c c' es W0 (unhide R1) (unhide R2) hn).mono ?_
  rintro e w1 ⟨rfl, hb1⟩
  replace D1 := hide ((unhide D1).below hb1)
  replace D2 := hide ((unhide D2).below hb1)
  replace K1 := hide ((hb1.block _ (heap_lt2 (unhide K1))).trans (unhide K1))
  replace K2 := hide ((hb1.block _ (heap_lt2 (unhide K2))).trans (unhide K2))
  have B1 := hB0.trans (hb1.mono hB0.size)
  clear p0 p1 p2 p3 p4 s0 s1 s2 s3 s4 hb1 hB0 R1 R2
  obtain ⟨p0, p1, p2, p3, p4⟩ := five_in (unhide K1)
  obtain ⟨s0, s1, s2, s3, s4⟩ := five_in (unhide K2)
  go_wp2_with fail
  clear p0 p1 p2 p3 s0 s1 s2 s3
  go_loopw [5] (fun i wr => ∃ k : Nat, k ≤ n2 ∧ i = .int .i64 k ∧ Below w1.heap.size w1 wr) (fun i _ => n2 - (intOf i).toNat)
  case atStart => exact ⟨0, Nat.zero_le _, rfl, Below.refl _ _⟩
  case round =>
    obtain ⟨k, hk, rfl, hb⟩ := hrel
    have x4 := (hb.cell (p := ⟨w.heap.size, 4, none⟩) (heap_lt2 (unhide K1))).trans p4
    have y4 := (hb.cell (p := ⟨w.heap.size + 1, 4, none⟩) (heap_lt2 (unhide K2))).trans s4
    by_cases hlt : k < n2
    · have hl := unhide LN
      obtain ⟨b, off, rfl, c0, c1, e2, e3⟩ := ((unhide D1).below hb).2 k (by omega)
      obtain ⟨b', off', rfl, d0, d1, f2, f3⟩ := ((unhide D2).below hb).2 k (by omega)
      generalize ds[k]'(by omega) = em at *
      clear hl
      go_wp2_with fail
      go_quiet (fail)
      go_wp2_with fail
      go_roundw
      case rel => exact ⟨k + 1, by omega, by go_num, bel_drewN hb _⟩
      case measure => simp [intOf]; omega
    · obtain rfl : k = n2 := by omega
      go_wp2_with fail
      go_ret
      exact ⟨rfl, B1.trans (hb.mono B1.size)⟩
end Go.Proofs.Ytbboigidkimkmaa
