/-
  The program's ReadPage.
-/
import Derived.Test.YtbboigidkimkmaaRpQ
import Derived.Test.YtbboigidkimkmaaPageK
namespace Go.Proofs.Ytbboigidkimkmaa
open Go.RowKit

/-- What ReadPage answers. -/
def noPg : PgR := ⟨ByteArray.empty, ByteArray.empty, 0, [], []⟩
def rdP (xs : List Int) : PgR := if 65536 < xs.length then noPg else if rdOK xs = true then (rPage (xs, false)).1 else noPg
def rdC (xs : List Int) : Int := if 65536 < xs.length then 2 else if rdOK xs = true then 0 else 3
def RpRes (xs : List Int) (w : World) (e : Ending) (w' : World) : Prop :=
  ∃ a n c a2 n2 c2, e = .returned (.tuple #[pgv (rdP xs).lo (rdP xs).hi (rdP xs).r a n c a2 n2 c2, .int .i64 (rdC xs)]) ∧ PgOwn w' w.heap.size a n c a2 n2 c2 (rdP xs).es (rdP xs).ds ∧ Below w.heap.size w w'
theorem pg_none (w : World) (B : Nat) : PgOwn w B none 0 0 none 0 0 [] [] := ⟨World.ownsRow_nil _ _ _ _, World.ownsRow_nil _ _ _ _, fun i h => by cases h⟩
theorem rp_long {xs : List Int} {w w' : World} (h : 65536 < xs.length) (hb : Below w.heap.size w w') : RpRes xs w (.returned (.tuple #[pgv ByteArray.empty ByteArray.empty 0 none 0 0 none 0 0, .int .i64 2])) w' := by
  unfold RpRes rdP rdC
  rw [if_pos h, if_pos h]
  exact ⟨none, 0, 0, none, 0, 0, rfl, pg_none _ _, hb⟩
theorem rp_bad {xs : List Int} {w w' : World} (h : ¬ 65536 < xs.length) (ho : rdOK xs = false) (hb : Below w.heap.size w w') : RpRes xs w (.returned (.tuple #[pgv ByteArray.empty ByteArray.empty 0 none 0 0 none 0 0, .int .i64 3])) w' := by
  unfold RpRes rdP rdC
  rw [if_neg h, if_neg h, if_neg (by rw [ho]; decide), if_neg (by rw [ho]; decide)]
  exact ⟨none, 0, 0, none, 0, 0, rfl, pg_none _ _, hb⟩
theorem rp_good {xs : List Int} {w w' : World} {q : PgR} {a : Option Addr} {n c : Nat} {a2 : Option Addr} {n2 c2 : Nat} (h : ¬ 65536 < xs.length) (ho : rdOK xs = true) (hq : (rPage (xs, false)).1 = q) (hp : PgOwn w' w.heap.size a n c a2 n2 c2 q.es q.ds) (hb : Below w.heap.size w w') : RpRes xs w (.returned (.tuple #[pgv q.lo q.hi q.r a n c a2 n2 c2, .int .i64 0])) w' := by
  unfold RpRes rdP rdC
  rw [if_neg h, if_neg h, if_pos ho, if_pos ho, hq]
  exact ⟨a, n, c, a2, n2, c2, rfl, hp, hb⟩
theorem set5_belowR {w w1 : World} {B b : Nat} (h : Below B w w1) (hb : B ≤ b) (v0 v1 v2 v3 v4 : Value) : Below B w (((((w1.setCell ⟨b, 0, none⟩ v0).setCell ⟨b, 1, none⟩ v1).setCell ⟨b, 2, none⟩ v2).setCell ⟨b, 3, none⟩ v3).setCell ⟨b, 4, none⟩ v4) :=
  ((((h.setCell (p := ⟨b, 0, none⟩) hb _).setCell (p := ⟨b, 1, none⟩) hb _).setCell (p := ⟨b, 2, none⟩) hb _).setCell (p := ⟨b, 3, none⟩) hb _).setCell (p := ⟨b, 4, none⟩) hb _
theorem wr5 (w : World) (b : Nat) (v0 v1 v2 v3 v4 : Value) : Wr (fun i => i = b) w (((((w.setCell ⟨b, 0, none⟩ v0).setCell ⟨b, 1, none⟩ v1).setCell ⟨b, 2, none⟩ v2).setCell ⟨b, 3, none⟩ v3).setCell ⟨b, 4, none⟩ v4) :=
  ((((wr_cell _ _ 0 v0).trans (wr_cell _ _ 1 v1)).trans (wr_cell _ _ 2 v2)).trans (wr_cell _ _ 3 v3)).trans (wr_cell _ _ 4 v4)
theorem five_at {w : World} {b : Nat} {v0 v1 v2 v3 v4 : Value} {t : TypeId} (h : w.heap[b]? = some (.cells #[v0, v1, v2, v3, v4] t (0, 0))) : w.cell? ⟨b, 0, none⟩ = some v0 ∧ w.cell? ⟨b, 1, none⟩ = some v1 ∧ w.cell? ⟨b, 2, none⟩ = some v2 ∧ w.cell? ⟨b, 3, none⟩ = some v3 ∧ w.cell? ⟨b, 4, none⟩ = some v4 :=
  ⟨(heap_at h 0).1, (heap_at h 1).1, (heap_at h 2).1, (heap_at h 3).1, (heap_at h 4).1⟩
theorem five_fz {w : World} {b : Nat} {cs : Array Value} {t : TypeId} (h : w.heap[b]? = some (.cells cs t (0, 0))) : w.frozen? ⟨b, 0, none⟩ = false ∧ w.frozen? ⟨b, 1, none⟩ = false ∧ w.frozen? ⟨b, 2, none⟩ = false ∧ w.frozen? ⟨b, 3, none⟩ = false ∧ w.frozen? ⟨b, 4, none⟩ = false :=
  ⟨(heap_at h 0).2, (heap_at h 1).2, (heap_at h 2).2, (heap_at h 3).2, (heap_at h 4).2⟩
set_option maxRecDepth 100000 in
set_option maxHeartbeats 4000000 in
theorem implReadPage_any (a : Option Addr) (n c : Nat) (xs : List Int) (w : World) (h : Row w a n xs) (hby : By xs) (hnc : n ≤ c) (hlt : ∀ x, a = some x → x.block < w.heap.size) :
    Calls Try.prog 12 #[.slice a n c] w fun e w' => RpRes xs w e w' := by
  have hL := h.1
  by_cases hlong : 65536 < n
  · have b0 : Below w.heap.size w (w.alloc (.cells #[.string ⟨#[]⟩, .string ⟨#[]⟩, .int .i64 0, .slice none 0 0, .slice none 0 0] 26)) := (Below.refl _ _).alloc (Nat.le_refl _) _
    have FIN := hide (fun w' hb => rp_long (w := w) (w' := w') (xs := xs) (by omega) hb)
    have hi : (65536 : Int) < (n : Int) := by omega
    clear h hL
    go_enter Try.func12, Try.ntmps12
    go_wp2_with fail
    refine bodyPost_ret (v := .tuple #[pgv ByteArray.empty ByteArray.empty 0 none 0 0 none 0 0, .int .i64 2]) (by simp [results, Try.results12, go_sem, *] <;> rfl) rfl ?_
    exact unhide FIN _ (by first | exact b0 | exact set5_belowR b0 (Nat.le_refl _) _ _ _ _ _)
  · have hi : ¬ ((65536 : Int) < (n : Int)) := by omega
    obtain ⟨W0, hW0, hB0, k1, k2, hz⟩ := two_allocs w #[.string ⟨#[]⟩, .string ⟨#[]⟩, .int .i64 0, .slice none 0 0, .slice none 0 0] #[.slice a n c, .bool false] 26 61
    have R0 := hide (show RdAt W0 (w.heap.size + 1) (w.heap.size + 2) (xs, false) from ⟨a, n, c, k2, h.below hB0 hlt, hnc, fun x hx => by have := hlt x hx; omega, by omega, by omega⟩)
    have BAD := hide (fun w' ho hb => rp_bad (w := w) (w' := w') (xs := xs) (by omega) ho hb)
    have GOOD := hide (fun w' q a n c a2 n2 c2 ho hq hp hb => rp_good (w := w) (w' := w') (xs := xs) (q := q) (a := a) (n := n) (c := c) (a2 := a2) (n2 := n2) (c2 := c2) (by omega) ho hq hp hb)
    have EOK := hide (show rdOK xs = _ from rfl)
    unfold rdOK at EOK
    clear h hL k2
    go_enter Try.func12, Try.ntmps12
    go_wp2_with fail
    rw [← hW0]
    clear hW0
    refine (rdPg_any (w.heap.size + 1) (w.heap.size + 2) (xs, false) W0 (unhide R0) hby (by omega)).mono ?_
    rintro e w1 ⟨a1, n1, c1, a2, n2, c2, rfl, hP, hR, hw⟩
    obtain ⟨q, hq⟩ : ∃ q, (rPage (xs, false)).1 = q := ⟨_, rfl⟩
    obtain ⟨s, hs⟩ : ∃ s, (rPage (xs, false)).2 = s := ⟨_, rfl⟩
    rw [hq] at hP ⊢
    rw [hs] at hR
    have EO := hide (show rdOK xs = (!s.2 && decide (s.1 = []) && okPage q.lo q.hi q.r q.es q.ds) by unfold rdOK; rw [hq, hs])
    have HQ := hide hq
    have b1 := hw.below (B := w.heap.size) (fun i hi => by omega) (by omega)
    have B1 := hB0.trans b1
    replace k1 := loc_wr k1 hw (by omega)
    have z1 := hw.size
    clear hq hs hw R0 EOK hB0 b1
    have b2 : Below w1.heap.size w1 (w1.alloc (.cells #[.string q.lo, .string q.hi, .int .i64 q.r, .slice a1 n1 c1, .slice a2 n2 c2] 26)) := (Below.refl _ _).alloc (Nat.le_refl _) _
    have k3 := heap_alloc_new w1 (.cells #[.string q.lo, .string q.hi, .int .i64 q.r, .slice a1 n1 c1, .slice a2 n2 c2] 26)
    have P2 := hide (hP.below b2)
    have R2 := hide (hR.below b2)
    replace k1 := (b2.block _ (heap_lt1 k1)).trans k1
    replace B1 := B1.trans (b2.mono B1.size)
    have z2 := b2.size
    clear hP hR b2
    go_wp2_with fail
    generalize w1.alloc (.cells #[.string q.lo, .string q.hi, .int .i64 q.r, .slice a1 n1 c1, .slice a2 n2 c2] 26) = w2 at *
    refine (done_any (w.heap.size + 1) (w.heap.size + 2) s w2 (unhide R2)).mono ?_
    rintro e w3 ⟨rfl, hw3⟩
    subst w3
    obtain ⟨g0, g1, g2, g3, g4⟩ := five_fz k1
    obtain ⟨d0, d1, d2, d3, d4⟩ := five_at k1
    cases hd : (!s.2 && decide (s.1 = [])) with
    | false =>
      have HO := hide (show rdOK xs = false by rw [unhide EO, hd]; rfl)
      clear EO
      go_wp2_with fail
      refine bodyPost_ret (v := .tuple #[pgv ByteArray.empty ByteArray.empty 0 none 0 0 none 0 0, .int .i64 3]) (by simp [results, Try.results12, go_sem, *] <;> rfl) rfl ?_
      exact unhide BAD _ (unhide HO) (by first | exact B1 | exact set5_belowR B1 (Nat.le_refl _) _ _ _ _ _)
    | true =>
      have HO := hide (show rdOK xs = okPage q.lo q.hi q.r q.es q.ds by rw [unhide EO, hd, Bool.true_and])
      clear EO
      obtain ⟨p0, p1, p2, p3, p4⟩ := five_at k3
      have K1 := hide k1
      have K3 := hide k3
      clear d0 d1 d2 d3 d4 g0 g1 g2 g3 g4 k1 k3
      go_wp2_with fail
      refine (implPageOK_any q.lo q.hi q.r a1 n1 c1 q.es a2 n2 c2 q.ds w2 (erow_of_owns (unhide P2).1) (drow_of_owns (unhide P2).2.1)).mono ?_
      rintro e w4 ⟨rfl, hb4⟩
      have P4 := hide ((unhide P2).below hb4)
      have k1 := (hb4.block _ (heap_lt1 (unhide K1))).trans (unhide K1)
      have k3 := (hb4.block _ (heap_lt1 (unhide K3))).trans (unhide K3)
      have B4 := B1.trans (hb4.mono B1.size)
      have z4 := hb4.size
      have zk := heap_lt1 (unhide K3)
      clear p0 p1 p2 p3 p4 hb4 K1 K3 P2 R2 B1
      obtain ⟨g0, g1, g2, g3, g4⟩ := five_fz k1
      obtain ⟨d0, d1, d2, d3, d4⟩ := five_at k1
      obtain ⟨p0, p1, p2, p3, p4⟩ := five_at k3
      cases hk : okPage q.lo q.hi q.r q.es q.ds with
      | false =>
        rw [hk] at HO
        clear k1 k3
        go_wp2_with fail
        refine bodyPost_ret (v := .tuple #[pgv ByteArray.empty ByteArray.empty 0 none 0 0 none 0 0, .int .i64 3]) (by simp [results, Try.results12, go_sem, *] <;> rfl) rfl ?_
        exact unhide BAD _ (unhide HO) (by first | exact B4 | exact set5_belowR B4 (Nat.le_refl _) _ _ _ _ _)
      | true =>
        rw [hk] at HO
        have EN := hide (show ∀ v0 v1 v2 v3 v4, RpRes xs w (.returned (.tuple #[pgv q.lo q.hi q.r a1 n1 c1 a2 n2 c2, .int .i64 0])) (((((w4.setCell ⟨w.heap.size, 0, none⟩ v0).setCell ⟨w.heap.size, 1, none⟩ v1).setCell ⟨w.heap.size, 2, none⟩ v2).setCell ⟨w.heap.size, 3, none⟩ v3).setCell ⟨w.heap.size, 4, none⟩ v4) from fun v0 v1 v2 v3 v4 =>
          unhide GOOD _ q a1 n1 c1 a2 n2 c2 (unhide HO) (unhide HQ) (((unhide P4).wr (wr5 w4 w.heap.size v0 v1 v2 v3 v4) (fun i hi e => by have := ((unhide P4).blk hi).1; omega)).base (by omega)) (set5_belowR B4 (Nat.le_refl _) _ _ _ _ _))
        clear k1 k3 P4
        go_wp2_with fail
        refine bodyPost_ret (v := .tuple #[pgv q.lo q.hi q.r a1 n1 c1 a2 n2 c2, .int .i64 0]) (by simp [results, Try.results12, go_sem, *]) rfl ?_
        exact unhide EN _ _ _ _ _
end Go.Proofs.Ytbboigidkimkmaa
