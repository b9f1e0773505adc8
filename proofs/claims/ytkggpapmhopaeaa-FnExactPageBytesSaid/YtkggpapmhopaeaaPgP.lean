/-
  The walk of toPage.
-/
import Derived.Test.YtkggpapmhopaeaaPgE
import Derived.Test.YtkggpapmhopaeaaWrT
namespace Go.Proofs.Ytkggpapmhopaeaa
open Go.RowKit

theorem new_cell {w : World} {n : Nat} (e : w.heap.size = n) (cs : Array Value) (t : TypeId) (j : Nat) : (w.alloc (.cells cs t)).cell? ⟨n, j, none⟩ = cs[j]? := by
  subst e
  simp
theorem new_frozen {w : World} {n : Nat} (e : w.heap.size = n) (cs : Array Value) (t : TypeId) (j : Nat) : (w.alloc (.cells cs t)).frozen? ⟨n, j, none⟩ = false := by
  subst e
  simp
theorem heap_cell {w : World} {b : Nat} {cs : Array Value} {t : TypeId} (h : w.heap[b]? = some (.cells cs t (0, 0))) (j : Nat) : w.cell? ⟨b, j, none⟩ = cs[j]? := by simp [World.cell?, h]
theorem heap_frozen {w : World} {b : Nat} {cs : Array Value} {t : TypeId} (h : w.heap[b]? = some (.cells cs t (0, 0))) (j : Nat) : w.frozen? ⟨b, j, none⟩ = false := by simp [World.frozen?, h]
theorem heap_new {w : World} {n : Nat} (e : w.heap.size = n) (cs : Array Value) (t : TypeId) : (w.alloc (.cells cs t)).heap[n]? = some (.cells cs t (0, 0)) := by
  subst e
  exact heap_alloc_new _ _
theorem ownsRow_set {w : World} {B sb e s n : Nat} {v : Value} {vs : List Value} (h : w.ownsRow B e s v n vs) (hs : sb < B) (o : Nat) (x : Value) : (w.setCell ⟨sb, o, none⟩ x).ownsRow B e s v n vs := by
  refine World.ownsRow.kept (row := some sb) h ⟨rfl, rfl, rfl, by simp [World.setCell], fun i _ hi => Below.heap_setCell _ _ _ _ (fun e => hi (by rw [e]))⟩ ?_
  cases hv : v.ownBlock with
  | none => exact .inl rfl
  | some k => exact .inr (fun e => by have := (h.lt k hv).1; injection e with e; omega)
set_option maxRecDepth 100000 in
set_option maxHeartbeats 4000000 in
theorem toPage_any (lo hi : ByteArray) (r : Int) (ab : Option Addr) (nb cb : Nat) (es : List EntD) (ac : Option Addr) (nc cc : Nat) (ds : List DelD) (w : World) (hnb : nb ≤ 1048576) (hnc : nc ≤ 1048576) (hP : IsPage w lo hi ab nb es ac nc ds) :
    Calls Try.prog 11 #[pgv lo hi r ab nb cb ac nc cc] w fun e w' => ∃ g h, e = .returned (pgv lo hi r (some ⟨g, 0, none⟩) nb nb (some ⟨h, 0, none⟩) nc nc) ∧ OwnPage w' w.heap.size g h nb nc es ds ∧ Below w.heap.size w w' := by
  have P := hide hP
  have b1 : Below w.heap.size w (w.alloc (.cells #[.string lo, .string hi, .int .i64 r, .slice ab nb cb, .slice ac nc cc] 25)) := (Below.refl _ _).alloc (Nat.le_refl _) _
  have h1 := hide (heap_new (w := w) rfl #[.string lo, .string hi, .int .i64 r, .slice ab nb cb, .slice ac nc cc] 25)
  obtain ⟨W1, hW1⟩ : ∃ W1, W1 = w.alloc (.cells #[.string lo, .string hi, .int .i64 r, .slice ab nb cb, .slice ac nc cc] 25) := ⟨_, rfl⟩
  have z1 : W1.heap.size = w.heap.size + 1 := by rw [hW1]; simp
  have b2 : Below (w.heap.size + 1) W1 (W1.alloc (.cells #[.string ⟨#[]⟩, .string ⟨#[]⟩, .int .i64 0, .slice none 0 0, .slice none 0 0] 31)) := (Below.refl _ _).alloc (by omega) _
  have h2 := hide (heap_new z1 #[.string ⟨#[]⟩, .string ⟨#[]⟩, .int .i64 0, .slice none 0 0, .slice none 0 0] 31)
  obtain ⟨W2, hW2⟩ : ∃ W2, W2 = W1.alloc (.cells #[.string ⟨#[]⟩, .string ⟨#[]⟩, .int .i64 0, .slice none 0 0, .slice none 0 0] 31) := ⟨_, rfl⟩
  have z2 : W2.heap.size = w.heap.size + 1 + 1 := by rw [hW2]; simp [z1]
  have b3 : Below (w.heap.size + 1 + 1) W2 (W2.alloc (.cells #[.string lo, .string hi, .int .i64 r, .slice none 0 0, .slice none 0 0] 31)) := (Below.refl _ _).alloc (by omega) _
  have h3 := hide (heap_new z2 #[.string lo, .string hi, .int .i64 r, .slice none 0 0, .slice none 0 0] 31)
  rw [← hW1] at b1 h1
  rw [← hW2] at b2 h2
  have k1 := hide ((b3.block w.heap.size (by omega)).trans ((b2.block w.heap.size (by omega)).trans (unhide h1)))
  have k2 := hide ((b3.block (w.heap.size + 1) (by omega)).trans (unhide h2))
  have b0 : Below w.heap.size w (W2.alloc (.cells #[.string lo, .string hi, .int .i64 r, .slice none 0 0, .slice none 0 0] 31)) := b1.trans ((b2.mono (by omega)).trans (b3.mono (by omega)))
  have PE := hide (hP.below b0).1
  have z3 : (W2.alloc (.cells #[.string lo, .string hi, .int .i64 r, .slice none 0 0, .slice none 0 0] 31)).heap.size = w.heap.size + 1 + 1 + 1 := by simp [z2]
  clear b1 b2 b3 h1 h2 hP z1 z2
  subst hW2 hW1
  go_enter Try.func11, Try.ntmps11
  go_wp2_with fail
  generalize (((w.alloc (.cells #[.string lo, .string hi, .int .i64 r, .slice ab nb cb, .slice ac nc cc] 25)).alloc (.cells #[.string ⟨#[]⟩, .string ⟨#[]⟩, .int .i64 0, .slice none 0 0, .slice none 0 0] 31)).alloc (.cells #[.string lo, .string hi, .int .i64 r, .slice none 0 0, .slice none 0 0] 31)) = W3 at *
  refine (toEntryS_any ab nb cb es W3 hnb (unhide PE)).mono ?_
  rintro e w1 ⟨g, rfl, hO, hb1⟩
  have hg : w.heap.size + 3 ≤ g := by have := (hO.lt g rfl).1; omega
  have hg1 : g < w1.heap.size := (hO.lt g rfl).2
  have hs1 : w.heap.size + 3 ≤ w1.heap.size := by have := hb1.size; omega
  have l1 := hide ((hb1.block w.heap.size (by omega)).trans (unhide k1))
  have l2 := hide ((hb1.block (w.heap.size + 1) (by omega)).trans (unhide k2))
  have l3 := hide ((hb1.block (w.heap.size + 1 + 1) (by omega)).trans (unhide h3))
  have B1 : Below w.heap.size w (w1.setCell ⟨w.heap.size + 1 + 1, 3, none⟩ (.slice (some ⟨g, 0, none⟩) nb nb)) := (b0.trans (hb1.mono b0.size)).setCell (p := ⟨w.heap.size + 1 + 1, 3, none⟩) (by show w.heap.size ≤ w.heap.size + 1 + 1; omega) _
  have O1 := hide (ownsRow_base (eowns_set hO (sb := w.heap.size + 1 + 1) (by omega) 3 (.slice (some ⟨g, 0, none⟩) nb nb)) (C := w.heap.size + 1 + 1 + 1) (by omega))
  have P2 := hide ((unhide P).below B1).2.1
  have m2 := hide ((Below.heap_setCell w1 ⟨w.heap.size + 1 + 1, 3, none⟩ (.slice (some ⟨g, 0, none⟩) nb nb) (w.heap.size + 1) (by simp)).trans (unhide l2))
  have m3 := hide (heap_set (unhide l3) 3 (.slice (some ⟨g, 0, none⟩) nb nb))
  have ss : (w1.setCell ⟨w.heap.size + 1 + 1, 3, none⟩ (.slice (some ⟨g, 0, none⟩) nb nb)).heap.size = w1.heap.size := by simp [World.setCell]
  have d4 : w1.cell? ⟨w.heap.size, 4, none⟩ = some (.slice ac nc cc) := heap_cell (unhide l1) 4
  have o3 : w1.cell? ⟨w.heap.size + 1 + 1, 3, none⟩ = some (.slice none 0 0) := heap_cell (unhide l3) 3
  have f3 := heap_frozen (unhide l3) 3
  clear hb1 hO b0 k1 k2 h3 PE
  go_wp2_with fail
  clear d4 o3 f3 l1 l2 l3
  generalize w1.setCell ⟨w.heap.size + 1 + 1, 3, none⟩ (.slice (some ⟨g, 0, none⟩) nb nb) = w2 at *
  refine (toDeltaS_any ac nc cc ds w2 hnc (unhide P2)).mono ?_
  rintro e w3 ⟨h, rfl, hO2, hb2⟩
  have hh : w2.heap.size ≤ h := (hO2.lt h rfl).1
  have n2 := hide ((hb2.block (w.heap.size + 1) (by omega)).trans (unhide m2))
  have n3 := hide ((hb2.block (w.heap.size + 1 + 1) (by omega)).trans (unhide m3))
  have O3 := hide (eowns_below (unhide O1) hb2)
  have B3 := hide (B1.trans (hb2.mono B1.size))
  have O4 := hide (ownsRow_base hO2 (C := w.heap.size + 1 + 1 + 1) (by omega))
  have hne : g ≠ h := by omega
  have t0 : w3.cell? ⟨w.heap.size + 1 + 1, 0, none⟩ = some (.string lo) := heap_cell (unhide n3) 0
  have t1 : w3.cell? ⟨w.heap.size + 1 + 1, 1, none⟩ = some (.string hi) := heap_cell (unhide n3) 1
  have t2 : w3.cell? ⟨w.heap.size + 1 + 1, 2, none⟩ = some (.int .i64 r) := heap_cell (unhide n3) 2
  have t3 : w3.cell? ⟨w.heap.size + 1 + 1, 3, none⟩ = some (.slice (some ⟨g, 0, none⟩) nb nb) := heap_cell (unhide n3) 3
  have t4 : w3.cell? ⟨w.heap.size + 1 + 1, 4, none⟩ = some (.slice none 0 0) := heap_cell (unhide n3) 4
  have tf := heap_frozen (unhide n3) 4
  have u0 : w3.cell? ⟨w.heap.size + 1, 0, none⟩ = some (.string ⟨#[]⟩) := heap_cell (unhide n2) 0
  have u1 : w3.cell? ⟨w.heap.size + 1, 1, none⟩ = some (.string ⟨#[]⟩) := heap_cell (unhide n2) 1
  have u2 : w3.cell? ⟨w.heap.size + 1, 2, none⟩ = some (.int .i64 0) := heap_cell (unhide n2) 2
  have u3 : w3.cell? ⟨w.heap.size + 1, 3, none⟩ = some (.slice none 0 0) := heap_cell (unhide n2) 3
  have u4 : w3.cell? ⟨w.heap.size + 1, 4, none⟩ = some (.slice none 0 0) := heap_cell (unhide n2) 4
  have v0 := heap_frozen (unhide n2) 0
  have v1 := heap_frozen (unhide n2) 1
  have v2 := heap_frozen (unhide n2) 2
  have v3 := heap_frozen (unhide n2) 3
  have v4 := heap_frozen (unhide n2) 4
  clear O1 P2 hO2 hb2 B1 m2 m3 n2 n3 ss P
  go_wp2_with fail
  have q1 : w.heap.size + 1 < w.heap.size + 1 + 1 + 1 := by omega
  have q2 : w.heap.size + 1 + 1 < w.heap.size + 1 + 1 + 1 := by omega
  have q3 : w.heap.size ≤ w.heap.size + 1 := by omega
  have q4 : w.heap.size ≤ w.heap.size + 1 + 1 := by omega
  refine bodyPost_ret (v := pgv lo hi r (some ⟨g, 0, none⟩) nb nb (some ⟨h, 0, none⟩) nc nc) (by simp [results, Try.results11, go_sem, *]) rfl ⟨g, h, rfl, ⟨?_, ?_, hne⟩, ?_⟩
  · exact ownsRow_base (ownsRow_set (ownsRow_set (ownsRow_set (ownsRow_set (ownsRow_set (ownsRow_set (unhide O3) q2 _ _) q1 _ _) q1 _ _) q1 _ _) q1 _ _) q1 _ _) (by omega)
  · exact ownsRow_base (ownsRow_set (ownsRow_set (ownsRow_set (ownsRow_set (ownsRow_set (ownsRow_set (unhide O4) q2 _ _) q1 _ _) q1 _ _) q1 _ _) q1 _ _) q1 _ _) (by omega)
  · exact ((((((unhide B3).setCell (p := ⟨w.heap.size + 1 + 1, 4, none⟩) q4 _).setCell (p := ⟨w.heap.size + 1, 0, none⟩) q3 _).setCell (p := ⟨w.heap.size + 1, 1, none⟩) q3 _).setCell (p := ⟨w.heap.size + 1, 2, none⟩) q3 _).setCell (p := ⟨w.heap.size + 1, 3, none⟩) q3 _).setCell (p := ⟨w.heap.size + 1, 4, none⟩) q3 _
end Go.Proofs.Ytkggpapmhopaeaa
