/-
  Trees of one page without lists: eqTree, markTree, heldTree over them.
-/
import Derived.Test.YtkggpapmhopaeabPgK
import Derived.Deep.RegionWith
namespace Go.Proofs.Ytkggpapmhopaeab
open Go.RowKit

def PB (w : World) (b : Nat) (lo hi : ByteArray) (r : Int) : Prop := w.heap[b]? = some (.cells #[.string lo, .string hi, .int .i64 r, .slice none 0 0, .slice none 0 0] 26 (0, 0))
def BB (w : World) (b : Nat) (x : Bool) : Prop := w.heap[b]? = some (.cells #[.bool x] 4 (0, 0))
def RB (w : World) (b : Nat) (lo : ByteArray) (id : Int) : Prop := w.heap[b]? = some (.cells #[.string lo, .int .i64 id] 62 (0, 0))
theorem hlt {w : World} {b : Nat} {o : Obj} (h : w.heap[b]? = some o) : b < w.heap.size := (Array.getElem?_eq_some_iff.1 h).1
theorem PB.below {w w' : World} {b : Nat} {lo hi : ByteArray} {r : Int} (h : PB w b lo hi r) (hb : Below w.heap.size w w') : PB w' b lo hi r := (hb.block b (hlt h)).trans h
theorem BB.below {w w' : World} {b : Nat} {x : Bool} (h : BB w b x) (hb : Below w.heap.size w w') : BB w' b x := (hb.block b (hlt h)).trans h
theorem RB.below {w w' : World} {b : Nat} {lo : ByteArray} {id : Int} (h : RB w b lo id) (hb : Below w.heap.size w w') : RB w' b lo id := (hb.block b (hlt h)).trans h
theorem PB.cells {w : World} {b : Nat} {lo hi : ByteArray} {r : Int} (h : PB w b lo hi r) : w.cell? ⟨b, 0, none⟩ = some (.string lo) ∧ w.cell? ⟨b, 1, none⟩ = some (.string hi) ∧ w.cell? ⟨b, 2, none⟩ = some (.int .i64 r) ∧ w.cell? ⟨b, 3, none⟩ = some (.slice none 0 0) ∧ w.cell? ⟨b, 4, none⟩ = some (.slice none 0 0) := ⟨heap_cell h 0, heap_cell h 1, heap_cell h 2, heap_cell h 3, heap_cell h 4⟩
theorem BB.cell {w : World} {b : Nat} {x : Bool} (h : BB w b x) : w.cell? ⟨b, 0, none⟩ = some (.bool x) := heap_cell h 0
theorem RB.cells {w : World} {b : Nat} {lo : ByteArray} {id : Int} (h : RB w b lo id) : w.cell? ⟨b, 0, none⟩ = some (.string lo) ∧ w.cell? ⟨b, 1, none⟩ = some (.int .i64 id) := ⟨heap_cell h 0, heap_cell h 1⟩
theorem erow_nil (w : World) (a : Option Addr) : ERow w a 0 [] := ⟨rfl, fun _ hi => absurd hi (Nat.not_lt_zero _)⟩
theorem drow_nil (w : World) (a : Option Addr) : DRow w a 0 [] := ⟨rfl, fun _ hi => absurd hi (Nat.not_lt_zero _)⟩

set_option maxRecDepth 100000 in
set_option maxHeartbeats 4000000 in
theorem eqBool1 (g g2 : Nat) (b : Bool) (w : World) (h1 : BB w g b) (h2 : BB w g2 b) :
    Calls Try.prog 33 #[.slice (some ⟨g, 0, none⟩) 1 1, .slice (some ⟨g2, 0, none⟩) 1 1] w fun x w' => x = .returned (.bool true) ∧ Below w.heap.size w w' := by
  have c1 := h1.cell
  have c2 := h2.cell
  clear h1 h2
  go_enter Try.func33, Try.ntmps33
  go_wp2_with fail
  refine wp_loop_rounds 2 ?_
  rw [rounds_succ]
  go_wp2_with fail
  first | (go_quiet (fail); go_wp2_with fail) | skip
  rw [rounds_succ]
  go_wp2_with fail
  go_ret
  exact ⟨rfl, by first | exact Below.refl _ _ | exact bel_drewN (Below.refl _ _) _⟩
set_option maxRecDepth 100000 in
set_option maxHeartbeats 4000000 in
theorem eqRef_same (lo : ByteArray) (id : Int) (w : World) :
    Calls Try.prog 55 #[.agg #[.string lo, .int .i64 id], .agg #[.string lo, .int .i64 id]] w fun x w' => x = .returned (.bool true) ∧ Below w.heap.size w w' := by
  go_enter Try.func55, Try.ntmps55
  go_wp2_with fail
  go_ret
  exact ⟨rfl, ((Below.refl _ _).alloc (Nat.le_refl _) _).alloc (by simp) _⟩
set_option maxRecDepth 100000 in
set_option maxHeartbeats 4000000 in
theorem eqRef1 (i i2 : Nat) (lo : ByteArray) (id : Int) (w : World) (h1 : RB w i lo id) (h2 : RB w i2 lo id) :
    Calls Try.prog 34 #[.slice (some ⟨i, 0, none⟩) 1 1, .slice (some ⟨i2, 0, none⟩) 1 1] w fun x w' => x = .returned (.bool true) ∧ Below w.heap.size w w' := by
  obtain ⟨c1, c2⟩ := h1.cells
  obtain ⟨d1, d2⟩ := h2.cells
  clear h1 h2
  go_enter Try.func34, Try.ntmps34
  go_wp2_with fail
  refine wp_loop_rounds 2 ?_
  rw [rounds_succ]
  go_wp2_with fail
  go_region_with (go_at_call 55; refine (eqRef_same lo id _).mono ?_; rintro e w2 ⟨rfl, hb⟩; replace hb : Below w.heap.size w w2 := (by first | exact hb | exact bel_of_drew hb | exact bel_of_drewN hb))
  all_goals
    go_wp2_with fail
    rw [rounds_succ]
    go_wp2_with fail
    go_ret
    exact ⟨rfl, hb⟩
set_option maxRecDepth 100000 in
set_option maxHeartbeats 4000000 in
theorem eqPage1 (i i2 : Nat) (lo hi : ByteArray) (r : Int) (w : World) (h1 : PB w i lo hi r) (h2 : PB w i2 lo hi r) :
    Calls Try.prog 32 #[.slice (some ⟨i, 0, none⟩) 1 1, .slice (some ⟨i2, 0, none⟩) 1 1] w fun x w' => x = .returned (.bool true) ∧ Below w.heap.size w w' := by
  obtain ⟨c0, c1, c2, c3, c4⟩ := h1.cells
  obtain ⟨d0, d1, d2, d3, d4⟩ := h2.cells
  clear h1 h2
  go_enter Try.func32, Try.ntmps32
  go_wp2_with fail
  refine wp_loop_rounds 2 ?_
  rw [rounds_succ]
  go_wp2_with fail
  go_region_with (go_at_call 8; refine (eqPage_any lo hi r none none 0 0 0 [] none none 0 0 0 [] _ (by omega) (by omega) (erow_nil _ _) (erow_nil _ _) (drow_nil _ _) (drow_nil _ _)).mono ?_; rintro e w2 ⟨rfl, hb⟩; replace hb : Below w.heap.size w w2 := (by first | exact hb | exact bel_of_drew hb | exact bel_of_drewN hb))
  all_goals
    go_wp2_with fail
    rw [rounds_succ]
    go_wp2_with fail
    go_ret
    exact ⟨rfl, hb⟩
/-- The value of a tree of one page. -/
abbrev tv (p g i : Nat) : Value := .agg #[.slice (some ⟨p, 0, none⟩) 1 1, .slice (some ⟨g, 0, none⟩) 1 1, .slice (some ⟨i, 0, none⟩) 1 1]
/-- A tree of one page in memory. -/
structure T1 (w : World) (p g i : Nat) (lo hi : ByteArray) (r : Int) (x : Bool) (l2 : ByteArray) (id : Int) : Prop where
  pg : PB w p lo hi r
  gn : BB w g x
  ix : RB w i l2 id
  pg_gn : p ≠ g
  pg_ix : p ≠ i
  gn_ix : g ≠ i
theorem T1.below {w w' : World} {p g i : Nat} {lo hi : ByteArray} {r : Int} {x : Bool} {l2 : ByteArray} {id : Int} (h : T1 w p g i lo hi r x l2 id) (hb : Below w.heap.size w w') : T1 w' p g i lo hi r x l2 id :=
  ⟨h.pg.below hb, h.gn.below hb, h.ix.below hb, h.pg_gn, h.pg_ix, h.gn_ix⟩
set_option maxRecDepth 100000 in
set_option maxHeartbeats 4000000 in
theorem eqTree1 (p g i p2 g2 i2 : Nat) (lo hi : ByteArray) (r : Int) (x : Bool) (l2 : ByteArray) (id : Int) (w : World) (h1 : T1 w p g i lo hi r x l2 id) (h2 : T1 w p2 g2 i2 lo hi r x l2 id) :
    Calls Try.prog 15 #[tv p g i, tv p2 g2 i2] w fun e w' => e = .returned (.bool true) ∧ Below w.heap.size w w' := by
  have z1 : (w.alloc (.cells #[.slice (some ⟨p, 0, none⟩) 1 1, .slice (some ⟨g, 0, none⟩) 1 1, .slice (some ⟨i, 0, none⟩) 1 1] 39)).heap.size = w.heap.size + 1 := by simp
  have b2 : Below (w.heap.size + 1) (w.alloc (.cells #[.slice (some ⟨p, 0, none⟩) 1 1, .slice (some ⟨g, 0, none⟩) 1 1, .slice (some ⟨i, 0, none⟩) 1 1] 39)) ((w.alloc (.cells #[.slice (some ⟨p, 0, none⟩) 1 1, .slice (some ⟨g, 0, none⟩) 1 1, .slice (some ⟨i, 0, none⟩) 1 1] 39)).alloc (.cells #[.slice (some ⟨p2, 0, none⟩) 1 1, .slice (some ⟨g2, 0, none⟩) 1 1, .slice (some ⟨i2, 0, none⟩) 1 1] 39)) := (Below.refl _ _).alloc (by omega) _
  have k1 := hide ((b2.block w.heap.size (by omega)).trans (heap_new (w := w) rfl _ _))
  have k2 := hide (heap_new z1 #[.slice (some ⟨p2, 0, none⟩) 1 1, .slice (some ⟨g2, 0, none⟩) 1 1, .slice (some ⟨i2, 0, none⟩) 1 1] 39)
  have b0 : Below w.heap.size w ((w.alloc (.cells #[.slice (some ⟨p, 0, none⟩) 1 1, .slice (some ⟨g, 0, none⟩) 1 1, .slice (some ⟨i, 0, none⟩) 1 1] 39)).alloc (.cells #[.slice (some ⟨p2, 0, none⟩) 1 1, .slice (some ⟨g2, 0, none⟩) 1 1, .slice (some ⟨i2, 0, none⟩) 1 1] 39)) := ((Below.refl _ _).alloc (Nat.le_refl _) _).alloc (by simp) _
  have z2 : ((w.alloc (.cells #[.slice (some ⟨p, 0, none⟩) 1 1, .slice (some ⟨g, 0, none⟩) 1 1, .slice (some ⟨i, 0, none⟩) 1 1] 39)).alloc (.cells #[.slice (some ⟨p2, 0, none⟩) 1 1, .slice (some ⟨g2, 0, none⟩) 1 1, .slice (some ⟨i2, 0, none⟩) 1 1] 39)).heap.size = w.heap.size + 1 + 1 := by simp
  have H1 := hide (h1.below b0)
  have H2 := hide (h2.below b0)
  clear h1 h2 b2 z1
  go_enter Try.func15, Try.ntmps15
  go_wp2_with fail
  generalize ((w.alloc (.cells #[.slice (some ⟨p, 0, none⟩) 1 1, .slice (some ⟨g, 0, none⟩) 1 1, .slice (some ⟨i, 0, none⟩) 1 1] 39)).alloc (.cells #[.slice (some ⟨p2, 0, none⟩) 1 1, .slice (some ⟨g2, 0, none⟩) 1 1, .slice (some ⟨i2, 0, none⟩) 1 1] 39)) = W at *
  refine (eqPage1 p p2 lo hi r W (unhide H1).pg (unhide H2).pg).mono ?_
  rintro e w1 ⟨rfl, hb⟩
  replace H1 := hide ((unhide H1).below hb)
  replace H2 := hide ((unhide H2).below hb)
  replace k1 := hide ((hb.block w.heap.size (by omega)).trans (unhide k1))
  replace k2 := hide ((hb.block (w.heap.size + 1) (by omega)).trans (unhide k2))
  replace b0 := b0.trans (hb.mono b0.size)
  have s1 := hb.size
  clear hb
  have q1 : w1.cell? ⟨w.heap.size, 1, none⟩ = some (.slice (some ⟨g, 0, none⟩) 1 1) := heap_cell (unhide k1) 1
  have q2 : w1.cell? ⟨w.heap.size + 1, 1, none⟩ = some (.slice (some ⟨g2, 0, none⟩) 1 1) := heap_cell (unhide k2) 1
  go_wp2_with fail
  refine (eqBool1 g g2 x w1 (unhide H1).gn (unhide H2).gn).mono ?_
  rintro e w2 ⟨rfl, hb⟩
  replace H1 := hide ((unhide H1).below hb)
  replace H2 := hide ((unhide H2).below hb)
  replace k1 := hide ((hb.block w.heap.size (by omega)).trans (unhide k1))
  replace k2 := hide ((hb.block (w.heap.size + 1) (by omega)).trans (unhide k2))
  replace b0 := b0.trans (hb.mono b0.size)
  have s2 := hb.size
  clear hb q1 q2
  have q1 : w2.cell? ⟨w.heap.size, 2, none⟩ = some (.slice (some ⟨i, 0, none⟩) 1 1) := heap_cell (unhide k1) 2
  have q2 : w2.cell? ⟨w.heap.size + 1, 2, none⟩ = some (.slice (some ⟨i2, 0, none⟩) 1 1) := heap_cell (unhide k2) 2
  go_wp2_with fail
  refine (eqRef1 i i2 l2 id w2 (unhide H1).ix (unhide H2).ix).mono ?_
  rintro e w3 ⟨rfl, hb⟩
  replace b0 := b0.trans (hb.mono b0.size)
  clear hb q1 q2
  go_wp2_with fail
  go_ret
  exact ⟨rfl, b0⟩
end Go.Proofs.Ytkggpapmhopaeab
