/-
  Slices of bools: copied, held against each other, marked.
-/
import Derived.Test.YtdiakahaghggiaaTo
import Derived.Test.YtdiakahaghggiaaFlashM
import Derived.Test.YtdiakahaghggiaaBRow
namespace Go.Proofs.Ytdiakahaghggiaa
open Go.RowKit

theorem Try.infoBool : (Try.prog.info? 4).map (fun i => (i.zero, i.size, i.bytes)) = some (some (.bool false), 1, 1) := by kernel_rfl
def upToB (xs : List Bool) (n k : Nat) : List Bool := xs.take k ++ List.replicate (n - k) false
theorem upToB_zero (xs : List Bool) (n : Nat) : (upToB xs n 0).map Value.bool = List.replicate n (Value.bool false) := by simp [upToB]
theorem upToB_at {xs : List Bool} {n k : Nat} (hl : xs.length = n) (hk : k < n) : (upToB xs n k)[k]? = some false := by
  have h1 : (xs.take k).length = k := by simp; omega
  simp only [upToB]
  rw [List.getElem?_append_right (show (xs.take k).length ≤ k by omega), h1, Nat.sub_self]
  have h2 : n - k = (n - (k + 1)) + 1 := by omega
  rw [h2, List.replicate_succ]; rfl
theorem upToB_set {xs : List Bool} {n k : Nat} {x : Bool} (hl : xs.length = n) (hk : k < n) (hx : x = xs.getD k false) : ((upToB xs n k).map Value.bool).set k (.bool x) = (upToB xs n (k + 1)).map Value.bool := by
  have h1 : (xs.take k).length = k := by simp; omega
  have h2 : n - k = (n - (k + 1)) + 1 := by omega
  rw [← List.map_set]
  congr 1
  simp only [upToB]
  rw [List.set_append_right _ _ (show (xs.take k).length ≤ k by omega), h1, Nat.sub_self, h2, List.replicate_succ, List.set_cons_zero, List.take_succ_eq_append_getElem (by omega), List.append_assoc]
  simp [hx, List.getD, hl, hk]
theorem upToB_all {xs : List Bool} {n : Nat} (hl : xs.length = n) : upToB xs n n = xs := by simp [upToB, ← hl]
/-- A slice of bools of the call's own: one block, none of it frozen. -/
def BMine (w : World) (g n : Nat) (bs : List Bool) : Prop := BRow w (some ⟨g, 0, none⟩) n bs ∧ ∀ j, w.frozen? ⟨g, j, none⟩ = false
theorem BMine.grow {w w' : World} {g n : Nat} {bs : List Bool} (h : BMine w g n bs) (hg : g < w.heap.size) (hb : Below w.heap.size w w') : BMine w' g n bs :=
  ⟨h.1.grow hb, fun j => (hb.frozen (p := ⟨g, j, none⟩) hg).trans (h.2 j)⟩
set_option maxHeartbeats 400000 in
theorem toBoolS_any (a : Option Addr) (n c : Nat) (bs : List Bool) (w : World) (hn : n ≤ 1048576) (h1 : BRow w a n bs) :
    Calls Try.prog 20 #[.slice a n c] w fun e w' => e = .returned (.slice (some ⟨w.heap.size, 0, none⟩) n n) ∧ BMine w' w.heap.size n bs ∧ w.heap.size < w'.heap.size ∧ Below w.heap.size w w' := by
  obtain ⟨i0, hi, hz0, hz1, hz2⟩ := info_parts Try.infoBool
  have L1 := hide h1.1
  have H1 := hide h1.2
  clear h1
  go_enter Try.func20, Try.ntmps20
  go_wp2_with (at_make; refine wpList_make_full _ rfl _ _ 39 rfl w.heap.size 4 i0 (.bool false) 1 Try.underlying39 hi hz0 hz1 _ _ _ _ n rfl rfl rfl rfl (by rw [hz2]; omega) (by unfold maxLen; omega) (Nat.le_refl _) ?_)
  intro w1 hown hgrow
  rw [toList_madeCells_one] at hown
  have hbel : Below w.heap.size w w1 := (Below.refl _ _).grown hgrow (Nat.le_refl _) (fun k hk => by cases hk)
  have hown1 : w1.ownsRow w.heap.size 4 1 (.slice (some ⟨w.heap.size, 0, none⟩) n n) n ((upToB bs n 0).map Value.bool) := by
    rw [upToB_zero]; exact hown
  clear hown hgrow
  go_wp2_with fail
  go_loopw [4] (fun i wr => ∃ k : Nat, k ≤ n ∧ i = .int .i64 k ∧ wr.ownsRow w.heap.size 4 1 (.slice (some ⟨w.heap.size, 0, none⟩) n n) n ((upToB bs n k).map Value.bool) ∧ Below w.heap.size w wr) (fun i _ => n - (intOf i).toNat)
  case atStart => exact ⟨0, Nat.zero_le _, rfl, hown1, hbel⟩
  case round =>
    clear hown1 hbel
    obtain ⟨k, hk, rfl, ho, hb⟩ := hrel
    by_cases hlt : k < n
    · obtain ⟨b, off, rfl, e1⟩ := unhide H1 k hlt
      have e2 := (hb.cell (p := ⟨b, off + k, none⟩) (cell_lt e1)).trans e1
      have e3 := ho.cellAt k (by omega)
      have e4 := ho.frozenAt k
      obtain ⟨x, hx⟩ : ∃ x, x = bs.getD k false := ⟨_, rfl⟩
      rw [← hx] at e2
      rw [List.getElem?_map, upToB_at (unhide L1) hlt] at e3
      have R := hide (ho.stored k (.bool x)).1
      rw [upToB_set (unhide L1) hlt hx] at R
      have R2 := hide (hb.setCell (p := ⟨w.heap.size, k, none⟩) (Nat.le_refl _) (.bool x))
      clear e1 hx ho hb
      go_wp2_with fail
      go_roundw
      case rel => exact ⟨k + 1, by omega, by go_num, unhide R, unhide R2⟩
      case measure => simp [intOf]; omega
    · obtain rfl : k = n := by omega
      rw [upToB_all (unhide L1)] at ho
      have M := hide (show BMine wr w.heap.size k bs ∧ w.heap.size < wr.heap.size from
        ⟨⟨⟨unhide L1, fun i hi => ⟨_, 0, rfl, by
          have := ho.cellAt i (by omega)
          rw [Nat.zero_add, this, List.getElem?_map]
          simp [List.getD, unhide L1, hi]⟩⟩, fun j => ho.frozenAt j⟩, (ho.lt _ rfl).2⟩)
      clear ho
      go_wp2_with fail
      go_ret
      exact ⟨rfl, (unhide M).1, (unhide M).2, hb⟩
theorem Try.eqlb (x : Bool) (w : World) : (binOp .neq 4 (.bool x) (.bool x)).run Try.prog w = .ok (.bool false) w := by cases x <;> kernel_rfl
set_option maxHeartbeats 400000 in
theorem eqBoolS_same (a1 a2 : Option Addr) (n c1 c2 : Nat) (bs : List Bool) (w : World) (hn : n ≤ maxLen) (h1 : BRow w a1 n bs) (h2 : BRow w a2 n bs) :
    Calls Try.prog 22 #[.slice a1 n c1, .slice a2 n c2] w fun e w' => e = .returned (.bool true) ∧ Below w.heap.size w w' := by
  unfold maxLen at hn
  have H1 := hide h1.2
  have H2 := hide h2.2
  clear h1 h2
  go_enter Try.func22, Try.ntmps22
  go_wp2_with fail
  go_loopw [5] (fun i wr => ∃ k : Nat, k ≤ n ∧ i = .int .i64 k ∧ ∃ d, wr = w.drewN d) (fun i _ => n - (intOf i).toNat)
  case atStart => exact ⟨0, Nat.zero_le _, rfl, 0, rfl⟩
  case round =>
    obtain ⟨k, hk, rfl, d, rfl⟩ := hrel
    by_cases hlt : k < n
    · obtain ⟨b1, o1, rfl, e1⟩ := unhide H1 k hlt
      obtain ⟨b2, o2, rfl, e2⟩ := unhide H2 k hlt
      generalize bs.getD k false = x at *
      go_wp2_with fail
      go_quiet (fail)
      go_wp2_with fail
      go_roundw
      case rel => exact ⟨k + 1, by omega, by go_num, _, rfl⟩
      case measure => simp [intOf]; omega
    · obtain rfl : k = n := by omega
      go_wp2_with fail
      go_ret
      exact ⟨rfl, bel_drewN (Below.refl _ _) _⟩
set_option maxHeartbeats 400000 in
theorem markBoolS_any (S : Nat → Prop) (g n c k0 : Nat) (bs : List Bool) (w : World) (hn : n ≤ 1048576) (hk0 : k0 ≤ 2000000000000) (h : BMine w g n bs) (hg : ¬ S g) :
    Calls Try.prog 23 #[.slice (some ⟨g, 0, none⟩) n c, .int .i64 (k0 : Int)] w fun e w' => ∃ k : Nat, e = .returned (.int .i64 (k : Int)) ∧ Band S w w' := by
  have H1 := hide (show ∀ i, i < n → ∃ v, w.cell? ⟨g, i, none⟩ = some (.bool v) from fun i hi => by
    obtain ⟨b, off, e, hc⟩ := h.1.2 i hi
    cases e
    rw [Nat.zero_add] at hc
    exact ⟨_, hc⟩)
  have H2 := hide h.2
  clear h
  go_enter Try.func23, Try.ntmps23
  go_wp2_with fail
  go_loopw [1, 5] (fun q i wr => ∃ k : Nat, k ≤ n ∧ i = .int .i64 k ∧ q = .int .i64 ((k0 + k : Nat) : Int) ∧ Hid (∀ i, i < n → ∃ v, wr.cell? ⟨g, i, none⟩ = some (.bool v)) ∧ Hid (∀ j, wr.frozen? ⟨g, j, none⟩ = false) ∧ Band S w wr) (fun _ i _ => n - (intOf i).toNat)
  case atStart => exact ⟨0, Nat.zero_le _, rfl, rfl, unhide H1, unhide H2, Band.refl _ _⟩
  case round =>
    obtain ⟨k, hk, rfl, rfl, g1, g2, hb⟩ := hrel
    by_cases hlt : k < n
    · obtain ⟨v, e1⟩ := unhide g1 k hlt
      have e2 := unhide g2 k
      have R := hide (fun (x : Bool) => show (∀ i, i < n → ∃ v, (wr.setCell ⟨g, k, none⟩ (.bool x)).cell? ⟨g, i, none⟩ = some (.bool v)) ∧ (∀ j, (wr.setCell ⟨g, k, none⟩ (.bool x)).frozen? ⟨g, j, none⟩ = false) ∧ Band S w (wr.setCell ⟨g, k, none⟩ (.bool x)) from
        ⟨fun i hi => by
          by_cases e : i = k
          · subst e; exact ⟨x, World.cell?_setCell_same _ _ _ e1⟩
          · obtain ⟨v', h'⟩ := unhide g1 i hi
            exact ⟨v', (World.cell?_setCell_other _ _ _ _ (by intro h; simp only [Addr.mk.injEq] at h; omega)).trans h'⟩,
         fun j => by rw [World.frozen?_setCell]; exact unhide g2 j, hb.trans (Band.set hg _ _ _)⟩)
      clear g1 g2
      go_wp2_with fail
      all_goals
        go_roundw
        case rel => exact ⟨k + 1, by omega, by go_num, by go_num, (unhide R _).1, (unhide R _).2.1, (unhide R _).2.2⟩
        case measure => simp [intOf]; omega
    · obtain rfl : k = n := by omega
      go_wp2_with fail
      go_ret
      exact ⟨_, rfl, hb⟩
end Go.Proofs.Ytdiakahaghggiaa
