/-
  The walk of toPartS: a new slice with the same parts.
-/
import Derived.Test.YtmnijhjlindfbabPartL
namespace Go.Proofs.Ytmnijhjlindfbab
open Go.RowKit
attribute [local go_sem] run_store_float

def zeroD : PartD := ⟨0, 0, 0, ByteArray.empty⟩
/-- The cell of a part at a field. -/
def pcell (d : PartD) : Nat → Value
  | 0 => .int .i64 d.k
  | 1 => .int .i64 d.n
  | 2 => .float .f64 d.f
  | _ => .string d.t
/-- What lies at place i while the first k are laid. -/
def slotD (ps : List PartD) (k i : Nat) : PartD := if i < k then ps.getD i zeroD else zeroD
/-- A block of n parts, the first k laid. -/
def Laid (w : World) (g n : Nat) (ps : List PartD) (k : Nat) : Prop := (∀ j, j < n * 4 → w.cell? ⟨g, j, none⟩ = some (pcell (slotD ps k (j / 4)) (j % 4))) ∧ (∀ j, w.frozen? ⟨g, j, none⟩ = false) ∧ g < w.heap.size

theorem laid_made {w : World} {base g n : Nat} {ps : List PartD} (h : w.ownsRow base 47 4 (.slice (some ⟨g, 0, none⟩) n n) n (madeCells #[.int .i64 0, .int .i64 0, .float .f64 0, .string ByteArray.empty] (n * 4)).toList) : Laid w g n ps 0 := by
  refine ⟨fun j hj => ?_, fun j => h.frozenAt j, (h.lt g rfl).2⟩
  rw [h.cellAt j hj]
  have hj4 : j % 4 < 4 := Nat.mod_lt _ (by omega)
  have e : (madeCells #[.int .i64 0, .int .i64 0, .float .f64 0, .string ByteArray.empty] (n * 4)).toList[j]? = some ((#[.int .i64 0, .int .i64 0, .float .f64 0, .string ByteArray.empty] : Array Value)[j % 4]!) := by
    simp [madeCells, hj]
  rw [e]
  have hs : slotD ps 0 (j / 4) = zeroD := by simp [slotD]
  rw [hs]
  generalize j % 4 = r at *
  match r, hj4 with
  | 0, _ => rfl
  | 1, _ => rfl
  | 2, _ => rfl
  | 3, _ => rfl
theorem laid_below {w w' : World} {g n k : Nat} {ps : List PartD} {B : Nat} (h : Laid w g n ps k) (hb : Below B w w') (hg : g < B) : Laid w' g n ps k :=
  ⟨fun j hj => (hb.cell (p := ⟨g, j, none⟩) hg).trans (h.1 j hj), fun j => (hb.frozen (p := ⟨g, j, none⟩) hg).trans (h.2.1 j), Nat.lt_of_lt_of_le h.2.2 hb.size⟩
theorem laid_step {w : World} {g n k : Nat} {ps : List PartD} (h : Laid w g n ps k) (hk : k < n) (hl : ps.length = n) {d : PartD} (hd : ps[k]? = some d) :
    Laid ((((w.setCell ⟨g, k * 4, none⟩ (.int .i64 d.k)).setCell ⟨g, k * 4 + 1, none⟩ (.int .i64 d.n)).setCell ⟨g, k * 4 + 2, none⟩ (.float .f64 d.f)).setCell ⟨g, k * 4 + 3, none⟩ (.string d.t)) g n ps (k + 1) := by
  obtain ⟨h1, h2, h3⟩ := h
  have c0 : ∀ i, i < 4 → ∃ v, w.cell? ⟨g, k * 4 + i, none⟩ = some v := fun i hi => ⟨_, h1 (k * 4 + i) (by omega)⟩
  refine ⟨fun j hj => ?_, fun j => by simpa using h2 j, by simpa using h3⟩
  by_cases hj4 : j / 4 = k
  · have hs : slotD ps (k + 1) (j / 4) = d := by rw [hj4]; simp [slotD, List.getD, hd]
    rw [hs]
    have hr : j % 4 < 4 := Nat.mod_lt _ (by omega)
    have hj' : j = k * 4 + j % 4 := by omega
    rw [hj']
    have hm : (k * 4 + j % 4) % 4 = j % 4 := by omega
    rw [hm]
    generalize j % 4 = r at *
    obtain ⟨v0, e0⟩ := c0 0 (by omega)
    obtain ⟨v1, e1⟩ := c0 1 (by omega)
    obtain ⟨v2, e2⟩ := c0 2 (by omega)
    obtain ⟨v3, e3⟩ := c0 3 (by omega)
    have ne : ∀ a b : Nat, a ≠ b → (⟨g, a, none⟩ : Addr) ≠ ⟨g, b, none⟩ := fun a b hab e => hab (by injection e)
    match r, hr with
    | 0, _ =>
      rw [World.cell?_setCell_other _ _ _ _ (ne _ _ (by omega)), World.cell?_setCell_other _ _ _ _ (ne _ _ (by omega)), World.cell?_setCell_other _ _ _ _ (ne _ _ (by omega))]
      exact World.cell?_setCell_same _ _ _ e0
    | 1, _ =>
      rw [World.cell?_setCell_other _ _ _ _ (ne _ _ (by omega)), World.cell?_setCell_other _ _ _ _ (ne _ _ (by omega))]
      exact World.cell?_setCell_same _ _ _ ((World.cell?_setCell_other _ _ _ _ (ne _ _ (by omega))).trans e1)
    | 2, _ =>
      rw [World.cell?_setCell_other _ _ _ _ (ne _ _ (by omega))]
      exact World.cell?_setCell_same _ _ _ ((World.cell?_setCell_other _ _ _ _ (ne _ _ (by omega))).trans ((World.cell?_setCell_other _ _ _ _ (ne _ _ (by omega))).trans e2))
    | 3, _ =>
      exact World.cell?_setCell_same _ _ _ ((World.cell?_setCell_other _ _ _ _ (ne _ _ (by omega))).trans ((World.cell?_setCell_other _ _ _ _ (ne _ _ (by omega))).trans ((World.cell?_setCell_other _ _ _ _ (ne _ _ (by omega))).trans e3)))
  · have ne : ∀ a : Nat, a / 4 = k → (⟨g, a, none⟩ : Addr) ≠ ⟨g, j, none⟩ := fun a ha e => by injection e; omega
    have ne' : ∀ a : Nat, a / 4 = k → ¬ (⟨g, j, none⟩ : Addr) = ⟨g, a, none⟩ := fun a ha e => by injection e; omega
    rw [World.cell?_setCell_other _ _ _ _ (by first | exact ne _ (by omega) | exact ne' _ (by omega)), World.cell?_setCell_other _ _ _ _ (by first | exact ne _ (by omega) | exact ne' _ (by omega)), World.cell?_setCell_other _ _ _ _ (by first | exact ne _ (by omega) | exact ne' _ (by omega)), World.cell?_setCell_other _ _ _ _ (by first | exact ne _ (by omega) | exact ne' _ (by omega)), h1 j hj]
    have hs : slotD ps (k + 1) (j / 4) = slotD ps k (j / 4) := by unfold slotD; by_cases hlt : j / 4 < k <;> simp [hlt] <;> omega
    rw [hs]
theorem prow_laid {w : World} {g n : Nat} {ps : List PartD} (h : Laid w g n ps n) (hl : ps.length = n) : PRow w (some ⟨g, 0, none⟩) n ps := by
  refine ⟨hl, fun i hi => ⟨g, 0, rfl, ?_⟩⟩
  have hs : slotD ps n i = ps[i] := by simp [slotD, List.getD, ← hl, hi]
  have hc : ∀ r, r < 4 → w.cell? ⟨g, 0 + i * 4 + r, none⟩ = some (pcell ps[i] r) := fun r hr => by
    have := h.1 (i * 4 + r) (by omega)
    rw [show (i * 4 + r) / 4 = i by omega, show (i * 4 + r) % 4 = r by omega, hs] at this
    rw [Nat.zero_add]; exact this
  exact ⟨hc 0 (by omega), hc 1 (by omega), hc 2 (by omega), hc 3 (by omega)⟩

set_option maxHeartbeats 2000000 in
theorem toPartS_any (a : Option Addr) (n c : Nat) (ps : List PartD) (w : World) (hn : n ≤ 1048576) (hr : PRow w a n ps) :
    Calls Try.prog 8 #[.slice a n c] w fun e w' => ∃ g, e = .returned (.slice (some ⟨g, 0, none⟩) n n) ∧ w.heap.size ≤ g ∧ Laid w' g n ps n ∧ Below w.heap.size w w' := by
  obtain ⟨i0, hi, hz0, hz1, hz2⟩ := info_parts Try.infoPart
  have L := hide hr.1
  have R := hide hr.2
  clear hr
  go_enter Try.func8, Try.ntmps8
  go_wp2_with (at_make; refine wpList_make_full _ rfl _ _ 27 rfl w.heap.size 47 i0 _ 4 Try.underlying27 hi hz0 hz1 _ _ _ _ n rfl rfl rfl rfl (by rw [hz2]; omega) (by unfold maxLen; omega) (Nat.le_refl _) ?_)
  intro w1 hown hgrow
  have hl0 : Laid w1 w.heap.size n ps 0 := laid_made hown
  have hbel : Below w.heap.size w w1 := (Below.refl _ _).grown hgrow (Nat.le_refl _) (fun k hk => by cases hk)
  clear hown hgrow
  go_wp2_with fail
  go_loopw [4] (fun i wr => ∃ k : Nat, k ≤ n ∧ i = .int .i64 k ∧ Hid (Laid wr w.heap.size n ps k) ∧ Below w.heap.size w wr) (fun i _ => n - (intOf i).toNat)
  case atStart => exact ⟨0, by omega, rfl, hl0, hbel⟩
  case round =>
    clear hl0 hbel
    obtain ⟨k, hk, rfl, hla, hb⟩ := hrel
    by_cases hlt : k < n
    · have hk2 : k < ps.length := by rw [unhide L]; exact hlt
      obtain ⟨b, off, rfl, c0, c1, c2, c3⟩ := unhide R k hk2
      have hbl : b < w.heap.size := cell_lt c0
      have d0 := (hb.cell (p := ⟨b, off + k * 4, none⟩) hbl).trans c0
      have d1 := (hb.cell (p := ⟨b, off + k * 4 + 1, none⟩) hbl).trans c1
      have d2 := (hb.cell (p := ⟨b, off + k * 4 + 2, none⟩) hbl).trans c2
      have d3 := (hb.cell (p := ⟨b, off + k * 4 + 3, none⟩) hbl).trans c3
      have hpd := hide (List.getElem?_eq_getElem hk2)
      clear c0 c1 c2 c3
      generalize ps[k] = pd at *
      go_wp2_with fail
      refine (toPart_any pd wr).mono ?_
      rintro e w2 ⟨rfl, hb2⟩
      have hl2 := laid_below (unhide hla) hb2 (unhide hla).2.2
      have e0 := hl2.1 (k * 4) (by omega)
      have e1 := hl2.1 (k * 4 + 1) (by omega)
      have e2 := hl2.1 (k * 4 + 2) (by omega)
      have e3 := hl2.1 (k * 4 + 3) (by omega)
      have f0 := hl2.2.1 (k * 4)
      have f1 := hl2.2.1 (k * 4 + 1)
      have f2 := hl2.2.1 (k * 4 + 2)
      have f3 := hl2.2.1 (k * 4 + 3)
      have S := hide (laid_step hl2 hlt (unhide L) (unhide hpd))
      have B2 := hide (((((hb.trans (hb2.mono hb.size)).setCell (p := ⟨w.heap.size, k * 4, none⟩) (Nat.le_refl _) (.int .i64 pd.k)).setCell (p := ⟨w.heap.size, k * 4 + 1, none⟩) (Nat.le_refl _) (.int .i64 pd.n)).setCell (p := ⟨w.heap.size, k * 4 + 2, none⟩) (Nat.le_refl _) (.float .f64 pd.f)).setCell (p := ⟨w.heap.size, k * 4 + 3, none⟩) (Nat.le_refl _) (.string pd.t))
      clear hl2 hb hb2 d0 d1 d2 d3 hla
      generalize pcell (slotD ps k (k * 4 / 4)) (k * 4 % 4) = u0 at *
      generalize pcell (slotD ps k ((k * 4 + 1) / 4)) ((k * 4 + 1) % 4) = u1 at *
      generalize pcell (slotD ps k ((k * 4 + 2) / 4)) ((k * 4 + 2) % 4) = u2 at *
      generalize pcell (slotD ps k ((k * 4 + 3) / 4)) ((k * 4 + 3) % 4) = u3 at *
      go_wp2_with fail
      go_roundw
      case rel => exact ⟨k + 1, by omega, by go_num, unhide S, unhide B2⟩
      case measure => simp [intOf]; omega
    · obtain rfl : k = n := by omega
      go_wp2_with fail
      go_ret
      exact ⟨_, rfl, Nat.le_refl _, unhide hla, hb⟩
end Go.Proofs.Ytmnijhjlindfbab
