/-
  What Store gives, as plain data; the locals of both sides' Store.
-/
import Derived.Test.YtocdbijmpecdgaaStP
import Derived.Test.YtocdbijmpecdgaaScE
import Derived.Test.YtocdbijmpecdgaaImgL
import Derived.Test.YtocdbijmpecdgaaFlIn8
namespace Go.Proofs.Ytocdbijmpecdgaa
open Go.RowKit Go.Maps

/-- The place behind the images of a device. -/
def stE (xs : List Int) (ws : List WD) : Nat := (scanB (readD xs ws)).2
def stOK (xs : List Int) (ws : List WD) (id : Int) (gone : Bool) (ds : List Int) : Bool := okD xs.length ws && imOK id gone ds.length
def stFit (xs : List Int) (ws : List WD) (ds : List Int) : Bool := decide (stE xs ws + (ds.length + 9) ≤ 2048)
def stNew (xs : List Int) (ws : List WD) (id : Int) (gone : Bool) (ds : List Int) : List Int := readD (readD xs ws) (newW (readD xs ws) (stE xs ws) (imgL id gone ds))
/-- What Store answers: bytes that are held and a code. -/
def stH (xs : List Int) (ws : List WD) (id : Int) (gone : Bool) (ds : List Int) : List Int := if stOK xs ws id gone ds = true then (if stFit xs ws ds = true then stNew xs ws id gone ds else []) else []
def stC (xs : List Int) (ws : List WD) (id : Int) (gone : Bool) (ds : List Int) : Int := if stOK xs ws id gone ds = true then (if stFit xs ws ds = true then 0 else 7) else 1
theorem st_bad {xs : List Int} {ws : List WD} {id : Int} {gone : Bool} {ds : List Int} (h : stOK xs ws id gone ds = false) : stC xs ws id gone ds = 1 ∧ stH xs ws id gone ds = [] := by
  unfold stC stH
  rw [h]
  exact ⟨rfl, rfl⟩
theorem st_full {xs : List Int} {ws : List WD} {id : Int} {gone : Bool} {ds : List Int} (h : stOK xs ws id gone ds = true) (h2 : ¬ stE xs ws + (ds.length + 9) ≤ 2048) : stC xs ws id gone ds = 7 ∧ stH xs ws id gone ds = [] := by
  unfold stC stH
  rw [h, show stFit xs ws ds = false from decide_eq_false h2]
  exact ⟨rfl, rfl⟩
theorem st_fit {xs : List Int} {ws : List WD} {id : Int} {gone : Bool} {ds : List Int} (h : stOK xs ws id gone ds = true) (h2 : stE xs ws + (ds.length + 9) ≤ 2048) : stC xs ws id gone ds = 0 ∧ stH xs ws id gone ds = stNew xs ws id gone ds := by
  unfold stC stH
  rw [h, show stFit xs ws ds = true from decide_eq_true h2]
  exact ⟨rfl, rfl⟩
theorem stNew_len {xs : List Int} {ws : List WD} {id : Int} {gone : Bool} {ds : List Int} (h : okD xs.length ws = true) (h2 : stE xs ws + (ds.length + 9) ≤ 2048) : (stNew xs ws id gone ds).length % 16 = 0 ∧ (stNew xs ws id gone ds).length ≤ 2048 := by
  obtain ⟨k1, k2, k3, k4⟩ := okD_parts h
  obtain ⟨h3, h4⟩ := readD_bounds xs ws k1 k2 k4
  exact readD_bounds _ _ h3 h4 (newW_ok _ _ _ h3 (by rw [imgL_length]; omega))
theorem stH_len (xs : List Int) (ws : List WD) (id : Int) (gone : Bool) (ds : List Int) : (stH xs ws id gone ds).length ≤ 2048 := by
  unfold stH
  split
  · rename_i h
    unfold stOK at h
    rw [Bool.and_eq_true] at h
    split
    · rename_i h2
      exact (stNew_len h.1 (of_decide_eq_true h2)).2
    · simp
  · simp
/-- The boxes of Store: the device, the image, the result. -/
structure StB (B : Nat) (W : World) (ah : Option Addr) (n c : Nat) (aw : Option Addr) (nw cw : Nat) (id : Int) (gone : Bool) (ai : Option Addr) (li ci : Nat) : Prop where
  f0 : W.cell? ⟨B, 0, none⟩ = some (.slice ah n c)
  f1 : W.cell? ⟨B, 1, none⟩ = some (.slice aw nw cw)
  i0 : W.cell? ⟨B + 1, 0, none⟩ = some (.int .i64 id)
  i1 : W.cell? ⟨B + 1, 1, none⟩ = some (.bool gone)
  i2 : W.cell? ⟨B + 1, 2, none⟩ = some (.slice ai li ci)
  r0 : W.cell? ⟨B + 1 + 1, 0, none⟩ = some (.slice none 0 0)
  r1 : W.cell? ⟨B + 1 + 1, 1, none⟩ = some (.slice none 0 0)
  z0 : W.frozen? ⟨B + 1 + 1, 0, none⟩ = false
  z1 : W.frozen? ⟨B + 1 + 1, 1, none⟩ = false
  size : B + 3 ≤ W.heap.size
theorem StB.start (w : World) (ah : Option Addr) (n c : Nat) (aw : Option Addr) (nw cw : Nat) (id : Int) (gone : Bool) (ai : Option Addr) (li ci : Nat) :
    StB w.heap.size (((w.alloc (.cells #[.slice ah n c, .slice aw nw cw] 28)).alloc (.cells #[.int .i64 id, .bool gone, .slice ai li ci] 45)).alloc (.cells #[.slice none 0 0, .slice none 0 0] 28)) ah n c aw nw cw id gone ai li ci :=
  ⟨(cell_old (by simp; omega)).trans ((cell_old (by simp)).trans ((cell_new rfl).trans rfl)), (cell_old (by simp; omega)).trans ((cell_old (by simp)).trans ((cell_new rfl).trans rfl)),
    (cell_old (by simp)).trans ((cell_new (by simp)).trans rfl), (cell_old (by simp)).trans ((cell_new (by simp)).trans rfl), (cell_old (by simp)).trans ((cell_new (by simp)).trans rfl),
    (cell_new (by simp)).trans rfl, (cell_new (by simp)).trans rfl, frozen_new (by simp), frozen_new (by simp), by simp⟩
theorem StB.step {B k : Nat} {W W2 : World} {ah : Option Addr} {n c : Nat} {aw : Option Addr} {nw cw : Nat} {id : Int} {gone : Bool} {ai : Option Addr} {li ci : Nat} (h : StB B W ah n c aw nw cw id gone ai li ci) (hb : Below k W W2) (hk : B + 3 ≤ k) : StB B W2 ah n c aw nw cw id gone ai li ci :=
  have hs := h.size
  ⟨(hb.cell (p := ⟨B, 0, none⟩) (by simp; omega)).trans h.f0, (hb.cell (p := ⟨B, 1, none⟩) (by simp; omega)).trans h.f1, (hb.cell (p := ⟨B + 1, 0, none⟩) (by simp; omega)).trans h.i0, (hb.cell (p := ⟨B + 1, 1, none⟩) (by simp; omega)).trans h.i1, (hb.cell (p := ⟨B + 1, 2, none⟩) (by simp; omega)).trans h.i2,
    (hb.cell (p := ⟨B + 1 + 1, 0, none⟩) (by simp; omega)).trans h.r0, (hb.cell (p := ⟨B + 1 + 1, 1, none⟩) (by simp; omega)).trans h.r1, (hb.frozen (p := ⟨B + 1 + 1, 0, none⟩) (by simp; omega)).trans h.z0, (hb.frozen (p := ⟨B + 1 + 1, 1, none⟩) (by simp; omega)).trans h.z1, Nat.le_trans hs hb.size⟩
/-- What both sides' Store leave. -/
def StRes (xs : List Int) (ws : List WD) (id : Int) (gone : Bool) (ds : List Int) (w : World) (e : Ending) (w' : World) : Prop :=
  ∃ a cap, e = .returned (.tuple #[fv a (stH xs ws id gone ds).length cap none 0 0, .int .i64 (stC xs ws id gone ds)]) ∧ Mine w' w.heap.size (.slice a (stH xs ws id gone ds).length cap) (stH xs ws id gone ds) ∧ Below w.heap.size w w'
theorem stRes_none {xs : List Int} {ws : List WD} {id : Int} {gone : Bool} {ds : List Int} {w w' : World} {k : Int} (h : stC xs ws id gone ds = k ∧ stH xs ws id gone ds = []) (hb : Below w.heap.size w w') : StRes xs ws id gone ds w (.returned (.tuple #[fv none 0 0 none 0 0, .int .i64 k])) w' :=
  ⟨none, 0, by rw [h.1, h.2]; rfl, by rw [h.2]; exact mine_nil _ _, hb⟩
theorem scanI_end (b : List Int) : ∀ f p, p ≤ b.length → (scanI b f p).2 ≤ b.length := by
  intro f
  induction f with
  | zero => intro p hp; simpa [scanI] using hp
  | succ f ih =>
    intro p hp
    cases hn : nextI b p with
    | none => rw [scanI_none hn]; exact hp
    | some x =>
      obtain ⟨_, _, _, h4⟩ := next_some hn
      have := ih (p + 9 + x.xs.length) (by omega)
      simp only [scanI, hn]
      exact this
theorem stE_le {xs : List Int} {ws : List WD} (h : okD xs.length ws = true) : stE xs ws ≤ 2048 := by
  have h1 := (scan_few h).1
  have h2 := scanI_end (readD xs ws) ((readD xs ws).length + 1) 0 (Nat.zero_le _)
  unfold stE scanB
  omega
end Go.Proofs.Ytocdbijmpecdgaa
