/-
  What a device has, as deviceOf lays it.
-/
import Derived.Test.YtdiakahaghggiaaDevW
import Derived.Test.YtdiakahaghggiaaDevB
import Derived.Test.YtdiakahaghggiaaFlashOK
import Derived.Laws.Cover3
import Derived.Deep.WholeRow
namespace Go.Proofs.Ytdiakahaghggiaa
open Go.RowKit Go.Maps

def secAt (xs : List Int) (n : Nat) : List Int := (xs.drop (n * 16)).take 16
/-- The first k sectors of some bytes. -/
def secFn (xs : List Int) (k : Nat) : Nat → List Int := fun i => if i < k then secAt xs i else nou
theorem secAt_len {xs : List Int} {n m : Nat} (h : xs.length = m * 16) (hn : n < m) : (secAt xs n).length = 16 := by
  unfold secAt; simp; omega
theorem secFn_step (xs : List Int) (k : Nat) : updS (secFn xs k) k (secAt xs k) = secFn xs (k + 1) := by
  funext i
  unfold updS secFn
  by_cases e : i = k
  · subst e; simp
  · by_cases h : i < k
    · rw [if_neg e, if_pos h, if_pos (by omega)]
    · rw [if_neg e, if_neg h, if_neg (by omega)]
theorem secFn_ok {xs : List Int} {m : Nat} (h : xs.length = m * 16) (hm : m ≤ 128) : secOK m (secFn xs m) :=
  ⟨hm, fun i => by unfold secFn; split; exact secAt_len h (by assumption); rfl, fun i hi => by unfold secFn; rw [if_neg (by omega)]⟩
def stepDS (S : DS) (d : WD) : DS := { S with rc := max S.rc (d.at_.toNat + 1), rf := updS S.rf d.at_.toNat d.xs, ws := S.ws ++ [d] }
def startDS (xs : List Int) (m : Nat) : DS := ⟨m, secFn xs m, m, secFn xs m, []⟩
def devDS (xs : List Int) (m : Nat) (ws : List WD) : DS := ws.foldl stepDS (startDS xs m)
theorem devDS_ws (xs : List Int) (m : Nat) (ws : List WD) : (devDS xs m ws).ws = ws ∧ (devDS xs m ws).hc = m ∧ (devDS xs m ws).hf = secFn xs m := by
  have h : ∀ (ws : List WD) (S : DS), (ws.foldl stepDS S).ws = S.ws ++ ws ∧ (ws.foldl stepDS S).hc = S.hc ∧ (ws.foldl stepDS S).hf = S.hf := by
    intro ws
    induction ws with
    | nil => intro S; simp
    | cons d r ih => intro S; obtain ⟨h1, h2, h3⟩ := ih (stepDS S d); exact ⟨by rw [List.foldl_cons, h1]; simp [stepDS], h2, h3⟩
  obtain ⟨h1, h2, h3⟩ := h ws (startDS xs m)
  exact ⟨by rw [devDS, h1]; rfl, h2, h3⟩
theorem devDS_snoc (xs : List Int) (m : Nat) (ws : List WD) (k : Nat) (hk : k < ws.length) : devDS xs m (ws.take (k + 1)) = stepDS (devDS xs m (ws.take k)) ws[k] := by
  unfold devDS
  rw [List.take_succ_eq_append_getElem hk, List.foldl_append]; rfl
theorem okW_form {d : WD} (h : okW d = true) : ∃ (n : Nat) (s : List Int), d = ⟨(n : Int), s⟩ ∧ n < 128 ∧ s.length = 16 := by
  unfold okW at h
  have h := of_decide_eq_true h
  obtain ⟨a, s⟩ := d
  simp only at h
  exact ⟨a.toNat, s, by congr 1; omega, by omega, h.2.2⟩
/-- While the sectors that are held are laid. -/
structure Laying (w wr : World) (ah : Option Addr) (nh ch : Nat) (aw : Option Addr) (nw cw : Nat) (xs : List Int) (k : Nat) : Prop where
  bel : Below w.heap.size w wr
  size : w.heap.size + 1 + 1 < wr.heap.size
  p0 : wr.cell? ⟨w.heap.size, 0, none⟩ = some (.slice ah nh ch)
  p1 : wr.cell? ⟨w.heap.size, 1, none⟩ = some (.slice aw nw cw)
  c0 : wr.cell? ⟨w.heap.size + 1 + 1, 0, none⟩ = some (.int .i64 (k : Int))
  c1 : wr.cell? ⟨w.heap.size + 1 + 1, 1, none⟩ = some (.map (some (w.heap.size + 1)))
  c2 : wr.cell? ⟨w.heap.size + 1 + 1, 2, none⟩ = some (.int .i64 0)
  c3 : wr.cell? ⟨w.heap.size + 1 + 1, 3, none⟩ = some (.map none)
  c4 : wr.cell? ⟨w.heap.size + 1 + 1, 4, none⟩ = some (.slice none 0 0)
  kind : ∃ cur, wr.heap[w.heap.size + 1 + 1]? = some (.cells cur 72 (0, 0))
  held : SecMap wr (w.heap.size + 1) k (secFn xs k)
theorem Laying.start {w : World} {ah : Option Addr} {nh ch : Nat} {aw : Option Addr} {nw cw : Nat} {xs : List Int} : Laying w (((w.alloc (.cells #[.slice ah nh ch, .slice aw nw cw] 30)).alloc (.map #[] 0)).alloc (.cells #[.int .i64 0, .map (some (w.heap.size + 1)), .int .i64 0, .map none, .slice none 0 0] 72)) ah nh ch aw nw cw xs 0 := by
  have hf : secFn xs 0 = fun _ => nou := by funext i; simp [secFn]
  refine ⟨(((Below.refl _ _).alloc (Nat.le_refl _) _).alloc (by simp) _).alloc (by simp; omega) _, by simp, (cell_old (by simp; omega)).trans ((cell_old (by simp)).trans ((cell_new rfl).trans rfl)), (cell_old (by simp; omega)).trans ((cell_old (by simp)).trans ((cell_new rfl).trans rfl)),
    (cell_new (by simp)).trans rfl, (cell_new (by simp)).trans rfl, (cell_new (by simp)).trans rfl, (cell_new (by simp)).trans rfl, (cell_new (by simp)).trans rfl, ⟨_, by rw [show w.heap.size + 1 + 1 = ((w.alloc (.cells #[.slice ah nh ch, .slice aw nw cw] 30)).alloc (.map #[] 0)).heap.size by simp]; exact heap_alloc_last _ _⟩, ?_⟩
  rw [hf]
  have h1 := secMap_made (w.alloc (.cells #[.slice ah nh ch, .slice aw nw cw] 30))
  have h2 := h1.below ((Below.refl ((w.alloc (.cells #[.slice ah nh ch, .slice aw nw cw] 30)).alloc (.map #[] 0)).heap.size _).alloc (Nat.le_refl _) (.cells #[.int .i64 0, .map (some (w.heap.size + 1)), .int .i64 0, .map none, .slice none 0 0] 72)) h1.lt
  simpa using h2
theorem Laying.free {w wr : World} {ah : Option Addr} {nh ch : Nat} {aw : Option Addr} {nw cw : Nat} {xs : List Int} {k : Nat} (h : Laying w wr ah nh ch aw nw cw xs k) (j : Nat) : wr.frozen? ⟨w.heap.size + 1 + 1, j, none⟩ = false := by
  obtain ⟨cur, hk⟩ := h.kind
  simp [World.frozen?, hk]
theorem Laying.put {w wr w3 : World} {ah : Option Addr} {nh ch : Nat} {aw : Option Addr} {nw cw : Nat} {xs : List Int} {k : Nat} (h : Laying w wr ah nh ch aw nw cw xs k) (hm : SecMap w3 (w.heap.size + 1) (k + 1) (updS (secFn xs k) k (secAt xs k)))
    (hc : w3.cell? ⟨w.heap.size + 1 + 1, 0, none⟩ = some (.int .i64 ((max k (k + 1) : Nat) : Int))) (hp : Put2 (w.heap.size + 1 + 1) 0 (w.heap.size + 1) wr w3) : Laying w w3 ah nh ch aw nw cw xs (k + 1) := by
  obtain ⟨cur, hk⟩ := h.kind
  have hs := h.size
  have hb := hp.block w.heap.size (by omega) (by omega) (by omega)
  rw [secFn_step] at hm
  rw [show max k (k + 1) = k + 1 by omega] at hc
  exact ⟨h.bel.trans ⟨hp.os, hp.tape, hp.output, hp.size, fun i hi => hp.block i (by omega) (by omega) (by omega)⟩, Nat.lt_of_lt_of_le h.size hp.size, (cell_of hb).trans h.p0, (cell_of hb).trans h.p1, hc, (hp.cell 1 (by decide)).trans h.c1, (hp.cell 2 (by decide)).trans h.c2, (hp.cell 3 (by decide)).trans h.c3, (hp.cell 4 (by decide)).trans h.c4, hp.kind _ _ _ hk, hm⟩
/-- What is held is what is read. -/
theorem Laying.cloned {w wr w4 : World} {ah : Option Addr} {nh ch : Nat} {aw : Option Addr} {nw cw : Nat} {xs : List Int} {m g : Nat} (h : Laying w wr ah nh ch aw nw cw xs m) (hx : xs.length = m * 16) (hm : m ≤ 128) (hb : Below wr.heap.size wr w4) (hg : wr.heap.size ≤ g) (hs : SecMap w4 g m (secFn xs m)) :
    DevAt ((w4.setCell ⟨w.heap.size + 1 + 1, 2, none⟩ (.int .i64 (m : Int))).setCell ⟨w.heap.size + 1 + 1, 3, none⟩ (.map (some g))) w.heap.size (w.heap.size + 1 + 1) (w.heap.size + 1) g (.slice none 0 0) m (startDS xs m) ∧
    Below w.heap.size w ((w4.setCell ⟨w.heap.size + 1 + 1, 2, none⟩ (.int .i64 (m : Int))).setCell ⟨w.heap.size + 1 + 1, 3, none⟩ (.map (some g))) := by
  have hsz := h.size
  have old : ∀ j, w4.cell? ⟨w.heap.size + 1 + 1, j, none⟩ = wr.cell? ⟨w.heap.size + 1 + 1, j, none⟩ := fun j => hb.cell (p := ⟨w.heap.size + 1 + 1, j, none⟩) hsz
  have ot : ∀ j, j ≠ 2 → j ≠ 3 → ((w4.setCell ⟨w.heap.size + 1 + 1, 2, none⟩ (.int .i64 (m : Int))).setCell ⟨w.heap.size + 1 + 1, 3, none⟩ (.map (some g))).cell? ⟨w.heap.size + 1 + 1, j, none⟩ = wr.cell? ⟨w.heap.size + 1 + 1, j, none⟩ := fun j h1 h2 => by
    rw [World.cell?_setCell_other _ _ _ _ (by intro e; injection e; omega), World.cell?_setCell_other _ _ _ _ (by intro e; injection e; omega)]; exact old j
  have bl : ∀ k, k ≠ w.heap.size + 1 + 1 → ((w4.setCell ⟨w.heap.size + 1 + 1, 2, none⟩ (.int .i64 (m : Int))).setCell ⟨w.heap.size + 1 + 1, 3, none⟩ (.map (some g))).heap[k]? = w4.heap[k]? := fun k hk => by
    rw [Below.heap_setCell _ _ _ _ hk, Below.heap_setCell _ _ _ _ hk]
  obtain ⟨cur, hk⟩ := h.kind
  obtain ⟨cur1, hk1⟩ := setCell_kind (o := 2) (v := .int .i64 (m : Int)) ((hb.block _ hsz).trans hk)
  refine ⟨⟨(ot 0 (by decide) (by decide)).trans h.c0, (ot 1 (by decide) (by decide)).trans h.c1, ?_, ?_, (ot 4 (by decide) (by decide)).trans h.c4, setCell_kind hk1, ?_, ?_, ⟨rfl, .inl ⟨rfl, rfl⟩⟩, ⟨by omega, by omega, by omega⟩, ⟨by omega, by omega, by omega⟩, fun b hb => (by cases hb), secFn_ok hx hm, secFn_ok hx hm, fun d hd => (by cases hd)⟩, ?_⟩
  · rw [World.cell?_setCell_other _ _ _ _ (by intro e; injection e; omega)]
    exact World.cell?_setCell_same _ _ _ ((old 2).trans h.c2)
  · exact World.cell?_setCell_same _ _ _ ((World.cell?_setCell_other _ _ _ _ (by intro e; injection e; omega)).trans ((old 3).trans h.c3))
  · exact (h.held.below hb (by omega)).block (bl _ (by omega))
  · exact hs.block (bl _ (by omega))
  · exact ((h.bel.trans (hb.mono (by omega))).setCell (p := ⟨w.heap.size + 1 + 1, 2, none⟩) (by simp; omega) _).setCell (p := ⟨w.heap.size + 1 + 1, 3, none⟩) (by simp; omega) _

end Go.Proofs.Ytdiakahaghggiaa
