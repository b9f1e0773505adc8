/-
  A device at work, as it lies in memory.
-/
import Derived.Test.YtdiakahaghggiaaDevA
namespace Go.Proofs.Ytdiakahaghggiaa
open Go.RowKit Go.Maps

/-- The cells of a sector that waits. -/
def wcells (d : WD) : List Value := .int .i64 d.at_ :: d.xs.map (Value.int .u8)
def allCells (ws : List WD) : List Value := ws.flatMap wcells
theorem allCells_snoc (ws : List WD) (d : WD) : allCells (ws ++ [d]) = allCells ws ++ wcells d := by simp [allCells]
/-- What a device has: sectors that are held, sectors that are read, and those that wait. -/
structure DS where
  hc : Nat
  hf : Nat → List Int
  rc : Nat
  rf : Nat → List Int
  ws : List WD
def secOK (c : Nat) (f : Nat → List Int) : Prop := c ≤ 128 ∧ (∀ i, (f i).length = 16) ∧ ∀ i, c ≤ i → f i = nou
def WDok (d : WD) : Prop := 0 ≤ d.at_ ∧ d.at_ ≤ 127 ∧ d.xs.length = 16
structure DevAt (w : World) (base p mh mr : Nat) (v : Value) (N : Nat) (S : DS) : Prop where
  c0 : w.cell? ⟨p, 0, none⟩ = some (.int .i64 (S.hc : Int))
  c1 : w.cell? ⟨p, 1, none⟩ = some (.map (some mh))
  c2 : w.cell? ⟨p, 2, none⟩ = some (.int .i64 (S.rc : Int))
  c3 : w.cell? ⟨p, 3, none⟩ = some (.map (some mr))
  c4 : w.cell? ⟨p, 4, none⟩ = some v
  kind : ∃ cur, w.heap[p]? = some (.cells cur 72 (0, 0))
  held : SecMap w mh N S.hf
  read : SecMap w mr N S.rf
  wait : w.ownsRow base 96 17 v S.ws.length (allCells S.ws)
  low : base ≤ p ∧ base ≤ mh ∧ base ≤ mr
  apart : p ≠ mh ∧ p ≠ mr ∧ mh ≠ mr
  far : ∀ b, v.ownBlock = some b → b ≠ p ∧ b ≠ mh ∧ b ≠ mr
  hok : secOK S.hc S.hf
  rok : secOK S.rc S.rf
  wok : ∀ d ∈ S.ws, WDok d
theorem DevAt.free {w : World} {base p mh mr N : Nat} {v : Value} {S : DS} (h : DevAt w base p mh mr v N S) (j : Nat) : w.frozen? ⟨p, j, none⟩ = false := by
  obtain ⟨cur, hk⟩ := h.kind
  simp [World.frozen?, hk]
theorem DevAt.mono {w : World} {base p mh mr N N' : Nat} {v : Value} {S : DS} (h : DevAt w base p mh mr v N S) (hN : N ≤ N') : DevAt w base p mh mr v N' S :=
  ⟨h.c0, h.c1, h.c2, h.c3, h.c4, h.kind, h.held.mono hN, h.read.mono hN, h.wait, h.low, h.apart, h.far, h.hok, h.rok, h.wok⟩
theorem cell_of {w w' : World} {b j : Nat} (e : w'.heap[b]? = w.heap[b]?) : w'.cell? ⟨b, j, none⟩ = w.cell? ⟨b, j, none⟩ := World.cell?_of_block (w := w) (a := ⟨b, j, none⟩) e
/-- All the device's own blocks are as they were. -/
theorem DevAt.kept {w w' : World} {base p mh mr N : Nat} {v : Value} {S : DS} (h : DevAt w base p mh mr v N S) (hk : ∀ k, k < w.heap.size → k = p ∨ k = mh ∨ k = mr ∨ v.ownBlock = some k → w'.heap[k]? = w.heap[k]?) : DevAt w' base p mh mr v N S := by
  have hp : p < w.heap.size := cell_lt h.c0
  have e := hk p hp (.inl rfl)
  refine ⟨?_, ?_, ?_, ?_, ?_, ?_, h.held.block (hk mh h.held.lt (.inr (.inl rfl))), h.read.block (hk mr h.read.lt (.inr (.inr (.inl rfl)))), ?_, h.low, h.apart, h.far, h.hok, h.rok, h.wok⟩
  · exact (cell_of (j := 0) e).trans h.c0
  · exact (cell_of (j := 1) e).trans h.c1
  · exact (cell_of (j := 2) e).trans h.c2
  · exact (cell_of (j := 3) e).trans h.c3
  · exact (cell_of (j := 4) e).trans h.c4
  · obtain ⟨cur, hc⟩ := h.kind
    exact ⟨cur, e.trans hc⟩
  · obtain ⟨h1, h2⟩ := h.wait
    refine ⟨h1, ?_⟩
    rcases h2 with h2 | ⟨g, cap, cur, rfl, hb, hh, r⟩
    · exact .inl h2
    · exact .inr ⟨g, cap, cur, rfl, hb, (hk g ((Array.getElem?_eq_some_iff.1 hh).1) (.inr (.inr (.inr rfl)))).trans hh, r⟩
theorem DevAt.below {w w' : World} {base p mh mr N : Nat} {v : Value} {S : DS} (h : DevAt w base p mh mr v N S) (hb : Below w.heap.size w w') : DevAt w' base p mh mr v N S := h.kept fun k hk _ => hb.block k hk
/-- A put into what is read. -/
theorem DevAt.putRead {w w' : World} {base p mh mr N n : Nat} {v : Value} {S : DS} {s : List Int} (h : DevAt w base p mh mr v N S) (h16 : s.length = 16) (hn : n < 128) (hm : SecMap w' mr (N + 1) (updS S.rf n s)) (hc : w'.cell? ⟨p, 2, none⟩ = some (.int .i64 ((max S.rc (n + 1) : Nat) : Int))) (hp : Put2 p 2 mr w w') :
    DevAt w' base p mh mr v (N + 1) { S with rc := max S.rc (n + 1), rf := updS S.rf n s } ∧ Below base w w' := by
  obtain ⟨cur, hk⟩ := h.kind
  refine ⟨⟨(hp.cell 0 (by decide)).trans h.c0, (hp.cell 1 (by decide)).trans h.c1, hc, (hp.cell 3 (by decide)).trans h.c3, (hp.cell 4 (by decide)).trans h.c4, hp.kind _ _ _ hk, (h.held.mono (Nat.le_succ _)).block (hp.block _ (fun e => h.apart.1 e.symm) h.apart.2.2 h.held.lt), hm, ?_, h.low, h.apart, h.far, h.hok, ?_, h.wok⟩, ?_⟩
  · obtain ⟨h1, h2⟩ := h.wait
    refine ⟨h1, ?_⟩
    rcases h2 with h2 | ⟨g, cap, cur, rfl, hb, hh, r⟩
    · exact .inl h2
    · have hf := h.far g rfl
      exact .inr ⟨g, cap, cur, rfl, hb, (hp.block g hf.1 hf.2.2 ((Array.getElem?_eq_some_iff.1 hh).1)).trans hh, r⟩
  · obtain ⟨r1, r2, r3⟩ := h.rok
    refine ⟨by simp only; omega, fun i => ?_, fun i hi => ?_⟩
    · simp only [updS]; split
      · exact h16
      · exact r2 i
    · simp only [updS] at hi ⊢
      rw [if_neg (by omega)]
      exact r3 i (by omega)
  · exact ⟨hp.os, hp.tape, hp.output, hp.size, fun k hk' => hp.block k (by have := h.low; omega) (by have := h.low; omega) (Nat.lt_of_lt_of_le hk' (Nat.le_trans h.low.1 (Nat.le_of_lt (cell_lt h.c0))))⟩
theorem DevAt.putHeld {w w' : World} {base p mh mr N n : Nat} {v : Value} {S : DS} {s : List Int} (h : DevAt w base p mh mr v N S) (h16 : s.length = 16) (hn : n < 128) (hm : SecMap w' mh (N + 1) (updS S.hf n s)) (hc : w'.cell? ⟨p, 0, none⟩ = some (.int .i64 ((max S.hc (n + 1) : Nat) : Int))) (hp : Put2 p 0 mh w w') :
    DevAt w' base p mh mr v (N + 1) { S with hc := max S.hc (n + 1), hf := updS S.hf n s } ∧ Below base w w' := by
  obtain ⟨cur, hk⟩ := h.kind
  refine ⟨⟨hc, (hp.cell 1 (by decide)).trans h.c1, (hp.cell 2 (by decide)).trans h.c2, (hp.cell 3 (by decide)).trans h.c3, (hp.cell 4 (by decide)).trans h.c4, hp.kind _ _ _ hk, hm, (h.read.mono (Nat.le_succ _)).block (hp.block _ (fun e => h.apart.2.1 e.symm) (fun e => h.apart.2.2 e.symm) h.read.lt), ?_, h.low, h.apart, h.far, ?_, h.rok, h.wok⟩, ?_⟩
  · obtain ⟨h1, h2⟩ := h.wait
    refine ⟨h1, ?_⟩
    rcases h2 with h2 | ⟨g, cap, cur, rfl, hb, hh, r⟩
    · exact .inl h2
    · have hf := h.far g rfl
      exact .inr ⟨g, cap, cur, rfl, hb, (hp.block g hf.1 hf.2.1 ((Array.getElem?_eq_some_iff.1 hh).1)).trans hh, r⟩
  · obtain ⟨r1, r2, r3⟩ := h.hok
    refine ⟨by simp only; omega, fun i => ?_, fun i hi => ?_⟩
    · simp only [updS]; split
      · exact h16
      · exact r2 i
    · simp only [updS] at hi ⊢
      rw [if_neg (by omega)]
      exact r3 i (by omega)
  · exact ⟨hp.os, hp.tape, hp.output, hp.size, fun k hk' => hp.block k (by have := h.low; omega) (by have := h.low; omega) (Nat.lt_of_lt_of_le hk' (Nat.le_trans h.low.1 (Nat.le_of_lt (cell_lt h.c0))))⟩
def Dev (w : World) (base p N : Nat) (S : DS) : Prop := ∃ mh mr v, DevAt w base p mh mr v N S
theorem Try.infoWS : (Try.prog.info? 96).map (fun i => (i.zero, i.size, i.bytes)) = some (some (.agg (Value.int .i64 0 :: List.replicate 16 (Value.int .u8 0)).toArray), 17, 24) := by kernel_rfl
theorem wcells_one (d : WD) : ∀ u ∈ wcells d, u.oneCell' = true := by
  intro u hu
  rcases List.mem_cons.1 hu with rfl | hu
  · rfl
  · exact all_u8 _ u hu
/-- Rows that are no part of a device stay. -/
def KeepB (w w' : World) : Prop := ∀ (k : Nat) (cur : Array Value) (t : TypeId) (fr : Nat × Nat), w.heap[k]? = some (Obj.cells cur t fr) → t ≠ 72 → t ≠ 96 → w'.heap[k]? = w.heap[k]?
theorem KeepB.refl (w : World) : KeepB w w := fun _ _ _ _ _ _ _ => rfl
theorem KeepB.trans {w1 w2 w3 : World} (h : KeepB w1 w2) (k : KeepB w2 w3) : KeepB w1 w3 := fun i c t f hi h1 h2 => (k i c t f ((h i c t f hi h1 h2).trans hi) h1 h2).trans (h i c t f hi h1 h2)
theorem KeepB.of_below {w w' : World} (h : Below w.heap.size w w') : KeepB w w' := fun i _ _ _ hi _ _ => h.block i (Array.getElem?_eq_some_iff.1 hi).1
/-- What leaves all but a device's own blocks leaves those rows. -/
theorem KeepB.of_dev {w w' : World} {base p mh mr N : Nat} {v : Value} {S : DS} (h : DevAt w base p mh mr v N S) (hk : ∀ k, k < w.heap.size → k ≠ p → k ≠ mh → k ≠ mr → v.ownBlock ≠ some k → w'.heap[k]? = w.heap[k]?) : KeepB w w' := fun k cur t fr e h1 h2 => by
  refine hk k (Array.getElem?_eq_some_iff.1 e).1 (fun q => ?_) (fun q => ?_) (fun q => ?_) (fun q => ?_)
  · obtain ⟨c, hc⟩ := h.kind
    rw [q, hc] at e
    injection e with e
    injection e with _ e
    exact h1 e.symm
  · obtain ⟨D, ⟨es, clock, hm, _⟩, _⟩ := h.held
    rw [q, hm] at e
    cases e
  · obtain ⟨D, ⟨es, clock, hm, _⟩, _⟩ := h.read
    rw [q, hm] at e
    cases e
  · rcases h.wait.2 with ⟨rfl, _⟩ | ⟨g, cap, cu, rfl, _, hg, _⟩
    · cases q
    · injection q with q
      rw [← q, hg] at e
      injection e with e
      injection e with _ e
      exact h2 e.symm
end Go.Proofs.Ytdiakahaghggiaa
