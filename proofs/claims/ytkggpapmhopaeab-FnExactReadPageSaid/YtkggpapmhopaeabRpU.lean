/-
  A page that the specification reads, in memory.
-/
import Derived.Test.YtkggpapmhopaeabRpT
import Derived.Test.YtkggpapmhopaeabRpR
import Derived.Test.YtkggpapmhopaeabPageQ
namespace Go.Proofs.Ytkggpapmhopaeab
open Go.RowKit

theorem sTwo_le {xs : List Int} (h : By xs) (s : Ss) : 0 ≤ (sTwo xs s).1 ∧ (sTwo xs s).1 ≤ 65535 := by
  have a := sOne_le h s
  have b := sOne_le h (sOne xs s).2
  have e : (sTwo xs s).1 = (sOne xs s).1 * 256 + (sOne xs (sOne xs s).2).1 := rfl
  rw [e]
  omega
theorem sEnt_eq (xs : List Int) (s : Ss) : sEnt xs s = (⟨(sLine xs s).1, (sLine xs (sLine xs s).2).1⟩, (sLine xs (sLine xs s).2).2) := rfl
theorem sDel_eq (xs : List Int) (s : Ss) : sDel xs s = (⟨(sOne xs s).1, (sLine xs (sOne xs s).2).1, (sLine xs (sLine xs (sOne xs s).2).2).1, (sTwo xs (sLine xs (sLine xs (sOne xs s).2).2).2).1⟩, (sTwo xs (sLine xs (sLine xs (sOne xs s).2).2).2).2) := rfl
theorem repS_step {α : Type} {f : Ss → α × Ss} {s : Ss} (h : s.2 = false) (n : Nat) : repS f (n + 1) s = ((f s).1 :: (repS f n (f s).2).1, (repS f n (f s).2).2) := by rw [repS, if_neg (by rw [h]; decide)]
theorem repS_end {α : Type} {f : Ss → α × Ss} {s : Ss} {n : Nat} (h : n = 0 ∨ s.2 = true) : repS f n s = ([], s) := by
  rcases h with rfl | h
  · rfl
  · exact repS_bad h n
theorem sPage_eq (xs : List Int) (s : Ss) : ∃ lo hi r n es m ds s1 s2 s3 s4 s5 s6 s7, sLine xs s = (lo, s1) ∧ sLine xs s1 = (hi, s2) ∧ sTwo xs s2 = (r, s3) ∧ sOne xs s3 = (n, s4) ∧ repS (sEnt xs) n.toNat s4 = (es, s5) ∧ sOne xs s5 = (m, s6) ∧ repS (sDel xs) m.toNat s6 = (ds, s7) ∧ sPage xs s = (⟨lo, hi, r - 1, es, ds⟩, s7) := by
  obtain ⟨⟨lo, s1⟩, h1⟩ : ∃ x, sLine xs s = x := ⟨_, rfl⟩
  obtain ⟨⟨hi, s2⟩, h2⟩ : ∃ x, sLine xs s1 = x := ⟨_, rfl⟩
  obtain ⟨⟨r, s3⟩, h3⟩ : ∃ x, sTwo xs s2 = x := ⟨_, rfl⟩
  obtain ⟨⟨n, s4⟩, h4⟩ : ∃ x, sOne xs s3 = x := ⟨_, rfl⟩
  obtain ⟨⟨es, s5⟩, h5⟩ : ∃ x, repS (sEnt xs) n.toNat s4 = x := ⟨_, rfl⟩
  obtain ⟨⟨m, s6⟩, h6⟩ : ∃ x, sOne xs s5 = x := ⟨_, rfl⟩
  obtain ⟨⟨ds, s7⟩, h7⟩ : ∃ x, repS (sDel xs) m.toNat s6 = x := ⟨_, rfl⟩
  exact ⟨lo, hi, r, n, es, m, ds, s1, s2, s3, s4, s5, s6, s7, h1, h2, h3, h4, h5, h6, h7, by simp only [sPage, bd, h1, h2, h3, h4, h5, h6, h7]⟩
/-- A page that is being read: the result's block, the page's, the lists that are hers, the reader. -/
structure PsSt (w wr : World) (pb : Nat) (a : Option Addr) (n c : Nat) (xs : List Int) (lo hi : ByteArray) (r : Int) (vb vc : Value) (es : List EntD) (ds : List DelD) (s : Ss) : Prop where
  k1 : wr.heap[w.heap.size]? = some (.cells #[.string ⟨#[]⟩, .string ⟨#[]⟩, .int .i64 0, .slice none 0 0, .slice none 0 0] 26 (0, 0))
  k2 : wr.heap[pb]? = some (.cells #[.string lo, .string hi, .int .i64 r, vb, vc] 26 (0, 0))
  oe : EOwns wr (pb + 1) vb es
  od : DOwns wr (pb + 1) vc ds
  rd : SdAt wr (w.heap.size + 1) (w.heap.size + 2) a n c xs s
  bel : Below w.heap.size w wr
  lt : w.heap.size + 2 ≤ pb
theorem PsSt.read {w wr w1 : World} {pb : Nat} {a : Option Addr} {n c : Nat} {xs : List Int} {lo hi : ByteArray} {r : Int} {vb vc : Value} {es : List EntD} {ds : List DelD} {s s' : Ss} (h : PsSt w wr pb a n c xs lo hi r vb vc es ds s) (hr : SdAt w1 (w.heap.size + 1) (w.heap.size + 2) a n c xs s') (hw : Wr (fun i => i = w.heap.size + 1) wr w1) : PsSt w w1 pb a n c xs lo hi r vb vc es ds s' :=
  have hl := h.lt
  ⟨loc_wr h.k1 hw (by omega), loc_wr h.k2 hw (by omega), owns_wr h.oe hw (fun i hi e => by have := (h.oe.lt i hi).1; omega), owns_wr h.od hw (fun i hi e => by have := (h.od.lt i hi).1; omega), hr, h.bel.trans (hw.below (fun i hi => by omega) h.bel.size), hl⟩
theorem PsSt.below {w wr w1 : World} {pb : Nat} {a : Option Addr} {n c : Nat} {xs : List Int} {lo hi : ByteArray} {r : Int} {vb vc : Value} {es : List EntD} {ds : List DelD} {s : Ss} (h : PsSt w wr pb a n c xs lo hi r vb vc es ds s) (hb : Below wr.heap.size wr w1) : PsSt w w1 pb a n c xs lo hi r vb vc es ds s :=
  h.read (h.rd.below hb) (Wr.of_below hb)
theorem PsSt.pushE {w wr w3 : World} {pb : Nat} {a : Option Addr} {n c : Nat} {xs : List Int} {lo hi : ByteArray} {r : Int} {vb vc v' : Value} {es es' : List EntD} {ds : List DelD} {s : Ss} (h : PsSt w wr pb a n c xs lo hi r vb vc es ds s) (hg : wr.grownBy w3 vb.ownBlock) (ho : EOwns w3 (pb + 1) v' es') : PsSt w (w3.setCell ⟨pb, 3, none⟩ v') pb a n c xs lo hi r v' vc es' ds s := by
  have hl := h.lt
  have hP : ∀ i, vb.ownBlock = some i → pb + 1 ≤ i := fun i hi => (h.oe.lt i hi).1
  have hw : Wr (fun i => vb.ownBlock = some i) wr w3 := Wr.of_grown hg (fun i h => h)
  have hc := wr_cell w3 pb 3 v'
  have k1 := loc_wr (loc_wr h.k1 hw (fun e => by have := hP _ e; omega)) hc (by omega)
  have k2 : (w3.setCell ⟨pb, 3, none⟩ v').heap[pb]? = _ := heap_set (loc_wr h.k2 hw (fun e => by have := hP _ e; omega)) 3 v'
  have bl := h.bel.trans (hw.below (B := w.heap.size) (fun i hi => by have := hP _ hi; omega) h.bel.size)
  exact ⟨k1, by simpa using k2, owns_wr ho hc (fun i hi e => by have := (ho.lt i hi).1; omega), owns_wr (owns_wr h.od hw (fun i hi e => own_apart' h.oe h.od i e hi)) hc (fun i hi e => by have := (h.od.lt i hi).1; omega), (h.rd.wr hw (fun i hi => by have := hP _ hi; omega)).wr hc (fun i hi => by omega), bl.trans (hc.below (fun i hi => by omega) bl.size), hl⟩
theorem PsSt.pushD {w wr w3 : World} {pb : Nat} {a : Option Addr} {n c : Nat} {xs : List Int} {lo hi : ByteArray} {r : Int} {vb vc v' : Value} {es : List EntD} {ds ds' : List DelD} {s : Ss} (h : PsSt w wr pb a n c xs lo hi r vb vc es ds s) (hg : wr.grownBy w3 vc.ownBlock) (ho : DOwns w3 (pb + 1) v' ds') : PsSt w (w3.setCell ⟨pb, 4, none⟩ v') pb a n c xs lo hi r vb v' es ds' s := by
  have hl := h.lt
  have hP : ∀ i, vc.ownBlock = some i → pb + 1 ≤ i := fun i hi => (h.od.lt i hi).1
  have hw : Wr (fun i => vc.ownBlock = some i) wr w3 := Wr.of_grown hg (fun i h => h)
  have hc := wr_cell w3 pb 4 v'
  have k1 := loc_wr (loc_wr h.k1 hw (fun e => by have := hP _ e; omega)) hc (by omega)
  have k2 : (w3.setCell ⟨pb, 4, none⟩ v').heap[pb]? = _ := heap_set (loc_wr h.k2 hw (fun e => by have := hP _ e; omega)) 4 v'
  have bl := h.bel.trans (hw.below (B := w.heap.size) (fun i hi => by have := hP _ hi; omega) h.bel.size)
  exact ⟨k1, by simpa using k2, owns_wr (owns_wr h.oe hw (fun i hi e => own_apart' h.oe h.od i hi e)) hc (fun i hi e => by have := (h.oe.lt i hi).1; omega), owns_wr ho hc (fun i hi e => by have := (ho.lt i hi).1; omega), (h.rd.wr hw (fun i hi => by have := hP _ hi; omega)).wr hc (fun i hi => by omega), bl.trans (hc.below (fun i hi => by omega) bl.size), hl⟩
theorem PsSt.at2 {w wr : World} {pb : Nat} {a : Option Addr} {n c : Nat} {xs : List Int} {lo hi : ByteArray} {r : Int} {vb vc : Value} {es : List EntD} {ds : List DelD} {s : Ss} (h : PsSt w wr pb a n c xs lo hi r vb vc es ds s) : wr.cell? ⟨pb, 0, none⟩ = some (.string lo) ∧ wr.cell? ⟨pb, 1, none⟩ = some (.string hi) ∧ wr.cell? ⟨pb, 2, none⟩ = some (.int .i64 r) ∧ wr.cell? ⟨pb, 3, none⟩ = some vb ∧ wr.cell? ⟨pb, 4, none⟩ = some vc := five_at h.k2
end Go.Proofs.Ytkggpapmhopaeab
