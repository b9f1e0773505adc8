/-
  Lists of Page: plain data, and the walks of sz.., to.., eq.. .
-/
import Derived.Test.YtbhkmmdcdfjbkaaGdA
import Derived.Test.YtbhkmmdcdfjbkaaPpC
import Derived.Test.YtbhkmmdcdfjbkaaSlT
import Derived.Deep.RegionWith
import Derived.Deep.Cut
namespace Go.Proofs.Ytbhkmmdcdfjbkaa
open Go.RowKit
/-- A record and where its rows lie. -/
structure PpH where
  X : PageD
  s0 : Sl
  s1 : Sl
def ppEl (h : PpH) : El := ⟨[.string h.X.lo, .string h.X.hi, .int .i64 h.X.r, .slice h.s0.a h.s0.n h.s0.c, .slice h.s1.a h.s1.n h.s1.c], [⟨37, 2, h.X.es.length, .slice h.s0.a h.s0.n h.s0.c, ecs h.X.es⟩, ⟨86, 4, h.X.ds.length, .slice h.s1.a h.s1.n h.s1.c, dcs h.X.ds⟩]⟩
abbrev PpIn (w : World) (v : Value) (n : Nat) (hs : List PpH) : Prop := NIn w 5 v n (hs.map ppEl)
theorem ppEl_at {hs : List PpH} {k : Nat} (hk : k < hs.length) : (hs.map ppEl)[k]? = some (ppEl hs[k]) := by rw [List.getElem?_map, List.getElem?_eq_getElem hk]; rfl
theorem PpIn.sub {w : World} {v : Value} {n : Nat} {hs : List PpH} (h : PpIn w v n hs) {k : Nat} (hk : k < hs.length) : RowC w (.slice hs[k].s0.a hs[k].s0.n hs[k].s0.c) hs[k].X.es.length (ecs hs[k].X.es) ∧ RowC w (.slice hs[k].s1.a hs[k].s1.n hs[k].s1.c) hs[k].X.ds.length (dcs hs[k].X.ds) := by
  have d := h.dat (ppEl hs[k]) (List.mem_map_of_mem (List.getElem_mem hk))
  exact ⟨d _ (List.Mem.head _), d _ (List.Mem.tail _ (List.Mem.head _))⟩
theorem PpIn.cells {w : World} {a : Option Addr} {n c : Nat} {hs : List PpH} (h : PpIn w (.slice a n c) n hs) {k : Nat} (hk : k < hs.length) : ∃ b off, a = some ⟨b, off, none⟩ ∧ b < w.heap.size ∧ w.cell? ⟨b, off + k * 5, none⟩ = some (.string hs[k].X.lo) ∧ w.cell? ⟨b, off + k * 5 + 1, none⟩ = some (.string hs[k].X.hi) ∧ w.cell? ⟨b, off + k * 5 + 2, none⟩ = some (.int .i64 hs[k].X.r) ∧ w.cell? ⟨b, off + k * 5 + 3, none⟩ = some (.slice hs[k].s0.a hs[k].s0.n hs[k].s0.c) ∧ w.cell? ⟨b, off + k * 5 + 4, none⟩ = some (.slice hs[k].s1.a hs[k].s1.n hs[k].s1.c) := by
  obtain ⟨b, off, e, hb, q⟩ := h.cell (ppEl_at hk) (by decide)
  exact ⟨b, off, e, hb, q 0 _ rfl, by rw [Nat.add_assoc]; exact q 1 _ rfl, by rw [Nat.add_assoc]; exact q 2 _ rfl, by rw [Nat.add_assoc]; exact q 3 _ rfl, by rw [Nat.add_assoc]; exact q 4 _ rfl⟩
theorem Try.infoPp : (Try.prog.info? 51).map (fun i => (i.zero, i.size, i.bytes)) = some (some (.agg #[.string ByteArray.empty, .string ByteArray.empty, .int .i64 0, .slice none 0 0, .slice none 0 0]), 5, 88) := by kernel_rfl
end Go.Proofs.Ytbhkmmdcdfjbkaa
