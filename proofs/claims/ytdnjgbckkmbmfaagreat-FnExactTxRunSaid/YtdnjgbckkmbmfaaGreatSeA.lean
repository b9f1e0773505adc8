/-
  Lists of Session: plain data, and the walks of sz.., to.., eq.. .
-/
import Derived.Test.YtdnjgbckkmbmfaaGreatGdA
import Derived.Test.YtdnjgbckkmbmfaaGreatVnC
import Derived.Test.YtdnjgbckkmbmfaaGreatSsA
import Derived.Deep.RegionWith
import Derived.Deep.Cut
namespace Go.Proofs.YtdnjgbckkmbmfaaGreat
open Go.RowKit

structure SeH where
  X : SesD
  s0 : Sl
def seEl (h : SeH) : El := ⟨[.bool h.X.o, .int .i64 h.X.t, .slice h.s0.a h.s0.n h.s0.c], [⟨43, 4, h.X.ws.length, .slice h.s0.a h.s0.n h.s0.c, vcs h.X.ws⟩]⟩
abbrev SeOwn (w : World) (B : Nat) (v : Value) (hs : List SeH) : Prop := NOwn w B 55 3 v hs.length (hs.map seEl)
abbrev SeIn (w : World) (v : Value) (n : Nat) (hs : List SeH) : Prop := NIn w 3 v n (hs.map seEl)
theorem seEl_at {hs : List SeH} {k : Nat} (hk : k < hs.length) : (hs.map seEl)[k]? = some (seEl hs[k]) := by rw [List.getElem?_map, List.getElem?_eq_getElem hk]; rfl
theorem seEl_wid (hs : List SeH) : ∀ e ∈ hs.map seEl, e.hd.length = 3 := by intro e he; obtain ⟨h, _, rfl⟩ := List.mem_map.1 he; rfl
theorem SeIn.sub {w : World} {v : Value} {n : Nat} {hs : List SeH} (h : SeIn w v n hs) {k : Nat} (hk : k < hs.length) : RowC w (.slice hs[k].s0.a hs[k].s0.n hs[k].s0.c) hs[k].X.ws.length (vcs hs[k].X.ws) := by
  have d := h.dat (seEl hs[k]) (List.mem_map_of_mem (List.getElem_mem hk))
  exact d _ (List.Mem.head _)
theorem SeIn.cells {w : World} {a : Option Addr} {n c : Nat} {hs : List SeH} (h : SeIn w (.slice a n c) n hs) {k : Nat} (hk : k < hs.length) : ∃ b off, a = some ⟨b, off, none⟩ ∧ b < w.heap.size ∧ w.cell? ⟨b, off + k * 3, none⟩ = some (.bool hs[k].X.o) ∧ w.cell? ⟨b, off + k * 3 + 1, none⟩ = some (.int .i64 hs[k].X.t) ∧ w.cell? ⟨b, off + k * 3 + 2, none⟩ = some (.slice hs[k].s0.a hs[k].s0.n hs[k].s0.c) := by
  obtain ⟨b, off, e, hb, q⟩ := h.cell (seEl_at hk) (by decide)
  exact ⟨b, off, e, hb, q 0 _ rfl, by rw [Nat.add_assoc]; exact q 1 _ rfl, by rw [Nat.add_assoc]; exact q 2 _ rfl⟩
theorem Tryz.infoSe : (Tryz.prog.info? 55).map (fun i => (i.zero, i.size, i.bytes)) = some (some (.agg #[.bool false, .int .i64 0, .slice none 0 0]), 3, 40) := by kernel_rfl
end Go.Proofs.YtdnjgbckkmbmfaaGreat
