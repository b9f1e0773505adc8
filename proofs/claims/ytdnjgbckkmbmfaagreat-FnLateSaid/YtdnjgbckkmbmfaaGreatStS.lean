/-
  Rows of texts that the call owns: the library's sort and compact.
-/
import Derived.Test.YtdnjgbckkmbmfaaGreatVeK
import Derived.Test.YtdnjgbckkmbmfaaGreatKdA
import Derived.Shelf.Slices.CompactS
import Derived.Shelf.SortM.Plain
import Derived.Sort.OwnSorted
namespace Go.Proofs.YtdnjgbckkmbmfaaGreat
open Go.RowKit Go.Lib Go.Sort Go.Shelf

def bK (ks : List ByteArray) : List (List UInt8) := ks.map fun k => k.data.toList
def kB (bs : List (List UInt8)) : List ByteArray := bs.map fun b => ⟨b.toArray⟩
theorem bK_len (ks : List ByteArray) : (bK ks).length = ks.length := List.length_map _
theorem kB_len (bs : List (List UInt8)) : (kB bs).length = bs.length := List.length_map _
theorem kB_bK (ks : List ByteArray) : kB (bK ks) = ks := by
 unfold kB bK
 rw [List.map_map]
 exact (List.map_congr_left fun k _ => rfl).trans (List.map_id _)
theorem bK_kB (bs : List (List UInt8)) : bK (kB bs) = bs := by
 unfold kB bK
 rw [List.map_map]
 exact (List.map_congr_left fun k _ => by simp).trans (List.map_id _)
theorem kB_enc (bs : List (List UInt8)) : bs.map encStr = (kB bs).map Value.string := by
 unfold kB
 rw [List.map_map]
 exact List.map_congr_left fun k _ => rfl
theorem bK_enc (ks : List ByteArray) : (bK ks).map encStr = ks.map Value.string := by rw [kB_enc, kB_bK]
def srtK (ks : List ByteArray) : List ByteArray := kB ((bK ks).mergeSort fun x y => decide (x ≤ y))
theorem srtK_len (ks : List ByteArray) : (srtK ks).length = ks.length := by unfold srtK; rw [kB_len, List.length_mergeSort, bK_len]
def cmpK (ks : List ByteArray) : List ByteArray := kB (compactUpTo (bK ks).toArray (bK ks).length)
theorem str_take {ks : List ByteArray} {cur : Array Value} (h4 : cur.toList.take (ks.length * 1) = ks.map Value.string) : cur.toList.take (bK ks).length = (bK ks).map encStr := by
 rw [bK_len, bK_enc, ← h4, Nat.mul_one]
theorem sortS_any (B : Nat) (v : Value) (ks : List ByteArray) (w : World) (hO : StrOwns w B v ks) (hn : ks.length ≤ 100000) :
  Calls Tryz.prog 126 #[v] w fun e w' => e = .returned (.tuple #[]) ∧ StrOwns w' B v (srtK ks) ∧ w.grownBy w' v.ownBlock := by
 rcases hO.2 with ⟨e, h0⟩ | ⟨g, cap, cur, e, hb, hh, h1, h2, h3, h4⟩
 ·subst e
  obtain rfl : ks = [] := List.eq_nil_of_length_eq_zero h0
  refine (AnyM.slices_Sort_string_none Tryz.sort126 none 0 w).mono ?_
  rintro e w' ⟨rfl, rfl⟩
  have e : srtK [] = [] := List.eq_nil_of_length_eq_zero (srtK_len [])
  exact ⟨rfl, by rw [e]; exact World.ownsRow_nil _ _ _ _, rb_grownBy_below (Below.refl _ _)⟩
 ·subst e
  have C := AnyM.slices_Sort_string Tryz.sort126 g 0 cap (bK ks) w (holds_of_block hh (str_take h4)) (blk_lt hh) (by rw [bK_len]; omega)
  rw [bK_len] at C
  refine C.mono ?_
  rintro e w' ⟨rfl, n, os, rfl⟩
  refine ⟨rfl, ?_, grownBy_sorted _⟩
  have h := ownsRow_sorted (w := w) (n := n) (os := os) (ts := (bK ks).mergeSort fun x y => decide (x ≤ y)) (ss := bK ks) (List.length_mergeSort _) hb hh (by rw [bK_len]; exact h1) h2 h3
  rw [kB_enc, bK_len] at h
  unfold StrOwns
  rw [srtK_len]
  exact h
def Tryz.cmpR : Go.Shelf.Ren := ⟨fun | 194 => 128 | n => n, fun | 31 => 136 | 9 => 9 | 3 => 3 | 4 => 4 | 0 => 0 | n => n, fun | n => n⟩
theorem Tryz.cmpL : Lays.n194 Tryz.prog Tryz.cmpR := {
 mixed := by kernel_rfl
 f194 := Tryz.func128.trans (congrArg some (by kernel_rfl))
 t0 := Tryz.underlying0
 a0 := Tryz.isAgg0
 z0 := Tryz.sizeOf0
 v0 := Tryz.zeroValue0
 t3 := Tryz.underlying3
 a3 := Tryz.isAgg3
 z3 := Tryz.sizeOf3
 v3 := Tryz.zeroValue3
 t4 := Tryz.underlying4
 a4 := Tryz.isAgg4
 z4 := Tryz.sizeOf4
 v4 := Tryz.zeroValue4
 t9 := Tryz.underlying9
 a9 := Tryz.isAgg9
 z9 := Tryz.sizeOf9
 v9 := Tryz.zeroValue9
 t31 := Tryz.underlying136
 a31 := Tryz.isAgg136
 z31 := Tryz.sizeOf136
 v31 := Tryz.zeroValue136 }
theorem compactS_any (B : Nat) (v : Value) (ks : List ByteArray) (w : World) (hO : StrOwns w B v ks) (hn : ks.length ≤ 100000) :
  Calls Tryz.prog 128 #[v] w fun e w' => ∃ v', e = .returned v' ∧ StrOwns w' B v' (cmpK ks) ∧ w.grownBy w' v.ownBlock := by
 rcases hO.2 with ⟨e, h0⟩ | ⟨g, cap, cur, e, hb, hh, h1, h2, h3, h4⟩
 ·subst e
  obtain rfl : ks = [] := List.eq_nil_of_length_eq_zero h0
  refine (Any.slices_Compact_string_empty Tryz.cmpL none 0 w).mono ?_
  rintro e w' ⟨rfl, rfl⟩
  exact ⟨_, rfl, World.ownsRow_nil _ _ _ _, rb_grownBy_below (Below.refl _ _)⟩
 ·subst e
  have C := Any.slices_Compact_string_arr Tryz.cmpL g 0 cap (bK ks).toArray w (holds_of_block hh (str_take h4)) (by simp [bK_len]; omega) (by simpa [bK_len] using h1)
  rw [List.size_toArray] at C
  have hle : (compactUpTo (bK ks).toArray (bK ks).length).length ≤ (bK ks).length := by
   unfold compactUpTo
   rw [List.length_map]
   exact Nat.le_trans (List.length_filter_le _ _) (by rw [List.length_range]; exact Nat.le_refl _)
  obtain ⟨cs, hcs⟩ : ∃ cs, cs = compactUpTo (bK ks).toArray (bK ks).length := ⟨_, rfl⟩
  rw [← hcs] at C hle
  rw [bK_len] at C hle
  refine C.mono ?_
  rintro e w' ⟨rfl, q, rfl⟩
  have hl : (cs ++ List.replicate (ks.length - cs.length) ([] : List UInt8)).length = ks.length := by simp; omega
  have hg : ∀ d, putRow encStr (Sort.ahead w q) g 0 d = grow (putRow encStr (Sort.ahead w q) g 0 d) #[] := fun d => by rw [grow_empty]
  refine ⟨_, rfl, ?_, ?_⟩
  ·rw [hg]
   unfold StrOwns cmpK
   rw [← hcs, kB_len]
   refine ⟨by rw [List.length_map, kB_len]; omega, .inr ⟨g, cap, _, rfl, hb, heap_sorted _ hh, by omega, h2, by simp [putCells, h3], ?_⟩⟩
   have ht := take_putCells cur (cs ++ List.replicate (ks.length - cs.length) ([] : List UInt8)) (by rw [hl]; omega)
   have h5 := congrArg (List.take cs.length) ht
   rw [List.take_take, hl, Nat.min_eq_left hle, List.map_append, List.take_append_of_le_length (by simp), show List.take cs.length (List.map encStr cs) = List.map encStr cs from List.take_of_length_le (by simp), kB_enc] at h5
   rw [Nat.mul_one]
   exact h5
  ·rw [hg]
   exact grownBy_sorted _
end Go.Proofs.YtdnjgbckkmbmfaaGreat
