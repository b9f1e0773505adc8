/-
  The entries at a time: plain data; an entry appended.
-/
import Derived.Test.YtdnjgbckkmbmfaaGreatVaS
import Derived.Test.YtdnjgbckkmbmfaaGreatKyC
namespace Go.Proofs.YtdnjgbckkmbmfaaGreat
open Go.RowKit

theorem infoKv : (Tryz.prog.info? 48).map (fun i => (i.zero, i.size, i.bytes)) = some (some (.agg #[.string ByteArray.empty, .string ByteArray.empty]), 2, 32) := by kernel_rfl
theorem ky_appN {w : World} {B : Nat} {v : Value} {ds : List KvD} {d : KvD} (ho : KOwns w B v ds) (hz : ds.length ≤ 1000000) (hB : B ≤ w.heap.size) :
  ∃ v' w', (Builtin.append_ #[38, 38] 38 #[v, .slice (some ⟨w.heap.size, 0, none⟩) 1 1]).run Tryz.prog (w.alloc (.cells #[.string d.k, .string d.v] 48)) = .ok v' w' ∧ KOwns w' B v' (ds ++ [d]) ∧ (w.alloc (.cells #[.string d.k, .string d.v] 48)).grownBy w' v.ownBlock ∧ v' ≠ .slice none 0 0 := by
 obtain ⟨i0, hi0, hz0, hz1, hz2⟩ := info_parts infoKv
 have hcells : ∀ j u, (kcs [d])[j]? = some u → (w.alloc (.cells #[.string d.k, .string d.v] 48)).cell? ((⟨w.heap.size, 0, none⟩ : Addr).add j) = some u := fun j u hu => by
  have hj : j < 2 := by simpa [kcs] using (List.getElem?_eq_some_iff.1 hu).1
  have e2 : (⟨w.heap.size, 0, none⟩ : Addr).add j = ⟨w.heap.size, j, none⟩ := by unfold Addr.add; split <;> simp_all
  rw [e2]
  refine rb_cell_new rfl ?_
  match j, hj with
  | 0, _ => simpa [kcs] using hu
  | 1, _ => simpa [kcs] using hu
 have hoa := World.ownsRow.alloc ho (.cells #[.string d.k, .string d.v] 48)
 obtain ⟨v', w', hr, ho', hg, hnil⟩ := run_append_own (P := Tryz.prog) (w.alloc (.cells #[.string d.k, .string d.v] 48)) B 38 38 48 i0 _ 2 32 Tryz.underlying38 hi0 hz0 hz1 hz2 rfl (by decide) v _ _ hoa ⟨w.heap.size, 0, none⟩ 1 1 (kcs [d]) (by simp [kcs]) hcells (kcs_one _) (by unfold maxLen; omega) (by omega) (by simp; omega)
 exact ⟨v', w', hr, by unfold KOwns; rw [List.length_append, kcs_append]; exact ho', hg, fun e => by have h1 := hnil.1 e; omega⟩
def kvOf : Option VerD → List KvD
 | some x => [⟨x.k, x.v⟩]
 | none => []
theorem ky_app {w : World} {B : Nat} {v : Value} {ds : List KvD} {d : KvD} (ho : KOwns w B v ds) (hz : ds.length ≤ 1000000) (hB : B ≤ w.heap.size) :
  ∃ v' w', (Builtin.append_ #[38, 38] 38 #[v, .slice (some ⟨w.heap.size, 0, none⟩) 1 1]).run Tryz.prog (w.alloc (.cells #[.string d.k, .string d.v] 48)) = .ok v' w' ∧ KOwns w' B v' (ds ++ [d]) ∧ (w.alloc (.cells #[.string d.k, .string d.v] 48)).grownBy w' v.ownBlock := by
 obtain ⟨v', w', h1, h2, h3, _⟩ := ky_appN (d := d) ho hz hB
 exact ⟨v', w', h1, h2, h3⟩
def KNn (w : World) (B : Nat) (v : Value) (ds : List KvD) : Prop := KOwns w B v ds ∧ v ≠ .slice none 0 0
def entOne (ds : List VerD) (t : Int) (i : Nat) (hi : i < ds.length) : List KvD := if 0 < i ∧ (ds[i - 1]'(by omega)).k = ds[i].k then [] else kvOf (verAt ds ds[i].k t)
def entsTo (ds : List VerD) (t : Int) : Nat → List KvD
 | 0 => []
 | j + 1 => entsTo ds t j ++ (if hi : j < ds.length then entOne ds t j hi else [])
def entsAt (ds : List VerD) (t : Int) : List KvD := entsTo ds t ds.length
theorem kvOf_len (x : Option VerD) : (kvOf x).length ≤ 1 := by cases x <;> simp [kvOf]
theorem entsTo_len (ds : List VerD) (t : Int) : ∀ j, (entsTo ds t j).length ≤ j
 | 0 => by simp [entsTo]
 | j + 1 => by
  have := entsTo_len ds t j
  simp only [entsTo, List.length_append]
  split
  ·rename_i hi
   have h1 : (entOne ds t j hi).length ≤ 1 := by
    unfold entOne
    split
    ·simp
    ·exact kvOf_len _
   omega
  ·simp; omega
theorem ents_step {ds : List VerD} {t : Int} {j : Nat} (hj : j < ds.length) : entsTo ds t (j + 1) = entsTo ds t j ++ entOne ds t j hj := by
 simp only [entsTo, dif_pos hj]
theorem ents_again {ds : List VerD} {t : Int} {j : Nat} (hj : j < ds.length) (h0 : 0 < j) (h : (ds[j - 1]'(by omega)).k = ds[j].k) : entsTo ds t (j + 1) = entsTo ds t j := by
 rw [ents_step hj]
 unfold entOne
 rw [if_pos ⟨h0, h⟩, List.append_nil]
theorem ents_new {ds : List VerD} {t : Int} {j : Nat} (hj : j < ds.length) (h : ¬ (0 < j ∧ (ds[j - 1]'(by omega)).k = ds[j].k)) : entsTo ds t (j + 1) = entsTo ds t j ++ kvOf (verAt ds ds[j].k t) := by
 rw [ents_step hj]
 unfold entOne
 rw [if_neg h]
end Go.Proofs.YtdnjgbckkmbmfaaGreat
