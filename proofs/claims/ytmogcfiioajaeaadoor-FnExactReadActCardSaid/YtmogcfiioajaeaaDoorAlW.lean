/-
  The words of a line: impl.wordsOf, spec.l00Words.
-/
import Derived.Test.YtmogcfiioajaeaaDoorAlA
import Derived.Test.YtmogcfiioajaeaaDoorAlD
import Derived.Test.YtmogcfiioajaeaaDoorShL
namespace Go.Proofs.YtmogcfiioajaeaaDoor
open Go.RowKit

def kOf (l : List UInt8) : ByteArray := ⟨l.toArray⟩
theorem kOf_data (k : ByteArray) : kOf k.data.toList = k := by
  unfold kOf
  rw [Array.toArray_toList]
theorem fullT_kOf (l : List UInt8) : fullT (kOf l) = !l.isEmpty := by
  unfold fullT kOf
  rw [ByteArray.toList_eq]
/-- The words of a line, as texts. -/
def wordsB (s : ByteArray) : List ByteArray := (wordsL s.data.toList).map kOf
theorem kOf_map (L : List ByteArray) : (L.map fun k => k.data.toList).map kOf = L := by
  rw [List.map_map]
  conv => rhs; rw [← List.map_id L]
  exact List.map_congr_left fun k _ => kOf_data k
theorem split_words (s : ByteArray) : (Lib.splitB ⟨#[32]⟩ 0 (Lib.countB s ⟨#[32]⟩) s).filter fullT = wordsB s := by
  have h1 := Lib.splitB_data ⟨#[32]⟩ 0 (Lib.countB s ⟨#[32]⟩) s
  have h2 : Lib.splitK [32] 0 (Lib.countB s ⟨#[32]⟩) s.data.toList = cutL s.data.toList := split_cut _ _ (Nat.le_refl _)
  have h3 : Lib.splitB ⟨#[32]⟩ 0 (Lib.countB s ⟨#[32]⟩) s = (cutL s.data.toList).map kOf := by
    rw [← h2, ← kOf_map (Lib.splitB ⟨#[32]⟩ 0 (Lib.countB s ⟨#[32]⟩) s), h1]
  unfold wordsB wordsL
  rw [h3, List.filter_map]
  congr 1
  exact List.filter_congr fun x _ => fullT_kOf x
theorem made_texts (w : World) (L : List ByteArray) (h : L.length ≤ 1000000) : StrOwns (w.alloc (.cells (L.map Value.string).toArray 9)) w.heap.size (.slice (some ⟨w.heap.size, 0, none⟩) L.length L.length) L := by
  refine ⟨by simp, .inr ⟨w.heap.size, L.length, (L.map Value.string).toArray, rfl, Nat.le_refl _, heap_alloc_new _ _, Nat.le_refl _, by unfold maxLen; omega, by simp, by simp; exact List.take_of_length_le (by simp)⟩⟩
theorem below_grownT {B : Nat} {w wr w1 : World} {n : Nat} {v : Value} {xs : List Value} (hb : Below B w wr) (hB : B ≤ wr.heap.size) (hown : wr.ownsRow B 9 1 v n xs) (hg : wr.grownBy w1 v.ownBlock) : Below B w w1 :=
  hb.grown hg hB (fun k hk => (hown.lt k hk).1)
/-- The library's variable that its search asks. -/
def GlobM (w : World) : Prop := ∃ m, w.cell? ⟨0, 0, none⟩ = some (.int .i64 m)
theorem GlobM.below {w w' : World} (h : GlobM w) (hb : Below w.heap.size w w') : GlobM w' := by
  obtain ⟨m, h⟩ := h
  exact ⟨m, (hb.cell (p := ⟨0, 0, none⟩) (cell_lt h)).trans h⟩
set_option maxRecDepth 100000 in
set_option maxHeartbeats 1000000 in
theorem wordsOf_any (s : ByteArray) (w : World) (hs : s.size ≤ 65536) (hM : GlobM w) :
    Calls Tryd.prog 12 #[.string s] w fun e w' => ∃ v, e = .returned v ∧ StrOwns w' w.heap.size v (wordsB s) ∧ Below w.heap.size w w' := by
  obtain ⟨m, hm⟩ := hM
  have hc := Lib.countB_le ⟨#[32]⟩ (by decide) s.size s (Nat.le_refl _)
  have hl := Lib.splitB_all ⟨#[32]⟩ (by decide) 0 _ s rfl
  have C := hide (Tryd.strings_Split s ⟨#[32]⟩ m w (by omega) hm (by decide))
  have O := made_texts w (Lib.splitB ⟨#[32]⟩ 0 (Lib.countB s ⟨#[32]⟩) s) (by omega)
  rw [hl] at O
  have bA : Below w.heap.size w (w.alloc (.cells ((Lib.splitB ⟨#[32]⟩ 0 (Lib.countB s ⟨#[32]⟩) s).map Value.string).toArray 9)) := (Below.refl _ _).alloc (Nat.le_refl _) _
  have D := hide (deleteT_any w.heap.size _ _ _ _ _ (by omega) O bA.size)
  have E := hide (split_words s)
  have BA := hide bA
  have O2 := hide O
  clear hm hc hl O bA hs
  go_enter Tryd.func12, Tryd.ntmps12
  go_wp2_with fail
  refine (unhide C).mono ?_
  rintro e w1 ⟨rfl, rfl⟩
  clear C
  go_wp2_with fail
  refine (unhide D).mono ?_
  rintro e w2 ⟨v, rfl, ho, hg⟩
  rw [unhide E] at ho
  have R := hide (And.intro ho (below_grownT (unhide BA) (unhide BA).size (unhide O2) hg))
  clear D E ho hg
  go_wp2_with fail
  go_ret
  exact ⟨v, rfl, (unhide R).1, (unhide R).2⟩
end Go.Proofs.YtmogcfiioajaeaaDoor
