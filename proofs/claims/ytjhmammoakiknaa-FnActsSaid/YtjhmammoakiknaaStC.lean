/-
  Bytes copied into a sector from a place on.
-/
import Derived.Test.YtjhmammoakiknaaBuf
import Derived.Test.YtjhmammoakiknaaDevA
namespace Go.Proofs.Ytjhmammoakiknaa
open Go.RowKit

theorem sec_copy_at {w : World} {g b so o k : Nat} {fs s : List Int} (h : w.heap[g]? = some (.cells (fs.map (Value.int .u8)).toArray 83 (0, 0))) (hr : Row w (some ⟨b, so, none⟩) s.length s) (ho : o ≤ fs.length) (hk : k = min (fs.length - o) s.length) (dc sc : Nat) :
    ∃ w', (Builtin.copy_ #[22, 22] 3 #[.slice (some ⟨g, o, none⟩) (fs.length - o) dc, .slice (some ⟨b, so, none⟩) s.length sc]).run Try.prog w = .ok (.int .i64 (k : Int)) w' ∧ w'.heap[g]? = some (.cells ((fs.take o ++ s.take k ++ fs.drop (o + k)).map (Value.int .u8)).toArray 83 (0, 0)) ∧ Only g w w' := by
  have hl : (s.take k).length = k := by simp; omega
  have hc := run_copy_row (P := Try.prog) w 22 22 3 5 g o (fs.length - o) dc ⟨b, so, none⟩ s.length sc _ 83 ((s.take k).map (Value.int .u8)) Try.underlying22 u8_info h (by rw [List.length_map, hl, hk]; exact Nat.min_comm _ _) (fun j v hv => by
      have hj : j < k := by have := (List.getElem?_eq_some_iff.1 hv).1; simp at this; omega
      obtain ⟨b', off', e, hcell⟩ := hr.2 j (by omega)
      injection e with e
      injection e with e1 e2
      subst e1 e2
      rw [Addr.add_mid, hcell, ← hv]
      simp [List.getD, hj, show j < s.length by omega]) (by simp; omega) (all_u8 _)
  have hgo : goInt ((((s.take k).map (Value.int .u8)).length : Nat) : Int) = .int .i64 (k : Int) := by rw [List.length_map, hl]; rfl
  rw [hgo] at hc
  have e : ((fs.map (Value.int .u8)).toArray.toList.take o ++ (s.take k).map (Value.int .u8) ++ (fs.map (Value.int .u8)).toArray.toList.drop (o + ((s.take k).map (Value.int .u8)).length)).toArray = ((fs.take o ++ s.take k ++ fs.drop (o + k)).map (Value.int .u8)).toArray := by
    rw [List.length_map, hl]
    simp [List.map_drop, List.map_take]
  rw [e] at hc
  refine ⟨_, hc, setRow_heap _ _ _ _ _ _ h, ?_⟩
  refine ⟨rfl, rfl, rfl, by simp [World.setRow], fun i hi => ?_, fun a => ?_⟩
  · simp [World.setRow, Array.getElem?_modify, Ne.symm hi]
  · by_cases e : a.block = g
    · have h2 := setRow_heap w g _ (((fs.take o ++ s.take k ++ fs.drop (o + k)).map (Value.int .u8)).toArray) 83 (0, 0) h
      simp only [World.frozen?, e, h, h2]
    · have h2 : ∀ c', (w.setRow g c').heap[a.block]? = w.heap[a.block]? := fun c' => by simp [World.setRow, Array.getElem?_modify, Ne.symm e]
      simp only [World.frozen?, h2]
end Go.Proofs.Ytjhmammoakiknaa
