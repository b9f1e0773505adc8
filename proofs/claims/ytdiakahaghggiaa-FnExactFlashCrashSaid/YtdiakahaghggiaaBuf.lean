/-
  A block of bytes that is known whole, and what is copied into it.
-/
import Derived.Test.YtdiakahaghggiaaOwn
import Derived.Test.YtdiakahaghggiaaSec
import Derived.Laws.CopyRow
import Derived.Deep.MidRow
namespace Go.Proofs.Ytdiakahaghggiaa
open Go.RowKit

/-- A block of bytes, whole. -/
def Buf (w : World) (g : Nat) (xs : List Int) : Prop := w.heap[g]? = some (.cells (xs.map (Value.int .u8)).toArray 5 (0, 0))
theorem Buf.lt {w : World} {g : Nat} {xs : List Int} (h : Buf w g xs) : g < w.heap.size := (Array.getElem?_eq_some_iff.1 h).1
theorem Buf.cell {w : World} {g : Nat} {xs : List Int} (h : Buf w g xs) {j : Nat} (hj : j < xs.length) : w.cell? ⟨g, j, none⟩ = some (.int .u8 (xs.getD j 0)) := by
  unfold Buf at h
  simp [World.cell?, h, List.getD, hj]
theorem Buf.block {w w' : World} {g : Nat} {xs : List Int} (h : Buf w g xs) (hb : w'.heap[g]? = w.heap[g]?) : Buf w' g xs := hb.trans h
theorem buf_made {w : World} {base g n : Nat} (h : w.ownsRow base 5 1 (.slice (some ⟨g, 0, none⟩) n n) n (List.replicate n (.int .u8 0))) : Buf w g (List.replicate n 0) := by
  obtain ⟨_, h⟩ := h
  rcases h with ⟨h, _⟩ | ⟨g', cap, cur, e, _, hh, _, _, hs, ht⟩
  · cases h
  · injection e with e1 _ e3
    injection e1 with e1
    injection e1 with e1
    subst e1 e3
    unfold Buf
    rw [hh]
    congr 1
    have : cur = (cur.toList.take (n * 1)).toArray := by
      rw [List.take_of_length_le (by simp; omega)]
    rw [this, ht]; simp
theorem Buf.mine {w : World} {g B : Nat} {xs : List Int} (h : Buf w g xs) (hB : B ≤ g) (hm : xs.length ≤ maxLen) : Mine w B (.slice (some ⟨g, 0, none⟩) xs.length xs.length) xs := by
  refine ⟨_, _, rfl, Nat.le_refl _, hm, ⟨rfl, fun i hi => ⟨g, 0, rfl, by rw [Nat.zero_add]; exact h.cell hi⟩⟩, fun x hx => ?_⟩
  cases hx
  exact ⟨hB, h.lt, fun j => by unfold Buf at h; simp [World.frozen?, h]⟩
theorem u8_info : (Try.prog.info? 5).map (·.size) = some 1 := by kernel_rfl
/-- A row of n bytes is copied into a block of bytes. -/
theorem Buf.copy {w : World} {g o b so : Nat} {xs s : List Int} (h : Buf w g xs) (hr : Row w (some ⟨b, so, none⟩) s.length s) (hfit : o + s.length ≤ xs.length) (dl dc sl sc : Nat) (hmin : Nat.min sl dl = s.length) :
    ∃ w', (Builtin.copy_ #[22, 22] 3 #[.slice (some ⟨g, o, none⟩) dl dc, .slice (some ⟨b, so, none⟩) sl sc]).run Try.prog w = .ok (.int .i64 (s.length : Int)) w' ∧ Buf w' g (putB xs o s) ∧ Only g w w' := by
  have hc := run_copy_row (P := Try.prog) w 22 22 3 5 g o dl dc ⟨b, so, none⟩ sl sc _ 5 (s.map (Value.int .u8)) Try.underlying22 u8_info h (by simp [hmin]) (fun j v hv => by
      have hj : j < s.length := by simpa using (List.getElem?_eq_some_iff.1 hv).1
      obtain ⟨b', off', e, hcell⟩ := hr.2 j hj
      injection e with e
      injection e with e1 e2
      subst e1 e2
      rw [Addr.add_mid, hcell, ← hv]
      simp [List.getD, hj]) (by simpa using hfit) (all_u8 s)
  have hgo : goInt (((s.map (Value.int .u8)).length : Nat) : Int) = .int .i64 (s.length : Int) := by simp [goInt]
  rw [hgo] at hc
  refine ⟨_, hc, ?_, ?_⟩
  · unfold Buf
    have e : ((xs.map (Value.int .u8)).toArray.toList.take o ++ s.map (Value.int .u8) ++ (xs.map (Value.int .u8)).toArray.toList.drop (o + (s.map (Value.int .u8)).length)).toArray = ((putB xs o s).map (Value.int .u8)).toArray := by
      unfold putB
      simp
    rw [← e]
    exact setRow_heap _ _ _ _ _ _ h
  · refine ⟨rfl, rfl, rfl, by simp [World.setRow], fun k hk => ?_, fun a => ?_⟩
    · simp [World.setRow, Array.getElem?_modify, Ne.symm hk]
    · unfold Buf at h
      by_cases e : a.block = g
      · have h2 := setRow_heap w g _ ((((xs.map (Value.int .u8)).toArray.toList.take o ++ s.map (Value.int .u8) ++ (xs.map (Value.int .u8)).toArray.toList.drop (o + (s.map (Value.int .u8)).length)).toArray)) 5 (0, 0) h
        simp only [World.frozen?, e, h, h2]
      · have h2 : ∀ c', (w.setRow g c').heap[a.block]? = w.heap[a.block]? := fun c' => by simp [World.setRow, Array.getElem?_modify, Ne.symm e]
        simp only [World.frozen?, h2]
end Go.Proofs.Ytdiakahaghggiaa
