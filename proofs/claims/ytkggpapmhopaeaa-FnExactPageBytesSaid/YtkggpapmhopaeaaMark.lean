/-
  The walk of markByteS: the marks are laid, and nothing else is written.
-/
import Derived.Test.YtkggpapmhopaeaaBytes
namespace Go.Proofs.Ytkggpapmhopaeaa
open Go.RowKit

def marks (k0 : Int) (n : Nat) : List Int := (List.range n).map fun (i : Nat) => (k0 + (i : Int)) % 256
theorem marks_length (k0 : Int) (n : Nat) : (marks k0 n).length = n := by simp [marks]
theorem marks_getD (k0 : Int) (n i : Nat) (h : i < n) : (marks k0 n).getD i 0 = (k0 + (i : Int)) % 256 := by
  simp [marks, List.getD, h]
theorem mark_step {b off n k : Nat} {k0 : Int} {w wr : World} {xs : List Int} (hk : k < n)
    (h1 : ∀ i, i < k → wr.cell? ⟨b, off + i, none⟩ = some (.int .u8 ((k0 + (i : Int)) % 256))) (h2 : ∀ i, k ≤ i → i < n → wr.cell? ⟨b, off + i, none⟩ = some (.int .u8 (xs.getD i 0))) (ho : Only b w wr) :
    (∀ i, i < k + 1 → (wr.setCell ⟨b, off + k, none⟩ (.int .u8 ((k0 + (k : Int)) % 256))).cell? ⟨b, off + i, none⟩ = some (.int .u8 ((k0 + (i : Int)) % 256))) ∧
    (∀ i, k + 1 ≤ i → i < n → (wr.setCell ⟨b, off + k, none⟩ (.int .u8 ((k0 + (k : Int)) % 256))).cell? ⟨b, off + i, none⟩ = some (.int .u8 (xs.getD i 0))) ∧
    Only b w (wr.setCell ⟨b, off + k, none⟩ (.int .u8 ((k0 + (k : Int)) % 256))) := by
  refine ⟨fun i hi => ?_, fun i hi hin => ?_, ho.trans (Only.setCell _ _ _ _)⟩
  · by_cases e : i = k
    · subst e
      exact World.cell?_setCell_same _ _ _ (h2 i (Nat.le_refl _) hk)
    · exact (World.cell?_setCell_other _ _ _ _ (by intro h; simp only [Addr.mk.injEq] at h; omega)).trans (h1 i (by omega))
  · exact (World.cell?_setCell_other _ _ _ _ (by intro h; simp only [Addr.mk.injEq] at h; omega)).trans (h2 i (by omega) hin)
set_option maxHeartbeats 400000 in
theorem markByteS_some (b off n c : Nat) (xs : List Int) (k0 : Int) (w : World) (hn : n ≤ 4611686018427387904) (hk : 0 ≤ k0) (hk2 : k0 ≤ 4000000000000000000)
    (h1 : ∀ i, i < n → w.cell? ⟨b, off + i, none⟩ = some (.int .u8 (xs.getD i 0))) (h2 : ∀ i, i < n → w.frozen? ⟨b, off + i, none⟩ = false) :
    Calls Try.prog 29 #[.slice (some ⟨b, off, none⟩) n c, .int .i64 k0] w fun e w' => e = .returned (.int .i64 (k0 + n)) ∧ Row w' (some ⟨b, off, none⟩) n (marks k0 n) ∧ Only b w w' := by
  have H1 := hide h1
  have H2 := hide h2
  clear h1 h2
  go_enter Try.func29, Try.ntmps29
  go_wp2_with fail
  go_loopw [1, 5] (fun q i wr => ∃ k : Nat, k ≤ n ∧ i = .int .i64 k ∧ q = .int .i64 (k0 + k) ∧ Hid (∀ i, i < k → wr.cell? ⟨b, off + i, none⟩ = some (.int .u8 ((k0 + (i : Int)) % 256))) ∧
    Hid (∀ i, k ≤ i → i < n → wr.cell? ⟨b, off + i, none⟩ = some (.int .u8 (xs.getD i 0))) ∧ Only b w wr) (fun _ i _ => n - (intOf i).toNat)
  case atStart => exact ⟨0, Nat.zero_le _, rfl, by simp, fun i hi => absurd hi (Nat.not_lt_zero _), fun i _ hi => unhide H1 i hi, Only.refl _ _⟩
  case round =>
    obtain ⟨k, hk, rfl, rfl, g1, g2, ho⟩ := hrel
    by_cases hlt : k < n
    · have e1 := unhide g2 k (Nat.le_refl _) hlt
      have e2 := (ho.frozen ⟨b, off + k, none⟩).trans (unhide H2 k hlt)
      have R := hide (mark_step hlt (unhide g1) (unhide g2) ho)
      clear g1 g2
      go_wp2_with fail
      go_roundw
      case rel => exact ⟨k + 1, by omega, by go_num, by go_num, (unhide R).1, (unhide R).2.1, (unhide R).2.2⟩
      case measure => simp [intOf]; omega
    · obtain rfl : k = n := by omega
      go_wp2_with fail
      go_ret
      exact ⟨rfl, ⟨marks_length _ _, fun i hi => ⟨b, off, rfl, by rw [marks_getD _ _ _ hi]; exact unhide g1 i hi⟩⟩, ho⟩
theorem markByteS_none (a : Option Addr) (c : Nat) (k0 : Int) (w : World) :
    Calls Try.prog 29 #[.slice a 0 c, .int .i64 k0] w fun e w' => e = .returned (.int .i64 k0) ∧ w' = w := by
  go_enter Try.func29, Try.ntmps29
  go_wp2_with fail
  refine wp_loop_rounds 1 ?_
  rw [rounds_succ]
  go_wp2_with fail
  go_ret
  exact ⟨rfl, rfl⟩
end Go.Proofs.Ytkggpapmhopaeaa
