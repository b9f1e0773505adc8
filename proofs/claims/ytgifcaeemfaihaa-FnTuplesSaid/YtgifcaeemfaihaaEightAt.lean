/-
  The walks of eightAt and rankOf: a number is read back from its eight bytes.
-/
import Derived.Test.YtgifcaeemfaihaaBits
import Derived.Test.YtgifcaeemfaihaaNum8
import Derived.Laws.CopyOwn
set_option maxRecDepth 100000
namespace Go.Proofs.Ytgifcaeemfaihaa
open Go.RowKit

theorem or_step {n B : Int} {k : Nat} (h0 : 0 ≤ n) (h1 : n < 256 ^ k) (hk : k < 8) (hB : 0 ≤ B) (hB1 : B ≤ 255) : bits .or .u64 (IntKind.u64.wrap (n * 256)) (IntKind.u64.wrap B) = n * 256 + B ∧ 0 ≤ n * 256 + B ∧ n * 256 + B < 256 ^ (k + 1) := by
  have hpn : 256 ^ k ≤ 256 ^ 7 := Nat.pow_le_pow_right (by omega) (by omega)
  have hp : (256 : Int) ^ k ≤ 72057594037927936 := by
    have e : (256 : Int) ^ k = ((256 ^ k : Nat) : Int) := by simp
    rw [e]
    have e7 : (256 : Nat) ^ 7 = 72057594037927936 := by decide
    omega
  have es : (256 : Int) ^ (k + 1) = 256 ^ k * 256 := Int.pow_succ _ _
  obtain ⟨x, rfl⟩ := Int.eq_ofNat_of_zero_le h0
  obtain ⟨y, rfl⟩ := Int.eq_ofNat_of_zero_le hB
  refine ⟨?_, by omega, by omega⟩
  have hw : IntKind.u64.wrap ((x : Int) * 256) = ((x * 256 : Nat) : Int) := by rw [IntKind.wrap_u64]; omega
  have hw2 : IntKind.u64.wrap (y : Int) = (y : Int) := by rw [IntKind.wrap_u64]; omega
  rw [hw, hw2, u64_or_nat (x * 256) y (by omega) (by omega), nat_join 8 (x * 256) y (by omega) (by omega)]
  omega

set_option maxHeartbeats 2000000 in
theorem rankOf_any (b0 b1 b2 b3 b4 b5 b6 b7 : Int) (w : World) (hb : ∀ b ∈ [b0, b1, b2, b3, b4, b5, b6, b7], 0 ≤ b ∧ b ≤ 255) :
    Calls Try.prog 38 #[.agg #[.int .u8 b0, .int .u8 b1, .int .u8 b2, .int .u8 b3, .int .u8 b4, .int .u8 b5, .int .u8 b6, .int .u8 b7]] w fun e w' => e = .returned (.int .u64 (num [b0, b1, b2, b3, b4, b5, b6, b7])) ∧ Below w.heap.size w w' := by
  have i0 : ∀ w, (Instr.index 61 (.agg #[.int .u8 b0, .int .u8 b1, .int .u8 b2, .int .u8 b3, .int .u8 b4, .int .u8 b5, .int .u8 b6, .int .u8 b7]) (.int .i64 0)).run Try.prog w = .ok (.int .u8 b0) w := fun _ => by kernel_rfl
  have i1 : ∀ w, (Instr.index 61 (.agg #[.int .u8 b0, .int .u8 b1, .int .u8 b2, .int .u8 b3, .int .u8 b4, .int .u8 b5, .int .u8 b6, .int .u8 b7]) (.int .i64 1)).run Try.prog w = .ok (.int .u8 b1) w := fun _ => by kernel_rfl
  have i2 : ∀ w, (Instr.index 61 (.agg #[.int .u8 b0, .int .u8 b1, .int .u8 b2, .int .u8 b3, .int .u8 b4, .int .u8 b5, .int .u8 b6, .int .u8 b7]) (.int .i64 2)).run Try.prog w = .ok (.int .u8 b2) w := fun _ => by kernel_rfl
  have i3 : ∀ w, (Instr.index 61 (.agg #[.int .u8 b0, .int .u8 b1, .int .u8 b2, .int .u8 b3, .int .u8 b4, .int .u8 b5, .int .u8 b6, .int .u8 b7]) (.int .i64 3)).run Try.prog w = .ok (.int .u8 b3) w := fun _ => by kernel_rfl
  have i4 : ∀ w, (Instr.index 61 (.agg #[.int .u8 b0, .int .u8 b1, .int .u8 b2, .int .u8 b3, .int .u8 b4, .int .u8 b5, .int .u8 b6, .int .u8 b7]) (.int .i64 4)).run Try.prog w = .ok (.int .u8 b4) w := fun _ => by kernel_rfl
  have i5 : ∀ w, (Instr.index 61 (.agg #[.int .u8 b0, .int .u8 b1, .int .u8 b2, .int .u8 b3, .int .u8 b4, .int .u8 b5, .int .u8 b6, .int .u8 b7]) (.int .i64 5)).run Try.prog w = .ok (.int .u8 b5) w := fun _ => by kernel_rfl
  have i6 : ∀ w, (Instr.index 61 (.agg #[.int .u8 b0, .int .u8 b1, .int .u8 b2, .int .u8 b3, .int .u8 b4, .int .u8 b5, .int .u8 b6, .int .u8 b7]) (.int .i64 6)).run Try.prog w = .ok (.int .u8 b6) w := fun _ => by kernel_rfl
  have i7 : ∀ w, (Instr.index 61 (.agg #[.int .u8 b0, .int .u8 b1, .int .u8 b2, .int .u8 b3, .int .u8 b4, .int .u8 b5, .int .u8 b6, .int .u8 b7]) (.int .i64 7)).run Try.prog w = .ok (.int .u8 b7) w := fun _ => by kernel_rfl
  have HB := hide hb
  clear hb
  go_enter Try.func38, Try.ntmps38
  go_wp2_with fail
  go_loop [3, 5, 7] (fun r _ i => ∃ k : Nat, k ≤ 8 ∧ i = .int .i64 k ∧ ∃ n : Int, r = .int .u64 n ∧ 0 ≤ n ∧ n < 256 ^ k ∧ Hid (n = num ([b0, b1, b2, b3, b4, b5, b6, b7].take k))) (fun _ _ i => 8 - (intOf i).toNat)
  case atStart => exact ⟨0, by omega, rfl, 0, rfl, by omega, by decide, rfl⟩
  case round =>
    obtain ⟨k, hk, rfl, n, rfl, hn0, hn1, hn⟩ := hrel
    have hb := unhide HB
    by_cases h0 : k = 0
    · subst h0
      have J := hide (or_step (B := b0) (k := 0) hn0 hn1 (by omega) (hb b0 (by simp)).1 (hb b0 (by simp)).2)
      clear hn0 hn1
      go_wp2_with fail
      go_round
      case rel => exact ⟨1, by omega, rfl, n * 256 + b0, congrArg _ (unhide J).1, (unhide J).2.1, (unhide J).2.2, by rw [unhide hn]; rfl⟩
      case measure => simp [intOf]
    by_cases h1 : k = 1
    · subst h1
      have J := hide (or_step (B := b1) (k := 1) hn0 hn1 (by omega) (hb b1 (by simp)).1 (hb b1 (by simp)).2)
      clear hn0 hn1
      go_wp2_with fail
      go_round
      case rel => exact ⟨2, by omega, rfl, n * 256 + b1, congrArg _ (unhide J).1, (unhide J).2.1, (unhide J).2.2, by rw [unhide hn]; rfl⟩
      case measure => simp [intOf]
    by_cases h2 : k = 2
    · subst h2
      have J := hide (or_step (B := b2) (k := 2) hn0 hn1 (by omega) (hb b2 (by simp)).1 (hb b2 (by simp)).2)
      clear hn0 hn1
      go_wp2_with fail
      go_round
      case rel => exact ⟨3, by omega, rfl, n * 256 + b2, congrArg _ (unhide J).1, (unhide J).2.1, (unhide J).2.2, by rw [unhide hn]; rfl⟩
      case measure => simp [intOf]
    by_cases h3 : k = 3
    · subst h3
      have J := hide (or_step (B := b3) (k := 3) hn0 hn1 (by omega) (hb b3 (by simp)).1 (hb b3 (by simp)).2)
      clear hn0 hn1
      go_wp2_with fail
      go_round
      case rel => exact ⟨4, by omega, rfl, n * 256 + b3, congrArg _ (unhide J).1, (unhide J).2.1, (unhide J).2.2, by rw [unhide hn]; rfl⟩
      case measure => simp [intOf]
    by_cases h4 : k = 4
    · subst h4
      have J := hide (or_step (B := b4) (k := 4) hn0 hn1 (by omega) (hb b4 (by simp)).1 (hb b4 (by simp)).2)
      clear hn0 hn1
      go_wp2_with fail
      go_round
      case rel => exact ⟨5, by omega, rfl, n * 256 + b4, congrArg _ (unhide J).1, (unhide J).2.1, (unhide J).2.2, by rw [unhide hn]; rfl⟩
      case measure => simp [intOf]
    by_cases h5 : k = 5
    · subst h5
      have J := hide (or_step (B := b5) (k := 5) hn0 hn1 (by omega) (hb b5 (by simp)).1 (hb b5 (by simp)).2)
      clear hn0 hn1
      go_wp2_with fail
      go_round
      case rel => exact ⟨6, by omega, rfl, n * 256 + b5, congrArg _ (unhide J).1, (unhide J).2.1, (unhide J).2.2, by rw [unhide hn]; rfl⟩
      case measure => simp [intOf]
    by_cases h6 : k = 6
    · subst h6
      have J := hide (or_step (B := b6) (k := 6) hn0 hn1 (by omega) (hb b6 (by simp)).1 (hb b6 (by simp)).2)
      clear hn0 hn1
      go_wp2_with fail
      go_round
      case rel => exact ⟨7, by omega, rfl, n * 256 + b6, congrArg _ (unhide J).1, (unhide J).2.1, (unhide J).2.2, by rw [unhide hn]; rfl⟩
      case measure => simp [intOf]
    by_cases h7 : k = 7
    · subst h7
      have J := hide (or_step (B := b7) (k := 7) hn0 hn1 (by omega) (hb b7 (by simp)).1 (hb b7 (by simp)).2)
      clear hn0 hn1
      go_wp2_with fail
      go_round
      case rel => exact ⟨8, by omega, rfl, n * 256 + b7, congrArg _ (unhide J).1, (unhide J).2.1, (unhide J).2.2, by rw [unhide hn]; rfl⟩
      case measure => simp [intOf]
    obtain rfl : k = 8 := by omega
    have E := hide (show n = num [b0, b1, b2, b3, b4, b5, b6, b7] from unhide hn)
    clear hb
    go_wp2_with fail
    go_ret
    exact ⟨ret_int (unhide E), (Below.refl _ _).alloc (Nat.le_refl _) _⟩
theorem setRow_last (w : World) (Z cs : Array Value) (t : TypeId) : ((w.alloc (.cells Z t)).drew).setRow w.heap.size cs = (w.alloc (.cells cs t)).drew := by
  have h : ((w.alloc (.cells Z t)).drew.heap.modify w.heap.size fun
      | .cells _ elem frozen => .cells cs elem frozen
      | o => o) = (w.alloc (.cells cs t)).drew.heap := by
    show ((w.heap.push (.cells Z t)).modify w.heap.size _) = w.heap.push (.cells cs t)
    apply Array.ext_getElem?
    intro i
    rw [Array.getElem?_modify, Array.getElem?_push, Array.getElem?_push]
    by_cases hi : i = w.heap.size
    · subst hi; simp
    · simp [hi, Ne.symm hi]
  exact congrArg (fun hp => ({ (w.alloc (.cells Z t)).drew with heap := hp } : World)) h
theorem heap_two (w : World) (A B : Obj) : ((w.alloc A).alloc B).drew.heap[w.heap.size + 1]? = some B := by
  show ((w.heap.push A).push B)[w.heap.size + 1]? = some B
  rw [Array.getElem?_push, if_pos (by simp)]
theorem copy_eight (b off n c k : Nat) (xs : List Int) (w : World) (hk : k + 8 ≤ n) (hr : Row w (some ⟨b, off, none⟩) n xs) :
    (Builtin.copy_ #[22, 22] 3 #[.slice (some ⟨w.heap.size + 1, 0, none⟩) 8 8, .slice (some ⟨b, off + k, none⟩) (n - k) (c - k)]).run Try.prog ((w.alloc (.cells #[.int .u8 0, .int .u8 0, .int .u8 0, .int .u8 0, .int .u8 0, .int .u8 0, .int .u8 0, .int .u8 0] 61)).alloc (.cells #[.int .u8 0, .int .u8 0, .int .u8 0, .int .u8 0, .int .u8 0, .int .u8 0, .int .u8 0, .int .u8 0] 61)).drew =
      .ok (.int .i64 8) ((w.alloc (.cells #[.int .u8 0, .int .u8 0, .int .u8 0, .int .u8 0, .int .u8 0, .int .u8 0, .int .u8 0, .int .u8 0] 61)).alloc (.cells #[.int .u8 (xs.getD (k + 0) 0), .int .u8 (xs.getD (k + 1) 0), .int .u8 (xs.getD (k + 2) 0), .int .u8 (xs.getD (k + 3) 0), .int .u8 (xs.getD (k + 4) 0), .int .u8 (xs.getD (k + 5) 0), .int .u8 (xs.getD (k + 6) 0), .int .u8 (xs.getD (k + 7) 0)] 61)).drew := by
  have key : ∀ i, i < n → w.cell? ⟨b, off + i, none⟩ = some (.int .u8 (xs.getD i 0)) := fun i hi => by
    obtain ⟨b', off', e, h⟩ := hr.2 i hi
    cases e
    exact h
  have hb : b < w.heap.size := cell_lt (key 0 (by omega))
  have hbel : Below w.heap.size w ((w.alloc (.cells #[.int .u8 0, .int .u8 0, .int .u8 0, .int .u8 0, .int .u8 0, .int .u8 0, .int .u8 0, .int .u8 0] 61)).alloc (.cells #[.int .u8 0, .int .u8 0, .int .u8 0, .int .u8 0, .int .u8 0, .int .u8 0, .int .u8 0, .int .u8 0] 61)).drew := Below.drew (((Below.refl _ _).alloc (Nat.le_refl _) _).alloc (by simp) _)
  have hsrc : ∀ j v, ([Value.int .u8 (xs.getD (k + 0) 0), Value.int .u8 (xs.getD (k + 1) 0), Value.int .u8 (xs.getD (k + 2) 0), Value.int .u8 (xs.getD (k + 3) 0), Value.int .u8 (xs.getD (k + 4) 0), Value.int .u8 (xs.getD (k + 5) 0), Value.int .u8 (xs.getD (k + 6) 0), Value.int .u8 (xs.getD (k + 7) 0)])[j]? = some v → ((w.alloc (.cells #[.int .u8 0, .int .u8 0, .int .u8 0, .int .u8 0, .int .u8 0, .int .u8 0, .int .u8 0, .int .u8 0] 61)).alloc (.cells #[.int .u8 0, .int .u8 0, .int .u8 0, .int .u8 0, .int .u8 0, .int .u8 0, .int .u8 0, .int .u8 0] 61)).drew.cell? ((⟨b, off + k, none⟩ : Addr).add j) = some v := by
    intro j v hj
    have e2 : (⟨b, off + k, none⟩ : Addr).add j = ⟨b, off + (k + j), none⟩ := by unfold Addr.add; split <;> simp_all; omega
    rw [e2, hbel.cell (p := ⟨b, off + (k + j), none⟩) hb]
    match j, hj with
    | 0, hj => simp only [List.getElem?_cons_zero, Option.some.injEq] at hj; rw [← hj]; exact key (k + 0) (by omega)
    | 1, hj => simp only [List.getElem?_cons_succ, List.getElem?_cons_zero, Option.some.injEq] at hj; rw [← hj]; exact key (k + 1) (by omega)
    | 2, hj => simp only [List.getElem?_cons_succ, List.getElem?_cons_zero, Option.some.injEq] at hj; rw [← hj]; exact key (k + 2) (by omega)
    | 3, hj => simp only [List.getElem?_cons_succ, List.getElem?_cons_zero, Option.some.injEq] at hj; rw [← hj]; exact key (k + 3) (by omega)
    | 4, hj => simp only [List.getElem?_cons_succ, List.getElem?_cons_zero, Option.some.injEq] at hj; rw [← hj]; exact key (k + 4) (by omega)
    | 5, hj => simp only [List.getElem?_cons_succ, List.getElem?_cons_zero, Option.some.injEq] at hj; rw [← hj]; exact key (k + 5) (by omega)
    | 6, hj => simp only [List.getElem?_cons_succ, List.getElem?_cons_zero, Option.some.injEq] at hj; rw [← hj]; exact key (k + 6) (by omega)
    | 7, hj => simp only [List.getElem?_cons_succ, List.getElem?_cons_zero, Option.some.injEq] at hj; rw [← hj]; exact key (k + 7) (by omega)
  have := run_copy_row (P := Try.prog) ((w.alloc (.cells #[.int .u8 0, .int .u8 0, .int .u8 0, .int .u8 0, .int .u8 0, .int .u8 0, .int .u8 0, .int .u8 0] 61)).alloc (.cells #[.int .u8 0, .int .u8 0, .int .u8 0, .int .u8 0, .int .u8 0, .int .u8 0, .int .u8 0, .int .u8 0] 61)).drew 22 22 3 5 (w.heap.size + 1) 0 8 8 ⟨b, off + k, none⟩ (n - k) (c - k) #[.int .u8 0, .int .u8 0, .int .u8 0, .int .u8 0, .int .u8 0, .int .u8 0, .int .u8 0, .int .u8 0] 61 ([Value.int .u8 (xs.getD (k + 0) 0), Value.int .u8 (xs.getD (k + 1) 0), Value.int .u8 (xs.getD (k + 2) 0), Value.int .u8 (xs.getD (k + 3) 0), Value.int .u8 (xs.getD (k + 4) 0), Value.int .u8 (xs.getD (k + 5) 0), Value.int .u8 (xs.getD (k + 6) 0), Value.int .u8 (xs.getD (k + 7) 0)])
    Try.underlying22 (by kernel_rfl) (heap_two w _ _) (by show 8 = _; exact (Nat.min_eq_right (by omega)).symm) hsrc (by show 0 + 8 ≤ 8; omega) (by intro u hu; simp at hu; rcases hu with rfl | rfl | rfl | rfl | rfl | rfl | rfl | rfl <;> rfl)
  rw [this]
  have e3 := setRow_last (w.alloc (.cells #[.int .u8 0, .int .u8 0, .int .u8 0, .int .u8 0, .int .u8 0, .int .u8 0, .int .u8 0, .int .u8 0] 61)) #[.int .u8 0, .int .u8 0, .int .u8 0, .int .u8 0, .int .u8 0, .int .u8 0, .int .u8 0, .int .u8 0] #[.int .u8 (xs.getD (k + 0) 0), .int .u8 (xs.getD (k + 1) 0), .int .u8 (xs.getD (k + 2) 0), .int .u8 (xs.getD (k + 3) 0), .int .u8 (xs.getD (k + 4) 0), .int .u8 (xs.getD (k + 5) 0), .int .u8 (xs.getD (k + 6) 0), .int .u8 (xs.getD (k + 7) 0)] 61
  rw [show (w.alloc (.cells #[.int .u8 0, .int .u8 0, .int .u8 0, .int .u8 0, .int .u8 0, .int .u8 0, .int .u8 0, .int .u8 0] 61)).heap.size = w.heap.size + 1 by simp] at e3
  exact congrArg (Result.ok _) e3

set_option maxHeartbeats 1000000 in
theorem eightAt_any (b off n c k : Nat) (xs : List Int) (w : World) (hnc : n ≤ c) (hc : c ≤ maxLen) (hk : k + 8 ≤ n) (hr : Row w (some ⟨b, off, none⟩) n xs) :
    Calls Try.prog 71 #[.slice (some ⟨b, off, none⟩) n c, .int .i64 k] w fun e w' => e = .returned (.tuple #[.agg #[.int .u8 (xs.getD (k + 0) 0), .int .u8 (xs.getD (k + 1) 0), .int .u8 (xs.getD (k + 2) 0), .int .u8 (xs.getD (k + 3) 0), .int .u8 (xs.getD (k + 4) 0), .int .u8 (xs.getD (k + 5) 0), .int .u8 (xs.getD (k + 6) 0), .int .u8 (xs.getD (k + 7) 0)], .bool true]) ∧ Below w.heap.size w w' := by
  unfold maxLen at hc
  have hcopy := copy_eight b off n c k xs w hk hr
  generalize xs.getD (k + 0) 0 = y0 at *
  generalize xs.getD (k + 1) 0 = y1 at *
  generalize xs.getD (k + 2) 0 = y2 at *
  generalize xs.getD (k + 3) 0 = y3 at *
  generalize xs.getD (k + 4) 0 = y4 at *
  generalize xs.getD (k + 5) 0 = y5 at *
  generalize xs.getD (k + 6) 0 = y6 at *
  generalize xs.getD (k + 7) 0 = y7 at *
  clear hr
  go_enter Try.func71, Try.ntmps71
  go_wp2_with fail
  go_region
  go_wp2_with fail
  exact bodyPost_ret (v := .tuple #[.agg #[.int .u8 y0, .int .u8 y1, .int .u8 y2, .int .u8 y3, .int .u8 y4, .int .u8 y5, .int .u8 y6, .int .u8 y7], .bool true]) (by simp [results, Try.results71, go_sem]) rfl ⟨rfl, Below.drew (((Below.refl _ _).alloc (Nat.le_refl _) _).alloc (by simp) _)⟩
end Go.Proofs.Ytgifcaeemfaihaa
