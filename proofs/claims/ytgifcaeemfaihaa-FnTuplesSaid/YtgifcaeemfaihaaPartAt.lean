/-
  The part that begins at a place of a key: a plain answer, and the walk of partAt.
-/
import Derived.Test.YtgifcaeemfaihaaEightAt
import Derived.Test.YtgifcaeemfaihaaRankBack
import Derived.Test.YtgifcaeemfaihaaTextAt
import Derived.Test.YtgifcaeemfaihaaPartD
set_option maxRecDepth 100000
namespace Go.Proofs.Ytgifcaeemfaihaa
open Go.RowKit
attribute [local go_sem] run_store_float

/-- The whole number and the float that a turned number of 64 bits is of. -/
def unr (r : Int) : Int := r - 9223372036854775808
def unf (r : Int) : Nat := if 9223372036854775808 ≤ r then (r - 9223372036854775808).toNat else (18446744073709551615 - r).toNat
theorem rank_unr {r : Int} (h : 0 ≤ r) (h1 : r < 18446744073709551616) : rank (unr r) = r := by
  rw [rank_nat (by unfold unr; omega) (by unfold unr; omega)]; unfold unr; omega
theorem unf_lt {r : Int} (h : 0 ≤ r) (h1 : r < 18446744073709551616) : unf r < 18446744073709551616 := by unfold unf; split <;> omega
theorem frank_unf {r : Int} (h : 0 ≤ r) (h1 : r < 18446744073709551616) : frank (unf r) = r := by
  unfold frank unf
  split <;> split <;> omega
/-- Eight bytes at a place. -/
def oct (xs : List Int) (k : Nat) : List Int := [xs.getD (k + 0) 0, xs.getD (k + 1) 0, xs.getD (k + 2) 0, xs.getD (k + 3) 0, xs.getD (k + 4) 0, xs.getD (k + 5) 0, xs.getD (k + 6) 0, xs.getD (k + 7) 0]
theorem oct_bytes {xs : List Int} {k n : Nat} (hb : ∀ i, i < n → 0 ≤ xs.getD i 0 ∧ xs.getD i 0 ≤ 255) (hk : k + 8 ≤ n) : ∀ b ∈ oct xs k, 0 ≤ b ∧ b ≤ 255 := by
  intro b hbm
  simp only [oct, List.mem_cons, List.not_mem_nil, or_false] at hbm
  rcases hbm with rfl | rfl | rfl | rfl | rfl | rfl | rfl | rfl
  all_goals exact hb _ (by omega)
theorem num_range {l : List Int} (h : ∀ b ∈ l, 0 ≤ b ∧ b ≤ 255) (hl : l.length = 8) : 0 ≤ num l ∧ num l < 18446744073709551616 := by
  have := val_bounds l h
  rw [num_val]
  rw [hl] at this
  exact ⟨this.1, by have e : (256 : Int) ^ 8 = 18446744073709551616 := by decide
                    rw [e] at this; exact this.2⟩
/-- The part that begins at a place, and the place behind it. -/
def rdP (xs : List Int) (p : Nat) : Option (PartD × Nat) :=
  if xs.getD p 0 = 1 then (if p + 9 ≤ xs.length then some (⟨1, unr (num (oct xs (p + 1))), 0, ByteArray.empty⟩, p + 9) else none)
  else if xs.getD p 0 = 2 then (if p + 9 ≤ xs.length then some (⟨2, 0, unf (num (oct xs (p + 1))), ByteArray.empty⟩, p + 9) else none)
  else if xs.getD p 0 = 3 then (short (rd (xs.drop (p + 1)) [] (p + 1))).map fun x => (⟨3, 0, 0, strOfNums x.1⟩, x.2)
  else none
/-- What partAt answers. -/
def paV : Option (PartD × Nat) → Value
  | some (d, q) => .tuple #[pv d, .int .i64 q, .bool true]
  | none => .tuple #[.agg #[.int .i64 0, .int .i64 0, .float .f64 0, .string ByteArray.empty], .int .i64 0, .bool false]

theorem eightAt_short (a : Option Addr) (n c k : Nat) (w : World) (_hn : n ≤ 1048576) (_hkn : k ≤ n) (_hk : n < k + 8) :
    Calls Try.prog 71 #[.slice a n c, .int .i64 k] w fun e w' => e = .returned (.tuple #[.agg #[.int .u8 0, .int .u8 0, .int .u8 0, .int .u8 0, .int .u8 0, .int .u8 0, .int .u8 0, .int .u8 0], .bool false]) ∧ Below w.heap.size w w' := by
  go_enter Try.func71, Try.ntmps71
  go_wp2_with fail
  exact bodyPost_ret (v := .tuple #[.agg #[.int .u8 0, .int .u8 0, .int .u8 0, .int .u8 0, .int .u8 0, .int .u8 0, .int .u8 0, .int .u8 0], .bool false]) (by simp [results, Try.results71, go_sem]) rfl ⟨rfl, (((Below.refl _ _).alloc (Nat.le_refl _) _).alloc (by simp) _)⟩

/-- The block of a part that a function has for its answer. -/
abbrev zpart : Obj := .cells #[.int .i64 0, .int .i64 0, .float .f64 0, .string ByteArray.empty] 47
theorem zpart_kept {w w' : World} (hb : Below (w.heap.size + 1) (w.alloc zpart) w') : w'.cell? ⟨w.heap.size, 0, none⟩ = some (.int .i64 0) ∧ w'.cell? ⟨w.heap.size, 1, none⟩ = some (.int .i64 0) ∧ w'.cell? ⟨w.heap.size, 2, none⟩ = some (.float .f64 0) ∧ w'.cell? ⟨w.heap.size, 3, none⟩ = some (.string ByteArray.empty) ∧
    (∀ o, w'.frozen? ⟨w.heap.size, o, none⟩ = false) ∧ w.heap.size < w'.heap.size ∧ Below w.heap.size w w' := by
  have hs := hb.size
  simp at hs
  refine ⟨?_, ?_, ?_, ?_, fun o => ?_, by omega, ((Below.refl _ _).alloc (Nat.le_refl _) _).trans (hb.mono (by omega))⟩
  · exact (hb.cell (p := ⟨w.heap.size, 0, none⟩) (by simp)).trans (by simp)
  · exact (hb.cell (p := ⟨w.heap.size, 1, none⟩) (by simp)).trans (by simp)
  · exact (hb.cell (p := ⟨w.heap.size, 2, none⟩) (by simp)).trans (by simp)
  · exact (hb.cell (p := ⟨w.heap.size, 3, none⟩) (by simp)).trans (by simp)
  · exact (hb.frozen (p := ⟨w.heap.size, o, none⟩) (by simp)).trans (by simp)
theorem four_sets {B : Nat} {w w1 : World} (hb : Below B w w1) (v0 v1 v2 v3 : Value) : Below B w ((((w1.setCell ⟨B, 0, none⟩ v0).setCell ⟨B, 1, none⟩ v1).setCell ⟨B, 2, none⟩ v2).setCell ⟨B, 3, none⟩ v3) :=
  (((hb.setCell (p := ⟨B, 0, none⟩) (Nat.le_refl _) v0).setCell (p := ⟨B, 1, none⟩) (Nat.le_refl _) v1).setCell (p := ⟨B, 2, none⟩) (Nat.le_refl _) v2).setCell (p := ⟨B, 3, none⟩) (Nat.le_refl _) v3
set_option maxHeartbeats 1000000 in
theorem partAt_any (b off n c k : Nat) (xs : List Int) (w : World) (hn : n ≤ 1048576) (hnc : n ≤ c) (hc : c ≤ maxLen) (hk : k < n) (hr : Row w (some ⟨b, off, none⟩) n xs) (hby : ∀ i, i < n → 0 ≤ xs.getD i 0 ∧ xs.getD i 0 ≤ 255) :
    Calls Try.prog 55 #[.slice (some ⟨b, off, none⟩) n c, .int .i64 k] w fun e w' => e = .returned (paV (rdP xs k)) ∧ Below w.heap.size w w' := by
  have l1 := hr.1
  have c0 : ∀ o, (w.alloc o).cell? ⟨b, off + k, none⟩ = some (.int .u8 (xs.getD k 0)) := fun o => by
    obtain ⟨b', off', e, c0⟩ := (row_alloc (o := o) hr).2 k hk
    cases e
    exact c0
  have hy0 := hby k hk
  have R := hide (fun o => row_alloc (o := o) hr)
  have BY := hide hby
  clear hr hby
  by_cases h1 : xs.getD k 0 = 1
  · rw [h1] at c0
    by_cases h9 : k + 9 ≤ n
    · have E := hide (show rdP xs k = some (⟨1, unr (num (oct xs (k + 1))), 0, ByteArray.empty⟩, k + 9) by unfold rdP; rw [if_pos h1, if_pos (by rw [l1]; exact h9)])
      have OB := hide (oct_bytes (unhide BY) (show (k + 1) + 8 ≤ n by omega))
      have NR := hide (num_range (unhide OB) rfl)
      have RI := hide (fun w => rankInt_any (unr (num (oct xs (k + 1)))) w (by have := (unhide NR).1; unfold unr; omega) (by have := (unhide NR).2; unfold unr; omega))
      rw [rank_unr (unhide NR).1 (unhide NR).2] at RI
      have EA := hide (fun o => eightAt_any b off n c (k + 1) xs (w.alloc o) hnc hc (by omega) (unhide R o))
      rw [show ((k + 1 : Nat) : Int) = (k : Int) + 1 by omega] at EA
      unfold oct at E OB RI
      clear h1 l1 hy0 NR R BY
      generalize xs.getD (k + 1 + 0) 0 = y0 at *
      generalize xs.getD (k + 1 + 1) 0 = y1 at *
      generalize xs.getD (k + 1 + 2) 0 = y2 at *
      generalize xs.getD (k + 1 + 3) 0 = y3 at *
      generalize xs.getD (k + 1 + 4) 0 = y4 at *
      generalize xs.getD (k + 1 + 5) 0 = y5 at *
      generalize xs.getD (k + 1 + 6) 0 = y6 at *
      generalize xs.getD (k + 1 + 7) 0 = y7 at *
      go_enter Try.func55, Try.ntmps55
      go_wp2_with fail
      refine (unhide EA _).mono ?_
      rintro e w1 ⟨rfl, hb1⟩
      clear EA
      go_wp2_with fail
      refine (rankOf_any y0 y1 y2 y3 y4 y5 y6 y7 _ (unhide OB)).mono ?_
      rintro e w2 ⟨rfl, hb2⟩
      go_wp2_with fail
      refine (unhide RI _).mono ?_
      rintro e w3 ⟨rfl, rfl⟩
      have bA : Below (w.heap.size + 1) (w.alloc zpart) w3 := by
        have h1 : Below (w.heap.size + 1) (w.alloc zpart) w1 := hb1.mono (by simp)
        have hs := hb1.size
        simp at hs
        exact (h1.alloc hs _).trans (hb2.mono (by simp; omega))
      obtain ⟨z0, z1, z2, z3, ff, hlt, bB⟩ := zpart_kept bA
      have BB := hide bB
      have hk9 : ((k + 9 : Nat) : Int) = (k : Int) + 1 + 8 := by omega
      generalize unr (num [y0, y1, y2, y3, y4, y5, y6, y7]) = nn at *
      clear hb1 hb2 bA bB RI OB c0
      go_wp2_with fail
      refine bodyPost_ret (v := .tuple #[.agg #[.int .i64 1, .int .i64 nn, .float .f64 0, .string ByteArray.empty], .int .i64 (k + 1 + 8), .bool true]) (by simp [results, Try.results55, go_sem, z0, z1, z2, z3] <;> rfl) rfl ⟨by rw [unhide E]; show _ = Ending.returned (.tuple #[_, .int .i64 ((k + 9 : Nat) : Int), _]); rw [hk9], four_sets (unhide BB) _ _ _ _⟩
    · have E := hide (show rdP xs k = none by unfold rdP; rw [if_pos h1, if_neg (by rw [l1]; exact h9)])
      have EA := hide (fun o => eightAt_short (some ⟨b, off, none⟩) n c (k + 1) (w.alloc o) hn (by omega) (by omega))
      rw [show ((k + 1 : Nat) : Int) = (k : Int) + 1 by omega] at EA
      clear h1 l1 hy0 R BY
      go_enter Try.func55, Try.ntmps55
      go_wp2_with fail
      refine (unhide EA _).mono ?_
      rintro e w1 ⟨rfl, hb1⟩
      have bA : Below (w.heap.size + 1) (w.alloc zpart) w1 := hb1.mono (by simp)
      obtain ⟨z0, z1, z2, z3, ff, hlt, bB⟩ := zpart_kept bA
      have BB := hide bB
      clear hb1 bA bB EA c0
      go_wp2_with fail
      refine bodyPost_ret (v := .tuple #[.agg #[.int .i64 0, .int .i64 0, .float .f64 0, .string ByteArray.empty], .int .i64 0, .bool false]) (by simp [results, Try.results55, go_sem, hlt, z0, z1, z2, z3] <;> rfl) rfl ⟨by rw [unhide E]; rfl, (four_sets (unhide BB) _ _ _ _).alloc (four_sets (unhide BB) _ _ _ _).size _⟩
  by_cases h2 : xs.getD k 0 = 2
  · rw [h2] at c0
    by_cases h9 : k + 9 ≤ n
    · have E := hide (show rdP xs k = some (⟨2, 0, unf (num (oct xs (k + 1))), ByteArray.empty⟩, k + 9) by unfold rdP; rw [if_neg h1, if_pos h2, if_pos (by rw [l1]; exact h9)])
      have OB := hide (oct_bytes (unhide BY) (show (k + 1) + 8 ≤ n by omega))
      have NR := hide (num_range (unhide OB) rfl)
      have RI := hide (fun w => rankFloat_any (unf (num (oct xs (k + 1)))) w (unf_lt (unhide NR).1 (unhide NR).2))
      rw [frank_unf (unhide NR).1 (unhide NR).2] at RI
      have EA := hide (fun o => eightAt_any b off n c (k + 1) xs (w.alloc o) hnc hc (by omega) (unhide R o))
      rw [show ((k + 1 : Nat) : Int) = (k : Int) + 1 by omega] at EA
      unfold oct at E OB RI
      clear h1 h2 l1 hy0 NR R BY
      generalize xs.getD (k + 1 + 0) 0 = y0 at *
      generalize xs.getD (k + 1 + 1) 0 = y1 at *
      generalize xs.getD (k + 1 + 2) 0 = y2 at *
      generalize xs.getD (k + 1 + 3) 0 = y3 at *
      generalize xs.getD (k + 1 + 4) 0 = y4 at *
      generalize xs.getD (k + 1 + 5) 0 = y5 at *
      generalize xs.getD (k + 1 + 6) 0 = y6 at *
      generalize xs.getD (k + 1 + 7) 0 = y7 at *
      go_enter Try.func55, Try.ntmps55
      go_wp2_with fail
      refine (unhide EA _).mono ?_
      rintro e w1 ⟨rfl, hb1⟩
      clear EA
      go_wp2_with fail
      refine (rankOf_any y0 y1 y2 y3 y4 y5 y6 y7 _ (unhide OB)).mono ?_
      rintro e w2 ⟨rfl, hb2⟩
      go_wp2_with fail
      refine (unhide RI _).mono ?_
      rintro e w3 ⟨rfl, rfl⟩
      have bA : Below (w.heap.size + 1) (w.alloc zpart) w3 := by
        have h1 : Below (w.heap.size + 1) (w.alloc zpart) w1 := hb1.mono (by simp)
        have hs := hb1.size
        simp at hs
        exact (h1.alloc hs _).trans (hb2.mono (by simp; omega))
      obtain ⟨z0, z1, z2, z3, ff, hlt, bB⟩ := zpart_kept bA
      have BB := hide bB
      have hk9 : ((k + 9 : Nat) : Int) = (k : Int) + 1 + 8 := by omega
      generalize unf (num [y0, y1, y2, y3, y4, y5, y6, y7]) = nn at *
      clear hb1 hb2 bA bB RI OB c0
      go_wp2_with fail
      refine bodyPost_ret (v := .tuple #[.agg #[.int .i64 2, .int .i64 0, .float .f64 nn, .string ByteArray.empty], .int .i64 (k + 1 + 8), .bool true]) (by simp [results, Try.results55, go_sem, z0, z1, z2, z3] <;> rfl) rfl ⟨by rw [unhide E]; show _ = Ending.returned (.tuple #[_, .int .i64 ((k + 9 : Nat) : Int), _]); rw [hk9], four_sets (unhide BB) _ _ _ _⟩
    · have E := hide (show rdP xs k = none by unfold rdP; rw [if_neg h1, if_pos h2, if_neg (by rw [l1]; exact h9)])
      have EA := hide (fun o => eightAt_short (some ⟨b, off, none⟩) n c (k + 1) (w.alloc o) hn (by omega) (by omega))
      rw [show ((k + 1 : Nat) : Int) = (k : Int) + 1 by omega] at EA
      clear h1 h2 l1 hy0 R BY
      go_enter Try.func55, Try.ntmps55
      go_wp2_with fail
      refine (unhide EA _).mono ?_
      rintro e w1 ⟨rfl, hb1⟩
      have bA : Below (w.heap.size + 1) (w.alloc zpart) w1 := hb1.mono (by simp)
      obtain ⟨z0, z1, z2, z3, ff, hlt, bB⟩ := zpart_kept bA
      have BB := hide bB
      clear hb1 bA bB EA c0
      go_wp2_with fail
      refine bodyPost_ret (v := .tuple #[.agg #[.int .i64 0, .int .i64 0, .float .f64 0, .string ByteArray.empty], .int .i64 0, .bool false]) (by simp [results, Try.results55, go_sem, hlt, z0, z1, z2, z3] <;> rfl) rfl ⟨by rw [unhide E]; rfl, (four_sets (unhide BB) _ _ _ _).alloc (four_sets (unhide BB) _ _ _ _).size _⟩
  by_cases h3 : xs.getD k 0 = 3
  · rw [h3] at c0
    have E := hide (show rdP xs k = (short (rd (xs.drop (k + 1)) [] (k + 1))).map fun x => (⟨3, 0, 0, strOfNums x.1⟩, x.2) by unfold rdP; rw [if_neg h1, if_neg h2, if_pos h3])
    have EA := hide (fun o => textAt_any (some ⟨b, off, none⟩) n c (k + 1) xs (w.alloc o) hn (unhide R o) (by omega))
    rw [show ((k + 1 : Nat) : Int) = (k : Int) + 1 by omega] at EA
    clear h1 h2 h3 l1 hy0 R BY
    go_enter Try.func55, Try.ntmps55
    go_wp2_with fail
    refine (unhide EA _).mono ?_
    rintro e w1 ⟨rfl, hb1⟩
    clear EA
    have bA : Below (w.heap.size + 1) (w.alloc zpart) w1 := hb1.mono (by simp)
    obtain ⟨z0, z1, z2, z3, ff, hlt, bB⟩ := zpart_kept bA
    have BB := hide bB
    clear hb1 bA bB c0
    cases hs : short (rd (xs.drop (k + 1)) [] (k + 1)) with
    | none =>
      rw [hs] at E
      have E := hide (show rdP xs k = none from unhide E)
      clear hs
      simp only [taV]
      go_wp2_with fail
      refine bodyPost_ret (v := .tuple #[.agg #[.int .i64 0, .int .i64 0, .float .f64 0, .string ByteArray.empty], .int .i64 0, .bool false]) (by simp [results, Try.results55, go_sem, z0, z1, z2, z3] <;> rfl) rfl ⟨by rw [unhide E]; rfl, four_sets (unhide BB) _ _ _ _⟩
    | some x =>
      obtain ⟨o, q⟩ := x
      rw [hs] at E
      have E := hide (show rdP xs k = some (⟨3, 0, 0, strOfNums o⟩, q) from unhide E)
      clear hs
      simp only [taV]
      generalize strOfNums o = tx at *
      go_wp2_with fail
      refine bodyPost_ret (v := .tuple #[.agg #[.int .i64 3, .int .i64 0, .float .f64 0, .string tx], .int .i64 q, .bool true]) (by simp [results, Try.results55, go_sem, z0, z1, z2, z3] <;> rfl) rfl ⟨by rw [unhide E]; rfl, four_sets (unhide BB) _ _ _ _⟩
  · have E := hide (show rdP xs k = none by unfold rdP; rw [if_neg h1, if_neg h2, if_neg h3])
    have q1 : (xs.getD k 0 == 1) = false := by simpa using h1
    have q2 : (xs.getD k 0 == 2) = false := by simpa using h2
    have q3 : (xs.getD k 0 == 3) = false := by simpa using h3
    clear h1 h2 h3 l1 R BY
    generalize xs.getD k 0 = y at *
    have bA : Below (w.heap.size + 1) (w.alloc zpart) (w.alloc zpart) := Below.refl _ _
    obtain ⟨z0, z1, z2, z3, ff, hlt, bB⟩ := zpart_kept bA
    have BB := hide bB
    clear bA bB
    go_enter Try.func55, Try.ntmps55
    go_wp2_with fail
    refine bodyPost_ret (v := .tuple #[.agg #[.int .i64 0, .int .i64 0, .float .f64 0, .string ByteArray.empty], .int .i64 0, .bool false]) (by simp [results, Try.results55, go_sem] <;> rfl) rfl ⟨by rw [unhide E]; rfl, unhide BB⟩
end Go.Proofs.Ytgifcaeemfaihaa
