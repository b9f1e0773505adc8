/-
  A mapping table in memory: the walks of has, countHere.
-/
import Derived.Test.YtbhkmmdcdfjbkaaPpA
import Derived.Test.YtbhkmmdcdfjbkaaTrL
namespace Go.Proofs.Ytbhkmmdcdfjbkaa
open Go.RowKit

/-- A pointer to a page, none where it is gone. -/
def ptrQ (q : Option (Nat × PpH)) : Value := .pointer (q.map fun x => ⟨x.1, 0, none⟩)
/-- A mapping table. -/
structure MtAt (w : World) (mb : Nat) (qs : List (Option (Nat × PpH))) (idx : List RefD) (ap : Option Addr) (cp : Nat) (ai : Option Addr) (ci : Nat) : Prop where
  box : w.heap[mb]? = some (.cells #[.slice ap qs.length cp, .slice ai idx.length ci] 68 (0, 0))
  row : RowC w (.slice ap qs.length cp) qs.length (qs.map ptrQ)
  pgs : ∀ b h, some (b, h) ∈ qs → w.heap[b]? = some (.cells #[.string h.X.lo, .string h.X.hi, .int .i64 h.X.r, .slice h.s0.a h.s0.n h.s0.c, .slice h.s1.a h.s1.n h.s1.c] 51 (0, 0)) ∧ ERow w h.s0.a h.s0.n h.X.es ∧ DRow w h.s1.a h.s1.n h.X.ds
  ix : JRow w ai idx.length idx
theorem MtAt.below {w w' : World} {mb : Nat} {qs : List (Option (Nat × PpH))} {idx : List RefD} {ap : Option Addr} {cp : Nat} {ai : Option Addr} {ci : Nat} (h : MtAt w mb qs idx ap cp ai ci) (hb : Below w.heap.size w w') : MtAt w' mb qs idx ap cp ai ci :=
  ⟨(hb.block mb (Array.getElem?_eq_some_iff.1 h.box).1).trans h.box, h.row.below hb, fun b x hx => ⟨(hb.block b (Array.getElem?_eq_some_iff.1 (h.pgs b x hx).1).1).trans (h.pgs b x hx).1, (h.pgs b x hx).2.1.below hb, (h.pgs b x hx).2.2.below hb⟩, h.ix.below hb⟩
/-- The pages of a table as data. -/
def qsP (qs : List (Option (Nat × PpH))) : List (Option PageD) := qs.map (Option.map fun x => x.2.X)
theorem getP_nat {ps : List (Option PageD)} (k : Nat) : getP ps (k : Int) = (ps[k]?).join := by unfold getP; rw [if_pos (by omega), Int.toNat_natCast]
theorem getP_neg {ps : List (Option PageD)} {x : Int} (h : x < 0) : getP ps x = none := by unfold getP; rw [if_neg (by omega)]
set_option maxHeartbeats 1000000 in
theorem has_any (mb : Nat) (qs : List (Option (Nat × PpH))) (idx : List RefD) (ap : Option Addr) (cp : Nat) (ai : Option Addr) (ci : Nat) (x : Int) (w : World) (h : MtAt w mb qs idx ap cp ai ci) :
    Calls Try.prog 53 #[.pointer (some ⟨mb, 0, none⟩), .int .i64 x] w fun e w' => e = .returned (.bool (getP (qsP qs) x).isSome) ∧ w' = w := by
  have c0 := (heap_at h.box 0).1
  by_cases h0 : x < 0
  · have E := hide (show false = (getP (qsP qs) x).isSome by rw [getP_neg h0]; rfl)
    clear h
    go_enter Try.func53, Try.ntmps53
    go_wp2_with fail
    go_ret
    exact ⟨ret_bool (unhide E), rfl⟩
  obtain ⟨k, rfl⟩ : ∃ k : Nat, x = (k : Int) := ⟨x.toNat, by omega⟩
  by_cases h1 : k < qs.length
  · obtain ⟨b, off, hap, hc⟩ := h.row.at (j := k) (u := ptrQ qs[k]) (by rw [List.getElem?_map, List.getElem?_eq_getElem h1]; rfl)
    subst hap
    have E := hide (show (qs[k]).isSome = (getP (qsP qs) (k : Int)).isSome by
      rw [getP_nat, qsP, List.getElem?_map, List.getElem?_eq_getElem h1]
      cases qs[k] <;> rfl)
    clear h
    generalize qs[k] = q at *
    cases q with
    | none =>
      unfold ptrQ at hc
      simp only [Option.map_none] at hc
      go_enter Try.func53, Try.ntmps53
      go_wp2_with fail
      go_ret
      exact ⟨ret_bool (unhide E), rfl⟩
    | some p =>
      unfold ptrQ at hc
      simp only [Option.map_some] at hc
      go_enter Try.func53, Try.ntmps53
      go_wp2_with fail
      go_ret
      exact ⟨ret_bool (unhide E), rfl⟩
  · have E := hide (show false = (getP (qsP qs) (k : Int)).isSome by
      rw [getP_nat, qsP, List.getElem?_map, List.getElem?_eq_none (by omega)]
      rfl)
    clear h
    go_enter Try.func53, Try.ntmps53
    go_wp2_with fail
    go_ret
    exact ⟨ret_bool (unhide E), rfl⟩
theorem manyT_take (qs : List (Option (Nat × PpH))) (k : Nat) (hk : k < qs.length) : manyT (qsP (qs.take (k + 1))) = manyT (qsP (qs.take k)) + (if (qs[k]).isSome then 1 else 0) := by
  unfold manyT qsP
  rw [List.take_succ_eq_append_getElem hk, List.map_append, List.countP_append]
  cases qs[k] <;> rfl
theorem manyT_le (ps : List (Option PageD)) : manyT ps ≤ ps.length := List.countP_le_length
set_option maxHeartbeats 1000000 in
theorem countHere_any (mb : Nat) (qs : List (Option (Nat × PpH))) (idx : List RefD) (ap : Option Addr) (cp : Nat) (ai : Option Addr) (ci : Nat) (w : World) (h : MtAt w mb qs idx ap cp ai ci) (hn : qs.length ≤ 1000) :
    Calls Try.prog 55 #[.pointer (some ⟨mb, 0, none⟩)] w fun e w' => e = .returned (.int .i64 ((manyT (qsP qs) : Nat) : Int)) ∧ w' = w := by
  have c0 := (heap_at h.box 0).1
  have R := hide h.row
  clear h
  obtain ⟨N, hN⟩ : ∃ N, N = qs.length := ⟨_, rfl⟩
  rw [← hN] at c0 hn R
  have HN := hide hN
  clear hN
  go_enter Try.func55, Try.ntmps55
  go_wp2_with fail
  go_loopw [3, 11] (fun q i wr => ∃ k : Nat, k ≤ N ∧ i = .int .i64 k ∧ q = .int .i64 ((manyT (qsP (qs.take k)) : Nat) : Int) ∧ Hid (wr = w)) (fun _ i _ => N - (intOf i).toNat)
  case atStart => exact ⟨0, Nat.zero_le _, rfl, rfl, by first | exact hide rfl | exact hide trivial⟩
  case round =>
    obtain ⟨k, hk, rfl, rfl, hww⟩ := hrel
    have hww := unhide hww
    subst wr
    by_cases hlt : k < N
    · have hk2 : k < qs.length := by rw [← unhide HN]; exact hlt
      obtain ⟨b, off, hap, hc⟩ := (unhide R).at (j := k) (u := ptrQ qs[k]) (by rw [List.getElem?_map, List.getElem?_eq_getElem hk2]; rfl)
      subst hap
      have ST := hide (manyT_take qs k hk2)
      have hml : manyT (qsP (qs.take k)) ≤ 1000 := by have h1 := manyT_le (qsP (qs.take k)); rw [qsP, List.length_map, List.length_take] at h1; exact Nat.le_trans h1 (by omega)
      generalize qs[k] = q at *
      cases q with
      | none =>
        unfold ptrQ at hc
        simp only [Option.map_none] at hc
        have ST2 := hide (show manyT (qsP (qs.take (k + 1))) = manyT (qsP (qs.take k)) from unhide ST)
        go_wp2_with fail
        go_roundw
        case rel => exact ⟨k + 1, by omega, by go_num, by rw [unhide ST2], by first | exact hide rfl | exact hide trivial⟩
        case measure => simp [intOf]; omega
      | some p =>
        unfold ptrQ at hc
        simp only [Option.map_some] at hc
        have ST2 := hide (show manyT (qsP (qs.take (k + 1))) = manyT (qsP (qs.take k)) + 1 from unhide ST)
        generalize manyT (qsP (qs.take k)) = mm at *
        go_wp2_with fail
        go_roundw
        case rel => exact ⟨k + 1, by omega, by go_num, by rw [unhide ST2]; go_num, by first | exact hide rfl | exact hide trivial⟩
        case measure => simp [intOf]; omega
    · obtain rfl : k = N := by omega
      have Z := hide (show qs.take k = qs from List.take_of_length_le (by rw [← unhide HN]; exact Nat.le_refl _))
      go_wp2_with fail
      go_ret
      exact ⟨ret_int (by rw [unhide Z]), rfl⟩
end Go.Proofs.Ytbhkmmdcdfjbkaa
