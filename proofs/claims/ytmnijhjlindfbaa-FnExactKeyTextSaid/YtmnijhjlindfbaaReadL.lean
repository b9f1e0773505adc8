/-
  The walk of l01Read.
-/
import Derived.Test.YtmnijhjlindfbaaRead
namespace Go.Proofs.Ytmnijhjlindfbaa
open Go.RowKit

/-- What l01Read answers. -/
def rdV : Option (List Int × Nat) → Value
  | some (o, p) => .tuple #[.string (strOfNums o), .int .i64 p, .bool (decide (o.length ≤ 100))]
  | none => .tuple #[.string ByteArray.empty, .int .i64 0, .bool false]
theorem rdV_some (o : List Int) (k : Nat) : rdV (some (o, k + 2)) = .tuple #[.string (strOfNums o), .int .i64 ((k : Int) + 2), .bool (decide ((o.length : Int) ≤ 100))] := by
  have e : decide ((o.length : Int) ≤ 100) = decide (o.length ≤ 100) := by rw [Bool.eq_iff_iff]; simp; omega
  rw [e]; rfl
set_option maxHeartbeats 2000000 in
theorem l01Read_any (a : Option Addr) (n c k0 : Nat) (xs : List Int) (w : World) (hn : n ≤ 1048576) (h1 : Row w a n xs) (hk0 : k0 ≤ n) :
    Calls Try.prog 37 #[.slice a n c, .int .i64 k0] w fun e w' => e = .returned (rdV (rd (xs.drop k0) [] k0)) ∧ Below w.heap.size w w' := by
  obtain ⟨i0, hi, hz0, hz1, hz2⟩ := info_parts Try.infoU8
  have L1 := hide h1.1
  have H1 := hide h1.2
  clear h1
  go_enter Try.func37, Try.ntmps37
  go_wp2_with fail
  go_loopw [1, 7] (fun i v wr => ∃ (k : Nat) (o : List Int), k ≤ n ∧ i = .int .i64 k ∧ o.length ≤ k ∧ Owns wr w.heap.size v o ∧ Below w.heap.size w wr ∧ Hid (rd (xs.drop k0) [] k0 = rd (xs.drop k) o k)) (fun i _ _ => n - (intOf i).toNat)
  case atStart => exact ⟨k0, [], hk0, rfl, by simp, World.ownsRow_lit _ _ _ (Nat.le_refl _) (by unfold maxLen; simp) rfl, (Below.refl _ _).alloc (Nat.le_refl _) _, rfl⟩
  case round =>
    obtain ⟨k, o, hk, rfl, hol, ho, hb, he⟩ := hrel
    have hsz : w.heap.size ≤ wr.heap.size := hb.size
    by_cases hlt : k + 1 < n
    · obtain ⟨b, off, rfl, e1⟩ := unhide H1 k (by omega)
      obtain ⟨b', off', e, e2⟩ := unhide H1 (k + 1) hlt
      cases e
      have c1 := (hb.cell (p := ⟨b, off + k, none⟩) (cell_lt e1)).trans e1
      have c2 := (hb.cell (p := ⟨b, off + (k + 1), none⟩) (cell_lt e2)).trans e2
      have hl1 : k + 1 < xs.length := by rw [unhide L1]; exact hlt
      have G1 := hide (fun (h : ¬ xs.getD k 0 = 0) => (unhide he).trans (rd_lit (by omega) h))
      have G2 := hide (fun (h : xs.getD k 0 = 0) (h1 : xs.getD (k + 1) 0 = 1) => (unhide he).trans (rd_stop hl1 h h1))
      have G3 := hide (fun (h : xs.getD k 0 = 0) (h1 : xs.getD (k + 1) 0 = 255) => (unhide he).trans (rd_more hl1 h h1))
      have G4 := hide (fun (h : xs.getD k 0 = 0) (h1 : ¬ xs.getD (k + 1) 0 = 1) (h2 : ¬ xs.getD (k + 1) 0 = 255) => (unhide he).trans (rd_bad hl1 h h1 h2))
      generalize hx : xs.getD k 0 = x at *
      generalize hy : xs.getD (k + 1) 0 = y at *
      clear e1 e2 hx hy hl1
      by_cases hx0 : x = 0
      · subst hx0
        by_cases hy1 : y = 1
        · subst hy1
          have E := hide (unhide G2 rfl rfl)
          have hconv := conv_owns ho
          obtain ⟨a1, c1, rfl, _, _, _, _⟩ := mine_of_owns ho
          clear ho
          have hlo : o.length ≤ 1048576 := by omega
          go_wp2_with fail
          go_ret3
          exact ⟨by rw [unhide E, rdV_some]; rfl, hb⟩
        by_cases hy2 : y = 255
        · subst hy2
          have E := hide (unhide G3 rfl rfl)
          go_wp2_with (at_builtin; refine wpList_append_own _ rfl _ _ 23 rfl w.heap.size 5 i0 (.int .u8 0) 1 1 Try.underlying23 hi hz0 hz1 hz2 rfl (by decide) _ _ _ rfl (ho.alloc _) ⟨wr.heap.size, 0, none⟩ 1 1 [.int .u8 0] rfl rfl (cell_one_new _ _ _) (one_u8 _) (by unfold maxLen; omega) (by omega) (by simp; omega) ?_)
          intro v1 w1 hown1 hgrow1 _
          have O1 := hide (owns_app hown1)
          have B1 := hide (below_app hb hsz ho hgrow1)
          clear ho hown1 hgrow1 hb hsz
          go_wp2_with fail
          go_roundw
          case rel => exact ⟨k + 2, o ++ [0], by omega, by go_num, by simp; omega, unhide O1, unhide B1, unhide E⟩
          case measure => simp [intOf]; omega
        · have E := hide (unhide G4 rfl hy1 hy2)
          have q1 : (y == 1) = false := by simp [hy1]
          have q2 : (y == 255) = false := by simp [hy2]
          clear hy1 hy2
          go_wp2_with fail
          go_ret3
          exact ⟨by rw [unhide E]; rfl, hb⟩
      · have E := hide (unhide G1 hx0)
        have q1 : (x != 0) = true := by simp [hx0]
        clear hx0
        go_wp2_with (at_builtin; refine wpList_append_own _ rfl _ _ 23 rfl w.heap.size 5 i0 (.int .u8 0) 1 1 Try.underlying23 hi hz0 hz1 hz2 rfl (by decide) _ _ _ rfl (ho.alloc _) ⟨wr.heap.size, 0, none⟩ 1 1 [.int .u8 x] rfl rfl (cell_one_new _ _ _) (one_u8 _) (by unfold maxLen; omega) (by omega) (by simp; omega) ?_)
        intro v1 w1 hown1 hgrow1 _
        have O1 := hide (owns_app hown1)
        have B1 := hide (below_app hb hsz ho hgrow1)
        clear ho hown1 hgrow1 hb hsz
        go_wp2_with fail
        go_roundw
        case rel => exact ⟨k + 1, o ++ [x], by omega, by go_num, by simp; omega, unhide O1, unhide B1, unhide E⟩
        case measure => simp [intOf]; omega
    · have E := hide ((unhide he).trans (rd_end (by rw [unhide L1]; omega)))
      go_wp2_with fail
      go_ret3
      exact ⟨by rw [unhide E]; rfl, hb⟩
end Go.Proofs.Ytmnijhjlindfbaa
