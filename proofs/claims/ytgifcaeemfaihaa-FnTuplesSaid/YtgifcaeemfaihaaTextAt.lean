/-
  The walk of textAt.
-/
import Derived.Test.YtgifcaeemfaihaaRead
set_option maxRecDepth 100000
namespace Go.Proofs.Ytgifcaeemfaihaa
open Go.RowKit

/-- What textAt answers. -/
def taV : Option (List Int × Nat) → Value
  | some (o, p) => .tuple #[.string (strOfNums o), .int .i64 p, .bool true]
  | none => .tuple #[.string ByteArray.empty, .int .i64 0, .bool false]
set_option maxHeartbeats 2000000 in
theorem textAt_any (a : Option Addr) (n c k0 : Nat) (xs : List Int) (w : World) (hn : n ≤ 1048576) (h1 : Row w a n xs) (hk0 : k0 ≤ n) :
    Calls Try.prog 45 #[.slice a n c, .int .i64 k0] w fun e w' => e = .returned (taV (short (rd (xs.drop k0) [] k0))) ∧ Below w.heap.size w w' := by
  obtain ⟨i0, hi, hz0, hz1, hz2⟩ := info_parts Try.infoU8
  have L1 := hide h1.1
  have H1 := hide h1.2
  clear h1
  go_enter Try.func45, Try.ntmps45
  go_wp2_with fail
  go_loopw [1, 7, 8, 9] (fun i v _ _ wr => ∃ (k : Nat) (o : List Int), k ≤ n ∧ i = .int .i64 k ∧ o.length ≤ 100 ∧ Owns wr w.heap.size v o ∧ Below w.heap.size w wr ∧ Hid (short (rd (xs.drop k0) [] k0) = short (rd (xs.drop k) o k))) (fun i _ _ _ _ => n - (intOf i).toNat)
  case atStart => exact ⟨k0, [], hk0, rfl, by simp, World.ownsRow_nil _ _ _ _, Below.refl _ _, rfl⟩
  case round =>
    obtain ⟨k, o, hk, rfl, hol, ho, hb, he⟩ := hrel
    have hsz : w.heap.size ≤ wr.heap.size := hb.size
    by_cases hlt : k < n
    · obtain ⟨b, off, rfl, e1⟩ := unhide H1 k (by omega)
      have c1 := (hb.cell (p := ⟨b, off + k, none⟩) (cell_lt e1)).trans e1
      have hl1 : k < xs.length := by rw [unhide L1]; exact hlt
      have G1 := hide (fun (h : ¬ xs.getD k 0 = 0) => (unhide he).trans (congrArg short (rd_lit hl1 h)))
      by_cases hx0 : xs.getD k 0 = 0
      · have G0 := hide (fun (h : n ≤ k + 1) => (unhide he).trans ((congrArg short (rd_end (by rw [unhide L1]; exact h))).trans short_none))
        by_cases hl2 : k + 1 < n
        · obtain ⟨b', off', e, e2⟩ := unhide H1 (k + 1) hl2
          cases e
          have c2 := (hb.cell (p := ⟨b, off + (k + 1), none⟩) (cell_lt e2)).trans e2
          have hl3 : k + 1 < xs.length := by rw [unhide L1]; exact hl2
          have G2 := hide (fun (h1 : xs.getD (k + 1) 0 = 1) => (unhide he).trans ((congrArg short (rd_stop hl3 hx0 h1)).trans (short_some hol)))
          have G3 := hide (fun (h1 : xs.getD (k + 1) 0 = 255) => (unhide he).trans (congrArg short (rd_more hl3 hx0 h1)))
          have G4 := hide (fun (h1 : ¬ xs.getD (k + 1) 0 = 1) (h2 : ¬ xs.getD (k + 1) 0 = 255) => (unhide he).trans ((congrArg short (rd_bad hl3 hx0 h1 h2)).trans short_none))
          rw [hx0] at c1
          generalize hy : xs.getD (k + 1) 0 = y at *
          clear e1 e2 hy hl1 hl3 hx0 G1
          by_cases hy1 : y = 1
          · subst hy1
            have E := hide (unhide G2 rfl)
            have hconv := conv_owns ho
            obtain ⟨a1, c1', rfl, _, _, _, _⟩ := mine_of_owns ho
            clear ho
            go_wp2_with fail
            go_ret3
            exact ⟨by rw [unhide E]; rfl, hb⟩
          by_cases hy2 : y = 255
          · subst hy2
            have E := hide (unhide G3 rfl)
            by_cases hfull : o.length = 100
            · have E2 := hide ((unhide E).trans (short_over (by simp [hfull])))
              obtain ⟨a1, c1', rfl, _, _, _, _⟩ := mine_of_owns ho
              clear ho
              have hf2 : ((o.length : Int) == 100) = true := by simp [hfull]
              clear hfull
              go_wp2_with fail
              go_ret3
              exact ⟨by rw [unhide E2]; rfl, hb⟩
            · have hf2 : ((o.length : Int) == 100) = false := by simp; omega
              have ho' := ho
              obtain ⟨a1, c1', rfl, _, _, _, _⟩ := mine_of_owns ho
              go_wp2_with (at_builtin; refine wpList_append_own _ rfl _ _ 22 rfl w.heap.size 5 i0 (.int .u8 0) 1 1 Try.underlying22 hi hz0 hz1 hz2 rfl (by decide) _ _ _ rfl (ho'.alloc _) ⟨wr.heap.size, 0, none⟩ 1 1 [.int .u8 0] rfl rfl (cell_one_new _ _ _) (one_u8 _) (by unfold maxLen; omega) (by omega) (by simp; omega) ?_)
              intro v1 w1 hown1 hgrow1 _
              have O1 := hide (owns_app hown1)
              have B1 := hide (below_app hb hsz ho' hgrow1)
              clear ho ho' hown1 hgrow1 hb hsz
              go_wp2_with fail
              go_roundw
              case rel => exact ⟨k + 2, o ++ [0], by omega, by go_num, by simp; omega, unhide O1, unhide B1, unhide E⟩
              case measure => simp [intOf]; omega
          · have E := hide (unhide G4 hy1 hy2)
            have q1 : (y == 1) = false := by simp [hy1]
            have q2 : (y != 255) = true := by simp [hy2]
            clear hy1 hy2
            go_wp2_with fail
            go_ret3
            exact ⟨by rw [unhide E]; rfl, hb⟩
        · have E := hide (unhide G0 (by omega))
          rw [hx0] at c1
          have q1 : ((k : Int) + 1 == (n : Int)) = true := by simp; omega
          clear e1 hx0 G1 G0
          go_wp2_with fail
          go_ret3
          exact ⟨by rw [unhide E]; rfl, hb⟩
      · have E := hide (unhide G1 hx0)
        have q1 : (xs.getD k 0 == 0) = false := beq_eq_false_iff_ne.2 hx0
        generalize hx : xs.getD k 0 = x at *
        clear e1 hx hx0 hl1 G1
        by_cases hfull : o.length = 100
        · have E2 := hide ((unhide E).trans (short_over (by simp [hfull])))
          obtain ⟨a1, c1', rfl, _, _, _, _⟩ := mine_of_owns ho
          clear ho
          have hf2 : ((o.length : Int) == 100) = true := by simp [hfull]
          clear hfull
          go_wp2_with fail
          go_ret3
          exact ⟨by rw [unhide E2]; rfl, hb⟩
        · have hf2 : ((o.length : Int) == 100) = false := by simp; omega
          have ho' := ho
          obtain ⟨a1, c1', rfl, _, _, _, _⟩ := mine_of_owns ho
          go_wp2_with (at_builtin; refine wpList_append_own _ rfl _ _ 22 rfl w.heap.size 5 i0 (.int .u8 0) 1 1 Try.underlying22 hi hz0 hz1 hz2 rfl (by decide) _ _ _ rfl (ho'.alloc _) ⟨wr.heap.size, 0, none⟩ 1 1 [.int .u8 x] rfl rfl (cell_one_new _ _ _) (one_u8 _) (by unfold maxLen; omega) (by omega) (by simp; omega) ?_)
          intro v1 w1 hown1 hgrow1 _
          have O1 := hide (owns_app hown1)
          have B1 := hide (below_app hb hsz ho' hgrow1)
          clear ho ho' hown1 hgrow1 hb hsz
          go_wp2_with fail
          go_roundw
          case rel => exact ⟨k + 1, o ++ [x], by omega, by go_num, by simp; omega, unhide O1, unhide B1, unhide E⟩
          case measure => simp [intOf]; omega
    · have E := hide ((unhide he).trans ((congrArg short (rd_end (xs := xs) (o := o) (k := k) (by rw [unhide L1]; omega))).trans short_none))
      go_wp2_with fail
      go_ret3
      exact ⟨by rw [unhide E]; rfl, hb⟩
end Go.Proofs.Ytgifcaeemfaihaa
