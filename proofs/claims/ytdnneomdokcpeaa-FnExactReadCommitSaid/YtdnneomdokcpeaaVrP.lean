/-
  The program's tests of versions: one, a list, the writes of a session.
-/
import Derived.Test.YtdnneomdokcpeaaVrO
namespace Go.Proofs.Ytdnneomdokcpeaa
open Go.RowKit

set_option maxHeartbeats 1000000 in
theorem versionOK_any (d : VerD) (w : World) : Calls Try.prog 68 #[vv d] w fun e w' => e = .returned (.bool (verK d)) ∧ Below w.heap.size w w' := by
  obtain ⟨k, t, v, g⟩ := d
  unfold vv
  have B0 := hide (show Below w.heap.size w (w.alloc (.cells #[.string k, .int .i64 t, .string v, .bool g] 52)) from (Below.refl _ _).alloc (Nat.le_refl _) _)
  have E := hide (show ∀ a b c : Bool, keyK k = a → valK v = b → idK t = c → (a && b && c && (!g || v.toList.isEmpty)) = verK ⟨k, t, v, g⟩ from fun a b c ha hb hc => by subst ha hb hc; rfl)
  have S1 := hide (keyOK_any k)
  have S2 := hide (valueOK_any v)
  have S3 := hide (idOK_any t)
  generalize hka : keyK k = ka at *
  generalize hva : valK v = va at *
  generalize hia : idK t = ia at *
  replace E := hide (unhide E ka va ia rfl rfl rfl)
  generalize verK ⟨k, t, v, g⟩ = R at *
  by_cases h : (g && !v.toList.isEmpty) = true
  · obtain ⟨h1, h2⟩ := Bool.and_eq_true_iff.1 h
    have h2' : v.toList.isEmpty = false := by simpa using h2
    subst h1
    replace E := hide (show false = R by rw [← unhide E, h2']; simp)
    go_enter Try.func68, Try.ntmps68
    go_wp2_with fail
    go_ret
    exact ⟨ret_bool (unhide E), unhide B0⟩
  · replace E := hide (show (ka && va && ia) = R by
      rw [← unhide E]
      cases g <;> cases hv : v.toList.isEmpty <;> simp_all)
    have hg : g = false ∨ (g = true ∧ v.toList.isEmpty = true) := by
      cases g <;> cases hv : v.toList.isEmpty <;> simp_all
    clear h
    cases ka
    · replace E := hide (show false = R by rw [← unhide E]; simp)
      rcases hg with rfl | ⟨rfl, hv⟩
      all_goals
        go_enter Try.func68, Try.ntmps68
        go_wp2_with (go_at_call 77; refine (unhide S1 _).mono ?_; rintro e w1 ⟨rfl, rfl⟩)
        go_ret
        exact ⟨ret_bool (unhide E), unhide B0⟩
    · cases va
      · replace E := hide (show false = R by rw [← unhide E]; simp)
        rcases hg with rfl | ⟨rfl, hv⟩
        all_goals
          go_enter Try.func68, Try.ntmps68
          go_wp2_with (first | (go_at_call 77; refine (unhide S1 _).mono ?_; rintro e w1 ⟨rfl, rfl⟩) | (go_at_call 78; refine (unhide S2 _).mono ?_; rintro e w1 ⟨rfl, rfl⟩))
          go_ret
          exact ⟨ret_bool (unhide E), unhide B0⟩
      · replace E := hide (show ia = R by rw [← unhide E]; simp)
        rcases hg with rfl | ⟨rfl, hv⟩
        all_goals
          go_enter Try.func68, Try.ntmps68
          go_wp2_with (first | (go_at_call 77; refine (unhide S1 _).mono ?_; rintro e w1 ⟨rfl, rfl⟩) | (go_at_call 78; refine (unhide S2 _).mono ?_; rintro e w1 ⟨rfl, rfl⟩) | (go_at_call 37; refine (unhide S3 _).mono ?_; rintro e w1 ⟨rfl, rfl⟩))
          go_ret
          exact ⟨ret_bool (unhide E), unhide B0⟩
end Go.Proofs.Ytdnneomdokcpeaa
