/-
  The specification's tests of versions: one, how two stand.
-/
import Derived.Test.YtdnneomdokcpeaaVrL
import Derived.Test.YtdnneomdokcpeaaTakes
namespace Go.Proofs.Ytdnneomdokcpeaa
open Go.RowKit

theorem vs_l01In (n a b : Int) (w : World) : Calls Try.prog 35 #[.int .i64 n, .int .i64 a, .int .i64 b] w fun e w' => e = .returned (.bool (decide (a ≤ n) && decide (n ≤ b))) ∧ w' = w := by
  by_cases h : a ≤ n
  · have E := hide (show decide (n ≤ b) = (decide (a ≤ n) && decide (n ≤ b)) by rw [decide_eq_true h]; rfl)
    go_enter Try.func35, Try.ntmps35
    go_wp2_with fail
    go_ret
    exact ⟨ret_bool (unhide E), rfl⟩
  · have E := hide (show false = (decide (a ≤ n) && decide (n ≤ b)) by rw [decide_eq_false h]; rfl)
    go_enter Try.func35, Try.ntmps35
    go_wp2_with fail
    go_ret
    exact ⟨ret_bool (unhide E), rfl⟩
theorem vs_l04Key (k : ByteArray) (w : World) : Calls Try.prog 76 #[.string k] w fun e w' => e = .returned (.bool (keyK k)) ∧ w' = w := by
  by_cases h : 0 < k.size
  · have E := hide (show decide ((k.size : Int) ≤ 40) = keyK k by unfold keyK; rw [decide_eq_decide]; omega)
    go_enter Try.func76, Try.ntmps76
    go_wp2_with fail
    go_ret
    exact ⟨ret_bool (unhide E), rfl⟩
  · have E := hide (show false = keyK k by unfold keyK; rw [decide_eq_false]; omega)
    go_enter Try.func76, Try.ntmps76
    go_wp2_with fail
    go_ret
    exact ⟨ret_bool (unhide E), rfl⟩
theorem vs_ne {a b : ByteArray} (h : ¬ a = b) : (a.toList == b.toList) = false := by
  cases hq : (a.toList == b.toList) with
  | false => rfl
  | true =>
    refine absurd ?_ h
    have e : a.toList = b.toList := by simpa using hq
    rw [ByteArray.toList_eq, ByteArray.toList_eq] at e
    cases a
    cases b
    simp_all
set_option maxHeartbeats 2000000 in
theorem l06Right_any (d : VerD) (w : World) : Calls Try.prog 64 #[vv d] w fun e w' => e = .returned (.bool (verK d)) ∧ Below w.heap.size w w' := by
  obtain ⟨k, t, v, g⟩ := d
  unfold vv
  have B0 := hide (show Below w.heap.size w (w.alloc (.cells #[.string k, .int .i64 t, .string v, .bool g] 52)) from (Below.refl _ _).alloc (Nat.le_refl _) _)
  have E := hide (show ∀ a c : Bool, keyK k = a → idK t = c → (a && decide (v.size ≤ 100) && c && (!g || v.toList.isEmpty)) = verK ⟨k, t, v, g⟩ from fun a c ha hc => by subst ha hc; rfl)
  have S1 := hide (vs_l04Key k)
  have S3 := hide (show ∀ w, Calls Try.prog 35 #[.int .i64 t, .int .i64 0, .int .i64 1000] w fun e w' => e = .returned (.bool (idK t)) ∧ w' = w from fun w => by
    have := vs_l01In t 0 1000 w
    rw [show (decide (0 ≤ t) && decide (t ≤ 1000)) = idK t by unfold idK; rw [Bool.decide_and]] at this
    exact this)
  generalize hka : keyK k = ka at *
  generalize hia : idK t = ia at *
  replace E := hide (unhide E ka ia rfl rfl)
  generalize verK ⟨k, t, v, g⟩ = R at *
  clear hka hia
  cases ka
  · have F := hide (show false = R by rw [← unhide E]; simp)
    clear E
    go_enter Try.func64, Try.ntmps64
    go_wp2_with (go_at_call 76; refine (unhide S1 _).mono ?_; rintro e w1 ⟨rfl, rfl⟩)
    go_ret
    exact ⟨ret_bool (unhide F), unhide B0⟩
  · by_cases hv : v.size ≤ 100
    · have hv' : (v.size : Int) ≤ 100 := by omega
      cases g
      · have F := hide (show ia = R by rw [← unhide E]; simp [hv])
        clear E
        go_enter Try.func64, Try.ntmps64
        go_wp2_with (first | (go_at_call 76; refine (unhide S1 _).mono ?_; rintro e w1 ⟨rfl, rfl⟩) | (go_at_call 35; refine (unhide S3 _).mono ?_; rintro e w1 ⟨rfl, rfl⟩))
        go_ret
        exact ⟨ret_bool (unhide F), unhide B0⟩
      · cases hz : v.toList.isEmpty
        · have F := hide (show false = R by rw [← unhide E]; simp [hz])
          clear E
          go_enter Try.func64, Try.ntmps64
          go_wp2_with (first | (go_at_call 76; refine (unhide S1 _).mono ?_; rintro e w1 ⟨rfl, rfl⟩) | (go_at_call 35; refine (unhide S3 _).mono ?_; rintro e w1 ⟨rfl, rfl⟩))
          go_ret
          exact ⟨ret_bool (unhide F), unhide B0⟩
        · have F := hide (show ia = R by rw [← unhide E]; simp [hv, hz])
          clear E
          go_enter Try.func64, Try.ntmps64
          go_wp2_with (first | (go_at_call 76; refine (unhide S1 _).mono ?_; rintro e w1 ⟨rfl, rfl⟩) | (go_at_call 35; refine (unhide S3 _).mono ?_; rintro e w1 ⟨rfl, rfl⟩))
          go_ret
          exact ⟨ret_bool (unhide F), unhide B0⟩
    · have hv' : ¬ (v.size : Int) ≤ 100 := by omega
      have F := hide (show false = R by rw [← unhide E]; simp [hv])
      clear E
      go_enter Try.func64, Try.ntmps64
      go_wp2_with (go_at_call 76; refine (unhide S1 _).mono ?_; rintro e w1 ⟨rfl, rfl⟩)
      go_ret
      exact ⟨ret_bool (unhide F), unhide B0⟩
set_option maxHeartbeats 2000000 in
theorem l06Before_any (a b : VerD) (w : World) : Calls Try.prog 65 #[vv a, vv b] w fun e w' => e = .returned (.bool (ltV a b)) ∧ Below w.heap.size w w' := by
  obtain ⟨k, t, v, g⟩ := a
  obtain ⟨k', t', v', g'⟩ := b
  unfold vv
  have B0 := hide (show Below w.heap.size w ((w.alloc (.cells #[.string k, .int .i64 t, .string v, .bool g] 52)).alloc (.cells #[.string k', .int .i64 t', .string v', .bool g'] 52)) from ((Below.refl _ _).alloc (Nat.le_refl _) _).alloc (by simp) _)
  by_cases h : k = k'
  · subst h
    have F := hide (show decide (t < t') = ltV ⟨k, t, v, g⟩ ⟨k, t', v', g'⟩ by unfold ltV; rw [ltK_irr]; simp)
    generalize ltV ⟨k, t, v, g⟩ ⟨k, t', v', g'⟩ = R at *
    go_enter Try.func65, Try.ntmps65
    go_wp2_with fail
    go_ret
    exact ⟨ret_bool (unhide F), unhide B0⟩
  · have F := hide (show Op.bytesLess k.toList k'.toList = ltV ⟨k, t, v, g⟩ ⟨k', t', v', g'⟩ by unfold ltV ltK; simp [h])
    generalize ltV ⟨k, t, v, g⟩ ⟨k', t', v', g'⟩ = R at *
    have hne := vs_ne h
    go_enter Try.func65, Try.ntmps65
    go_wp2_with fail
    go_ret
    exact ⟨ret_bool (unhide F), unhide B0⟩
end Go.Proofs.Ytdnneomdokcpeaa
