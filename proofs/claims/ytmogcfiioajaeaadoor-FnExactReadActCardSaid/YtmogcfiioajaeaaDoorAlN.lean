/-
  spec.l00Number: the number that a word tells.
-/
import Derived.Test.YtmogcfiioajaeaaDoorAlX
namespace Go.Proofs.YtmogcfiioajaeaaDoor
open Go.RowKit

theorem dec_lt17 {t : List UInt8} {m : Nat} (h : Lib.decFrom 0 t = some m) (hl : t.length ≤ 17) : m < 100000000000000000 := by
  have h1 := Lib.decFrom_lt t 0 m h
  have h2 : (10 : Nat) ^ t.length ≤ 10 ^ 17 := Nat.pow_le_pow_right (by omega) hl
  have h3 : (10 : Nat) ^ 17 = 100000000000000000 := by decide
  omega
theorem wrap_i64 {n : Int} (h1 : -9223372036854775808 ≤ n) (h2 : n ≤ 9223372036854775807) : IntKind.i64.wrap n = n := by
  rw [IntKind.wrap_i64]
  omega
def numR (o : Option Int) : Value := match o with
  | some v => .tuple #[.int .i64 v, .bool true]
  | none => .tuple #[.int .i64 0, .bool false]
set_option maxRecDepth 100000 in
set_option maxHeartbeats 4000000 in
theorem l00Number_any (s : ByteArray) (w : World) (hs : s.size ≤ 65536) :
    Calls Tryd.prog 19 #[.string s] w fun e w' => e = .returned (numR (numV s.data.toList)) ∧ w' = w := by
  have hlen : s.data.toList.length = s.size := by rw [Array.length_toList]; rfl
  go_enter Tryd.func19, Tryd.ntmps19
  by_cases hneg : negL s.data.toList = true
  · have hp : 0 < s.size := by
      rcases Nat.eq_zero_or_pos s.size with z | z
      · unfold negL at hneg
        rw [List.eq_nil_of_length_eq_zero (hlen.trans z)] at hneg
        cases hneg
      · exact z
    have h45 : s[0] = 45 := by
      unfold negL at hneg
      have h := of_decide_eq_true hneg
      rw [List.head?_eq_getElem?, List.getElem?_eq_getElem (by rw [hlen]; exact hp)] at h
      injection h
    have hT : (s.extract 1 s.size).data.toList = magL s.data.toList := by
      rw [Lib.extract_to_end]
      unfold magL
      rw [if_pos hneg, List.drop_one]
    have g1 : (0 : Int) < (s.size : Int) := by omega
    have g2 : ((s[0].toNat : Int) == 45) = true := by rw [h45]; rfl
    have g3 : (1 : Int) ≤ (s.size : Int) := by omega
    have NG := hide hneg
    clear h45 hneg hlen
    go_upto_region 5 with fail
    generalize s.extract 1 s.size = T at *
    have hlT : T.data.toList.length = T.size := by rw [Array.length_toList]; rfl
    clear g1 g2 g3
    by_cases hsh : shutL s.data.toList = true
    · have RN := hide (show numV s.data.toList = none by unfold numV; rw [if_pos hsh])
      unfold shutL at hsh
      rw [← hT] at hsh
      have hsh := of_decide_eq_true hsh
      rw [hlT, unhide NG] at hsh
      clear NG hT
      by_cases h0 : T.size = 0
      · have g0 : ((T.size : Int) == 0) = true := by rw [beq_iff_eq]; omega
        clear hsh hlT
        go_wp2_with fail
        go_ret2
        exact ⟨by rw [unhide RN]; rfl, rfl⟩
      have g0 : ((T.size : Int) == 0) = false := by rw [beq_eq_false_iff_ne]; omega
      by_cases h18 : 18 < T.size
      · have g1 : (18 : Int) < (T.size : Int) := by omega
        clear hsh hlT
        go_wp2_with fail
        go_ret2
        exact ⟨by rw [unhide RN]; rfl, rfl⟩
      have g1 : ¬ (18 : Int) < (T.size : Int) := by omega
      have hp : 0 < T.size := by omega
      have hh : T.data.toList.head? = some T[0] := by rw [List.head?_eq_getElem?, List.getElem?_eq_getElem (by rw [hlT]; exact hp)]; rfl
      rw [hh] at hsh
      obtain ⟨h48, h1⟩ : T[0] = 48 ∧ (1 < T.size ∨ true = true) := by
        rcases hsh with h | h | ⟨h, h'⟩
        · exact absurd h h0
        · exact absurd h h18
        · injection h with h
          exact ⟨h, h'⟩
      have g2 : ((T[0].toNat : Int) == 48) = true := by rw [h48]; rfl
      clear hsh hlT hh h48
      by_cases h1' : 1 < T.size
      · have g3 : (1 : Int) < (T.size : Int) := by omega
        go_wp2_with fail
        go_ret2
        exact ⟨by rw [unhide RN]; rfl, rfl⟩
      · have g3 : ¬ (1 : Int) < (T.size : Int) := by omega
        go_wp2_with fail
        go_ret2
        exact ⟨by rw [unhide RN]; rfl, rfl⟩
    have hsh2 : shutL s.data.toList = false := by simpa using hsh
    have NV := hide (show numV s.data.toList = (Lib.decFrom 0 T.data.toList).map fun (m : Nat) => if true = true then -(m : Int) else (m : Int) by unfold numV; rw [if_neg hsh, ← hT, unhide NG])
    unfold shutL at hsh2
    rw [← hT] at hsh2
    have hsh2 := of_decide_eq_false hsh2
    rw [hlT, unhide NG] at hsh2
    have h0 : ¬ T.size = 0 := fun e => hsh2 (.inl e)
    have h18 : ¬ 18 < T.size := fun e => hsh2 (.inr (.inl e))
    have g0 : ((T.size : Int) == 0) = false := by rw [beq_eq_false_iff_ne]; omega
    have g1 : ¬ (18 : Int) < (T.size : Int) := by omega
    have hp : 0 < T.size := by omega
    have hh : T.data.toList.head? = some T[0] := by rw [List.head?_eq_getElem?, List.getElem?_eq_getElem (by rw [hlT]; exact hp)]; rfl
    rw [hh] at hsh2
    have G := hide (show ((T[0].toNat : Int) == 48) = false ∨ (((T[0].toNat : Int) == 48) = true ∧ ¬ (1 : Int) < (T.size : Int) ∧ true = false) by
      by_cases h48 : T[0] = 48
      · right
        refine ⟨by rw [h48]; rfl, ?_, ?_⟩
        · intro h
          exact hsh2 (.inr (.inr ⟨by rw [h48], .inl (by omega)⟩))
        · exact absurd (.inr (.inr ⟨by rw [h48], .inr rfl⟩)) hsh2
      · left
        rw [beq_eq_false_iff_ne]
        intro e
        apply h48
        have e2 : T[0].toNat = 48 := by omega
        exact UInt8.toNat_inj.1 e2)
    clear hsh hsh2 hh NG hT
    have LT := hide hlT
    clear hlT
    rcases unhide G with g2 | ⟨g2, g3, g4⟩
    · clear G
      go_wp2_with fail
      clear g0 g2
      go_loopw [5, 6] (fun nv iv wr => ∃ (k n : Nat), k ≤ T.size ∧ nv = .int .i64 (n : Nat) ∧ iv = .int .i64 (k : Nat) ∧ Hid (Lib.decFrom 0 (T.data.toList.take k) = some n) ∧ wr = w) (fun _ iv _ => T.size - (intOf iv).toNat)
      case atStart => exact ⟨0, 0, Nat.zero_le _, rfl, rfl, hide (by rw [List.take_zero]; rfl), rfl⟩
      case round =>
        obtain ⟨k, n, hk, rfl, rfl, hD, rfl⟩ := hrel
        by_cases hlt : k < T.size
        · have hki : (k : Int) < (T.size : Int) := by omega
          have hn := dec_lt17 (unhide hD) (by rw [List.length_take]; omega)
          have hTk : T.data.toList[k]? = some T[k] := by
            rw [List.getElem?_eq_getElem (by rw [unhide LT]; exact hlt)]
            rfl
          have h255 : T[k].toNat < 256 := T[k].toNat_lt
          by_cases hd : 48 ≤ T[k].toNat ∧ T[k].toNat ≤ 57
          · have g5 : ¬ (T[k].toNat : Int) < 48 := by omega
            have g6 : ¬ (57 : Int) < (T[k].toNat : Int) := by omega
            have hdv : Lib.digitVal T[k] = some (T[k].toNat - 48) := by unfold Lib.digitVal; rw [if_pos hd]
            have ND := hide (Lib.decFrom_take _ k 0 n T[k] _ (unhide hD) hTk hdv)
            have e1 : IntKind.i64.wrap ((n : Int) * 10) = (n : Int) * 10 := wrap_i64 (by omega) (by omega)
            have e2 : IntKind.i64.wrap ((n : Int) * 10 + (T[k].toNat : Int)) = (n : Int) * 10 + (T[k].toNat : Int) := wrap_i64 (by omega) (by omega)
            have e3 : IntKind.i64.wrap ((n : Int) * 10 + (T[k].toNat : Int) - 48) = (n : Int) * 10 + (T[k].toNat : Int) - 48 := wrap_i64 (by omega) (by omega)
            clear hTk hdv hD
            go_wp2_with fail
            go_roundw
            case rel => exact ⟨k + 1, n * 10 + (T[k].toNat - 48), by omega, by congr 1; omega, by go_num, ND, trivial⟩
            case measure => simp [intOf]; omega
          · have RN := hide (show numV s.data.toList = none by
              rw [unhide NV]
              cases hx : Lib.decFrom 0 T.data.toList with
              | none => rfl
              | some m =>
                obtain ⟨d, hdd⟩ := Lib.digit_of_decFrom _ _ _ hx k _ hTk
                obtain ⟨z1, z2, _⟩ := Lib.digitVal_eq hdd
                exact absurd ⟨z1, z2⟩ hd)
            clear hTk hD
            by_cases h48 : T[k].toNat < 48
            · have g5 : (T[k].toNat : Int) < 48 := by omega
              go_wp2_with fail
              go_ret2
              exact ⟨by rw [unhide RN]; rfl, rfl⟩
            · have g5 : ¬ (T[k].toNat : Int) < 48 := by omega
              have g6 : (57 : Int) < (T[k].toNat : Int) := by omega
              go_wp2_with fail
              go_ret2
              exact ⟨by rw [unhide RN]; rfl, rfl⟩
        · have hki : ¬ (k : Int) < (T.size : Int) := by omega
          have hD2 := unhide hD
          rw [List.take_of_length_le (by rw [unhide LT]; omega)] at hD2
          have hn := dec_lt18 hD2 (by rw [unhide LT]; omega)
          have RN := hide (show numV s.data.toList = some (-(n : Int)) by rw [unhide NV, hD2]; rfl)
          have e1 : IntKind.i64.wrap ((-1 : Int) * (n : Int)) = -(n : Int) := by rw [wrap_i64 (by omega) (by omega)]; omega
          clear hD hD2
          go_wp2_with fail
          go_ret2
          exact ⟨by rw [unhide RN]; rfl, rfl⟩
    · cases g4
  · have NG := hide (show negL s.data.toList = false by simpa using hneg)
    have FIRST := hide (show (s.size = 0) ∨ (0 < s.size ∧ ∃ h : 0 < s.size, ((s[0].toNat : Int) == 45) = false) by
      rcases Nat.eq_zero_or_pos s.size with z | z
      · exact .inl z
      · refine .inr ⟨z, z, ?_⟩
        rw [beq_eq_false_iff_ne]
        intro e
        apply hneg
        have e2 : s[0].toNat = 45 := by omega
        have e3 : s[0] = 45 := UInt8.toNat_inj.1 e2
        unfold negL
        rw [List.head?_eq_getElem?, List.getElem?_eq_getElem (by rw [hlen]; exact z)]
        exact decide_eq_true (congrArg some e3))
    have hT : s.data.toList = magL s.data.toList := by
      unfold magL
      rw [if_neg hneg]
    have hlT : s.data.toList.length = s.size := by rw [Array.length_toList]; rfl
    clear hneg hlen
    rcases unhide FIRST with z | ⟨z, z', g2⟩
    · have RN := hide (show numV s.data.toList = none by
        unfold numV shutL
        rw [← hT, hlT, z]
        rfl)
      have g1 : ¬ (0 : Int) < (s.size : Int) := by omega
      have g0 : ((s.size : Int) == 0) = true := by rw [beq_iff_eq]; omega
      clear hT hlT NG
      go_wp2_with fail
      go_ret2
      exact ⟨by rw [unhide RN]; rfl, rfl⟩
    have g1 : (0 : Int) < (s.size : Int) := by omega
    clear FIRST z
    go_upto_region 5 with fail
    clear g2 g1
    by_cases hsh : shutL s.data.toList = true
    · have RN := hide (show numV s.data.toList = none by unfold numV; rw [if_pos hsh])
      unfold shutL at hsh
      rw [← hT] at hsh
      have hsh := of_decide_eq_true hsh
      rw [hlT, unhide NG] at hsh
      clear NG hT
      by_cases h0 : s.size = 0
      · have g0 : ((s.size : Int) == 0) = true := by rw [beq_iff_eq]; omega
        clear hsh hlT
        go_wp2_with fail
        go_ret2
        exact ⟨by rw [unhide RN]; rfl, rfl⟩
      have g0 : ((s.size : Int) == 0) = false := by rw [beq_eq_false_iff_ne]; omega
      by_cases h18 : 18 < s.size
      · have g1 : (18 : Int) < (s.size : Int) := by omega
        clear hsh hlT
        go_wp2_with fail
        go_ret2
        exact ⟨by rw [unhide RN]; rfl, rfl⟩
      have g1 : ¬ (18 : Int) < (s.size : Int) := by omega
      have hp : 0 < s.size := by omega
      have hh : s.data.toList.head? = some s[0] := by rw [List.head?_eq_getElem?, List.getElem?_eq_getElem (by rw [hlT]; exact hp)]; rfl
      rw [hh] at hsh
      obtain ⟨h48, h1⟩ : s[0] = 48 ∧ (1 < s.size ∨ false = true) := by
        rcases hsh with h | h | ⟨h, h'⟩
        · exact absurd h h0
        · exact absurd h h18
        · injection h with h
          exact ⟨h, h'⟩
      have g2 : ((s[0].toNat : Int) == 48) = true := by rw [h48]; rfl
      clear hsh hlT hh h48
      by_cases h1' : 1 < s.size
      · have g3 : (1 : Int) < (s.size : Int) := by omega
        go_wp2_with fail
        go_ret2
        exact ⟨by rw [unhide RN]; rfl, rfl⟩
      · have g3 : ¬ (1 : Int) < (s.size : Int) := by omega
        rcases h1 with h | h
        · exact absurd h h1'
        · cases h
    have hsh2 : shutL s.data.toList = false := by simpa using hsh
    have NV := hide (show numV s.data.toList = (Lib.decFrom 0 s.data.toList).map fun (m : Nat) => if false = true then -(m : Int) else (m : Int) by unfold numV; rw [if_neg hsh, ← hT, unhide NG])
    unfold shutL at hsh2
    rw [← hT] at hsh2
    have hsh2 := of_decide_eq_false hsh2
    rw [hlT, unhide NG] at hsh2
    have h0 : ¬ s.size = 0 := fun e => hsh2 (.inl e)
    have h18 : ¬ 18 < s.size := fun e => hsh2 (.inr (.inl e))
    have g0 : ((s.size : Int) == 0) = false := by rw [beq_eq_false_iff_ne]; omega
    have g1 : ¬ (18 : Int) < (s.size : Int) := by omega
    have hp : 0 < s.size := by omega
    have hh : s.data.toList.head? = some s[0] := by rw [List.head?_eq_getElem?, List.getElem?_eq_getElem (by rw [hlT]; exact hp)]; rfl
    rw [hh] at hsh2
    have G := hide (show ((s[0].toNat : Int) == 48) = false ∨ (((s[0].toNat : Int) == 48) = true ∧ ¬ (1 : Int) < (s.size : Int) ∧ false = false) by
      by_cases h48 : s[0] = 48
      · right
        refine ⟨by rw [h48]; rfl, ?_, ?_⟩
        · intro h
          exact hsh2 (.inr (.inr ⟨by rw [h48], .inl (by omega)⟩))
        · rfl
      · left
        rw [beq_eq_false_iff_ne]
        intro e
        apply h48
        have e2 : s[0].toNat = 48 := by omega
        exact UInt8.toNat_inj.1 e2)
    clear hsh hsh2 hh NG hT
    have LT := hide hlT
    clear hlT
    rcases unhide G with g2 | ⟨g2, g3, g4⟩
    · clear G
      go_wp2_with fail
      clear g0 g2
      go_loopw [5, 6] (fun nv iv wr => ∃ (k n : Nat), k ≤ s.size ∧ nv = .int .i64 (n : Nat) ∧ iv = .int .i64 (k : Nat) ∧ Hid (Lib.decFrom 0 (s.data.toList.take k) = some n) ∧ wr = w) (fun _ iv _ => s.size - (intOf iv).toNat)
      case atStart => exact ⟨0, 0, Nat.zero_le _, rfl, rfl, hide (by rw [List.take_zero]; rfl), rfl⟩
      case round =>
        obtain ⟨k, n, hk, rfl, rfl, hD, rfl⟩ := hrel
        by_cases hlt : k < s.size
        · have hki : (k : Int) < (s.size : Int) := by omega
          have hn := dec_lt17 (unhide hD) (by rw [List.length_take]; omega)
          have hTk : s.data.toList[k]? = some s[k] := by
            rw [List.getElem?_eq_getElem (by rw [unhide LT]; exact hlt)]
            rfl
          have h255 : s[k].toNat < 256 := s[k].toNat_lt
          by_cases hd : 48 ≤ s[k].toNat ∧ s[k].toNat ≤ 57
          · have g5 : ¬ (s[k].toNat : Int) < 48 := by omega
            have g6 : ¬ (57 : Int) < (s[k].toNat : Int) := by omega
            have hdv : Lib.digitVal s[k] = some (s[k].toNat - 48) := by unfold Lib.digitVal; rw [if_pos hd]
            have ND := hide (Lib.decFrom_take _ k 0 n s[k] _ (unhide hD) hTk hdv)
            have e1 : IntKind.i64.wrap ((n : Int) * 10) = (n : Int) * 10 := wrap_i64 (by omega) (by omega)
            have e2 : IntKind.i64.wrap ((n : Int) * 10 + (s[k].toNat : Int)) = (n : Int) * 10 + (s[k].toNat : Int) := wrap_i64 (by omega) (by omega)
            have e3 : IntKind.i64.wrap ((n : Int) * 10 + (s[k].toNat : Int) - 48) = (n : Int) * 10 + (s[k].toNat : Int) - 48 := wrap_i64 (by omega) (by omega)
            clear hTk hdv hD
            go_wp2_with fail
            go_roundw
            case rel => exact ⟨k + 1, n * 10 + (s[k].toNat - 48), by omega, by congr 1; omega, by go_num, ND, trivial⟩
            case measure => simp [intOf]; omega
          · have RN := hide (show numV s.data.toList = none by
              rw [unhide NV]
              cases hx : Lib.decFrom 0 s.data.toList with
              | none => rfl
              | some m =>
                obtain ⟨d, hdd⟩ := Lib.digit_of_decFrom _ _ _ hx k _ hTk
                obtain ⟨z1, z2, _⟩ := Lib.digitVal_eq hdd
                exact absurd ⟨z1, z2⟩ hd)
            clear hTk hD
            by_cases h48 : s[k].toNat < 48
            · have g5 : (s[k].toNat : Int) < 48 := by omega
              go_wp2_with fail
              go_ret2
              exact ⟨by rw [unhide RN]; rfl, rfl⟩
            · have g5 : ¬ (s[k].toNat : Int) < 48 := by omega
              have g6 : (57 : Int) < (s[k].toNat : Int) := by omega
              go_wp2_with fail
              go_ret2
              exact ⟨by rw [unhide RN]; rfl, rfl⟩
        · have hki : ¬ (k : Int) < (s.size : Int) := by omega
          have hD2 := unhide hD
          rw [List.take_of_length_le (by rw [unhide LT]; omega)] at hD2
          have hn := dec_lt18 hD2 (by rw [unhide LT]; omega)
          have RN := hide (show numV s.data.toList = some ((n : Int)) by rw [unhide NV, hD2]; rfl)
          have e1 : IntKind.i64.wrap ((1 : Int) * (n : Int)) = (n : Int) := by rw [wrap_i64 (by omega) (by omega)]; omega
          clear hD hD2
          go_wp2_with fail
          go_ret2
          exact ⟨by rw [unhide RN]; rfl, rfl⟩
    · clear G
      go_wp2_with fail
      clear g0 g2 g3
      go_loopw [5, 6] (fun nv iv wr => ∃ (k n : Nat), k ≤ s.size ∧ nv = .int .i64 (n : Nat) ∧ iv = .int .i64 (k : Nat) ∧ Hid (Lib.decFrom 0 (s.data.toList.take k) = some n) ∧ wr = w) (fun _ iv _ => s.size - (intOf iv).toNat)
      case atStart => exact ⟨0, 0, Nat.zero_le _, rfl, rfl, hide (by rw [List.take_zero]; rfl), rfl⟩
      case round =>
        obtain ⟨k, n, hk, rfl, rfl, hD, rfl⟩ := hrel
        by_cases hlt : k < s.size
        · have hki : (k : Int) < (s.size : Int) := by omega
          have hn := dec_lt17 (unhide hD) (by rw [List.length_take]; omega)
          have hTk : s.data.toList[k]? = some s[k] := by
            rw [List.getElem?_eq_getElem (by rw [unhide LT]; exact hlt)]
            rfl
          have h255 : s[k].toNat < 256 := s[k].toNat_lt
          by_cases hd : 48 ≤ s[k].toNat ∧ s[k].toNat ≤ 57
          · have g5 : ¬ (s[k].toNat : Int) < 48 := by omega
            have g6 : ¬ (57 : Int) < (s[k].toNat : Int) := by omega
            have hdv : Lib.digitVal s[k] = some (s[k].toNat - 48) := by unfold Lib.digitVal; rw [if_pos hd]
            have ND := hide (Lib.decFrom_take _ k 0 n s[k] _ (unhide hD) hTk hdv)
            have e1 : IntKind.i64.wrap ((n : Int) * 10) = (n : Int) * 10 := wrap_i64 (by omega) (by omega)
            have e2 : IntKind.i64.wrap ((n : Int) * 10 + (s[k].toNat : Int)) = (n : Int) * 10 + (s[k].toNat : Int) := wrap_i64 (by omega) (by omega)
            have e3 : IntKind.i64.wrap ((n : Int) * 10 + (s[k].toNat : Int) - 48) = (n : Int) * 10 + (s[k].toNat : Int) - 48 := wrap_i64 (by omega) (by omega)
            clear hTk hdv hD
            go_wp2_with fail
            go_roundw
            case rel => exact ⟨k + 1, n * 10 + (s[k].toNat - 48), by omega, by congr 1; omega, by go_num, ND, trivial⟩
            case measure => simp [intOf]; omega
          · have RN := hide (show numV s.data.toList = none by
              rw [unhide NV]
              cases hx : Lib.decFrom 0 s.data.toList with
              | none => rfl
              | some m =>
                obtain ⟨d, hdd⟩ := Lib.digit_of_decFrom _ _ _ hx k _ hTk
                obtain ⟨z1, z2, _⟩ := Lib.digitVal_eq hdd
                exact absurd ⟨z1, z2⟩ hd)
            clear hTk hD
            by_cases h48 : s[k].toNat < 48
            · have g5 : (s[k].toNat : Int) < 48 := by omega
              go_wp2_with fail
              go_ret2
              exact ⟨by rw [unhide RN]; rfl, rfl⟩
            · have g5 : ¬ (s[k].toNat : Int) < 48 := by omega
              have g6 : (57 : Int) < (s[k].toNat : Int) := by omega
              go_wp2_with fail
              go_ret2
              exact ⟨by rw [unhide RN]; rfl, rfl⟩
        · have hki : ¬ (k : Int) < (s.size : Int) := by omega
          have hD2 := unhide hD
          rw [List.take_of_length_le (by rw [unhide LT]; omega)] at hD2
          have hn := dec_lt18 hD2 (by rw [unhide LT]; omega)
          have RN := hide (show numV s.data.toList = some ((n : Int)) by rw [unhide NV, hD2]; rfl)
          have e1 : IntKind.i64.wrap ((1 : Int) * (n : Int)) = (n : Int) := by rw [wrap_i64 (by omega) (by omega)]; omega
          clear hD hD2
          go_wp2_with fail
          go_ret2
          exact ⟨by rw [unhide RN]; rfl, rfl⟩
end Go.Proofs.YtmogcfiioajaeaaDoor
