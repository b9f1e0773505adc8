/-
  spec.l00Words.
-/
import Derived.Test.YtmogcfiioajaeaaDoorAlW
import Derived.Deep.Cut
namespace Go.Proofs.YtmogcfiioajaeaaDoor
open Go.RowKit

theorem al_wpApp {P : Program} {ops : Array Oper} {rest : List Oper} {o : Oper} {a : Act} {w : World} {Q : Exit → Act → World → Prop}
    (hg : o.guard = none) (s x : Operand) (t : TypeId) (hop : o.op = Op.call { callee := Callee.builtin Builtin.append, args := #[s, x], argTypes := #[t, t] })
    (vs vx v' : Value) (w' : World) (hs : a.eval s = vs) (hx : a.eval x = vx) (hrun : (Builtin.append_ #[t, t] o.type #[vs, vx]).run P w = .ok v' w') (h : wpList P ops Q rest (a.put o.dst v') w') :
    wpList P ops Q (o :: rest) a w :=
  wpList_plain hg fun _ hK => by
    unfold Oper.wp
    simp [execOp, hop, resolve, invoke, builtin, hs, hx, hrun, Result.andThen]
    exact hK _ _ h
theorem ext_kOf (s : ByteArray) (a b : Nat) : s.extract a b = kOf ((s.data.toList.drop a).take (b - a)) := by
  rw [← kOf_data (s.extract a b)]
  congr 1
  rw [ByteArray.data_extract]
  simp [Array.toList_extract, List.extract_eq_take_drop]
theorem words_len (s : List UInt8) : ∀ k, (wSt s k).1.length ≤ k
  | 0 => Nat.le_refl _
  | k + 1 => by
    have := words_len s k
    unfold wSt
    split
    · simp only
      split
      · rw [List.length_append, List.length_singleton]; omega
      · omega
    · omega
theorem wSt_le (s : List UInt8) : ∀ k, (wSt s k).2 ≤ k
  | 0 => Nat.le_refl _
  | k + 1 => by
    have := wSt_le s k
    unfold wSt
    split
    · exact Nat.le_refl _
    · omega
set_option maxRecDepth 100000 in
set_option maxHeartbeats 4000000 in
theorem l00Words_any (s : ByteArray) (w : World) (hs : s.size ≤ 65536) :
    Calls Tryd.prog 9 #[.string s] w fun e w' => ∃ v, e = .returned v ∧ StrOwns w' w.heap.size v (wordsB s) ∧ Below w.heap.size w w' := by
  have hlen : s.data.toList.length = s.size := by rw [Array.length_toList]; rfl
  have LEN := hide hlen
  clear hlen
  have O0 := hide (made_texts w [] (by simp))
  have bL := hide ((Below.refl w.heap.size w).alloc (Nat.le_refl _) (.cells #[] 9))
  go_enter Tryd.func9, Tryd.ntmps9
  go_wp2_with fail
  generalize hw1 : w.alloc (.cells #[] 9) = w1 at *
  have O1 := hide (show StrOwns w1 w.heap.size (.slice (some ⟨w.heap.size, 0, none⟩) 0 0) [] by rw [← hw1]; exact unhide O0)
  clear O0 hw1
  go_loopw [3, 4, 5] (fun ov fv iv wr => ∃ (k : Nat) (o : Option Addr) (n c : Nat), k ≤ s.size + 1 ∧ ov = .slice o n c ∧ fv = .int .i64 ((wSt s.data.toList k).2 : Nat) ∧ iv = .int .i64 (k : Nat) ∧ Hid (StrOwns wr w.heap.size (.slice o n c) ((wSt s.data.toList k).1.map kOf)) ∧ Hid (Below w.heap.size w wr)) (fun _ _ iv _ => s.size + 1 - (intOf iv).toNat)
  case atStart => exact ⟨0, _, _, _, Nat.zero_le _, rfl, rfl, rfl, O1, bL⟩
  case round =>
    clear O1 bL
    obtain ⟨k, o, n, c, hk, rfl, rfl, rfl, hO, hB⟩ := hrel
    have hfk := wSt_le s.data.toList k
    have hwl := words_len s.data.toList k
    obtain ⟨f, hf⟩ : ∃ f, f = (wSt s.data.toList k).2 := ⟨_, rfl⟩
    have NX := hide (show wSt s.data.toList (k + 1) = if k = s.data.toList.length ∨ s.data.toList[k]? = some 32 then (if f < k then (wSt s.data.toList k).1 ++ [(s.data.toList.drop f).take (k - f)] else (wSt s.data.toList k).1, k + 1) else wSt s.data.toList k by rw [hf, wSt])
    rw [← hf] at hfk ⊢
    have HF := hide hf
    clear hf
    obtain ⟨v', w5, hrun, ho5, hg5⟩ := str_app (kOf ((s.data.toList.drop f).take (k - f))) (unhide hO) (by rw [List.length_map]; omega) (unhide hB).size
    have bA : Below wr.heap.size wr (wr.alloc (.cells #[.string (kOf ((s.data.toList.drop f).take (k - f)))] 9)) := (Below.refl _ _).alloc (Nat.le_refl _) _
    have AP := hide (show StrOwns w5 w.heap.size v' ((wSt s.data.toList k).1.map kOf ++ [kOf ((s.data.toList.drop f).take (k - f))]) ∧ Below w.heap.size w w5 from ⟨ho5, below_grownT ((unhide hB).trans (bA.mono (unhide hB).size)) (Nat.le_trans (unhide hB).size bA.size) (World.ownsRow.alloc (unhide hO) _) hg5⟩)
    rw [← ext_kOf s f k] at hrun
    obtain ⟨o5, n5, c5, rfl⟩ : ∃ o5 n5 c5, v' = .slice o5 n5 c5 := by
      obtain ⟨a, c, e, _⟩ := strrow_of_owns ho5
      exact ⟨a, _, c, e⟩
    clear ho5 hg5 bA hwl
    by_cases hlt : k < s.size
    · have hle : (k : Int) ≤ (s.size : Int) := by omega
      have hne : ((k : Int) == (s.size : Int)) = false := by rw [beq_eq_false_iff_ne]; omega
      have hsk : s.data.toList[k]? = some s[k] := by
        rw [List.getElem?_eq_getElem (by rw [unhide LEN]; exact hlt)]
        rfl
      by_cases h32 : s[k] = 32
      · have h9 : ((s[k].toNat : Int) == 32) = true := by rw [h32]; rfl
        have NX1 := unhide NX
        rw [if_pos (.inr (by rw [hsk, h32]))] at NX1
        clear NX hsk h32
        by_cases hfl : f < k
        · rw [if_pos hfl] at NX1
          have GO := hide NX1
          have h8 : (f : Int) < (k : Int) := by omega
          clear NX1
          go_wp2_with (at_builtin; refine al_wpApp rfl (.tmp 26) (.tmp 31) 32 rfl _ _ _ w5 rfl rfl hrun ?_)
          go_roundw
          case rel => exact ⟨k + 1, o5, n5, c5, by omega, rfl, by rw [unhide GO]; go_num, by go_num, hide (by rw [unhide GO, List.map_append]; exact (unhide AP).1), hide (unhide AP).2⟩
          case measure => simp [intOf]; omega
        · rw [if_neg hfl] at NX1
          have GO := hide NX1
          have h8 : ¬ (f : Int) < (k : Int) := by omega
          clear NX1 hrun AP
          go_wp2_with fail
          go_roundw
          case rel => exact ⟨k + 1, o, n, c, by omega, rfl, by rw [unhide GO]; go_num, by go_num, hide (by rw [unhide GO]; exact unhide hO), hB⟩
          case measure => simp [intOf]; omega
      · have h9 : ((s[k].toNat : Int) == 32) = false := by
          rw [beq_eq_false_iff_ne]
          intro e
          apply h32
          have e2 : s[k].toNat = 32 := by omega
          exact UInt8.toNat_inj.1 e2
        have NX1 := unhide NX
        rw [if_neg (by
          rintro (h | h)
          · have := unhide LEN; omega
          · rw [hsk] at h
            injection h with h
            exact h32 h)] at NX1
        have GO := hide NX1
        clear NX NX1 hsk h32 hrun AP
        go_wp2_with fail
        go_roundw
        case rel => exact ⟨k + 1, o, n, c, by omega, rfl, by rw [unhide GO, ← unhide HF], by go_num, hide (by rw [unhide GO]; exact unhide hO), hB⟩
        case measure => simp [intOf]; omega
    · by_cases hend : k = s.size
      · have hle : (k : Int) ≤ (s.size : Int) := by omega
        have hne : ((k : Int) == (s.size : Int)) = true := by rw [beq_iff_eq]; omega
        have NX1 := unhide NX
        rw [if_pos (.inl (by rw [unhide LEN]; exact hend))] at NX1
        clear NX
        by_cases hfl : f < k
        · rw [if_pos hfl] at NX1
          have GO := hide NX1
          have h8 : (f : Int) < (k : Int) := by omega
          clear NX1
          rw [hend] at hrun
          go_wp2_with (at_builtin; refine al_wpApp rfl (.tmp 26) (.tmp 31) 32 rfl _ _ _ w5 rfl rfl hrun ?_)
          go_roundw
          case rel => exact ⟨k + 1, o5, n5, c5, by omega, rfl, by rw [unhide GO]; go_num, by go_num, hide (by rw [unhide GO, List.map_append]; exact (unhide AP).1), hide (unhide AP).2⟩
          case measure => simp [intOf]; omega
        · rw [if_neg hfl] at NX1
          have GO := hide NX1
          have h8 : ¬ (f : Int) < (k : Int) := by omega
          clear NX1 hrun AP
          go_wp2_with fail
          go_roundw
          case rel => exact ⟨k + 1, o, n, c, by omega, rfl, by rw [unhide GO]; go_num, by go_num, hide (by rw [unhide GO]; exact unhide hO), hB⟩
          case measure => simp [intOf]; omega
      · have hle : ¬ (k : Int) ≤ (s.size : Int) := by omega
        have RES := hide (show StrOwns wr w.heap.size (.slice o n c) (wordsB s) by
          have h := unhide hO
          have e : k = s.data.toList.length + 1 := by rw [unhide LEN]; omega
          rw [e, wSt_words] at h
          exact h)
        clear NX hrun AP
        go_wp2_with fail
        go_ret
        exact ⟨_, rfl, unhide RES, unhide hB⟩
end Go.Proofs.YtmogcfiioajaeaaDoor
