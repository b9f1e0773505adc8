/-
  Drawn bytes, by the source whose choices are told.
-/
import Derived.Test.YtgifcaeemfaihaaSrcG
set_option maxRecDepth 100000
namespace Go.Proofs.Ytgifcaeemfaihaa
open Go.RowKit

set_option maxRecDepth 100000 in
set_option maxHeartbeats 2000000 in
theorem bytesF_any (p : Nat) (a : Option Addr) (n c : Nat) (xs : List Int) (t s : Int) (m : Nat) (w : World) (h : SrcF w p a n c xs t s) (hK : t ≤ 400000) (hm0 : 1 ≤ m) (hm : m ≤ 255) :
    Calls Try.prog 80 #[.pointer (some ⟨p, 0, none⟩), .int .i64 (m : Int)] w fun e w' => ∃ (g cap : Nat) (ys : List Int), e = .returned (.slice (some ⟨g, 0, none⟩) ys.length cap) ∧ ys.length ≤ m ∧ Owns w' w.heap.size (.slice (some ⟨g, 0, none⟩) ys.length cap) ys ∧ (∀ y ∈ ys, 0 ≤ y ∧ y ≤ 255) ∧ Wrote p w w' ∧ ∃ t' s', t' ≤ t + m + 1 ∧ SrcF w' p a n c xs t' s' := by
  obtain ⟨i0, hi, hz0, hz1, hz2⟩ := info_parts Try.infoU8
  have hp := cell_lt h.code
  have hac := hide (srcF_code h)
  have H := hide (h.below ((Below.refl _ _).alloc (Nat.le_refl _) (.cells #[] 5)))
  clear h
  go_enter Try.func80, Try.ntmps80
  go_wp2_with fail
  refine (nextF_any p a n c xs t s ((m : Int) + 1) _ (unhide H) (by omega) (by omega) (by omega)).mono ?_
  rintro e w1 ⟨rfl, hr0, hr1, ho1, hs1⟩
  generalize nextV xs t s ((m : Int) + 1) = r at *
  obtain ⟨r, rfl⟩ := Int.eq_ofNat_of_zero_le hr0
  have O0 : Owns (w.alloc (.cells #[] 5)) w.heap.size (.slice (some ⟨w.heap.size, 0, none⟩) 0 0) [] := World.ownsRow_lit (base := w.heap.size) (e := 5) (size := 1) w #[] 0 (Nat.le_refl _) (by unfold maxLen; simp) rfl
  have O1 := hide (owns_wrote O0 ho1.wrote hp)
  have W1 := hide ((Wrote.alloc w p _).trans ho1.wrote)
  have S1 := hide hs1
  clear ho1 hs1 H hr0 O0
  go_wp2_with fail
  go_loopw [5, 6] (fun v i wr => ∃ (q g cap : Nat) (ys : List Int), i = .int .i64 (q : Int) ∧ v = .slice (some ⟨g, 0, none⟩) ys.length cap ∧ ys.length + q ≤ m ∧ Hid (Owns wr w.heap.size (.slice (some ⟨g, 0, none⟩) ys.length cap) ys) ∧ Hid (∀ y ∈ ys, 0 ≤ y ∧ y ≤ 255) ∧ Hid (Wrote p w wr) ∧ ∃ t1 s1, t1 ≤ t + 1 + ys.length ∧ Hid (SrcF wr p a n c xs t1 s1)) (fun _ i _ => (intOf i).toNat)
  case atStart => exact ⟨r, w.heap.size, 0, [], rfl, rfl, by simp; omega, unhide O1, fun y hy => by simp at hy, unhide W1, t + 1, _, by simp, unhide S1⟩
  case round =>
    clear O1 W1 S1
    obtain ⟨q, g, cap, ys, rfl, rfl, hq, hO, hY, hW, t1, s1, ht1, hS⟩ := hrel
    by_cases hlt : 0 < q
    · have hpl : w.heap.size ≤ wr.heap.size := (unhide hW).size
      go_wp2_with fail
      refine (nextF_any p a n c xs t1 s1 256 wr (unhide hS) (by omega) (by omega) (by omega)).mono ?_
      rintro e w2 ⟨rfl, hr20, hr21, ho2, hs2⟩
      generalize nextV xs t1 s1 256 = r2 at *
      have O2 := owns_wrote (unhide hO) ho2.wrote hp
      have W2 := hide ((unhide hW).trans ho2.wrote)
      have S2 := hide hs2
      have hz2' : w.heap.size ≤ w2.heap.size := by rw [ho2.size]; exact hpl
      clear ho2 hs2 hO hW hS
      go_wp2_with (at_builtin; refine wpList_append_own _ rfl _ _ 22 rfl w.heap.size 5 i0 (.int .u8 0) 1 1 Try.underlying22 hi hz0 hz1 hz2 rfl (by decide) _ _ _ rfl (O2.alloc _) ⟨w2.heap.size, 0, none⟩ 1 1 [.int .u8 r2] rfl rfl (cell_one_new _ _ _) (one_u8 _) (by unfold maxLen; omega) (by omega) (by simp; omega) ?_)
      intro v3 w3 hown3 hgrow3 hnil3
      have O3 := owns_app hown3
      obtain ⟨g3, cap3, rfl, _⟩ := owns_row_form O3 (fun e => by subst e; exact hnil3 rfl)
      have O3' := hide O3
      have HL := hide (show (ys ++ [r2]).length = ys.length + 1 by simp)
      have W3 := hide (wrote_grown' ((unhide W2).trans (Wrote.alloc w2 p _)) hgrow3 (fun k hk => (O2.lt k hk).1))
      have S3 := hide (((unhide S2).below ((Below.refl _ _).alloc (Nat.le_refl _) _)).grown hgrow3 (fun k hk => (O2.lt k hk).1) hp (unhide hac))
      have Y3 := hide (show ∀ y ∈ ys ++ [r2], 0 ≤ y ∧ y ≤ 255 from fun y hy => by
        rcases List.mem_append.1 hy with h | h
        · exact unhide hY y h
        · obtain rfl : y = r2 := by simpa using h
          omega)
      clear hown3 hgrow3 hnil3 O3 O2 W2 S2 hY
      generalize ys ++ [r2] = zs at *
      go_wp2_with fail
      go_roundw
      case rel => exact ⟨q - 1, g3, cap3, zs, by go_num, rfl, by have := unhide HL; omega, unhide O3', unhide Y3, unhide W3, t1 + 1, _, by have := unhide HL; omega, unhide S3⟩
      case measure => simp [intOf]; omega
    · obtain rfl : q = 0 := by omega
      go_wp2_with fail
      go_ret
      exact ⟨g, cap, ys, rfl, by omega, unhide hO, unhide hY, unhide hW, t1, s1, by omega, unhide hS⟩
end Go.Proofs.Ytgifcaeemfaihaa
