/-
  The walk of FnTexts.
-/
import Derived.Test.YtgifcaeemfaihaaSrcN
import Derived.Test.YtgifcaeemfaihaaLex
import Derived.Test.YtgifcaeemfaihaaTextS
import Derived.Test.YtgifcaeemfaihaaTextI
import Derived.Test.YtgifcaeemfaihaaReadI
import Derived.Laws.AppendOwnNone
set_option maxRecDepth 100000
namespace Go.Proofs.Ytgifcaeemfaihaa
open Go.RowKit

theorem conv_row {w : World} {a : Option Addr} {n c : Nat} {xs : List Int} (h : Row w a n xs) (hn : 0 < n) : (convert 22 9 (.slice a n c)).run Try.prog w = .ok (.string (strOfNums xs)) w := by
  obtain ⟨b, off, rfl, _⟩ := h.2 0 hn
  exact run_convert_bytes_arg _ 22 5 Try.underlying22 Try.underlying5 b off n c xs h.1 (fun i hi => by
    obtain ⟨b', off', e, hc⟩ := h.2 i hi
    cases e
    exact hc) 9 Try.underlying9

theorem textKeyC_small {s : ByteArray} (h : s.size ≤ 6) : textKeyC s = 0 := by unfold textKeyC; rw [if_neg (by omega), if_neg (by omega)]
theorem textKeyL_small {s : ByteArray} (h : s.size ≤ 6) : textKeyL s = esc s.data.toList ++ [0, 1] := by unfold textKeyL; rw [if_neg (by omega)]
theorem esc_small {s : ByteArray} (h : s.size ≤ 6) : (esc s.data.toList ++ [0, 1]).length ≤ 14 ∧ 2 ≤ (esc s.data.toList ++ [0, 1]).length := by
  have h1 := esc_length s.data.toList
  have h2 : s.data.toList.length = s.size := by simp
  simp only [List.length_append, List.length_cons, List.length_nil]
  omega

theorem isRow_nil {w : World} {a : Option Addr} {len cap : Nat} {zs : List Int} (h : IsRow .u8 w a len cap zs) : a = none → len = 0 ∧ cap = 0 := by
  intro e
  rcases h with ⟨rfl, rfl, rfl, rfl⟩ | ⟨x, rfl, _⟩
  · exact ⟨rfl, rfl⟩
  · cases e
theorem news_row {w : World} {x : Addr} {n : Nat} {xs : List Int} (h : Row w (some x) n xs) : ∀ j u, (xs.map (Value.int .u8))[j]? = some u → w.cell? (x.add j) = some u := by
  intro j u hj
  have hjn : j < xs.length := by
    rcases Nat.lt_or_ge j xs.length with h | h
    · exact h
    · simp [List.getElem?_eq_none (show (xs.map (Value.int .u8)).length ≤ j by simpa using h)] at hj
  obtain ⟨b, off, e, hc⟩ := h.2 j (by rw [← h.1]; exact hjn)
  cases e
  have e2 : (⟨b, off, none⟩ : Addr).add j = ⟨b, off + j, none⟩ := by unfold Addr.add; split <;> simp_all
  rw [e2, hc]
  simp [List.getElem?_eq_getElem hjn] at hj
  subst hj
  simp [List.getD, hjn]
theorem owns_cat {w : World} {B : Nat} {v : Value} {xs ys : List Int} {n m : Nat} (hn : n = xs.length) (hm : m = ys.length) (h : w.ownsRow B 5 1 v (n + m) (xs.map (Value.int .u8) ++ ys.map (Value.int .u8))) : Owns w B v (xs ++ ys) := by
  unfold Owns
  rw [List.length_append, List.map_append, ← hn, ← hm]; exact h
theorem kt_read {xs k3 : List Int} {t : ByteArray} {n : Nat} (hn : xs.length = n) (hb : n ≤ 60000) (ht : t.size ≤ 6) (hk : esc t.data.toList ++ [0, 1] = k3) : ktV (xs ++ k3) (n : Int) = .tuple #[.string t, .int .i64 ((n : Int) + k3.length), .int .i64 0] := by
  have hl := esc_small ht
  rw [hk] at hl
  unfold ktV
  rw [if_neg (by simp only [List.length_append]; omega), if_neg (by simp only [List.length_append]; omega)]
  have e : (xs ++ k3).drop (n : Int).toNat = k3 := by rw [Int.toNat_natCast, ← hn]; simp
  rw [e, ← hk]
  have hr := rd_esc t.data.toList [] [] (n : Int).toNat
  rw [List.append_nil] at hr
  rw [hr]
  simp only [List.nil_append]
  rw [short_some (by have : t.data.toList.length = t.size := by simp
                     simp only [List.length_map]; omega)]
  simp only [strOf_bytes]
  have e2 : (((n : Int).toNat + (esc t.data.toList).length + 2 : Nat) : Int) = (n : Int) + ((esc t.data.toList ++ [0, 1]).length : Nat) := by
    simp only [List.length_append, List.length_cons, List.length_nil, Int.toNat_natCast]; omega
  rw [e2]

set_option maxHeartbeats 4000000 in
theorem lawTexts_any (a1 : Option Addr) (n1 c1 : Nat) (z1 : List Int) (a2 : Option Addr) (n2 c2 : Nat) (z2 : List Int) (w : World) (h1 : IsRow .u8 w a1 n1 c1 z1) (h2 : IsRow .u8 w a2 n2 c2 z2) :
    Calls Try.prog 4 #[.slice a1 n1 c1, .slice a2 n2 c2] w fun e w' => e = .returned (.bool true) ∧ Below w.heap.size w w' := by
  obtain ⟨hr1, hm1, hlt1⟩ := row_of_isRow h1
  obtain ⟨hr2, hm2, hlt2⟩ := row_of_isRow h2
  unfold maxLen at hm1 hm2
  by_cases hbig : 60000 < n1 ∨ 1048576 < n2
  · clear hr1 hlt1 hr2 hlt2 h1 h2
    by_cases hb1 : 60000 < n1
    · clear hbig
      go_enter Try.func4, Try.ntmps4
      go_wp2_with fail
      go_ret
      exact ⟨rfl, Below.refl _ _⟩
    · have hb2 : 1048576 < n2 := by omega
      clear hbig
      go_enter Try.func4, Try.ntmps4
      go_wp2_with fail
      go_ret
      exact ⟨rfl, Below.refl _ _⟩
  have hs1 : n1 ≤ 60000 := by omega
  have hs2 : n2 ≤ 1048576 := by omega
  clear hbig
  have by1 := hide (bytes_of_isRow h1)
  have by2 := hide (bytes_of_isRow h2)
  generalize z1.take n1 = xs1 at *
  generalize z2.take n2 = xs2 at *
  have B1 := hide (show ∀ w', Below w.heap.size w w' → Row w' a1 n1 xs1 from fun w' hb => by
    by_cases h : 0 < n1
    · exact hr1.below hb (fun x hx => hlt1 x hx h)
    · exact ⟨hr1.1, fun i hi => absurd hi (by omega)⟩)
  have B2 := hide (show ∀ w', Below w.heap.size w w' → Row w' a2 n2 xs2 from fun w' hb => by
    by_cases h : 0 < n2
    · exact hr2.below hb (fun x hx => hlt2 x hx h)
    · exact ⟨hr2.1, fun i hi => absurd hi (by omega)⟩)
  have hnil : a1 = none → n1 = 0 ∧ c1 = 0 := isRow_nil h1
  clear hr1 hr2 hlt1 hlt2 h1 h2
  by_cases hn1 : a1 = none
  · obtain ⟨rfl, rfl⟩ := hnil hn1
    subst hn1
    clear hnil
    obtain ⟨i0, hi, hz0, hz1, hz2⟩ := info_parts Try.infoU8
    go_enter Try.func4, Try.ntmps4
    go_wp2_with fail
    refine (textOf_any _ 0 0 xs1 w (unhide B1 w (Below.refl _ _)) (unhide by1) (by omega)).mono ?_
    rintro e w1 ⟨t, rfl, ht, hb1⟩
    go_wp2_with fail
    refine (textOf_any a2 n2 c2 xs2 w1 (unhide B2 w1 hb1) (unhide by2) (by omega)).mono ?_
    rintro e w2 ⟨u, rfl, hu, hb2⟩
    have b2 := hb1.trans (hb2.mono hb1.size)
    clear hb1 hb2
    go_wp2_with fail
    refine (textKey_any t w2 (by omega)).mono ?_
    rintro e w3 ⟨v3, rfl, hm3, hb3⟩
    rw [textKeyL_small ht] at hm3
    rw [textKeyC_small ht]
    go_wp2_with fail
    refine (textKey_any u w3 (by omega)).mono ?_
    rintro e w4 ⟨v4, rfl, hm4, hb4⟩
    rw [textKeyL_small hu] at hm4
    rw [textKeyC_small hu]
    have L3 := esc_small ht
    have L4 := esc_small hu
    generalize hk3 : esc t.data.toList ++ [0, 1] = k3 at *
    generalize hk4 : esc u.data.toList ++ [0, 1] = k4 at *
    have K3 := hide hk3
    have K4 := hide hk4
    clear hk3 hk4
    obtain ⟨a3, c3, rfl, _, _, hr3, hf3⟩ := hm3
    obtain ⟨a4, c4, rfl, _, _, hr4, hf4⟩ := hm4
    obtain ⟨x3, rfl⟩ : ∃ x, a3 = some x := by
      obtain ⟨b, off, e, _⟩ := hr3.2 0 (by omega)
      exact ⟨_, e⟩
    have hz3 := hb3.size
    have hz4 := hb4.size
    have hr3' := hr3.below hb4 (fun x hx => (hf3 x hx).2.1)
    have g3 := (hf3 x3 rfl).2.1
    have g4 := hide (show ∀ x, a4 = some x → x.block < w4.heap.size from fun x hx => (hf4 x hx).2.1)
    have b4 : Below w.heap.size w w4 := b2.trans ((hb3.mono b2.size).trans (hb4.mono (by have := b2.size; omega)))
    have hrc := unhide B1 w4 b4
    have LX := hide hrc.1
    have hzw := b4.size
    clear hr3 hf3 hf4 hb3 hb4 b2
    have hO : (w4.alloc (.cells #[] 5)).ownsRow w4.heap.size 5 1 (.slice (some ⟨w4.heap.size, 0, none⟩) 0 0) 0 [] := World.ownsRow_lit (base := w4.heap.size) (e := 5) (size := 1) w4 #[] 0 (Nat.le_refl _) (by unfold maxLen; omega) rfl
    have hW5 : Below w4.heap.size w4 (w4.alloc (.cells #[] 5)) := (Below.refl _ _).alloc (Nat.le_refl _) _
    have hr3'' := hr3'.below hW5 (fun x hx => by cases hx; omega)
    have hr4' := hr4.below hW5 (unhide g4)
    have S5 : w4.heap.size ≤ (w4.alloc (.cells #[] 5)).heap.size := hW5.size
    have b5w : Below w.heap.size w (w4.alloc (.cells #[] 5)) := b4.trans (hW5.mono hzw)
    have hnw3 := hide (news_row hr3'')
    have hml3 := hide (show (k3.map (Value.int .u8)).length = k3.length * 1 by rw [List.length_map]; omega)
    have hx0 := hide (show xs1 = [] from List.eq_nil_of_length_eq_zero (unhide LX))
    have HW5 := hide hW5
    clear hr3' hr4 hrc b4 hW5
    go_wp2_with (first | (at_builtin; refine wpList_append_own_none rfl (.tmp 39) (.tmp 40) 22 rfl w4.heap.size 5 i0 1 Try.underlying22 hi _ 0 [] rfl hO rfl ?_) | (at_builtin; refine wpList_append_own _ rfl (.tmp 41) (.tmp 42) 22 rfl w4.heap.size 5 i0 (.int .u8 0) 1 1 Try.underlying22 hi hz0 hz1 hz2 rfl (by decide) _ 0 [] rfl hO x3 k3.length c3 (k3.map (Value.int .u8)) rfl (unhide hml3) (unhide hnw3) (ints_oneCell _ _) (by unfold maxLen; omega) (by omega) S5 ?_))
    intro v6 w6 hown6 hgrow6 _
    have O6 : Owns w6 w4.heap.size v6 (xs1 ++ k3) := by
      rw [unhide hx0]
      unfold Owns
      rw [List.nil_append]
      simpa using hown6
    have b6 : Below w4.heap.size (w4.alloc (.cells #[] 5)) w6 := (Below.refl _ _).grown hgrow6 S5 (fun k hk => by cases hk; exact Nat.le_refl _)
    have hr3a := hr3''.below b6 (fun x hx => by cases hx; omega)
    have hr4a := hr4'.below b6 (unhide g4)
    have LXb : xs1.length ≤ 60000 := by rw [unhide LX]; omega
    have b6w : Below w.heap.size w w6 := b5w.trans (b6.mono hzw)
    have S6 : w4.heap.size ≤ w6.heap.size := Nat.le_trans S5 b6.size
    obtain ⟨a6, c6, rfl, _, _, hr6, _⟩ := mine_of_owns O6
    have KT := hide (show ktV (xs1 ++ k3) 0 = .tuple #[.string t, .int .i64 (k3.length : Int), .int .i64 0] by have h := kt_read (n := 0) (unhide LX) (by omega) ht (unhide K3); rw [show (((0 : Nat) : Int) + (k3.length : Int)) = (k3.length : Int) by omega] at h; exact h)
    have hl6 : xs1.length + k3.length ≤ 1048576 := by omega
    rw [List.length_append] at hr6
    clear hr3'' hr4' hown6 hgrow6 O6 b5w b6 S5 hnw3 hml3 hO
    go_wp2_with fail
    refine (keyText_any a6 (xs1.length + k3.length) c6 (0 : Int) (xs1 ++ k3) w6 hl6 hr6).mono ?_
    rintro e w7 ⟨rfl, hb7⟩
    rw [unhide KT]
    have hr3b := hr3a.below hb7 (fun x hx => by cases hx; omega)
    have hr4b := hr4a.below hb7 (fun x hx => by have := unhide g4 x hx; omega)
    have b7w : Below w.heap.size w w7 := b6w.trans (hb7.mono b6w.size)
    have S7 : w4.heap.size ≤ w7.heap.size := Nat.le_trans S6 hb7.size
    clear hr3a hr4a hb7 b6w S6 hr6
    go_wp2_with fail
    refine (specTextKey_any t w7 (by omega)).mono ?_
    rintro e w8 ⟨v8, rfl, hm8, hb8⟩
    rw [textKeyL_small ht, unhide K3] at hm8
    rw [textKeyC_small ht]
    obtain ⟨a8, c8, rfl, _, _, hr8, _⟩ := hm8
    have hr3c := hr3b.below hb8 (fun x hx => by cases hx; omega)
    have hr4c := hr4b.below hb8 (fun x hx => by have := unhide g4 x hx; omega)
    have b8w : Below w.heap.size w w8 := b7w.trans (hb8.mono b7w.size)
    clear hr3b hr4b hb8 b7w
    have hc3 : ∀ k, (convert 22 9 (.slice (some x3) k3.length c3)).run Try.prog (w8.drewN k) = .ok (.string (strOfNums k3)) (w8.drewN k) := fun k => conv_row (hr3c.drewN (k := k)) (by omega)
    have hc4 : ∀ k, (convert 22 9 (.slice a4 k4.length c4)).run Try.prog (w8.drewN k) = .ok (.string (strOfNums k4)) (w8.drewN k) := fun k => conv_row (hr4c.drewN (k := k)) (by omega)
    have hc8 : ∀ k, (convert 22 9 (.slice a8 k3.length c8)).run Try.prog (w8.drewN k) = .ok (.string (strOfNums k3)) (w8.drewN k) := fun k => conv_row (hr8.drewN (k := k)) (by omega)
    have h3 := hc3 0
    have h4 := hc4 0
    have h8 := hc8 0
    rw [World.drewN_zero] at h3 h4 h8
    have LESS := hide (show Op.bytesLess (strOfNums k3).toList (strOfNums k4).toList = Op.bytesLess t.toList u.toList by
      rw [← unhide K3, ← unhide K4, str_key, str_key, escB_less, ByteArray.toList_eq, ByteArray.toList_eq])
    clear hr3c hr4c hr8
    go_wp2_with fail
    go_ret
    exact ⟨ret_bool (by rw [unhide LESS]; simp), b8w⟩
  obtain ⟨x1, rfl⟩ : ∃ x, a1 = some x := by cases a1 with | none => exact absurd rfl hn1 | some x => exact ⟨x, rfl⟩
  clear hnil hn1
  obtain ⟨i0, hi, hz0, hz1, hz2⟩ := info_parts Try.infoU8
  go_enter Try.func4, Try.ntmps4
  go_wp2_with fail
  refine (textOf_any _ n1 c1 xs1 w (unhide B1 w (Below.refl _ _)) (unhide by1) (by omega)).mono ?_
  rintro e w1 ⟨t, rfl, ht, hb1⟩
  go_wp2_with fail
  refine (textOf_any a2 n2 c2 xs2 w1 (unhide B2 w1 hb1) (unhide by2) (by omega)).mono ?_
  rintro e w2 ⟨u, rfl, hu, hb2⟩
  have b2 := hb1.trans (hb2.mono hb1.size)
  clear hb1 hb2
  go_wp2_with fail
  refine (textKey_any t w2 (by omega)).mono ?_
  rintro e w3 ⟨v3, rfl, hm3, hb3⟩
  rw [textKeyL_small ht] at hm3
  rw [textKeyC_small ht]
  go_wp2_with fail
  refine (textKey_any u w3 (by omega)).mono ?_
  rintro e w4 ⟨v4, rfl, hm4, hb4⟩
  rw [textKeyL_small hu] at hm4
  rw [textKeyC_small hu]
  have L3 := esc_small ht
  have L4 := esc_small hu
  generalize hk3 : esc t.data.toList ++ [0, 1] = k3 at *
  generalize hk4 : esc u.data.toList ++ [0, 1] = k4 at *
  have K3 := hide hk3
  have K4 := hide hk4
  clear hk3 hk4
  obtain ⟨a3, c3, rfl, _, _, hr3, hf3⟩ := hm3
  obtain ⟨a4, c4, rfl, _, _, hr4, hf4⟩ := hm4
  obtain ⟨x3, rfl⟩ : ∃ x, a3 = some x := by
    obtain ⟨b, off, e, _⟩ := hr3.2 0 (by omega)
    exact ⟨_, e⟩
  have hz3 := hb3.size
  have hz4 := hb4.size
  have hr3' := hr3.below hb4 (fun x hx => (hf3 x hx).2.1)
  have g3 := (hf3 x3 rfl).2.1
  have g4 := hide (show ∀ x, a4 = some x → x.block < w4.heap.size from fun x hx => (hf4 x hx).2.1)
  have b4 : Below w.heap.size w w4 := b2.trans ((hb3.mono b2.size).trans (hb4.mono (by have := b2.size; omega)))
  have hrc := unhide B1 w4 b4
  have LX := hide hrc.1
  have hzw := b4.size
  clear hr3 hf3 hf4 hb3 hb4 b2
  have hO := World.ownsRow_lit (base := w4.heap.size) (e := 5) (size := 1) w4 #[] 0 (Nat.le_refl _) (by unfold maxLen; omega) rfl
  have hW5 : Below w4.heap.size w4 (w4.alloc (.cells #[] 5)) := (Below.refl _ _).alloc (Nat.le_refl _) _
  have hnw := hide (news_row (row_alloc (o := .cells #[] 5) hrc))
  have hml := hide (show (xs1.map (Value.int .u8)).length = n1 * 1 by rw [List.length_map, unhide LX]; omega)
  have hS4 : w4.heap.size ≤ (w4.alloc (.cells #[] 5)).heap.size := by simp
  go_wp2_with (at_builtin; refine wpList_append_own _ rfl _ _ 22 rfl w4.heap.size 5 i0 (.int .u8 0) 1 1 Try.underlying22 hi hz0 hz1 hz2 rfl (by decide) _ 0 [] rfl hO x1 n1 c1 (xs1.map (Value.int .u8)) rfl (unhide hml) (unhide hnw) (ints_oneCell _ _) (by unfold maxLen; omega) (by omega) hS4 ?_)
  intro v5 w5 hown5 hgrow5 _
  have O5 : Owns w5 w4.heap.size v5 xs1 := by unfold Owns; rw [unhide LX]; exact hown5
  have b5 : Below w4.heap.size w4 w5 := hW5.grown hgrow5 hS4 (fun k hk => by cases hk; exact Nat.le_refl _)
  have hr3'' := hr3'.below b5 (fun x hx => by cases hx; omega)
  have hr4' := hr4.below b5 (unhide g4)
  have S5 : w4.heap.size ≤ w5.heap.size := b5.size
  have b5w : Below w.heap.size w w5 := b4.trans (b5.mono hzw)
  have hnw3 := hide (news_row hr3'')
  have hml3 := hide (show (k3.map (Value.int .u8)).length = k3.length * 1 by rw [List.length_map]; omega)
  clear hr3' hr4 hrc hown5 hgrow5 hO hW5 hnw hml hS4 b4 b5
  have LXb : xs1.length ≤ 60000 := by rw [unhide LX]; exact hs1
  go_wp2_with (at_builtin; refine wpList_append_own _ rfl _ _ 22 rfl w4.heap.size 5 i0 (.int .u8 0) 1 1 Try.underlying22 hi hz0 hz1 hz2 rfl (by decide) _ _ _ rfl O5 x3 k3.length c3 (k3.map (Value.int .u8)) rfl (unhide hml3) (unhide hnw3) (ints_oneCell _ _) (by unfold maxLen; omega) (by omega) S5 ?_)
  intro v6 w6 hown6 hgrow6 _
  have O6 := owns_cat rfl rfl hown6
  have b6 : Below w4.heap.size w5 w6 := (Below.refl _ _).grown hgrow6 S5 (fun k hk => (O5.lt k hk).1)
  have hr3a := hr3''.below b6 (fun x hx => by cases hx; omega)
  have hr4a := hr4'.below b6 (unhide g4)
  have b6w : Below w.heap.size w w6 := b5w.trans (b6.mono hzw)
  have S6 : w4.heap.size ≤ w6.heap.size := Nat.le_trans S5 b6.size
  obtain ⟨a6, c6, rfl, _, _, hr6, _⟩ := mine_of_owns O6
  have KT := hide (kt_read (unhide LX) hs1 ht (unhide K3))
  have hl6 : xs1.length + k3.length ≤ 1048576 := by omega
  rw [List.length_append] at hr6
  clear hr3'' hr4' hown6 hgrow6 O5 O6 b5w b6 S5 hnw3 hml3
  go_wp2_with fail
  refine (keyText_any a6 (xs1.length + k3.length) c6 (n1 : Int) (xs1 ++ k3) w6 hl6 hr6).mono ?_
  rintro e w7 ⟨rfl, hb7⟩
  rw [unhide KT]
  have hr3b := hr3a.below hb7 (fun x hx => by cases hx; omega)
  have hr4b := hr4a.below hb7 (fun x hx => by have := unhide g4 x hx; omega)
  have b7w : Below w.heap.size w w7 := b6w.trans (hb7.mono b6w.size)
  have S7 : w4.heap.size ≤ w7.heap.size := Nat.le_trans S6 hb7.size
  clear hr3a hr4a hb7 b6w S6 hr6
  go_wp2_with fail
  refine (specTextKey_any t w7 (by omega)).mono ?_
  rintro e w8 ⟨v8, rfl, hm8, hb8⟩
  rw [textKeyL_small ht, unhide K3] at hm8
  rw [textKeyC_small ht]
  obtain ⟨a8, c8, rfl, _, _, hr8, _⟩ := hm8
  have hr3c := hr3b.below hb8 (fun x hx => by cases hx; omega)
  have hr4c := hr4b.below hb8 (fun x hx => by have := unhide g4 x hx; omega)
  have b8w : Below w.heap.size w w8 := b7w.trans (hb8.mono b7w.size)
  clear hr3b hr4b hb8 b7w
  have hc3 : ∀ k, (convert 22 9 (.slice (some x3) k3.length c3)).run Try.prog (w8.drewN k) = .ok (.string (strOfNums k3)) (w8.drewN k) := fun k => conv_row (hr3c.drewN (k := k)) (by omega)
  have hc4 : ∀ k, (convert 22 9 (.slice a4 k4.length c4)).run Try.prog (w8.drewN k) = .ok (.string (strOfNums k4)) (w8.drewN k) := fun k => conv_row (hr4c.drewN (k := k)) (by omega)
  have hc8 : ∀ k, (convert 22 9 (.slice a8 k3.length c8)).run Try.prog (w8.drewN k) = .ok (.string (strOfNums k3)) (w8.drewN k) := fun k => conv_row (hr8.drewN (k := k)) (by omega)
  have h3 := hc3 0
  have h4 := hc4 0
  have h8 := hc8 0
  rw [World.drewN_zero] at h3 h4 h8
  have LESS := hide (show Op.bytesLess (strOfNums k3).toList (strOfNums k4).toList = Op.bytesLess t.toList u.toList by
    rw [← unhide K3, ← unhide K4, str_key, str_key, escB_less, ByteArray.toList_eq, ByteArray.toList_eq])
  clear hr3c hr4c hr8
  go_wp2_with fail
  go_ret
  exact ⟨ret_bool (by rw [unhide LESS]; simp), b8w⟩
end Go.Proofs.Ytgifcaeemfaihaa
