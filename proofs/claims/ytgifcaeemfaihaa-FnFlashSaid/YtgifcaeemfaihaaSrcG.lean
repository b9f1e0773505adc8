/-
  Drawn flags, told; the laws' 'at' at the choice 0, told.
-/
import Derived.Test.YtgifcaeemfaihaaSrcF
set_option maxRecDepth 100000
namespace Go.Proofs.Ytgifcaeemfaihaa
open Go.RowKit

theorem SrcF.of_blocks {w w' : World} {p : Nat} {a : Option Addr} {n c : Nat} {xs : List Int} {t s : Int} (h : SrcF w p a n c xs t s) (hp : w'.heap[p]? = w.heap[p]?) (ha : ∀ x, a = some x → 0 < n → w'.heap[x.block]? = w.heap[x.block]?) : SrcF w' p a n c xs t s := by
  obtain ⟨h1, ht, hs, k1, k2, k3, h4, h5, h6, h7, h8, h9⟩ := h
  refine ⟨(World.cell?_of_block (w := w) (a := ⟨p, 0, none⟩) hp).trans h1, (World.cell?_of_block (w := w) (a := ⟨p, 1, none⟩) hp).trans ht, (World.cell?_of_block (w := w) (a := ⟨p, 2, none⟩) hp).trans hs, k1, k2, k3, fun j => (World.frozen?_of_block (w := w) (a := ⟨p, j, none⟩) hp).trans (h4 j), ⟨h5.1, fun i hi => ?_⟩, h6, h7, h8, h9.same hp⟩
  obtain ⟨b, off, e, hc⟩ := h5.2 i hi
  have hb : w'.heap[b]? = w.heap[b]? := ha _ e (by omega)
  exact ⟨b, off, e, (World.cell?_of_block (w := w) (a := ⟨b, off + i, none⟩) hb).trans hc⟩
theorem srcF_code {w : World} {p : Nat} {a : Option Addr} {n c : Nat} {xs : List Int} {t s : Int} (h : SrcF w p a n c xs t s) : ∀ x, a = some x → 0 < n → x.block < w.heap.size := fun x hx hn => by
  obtain ⟨b, off, e, hc⟩ := h.row.2 0 hn
  rw [hx] at e
  cases e
  exact cell_lt hc
theorem SrcF.below {w w' : World} {p : Nat} {a : Option Addr} {n c : Nat} {xs : List Int} {t s : Int} (h : SrcF w p a n c xs t s) (hb : Below w.heap.size w w') : SrcF w' p a n c xs t s :=
  h.of_blocks (hb.block _ (cell_lt h.code)) (fun x hx hn => hb.block _ (srcF_code h x hx hn))
theorem SrcF.grown {w w' : World} {p B : Nat} {a : Option Addr} {n c : Nat} {xs : List Int} {t s : Int} {row : Option Nat} (h : SrcF w p a n c xs t s) (hg : w.grownBy w' row) (hr : ∀ k, row = some k → B ≤ k) (hp : p < B) (ha : ∀ x, a = some x → 0 < n → x.block < B) : SrcF w' p a n c xs t s :=
  h.of_blocks (hg.block p (cell_lt h.code) (fun e => by have := hr p e.symm; omega)) (fun x hx hn => hg.block _ (srcF_code h x hx hn) (fun e => by have := hr _ e.symm; have := ha x hx hn; omega))
/-- q flags, one behind the other. -/
def flagsL (xs : List Int) : Nat → Int → Int → List Bool
  | 0, _, _ => []
  | q + 1, t, s => (nextV xs t s 2 == 2 - 1) :: flagsL xs q (t + 1) (byteV xs t s).2
theorem flagsL_len (xs : List Int) : ∀ q t s, (flagsL xs q t s).length = q := by
  intro q
  induction q with
  | zero => intro t s; rfl
  | succ q ih => intro t s; simp [flagsL, ih]
/-- The drawn flags of some bytes. -/
def flagsV (xs : List Int) : List Bool := flagsL xs (nextV xs 0 ((xs.length : Int) % 1000) 13).toNat 1 (byteV xs 0 ((xs.length : Int) % 1000)).2
theorem nextV_bd (xs : List Int) (t s m : Int) (hm : 0 < m) : 0 ≤ nextV xs t s m ∧ nextV xs t s m < m := ⟨Int.emod_nonneg _ (by omega), Int.emod_lt_of_pos _ hm⟩
theorem flagsV_len (xs : List Int) : (flagsV xs).length ≤ 12 := by
  unfold flagsV
  rw [flagsL_len]
  have := nextV_bd xs 0 ((xs.length : Int) % 1000) 13 (by decide)
  omega
set_option maxHeartbeats 1000000 in
theorem sourceF_any (a : Option Addr) (n c : Nat) (xs : List Int) (w : World) (hr : Row w a n xs) (hby : ∀ i, i < n → 0 ≤ xs.getD i 0 ∧ xs.getD i 0 ≤ 255) (hn : n ≤ 1048576) :
    Calls Try.prog 32 #[.slice a n c] w fun e w' => e = .returned (.pointer (some ⟨w.heap.size, 0, none⟩)) ∧ SrcF w' w.heap.size a n c xs 0 ((xs.length : Int) % 1000) ∧ Below w.heap.size w w' ∧ w'.heap.size = w.heap.size + 1 := by
  have R := hide hr
  have BY := hide hby
  clear hr hby
  go_enter Try.func32, Try.ntmps32
  go_wp2_with fail
  go_ret
  refine ⟨rfl, ?_, (Below.refl _ _).alloc (Nat.le_refl _) _, by simp⟩
  rw [(unhide R).1]
  have hb : Below w.heap.size w (w.alloc (.cells #[.slice a n c, .int .i64 0, .int .i64 ((n : Int) % 1000)] 104)) := (Below.refl _ _).alloc (Nat.le_refl _) _
  have hlt : ∀ x, a = some x → 0 < n → x.block < w.heap.size := fun x hx hp => by
    obtain ⟨b, off, e, hc⟩ := (unhide R).2 0 hp
    rw [hx] at e
    cases e
    exact cell_lt hc
  refine ⟨by simp, by simp, by simp, by omega, by omega, by omega, fun j => by simp, ?_, unhide BY, fun x hx hp => Nat.ne_of_lt (hlt x hx hp), hn, ⟨_, _, _, _, heap_alloc_last _ _⟩⟩
  by_cases hp : 0 < n
  · exact (unhide R).below hb (fun x hx => hlt x hx hp)
  · exact ⟨(unhide R).1, fun i hi => absurd hi (by omega)⟩
set_option maxRecDepth 100000 in
set_option maxHeartbeats 2000000 in
theorem flagsF_any (p : Nat) (a : Option Addr) (n c : Nat) (xs : List Int) (s : Int) (w : World) (h : SrcF w p a n c xs 0 s) :
    Calls Try.prog 63 #[.pointer (some ⟨p, 0, none⟩), .int .i64 12] w fun e w' => ∃ (g cap : Nat), e = .returned (.slice (some ⟨g, 0, none⟩) (flagsL xs (nextV xs 0 s 13).toNat 1 (byteV xs 0 s).2).length cap) ∧ BOwns w' w.heap.size (.slice (some ⟨g, 0, none⟩) (flagsL xs (nextV xs 0 s 13).toNat 1 (byteV xs 0 s).2).length cap) (flagsL xs (nextV xs 0 s 13).toNat 1 (byteV xs 0 s).2) ∧ Wrote p w w' := by
  obtain ⟨i0, hi, hz0, hz1, hz2⟩ := info_parts Try.infoBool'
  have hp := cell_lt h.code
  have hac := hide (srcF_code h)
  have H := hide (h.below ((Below.refl _ _).alloc (Nat.le_refl _) (.cells #[] 4)))
  clear h
  go_enter Try.func63, Try.ntmps63
  go_wp2_with fail
  refine (nextF_any p a n c xs 0 s 13 _ (unhide H) (by omega) (by omega) (by omega)).mono ?_
  rintro e w1 ⟨rfl, hr0, hr1, ho1, hs1⟩
  have O0 : BOwns (w.alloc (.cells #[] 4)) w.heap.size (.slice (some ⟨w.heap.size, 0, none⟩) 0 0) [] := World.ownsRow_lit (base := w.heap.size) (e := 4) (size := 1) w #[] 0 (Nat.le_refl _) (by unfold maxLen; simp) rfl
  have O1 := hide (bowns_wrote O0 ho1.wrote hp)
  have W1 := hide ((Wrote.alloc w p _).trans ho1.wrote)
  have S1 := hide hs1
  obtain ⟨F, hF⟩ : ∃ F, F = flagsL xs (nextV xs 0 s 13).toNat 1 (byteV xs 0 s).2 := ⟨_, rfl⟩
  have HF := hide hF
  have HE0 := hide hF
  obtain ⟨r, hr⟩ : ∃ r : Nat, nextV xs 0 s 13 = (r : Int) := ⟨(nextV xs 0 s 13).toNat, by omega⟩
  rw [hr] at HF hr1 ⊢
  clear ho1 hs1 H hr0 O0 hF hr
  rw [show ((r : Int)).toNat = r from rfl] at HF
  go_wp2_with fail
  go_loopw [5, 6] (fun v i wr => ∃ (q g cap : Nat) (ys : List Bool) (t1 s1 : Int), i = .int .i64 (q : Int) ∧ v = .slice (some ⟨g, 0, none⟩) ys.length cap ∧ ys.length + q ≤ 12 ∧ Hid (F = ys ++ flagsL xs q t1 s1) ∧ t1 ≤ 100 - q ∧ Hid (BOwns wr w.heap.size (.slice (some ⟨g, 0, none⟩) ys.length cap) ys) ∧ Hid (Wrote p w wr) ∧ Hid (SrcF wr p a n c xs t1 s1)) (fun _ i _ => (intOf i).toNat)
  case atStart => exact ⟨r, w.heap.size, 0, [], 1, _, rfl, rfl, by simp; omega, unhide HF, by omega, unhide O1, unhide W1, unhide S1⟩
  case round =>
    clear O1 W1 S1
    obtain ⟨q, g, cap, ys, t1, s1, rfl, rfl, hq, hFy, ht1, hO, hW, hS⟩ := hrel
    by_cases hlt : 0 < q
    · have hpl : w.heap.size ≤ wr.heap.size := (unhide hW).size
      obtain ⟨q, rfl⟩ : ∃ q', q = q' + 1 := ⟨q - 1, by omega⟩
      go_wp2_with fail
      refine (chanceF_any p a n c xs t1 s1 2 wr (unhide hS) (by omega) (by omega) (by omega)).mono ?_
      rintro e w2 ⟨rfl, ho2, hs2⟩
      have HFy := hide (show F = (ys ++ [nextV xs t1 s1 2 == 2 - 1]) ++ flagsL xs q (t1 + 1) (byteV xs t1 s1).2 by rw [unhide hFy]; simp [flagsL])
      have O2 := bowns_wrote (unhide hO) ho2.wrote hp
      have W2 := hide ((unhide hW).trans ho2.wrote)
      have S2 := hide hs2
      have hz2' : w.heap.size ≤ w2.heap.size := by rw [ho2.size]; exact hpl
      clear ho2 hs2 hO hW hS hFy
      generalize (nextV xs t1 s1 2 == 2 - 1) = x2 at *
      go_wp2_with (at_builtin; refine wpList_append_own _ rfl _ _ 55 rfl w.heap.size 4 i0 (.bool false) 1 1 Try.underlying55 hi hz0 hz1 hz2 rfl (by decide) _ _ _ rfl (World.ownsRow.alloc O2 _) ⟨w2.heap.size, 0, none⟩ 1 1 [.bool x2] rfl rfl (cell_one_new _ _ _) (by intro u hu; simp at hu; subst hu; rfl) (by unfold maxLen; omega) (by omega) (by simp; omega) ?_)
      intro v3 w3 hown3 hgrow3 hnil3
      have O3 := bowns_app hown3
      obtain ⟨g3, cap3, rfl, _⟩ := bowns_form O3 (fun e => by subst e; exact hnil3 rfl)
      have O3' := hide O3
      have HL := hide (show (ys ++ [x2]).length = ys.length + 1 by simp)
      have W3 := hide (wrote_grown' ((unhide W2).trans (Wrote.alloc w2 p _)) hgrow3 (fun k hk => (O2.lt k hk).1))
      have S3 := hide (((unhide S2).below ((Below.refl _ _).alloc (Nat.le_refl _) _)).grown hgrow3 (fun k hk => (O2.lt k hk).1) hp (unhide hac))
      clear hown3 hgrow3 hnil3 O3 O2 W2 S2
      generalize ys ++ [x2] = zs at *
      go_wp2_with fail
      go_roundw
      case rel => exact ⟨q, g3, cap3, zs, t1 + 1, _, by go_num, rfl, by have := unhide HL; omega, unhide HFy, by omega, unhide O3', unhide W3, unhide S3⟩
      case measure => simp [intOf]
    · obtain rfl : q = 0 := by omega
      have HY := hide (show F = ys by rw [unhide hFy]; simp [flagsL])
      clear hFy
      go_wp2_with fail
      go_ret
      have E := (unhide HE0).symm.trans (unhide HY)
      exact ⟨g, cap, by rw [E]; rfl, by rw [E]; exact unhide hO, unhide hW⟩
set_option maxHeartbeats 1000000 in
theorem flagsOfF_any (a : Option Addr) (n c : Nat) (xs : List Int) (w : World) (hr : Row w a n xs) (hby : ∀ i, i < n → 0 ≤ xs.getD i 0 ∧ xs.getD i 0 ≤ 255) (hn : n ≤ 1048576) :
    Calls Try.prog 29 #[.slice a n c] w fun e w' => ∃ (g cap : Nat), e = .returned (.slice (some ⟨g, 0, none⟩) (flagsV xs).length cap) ∧ BRow w' (some ⟨g, 0, none⟩) (flagsV xs).length (flagsV xs) ∧ Below w.heap.size w w' := by
  have R := hide hr
  have BY := hide hby
  clear hr hby
  have HV := hide (show flagsV xs = flagsL xs (nextV xs 0 ((xs.length : Int) % 1000) 13).toNat 1 (byteV xs 0 ((xs.length : Int) % 1000)).2 from rfl)
  go_enter Try.func29, Try.ntmps29
  go_wp2_with fail
  refine (sourceF_any a n c xs w (unhide R) (unhide BY) hn).mono ?_
  rintro e w1 ⟨rfl, hs1, hb1, hz1⟩
  clear hz1
  have HS := hide hs1
  clear hs1
  go_wp2_with fail
  refine (flagsF_any w.heap.size a n c xs _ w1 (unhide HS)).mono ?_
  rintro e w2 ⟨g, cap, rfl, ho, hw⟩
  rw [← unhide HV] at ho ⊢
  have B2 := hide (hb1.trans (hw.below (Nat.le_refl _) hb1.size))
  obtain ⟨g', cap', e', hrow⟩ := bowns_form ho (by simp)
  injection e' with e1 _ e3
  injection e1 with e1
  injection e1 with e1
  subst e1 e3
  have O2 := hide hrow
  clear hb1 hw ho hrow
  go_wp2_with fail
  go_ret
  exact ⟨g, cap, rfl, unhide O2, unhide B2⟩
/-- The choice 0 out of m that some bytes make. -/
def atV (xs : List Int) (m : Int) : Int := if xs.length = 0 then 0 else (xs.getD 0 0 * 31 + xs.getD (1 % xs.length) 0) % m
set_option maxHeartbeats 1000000 in
theorem atF_any (a : Option Addr) (n c : Nat) (xs : List Int) (m : Int) (w : World) (hr : Row w a n xs) (hby : ∀ i, i < n → 0 ≤ xs.getD i 0 ∧ xs.getD i 0 ≤ 255) (hn : n ≤ 1048576) (hm : 2 ≤ m) (hm2 : m ≤ 100000) :
    Calls Try.prog 11 #[.slice a n c, .int .i64 0, .int .i64 m] w fun e w' => e = .returned (.int .i64 (atV xs m)) ∧ Below w.heap.size w w' := by
  have hxl := hr.1
  have R := hide hr
  have BY := hide hby
  clear hr hby
  by_cases h0 : n = 0
  · have HV := hide (show atV xs m = 0 by unfold atV; rw [if_pos (by omega)])
    subst h0
    clear R BY
    go_enter Try.func11, Try.ntmps11
    go_wp2_with fail
    go_ret
    exact ⟨ret_int (unhide HV).symm, Below.refl _ _⟩
  have q0 : ((n : Int) == 0) = false := by rw [beq_eq_false_iff_ne]; omega
  obtain ⟨b, off, rfl, e0⟩ := (unhide R).2 0 (by omega)
  obtain ⟨x0, x1⟩ := unhide BY 0 (by omega)
  by_cases h1 : n = 1
  · have HV := hide (show atV xs m = (xs.getD 0 0 * 31 + xs.getD 0 0) % m by unfold atV; rw [if_neg (by omega), hxl, h1])
    subst h1
    generalize xs.getD 0 0 = x at *
    simp only [Nat.add_zero] at e0
    go_enter Try.func11, Try.ntmps11
    go_wp2_with fail
    go_quiet (fail)
    go_wp2_with fail
    go_ret
    exact ⟨ret_int (by rw [unhide HV]), bel_drewN (Below.refl _ _) _⟩
  · have HV := hide (show atV xs m = (xs.getD 0 0 * 31 + xs.getD 1 0) % m by unfold atV; rw [if_neg (by omega), hxl, Nat.mod_eq_of_lt (by omega)])
    obtain ⟨b', off', e, e1⟩ := (unhide R).2 1 (by omega)
    cases e
    obtain ⟨y0, y1⟩ := unhide BY 1 (by omega)
    generalize xs.getD 0 0 = x at *
    generalize xs.getD 1 0 = y at *
    simp only [Nat.add_zero] at e0
    have hmod : (1 : Int) % (n : Int) = 1 := Int.emod_eq_of_lt (by omega) (by omega)
    have hdiv : (0 : Int) / (n : Int) = 0 := Int.zero_ediv _
    go_enter Try.func11, Try.ntmps11
    go_wp2_with fail
    go_quiet (fail)
    go_wp2_with fail
    go_ret
    exact ⟨ret_int (by rw [unhide HV]), bel_drewN (Below.refl _ _) _⟩
theorem atV_bd (xs : List Int) (m : Int) (hm : 0 < m) : 0 ≤ atV xs m ∧ atV xs m < m := by
  unfold atV
  split
  · omega
  · exact ⟨Int.emod_nonneg _ (by omega), Int.emod_lt_of_pos _ hm⟩
end Go.Proofs.Ytgifcaeemfaihaa
