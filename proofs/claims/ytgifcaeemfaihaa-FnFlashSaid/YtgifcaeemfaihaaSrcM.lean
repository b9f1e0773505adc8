/-
  Drawn bytes and drawn flags.
-/
import Derived.Test.YtgifcaeemfaihaaSrcN
import Derived.Deep.RegionWith
set_option maxRecDepth 100000
namespace Go.Proofs.Ytgifcaeemfaihaa
open Go.RowKit

theorem Src.of_blocks' {w w' : World} {p : Nat} {a : Option Addr} {n c : Nat} {xs : List Int} {K : Int} (h : Src w p a n c xs K) (hp : w'.heap[p]? = w.heap[p]?) (ha : ∀ x, a = some x → 0 < n → w'.heap[x.block]? = w.heap[x.block]?) : Src w' p a n c xs K := by
  obtain ⟨h1, ⟨t, ht, ht0, htK⟩, ⟨s, hs, hs0, hs1⟩, h4, h5, h6, h7, h8⟩ := h
  refine ⟨(World.cell?_of_block (w := w) (a := ⟨p, 0, none⟩) hp).trans h1, ⟨t, (World.cell?_of_block (w := w) (a := ⟨p, 1, none⟩) hp).trans ht, ht0, htK⟩, ⟨s, (World.cell?_of_block (w := w) (a := ⟨p, 2, none⟩) hp).trans hs, hs0, hs1⟩, fun j => (World.frozen?_of_block (w := w) (a := ⟨p, j, none⟩) hp).trans (h4 j), ⟨h5.1, fun i hi => ?_⟩, h6, h7, h8⟩
  obtain ⟨b, off, e, hc⟩ := h5.2 i hi
  have hb : w'.heap[b]? = w.heap[b]? := ha _ e (by omega)
  exact ⟨b, off, e, (World.cell?_of_block (w := w) (a := ⟨b, off + i, none⟩) hb).trans hc⟩
theorem src_code' {w : World} {p : Nat} {a : Option Addr} {n c : Nat} {xs : List Int} {K : Int} (h : Src w p a n c xs K) : ∀ x, a = some x → 0 < n → x.block < w.heap.size := fun x hx hn => by
  obtain ⟨b, off, e, hc⟩ := h.row.2 0 hn
  rw [hx] at e
  cases e
  exact cell_lt hc
theorem Src.below {w w' : World} {p : Nat} {a : Option Addr} {n c : Nat} {xs : List Int} {K : Int} (h : Src w p a n c xs K) (hb : Below w.heap.size w w') : Src w' p a n c xs K :=
  h.of_blocks' (hb.block _ (cell_lt h.code)) (fun x hx hn => hb.block _ (src_code' h x hx hn))
theorem Src.grown {w w' : World} {p B : Nat} {a : Option Addr} {n c : Nat} {xs : List Int} {K : Int} {row : Option Nat} (h : Src w p a n c xs K) (hg : w.grownBy w' row) (hr : ∀ k, row = some k → B ≤ k) (hp : p < B) (ha : ∀ x, a = some x → 0 < n → x.block < B) : Src w' p a n c xs K :=
  h.of_blocks' (hg.block p (cell_lt h.code) (fun e => by have := hr p e.symm; omega)) (fun x hx hn => hg.block _ (src_code' h x hx hn) (fun e => by have := hr _ e.symm; have := ha x hx hn; omega))
theorem wrote_grown' {p : Nat} {w w1 w2 : World} {row : Option Nat} (h : Wrote p w w1) (hg : w1.grownBy w2 row) (hr : ∀ k, row = some k → w.heap.size ≤ k) : Wrote p w w2 :=
  ⟨hg.os.trans h.os, hg.tape.trans h.tape, hg.output.trans h.output, Nat.le_trans h.size hg.size, fun k hk hl => (hg.block k (Nat.lt_of_lt_of_le hl h.size) (fun e => by have := hr k e.symm; omega)).trans (h.block k hk hl)⟩
theorem owns_wrote {w w' : World} {B p : Nat} {v : Value} {xs : List Int} (h : Owns w B v xs) (hw : Wrote p w w') (hp : p < B) : Owns w' B v xs :=
  World.ownsRow.kept (row := some p) h ⟨hw.os, hw.tape, hw.output, hw.size, fun i hi hne => hw.block i (fun e => hne (by rw [e])) hi⟩ (.inr fun e => by have := (h.lt _ e).1; omega)
theorem owns_row_form {w : World} {B : Nat} {v : Value} {xs : List Int} (h : Owns w B v xs) (hv : v ≠ .slice none 0 0) : ∃ g cap, v = .slice (some ⟨g, 0, none⟩) xs.length cap ∧ B ≤ g := by
  rcases h.2 with ⟨e, _⟩ | ⟨g, cap, cur, e, hb, _⟩
  · exact absurd e hv
  · exact ⟨g, cap, e, hb⟩
set_option maxRecDepth 100000 in
set_option maxHeartbeats 2000000 in
theorem bytes_draw (p : Nat) (a : Option Addr) (n c : Nat) (xs : List Int) (K : Int) (m : Nat) (w : World) (h : Src w p a n c xs K) (hK : K ≤ 400000) (hm : m ≤ 1000) :
    Calls Try.prog 80 #[.pointer (some ⟨p, 0, none⟩), .int .i64 (m : Int)] w fun e w' => ∃ (g cap : Nat) (ys : List Int), e = .returned (.slice (some ⟨g, 0, none⟩) ys.length cap) ∧ ys.length ≤ m ∧ Owns w' w.heap.size (.slice (some ⟨g, 0, none⟩) ys.length cap) ys ∧ (∀ y ∈ ys, 0 ≤ y ∧ y ≤ 255) ∧ Wrote p w w' ∧ Src w' p a n c xs (K + 3 * m + 3) := by
  obtain ⟨i0, hi, hz0, hz1, hz2⟩ := info_parts Try.infoU8
  have hp := cell_lt h.code
  have hac := hide (src_code' h)
  have H := hide (h.alloc (.cells #[] 5))
  clear h
  go_enter Try.func80, Try.ntmps80
  go_wp2_with fail
  refine (next_any p a n c xs K ((m : Int) + 1) _ (unhide H) (by omega) (by omega) (by omega)).mono ?_
  rintro e w1 ⟨r, rfl, hr0, hr1, ho1, hs1⟩
  obtain ⟨r, rfl⟩ := Int.eq_ofNat_of_zero_le hr0
  have O0 : Owns (w.alloc (.cells #[] 5)) w.heap.size (.slice (some ⟨w.heap.size, 0, none⟩) 0 0) [] := World.ownsRow_lit (base := w.heap.size) (e := 5) (size := 1) w #[] 0 (Nat.le_refl _) (by unfold maxLen; simp) rfl
  have O1 := hide (owns_wrote O0 ho1.wrote hp)
  have W1 := hide ((Wrote.alloc w p _).trans ho1.wrote)
  have S1 := hide hs1
  clear ho1 hs1 H hr0 O0
  go_wp2_with fail
  go_loopw [5, 6] (fun v i wr => ∃ (q g cap : Nat) (ys : List Int), i = .int .i64 (q : Int) ∧ v = .slice (some ⟨g, 0, none⟩) ys.length cap ∧ ys.length + q ≤ m ∧ Hid (Owns wr w.heap.size (.slice (some ⟨g, 0, none⟩) ys.length cap) ys) ∧ Hid (∀ y ∈ ys, 0 ≤ y ∧ y ≤ 255) ∧ Hid (Wrote p w wr) ∧ Hid (Src wr p a n c xs (K + 3 + 3 * ys.length))) (fun _ i _ => (intOf i).toNat)
  case atStart => exact ⟨r, w.heap.size, 0, [], rfl, rfl, by simp; omega, unhide O1, fun y hy => by simp at hy, unhide W1, (unhide S1).more (by simp)⟩
  case round =>
    clear O1 W1 S1
    obtain ⟨q, g, cap, ys, rfl, rfl, hq, hO, hY, hW, hS⟩ := hrel
    by_cases hlt : 0 < q
    · have hpl : w.heap.size ≤ wr.heap.size := (unhide hW).size
      go_wp2_with fail
      refine (next_any p a n c xs _ 256 wr (unhide hS) (by omega) (by omega) (by omega)).mono ?_
      rintro e w2 ⟨r2, rfl, hr20, hr21, ho2, hs2⟩
      have O2 := owns_wrote (unhide hO) ho2.wrote hp
      have W2 := hide ((unhide hW).trans ho2.wrote)
      have S2 := hide hs2
      have hz2' : w.heap.size ≤ w2.heap.size := by rw [ho2.size]; exact hpl
      clear ho2 hs2 hO hW hS
      go_wp2_with (at_builtin; refine wpList_append_own _ rfl _ _ 22 rfl w.heap.size 5 i0 (.int .u8 0) 1 1 Try.underlying22 hi hz0 hz1 hz2 rfl (by decide) _ _ _ rfl (O2.alloc _) ⟨w2.heap.size, 0, none⟩ 1 1 [.int .u8 r2] rfl rfl (cell_one_new _ _ _) (one_u8 _) (by unfold maxLen; omega) (by omega) (by simp; omega) ?_)
      intro v3 w3 hown3 hgrow3 hnil3
      have O3 := owns_app hown3
      obtain ⟨g3, cap3, rfl, _⟩ := owns_row_form O3 (fun e => by subst e; exact hnil3 rfl)
      have O3' := hide O3
      have HL := hide (show (ys ++ [r2]).length = ys.length + 1 by simp)
      have W3 := hide (wrote_grown' ((unhide W2).trans (Wrote.alloc w2 p _)) hgrow3 (fun k hk => (O2.lt k hk).1))
      have S3 := hide (((unhide S2).alloc _).grown hgrow3 (fun k hk => (O2.lt k hk).1) hp (unhide hac))
      have Y3 := hide (show ∀ y ∈ ys ++ [r2], 0 ≤ y ∧ y ≤ 255 from fun y hy => by
        rcases List.mem_append.1 hy with h | h
        · exact unhide hY y h
        · obtain rfl : y = r2 := by simpa using h
          omega)
      clear hown3 hgrow3 hnil3 O3 O2 W2 S2 hY
      generalize ys ++ [r2] = zs at *
      go_wp2_with fail
      go_roundw
      case rel => exact ⟨q - 1, g3, cap3, zs, by go_num, rfl, by have := unhide HL; omega, unhide O3', unhide Y3, unhide W3, (unhide S3).more (by have := unhide HL; omega)⟩
      case measure => simp [intOf]; omega
    · obtain rfl : q = 0 := by omega
      go_wp2_with fail
      go_ret
      exact ⟨g, cap, ys, rfl, by omega, unhide hO, unhide hY, unhide hW, (unhide hS).more (by omega)⟩
end Go.Proofs.Ytgifcaeemfaihaa
