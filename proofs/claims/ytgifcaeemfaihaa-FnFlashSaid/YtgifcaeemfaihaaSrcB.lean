/-
  Drawn flags.
-/
import Derived.Test.YtgifcaeemfaihaaSrcM
import Derived.Test.YtgifcaeemfaihaaBRow
set_option maxRecDepth 100000
namespace Go.Proofs.Ytgifcaeemfaihaa
open Go.RowKit

theorem Try.infoBool' : (Try.prog.info? 4).map (fun i => (i.zero, i.size, i.bytes)) = some (some (.bool false), 1, 1) := by kernel_rfl
/-- A slice of bools of the call's own. -/
abbrev BOwns (w : World) (B : Nat) (v : Value) (bs : List Bool) : Prop := w.ownsRow B 4 1 v bs.length (bs.map Value.bool)
theorem bowns_wrote {w w' : World} {B p : Nat} {v : Value} {bs : List Bool} (h : BOwns w B v bs) (hw : Wrote p w w') (hp : p < B) : BOwns w' B v bs :=
  World.ownsRow.kept (row := some p) h ⟨hw.os, hw.tape, hw.output, hw.size, fun i hi hne => hw.block i (fun e => hne (by rw [e])) hi⟩ (.inr fun e => by have := (h.lt _ e).1; omega)
theorem bowns_app {w : World} {B : Nat} {v : Value} {bs : List Bool} {x : Bool} (h : w.ownsRow B 4 1 v (bs.length + 1) (bs.map Value.bool ++ [.bool x])) : BOwns w B v (bs ++ [x]) := by
  unfold BOwns
  rw [List.length_append, List.map_append]; exact h
theorem bowns_form {w : World} {B : Nat} {v : Value} {bs : List Bool} (h : BOwns w B v bs) (hv : v ≠ .slice none 0 0) : ∃ g cap, v = .slice (some ⟨g, 0, none⟩) bs.length cap ∧ BRow w (some ⟨g, 0, none⟩) bs.length bs := by
  rcases h.2 with ⟨e, _⟩ | ⟨g, cap, cur, rfl, hb, _⟩
  · exact absurd e hv
  · refine ⟨g, cap, rfl, rfl, fun i hi => ⟨g, 0, rfl, ?_⟩⟩
    have := World.ownsRow.cellAt h i (by omega)
    rw [Nat.zero_add, this, List.getElem?_map]
    simp [List.getD, hi]
set_option maxHeartbeats 1000000 in
theorem chance_any (p : Nat) (a : Option Addr) (n c : Nat) (xs : List Int) (K m : Int) (w : World) (h : Src w p a n c xs K) (hK : K ≤ 800000) (hm : 1 ≤ m) (hm2 : m ≤ 100000) :
    Calls Try.prog 89 #[.pointer (some ⟨p, 0, none⟩), .int .i64 m] w fun e w' => ∃ x : Bool, e = .returned (.bool x) ∧ Only p w w' ∧ Src w' p a n c xs (K + 3) := by
  go_enter Try.func89, Try.ntmps89
  go_wp2_with fail
  refine (next_any p a n c xs K m w h (by omega) hm hm2).mono ?_
  rintro e w1 ⟨r, rfl, hr0, hr1, ho, hs⟩
  have HO := hide ho
  have HS := hide hs
  clear ho hs
  go_wp2_with fail
  go_ret
  exact ⟨_, rfl, unhide HO, unhide HS⟩
set_option maxRecDepth 100000 in
set_option maxHeartbeats 2000000 in
theorem flags_any (p : Nat) (a : Option Addr) (n c : Nat) (xs : List Int) (K : Int) (m : Nat) (w : World) (h : Src w p a n c xs K) (hK : K ≤ 400000) (hm : m ≤ 1000) :
    Calls Try.prog 63 #[.pointer (some ⟨p, 0, none⟩), .int .i64 (m : Int)] w fun e w' => ∃ (g cap : Nat) (bs : List Bool), e = .returned (.slice (some ⟨g, 0, none⟩) bs.length cap) ∧ bs.length ≤ m ∧ BOwns w' w.heap.size (.slice (some ⟨g, 0, none⟩) bs.length cap) bs ∧ Wrote p w w' ∧ Src w' p a n c xs (K + 3 * m + 3) := by
  obtain ⟨i0, hi, hz0, hz1, hz2⟩ := info_parts Try.infoBool'
  have hp := cell_lt h.code
  have hac := hide (src_code' h)
  have H := hide (h.alloc (.cells #[] 4))
  clear h
  go_enter Try.func63, Try.ntmps63
  go_wp2_with fail
  refine (next_any p a n c xs K ((m : Int) + 1) _ (unhide H) (by omega) (by omega) (by omega)).mono ?_
  rintro e w1 ⟨r, rfl, hr0, hr1, ho1, hs1⟩
  obtain ⟨r, rfl⟩ := Int.eq_ofNat_of_zero_le hr0
  have O0 : BOwns (w.alloc (.cells #[] 4)) w.heap.size (.slice (some ⟨w.heap.size, 0, none⟩) 0 0) [] := World.ownsRow_lit (base := w.heap.size) (e := 4) (size := 1) w #[] 0 (Nat.le_refl _) (by unfold maxLen; simp) rfl
  have O1 := hide (bowns_wrote O0 ho1.wrote hp)
  have W1 := hide ((Wrote.alloc w p _).trans ho1.wrote)
  have S1 := hide hs1
  clear ho1 hs1 H hr0 O0
  go_wp2_with fail
  go_loopw [5, 6] (fun v i wr => ∃ (q g cap : Nat) (ys : List Bool), i = .int .i64 (q : Int) ∧ v = .slice (some ⟨g, 0, none⟩) ys.length cap ∧ ys.length + q ≤ m ∧ Hid (BOwns wr w.heap.size (.slice (some ⟨g, 0, none⟩) ys.length cap) ys) ∧ Hid (Wrote p w wr) ∧ Hid (Src wr p a n c xs (K + 3 + 3 * ys.length))) (fun _ i _ => (intOf i).toNat)
  case atStart => exact ⟨r, w.heap.size, 0, [], rfl, rfl, by simp; omega, unhide O1, unhide W1, (unhide S1).more (by simp)⟩
  case round =>
    clear O1 W1 S1
    obtain ⟨q, g, cap, ys, rfl, rfl, hq, hO, hW, hS⟩ := hrel
    by_cases hlt : 0 < q
    · have hpl : w.heap.size ≤ wr.heap.size := (unhide hW).size
      go_wp2_with fail
      refine (chance_any p a n c xs _ 2 wr (unhide hS) (by omega) (by omega) (by omega)).mono ?_
      rintro e w2 ⟨x2, rfl, ho2, hs2⟩
      have O2 := bowns_wrote (unhide hO) ho2.wrote hp
      have W2 := hide ((unhide hW).trans ho2.wrote)
      have S2 := hide hs2
      have hz2' : w.heap.size ≤ w2.heap.size := by rw [ho2.size]; exact hpl
      clear ho2 hs2 hO hW hS
      go_wp2_with (at_builtin; refine wpList_append_own _ rfl _ _ 55 rfl w.heap.size 4 i0 (.bool false) 1 1 Try.underlying55 hi hz0 hz1 hz2 rfl (by decide) _ _ _ rfl (World.ownsRow.alloc O2 _) ⟨w2.heap.size, 0, none⟩ 1 1 [.bool x2] rfl rfl (cell_one_new _ _ _) (by intro u hu; simp at hu; subst hu; rfl) (by unfold maxLen; omega) (by omega) (by simp; omega) ?_)
      intro v3 w3 hown3 hgrow3 hnil3
      have O3 := bowns_app hown3
      obtain ⟨g3, cap3, rfl, _⟩ := bowns_form O3 (fun e => by subst e; exact hnil3 rfl)
      have O3' := hide O3
      have HL := hide (show (ys ++ [x2]).length = ys.length + 1 by simp)
      have W3 := hide (wrote_grown' ((unhide W2).trans (Wrote.alloc w2 p _)) hgrow3 (fun k hk => (O2.lt k hk).1))
      have S3 := hide (((unhide S2).alloc _).grown hgrow3 (fun k hk => (O2.lt k hk).1) hp (unhide hac))
      clear hown3 hgrow3 hnil3 O3 O2 W2 S2
      generalize ys ++ [x2] = zs at *
      go_wp2_with fail
      go_roundw
      case rel => exact ⟨q - 1, g3, cap3, zs, by go_num, rfl, by have := unhide HL; omega, unhide O3', unhide W3, (unhide S3).more (by have := unhide HL; omega)⟩
      case measure => simp [intOf]; omega
    · obtain rfl : q = 0 := by omega
      go_wp2_with fail
      go_ret
      exact ⟨g, cap, ys, rfl, by omega, unhide hO, unhide hW, (unhide hS).more (by omega)⟩
set_option maxHeartbeats 1000000 in
theorem flagsOf_any (a : Option Addr) (n c : Nat) (xs : List Int) (w : World) (hr : Row w a n xs) (hby : ∀ i, i < n → 0 ≤ xs.getD i 0 ∧ xs.getD i 0 ≤ 255) (hn : n ≤ 1048576) :
    Calls Try.prog 29 #[.slice a n c] w fun e w' => ∃ (g cap : Nat) (bs : List Bool), e = .returned (.slice (some ⟨g, 0, none⟩) bs.length cap) ∧ bs.length ≤ 12 ∧ BOwns w' w.heap.size (.slice (some ⟨g, 0, none⟩) bs.length cap) bs ∧ Below w.heap.size w w' := by
  have R := hide hr
  have BY := hide hby
  clear hr hby
  go_enter Try.func29, Try.ntmps29
  go_wp2_with fail
  refine (source_any a n c xs w (unhide R) (unhide BY) hn).mono ?_
  rintro e w1 ⟨rfl, hs1, hb1, hz1⟩
  clear hz1
  have HS := hide hs1
  clear hs1
  go_wp2_with fail
  refine (flags_any w.heap.size a n c xs 0 12 w1 (unhide HS) (by omega) (by omega)).mono ?_
  rintro e w2 ⟨g, cap, bs, rfl, hl, ho, hw, _⟩
  have B2 := hide (hb1.trans (hw.below (Nat.le_refl _) hb1.size))
  have O2 := hide (show BOwns w2 w.heap.size (.slice (some ⟨g, 0, none⟩) bs.length cap) bs from by
    obtain ⟨h1, h2⟩ := ho
    refine ⟨h1, ?_⟩
    rcases h2 with h2 | ⟨g', cap', cur, e, hb, r⟩
    · exact .inl h2
    · exact .inr ⟨g', cap', cur, e, Nat.le_trans hb1.size hb, r⟩)
  clear hb1 hw ho
  go_wp2_with fail
  go_ret
  exact ⟨g, cap, bs, rfl, hl, unhide O2, unhide B2⟩
end Go.Proofs.Ytgifcaeemfaihaa
