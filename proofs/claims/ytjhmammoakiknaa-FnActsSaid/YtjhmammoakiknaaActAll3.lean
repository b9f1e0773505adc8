/-
  SrcM, SrcB, FaD, SrcZ, FaW, SmI, Conv, FlashRdI, SrcF, SrcG, ActK, ActP in one.
-/
import Derived.Test.YtjhmammoakiknaaActAll2
import Derived.Deep.RegionWith
import Derived.Test.YtjhmammoakiknaaBRow
import Derived.Test.YtjhmammoakiknaaScB
import Derived.Test.YtjhmammoakiknaaOwn
import Derived.Laws.BytesArg
import Derived.Test.YtjhmammoakiknaaReadD
import Derived.Test.YtjhmammoakiknaaDevP
import Derived.Test.YtjhmammoakiknaaDevC
import Derived.Test.YtjhmammoakiknaaImplOK
import Derived.Deep.WholeRow
import Derived.ProofKit
import Derived.OpenShut
import Derived.ShutString
import Derived.ChangeOld
import Derived.Below
namespace Go.Proofs.Ytjhmammoakiknaa
open Go.RowKit

theorem Src.of_blocks' {w w' : World} {p : Nat} {a : Option Addr} {n c : Nat} {xs : List Int} {K : Int} (h : Src w p a n c xs K) (hp : w'.heap[p]? = w.heap[p]?) (ha : ∀ x, a = some x → 0 < n → w'.heap[x.block]? = w.heap[x.block]?) : Src w' p a n c xs K := by
  obtain ⟨h1, ⟨t, ht, ht0, htK⟩, ⟨s, hs, hs0, hs1⟩, h4, h5, h6, h7, h8⟩ := h
  refine ⟨(World.cell?_of_block (w := w) (a := ⟨p, 0, none⟩) hp).trans h1, ⟨t, (World.cell?_of_block (w := w) (a := ⟨p, 1, none⟩) hp).trans ht, ht0, htK⟩, ⟨s, (World.cell?_of_block (w := w) (a := ⟨p, 2, none⟩) hp).trans hs, hs0, hs1⟩, fun j => (World.frozen?_of_block (w := w) (a := ⟨p, j, none⟩) hp).trans (h4 j), ⟨h5.1, fun i hi => ?_⟩, h6, h7, h8⟩
  obtain ⟨b, off, e, hc⟩ := h5.2 i hi
  have hb : w'.heap[b]? = w.heap[b]? := ha _ e (by omega)
  exact ⟨b, off, e, (World.cell?_of_block (w := w) (a := ⟨b, off + i, none⟩) hb).trans hc⟩
theorem src_code' {w : World} {p : Nat} {a : Option Addr} {n c : Nat} {xs : List Int} {K : Int} (h : Src w p a n c xs K) : ∀ x, a = some x → 0 < n → x.block < w.heap.size := fun x hx hn => by
  obtain ⟨b, off, e, hc⟩ := h.row.2 0 hn
  rw [hx] at e
  cases e
  exact cell_lt hc
theorem Src.below {w w' : World} {p : Nat} {a : Option Addr} {n c : Nat} {xs : List Int} {K : Int} (h : Src w p a n c xs K) (hb : Below w.heap.size w w') : Src w' p a n c xs K :=
  h.of_blocks' (hb.block _ (cell_lt h.code)) (fun x hx hn => hb.block _ (src_code' h x hx hn))
theorem Src.grown {w w' : World} {p B : Nat} {a : Option Addr} {n c : Nat} {xs : List Int} {K : Int} {row : Option Nat} (h : Src w p a n c xs K) (hg : w.grownBy w' row) (hr : ∀ k, row = some k → B ≤ k) (hp : p < B) (ha : ∀ x, a = some x → 0 < n → x.block < B) : Src w' p a n c xs K :=
  h.of_blocks' (hg.block p (cell_lt h.code) (fun e => by have := hr p e.symm; omega)) (fun x hx hn => hg.block _ (src_code' h x hx hn) (fun e => by have := hr _ e.symm; have := ha x hx hn; omega))
theorem wrote_grown' {p : Nat} {w w1 w2 : World} {row : Option Nat} (h : Wrote p w w1) (hg : w1.grownBy w2 row) (hr : ∀ k, row = some k → w.heap.size ≤ k) : Wrote p w w2 :=
  ⟨hg.os.trans h.os, hg.tape.trans h.tape, hg.output.trans h.output, Nat.le_trans h.size hg.size, fun k hk hl => (hg.block k (Nat.lt_of_lt_of_le hl h.size) (fun e => by have := hr k e.symm; omega)).trans (h.block k hk hl)⟩
theorem owns_wrote {w w' : World} {B p : Nat} {v : Value} {xs : List Int} (h : Owns w B v xs) (hw : Wrote p w w') (hp : p < B) : Owns w' B v xs :=
  World.ownsRow.kept (row := some p) h ⟨hw.os, hw.tape, hw.output, hw.size, fun i hi hne => hw.block i (fun e => hne (by rw [e])) hi⟩ (.inr fun e => by have := (h.lt _ e).1; omega)
theorem owns_row_form {w : World} {B : Nat} {v : Value} {xs : List Int} (h : Owns w B v xs) (hv : v ≠ .slice none 0 0) : ∃ g cap, v = .slice (some ⟨g, 0, none⟩) xs.length cap ∧ B ≤ g := by
  rcases h.2 with ⟨e, _⟩ | ⟨g, cap, cur, e, hb, _⟩
  · exact absurd e hv
  · exact ⟨g, cap, e, hb⟩
set_option maxRecDepth 100000 in
set_option maxHeartbeats 2000000 in
theorem bytes_draw (p : Nat) (a : Option Addr) (n c : Nat) (xs : List Int) (K : Int) (m : Nat) (w : World) (h : Src w p a n c xs K) (hK : K ≤ 400000) (hm : m ≤ 1000) :
    Calls Try.prog 44 #[.pointer (some ⟨p, 0, none⟩), .int .i64 (m : Int)] w fun e w' => ∃ (g cap : Nat) (ys : List Int), e = .returned (.slice (some ⟨g, 0, none⟩) ys.length cap) ∧ ys.length ≤ m ∧ Owns w' w.heap.size (.slice (some ⟨g, 0, none⟩) ys.length cap) ys ∧ (∀ y ∈ ys, 0 ≤ y ∧ y ≤ 255) ∧ Wrote p w w' ∧ Src w' p a n c xs (K + 3 * m + 3) := by
  obtain ⟨i0, hi, hz0, hz1, hz2⟩ := info_parts Try.infoU8
  have hp := cell_lt h.code
  have hac := hide (src_code' h)
  have H := hide (h.alloc (.cells #[] 5))
  clear h
  go_enter Try.func44, Try.ntmps44
  go_wp2_with fail
  refine (next_any p a n c xs K ((m : Int) + 1) _ (unhide H) (by omega) (by omega) (by omega)).mono ?_
  rintro e w1 ⟨r, rfl, hr0, hr1, ho1, hs1⟩
  obtain ⟨r, rfl⟩ := Int.eq_ofNat_of_zero_le hr0
  have O0 : Owns (w.alloc (.cells #[] 5)) w.heap.size (.slice (some ⟨w.heap.size, 0, none⟩) 0 0) [] := World.ownsRow_lit (base := w.heap.size) (e := 5) (size := 1) w #[] 0 (Nat.le_refl _) (by unfold maxLen; simp) rfl
  have O1 := hide (owns_wrote O0 ho1.wrote hp)
  have W1 := hide ((Wrote.alloc w p _).trans ho1.wrote)
  have S1 := hide hs1
  clear ho1 hs1 H hr0 O0
  go_wp2_with fail
  go_loopw [5, 6] (fun v i wr => ∃ (q g cap : Nat) (ys : List Int), i = .int .i64 (q : Int) ∧ v = .slice (some ⟨g, 0, none⟩) ys.length cap ∧ ys.length + q ≤ m ∧ Hid (Owns wr w.heap.size (.slice (some ⟨g, 0, none⟩) ys.length cap) ys) ∧ Hid (∀ y ∈ ys, 0 ≤ y ∧ y ≤ 255) ∧ Hid (Wrote p w wr) ∧ Hid (Src wr p a n c xs (K + 3 + 3 * ys.length))) (fun _ i _ => (intOf i).toNat)
  case atStart => exact ⟨r, w.heap.size, 0, [], rfl, rfl, by simp; omega, unhide O1, fun y hy => by simp at hy, unhide W1, (unhide S1).more (by simp)⟩
  case round =>
    clear O1 W1 S1
    obtain ⟨q, g, cap, ys, rfl, rfl, hq, hO, hY, hW, hS⟩ := hrel
    by_cases hlt : 0 < q
    · have hpl : w.heap.size ≤ wr.heap.size := (unhide hW).size
      go_wp2_with fail
      refine (next_any p a n c xs _ 256 wr (unhide hS) (by omega) (by omega) (by omega)).mono ?_
      rintro e w2 ⟨r2, rfl, hr20, hr21, ho2, hs2⟩
      have O2 := owns_wrote (unhide hO) ho2.wrote hp
      have W2 := hide ((unhide hW).trans ho2.wrote)
      have S2 := hide hs2
      have hz2' : w.heap.size ≤ w2.heap.size := by rw [ho2.size]; exact hpl
      clear ho2 hs2 hO hW hS
      go_wp2_with (at_builtin; refine wpList_append_own _ rfl _ _ 22 rfl w.heap.size 5 i0 (.int .u8 0) 1 1 Try.underlying22 hi hz0 hz1 hz2 rfl (by decide) _ _ _ rfl (O2.alloc _) ⟨w2.heap.size, 0, none⟩ 1 1 [.int .u8 r2] rfl rfl (cell_one_new _ _ _) (one_u8 _) (by unfold maxLen; omega) (by omega) (by simp; omega) ?_)
      intro v3 w3 hown3 hgrow3 hnil3
      have O3 := owns_app hown3
      obtain ⟨g3, cap3, rfl, _⟩ := owns_row_form O3 (fun e => by subst e; exact hnil3 rfl)
      have O3' := hide O3
      have HL := hide (show (ys ++ [r2]).length = ys.length + 1 by simp)
      have W3 := hide (wrote_grown' ((unhide W2).trans (Wrote.alloc w2 p _)) hgrow3 (fun k hk => (O2.lt k hk).1))
      have S3 := hide (((unhide S2).alloc _).grown hgrow3 (fun k hk => (O2.lt k hk).1) hp (unhide hac))
      have Y3 := hide (show ∀ y ∈ ys ++ [r2], 0 ≤ y ∧ y ≤ 255 from fun y hy => by
        rcases List.mem_append.1 hy with h | h
        · exact unhide hY y h
        · obtain rfl : y = r2 := by simpa using h
          omega)
      clear hown3 hgrow3 hnil3 O3 O2 W2 S2 hY
      generalize ys ++ [r2] = zs at *
      go_wp2_with fail
      go_roundw
      case rel => exact ⟨q - 1, g3, cap3, zs, by go_num, rfl, by have := unhide HL; omega, unhide O3', unhide Y3, unhide W3, (unhide S3).more (by have := unhide HL; omega)⟩
      case measure => simp [intOf]; omega
    · obtain rfl : q = 0 := by omega
      go_wp2_with fail
      go_ret
      exact ⟨g, cap, ys, rfl, by omega, unhide hO, unhide hY, unhide hW, (unhide hS).more (by omega)⟩
end Go.Proofs.Ytjhmammoakiknaa

namespace Go.Proofs.Ytjhmammoakiknaa
open Go.RowKit

theorem Try.infoBool' : (Try.prog.info? 4).map (fun i => (i.zero, i.size, i.bytes)) = some (some (.bool false), 1, 1) := by kernel_rfl
/-- A slice of bools of the call's own. -/
abbrev BOwns (w : World) (B : Nat) (v : Value) (bs : List Bool) : Prop := w.ownsRow B 4 1 v bs.length (bs.map Value.bool)
theorem bowns_wrote {w w' : World} {B p : Nat} {v : Value} {bs : List Bool} (h : BOwns w B v bs) (hw : Wrote p w w') (hp : p < B) : BOwns w' B v bs :=
  World.ownsRow.kept (row := some p) h ⟨hw.os, hw.tape, hw.output, hw.size, fun i hi hne => hw.block i (fun e => hne (by rw [e])) hi⟩ (.inr fun e => by have := (h.lt _ e).1; omega)
theorem bowns_app {w : World} {B : Nat} {v : Value} {bs : List Bool} {x : Bool} (h : w.ownsRow B 4 1 v (bs.length + 1) (bs.map Value.bool ++ [.bool x])) : BOwns w B v (bs ++ [x]) := by
  unfold BOwns
  rw [List.length_append, List.map_append]; exact h
theorem bowns_form {w : World} {B : Nat} {v : Value} {bs : List Bool} (h : BOwns w B v bs) (hv : v ≠ .slice none 0 0) : ∃ g cap, v = .slice (some ⟨g, 0, none⟩) bs.length cap ∧ BRow w (some ⟨g, 0, none⟩) bs.length bs := by
  rcases h.2 with ⟨e, _⟩ | ⟨g, cap, cur, rfl, hb, _⟩
  · exact absurd e hv
  · refine ⟨g, cap, rfl, rfl, fun i hi => ⟨g, 0, rfl, ?_⟩⟩
    have := World.ownsRow.cellAt h i (by omega)
    rw [Nat.zero_add, this, List.getElem?_map]
    simp [List.getD, hi]
set_option maxHeartbeats 1000000 in
theorem chance_any (p : Nat) (a : Option Addr) (n c : Nat) (xs : List Int) (K m : Int) (w : World) (h : Src w p a n c xs K) (hK : K ≤ 800000) (hm : 1 ≤ m) (hm2 : m ≤ 100000) :
    Calls Try.prog 45 #[.pointer (some ⟨p, 0, none⟩), .int .i64 m] w fun e w' => ∃ x : Bool, e = .returned (.bool x) ∧ Only p w w' ∧ Src w' p a n c xs (K + 3) := by
  go_enter Try.func45, Try.ntmps45
  go_wp2_with fail
  refine (next_any p a n c xs K m w h (by omega) hm hm2).mono ?_
  rintro e w1 ⟨r, rfl, hr0, hr1, ho, hs⟩
  have HO := hide ho
  have HS := hide hs
  clear ho hs
  go_wp2_with fail
  go_ret
  exact ⟨_, rfl, unhide HO, unhide HS⟩
set_option maxRecDepth 100000 in
set_option maxHeartbeats 2000000 in
theorem flags_any (p : Nat) (a : Option Addr) (n c : Nat) (xs : List Int) (K : Int) (m : Nat) (w : World) (h : Src w p a n c xs K) (hK : K ≤ 400000) (hm : m ≤ 1000) :
    Calls Try.prog 31 #[.pointer (some ⟨p, 0, none⟩), .int .i64 (m : Int)] w fun e w' => ∃ (g cap : Nat) (bs : List Bool), e = .returned (.slice (some ⟨g, 0, none⟩) bs.length cap) ∧ bs.length ≤ m ∧ BOwns w' w.heap.size (.slice (some ⟨g, 0, none⟩) bs.length cap) bs ∧ Wrote p w w' ∧ Src w' p a n c xs (K + 3 * m + 3) := by
  obtain ⟨i0, hi, hz0, hz1, hz2⟩ := info_parts Try.infoBool'
  have hp := cell_lt h.code
  have hac := hide (src_code' h)
  have H := hide (h.alloc (.cells #[] 4))
  clear h
  go_enter Try.func31, Try.ntmps31
  go_wp2_with fail
  refine (next_any p a n c xs K ((m : Int) + 1) _ (unhide H) (by omega) (by omega) (by omega)).mono ?_
  rintro e w1 ⟨r, rfl, hr0, hr1, ho1, hs1⟩
  obtain ⟨r, rfl⟩ := Int.eq_ofNat_of_zero_le hr0
  have O0 : BOwns (w.alloc (.cells #[] 4)) w.heap.size (.slice (some ⟨w.heap.size, 0, none⟩) 0 0) [] := World.ownsRow_lit (base := w.heap.size) (e := 4) (size := 1) w #[] 0 (Nat.le_refl _) (by unfold maxLen; simp) rfl
  have O1 := hide (bowns_wrote O0 ho1.wrote hp)
  have W1 := hide ((Wrote.alloc w p _).trans ho1.wrote)
  have S1 := hide hs1
  clear ho1 hs1 H hr0 O0
  go_wp2_with fail
  go_loopw [5, 6] (fun v i wr => ∃ (q g cap : Nat) (ys : List Bool), i = .int .i64 (q : Int) ∧ v = .slice (some ⟨g, 0, none⟩) ys.length cap ∧ ys.length + q ≤ m ∧ Hid (BOwns wr w.heap.size (.slice (some ⟨g, 0, none⟩) ys.length cap) ys) ∧ Hid (Wrote p w wr) ∧ Hid (Src wr p a n c xs (K + 3 + 3 * ys.length))) (fun _ i _ => (intOf i).toNat)
  case atStart => exact ⟨r, w.heap.size, 0, [], rfl, rfl, by simp; omega, unhide O1, unhide W1, (unhide S1).more (by simp)⟩
  case round =>
    clear O1 W1 S1
    obtain ⟨q, g, cap, ys, rfl, rfl, hq, hO, hW, hS⟩ := hrel
    by_cases hlt : 0 < q
    · have hpl : w.heap.size ≤ wr.heap.size := (unhide hW).size
      go_wp2_with fail
      refine (chance_any p a n c xs _ 2 wr (unhide hS) (by omega) (by omega) (by omega)).mono ?_
      rintro e w2 ⟨x2, rfl, ho2, hs2⟩
      have O2 := bowns_wrote (unhide hO) ho2.wrote hp
      have W2 := hide ((unhide hW).trans ho2.wrote)
      have S2 := hide hs2
      have hz2' : w.heap.size ≤ w2.heap.size := by rw [ho2.size]; exact hpl
      clear ho2 hs2 hO hW hS
      go_wp2_with (at_builtin; refine wpList_append_own _ rfl _ _ 32 rfl w.heap.size 4 i0 (.bool false) 1 1 Try.underlying32 hi hz0 hz1 hz2 rfl (by decide) _ _ _ rfl (World.ownsRow.alloc O2 _) ⟨w2.heap.size, 0, none⟩ 1 1 [.bool x2] rfl rfl (cell_one_new _ _ _) (by intro u hu; simp at hu; subst hu; rfl) (by unfold maxLen; omega) (by omega) (by simp; omega) ?_)
      intro v3 w3 hown3 hgrow3 hnil3
      have O3 := bowns_app hown3
      obtain ⟨g3, cap3, rfl, _⟩ := bowns_form O3 (fun e => by subst e; exact hnil3 rfl)
      have O3' := hide O3
      have HL := hide (show (ys ++ [x2]).length = ys.length + 1 by simp)
      have W3 := hide (wrote_grown' ((unhide W2).trans (Wrote.alloc w2 p _)) hgrow3 (fun k hk => (O2.lt k hk).1))
      have S3 := hide (((unhide S2).alloc _).grown hgrow3 (fun k hk => (O2.lt k hk).1) hp (unhide hac))
      clear hown3 hgrow3 hnil3 O3 O2 W2 S2
      generalize ys ++ [x2] = zs at *
      go_wp2_with fail
      go_roundw
      case rel => exact ⟨q - 1, g3, cap3, zs, by go_num, rfl, by have := unhide HL; omega, unhide O3', unhide W3, (unhide S3).more (by have := unhide HL; omega)⟩
      case measure => simp [intOf]; omega
    · obtain rfl : q = 0 := by omega
      go_wp2_with fail
      go_ret
      exact ⟨g, cap, ys, rfl, by omega, unhide hO, unhide hW, (unhide hS).more (by omega)⟩
set_option maxHeartbeats 1000000 in
theorem flagsOf_any (a : Option Addr) (n c : Nat) (xs : List Int) (w : World) (hr : Row w a n xs) (hby : ∀ i, i < n → 0 ≤ xs.getD i 0 ∧ xs.getD i 0 ≤ 255) (hn : n ≤ 1048576) :
    Calls Try.prog 10 #[.slice a n c] w fun e w' => ∃ (g cap : Nat) (bs : List Bool), e = .returned (.slice (some ⟨g, 0, none⟩) bs.length cap) ∧ bs.length ≤ 12 ∧ BOwns w' w.heap.size (.slice (some ⟨g, 0, none⟩) bs.length cap) bs ∧ Below w.heap.size w w' := by
  have R := hide hr
  have BY := hide hby
  clear hr hby
  go_enter Try.func10, Try.ntmps10
  go_wp2_with fail
  refine (source_any a n c xs w (unhide R) (unhide BY) hn).mono ?_
  rintro e w1 ⟨rfl, hs1, hb1, hz1⟩
  clear hz1
  have HS := hide hs1
  clear hs1
  go_wp2_with fail
  refine (flags_any w.heap.size a n c xs 0 12 w1 (unhide HS) (by omega) (by omega)).mono ?_
  rintro e w2 ⟨g, cap, bs, rfl, hl, ho, hw, _⟩
  have B2 := hide (hb1.trans (hw.below (Nat.le_refl _) hb1.size))
  have O2 := hide (show BOwns w2 w.heap.size (.slice (some ⟨g, 0, none⟩) bs.length cap) bs from by
    obtain ⟨h1, h2⟩ := ho
    refine ⟨h1, ?_⟩
    rcases h2 with h2 | ⟨g', cap', cur, e, hb, r⟩
    · exact .inl h2
    · exact .inr ⟨g', cap', cur, e, Nat.le_trans hb1.size hb, r⟩)
  clear hb1 hw ho
  go_wp2_with fail
  go_ret
  exact ⟨g, cap, bs, rfl, hl, unhide O2, unhide B2⟩
end Go.Proofs.Ytjhmammoakiknaa

namespace Go.Proofs.Ytjhmammoakiknaa
open Go.RowKit

/-- Acts drawn so far: the source, the acts' rows. -/
structure FaSt (w wr : World) (p : Nat) (a : Option Addr) (n c : Nat) (xs : List Int) (K : Int) (v : Value) (hs : List FaH) : Prop where
  src : Src wr p a n c xs K
  own : NOwn wr w.heap.size 34 5 v hs.length (hs.map faEl)
  wro : Wrote p w wr
  lim : ∀ h ∈ hs, h.s0.n ≤ 1048576 ∧ h.s1.n ≤ 1048576
  hp : p < w.heap.size
  hc : ∀ x, a = some x → 0 < n → x.block < w.heap.size
theorem FaSt.wrote {w wr wr2 : World} {p : Nat} {a : Option Addr} {n c : Nat} {xs : List Int} {K K2 : Int} {v : Value} {hs : List FaH} (h : FaSt w wr p a n c xs K v hs) (hs2 : Src wr2 p a n c xs K2) (hw : Wrote p wr wr2) : FaSt w wr2 p a n c xs K2 v hs :=
  have hwb : WrB (fun i => i = p) wr wr2 := ⟨hw.os, hw.tape, hw.output, hw.size, fun k hk hp => hw.block k hp hk⟩
  ⟨hs2, h.own.wr hwb (fun i hi e => by have := (h.own.lt i hi).1; have := h.hp; omega), h.wro.trans hw, h.lim, h.hp, h.hc⟩
theorem fa_wrote_only {p : Nat} {w w' : World} (h : Only p w w') : Wrote p w w' := ⟨h.os, h.tape, h.output, Nat.le_of_eq h.size.symm, fun k hk _ => h.block k hk⟩
theorem FaSt.only {w wr wr2 : World} {p : Nat} {a : Option Addr} {n c : Nat} {xs : List Int} {K K2 : Int} {v : Value} {hs : List FaH} (h : FaSt w wr p a n c xs K v hs) (hs2 : Src wr2 p a n c xs K2) (hw : Only p wr wr2) : FaSt w wr2 p a n c xs K2 v hs := h.wrote hs2 (fa_wrote_only hw)
theorem FaSt.below {w wr wr2 : World} {p : Nat} {a : Option Addr} {n c : Nat} {xs : List Int} {K : Int} {v : Value} {hs : List FaH} (h : FaSt w wr p a n c xs K v hs) (hb : Below wr.heap.size wr wr2) : FaSt w wr2 p a n c xs K v hs :=
  ⟨h.src.below hb, h.own.below hb, h.wro.trans ⟨hb.os, hb.tape, hb.output, hb.size, fun k _ hk => hb.block k hk⟩, h.lim, h.hp, h.hc⟩
/-- What is written into another block leaves it. -/
theorem FaSt.set {w wr : World} {p : Nat} {a : Option Addr} {n c : Nat} {xs : List Int} {K : Int} {v : Value} {hs : List FaH} (h : FaSt w wr p a n c xs K v hs) {b : Nat} (hb : w.heap.size ≤ b) (hn : ¬ NBl v (hs.map faEl) b) (j : Nat) (u : Value) : FaSt w (wr.setCell ⟨b, j, none⟩ u) p a n c xs K v hs := by
  have hp := h.hp
  have hw : WrB (fun i => i = b) wr (wr.setCell ⟨b, j, none⟩ u) := ⟨rfl, rfl, rfl, by simp [World.setCell], fun k _ hk => Below.heap_setCell _ _ _ _ hk⟩
  refine ⟨h.src.of_blocks' (Below.heap_setCell _ _ _ _ (by show p ≠ b; omega)) (fun x hx hn => Below.heap_setCell _ _ _ _ (by have := h.hc x hx hn; show x.block ≠ b; omega)), h.own.wr hw (fun i hi e => hn (by rw [← e]; exact hi)), ⟨h.wro.os, h.wro.tape, h.wro.output, by have := h.wro.size; simpa [World.setCell] using this, fun k hk hl => (Below.heap_setCell _ _ _ _ (by show k ≠ b; omega)).trans (h.wro.block k hk hl)⟩, h.lim, h.hp, h.hc⟩
theorem FaSt.nbl {w wr : World} {p : Nat} {a : Option Addr} {n c : Nat} {xs : List Int} {K : Int} {v : Value} {hs : List FaH} (h : FaSt w wr p a n c xs K v hs) : ∀ i, NBl v (hs.map faEl) i → w.heap.size ≤ i ∧ i < wr.heap.size := fun i hi => h.own.lt i hi
/-- One act more. -/
theorem FaSt.push {w wr : World} {p C : Nat} {a : Option Addr} {n c : Nat} {xs : List Int} {K : Int} {v : Value} {hs : List FaH} (h : FaSt w wr p a n c xs K v hs) (X : FaH) (hd : wr.ownsRow C 5 1 (.slice X.s0.a X.s0.n X.s0.c) X.X.data.length (X.X.data.map (Value.int .u8))) (hk : wr.ownsRow C 4 1 (.slice X.s1.a X.s1.n X.s1.c) X.X.keep.length (X.X.keep.map Value.bool))
    (hC : ∀ i, NBl v (hs.map faEl) i → i < C) (hBC : w.heap.size ≤ C) (hne : ∀ g, (Value.slice X.s0.a X.s0.n X.s0.c).ownBlock = some g → (Value.slice X.s1.a X.s1.n X.s1.c).ownBlock ≠ some g) (hl : X.s0.n ≤ 1048576 ∧ X.s1.n ≤ 1048576) (hn : hs.length ≤ 1000) :
    ∃ v' w', (Builtin.append_ #[23, 23] 23 #[v, .slice (some ⟨wr.heap.size, 0, none⟩) 1 1]).run Try.prog (wr.alloc (.cells #[.int .i64 X.X.kind, .int .i64 X.X.at_, .int .i64 X.X.torn, .slice X.s0.a X.s0.n X.s0.c, .slice X.s1.a X.s1.n X.s1.c] 34)) = .ok v' w' ∧ FaSt w w' p a n c xs K v' (hs ++ [X]) ∧ ∃ g m c, v' = .slice (some ⟨g, 0, none⟩) m c := by
  obtain ⟨i0, hi, hz0, hz1, hz2⟩ := info_parts Try.infoFa
  have hsz := h.wro.size
  obtain ⟨v', w', hrun, ho, hg, hnn⟩ := NOwn.app (e := faEl X) 23 Try.underlying23 hi hz0 hz1 hz2 rfl (by decide) (by decide) h.own rfl (by intro u hu; unfold faEl at hu; simp at hu; rcases hu with rfl | rfl | rfl | rfl | rfl <;> rfl) (fun x hx => by
    unfold faEl at hx
    simp only [List.mem_cons, List.not_mem_nil, or_false] at hx
    rcases hx with rfl | rfl
    · exact hd
    · exact hk) hC hBC (fun a b x y ha hb hne2 g hg hg2 => by
    unfold faEl at ha hb
    match a, b, ha, hb, hne2 with
    | 0, 1, ha, hb, _ => simp at ha hb; subst ha hb; exact hne g hg hg2
    | 1, 0, ha, hb, _ => simp at ha hb; subst ha hb; exact hne g hg2 hg
    | 0, 0, _, _, h => exact absurd rfl h
    | 1, 1, _, _, h => exact absurd rfl h
    | a + 2, _, ha, _, _ => simp at ha
    | 0, b + 2, _, hb, _ => simp at hb
    | 1, b + 2, _, hb, _ => simp at hb) (by omega) (by omega)
  have bA : Below wr.heap.size wr (wr.alloc (.cells #[.int .i64 X.X.kind, .int .i64 X.X.at_, .int .i64 X.X.torn, .slice X.s0.a X.s0.n X.s0.c, .slice X.s1.a X.s1.n X.s1.c] 34)) := (Below.refl _ _).alloc (Nat.le_refl _) _
  have hA := h.below bA
  have hvb : ∀ k, v.ownBlock = some k → w.heap.size ≤ k := fun k hk => (h.own.row.lt k hk).1
  refine ⟨v', w', hrun, ⟨hA.src.grown hg hvb h.hp h.hc, by rw [List.map_append, List.length_append]; exact ho, wrote_grown' hA.wro hg hvb, fun y hy => ?_, h.hp, h.hc⟩, ?_⟩
  · rcases List.mem_append.1 hy with hy | hy
    · exact h.lim y hy
    · rw [List.mem_singleton.1 hy]; exact hl
  · rcases ho.row.2 with ⟨e, _⟩ | ⟨g9, cap9, _, e, _⟩
    · exact absurd e hnn
    · exact ⟨_, _, _, e⟩
end Go.Proofs.Ytjhmammoakiknaa

namespace Go.Proofs.Ytjhmammoakiknaa
open Go.RowKit

theorem size_draw (p : Nat) (a : Option Addr) (n c : Nat) (xs : List Int) (K : Int) (m : Nat) (w : World) (h : Src w p a n c xs K) :
    Calls Try.prog 43 #[.pointer (some ⟨p, 0, none⟩), .int .i64 (m : Int)] w fun e w' => ∃ r : Nat, e = .returned (.int .i64 (r : Int)) ∧ r ≤ m ∧ w' = w := by
  have c0 := h.code
  have hb := h.bound
  have hq : Int.tdiv (n : Int) 12 = ((n / 12 : Nat) : Int) := by rw [Int.tdiv_eq_ediv_of_nonneg (by omega)]; omega
  have wr : IntKind.i64.wrap (1 + ((n / 12 : Nat) : Int)) = ((1 + n / 12 : Nat) : Int) := by rw [IntKind.wrap_i64]; omega
  clear h
  go_enter Try.func43, Try.ntmps43
  go_wp2_with fail
  · go_ret
    exact ⟨m, rfl, by omega, rfl⟩
  · go_ret
    exact ⟨1 + n / 12, by simp, by omega, rfl⟩
end Go.Proofs.Ytjhmammoakiknaa

namespace Go.Proofs.Ytjhmammoakiknaa
open Go.RowKit

/-- The box of an act, beside what is drawn. -/
structure FaBx (w wr u : World) (p b : Nat) (a : Option Addr) (n c : Nat) (xs : List Int) (K : Int) (v : Value) (hs : List FaH) (kind at_ torn : Int) (sd se : Sl) (ys : List Int) (bs : List Bool) : Prop where
  st : FaSt w u p a n c xs K v hs
  box : u.heap[b]? = some (.cells #[.int .i64 kind, .int .i64 at_, .int .i64 torn, .slice sd.a sd.n sd.c, .slice se.a se.n se.c] 34 (0, 0))
  dat : u.ownsRow wr.heap.size 5 1 (.slice sd.a sd.n sd.c) ys.length (ys.map (Value.int .u8))
  kep : u.ownsRow wr.heap.size 4 1 (.slice se.a se.n se.c) bs.length (bs.map Value.bool)
  lo : wr.heap.size ≤ b
  nb : ∀ i, NBl v (hs.map faEl) i → i < wr.heap.size
  le : w.heap.size ≤ wr.heap.size
  nd : ∀ g, (Value.slice sd.a sd.n sd.c).ownBlock = some g → g ≠ b
  nk : ∀ g, (Value.slice se.a se.n se.c).ownBlock = some g → g ≠ b
theorem FaBx.lt {w wr u : World} {p b : Nat} {a : Option Addr} {n c : Nat} {xs : List Int} {K : Int} {v : Value} {hs : List FaH} {kind at_ torn : Int} {sd se : Sl} {ys : List Int} {bs : List Bool} (h : FaBx w wr u p b a n c xs K v hs kind at_ torn sd se ys bs) : b < u.heap.size := (Array.getElem?_eq_some_iff.1 h.box).1
theorem FaBx.wrote {w wr u u2 : World} {p b : Nat} {a : Option Addr} {n c : Nat} {xs : List Int} {K K2 : Int} {v : Value} {hs : List FaH} {kind at_ torn : Int} {sd se : Sl} {ys : List Int} {bs : List Bool} (h : FaBx w wr u p b a n c xs K v hs kind at_ torn sd se ys bs) (hs2 : Src u2 p a n c xs K2) (hw : Wrote p u u2) : FaBx w wr u2 p b a n c xs K2 v hs kind at_ torn sd se ys bs := by
  have hp := h.st.hp
  have hle := h.le
  have hlo := h.lo
  have hwb : WrB (fun i => i = p) u u2 := ⟨hw.os, hw.tape, hw.output, hw.size, fun k hk hp => hw.block k hp hk⟩
  exact ⟨h.st.wrote hs2 hw, (hw.block b (by omega) h.lt).trans h.box, rr_owns_wr h.dat hwb (fun i hi e => by have := (h.dat.lt i hi).1; omega), rr_owns_wr h.kep hwb (fun i hi e => by have := (h.kep.lt i hi).1; omega), h.lo, h.nb, h.le, h.nd, h.nk⟩
theorem FaBx.below {w wr u u2 : World} {p b : Nat} {a : Option Addr} {n c : Nat} {xs : List Int} {K : Int} {v : Value} {hs : List FaH} {kind at_ torn : Int} {sd se : Sl} {ys : List Int} {bs : List Bool} (h : FaBx w wr u p b a n c xs K v hs kind at_ torn sd se ys bs) (hb : Below u.heap.size u u2) : FaBx w wr u2 p b a n c xs K v hs kind at_ torn sd se ys bs :=
  ⟨h.st.below hb, (hb.block b h.lt).trans h.box, rb_ownsRow_below h.dat hb, rb_ownsRow_below h.kep hb, h.lo, h.nb, h.le, h.nd, h.nk⟩
/-- All of the act laid anew, with rows that may be others. -/
theorem FaBx.lay {w wr u : World} {p b : Nat} {a : Option Addr} {n c : Nat} {xs : List Int} {K : Int} {v : Value} {hs : List FaH} {kind at_ torn : Int} {sd se : Sl} {ys : List Int} {bs : List Bool} (h : FaBx w wr u p b a n c xs K v hs kind at_ torn sd se ys bs) (k2 t2 r2 : Int) (sd2 se2 : Sl) (ys2 : List Int) (bs2 : List Bool)
    (hd : u.ownsRow wr.heap.size 5 1 (.slice sd2.a sd2.n sd2.c) ys2.length (ys2.map (Value.int .u8))) (hk : u.ownsRow wr.heap.size 4 1 (.slice se2.a se2.n se2.c) bs2.length (bs2.map Value.bool)) (nd : ∀ g, (Value.slice sd2.a sd2.n sd2.c).ownBlock = some g → g ≠ b) (nk : ∀ g, (Value.slice se2.a se2.n se2.c).ownBlock = some g → g ≠ b) :
    FaBx w wr (((((u.setCell ⟨b, 0, none⟩ (.int .i64 k2)).setCell ⟨b, 1, none⟩ (.int .i64 t2)).setCell ⟨b, 2, none⟩ (.int .i64 r2)).setCell ⟨b, 3, none⟩ (.slice sd2.a sd2.n sd2.c)).setCell ⟨b, 4, none⟩ (.slice se2.a se2.n se2.c)) p b a n c xs K v hs k2 t2 r2 sd2 se2 ys2 bs2 := by
  have hle := h.le
  have hlo := h.lo
  have hb : w.heap.size ≤ b := by omega
  have hn : ¬ NBl v (hs.map faEl) b := fun hn => by have := h.nb b hn; omega
  have hw : ∀ (x : World) (j : Nat) (y : Value), WrB (fun i => i = b) x (x.setCell ⟨b, j, none⟩ y) := fun x j y => ⟨rfl, rfl, rfl, by simp [World.setCell], fun k _ hk => Below.heap_setCell _ _ _ _ hk⟩
  have hwa := ((((hw u 0 (.int .i64 k2)).seq (hw _ 1 (.int .i64 t2))).seq (hw _ 2 (.int .i64 r2))).seq (hw _ 3 (.slice sd2.a sd2.n sd2.c))).seq (hw _ 4 (.slice se2.a se2.n se2.c))
  refine ⟨((((h.st.set hb hn _ _).set hb hn _ _).set hb hn _ _).set hb hn _ _).set hb hn _ _, ?_, rr_owns_wr hd hwa (fun i hi e => nd i hi e), rr_owns_wr hk hwa (fun i hi e => nk i hi e), h.lo, h.nb, h.le, nd, nk⟩
  simpa using heap_set (heap_set (heap_set (heap_set (heap_set h.box 0 (.int .i64 k2)) 1 (.int .i64 t2)) 2 (.int .i64 r2)) 3 (.slice sd2.a sd2.n sd2.c)) 4 (.slice se2.a se2.n se2.c)
/-- One number of the act laid anew. -/
theorem FaBx.num {w wr u : World} {p b : Nat} {a : Option Addr} {n c : Nat} {xs : List Int} {K : Int} {v : Value} {hs : List FaH} {kind at_ torn : Int} {sd se : Sl} {ys : List Int} {bs : List Bool} (h : FaBx w wr u p b a n c xs K v hs kind at_ torn sd se ys bs) (j : Nat) (q : Int) {k2 t2 r2 : Int} (he : (#[.int .i64 kind, .int .i64 at_, .int .i64 torn, .slice sd.a sd.n sd.c, .slice se.a se.n se.c] : Array Value).setIfInBounds j (.int .i64 q) = #[.int .i64 k2, .int .i64 t2, .int .i64 r2, .slice sd.a sd.n sd.c, .slice se.a se.n se.c]) :
    FaBx w wr (u.setCell ⟨b, j, none⟩ (.int .i64 q)) p b a n c xs K v hs k2 t2 r2 sd se ys bs := by
  have hle := h.le
  have hlo := h.lo
  have hb : w.heap.size ≤ b := by omega
  have hn : ¬ NBl v (hs.map faEl) b := fun hn => by have := h.nb b hn; omega
  have hw : WrB (fun i => i = b) u (u.setCell ⟨b, j, none⟩ (.int .i64 q)) := ⟨rfl, rfl, rfl, by simp [World.setCell], fun k _ hk => Below.heap_setCell _ _ _ _ hk⟩
  refine ⟨h.st.set hb hn _ _, ?_, rr_owns_wr h.dat hw (fun i hi e => h.nd i hi e), rr_owns_wr h.kep hw (fun i hi e => h.nk i hi e), h.lo, h.nb, h.le, h.nd, h.nk⟩
  have := heap_set h.box j (.int .i64 q)
  rwa [he] at this
theorem FaBx.push {w wr u : World} {p b : Nat} {a : Option Addr} {n c : Nat} {xs : List Int} {K : Int} {v : Value} {hs : List FaH} {kind at_ torn : Int} {sd se : Sl} {ys : List Int} {bs : List Bool} (h : FaBx w wr u p b a n c xs K v hs kind at_ torn sd se ys bs) (hl : sd.n ≤ 1048576 ∧ se.n ≤ 1048576) (hn : hs.length ≤ 1000) :
    ∃ v' w', (Builtin.append_ #[23, 23] 23 #[v, .slice (some ⟨u.heap.size, 0, none⟩) 1 1]).run Try.prog (u.alloc (.cells #[.int .i64 kind, .int .i64 at_, .int .i64 torn, .slice sd.a sd.n sd.c, .slice se.a se.n se.c] 34)) = .ok v' w' ∧ FaSt w w' p a n c xs K v' (hs ++ [⟨⟨kind, at_, torn, ys, bs⟩, sd, se⟩]) ∧ ∃ g m c, v' = .slice (some ⟨g, 0, none⟩) m c :=
  h.st.push ⟨⟨kind, at_, torn, ys, bs⟩, sd, se⟩ h.dat h.kep h.nb h.le (fun g hg hg2 => by
    rcases h.dat.2 with ⟨e, _⟩ | ⟨g1, cap1, cur1, e, _, hh1, _⟩
    · rw [show (Value.slice sd.a sd.n sd.c) = .slice none 0 0 from e] at hg; cases hg
    · rcases h.kep.2 with ⟨e2, _⟩ | ⟨g2, cap2, cur2, e2, _, hh2, _⟩
      · rw [show (Value.slice se.a se.n se.c) = .slice none 0 0 from e2] at hg2; cases hg2
      · rw [show (Value.slice sd.a sd.n sd.c) = _ from e] at hg
        rw [show (Value.slice se.a se.n se.c) = _ from e2] at hg2
        injection hg with hg
        injection hg2 with hg2
        have e3 : g1 = g2 := (show g1 = g from hg).trans (show g2 = g from hg2).symm
        rw [e3, hh2] at hh1
        injection hh1 with hh1
        injection hh1 with _ hh1
        exact absurd hh1 (by decide)) hl hn
/-- Rows that are none. -/
theorem fa_none (w : World) (B t : Nat) : w.ownsRow B t 1 (.slice none 0 0) 0 [] := World.ownsRow_nil _ _ _ _
set_option maxRecDepth 100000 in
set_option maxHeartbeats 8000000 in
theorem flashActs_any (p : Nat) (a : Option Addr) (n c : Nat) (xs : List Int) (K : Int) (w : World) (h : Src w p a n c xs K) (hK : K ≤ 1000) :
    Calls Try.prog 23 #[.pointer (some ⟨p, 0, none⟩)] w fun e w' => ∃ (g m cp : Nat) (hs : List FaH), e = .returned (.slice (some ⟨g, 0, none⟩) m cp) ∧ NOwn w' w.heap.size 34 5 (.slice (some ⟨g, 0, none⟩) m cp) m (hs.map faEl) ∧ (∀ h ∈ hs, h.s0.n ≤ 1048576 ∧ h.s1.n ≤ 1048576) ∧ m ≤ 13 ∧ Wrote p w w' := by
  have hp := cell_lt h.code
  have hcd := src_code' h
  have bA : Below w.heap.size w (w.alloc (.cells #[] 34)) := (Below.refl _ _).alloc (Nat.le_refl _) _
  have S0 := hide (show FaSt w (w.alloc (.cells #[] 34)) p a n c xs K (.slice (some ⟨w.heap.size, 0, none⟩) 0 0) [] from ⟨h.below bA, NOwn.flat (World.ownsRow_lit _ _ _ (Nat.le_refl _) (by unfold maxLen; simp) rfl) rfl (fun e he => by cases he) (fun e he => by cases he), ⟨bA.os, bA.tape, bA.output, bA.size, fun k _ hk => bA.block k hk⟩, (fun _ h => by cases h), hp, hcd⟩)
  clear h bA hp hcd
  go_enter Try.func23, Try.ntmps23
  go_wp2_with fail
  generalize w.alloc (.cells #[] 34) = w0 at *
  refine (size_draw p a n c xs K 12 w0 (unhide S0).src).mono ?_
  rintro e w1 ⟨r, rfl, hr, hw1⟩
  subst w1
  have hr2 : (r : Int) + 2 ≤ 14 := by omega
  go_wp2_with fail
  refine (next_any p a n c xs K ((r : Int) + 2) w0 (unhide S0).src (by omega) (by omega) (by omega)).mono ?_
  rintro e w1 ⟨i0, rfl, hi0, hi1, ho, hs1⟩
  replace S0 := hide ((unhide S0).only hs1 ho)
  clear hs1 ho
  obtain ⟨N, rfl⟩ : ∃ N : Nat, i0 = (N : Int) := ⟨i0.toNat, by omega⟩
  have hN : N ≤ 13 := by omega
  clear hi0 hi1 hr2 hr
  go_wp2_with fail
  go_loopw [3, 4] (fun cv i wr => ∃ (k : Nat) (v : Value) (hs : List FaH), k ≤ N ∧ v = cv ∧ i = .int .i64 (k : Int) ∧ Hid (hs.length + k = N) ∧ Hid (∃ g m c, v = .slice (some ⟨g, 0, none⟩) m c) ∧ Hid (FaSt w wr p a n c xs (K + 3 + 300 * ((N : Int) - (k : Int))) v hs)) (fun _ i _ => (intOf i).toNat)
  case atStart => exact ⟨N, _, [], Nat.le_refl _, rfl, rfl, hide (by simp), ⟨_, _, _, rfl⟩, by rw [Int.sub_self, Int.mul_zero, Int.add_zero]; exact unhide S0⟩
  case round =>
    clear S0
    obtain ⟨k, v, hs, hk, rfl, rfl, hl, hv, hS⟩ := hrel
    by_cases hlt : 0 < k
    · obtain ⟨Kc, hKc⟩ : ∃ Kc, Kc = K + 3 + 300 * ((N : Int) - (k : Int)) := ⟨_, rfl⟩
      rw [← hKc] at hS
      have hKb : Kc ≤ 10000 := by omega
      have KE := hide (show ∀ D : Int, D ≤ Kc + 300 → D ≤ K + 3 + 300 * ((N : Int) - ((k - 1 : Nat) : Int)) from fun D hD => by omega)
      have hll : hs.length ≤ 1000 := by have := unhide hl; omega
      have LL := hide (show ∀ x : FaH, (hs ++ [x]).length + (k - 1) = N from fun x => by rw [List.length_append]; have := unhide hl; simp; omega)
      have NB := hide (fun i hi => ((unhide hS).nbl i hi).2)
      have hle := (unhide hS).wro.size
      clear hKc hl hv
      go_wp2_with fail
      refine (next_any p a n c xs Kc 90 wr (unhide hS).src (by omega) (by omega) (by omega)).mono ?_
      rintro e u1 ⟨at0, rfl, _, _, ho, hs1⟩
      have S1 := hide ((unhide hS).only hs1 ho)
      have z1 : u1.heap.size = wr.heap.size := ho.size
      clear ho hs1 hS
      go_wp2_with fail
      refine (bytes_draw p a n c xs (Kc + 3) 24 u1 (unhide S1).src (by omega) (by omega)).mono ?_
      rintro e u2 ⟨g, cp, ys, rfl, hyl, hO, _, hw, hs2⟩
      have S2 := hide ((unhide S1).wrote hs2 hw)
      have z2 := hw.size
      rw [z1] at hO
      obtain ⟨m, hm⟩ : ∃ m, m = ys.length := ⟨_, rfl⟩
      rw [← hm] at hO hyl ⊢
      have HM := hide hm
      have hgl := (hO.lt g rfl).2
      have bB : Below u2.heap.size u2 (u2.alloc (.cells #[.int .i64 1, .int .i64 at0, .int .i64 0, .slice (some ⟨g, 0, none⟩) m cp, .slice none 0 0] 34)) := (Below.refl _ _).alloc (Nat.le_refl _) _
      have BX := hide (show FaBx w wr (u2.alloc (.cells #[.int .i64 1, .int .i64 at0, .int .i64 0, .slice (some ⟨g, 0, none⟩) m cp, .slice none 0 0] 34)) p u2.heap.size a n c xs (Kc + 3 + 3 * (24 : Nat) + 3) v hs 1 at0 0 ⟨some ⟨g, 0, none⟩, m, cp⟩ ⟨none, 0, 0⟩ ys [] from
        ⟨(unhide S2).below bB, heap_alloc_last _ _, rb_ownsRow_below hO bB, fa_none _ _ _, by omega, unhide NB, hle, fun g' hg' => by injection hg' with hg'; have : g = g' := hg'; omega, fun g' hg' => by cases hg'⟩)
      clear S1 S2 hO hw hs2 bB hm NB
      go_wp2_with fail
      generalize u2.alloc (.cells #[.int .i64 1, .int .i64 at0, .int .i64 0, .slice (some ⟨g, 0, none⟩) m cp, .slice none 0 0] 34) = u3 at *
      generalize u2.heap.size = xb at *
      refine (next_any p a n c xs _ 8 u3 (unhide BX).st.src (by omega) (by omega) (by omega)).mono ?_
      rintro e u4 ⟨q, rfl, hq0, hq1, ho, hs4⟩
      replace BX := hide ((unhide BX).wrote hs4 (fa_wrote_only ho))
      clear ho hs4
      have b0 := (heap_at (unhide BX).box 0).1
      have b1 := (heap_at (unhide BX).box 1).1
      have b2 := (heap_at (unhide BX).box 2).1
      have b3 := (heap_at (unhide BX).box 3).1
      have b4 := (heap_at (unhide BX).box 4).1
      have f0 := (heap_at (unhide BX).box 0).2
      have f1 := (heap_at (unhide BX).box 1).2
      have f2 := (heap_at (unhide BX).box 2).2
      have f3 := (heap_at (unhide BX).box 3).2
      have f4 := (heap_at (unhide BX).box 4).2
      by_cases hc0 : q = 0
      · have q0 : (q == 0) = true := by rw [beq_iff_eq]; omega
        clear hc0
        replace BX := hide ((unhide BX).lay 2 0 0 ⟨none, 0, 0⟩ ⟨none, 0, 0⟩ [] [] (fa_none _ _ _) (fa_none _ _ _) (fun _ h => by cases h) (fun _ h => by cases h))
        obtain ⟨v9, w9, hrun, hs9, g9, m9, c9, rfl⟩ := (unhide BX).push ⟨by simp only; omega, by simp only; omega⟩ hll
        have S9 := hide (show FaSt w w9 p a n c xs (K + 3 + 300 * ((N : Int) - ((k - 1 : Nat) : Int))) _ _ from ⟨hs9.src.more (unhide KE _ (by omega)), hs9.own, hs9.wro, hs9.lim, hs9.hp, hs9.hc⟩)
        clear hs9 BX
        simp only at hrun
        have hz9 : (((((u4.setCell ⟨xb, 0, none⟩ (.int .i64 2)).setCell ⟨xb, 1, none⟩ (.int .i64 0)).setCell ⟨xb, 2, none⟩ (.int .i64 0)).setCell ⟨xb, 3, none⟩ (.slice none 0 0)).setCell ⟨xb, 4, none⟩ (.slice none 0 0)).heap.size = u4.heap.size := by simp [World.setCell]
        rw [hz9] at hrun
        clear hz9
        go_wp2_with (at_builtin; refine sc_wpApp rfl (.tmp 58) (.tmp 60) 23 rfl _ _ _ w9 rfl rfl hrun ?_)
        go_roundw
        case rel => exact ⟨k - 1, _, _, by omega, rfl, by go_num, unhide LL _, ⟨_, _, _, rfl⟩, unhide S9⟩
        case measure => simp [intOf]; omega
      by_cases hc1 : q = 1
      · have q0 : (q == 0) = false := by rw [beq_eq_false_iff_ne]; omega
        have q1 : (q == 1) = true := by rw [beq_iff_eq]; omega
        clear hc1
        replace BX := hide ((unhide BX).lay 2 0 0 ⟨none, 0, 0⟩ ⟨none, 0, 0⟩ [] [] (fa_none _ _ _) (fa_none _ _ _) (fun _ h => by cases h) (fun _ h => by cases h))
        obtain ⟨v9, w9, hrun, hs9, g9, m9, c9, rfl⟩ := (unhide BX).push ⟨by simp only; omega, by simp only; omega⟩ hll
        have S9 := hide (show FaSt w w9 p a n c xs (K + 3 + 300 * ((N : Int) - ((k - 1 : Nat) : Int))) _ _ from ⟨hs9.src.more (unhide KE _ (by omega)), hs9.own, hs9.wro, hs9.lim, hs9.hp, hs9.hc⟩)
        clear hs9 BX
        simp only at hrun
        have hz9 : (((((u4.setCell ⟨xb, 0, none⟩ (.int .i64 2)).setCell ⟨xb, 1, none⟩ (.int .i64 0)).setCell ⟨xb, 2, none⟩ (.int .i64 0)).setCell ⟨xb, 3, none⟩ (.slice none 0 0)).setCell ⟨xb, 4, none⟩ (.slice none 0 0)).heap.size = u4.heap.size := by simp [World.setCell]
        rw [hz9] at hrun
        clear hz9
        go_wp2_with (at_builtin; refine sc_wpApp rfl (.tmp 58) (.tmp 60) 23 rfl _ _ _ w9 rfl rfl hrun ?_)
        go_roundw
        case rel => exact ⟨k - 1, _, _, by omega, rfl, by go_num, unhide LL _, ⟨_, _, _, rfl⟩, unhide S9⟩
        case measure => simp [intOf]; omega
      by_cases hc2 : q = 2
      · have q0 : (q == 0) = false := by rw [beq_eq_false_iff_ne]; omega
        have q1 : (q == 1) = false := by rw [beq_eq_false_iff_ne]; omega
        have q2 : (q == 2) = true := by rw [beq_iff_eq]; omega
        clear hc2
        go_wp2_with fail
        refine (flags_any p a n c xs _ 6 u4 (unhide BX).st.src (by omega) (by omega)).mono ?_
        rintro e u5 ⟨gk, ck, bs, rfl, hbl, hO, hw, hs5⟩
        clear b0 b1 b2 b3 b4 f0 f1 f2 f3 f4
        obtain ⟨mk, hmk⟩ : ∃ m, m = bs.length := ⟨_, rfl⟩
        have hxl := (unhide BX).lt
        have hO2 := gd_base hO (C := wr.heap.size) (by have := (unhide BX).lo; omega)
        have hgk := (hO.lt gk rfl).1
        replace BX := hide ((unhide BX).wrote hs5 hw)
        rw [← hmk] at hbl ⊢
        have HMK := hide hmk
        clear hs5 hw hmk
        go_wp2_with fail
        refine (next_any p a n c xs _ 17 u5 (unhide BX).st.src (by omega) (by omega) (by omega)).mono ?_
        rintro e u6 ⟨to0, rfl, _, _, ho, hs6⟩
        have hO3 := bowns_wrote hO2 (fa_wrote_only ho) (by have := (unhide BX).st.hp; omega)
        replace BX := hide ((unhide BX).wrote hs6 (fa_wrote_only ho))
        clear ho hs6 hO hO2
        have b0 := (heap_at (unhide BX).box 0).1
        have b1 := (heap_at (unhide BX).box 1).1
        have b2 := (heap_at (unhide BX).box 2).1
        have b3 := (heap_at (unhide BX).box 3).1
        have b4 := (heap_at (unhide BX).box 4).1
        have f0 := (heap_at (unhide BX).box 0).2
        have f1 := (heap_at (unhide BX).box 1).2
        have f2 := (heap_at (unhide BX).box 2).2
        have f3 := (heap_at (unhide BX).box 3).2
        have f4 := (heap_at (unhide BX).box 4).2
        replace BX := hide ((unhide BX).lay 3 0 to0 ⟨none, 0, 0⟩ ⟨some ⟨gk, 0, none⟩, mk, ck⟩ [] bs (fa_none _ _ _) (by have e := unhide HMK; subst e; exact hO3) (fun _ h => by cases h) (fun g' hg' => by injection hg' with hg'; have : gk = g' := hg'; omega))
        clear hO3
        obtain ⟨v9, w9, hrun, hs9, g9, m9, c9, rfl⟩ := (unhide BX).push ⟨by simp only; omega, by simp only; omega⟩ hll
        have S9 := hide (show FaSt w w9 p a n c xs (K + 3 + 300 * ((N : Int) - ((k - 1 : Nat) : Int))) _ _ from ⟨hs9.src.more (unhide KE _ (by omega)), hs9.own, hs9.wro, hs9.lim, hs9.hp, hs9.hc⟩)
        clear hs9 BX
        simp only at hrun
        have hz9 : (((((u6.setCell ⟨xb, 0, none⟩ (.int .i64 3)).setCell ⟨xb, 1, none⟩ (.int .i64 0)).setCell ⟨xb, 2, none⟩ (.int .i64 to0)).setCell ⟨xb, 3, none⟩ (.slice none 0 0)).setCell ⟨xb, 4, none⟩ (.slice (some ⟨gk, 0, none⟩) mk ck)).heap.size = u6.heap.size := by simp [World.setCell]
        rw [hz9] at hrun
        clear hz9
        go_wp2_with (at_builtin; refine sc_wpApp rfl (.tmp 58) (.tmp 60) 23 rfl _ _ _ w9 rfl rfl hrun ?_)
        go_roundw
        case rel => exact ⟨k - 1, _, _, by omega, rfl, by go_num, unhide LL _, ⟨_, _, _, rfl⟩, unhide S9⟩
        case measure => simp [intOf]; omega
      by_cases hc3 : q = 3
      · have q0 : (q == 0) = false := by rw [beq_eq_false_iff_ne]; omega
        have q1 : (q == 1) = false := by rw [beq_eq_false_iff_ne]; omega
        have q2 : (q == 2) = false := by rw [beq_eq_false_iff_ne]; omega
        have q3 : (q == 3) = true := by rw [beq_iff_eq]; omega
        clear hc3
        go_wp2_with fail
        refine (next_any p a n c xs _ 7 u4 (unhide BX).st.src (by omega) (by omega) (by omega)).mono ?_
        rintro e u5 ⟨t0, rfl, _, _, ho, hs5⟩
        clear b0 b1 b2 b3 b4 f0 f1 f2 f3 f4
        replace BX := hide ((unhide BX).wrote hs5 (fa_wrote_only ho))
        clear ho hs5
        have b0 := (heap_at (unhide BX).box 0).1
        have b1 := (heap_at (unhide BX).box 1).1
        have b2 := (heap_at (unhide BX).box 2).1
        have b3 := (heap_at (unhide BX).box 3).1
        have b4 := (heap_at (unhide BX).box 4).1
        have f0 := (heap_at (unhide BX).box 0).2
        have f1 := (heap_at (unhide BX).box 1).2
        have f2 := (heap_at (unhide BX).box 2).2
        have f3 := (heap_at (unhide BX).box 3).2
        have f4 := (heap_at (unhide BX).box 4).2
        replace BX := hide ((unhide BX).lay 4 t0 0 ⟨none, 0, 0⟩ ⟨none, 0, 0⟩ [] [] (fa_none _ _ _) (fa_none _ _ _) (fun _ h => by cases h) (fun _ h => by cases h))
        obtain ⟨v9, w9, hrun, hs9, g9, m9, c9, rfl⟩ := (unhide BX).push ⟨by simp only; omega, by simp only; omega⟩ hll
        have S9 := hide (show FaSt w w9 p a n c xs (K + 3 + 300 * ((N : Int) - ((k - 1 : Nat) : Int))) _ _ from ⟨hs9.src.more (unhide KE _ (by omega)), hs9.own, hs9.wro, hs9.lim, hs9.hp, hs9.hc⟩)
        clear hs9 BX
        simp only at hrun
        have hz9 : (((((u5.setCell ⟨xb, 0, none⟩ (.int .i64 4)).setCell ⟨xb, 1, none⟩ (.int .i64 t0)).setCell ⟨xb, 2, none⟩ (.int .i64 0)).setCell ⟨xb, 3, none⟩ (.slice none 0 0)).setCell ⟨xb, 4, none⟩ (.slice none 0 0)).heap.size = u5.heap.size := by simp [World.setCell]
        rw [hz9] at hrun
        clear hz9
        go_wp2_with (at_builtin; refine sc_wpApp rfl (.tmp 58) (.tmp 60) 23 rfl _ _ _ w9 rfl rfl hrun ?_)
        go_roundw
        case rel => exact ⟨k - 1, _, _, by omega, rfl, by go_num, unhide LL _, ⟨_, _, _, rfl⟩, unhide S9⟩
        case measure => simp [intOf]; omega
      by_cases hc4 : q = 4
      · have q0 : (q == 0) = false := by rw [beq_eq_false_iff_ne]; omega
        have q1 : (q == 1) = false := by rw [beq_eq_false_iff_ne]; omega
        have q2 : (q == 2) = false := by rw [beq_eq_false_iff_ne]; omega
        have q3 : (q == 3) = false := by rw [beq_eq_false_iff_ne]; omega
        have q4 : (q == 4) = true := by rw [beq_iff_eq]; omega
        clear hc4
        go_wp2_with fail
        refine (chance_any p a n c xs _ 3 u4 (unhide BX).st.src (by omega) (by omega) (by omega)).mono ?_
        rintro e u5 ⟨cx, rfl, ho, hs5⟩
        clear b0 b1 b2 b3 b4 f0 f1 f2 f3 f4
        replace BX := hide ((unhide BX).wrote hs5 (fa_wrote_only ho))
        clear ho hs5
        have b0 := (heap_at (unhide BX).box 0).1
        have b1 := (heap_at (unhide BX).box 1).1
        have b2 := (heap_at (unhide BX).box 2).1
        have b3 := (heap_at (unhide BX).box 3).1
        have b4 := (heap_at (unhide BX).box 4).1
        have f0 := (heap_at (unhide BX).box 0).2
        have f1 := (heap_at (unhide BX).box 1).2
        have f2 := (heap_at (unhide BX).box 2).2
        have f3 := (heap_at (unhide BX).box 3).2
        have f4 := (heap_at (unhide BX).box 4).2
        cases cx with
        | false =>
          obtain ⟨v9, w9, hrun, hs9, g9, m9, c9, rfl⟩ := (unhide BX).push ⟨by simp only; omega, by simp only; omega⟩ hll
          have S9 := hide (show FaSt w w9 p a n c xs (K + 3 + 300 * ((N : Int) - ((k - 1 : Nat) : Int))) _ _ from ⟨hs9.src.more (unhide KE _ (by omega)), hs9.own, hs9.wro, hs9.lim, hs9.hp, hs9.hc⟩)
          clear hs9 BX
          simp only at hrun
          go_wp2_with (at_builtin; refine sc_wpApp rfl (.tmp 58) (.tmp 60) 23 rfl _ _ _ w9 rfl rfl hrun ?_)
          go_roundw
          case rel => exact ⟨k - 1, _, _, by omega, rfl, by go_num, unhide LL _, ⟨_, _, _, rfl⟩, unhide S9⟩
          case measure => simp [intOf]; omega
        | true =>
          go_wp2_with fail
          refine (next_any p a n c xs _ 6 u5 (unhide BX).st.src (by omega) (by omega) (by omega)).mono ?_
          rintro e u6 ⟨k6, rfl, _, _, ho, hs6⟩
          clear b0 b1 b2 b3 b4 f0 f1 f2 f3 f4
          replace BX := hide ((unhide BX).wrote hs6 (fa_wrote_only ho))
          clear ho hs6
          have b0 := (heap_at (unhide BX).box 0).1
          have b1 := (heap_at (unhide BX).box 1).1
          have b2 := (heap_at (unhide BX).box 2).1
          have b3 := (heap_at (unhide BX).box 3).1
          have b4 := (heap_at (unhide BX).box 4).1
          have f0 := (heap_at (unhide BX).box 0).2
          have f1 := (heap_at (unhide BX).box 1).2
          have f2 := (heap_at (unhide BX).box 2).2
          have f3 := (heap_at (unhide BX).box 3).2
          have f4 := (heap_at (unhide BX).box 4).2
          replace BX := hide ((unhide BX).num 0 k6 (k2 := k6) (t2 := at0) (r2 := 0) rfl)
          have bL := (Below.refl (u6.setCell ⟨xb, 0, none⟩ (.int .i64 k6)).heap.size (u6.setCell ⟨xb, 0, none⟩ (.int .i64 k6))).alloc (Nat.le_refl _) (.cells #[.int .i64 (-1), .int .i64 127, .int .i64 128, .int .i64 2048, .int .i64 9223372036854775807] 3)
          have KL := hide (heap_alloc_last (u6.setCell ⟨xb, 0, none⟩ (.int .i64 k6)) (.cells #[.int .i64 (-1), .int .i64 127, .int .i64 128, .int .i64 2048, .int .i64 9223372036854775807] 3))
          have hxb := (unhide BX).lt
          replace BX := hide ((unhide BX).below bL)
          have hz6 : (u6.setCell ⟨xb, 0, none⟩ (.int .i64 k6)).heap.size = u6.heap.size := by simp [World.setCell]
          rw [hz6] at KL hxb
          clear bL hz6
          go_wp2_with fail
          clear b0 b1 b2 b3 b4 f0 f1 f2 f3 f4
          generalize (u6.setCell ⟨xb, 0, none⟩ (.int .i64 k6)).alloc (.cells #[.int .i64 (-1), .int .i64 127, .int .i64 128, .int .i64 2048, .int .i64 9223372036854775807] 3) = u7 at *
          generalize u6.heap.size = lb at *
          refine (next_any p a n c xs _ 5 u7 (unhide BX).st.src (by omega) (by omega) (by omega)).mono ?_
          rintro e u8 ⟨r5, rfl, hr0, hr1, ho, hs8⟩
          obtain ⟨R5, rfl⟩ : ∃ R : Nat, r5 = (R : Int) := ⟨r5.toNat, by omega⟩
          have hlb : xb < lb := hxb
          have k8 := (ho.block lb (by have := (unhide BX).st.hp; have := (unhide BX).lo; omega)).trans (unhide KL)
          obtain ⟨x5, y5⟩ : ∃ x, u8.cell? ⟨lb, R5, none⟩ = some (.int .i64 x) := by
            have h := (heap_at k8 R5).1
            match R5, hr1, h with
            | 0, _, h => exact ⟨_, h⟩
            | 1, _, h => exact ⟨_, h⟩
            | 2, _, h => exact ⟨_, h⟩
            | 3, _, h => exact ⟨_, h⟩
            | 4, _, h => exact ⟨_, h⟩
            | r + 5, h5, _ => omega
          replace BX := hide ((unhide BX).wrote hs8 (fa_wrote_only ho))
          clear ho hs8 k8 KL
          have b0 := (heap_at (unhide BX).box 0).1
          have b1 := (heap_at (unhide BX).box 1).1
          have b2 := (heap_at (unhide BX).box 2).1
          have b3 := (heap_at (unhide BX).box 3).1
          have b4 := (heap_at (unhide BX).box 4).1
          have f0 := (heap_at (unhide BX).box 0).2
          have f1 := (heap_at (unhide BX).box 1).2
          have f2 := (heap_at (unhide BX).box 2).2
          have f3 := (heap_at (unhide BX).box 3).2
          have f4 := (heap_at (unhide BX).box 4).2
          replace BX := hide ((unhide BX).num 1 x5 (k2 := k6) (t2 := x5) (r2 := 0) rfl)
          have bL := (Below.refl (u8.setCell ⟨xb, 1, none⟩ (.int .i64 x5)).heap.size (u8.setCell ⟨xb, 1, none⟩ (.int .i64 x5))).alloc (Nat.le_refl _) (.cells #[.int .i64 (-1), .int .i64 17] 3)
          have KL := hide (heap_alloc_last (u8.setCell ⟨xb, 1, none⟩ (.int .i64 x5)) (.cells #[.int .i64 (-1), .int .i64 17] 3))
          have hxb := (unhide BX).lt
          replace BX := hide ((unhide BX).below bL)
          have hz8 : (u8.setCell ⟨xb, 1, none⟩ (.int .i64 x5)).heap.size = u8.heap.size := by simp [World.setCell]
          rw [hz8] at KL hxb
          clear bL
          go_wp2_with fail
          clear b0 b1 b2 b3 b4 f0 f1 f2 f3 f4
          clear y5 hz8
          generalize (u8.setCell ⟨xb, 1, none⟩ (.int .i64 x5)).alloc (.cells #[.int .i64 (-1), .int .i64 17] 3) = u9 at *
          generalize u8.heap.size = lc at *
          refine (next_any p a n c xs _ 2 u9 (unhide BX).st.src (by omega) (by omega) (by omega)).mono ?_
          rintro e u10 ⟨r7, rfl, hr70, hr71, ho, hs10⟩
          obtain ⟨R7, rfl⟩ : ∃ R : Nat, r7 = (R : Int) := ⟨r7.toNat, by omega⟩
          have k10 := (ho.block lc (by have := (unhide BX).st.hp; have := (unhide BX).lo; omega)).trans (unhide KL)
          obtain ⟨x7, y7⟩ : ∃ x, u10.cell? ⟨lc, R7, none⟩ = some (.int .i64 x) := by
            have h := (heap_at k10 R7).1
            match R7, hr71, h with
            | 0, _, h => exact ⟨_, h⟩
            | 1, _, h => exact ⟨_, h⟩
            | r + 2, h5, _ => omega
          replace BX := hide ((unhide BX).wrote hs10 (fa_wrote_only ho))
          clear ho hs10 k10 KL
          have b0 := (heap_at (unhide BX).box 0).1
          have b1 := (heap_at (unhide BX).box 1).1
          have b2 := (heap_at (unhide BX).box 2).1
          have b3 := (heap_at (unhide BX).box 3).1
          have b4 := (heap_at (unhide BX).box 4).1
          have f0 := (heap_at (unhide BX).box 0).2
          have f1 := (heap_at (unhide BX).box 1).2
          have f2 := (heap_at (unhide BX).box 2).2
          have f3 := (heap_at (unhide BX).box 3).2
          have f4 := (heap_at (unhide BX).box 4).2
          replace BX := hide ((unhide BX).num 2 x7 (k2 := k6) (t2 := x5) (r2 := x7) rfl)
          obtain ⟨v9, w9, hrun, hs9, g9, m9, c9, rfl⟩ := (unhide BX).push ⟨by simp only; omega, by simp only; omega⟩ hll
          have S9 := hide (show FaSt w w9 p a n c xs (K + 3 + 300 * ((N : Int) - ((k - 1 : Nat) : Int))) _ _ from ⟨hs9.src.more (unhide KE _ (by omega)), hs9.own, hs9.wro, hs9.lim, hs9.hp, hs9.hc⟩)
          clear hs9 BX
          simp only at hrun
          have hz9 : (u10.setCell ⟨xb, 2, none⟩ (.int .i64 x7)).heap.size = u10.heap.size := by simp [World.setCell]
          rw [hz9] at hrun
          clear hz9
          go_wp2_with (at_builtin; refine sc_wpApp rfl (.tmp 58) (.tmp 60) 23 rfl _ _ _ w9 rfl rfl hrun ?_)
          go_roundw
          case rel => exact ⟨k - 1, _, _, by omega, rfl, by go_num, unhide LL _, ⟨_, _, _, rfl⟩, unhide S9⟩
          case measure => simp [intOf]; omega
      have q0 : (q == 0) = false := by rw [beq_eq_false_iff_ne]; omega
      have q1 : (q == 1) = false := by rw [beq_eq_false_iff_ne]; omega
      have q2 : (q == 2) = false := by rw [beq_eq_false_iff_ne]; omega
      have q3 : (q == 3) = false := by rw [beq_eq_false_iff_ne]; omega
      have q4 : (q == 4) = false := by rw [beq_eq_false_iff_ne]; omega
      obtain ⟨v9, w9, hrun, hs9, g9, m9, c9, rfl⟩ := (unhide BX).push ⟨by simp only; omega, by simp only; omega⟩ hll
      have S9 := hide (show FaSt w w9 p a n c xs (K + 3 + 300 * ((N : Int) - ((k - 1 : Nat) : Int))) _ _ from ⟨hs9.src.more (unhide KE _ (by omega)), hs9.own, hs9.wro, hs9.lim, hs9.hp, hs9.hc⟩)
      clear hs9 BX
      simp only at hrun
      go_wp2_with (at_builtin; refine sc_wpApp rfl (.tmp 58) (.tmp 60) 23 rfl _ _ _ w9 rfl rfl hrun ?_)
      go_roundw
      case rel => exact ⟨k - 1, _, _, by omega, rfl, by go_num, unhide LL _, ⟨_, _, _, rfl⟩, unhide S9⟩
      case measure => simp [intOf]; omega
    · obtain rfl : k = 0 := by omega
      obtain ⟨g, m, cp, rfl⟩ := unhide hv
      have hlen := unhide hl
      have hmm : m = hs.length := by
        rcases (unhide hS).own.row.2 with ⟨e, _⟩ | ⟨_, _, _, e, _⟩
        · cases e
        · injection e
      have R := hide (show NOwn wr w.heap.size 34 5 (.slice (some ⟨g, 0, none⟩) m cp) m (hs.map faEl) ∧ (∀ h ∈ hs, h.s0.n ≤ 1048576 ∧ h.s1.n ≤ 1048576) ∧ m ≤ 13 ∧ Wrote p w wr from ⟨by rw [hmm]; have h := (unhide hS).own; rwa [hmm] at h, (unhide hS).lim, by omega, (unhide hS).wro⟩)
      clear hl hv hS hmm hlen
      go_wp2_with fail
      go_ret
      exact ⟨g, m, cp, hs, rfl, unhide R⟩
set_option maxHeartbeats 1000000 in
theorem flashActsOf_any (a : Option Addr) (n c : Nat) (xs : List Int) (w : World) (hr : Row w a n xs) (hby : ∀ i, i < n → 0 ≤ xs.getD i 0 ∧ xs.getD i 0 ≤ 255) (hn : n ≤ 1048576) :
    Calls Try.prog 5 #[.slice a n c] w fun e w' => ∃ (g m cp : Nat) (hs : List FaH), e = .returned (.slice (some ⟨g, 0, none⟩) m cp) ∧ NOwn w' w.heap.size 34 5 (.slice (some ⟨g, 0, none⟩) m cp) m (hs.map faEl) ∧ (∀ h ∈ hs, h.s0.n ≤ 1048576 ∧ h.s1.n ≤ 1048576) ∧ m ≤ 13 ∧ Below w.heap.size w w' := by
  have HS := hide (source_any a n c xs w hr hby hn)
  clear hr hby
  go_enter Try.func5, Try.ntmps5
  go_wp2_with fail
  refine (unhide HS).mono ?_
  rintro e w1 ⟨rfl, hs, hb, hz⟩
  have HB := hide hb
  have HZ := hide hz
  have HF := hide (flashActs_any w.heap.size a n c xs 0 w1 hs (by omega))
  clear hs hb hz HS
  go_wp2_with fail
  refine (unhide HF).mono ?_
  rintro e w2 ⟨g, m, cp, hs, rfl, h1, h2, h3, h4⟩
  have R := hide (show NOwn w2 w.heap.size 34 5 (.slice (some ⟨g, 0, none⟩) m cp) m (hs.map faEl) ∧ Below w.heap.size w w2 from ⟨h1.down (unhide HB).size, (unhide HB).trans ⟨h4.os, h4.tape, h4.output, h4.size, fun k hk => h4.block k (by omega) (by have := unhide HZ; omega)⟩⟩)
  have H2 := hide h2
  clear h1 h4 h2 HF
  go_wp2_with fail
  go_ret
  exact ⟨g, m, cp, hs, rfl, (unhide R).1, unhide H2, h3, (unhide R).2⟩
end Go.Proofs.Ytjhmammoakiknaa

namespace Go.Proofs.Ytjhmammoakiknaa
open Go.RowKit

set_option maxHeartbeats 1000000 in
theorem sameInts_C (a1 a2 : Option Addr) (n c1 c2 : Nat) (d : List Int) (w : World) (hn : n ≤ maxLen) (hd : d.length = n) (h1 : RowC w (.slice a1 n c1) n (d.map (Value.int .i64))) (h2 : RowC w (.slice a2 n c2) n (d.map (Value.int .i64))) :
    Calls Try.prog 8 #[.slice a1 n c1, .slice a2 n c2] w fun e w' => e = .returned (.bool true) ∧ Below w.heap.size w w' := by
  unfold maxLen at hn
  have H1 := hide h1
  have H2 := hide h2
  have L := hide hd
  clear h1 h2 hd
  go_enter Try.func8, Try.ntmps8
  go_wp2_with fail
  go_loopw [5] (fun i wr => ∃ k : Nat, k ≤ n ∧ i = .int .i64 k ∧ ∃ q, wr = w.drewN q) (fun i _ => n - (intOf i).toNat)
  case atStart => exact ⟨0, Nat.zero_le _, rfl, 0, rfl⟩
  case round =>
    obtain ⟨k, hk, rfl, q, rfl⟩ := hrel
    by_cases hlt : k < n
    · have hkd : k < d.length := by rw [unhide L]; exact hlt
      obtain ⟨b1, o1, rfl, e1⟩ := (unhide H1).at (j := k) (u := Value.int .i64 d[k]) (by simp [hkd])
      obtain ⟨b2, o2, rfl, e2⟩ := (unhide H2).at (j := k) (u := Value.int .i64 d[k]) (by simp [hkd])
      generalize d[k] = x at *
      have hb : (x != x) = false := by simp
      go_wp2_with fail
      go_quiet (fail)
      go_wp2_with fail
      go_roundw
      case rel => exact ⟨k + 1, by omega, by go_num, _, rfl⟩
      case measure => simp [intOf]; omega
    · obtain rfl : k = n := by omega
      go_wp2_with fail
      go_ret
      exact ⟨rfl, bel_drewN (Below.refl _ _) _⟩
end Go.Proofs.Ytjhmammoakiknaa

namespace Go.Proofs.Ytjhmammoakiknaa
open Go.RowKit

/-- A row of bytes as a text. -/
theorem conv_any {w : World} {a : Option Addr} {n c : Nat} {xs : List Int} (h : Row w a n xs) : (convert 22 9 (.slice a n c)).run Try.prog w = .ok (.string (strOfNums xs)) w := by
  by_cases hn : 0 < n
  · obtain ⟨b, off, rfl, _⟩ := h.2 0 hn
    exact run_convert_bytes_arg _ 22 5 Try.underlying22 Try.underlying5 b off n c xs h.1 (fun i hi => by
      obtain ⟨b', off', e, hc⟩ := h.2 i hi
      cases e
      exact hc) 9 Try.underlying9
  · obtain rfl : n = 0 := by omega
    obtain rfl : xs = [] := List.eq_nil_of_length_eq_zero h.1
    cases a with
    | none => rw [run_convert_bytes_string (P := Try.prog) w 22 9 5 none 0 c Try.underlying22 Try.underlying5 Try.underlying9]; rfl
    | some x =>
      obtain ⟨b, off, spot⟩ := x
      rw [run_convert_bytes_string (P := Try.prog) w 22 9 5 (some ⟨b, off, spot⟩) 0 c Try.underlying22 Try.underlying5 Try.underlying9]; rfl
end Go.Proofs.Ytjhmammoakiknaa

namespace Go.Proofs.Ytjhmammoakiknaa
open Go.RowKit Go.Maps

set_option maxRecDepth 100000 in
set_option maxHeartbeats 2000000 in
theorem implFlashRead_any (ah : Option Addr) (n c : Nat) (aw : Option Addr) (nw cw : Nat) (xs : List Int) (ws : List WD) (w : World) (hR : Row w ah n xs) (hW : WRow w aw nw ws) (hn : n ≤ 1048576) (hnw : nw ≤ 1048576) (hc : n ≤ c) (hc2 : c ≤ maxLen) :
    Calls Try.prog 9 #[fv ah n c aw nw cw] w fun e w' => ∃ a cap, e = .returned (.tuple #[.slice a (rdB xs ws).length cap, .int .i64 (rdC xs ws)]) ∧ Mine w' w.heap.size (.slice a (rdB xs ws).length cap) (rdB xs ws) ∧ Below w.heap.size w w' := by
  have hxl := hR.1
  have hwl := hW.1
  have b0 : Below w.heap.size w (w.alloc (.cells #[.slice ah n c, .slice aw nw cw] 28)) := (Below.refl _ _).alloc (Nat.le_refl _) _
  have HW := hide (hW.below b0)
  have HR := hide (row_grow hR b0)
  have B0 := hide b0
  have x0 : (w.alloc (.cells #[.slice ah n c, .slice aw nw cw] 28)).cell? ⟨w.heap.size, 0, none⟩ = some (.slice ah n c) := (cell_new rfl).trans rfl
  have x1 : (w.alloc (.cells #[.slice ah n c, .slice aw nw cw] 28)).cell? ⟨w.heap.size, 1, none⟩ = some (.slice aw nw cw) := (cell_new rfl).trans rfl
  have hz : (w.alloc (.cells #[.slice ah n c, .slice aw nw cw] 28)).heap.size = w.heap.size + 1 := by simp
  clear hR hW b0
  go_enter Try.func9, Try.ntmps9
  go_wp2_with fail
  generalize w.alloc (.cells #[.slice ah n c, .slice aw nw cw] 28) = w0 at *
  refine (implFlashOK_any ah n c aw nw cw ws w0 (by unfold maxLen; omega) (by unfold maxLen; omega) (unhide HW)).mono ?_
  rintro e w1 ⟨rfl, hb1⟩
  have y0 := (hb1.cell (p := ⟨w.heap.size, 0, none⟩) (show w.heap.size < w0.heap.size by omega)).trans x0
  have y1 := (hb1.cell (p := ⟨w.heap.size, 1, none⟩) (show w.heap.size < w0.heap.size by omega)).trans x1
  have hs1 := hb1.size
  have W1 := hide ((unhide HW).below hb1)
  have R1 := hide (row_grow (unhide HR) hb1)
  have B1 := hide ((unhide B0).trans (hb1.mono (by omega)))
  clear HW HR B0 hb1 x0 x1
  by_cases ho : okD n ws = true
  · rw [ho]
    obtain ⟨k1, k2, k3, k4⟩ := okD_parts ho
    have HE := hide (show rdB xs ws = readD xs ws ∧ rdC xs ws = 0 by unfold rdB rdC; rw [hxl, ho]; exact ⟨rfl, rfl⟩)
    obtain ⟨m, hm⟩ : ∃ m, n = m * 16 := ⟨n / 16, by omega⟩
    have hP := deviceOf_any ah m c aw nw cw xs ws w1 (by rw [← hm]; exact unhide R1) (unhide W1) (by omega) hc2 (by omega) (by omega) (fun i hi => k4 _ (List.getElem_mem hi))
    rw [← hm] at hP
    have HP := hide hP
    have HQ := hide (devDS_read (ws := ws) (show xs.length = m * 16 by omega) (by omega) k4)
    clear k1 k2 k3 k4 ho hP hm
    go_wp2_with fail
    refine (unhide HP).mono ?_
    rintro e w2 ⟨rfl, ⟨mh, mr, v, hd⟩, hb2⟩
    have B2 := hide ((unhide B1).trans (hb2.mono (by omega)))
    have hs2 := hb2.size
    have HD := hide hd
    clear hb2 y0 y1 HP hd
    go_wp2_with fail
    refine (bytes_any (w1.heap.size + 1 + 1) 2 mr 5000 (devDS xs m ws).rc (devDS xs m ws).rf w2 (unhide HD).read (unhide HD).rok.2.1 (unhide HD).rok.1 (unhide HD).c2 (unhide HD).c3).mono ?_
    rintro e w3 ⟨rfl, hM, hb3⟩
    have hlen := secBytes_len (devDS xs m ws).rf (unhide HD).rok.2.1 (devDS xs m ws).rc
    rw [unhide HQ] at hlen hM
    rw [← hlen] at hM ⊢
    have M3 := hide (mine_mono hM (show w.heap.size ≤ w2.heap.size by omega))
    have B3 := hide ((unhide B2).trans (hb3.mono (by omega)))
    clear hM hb3 HD hlen HQ
    go_wp2_with fail
    go_ret2
    rw [(unhide HE).1, (unhide HE).2]
    exact ⟨_, _, rfl, unhide M3, unhide B3⟩
  · have ho : okD n ws = false := by simpa using ho
    rw [ho]
    have HE := hide (show rdB xs ws = [] ∧ rdC xs ws = 1 by unfold rdB rdC; rw [hxl, ho]; exact ⟨rfl, rfl⟩)
    clear ho
    go_wp2_with fail
    go_ret2
    rw [(unhide HE).1, (unhide HE).2]
    exact ⟨none, 0, rfl, mine_nil _ _, unhide B1⟩
end Go.Proofs.Ytjhmammoakiknaa

namespace Go.Proofs.Ytjhmammoakiknaa
open Go.RowKit

/-- Block p is a source's: three cells. -/
def Three (w : World) (p : Nat) : Prop := ∃ v0 v1 v2 fr, w.heap[p]? = some (.cells #[v0, v1, v2] 77 fr)
theorem Three.set {w : World} {p : Nat} (h : Three w p) (o : Nat) (v : Value) : Three (w.setCell ⟨p, o, none⟩ v) p := by
  obtain ⟨v0, v1, v2, fr, h⟩ := h
  rw [setCell_eq_setRow w p o _ _ fr v h]
  have h2 := setRow_heap w p _ (#[v0, v1, v2].setIfInBounds o v) _ fr h
  match o, h2 with
  | 0, h2 => exact ⟨_, _, _, fr, h2⟩
  | 1, h2 => exact ⟨_, _, _, fr, h2⟩
  | 2, h2 => exact ⟨_, _, _, fr, h2⟩
  | o + 3, h2 => exact ⟨v0, v1, v2, fr, by rw [h2, Array.setIfInBounds_eq_of_size_le (by simp)]⟩
theorem Three.same {w w' : World} {p : Nat} (h : Three w p) (e : w'.heap[p]? = w.heap[p]?) : Three w' p := by
  obtain ⟨v0, v1, v2, fr, h⟩ := h
  exact ⟨v0, v1, v2, fr, e.trans h⟩
/-- A source at block p over the bytes xs, its place and its seed told. -/
structure SrcF (w : World) (p : Nat) (a : Option Addr) (n c : Nat) (xs : List Int) (t s : Int) : Prop where
  code : w.cell? ⟨p, 0, none⟩ = some (.slice a n c)
  place : w.cell? ⟨p, 1, none⟩ = some (.int .i64 t)
  seed : w.cell? ⟨p, 2, none⟩ = some (.int .i64 s)
  ht : 0 ≤ t
  hs0 : 0 ≤ s
  hs1 : s < 2147483648
  free : ∀ j, w.frozen? ⟨p, j, none⟩ = false
  row : Row w a n xs
  bytes : ∀ i, i < n → 0 ≤ xs.getD i 0 ∧ xs.getD i 0 ≤ 255
  apart : ∀ x, a = some x → 0 < n → x.block ≠ p
  bound : n ≤ 1048576
  shape : Three w p
/-- A byte, and the seed behind it. -/
def byteV (xs : List Int) (t s : Int) : Int × Int :=
  if t + 1 ≤ (xs.length : Int) then (xs.getD t.toNat 0, (s * 31 + xs.getD t.toNat 0 + 7) % 2147483648)
  else if 3000 < t + 1 then (0, s) else ((s * 1103515245 + 12345) % 2147483648 / 65536 % 256, (s * 1103515245 + 12345) % 2147483648)
theorem srcF_step {w w' : World} {p : Nat} {a : Option Addr} {n c : Nat} {xs : List Int} {t s : Int} (ho : Only p w w') (h0 : w'.cell? ⟨p, 0, none⟩ = some (.slice a n c)) (h1 : w'.cell? ⟨p, 1, none⟩ = some (.int .i64 t))
    (h2 : w'.cell? ⟨p, 2, none⟩ = some (.int .i64 s)) (ht : 0 ≤ t) (hs : 0 ≤ s) (hs1 : s < 2147483648) (hf : ∀ j, w.frozen? ⟨p, j, none⟩ = false) (hr : Row w a n xs)
    (hb : ∀ i, i < n → 0 ≤ xs.getD i 0 ∧ xs.getD i 0 ≤ 255) (ha : ∀ x, a = some x → 0 < n → x.block ≠ p) (hn : n ≤ 1048576) (h3 : Three w' p) : SrcF w' p a n c xs t s := by
  refine ⟨h0, h1, h2, ht, hs, hs1, fun j => (ho.frozen _).trans (hf j), ?_, hb, ha, hn, h3⟩
  by_cases hp : 0 < n
  · exact hr.of_cells fun x hx q hq => ho.cell (by rw [hq]; exact ha x hx hp)
  · exact ⟨hr.1, fun i hi => absurd hi (by omega)⟩
set_option maxHeartbeats 1000000 in
theorem byteF_any (p : Nat) (a : Option Addr) (n c : Nat) (xs : List Int) (t s : Int) (w : World) (h : SrcF w p a n c xs t s) (hK : t ≤ 1000000) :
    Calls Try.prog 67 #[.pointer (some ⟨p, 0, none⟩)] w fun e w' => e = .returned (.int .i64 (byteV xs t s).1) ∧ 0 ≤ (byteV xs t s).1 ∧ (byteV xs t s).1 ≤ 255 ∧ Only p w w' ∧ SrcF w' p a n c xs (t + 1) (byteV xs t s).2 := by
  obtain ⟨hc, ht, hs, ht0, hs0, hs1, hf, hr, hby, hap, hbd, h3c⟩ := h
  have H3 := hide h3c
  clear h3c
  have f1 := hf 1
  have f2 := hf 2
  have hxl := hide hr.1
  have R := hide hr
  have BY := hide hby
  have AP := hide hap
  have HF := hide hf
  clear hf hr hby hap
  by_cases hlt : t + 1 ≤ (n : Int)
  · have HV := hide (show byteV xs t s = (xs.getD t.toNat 0, (s * 31 + xs.getD t.toNat 0 + 7) % 2147483648) by unfold byteV; rw [if_pos (by rw [unhide hxl]; exact hlt)])
    obtain ⟨k, rfl⟩ := Int.eq_ofNat_of_zero_le ht0
    obtain ⟨b, off, rfl, e1⟩ := (unhide R).2 k (by omega)
    obtain ⟨x0, x1⟩ := unhide BY k (by omega)
    rw [show (k : Int).toNat = k from rfl] at HV
    generalize hx : xs.getD k 0 = x at *
    have hne : ¬ b = p := unhide AP _ rfl (by omega)
    clear hx
    go_enter Try.func67, Try.ntmps67
    go_wp2_with fail
    go_quiet (fail)
    go_wp2_with fail
    have d0 : ((w.setCell ⟨p, 1, none⟩ (.int .i64 ((k : Int) + 1))).drewN nq).cell? ⟨p, 0, none⟩ = some (.slice (some ⟨b, off, none⟩) n c) := (World.cell?_setCell_other _ _ _ _ (by intro h; simp at h)).trans hc
    have d1 : ((w.setCell ⟨p, 1, none⟩ (.int .i64 ((k : Int) + 1))).drewN nq).cell? ⟨p, 1, none⟩ = some (.int .i64 ((k : Int) + 1)) := World.cell?_setCell_same _ _ _ ht
    have d2 : ((w.setCell ⟨p, 1, none⟩ (.int .i64 ((k : Int) + 1))).drewN nq).cell? ⟨p, 2, none⟩ = some (.int .i64 s) := (World.cell?_setCell_other _ _ _ _ (by intro h; simp at h)).trans hs
    have dr : ((w.setCell ⟨p, 1, none⟩ (.int .i64 ((k : Int) + 1))).drewN nq).cell? ⟨b, off + k, none⟩ = some (.int .u8 x) := (World.cell?_setCell_other _ _ _ _ (by intro h; simp only [Addr.mk.injEq] at h; exact hne h.1.symm)).trans e1
    have df : ((w.setCell ⟨p, 1, none⟩ (.int .i64 ((k : Int) + 1))).drewN nq).frozen? ⟨p, 2, none⟩ = false := by simpa using f2
    have dO : Only p w ((w.setCell ⟨p, 1, none⟩ (.int .i64 ((k : Int) + 1))).drewN nq) := Only.drewN (Only.setCell _ _ _ _)
    have DO := hide dO
    have D3 := hide (show Three ((w.setCell ⟨p, 1, none⟩ (.int .i64 ((k : Int) + 1))).drewN nq) p from (unhide H3).set 1 _)
    clear dO hc ht hs e1 f1 f2
    generalize (w.setCell ⟨p, 1, none⟩ (.int .i64 ((k : Int) + 1))).drewN nq = W1 at *
    go_region
    go_wp2_with fail
    go_quiet (fail)
    go_wp2_with fail
    go_ret
    rw [unhide HV]
    refine ⟨rfl, x0, x1, Only.drewN (Only.drew ((unhide DO).trans (Only.setCell _ _ _ _))), ?_⟩
    refine srcF_step (t := (k : Int) + 1) (Only.drewN (Only.drew ((unhide DO).trans (Only.setCell _ _ _ _)))) ((World.cell?_setCell_other _ _ _ _ (by intro h; simp at h)).trans d0) ((World.cell?_setCell_other _ _ _ _ (by intro h; simp at h)).trans d1) (World.cell?_setCell_same _ _ _ d2) (by omega) ?_ ?_ (unhide HF) (unhide R) (unhide BY) (unhide AP) hbd (show Three _ p from (unhide D3).set 2 _)
    all_goals simp only; omega
  · have hgt : (n : Int) < t + 1 := by omega
    by_cases h3 : 3000 < t + 1
    · have HV := hide (show byteV xs t s = (0, s) by unfold byteV; rw [if_neg (by rw [unhide hxl]; exact hlt), if_pos h3])
      clear hlt
      go_enter Try.func67, Try.ntmps67
      go_wp2_with fail
      go_quiet (fail)
      go_wp2_with fail
      go_ret
      have hO := Only.drewN (k := nq) (Only.setCell w p 1 (.int .i64 (t + 1)))
      rw [unhide HV]
      exact ⟨rfl, by simp, by simp, hO, srcF_step (t := t + 1) (s := s) hO ((World.cell?_setCell_other _ _ _ _ (by intro h; simp at h)).trans hc) (World.cell?_setCell_same _ _ _ ht) ((World.cell?_setCell_other _ _ _ _ (by intro h; simp at h)).trans hs) (by omega) hs0 hs1 (unhide HF) (unhide R) (unhide BY) (unhide AP) hbd (show Three _ p from (unhide H3).set 1 _)⟩
    · have HV := hide (show byteV xs t s = ((s * 1103515245 + 12345) % 2147483648 / 65536 % 256, (s * 1103515245 + 12345) % 2147483648) by unfold byteV; rw [if_neg (by rw [unhide hxl]; exact hlt), if_neg h3])
      clear hlt
      go_enter Try.func67, Try.ntmps67
      go_wp2_with fail
      go_quiet (fail)
      go_wp2_with fail
      go_ret
      have hO := Only.drewN (k := nq) (Only.setCell w p 1 (.int .i64 (t + 1)))
      have hO2 := hO.trans (Only.setCell _ p 2 (.int .i64 ((s * 1103515245 + 12345) % 2147483648)))
      rw [unhide HV]
      refine ⟨rfl, ?_, ?_, hO2, srcF_step (t := t + 1) hO2 ((World.cell?_setCell_other _ _ _ _ (by intro h; simp at h)).trans ((World.cell?_setCell_other _ _ _ _ (by intro h; simp at h)).trans hc)) ((World.cell?_setCell_other _ _ _ _ (by intro h; simp at h)).trans (World.cell?_setCell_same _ _ _ ht)) (World.cell?_setCell_same _ _ _ ((World.cell?_setCell_other _ _ _ _ (by intro h; simp at h)).trans hs)) (by omega) ?_ ?_ (unhide HF) (unhide R) (unhide BY) (unhide AP) hbd (show Three _ p from ((show Three ((w.setCell ⟨p, 1, none⟩ (.int .i64 (t + 1))).drewN nq) p from (unhide H3).set 1 _).set 2 _))⟩
      all_goals simp only; omega
/-- One of m out of one byte. -/
def nextV (xs : List Int) (t s m : Int) : Int := (byteV xs t s).1 % m
set_option maxHeartbeats 1000000 in
theorem nextF_any (p : Nat) (a : Option Addr) (n c : Nat) (xs : List Int) (t s m : Int) (w : World) (h : SrcF w p a n c xs t s) (hK : t ≤ 900000) (hm : 2 ≤ m) (hm2 : m ≤ 256) :
    Calls Try.prog 42 #[.pointer (some ⟨p, 0, none⟩), .int .i64 m] w fun e w' => e = .returned (.int .i64 (nextV xs t s m)) ∧ 0 ≤ nextV xs t s m ∧ nextV xs t s m < m ∧ Only p w w' ∧ SrcF w' p a n c xs (t + 1) (byteV xs t s).2 := by
  have HV := hide (show nextV xs t s m = (byteV xs t s).1 % m from rfl)
  go_enter Try.func42, Try.ntmps42
  go_wp2_with fail
  refine (byteF_any p a n c xs t s w h (by omega)).mono ?_
  rintro e w1 ⟨rfl, hr0, hr1, ho, hs⟩
  have HO := hide ho
  have HS := hide hs
  clear ho hs
  generalize (byteV xs t s).1 = r at *
  go_wp2_with fail
  go_ret
  rw [unhide HV]
  exact ⟨rfl, Int.emod_nonneg _ (by omega), Int.emod_lt_of_pos _ (by omega), unhide HO, unhide HS⟩
set_option maxHeartbeats 1000000 in
theorem chanceF_any (p : Nat) (a : Option Addr) (n c : Nat) (xs : List Int) (t s m : Int) (w : World) (h : SrcF w p a n c xs t s) (hK : t ≤ 800000) (hm : 2 ≤ m) (hm2 : m ≤ 256) :
    Calls Try.prog 45 #[.pointer (some ⟨p, 0, none⟩), .int .i64 m] w fun e w' => e = .returned (.bool (nextV xs t s m == m - 1)) ∧ Only p w w' ∧ SrcF w' p a n c xs (t + 1) (byteV xs t s).2 := by
  go_enter Try.func45, Try.ntmps45
  go_wp2_with fail
  refine (nextF_any p a n c xs t s m w h (by omega) hm hm2).mono ?_
  rintro e w1 ⟨rfl, hr0, hr1, ho, hs⟩
  have HO := hide ho
  have HS := hide hs
  clear ho hs
  go_wp2_with fail
  go_ret
  exact ⟨rfl, unhide HO, unhide HS⟩
end Go.Proofs.Ytjhmammoakiknaa

namespace Go.Proofs.Ytjhmammoakiknaa
open Go.RowKit

theorem SrcF.of_blocks {w w' : World} {p : Nat} {a : Option Addr} {n c : Nat} {xs : List Int} {t s : Int} (h : SrcF w p a n c xs t s) (hp : w'.heap[p]? = w.heap[p]?) (ha : ∀ x, a = some x → 0 < n → w'.heap[x.block]? = w.heap[x.block]?) : SrcF w' p a n c xs t s := by
  obtain ⟨h1, ht, hs, k1, k2, k3, h4, h5, h6, h7, h8, h9⟩ := h
  refine ⟨(World.cell?_of_block (w := w) (a := ⟨p, 0, none⟩) hp).trans h1, (World.cell?_of_block (w := w) (a := ⟨p, 1, none⟩) hp).trans ht, (World.cell?_of_block (w := w) (a := ⟨p, 2, none⟩) hp).trans hs, k1, k2, k3, fun j => (World.frozen?_of_block (w := w) (a := ⟨p, j, none⟩) hp).trans (h4 j), ⟨h5.1, fun i hi => ?_⟩, h6, h7, h8, h9.same hp⟩
  obtain ⟨b, off, e, hc⟩ := h5.2 i hi
  have hb : w'.heap[b]? = w.heap[b]? := ha _ e (by omega)
  exact ⟨b, off, e, (World.cell?_of_block (w := w) (a := ⟨b, off + i, none⟩) hb).trans hc⟩
theorem srcF_code {w : World} {p : Nat} {a : Option Addr} {n c : Nat} {xs : List Int} {t s : Int} (h : SrcF w p a n c xs t s) : ∀ x, a = some x → 0 < n → x.block < w.heap.size := fun x hx hn => by
  obtain ⟨b, off, e, hc⟩ := h.row.2 0 hn
  rw [hx] at e
  cases e
  exact cell_lt hc
theorem SrcF.below {w w' : World} {p : Nat} {a : Option Addr} {n c : Nat} {xs : List Int} {t s : Int} (h : SrcF w p a n c xs t s) (hb : Below w.heap.size w w') : SrcF w' p a n c xs t s :=
  h.of_blocks (hb.block _ (cell_lt h.code)) (fun x hx hn => hb.block _ (srcF_code h x hx hn))
theorem SrcF.grown {w w' : World} {p B : Nat} {a : Option Addr} {n c : Nat} {xs : List Int} {t s : Int} {row : Option Nat} (h : SrcF w p a n c xs t s) (hg : w.grownBy w' row) (hr : ∀ k, row = some k → B ≤ k) (hp : p < B) (ha : ∀ x, a = some x → 0 < n → x.block < B) : SrcF w' p a n c xs t s :=
  h.of_blocks (hg.block p (cell_lt h.code) (fun e => by have := hr p e.symm; omega)) (fun x hx hn => hg.block _ (srcF_code h x hx hn) (fun e => by have := hr _ e.symm; have := ha x hx hn; omega))
/-- q flags, one behind the other. -/
def flagsL (xs : List Int) : Nat → Int → Int → List Bool
  | 0, _, _ => []
  | q + 1, t, s => (nextV xs t s 2 == 2 - 1) :: flagsL xs q (t + 1) (byteV xs t s).2
theorem flagsL_len (xs : List Int) : ∀ q t s, (flagsL xs q t s).length = q := by
  intro q
  induction q with
  | zero => intro t s; rfl
  | succ q ih => intro t s; simp [flagsL, ih]
/-- The drawn flags of some bytes. -/
def flagsV (xs : List Int) : List Bool := flagsL xs (nextV xs 0 ((xs.length : Int) % 1000) 13).toNat 1 (byteV xs 0 ((xs.length : Int) % 1000)).2
theorem nextV_bd (xs : List Int) (t s m : Int) (hm : 0 < m) : 0 ≤ nextV xs t s m ∧ nextV xs t s m < m := ⟨Int.emod_nonneg _ (by omega), Int.emod_lt_of_pos _ hm⟩
theorem flagsV_len (xs : List Int) : (flagsV xs).length ≤ 12 := by
  unfold flagsV
  rw [flagsL_len]
  have := nextV_bd xs 0 ((xs.length : Int) % 1000) 13 (by decide)
  omega
set_option maxHeartbeats 1000000 in
theorem sourceF_any (a : Option Addr) (n c : Nat) (xs : List Int) (w : World) (hr : Row w a n xs) (hby : ∀ i, i < n → 0 ≤ xs.getD i 0 ∧ xs.getD i 0 ≤ 255) (hn : n ≤ 1048576) :
    Calls Try.prog 22 #[.slice a n c] w fun e w' => e = .returned (.pointer (some ⟨w.heap.size, 0, none⟩)) ∧ SrcF w' w.heap.size a n c xs 0 ((xs.length : Int) % 1000) ∧ Below w.heap.size w w' ∧ w'.heap.size = w.heap.size + 1 := by
  have R := hide hr
  have BY := hide hby
  clear hr hby
  go_enter Try.func22, Try.ntmps22
  go_wp2_with fail
  go_ret
  refine ⟨rfl, ?_, (Below.refl _ _).alloc (Nat.le_refl _) _, by simp⟩
  rw [(unhide R).1]
  have hb : Below w.heap.size w (w.alloc (.cells #[.slice a n c, .int .i64 0, .int .i64 ((n : Int) % 1000)] 77)) := (Below.refl _ _).alloc (Nat.le_refl _) _
  have hlt : ∀ x, a = some x → 0 < n → x.block < w.heap.size := fun x hx hp => by
    obtain ⟨b, off, e, hc⟩ := (unhide R).2 0 hp
    rw [hx] at e
    cases e
    exact cell_lt hc
  refine ⟨by simp, by simp, by simp, by omega, by omega, by omega, fun j => by simp, ?_, unhide BY, fun x hx hp => Nat.ne_of_lt (hlt x hx hp), hn, ⟨_, _, _, _, heap_alloc_last _ _⟩⟩
  by_cases hp : 0 < n
  · exact (unhide R).below hb (fun x hx => hlt x hx hp)
  · exact ⟨(unhide R).1, fun i hi => absurd hi (by omega)⟩
set_option maxRecDepth 100000 in
set_option maxHeartbeats 2000000 in
theorem flagsF_any (p : Nat) (a : Option Addr) (n c : Nat) (xs : List Int) (s : Int) (w : World) (h : SrcF w p a n c xs 0 s) :
    Calls Try.prog 31 #[.pointer (some ⟨p, 0, none⟩), .int .i64 12] w fun e w' => ∃ (g cap : Nat), e = .returned (.slice (some ⟨g, 0, none⟩) (flagsL xs (nextV xs 0 s 13).toNat 1 (byteV xs 0 s).2).length cap) ∧ BOwns w' w.heap.size (.slice (some ⟨g, 0, none⟩) (flagsL xs (nextV xs 0 s 13).toNat 1 (byteV xs 0 s).2).length cap) (flagsL xs (nextV xs 0 s 13).toNat 1 (byteV xs 0 s).2) ∧ Wrote p w w' := by
  obtain ⟨i0, hi, hz0, hz1, hz2⟩ := info_parts Try.infoBool'
  have hp := cell_lt h.code
  have hac := hide (srcF_code h)
  have H := hide (h.below ((Below.refl _ _).alloc (Nat.le_refl _) (.cells #[] 4)))
  clear h
  go_enter Try.func31, Try.ntmps31
  go_wp2_with fail
  refine (nextF_any p a n c xs 0 s 13 _ (unhide H) (by omega) (by omega) (by omega)).mono ?_
  rintro e w1 ⟨rfl, hr0, hr1, ho1, hs1⟩
  have O0 : BOwns (w.alloc (.cells #[] 4)) w.heap.size (.slice (some ⟨w.heap.size, 0, none⟩) 0 0) [] := World.ownsRow_lit (base := w.heap.size) (e := 4) (size := 1) w #[] 0 (Nat.le_refl _) (by unfold maxLen; simp) rfl
  have O1 := hide (bowns_wrote O0 ho1.wrote hp)
  have W1 := hide ((Wrote.alloc w p _).trans ho1.wrote)
  have S1 := hide hs1
  obtain ⟨F, hF⟩ : ∃ F, F = flagsL xs (nextV xs 0 s 13).toNat 1 (byteV xs 0 s).2 := ⟨_, rfl⟩
  have HF := hide hF
  have HE0 := hide hF
  obtain ⟨r, hr⟩ : ∃ r : Nat, nextV xs 0 s 13 = (r : Int) := ⟨(nextV xs 0 s 13).toNat, by omega⟩
  rw [hr] at HF hr1 ⊢
  clear ho1 hs1 H hr0 O0 hF hr
  rw [show ((r : Int)).toNat = r from rfl] at HF
  go_wp2_with fail
  go_loopw [5, 6] (fun v i wr => ∃ (q g cap : Nat) (ys : List Bool) (t1 s1 : Int), i = .int .i64 (q : Int) ∧ v = .slice (some ⟨g, 0, none⟩) ys.length cap ∧ ys.length + q ≤ 12 ∧ Hid (F = ys ++ flagsL xs q t1 s1) ∧ t1 ≤ 100 - q ∧ Hid (BOwns wr w.heap.size (.slice (some ⟨g, 0, none⟩) ys.length cap) ys) ∧ Hid (Wrote p w wr) ∧ Hid (SrcF wr p a n c xs t1 s1)) (fun _ i _ => (intOf i).toNat)
  case atStart => exact ⟨r, w.heap.size, 0, [], 1, _, rfl, rfl, by simp; omega, unhide HF, by omega, unhide O1, unhide W1, unhide S1⟩
  case round =>
    clear O1 W1 S1
    obtain ⟨q, g, cap, ys, t1, s1, rfl, rfl, hq, hFy, ht1, hO, hW, hS⟩ := hrel
    by_cases hlt : 0 < q
    · have hpl : w.heap.size ≤ wr.heap.size := (unhide hW).size
      obtain ⟨q, rfl⟩ : ∃ q', q = q' + 1 := ⟨q - 1, by omega⟩
      go_wp2_with fail
      refine (chanceF_any p a n c xs t1 s1 2 wr (unhide hS) (by omega) (by omega) (by omega)).mono ?_
      rintro e w2 ⟨rfl, ho2, hs2⟩
      have HFy := hide (show F = (ys ++ [nextV xs t1 s1 2 == 2 - 1]) ++ flagsL xs q (t1 + 1) (byteV xs t1 s1).2 by rw [unhide hFy]; simp [flagsL])
      have O2 := bowns_wrote (unhide hO) ho2.wrote hp
      have W2 := hide ((unhide hW).trans ho2.wrote)
      have S2 := hide hs2
      have hz2' : w.heap.size ≤ w2.heap.size := by rw [ho2.size]; exact hpl
      clear ho2 hs2 hO hW hS hFy
      generalize (nextV xs t1 s1 2 == 2 - 1) = x2 at *
      go_wp2_with (at_builtin; refine wpList_append_own _ rfl _ _ 32 rfl w.heap.size 4 i0 (.bool false) 1 1 Try.underlying32 hi hz0 hz1 hz2 rfl (by decide) _ _ _ rfl (World.ownsRow.alloc O2 _) ⟨w2.heap.size, 0, none⟩ 1 1 [.bool x2] rfl rfl (cell_one_new _ _ _) (by intro u hu; simp at hu; subst hu; rfl) (by unfold maxLen; omega) (by omega) (by simp; omega) ?_)
      intro v3 w3 hown3 hgrow3 hnil3
      have O3 := bowns_app hown3
      obtain ⟨g3, cap3, rfl, _⟩ := bowns_form O3 (fun e => by subst e; exact hnil3 rfl)
      have O3' := hide O3
      have HL := hide (show (ys ++ [x2]).length = ys.length + 1 by simp)
      have W3 := hide (wrote_grown' ((unhide W2).trans (Wrote.alloc w2 p _)) hgrow3 (fun k hk => (O2.lt k hk).1))
      have S3 := hide (((unhide S2).below ((Below.refl _ _).alloc (Nat.le_refl _) _)).grown hgrow3 (fun k hk => (O2.lt k hk).1) hp (unhide hac))
      clear hown3 hgrow3 hnil3 O3 O2 W2 S2
      generalize ys ++ [x2] = zs at *
      go_wp2_with fail
      go_roundw
      case rel => exact ⟨q, g3, cap3, zs, t1 + 1, _, by go_num, rfl, by have := unhide HL; omega, unhide HFy, by omega, unhide O3', unhide W3, unhide S3⟩
      case measure => simp [intOf]
    · obtain rfl : q = 0 := by omega
      have HY := hide (show F = ys by rw [unhide hFy]; simp [flagsL])
      clear hFy
      go_wp2_with fail
      go_ret
      have E := (unhide HE0).symm.trans (unhide HY)
      exact ⟨g, cap, by rw [E]; rfl, by rw [E]; exact unhide hO, unhide hW⟩
set_option maxHeartbeats 1000000 in
theorem flagsOfF_any (a : Option Addr) (n c : Nat) (xs : List Int) (w : World) (hr : Row w a n xs) (hby : ∀ i, i < n → 0 ≤ xs.getD i 0 ∧ xs.getD i 0 ≤ 255) (hn : n ≤ 1048576) :
    Calls Try.prog 10 #[.slice a n c] w fun e w' => ∃ (g cap : Nat), e = .returned (.slice (some ⟨g, 0, none⟩) (flagsV xs).length cap) ∧ BRow w' (some ⟨g, 0, none⟩) (flagsV xs).length (flagsV xs) ∧ Below w.heap.size w w' := by
  have R := hide hr
  have BY := hide hby
  clear hr hby
  have HV := hide (show flagsV xs = flagsL xs (nextV xs 0 ((xs.length : Int) % 1000) 13).toNat 1 (byteV xs 0 ((xs.length : Int) % 1000)).2 from rfl)
  go_enter Try.func10, Try.ntmps10
  go_wp2_with fail
  refine (sourceF_any a n c xs w (unhide R) (unhide BY) hn).mono ?_
  rintro e w1 ⟨rfl, hs1, hb1, hz1⟩
  clear hz1
  have HS := hide hs1
  clear hs1
  go_wp2_with fail
  refine (flagsF_any w.heap.size a n c xs _ w1 (unhide HS)).mono ?_
  rintro e w2 ⟨g, cap, rfl, ho, hw⟩
  rw [← unhide HV] at ho ⊢
  have B2 := hide (hb1.trans (hw.below (Nat.le_refl _) hb1.size))
  obtain ⟨g', cap', e', hrow⟩ := bowns_form ho (by simp)
  injection e' with e1 _ e3
  injection e1 with e1
  injection e1 with e1
  subst e1 e3
  have O2 := hide hrow
  clear hb1 hw ho hrow
  go_wp2_with fail
  go_ret
  exact ⟨g, cap, rfl, unhide O2, unhide B2⟩
/-- The choice 0 out of m that some bytes make. -/
def atV (xs : List Int) (m : Int) : Int := if xs.length = 0 then 0 else (xs.getD 0 0 * 31 + xs.getD (1 % xs.length) 0) % m
set_option maxHeartbeats 1000000 in
theorem atF_any (a : Option Addr) (n c : Nat) (xs : List Int) (m : Int) (w : World) (hr : Row w a n xs) (hby : ∀ i, i < n → 0 ≤ xs.getD i 0 ∧ xs.getD i 0 ≤ 255) (hn : n ≤ 1048576) (hm : 2 ≤ m) (hm2 : m ≤ 100000) :
    Calls Try.prog 11 #[.slice a n c, .int .i64 0, .int .i64 m] w fun e w' => e = .returned (.int .i64 (atV xs m)) ∧ Below w.heap.size w w' := by
  have hxl := hr.1
  have R := hide hr
  have BY := hide hby
  clear hr hby
  by_cases h0 : n = 0
  · have HV := hide (show atV xs m = 0 by unfold atV; rw [if_pos (by omega)])
    subst h0
    clear R BY
    go_enter Try.func11, Try.ntmps11
    go_wp2_with fail
    go_ret
    exact ⟨ret_int (unhide HV).symm, Below.refl _ _⟩
  have q0 : ((n : Int) == 0) = false := by rw [beq_eq_false_iff_ne]; omega
  obtain ⟨b, off, rfl, e0⟩ := (unhide R).2 0 (by omega)
  obtain ⟨x0, x1⟩ := unhide BY 0 (by omega)
  by_cases h1 : n = 1
  · have HV := hide (show atV xs m = (xs.getD 0 0 * 31 + xs.getD 0 0) % m by unfold atV; rw [if_neg (by omega), hxl, h1])
    subst h1
    generalize xs.getD 0 0 = x at *
    simp only [Nat.add_zero] at e0
    go_enter Try.func11, Try.ntmps11
    go_wp2_with fail
    go_quiet (fail)
    go_wp2_with fail
    go_ret
    exact ⟨ret_int (by rw [unhide HV]), bel_drewN (Below.refl _ _) _⟩
  · have HV := hide (show atV xs m = (xs.getD 0 0 * 31 + xs.getD 1 0) % m by unfold atV; rw [if_neg (by omega), hxl, Nat.mod_eq_of_lt (by omega)])
    obtain ⟨b', off', e, e1⟩ := (unhide R).2 1 (by omega)
    cases e
    obtain ⟨y0, y1⟩ := unhide BY 1 (by omega)
    generalize xs.getD 0 0 = x at *
    generalize xs.getD 1 0 = y at *
    simp only [Nat.add_zero] at e0
    have hmod : (1 : Int) % (n : Int) = 1 := Int.emod_eq_of_lt (by omega) (by omega)
    have hdiv : (0 : Int) / (n : Int) = 0 := Int.zero_ediv _
    go_enter Try.func11, Try.ntmps11
    go_wp2_with fail
    go_quiet (fail)
    go_wp2_with fail
    go_ret
    exact ⟨ret_int (by rw [unhide HV]), bel_drewN (Below.refl _ _) _⟩
theorem atV_bd (xs : List Int) (m : Int) (hm : 0 < m) : 0 ≤ atV xs m ∧ atV xs m < m := by
  unfold atV
  split
  · omega
  · exact ⟨Int.emod_nonneg _ (by omega), Int.emod_lt_of_pos _ hm⟩
end Go.Proofs.Ytjhmammoakiknaa

namespace Go.Proofs.Ytjhmammoakiknaa
open Go.RowKit Go.Maps

theorem rd_okF {f : FD} (h : okF f) : rdB f.xs f.ws = readD f.xs f.ws ∧ rdC f.xs f.ws = 0 := by
  have h2 : okD f.xs.length f.ws = true := by
    rw [okD_all ⟨h.1, h.2.1, h.2.2.1⟩, List.all_eq_true]
    exact h.2.2.2
  unfold rdB rdC
  rw [if_pos h2, if_pos h2]
  exact ⟨rfl, rfl⟩
set_option maxRecDepth 100000 in
set_option maxHeartbeats 16000000 in
theorem fnActs_law (a1 : Option Addr) (n1 c1 : Nat) (zs1 : List Int) (a2 : Option Addr) (n2 c2 : Nat) (zs2 : List Int) (w : World) (h1 : IsRow .u8 w a1 n1 c1 zs1) (h2 : IsRow .u8 w a2 n2 c2 zs2) :
    Calls Try.prog 3 #[.slice a1 n1 c1, .slice a2 n2 c2] w fun e w' => e = .returned (.bool true) ∧ Below w.heap.size w w' := by
  obtain ⟨hr1, hm1, _⟩ := row_of_isRow h1
  obtain ⟨hr2, hm2, _⟩ := row_of_isRow h2
  have by1 := hide (bytes_of_isRow h1)
  have by2 := hide (bytes_of_isRow h2)
  clear h1 h2
  unfold maxLen at hm1 hm2
  by_cases hbig : 1048576 < n1 ∨ 1048576 < n2
  · clear hr1 hr2 by1 by2
    by_cases hb1 : 1048576 < n1
    all_goals
      go_enter Try.func3, Try.ntmps3
      go_wp2_with fail
      go_ret
      exact ⟨rfl, Below.refl _ _⟩
  have hn1 : n1 ≤ 1048576 := by omega
  have hn2 : n2 ≤ 1048576 := by omega
  clear hbig hm1 hm2
  generalize zs1.take n1 = xs1 at *
  generalize zs2.take n2 = xs2 at *
  have R1 := hide hr1
  have R2 := hide hr2
  clear hr1 hr2
  have B := Below.refl w.heap.size w
  go_enter Try.func3, Try.ntmps3
  go_wp2_with fail
  refine (flashActsOf_any a1 n1 c1 xs1 w (unhide R1) (unhide by1) hn1).mono ?_
  rintro e w_t ⟨ga, m, cp, hs, rfl, hO, hl, hm, hb⟩
  replace B := B.trans (hb.mono B.size)
  have zz_w_t := hb.size
  have hML := hide (show hs.length = m by have := hO.len; simpa using this)
  have AI := hide (ain_own hO hl)
  have HR := hide (hrow_own hO hl)
  obtain ⟨l, hlD⟩ : ∃ l, l = hs.map (·.X) := ⟨_, rfl⟩
  have LL := hide (show l.length = m by rw [hlD, List.length_map]; exact unhide hML)
  have LD := hide hlD
  rw [← hlD] at AI
  have RU := hide (ru_all (l := l) (by have := unhide LL; omega))
  have hok := ru_ok l
  have CON := hide (fun W e W' (h : RuRes l W e W') => run_conC h)
  rw [unhide RU] at CON hok
  obtain ⟨CS, hCS⟩ : ∃ x, x = (runD l).2 := ⟨_, rfl⟩
  obtain ⟨XS, hXS⟩ : ∃ x, x = (runD l).1.xs := ⟨_, rfl⟩
  obtain ⟨WS, hWS⟩ : ∃ x, x = (runD l).1.ws := ⟨_, rfl⟩
  have hlc : CS.length = m := by rw [hCS, runD_codes]; exact unhide LL
  simp only at CON hok
  have RDD := hide (rd_okF (f := (runD l).1) hok.1)
  rw [← hXS, ← hWS] at RDD
  rw [← hCS, ← hXS, ← hWS] at CON
  unfold okF at hok
  rw [← hCS, ← hXS, ← hWS] at hok
  obtain ⟨nH, hnH⟩ : ∃ x, x = XS.length := ⟨_, rfl⟩
  obtain ⟨nW, hnW⟩ : ∃ x, x = WS.length := ⟨_, rfl⟩
  rw [hlc, ← hnH, ← hnW] at CON
  rw [← hnH, ← hnW] at hok
  have LC := hide hlc
  have LH := hide hnH.symm
  have LW := hide hnW.symm
  have HOK := hide hok.1.2.2.2
  have b2 : nH ≤ 2048 := hok.1.2.1
  have b3 : nW ≤ 4096 := hok.1.2.2.1
  have HCS := hide hCS
  have HXS := hide hXS
  have HWS := hide hWS
  clear hCS hXS hWS hnH hnW hok hlD hlc hb hO
  have hHH : ((nH : Int) != (nH : Int)) = false := by simp
  have hWW : ((nW : Int) != (nW : Int)) = false := by simp
  have zr := (unhide AI).row
  have HL := hide hl
  clear zr hl
  go_wp2_with fail
  refine (implFlashRun_any (some ⟨ga, 0, none⟩) m cp (hs.map faZ) l w_t (unhide AI) (by omega)).mono ?_
  intro e w_g hcon
  obtain ⟨ac_g, cc_g, ah_g, ch_g, aw_g, cw_g, hs_g, rfl, oo, mm, hb, cap1_g, cap2_g⟩ := unhide CON _ _ _ hcon
  clear hcon
  replace AI := hide ((unhide AI).below hb)
  replace HR := hide (fun h hh => (unhide HR h hh).below hb)
  replace B := B.trans (hb.mono B.size)
  have zz_w_g := hb.size
  clear hb
  have MM_g := hide mm
  have O_g := hide oo
  clear oo mm
  have hb : Below w_g.heap.size w_g (w_g.alloc (.cells #[.slice ah_g nH ch_g, .slice aw_g nW cw_g] 28)) := (Below.refl _ _).alloc (Nat.le_refl _) _
  have K_g := hide (heap_alloc_last w_g (.cells #[.slice ah_g nH ch_g, .slice aw_g nW cw_g] 28))
  have sz_g : (w_g.alloc (.cells #[.slice ah_g nH ch_g, .slice aw_g nW cw_g] 28)).heap.size = w_g.heap.size + 1 := by simp
  replace AI := hide ((unhide AI).below hb)
  replace HR := hide (fun h hh => (unhide HR h hh).below hb)
  replace O_g := hide ((unhide O_g).below hb)
  replace B := B.trans (hb.mono B.size)
  have zz_b_g := hb.size
  clear hb
  go_wp2_with fail
  generalize w_g.alloc (.cells #[.slice ah_g nH ch_g, .slice aw_g nW cw_g] 28) = b_g at *
  refine (specFlashRun_any (some ⟨ga, 0, none⟩) m cp (hs.map faZ) l b_g (unhide AI) (by omega)).mono ?_
  intro e w_w hcon
  obtain ⟨ac_w, cc_w, ah_w, ch_w, aw_w, cw_w, hs_w, rfl, oo, mm, hb, cap1_w, cap2_w⟩ := unhide CON _ _ _ hcon
  clear hcon
  replace AI := hide ((unhide AI).below hb)
  replace HR := hide (fun h hh => (unhide HR h hh).below hb)
  replace O_g := hide ((unhide O_g).below hb)
  replace K_g := hide ((hb.block _ (by omega)).trans (unhide K_g))
  replace B := B.trans (hb.mono B.size)
  have zz_w_w := hb.size
  clear hb
  have MM_w := hide mm
  have O_w := hide oo
  clear oo mm
  have hb : Below w_w.heap.size w_w (w_w.alloc (.cells #[.slice ah_w nH ch_w, .slice aw_w nW cw_w] 28)) := (Below.refl _ _).alloc (Nat.le_refl _) _
  have K_w := hide (heap_alloc_last w_w (.cells #[.slice ah_w nH ch_w, .slice aw_w nW cw_w] 28))
  have sz_w : (w_w.alloc (.cells #[.slice ah_w nH ch_w, .slice aw_w nW cw_w] 28)).heap.size = w_w.heap.size + 1 := by simp
  replace AI := hide ((unhide AI).below hb)
  replace HR := hide (fun h hh => (unhide HR h hh).below hb)
  replace O_g := hide ((unhide O_g).below hb)
  replace K_g := hide ((hb.block _ (by omega)).trans (unhide K_g))
  replace O_w := hide ((unhide O_w).below hb)
  replace B := B.trans (hb.mono B.size)
  have zz_b_w := hb.size
  clear hb
  go_wp2_with fail
  generalize w_w.alloc (.cells #[.slice ah_w nH ch_w, .slice aw_w nW cw_w] 28) = b_w at *
  refine (sameInts_C ac_g ac_w m cc_g cc_w CS b_w (by unfold maxLen; omega) (unhide LC) (by have h := rowC_of_owns (unhide O_g).cod; rwa [unhide LC] at h) (by have h := rowC_of_owns (unhide O_w).cod; rwa [unhide LC] at h)).mono ?_
  rintro e e1 ⟨rfl, hb⟩
  replace AI := hide ((unhide AI).below hb)
  replace HR := hide (fun h hh => (unhide HR h hh).below hb)
  replace O_g := hide ((unhide O_g).below hb)
  replace K_g := hide ((hb.block _ (by omega)).trans (unhide K_g))
  replace O_w := hide ((unhide O_w).below hb)
  replace K_w := hide ((hb.block _ (by omega)).trans (unhide K_w))
  replace B := B.trans (hb.mono B.size)
  have zz_e1 := hb.size
  clear hb
  have p0 := (heap_at (unhide K_g) 0).1
  have p1 := (heap_at (unhide K_g) 1).1
  have p2 := (heap_at (unhide K_w) 0).1
  have p3 := (heap_at (unhide K_w) 1).1
  have RG := hide (show Row e1 ah_g nH XS by have h := (unhide O_g).byt.row; rwa [unhide LH] at h)
  have RW := hide (show Row e1 ah_w nH XS by have h := (unhide O_w).byt.row; rwa [unhide LH] at h)
  have t1 := conv_any (c := ch_g) (unhide RG)
  have t2 := conv_any (c := ch_w) (unhide RW)
  go_wp2_with fail
  clear p0 p1 p2 p3 t1 t2
  have hls : e1.heap.size ≤ e1.heap.size := Nat.le_refl _
  have L0 := hide (show ZOwns (e1.alloc (.cells #[] 34)) e1.heap.size (.slice (some ⟨e1.heap.size, 0, none⟩) 0 0) (([] : List FaH).map faZ) from World.ownsRow_lit _ _ _ (Nat.le_refl _) (by unfold maxLen; simp) rfl)
  have LB := hide (show Below e1.heap.size e1 (e1.alloc (.cells #[] 34)) from (Below.refl _ _).alloc (Nat.le_refl _) _)
  have CR := hide (show RowC e1 (.slice ac_g m cc_g) m (CS.map (Value.int .i64)) by have h := rowC_of_owns (unhide O_g).cod; rwa [unhide LC] at h)
  generalize e1.alloc (.cells #[] 34) = e2 at *
  go_loopw [12, 13] (fun cv i wr => ∃ (k : Nat) (v : Value) (zs : List FaH), k ≤ m ∧ v = cv ∧ i = .int .i64 (k : Int) ∧ zs.length ≤ k ∧ Hid (ZOwns wr e1.heap.size v (zs.map faZ)) ∧ Hid (∀ h ∈ zs, h ∈ hs) ∧ Hid ((runD (zs.map (·.X))).1 = (runD (l.take k)).1) ∧ Hid (Below e1.heap.size e1 wr) ∧ Hid (∃ g m c, v = .slice (some ⟨g, 0, none⟩) m c)) (fun _ i _ => m - (intOf i).toNat)
  case atStart => exact ⟨0, _, [], Nat.zero_le _, rfl, rfl, Nat.le_refl _, unhide L0, (fun _ h => by cases h), rfl, unhide LB, ⟨_, _, _, rfl⟩⟩
  case round =>
    clear L0 LB
    obtain ⟨k, v, zs, hk, rfl, rfl, hzl, hZ, hM, hE, hBl, hv⟩ := hrel
    by_cases hlt : k < m
    · have hkh : k < hs.length := by rw [unhide hML]; exact hlt
      have hkl : k < l.length := by rw [unhide LL]; exact hlt
      have hkc : k < CS.length := by rw [unhide LC]; exact hlt
      obtain ⟨bc, oc, hac, hcc⟩ := ((unhide CR).below (unhide hBl)).at (j := k) (u := .int .i64 CS[k]) (by rw [List.getElem?_map, List.getElem?_eq_getElem hkc]; rfl)
      subst hac
      have CK := hide (show CS[k] = (actD (runD (l.take k)).1 l[k]).2 by
        have h := codes_at l k hkl
        rw [← unhide HCS, List.getElem?_eq_getElem hkc] at h
        injection h)
      have LK := hide (show l[k] = hs[k].X by
        have e := unhide LD
        subst e
        simp)
      have RT := hide (runD_take l k hkl)
      obtain ⟨b, off, ea, y0, y1, y2, y3, y4⟩ := ((unhide AI).below (unhide hBl)).row.2 k (by simpa using hkh)
      cases ea
      simp only [List.getElem_map, Nat.zero_add] at y0 y1 y2 y3 y4
      have hszr := (unhide hBl).size
      generalize CS[k] = ck at *
      by_cases hck : ck = 0
      · have q0 : (ck == 0) = true := by rw [beq_iff_eq]; exact hck
        have HE2 := hide (show (runD ((zs ++ [hs[k]]).map (·.X))).1 = (runD (l.take (k + 1))).1 by
          rw [List.map_append, List.map_cons, List.map_nil, runD_snoc, unhide RT, unhide hE, unhide LK])
        have HM2 := hide (show ∀ h ∈ zs ++ [hs[k]], h ∈ hs from fun h hh => by
          rcases List.mem_append.1 hh with hh | hh
          · exact unhide hM h hh
          · rw [List.mem_singleton.1 hh]; exact List.getElem_mem hkh)
        have bA : Below wr.heap.size wr (wr.alloc (.cells #[.int .i64 (faZ hs[k]).kind, .int .i64 (faZ hs[k]).at_, .int .i64 (faZ hs[k]).torn, .slice (faZ hs[k]).d.a (faZ hs[k]).d.n (faZ hs[k]).d.c, .slice (faZ hs[k]).e.a (faZ hs[k]).e.n (faZ hs[k]).e.c] 34)) := (Below.refl _ _).alloc (Nat.le_refl _) _
        obtain ⟨v', w', hrun, ho', hg', g9, m9, c9, rfl⟩ := z_apps (zowns_below (unhide hZ) bA) ⟨wr.heap.size, 0, none⟩ 1 (es := [faZ hs[k]]) (fun j u hu => by
          have hj : j < 5 := by simpa [zcs] using (List.getElem?_eq_some_iff.1 hu).1
          have e2 : (⟨wr.heap.size, 0, none⟩ : Addr).add j = ⟨wr.heap.size, j, none⟩ := by unfold Addr.add; split <;> simp_all
          rw [e2]
          refine rb_cell_new rfl ?_
          match j, hj with
          | 0, _ => simpa [zcs] using hu
          | 1, _ => simpa [zcs] using hu
          | 2, _ => simpa [zcs] using hu
          | 3, _ => simpa [zcs] using hu
          | 4, _ => simpa [zcs] using hu) (by simp; omega) (by simp; omega) (fun _ => by simp)
        have HZ2 := hide (show ZOwns w' e1.heap.size (.slice (some ⟨g9, 0, none⟩) m9 c9) ((zs ++ [hs[k]]).map faZ) by rw [List.map_append]; exact ho')
        have HB2 := hide (show Below e1.heap.size e1 w' from ((unhide hBl).trans (bA.mono hszr)).grown hg' (by simp; omega) (fun j hj => ((unhide hZ).lt j hj).1))
        clear bA ho' hg' hZ hE hM hBl hv hck CK RT LK
        generalize faZ hs[k] = zk at *
        go_wp2_with (at_builtin; refine sc_wpApp rfl (.tmp 87) (.tmp 92) 23 rfl _ _ _ w' rfl rfl hrun ?_)
        go_roundw
        case rel => exact ⟨k + 1, _, _, by omega, rfl, by go_num, by simp; omega, unhide HZ2, unhide HM2, unhide HE2, unhide HB2, ⟨_, _, _, rfl⟩⟩
        case measure => simp [intOf]; omega
      · have q0 : (ck == 0) = false := by rw [beq_eq_false_iff_ne]; exact hck
        have HE2 := hide (show (runD (zs.map (·.X))).1 = (runD (l.take (k + 1))).1 by
          rw [unhide RT, unhide hE]
          exact (actD_same (by rw [← unhide CK]; exact hck)).symm)
        clear hE CK RT LK hck
        go_wp2_with fail
        go_roundw
        case rel => exact ⟨k + 1, _, zs, by omega, rfl, by go_num, by omega, unhide hZ, unhide hM, unhide HE2, unhide hBl, unhide hv⟩
        case measure => simp [intOf]; omega
    · have hkm : k = m := by omega
      subst k
      have hb := unhide hBl
      obtain ⟨gs, ms, cs_, rfl⟩ := unhide hv
      clear CR RG RW
      have hms : ms = zs.length := by have h := z_slice (unhide hZ); rw [List.length_map] at h; exact h
      have E13 := hide (show (runD (zs.map (·.X))).1 = (runD l).1 by rw [unhide hE, List.take_of_length_le (by rw [unhide LL]; exact Nat.le_refl _)])
      have RU2 := hide (ru_all (l := zs.map (·.X)) (by rw [List.length_map]; omega))
      have CON2 := hide (fun W e W' (h : RuRes (zs.map (·.X)) W e W') => run_con h)
      rw [unhide RU2] at CON2
      simp only at CON2
      rw [unhide E13, ← unhide HXS, ← unhide HWS, unhide LH, unhide LW] at CON2
      have hms2 : ms ≤ 13 := by omega
      have SA := hide (show AIn wr (some ⟨gs, 0, none⟩) ms (zs.map faZ) (zs.map (·.X)) from ain_rows (by have h := zrow_of_owns (unhide hZ); exact h) (fun h hh => (unhide HR h (unhide hM h hh)).below hb))
      clear hZ hM hE hBl hv RU2 hms
      replace AI := hide ((unhide AI).below hb)
      replace HR := hide (fun h hh => (unhide HR h hh).below hb)
      replace O_g := hide ((unhide O_g).below hb)
      replace K_g := hide ((hb.block _ (by omega)).trans (unhide K_g))
      replace O_w := hide ((unhide O_w).below hb)
      replace K_w := hide ((hb.block _ (by omega)).trans (unhide K_w))
      replace B := B.trans (hb.mono B.size)
      have zz_wr := hb.size
      clear hb
      go_wp2_with fail
      refine (implFlashRun_any (some ⟨gs, 0, none⟩) ms cs_ (zs.map faZ) (zs.map (·.X)) wr (unhide SA) (by omega)).mono ?_
      intro e w_s hcon
      obtain ⟨ac_s, cc_s, ah_s, ch_s, aw_s, cw_s, hs_s, rfl, oo, mm, hb⟩ := unhide CON2 _ _ _ hcon
      clear hcon mm SA CON2
      replace AI := hide ((unhide AI).below hb)
      replace HR := hide (fun h hh => (unhide HR h hh).below hb)
      replace O_g := hide ((unhide O_g).below hb)
      replace K_g := hide ((hb.block _ (by omega)).trans (unhide K_g))
      replace O_w := hide ((unhide O_w).below hb)
      replace K_w := hide ((hb.block _ (by omega)).trans (unhide K_w))
      replace B := B.trans (hb.mono B.size)
      have zz_w_s := hb.size
      clear hb
      have RS := hide (show Row w_s ah_s nH XS by have h := oo.byt.row; rwa [unhide LH] at h)
      clear oo
      have hb : Below w_s.heap.size w_s (w_s.alloc (.cells #[.slice ah_s nH ch_s, .slice aw_s nW cw_s] 28)) := (Below.refl _ _).alloc (Nat.le_refl _) _
      have K_s := hide (heap_alloc_last w_s (.cells #[.slice ah_s nH ch_s, .slice aw_s nW cw_s] 28))
      have sz_s : (w_s.alloc (.cells #[.slice ah_s nH ch_s, .slice aw_s nW cw_s] 28)).heap.size = w_s.heap.size + 1 := by simp
      replace AI := hide ((unhide AI).below hb)
      replace HR := hide (fun h hh => (unhide HR h hh).below hb)
      replace O_g := hide ((unhide O_g).below hb)
      replace K_g := hide ((hb.block _ (by omega)).trans (unhide K_g))
      replace O_w := hide ((unhide O_w).below hb)
      replace K_w := hide ((hb.block _ (by omega)).trans (unhide K_w))
      replace RS := hide (row_grow (unhide RS) hb)
      replace B := B.trans (hb.mono B.size)
      have zz_b_s := hb.size
      clear hb
      have p0 := (heap_at (unhide K_g) 0).1
      have p1 := (heap_at (unhide K_g) 1).1
      have RG := hide (show Row (w_s.alloc (.cells #[.slice ah_s nH ch_s, .slice aw_s nW cw_s] 28)) ah_g nH XS by have h := (unhide O_g).byt.row; rwa [unhide LH] at h)
      have WG := hide (qw_wrow (unhide O_g).wai (unhide MM_g) (qk_lim (unhide MM_g) (unhide HOK)))
      have hcg : nH ≤ ch_g := cap1_g
      go_wp2_with fail
      clear p0 p1
      generalize w_s.alloc (.cells #[.slice ah_s nH ch_s, .slice aw_s nW cw_s] 28) = b_s at *
      refine (implFlashRead_any ah_g nH ch_g aw_g nW cw_g XS WS b_s (unhide RG) (unhide WG) (by omega) (by omega) hcg cap2_g).mono ?_
      rintro e w_r ⟨ar, cr, rfl, hMn, hb⟩
      rw [(unhide RDD).1] at hMn ⊢
      rw [(unhide RDD).2]
      obtain ⟨RR, hRR⟩ : ∃ x, x = readD XS WS := ⟨_, rfl⟩
      obtain ⟨nR, hnR⟩ : ∃ x, x = RR.length := ⟨_, rfl⟩
      rw [← hRR, ← hnR] at hMn ⊢
      have HRR := hide hRR
      have HNR := hide hnR
      have RB := hide (show Row w_r ar nR RR by
        obtain ⟨a', c', e, _, _, r3, _⟩ := hMn
        injection e with e1 _ _
        subst e1
        rw [hnR]
        exact r3)
      clear hMn hRR hnR RG WG
      replace AI := hide ((unhide AI).below hb)
      replace HR := hide (fun h hh => (unhide HR h hh).below hb)
      replace O_g := hide ((unhide O_g).below hb)
      replace K_g := hide ((hb.block _ (by omega)).trans (unhide K_g))
      replace O_w := hide ((unhide O_w).below hb)
      replace K_w := hide ((hb.block _ (by omega)).trans (unhide K_w))
      replace RS := hide (row_grow (unhide RS) hb)
      replace K_s := hide ((hb.block _ (by omega)).trans (unhide K_s))
      replace B := B.trans (hb.mono B.size)
      have zz_w_r := hb.size
      clear hb
      go_wp2_with fail
      refine (flagsOf_any a2 n2 c2 xs2 w_r (row_grow (unhide R2) B) (unhide by2) hn2).mono ?_
      rintro e w_f ⟨gf, cf, ks, rfl, hkl, hOf, hb⟩
      have hgf := (hOf.lt gf rfl).2
      have KF := hide (show BRow w_f (some ⟨gf, 0, none⟩) ks.length ks from (bowns_form hOf (by intro h; cases h)).elim fun g' hh => by
        obtain ⟨c', e, hr⟩ := hh
        injection e with e1 _ _
        injection e1 with e1
        injection e1 with e1
        subst e1
        exact hr)
      obtain ⟨mf, hmf⟩ : ∃ x, x = ks.length := ⟨_, rfl⟩
      rw [← hmf] at KF hkl ⊢
      clear hOf hgf hmf
      replace AI := hide ((unhide AI).below hb)
      replace HR := hide (fun h hh => (unhide HR h hh).below hb)
      replace O_g := hide ((unhide O_g).below hb)
      replace K_g := hide ((hb.block _ (by omega)).trans (unhide K_g))
      replace O_w := hide ((unhide O_w).below hb)
      replace K_w := hide ((hb.block _ (by omega)).trans (unhide K_w))
      replace RS := hide (row_grow (unhide RS) hb)
      replace K_s := hide ((hb.block _ (by omega)).trans (unhide K_s))
      replace RB := hide (row_grow (unhide RB) hb)
      replace B := B.trans (hb.mono B.size)
      have zz_w_f := hb.size
      clear hb
      go_wp2_with fail
      refine (atF_any a2 n2 c2 xs2 17 w_f (row_grow (unhide R2) B) (unhide by2) hn2 (by omega) (by omega)).mono ?_
      rintro e w_a ⟨rfl, hb⟩
      obtain ⟨T0, hT0⟩ : ∃ x, x = atV xs2 17 := ⟨_, rfl⟩
      have hbd := atV_bd xs2 17 (by omega)
      rw [← hT0] at hbd ⊢
      clear hT0
      replace AI := hide ((unhide AI).below hb)
      replace HR := hide (fun h hh => (unhide HR h hh).below hb)
      replace O_g := hide ((unhide O_g).below hb)
      replace K_g := hide ((hb.block _ (by omega)).trans (unhide K_g))
      replace O_w := hide ((unhide O_w).below hb)
      replace K_w := hide ((hb.block _ (by omega)).trans (unhide K_w))
      replace RS := hide (row_grow (unhide RS) hb)
      replace K_s := hide ((hb.block _ (by omega)).trans (unhide K_s))
      replace RB := hide (row_grow (unhide RB) hb)
      replace KF := hide ((unhide KF).grow hb)
      replace B := B.trans (hb.mono B.size)
      have zz_w_a := hb.size
      clear hb
      have hb : Below w_a.heap.size w_a (w_a.alloc (.cells #[.int .i64 2, .int .i64 0, .int .i64 0, .slice none 0 0, .slice none 0 0, .int .i64 3, .int .i64 0, .int .i64 T0, .slice none 0 0, .slice (some ⟨gf, 0, none⟩) mf cf] 34)) := (Below.refl _ _).alloc (Nat.le_refl _) _
      have K_e := hide (heap_alloc_last w_a (.cells #[.int .i64 2, .int .i64 0, .int .i64 0, .slice none 0 0, .slice none 0 0, .int .i64 3, .int .i64 0, .int .i64 T0, .slice none 0 0, .slice (some ⟨gf, 0, none⟩) mf cf] 34))
      have sz_e : (w_a.alloc (.cells #[.int .i64 2, .int .i64 0, .int .i64 0, .slice none 0 0, .slice none 0 0, .int .i64 3, .int .i64 0, .int .i64 T0, .slice none 0 0, .slice (some ⟨gf, 0, none⟩) mf cf] 34)).heap.size = w_a.heap.size + 1 := by simp
      replace AI := hide ((unhide AI).below hb)
      replace HR := hide (fun h hh => (unhide HR h hh).below hb)
      replace O_g := hide ((unhide O_g).below hb)
      replace K_g := hide ((hb.block _ (by omega)).trans (unhide K_g))
      replace O_w := hide ((unhide O_w).below hb)
      replace K_w := hide ((hb.block _ (by omega)).trans (unhide K_w))
      replace RS := hide (row_grow (unhide RS) hb)
      replace K_s := hide ((hb.block _ (by omega)).trans (unhide K_s))
      replace RB := hide (row_grow (unhide RB) hb)
      replace KF := hide ((unhide KF).grow hb)
      replace B := B.trans (hb.mono B.size)
      have zz_b_e := hb.size
      clear hb
      have LO : ZOwns ((w_a.alloc (.cells #[.int .i64 2, .int .i64 0, .int .i64 0, .slice none 0 0, .slice none 0 0, .int .i64 3, .int .i64 0, .int .i64 T0, .slice none 0 0, .slice (some ⟨gf, 0, none⟩) mf cf] 34)).alloc (.cells #[] 34)) (w_a.heap.size + 1) (.slice (some ⟨w_a.heap.size + 1, 0, none⟩) 0 0) [] := by
        have h := World.ownsRow_lit (base := w_a.heap.size + 1) (e := 34) (size := 5) (w_a.alloc (.cells #[.int .i64 2, .int .i64 0, .int .i64 0, .slice none 0 0, .slice none 0 0, .int .i64 3, .int .i64 0, .int .i64 T0, .slice none 0 0, .slice (some ⟨gf, 0, none⟩) mf cf] 34)) #[] 0 (by rw [sz_e]; exact Nat.le_refl _) (by unfold maxLen; simp) rfl
        rw [sz_e] at h
        exact h
      have bL : Below (w_a.alloc (.cells #[.int .i64 2, .int .i64 0, .int .i64 0, .slice none 0 0, .slice none 0 0, .int .i64 3, .int .i64 0, .int .i64 T0, .slice none 0 0, .slice (some ⟨gf, 0, none⟩) mf cf] 34)).heap.size (w_a.alloc (.cells #[.int .i64 2, .int .i64 0, .int .i64 0, .slice none 0 0, .slice none 0 0, .int .i64 3, .int .i64 0, .int .i64 T0, .slice none 0 0, .slice (some ⟨gf, 0, none⟩) mf cf] 34)) ((w_a.alloc (.cells #[.int .i64 2, .int .i64 0, .int .i64 0, .slice none 0 0, .slice none 0 0, .int .i64 3, .int .i64 0, .int .i64 T0, .slice none 0 0, .slice (some ⟨gf, 0, none⟩) mf cf] 34)).alloc (.cells #[] 34)) := (Below.refl _ _).alloc (Nat.le_refl _) _
      obtain ⟨v1, w1, hrun1, ho1, hg1, g1, m1, d1, rfl⟩ := z_apps LO ⟨ga, 0, none⟩ cp (es := hs.map faZ) (z_cells ((unhide AI).below bL).row rfl) (by simp; rw [unhide hML]; omega) (by simp) (fun h => by cases h)
      rw [List.length_map, unhide hML] at hrun1
      rw [List.nil_append] at ho1
      have bW1 : Below (w_a.heap.size + 1) (w_a.alloc (.cells #[.int .i64 2, .int .i64 0, .int .i64 0, .slice none 0 0, .slice none 0 0, .int .i64 3, .int .i64 0, .int .i64 T0, .slice none 0 0, .slice (some ⟨gf, 0, none⟩) mf cf] 34)) w1 := by
        have h := bL
        rw [sz_e] at h
        exact h.grown hg1 (by simp) (fun k hk => (LO.lt k hk).1)
      have k_e1 := (bW1.block w_a.heap.size (by omega)).trans (unhide K_e)
      obtain ⟨v2, w2, hrun2, ho2, hg2, g2, m2, d2, rfl⟩ := z_apps ho1 ⟨w_a.heap.size, 0, none⟩ 2 (es := ([(⟨⟨2, 0, 0, [], []⟩, ⟨none, 0, 0⟩, ⟨none, 0, 0⟩⟩ : FaH), ⟨⟨3, 0, T0, [], ks⟩, ⟨none, 0, 0⟩, ⟨some ⟨gf, 0, none⟩, mf, cf⟩⟩]).map faZ) (fun j u hu => by
        have hj : j < 10 := by simpa [zcs] using (List.getElem?_eq_some_iff.1 hu).1
        have e2 : (⟨w_a.heap.size, 0, none⟩ : Addr).add j = ⟨w_a.heap.size, j, none⟩ := by unfold Addr.add; split <;> simp_all
        rw [e2, (heap_at k_e1 j).1, ← hu, List.getElem?_toArray]
        rfl) (by simp; rw [unhide hML]; omega) (by have := bW1.size; rw [sz_e] at this; exact this) (fun h => by cases h)
      have hrun2' : (Builtin.append_ #[23, 23] 23 #[.slice (some ⟨g1, 0, none⟩) m1 d1, .slice (some ⟨w_a.heap.size, 0, none⟩) 2 2]).run Try.prog w1 = .ok (.slice (some ⟨g2, 0, none⟩) m2 d2) w2 := hrun2
      have hb : Below (w_a.alloc (.cells #[.int .i64 2, .int .i64 0, .int .i64 0, .slice none 0 0, .slice none 0 0, .int .i64 3, .int .i64 0, .int .i64 T0, .slice none 0 0, .slice (some ⟨gf, 0, none⟩) mf cf] 34)).heap.size (w_a.alloc (.cells #[.int .i64 2, .int .i64 0, .int .i64 0, .slice none 0 0, .slice none 0 0, .int .i64 3, .int .i64 0, .int .i64 T0, .slice none 0 0, .slice (some ⟨gf, 0, none⟩) mf cf] 34)) w2 := by
        rw [sz_e]
        exact bW1.grown hg2 (by have := bW1.size; rw [sz_e] at this; exact this) (fun k hk => (ho1.lt k hk).1)
      rw [← List.map_append] at ho2
      have hm2 : m2 = m + 2 := by have h := z_slice ho2; rw [List.length_map, List.length_append, unhide hML] at h; exact h
      have ZR := hide (zrow_of_owns ho2)
      clear LO bL ho1 hg1 bW1 k_e1 hrun2 ho2 hg2 K_e
      replace AI := hide ((unhide AI).below hb)
      replace HR := hide (fun h hh => (unhide HR h hh).below hb)
      replace O_g := hide ((unhide O_g).below hb)
      replace K_g := hide ((hb.block _ (by omega)).trans (unhide K_g))
      replace O_w := hide ((unhide O_w).below hb)
      replace K_w := hide ((hb.block _ (by omega)).trans (unhide K_w))
      replace RS := hide (row_grow (unhide RS) hb)
      replace K_s := hide ((hb.block _ (by omega)).trans (unhide K_s))
      replace RB := hide (row_grow (unhide RB) hb)
      replace KF := hide ((unhide KF).grow hb)
      replace B := B.trans (hb.mono B.size)
      have zz_w2 := hb.size
      clear hb
      have T1 := hide (show AIn w2 (some ⟨g2, 0, none⟩) m2 ((hs ++ [(⟨⟨2, 0, 0, [], []⟩, ⟨none, 0, 0⟩, ⟨none, 0, 0⟩⟩ : FaH), ⟨⟨3, 0, T0, [], ks⟩, ⟨none, 0, 0⟩, ⟨some ⟨gf, 0, none⟩, mf, cf⟩⟩]).map faZ) (l ++ [⟨2, 0, 0, [], []⟩, ⟨3, 0, T0, [], ks⟩]) by
        have h := ain_rows (unhide ZR) (fun h hh => by
          rcases List.mem_append.1 hh with hh | hh
          · exact unhide HR h hh
          · simp only [List.mem_cons, List.not_mem_nil, or_false] at hh
            rcases hh with rfl | rfl
            · exact ⟨⟨rfl, fun _ hi => absurd hi (Nat.not_lt_zero _)⟩, ⟨rfl, fun _ hi => absurd hi (Nat.not_lt_zero _)⟩, by simp, by simp, by unfold maxLen; simp, by simp⟩
            · exact ⟨⟨rfl, fun _ hi => absurd hi (Nat.not_lt_zero _)⟩, unhide KF, by simp, by simp, by unfold maxLen; simp, by simp only; omega⟩)
        rw [List.map_append (f := fun x : FaH => x.X), ← unhide LD] at h
        exact h)
      have LE3 := hide (show (l ++ [(⟨2, 0, 0, [], []⟩ : ActD), ⟨3, 0, T0, [], ks⟩]).length ≤ 120 by rw [List.length_append, unhide LL]; simp; omega)
      have CON3 := hide (fun W e W' (h : RuRes (l ++ [(⟨2, 0, 0, [], []⟩ : ActD), ⟨3, 0, T0, [], ks⟩]) W e W') => run_con h)
      have RE3 := hide (run_end l ks T0 hbd.1 (by omega))
      rw [ru_all (by have := unhide LE3; omega)] at CON3
      simp only at CON3
      rw [unhide RE3] at CON3
      simp only at CON3
      rw [← unhide HXS, ← unhide HWS, ← unhide HRR, ← unhide HNR] at CON3
      have CK3 := hide (runD_codes (l ++ [(⟨2, 0, 0, [], []⟩ : ActD), ⟨3, 0, T0, [], ks⟩]))
      generalize (runD (l ++ [(⟨2, 0, 0, [], []⟩ : ActD), ⟨3, 0, T0, [], ks⟩])).2 = CS3 at *
      clear ZR
      have hm2b : m2 ≤ 100 := by omega
      clear hm2 sz_e
      go_wp2_with (first
        | (at_builtin; refine sc_wpApp rfl (.tmp 113) (.tmp 114) 23 rfl _ _ _ w1 rfl rfl hrun1 ?_)
        | (at_builtin; refine sc_wpApp rfl (.tmp 115) (.tmp 116) 23 rfl _ _ _ w2 rfl rfl hrun2' ?_))
      refine (implFlashRun_any (some ⟨g2, 0, none⟩) m2 d2 _ _ w2 (unhide T1) (by omega)).mono ?_
      intro e w_h hcon
      obtain ⟨ac_h, cc_h, ah_h, ch_h, aw_h, cw_h, hs_h, rfl, oo, mm, hb⟩ := unhide CON3 _ _ _ hcon
      clear hcon mm T1 CON3 hrun1 hrun2'
      simp only [List.length_nil]
      replace AI := hide ((unhide AI).below hb)
      replace HR := hide (fun h hh => (unhide HR h hh).below hb)
      replace O_g := hide ((unhide O_g).below hb)
      replace K_g := hide ((hb.block _ (by omega)).trans (unhide K_g))
      replace O_w := hide ((unhide O_w).below hb)
      replace K_w := hide ((hb.block _ (by omega)).trans (unhide K_w))
      replace RS := hide (row_grow (unhide RS) hb)
      replace K_s := hide ((hb.block _ (by omega)).trans (unhide K_s))
      replace RB := hide (row_grow (unhide RB) hb)
      replace KF := hide ((unhide KF).grow hb)
      replace B := B.trans (hb.mono B.size)
      have zz_w_h := hb.size
      clear hb
      have RH := hide (show Row w_h ah_h nR RR by have h := oo.byt.row; rwa [← unhide HNR] at h)
      clear oo
      have hb : Below w_h.heap.size w_h (w_h.alloc (.cells #[.slice ah_h nR ch_h, .slice aw_h 0 cw_h] 28)) := (Below.refl _ _).alloc (Nat.le_refl _) _
      have K_h := hide (heap_alloc_last w_h (.cells #[.slice ah_h nR ch_h, .slice aw_h 0 cw_h] 28))
      have sz_h : (w_h.alloc (.cells #[.slice ah_h nR ch_h, .slice aw_h 0 cw_h] 28)).heap.size = w_h.heap.size + 1 := by simp
      replace AI := hide ((unhide AI).below hb)
      replace HR := hide (fun h hh => (unhide HR h hh).below hb)
      replace O_g := hide ((unhide O_g).below hb)
      replace K_g := hide ((hb.block _ (by omega)).trans (unhide K_g))
      replace O_w := hide ((unhide O_w).below hb)
      replace K_w := hide ((hb.block _ (by omega)).trans (unhide K_w))
      replace RS := hide (row_grow (unhide RS) hb)
      replace K_s := hide ((hb.block _ (by omega)).trans (unhide K_s))
      replace RB := hide (row_grow (unhide RB) hb)
      replace KF := hide ((unhide KF).grow hb)
      replace RH := hide (row_grow (unhide RH) hb)
      replace B := B.trans (hb.mono B.size)
      have zz_b_h := hb.size
      clear hb
      have p0 := (heap_at (unhide K_g) 0).1
      have p1 := (heap_at (unhide K_g) 1).1
      have p2 := (heap_at (unhide K_s) 0).1
      have p3 := (heap_at (unhide K_s) 1).1
      have p4 := (heap_at (unhide K_h) 0).1
      have RG := hide (show Row (w_h.alloc (.cells #[.slice ah_h nR ch_h, .slice aw_h 0 cw_h] 28)) ah_g nH XS by have h := (unhide O_g).byt.row; rwa [unhide LH] at h)
      have t1 := conv_any (c := ch_s) (unhide RS)
      have t2 := conv_any (c := ch_g) (unhide RG)
      have t3 := conv_any (c := ch_h) (unhide RH)
      have t4 := conv_any (c := cr) (unhide RB)
      have BE := hide B
      go_wp2_with fail
      go_ret
      exact ⟨ret_bool (by simp), unhide BE⟩
end Go.Proofs.Ytjhmammoakiknaa

namespace Go.Proofs.Ytjhmammoakiknaa.fnActsFrame
open Go.ChangeShapes Go.WideShapes Go.ChangeAt Go.RowKit
open Go.ChangeMaps (open_string shut_string)
set_option linter.unusedVariables false

theorem own : ownKnob Try.prog.godebug = none := by kernel_rfl
theorem laidOut : laidOutB Try.prog = true := by kernel_rfl

set_option maxRecDepth 100000 in
theorem lifted (os : Os) (started : os.Started) (H : Type) (enc : TypeId × Value → H) :
    ReturnsInHanded {} Try.checked os 3 .any (Rows.fnActsSpec.pre6 enc Try.prog Try.f3 Rows.fnActsRow.domain false) (Rows.fnActsSpec.post enc Try.prog Try.f3 false true false false) := by
  refine returnsInHanded_of_change (C := Try.checked) own started (by kernel_rfl) Try.func3
    (ChangeSpec.witness6 (enc := enc) (C := Try.checked) false ⟨#[], #[.slice none 0 0, .slice none 0 0], []⟩ 8 (by kernel_rfl) (by kernel_rfl) (by kernel_rfl) (by kernel_rfl)) ?_
  intro W base args ds gs before hval0 hW _ _
  have hval : ∀ (j : Nat) t v, Try.f3.params[j]? = some t → args[j]? = some v → Value.okWide Try.prog W .any base t v := hval0
  have hW' := hW
  obtain ⟨p, q, hA0, hV, rfl, _, _⟩ := hW
  have hA : DataW.TrodAll enc Try.prog W 0 (fun _ => true) true Try.f3.params.toList args.toList ds p := hA0
  rw [Try.params3] at hA hval
  obtain ⟨v0, vs0, d0, ds0, p0, q0, hargs, rfl, rfl, h0, r0⟩ := trodAll_cons hA
  obtain ⟨v1, vs1, d1, ds1, p1, q1, rfl, rfl, rfl, h1, r1⟩ := trodAll_cons r0
  obtain ⟨rfl, rfl, rfl⟩ := trodAll_nil r1
  obtain rfl : args = #[v0, v1] := by cases args; simp_all
  obtain ⟨rfl, rfl⟩ := trodVars_none hV
  have k0 := h0
  have lt0 : ∀ x ∈ p0, x.block < W.heap.size := by obtain ⟨m, hm⟩ := k0; exact DataW.trod_lt m _ _ _ hm
  have k1 := h1
  have lt1 : ∀ x ∈ p1, x.block < W.heap.size := by obtain ⟨m, hm⟩ := k1; exact DataW.trod_lt m _ _ _ hm
  obtain ⟨a0, len0, cap0, rfl⟩ := okWide_slice Try.underlying22 (hval 0 22 v0 rfl rfl)
  obtain ⟨z0, w0⟩ : ∃ zs, IsRow .u8 W a0 len0 cap0 zs := by
    obtain ⟨fuel, hf⟩ := h0
    rcases open_ints Try.underlying22 Try.underlying5 (by kernel_rfl) hf with ⟨hcs, _⟩ | ⟨x, l, c, zs, hcs, _, hl, hm, hz, _, hcell, hwz⟩
    · simp [Value.cells] at hcs
      obtain ⟨rfl, rfl, rfl⟩ := hcs
      exact ⟨[], .inl ⟨rfl, rfl, rfl, rfl⟩⟩
    · simp [Value.cells] at hcs
      obtain ⟨rfl, rfl, rfl⟩ := hcs
      exact ⟨zs, .inr ⟨_, rfl, hl, hm, by simpa using hz, hcell, hwz⟩⟩
  obtain ⟨a1, len1, cap1, rfl⟩ := okWide_slice Try.underlying22 (hval 1 22 v1 rfl rfl)
  obtain ⟨z1, w1⟩ : ∃ zs, IsRow .u8 W a1 len1 cap1 zs := by
    obtain ⟨fuel, hf⟩ := h1
    rcases open_ints Try.underlying22 Try.underlying5 (by kernel_rfl) hf with ⟨hcs, _⟩ | ⟨x, l, c, zs, hcs, _, hl, hm, hz, _, hcell, hwz⟩
    · simp [Value.cells] at hcs
      obtain ⟨rfl, rfl, rfl⟩ := hcs
      exact ⟨[], .inl ⟨rfl, rfl, rfl, rfl⟩⟩
    · simp [Value.cells] at hcs
      obtain ⟨rfl, rfl, rfl⟩ := hcs
      exact ⟨zs, .inr ⟨_, rfl, hl, hm, by simpa using hz, hcell, hwz⟩⟩
  clear hA0 hval0
  refine (fnActs_law a0 len0 cap0 z0 a1 len1 cap1 z1 W w0 w1).mono fun e W' ⟨he, bel⟩ => ?_
  subst he
  exact ⟨_, rfl, _, _, _, [], _, [], hW', trodAll_mk1 (shut_bool Try.underlying4 _), (trodAll_cons_mk (Below.trod laidOut (by kernel_rfl) (of_decide_eq_true (by kernel_rfl)) k0 bel lt0) (trodAll_cons_mk (Below.trod laidOut (by kernel_rfl) (of_decide_eq_true (by kernel_rfl)) k1 bel lt1) trodAll_mk0)), rfl, bel.frame _, fun h => by cases h⟩

theorem over : Rows.fnActsRow.holds Try.pinned (OpenSpec.ofChange Rows.fnActsSpec) :=
  OpenClaim.holds_of_wide 3 Try.f3 rfl rfl rfl rfl rfl rfl rfl ⟨rfl, rfl, rfl, rfl, rfl⟩ rfl rfl rfl rfl rfl (by kernel_rfl) Try.func3 (by kernel_rfl)
    (of_decide_eq_true (by kernel_rfl)) (by unfold Func.isWrapper; first | (rw [if_pos (by decide +kernel)]; kernel_rfl) | (rw [if_neg (by decide +kernel)]; exact ⟨rfl, rfl⟩))
    (fun os started H enc _ => lifted os started H enc)

end Go.Proofs.Ytjhmammoakiknaa.fnActsFrame
namespace Go.Proofs.Ytjhmammoakiknaa
/-- THE STATEMENT. -/
theorem fnActs_proved : Rows.FnActsSaid := fnActsFrame.over
#print axioms fnActs_proved
end Go.Proofs.Ytjhmammoakiknaa
