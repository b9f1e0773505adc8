/-
  The reader's number: the library's, held against its own text.
-/
import Derived.Test.YtmogcfiioajaeaaDoorAlI
import Derived.Lib.AtoiAllCases
import Derived.Lib.AppendIntMem
namespace Go.Proofs.YtmogcfiioajaeaaDoor
open Go.RowKit

/-- What the library's variables hold. -/
structure LibW (w : World) : Prop where
  m : GlobM w
  tab : Lib.TabIs Tryd.prog w "internal/strconv.uint64pow10" .u64 Lib.pow10Tab
  sy : ∃ ev, w.cell? ⟨3, 0, none⟩ = some ev ∧ (ev = .nilIface ∨ ∃ te pe, ev = .iface te pe)
  ra : ∃ ev, w.cell? ⟨4, 0, none⟩ = some ev ∧ (ev = .nilIface ∨ ∃ te pe, ev = .iface te pe)
theorem Tryd.gPow : Tryd.prog.globalNamed "internal/strconv.uint64pow10" = some 5 := by kernel_rfl
theorem LibW.wrote {w w' : World} {R : Nat} (h : LibW w) (hw : Wrote R w w') (hR : 8 ≤ R) (hs : 8 ≤ w.heap.size) : LibW w' := by
  obtain ⟨⟨m, hm⟩, ht, ⟨e3, h3, q3⟩, ⟨e4, h4, q4⟩⟩ := h
  refine ⟨⟨m, ?_⟩, ?_, ⟨e3, ?_, q3⟩, ⟨e4, ?_, q4⟩⟩
  · exact (World.cell?_of_block (w := w) (hw.block 0 (by omega) (by omega))).trans hm
  · unfold Lib.TabIs World.var? at ht ⊢
    rw [Tryd.gPow] at ht ⊢
    simp only [Option.bind_some] at ht ⊢
    rw [hw.block 5 (by omega) (by omega)]
    exact ht
  · exact (World.cell?_of_block (w := w) (hw.block 3 (by omega) (by omega))).trans h3
  · exact (World.cell?_of_block (w := w) (hw.block 4 (by omega) (by omega))).trans h4
theorem RdW.below {w w' : World} {R : Nat} {L : List ByteArray} (h : RdW w R L) (hb : Below w.heap.size w w') : RdW w' R L := by
  obtain ⟨a, n, c, h1, h2, h3⟩ := h
  exact ⟨a, n, c, (hb.block R (al_lt h1)).trans h1, h2.below hb, h3⟩
theorem RdW.lt {w : World} {R : Nat} {L : List ByteArray} (h : RdW w R L) : R < w.heap.size := by
  obtain ⟨a, n, c, h1, _⟩ := h
  exact al_lt h1
theorem atoi_any (k : ByteArray) (w : World) (hk : k.size ≤ 65536) (hL : LibW w) :
    Calls Tryd.prog 53 #[.string k] w fun e w' => ∃ n ev, e = .returned (.tuple #[.int .i64 n, ev]) ∧ Below w.heap.size w w' ∧ ((ev = .nilIface ∧ Lib.atoiAll k.data.toList = .ok n) ∨ ((∃ T p, ev = .iface T p) ∧ numV k.data.toList = none)) := by
  have hno : ∀ v, Lib.atoiAll k.data.toList ≠ .ok v → numV k.data.toList ≠ some v := fun v h q => h (num_atoi q)
  cases hc : Lib.atoiAll k.data.toList with
  | ok v =>
    refine (Tryd.strconv_Atoi_ok k (by omega) v hc w).mono ?_
    rintro e w' ⟨rfl, hw⟩
    refine ⟨v, _, rfl, ?_, .inl ⟨rfl, rfl⟩⟩
    rcases hw with rfl | ⟨t, rfl⟩
    · exact Below.refl _ _
    · exact Lib.bytesWorld_below _ _ _
  | «syntax» =>
    obtain ⟨ev, h1, h2⟩ := hL.sy
    refine (Tryd.strconv_Atoi_syntax k (by omega) hc ev w h1 h2).mono ?_
    rintro e w' ⟨N, rfl, _, _, hb⟩
    exact ⟨_, _, rfl, hb, .inr ⟨⟨_, _, rfl⟩, Option.eq_none_iff_forall_ne_some.2 fun v => hno v (by rw [hc]; exact fun q => by cases q)⟩⟩
  | range =>
    obtain ⟨ev, h1, h2⟩ := hL.ra
    refine (Tryd.strconv_Atoi_range k (by omega) hc ev w h1 h2).mono ?_
    rintro e w' ⟨N, rfl, _, _, hb⟩
    exact ⟨_, _, rfl, hb, .inr ⟨⟨_, _, rfl⟩, Option.eq_none_iff_forall_ne_some.2 fun v => hno v (by rw [hc]; exact fun q => by cases q)⟩⟩
/-- What the reading of a number comes to. -/
def NumRes (w : World) (R : Nat) (L : List ByteArray) (e : Ending) (w' : World) : Prop :=
  Wrote R w w' ∧ ((∃ k r v, L = k :: r ∧ numV k.data.toList = some v ∧ e = .returned (.int .i64 v) ∧ RdW w' R r) ∨ (e = noE ∧ ∀ k r, L = k :: r → numV k.data.toList = none))
theorem number_nil (R : Nat) (w : World) (h : RdW w R []) : Calls Tryd.prog 47 #[.pointer (some ⟨R, 0, none⟩)] w fun e w' => NumRes w R [] e w' := by
  have C := hide (word_nil R w h)
  clear h
  go_enter Tryd.func47, Tryd.ntmps47
  go_wp2_with fail
  refine (unhide C).mono ?_
  rintro e w1 ⟨rfl, rfl⟩
  clear C
  unfold noE
  go_wp2_with fail
  exact ⟨rfl, ⟨Wrote.refl _ _, .inr ⟨rfl, fun k r e => by cases e⟩⟩⟩
theorem number_cons (R : Nat) (k : ByteArray) (r : List ByteArray) (w : World) (h : RdW w R (k :: r)) (hL : LibW w) (hR : 8 ≤ R) :
    Calls Tryd.prog 47 #[.pointer (some ⟨R, 0, none⟩)] w fun e w' => NumRes w R (k :: r) e w' := by
  have hk : k.size ≤ 65536 := by
    obtain ⟨_, _, _, _, _, _, _, _, hz⟩ := h
    exact hz k List.mem_cons_self
  have hs8 : 8 ≤ w.heap.size := by have := h.lt; omega
  have C := hide (word_cons R k r w h)
  have LW := hide hL
  clear h hL
  go_enter Tryd.func47, Tryd.ntmps47
  go_wp2_with fail
  refine (unhide C).mono ?_
  rintro e w1 ⟨rfl, hr, hw⟩
  have RD := hide hr
  have HW := hide hw
  have L1 := hide ((unhide LW).wrote hw hR hs8)
  clear C hr hw LW
  go_wp2_with fail
  refine (atoi_any k w1 hk (unhide L1)).mono ?_
  rintro e w2 ⟨n, ev, rfl, hb, hc⟩
  have RD2 := hide ((unhide RD).below hb)
  have HW2 := hide ((unhide HW).trans (Wrote.of_below hb))
  have L2 := hide ((unhide L1).wrote (R := R) (Wrote.of_below hb) hR (by have := (unhide HW).size; omega))
  clear RD HW L1 hb
  rcases hc with ⟨rfl, hc⟩ | ⟨⟨T, p, rfl⟩, hc⟩
  · have hbd := Lib.atoiAll_bounds hc
    have HN := hide (show numV k.data.toList = if k = ⟨(Lib.itoa n).toArray⟩ ∧ -999999999999999999 ≤ n ∧ n ≤ 999999999999999999 then some n else none from by
      split
      · rename_i q
        exact (num_itoa _ _).2 ⟨by rw [q.1], q.2⟩
      · rename_i q
        refine Option.eq_none_iff_forall_ne_some.2 fun v hv => q ?_
        have e := num_atoi hv
        rw [hc] at e
        injection e with e
        subst e
        obtain ⟨h1, h2⟩ := (num_itoa _ _).1 hv
        refine ⟨?_, h2⟩
        cases k
        simp only [← h1, Array.toArray_toList])
    have C2 := hide (Tryd.strconv_Itoa n hbd.1 hbd.2 w2 (unhide L2).tab)
    obtain ⟨s, hs⟩ : ∃ s : ByteArray, s = ⟨(Lib.itoa n).toArray⟩ := ⟨_, rfl⟩
    rw [← hs] at HN C2
    clear hs hc
    have HB := hide hbd
    clear hbd
    go_wp2_with fail
    refine (unhide C2).mono ?_
    rintro e w3 ⟨rfl, kk, os, hw3⟩
    have hb3 : Below w2.heap.size w2 w3 := by rw [hw3]; exact Lib.below_grow _ _ (Nat.le_refl _) _ _
    have RD3 := hide ((unhide RD2).below hb3)
    have HW3 := hide ((unhide HW2).trans (Wrote.of_below hb3))
    clear C2 RD2 HW2 L2 hb3 hw3
    by_cases hsk : s = k
    · have g1 : (s.toList == k.toList) = true := by rw [text_eq]; exact decide_eq_true hsk
      by_cases hn1 : n > 999999999999999999
      · have RES := hide (show NumRes w R (k :: r) noE w3 from ⟨unhide HW3, .inr ⟨rfl, fun k' r' e => by injection e with e _; rw [← e, unhide HN, if_neg (fun q => by omega)]⟩⟩)
        clear HN HB RD3 HW3 hsk
        go_wp2_with fail
        exact ⟨rfl, unhide RES⟩
      · by_cases hn2 : n < -999999999999999999
        · have RES := hide (show NumRes w R (k :: r) noE w3 from ⟨unhide HW3, .inr ⟨rfl, fun k' r' e => by injection e with e _; rw [← e, unhide HN, if_neg (fun q => by omega)]⟩⟩)
          clear HN HB RD3 HW3 hsk
          go_wp2_with fail
          exact ⟨rfl, unhide RES⟩
        · have RES := hide (show NumRes w R (k :: r) (.returned (.int .i64 n)) w3 from ⟨unhide HW3, .inl ⟨k, r, n, rfl, by rw [unhide HN, if_pos ⟨hsk.symm, by omega, by omega⟩], rfl, unhide RD3⟩⟩)
          clear HN HB RD3 HW3 hsk
          go_wp2_with fail
          go_ret
          exact unhide RES
    · have g1 : (s.toList == k.toList) = false := by rw [text_eq]; exact decide_eq_false hsk
      have RES := hide (show NumRes w R (k :: r) noE w3 from ⟨unhide HW3, .inr ⟨rfl, fun k' r' e => by injection e with e _; rw [← e, unhide HN, if_neg (fun q => hsk q.1.symm)]⟩⟩)
      clear HN HB RD3 HW3 hsk
      go_wp2_with fail
      exact ⟨rfl, unhide RES⟩
  · have RES := hide (show NumRes w R (k :: r) noE w2 from ⟨unhide HW2, .inr ⟨rfl, fun k' r' e => by injection e with e _; rw [← e]; exact hc⟩⟩)
    clear hc RD2 HW2 L2
    go_wp2_with fail
    exact ⟨rfl, unhide RES⟩
theorem number_any (R : Nat) (L : List ByteArray) (w : World) (h : RdW w R L) (hL : LibW w) (hR : 8 ≤ R) :
    Calls Tryd.prog 47 #[.pointer (some ⟨R, 0, none⟩)] w fun e w' => NumRes w R L e w' := by
  cases L with
  | nil => exact number_nil R w h
  | cons k r => exact number_cons R k r w h hL hR
end Go.Proofs.YtmogcfiioajaeaaDoor
