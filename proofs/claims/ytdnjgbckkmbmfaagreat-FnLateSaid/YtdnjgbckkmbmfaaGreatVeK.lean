/-
  The keys of a history, sorted.
-/
import Derived.Test.YtdnjgbckkmbmfaaGreatVeD
import Derived.Test.YtdnjgbckkmbmfaaGreatVaA
import Derived.Test.YtdnjgbckkmbmfaaGreatIter
namespace Go.Proofs.YtdnjgbckkmbmfaaGreat
open Go.RowKit Go.Maps Go.Sort

theorem enc_map (ds : List VerD) : (dkB ds).map encStr = (dkeys ds).map Value.string := by
 unfold dkB
 rw [List.map_map]
 refine List.map_congr_left fun k _ => ?_
 simp [encStr]
theorem his_perm {w : World} {m N B : Nat} {f : ByteArray → Value} {ds : List VerD} (h : HisAt w m N B f ds) (ok : okVs ds = true) :
  ∃ D : DataW Value, w.ownsMap Tryz.prog 9 hmElem m N D ∧ (dkB ds).Perm (strKeys D) := by
 obtain ⟨D, h1, _, h3⟩ := h.map
 refine ⟨D, h1, Collected.perm (left := fun _ => false) ⟨dkB_nodup ok, fun x => ?_⟩ h1 (string_keyed Tryz.underlying9) Tryz.underlying9 (fun _ => rfl)⟩
 have hk : ∀ k : ByteArray, f k ≠ .slice none 0 0 ↔ ∃ i, ∃ h : i < ds.length, ds[i].k = k := fun k => by
  rw [← grp_ne]
  constructor
  ·intro h1 h2
   exact h1 (h.no k h2)
  ·intro h1 h2
   have := (h.own k).2
   rw [h2] at this
   rcases this with ⟨_, h0⟩ | ⟨g, cap, cur, e, _⟩
   ·exact h1 (List.eq_nil_of_length_eq_zero h0)
   ·cases e
 constructor
 ·intro hx
  obtain ⟨i, hi, rfl⟩ := (dkB_mem x).1 hx
  refine ⟨(h3 ds[i].k ?_).2 ((hk _).2 ⟨i, hi, rfl⟩), rfl⟩
  have := verK_small (okVs_ver ok hi)
  unfold maxLen
  omega
 ·rintro ⟨hx, _⟩
  have hl : x.length ≤ maxLen := by
   obtain ⟨es, rfl, hko⟩ := h1.keysOf
   rw [has_eq, List.any_eq_true] at hx
   obtain ⟨p, hp, hs⟩ := hx
   obtain ⟨v, hv⟩ := hko p hp
   obtain ⟨y, _, hy, hl⟩ := Maps.keyOf_str Tryz.underlying9 hv
   rw [hy] at hs
   have : y = x := by simpa [Lit.sameKey] using hs
   rw [← this]
   exact hl
  have e := (h3 ⟨x.toArray⟩ (by show x.toArray.size ≤ _; simpa using hl)).1 (by simpa using hx)
  obtain ⟨i, hi, e⟩ := (hk _).1 e
  exact (dkB_mem x).2 ⟨i, hi, by rw [e]⟩
abbrev StrOwns (w : World) (B : Nat) (v : Value) (ks : List ByteArray) : Prop := w.ownsRow B 9 1 v ks.length (ks.map Value.string)
theorem strowns_mono {w : World} {B C : Nat} {v : Value} {ks : List ByteArray} (h : StrOwns w B v ks) (hc : C ≤ B) : StrOwns w C v ks := by
 refine ⟨h.1, ?_⟩
 rcases h.2 with h | ⟨g, cap, cur, e, hb, r⟩
 ·exact .inl h
 ·exact .inr ⟨g, cap, cur, e, Nat.le_trans hc hb, r⟩
set_option maxRecDepth 100000 in
set_option maxHeartbeats 4000000 in
theorem keys_any (m N B : Nat) (f : ByteArray → Value) (ds : List VerD) (w : World) (hH : HisAt w m N B f ds) (ok : okVs ds = true) (hN : N ≤ 100000) :
  Calls Tryz.prog 109 #[.map (some m)] w fun e w' => ∃ v, e = .returned v ∧ StrOwns w' w.heap.size v (dkeys ds) ∧ Below w.heap.size w w' := by
 obtain ⟨D, h1, hp⟩ := his_perm hH ok
 have hsz := h1.size_le
 have KS := hide (fun mb W => callsIn_wide.1 (Tryz.maps_Keys_134 mb W))
 have SO := hide (callsIn_wide.1 (Tryz.slices_Sorted_keys_133_134 m N D hmElem w h1 (by unfold maxLen; omega) (by omega)))
 have FIN := hide (show ∀ (ss : List (List UInt8)), ss.Perm (strKeys D) → ss.length = (dkeys ds).length ∧ (ss.mergeSort (fun x y => decide (x ≤ y))).map encStr = (dkeys ds).map Value.string from fun ss h => by
  have h2 := h.trans hp.symm
  exact ⟨by rw [h2.length_eq]; simp [dkB], by rw [dkB_sort ok h2, enc_map]⟩)
 have bA : Below w.heap.size w (w.alloc (.cells #[.map (some m)] 94)) := (Below.refl _ _).alloc (Nat.le_refl _) _
 clear hH h1 hp
 go_enter Tryz.func109, Tryz.ntmps109
 go_wp2_with fail
 refine (unhide KS _ _).mono ?_
 rintro e w' ⟨rfl, hw⟩
 subst w'
 go_wp2_with fail
 refine (unhide SO).mono ?_
 rintro e w' ⟨v, ss, rfl, hS, hrow, hnil, hb⟩
 obtain ⟨e1, e2⟩ := unhide FIN ss hS
 rw [e1, e2] at hrow
 have hO := hide (strowns_mono hrow bA.size)
 have hB := hide (bA.trans (hb.mono bA.size))
 clear hrow hb hnil e1 e2 FIN SO KS bA
 go_wp2_with fail
 go_ret
 exact ⟨v, rfl, unhide hO, unhide hB⟩
end Go.Proofs.YtdnjgbckkmbmfaaGreat
