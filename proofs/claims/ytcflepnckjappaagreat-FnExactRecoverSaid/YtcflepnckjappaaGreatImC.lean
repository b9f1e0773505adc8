/-
  Slices of images that the call owns, the bytes of each in a row of their own: an image appended; eqImageS, markImageS, heldImageS.
-/
import Derived.Test.YtcflepnckjappaaGreatGhC
import Derived.Test.YtcflepnckjappaaGreatAppL
import Derived.Test.YtcflepnckjappaaGreatScL
import Derived.Test.YtcflepnckjappaaGreatRowR
import Derived.Test.YtcflepnckjappaaGreatWrT
import Derived.Deep.RegionWith
namespace Go.Proofs.YtcflepnckjappaaGreat
open Go.RowKit

/-- An image and where its bytes lie. -/
structure ImH where
  X : ImD
  g : Nat
  c : Nat
def hr (h : ImH) : ImR := ⟨h.X.id, h.X.gone, ⟨some ⟨h.g, 0, none⟩, h.X.xs.length, h.c⟩⟩
/-- Its bytes. -/
abbrev hDat (w : World) (B : Nat) (h : ImH) : Prop := BR w B (some ⟨h.g, 0, none⟩) h.X.xs.length h.X.xs
/-- A slice of images that the call owns from block B on: no two share memory. -/
structure IOwn (w : World) (B : Nat) (v : Value) (hs : List ImH) : Prop where
  row : GOwns w B v (hs.map hr)
  dat : ∀ i (hi : i < hs.length), hDat w B hs[i]
  far : ∀ i j (hi : i < hs.length) (hj : j < hs.length), i ≠ j → hs[i].g ≠ hs[j].g
  off : ∀ i (hi : i < hs.length), v.ownBlock ≠ some hs[i].g
theorem IOwn.below {w w' : World} {B : Nat} {v : Value} {hs : List ImH} (h : IOwn w B v hs) (hb : Below w.heap.size w w') : IOwn w' B v hs :=
  ⟨rb_ownsRow_below h.row hb, fun i hi => (h.dat i hi).below hb, h.far, h.off⟩
theorem IOwn.down {w : World} {B C : Nat} {v : Value} {hs : List ImH} (h : IOwn w B v hs) (hc : C ≤ B) : IOwn w C v hs := by
  refine ⟨⟨h.row.1, ?_⟩, fun i hi => ⟨(h.dat i hi).row, fun x hx => ⟨Nat.le_trans hc ((h.dat i hi).own x hx).1, ((h.dat i hi).own x hx).2⟩⟩, h.far, h.off⟩
  rcases h.row.2 with h | ⟨g, cap, cur, e, hb, r⟩
  · exact .inl h
  · exact .inr ⟨g, cap, cur, e, Nat.le_trans hc hb, r⟩
theorem IOwn.nil (w : World) (B : Nat) : IOwn w B (.slice none 0 0) [] :=
  ⟨World.ownsRow_nil _ _ _ _, fun _ hi => absurd hi (Nat.not_lt_zero _), fun _ _ hi => absurd hi (Nat.not_lt_zero _), fun _ hi => absurd hi (Nat.not_lt_zero _)⟩
theorem IOwn.lit {w : World} {B : Nat} (hB : B ≤ w.heap.size) : IOwn (w.alloc (.cells #[] 72)) B (.slice (some ⟨w.heap.size, 0, none⟩) 0 0) [] :=
  ⟨World.ownsRow_lit _ _ _ hB (by unfold maxLen; simp) rfl, fun _ hi => absurd hi (Nat.not_lt_zero _), fun _ _ hi => absurd hi (Nat.not_lt_zero _), fun _ hi => absurd hi (Nat.not_lt_zero _)⟩
theorem infoIm : (Tryz.prog.info? 72).map (fun i => (i.zero, i.size, i.bytes)) = some (some (.agg #[.int .i64 0, .bool false, .slice none 0 0]), 3, 40) := by kernel_rfl
theorem hDat.lt {w : World} {B : Nat} {h : ImH} (hd : hDat w B h) : B ≤ h.g ∧ h.g < w.heap.size := ⟨(hd.own _ rfl).1, (hd.own _ rfl).2.1⟩
/-- An image appended: its bytes lie apart. -/
theorem im_app {w : World} {B : Nat} {v : Value} {hs : List ImH} {h : ImH} (ho : IOwn w B v hs) (hd : hDat w B h) (hf : ∀ i (hi : i < hs.length), hs[i].g ≠ h.g) (hv : v.ownBlock ≠ some h.g) (hz : hs.length ≤ 1000000) (hB : B ≤ w.heap.size) :
    ∃ v' w', (Builtin.append_ #[74, 74] 74 #[v, .slice (some ⟨w.heap.size, 0, none⟩) 1 1]).run Tryz.prog (w.alloc (.cells #[.int .i64 h.X.id, .bool h.X.gone, .slice (some ⟨h.g, 0, none⟩) h.X.xs.length h.c] 72)) = .ok v' w' ∧ IOwn w' B v' (hs ++ [h]) ∧ (w.alloc (.cells #[.int .i64 h.X.id, .bool h.X.gone, .slice (some ⟨h.g, 0, none⟩) h.X.xs.length h.c] 72)).grownBy w' v.ownBlock ∧ v' ≠ .slice none 0 0 := by
  obtain ⟨i0, hi0, hz0, hz1, hz2⟩ := info_parts infoIm
  obtain ⟨W, hW⟩ : ∃ W, W = w.alloc (.cells #[.int .i64 h.X.id, .bool h.X.gone, .slice (some ⟨h.g, 0, none⟩) h.X.xs.length h.c] 72) := ⟨_, rfl⟩
  have bA : Below w.heap.size w W := by rw [hW]; exact (Below.refl _ _).alloc (Nat.le_refl _) _
  have zW : W.heap.size = w.heap.size + 1 := by rw [hW]; simp
  have hcells : ∀ j u, (gcs [hr h])[j]? = some u → W.cell? ((⟨w.heap.size, 0, none⟩ : Addr).add j) = some u := fun j u hu => by
    have hj : j < 3 := by simpa [gcs] using (List.getElem?_eq_some_iff.1 hu).1
    have e2 : (⟨w.heap.size, 0, none⟩ : Addr).add j = ⟨w.heap.size, j, none⟩ := by unfold Addr.add; split <;> simp_all
    rw [e2, hW]
    refine rb_cell_new rfl ?_
    match j, hj with
    | 0, _ => simpa [gcs, hr] using hu
    | 1, _ => simpa [gcs, hr] using hu
    | 2, _ => simpa [gcs, hr] using hu
  have hoa := ho.below bA
  rw [← hW]
  have hl : (hs.map hr).length ≤ 1000000 := by simpa using hz
  obtain ⟨v', w', hrun, ho', hg, hn, hloc⟩ := app_at (P := Tryz.prog) (w := W) (B := B) 74 74 72 Tryz.underlying74 hi0 hz0 hz1 hz2 rfl (by decide) hoa.row ⟨w.heap.size, 0, none⟩ 1 1 (gcs [hr h]) (by simp [gcs]) hcells (gcs_one _) (by unfold maxLen; omega) (by omega) (by omega) (fun _ => by omega)
  refine ⟨v', w', hrun, ?_, hg, hn⟩
  have keep : ∀ k, k < w.heap.size → v.ownBlock ≠ some k → w'.heap[k]? = w.heap[k]? := fun k hk hne => (hg.block k (by omega) (fun e => hne e.symm)).trans (bA.block k hk)
  have sz : w.heap.size ≤ w'.heap.size := Nat.le_trans bA.size hg.size
  refine ⟨?_, fun i hi => ?_, fun i j hi hj hij => ?_, fun i hi => ?_⟩
  · unfold GOwns
    rw [List.map_append, List.length_append, gcs_append]
    exact ho'
  · by_cases e : i < hs.length
    · rw [List.getElem_append_left e]
      exact (ho.dat i e).of_blocks sz (fun x hx => by cases hx; exact keep _ (hDat.lt (ho.dat i e)).2 (ho.off i e))
    · have : i = hs.length := by simp at hi; omega
      subst this
      rw [List.getElem_append_right (Nat.le_refl _)]
      simp only [Nat.sub_self, List.getElem_cons_zero]
      exact hd.of_blocks sz (fun x hx => by cases hx; exact keep _ (hDat.lt hd).2 hv)
  · have key : ∀ k (hk : k < (hs ++ [h]).length), (∃ hk' : k < hs.length, (hs ++ [h])[k] = hs[k]) ∨ (k = hs.length ∧ (hs ++ [h])[k] = h) := fun k hk => by
      by_cases e : k < hs.length
      · exact .inl ⟨e, List.getElem_append_left e⟩
      · have : k = hs.length := by simp at hk; omega
        subst this
        exact .inr ⟨rfl, by rw [List.getElem_append_right (Nat.le_refl _)]; simp⟩
    rcases key i hi with ⟨h1, e1⟩ | ⟨h1, e1⟩ <;> rcases key j hj with ⟨h2, e2⟩ | ⟨h2, e2⟩ <;> rw [e1, e2]
    · exact ho.far i j h1 h2 hij
    · exact hf i h1
    · exact (hf j h2).symm
    · omega
  · have hlt : ∀ x, x ∈ hs ++ [h] → x.g < w.heap.size ∧ v.ownBlock ≠ some x.g := fun x hx => by
      rcases List.mem_append.1 hx with hx | hx
      · obtain ⟨k, hk, rfl⟩ := List.getElem_of_mem hx
        exact ⟨(hDat.lt (ho.dat k hk)).2, ho.off k hk⟩
      · obtain rfl := List.mem_singleton.1 hx
        exact ⟨(hDat.lt hd).2, hv⟩
    have hx := hlt _ (List.getElem_mem hi)
    rcases hloc with e | e
    · rw [e]; exact hx.2
    · rw [e]
      intro e'
      injection e' with e'
      omega
theorem im_row {w : World} {B n c : Nat} {a : Option Addr} {hs : List ImH} (h : IOwn w B (.slice a n c) hs) : GRow w a n (hs.map hr) := grow_of_owns h.row
theorem im_slice {w : World} {B : Nat} {v : Value} {hs : List ImH} (h : IOwn w B v hs) : ∃ a c, v = .slice a hs.length c := by
  rcases h.row.2 with ⟨rfl, hn⟩ | ⟨g, cap, cur, rfl, _⟩
  · exact ⟨none, 0, by simp at hn; rw [hn]; rfl⟩
  · exact ⟨_, _, by rw [List.length_map]⟩
end Go.Proofs.YtcflepnckjappaaGreat
