/-
  HeldB, RowR, WrT, ImC, LtR, Bits, Takes, ScB, LtS in one.
-/
import Derived.Test.YtobonkffbmemaaaMark
import Derived.Test.YtobonkffbmemaaaRowB
import Derived.Test.YtobonkffbmemaaaBytes
import Derived.Test.YtobonkffbmemaaaMarkB
import Derived.Test.YtobonkffbmemaaaOwn
import Derived.Test.YtobonkffbmemaaaGhC
import Derived.Test.YtobonkffbmemaaaAppL
import Derived.Test.YtobonkffbmemaaaScL
import Derived.Deep.RegionWith
import Derived.Test.YtobonkffbmemaaaLtL
import Derived.Test.YtobonkffbmemaaaBase
import Derived.Laws.BitsAllLaws
import Derived.Laws.Bits64
import Derived.Deep.RegionHeld3
import Derived.Laws.AppendOwnNone
import Derived.Deep.Cut
namespace Go.Proofs.Ytobonkffbmemaaa
open Go.RowKit

set_option maxHeartbeats 400000 in
theorem heldByteS_any (a : Option Addr) (n c : Nat) (k0 : Int) (w : World) (hn : n ≤ 4611686018427387904) (hk : 0 ≤ k0) (hk2 : k0 ≤ 4000000000000000000) (h1 : Row w a n (marks k0 n)) :
    Calls Try.prog 52 #[.slice a n c, .int .i64 k0] w fun e w' => e = .returned (.int .i64 (k0 + n)) ∧ w' = w := by
  have H1 := hide h1.2
  clear h1
  go_enter Try.func52, Try.ntmps52
  go_wp2_with fail
  go_loop [1, 5] (fun q i => ∃ k : Nat, k ≤ n ∧ i = .int .i64 k ∧ q = .int .i64 (k0 + k)) (fun _ i => n - (intOf i).toNat)
  case atStart => exact ⟨0, Nat.zero_le _, rfl, by simp⟩
  case round =>
    obtain ⟨k, hk, rfl, rfl⟩ := hrel
    by_cases hlt : k < n
    · obtain ⟨b, off, rfl, e1⟩ := unhide H1 k hlt
      rw [marks_getD _ _ _ hlt] at e1
      go_wp2_with fail
      go_round
      case rel => exact ⟨k + 1, by omega, by go_num, by go_num⟩
      case measure => simp [intOf]; omega
    · obtain rfl : k = n := by omega
      go_wp2_with fail
      go_ret
      exact ⟨rfl, rfl⟩
end Go.Proofs.Ytobonkffbmemaaa

namespace Go.Proofs.Ytobonkffbmemaaa
open Go.RowKit

/-- Blocks of which P does not hold stay. -/
structure WrB (P : Nat → Prop) (w w' : World) : Prop where
  os : w'.os = w.os
  tape : w'.tape = w.tape
  output : w'.output = w.output
  size : w.heap.size ≤ w'.heap.size
  block : ∀ k, k < w.heap.size → ¬ P k → w'.heap[k]? = w.heap[k]?
theorem WrB.of_grown {w w' : World} {r : Option Nat} (h : w.grownBy w' r) : WrB (fun i => r = some i) w w' :=
  ⟨h.os, h.tape, h.output, h.size, fun k hk hp => h.block k hk (fun e => hp e.symm)⟩
theorem WrB.of_touch {a : Option Addr} {w w' : World} (h : Touch a w w') : WrB (fun i => ∃ x, a = some x ∧ i = x.block) w w' := by
  rcases h with rfl | ⟨x, hx, ho⟩
  · exact ⟨rfl, rfl, rfl, Nat.le_refl _, fun _ _ _ => rfl⟩
  · exact ⟨ho.os, ho.tape, ho.output, Nat.le_of_eq ho.size.symm, fun k _ hk => ho.block k (fun e => hk ⟨x, hx, e⟩)⟩
theorem WrB.below {P : Nat → Prop} {w w' : World} {B : Nat} (h : WrB P w w') (hB : ∀ i, P i → B ≤ i) (hs : B ≤ w.heap.size) : Below B w w' :=
  ⟨h.os, h.tape, h.output, h.size, fun k hk => h.block k (by omega) (fun hp => by have := hB k hp; omega)⟩
theorem rr_owns_wr {P : Nat → Prop} {w w' : World} {B e s n : Nat} {v : Value} {vs : List Value} (h : w.ownsRow B e s v n vs) (hw : WrB P w w') (hp : ∀ i, v.ownBlock = some i → ¬ P i) : w'.ownsRow B e s v n vs := by
  have hlt := fun i hi => (h.lt i hi).2
  obtain ⟨hl, h⟩ := h
  refine ⟨hl, ?_⟩
  rcases h with h | ⟨g, cap, cur, e, hb, hh, r⟩
  · exact .inl h
  · subst e
    exact .inr ⟨g, cap, cur, rfl, hb, (hw.block g (hlt g rfl) (hp g rfl)).trans hh, r⟩
theorem rr_eqBytes (a1 a2 : Option Addr) (n c1 c2 : Nat) (xs : List Int) (w : World) (hn : n ≤ maxLen) (h1 : Row w a1 n xs) (h2 : Row w a2 n xs) :
    Calls Try.prog 46 #[.slice a1 n c1, .slice a2 n c2] w fun e w' => e = .returned (.bool true) ∧ Below w.heap.size w w' := by
  refine (eqByteS_any a1 a2 n n c1 c2 xs xs w hn hn h1 h2).mono ?_
  rintro e w' ⟨rfl, k, rfl⟩
  exact ⟨ret_bool (by simp), bel_drewN (Below.refl _ _) _⟩
/-- A row of bytes of one's own. -/
structure BR (w : World) (B : Nat) (a : Option Addr) (n : Nat) (xs : List Int) : Prop where
  row : Row w a n xs
  own : ∀ x, a = some x → B ≤ x.block ∧ x.block < w.heap.size ∧ ∀ j, w.frozen? ⟨x.block, j, none⟩ = false
theorem BR.own' {w : World} {B n : Nat} {a : Option Addr} {xs : List Int} (h : BR w B a n xs) (x : Addr) (hx : a = some x) : B ≤ x.block ∧ x.block < w.heap.size := ⟨(h.own x hx).1, (h.own x hx).2.1⟩
theorem BR.of_blocks {w w' : World} {B n : Nat} {a : Option Addr} {xs : List Int} (h : BR w B a n xs) (hs : w.heap.size ≤ w'.heap.size) (hb : ∀ x, a = some x → w'.heap[x.block]? = w.heap[x.block]?) : BR w' B a n xs :=
  ⟨h.row.of_cells fun x hx p hp => World.cell?_of_block (w := w) (by rw [hp]; exact hb x hx), fun x hx => ⟨(h.own x hx).1, Nat.lt_of_lt_of_le (h.own x hx).2.1 hs, fun j => (show w'.frozen? ⟨x.block, j, none⟩ = w.frozen? ⟨x.block, j, none⟩ from World.frozen?_of_block (w := w) (hb x hx)).trans ((h.own x hx).2.2 j)⟩⟩
theorem BR.below {w w' : World} {B n : Nat} {a : Option Addr} {xs : List Int} (h : BR w B a n xs) (hb : Below w.heap.size w w') : BR w' B a n xs :=
  h.of_blocks hb.size (fun x hx => hb.block _ (h.own x hx).2.1)
theorem BR.wr {P : Nat → Prop} {w w' : World} {B n : Nat} {a : Option Addr} {xs : List Int} (h : BR w B a n xs) (hw : WrB P w w') (hp : ∀ x, a = some x → ¬ P x.block) : BR w' B a n xs :=
  h.of_blocks hw.size (fun x hx => hw.block x.block (h.own x hx).2.1 (hp x hx))
theorem BR.marked {w w' : World} {B n : Nat} {a : Option Addr} {xs ys : List Int} (h : BR w B a n xs) (hr : Row w' a n ys) (ht : Touch a w w') : BR w' B a n ys := by
  refine ⟨hr, fun x hx => ?_⟩
  rcases ht with rfl | ⟨y, _, ho⟩
  · exact h.own x hx
  · exact ⟨(h.own x hx).1, by rw [ho.size]; exact (h.own x hx).2.1, fun j => (ho.frozen _).trans ((h.own x hx).2.2 j)⟩
theorem br_of_owns {w : World} {B : Nat} {v : Value} {xs : List Int} (h : Owns w B v xs) : ∃ a c, v = .slice a xs.length c ∧ BR w B a xs.length xs := by
  obtain ⟨a, c, e, _, _, h3, h4⟩ := mine_of_owns h
  exact ⟨a, c, e, h3, h4⟩
end Go.Proofs.Ytobonkffbmemaaa

namespace Go.Proofs.Ytobonkffbmemaaa
open Go.RowKit

/-- Of what was there, only blocks of a kind may hold otherwise. -/
structure Wr (P : Nat → Prop) (w w' : World) : Prop where
  os : w'.os = w.os
  tape : w'.tape = w.tape
  output : w'.output = w.output
  size : w.heap.size ≤ w'.heap.size
  block : ∀ k, k < w.heap.size → ¬ P k → w'.heap[k]? = w.heap[k]?
theorem Wr.trans {P : Nat → Prop} {w1 w2 w3 : World} (h : Wr P w1 w2) (k : Wr P w2 w3) : Wr P w1 w3 :=
  ⟨k.os.trans h.os, k.tape.trans h.tape, k.output.trans h.output, Nat.le_trans h.size k.size, fun i hi hp => (k.block i (Nat.lt_of_lt_of_le hi h.size) hp).trans (h.block i hi hp)⟩
theorem Wr.mono {P Q : Nat → Prop} {w w' : World} (h : Wr P w w') (hpq : ∀ i, P i → Q i) : Wr Q w w' := ⟨h.os, h.tape, h.output, h.size, fun k hk hq => h.block k hk (fun hp => hq (hpq k hp))⟩
theorem Wr.of_below {P : Nat → Prop} {w w' : World} (h : Below w.heap.size w w') : Wr P w w' := ⟨h.os, h.tape, h.output, h.size, fun k hk _ => h.block k hk⟩
theorem Wr.of_grown {P : Nat → Prop} {w w' : World} {r : Option Nat} (h : w.grownBy w' r) (hr : ∀ i, r = some i → P i) : Wr P w w' :=
  ⟨h.os, h.tape, h.output, h.size, fun k hk hp => h.block k hk (fun e => hp (hr k e.symm))⟩
theorem Wr.below {P : Nat → Prop} {w w' : World} {B : Nat} (h : Wr P w w') (hB : ∀ i, P i → B ≤ i) (hs : B ≤ w.heap.size) : Below B w w' :=
  ⟨h.os, h.tape, h.output, h.size, fun k hk => h.block k (by omega) (fun hp => by have := hB k hp; omega)⟩
theorem ownsRow_heap {w w' : World} {B e s n : Nat} {v : Value} {vs : List Value} (h : w.ownsRow B e s v n vs) (hk : ∀ g, v.ownBlock = some g → w'.heap[g]? = w.heap[g]?) : w'.ownsRow B e s v n vs := by
  obtain ⟨hl, h⟩ := h
  refine ⟨hl, ?_⟩
  rcases h with h | ⟨g, cap, cur, e, hb, hh, r⟩
  · exact .inl h
  · subst e
    exact .inr ⟨g, cap, cur, rfl, hb, (hk g rfl).trans hh, r⟩
theorem heap_set {w : World} {b : Nat} {cs : Array Value} {t : TypeId} (h : w.heap[b]? = some (.cells cs t (0, 0))) (j : Nat) (v : Value) : (w.setCell ⟨b, j, none⟩ v).heap[b]? = some (.cells (cs.setIfInBounds j v) t (0, 0)) := by
  have hlt : b < w.heap.size := (Array.getElem?_eq_some_iff.1 h).1
  have hv : w.heap[b] = _ := (Array.getElem?_eq_some_iff.1 h).2
  unfold World.setCell
  rw [Array.getElem?_eq_getElem (by simpa using hlt), Array.getElem_modify]
  simp [hv]
theorem heap_at {w : World} {b : Nat} {cs : Array Value} {t : TypeId} (h : w.heap[b]? = some (.cells cs t (0, 0))) (j : Nat) : w.cell? ⟨b, j, none⟩ = cs[j]? ∧ w.frozen? ⟨b, j, none⟩ = false := by
  constructor <;> simp [World.cell?, World.frozen?, h]
theorem loc_wr {P : Nat → Prop} {w w' : World} {b : Nat} {o : Obj} (h : w.heap[b]? = some o) (hw : Wr P w w') (hp : ¬ P b) : w'.heap[b]? = some o := (hw.block b (Array.getElem?_eq_some_iff.1 h).1 hp).trans h
theorem owns_wr {P : Nat → Prop} {w w' : World} {B e s n : Nat} {v : Value} {vs : List Value} (h : w.ownsRow B e s v n vs) (hw : Wr P w w') (hp : ∀ i, v.ownBlock = some i → ¬ P i) : w'.ownsRow B e s v n vs :=
  ownsRow_heap h (fun g hg => hw.block g (h.lt g hg).2 (hp g hg))
end Go.Proofs.Ytobonkffbmemaaa

namespace Go.Proofs.Ytobonkffbmemaaa
open Go.RowKit

/-- An image and where its bytes lie. -/
structure ImH where
  X : ImD
  g : Nat
  c : Nat
def hr (h : ImH) : ImR := ⟨h.X.id, h.X.gone, ⟨some ⟨h.g, 0, none⟩, h.X.xs.length, h.c⟩⟩
/-- Its bytes. -/
abbrev hDat (w : World) (B : Nat) (h : ImH) : Prop := BR w B (some ⟨h.g, 0, none⟩) h.X.xs.length h.X.xs
/-- A slice of images that the call owns from block B on: no two share memory. -/
structure IOwn (w : World) (B : Nat) (v : Value) (hs : List ImH) : Prop where
  row : GOwns w B v (hs.map hr)
  dat : ∀ i (hi : i < hs.length), hDat w B hs[i]
  far : ∀ i j (hi : i < hs.length) (hj : j < hs.length), i ≠ j → hs[i].g ≠ hs[j].g
  off : ∀ i (hi : i < hs.length), v.ownBlock ≠ some hs[i].g
theorem IOwn.below {w w' : World} {B : Nat} {v : Value} {hs : List ImH} (h : IOwn w B v hs) (hb : Below w.heap.size w w') : IOwn w' B v hs :=
  ⟨rb_ownsRow_below h.row hb, fun i hi => (h.dat i hi).below hb, h.far, h.off⟩
theorem IOwn.down {w : World} {B C : Nat} {v : Value} {hs : List ImH} (h : IOwn w B v hs) (hc : C ≤ B) : IOwn w C v hs := by
  refine ⟨⟨h.row.1, ?_⟩, fun i hi => ⟨(h.dat i hi).row, fun x hx => ⟨Nat.le_trans hc ((h.dat i hi).own x hx).1, ((h.dat i hi).own x hx).2⟩⟩, h.far, h.off⟩
  rcases h.row.2 with h | ⟨g, cap, cur, e, hb, r⟩
  · exact .inl h
  · exact .inr ⟨g, cap, cur, e, Nat.le_trans hc hb, r⟩
theorem IOwn.nil (w : World) (B : Nat) : IOwn w B (.slice none 0 0) [] :=
  ⟨World.ownsRow_nil _ _ _ _, fun _ hi => absurd hi (Nat.not_lt_zero _), fun _ _ hi => absurd hi (Nat.not_lt_zero _), fun _ hi => absurd hi (Nat.not_lt_zero _)⟩
theorem IOwn.lit {w : World} {B : Nat} (hB : B ≤ w.heap.size) : IOwn (w.alloc (.cells #[] 59)) B (.slice (some ⟨w.heap.size, 0, none⟩) 0 0) [] :=
  ⟨World.ownsRow_lit _ _ _ hB (by unfold maxLen; simp) rfl, fun _ hi => absurd hi (Nat.not_lt_zero _), fun _ _ hi => absurd hi (Nat.not_lt_zero _), fun _ hi => absurd hi (Nat.not_lt_zero _)⟩
theorem infoIm : (Try.prog.info? 59).map (fun i => (i.zero, i.size, i.bytes)) = some (some (.agg #[.int .i64 0, .bool false, .slice none 0 0]), 3, 40) := by kernel_rfl
theorem hDat.lt {w : World} {B : Nat} {h : ImH} (hd : hDat w B h) : B ≤ h.g ∧ h.g < w.heap.size := ⟨(hd.own _ rfl).1, (hd.own _ rfl).2.1⟩
/-- An image appended: its bytes lie apart. -/
theorem im_app {w : World} {B : Nat} {v : Value} {hs : List ImH} {h : ImH} (ho : IOwn w B v hs) (hd : hDat w B h) (hf : ∀ i (hi : i < hs.length), hs[i].g ≠ h.g) (hv : v.ownBlock ≠ some h.g) (hz : hs.length ≤ 1000000) (hB : B ≤ w.heap.size) :
    ∃ v' w', (Builtin.append_ #[94, 94] 94 #[v, .slice (some ⟨w.heap.size, 0, none⟩) 1 1]).run Try.prog (w.alloc (.cells #[.int .i64 h.X.id, .bool h.X.gone, .slice (some ⟨h.g, 0, none⟩) h.X.xs.length h.c] 59)) = .ok v' w' ∧ IOwn w' B v' (hs ++ [h]) ∧ (w.alloc (.cells #[.int .i64 h.X.id, .bool h.X.gone, .slice (some ⟨h.g, 0, none⟩) h.X.xs.length h.c] 59)).grownBy w' v.ownBlock ∧ v' ≠ .slice none 0 0 := by
  obtain ⟨i0, hi0, hz0, hz1, hz2⟩ := info_parts infoIm
  obtain ⟨W, hW⟩ : ∃ W, W = w.alloc (.cells #[.int .i64 h.X.id, .bool h.X.gone, .slice (some ⟨h.g, 0, none⟩) h.X.xs.length h.c] 59) := ⟨_, rfl⟩
  have bA : Below w.heap.size w W := by rw [hW]; exact (Below.refl _ _).alloc (Nat.le_refl _) _
  have zW : W.heap.size = w.heap.size + 1 := by rw [hW]; simp
  have hcells : ∀ j u, (gcs [hr h])[j]? = some u → W.cell? ((⟨w.heap.size, 0, none⟩ : Addr).add j) = some u := fun j u hu => by
    have hj : j < 3 := by simpa [gcs] using (List.getElem?_eq_some_iff.1 hu).1
    have e2 : (⟨w.heap.size, 0, none⟩ : Addr).add j = ⟨w.heap.size, j, none⟩ := by unfold Addr.add; split <;> simp_all
    rw [e2, hW]
    refine rb_cell_new rfl ?_
    match j, hj with
    | 0, _ => simpa [gcs, hr] using hu
    | 1, _ => simpa [gcs, hr] using hu
    | 2, _ => simpa [gcs, hr] using hu
  have hoa := ho.below bA
  rw [← hW]
  have hl : (hs.map hr).length ≤ 1000000 := by simpa using hz
  obtain ⟨v', w', hrun, ho', hg, hn, hloc⟩ := app_at (P := Try.prog) (w := W) (B := B) 94 94 59 Try.underlying94 hi0 hz0 hz1 hz2 rfl (by decide) hoa.row ⟨w.heap.size, 0, none⟩ 1 1 (gcs [hr h]) (by simp [gcs]) hcells (gcs_one _) (by unfold maxLen; omega) (by omega) (by omega) (fun _ => by omega)
  refine ⟨v', w', hrun, ?_, hg, hn⟩
  have keep : ∀ k, k < w.heap.size → v.ownBlock ≠ some k → w'.heap[k]? = w.heap[k]? := fun k hk hne => (hg.block k (by omega) (fun e => hne e.symm)).trans (bA.block k hk)
  have sz : w.heap.size ≤ w'.heap.size := Nat.le_trans bA.size hg.size
  refine ⟨?_, fun i hi => ?_, fun i j hi hj hij => ?_, fun i hi => ?_⟩
  · unfold GOwns
    rw [List.map_append, List.length_append, gcs_append]
    exact ho'
  · by_cases e : i < hs.length
    · rw [List.getElem_append_left e]
      exact (ho.dat i e).of_blocks sz (fun x hx => by cases hx; exact keep _ (hDat.lt (ho.dat i e)).2 (ho.off i e))
    · have : i = hs.length := by simp at hi; omega
      subst this
      rw [List.getElem_append_right (Nat.le_refl _)]
      simp only [Nat.sub_self, List.getElem_cons_zero]
      exact hd.of_blocks sz (fun x hx => by cases hx; exact keep _ (hDat.lt hd).2 hv)
  · have key : ∀ k (hk : k < (hs ++ [h]).length), (∃ hk' : k < hs.length, (hs ++ [h])[k] = hs[k]) ∨ (k = hs.length ∧ (hs ++ [h])[k] = h) := fun k hk => by
      by_cases e : k < hs.length
      · exact .inl ⟨e, List.getElem_append_left e⟩
      · have : k = hs.length := by simp at hk; omega
        subst this
        exact .inr ⟨rfl, by rw [List.getElem_append_right (Nat.le_refl _)]; simp⟩
    rcases key i hi with ⟨h1, e1⟩ | ⟨h1, e1⟩ <;> rcases key j hj with ⟨h2, e2⟩ | ⟨h2, e2⟩ <;> rw [e1, e2]
    · exact ho.far i j h1 h2 hij
    · exact hf i h1
    · exact (hf j h2).symm
    · omega
  · have hlt : ∀ x, x ∈ hs ++ [h] → x.g < w.heap.size ∧ v.ownBlock ≠ some x.g := fun x hx => by
      rcases List.mem_append.1 hx with hx | hx
      · obtain ⟨k, hk, rfl⟩ := List.getElem_of_mem hx
        exact ⟨(hDat.lt (ho.dat k hk)).2, ho.off k hk⟩
      · obtain rfl := List.mem_singleton.1 hx
        exact ⟨(hDat.lt hd).2, hv⟩
    have hx := hlt _ (List.getElem_mem hi)
    rcases hloc with e | e
    · rw [e]; exact hx.2
    · rw [e]
      intro e'
      injection e' with e'
      omega
theorem im_row {w : World} {B n c : Nat} {a : Option Addr} {hs : List ImH} (h : IOwn w B (.slice a n c) hs) : GRow w a n (hs.map hr) := grow_of_owns h.row
theorem im_slice {w : World} {B : Nat} {v : Value} {hs : List ImH} (h : IOwn w B v hs) : ∃ a c, v = .slice a hs.length c := by
  rcases h.row.2 with ⟨rfl, hn⟩ | ⟨g, cap, cur, rfl, _⟩
  · exact ⟨none, 0, by simp at hn; rw [hn]; rfl⟩
  · exact ⟨_, _, by rw [List.length_map]⟩
theorem im_grow {w w' : World} {a : Option Addr} {n : Nat} {xs : List Int} (h : Row w a n xs) (hb : Below w.heap.size w w') : Row w' a n xs := by
  refine ⟨h.1, fun i hi => ?_⟩
  obtain ⟨b, off, e, hc⟩ := h.2 i hi
  exact ⟨b, off, e, (hb.cell (p := ⟨b, off + i, none⟩) (cell_lt hc)).trans hc⟩
set_option maxHeartbeats 1000000 in
theorem imEqImage_any (h1 h2 : ImH) (he : h1.X = h2.X) (w : World) (hn : h1.X.xs.length ≤ maxLen) (r1 : Row w (some ⟨h1.g, 0, none⟩) h1.X.xs.length h1.X.xs) (r2 : Row w (some ⟨h2.g, 0, none⟩) h2.X.xs.length h2.X.xs) :
    Calls Try.prog 30 #[gv (hr h1), gv (hr h2)] w fun e w' => e = .returned (.bool true) ∧ Below w.heap.size w w' := by
  obtain ⟨⟨id, gone, xs⟩, g1, c1⟩ := h1
  obtain ⟨X2, g2, c2⟩ := h2
  simp only at he
  subst he
  unfold gv hr
  simp only at hn r1 r2 ⊢
  have hb0 : ∀ o1 o2, Below w.heap.size w ((w.alloc o1).alloc o2) := fun o1 o2 => ((Below.refl w.heap.size w).alloc (Nat.le_refl _) _).alloc (by simp) _
  have hg : (gone != gone) = false := by cases gone <;> rfl
  have C := hide (fun u (hu : Below w.heap.size w u) => rr_eqBytes (some ⟨g1, 0, none⟩) (some ⟨g2, 0, none⟩) xs.length c1 c2 xs u hn (im_grow r1 hu) (im_grow r2 hu))
  clear r1 r2
  go_enter Try.func30, Try.ntmps30
  go_wp2_with fail
  refine (unhide C _ (hb0 _ _)).mono ?_
  rintro e w1 ⟨rfl, hb⟩
  have hB := (hb0 _ _).trans (hb.mono (hb0 _ _).size)
  clear C hb
  go_wp2_with fail
  go_ret
  exact ⟨rfl, hB⟩
end Go.Proofs.Ytobonkffbmemaaa

namespace Go.Proofs.Ytobonkffbmemaaa
open Go.RowKit

abbrev kH (h : ImH) : Int := h.X.id
abbrev gH (h : ImH) : Bool := h.X.gone
/-- The headers' cells. -/
def hcs (R : List ImH) : List Value := gcs (R.map hr)
theorem hcs_len (R : List ImH) : (hcs R).length = R.length * 3 := by unfold hcs; rw [gcs_len, List.length_map]
/-- A row of n headers that the call owns. -/
def ROwn (w : World) (B g n cap : Nat) (R : List ImH) : Prop := R.length = n ∧ w.ownsRow B 59 3 (.slice (some ⟨g, 0, none⟩) n cap) n (hcs R)
theorem ROwn.below {w w' : World} {B g n cap : Nat} {R : List ImH} (h : ROwn w B g n cap R) (hb : Below w.heap.size w w') : ROwn w' B g n cap R := ⟨h.1, rb_ownsRow_below h.2 hb⟩
theorem ROwn.drew {w : World} {B g n cap : Nat} {R : List ImH} (h : ROwn w B g n cap R) (q : Nat) : ROwn (w.drewN q) B g n cap R := h
theorem ROwn.lt {w : World} {B g n cap : Nat} {R : List ImH} (h : ROwn w B g n cap R) : B ≤ g ∧ g < w.heap.size := h.2.lt g rfl
theorem ROwn.cap_le {w : World} {B g n cap : Nat} {R : List ImH} (h : ROwn w B g n cap R) : n ≤ cap ∧ cap ≤ maxLen := by
  rcases h.2.2 with ⟨e, _⟩ | ⟨g', cap', cur, e, _, _, h1, h2, _⟩
  · cases e
  · cases e; exact ⟨h1, h2⟩
theorem ROwn.down {w : World} {B C g n cap : Nat} {R : List ImH} (h : ROwn w B g n cap R) (hC : C ≤ B) : ROwn w C g n cap R := by
  refine ⟨h.1, h.2.1, ?_⟩
  rcases h.2.2 with ⟨e, _⟩ | ⟨g', cap', cur, e, h0, r⟩
  · cases e
  · exact .inr ⟨g', cap', cur, e, Nat.le_trans hC h0, r⟩
theorem ROwn.gowns {w : World} {B g n cap : Nat} {R : List ImH} (h : ROwn w B g n cap R) : GOwns w B (.slice (some ⟨g, 0, none⟩) n cap) (R.map hr) := by
  unfold GOwns
  rw [List.length_map, h.1]
  exact h.2
theorem ROwn.at {w : World} {B g n cap : Nat} {R : List ImH} (h : ROwn w B g n cap R) (i : Nat) (hi : i < R.length) : w.cell? ⟨g, i * 3, none⟩ = some (.int .i64 R[i].X.id) ∧ w.cell? ⟨g, i * 3 + 1, none⟩ = some (.bool R[i].X.gone) ∧ w.cell? ⟨g, i * 3 + 2, none⟩ = some (.slice (some ⟨R[i].g, 0, none⟩) R[i].X.xs.length R[i].c) := by
  have := gowns_at h.gowns i (by simpa using hi)
  simpa [hr] using this
theorem hcs_take (R : List ImH) (k : Nat) : (hcs R).take (k * 3) = hcs (R.take k) := by
  by_cases h : k ≤ R.length
  · have e : hcs R = hcs (R.take k) ++ hcs (R.drop k) := by unfold hcs; rw [← gcs_append, ← List.map_append, List.take_append_drop]
    have hl : (hcs (R.take k)).length = k * 3 := by rw [hcs_len, List.length_take]; omega
    rw [e, ← hl, List.take_left]
  · rw [List.take_of_length_le (by rw [hcs_len]; omega), List.take_of_length_le (by omega)]
theorem hcs_drop (R : List ImH) (k : Nat) (h : k ≤ R.length) : (hcs R).drop (k * 3) = hcs (R.drop k) := by
  have e : hcs R = hcs (R.take k) ++ hcs (R.drop k) := by unfold hcs; rw [← gcs_append, ← List.map_append, List.take_append_drop]
  have hl : (hcs (R.take k)).length = k * 3 := by rw [hcs_len, List.length_take]; omega
  rw [e, ← hl, List.drop_left]
theorem ROwn.take {w : World} {B g n cap : Nat} {R : List ImH} (h : ROwn w B g n cap R) (k : Nat) (hk : k ≤ n) : ROwn w B g k cap (R.take k) := by
  have hl := h.1
  refine ⟨by rw [List.length_take]; omega, by rw [hcs_len, List.length_take]; omega, ?_⟩
  rcases h.2.2 with ⟨e, _⟩ | ⟨g', cap', cur, e, h0, h1, h2, h3, h4, h5⟩
  · cases e
  · cases e
    refine .inr ⟨g, cap, cur, rfl, h0, h1, by omega, h3, h4, ?_⟩
    rw [← hcs_take, ← h5, List.take_take, Nat.min_eq_left (by omega)]
/-- The headers from a place on, as a slice expression gives them. -/
theorem ROwn.src {w : World} {B g n cap : Nat} {R : List ImH} (h : ROwn w B g n cap R) (k : Nat) (hk : k ≤ n) : ∃ A : Addr, (if cap = k then some (⟨g, 0, none⟩ : Addr) else some ⟨g, k * 3, none⟩) = some A ∧ A.block = g ∧ Hid (∀ t u, (hcs (R.drop k))[t]? = some u → w.cell? (A.add t) = some u) := by
  have hc := h.cap_le
  have hl := h.1
  by_cases e : cap = k
  · refine ⟨⟨g, 0, none⟩, by simp [e], rfl, fun t u hu => ?_⟩
    rw [List.drop_of_length_le (by omega)] at hu
    simp [hcs, gcs] at hu
  · refine ⟨⟨g, k * 3, none⟩, by simp [e], rfl, fun t u hu => ?_⟩
    rw [Addr.add_lit, ← hcs_drop R k (by omega), List.getElem?_drop] at *
    have hlt := (List.getElem?_eq_some_iff.1 hu).1
    rw [hcs_len] at hlt
    rw [h.2.cellAt _ (by omega), hu]
theorem ROwn.src0 {w : World} {B g n cap : Nat} {R : List ImH} (h : ROwn w B g n cap R) : ∀ t u, (hcs R)[t]? = some u → w.cell? ((⟨g, 0, none⟩ : Addr).add t) = some u := h.2.cells rfl
theorem ROwn.kept {w w' : World} {B g n cap r : Nat} {R : List ImH} (h : ROwn w B g n cap R) (hg : w.grownBy w' (some r)) (hne : r ≠ g) : ROwn w' B g n cap R := ⟨h.1, h.2.kept hg (by simp [Value.ownBlock]; omega)⟩
/-- Headers appended. -/
theorem ROwn.app {w : World} {B g n cap : Nat} {R : List ImH} (h : ROwn w B g n cap R) (A : Addr) (m c : Nat) (C : List ImH) (hm : C.length = m) (hsrc : ∀ t u, (hcs C)[t]? = some u → w.cell? (A.add t) = some u) (hz : n + m ≤ 1000000) (hB : B ≤ w.heap.size) :
    ∃ g' cap' w', (Builtin.append_ #[94, 94] 94 #[.slice (some ⟨g, 0, none⟩) n cap, .slice (some A) m c]).run Try.prog w = .ok (.slice (some ⟨g', 0, none⟩) (n + m) cap') w' ∧ ROwn w' B g' (n + m) cap' (R ++ C) ∧ w.grownBy w' (some g) ∧ (g' = g ∨ g' = w.heap.size) := by
  obtain ⟨i0, hi0, hz0, hz1, hz2⟩ := info_parts infoIm
  obtain ⟨v', w', hrun, ho', hg, hn, hloc⟩ := app_at (P := Try.prog) (w := w) (B := B) 94 94 59 Try.underlying94 hi0 hz0 hz1 hz2 rfl (by decide) h.2 A m c (hcs C) (by rw [hcs_len, hm]) hsrc (gcs_one _) (by unfold maxLen; omega) (by omega) hB (fun e => by cases e)
  rcases ho'.2 with ⟨e, _⟩ | ⟨g', cap', cur, rfl, h0⟩
  · exact absurd e hn
  · have ho2 : ROwn w' B g' (n + m) cap' (R ++ C) := ⟨by rw [List.length_append, h.1, hm], by unfold hcs at ho' ⊢; rw [List.map_append, gcs_append]; exact ho'⟩
    refine ⟨g', cap', w', hrun, ho2, hg, ?_⟩
    rcases hloc with e | e
    · exact .inl (by simpa [Value.ownBlock] using e)
    · exact .inr (by simpa [Value.ownBlock] using e)
/-- One header as a literal lays it. -/
theorem one_src (w : World) (x : ImH) (o : Array Value) (ho : o = #[.int .i64 x.X.id, .bool x.X.gone, .slice (some ⟨x.g, 0, none⟩) x.X.xs.length x.c]) : ∀ t u, (hcs [x])[t]? = some u → (w.alloc (.cells o 59)).cell? ((⟨w.heap.size, 0, none⟩ : Addr).add t) = some u := fun t u hu => by
  have hj : t < 3 := by simpa [hcs, gcs] using (List.getElem?_eq_some_iff.1 hu).1
  rw [Addr.add_lit, Nat.zero_add, ho]
  refine rb_cell_new rfl ?_
  match t, hj with
  | 0, _ => simpa [hcs, gcs, hr] using hu
  | 1, _ => simpa [hcs, gcs, hr] using hu
  | 2, _ => simpa [hcs, gcs, hr] using hu
/-- The cells of headers stay where their block does. -/
theorem src_kept {w w' : World} {A : Addr} {C : List ImH} (h : ∀ t u, (hcs C)[t]? = some u → w.cell? (A.add t) = some u) (hk : w'.heap[A.block]? = w.heap[A.block]?) : ∀ t u, (hcs C)[t]? = some u → w'.cell? (A.add t) = some u := fun t u hu => by
  refine (World.cell?_of_block ?_).trans (h t u hu)
  have : (A.add t).block = A.block := by unfold Addr.add; split <;> rfl
  rw [this]
  exact hk

/-- The place of a key. -/
def posH (k : Int) : List ImH → Nat
  | [] => 0
  | y :: t => if y.X.id < k then posH k t + 1 else 0
theorem posH_le (k : Int) : ∀ R : List ImH, posH k R ≤ R.length
  | [] => Nat.le_refl _
  | y :: t => by
    unfold posH
    split
    · exact Nat.succ_le_succ (posH_le k t)
    · exact Nat.zero_le _
theorem posH_lt (k : Int) : ∀ (R : List ImH) (i : Nat) (hi : i < R.length), i < posH k R → R[i].X.id < k
  | [], _, hi, _ => absurd hi (Nat.not_lt_zero _)
  | y :: t, i, hi, h => by
    unfold posH at h
    split at h
    · cases i with
      | zero => assumption
      | succ i => exact posH_lt k t i (by simpa using hi) (by omega)
    · omega
theorem posH_at (k : Int) : ∀ (R : List ImH) (hi : posH k R < R.length), ¬ R[posH k R].X.id < k
  | [], hi => absurd hi (Nat.not_lt_zero _)
  | y :: t, hi => by
    by_cases h : y.X.id < k
    · have e : posH k (y :: t) = posH k t + 1 := by rw [posH, if_pos h]
      simp only [e, List.getElem_cons_succ]
      exact posH_at k t (by rw [e] at hi; simpa using hi)
    · have e : posH k (y :: t) = 0 := by rw [posH, if_neg h]
      simp only [e, List.getElem_cons_zero]
      exact h
theorem lat_take {k : Int} {R : List ImH} {p : Nat} (hp : p = posH k R) : ∀ a ∈ R.take p, kH a < k := fun a ha => by
  obtain ⟨i, hi, rfl⟩ := List.getElem_of_mem ha
  rw [List.length_take] at hi
  rw [List.getElem_take]
  exact posH_lt k R i (by omega) (by omega)
theorem lat_eq {hs R : List ImH} {i p : Nat} (hi : i < hs.length) (h : Lat kH gH (hs.take i) R) (hp : p = posH hs[i].X.id R) (hl : p < R.length) (he : R[p].X.id = hs[i].X.id) :
    Lat kH gH (hs.take (i + 1)) (R.take p ++ ((if hs[i].X.gone then [] else [hs[i]]) ++ R.drop (p + 1))) := by
  have e : R = R.take p ++ ([R[p]] ++ R.drop (p + 1)) := by
    rw [List.singleton_append, ← List.drop_eq_getElem_cons hl, List.take_append_drop]
  have h' := h
  rw [e] at h'
  rw [List.take_succ_eq_append_getElem hi]
  refine Lat.snoc h' (lat_take hp) (fun m hm => by obtain rfl := List.mem_singleton.1 hm; exact he) (fun c hc => ?_)
  have hu := h'.up
  rw [List.pairwise_append, List.pairwise_append] at hu
  have := hu.2.1.2.2 R[p] (by simp) c hc
  show hs[i].X.id < c.X.id
  rw [← he]
  exact this
theorem lat_ne {hs R : List ImH} {i p : Nat} (hi : i < hs.length) (h : Lat kH gH (hs.take i) R) (hp : p = posH hs[i].X.id R) (hne : ∀ hl : p < R.length, R[p].X.id ≠ hs[i].X.id) :
    Lat kH gH (hs.take (i + 1)) (R.take p ++ ((if hs[i].X.gone then [] else [hs[i]]) ++ R.drop p)) := by
  have h' := h
  rw [show R = R.take p ++ ([] ++ R.drop p) by simp] at h'
  rw [List.take_succ_eq_append_getElem hi]
  refine Lat.snoc h' (lat_take hp) (fun m hm => absurd hm (List.not_mem_nil)) (fun c hc => ?_)
  by_cases hl : p < R.length
  · have h1 : ¬ R[p].X.id < hs[i].X.id := by
      have := posH_at hs[i].X.id R (by rw [← hp]; exact hl)
      simp only [← hp] at this
      exact this
    have h2 := hne hl
    rw [List.drop_eq_getElem_cons hl] at hc
    rcases List.mem_cons.1 hc with rfl | hc
    · show hs[i].X.id < R[p].X.id
      omega
    · have hu := h.up
      rw [show R = R.take p ++ (R[p] :: R.drop (p + 1)) by rw [← List.drop_eq_getElem_cons hl, List.take_append_drop], List.pairwise_append, List.pairwise_cons] at hu
      have h3 : R[p].X.id < c.X.id := hu.2.1.1 c hc
      show hs[i].X.id < c.X.id
      omega
  · rw [List.drop_of_length_le (by omega)] at hc
    exact absurd hc (List.not_mem_nil)
end Go.Proofs.Ytobonkffbmemaaa

namespace Go.Proofs.Ytobonkffbmemaaa
open Go.RowKit

theorem xor_top_nat (x : Nat) (h : x < 18446744073709551616) : x ^^^ 9223372036854775808 = if x < 9223372036854775808 then x + 9223372036854775808 else x - 9223372036854775808 := by
  have hm : (x ^^^ 9223372036854775808) % 9223372036854775808 = x % 9223372036854775808 := by
    have := Nat.xor_mod_two_pow (a := x) (b := 9223372036854775808) (n := 63)
    simpa using this
  have hd : (x ^^^ 9223372036854775808) / 9223372036854775808 = x / 9223372036854775808 ^^^ 1 := by
    have := Nat.xor_div_two_pow (a := x) (b := 9223372036854775808) (n := 63)
    simpa using this
  have hs := Nat.div_add_mod (x ^^^ 9223372036854775808) 9223372036854775808
  by_cases hx : x < 9223372036854775808
  · rw [if_pos hx]
    have e : x / 9223372036854775808 = 0 := by omega
    rw [e] at hd
    have e1 : (0 ^^^ 1 : Nat) = 1 := rfl
    rw [e1] at hd
    omega
  · rw [if_neg hx]
    have e : x / 9223372036854775808 = 1 := by omega
    rw [e] at hd
    have e1 : (1 ^^^ 1 : Nat) = 0 := rfl
    rw [e1] at hd
    omega
theorem and_top_nat (x : Nat) (h : x < 18446744073709551616) : x &&& 9223372036854775808 = if x < 9223372036854775808 then 0 else 9223372036854775808 := by
  have := nat_bit 63 x
  have e : (2 : Nat) ^ 63 = 9223372036854775808 := rfl
  rw [e] at this
  rw [this]
  by_cases hx : x < 9223372036854775808
  · rw [if_pos hx, show x / 9223372036854775808 = 0 from by omega]
  · rw [if_neg hx, show x / 9223372036854775808 = 1 from by omega]
theorem or_top_nat (x : Nat) (h : x < 9223372036854775808) : x ||| 9223372036854775808 = x + 9223372036854775808 := by
  rw [Nat.or_comm, nat_join 63 9223372036854775808 x rfl h, Nat.add_comm]

theorem u64_xor_top (x : Nat) (h : x < 18446744073709551616) : bits .xor .u64 (x : Int) 9223372036854775808 = if x < 9223372036854775808 then (x : Int) + 9223372036854775808 else (x : Int) - 9223372036854775808 := by
  have := u64_xor_nat x 9223372036854775808 h (by omega)
  rw [show ((9223372036854775808 : Nat) : Int) = 9223372036854775808 from rfl] at this
  rw [this, xor_top_nat x h]
  split <;> omega
theorem u64_and_top (x : Nat) (h : x < 18446744073709551616) : bits .and .u64 (x : Int) 9223372036854775808 = if x < 9223372036854775808 then 0 else 9223372036854775808 := by
  have := u64_and_nat x 9223372036854775808 h (by omega)
  rw [show ((9223372036854775808 : Nat) : Int) = 9223372036854775808 from rfl] at this
  rw [this, and_top_nat x h]
  split <;> rfl
theorem u64_or_top (x : Nat) (h : x < 9223372036854775808) : bits .or .u64 (x : Int) 9223372036854775808 = (x : Int) + 9223372036854775808 := by
  have := u64_or_nat x 9223372036854775808 (by omega) (by omega)
  rw [show ((9223372036854775808 : Nat) : Int) = 9223372036854775808 from rfl] at this
  rw [this, or_top_nat x h]
  omega
theorem u64_not (x : Nat) (h : x < 18446744073709551616) : bits .xor .u64 IntKind.u64.max (x : Int) = 18446744073709551615 - (x : Int) := by
  show IntKind.u64.wrap ((BitVec.ofInt 64 IntKind.u64.max ^^^ BitVec.ofInt 64 (x : Int)).toNat : Int) = _
  have h1 : BitVec.ofInt 64 IntKind.u64.max = BitVec.allOnes 64 := by decide
  rw [h1, BitVec.allOnes_xor, BitVec.toNat_not, ofInt_u64 x (by omega), IntKind.wrap_u64]
  omega
theorem u64_andNot_top (x : Nat) (h : x < 18446744073709551616) (h1 : 9223372036854775808 ≤ x) : bits .andNot .u64 (x : Int) 9223372036854775808 = (x : Int) - 9223372036854775808 := by
  have := u64_andNot_nat x 9223372036854775808 h (by omega)
  rw [show ((9223372036854775808 : Nat) : Int) = 9223372036854775808 from rfl] at this
  rw [this]
  have e : (18446744073709551615 - 9223372036854775808 : Nat) = 2 ^ 63 - 1 := rfl
  rw [e, Nat.and_two_pow_sub_one_eq_mod]
  have e2 : (2 : Nat) ^ 63 = 9223372036854775808 := rfl
  rw [e2]
  omega
end Go.Proofs.Ytobonkffbmemaaa

namespace Go.Proofs.Ytobonkffbmemaaa
open Go.RowKit

theorem anyH_skip {P : Program} {ops : Array Oper} {Q : Exit → Act → World → Prop} {md : Region.Mode} {S : World → Prop} (i d : Nat) {oi : Oper} {fuel : Nat} {listed : Array Bool} {a : Act} {w : World} (hi : ops[i]? = some oi) (hd : oi.dst = some d)
    (hs : Region.noSelect ops = true) (hf : Region.free md ops listed i = true) (hr : (Region.ready md ops listed).contains i = true)
    (hQ : ∀ c a w, Q (.panic c) (a.put (some d) undef) w → Q (.panic c) a w) (hw : Region.wanted oi (yielded ops a.tmps) = false) (hS : S w)
    (h : wpAnyH P md ops Q S fuel (listed.setIfInBounds i true) (a.put (some d) undef) w) : wpAnyH P md ops Q S (fuel + 1) listed a w := by
  rw [← hd] at h hQ
  exact wpAnyH_take hi hs hf hr hQ (.inr ⟨hw, rfl⟩) hS h
theorem anyH_take {P : Program} {ops : Array Oper} {Q : Exit → Act → World → Prop} {md : Region.Mode} {S : World → Prop} (i d : Nat) {oi : Oper} {v : Value} {fuel : Nat} {listed : Array Bool} {a : Act} {w : World} (hi : ops[i]? = some oi) (hd : oi.dst = some d)
    (hs : Region.noSelect ops = true) (hf : Region.free md ops listed i = true) (hr : (Region.ready md ops listed).contains i = true)
    (hQ : ∀ c a w, Q (.panic c) (a.put (some d) v) w → Q (.panic c) a w) (hw : Region.wanted oi (yielded ops a.tmps) = true) (hy : ∀ w, S w → (execOp a.eval oi).run P w = .ok (.value v) w) (hS : S w)
    (h : wpAnyH P md ops Q S fuel (listed.setIfInBounds i true) (a.put (some d) v) w) : wpAnyH P md ops Q S (fuel + 1) listed a w := by
  rw [← hd] at h hQ
  exact wpAnyH_take hi hs hf hr hQ (.inl ⟨hw, hy⟩) hS h
end Go.Proofs.Ytobonkffbmemaaa

namespace Go.Proofs.Ytobonkffbmemaaa
open Go.RowKit

theorem sc_conv {w : World} {a : Option Addr} {n c : Nat} {xs : List Int} (h : Row w a n xs) : (convert 22 9 (.slice a n c)).run Try.prog w = .ok (.string (strOfNums xs)) w := by
  by_cases hn : 0 < n
  · obtain ⟨b, off, rfl, _⟩ := h.2 0 hn
    exact run_convert_bytes_arg _ 22 5 Try.underlying22 Try.underlying5 b off n c xs h.1 (fun i hi => by
      obtain ⟨b', off', e, hc⟩ := h.2 i hi
      cases e
      exact hc) 9 Try.underlying9
  · obtain rfl : n = 0 := by omega
    obtain rfl : xs = [] := List.eq_nil_of_length_eq_zero h.1
    cases a with
    | none => rw [run_convert_bytes_string (P := Try.prog) w 22 9 5 none 0 c Try.underlying22 Try.underlying5 Try.underlying9]; rfl
    | some x =>
      obtain ⟨b, off, spot⟩ := x
      rw [run_convert_bytes_string (P := Try.prog) w 22 9 5 (some ⟨b, off, spot⟩) 0 c Try.underlying22 Try.underlying5 Try.underlying9]; rfl
theorem sc_back {xs : List Int} (hb : Bytes8 xs) : (strOfNums xs).data.toList.map (fun b : UInt8 => (b.toNat : Int)) = xs := by
  rw [strOfNums_data, List.map_map]
  have : ∀ x ∈ xs, ((fun b : UInt8 => (b.toNat : Int)) ∘ fun n : Int => UInt8.ofNat n.toNat) x = x := fun x hx => by
    have := bytes8_mem.1 hb x hx
    simp
    omega
  rw [List.map_congr_left this, List.map_id']
theorem sc_strs {xs ys : List Int} (hx : Bytes8 xs) (hy : Bytes8 ys) : ((strOfNums xs).toList == (strOfNums ys).toList) = decide (xs = ys) := by
  by_cases h : xs = ys
  · subst h; simp
  · rw [decide_eq_false h]
    cases hq : ((strOfNums xs).toList == (strOfNums ys).toList) with
    | false => rfl
    | true =>
      refine absurd ?_ h
      have e : (strOfNums xs).toList = (strOfNums ys).toList := by simpa using hq
      rw [ByteArray.toList_eq, ByteArray.toList_eq] at e
      rw [← sc_back hx, ← sc_back hy, e]
set_option maxHeartbeats 1000000 in
theorem scEqual_any (a1 a2 : Option Addr) (n1 c1 n2 c2 : Nat) (xs ys : List Int) (w : World) (h1 : Row w a1 n1 xs) (h2 : Row w a2 n2 ys) (hx : Bytes8 xs) (hy : Bytes8 ys) :
    Calls Try.prog 117 #[.slice a1 n1 c1, .slice a2 n2 c2] w fun e w' => e = .returned (.bool (decide (xs = ys))) ∧ w' = w := by
  have v1 := sc_conv (c := c1) h1
  have v2 := sc_conv (c := c2) h2
  have E := hide (sc_strs hx hy)
  clear h1 h2 hx hy
  generalize strOfNums xs = s1 at *
  generalize strOfNums ys = s2 at *
  go_enter Try.func117, Try.ntmps117
  go_wp2_with fail
  first | (go_quiet (fail); go_wp2_with fail) | skip
  go_ret
  exact ⟨ret_bool (unhide E), rfl⟩
theorem sc_row_take {w : World} {a : Option Addr} {n m : Nat} {xs : List Int} (h : Row w a n xs) (hm : m ≤ n) : Row w a m (xs.take m) := by
  refine ⟨by rw [List.length_take, h.1]; omega, fun i hi => ?_⟩
  obtain ⟨b, off, e, c⟩ := h.2 i (by omega)
  refine ⟨b, off, e, c.trans ?_⟩
  simp [List.getD, hi]
theorem sc_row_drop {w : World} {b off n : Nat} {xs : List Int} (h : Row w (some ⟨b, off, none⟩) n xs) (m : Nat) : Row w (some ⟨b, off + m, none⟩) (n - m) (xs.drop m) := by
  refine ⟨by rw [List.length_drop, h.1], fun i hi => ?_⟩
  obtain ⟨b', off', e, c⟩ := h.2 (m + i) (by omega)
  cases e
  refine ⟨b, off + m, rfl, ?_⟩
  rw [show off + m + i = off + (m + i) by omega, c]
  simp [List.getD]
set_option maxRecDepth 100000 in
set_option maxHeartbeats 1000000 in
theorem hasPrefix_any (a1 a2 : Option Addr) (n1 c1 n2 c2 : Nat) (xs ys : List Int) (w : World) (h1 : Row w a1 n1 xs) (h2 : Row w a2 n2 ys) (hx : Bytes8 xs) (hy : Bytes8 ys) (hc : n1 ≤ c1) (hm : c1 ≤ maxLen) (ha : a1 = none → c1 = 0) :
    Calls Try.prog 113 #[.slice a1 n1 c1, .slice a2 n2 c2] w fun e w' => e = .returned (.bool (decide (xs.take n2 = ys))) ∧ w' = w := by
  unfold maxLen at hm
  by_cases hle : n2 ≤ n1
  · have g1 : (n2 : Int) ≤ (n1 : Int) := by omega
    have g2 : (n2 : Int) ≤ (c1 : Int) := by omega
    have EQ := hide (fun cc => scEqual_any a1 a2 n2 cc n2 c2 (xs.take n2) ys w (sc_row_take h1 hle) h2 (bytes8_drop (n := 0) hx n2) hy)
    clear h1 h2 hx hy
    generalize decide (xs.take n2 = ys) = r at *
    cases a1 with
    | none =>
      obtain rfl := ha rfl
      obtain rfl : n2 = 0 := by omega
      go_enter Try.func113, Try.ntmps113
      go_wp2_with fail
      refine (unhide EQ _).mono ?_
      rintro e w1 ⟨rfl, hw⟩
      subst w1
      go_wp2_with fail
      go_ret
      exact ⟨rfl, rfl⟩
    | some x =>
      go_enter Try.func113, Try.ntmps113
      go_wp2_with fail
      refine (unhide EQ _).mono ?_
      rintro e w1 ⟨rfl, hw⟩
      subst w1
      go_wp2_with fail
      go_ret
      exact ⟨rfl, rfl⟩
  · have g1 : ¬ (n2 : Int) ≤ (n1 : Int) := by omega
    have E := hide (show decide (xs.take n2 = ys) = false from decide_eq_false fun e => by
      have := congrArg List.length e
      rw [List.length_take, h1.1, h2.1] at this
      omega)
    clear h1 h2 hx hy
    go_enter Try.func113, Try.ntmps113
    go_wp2_with fail
    go_ret
    exact ⟨ret_bool (unhide E).symm, rfl⟩
/-- append([]byte{}, s...): the copy lies in a new block. -/
theorem sc_copy {w : World} {B b off n c : Nat} {xs : List Int} (ty : TypeId) (hr : Row w (some ⟨b, off, none⟩) n xs) (hn : n ≤ 1000000) (hB : B ≤ w.heap.size) :
    ∃ g cap w', (Builtin.append_ #[22, 22] ty #[.slice (some ⟨w.heap.size, 0, none⟩) 0 0, .slice (some ⟨b, off, none⟩) n c]).run Try.prog (w.alloc (.cells #[] 5)) = .ok (.slice (some ⟨g, 0, none⟩) n cap) w' ∧ Owns w' B (.slice (some ⟨g, 0, none⟩) n cap) xs ∧ w.heap.size ≤ g ∧ Below w.heap.size w w' := by
  obtain ⟨i0, hi0, hz0, hz1, hz2⟩ := info_parts Try.infoU8
  have bA : Below w.heap.size w (w.alloc (.cells #[] 5)) := (Below.refl _ _).alloc (Nat.le_refl _) _
  have hO : Owns (w.alloc (.cells #[] 5)) w.heap.size (.slice (some ⟨w.heap.size, 0, none⟩) 0 0) [] := World.ownsRow_lit _ _ _ (Nat.le_refl _) (by unfold maxLen; simp) rfl
  obtain rfl := hr.1
  have hs : ∀ j u, (xs.map (Value.int .u8))[j]? = some u → (w.alloc (.cells #[] 5)).cell? ((⟨b, off, none⟩ : Addr).add j) = some u := fun j u hu => by
    have hj : j < xs.length := by simpa using (List.getElem?_eq_some_iff.1 hu).1
    obtain ⟨b', off', e, hc⟩ := hr.2 j hj
    cases e
    have e2 : (⟨b, off, none⟩ : Addr).add j = ⟨b, off + j, none⟩ := by unfold Addr.add; split <;> simp_all
    rw [e2, bA.cell (p := ⟨b, off + j, none⟩) (cell_lt hc), hc]
    rw [List.getElem?_map] at hu
    rw [← hu]
    simp [List.getD, hj]
  obtain ⟨v', w', hrun, ho, hg, hv⟩ := run_append_own (P := Try.prog) (w.alloc (.cells #[] 5)) w.heap.size 22 ty 5 i0 (.int .u8 0) 1 1 Try.underlying22 hi0 hz0 hz1 hz2 rfl (by decide) _ _ _ hO ⟨b, off, none⟩ xs.length c (xs.map (Value.int .u8)) (by simp) hs (all_u8 _) (by unfold maxLen; simp; omega) (by simp; omega) bA.size
  have ho' : Owns w' w.heap.size v' xs := by
    have := ho
    simp only [List.length_nil, Nat.zero_add, List.map_nil, List.nil_append] at this
    exact this
  have hb' : Below w.heap.size w w' := bA.trans ((Below.refl _ _).grown hg bA.size (fun k hk => (hO.lt k hk).1))
  rcases ho'.2 with ⟨e, _⟩ | ⟨g, cap, cur, e, hbg, r⟩
  · exfalso
    have := (hv.1 e).1
    cases this
  · subst e
    refine ⟨g, cap, w', hrun, ⟨ho'.1, .inr ⟨g, cap, cur, rfl, Nat.le_trans hB hbg, r⟩⟩, hbg, hb'⟩
/-- The same, other blocks made between. -/
theorem sc_copy2 {w : World} {C q b off n c : Nat} {xs : List Int} (ty : TypeId) (hO : Owns w C (.slice (some ⟨q, 0, none⟩) 0 0) []) (hr : Row w (some ⟨b, off, none⟩) n xs) (hn : n ≤ 1000000) (hC : C ≤ w.heap.size) :
    ∃ g cap w', (Builtin.append_ #[22, 22] ty #[.slice (some ⟨q, 0, none⟩) 0 0, .slice (some ⟨b, off, none⟩) n c]).run Try.prog w = .ok (.slice (some ⟨g, 0, none⟩) n cap) w' ∧ Owns w' C (.slice (some ⟨g, 0, none⟩) n cap) xs ∧ (g = q ∨ g = w.heap.size) ∧ w.grownBy w' (some q) := by
  obtain ⟨i0, hi0, hz0, hz1, hz2⟩ := info_parts Try.infoU8
  obtain rfl := hr.1
  have hs : ∀ j u, (xs.map (Value.int .u8))[j]? = some u → w.cell? ((⟨b, off, none⟩ : Addr).add j) = some u := fun j u hu => by
    have hj : j < xs.length := by simpa using (List.getElem?_eq_some_iff.1 hu).1
    obtain ⟨b', off', e, hc⟩ := hr.2 j hj
    cases e
    have e2 : (⟨b, off, none⟩ : Addr).add j = ⟨b, off + j, none⟩ := by unfold Addr.add; split <;> simp_all
    rw [e2, hc]
    rw [List.getElem?_map] at hu
    rw [← hu]
    simp [List.getD, hj]
  obtain ⟨v', w', hrun, ho, hg, hv, hloc⟩ := app_at (P := Try.prog) (w := w) (B := C) 22 ty 5 Try.underlying22 hi0 hz0 hz1 hz2 rfl (by decide) hO ⟨b, off, none⟩ xs.length c (xs.map (Value.int .u8)) (by simp) hs (all_u8 _) (by unfold maxLen; simp; omega) (by simp; omega) hC (fun e => by cases e)
  have ho' : Owns w' C v' xs := by
    have := ho
    simp only [List.length_nil, Nat.zero_add, List.map_nil, List.nil_append] at this
    exact this
  rcases ho'.2 with ⟨e, _⟩ | ⟨g, cap, cur, e, hbg, r⟩
  · exact absurd e hv
  · subst e
    refine ⟨g, cap, w', hrun, ho', ?_, hg⟩
    simpa [Value.ownBlock] using hloc
theorem sc_wpApp {P : Program} {ops : Array Oper} {rest : List Oper} {o : Oper} {a : Act} {w : World} {Q : Exit → Act → World → Prop}
    (hg : o.guard = none) (s x : Operand) (t : TypeId) (hop : o.op = Op.call { callee := Callee.builtin Builtin.append, args := #[s, x], argTypes := #[t, t] })
    (vs vx v' : Value) (w' : World) (hs : a.eval s = vs) (hx : a.eval x = vx) (hrun : (Builtin.append_ #[t, t] o.type #[vs, vx]).run P w = .ok v' w') (h : wpList P ops Q rest (a.put o.dst v') w') :
    wpList P ops Q (o :: rest) a w :=
  wpList_plain hg fun _ hK => by
    unfold Oper.wp
    simp [execOp, hop, resolve, invoke, builtin, hs, hx, hrun, Result.andThen]
    exact hK _ _ h
theorem sc_stepApp {P : Program} {ops : Array Oper} {o : Oper} {a : Act} {w : World} {K : Act → World → Prop} {Q : Exit → Act → World → Prop} {E : Prop}
    (hg : o.guard = none) (s x : Operand) (t : TypeId) (hop : o.op = Op.call { callee := Callee.builtin Builtin.append, args := #[s, x], argTypes := #[t, t] })
    (vs vx v' : Value) (w' : World) (hs : a.eval s = vs) (hx : a.eval x = vx) (hrun : (Builtin.append_ #[t, t] o.type #[vs, vx]).run P w = .ok v' w') (hK : K (a.put o.dst v') w') :
    if Region.wanted o (yielded ops a.tmps) = true then Oper.wp P o a w K Q else E := by
  have hw : Region.wanted o (yielded ops a.tmps) = true := by simp [Region.wanted, hg]
  rw [if_pos hw]
  unfold Oper.wp
  simp [execOp, hop, resolve, invoke, builtin, hs, hx, hrun, Result.andThen]
  exact hK
theorem sc_eql_nil (w : World) (x : Addr) (n c : Nat) : (binOp .eql 22 (.slice (some x) n c) (.slice none 0 0)).run Try.prog w = .ok (.bool false) w := by
  have e0 : ∀ d, (Op.equalIn (d + 1) 22 (.slice (some x) n c) (.slice none 0 0)).run Try.prog w = .ok false w := fun d => by simp [Op.equalIn, run_underlying Try.underlying22]
  simp only [binOp]
  simp [show Op.equal 22 (.slice (some x) n c) (.slice none 0 0) = Op.equalIn (9999 + 1) 22 (.slice (some x) n c) (.slice none 0 0) from rfl, e0 9999]
set_option maxRecDepth 100000 in
set_option maxHeartbeats 1000000 in
theorem clone_any (b off n c : Nat) (xs : List Int) (w : World) (hr : Row w (some ⟨b, off, none⟩) n xs) (hn : n ≤ 1000000) :
    Calls Try.prog 83 #[.slice (some ⟨b, off, none⟩) n c] w fun e w' => ∃ g cap, e = .returned (.slice (some ⟨g, 0, none⟩) n cap) ∧ Owns w' w.heap.size (.slice (some ⟨g, 0, none⟩) n cap) xs ∧ Below w.heap.size w w' := by
  obtain ⟨g, cap, w', hrun, ho, _, hb⟩ := sc_copy (c := c) (B := w.heap.size) 22 hr hn (Nat.le_refl _)
  have Z := hide (And.intro ho hb)
  have hnil := sc_eql_nil w ⟨b, off, none⟩ n c
  clear ho hb hr
  go_enter Try.func83, Try.ntmps83
  go_wp2_with (at_builtin; refine sc_wpApp rfl (.tmp 5) (.tmp 6) 22 rfl _ _ _ w' rfl rfl hrun ?_)
  go_ret
  exact ⟨g, cap, rfl, (unhide Z).1, (unhide Z).2⟩
theorem sc_or_two (x y : Int) (hx : 0 ≤ x ∧ x ≤ 255) (hy : 0 ≤ y ∧ y ≤ 255) : bits .or .i64 (x * 256) y = x * 256 + y := by
  obtain ⟨a, rfl⟩ := Int.eq_ofNat_of_zero_le hx.1
  obtain ⟨b, rfl⟩ := Int.eq_ofNat_of_zero_le hy.1
  show IntKind.i64.wrap ((BitVec.ofInt 64 ((a : Int) * 256) ||| BitVec.ofInt 64 (b : Int)).toNat : Int) = _
  have e1 : (BitVec.ofInt 64 ((a : Int) * 256)).toNat = a * 256 := by rw [BitVec.toNat_ofInt]; omega
  have e2 : (BitVec.ofInt 64 (b : Int)).toNat = b := by rw [BitVec.toNat_ofInt]; omega
  rw [BitVec.toNat_or, e1, e2, nat_join 8 (a * 256) b (by omega) (by omega), IntKind.wrap_i64]
  omega
set_option maxHeartbeats 1000000 in
theorem scTwo_any (a : Option Addr) (n c at_ : Nat) (xs : List Int) (w : World) (h : Row w a n xs) (hb : Bytes8 xs) (hat : at_ + 1 < n) (hn : n ≤ 1000000000) :
    Calls Try.prog 112 #[.slice a n c, .int .i64 at_] w fun e w' => e = .returned (.int .i64 (xs.getD at_ 0 * 256 + xs.getD (at_ + 1) 0)) ∧ Below w.heap.size w w' := by
  obtain ⟨b, off, rfl, c0⟩ := h.2 at_ (by omega)
  obtain ⟨b', off', e, c1⟩ := h.2 (at_ + 1) (by omega)
  cases e
  have x0 := getD_bytes hb at_
  have x1 := getD_bytes hb (at_ + 1)
  have hor := sc_or_two _ _ x0 x1
  generalize xs.getD at_ 0 = u at *
  generalize xs.getD (at_ + 1) 0 = v at *
  have h0 : (0 : Int) ≤ (at_ : Int) := by omega
  have h1 : (at_ : Int) < (n : Int) := by omega
  have h2 : (at_ : Int) + 1 < (n : Int) := by omega
  have w1 : IntKind.i64.wrap ((at_ : Int) + 1) = (at_ : Int) + 1 := by rw [IntKind.wrap_i64]; omega
  have w2 : IntKind.i64.wrap u = u := by rw [IntKind.wrap_i64]; omega
  have w3 : IntKind.i64.wrap v = v := by rw [IntKind.wrap_i64]; omega
  have w4 : IntKind.i64.wrap (u * 256) = u * 256 := by rw [IntKind.wrap_i64]; omega
  have w5 : ((at_ : Int) + 1).toNat = at_ + 1 := by omega
  clear h hb
  go_enter Try.func112, Try.ntmps112
  go_wp2_with fail
  go_quiet (fail)
  go_wp2_with fail
  go_ret
  exact ⟨rfl, bel_drewN (Below.refl _ _) _⟩
end Go.Proofs.Ytobonkffbmemaaa

namespace Go.Proofs.Ytobonkffbmemaaa
open Go.RowKit

/-- What l03Latest hands back. -/
def LtRes (hs : List ImH) (w : World) (e : Ending) (w' : World) : Prop := ∃ g n cap R, e = .returned (.slice (some ⟨g, 0, none⟩) n cap) ∧ ROwn w' w.heap.size g n cap R ∧ Lat kH gH hs R ∧ Below w.heap.size w w' ∧ R.length ≤ hs.length
theorem lts_cells {w : World} {a : Option Addr} {n : Nat} {hs : List ImH} (hR : GRow w a n (hs.map hr)) (i : Nat) (hi : i < hs.length) : ∃ b off, a = some ⟨b, off, none⟩ ∧ b < w.heap.size ∧ w.cell? ⟨b, off + i * 3, none⟩ = some (.int .i64 hs[i].X.id) ∧ w.cell? ⟨b, off + i * 3 + 1, none⟩ = some (.bool hs[i].X.gone) ∧ w.cell? ⟨b, off + i * 3 + 2, none⟩ = some (.slice (some ⟨hs[i].g, 0, none⟩) hs[i].X.xs.length hs[i].c) := by
  obtain ⟨b, off, e, c0, c1, c2⟩ := hR.2 i (by simpa using hi)
  exact ⟨b, off, e, cell_lt c0, by simpa [hr] using c0, by simpa [hr] using c1, by simpa [hr] using c2⟩
set_option maxRecDepth 100000 in
set_option maxHeartbeats 8000000 in
theorem l03Latest_any (a : Option Addr) (n c : Nat) (hs : List ImH) (w : World) (hR : GRow w a n (hs.map hr)) (hn : n ≤ 100000) :
    Calls Try.prog 70 #[.slice a n c] w fun e w' => LtRes hs w e w' := by
  have LN := hide (show hs.length = n by simpa using hR.1)
  have RW := hide (fun u (hu : Below w.heap.size w u) => lts_cells (GRow.below hR hu))
  have H0 := hide (show ROwn (w.alloc (.cells #[] 59)) w.heap.size w.heap.size 0 0 [] from ⟨rfl, World.ownsRow_lit _ _ _ (Nat.le_refl _) (by unfold maxLen; simp) rfl⟩)
  have B0 := hide (show Below w.heap.size w (w.alloc (.cells #[] 59)) from (Below.refl _ _).alloc (Nat.le_refl _) _)
  clear hR
  go_enter Try.func70, Try.ntmps70
  go_wp2_with fail
  go_loopw [3, 4] (fun o ii wr => ∃ (i g m cap : Nat) (R : List ImH), o = .slice (some ⟨g, 0, none⟩) m cap ∧ ii = .int .i64 (i : Int) ∧ i ≤ n ∧ m ≤ i ∧ Hid (Lat kH gH (hs.take i) R) ∧ Hid (ROwn wr w.heap.size g m cap R) ∧ Hid (Below w.heap.size w wr)) (fun _ ii _ => n - (intOf ii).toNat)
  case atStart => exact ⟨0, w.heap.size, 0, 0, [], rfl, rfl, Nat.zero_le _, Nat.le_refl _, Lat.nil _ _, unhide H0, unhide B0⟩
  case round =>
    clear H0 B0
    obtain ⟨i, g, m, cap, R, rfl, rfl, hi, hm, hL, hO, hB⟩ := hrel
    by_cases hin : i < n
    · have hih : i < hs.length := by rw [unhide LN]; exact hin
      obtain ⟨b, off, ha, hbl, -, -, -⟩ := unhide RW wr (unhide hB) i hih
      have RX := hide (fun u (hu : Below w.heap.size w u) => show u.cell? ⟨b, off + i * 3, none⟩ = some (.int .i64 hs[i].X.id) ∧ u.cell? ⟨b, off + i * 3 + 1, none⟩ = some (.bool hs[i].X.gone) ∧ u.cell? ⟨b, off + i * 3 + 2, none⟩ = some (.slice (some ⟨hs[i].g, 0, none⟩) hs[i].X.xs.length hs[i].c) by
        obtain ⟨b', off', ha', _, h0, h1, h2⟩ := unhide RW u hu i hih
        rw [ha] at ha'
        injection ha' with ha'
        injection ha' with e1 e2
        subst e1 e2
        exact ⟨h0, h1, h2⟩)
      clear RW
      subst ha
      go_wp2_with fail
      go_loopw [5] (fun kk wq => ∃ (k : Nat), kk = .int .i64 (k : Int) ∧ k ≤ posH hs[i].X.id R ∧ Hid (ROwn wq w.heap.size g m cap R) ∧ Hid (Below w.heap.size w wq)) (fun kk _ => m - (intOf kk).toNat)
      case atStart => exact ⟨0, rfl, Nat.zero_le _, unhide hO, unhide hB⟩
      case round =>
        clear hO hB
        obtain ⟨k, rfl, hk, hQ, hQB⟩ := hrel
        have hmR := (unhide hQ).1
        have PL := posH_le hs[i].X.id R
        obtain ⟨x0, x1, x2⟩ := unhide RX _ (unhide hQB)
        by_cases hkp : k < posH hs[i].X.id R
        · have hkR : k < R.length := by omega
          have hkm : k < m := by omega
          have hlt := posH_lt hs[i].X.id R k hkR hkp
          obtain ⟨y0, -, -⟩ := (unhide hQ).at k hkR
          have hkp' := hide hkp
          clear hkp x1 x2 hmR PL
          generalize R[k].X.id = yv at *
          generalize hxv : hs[i].X.id = xv at *
          go_wp2_with fail
          go_quiet (fail)
          go_wp2_with fail
          go_roundw
          case rel => exact ⟨k + 1, by go_num, by have := unhide hkp'; omega, (unhide hQ).drew _, bel_drewN (unhide hQB) _⟩
          case measure => simp [intOf]; omega
        · obtain rfl : k = posH hs[i].X.id R := by omega
          have hnl := posH_at hs[i].X.id R
          have hpe : posH hs[i].X.id R = posH hs[i].X.id R := rfl
          generalize hp : posH hs[i].X.id R = p at hnl hpe hk hkp PL ⊢
          clear hpe
          by_cases hpm : p < m
          · have hpR : p < R.length := by omega
            have hnl := hnl hpR
            obtain ⟨y0, -, -⟩ := (unhide hQ).at p hpR
            have YV := hide (rfl : R[p].X.id = R[p].X.id)
            go_wp2_with fail
            go_quiet (fail)
            have OQ := hide ((unhide hQ).drew nq)
            have BQ := hide (bel_drewN (unhide hQB) nq)
            clear hQ hQB x0 x1 x2
            generalize wr.drewN nq = wq at *
            have hzq : w.heap.size ≤ wq.heap.size := (unhide BQ).size
            have hgq := (unhide OQ).lt
            have hcq := (unhide OQ).cap_le
            obtain ⟨A, hA, hAb, hsrc⟩ := (unhide OQ).src p (by omega)
            have DL := hide (show (R.drop p).length = m - p by rw [List.length_drop]; omega)
            have OL : ROwn (wq.alloc (.cells #[] 59)) wq.heap.size wq.heap.size 0 0 [] := ⟨rfl, World.ownsRow_lit _ _ _ (Nat.le_refl _) (by unfold maxLen; simp) rfl⟩
            obtain ⟨g6, cap6, w6, hrun6, O6, G6, L6⟩ := OL.app A (m - p) (cap - p) (R.drop p) (unhide DL) (src_kept (unhide hsrc) (Below.heap_alloc _ _ _ (by omega))) (by omega) (by simp)
            rw [Nat.zero_add] at hrun6 O6
            rw [List.nil_append] at O6
            have B6 := hide (((unhide BQ).alloc hzq (.cells #[] 59)).grown G6 (by simp; omega) (fun k hk => by injection hk with hk; omega))
            have OQ6 := hide (((unhide OQ).below ((Below.refl _ _).alloc (Nat.le_refl _) (.cells #[] 59))).kept G6 (by omega))
            have O6H := hide O6
            have hg6 := O6.lt
            have hgg : g ≠ g6 := by omega
            have hc6 := O6.cap_le
            obtain ⟨x0, x1, x2⟩ := unhide RX w6 (unhide B6)
            clear G6 L6 O6 OL OQ BQ hsrc
            go_upto_region 9 with (at_builtin; refine sc_wpApp rfl (.tmp 33) (.tmp 36) 94 rfl _ _ _ w6 rfl rfl hrun6 ?_)
            clear hA hrun6
            have y0 : w6.cell? ⟨g6, 0, none⟩ = some (.int .i64 R[p].X.id) := by
              have := ((unhide O6H).at 0 (by rw [unhide DL]; omega)).1
              simpa using this
            have hmp : 0 < m - p := by omega
            by_cases heq : R[p].X.id = hs[i].X.id
            · go_wp2_with fail
              go_quiet (fail)
              have O9 := hide ((unhide OQ6).drew nq)
              have O69 := hide ((unhide O6H).drew nq)
              have B9 := hide (bel_drewN (unhide B6) nq)
              have x0 : (w6.drewN nq).cell? ⟨b, off + i * 3, none⟩ = some (.int .i64 hs[i].X.id) := x0
              have x1 : (w6.drewN nq).cell? ⟨b, off + i * 3 + 1, none⟩ = some (.bool hs[i].X.gone) := x1
              have x2 : (w6.drewN nq).cell? ⟨b, off + i * 3 + 2, none⟩ = some (.slice (some ⟨hs[i].g, 0, none⟩) hs[i].X.xs.length hs[i].c) := x2
              have hg6 := (unhide O69).lt
              clear OQ6 O6H B6
              generalize w6.drewN nq = w9 at *
              obtain ⟨A1, hA1, hAb1, hsrc1⟩ := (unhide O69).src 1 (by omega)
              have S9 := hide (show ∀ t u, (hcs (R.drop (p + 1)))[t]? = some u → w9.cell? (A1.add t) = some u by have := unhide hsrc1; rwa [List.drop_drop] at this)
              clear hsrc1
              have O11 := (unhide O9).take p (by omega)
              have LT := hide (lat_eq hih (unhide hL) hp.symm hpR heq)
              have CL := hide (show (R.drop (p + 1)).length = (m - p - 1) by rw [List.length_drop]; omega)
              have hz9 : w.heap.size ≤ w9.heap.size := (unhide B9).size
              have hg9 := (unhide O9).lt
              cases hgone : hs[i].X.gone with
              | true =>
                have LT2 := hide (show Lat kH gH (hs.take (i + 1)) (R.take p ++ R.drop (p + 1)) by have := unhide LT; rw [hgone] at this; simpa using this)
                obtain ⟨g7, cap7, w7, hrun7, O7, G7, -⟩ := O11.app A1 (m - p - 1) (cap6 - 1) (R.drop (p + 1)) (unhide CL) (unhide S9) (by omega) hz9
                have B7 := hide ((unhide B9).grown G7 hz9 (fun k hk => by injection hk with hk; omega))
                have O7H := hide O7
                rw [hgone] at x1
                clear O7 G7 O11 O9 S9 B9 LT CL x0 x2
                go_wp2_with (at_builtin; refine sc_wpApp rfl (.tmp 71) (.tmp 72) 94 rfl _ _ _ w7 rfl rfl hrun7 ?_)
                go_roundw
                case rel => exact ⟨i + 1, g7, p + (m - p - 1), cap7, _, rfl, by go_num, by omega, by omega, unhide LT2, unhide O7H, unhide B7⟩
                case measure => simp [intOf]; omega
              | false =>
                have LT2 := hide (show Lat kH gH (hs.take (i + 1)) ((R.take p ++ [hs[i]]) ++ R.drop (p + 1)) by have := unhide LT; rw [hgone] at this; simpa using this)
                have hone := one_src w9 hs[i] #[.int .i64 hs[i].X.id, .bool hs[i].X.gone, .slice (some ⟨hs[i].g, 0, none⟩) hs[i].X.xs.length hs[i].c] rfl
                obtain ⟨g7, cap7, w7, hrun7, O7, G7, L7⟩ := (O11.below ((Below.refl _ _).alloc (Nat.le_refl _) (.cells #[.int .i64 hs[i].X.id, .bool hs[i].X.gone, .slice (some ⟨hs[i].g, 0, none⟩) hs[i].X.xs.length hs[i].c] 59))).app ⟨w9.heap.size, 0, none⟩ 1 1 [hs[i]] rfl hone (by omega) (by simp; omega)
                have B7 := ((unhide B9).alloc hz9 (.cells #[.int .i64 hs[i].X.id, .bool hs[i].X.gone, .slice (some ⟨hs[i].g, 0, none⟩) hs[i].X.xs.length hs[i].c] 59)).grown G7 (by simp; omega) (fun k hk => by injection hk with hk; omega)
                have S7 := src_kept (unhide S9) (w' := w7) ((G7.block _ (by simp; omega) (fun e => by injection e with e; omega)).trans (Below.heap_alloc _ _ _ (by omega)))
                have hz7 : w.heap.size ≤ w7.heap.size := B7.size
                obtain ⟨g8, cap8, w8, hrun8, O8, G8, -⟩ := O7.app A1 (m - p - 1) (cap6 - 1) (R.drop (p + 1)) (unhide CL) S7 (by omega) hz7
                have B8 := hide (B7.grown G8 hz7 (fun k hk => by injection hk with hk; have := O7.lt; omega))
                have O8H := hide O8
                rw [hgone] at x1 hrun7
                clear O8 G8 O7 G7 L7 B7 S7 O11 O9 S9 B9 LT CL hone
                go_wp2_with (at_builtin; first | refine sc_wpApp rfl (.tmp 64) (.tmp 69) 94 rfl _ _ _ w7 rfl rfl hrun7 ?_ | refine sc_wpApp rfl (.tmp 71) (.tmp 72) 94 rfl _ _ _ w8 rfl rfl hrun8 ?_)
                go_roundw
                case rel => exact ⟨i + 1, g8, p + 1 + (m - p - 1), cap8, _, rfl, by go_num, by omega, by omega, unhide LT2, unhide O8H, unhide B8⟩
                case measure => simp [intOf]; omega
            · go_wp2_with fail
              go_quiet (fail)
              have O9 := hide ((unhide OQ6).drew nq)
              have O69 := hide ((unhide O6H).drew nq)
              have B9 := hide (bel_drewN (unhide B6) nq)
              have x0 : (w6.drewN nq).cell? ⟨b, off + i * 3, none⟩ = some (.int .i64 hs[i].X.id) := x0
              have x1 : (w6.drewN nq).cell? ⟨b, off + i * 3 + 1, none⟩ = some (.bool hs[i].X.gone) := x1
              have x2 : (w6.drewN nq).cell? ⟨b, off + i * 3 + 2, none⟩ = some (.slice (some ⟨hs[i].g, 0, none⟩) hs[i].X.xs.length hs[i].c) := x2
              have hg6 := (unhide O69).lt
              clear OQ6 O6H B6
              generalize w6.drewN nq = w9 at *
              have S9 := hide (unhide O69).src0
              have hAb1 : (⟨g6, 0, none⟩ : Addr).block = g6 := rfl
              have O11 := (unhide O9).take p (by omega)
              have LT := hide (lat_ne hih (unhide hL) hp.symm (fun _ => heq))
              have CL := hide (show (R.drop p).length = (m - p) by rw [List.length_drop]; omega)
              have hz9 : w.heap.size ≤ w9.heap.size := (unhide B9).size
              have hg9 := (unhide O9).lt
              cases hgone : hs[i].X.gone with
              | true =>
                have LT2 := hide (show Lat kH gH (hs.take (i + 1)) (R.take p ++ R.drop p) by have := unhide LT; rw [hgone] at this; simpa using this)
                obtain ⟨g7, cap7, w7, hrun7, O7, G7, -⟩ := O11.app ⟨g6, 0, none⟩ (m - p) cap6 (R.drop p) (unhide CL) (unhide S9) (by omega) hz9
                have B7 := hide ((unhide B9).grown G7 hz9 (fun k hk => by injection hk with hk; omega))
                have O7H := hide O7
                rw [hgone] at x1
                clear O7 G7 O11 O9 S9 B9 LT CL x0 x2
                go_wp2_with (at_builtin; refine sc_wpApp rfl (.tmp 71) (.tmp 72) 94 rfl _ _ _ w7 rfl rfl hrun7 ?_)
                go_roundw
                case rel => exact ⟨i + 1, g7, p + (m - p), cap7, _, rfl, by go_num, by omega, by omega, unhide LT2, unhide O7H, unhide B7⟩
                case measure => simp [intOf]; omega
              | false =>
                have LT2 := hide (show Lat kH gH (hs.take (i + 1)) ((R.take p ++ [hs[i]]) ++ R.drop p) by have := unhide LT; rw [hgone] at this; simpa using this)
                have hone := one_src w9 hs[i] #[.int .i64 hs[i].X.id, .bool hs[i].X.gone, .slice (some ⟨hs[i].g, 0, none⟩) hs[i].X.xs.length hs[i].c] rfl
                obtain ⟨g7, cap7, w7, hrun7, O7, G7, L7⟩ := (O11.below ((Below.refl _ _).alloc (Nat.le_refl _) (.cells #[.int .i64 hs[i].X.id, .bool hs[i].X.gone, .slice (some ⟨hs[i].g, 0, none⟩) hs[i].X.xs.length hs[i].c] 59))).app ⟨w9.heap.size, 0, none⟩ 1 1 [hs[i]] rfl hone (by omega) (by simp; omega)
                have B7 := ((unhide B9).alloc hz9 (.cells #[.int .i64 hs[i].X.id, .bool hs[i].X.gone, .slice (some ⟨hs[i].g, 0, none⟩) hs[i].X.xs.length hs[i].c] 59)).grown G7 (by simp; omega) (fun k hk => by injection hk with hk; omega)
                have S7 := src_kept (unhide S9) (w' := w7) ((G7.block _ (by simp; omega) (fun e => by injection e with e; omega)).trans (Below.heap_alloc _ _ _ (by omega)))
                have hz7 : w.heap.size ≤ w7.heap.size := B7.size
                obtain ⟨g8, cap8, w8, hrun8, O8, G8, -⟩ := O7.app ⟨g6, 0, none⟩ (m - p) cap6 (R.drop p) (unhide CL) S7 (by omega) hz7
                have B8 := hide (B7.grown G8 hz7 (fun k hk => by injection hk with hk; have := O7.lt; omega))
                have O8H := hide O8
                rw [hgone] at x1 hrun7
                clear O8 G8 O7 G7 L7 B7 S7 O11 O9 S9 B9 LT CL hone
                go_wp2_with (at_builtin; first | refine sc_wpApp rfl (.tmp 64) (.tmp 69) 94 rfl _ _ _ w7 rfl rfl hrun7 ?_ | refine sc_wpApp rfl (.tmp 71) (.tmp 72) 94 rfl _ _ _ w8 rfl rfl hrun8 ?_)
                go_roundw
                case rel => exact ⟨i + 1, g8, p + 1 + (m - p), cap8, _, rfl, by go_num, by omega, by omega, unhide LT2, unhide O8H, unhide B8⟩
                case measure => simp [intOf]; omega
          · obtain rfl : p = m := by omega
            go_wp2_with fail
            go_quiet (fail)
            have OQ := hide ((unhide hQ).drew nq)
            have BQ := hide (bel_drewN (unhide hQB) nq)
            clear hQ hQB x0 x1 x2
            generalize wr.drewN nq = wq at *
            have hzq : w.heap.size ≤ wq.heap.size := (unhide BQ).size
            have hgq := (unhide OQ).lt
            have hcq := (unhide OQ).cap_le
            obtain ⟨A, hA, hAb, hsrc⟩ := (unhide OQ).src p (by omega)
            have DL := hide (show (R.drop p).length = 0 by rw [List.length_drop]; omega)
            have OL : ROwn (wq.alloc (.cells #[] 59)) wq.heap.size wq.heap.size 0 0 [] := ⟨rfl, World.ownsRow_lit _ _ _ (Nat.le_refl _) (by unfold maxLen; simp) rfl⟩
            obtain ⟨g6, cap6, w6, hrun6, O6, G6, L6⟩ := OL.app A 0 (cap - p) (R.drop p) (unhide DL) (src_kept (unhide hsrc) (Below.heap_alloc _ _ _ (by omega))) (by omega) (by simp)
            rw [Nat.zero_add] at hrun6 O6
            rw [List.nil_append] at O6
            have B6 := hide (((unhide BQ).alloc hzq (.cells #[] 59)).grown G6 (by simp; omega) (fun k hk => by injection hk with hk; omega))
            have OQ6 := hide (((unhide OQ).below ((Below.refl _ _).alloc (Nat.le_refl _) (.cells #[] 59))).kept G6 (by omega))
            have O6H := hide O6
            have hg6 := O6.lt
            have hgg : g ≠ g6 := by omega
            have hc6 := O6.cap_le
            obtain ⟨x0, x1, x2⟩ := unhide RX w6 (unhide B6)
            clear G6 L6 O6 OL OQ BQ hsrc
            go_upto_region 9 with (at_builtin; refine sc_wpApp rfl (.tmp 33) (.tmp 36) 94 rfl _ _ _ w6 rfl rfl hrun6 ?_)
            clear hA hrun6
            go_wp2_with fail
            go_quiet (fail)
            have O9 := hide ((unhide OQ6).drew nq)
            have O69 := hide ((unhide O6H).drew nq)
            have B9 := hide (bel_drewN (unhide B6) nq)
            have x0 : (w6.drewN nq).cell? ⟨b, off + i * 3, none⟩ = some (.int .i64 hs[i].X.id) := x0
            have x1 : (w6.drewN nq).cell? ⟨b, off + i * 3 + 1, none⟩ = some (.bool hs[i].X.gone) := x1
            have x2 : (w6.drewN nq).cell? ⟨b, off + i * 3 + 2, none⟩ = some (.slice (some ⟨hs[i].g, 0, none⟩) hs[i].X.xs.length hs[i].c) := x2
            have hg6 := (unhide O69).lt
            clear OQ6 O6H B6
            generalize w6.drewN nq = w9 at *
            have S9 := hide (unhide O69).src0
            have hAb1 : (⟨g6, 0, none⟩ : Addr).block = g6 := rfl
            have O11 := (unhide O9).take p (by omega)
            have LT := hide (lat_ne hih (unhide hL) hp.symm (fun hl => by omega))
            have CL := hide (show (R.drop p).length = 0 by rw [List.length_drop]; omega)
            have hz9 : w.heap.size ≤ w9.heap.size := (unhide B9).size
            have hg9 := (unhide O9).lt
            cases hgone : hs[i].X.gone with
            | true =>
              have LT2 := hide (show Lat kH gH (hs.take (i + 1)) (R.take p ++ R.drop p) by have := unhide LT; rw [hgone] at this; simpa using this)
              obtain ⟨g7, cap7, w7, hrun7, O7, G7, -⟩ := O11.app ⟨g6, 0, none⟩ 0 cap6 (R.drop p) (unhide CL) (unhide S9) (by omega) hz9
              have B7 := hide ((unhide B9).grown G7 hz9 (fun k hk => by injection hk with hk; omega))
              have O7H := hide O7
              rw [hgone] at x1
              clear O7 G7 O11 O9 S9 B9 LT CL x0 x2
              go_wp2_with (at_builtin; refine sc_wpApp rfl (.tmp 71) (.tmp 72) 94 rfl _ _ _ w7 rfl rfl hrun7 ?_)
              go_roundw
              case rel => exact ⟨i + 1, g7, p + 0, cap7, _, rfl, by go_num, by omega, by omega, unhide LT2, unhide O7H, unhide B7⟩
              case measure => simp [intOf]; omega
            | false =>
              have LT2 := hide (show Lat kH gH (hs.take (i + 1)) ((R.take p ++ [hs[i]]) ++ R.drop p) by have := unhide LT; rw [hgone] at this; simpa using this)
              have hone := one_src w9 hs[i] #[.int .i64 hs[i].X.id, .bool hs[i].X.gone, .slice (some ⟨hs[i].g, 0, none⟩) hs[i].X.xs.length hs[i].c] rfl
              obtain ⟨g7, cap7, w7, hrun7, O7, G7, L7⟩ := (O11.below ((Below.refl _ _).alloc (Nat.le_refl _) (.cells #[.int .i64 hs[i].X.id, .bool hs[i].X.gone, .slice (some ⟨hs[i].g, 0, none⟩) hs[i].X.xs.length hs[i].c] 59))).app ⟨w9.heap.size, 0, none⟩ 1 1 [hs[i]] rfl hone (by omega) (by simp; omega)
              have B7 := ((unhide B9).alloc hz9 (.cells #[.int .i64 hs[i].X.id, .bool hs[i].X.gone, .slice (some ⟨hs[i].g, 0, none⟩) hs[i].X.xs.length hs[i].c] 59)).grown G7 (by simp; omega) (fun k hk => by injection hk with hk; omega)
              have S7 := src_kept (unhide S9) (w' := w7) ((G7.block _ (by simp; omega) (fun e => by injection e with e; omega)).trans (Below.heap_alloc _ _ _ (by omega)))
              have hz7 : w.heap.size ≤ w7.heap.size := B7.size
              obtain ⟨g8, cap8, w8, hrun8, O8, G8, -⟩ := O7.app ⟨g6, 0, none⟩ 0 cap6 (R.drop p) (unhide CL) S7 (by omega) hz7
              have B8 := hide (B7.grown G8 hz7 (fun k hk => by injection hk with hk; have := O7.lt; omega))
              have O8H := hide O8
              rw [hgone] at x1 hrun7
              clear O8 G8 O7 G7 L7 B7 S7 O11 O9 S9 B9 LT CL hone
              go_wp2_with (at_builtin; first | refine sc_wpApp rfl (.tmp 64) (.tmp 69) 94 rfl _ _ _ w7 rfl rfl hrun7 ?_ | refine sc_wpApp rfl (.tmp 71) (.tmp 72) 94 rfl _ _ _ w8 rfl rfl hrun8 ?_)
              go_roundw
              case rel => exact ⟨i + 1, g8, p + 1 + 0, cap8, _, rfl, by go_num, by omega, by omega, unhide LT2, unhide O8H, unhide B8⟩
              case measure => simp [intOf]; omega
    · have e : i = n := by omega
      have HS := hide (show hs.take i = hs by rw [List.take_of_length_le (by rw [unhide LN]; omega)])
      go_wp2_with fail
      go_ret
      exact ⟨g, m, cap, R, rfl, unhide hO, (by have := unhide hL; rwa [unhide HS] at this), unhide hB, by have := (unhide hO).1; have := unhide LN; omega⟩
end Go.Proofs.Ytobonkffbmemaaa
