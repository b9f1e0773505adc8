/-
  MarkB, HeldB, RowR, QwO, QwM, CrashS, CrashF, Flash0, CrashI, RnF, IntO, ZaC, RnB, RnI, WriteC, WriteS, RnK, Fits, RnS in one.
-/
import Derived.Test.YtjhmammoakiknaaMark
import Derived.Test.YtjhmammoakiknaaRowB
import Derived.Test.YtjhmammoakiknaaBytes
import Derived.Test.YtjhmammoakiknaaQhC
import Derived.Test.YtjhmammoakiknaaAppL
import Derived.Test.YtjhmammoakiknaaSec
import Derived.Test.YtjhmammoakiknaaWrT
import Derived.Deep.RegionWith
import Derived.Test.YtjhmammoakiknaaCrashL
import Derived.Test.YtjhmammoakiknaaBRow
import Derived.Test.YtjhmammoakiknaaLitA
import Derived.Test.YtjhmammoakiknaaImplOK
import Derived.Test.YtjhmammoakiknaaDevC
import Derived.Test.YtjhmammoakiknaaDevD
import Derived.Test.YtjhmammoakiknaaCrash
import Derived.Test.YtjhmammoakiknaaScB
import Derived.Test.YtjhmammoakiknaaTakes
import Derived.Deep.DeepCutAuto
import Derived.Test.YtjhmammoakiknaaOwn
import Derived.Test.YtjhmammoakiknaaSlT
import Derived.Test.YtjhmammoakiknaaRnA
import Derived.Test.YtjhmammoakiknaaKept
import Derived.Test.YtjhmammoakiknaaDevP
import Derived.Test.YtjhmammoakiknaaWriteL
import Derived.Test.YtjhmammoakiknaaDevW
import Derived.Laws.AppendOwnNone
import Derived.Deep.RegionLaw
import Derived.Deep.WholeRow
import Derived.Test.YtjhmammoakiknaaRnL
import Derived.Laws.CopyOwn
namespace Go.Proofs.Ytjhmammoakiknaa
open Go.RowKit

theorem markByteS_any (a : Option Addr) (n c : Nat) (xs : List Int) (k0 : Int) (w : World) (hn : n ≤ 4611686018427387904) (hk : 0 ≤ k0) (hk2 : k0 ≤ 4000000000000000000) (h1 : Row w a n xs) (h2 : ∀ x, a = some x → ∀ j, w.frozen? ⟨x.block, j, none⟩ = false) :
    Calls Try.prog 37 #[.slice a n c, .int .i64 k0] w fun e w' => e = .returned (.int .i64 (k0 + n)) ∧ Row w' a n (marks k0 n) ∧ Touch a w w' := by
  by_cases h0 : n = 0
  · subst h0
    refine (markByteS_none a c k0 w).mono ?_
    rintro e w' ⟨rfl, rfl⟩
    exact ⟨ret_int (by simp), ⟨rfl, fun i hi => absurd hi (Nat.not_lt_zero _)⟩, .inl rfl⟩
  · obtain ⟨b, off, rfl, _⟩ := h1.2 0 (by omega)
    refine (markByteS_some b off n c xs k0 w hn hk hk2 (fun i hi => ?_) (fun i hi => h2 _ rfl _)).mono ?_
    · obtain ⟨b', off', e, h⟩ := h1.2 i hi
      cases e
      exact h
    · rintro e w' ⟨rfl, hr, ho⟩
      exact ⟨rfl, hr, .inr ⟨_, rfl, ho⟩⟩
end Go.Proofs.Ytjhmammoakiknaa

namespace Go.Proofs.Ytjhmammoakiknaa
open Go.RowKit

set_option maxHeartbeats 400000 in
theorem heldByteS_any (a : Option Addr) (n c : Nat) (k0 : Int) (w : World) (hn : n ≤ 4611686018427387904) (hk : 0 ≤ k0) (hk2 : k0 ≤ 4000000000000000000) (h1 : Row w a n (marks k0 n)) :
    Calls Try.prog 40 #[.slice a n c, .int .i64 k0] w fun e w' => e = .returned (.int .i64 (k0 + n)) ∧ w' = w := by
  have H1 := hide h1.2
  clear h1
  go_enter Try.func40, Try.ntmps40
  go_wp2_with fail
  go_loop [1, 5] (fun q i => ∃ k : Nat, k ≤ n ∧ i = .int .i64 k ∧ q = .int .i64 (k0 + k)) (fun _ i => n - (intOf i).toNat)
  case atStart => exact ⟨0, Nat.zero_le _, rfl, by simp⟩
  case round =>
    obtain ⟨k, hk, rfl, rfl⟩ := hrel
    by_cases hlt : k < n
    · obtain ⟨b, off, rfl, e1⟩ := unhide H1 k hlt
      rw [marks_getD _ _ _ hlt] at e1
      go_wp2_with fail
      go_round
      case rel => exact ⟨k + 1, by omega, by go_num, by go_num⟩
      case measure => simp [intOf]; omega
    · obtain rfl : k = n := by omega
      go_wp2_with fail
      go_ret
      exact ⟨rfl, rfl⟩
end Go.Proofs.Ytjhmammoakiknaa

namespace Go.Proofs.Ytjhmammoakiknaa
open Go.RowKit

/-- Blocks of which P does not hold stay. -/
structure WrB (P : Nat → Prop) (w w' : World) : Prop where
  os : w'.os = w.os
  tape : w'.tape = w.tape
  output : w'.output = w.output
  size : w.heap.size ≤ w'.heap.size
  block : ∀ k, k < w.heap.size → ¬ P k → w'.heap[k]? = w.heap[k]?
theorem WrB.of_grown {w w' : World} {r : Option Nat} (h : w.grownBy w' r) : WrB (fun i => r = some i) w w' :=
  ⟨h.os, h.tape, h.output, h.size, fun k hk hp => h.block k hk (fun e => hp e.symm)⟩
theorem WrB.of_touch {a : Option Addr} {w w' : World} (h : Touch a w w') : WrB (fun i => ∃ x, a = some x ∧ i = x.block) w w' := by
  rcases h with rfl | ⟨x, hx, ho⟩
  · exact ⟨rfl, rfl, rfl, Nat.le_refl _, fun _ _ _ => rfl⟩
  · exact ⟨ho.os, ho.tape, ho.output, Nat.le_of_eq ho.size.symm, fun k _ hk => ho.block k (fun e => hk ⟨x, hx, e⟩)⟩
theorem WrB.below {P : Nat → Prop} {w w' : World} {B : Nat} (h : WrB P w w') (hB : ∀ i, P i → B ≤ i) (hs : B ≤ w.heap.size) : Below B w w' :=
  ⟨h.os, h.tape, h.output, h.size, fun k hk => h.block k (by omega) (fun hp => by have := hB k hp; omega)⟩
theorem rr_owns_wr {P : Nat → Prop} {w w' : World} {B e s n : Nat} {v : Value} {vs : List Value} (h : w.ownsRow B e s v n vs) (hw : WrB P w w') (hp : ∀ i, v.ownBlock = some i → ¬ P i) : w'.ownsRow B e s v n vs := by
  have hlt := fun i hi => (h.lt i hi).2
  obtain ⟨hl, h⟩ := h
  refine ⟨hl, ?_⟩
  rcases h with h | ⟨g, cap, cur, e, hb, hh, r⟩
  · exact .inl h
  · subst e
    exact .inr ⟨g, cap, cur, rfl, hb, (hw.block g (hlt g rfl) (hp g rfl)).trans hh, r⟩
theorem rr_eqBytes (a1 a2 : Option Addr) (n c1 c2 : Nat) (xs : List Int) (w : World) (hn : n ≤ maxLen) (h1 : Row w a1 n xs) (h2 : Row w a2 n xs) :
    Calls Try.prog 34 #[.slice a1 n c1, .slice a2 n c2] w fun e w' => e = .returned (.bool true) ∧ Below w.heap.size w w' := by
  refine (eqByteS_any a1 a2 n n c1 c2 xs xs w hn hn h1 h2).mono ?_
  rintro e w' ⟨rfl, k, rfl⟩
  exact ⟨ret_bool (by simp), bel_drewN (Below.refl _ _) _⟩
/-- A row of bytes of one's own. -/
structure BR (w : World) (B : Nat) (a : Option Addr) (n : Nat) (xs : List Int) : Prop where
  row : Row w a n xs
  own : ∀ x, a = some x → B ≤ x.block ∧ x.block < w.heap.size ∧ ∀ j, w.frozen? ⟨x.block, j, none⟩ = false
theorem BR.own' {w : World} {B n : Nat} {a : Option Addr} {xs : List Int} (h : BR w B a n xs) (x : Addr) (hx : a = some x) : B ≤ x.block ∧ x.block < w.heap.size := ⟨(h.own x hx).1, (h.own x hx).2.1⟩
theorem BR.of_blocks {w w' : World} {B n : Nat} {a : Option Addr} {xs : List Int} (h : BR w B a n xs) (hs : w.heap.size ≤ w'.heap.size) (hb : ∀ x, a = some x → w'.heap[x.block]? = w.heap[x.block]?) : BR w' B a n xs :=
  ⟨h.row.of_cells fun x hx p hp => World.cell?_of_block (w := w) (by rw [hp]; exact hb x hx), fun x hx => ⟨(h.own x hx).1, Nat.lt_of_lt_of_le (h.own x hx).2.1 hs, fun j => (show w'.frozen? ⟨x.block, j, none⟩ = w.frozen? ⟨x.block, j, none⟩ from World.frozen?_of_block (w := w) (hb x hx)).trans ((h.own x hx).2.2 j)⟩⟩
theorem BR.below {w w' : World} {B n : Nat} {a : Option Addr} {xs : List Int} (h : BR w B a n xs) (hb : Below w.heap.size w w') : BR w' B a n xs :=
  h.of_blocks hb.size (fun x hx => hb.block _ (h.own x hx).2.1)
theorem BR.wr {P : Nat → Prop} {w w' : World} {B n : Nat} {a : Option Addr} {xs : List Int} (h : BR w B a n xs) (hw : WrB P w w') (hp : ∀ x, a = some x → ¬ P x.block) : BR w' B a n xs :=
  h.of_blocks hw.size (fun x hx => hw.block x.block (h.own x hx).2.1 (hp x hx))
theorem BR.marked {w w' : World} {B n : Nat} {a : Option Addr} {xs ys : List Int} (h : BR w B a n xs) (hr : Row w' a n ys) (ht : Touch a w w') : BR w' B a n ys := by
  refine ⟨hr, fun x hx => ?_⟩
  rcases ht with rfl | ⟨y, _, ho⟩
  · exact h.own x hx
  · exact ⟨(h.own x hx).1, by rw [ho.size]; exact (h.own x hx).2.1, fun j => (ho.frozen _).trans ((h.own x hx).2.2 j)⟩
theorem br_of_owns {w : World} {B : Nat} {v : Value} {xs : List Int} (h : Owns w B v xs) : ∃ a c, v = .slice a xs.length c ∧ BR w B a xs.length xs := by
  obtain ⟨a, c, e, _, _, h3, h4⟩ := mine_of_owns h
  exact ⟨a, c, e, h3, h4⟩
end Go.Proofs.Ytjhmammoakiknaa

namespace Go.Proofs.Ytjhmammoakiknaa
open Go.RowKit

/-- An write and where its bytes lie. -/
structure WqH where
  X : WD
  g : Nat
  c : Nat
def qh (h : WqH) : QwR := ⟨h.X.at_, ⟨some ⟨h.g, 0, none⟩, h.X.xs.length, h.c⟩⟩
/-- Its bytes. -/
abbrev qDat (w : World) (B : Nat) (h : WqH) : Prop := BR w B (some ⟨h.g, 0, none⟩) h.X.xs.length h.X.xs
/-- A slice of writes that the call owns from block B on: no two share memory. -/
structure QwOwn (w : World) (B : Nat) (v : Value) (hs : List WqH) : Prop where
  row : QOwns w B v (hs.map qh)
  dat : ∀ i (hi : i < hs.length), qDat w B hs[i]
  far : ∀ i j (hi : i < hs.length) (hj : j < hs.length), i ≠ j → hs[i].g ≠ hs[j].g
  off : ∀ i (hi : i < hs.length), v.ownBlock ≠ some hs[i].g
  cap : ∀ h ∈ hs, h.X.xs.length ≤ h.c
theorem QwOwn.below {w w' : World} {B : Nat} {v : Value} {hs : List WqH} (h : QwOwn w B v hs) (hb : Below w.heap.size w w') : QwOwn w' B v hs :=
  ⟨rb_ownsRow_below h.row hb, fun i hi => (h.dat i hi).below hb, h.far, h.off, h.cap⟩
theorem QwOwn.down {w : World} {B C : Nat} {v : Value} {hs : List WqH} (h : QwOwn w B v hs) (hc : C ≤ B) : QwOwn w C v hs := by
  refine ⟨⟨h.row.1, ?_⟩, fun i hi => ⟨(h.dat i hi).row, fun x hx => ⟨Nat.le_trans hc ((h.dat i hi).own x hx).1, ((h.dat i hi).own x hx).2⟩⟩, h.far, h.off, h.cap⟩
  rcases h.row.2 with h | ⟨g, cap, cur, e, hb, r⟩
  · exact .inl h
  · exact .inr ⟨g, cap, cur, e, Nat.le_trans hc hb, r⟩
theorem QwOwn.nil (w : World) (B : Nat) : QwOwn w B (.slice none 0 0) [] :=
  ⟨World.ownsRow_nil _ _ _ _, fun _ hi => absurd hi (Nat.not_lt_zero _), fun _ _ hi => absurd hi (Nat.not_lt_zero _), fun _ hi => absurd hi (Nat.not_lt_zero _), fun _ h => by cases h⟩
theorem QwOwn.lit {w : World} {B : Nat} (hB : B ≤ w.heap.size) : QwOwn (w.alloc (.cells #[] 87)) B (.slice (some ⟨w.heap.size, 0, none⟩) 0 0) [] :=
  ⟨World.ownsRow_lit _ _ _ hB (by unfold maxLen; simp) rfl, fun _ hi => absurd hi (Nat.not_lt_zero _), fun _ _ hi => absurd hi (Nat.not_lt_zero _), fun _ hi => absurd hi (Nat.not_lt_zero _), fun _ h => by cases h⟩
theorem infoQw : (Try.prog.info? 87).map (fun i => (i.zero, i.size, i.bytes)) = some (some (.agg #[.int .i64 0, .slice none 0 0]), 2, 32) := by kernel_rfl
theorem qDat.lt {w : World} {B : Nat} {h : WqH} (hd : qDat w B h) : B ≤ h.g ∧ h.g < w.heap.size := ⟨(hd.own _ rfl).1, (hd.own _ rfl).2.1⟩
/-- An write appended: its bytes lie apart. -/
theorem qw_app {w : World} {B : Nat} {v : Value} {hs : List WqH} {h : WqH} (ho : QwOwn w B v hs) (hd : qDat w B h) (hf : ∀ i (hi : i < hs.length), hs[i].g ≠ h.g) (hv : v.ownBlock ≠ some h.g) (hc : h.X.xs.length ≤ h.c) (hz : hs.length ≤ 1000000) (hB : B ≤ w.heap.size) :
    ∃ v' w', (Builtin.append_ #[26, 26] 26 #[v, .slice (some ⟨w.heap.size, 0, none⟩) 1 1]).run Try.prog (w.alloc (.cells #[.int .i64 h.X.at_, .slice (some ⟨h.g, 0, none⟩) h.X.xs.length h.c] 87)) = .ok v' w' ∧ QwOwn w' B v' (hs ++ [h]) ∧ (w.alloc (.cells #[.int .i64 h.X.at_, .slice (some ⟨h.g, 0, none⟩) h.X.xs.length h.c] 87)).grownBy w' v.ownBlock ∧ v' ≠ .slice none 0 0 := by
  obtain ⟨i0, hi0, hz0, hz1, hz2⟩ := info_parts infoQw
  obtain ⟨W, hW⟩ : ∃ W, W = w.alloc (.cells #[.int .i64 h.X.at_, .slice (some ⟨h.g, 0, none⟩) h.X.xs.length h.c] 87) := ⟨_, rfl⟩
  have bA : Below w.heap.size w W := by rw [hW]; exact (Below.refl _ _).alloc (Nat.le_refl _) _
  have zW : W.heap.size = w.heap.size + 1 := by rw [hW]; simp
  have hcells : ∀ j u, (qcs [qh h])[j]? = some u → W.cell? ((⟨w.heap.size, 0, none⟩ : Addr).add j) = some u := fun j u hu => by
    have hj : j < 2 := by simpa [qcs] using (List.getElem?_eq_some_iff.1 hu).1
    have e2 : (⟨w.heap.size, 0, none⟩ : Addr).add j = ⟨w.heap.size, j, none⟩ := by unfold Addr.add; split <;> simp_all
    rw [e2, hW]
    refine rb_cell_new rfl ?_
    match j, hj with
    | 0, _ => simpa [qcs, qh] using hu
    | 1, _ => simpa [qcs, qh] using hu
  have hoa := ho.below bA
  rw [← hW]
  have hl : (hs.map qh).length ≤ 1000000 := by simpa using hz
  obtain ⟨v', w', hrun, ho', hg, hn, hloc⟩ := app_at (P := Try.prog) (w := W) (B := B) 26 26 87 Try.underlying26 hi0 hz0 hz1 hz2 rfl (by decide) hoa.row ⟨w.heap.size, 0, none⟩ 1 1 (qcs [qh h]) (by simp [qcs]) hcells (qcs_one _) (by unfold maxLen; omega) (by omega) (by omega) (fun _ => by omega)
  refine ⟨v', w', hrun, ?_, hg, hn⟩
  have keep : ∀ k, k < w.heap.size → v.ownBlock ≠ some k → w'.heap[k]? = w.heap[k]? := fun k hk hne => (hg.block k (by omega) (fun e => hne e.symm)).trans (bA.block k hk)
  have sz : w.heap.size ≤ w'.heap.size := Nat.le_trans bA.size hg.size
  refine ⟨?_, fun i hi => ?_, fun i j hi hj hij => ?_, fun i hi => ?_, fun x hx => ?_⟩
  · unfold QOwns
    rw [List.map_append, List.length_append, qcs_append]
    exact ho'
  · by_cases e : i < hs.length
    · rw [List.getElem_append_left e]
      exact (ho.dat i e).of_blocks sz (fun x hx => by cases hx; exact keep _ (qDat.lt (ho.dat i e)).2 (ho.off i e))
    · have : i = hs.length := by simp at hi; omega
      subst this
      rw [List.getElem_append_right (Nat.le_refl _)]
      simp only [Nat.sub_self, List.getElem_cons_zero]
      exact hd.of_blocks sz (fun x hx => by cases hx; exact keep _ (qDat.lt hd).2 hv)
  · have key : ∀ k (hk : k < (hs ++ [h]).length), (∃ hk' : k < hs.length, (hs ++ [h])[k] = hs[k]) ∨ (k = hs.length ∧ (hs ++ [h])[k] = h) := fun k hk => by
      by_cases e : k < hs.length
      · exact .inl ⟨e, List.getElem_append_left e⟩
      · have : k = hs.length := by simp at hk; omega
        subst this
        exact .inr ⟨rfl, by rw [List.getElem_append_right (Nat.le_refl _)]; simp⟩
    rcases key i hi with ⟨h1, e1⟩ | ⟨h1, e1⟩ <;> rcases key j hj with ⟨h2, e2⟩ | ⟨h2, e2⟩ <;> rw [e1, e2]
    · exact ho.far i j h1 h2 hij
    · exact hf i h1
    · exact (hf j h2).symm
    · omega
  · have hlt : ∀ x, x ∈ hs ++ [h] → x.g < w.heap.size ∧ v.ownBlock ≠ some x.g := fun x hx => by
      rcases List.mem_append.1 hx with hx | hx
      · obtain ⟨k, hk, rfl⟩ := List.getElem_of_mem hx
        exact ⟨(qDat.lt (ho.dat k hk)).2, ho.off k hk⟩
      · obtain rfl := List.mem_singleton.1 hx
        exact ⟨(qDat.lt hd).2, hv⟩
    have hx := hlt _ (List.getElem_mem hi)
    rcases hloc with e | e
    · rw [e]; exact hx.2
    · rw [e]
      intro e'
      injection e' with e'
      omega
  · rcases List.mem_append.1 hx with hx | hx
    · exact ho.cap x hx
    · obtain rfl := List.mem_singleton.1 hx
      exact hc
theorem qw_row {w : World} {B n c : Nat} {a : Option Addr} {hs : List WqH} (h : QwOwn w B (.slice a n c) hs) : QRow w a n (hs.map qh) := qrow_of_owns h.row
theorem qw_slice {w : World} {B : Nat} {v : Value} {hs : List WqH} (h : QwOwn w B v hs) : ∃ a c, v = .slice a hs.length c := by
  rcases h.row.2 with ⟨rfl, hn⟩ | ⟨g, cap, cur, rfl, _⟩
  · exact ⟨none, 0, by simp at hn; rw [hn]; rfl⟩
  · exact ⟨_, _, by rw [List.length_map]⟩
theorem qw_grow {w w' : World} {a : Option Addr} {n : Nat} {xs : List Int} (h : Row w a n xs) (hb : Below w.heap.size w w') : Row w' a n xs := by
  refine ⟨h.1, fun i hi => ?_⟩
  obtain ⟨b, off, e, hc⟩ := h.2 i hi
  exact ⟨b, off, e, (hb.cell (p := ⟨b, off + i, none⟩) (cell_lt hc)).trans hc⟩
end Go.Proofs.Ytjhmammoakiknaa

namespace Go.Proofs.Ytjhmammoakiknaa
open Go.RowKit

/-- The next mark behind writes. -/
def kQ (k : Nat) : List WqH → Nat
  | [] => k
  | h :: r => kQ (k + 1 + h.X.xs.length) r
def mkQ (k : Nat) (h : WqH) : WqH := ⟨⟨(k : Int), marks ((k + 1 : Nat) : Int) h.X.xs.length⟩, h.g, h.c⟩
/-- Images, marked. -/
def markQ (k : Nat) : List WqH → List WqH
  | [] => []
  | h :: r => mkQ k h :: markQ (k + 1 + h.X.xs.length) r
theorem kQ_snoc : ∀ (k : Nat) (hs : List WqH) (h : WqH), kQ k (hs ++ [h]) = kQ k hs + 1 + h.X.xs.length
  | k, [], h => rfl
  | k, x :: r, h => by simp only [List.cons_append, kQ]; exact kQ_snoc _ r h
theorem markQ_snoc : ∀ (k : Nat) (hs : List WqH) (h : WqH), markQ k (hs ++ [h]) = markQ k hs ++ [mkQ (kQ k hs) h]
  | k, [], h => rfl
  | k, x :: r, h => by simp only [List.cons_append, markQ, kQ]; rw [markQ_snoc _ r h]
theorem markQ_len : ∀ (k : Nat) (hs : List WqH), (markQ k hs).length = hs.length
  | k, [] => rfl
  | k, x :: r => by simp only [markQ, List.length_cons]; rw [markQ_len _ r]
theorem kQ_mono : ∀ (k : Nat) (hs : List WqH), k ≤ kQ k hs
  | k, [] => Nat.le_refl _
  | k, x :: r => Nat.le_trans (by omega) (kQ_mono _ r)
theorem kQ_take (k : Nat) (hs : List WqH) (j : Nat) : kQ k (hs.take j) ≤ kQ k hs := by
  induction hs generalizing k j with
  | nil => simp [kQ]
  | cons x r ih =>
    cases j with
    | zero => exact kQ_mono _ _
    | succ j => exact ih _ j
theorem kQ_sum : ∀ (k : Nat) (hs : List WqH), kQ k hs = k + (hs.map fun h => h.X.xs.length + 1).sum
  | k, [] => rfl
  | k, x :: r => by simp only [kQ, List.map_cons, List.sum_cons]; rw [kQ_sum _ r]; omega
theorem kQ_len : ∀ (k : Nat) (hs : List WqH), hs.length ≤ kQ k hs
  | k, [] => Nat.zero_le _
  | k, x :: r => by
    have h1 := kQ_len (k + 1 + x.X.xs.length) r
    have h2 : r.length + 1 ≤ kQ (k + 1 + x.X.xs.length) r := by
      have := kQ_sum (k + 1 + x.X.xs.length) r
      have h3 : ∀ l : List WqH, l.length ≤ (l.map fun h => h.X.xs.length + 1).sum := fun l => by
        induction l with
        | nil => simp
        | cons y r ih => simp only [List.map_cons, List.sum_cons, List.length_cons]; omega
      have := h3 r
      omega
    simpa [kQ] using h2
/-- The first j marked, the others as they were. -/
def halfQ (k : Nat) (hs : List WqH) (j : Nat) : List WqH := markQ k (hs.take j) ++ hs.drop j
theorem halfQ_len (k : Nat) (hs : List WqH) (j : Nat) (hj : j ≤ hs.length) : (halfQ k hs j).length = hs.length := by
  unfold halfQ
  rw [List.length_append, markQ_len, List.length_take, List.length_drop]
  omega
theorem halfQ_at {k : Nat} {hs : List WqH} {j : Nat} (hj : j < hs.length) : ∃ h : j < (halfQ k hs j).length, (halfQ k hs j)[j] = hs[j] := by
  refine ⟨by rw [halfQ_len _ _ _ (by omega)]; exact hj, ?_⟩
  unfold halfQ
  rw [List.getElem_append_right (by rw [markQ_len, List.length_take]; omega)]
  simp only [markQ_len, List.length_take, List.getElem_drop]
  congr 1
  omega
theorem halfQ_step {k : Nat} {hs : List WqH} {j : Nat} (hj : j < hs.length) : halfQ k hs (j + 1) = (halfQ k hs j).set j (mkQ (kQ k (hs.take j)) hs[j]) := by
  unfold halfQ
  rw [rb_take_snoc hs j hj, markQ_snoc, List.set_append_right _ _ (by rw [markQ_len, List.length_take]; omega), markQ_len, List.length_take, show j - min j hs.length = 0 by omega, List.drop_eq_getElem_cons hj, List.set_cons_zero, List.append_assoc, List.singleton_append]
/-- The header cell of a write set anew. -/
theorem qcs_set2 (ds : List QwR) (i : Nat) (hi : i < ds.length) (id : Int) : (qcs ds).set (i * 2) (.int .i64 id) = qcs (ds.set i ⟨id, ds[i].d⟩) := by
  rw [qcs_set]
  simp only
  symm
  apply List.ext_getElem?
  intro m
  by_cases e : m = i * 2 + 1
  · subst e
    rw [List.getElem?_set_self (by simp [qcs_len]; omega), List.getElem?_set_ne (by omega)]
    exact (qcs_at ds i hi).2.symm
  · rw [List.getElem?_set_ne (by omega)]
/-- One write marked: its header, its bytes. -/
theorem QwOwn.mark {w w1 w2 : World} {B g n c : Nat} {hs : List WqH} (h : QwOwn w B (.slice (some ⟨g, 0, none⟩) n c) hs) {j k : Nat} (hj : j < hs.length) (he : w1 = w.setCell ⟨g, j * 2, none⟩ (.int .i64 (k : Int)))
    (hm : Row w2 (some ⟨hs[j].g, 0, none⟩) hs[j].X.xs.length (marks ((k + 1 : Nat) : Int) hs[j].X.xs.length)) (ht : Touch (some ⟨hs[j].g, 0, none⟩) w1 w2) :
    QwOwn w2 B (.slice (some ⟨g, 0, none⟩) n c) (hs.set j (mkQ k hs[j])) ∧ WrB (fun i => i = g ∨ i = hs[j].g) w w2 := by
  have hn : n = (hs.map qh).length := (qrow_of_owns h.row).1.symm
  have hgl : g < w.heap.size := (h.row.lt g rfl).2
  have hne : ∀ i (hi : i < hs.length), hs[i].g ≠ g := fun i hi e => h.off i hi (by rw [e]; rfl)
  have only1 : Only g w w1 := by rw [he]; exact Only.setCell _ _ _ _
  have sz2 : w2.heap.size = w.heap.size := by rw [ht.size, only1.size]
  have keep2 : ∀ i, i ≠ hs[j].g → w2.heap[i]? = w1.heap[i]? := fun i hi => by
    rcases ht with rfl | ⟨x, hx, ho⟩
    · rfl
    · cases hx
      exact ho.block i hi
  have r1 : QOwns w1 B (.slice (some ⟨g, 0, none⟩) n c) ((hs.map qh).set j ⟨(k : Int), (qh hs[j]).d⟩) := by
    have hr0 : w.ownsRow B 87 2 (.slice (some ⟨g, 0, none⟩) n c) n (qcs (hs.map qh)) := by have := h.row; unfold QOwns at this; rwa [← hn] at this
    obtain ⟨o2, _⟩ := World.ownsRow.stored hr0 (j * 2) (.int .i64 (k : Int))
    rw [qcs_set2 _ j (by simpa using hj), ← he] at o2
    unfold QOwns
    rw [List.length_set, ← hn]
    simpa using o2
  refine ⟨⟨?_, fun i hi => ?_, fun i i' hi hi' hii => ?_, fun i hi => ?_, fun x hx => ?_⟩, ⟨?_, ?_, ?_, Nat.le_of_eq sz2.symm, fun i hi hp => ?_⟩⟩
  · have e : (hs.set j (mkQ k hs[j])).map qh = (hs.map qh).set j ⟨(k : Int), (qh hs[j]).d⟩ := by
      rw [List.map_set]
      congr 1
      unfold qh mkQ
      simp only [marks_length]
    rw [e]
    exact ownsRow_heap r1 (fun i hi => by
      have : i = g := by simpa [Value.ownBlock] using hi.symm
      subst this
      exact keep2 _ (fun e => hne j hj e.symm))
  · have hi' : i < hs.length := by simpa using hi
    by_cases e : i = j
    · subst e
      rw [List.getElem_set_self]
      unfold qDat mkQ
      simp only [marks_length]
      refine ⟨hm, fun x hx => ?_⟩
      cases hx
      obtain ⟨p1, p2, p3⟩ := (h.dat i hi').own _ rfl
      refine ⟨p1, by rw [sz2]; exact p2, fun q => ?_⟩
      rcases ht with rfl | ⟨y, _, ho⟩
      · exact (only1.frozen _).trans (p3 q)
      · exact (ho.frozen _).trans ((only1.frozen _).trans (p3 q))
    · rw [List.getElem_set_ne (fun e' => e e'.symm)]
      exact (h.dat i hi').of_blocks (Nat.le_of_eq sz2.symm) (fun x hx => by
        cases hx
        exact (keep2 _ (h.far i j hi' hj e)).trans (only1.block _ (hne i hi')))
  · have gg : ∀ q (hq : q < (hs.set j (mkQ k hs[j])).length), (hs.set j (mkQ k hs[j]))[q].g = (hs[q]'(by simpa using hq)).g := fun q hq => by
      by_cases e : q = j
      · subst e; rw [List.getElem_set_self]; rfl
      · rw [List.getElem_set_ne (fun e' => e e'.symm)]
    rw [gg, gg]
    exact h.far i i' (by simpa using hi) (by simpa using hi') hii
  · have gg : (hs.set j (mkQ k hs[j]))[i].g = (hs[i]'(by simpa using hi)).g := by
      by_cases e : i = j
      · subst e; rw [List.getElem_set_self]; rfl
      · rw [List.getElem_set_ne (fun e' => e e'.symm)]
    rw [gg]
    exact h.off i (by simpa using hi)
  · rcases List.mem_or_eq_of_mem_set hx with hx | rfl
    · exact h.cap x hx
    · show (marks _ _).length ≤ _
      rw [marks_length]
      exact h.cap _ (List.getElem_mem hj)
  · rcases ht with rfl | ⟨y, _, ho⟩
    · exact only1.os
    · exact ho.os.trans only1.os
  · rcases ht with rfl | ⟨y, _, ho⟩
    · exact only1.tape
    · exact ho.tape.trans only1.tape
  · rcases ht with rfl | ⟨y, _, ho⟩
    · exact only1.output
    · exact ho.output.trans only1.output
  · exact (keep2 i (fun e => hp (.inr e))).trans (only1.block i (fun e => hp (.inl e)))
/-- The blocks of writes. -/
def QwBl (v : Value) (hs : List WqH) (i : Nat) : Prop := v.ownBlock = some i ∨ ∃ h ∈ hs, i = h.g
theorem WrB.trans2q {P : Nat → Prop} {w1 w2 w3 : World} (h : WrB P w1 w2) (k : WrB P w2 w3) : WrB P w1 w3 :=
  ⟨k.os.trans h.os, k.tape.trans h.tape, k.output.trans h.output, Nat.le_trans h.size k.size, fun i hi hp => (k.block i (Nat.lt_of_lt_of_le hi h.size) hp).trans (h.block i hi hp)⟩
theorem WrB.mono2q {P Q : Nat → Prop} {w w' : World} (h : WrB P w w') (hpq : ∀ i, P i → Q i) : WrB Q w w' := ⟨h.os, h.tape, h.output, h.size, fun k hk hq => h.block k hk (fun hp => hq (hpq k hp))⟩
theorem WrB.refl2q (P : Nat → Prop) (w : World) : WrB P w w := ⟨rfl, rfl, rfl, Nat.le_refl _, fun _ _ _ => rfl⟩
set_option maxRecDepth 100000 in
set_option maxHeartbeats 4000000 in
theorem markWriteS_some (B g n c k0 : Nat) (hs : List WqH) (w : World) (hk0 : kQ k0 hs ≤ 100000000) (h1 : QwOwn w B (.slice (some ⟨g, 0, none⟩) n c) hs) :
    Calls Try.prog 39 #[.slice (some ⟨g, 0, none⟩) n c, .int .i64 (k0 : Int)] w fun e w' => e = .returned (.int .i64 ((kQ k0 hs : Nat) : Int)) ∧ QwOwn w' B (.slice (some ⟨g, 0, none⟩) n c) (markQ k0 hs) ∧ WrB (QwBl (.slice (some ⟨g, 0, none⟩) n c) hs) w w' := by
  have L := hide (show hs.length = n by have := (qw_row h1).1; simpa using this)
  have H := hide h1
  have KT := hide (fun j => Nat.le_trans (kQ_take k0 hs j) hk0)
  have hnb : n ≤ 100000000 := by rw [← unhide L]; exact Nat.le_trans (kQ_len k0 hs) hk0
  clear h1
  go_enter Try.func39, Try.ntmps39
  go_wp2_with fail
  go_loopw [1, 5] (fun q i wr => ∃ j : Nat, j ≤ n ∧ i = .int .i64 j ∧ q = .int .i64 ((kQ k0 (hs.take j) : Nat) : Int) ∧ Hid (QwOwn wr B (.slice (some ⟨g, 0, none⟩) n c) (halfQ k0 hs j)) ∧ Hid (WrB (QwBl (.slice (some ⟨g, 0, none⟩) n c) hs) w wr)) (fun _ i _ => n - (intOf i).toNat)
  case atStart => exact ⟨0, Nat.zero_le _, rfl, by simp [kQ], unhide H, WrB.refl2q _ _⟩
  case round =>
    clear H
    obtain ⟨j, hj, rfl, rfl, hI, hw⟩ := hrel
    by_cases hlt : j < n
    · have hjl : j < hs.length := by rw [unhide L]; exact hlt
      obtain ⟨hjh, hat⟩ := halfQ_at (k := k0) hjl
      have hkk : kQ k0 (hs.take (j + 1)) = kQ k0 (hs.take j) + 1 + hs[j].X.xs.length := by rw [rb_take_snoc hs j hjl, kQ_snoc]
      have hkb := unhide KT (j + 1)
      have ST := hide (halfQ_step (k := k0) hjl)
      have hmem := List.getElem_mem hjl
      have d0 := qowns_at (unhide hI).row j (by simpa using hjh)
      have f0 := qowns_fz (unhide hI).row (j * 2)
      simp only [List.getElem_map, hat] at d0
      obtain ⟨c0, c1⟩ := d0
      have DAT := hide (by have := (unhide hI).dat j hjh; rw [hat] at this; exact this : qDat wr B hs[j])
      have NEG : hs[j].g ≠ g := fun e => (unhide hI).off j hjh (by rw [hat, e]; rfl)
      have MK := hide (fun (w1 w2 : World) (he : w1 = wr.setCell ⟨g, j * 2, none⟩ (.int .i64 (kQ k0 (hs.take j) : Int))) (hm : Row w2 (some ⟨hs[j].g, 0, none⟩) hs[j].X.xs.length (marks ((kQ k0 (hs.take j) + 1 : Nat) : Int) hs[j].X.xs.length)) (ht : Touch (some ⟨hs[j].g, 0, none⟩) w1 w2) =>
        show QwOwn w2 B (.slice (some ⟨g, 0, none⟩) n c) (halfQ k0 hs (j + 1)) ∧ WrB (QwBl (.slice (some ⟨g, 0, none⟩) n c) hs) w w2 from by
          have hm' : Row w2 (some ⟨(halfQ k0 hs j)[j].g, 0, none⟩) (halfQ k0 hs j)[j].X.xs.length (marks ((kQ k0 (hs.take j) + 1 : Nat) : Int) (halfQ k0 hs j)[j].X.xs.length) := by rw [hat]; exact hm
          have ht' : Touch (some ⟨(halfQ k0 hs j)[j].g, 0, none⟩) w1 w2 := by rw [hat]; exact ht
          obtain ⟨a1, a2⟩ := (unhide hI).mark hjh he hm' ht'
          rw [unhide ST]
          rw [hat] at a1 a2
          exact ⟨a1, (unhide hw).trans2q (a2.mono2q fun i hi => by
            rcases hi with rfl | rfl
            · exact .inl rfl
            · exact .inr ⟨_, hmem, rfl⟩)⟩)
      rw [hkk] at hkb
      have HKK := hide hkk
      clear hI hw ST hat hjh hmem hkk
      unfold qh at c0 c1
      simp only at c0 c1
      generalize hkq : kQ k0 (hs.take j) = kq at *
      have MB := hide (fun (w1 : World) (he : w1 = wr.setCell ⟨g, j * 2, none⟩ (.int .i64 (kq : Int))) => markByteS_any (some ⟨hs[j].g, 0, none⟩) hs[j].X.xs.length hs[j].c hs[j].X.xs ((kq : Int) + 1) w1 (by omega) (by omega) (by omega)
        ((unhide DAT).of_blocks (by rw [he]; simp) (fun x hx => by cases hx; rw [he, Below.heap_setCell _ _ _ _ NEG])).row
        (fun x hx => (((unhide DAT).of_blocks (by rw [he]; simp) (fun x hx => by cases hx; rw [he, Below.heap_setCell _ _ _ _ NEG])).own x hx).2.2))
      generalize hs[j].X.xs.length = ln at *
      generalize hs[j].g = dg at *
      generalize hs[j].c = dc at *
      go_wp2_with fail
      refine (unhide MB _ rfl).mono ?_
      rintro e w2 ⟨rfl, hm, ht⟩
      have hm' : Row w2 (some ⟨dg, 0, none⟩) ln (marks ((kq + 1 : Nat) : Int) ln) := by
        rw [show ((kq + 1 : Nat) : Int) = (kq : Int) + 1 by omega]
        exact hm
      have R := hide (unhide MK _ w2 rfl hm' ht)
      clear MB MK hm ht hm' DAT c0 c1 f0
      go_wp2_with fail
      go_roundw
      case rel => exact ⟨j + 1, by omega, by go_num, by rw [unhide HKK]; go_num, (unhide R).1, (unhide R).2⟩
      case measure => simp [intOf]; omega
    · obtain rfl : j = n := by omega
      have Z := hide (show QwOwn wr B (.slice (some ⟨g, 0, none⟩) j c) (markQ k0 hs) by
        have := unhide hI
        unfold halfQ at this
        rwa [List.take_of_length_le (by rw [unhide L]; exact Nat.le_refl _), List.drop_of_length_le (by rw [unhide L]; exact Nat.le_refl _), List.append_nil] at this)
      have ZK := hide (show kQ k0 (hs.take j) = kQ k0 hs by rw [List.take_of_length_le (by rw [unhide L]; exact Nat.le_refl _)])
      go_wp2_with fail
      go_ret
      exact ⟨ret_int (by rw [unhide ZK]), unhide Z, unhide hw⟩
theorem markWriteS_none (a : Option Addr) (c : Nat) (k0 : Int) (w : World) :
    Calls Try.prog 39 #[.slice a 0 c, .int .i64 k0] w fun e w' => e = .returned (.int .i64 k0) ∧ w' = w := by
  go_enter Try.func39, Try.ntmps39
  go_wp2_with fail
  refine wp_loop_rounds 1 ?_
  rw [rounds_succ]
  go_wp2_with fail
  go_ret
  exact ⟨rfl, rfl⟩
theorem markWriteS_any (B : Nat) (a : Option Addr) (n c k0 : Nat) (hs : List WqH) (w : World) (hk0 : kQ k0 hs ≤ 100000000) (h1 : QwOwn w B (.slice a n c) hs) :
    Calls Try.prog 39 #[.slice a n c, .int .i64 (k0 : Int)] w fun e w' => e = .returned (.int .i64 ((kQ k0 hs : Nat) : Int)) ∧ QwOwn w' B (.slice a n c) (markQ k0 hs) ∧ WrB (QwBl (.slice a n c) hs) w w' := by
  rcases h1.row.2 with ⟨e, hl⟩ | ⟨g, cap, cur, e, _⟩
  · injection e with e1 e2 e3
    subst e1 e2 e3
    obtain rfl : hs = [] := by simpa using hl
    refine (markWriteS_none none 0 k0 w).mono ?_
    rintro e w' ⟨rfl, rfl⟩
    exact ⟨rfl, h1, WrB.refl2q _ _⟩
  · injection e with e1 e2 e3
    subst e1
    exact markWriteS_some B g n c k0 hs w hk0 h1
theorem markQ_dat : ∀ (k : Nat) (hs : List WqH) (j : Nat) (hj : j < hs.length), ∃ h : j < (markQ k hs).length, (markQ k hs)[j] = mkQ (kQ k (hs.take j)) hs[j]
  | k, [], j, hj => by simp at hj
  | k, x :: r, 0, _ => ⟨by simp [markQ], rfl⟩
  | k, x :: r, j + 1, hj => by
    obtain ⟨h, e⟩ := markQ_dat (k + 1 + x.X.xs.length) r j (by simpa using hj)
    exact ⟨by simp only [markQ, List.length_cons]; omega, by simp only [markQ, List.getElem_cons_succ, List.take_succ_cons, kQ]; exact e⟩
set_option maxRecDepth 100000 in
set_option maxHeartbeats 4000000 in
theorem heldWriteS_any (B : Nat) (a : Option Addr) (n c k0 : Nat) (hs : List WqH) (w : World) (hk0 : kQ k0 hs ≤ 100000000) (h1 : QwOwn w B (.slice a n c) (markQ k0 hs)) :
    Calls Try.prog 41 #[.slice a n c, .int .i64 (k0 : Int)] w fun e w' => e = .returned (.int .i64 ((kQ k0 hs : Nat) : Int)) ∧ w' = w := by
  have L := hide (show hs.length = n by have := (qw_row h1).1; simpa [markQ_len] using this)
  have R := hide (qw_row h1)
  have D := hide h1.dat
  have KT := hide (fun j => Nat.le_trans (kQ_take k0 hs j) hk0)
  have hnb : n ≤ 100000000 := by rw [← unhide L]; exact Nat.le_trans (kQ_len k0 hs) hk0
  clear h1
  go_enter Try.func41, Try.ntmps41
  go_wp2_with fail
  go_loopw [1, 5] (fun q i wr => ∃ j : Nat, j ≤ n ∧ i = .int .i64 j ∧ q = .int .i64 ((kQ k0 (hs.take j) : Nat) : Int) ∧ Hid (wr = w)) (fun _ i _ => n - (intOf i).toNat)
  case atStart => exact ⟨0, Nat.zero_le _, rfl, by simp [kQ], hide rfl⟩
  case round =>
    obtain ⟨j, hj, rfl, rfl, hww⟩ := hrel
    have hww := unhide hww
    subst wr
    by_cases hlt : j < n
    · have hjl : j < hs.length := by rw [unhide L]; exact hlt
      obtain ⟨hjh, hat⟩ := markQ_dat k0 hs j hjl
      have hkk : kQ k0 (hs.take (j + 1)) = kQ k0 (hs.take j) + 1 + hs[j].X.xs.length := by rw [rb_take_snoc hs j hjl, kQ_snoc]
      have hkb := unhide KT (j + 1)
      rw [hkk] at hkb
      have HKK := hide hkk
      obtain ⟨b, off, rfl, c0, c1⟩ := (unhide R).2 j (by simpa using hjh)
      have dd := (unhide D j hjh).row
      simp only [List.getElem_map, hat] at c0 c1 dd
      unfold qh mkQ at c0 c1
      unfold mkQ at dd
      simp only [marks_length] at c0 c1 dd
      generalize hkq : kQ k0 (hs.take j) = kq at *
      have HB := hide (heldByteS_any (some ⟨hs[j].g, 0, none⟩) hs[j].X.xs.length hs[j].c ((kq : Int) + 1) w (by omega) (by omega) (by omega) (by rw [show (kq : Int) + 1 = ((kq + 1 : Nat) : Int) by omega]; exact dd))
      clear dd hkk hat hjh R D
      generalize hs[j].X.xs.length = ln at *
      generalize hs[j].g = dg at *
      generalize hs[j].c = dc at *
      go_wp2_with fail
      refine (unhide HB).mono ?_
      rintro e w2 ⟨rfl, hw2⟩
      subst w2
      go_wp2_with fail
      go_roundw
      case rel => exact ⟨j + 1, by omega, by go_num, by rw [unhide HKK]; go_num, by first | exact hide rfl | exact hide trivial⟩
      case measure => simp [intOf]; omega
    · obtain rfl : j = n := by omega
      have ZK := hide (show kQ k0 (hs.take j) = kQ k0 hs by rw [List.take_of_length_le (by rw [unhide L]; exact Nat.le_refl _)])
      go_wp2_with fail
      go_ret
      exact ⟨ret_int (by rw [unhide ZK]), rfl⟩
end Go.Proofs.Ytjhmammoakiknaa

namespace Go.Proofs.Ytjhmammoakiknaa
open Go.RowKit

theorem owns_block {w w' : World} {B : Nat} {v : Value} {xs : List Int} (h : Owns w B v xs) (hb : ∀ k, v.ownBlock = some k → w'.heap[k]? = w.heap[k]?) : Owns w' B v xs := by
  obtain ⟨h1, h2⟩ := h
  refine ⟨h1, ?_⟩
  rcases h2 with h2 | ⟨g, cap, cur, rfl, hg, hh, r⟩
  · exact .inl h2
  · exact .inr ⟨g, cap, cur, rfl, hg, (hb g rfl).trans hh, r⟩
theorem owns_set {w : World} {B b : Nat} {v : Value} {xs : List Int} (h : Owns w B v xs) (hb : b < B) (o : Nat) (u : Value) : Owns (w.setCell ⟨b, o, none⟩ u) B v xs :=
  owns_block h fun k hk => Below.heap_setCell _ _ _ _ (by have := (h.lt k hk).1; simp; omega)
/-- One of those that wait, put. -/
theorem put_elem {wr : World} {aw : Option Addr} {nw : Nat} {ws : List WD} (hW : WRow wr aw nw ws) (m : Nat) (hm : m < ws.length) (hok : okW ws[m] = true) (t : Nat) (ht : t ≤ 16) (B : Nat) (hB : B ≤ wr.heap.size) (g cap : Nat) (ys : List Int) (hO : Owns wr B (.slice (some ⟨g, 0, none⟩) ys.length cap) ys) (hl : ys.length ≤ 2048) (hl16 : ys.length % 16 = 0) :
    ∃ bw ow at_ ad od cd : Nat, aw = some ⟨bw, ow, none⟩ ∧ wr.cell? ⟨bw, ow + m * 2, none⟩ = some (.int .i64 (at_ : Int)) ∧ wr.cell? ⟨bw, ow + m * 2 + 1, none⟩ = some (.slice (some ⟨ad, od, none⟩) 16 cd) ∧
      Calls Try.prog 72 #[.slice (some ⟨g, 0, none⟩) ys.length cap, wv (at_ : Int) (some ⟨ad, od, none⟩) 16 cd, .int .i64 (t : Int)] wr fun e w' => ∃ g2 cap2, e = .returned (.slice (some ⟨g2, 0, none⟩) (putD ys ws[m] t).length cap2) ∧ Owns w' B (.slice (some ⟨g2, 0, none⟩) (putD ys ws[m] t).length cap2) (putD ys ws[m] t) ∧ Below wr.heap.size wr w' := by
  obtain ⟨bw, ow, rfl, e0, ad, cd, e1, hmm, rd⟩ := hW.2 m hm
  obtain ⟨n, s, hpd, hn127, hs16⟩ := okW_shape hok
  rw [hpd] at e0 e1 rd hmm ⊢
  simp only at e0 e1 rd hmm
  rw [hs16] at e1 rd hmm
  obtain ⟨bd, od, rfl, _⟩ := rd.2 0 (by omega)
  refine ⟨bw, ow, n, bd, od, cd, rfl, e0, e1, ?_⟩
  refine (l02Put_any g 0 ys.length cap ys n s bd od cd t wr (row_of_owns hO) hl hl16 hn127 hs16 rd hmm.2 ht).mono ?_
  rintro e w' ⟨g2, cap2, rfl, ho, hb⟩
  have hlen := putD_len ys ⟨(n : Int), s⟩ t hs16 ht
  simp only [Int.toNat_natCast] at hlen
  rw [← hlen] at ho ⊢
  exact ⟨g2, cap2, rfl, owns_mono ho hB, hb⟩
theorem keptD_ok {ws : List WD} (h : ∀ d ∈ ws, okW d = true) (m : Nat) (ks : List Bool) : ∀ d ∈ keptD (ws.take m) ks, okW d = true := fun d hd => h d (List.mem_of_mem_take (keptD_mem _ _ d hd))
set_option maxRecDepth 100000 in
set_option maxHeartbeats 4000000 in
theorem l02Crash_gen (ah : Option Addr) (n c : Nat) (aw : Option Addr) (nw cw : Nat) (ak : Option Addr) (nk ck : Nat) (ks : List Bool) (xs : List Int) (ws : List WD) (t : Nat) (w : World) (hR : Row w ah n xs) (hah : Adr ah n c) (hW : WRow w aw nw ws) (hK : BRow w ak nk ks) (hn : n ≤ 2048) (h16 : n % 16 = 0) (hnw : nw ≤ 4096) (hnk : nk ≤ 4611686018427387904) (hall : ∀ d ∈ ws, okW d = true) (ht : t ≤ 16) :
    Calls Try.prog 59 #[fv ah n c aw nw cw, .slice ak nk ck, .int .i64 (t : Int)] w fun e w' => ∃ g cap, e = .returned (fv (some ⟨g, 0, none⟩) (crashD xs ws ks t).length cap none 0 0) ∧ Owns w' w.heap.size (.slice (some ⟨g, 0, none⟩) (crashD xs ws ks t).length cap) (crashD xs ws ks t) ∧ Below w.heap.size w w' := by
  obtain ⟨i0, hi, hz0, hz1, hz2⟩ := info_parts Try.infoU8
  have hxl := hR.1
  have hb0 : ∀ o1 o2 o3, Below w.heap.size w (((w.alloc o1).alloc o2).alloc o3) := fun o1 o2 o3 => (((Below.refl _ _).alloc (Nat.le_refl _) _).alloc (by simp) _).alloc (by simp; omega) _
  have hO : ∀ o1 o2, (((w.alloc o1).alloc o2).alloc (.cells #[] 5)).ownsRow (w.heap.size + 1 + 1) 5 1 (.slice (some ⟨w.heap.size + 1 + 1, 0, none⟩) 0 0) 0 [] := fun o1 o2 => by
    have := World.ownsRow_lit (base := w.heap.size + 1 + 1) (e := 5) (size := 1) ((w.alloc o1).alloc o2) #[] 0 (by simp) (by unfold maxLen; simp) rfl
    simpa using this
  have HR := hide hR
  have HW := hide hW
  have HK := hide hK
  have HA := hide hall
  clear hR hW hK hall
  obtain ⟨g, cap, w1, hrun, O1, hgrow⟩ := lit_app 22 (show Owns _ (w.heap.size + 1 + 1) _ [] from hO (.cells #[.slice ah n c, .slice aw nw cw] 28) (.cells #[.slice none 0 0, .slice none 0 0] 28)) (row_grow (unhide HR) (hb0 _ _ _)) hah (by omega) (by simp)
  have B1 : Below w.heap.size w w1 := (hb0 _ _ _).grown hgrow (by simp; omega) (fun k hk => by injection hk with hk; omega)
  have e1 := hgrow.block w.heap.size (by simp; omega) (by simp; omega)
  have e2 := hgrow.block (w.heap.size + 1) (by simp) (by simp)
  have p1 : w1.cell? ⟨w.heap.size, 1, none⟩ = some (.slice aw nw cw) := by
    rw [World.cell?_of_block (a := ⟨w.heap.size, 1, none⟩) e1]
    exact (cell_old (by simp; omega)).trans ((cell_old (by simp)).trans ((cell_new rfl).trans rfl))
  have q0 : w1.cell? ⟨w.heap.size + 1, 0, none⟩ = some (.slice none 0 0) := by
    rw [World.cell?_of_block (a := ⟨w.heap.size + 1, 0, none⟩) e2]
    exact (cell_old (by simp)).trans ((cell_new (by simp)).trans rfl)
  have q1 : w1.cell? ⟨w.heap.size + 1, 1, none⟩ = some (.slice none 0 0) := by
    rw [World.cell?_of_block (a := ⟨w.heap.size + 1, 1, none⟩) e2]
    exact (cell_old (by simp)).trans ((cell_new (by simp)).trans rfl)
  have qf : ∀ j, w1.frozen? ⟨w.heap.size + 1, j, none⟩ = false := fun j => by
    simp only [World.frozen?, e2]
    exact (frozen_old (by simp)).trans (frozen_new (by simp))
  have hs1 : w.heap.size + 1 + 1 ≤ w1.heap.size := by have := hgrow.size; simp at this; omega
  have OO := hide O1
  have QF := hide qf
  clear hgrow hb0 hO O1 e1 e2 qf
  subst hxl
  have hkl := hide (unhide HK).1
  have hwl := hide (unhide HW).1
  go_enter Try.func59, Try.ntmps59
  go_wp2_with (at_builtin; refine sc_wpApp rfl _ _ 22 rfl _ _ _ w1 rfl rfl hrun ?_)
  go_loop [8, 9] (fun l i => ∃ k : Nat, k ≤ nw ∧ k ≤ nk ∧ i = .int .i64 k ∧ l = .int .i64 (lastI ks k)) (fun _ i => nw - (intOf i).toNat)
  case atStart => exact ⟨0, Nat.zero_le _, Nat.zero_le _, rfl, rfl⟩
  case round =>
    obtain ⟨k, hk1, hk2, rfl, rfl⟩ := hrel
    by_cases hlt : k < nw ∧ k < nk
    · obtain ⟨hlt1, hlt2⟩ := hlt
      obtain ⟨bk, ok, rfl, ek⟩ := ((unhide HK).grow B1).2 k hlt2
      by_cases hf : ks.getD k false = true
      · have HL := hide (show lastI ks (k + 1) = (k : Int) by simp only [lastI]; rw [if_pos hf])
        rw [hf] at ek
        clear hf
        go_wp2_with fail
        go_round
        case rel => exact ⟨k + 1, by omega, by omega, by go_num, by rw [unhide HL]⟩
        case measure => simp [intOf]; omega
      · have HL := hide (show lastI ks (k + 1) = lastI ks k by simp only [lastI]; rw [if_neg hf])
        have hf : ks.getD k false = false := by simpa using hf
        rw [hf] at ek
        clear hf
        go_wp2_with fail
        go_round
        case rel => exact ⟨k + 1, by omega, by omega, by go_num, by rw [unhide HL]⟩
        case measure => simp [intOf]; omega
    · have hmin : k = min ws.length ks.length := by rw [unhide hwl, unhide hkl]; omega
      have hbd := lastI_bd ks k
      by_cases hL : lastI ks k = -1
      · have HC := hide (crashD_none (b := xs) (t := t) (ws := ws) (ks := ks) (by rw [← hmin]; exact hL))
        have f0 := unhide QF 0
        have f1 := unhide QF 1
        rw [hL]
        clear hL hmin hbd
        by_cases hlt1 : k < nw
        all_goals
          go_wp2_with fail
          refine wp_loop_rounds 1 ?_
          rw [rounds_succ]
          go_wp2_with fail
          have R1 := hide (owns_mono (owns_set (owns_set (unhide OO) (show w.heap.size + 1 < w.heap.size + 1 + 1 by omega) 0 (.slice (some ⟨g, 0, none⟩) xs.length cap)) (show w.heap.size + 1 < w.heap.size + 1 + 1 by omega) 1 (.slice none 0 0)) (show w.heap.size ≤ w.heap.size + 1 + 1 by omega))
          have R2 := hide ((B1.setCell (p := ⟨w.heap.size + 1, 0, none⟩) (by simp) (.slice (some ⟨g, 0, none⟩) xs.length cap)).setCell (p := ⟨w.heap.size + 1, 1, none⟩) (by simp) (.slice none 0 0))
          refine bodyPost_ret (v := fv (some ⟨g, 0, none⟩) xs.length cap none 0 0) (by simp [results, Try.results59, go_sem, q0, q1]) rfl ⟨g, cap, by rw [unhide HC], by rw [unhide HC]; exact unhide R1, unhide R2⟩
      · obtain ⟨j, hj⟩ : ∃ j : Nat, lastI ks k = (j : Int) := ⟨(lastI ks k).toNat, by omega⟩
        have hjw : j < ws.length := by rw [unhide hwl]; omega
        have HC := hide (crashD_last (b := xs) (t := t) (ws := ws) (ks := ks) (by rw [← hmin]; exact hj) hjw)
        have hjk : j < k := by omega
        have HF := hide (keptD_last ws ks k j (by omega) (by omega) hj hjw).2.1
        rw [hj]
        clear hL hmin hbd hj
        by_cases hlt1 : k < nw
        all_goals
          go_wp2_with fail
          go_loopw [7, 10] (fun o i wr => ∃ (m g cap : Nat) (ys : List Int), m ≤ j + 1 ∧ i = .int .i64 m ∧ o = .slice (some ⟨g, 0, none⟩) ys.length cap ∧ Hid (ys = readD xs (keptD (ws.take (min m j)) (ks.take (min m j)))) ∧ Hid (Owns wr (w.heap.size + 1 + 1) (.slice (some ⟨g, 0, none⟩) ys.length cap) ys) ∧ Below (w.heap.size + 1 + 1) w1 wr) (fun _ i _ => j + 1 - (intOf i).toNat)
          case atStart => exact ⟨0, g, cap, xs, Nat.zero_le _, rfl, rfl, by show xs = _; simp [keptD, readD], unhide OO, Below.refl _ _⟩
          case round =>
            clear OO
            obtain ⟨m, g, cap, ys, hm, rfl, rfl, hy, hO, hb⟩ := hrel
            have hbw : Below w.heap.size w wr := B1.trans (hb.mono (by omega))
            have p1 := (hb.cell (p := ⟨w.heap.size, 1, none⟩) (show w.heap.size < w.heap.size + 1 + 1 by omega)).trans p1
            have hsr : w.heap.size + 1 + 1 ≤ wr.heap.size := Nat.le_trans hs1 hb.size
            have hyb := readD_bounds xs (keptD (ws.take (min m j)) (ks.take (min m j))) h16 hn (keptD_ok (unhide HA) _ _)
            rw [← unhide hy] at hyb
            by_cases hmj : m < j
            · have hmw : m < ws.length := by omega
              have hmk : m < nk := by omega
              obtain ⟨bk, ok, rfl, ek⟩ := ((unhide HK).grow hbw).2 m hmk
              have SN := hide (keptD_snoc ws ks m hmw (by rw [unhide hkl]; exact hmk))
              have eg : ks[m]'(by rw [unhide hkl]; exact hmk) = ks.getD m false := by simp [List.getD, show m < ks.length by rw [unhide hkl]; exact hmk]
              rw [eg] at SN
              have hmn : min m j = m := by omega
              rw [hmn] at hy
              by_cases hf : ks.getD m false = true
              · rw [hf] at ek SN
                obtain ⟨bw, ow, at_, ad, od, cd, rfl, e0, e1, hC⟩ := put_elem ((unhide HW).below hbw) m hmw (unhide HA _ (List.getElem_mem hmw)) 16 (Nat.le_refl _) _ hsr g cap ys (unhide hO) hyb.2 hyb.1
                have HS := hide (show putD ys ws[m] 16 = readD xs (keptD (ws.take (min (m + 1) j)) (ks.take (min (m + 1) j))) by
                  rw [show min (m + 1) j = m + 1 by omega, unhide SN, if_pos rfl, readD_append, ← unhide hy]; rfl)
                have HP := hide hC
                clear hC hf eg SN hmn hyb
                go_wp2_with fail
                refine (unhide HP).mono ?_
                rintro e w2 ⟨g2, cap2, rfl, hO2, hb2⟩
                have B2 := hide (hb.trans (hb2.mono hsr))
                have O2 := hide hO2
                clear hO2 hb2 HP
                generalize putD ys ws[m] 16 = zs at *
                go_wp2_with fail
                go_roundw
                case rel => exact ⟨m + 1, g2, cap2, zs, by omega, by go_num, rfl, unhide HS, unhide O2, unhide B2⟩
                case measure => simp [intOf]; omega
              · have hf : ks.getD m false = false := by simpa using hf
                rw [hf] at ek SN
                have HS := hide (show ys = readD xs (keptD (ws.take (min (m + 1) j)) (ks.take (min (m + 1) j))) by
                  rw [show min (m + 1) j = m + 1 by omega, unhide SN, if_neg (by decide), List.append_nil, ← unhide hy])
                clear hf eg SN hmn hyb
                go_wp2_with fail
                go_roundw
                case rel => exact ⟨m + 1, g, cap, ys, by omega, by go_num, rfl, unhide HS, unhide hO, hb⟩
                case measure => simp [intOf]; omega
            · by_cases hmj2 : m = j
              · subst hmj2
                have hmk : m < nk := by omega
                obtain ⟨bk, ok, rfl, ek⟩ := ((unhide HK).grow hbw).2 m hmk
                rw [unhide HF] at ek
                have HS := hide (show ys = readD xs (keptD (ws.take (min (m + 1) m)) (ks.take (min (m + 1) m))) by
                  have := unhide hy
                  rwa [show min m m = min (m + 1) m by omega] at this)
                clear hyb
                go_wp2_with fail
                go_roundw
                case rel => exact ⟨m + 1, g, cap, ys, by omega, by go_num, rfl, unhide HS, unhide hO, hb⟩
                case measure => simp [intOf]
              · obtain rfl : m = j + 1 := by omega
                rw [show min (j + 1) j = j by omega] at hy
                obtain ⟨bw, ow, at_, ad, od, cd, rfl, e0, e1, hC⟩ := put_elem ((unhide HW).below hbw) j hjw (unhide HA _ (List.getElem_mem hjw)) t ht _ hsr g cap ys (unhide hO) hyb.2 hyb.1
                have HP := hide hC
                rw [← unhide hy] at HC
                clear hC hyb
                have f0 := (hb.frozen (p := ⟨w.heap.size + 1, 0, none⟩) (by simp)).trans (unhide QF 0)
                have f1 := (hb.frozen (p := ⟨w.heap.size + 1, 1, none⟩) (by simp)).trans (unhide QF 1)
                have q0 := (hb.cell (p := ⟨w.heap.size + 1, 0, none⟩) (by simp)).trans q0
                have q1 := (hb.cell (p := ⟨w.heap.size + 1, 1, none⟩) (by simp)).trans q1
                go_wp2_with fail
                refine (unhide HP).mono ?_
                rintro e w2 ⟨g2, cap2, rfl, hO2, hb2⟩
                have q0 := (hb2.cell (p := ⟨w.heap.size + 1, 0, none⟩) (show w.heap.size + 1 < wr.heap.size by omega)).trans q0
                have q1 := (hb2.cell (p := ⟨w.heap.size + 1, 1, none⟩) (show w.heap.size + 1 < wr.heap.size by omega)).trans q1
                have f0 := (hb2.frozen (p := ⟨w.heap.size + 1, 0, none⟩) (show w.heap.size + 1 < wr.heap.size by omega)).trans f0
                have f1 := (hb2.frozen (p := ⟨w.heap.size + 1, 1, none⟩) (show w.heap.size + 1 < wr.heap.size by omega)).trans f1
                have B2 := hbw.trans (hb2.mono (by omega))
                have O2 := hide hO2
                have hl2 : w.heap.size + 1 < w2.heap.size := Nat.lt_of_lt_of_le (by omega) hb2.size
                clear hO2 hb2 HP hb hbw hO B1
                generalize putD ys ws[j] t = zs at *
                go_wp2_with fail
                have R1 := hide (owns_mono (owns_set (owns_set (unhide O2) (show w.heap.size + 1 < w.heap.size + 1 + 1 by omega) 0 (.slice (some ⟨g2, 0, none⟩) zs.length cap2)) (show w.heap.size + 1 < w.heap.size + 1 + 1 by omega) 1 (.slice none 0 0)) (show w.heap.size ≤ w.heap.size + 1 + 1 by omega))
                have R2 := hide ((B2.setCell (p := ⟨w.heap.size + 1, 0, none⟩) (by simp) (.slice (some ⟨g2, 0, none⟩) zs.length cap2)).setCell (p := ⟨w.heap.size + 1, 1, none⟩) (by simp) (.slice none 0 0))
                refine bodyPost_ret (v := fv (some ⟨g2, 0, none⟩) zs.length cap2 none 0 0) (by simp [results, Try.results59, go_sem, q0, q1]) rfl ⟨g2, cap2, by rw [unhide HC], by rw [unhide HC]; exact unhide R1, unhide R2⟩
theorem l02Crash_any (b off n c : Nat) (aw : Option Addr) (nw cw : Nat) (ak : Option Addr) (nk ck : Nat) (ks : List Bool) (xs : List Int) (ws : List WD) (t : Nat) (w : World) (hR : Row w (some ⟨b, off, none⟩) n xs) (hW : WRow w aw nw ws) (hK : BRow w ak nk ks) (hn : n ≤ 2048) (h16 : n % 16 = 0) (hnw : nw ≤ 4096) (hnk : nk ≤ 4611686018427387904) (hall : ∀ d ∈ ws, okW d = true) (ht : t ≤ 16) :
    Calls Try.prog 59 #[fv (some ⟨b, off, none⟩) n c aw nw cw, .slice ak nk ck, .int .i64 (t : Int)] w fun e w' => ∃ g cap, e = .returned (fv (some ⟨g, 0, none⟩) (crashD xs ws ks t).length cap none 0 0) ∧ Owns w' w.heap.size (.slice (some ⟨g, 0, none⟩) (crashD xs ws ks t).length cap) (crashD xs ws ks t) ∧ Below w.heap.size w w' :=
  l02Crash_gen (some ⟨b, off, none⟩) n c aw nw cw ak nk ck ks xs ws t w hR (.inr ⟨b, off, rfl⟩) hW hK hn h16 hnw hnk hall ht
end Go.Proofs.Ytjhmammoakiknaa

namespace Go.Proofs.Ytjhmammoakiknaa
open Go.RowKit

/-- The code of a crash, and what is held behind it. -/
def fcC (xs : List Int) (ws : List WD) (ks : List Bool) (t : Int) : Int := if 4096 < ks.length then 2 else if okD xs.length ws = true then (if 0 ≤ t ∧ t ≤ 16 then 0 else 4) else 1
def fcH (xs : List Int) (ws : List WD) (ks : List Bool) (t : Int) : List Int := if fcC xs ws ks t = 0 then crashD xs ws ks t.toNat else []
theorem fc_long {xs : List Int} {ws : List WD} {ks : List Bool} {t : Int} (h : 4096 < ks.length) : fcC xs ws ks t = 2 ∧ fcH xs ws ks t = [] := by
  have e : fcC xs ws ks t = 2 := by unfold fcC; rw [if_pos h]
  exact ⟨e, by unfold fcH; rw [e]; rfl⟩
theorem fc_bad {xs : List Int} {ws : List WD} {ks : List Bool} {t : Int} (h : ¬ 4096 < ks.length) (h1 : okD xs.length ws = false) : fcC xs ws ks t = 1 ∧ fcH xs ws ks t = [] := by
  have e : fcC xs ws ks t = 1 := by unfold fcC; rw [if_neg h, h1]; rfl
  exact ⟨e, by unfold fcH; rw [e]; rfl⟩
theorem fc_range {xs : List Int} {ws : List WD} {ks : List Bool} {t : Int} (h : ¬ 4096 < ks.length) (h1 : okD xs.length ws = true) (h2 : ¬ (0 ≤ t ∧ t ≤ 16)) : fcC xs ws ks t = 4 ∧ fcH xs ws ks t = [] := by
  have e : fcC xs ws ks t = 4 := by unfold fcC; rw [if_neg h, h1, if_pos rfl, if_neg h2]
  exact ⟨e, by unfold fcH; rw [e]; rfl⟩
theorem fc_ok {xs : List Int} {ws : List WD} {ks : List Bool} {t : Nat} (h : ¬ 4096 < ks.length) (h1 : okD xs.length ws = true) (h2 : t ≤ 16) : fcC xs ws ks (t : Int) = 0 ∧ fcH xs ws ks (t : Int) = crashD xs ws ks t := by
  have e : fcC xs ws ks (t : Int) = 0 := by unfold fcC; rw [if_neg h, h1, if_pos rfl, if_pos (by omega)]
  exact ⟨e, by unfold fcH; rw [e, if_pos rfl]; simp⟩
theorem crB_len (l : List WD) (t : Nat) (ht : t ≤ 16) (hall : ∀ d ∈ l, okW d = true) (b : List Int) (hb : b.length ≤ 2048) (h16 : b.length % 16 = 0) : (crB b l t).length ≤ 2048 := by
  rcases List.eq_nil_or_concat l with rfl | ⟨K, d, rfl⟩
  · rw [crB_nil]; exact hb
  · rw [List.concat_eq_append] at hall ⊢
    rw [crB_snoc]
    obtain ⟨n, s, rfl, hn, hs⟩ := okW_shape (hall d (by simp))
    rw [putD_len _ _ _ hs ht]
    have := readD_bounds b K h16 hb (fun d hd => hall d (by simp [hd]))
    simp
    omega
theorem fcH_len (xs : List Int) (ws : List WD) (ks : List Bool) (t : Int) : (fcH xs ws ks t).length ≤ 2048 := by
  unfold fcH
  split
  · rename_i h
    unfold fcC at h
    split at h
    · cases h
    · split at h
      · rename_i ho
        split at h
        · rename_i ht
          obtain ⟨k1, k2, k3, k4⟩ := okD_parts ho
          exact crB_len _ _ (by omega) (fun d hd => k4 d (keptD_mem _ _ d hd)) xs k2 k1
        · cases h
      · cases h
  · simp
end Go.Proofs.Ytjhmammoakiknaa

namespace Go.Proofs.Ytjhmammoakiknaa
open Go.RowKit Go.Maps

set_option maxRecDepth 100000 in
set_option maxHeartbeats 2000000 in
theorem flash0_any (base p N : Nat) (S : DS) (w : World) (hD : Dev w base p N S) (h0 : S.ws = []) :
    Calls Try.prog 26 #[.pointer (some ⟨p, 0, none⟩)] w fun e w' => ∃ g, e = .returned (fv (some ⟨g, 0, none⟩) (S.hc * 16) (S.hc * 16) none 0 0) ∧ Mine w' w.heap.size (.slice (some ⟨g, 0, none⟩) (S.hc * 16) (S.hc * 16)) (secBytes S.hc S.hf) ∧ Below w.heap.size w w' := by
  obtain ⟨mh, mr, v, hd⟩ := hD
  obtain ⟨a, cap, rfl⟩ : ∃ a cap, v = .slice a 0 cap := by
    have := hd.wait
    rw [h0] at this
    rcases this.2 with ⟨e, _⟩ | ⟨g, cap, _, e, _⟩
    · exact ⟨none, 0, e⟩
    · exact ⟨_, cap, e⟩
  have hpl : p < w.heap.size := cell_lt hd.c0
  have c4 := hd.c4
  have B0 : ∀ o, Below w.heap.size w (w.alloc o) := fun o => (Below.refl _ _).alloc (Nat.le_refl _) _
  have HB := hide (fun o => bytes_any p 0 mh N S.hc S.hf (w.alloc o) (hd.below (B0 o)).held hd.hok.2.1 hd.hok.1 (hd.below (B0 o)).c0 (hd.below (B0 o)).c1)
  clear hd
  go_enter Try.func26, Try.ntmps26
  go_wp2_with fail
  refine (unhide HB _).mono ?_
  rintro e w1 ⟨rfl, hM, hb1⟩
  have hz : (w.alloc (.cells #[.slice none 0 0, .slice none 0 0] 28)).heap.size = w.heap.size + 1 := by simp
  rw [hz] at hM hb1 ⊢
  have c4 : w1.cell? ⟨p, 4, none⟩ = some (.slice a 0 cap) := (hb1.cell (p := ⟨p, 4, none⟩) (by simp; omega)).trans ((cell_old hpl).trans c4)
  have r0 : w1.cell? ⟨w.heap.size, 0, none⟩ = some (.slice none 0 0) := (hb1.cell (p := ⟨w.heap.size, 0, none⟩) (by simp)).trans ((cell_new rfl).trans rfl)
  have r1 : w1.cell? ⟨w.heap.size, 1, none⟩ = some (.slice none 0 0) := (hb1.cell (p := ⟨w.heap.size, 1, none⟩) (by simp)).trans ((cell_new rfl).trans rfl)
  have f0 : w1.frozen? ⟨w.heap.size, 0, none⟩ = false := (hb1.frozen (p := ⟨w.heap.size, 0, none⟩) (by simp)).trans (frozen_new rfl)
  have f1 : w1.frozen? ⟨w.heap.size, 1, none⟩ = false := (hb1.frozen (p := ⟨w.heap.size, 1, none⟩) (by simp)).trans (frozen_new rfl)
  have BB := hide ((B0 (.cells #[.slice none 0 0, .slice none 0 0] 28)).trans (hb1.mono (by omega)))
  have hs1 : w.heap.size + 1 ≤ w1.heap.size := by have := hb1.size; rw [hz] at this; exact this
  have HM := hide hM
  clear hM hb1 hz HB B0
  have hp1 : p < w1.heap.size := by omega
  have hw1 : w.heap.size < w1.heap.size := by omega
  go_wp2_with fail
  refine wp_loop_rounds 1 ?_
  rw [rounds_succ]
  go_wp2_with fail
  have B3 := hide ((((unhide BB).setCell (p := ⟨w.heap.size, 0, none⟩) (Nat.le_refl _) (.slice (some ⟨w.heap.size + 1, 0, none⟩) (S.hc * 16) (S.hc * 16))).setCell (p := ⟨w.heap.size, 1, none⟩) (Nat.le_refl _) (.slice none 0 0)).alloc (by simp [World.setCell]; omega) (.cells #[.slice (some ⟨w.heap.size + 1, 0, none⟩) (S.hc * 16) (S.hc * 16), .slice none 0 0] 28))
  refine bodyPost_ret (v := fv (some ⟨w.heap.size + 1, 0, none⟩) (S.hc * 16) (S.hc * 16) none 0 0) (by simp [results, Try.results26, go_sem, r0, r1, hw1]) rfl ⟨w.heap.size + 1, rfl, ?_, unhide B3⟩
  obtain ⟨a1, c1, e, m1, m2, m3, m4⟩ := unhide HM
  injection e with e1 _ e3
  subst e1 e3
  have hgl := (m4 _ rfl).2.1
  simp only at hgl
  refine ⟨_, _, by rw [‹S.hc * 16 = _›], m1, m2, m3.of_cells fun y hy p hp => ?_, fun y hy => ?_⟩
  · cases hy
    simp only at hp
    rw [cell_old (by simp [World.setCell]; omega), World.cell?_setCell_other _ _ _ _ (by intro e; rw [← e] at hp; simp at hp), World.cell?_setCell_other _ _ _ _ (by intro e; rw [← e] at hp; simp at hp)]
  · cases hy
    refine ⟨by simp, by simp; omega, fun j => ?_⟩
    rw [frozen_old (by simp [World.setCell]; omega), World.frozen?_setCell, World.frozen?_setCell]
    exact (m4 _ rfl).2.2 j
end Go.Proofs.Ytjhmammoakiknaa

namespace Go.Proofs.Ytjhmammoakiknaa
open Go.RowKit Go.Maps

theorem mine_set {w : World} {B b : Nat} {v : Value} {xs : List Int} (h : Mine w B v xs) (hb : b < B) (o : Nat) (u : Value) : Mine (w.setCell ⟨b, o, none⟩ u) B v xs := by
  obtain ⟨a, c, e, h1, h2, h3, h4⟩ := h
  refine ⟨a, c, e, h1, h2, h3.of_cells fun x hx p hp => World.cell?_of_block (w := w) (Below.heap_setCell _ _ _ _ (by have := (h4 x hx).1; simp; omega)), fun x hx => ⟨(h4 x hx).1, by simpa [World.setCell] using (h4 x hx).2.1, fun j => by rw [World.frozen?_setCell]; exact (h4 x hx).2.2 j⟩⟩
end Go.Proofs.Ytjhmammoakiknaa

namespace Go.Proofs.Ytjhmammoakiknaa
open Go.RowKit Go.Maps

theorem QwOwn.wr {P : Nat → Prop} {w w' : World} {B : Nat} {v : Value} {hs : List WqH} (h : QwOwn w B v hs) (hw : WrB P w w') (hp : ∀ i, QwBl v hs i → ¬ P i) : QwOwn w' B v hs :=
  ⟨rr_owns_wr h.row hw (fun i hi => hp i (.inl hi)), fun i hi => (h.dat i hi).of_blocks hw.size (fun x hx => by cases hx; exact hw.block _ (qDat.lt (h.dat i hi)).2 (hp _ (.inr ⟨_, List.getElem_mem hi, rfl⟩))), h.far, h.off, h.cap⟩
theorem QwOwn.lt {w : World} {B : Nat} {v : Value} {hs : List WqH} (h : QwOwn w B v hs) (i : Nat) (hi : QwBl v hs i) : B ≤ i ∧ i < w.heap.size := by
  rcases hi with hi | ⟨x, hx, rfl⟩
  · exact h.row.lt i hi
  · obtain ⟨k, hk, rfl⟩ := List.getElem_of_mem hx
    exact qDat.lt (h.dat k hk)
theorem rn_mine_below {w w' : World} {B : Nat} {v : Value} {xs : List Int} (h : Mine w B v xs) (hb : Below w.heap.size w w') : Mine w' B v xs := by
  obtain ⟨a, c, e, h1, h2, h3, h4⟩ := h
  exact ⟨a, c, e, h1, h2, row_grow h3 hb, fun x hx => ⟨(h4 x hx).1, Nat.lt_of_lt_of_le (h4 x hx).2.1 hb.size, fun j => (hb.frozen (p := ⟨x.block, j, none⟩) (h4 x hx).2.1).trans ((h4 x hx).2.2 j)⟩⟩
/-- A device's box fb, and what waits so far, behind it. -/
structure FlSt (W0 wr : World) (fb : Nat) (hv v : Value) (hs : List WqH) : Prop where
  bel : Below fb W0 wr
  box : wr.heap[fb]? = some (.cells #[hv, v] 28 (0, 0))
  own : QwOwn wr (fb + 1) v hs
theorem FlSt.lt {W0 wr : World} {fb : Nat} {hv v : Value} {hs : List WqH} (h : FlSt W0 wr fb hv v hs) : fb < wr.heap.size := (Array.getElem?_eq_some_iff.1 h.box).1
theorem FlSt.below {W0 wr wr2 : World} {fb : Nat} {hv v : Value} {hs : List WqH} (h : FlSt W0 wr fb hv v hs) (hb : Below wr.heap.size wr wr2) : FlSt W0 wr2 fb hv v hs :=
  ⟨h.bel.trans (hb.mono (Nat.le_of_lt h.lt)), (hb.block fb h.lt).trans h.box, h.own.below hb⟩
theorem FlSt.put {W0 u u2 : World} {fb : Nat} {hv v v' : Value} {hs hs' : List WqH} {o : Obj} (h : FlSt W0 u fb hv v hs) (ho : QwOwn u2 (fb + 1) v' hs') (hg : (u.alloc o).grownBy u2 v.ownBlock) : FlSt W0 (u2.setCell ⟨fb, 1, none⟩ v') fb hv v' hs' := by
  have hl := h.lt
  have hne : ∀ k, v.ownBlock = some k → fb + 1 ≤ k := fun k hk => (h.own.row.lt k hk).1
  have e : u2.heap[fb]? = u.heap[fb]? := (hg.block fb (by simp; omega) (fun e => by have := hne fb e.symm; omega)).trans (((Below.refl u.heap.size u).alloc (Nat.le_refl _) o).block fb hl)
  refine ⟨?_, ?_, ?_⟩
  · have b1 : Below fb W0 (u.alloc o) := h.bel.alloc (Nat.le_of_lt hl) _
    exact (b1.grown hg (by simp; omega) (fun k hk => by have := hne k hk; omega)).setCell (p := ⟨fb, 1, none⟩) (Nat.le_refl _) _
  · have := heap_set (e.trans h.box) 1 v'
    simpa using this
  · refine ho.wr (P := fun i => i = fb) ⟨rfl, rfl, rfl, by simp [World.setCell], fun k _ hk => Below.heap_setCell _ _ _ _ hk⟩ (fun i hi e => ?_)
    have := (ho.lt i hi).1
    omega
/-- What flash gives. -/
def FlRes (xs : List Int) (ws : List WD) (w : World) (e : Ending) (w' : World) : Prop :=
  ∃ gh ch B v hs, e = .returned (.agg #[.slice (some ⟨gh, 0, none⟩) xs.length ch, v]) ∧ Mine w' w.heap.size (.slice (some ⟨gh, 0, none⟩) xs.length ch) xs ∧ QwOwn w' B v hs ∧ w.heap.size ≤ gh ∧ gh < B ∧ hs.map (·.X) = ws ∧ Below w.heap.size w w'
set_option maxRecDepth 100000 in
set_option maxHeartbeats 8000000 in
theorem flash_any (base p N : Nat) (S : DS) (w : World) (hD : Dev w base p N S) (hl : S.ws.length ≤ 4096) :
    Calls Try.prog 26 #[.pointer (some ⟨p, 0, none⟩)] w fun e w' => FlRes (secBytes S.hc S.hf) S.ws w e w' := by
  obtain ⟨mh, mr, v0, hd⟩ := hD
  obtain ⟨a4, cap4, rfl, hrow⟩ := kept_row hd.wait
  have hpl : p < w.heap.size := cell_lt hd.c0
  have c4 := hd.c4
  have HWO := hide hd.wok
  have HL16 := hide (secBytes_len S.hf hd.hok.2.1 S.hc)
  have HRW := hide hrow
  have B0 : ∀ o, Below w.heap.size w (w.alloc o) := fun o => (Below.refl _ _).alloc (Nat.le_refl _) _
  have HB := hide (fun o => bytes_any p 0 mh N S.hc S.hf (w.alloc o) (hd.below (B0 o)).held hd.hok.2.1 hd.hok.1 (hd.below (B0 o)).c0 (hd.below (B0 o)).c1)
  clear hd hrow
  go_enter Try.func26, Try.ntmps26
  go_wp2_with fail
  refine (unhide HB _).mono ?_
  rintro e w1 ⟨rfl, hM, hb1⟩
  have hz : (w.alloc (.cells #[.slice none 0 0, .slice none 0 0] 28)).heap.size = w.heap.size + 1 := by simp
  rw [hz] at hM hb1 ⊢
  have c4 : w1.cell? ⟨p, 4, none⟩ = some (.slice a4 S.ws.length cap4) := (hb1.cell (p := ⟨p, 4, none⟩) (by simp; omega)).trans ((cell_old hpl).trans c4)
  have r0 : w1.cell? ⟨w.heap.size, 0, none⟩ = some (.slice none 0 0) := (hb1.cell (p := ⟨w.heap.size, 0, none⟩) (by simp)).trans ((cell_new rfl).trans rfl)
  have r1 : w1.cell? ⟨w.heap.size, 1, none⟩ = some (.slice none 0 0) := (hb1.cell (p := ⟨w.heap.size, 1, none⟩) (by simp)).trans ((cell_new rfl).trans rfl)
  have f0 : w1.frozen? ⟨w.heap.size, 0, none⟩ = false := (hb1.frozen (p := ⟨w.heap.size, 0, none⟩) (by simp)).trans (frozen_new rfl)
  have f1 : w1.frozen? ⟨w.heap.size, 1, none⟩ = false := (hb1.frozen (p := ⟨w.heap.size, 1, none⟩) (by simp)).trans (frozen_new rfl)
  have BB := hide ((B0 (.cells #[.slice none 0 0, .slice none 0 0] 28)).trans (hb1.mono (by omega)))
  have hs1 : w.heap.size + 1 < w1.heap.size := by
    obtain ⟨a, c, e, _, _, _, m4⟩ := hM
    injection e with e1
    exact (m4 _ e1.symm).2.1
  have HM := hide hM
  clear hM hb1 hz HB B0
  obtain ⟨hv, hhv⟩ : ∃ hv : Value, hv = .slice (some ⟨w.heap.size + 1, 0, none⟩) (S.hc * 16) (S.hc * 16) := ⟨_, rfl⟩
  have bA : Below w1.heap.size w1 (w1.alloc (.cells #[hv, .slice none 0 0] 28)) := (Below.refl _ _).alloc (Nat.le_refl _) _
  have S0 := hide (show FlSt (w1.alloc (.cells #[hv, .slice none 0 0] 28)) (w1.alloc (.cells #[hv, .slice none 0 0] 28)) w1.heap.size hv (.slice none 0 0) [] from ⟨Below.refl _ _, heap_alloc_last _ _, QwOwn.nil _ _⟩)
  have d4 : (w1.alloc (.cells #[hv, .slice none 0 0] 28)).cell? ⟨p, 4, none⟩ = some (.slice a4 S.ws.length cap4) := (cell_old (by simp; omega)).trans c4
  have HBA := hide bA
  rw [hhv] at S0 d4 HBA bA
  clear bA
  go_wp2_with fail
  rw [← hhv] at S0 d4 HBA ⊢
  have HHV := hide hhv
  clear hhv c4
  generalize hfb : w1.heap.size = fb at *
  generalize hW0 : w1.alloc (.cells #[hv, .slice none 0 0] 28) = W0 at *
  have HFB := hide hfb
  clear hfb hW0 d4
  go_loopw [16] (fun i wr => ∃ (k : Nat) (v : Value) (hs : List WqH), k ≤ S.ws.length ∧ i = .int .i64 (k : Int) ∧ Hid (FlSt W0 wr fb hv v hs) ∧ Hid (hs.map (·.X) = S.ws.take k)) (fun i _ => S.ws.length - (intOf i).toNat)
  case atStart => exact ⟨0, _, [], Nat.zero_le _, rfl, unhide S0, rfl⟩
  case round =>
    clear S0
    obtain ⟨k, v, hs, hk, rfl, hST, hX⟩ := hrel
    by_cases hlt : k < S.ws.length
    · obtain ⟨g2, rfl, hc1, hc2, hg2, hg2l, hcells⟩ := unhide HRW (by omega)
      have hfbw : w.heap.size ≤ fb := by omega
      have BW : Below w.heap.size w wr := (unhide BB).trans (((unhide HBA).mono (by omega)).trans ((unhide hST).bel.mono hfbw))
      obtain ⟨hd0, hd1, hd16⟩ := unhide HWO _ (List.getElem_mem hlt)
      have HRG := hide (ws_range (w := wr) (g := g2) (l := S.ws) (fun j hj => (BW.cell (p := ⟨g2, j, none⟩) hg2l).trans (hcells j hj)) hlt (fun d hd => (unhide HWO d hd).2.2))
      have hX1 := hide (show hs.map (·.X) ++ [S.ws[k]] = S.ws.take (k + 1) by rw [unhide hX, List.take_succ_eq_append_getElem hlt])
      have hsl : hs.length ≤ 4096 := by have := congrArg List.length (unhide hX); rw [List.length_map, List.length_take] at this; omega
      obtain ⟨n, s, hpd, hn127, hs16⟩ : ∃ (n : Nat) (s : List Int), S.ws[k] = ⟨(n : Int), s⟩ ∧ n ≤ 127 ∧ s.length = 16 := ⟨S.ws[k].at_.toNat, S.ws[k].xs, by rw [Int.toNat_of_nonneg hd0], by omega, hd16⟩
      rw [hpd] at HRG hX1
      unfold maxLen at hc2
      clear hpd hd0 hd1 hd16 hcells BW hX
      have hl17 := wcells_len (d := ⟨(n : Int), s⟩) hs16
      have HI := hide (show (Try.prog.info? 90).map (·.size) = some (wcells ⟨(n : Int), s⟩).length by rw [ws_info, hl17])
      go_upto_region 5 with (first
        | (refine wpList_load_mid rfl 90 _ rfl g2 (k * 17) rfl _ _ (unhide HRG) Try.underlying90 rfl (unhide HI) ?_)
        | (refine wpList_boxw wr rfl _ _ rfl _ (wcells ⟨(n : Int), s⟩).toArray rfl rfl rfl (by simp [hl17]) (ws_all _) ?_))
      have WBN0 : v.ownBlock ≠ some wr.heap.size := fun e => absurd ((unhide hST).own.row.lt _ e).2 (by omega)
      have WFB := hide (show fb ≠ wr.heap.size from Nat.ne_of_lt (unhide hST).lt)
      have bX : Below wr.heap.size wr (wr.alloc (.cells (wcells ⟨(n : Int), s⟩).toArray 90)) := (Below.refl _ _).alloc (Nat.le_refl _) _
      have ST2 := hide ((unhide hST).below bX)
      have e0 : (wr.alloc (.cells (wcells ⟨(n : Int), s⟩).toArray 90)).cell? ⟨wr.heap.size, 0, none⟩ = some (.int .i64 (n : Int)) := (cell_new rfl).trans rfl
      have RX := hide (show Row (wr.alloc (.cells (wcells ⟨(n : Int), s⟩).toArray 90)) (some ⟨wr.heap.size, 1, none⟩) 16 s from ⟨hs16, fun i hi => ⟨_, 1, rfl, box_range wr _ s i _ (by simp [List.getD, hs16, hi])⟩⟩)
      clear bX hST HRG HI hl17
      generalize wr.alloc (.cells (wcells ⟨(n : Int), s⟩).toArray 90) = W2 at *
      generalize wr.heap.size = wb at *
      have g1 : W2.cell? ⟨fb, 1, none⟩ = some v := (heap_at (unhide ST2).box 1).1
      have hfb2 := (unhide ST2).lt
      have hwb : wb < W2.heap.size := cell_lt e0
      have CL := hide (clone_any wb 1 16 16 s W2.drew (unhide RX) (by omega))
      have SK := hide (show ∀ u, Below W2.heap.size W2 u → u.cell? ⟨fb, 1, none⟩ = some v ∧ u.cell? ⟨wb, 0, none⟩ = some (.int .i64 (n : Int)) from fun u hb => ⟨(hb.cell (p := ⟨fb, 1, none⟩) hfb2).trans g1, (hb.cell (p := ⟨wb, 0, none⟩) hwb).trans e0⟩)
      have WBN := hide WBN0
      refine wp_region_held_drew (S := (fun u => u.cell? ⟨wb, 0, none⟩ = some (.int .i64 (n : Int)))) (by kernel_rfl) (e0) (fun hHeld => ?_)
      refine anyH_take 0 20 (v := ?v1) rfl rfl (by kernel_rfl) (by kernel_rfl) (by kernel_rfl) (fun _ _ _ h => h) (by rfl) ?h1 hHeld ?r1
      case h1 => (intro w hSw; (try dsimp only at hSw); go_simp; try (with_reducible rfl))
      simp only [Act.put, List.setIfInBounds_toArray, List.set_cons_zero, List.set_cons_succ]
      refine anyH_take 2 22 (v := ?v2) rfl rfl (by kernel_rfl) (by kernel_rfl) (by kernel_rfl) (fun _ _ _ h => h) (by rfl) ?h2 hHeld ?r2
      case h2 => (intro w hSw; (try dsimp only at hSw); go_simp; try (with_reducible rfl))
      simp only [Act.put, List.setIfInBounds_toArray, List.set_cons_zero, List.set_cons_succ]
      refine anyH_take 3 23 (v := ?v3) rfl rfl (by kernel_rfl) (by kernel_rfl) (by kernel_rfl) (fun _ _ _ h => h) (by rfl) ?h3 hHeld ?r3
      case h3 => (intro w hSw; (try dsimp only at hSw); go_simp; try (with_reducible rfl))
      simp only [Act.put, List.setIfInBounds_toArray, List.set_cons_zero, List.set_cons_succ]
      refine anyH_take 4 24 (v := ?v4) rfl rfl (by kernel_rfl) (by kernel_rfl) (by kernel_rfl) (fun _ _ _ h => h) (by rfl) ?h4 hHeld ?r4
      case h4 => (intro w hSw; (try dsimp only at hSw); go_simp; try (with_reducible rfl))
      simp only [Act.put, List.setIfInBounds_toArray, List.set_cons_zero, List.set_cons_succ]
      refine anyH_take 5 25 (v := ?v5) rfl rfl (by kernel_rfl) (by kernel_rfl) (by kernel_rfl) (fun _ _ _ h => h) (by rfl) ?h5 hHeld ?r5
      case h5 => (intro w hSw; (try dsimp only at hSw); go_simp; try (with_reducible rfl))
      simp only [Act.put, List.setIfInBounds_toArray, List.set_cons_zero, List.set_cons_succ]
      refine wpAnyH_ready (rs := [1, 6]) (by kernel_rfl) (by simp) ?_
      refine AllReadyH.cons rfl (fun K hK => ?_) (AllReadyH.cons rfl (fun K hK => ?_) AllReadyH.nil)
      · have y1 : W2.drew.cell? ⟨fb, 1, none⟩ = some v := g1
        go_simp
        refine hK.out _ _ (hHeld) (fun hHeld => ?_)
        clear hK K
        refine wpAnyH_ready (rs := [6]) (by kernel_rfl) (by simp) ?_
        refine AllReadyH.cons rfl (fun K hK => ?_) AllReadyH.nil
        go_simp
        refine (unhide CL).mono ?_
        rintro e u6 ⟨g, cp, rfl, ho, hb⟩
        replace hb : Below W2.heap.size W2 u6 := ⟨hb.os, hb.tape, hb.output, hb.size, hb.block⟩
        have ST6 := hide ((unhide ST2).below hb)
        have hg6 := (World.ownsRow.lt ho g rfl)
        have hgW : W2.heap.size ≤ g := hg6.1
        have C6 := hide (show s.length ≤ cp by rw [hs16]; exact owns_cap ho)
        have D6 := hide (show qDat u6 (fb + 1) ⟨⟨(n : Int), s⟩, g, cp⟩ from (by obtain ⟨a, c, e, hbr⟩ := br_of_owns ho; injection e with e1 e2 e3; subst e1; exact ⟨by rw [hs16] at hbr ⊢; exact hbr.row, fun x hx => ⟨Nat.le_trans (show fb + 1 ≤ W2.drew.heap.size from hfb2) (hbr.own x hx).1, (hbr.own x hx).2⟩⟩))
        have N6 := hide (show (∀ i (hi : i < hs.length), hs[i].g ≠ g) ∧ v.ownBlock ≠ some g from ⟨fun i hi e => by have := (qDat.lt ((unhide ST2).own.dat i hi)).2; omega, fun e => by have := ((unhide ST2).own.row.lt g e).2; omega⟩)
        have B6 := hide hb
        obtain ⟨v9, u9, hrun, ho9, hg9, hn9⟩ := qw_app (h := ⟨⟨(n : Int), s⟩, g, cp⟩) (unhide ST6).own (unhide D6) (unhide N6).1 (unhide N6).2 (unhide C6) (by omega) (by have := (unhide ST6).lt; omega)
        obtain ⟨g9, l9, cap9, rfl⟩ : ∃ g l c, v9 = .slice (some ⟨g, 0, none⟩) l c := by rcases ho9.row.2 with ⟨e, _⟩ | ⟨g9, cap9, _, e, _⟩; exact absurd e hn9; exact ⟨_, _, _, e⟩
        simp only [hs16] at hrun hg9
        have F9 := hide ((unhide ST6).put ho9 hg9)
        have E9 := hide (show u9.cell? ⟨fb, 1, none⟩ = some v ∧ u9.cell? ⟨wb, 0, none⟩ = some (.int .i64 (n : Int)) ∧ u9.frozen? ⟨fb, 1, none⟩ = false from (by
    have hlow := fun q (hq : v.ownBlock = some q) => ((unhide ST6).own.row.lt q hq).1
    have hwbne : v.ownBlock ≠ some wb := unhide WBN
    have k1 : u9.heap[fb]? = u6.heap[fb]? := (hg9.block fb (by have := (unhide ST6).lt; simp; omega) (fun e => by have := hlow fb e.symm; omega)).trans (((Below.refl u6.heap.size u6).alloc (Nat.le_refl _) _).block fb (unhide ST6).lt)
    have k2 : u9.heap[wb]? = u6.heap[wb]? := (hg9.block wb (by have := (unhide B6).size; simp; omega) (fun e => hwbne e.symm)).trans (((Below.refl u6.heap.size u6).alloc (Nat.le_refl _) _).block wb (by have := (unhide B6).size; omega))
    have q := unhide SK u6 (unhide B6)
    exact ⟨(World.cell?_of_block (w := u6) (a := ⟨fb, 1, none⟩) k1).trans q.1, (World.cell?_of_block (w := u6) (a := ⟨wb, 0, none⟩) k2).trans q.2, by simp only [World.frozen?, k1, (unhide ST6).box]; simp⟩))
        clear ho hb hg6 ho9 hg9 hn9
        refine hK.out _ _ ((unhide SK _ (unhide B6)).2) (fun hHeld => ?_)
        clear hK K
        refine anyH_take 7 27 (v := ?v6) rfl rfl (by kernel_rfl) (by kernel_rfl) (by kernel_rfl) (fun _ _ _ h => h) (by rfl) ?h6 hHeld ?r6
        case h6 => (intro w hSw; (try dsimp only at hSw); go_simp; try (with_reducible rfl))
        simp only [Act.put, List.setIfInBounds_toArray, List.set_cons_zero, List.set_cons_succ]
        refine wpAnyH_ready (rs := [8]) (by kernel_rfl) (by simp) ?_
        refine AllReadyH.cons rfl (fun K hK => ?_) AllReadyH.nil
        go_simp
        refine hK.out _ _ ((cell_old (by have := (unhide B6).size; simp; omega)).trans (unhide SK _ (unhide B6)).2) (fun hHeld => ?_)
        clear hK K
        refine wpAnyH_ready (rs := [9]) (by kernel_rfl) (by simp) ?_
        refine AllReadyH.cons rfl (fun K hK => ?_) AllReadyH.nil
        refine sc_stepApp rfl (.tmp 21) (.tmp 28) 26 rfl _ _ _ u9 (by first | rfl | (simp [Act.eval]; done) | (simp [Act.eval, Act.put]; done)) (by first | rfl | (simp [Act.eval]; done) | (simp [Act.eval, Act.put]; done)) hrun ?_
        refine hK.out _ _ ((unhide E9).2.1) (fun hHeld => ?_)
        clear hK K
        refine anyH_take 10 30 (v := ?v7) rfl rfl (by kernel_rfl) (by kernel_rfl) (by kernel_rfl) (fun _ _ _ h => h) (by rfl) ?h7 hHeld ?r7
        case h7 => (intro w hSw; (try dsimp only at hSw); go_simp; try (with_reducible rfl))
        simp only [Act.put, List.setIfInBounds_toArray]
        refine wpAnyH_ready (rs := [11]) (by kernel_rfl) (by simp) ?_
        refine AllReadyH.cons rfl (fun K hK => ?_) AllReadyH.nil
        have z1 := (unhide E9).1
        have z2 := (unhide E9).2.2
        have HS9 : (u9.setCell ⟨fb, 1, none⟩ (.slice (some ⟨g9, 0, none⟩) l9 cap9)).cell? ⟨wb, 0, none⟩ = some (.int .i64 (n : Int)) := (World.cell?_setCell_other _ _ _ _ (by intro e; injection e with e; exact absurd e (unhide WFB))).trans (unhide E9).2.1
        go_simp
        refine hK.out _ _ (HS9) (fun hHeld => ?_)
        clear hK K
        refine wpAnyH_done (by kernel_rfl) ?_ _
        go_wp2_with fail
        go_roundw
        case rel => exact ⟨k + 1, _, _, by omega, by go_num, unhide F9, by show List.map _ _ = _; rw [List.map_append]; exact unhide hX1⟩
        case measure => simp [intOf]; omega
      · go_simp
        refine (unhide CL).mono ?_
        rintro e u6 ⟨g, cp, rfl, ho, hb⟩
        replace hb : Below W2.heap.size W2 u6 := ⟨hb.os, hb.tape, hb.output, hb.size, hb.block⟩
        have ST6 := hide ((unhide ST2).below hb)
        have hg6 := (World.ownsRow.lt ho g rfl)
        have hgW : W2.heap.size ≤ g := hg6.1
        have C6 := hide (show s.length ≤ cp by rw [hs16]; exact owns_cap ho)
        have D6 := hide (show qDat u6 (fb + 1) ⟨⟨(n : Int), s⟩, g, cp⟩ from (by obtain ⟨a, c, e, hbr⟩ := br_of_owns ho; injection e with e1 e2 e3; subst e1; exact ⟨by rw [hs16] at hbr ⊢; exact hbr.row, fun x hx => ⟨Nat.le_trans (show fb + 1 ≤ W2.drew.heap.size from hfb2) (hbr.own x hx).1, (hbr.own x hx).2⟩⟩))
        have N6 := hide (show (∀ i (hi : i < hs.length), hs[i].g ≠ g) ∧ v.ownBlock ≠ some g from ⟨fun i hi e => by have := (qDat.lt ((unhide ST2).own.dat i hi)).2; omega, fun e => by have := ((unhide ST2).own.row.lt g e).2; omega⟩)
        have B6 := hide hb
        obtain ⟨v9, u9, hrun, ho9, hg9, hn9⟩ := qw_app (h := ⟨⟨(n : Int), s⟩, g, cp⟩) (unhide ST6).own (unhide D6) (unhide N6).1 (unhide N6).2 (unhide C6) (by omega) (by have := (unhide ST6).lt; omega)
        obtain ⟨g9, l9, cap9, rfl⟩ : ∃ g l c, v9 = .slice (some ⟨g, 0, none⟩) l c := by rcases ho9.row.2 with ⟨e, _⟩ | ⟨g9, cap9, _, e, _⟩; exact absurd e hn9; exact ⟨_, _, _, e⟩
        simp only [hs16] at hrun hg9
        have F9 := hide ((unhide ST6).put ho9 hg9)
        have E9 := hide (show u9.cell? ⟨fb, 1, none⟩ = some v ∧ u9.cell? ⟨wb, 0, none⟩ = some (.int .i64 (n : Int)) ∧ u9.frozen? ⟨fb, 1, none⟩ = false from (by
    have hlow := fun q (hq : v.ownBlock = some q) => ((unhide ST6).own.row.lt q hq).1
    have hwbne : v.ownBlock ≠ some wb := unhide WBN
    have k1 : u9.heap[fb]? = u6.heap[fb]? := (hg9.block fb (by have := (unhide ST6).lt; simp; omega) (fun e => by have := hlow fb e.symm; omega)).trans (((Below.refl u6.heap.size u6).alloc (Nat.le_refl _) _).block fb (unhide ST6).lt)
    have k2 : u9.heap[wb]? = u6.heap[wb]? := (hg9.block wb (by have := (unhide B6).size; simp; omega) (fun e => hwbne e.symm)).trans (((Below.refl u6.heap.size u6).alloc (Nat.le_refl _) _).block wb (by have := (unhide B6).size; omega))
    have q := unhide SK u6 (unhide B6)
    exact ⟨(World.cell?_of_block (w := u6) (a := ⟨fb, 1, none⟩) k1).trans q.1, (World.cell?_of_block (w := u6) (a := ⟨wb, 0, none⟩) k2).trans q.2, by simp only [World.frozen?, k1, (unhide ST6).box]; simp⟩))
        clear ho hb hg6 ho9 hg9 hn9
        refine hK.out _ _ ((unhide SK _ (unhide B6)).2) (fun hHeld => ?_)
        clear hK K
        refine anyH_take 7 27 (v := ?v8) rfl rfl (by kernel_rfl) (by kernel_rfl) (by kernel_rfl) (fun _ _ _ h => h) (by rfl) ?h8 hHeld ?r8
        case h8 => (intro w hSw; (try dsimp only at hSw); go_simp; try (with_reducible rfl))
        simp only [Act.put, List.setIfInBounds_toArray, List.set_cons_zero, List.set_cons_succ]
        refine wpAnyH_ready (rs := [1, 8]) (by kernel_rfl) (by simp) ?_
        refine AllReadyH.cons rfl (fun K hK => ?_) (AllReadyH.cons rfl (fun K hK => ?_) AllReadyH.nil)
        · have y1 : u6.cell? ⟨fb, 1, none⟩ = some v := (unhide SK _ (unhide B6)).1
          go_simp
          refine hK.out _ _ (hHeld) (fun hHeld => ?_)
          clear hK K
          refine wpAnyH_ready (rs := [8]) (by kernel_rfl) (by simp) ?_
          refine AllReadyH.cons rfl (fun K hK => ?_) AllReadyH.nil
          go_simp
          refine hK.out _ _ ((cell_old (by have := (unhide B6).size; simp; omega)).trans (unhide SK _ (unhide B6)).2) (fun hHeld => ?_)
          clear hK K
          refine wpAnyH_ready (rs := [9]) (by kernel_rfl) (by simp) ?_
          refine AllReadyH.cons rfl (fun K hK => ?_) AllReadyH.nil
          refine sc_stepApp rfl (.tmp 21) (.tmp 28) 26 rfl _ _ _ u9 (by first | rfl | (simp [Act.eval]; done) | (simp [Act.eval, Act.put]; done)) (by first | rfl | (simp [Act.eval]; done) | (simp [Act.eval, Act.put]; done)) hrun ?_
          refine hK.out _ _ ((unhide E9).2.1) (fun hHeld => ?_)
          clear hK K
          refine anyH_take 10 30 (v := ?v9) rfl rfl (by kernel_rfl) (by kernel_rfl) (by kernel_rfl) (fun _ _ _ h => h) (by rfl) ?h9 hHeld ?r9
          case h9 => (intro w hSw; (try dsimp only at hSw); go_simp; try (with_reducible rfl))
          simp only [Act.put, List.setIfInBounds_toArray]
          refine wpAnyH_ready (rs := [11]) (by kernel_rfl) (by simp) ?_
          refine AllReadyH.cons rfl (fun K hK => ?_) AllReadyH.nil
          have z1 := (unhide E9).1
          have z2 := (unhide E9).2.2
          have HS9 : (u9.setCell ⟨fb, 1, none⟩ (.slice (some ⟨g9, 0, none⟩) l9 cap9)).cell? ⟨wb, 0, none⟩ = some (.int .i64 (n : Int)) := (World.cell?_setCell_other _ _ _ _ (by intro e; injection e with e; exact absurd e (unhide WFB))).trans (unhide E9).2.1
          go_simp
          refine hK.out _ _ (HS9) (fun hHeld => ?_)
          clear hK K
          refine wpAnyH_done (by kernel_rfl) ?_ _
          go_wp2_with fail
          go_roundw
          case rel => exact ⟨k + 1, _, _, by omega, by go_num, unhide F9, by show List.map _ _ = _; rw [List.map_append]; exact unhide hX1⟩
          case measure => simp [intOf]; omega
        · go_simp
          refine hK.out _ _ ((cell_old (by have := (unhide B6).size; simp; omega)).trans (unhide SK _ (unhide B6)).2) (fun hHeld => ?_)
          clear hK K
          refine wpAnyH_ready (rs := [1]) (by kernel_rfl) (by simp) ?_
          refine AllReadyH.cons rfl (fun K hK => ?_) AllReadyH.nil
          have y1 : (u6.alloc (.cells #[.int .i64 (n : Int), .slice (some ⟨g, 0, none⟩) 16 cp] 87)).cell? ⟨fb, 1, none⟩ = some v := (cell_old (by have := (unhide ST6).lt; simp; omega)).trans (unhide SK _ (unhide B6)).1
          go_simp
          refine hK.out _ _ (hHeld) (fun hHeld => ?_)
          clear hK K
          refine wpAnyH_ready (rs := [9]) (by kernel_rfl) (by simp) ?_
          refine AllReadyH.cons rfl (fun K hK => ?_) AllReadyH.nil
          refine sc_stepApp rfl (.tmp 21) (.tmp 28) 26 rfl _ _ _ u9 (by first | rfl | (simp [Act.eval]; done) | (simp [Act.eval, Act.put]; done)) (by first | rfl | (simp [Act.eval]; done) | (simp [Act.eval, Act.put]; done)) hrun ?_
          refine hK.out _ _ ((unhide E9).2.1) (fun hHeld => ?_)
          clear hK K
          refine anyH_take 10 30 (v := ?v10) rfl rfl (by kernel_rfl) (by kernel_rfl) (by kernel_rfl) (fun _ _ _ h => h) (by rfl) ?h10 hHeld ?r10
          case h10 => (intro w hSw; (try dsimp only at hSw); go_simp; try (with_reducible rfl))
          simp only [Act.put, List.setIfInBounds_toArray]
          refine wpAnyH_ready (rs := [11]) (by kernel_rfl) (by simp) ?_
          refine AllReadyH.cons rfl (fun K hK => ?_) AllReadyH.nil
          have z1 := (unhide E9).1
          have z2 := (unhide E9).2.2
          have HS9 : (u9.setCell ⟨fb, 1, none⟩ (.slice (some ⟨g9, 0, none⟩) l9 cap9)).cell? ⟨wb, 0, none⟩ = some (.int .i64 (n : Int)) := (World.cell?_setCell_other _ _ _ _ (by intro e; injection e with e; exact absurd e (unhide WFB))).trans (unhide E9).2.1
          go_simp
          refine hK.out _ _ (HS9) (fun hHeld => ?_)
          clear hK K
          refine wpAnyH_done (by kernel_rfl) ?_ _
          go_wp2_with fail
          go_roundw
          case rel => exact ⟨k + 1, _, _, by omega, by go_num, unhide F9, by show List.map _ _ = _; rw [List.map_append]; exact unhide hX1⟩
          case measure => simp [intOf]; omega
    · obtain rfl : k = S.ws.length := by omega
      have hfbw : w.heap.size ≤ fb := by omega
      have BE : Below fb w1 wr := (unhide HBA).trans (unhide hST).bel
      obtain ⟨av, nv, cv, rfl⟩ : ∃ a n c, v = .slice a n c := by
        rcases (unhide hST).own.row.2 with ⟨e, _⟩ | ⟨g9, cap9, _, e, _⟩
        · exact ⟨none, 0, 0, e⟩
        · exact ⟨_, _, _, e⟩
      have q0 := (BE.cell (p := ⟨w.heap.size, 0, none⟩) (show w.heap.size < fb by omega)).trans r0
      have q1 := (BE.cell (p := ⟨w.heap.size, 1, none⟩) (show w.heap.size < fb by omega)).trans r1
      have z0 := (BE.frozen (p := ⟨w.heap.size, 0, none⟩) (show w.heap.size < fb by omega)).trans f0
      have z1 := (BE.frozen (p := ⟨w.heap.size, 1, none⟩) (show w.heap.size < fb by omega)).trans f1
      have b0 : wr.cell? ⟨fb, 0, none⟩ = some hv := (heap_at (unhide hST).box 0).1
      have b1 : wr.cell? ⟨fb, 1, none⟩ = some (.slice av nv cv) := (heap_at (unhide hST).box 1).1
      rw [unhide HHV] at b0
      have hfl := (unhide hST).lt
      have hwl : w.heap.size < wr.heap.size := by omega
      have hne : ¬ fb = w.heap.size := by omega
      have M1 := hide (rn_mine_below (unhide HM) (show Below w1.heap.size w1 wr by rw [unhide HFB]; exact BE))
      have HBE := hide ((unhide BB).trans (BE.mono hfbw))
      have HXX := hide (show hs.map (·.X) = S.ws by rw [unhide hX, List.take_of_length_le (Nat.le_refl _)])
      clear r0 r1 f0 f1 BE hX
      go_wp2_with fail
      have M2 := hide (mine_set (mine_set (unhide M1) (show w.heap.size < w.heap.size + 1 by omega) 0 (.slice (some ⟨w.heap.size + 1, 0, none⟩) (S.hc * 16) (S.hc * 16))) (show w.heap.size < w.heap.size + 1 by omega) 1 (.slice av nv cv))
      have B2 := hide (((unhide HBE).setCell (p := ⟨w.heap.size, 0, none⟩) (Nat.le_refl _) (.slice (some ⟨w.heap.size + 1, 0, none⟩) (S.hc * 16) (S.hc * 16))).setCell (p := ⟨w.heap.size, 1, none⟩) (Nat.le_refl _) (.slice av nv cv))
      have O2 := hide ((unhide hST).own.wr (w' := (wr.setCell ⟨w.heap.size, 0, none⟩ (.slice (some ⟨w.heap.size + 1, 0, none⟩) (S.hc * 16) (S.hc * 16))).setCell ⟨w.heap.size, 1, none⟩ (.slice av nv cv)) (P := fun i => i = w.heap.size) ⟨rfl, rfl, rfl, by simp [World.setCell], fun k _ hk => (Below.heap_setCell _ _ _ _ hk).trans (Below.heap_setCell _ _ _ _ hk)⟩ (fun i hi e => by have := ((unhide hST).own.lt i hi).1; omega))
      refine bodyPost_ret (v := .agg #[.slice (some ⟨w.heap.size + 1, 0, none⟩) (S.hc * 16) (S.hc * 16), .slice av nv cv]) (by simp [results, Try.results26, go_sem, q0, q1]) rfl ?_
      refine ⟨w.heap.size + 1, S.hc * 16, fb + 1, .slice av nv cv, hs, by rw [unhide HL16], by rw [unhide HL16]; exact mine_mono (unhide M2) (by omega), unhide O2, by omega, by omega, unhide HXX, unhide B2⟩
end Go.Proofs.Ytjhmammoakiknaa

namespace Go.Proofs.Ytjhmammoakiknaa
open Go.RowKit

theorem infoI64 : (Try.prog.info? 3).map (fun i => (i.zero, i.size, i.bytes)) = some (some (.int .i64 0), 1, 8) := by kernel_rfl
abbrev NOwns (w : World) (B : Nat) (v : Value) (xs : List Int) : Prop := w.ownsRow B 3 1 v xs.length (xs.map (Value.int .i64))
theorem NOwns.nil (w : World) (B : Nat) : NOwns w B (.slice none 0 0) [] := World.ownsRow_nil _ _ _ _
theorem nowns_below {w w' : World} {B : Nat} {v : Value} {xs : List Int} (h : NOwns w B v xs) (hb : Below w.heap.size w w') : NOwns w' B v xs :=
  rb_ownsRow_below h hb
theorem NOwns.lit {w : World} {B : Nat} (hB : B ≤ w.heap.size) : NOwns (w.alloc (.cells #[] 3)) B (.slice (some ⟨w.heap.size, 0, none⟩) 0 0) [] :=
  World.ownsRow_lit _ _ _ hB (by unfold maxLen; simp) rfl
theorem NOwns.down {w : World} {B C : Nat} {v : Value} {xs : List Int} (h : NOwns w B v xs) (hc : C ≤ B) : NOwns w C v xs := by
  refine ⟨h.1, ?_⟩
  rcases h.2 with h | ⟨g, cap, cur, e, hb, r⟩
  · exact .inl h
  · exact .inr ⟨g, cap, cur, e, Nat.le_trans hc hb, r⟩
theorem n_app {w : World} {B : Nat} {v : Value} {xs : List Int} {x : Int} (ho : NOwns w B v xs) (hz : xs.length ≤ 1000000) (hB : B ≤ w.heap.size) :
    ∃ v' w', (Builtin.append_ #[25, 25] 25 #[v, .slice (some ⟨w.heap.size, 0, none⟩) 1 1]).run Try.prog (w.alloc (.cells #[.int .i64 x] 3)) = .ok v' w' ∧ NOwns w' B v' (xs ++ [x]) ∧ (w.alloc (.cells #[.int .i64 x] 3)).grownBy w' v.ownBlock ∧ v' ≠ .slice none 0 0 ∧ (v'.ownBlock = v.ownBlock ∨ v'.ownBlock = some (w.heap.size + 1)) := by
  obtain ⟨i0, hi0, hz0, hz1, hz2⟩ := info_parts infoI64
  obtain ⟨W, hW⟩ : ∃ W, W = w.alloc (.cells #[.int .i64 x] 3) := ⟨_, rfl⟩
  have bA : Below w.heap.size w W := by rw [hW]; exact (Below.refl _ _).alloc (Nat.le_refl _) _
  have zW : W.heap.size = w.heap.size + 1 := by rw [hW]; simp
  have hcells : ∀ j u, ([Value.int .i64 x])[j]? = some u → W.cell? ((⟨w.heap.size, 0, none⟩ : Addr).add j) = some u := fun j u hu => by
    have hj : j < 1 := by simpa using (List.getElem?_eq_some_iff.1 hu).1
    obtain rfl : j = 0 := by omega
    have e2 : (⟨w.heap.size, 0, none⟩ : Addr).add 0 = ⟨w.heap.size, 0, none⟩ := by unfold Addr.add; split <;> simp_all
    rw [e2, hW]
    exact rb_cell_new rfl (by simpa using hu)
  have hoa := nowns_below ho bA
  rw [← hW]
  obtain ⟨v', w', hrun, ho', hg, hn, hloc⟩ := app_at (P := Try.prog) (w := W) (B := B) 25 25 3 Try.underlying25 hi0 hz0 hz1 hz2 rfl (by decide) hoa ⟨w.heap.size, 0, none⟩ 1 1 [Value.int .i64 x] (by simp) hcells (by simp [Value.oneCell']) (by unfold maxLen; omega) (by omega) (by omega) (fun _ => by omega)
  refine ⟨v', w', hrun, ?_, hg, hn, by rw [zW] at hloc; exact hloc⟩
  unfold NOwns
  rw [List.map_append, List.length_append]
  exact ho'
end Go.Proofs.Ytjhmammoakiknaa

namespace Go.Proofs.Ytjhmammoakiknaa
open Go.RowKit

structure ZaR where
  kind : Int
  at_ : Int
  torn : Int
  d : Sl
  e : Sl
/-- The record as it lies in memory. -/
def zv (d : ZaR) : Value := .agg #[.int .i64 d.kind, .int .i64 d.at_, .int .i64 d.torn, .slice d.d.a d.d.n d.d.c, .slice d.e.a d.e.n d.e.c]
/-- A slice of records as it reads. -/
def ZRow (w : World) (a : Option Addr) (n : Nat) (ds : List ZaR) : Prop :=
  ds.length = n ∧ ∀ i (hi : i < ds.length), ∃ b off, a = some ⟨b, off, none⟩ ∧ w.cell? ⟨b, off + i * 5, none⟩ = some (.int .i64 ds[i].kind) ∧ w.cell? ⟨b, off + i * 5 + 1, none⟩ = some (.int .i64 ds[i].at_) ∧ w.cell? ⟨b, off + i * 5 + 2, none⟩ = some (.int .i64 ds[i].torn) ∧ w.cell? ⟨b, off + i * 5 + 3, none⟩ = some (.slice ds[i].d.a ds[i].d.n ds[i].d.c) ∧ w.cell? ⟨b, off + i * 5 + 4, none⟩ = some (.slice ds[i].e.a ds[i].e.n ds[i].e.c)
theorem ZRow.below {w w' : World} {a : Option Addr} {n : Nat} {ds : List ZaR} (h : ZRow w a n ds) (hb : Below w.heap.size w w') : ZRow w' a n ds := by
  refine ⟨h.1, fun i hi => ?_⟩
  obtain ⟨b, off, e, c0, c1, c2, c3, c4⟩ := h.2 i hi
  have hbl : b < w.heap.size := cell_lt c0
  exact ⟨b, off, e, (hb.cell (p := ⟨b, off + i * 5, none⟩) hbl).trans c0, (hb.cell (p := ⟨b, off + i * 5 + 1, none⟩) hbl).trans c1, (hb.cell (p := ⟨b, off + i * 5 + 2, none⟩) hbl).trans c2, (hb.cell (p := ⟨b, off + i * 5 + 3, none⟩) hbl).trans c3, (hb.cell (p := ⟨b, off + i * 5 + 4, none⟩) hbl).trans c4⟩
/-- The cells of records. -/
def zcs : List ZaR → List Value
  | [] => []
  | d :: r => .int .i64 d.kind :: .int .i64 d.at_ :: .int .i64 d.torn :: .slice d.d.a d.d.n d.d.c :: .slice d.e.a d.e.n d.e.c :: zcs r
theorem zcs_len : ∀ ds : List ZaR, (zcs ds).length = ds.length * 5
  | [] => rfl
  | d :: r => by simp only [zcs, List.length_cons, zcs_len r]; omega
theorem zcs_append : ∀ a b : List ZaR, zcs (a ++ b) = zcs a ++ zcs b
  | [], _ => rfl
  | d :: r, b => by simp only [List.cons_append, zcs, zcs_append r b]
theorem zcs_at : ∀ (ds : List ZaR) (i : Nat) (hi : i < ds.length), (zcs ds)[i * 5]? = some (.int .i64 ds[i].kind) ∧ (zcs ds)[i * 5 + 1]? = some (.int .i64 ds[i].at_) ∧ (zcs ds)[i * 5 + 2]? = some (.int .i64 ds[i].torn) ∧ (zcs ds)[i * 5 + 3]? = some (.slice ds[i].d.a ds[i].d.n ds[i].d.c) ∧ (zcs ds)[i * 5 + 4]? = some (.slice ds[i].e.a ds[i].e.n ds[i].e.c)
  | [], _, hi => by simp at hi
  | d :: r, 0, _ => ⟨rfl, rfl, rfl, rfl, rfl⟩
  | d :: r, i + 1, hi => by
    have h := zcs_at r i (by simpa using hi)
    rw [show (i + 1) * 5 = i * 5 + 1 + 1 + 1 + 1 + 1 by omega, show i * 5 + 1 + 1 + 1 + 1 + 1 + 2 = i * 5 + 2 + 1 + 1 + 1 + 1 + 1 by omega, show i * 5 + 1 + 1 + 1 + 1 + 1 + 3 = i * 5 + 3 + 1 + 1 + 1 + 1 + 1 by omega, show i * 5 + 1 + 1 + 1 + 1 + 1 + 4 = i * 5 + 4 + 1 + 1 + 1 + 1 + 1 by omega]
    simp only [zcs, List.getElem?_cons_succ, List.getElem_cons_succ]
    exact h
theorem zcs_set (ds : List ZaR) (i : Nat) (d : ZaR) : zcs (ds.set i d) = ((((((zcs ds).set (i * 5) (.int .i64 d.kind)).set (i * 5 + 1) (.int .i64 d.at_)).set (i * 5 + 2) (.int .i64 d.torn)).set (i * 5 + 3) (.slice d.d.a d.d.n d.d.c)).set (i * 5 + 4) (.slice d.e.a d.e.n d.e.c)) := by
  induction ds generalizing i with
  | nil => rfl
  | cons x r ih =>
    cases i with
    | zero => rfl
    | succ i =>
      rw [List.set_cons_succ, show (i + 1) * 5 = i * 5 + 1 + 1 + 1 + 1 + 1 by omega, show i * 5 + 1 + 1 + 1 + 1 + 1 + 2 = i * 5 + 2 + 1 + 1 + 1 + 1 + 1 by omega, show i * 5 + 1 + 1 + 1 + 1 + 1 + 3 = i * 5 + 3 + 1 + 1 + 1 + 1 + 1 by omega, show i * 5 + 1 + 1 + 1 + 1 + 1 + 4 = i * 5 + 4 + 1 + 1 + 1 + 1 + 1 by omega]
      simp only [zcs, List.set_cons_succ, ih]
theorem zcs_one (ds : List ZaR) : ∀ u ∈ zcs ds, u.oneCell' = true := by
  induction ds with
  | nil => intro u hu; simp [zcs] at hu
  | cons e r ih =>
    intro u hu
    simp only [zcs, List.mem_cons] at hu
    rcases hu with rfl | rfl | rfl | rfl | rfl | hu
    · rfl
    · rfl
    · rfl
    · rfl
    · rfl
    · exact ih u hu
/-- A slice of records that the call owns from block B on. -/
abbrev ZOwns (w : World) (B : Nat) (v : Value) (ds : List ZaR) : Prop := w.ownsRow B 34 5 v ds.length (zcs ds)
theorem zrow_of_owns {w : World} {B n c : Nat} {a : Option Addr} {ds : List ZaR} (h : ZOwns w B (.slice a n c) ds) : ZRow w a n ds := by
  have h' := h
  obtain ⟨hl, h⟩ := h
  rcases h with ⟨e, hn⟩ | ⟨g, cap, cur, e, hb, hh, hc, hm, hs, ht⟩
  · injection e with e1 e2 e3
    subst e1 e2 e3
    exact ⟨hn, fun i hi => absurd hi (by omega)⟩
  · injection e with e1 e2 e3
    subst e1 e2 e3
    refine ⟨rfl, fun i hi => ⟨g, 0, rfl, ?_, ?_, ?_, ?_, ?_⟩⟩
    · rw [Nat.zero_add, h'.cellAt (i * 5) (by omega), (zcs_at ds i hi).1]
    · rw [Nat.zero_add, h'.cellAt (i * 5 + 1) (by omega), (zcs_at ds i hi).2.1]
    · rw [Nat.zero_add, h'.cellAt (i * 5 + 2) (by omega), (zcs_at ds i hi).2.2.1]
    · rw [Nat.zero_add, h'.cellAt (i * 5 + 3) (by omega), (zcs_at ds i hi).2.2.2.1]
    · rw [Nat.zero_add, h'.cellAt (i * 5 + 4) (by omega), (zcs_at ds i hi).2.2.2.2]
theorem zowns_below {w w' : World} {B : Nat} {v : Value} {ds : List ZaR} (h : ZOwns w B v ds) (hb : Below w.heap.size w w') : ZOwns w' B v ds := rb_ownsRow_below h hb
def noZ : ZaR := ⟨0, 0, 0, ⟨none, 0, 0⟩, ⟨none, 0, 0⟩⟩
/-- The first k of a list, the rest empty. -/
def filZ (ds : List ZaR) (k : Nat) : List ZaR := ds.take k ++ List.replicate (ds.length - k) noZ
theorem filZ_len (ds : List ZaR) {k : Nat} (h : k ≤ ds.length) : (filZ ds k).length = ds.length := by unfold filZ; simp; omega
theorem filZ_all (ds : List ZaR) : filZ ds ds.length = ds := by unfold filZ; simp
theorem filZ_set (ds : List ZaR) (k : Nat) (h : k < ds.length) : (filZ ds k).set k ds[k] = filZ ds (k + 1) := rb_fil_set ds noZ k h
theorem zcs_rep : ∀ n : Nat, zcs (List.replicate n noZ) = (List.replicate n [Value.int .i64 0, .int .i64 0, .int .i64 0, .slice none 0 0, .slice none 0 0]).flatten
  | 0 => rfl
  | n + 1 => by rw [List.replicate_succ, List.replicate_succ, List.flatten_cons, ← zcs_rep n]; rfl
theorem zmade (x0 x1 x2 x3 x4 : Value) : ∀ n : Nat, (madeCells #[x0, x1, x2, x3, x4] (n * 5)).toList = (List.replicate n [x0, x1, x2, x3, x4]).flatten := by
  intro n
  apply List.ext_getElem?
  intro j
  rw [show ∀ (k : Nat), (madeCells #[x0, x1, x2, x3, x4] (n * 5)).toList[k]? = if k < n * 5 then some (#[x0, x1, x2, x3, x4][k % 5]!) else none from fun k => by
    by_cases hk : k < n * 5 <;> simp [madeCells, hk]]
  induction n generalizing j with
  | zero => simp
  | succ n ih =>
    rw [List.replicate_succ, List.flatten_cons]
    match j with
    | 0 => simp
    | 1 => rw [if_pos (by omega)]; rfl
    | 2 => rw [if_pos (by omega)]; rfl
    | 3 => rw [if_pos (by omega)]; rfl
    | 4 => rw [if_pos (by omega)]; rfl
    | j + 5 =>
      rw [show ([x0, x1, x2, x3, x4] ++ (List.replicate n [x0, x1, x2, x3, x4]).flatten)[j + 5]? = (List.replicate n [x0, x1, x2, x3, x4]).flatten[j]? from rfl, ← ih j, Nat.add_mod_right]
      by_cases hj : j < n * 5
      · rw [if_pos hj, if_pos (by omega)]
      · rw [if_neg hj, if_neg (by omega)]
theorem zowns_made {w : World} {B g n : Nat} {ds : List ZaR} (hn : ds.length = n) (h : w.ownsRow B 34 5 (.slice (some ⟨g, 0, none⟩) n n) n (madeCells #[Value.int .i64 0, .int .i64 0, .int .i64 0, .slice none 0 0, .slice none 0 0] (n * 5)).toList) : ZOwns w B (.slice (some ⟨g, 0, none⟩) n n) (filZ ds 0) := by
  rw [zmade, ← zcs_rep] at h
  unfold ZOwns filZ
  rw [List.take_zero, List.nil_append, Nat.sub_zero, List.length_replicate, hn]
  exact h
theorem zowns_at {w : World} {B g n c : Nat} {ds : List ZaR} (h : ZOwns w B (.slice (some ⟨g, 0, none⟩) n c) ds) (i : Nat) (hi : i < ds.length) : w.cell? ⟨g, i * 5, none⟩ = some (.int .i64 ds[i].kind) ∧ w.cell? ⟨g, i * 5 + 1, none⟩ = some (.int .i64 ds[i].at_) ∧ w.cell? ⟨g, i * 5 + 2, none⟩ = some (.int .i64 ds[i].torn) ∧ w.cell? ⟨g, i * 5 + 3, none⟩ = some (.slice ds[i].d.a ds[i].d.n ds[i].d.c) ∧ w.cell? ⟨g, i * 5 + 4, none⟩ = some (.slice ds[i].e.a ds[i].e.n ds[i].e.c) := by
  obtain rfl := (zrow_of_owns h).1
  exact ⟨(h.cellAt (i * 5) (by omega)).trans (zcs_at _ i hi).1, (h.cellAt (i * 5 + 1) (by omega)).trans (zcs_at _ i hi).2.1, (h.cellAt (i * 5 + 2) (by omega)).trans (zcs_at _ i hi).2.2.1, (h.cellAt (i * 5 + 3) (by omega)).trans (zcs_at _ i hi).2.2.2.1, (h.cellAt (i * 5 + 4) (by omega)).trans (zcs_at _ i hi).2.2.2.2⟩
theorem zowns_fz {w : World} {B g n c : Nat} {ds : List ZaR} (h : ZOwns w B (.slice (some ⟨g, 0, none⟩) n c) ds) (j : Nat) : w.frozen? ⟨g, j, none⟩ = false := by
  obtain rfl := (zrow_of_owns h).1
  exact h.frozenAt j
/-- A record stored at a place. -/
theorem zowns_store {w : World} {B g n c : Nat} {ds : List ZaR} (h : ZOwns w B (.slice (some ⟨g, 0, none⟩) n c) ds) (i : Nat) (d : ZaR) :
    ZOwns (((((w.setCell ⟨g, i * 5, none⟩ (.int .i64 d.kind)).setCell ⟨g, i * 5 + 1, none⟩ (.int .i64 d.at_)).setCell ⟨g, i * 5 + 2, none⟩ (.int .i64 d.torn)).setCell ⟨g, i * 5 + 3, none⟩ (.slice d.d.a d.d.n d.d.c)).setCell ⟨g, i * 5 + 4, none⟩ (.slice d.e.a d.e.n d.e.c)) B (.slice (some ⟨g, 0, none⟩) n c) (ds.set i d) := by
  obtain rfl := (zrow_of_owns h).1
  obtain ⟨o1, _⟩ := World.ownsRow.stored h (i * 5) (.int .i64 d.kind)
  obtain ⟨o2, _⟩ := World.ownsRow.stored o1 (i * 5 + 1) (.int .i64 d.at_)
  obtain ⟨o3, _⟩ := World.ownsRow.stored o2 (i * 5 + 2) (.int .i64 d.torn)
  obtain ⟨o4, _⟩ := World.ownsRow.stored o3 (i * 5 + 3) (.slice d.d.a d.d.n d.d.c)
  obtain ⟨o5, _⟩ := World.ownsRow.stored o4 (i * 5 + 4) (.slice d.e.a d.e.n d.e.c)
  unfold ZOwns
  rw [zcs_set, List.length_set]
  exact o5
end Go.Proofs.Ytjhmammoakiknaa

namespace Go.Proofs.Ytjhmammoakiknaa
open Go.RowKit Go.Maps

/-- What a run gives: the codes, the device, the run's own code. -/
def ru (l : List ActD) : List Int × FD × Int := if 4096 < l.length then ([], ⟨[], []⟩, 2) else if 120 < l.length then ([], ⟨[], []⟩, 6) else ((runD l).2, (runD l).1, 0)
theorem ru_long {l : List ActD} (h : 4096 < l.length) : ru l = ([], ⟨[], []⟩, 2) := by unfold ru; rw [if_pos h]
theorem ru_many {l : List ActD} (h : ¬ 4096 < l.length) (h2 : 120 < l.length) : ru l = ([], ⟨[], []⟩, 6) := by unfold ru; rw [if_neg h, if_pos h2]
theorem ru_all {l : List ActD} (h2 : ¬ 120 < l.length) : ru l = ((runD l).2, (runD l).1, 0) := by unfold ru; rw [if_neg (by omega), if_neg h2]
/-- Acts as they lie in memory. -/
structure AIn (w : World) (a : Option Addr) (n : Nat) (zs : List ZaR) (l : List ActD) : Prop where
  row : ZRow w a n zs
  len : zs.length = l.length
  hd : ∀ i (h1 : i < zs.length) (h2 : i < l.length), zs[i].kind = l[i].kind ∧ zs[i].at_ = l[i].at_ ∧ zs[i].torn = l[i].torn
  dat : ∀ i (h1 : i < zs.length) (h2 : i < l.length), Row w zs[i].d.a zs[i].d.n l[i].data
  kep : ∀ i (h1 : i < zs.length) (h2 : i < l.length), BRow w zs[i].e.a zs[i].e.n l[i].keep
  lim : ∀ i (h1 : i < zs.length), zs[i].d.n ≤ 1048576 ∧ zs[i].d.n ≤ zs[i].d.c ∧ zs[i].d.c ≤ maxLen ∧ zs[i].e.n ≤ 1048576
theorem AIn.below {w w' : World} {a : Option Addr} {n : Nat} {zs : List ZaR} {l : List ActD} (h : AIn w a n zs l) (hb : Below w.heap.size w w') : AIn w' a n zs l :=
  ⟨h.row.below hb, h.len, h.hd, fun i h1 h2 => row_grow (h.dat i h1 h2) hb, fun i h1 h2 => (h.kep i h1 h2).grow hb, h.lim⟩
/-- What a run leaves: the codes lie below the device's bytes, and these below what waits. -/
def RuRes (l : List ActD) (w : World) (e : Ending) (w' : World) : Prop :=
  ∃ vc ah ch vw hs B, e = .returned (.tuple #[vc, .agg #[.slice ah (ru l).2.1.xs.length ch, vw], .int .i64 (ru l).2.2]) ∧ NOwns w' w.heap.size vc (ru l).1 ∧ Mine w' w.heap.size (.slice ah (ru l).2.1.xs.length ch) (ru l).2.1.xs ∧ QwOwn w' B vw hs ∧ hs.map (·.X) = (ru l).2.1.ws ∧ w.heap.size ≤ B ∧ (∀ g, vc.ownBlock = some g → g < B ∧ ∀ x, ah = some x → g < x.block) ∧ (∀ x, ah = some x → x.block < B) ∧ Below w.heap.size w w'
/-- A row of ints is no part of a device. -/
theorem dev_ints {w : World} {base p mh mr N B : Nat} {v : Value} {S : DS} (h : DevAt w base p mh mr v N S) {vc : Value} {xs : List Int} (ho : NOwns w B vc xs) {g : Nat} (hg : vc.ownBlock = some g) : g ≠ p ∧ g ≠ mh ∧ g ≠ mr ∧ v.ownBlock ≠ some g := by
  rcases ho.2 with ⟨rfl, _⟩ | ⟨g', cap, cur, rfl, _, hh, _⟩
  · cases hg
  · injection hg with hg
    have hg : g' = g := hg
    subst hg
    refine ⟨fun q => ?_, fun q => ?_, fun q => ?_, fun q => ?_⟩
    · obtain ⟨c, hc⟩ := h.kind
      rw [q, hc] at hh
      injection hh with hh
      injection hh with _ hh
      exact absurd hh (by decide)
    · obtain ⟨D, ⟨es, clock, hm, _⟩, _⟩ := h.held
      rw [q, hm] at hh
      cases hh
    · obtain ⟨D, ⟨es, clock, hm, _⟩, _⟩ := h.read
      rw [q, hm] at hh
      cases hh
    · rcases h.wait.2 with ⟨rfl, _⟩ | ⟨g2, cap2, cu, rfl, _, hg2, _⟩
      · cases q
      · injection q with q
        have q : g2 = g' := q
        rw [q, hh] at hg2
        injection hg2 with hg2
        injection hg2 with _ hg2
        exact absurd hg2 (by decide)
/-- A code appended leaves the device. -/
theorem dev_code {w w' : World} {base p N B : Nat} {S : DS} (h : Dev w base p N S) {vc : Value} {xs : List Int} (ho : NOwns w B vc xs) {o : Obj} (hg : (w.alloc o).grownBy w' vc.ownBlock) : Dev w' base p N S := by
  obtain ⟨mh, mr, v, hd⟩ := h
  refine ⟨mh, mr, v, hd.kept fun k hk hc => ?_⟩
  refine (hg.block k (by simp; omega) (fun e => ?_)).trans (((Below.refl w.heap.size w).alloc (Nat.le_refl _) o).block k hk)
  obtain ⟨h1, h2, h3, h4⟩ := dev_ints hd ho e.symm
  rcases hc with e | e | e | e
  · exact h1 e
  · exact h2 e
  · exact h3 e
  · exact h4 e
/-- What stays of rows that are no part of a device: the codes. -/
theorem NOwns.keep {w w' : World} {B : Nat} {v : Value} {xs : List Int} (h : NOwns w B v xs) (hk : KeepB w w') : NOwns w' B v xs := by
  refine ⟨h.1, ?_⟩
  rcases h.2 with h | ⟨g, cap, cur, e, hb, hh, r⟩
  · exact .inl h
  · exact .inr ⟨g, cap, cur, e, hb, (hk _ _ _ _ hh (by decide) (by decide)).trans hh, r⟩
end Go.Proofs.Ytjhmammoakiknaa

namespace Go.Proofs.Ytjhmammoakiknaa
open Go.RowKit Go.Maps

theorem ru_none (w : World) (B : Nat) : Mine w B (.slice none 0 0) [] := ⟨none, 0, rfl, Nat.le_refl _, Nat.zero_le _, ⟨rfl, fun _ hi => absurd hi (Nat.not_lt_zero _)⟩, fun _ h => by cases h⟩
theorem ru_empty {l : List ActD} {k : Int} (he : ru l = ([], ⟨[], []⟩, k)) {w w' : World} (hb : Below w.heap.size w w') : RuRes l w (.returned (.tuple #[.slice none 0 0, .agg #[.slice none 0 0, .slice none 0 0], .int .i64 k])) w' := by
  unfold RuRes
  rw [he]
  exact ⟨.slice none 0 0, none, 0, .slice none 0 0, [], w.heap.size, rfl, NOwns.nil _ _, ru_none _ _, QwOwn.nil _ _, rfl, Nat.le_refl _, (fun _ h => by cases h), (fun _ h => by cases h), hb⟩
set_option maxRecDepth 100000 in
set_option maxHeartbeats 4000000 in
theorem implFlashRun_any (a : Option Addr) (n c : Nat) (zs : List ZaR) (l : List ActD) (w : World) (hA : AIn w a n zs l) (hn : n ≤ 1048576) :
    Calls Try.prog 6 #[.slice a n c] w fun e w' => RuRes l w e w' := by
  have hzl : zs.length = n := hA.row.1
  have hll : l.length = n := by rw [← hA.len]; exact hzl
  have bb : ∀ o, Below w.heap.size w (w.alloc o) := fun o => (Below.refl _ _).alloc (Nat.le_refl _) _
  by_cases h1 : 4096 < n
  · have R := hide (fun o => ru_empty (ru_long (l := l) (by omega)) (bb o))
    clear bb hzl hll hA
    go_enter Try.func6, Try.ntmps6
    go_wp2_with fail
    exact bodyPost_ret (v := .tuple #[.slice none 0 0, .agg #[.slice none 0 0, .slice none 0 0], .int .i64 2]) (by simp [results, Try.results6, go_sem]) rfl (unhide R _)
  · by_cases h2 : 120 < n
    · have R := hide (fun o => ru_empty (ru_many (l := l) (by omega) (by omega)) (bb o))
      clear bb hzl hll hA
      go_enter Try.func6, Try.ntmps6
      go_wp2_with fail
      exact bodyPost_ret (v := .tuple #[.slice none 0 0, .agg #[.slice none 0 0, .slice none 0 0], .int .i64 6]) (by simp [results, Try.results6, go_sem]) rfl (unhide R _)
    · have HD := hide (fun W => deviceOf_any none 0 0 none 0 0 [] [] W ⟨rfl, fun _ hi => absurd hi (Nat.not_lt_zero _)⟩ ⟨rfl, fun _ hi => absurd hi (Nat.not_lt_zero _)⟩ (Nat.le_refl _) (Nat.zero_le _) (by omega) (by omega) (fun _ hi => absurd hi (Nat.not_lt_zero _)))
      have HA := hide hA
      have B0 := hide (bb (.cells #[.slice none 0 0, .slice none 0 0] 28))
      have hz : (w.alloc (.cells #[.slice none 0 0, .slice none 0 0] 28)).heap.size = w.heap.size + 1 := by simp
      have q0 : (w.alloc (.cells #[.slice none 0 0, .slice none 0 0] 28)).heap[w.heap.size]? = some (.cells #[.slice none 0 0, .slice none 0 0] 28 (0, 0)) := heap_alloc_last _ _
      have RU := hide (ru_all (l := l) (by omega))
      have HLL := hide hll
      have HZL := hide hzl
      clear bb hA hll hzl
      go_enter Try.func6, Try.ntmps6
      go_wp2_with fail
      generalize w.alloc (.cells #[.slice none 0 0, .slice none 0 0] 28) = w0 at *
      refine (unhide HD w0).mono ?_
      rintro e w1 ⟨rfl, hd1, hb1⟩
      have HZ := hide hz
      have Q1 := hide ((hb1.block w.heap.size (by omega)).trans q0)
      have B1 := hide ((unhide B0).trans (hb1.mono (by omega)))
      have D1 := hide (show Dev w1 (w.heap.size + 1) (w0.heap.size + 1 + 1) 5000 (devDS [] 0 []) by rw [hz] at hd1 ⊢; exact hd1)
      have I1 := hide (show DInv (devDS [] 0 []) ⟨[], []⟩ from by obtain ⟨mh, mr, v, d⟩ := hd1; exact DInv.of_held rfl rfl rfl rfl d.hok)
      have hs1 := hb1.size
      rw [hz] at hs1
      generalize w0.heap.size + 1 + 1 = p at *
      generalize devDS [] 0 [] = S0 at *
      clear hd1 hb1 HD q0 B0 hz
      go_wp2_with fail
      go_loopw [6, 21] (fun cv i wr => ∃ (k : Nat) (v : Value) (S : DS), k ≤ n ∧ v = cv ∧ i = .int .i64 (k : Int) ∧ Hid (Dev wr (w.heap.size + 1) p (5000 + 5000 * k) S) ∧ Hid (DInv S (runD (l.take k)).1) ∧ Hid (NOwns wr w1.heap.size v (runD (l.take k)).2) ∧ Hid (Below (w.heap.size + 1) w1 wr) ∧ w1.heap.size ≤ wr.heap.size) (fun _ i _ => n - (intOf i).toNat)
      case atStart => exact ⟨0, _, S0, Nat.zero_le _, rfl, rfl, unhide D1, unhide I1, NOwns.nil _ _, Below.refl _ _, Nat.le_refl _⟩
      case round =>
        clear D1 I1
        obtain ⟨k, v, S, hk, rfl, rfl, hD, hI, hO, hB, hsz⟩ := hrel
        have BW := hide ((unhide B1).trans ((unhide hB).mono (by omega)))
        by_cases hlt : k < n
        · have hkz : k < zs.length := by have := unhide HZL; omega
          have hkl : k < l.length := by have := unhide HLL; omega
          obtain ⟨b, off, ha, y0, y1, y2, y3, y4⟩ := (unhide HA).row.2 k hkz
          subst ha
          have hbl : b < w.heap.size := cell_lt y0
          obtain ⟨e1, e2, e3⟩ := (unhide HA).hd k hkz hkl
          have hdat := (unhide HA).dat k hkz hkl
          have hkep := (unhide HA).kep k hkz hkl
          obtain ⟨l1, l2, l3, l4⟩ := (unhide HA).lim k hkz
          have HT := hide (runD_take l k hkl)
          have hcl := runD_codes (l.take k)
          rw [List.length_take] at hcl
          obtain ⟨zk, hzk⟩ : ∃ z, z = zs[k] := ⟨_, rfl⟩
          obtain ⟨x, hx⟩ : ∃ x, x = l[k] := ⟨_, rfl⟩
          rw [← hzk] at y0 y1 y2 y3 y4 e1 e2 e3 hdat hkep l1 l2 l3 l4
          rw [← hx] at e1 e2 e3 hdat hkep HT
          obtain ⟨zkind, zat, ztorn, ⟨ad, nd, cd⟩, ⟨ak, nk, ck⟩⟩ := zk
          simp only at y0 y1 y2 y3 y4 e1 e2 e3 hdat hkep l1 l2 l3 l4
          subst e1 e2 e3
          clear hzk hx
          have x0 := ((unhide BW).cell (p := ⟨b, off + k * 5, none⟩) hbl).trans y0
          have x1 := ((unhide BW).cell (p := ⟨b, off + k * 5 + 1, none⟩) hbl).trans y1
          have x2 := ((unhide BW).cell (p := ⟨b, off + k * 5 + 2, none⟩) hbl).trans y2
          have x3 := ((unhide BW).cell (p := ⟨b, off + k * 5 + 3, none⟩) hbl).trans y3
          have x4 := ((unhide BW).cell (p := ⟨b, off + k * 5 + 4, none⟩) hbl).trans y4
          have HDO := hide (fun (W : World) (hW : Below wr.heap.size wr W) => do_dev (w.heap.size + 1) p (5000 + 5000 * k) S (runD (l.take k)).1 x ad nd cd ak nk ck W (by obtain ⟨mh, mr, v, d⟩ := unhide hD; exact ⟨mh, mr, v, d.below hW⟩) (unhide hI) (by omega) (by have := hW.size; omega) hdat.1.symm l1 l2 l3 l4 (fun w' h => row_grow hdat ((unhide BW).trans ((hW.mono (by omega)).trans (h.mono (by omega))))) (fun w' h => hkep.grow ((unhide BW).trans ((hW.mono (by omega)).trans (h.mono (by omega))))))
          have HCL := hide hcl
          clear y0 y1 y2 y3 y4 hdat hkep hcl
          go_wp2_with fail
          have bA : Below wr.heap.size wr (wr.alloc (.cells #[.int .i64 x.kind, .int .i64 x.at_, .int .i64 x.torn, .slice ad nd cd, .slice ak nk ck] 34)) := (Below.refl _ _).alloc (Nat.le_refl _) _
          generalize wr.alloc (.cells #[.int .i64 x.kind, .int .i64 x.at_, .int .i64 x.torn, .slice ad nd cd, .slice ak nk ck] 34) = W at *
          refine (unhide HDO W bA).mono ?_
          rintro e w3 ⟨S3, rfl, hd3, hi3, hb3, hk3⟩
          have O3 := hide ((unhide hO).keep ((KeepB.of_below bA).trans hk3))
          have B3 := hide ((unhide hB).trans ((bA.mono (by omega)).trans hb3))
          have s3 : w1.heap.size ≤ w3.heap.size := Nat.le_trans hsz (Nat.le_trans bA.size hb3.size)
          obtain ⟨cd4, hcd4⟩ : ∃ q, q = (actD (runD (l.take k)).1 x).2 := ⟨_, rfl⟩
          rw [← hcd4] at HT ⊢
          obtain ⟨v4, w4, hrun, ho4, hg4, hn4, _⟩ := n_app (x := cd4) (unhide O3) (by have := unhide HCL; omega) s3
          obtain ⟨g4, n4, c4, rfl⟩ : ∃ g m c, v4 = .slice (some ⟨g, 0, none⟩) m c := by
            rcases ho4.2 with ⟨e, _⟩ | ⟨g9, cap9, _, e, _⟩
            · exact absurd e hn4
            · exact ⟨_, _, _, e⟩
          have D4 := hide (show Dev w4 (w.heap.size + 1) p (5000 + 5000 * (k + 1)) S3 by have h := dev_code hd3 (unhide O3) hg4; rw [show 5000 + 5000 * (k + 1) = 5000 + 5000 * k + 5000 by omega]; exact h)
          have I4 := hide (show DInv S3 (runD (l.take (k + 1))).1 by rw [unhide HT]; exact hi3)
          have O4 := hide (show NOwns w4 w1.heap.size (.slice (some ⟨g4, 0, none⟩) n4 c4) (runD (l.take (k + 1))).2 by rw [unhide HT]; exact ho4)
          have B4 := hide (show Below (w.heap.size + 1) w1 w4 from (((unhide B3).alloc (by omega) _).grown hg4 (by simp; omega) (fun j hj => by have := ((unhide O3).lt j hj).1; omega)))
          have s4 : w1.heap.size ≤ w4.heap.size := Nat.le_trans (by simp; omega) hg4.size
          clear HDO bA hd3 hi3 hb3 hk3 ho4 hg4 hn4 hcd4 HT x0 x1 x2 x3 x4
          go_wp2_with (at_builtin; refine sc_wpApp rfl (.tmp 25) (.tmp 29) 25 rfl _ _ _ w4 rfl rfl hrun ?_)
          go_roundw
          case rel => exact ⟨k + 1, _, S3, by omega, rfl, by go_num, unhide D4, unhide I4, unhide O4, unhide B4, s4⟩
          case measure => simp [intOf]; omega
        · obtain rfl : k = n := by omega
          have HF := hide (flash_any (w.heap.size + 1) p (5000 + 5000 * k) S wr (unhide hD) (by rw [(unhide hI).wait]; exact (unhide hI).ok.2.2.1))
          have hta : l.take k = l := List.take_of_length_le (by have := unhide HLL; omega)
          rw [hta] at hI hO
          rw [(unhide hI).held, (unhide hI).wait] at HF
          have Q2 := hide (((unhide hB).block w.heap.size (by omega)).trans (unhide Q1))
          clear hta
          obtain ⟨ac, nc, cc, rfl⟩ : ∃ a m c, v = .slice a m c := by
            rcases (unhide hO).2 with ⟨e, _⟩ | ⟨g9, cap9, _, e, _⟩
            · exact ⟨none, 0, 0, e⟩
            · exact ⟨_, _, _, e⟩
          go_wp2_with fail
          refine (unhide HF).mono ?_
          rintro e w5 ⟨gh, ch, B, vw, hs, rfl, hM, hQ, hgh, hgB, hX, hb5⟩
          have hwr : w.heap.size < wr.heap.size := by omega
          have q5 := (hb5.block w.heap.size hwr).trans (unhide Q2)
          have O5 := nowns_below (unhide hO) hb5
          obtain ⟨av, nv, cv, rfl⟩ : ∃ a m c, vw = .slice a m c := by
            rcases hQ.row.2 with ⟨e, _⟩ | ⟨g9, cap9, _, e, _⟩
            · exact ⟨none, 0, 0, e⟩
            · exact ⟨_, _, _, e⟩
          have R := hide (show RuRes l w (.returned (.tuple #[.slice ac nc cc, .agg #[.slice (some ⟨gh, 0, none⟩) (runD l).1.xs.length ch, .slice av nv cv], .int .i64 0])) ((w5.setCell ⟨w.heap.size, 0, none⟩ (.slice (some ⟨gh, 0, none⟩) (runD l).1.xs.length ch)).setCell ⟨w.heap.size, 1, none⟩ (.slice av nv cv)) from by
            have W : WrB (fun i => i = w.heap.size) w5 ((w5.setCell ⟨w.heap.size, 0, none⟩ (.slice (some ⟨gh, 0, none⟩) (runD l).1.xs.length ch)).setCell ⟨w.heap.size, 1, none⟩ (.slice av nv cv)) := ⟨rfl, rfl, rfl, by simp [World.setCell], fun k _ hk => (Below.heap_setCell _ _ _ _ hk).trans (Below.heap_setCell _ _ _ _ hk)⟩
            unfold RuRes
            rw [unhide RU]
            exact ⟨.slice ac nc cc, some ⟨gh, 0, none⟩, ch, .slice av nv cv, hs, B, rfl, NOwns.down (rr_owns_wr O5 W (fun i hi e => by have := (O5.lt i hi).1; omega)) (by omega), mine_mono (mine_set (mine_set hM hwr 0 _) hwr 1 _) (by omega), hQ.wr W (fun i hi e => by have := (hQ.lt i hi).1; omega), hX, by omega,
              (fun g hg => by have := ((unhide hO).lt g hg).2; exact ⟨by omega, fun x hx => by cases hx; show g < gh; omega⟩), (fun x hx => by cases hx; exact hgB), (((unhide BW).trans (hb5.mono (by omega))).setCell (p := ⟨w.heap.size, 0, none⟩) (Nat.le_refl _) _).setCell (p := ⟨w.heap.size, 1, none⟩) (Nat.le_refl _) _⟩)
          have r0 := (heap_at q5 0).1
          have r1 := (heap_at q5 1).1
          have z0 := (heap_at q5 0).2
          have z1 := (heap_at q5 1).2
          clear hM hQ hX hb5 O5 q5
          go_wp2_with fail
          exact bodyPost_ret (v := .tuple #[.slice ac nc cc, .agg #[.slice (some ⟨gh, 0, none⟩) (runD l).1.xs.length ch, .slice av nv cv], .int .i64 0]) (by simp [results, Try.results6, go_sem, r0, r1]) rfl (unhide R)
end Go.Proofs.Ytjhmammoakiknaa

namespace Go.Proofs.Ytjhmammoakiknaa
open Go.RowKit

/-- Bytes that lie ahead of block B, or in a block of bytes. -/
def Far (w : World) (B : Nat) (a : Option Addr) : Prop := ∀ x, a = some x → x.block < w.heap.size ∧ (x.block < B ∨ ∃ cur fr, w.heap[x.block]? = some (.cells cur 5 fr))
theorem Far.grow {w w' : World} {B : Nat} {a : Option Addr} (h : Far w B a) (hb : Below w.heap.size w w') : Far w' B a := fun x hx => by
  obtain ⟨h0, h1⟩ := h x hx
  refine ⟨Nat.lt_of_lt_of_le h0 hb.size, ?_⟩
  rcases h1 with h1 | ⟨cur, fr, h1⟩
  · exact .inl h1
  · exact .inr ⟨cur, fr, (hb.block _ h0).trans h1⟩
/-- The cells of sectors with their numbers. -/
def WCs (w : World) (B : Nat) (cs : List Value) (ws : List WD) : Prop :=
  cs.length = ws.length * 2 ∧ ∀ i (hi : i < ws.length), cs[i * 2]? = some (.int .i64 ws[i].at_) ∧ ∃ a' c', cs[i * 2 + 1]? = some (.slice a' ws[i].xs.length c') ∧ (ws[i].xs.length ≤ maxLen ∧ ws[i].xs.length ≤ c') ∧ Row w a' ws[i].xs.length ws[i].xs ∧ (0 < ws[i].xs.length → Far w B a')
theorem WCs.grow {w w' : World} {B : Nat} {cs : List Value} {ws : List WD} (h : WCs w B cs ws) (hb : Below w.heap.size w w') : WCs w' B cs ws :=
  ⟨h.1, fun i hi => by
    obtain ⟨h0, a', c', h1, h2, h3, h4⟩ := h.2 i hi
    exact ⟨h0, a', c', h1, h2, row_grow h3 hb, fun hp => (h4 hp).grow hb⟩⟩
theorem WCs.snoc {w : World} {B : Nat} {cs : List Value} {ws : List WD} (h : WCs w B cs ws) (d : WD) (a : Option Addr) (c : Nat) (h1 : d.xs.length ≤ maxLen) (h2 : d.xs.length ≤ c) (h3 : Row w a d.xs.length d.xs) (h4 : 0 < d.xs.length → Far w B a) : WCs w B (cs ++ [.int .i64 d.at_, .slice a d.xs.length c]) (ws ++ [d]) := by
  refine ⟨by simp [h.1]; omega, fun i hi => ?_⟩
  simp only [List.length_append, List.length_cons, List.length_nil] at hi
  by_cases e : i < ws.length
  · obtain ⟨g0, a', c', g1, g2, g3⟩ := h.2 i e
    rw [List.getElem_append_left e]
    refine ⟨by rw [List.getElem?_append_left (by rw [h.1]; omega)]; exact g0, a', c', by rw [List.getElem?_append_left (by rw [h.1]; omega)]; exact g1, g2, g3⟩
  · obtain rfl : i = ws.length := by omega
    rw [List.getElem_append_right (Nat.le_refl _)]
    refine ⟨?_, a, c, ?_, ⟨by simpa using h1, by simpa using h2⟩, by simpa using h3, by simpa using h4⟩
    · rw [List.getElem?_append_right (by rw [h.1]; omega), h.1]; simp
    · rw [List.getElem?_append_right (by rw [h.1]; omega), h.1, show ws.length * 2 + 1 - ws.length * 2 = 1 by omega]; simp
theorem WCs.one {w : World} {B : Nat} {cs : List Value} {ws : List WD} (h : WCs w B cs ws) : ∀ u ∈ cs, u.oneCell' = true := by
  intro u hu
  obtain ⟨j, hj, rfl⟩ := List.getElem_of_mem hu
  have hl := h.1
  have hi : j / 2 < ws.length := by omega
  obtain ⟨h0, a', c', h1, _⟩ := h.2 (j / 2) hi
  by_cases e : j % 2 = 0
  · rw [show j / 2 * 2 = j by omega, List.getElem?_eq_getElem hj] at h0
    injection h0 with h0
    rw [h0]; rfl
  · rw [show j / 2 * 2 + 1 = j by omega, List.getElem?_eq_getElem hj] at h1
    injection h1 with h1
    rw [h1]; rfl
/-- The bytes of what waits lie ahead of block B, or in blocks of bytes. -/
def FarW (w : World) (B : Nat) (aw : Option Addr) (ws : List WD) : Prop := ∀ b off, aw = some ⟨b, off, none⟩ → ∀ i (_ : i < ws.length) a' m c', w.cell? ⟨b, off + i * 2 + 1, none⟩ = some (.slice a' m c') → 0 < ws[i].xs.length → Far w B a'
theorem FarW.all {w : World} {aw : Option Addr} {n : Nat} {ws : List WD} (h : WRow w aw n ws) : FarW w w.heap.size aw ws := by
  intro b off e i hi a' m c' hc hp x hx
  obtain ⟨b', off', e', _, a2, c2, hc2, _, hr⟩ := h.2 i hi
  rw [e] at e'
  injection e' with e'
  injection e' with e1 e2
  subst e1 e2
  rw [hc2] at hc
  injection hc with hc
  injection hc with hc
  subst hc
  obtain ⟨b1, o1, e1, hc1⟩ := hr.2 0 hp
  rw [hx] at e1
  cases e1
  exact ⟨cell_lt hc1, .inl (cell_lt hc1)⟩
theorem FarW.below {w w' : World} {B : Nat} {aw : Option Addr} {n : Nat} {ws : List WD} (hf : FarW w B aw ws) (h : WRow w aw n ws) (hb : Below w.heap.size w w') : FarW w' B aw ws := by
  intro b off e i hi a' m c' hc hp
  obtain ⟨b', off', e', c0, a2, c2, hc2, _, hr⟩ := h.2 i hi
  rw [e] at e'
  injection e' with e'
  injection e' with e1 e2
  subst e1 e2
  exact (hf b off e i hi a' m c' ((hb.cell (p := ⟨b, off + i * 2 + 1, none⟩) (cell_lt hc2)).symm.trans hc) hp).grow hb
/-- A row that reads so has such cells. -/
theorem WRow.cells {w : World} {b off n : Nat} {ws : List WD} (h : WRow w (some ⟨b, off, none⟩) n ws) {B : Nat} (hF : FarW w B (some ⟨b, off, none⟩) ws) : ∃ cs, WCs w B cs ws ∧ ∀ j u, cs[j]? = some u → w.cell? ((⟨b, off, none⟩ : Addr).add j) = some u := by
  have key : ∀ k, k ≤ ws.length → ∃ cs, WCs w B cs (ws.take k) ∧ ∀ j u, cs[j]? = some u → w.cell? ⟨b, off + j, none⟩ = some u := by
    intro k
    induction k with
    | zero => intro _; exact ⟨[], ⟨rfl, fun i hi => by simp at hi⟩, fun j u hu => by simp at hu⟩
    | succ k ih =>
      intro hk
      obtain ⟨cs, h1, h2⟩ := ih (by omega)
      obtain ⟨b', off', e, c0, a', c', c1, hm, hr⟩ := h.2 k (by omega)
      injection e with e
      injection e with e1 e2
      subst e1 e2
      have hl : cs.length = k * 2 := by rw [h1.1, List.length_take, Nat.min_eq_left (by omega)]
      refine ⟨cs ++ [.int .i64 ws[k].at_, .slice a' ws[k].xs.length c'], by rw [List.take_succ_eq_append_getElem (by omega)]; exact h1.snoc _ _ _ hm.1 hm.2 hr (fun hp => hF b off rfl k (by omega) a' _ c' c1 hp), fun j u hu => ?_⟩
      by_cases hj : j < cs.length
      · rw [List.getElem?_append_left hj] at hu; exact h2 j u hu
      · rw [List.getElem?_append_right (by omega), hl] at hu
        have hjl : j - k * 2 < 2 := by have := (List.getElem?_eq_some_iff.1 hu).1; simpa using this
        by_cases e : j = k * 2
        · subst e
          rw [Nat.sub_self] at hu
          simp at hu
          rw [← hu]; exact c0
        · obtain rfl : j = k * 2 + 1 := by omega
          rw [show k * 2 + 1 - k * 2 = 1 by omega] at hu
          simp at hu
          rw [← hu, ← Nat.add_assoc]; exact c1
  obtain ⟨cs, h1, h2⟩ := key ws.length (Nat.le_refl _)
  rw [List.take_length] at h1
  refine ⟨cs, h1, fun j u hu => ?_⟩
  have e : (⟨b, off, none⟩ : Addr).add j = ⟨b, off + j, none⟩ := by unfold Addr.add; split <;> simp_all
  rw [e]; exact h2 j u hu
/-- Such a row of the call's own reads so. -/
theorem wrow_owns {w : World} {base n B : Nat} {v : Value} {cs : List Value} {ws : List WD} (h : w.ownsRow base 87 2 v n cs) (hc : WCs w B cs ws) (hn : ws.length = n) : ∃ a c, v = .slice a n c ∧ WRow w a n ws := by
  rcases h.2 with ⟨rfl, h0⟩ | ⟨g, cap, cur, rfl, _⟩
  · exact ⟨none, 0, by rw [h0], hn, fun i hi => absurd hi (by omega)⟩
  · refine ⟨_, cap, rfl, hn, fun i hi => ?_⟩
    obtain ⟨h0, a', c', h1, h2, h3, _⟩ := hc.2 i hi
    have e0 := h.cellAt (i * 2) (by omega)
    have e1 := h.cellAt (i * 2 + 1) (by omega)
    exact ⟨g, 0, rfl, by rw [Nat.zero_add, e0, h0], a', c', by rw [Nat.zero_add, e1, h1], h2, h3⟩
theorem nil_wrow {w : World} {n : Nat} {ws : List WD} (h : WRow w none n ws) : ws = [] := by
  cases ws with
  | nil => rfl
  | cons d r =>
    obtain ⟨b, off, e, _⟩ := h.2 0 (by simp)
    cases e
/-- What waits is copied into a new row. -/
theorem copy_waiting {w u : World} {aw : Option Addr} {nw cw g0 : Nat} {ws : List WD} (ty : TypeId) (hW : WRow w aw nw ws) {B : Nat} (hF : FarW w B aw ws) (haw : aw = none → nw = 0 ∧ cw = 0) (hnw : nw ≤ 1048576) (hb0 : Below w.heap.size w u) (hO : u.ownsRow w.heap.size 87 2 (.slice (some ⟨g0, 0, none⟩) 0 0) 0 []) :
    ∃ g cap w3 cs, (Builtin.append_ #[26, 26] ty #[.slice (some ⟨g0, 0, none⟩) 0 0, .slice aw nw cw]).run Try.prog u = .ok (.slice (some ⟨g, 0, none⟩) ws.length cap) w3 ∧ w3.ownsRow w.heap.size 87 2 (.slice (some ⟨g, 0, none⟩) ws.length cap) ws.length cs ∧ WCs w3 B cs ws ∧ Below w.heap.size w w3 ∧ u.heap.size ≤ w3.heap.size ∧ (∀ k, k < u.heap.size → k ≠ g0 → w3.heap[k]? = u.heap[k]?) := by
  obtain ⟨i0, hi, hz0, hz1, hz2⟩ := info_parts Try.infoWrite
  cases aw with
  | none =>
    obtain ⟨rfl, rfl⟩ := haw rfl
    obtain rfl := nil_wrow hW
    have hrun := run_append_owned_none (P := Try.prog) (w := u) w.heap.size 26 ty 87 i0 2 Try.underlying26 hi _ 0 [] hO
    exact ⟨g0, 0, u, [], hrun, hO, ⟨rfl, fun i hi => by simp at hi⟩, hb0, Nat.le_refl _, fun _ _ _ => rfl⟩
  | some x =>
    obtain ⟨cs, hcs, hcell⟩ : ∃ cs, WCs w B cs ws ∧ ∀ j u, cs[j]? = some u → w.cell? (x.add j) = some u := by
      by_cases h0 : 0 < ws.length
      · obtain ⟨b, off, e, _⟩ := hW.2 0 h0
        injection e with e
        subst e
        exact hW.cells hF
      · obtain rfl : ws = [] := List.eq_nil_of_length_eq_zero (by omega)
        exact ⟨[], ⟨rfl, fun i hi => by simp at hi⟩, fun j u hu => by simp at hu⟩
    have hwl := hW.1
    obtain ⟨v, w3, hrun, hown, hg, hnil⟩ := run_append_own (P := Try.prog) u w.heap.size 26 ty 87 i0 _ 2 32 Try.underlying26 hi hz0 hz1 hz2 rfl (by decide) _ 0 [] hO x nw cw cs (by rw [hcs.1, hwl]) (fun j u hu => cell_later hb0 (hcell j u hu)) hcs.one (by unfold maxLen; omega) (by omega) hb0.size
    have hown' : w3.ownsRow w.heap.size 87 2 v ws.length cs := by rw [hwl]; simpa using hown
    obtain ⟨g, cap, rfl⟩ : ∃ g cap, v = .slice (some ⟨g, 0, none⟩) ws.length cap := by
      rcases hown'.2 with ⟨e, _⟩ | ⟨g, cap, _, e, _⟩
      · have := (hnil.1 e).1
        cases this
      · exact ⟨g, cap, e⟩
    have hbw : Below w.heap.size w w3 := hb0.grown hg hb0.size (fun k hk => (hO.lt k hk).1)
    exact ⟨g, cap, w3, cs, hrun, hown', hcs.grow hbw, hbw, hg.size, fun k hk hne => hg.block k hk (by simp [Value.ownBlock]; exact hne)⟩
/-- All blocks but the row's own are as they were: the bytes too. -/
theorem WCs.kept {w w' : World} {B base : Nat} {v : Value} {n : Nat} {cs cs' : List Value} {ws : List WD} (h : WCs w B cs' ws) (hBb : B ≤ base) (ho : w.ownsRow base 87 2 v n cs) (hs : w.heap.size ≤ w'.heap.size) (hk : ∀ k, k < w.heap.size → some k ≠ v.ownBlock → w'.heap[k]? = w.heap[k]?) : WCs w' B cs' ws := by
  have key : ∀ b, b < w.heap.size → (b < B ∨ ∃ cur fr, w.heap[b]? = some (.cells cur 5 fr)) → w'.heap[b]? = w.heap[b]? := fun b hb hf => hk b hb (fun e => by
    have hl := ho.lt b e.symm
    rcases hf with hf | ⟨cur, fr, hf⟩
    · omega
    · rcases ho.2 with ⟨e0, _⟩ | ⟨g, cap, cur0, e0, _, hh, _⟩
      · subst e0; cases e
      · subst e0
        have hg : b = g := by simpa [Value.ownBlock] using e
        subst hg
        rw [hf] at hh
        injection hh with hh
        injection hh with _ hh
        exact absurd hh (by decide))
  refine ⟨h.1, fun i hi => ?_⟩
  obtain ⟨h0, a', c', h1, h2, h3, h4⟩ := h.2 i hi
  refine ⟨h0, a', c', h1, h2, ?_, fun hp x hx => ?_⟩
  · by_cases hp : 0 < ws[i].xs.length
    · exact h3.of_cells fun x hx p hpb => World.cell?_of_block (w := w) (by rw [hpb]; exact key _ (h4 hp x hx).1 (h4 hp x hx).2)
    · exact ⟨h3.1, fun j hj => absurd hj (by omega)⟩
  · obtain ⟨f0, f1⟩ := h4 hp x hx
    refine ⟨Nat.lt_of_lt_of_le f0 hs, ?_⟩
    have e := key _ f0 f1
    rcases f1 with f1 | ⟨cur, fr, f1⟩
    · exact .inl f1
    · exact .inr ⟨cur, fr, e.trans f1⟩
theorem WCs.but {w w' : World} {B bad : Nat} {cs' : List Value} {ws : List WD} (h : WCs w B cs' ws) (hbad : B ≤ bad) (hkind : ∃ cur t fr, w.heap[bad]? = some (.cells cur t fr) ∧ t ≠ 5) (hs : w.heap.size ≤ w'.heap.size) (hk : ∀ k, k < w.heap.size → k ≠ bad → w'.heap[k]? = w.heap[k]?) : WCs w' B cs' ws := by
  have key : ∀ b, b < w.heap.size → (b < B ∨ ∃ cur fr, w.heap[b]? = some (.cells cur 5 fr)) → w'.heap[b]? = w.heap[b]? := fun b hb hf => hk b hb (fun e => by
    subst e
    rcases hf with hf | ⟨cur, fr, hf⟩
    · omega
    · obtain ⟨cur0, t, fr0, hh, hne⟩ := hkind
      rw [hf] at hh
      injection hh with hh
      injection hh with _ hh
      exact hne hh.symm)
  refine ⟨h.1, fun i hi => ?_⟩
  obtain ⟨h0, a', c', h1, h2, h3, h4⟩ := h.2 i hi
  refine ⟨h0, a', c', h1, h2, ?_, fun hp x hx => ?_⟩
  · by_cases hp : 0 < ws[i].xs.length
    · exact h3.of_cells fun x hx p hpb => World.cell?_of_block (w := w) (by rw [hpb]; exact key _ (h4 hp x hx).1 (h4 hp x hx).2)
    · exact ⟨h3.1, fun j hj => absurd hj (by omega)⟩
  · obtain ⟨f0, f1⟩ := h4 hp x hx
    refine ⟨Nat.lt_of_lt_of_le f0 hs, ?_⟩
    have e := key _ f0 f1
    rcases f1 with f1 | ⟨cur, fr, f1⟩
    · exact .inl f1
    · exact .inr ⟨cur, fr, e.trans f1⟩
/-- One sector more waits: its bytes are copied, and it is appended. -/
theorem write_one {w : World} {base B : Nat} {v : Value} {cs : List Value} {ws : List WD} (hO : w.ownsRow base 87 2 v ws.length cs) (hBb : B ≤ base) (hC : WCs w B cs ws) (hbase : base ≤ w.heap.size) (hws : ws.length ≤ 100000) (g so sc n : Nat) (s : List Int) (hs : s.length = 16) (hr : Row w (some ⟨g, so, none⟩) 16 s) :
    ∃ g4 cap4 w4 v5 w5 cs', (Builtin.append_ #[22, 22] 22 #[.slice (some ⟨w.heap.size, 0, none⟩) 0 0, .slice (some ⟨g, so, none⟩) 16 sc]).run Try.prog (w.drew.alloc (.cells #[] 5)) = .ok (.slice (some ⟨g4, 0, none⟩) 16 cap4) w4 ∧
      (Builtin.append_ #[26, 26] 26 #[v, .slice (some ⟨w4.heap.size, 0, none⟩) 1 1]).run Try.prog (w4.alloc (.cells #[.int .i64 (n : Int), .slice (some ⟨g4, 0, none⟩) 16 cap4] 87)) = .ok v5 w5 ∧
      w5.ownsRow base 87 2 v5 (ws.length + 1) cs' ∧ v5 ≠ .slice none 0 0 ∧ WCs w5 B cs' (ws ++ [⟨(n : Int), s⟩]) ∧ Below base w w5 ∧ (∀ k, k < w.heap.size → some k ≠ v.ownBlock → w5.heap[k]? = w.heap[k]?) ∧ Below w.heap.size w w4 := by
  obtain ⟨i0, hi, hz0, hz1, hz2⟩ := info_parts Try.infoU8
  obtain ⟨j0, hj, kz0, kz1, kz2⟩ := info_parts Try.infoWrite
  have hsd : w.drew.heap.size = w.heap.size := rfl
  have hb0 : Below w.heap.size w (w.drew.alloc (.cells #[] 5)) := (bel_drewN (n := 1) (Below.refl _ _)).alloc (Nat.le_refl _) _
  have hL : (w.drew.alloc (.cells #[] 5)).ownsRow w.heap.size 5 1 (.slice (some ⟨w.heap.size, 0, none⟩) 0 0) 0 [] :=
    World.ownsRow_lit (base := w.heap.size) (e := 5) (size := 1) w.drew #[] 0 (Nat.le_refl _) (by unfold maxLen; simp) rfl
  have hr' : Row w (some ⟨g, so, none⟩) s.length s := by rw [hs]; exact hr
  obtain ⟨v4, w4, hrun4, hown4, hg4, hnil4⟩ := run_append_own (P := Try.prog) (w.drew.alloc (.cells #[] 5)) w.heap.size 22 22 5 i0 _ 1 1 Try.underlying22 hi hz0 hz1 hz2 rfl (by decide) _ 0 [] hL ⟨g, so, none⟩ 16 sc (s.map (Value.int .u8)) (by simp [hs]) (row_cells (row_grow hr' hb0)) (all_u8 _) (by unfold maxLen; omega) (by omega) (by simp [hsd])
  have O4 : Owns w4 w.heap.size v4 s := by
    unfold Owns
    rw [hs]
    simpa using hown4
  obtain ⟨g4, cap4, rfl, hgB, hgl, hc1, hc2⟩ := owns_form O4 (fun e => by have := (hnil4.1 e).1; cases this)
  rw [hs] at hrun4 hc1 O4
  have B4 : Below w.heap.size w w4 := hb0.grown hg4 (by simp [hsd]) (fun k hk => by cases hk; exact Nat.le_refl _)
  have hkind4 : ∃ cur fr, w4.heap[g4]? = some (.cells cur 5 fr) := by
    rcases O4.2 with ⟨e, _⟩ | ⟨g', cap', cur, e, _, hh, _⟩
    · cases e
    · injection e with e1 _ _
      injection e1 with e1
      injection e1 with e1
      subst e1
      exact ⟨cur, _, hh⟩
  have O5 : (w4.alloc (.cells #[.int .i64 (n : Int), .slice (some ⟨g4, 0, none⟩) 16 cap4] 87)).ownsRow base 87 2 v ws.length cs := by
    have : w4.ownsRow base 87 2 v ws.length cs := World.ownsRow.kept (row := none) hO ⟨B4.os, B4.tape, B4.output, B4.size, fun i hi _ => B4.block i hi⟩ (by cases hv : v.ownBlock <;> simp)
    exact this.alloc _
  obtain ⟨v5, w5, hrun5, hown5, hg5, hnil5⟩ := run_append_own (P := Try.prog) (w4.alloc (.cells #[.int .i64 (n : Int), .slice (some ⟨g4, 0, none⟩) 16 cap4] 87)) base 26 26 87 j0 _ 2 32 Try.underlying26 hj kz0 kz1 kz2 rfl (by decide) v ws.length cs O5 ⟨w4.heap.size, 0, none⟩ 1 1 [.int .i64 (n : Int), .slice (some ⟨g4, 0, none⟩) 16 cap4] rfl cells_new (by intro u hu; simp at hu; rcases hu with rfl | rfl <;> rfl) (by unfold maxLen; omega) (by omega) (by have := B4.size; simp; omega)
  have hvl : ∀ k, v.ownBlock = some k → base ≤ k ∧ k < w.heap.size := fun k hk => hO.lt k hk
  have K5 : ∀ k, k < w4.heap.size → some k ≠ v.ownBlock → w5.heap[k]? = w4.heap[k]? := fun k hk hne => by rw [hg5.block k (by simp; omega) hne, Below.heap_alloc _ _ _ hk]
  have s45 : w4.heap.size ≤ w5.heap.size := by have := hg5.size; simp at this; omega
  have C4 : WCs w4 B (cs ++ [.int .i64 (n : Int), .slice (some ⟨g4, 0, none⟩) 16 cap4]) (ws ++ [⟨(n : Int), s⟩]) := by
    have := (hC.grow B4).snoc ⟨(n : Int), s⟩ (some ⟨g4, 0, none⟩) cap4 (by simp only; rw [hs]; unfold maxLen; omega) (by simp only; rw [hs]; exact hc1) (row_of_owns (by rw [hs]; exact O4)) (fun _ x hx => by cases hx; exact ⟨hgl, .inr hkind4⟩)
    simpa [hs] using this
  have O4' : w4.ownsRow base 87 2 v ws.length cs := World.ownsRow.kept (row := none) hO ⟨B4.os, B4.tape, B4.output, B4.size, fun i hi _ => B4.block i hi⟩ (by cases hv : v.ownBlock <;> simp)
  refine ⟨g4, cap4, w4, v5, w5, _, hrun4, hrun5, hown5, fun e => ?_, C4.kept hBb O4' s45 K5, ?_, fun k hk hne => ?_, B4⟩
  · have := (hnil5.1 e).2
    cases this
  · exact ⟨hg5.os.trans B4.os, hg5.tape.trans B4.tape, hg5.output.trans B4.output, Nat.le_trans B4.size s45, fun k hk => by
      rw [K5 k (Nat.lt_of_lt_of_le hk (Nat.le_trans hbase B4.size)) (fun e => by have := (hvl k e.symm).1; omega), B4.block k (by omega)]⟩
  · rw [K5 k (Nat.lt_of_lt_of_le hk B4.size) hne, B4.block k hk]
theorem row_off {w : World} {g n : Nat} {xs : List Int} (h : Row w (some ⟨g, 0, none⟩) n xs) (k m : Nat) (hk : k + m ≤ n) : Row w (some ⟨g, k, none⟩) m ((xs.drop k).take m) := by
  have hl := h.1
  refine ⟨by simp; omega, fun i hi => ⟨g, k, rfl, ?_⟩⟩
  obtain ⟨b, off, e, hc⟩ := h.2 (k + i) (by omega)
  cases e
  rw [Nat.zero_add] at hc
  rw [hc]
  simp [List.getD, hi]
theorem box_int {w : World} {ob j : Nat} {a a' : Option Addr} {n c n' c' : Nat} {t : TypeId} {fr : Nat × Nat} {k : IntKind} {x : Int} (hk : w.heap[ob]? = some (.cells #[.slice a n c, .slice a' n' c'] t fr)) (h : w.cell? ⟨ob, j, none⟩ = some (.int k x)) : False := by
  simp only [World.cell?, hk] at h
  match j, h with
  | 0, h => simp at h
  | 1, h => simp at h
  | j + 2, h => simp at h
/-- What is written into a box of two slices changes no row of sectors. -/
theorem WRow.box {w : World} {ob : Nat} {a a' : Option Addr} {n c n' c' : Nat} {t : TypeId} {fr : Nat × Nat} {aw : Option Addr} {nw : Nat} {ws : List WD} (h : WRow w aw nw ws) (hk : w.heap[ob]? = some (.cells #[.slice a n c, .slice a' n' c'] t fr)) (u v : Value) : WRow ((w.setCell ⟨ob, 0, none⟩ u).setCell ⟨ob, 1, none⟩ v) aw nw ws := by
  have bl : ∀ b j, b ≠ ob → ((w.setCell ⟨ob, 0, none⟩ u).setCell ⟨ob, 1, none⟩ v).cell? ⟨b, j, none⟩ = w.cell? ⟨b, j, none⟩ := fun b j hb => World.cell?_of_block (w := w) (a := ⟨b, j, none⟩) (by rw [Below.heap_setCell _ _ _ _ hb, Below.heap_setCell _ _ _ _ hb])
  refine ⟨h.1, fun i hi => ?_⟩
  obtain ⟨b, off, e, c0, a2, c2, c1, hm, hr⟩ := h.2 i hi
  have hb : b ≠ ob := fun e => by subst e; exact box_int hk c0
  refine ⟨b, off, e, (bl b _ hb).trans c0, a2, c2, (bl b _ hb).trans c1, hm, hr.1, fun j hj => ?_⟩
  obtain ⟨b3, o3, e3, c3⟩ := hr.2 j hj
  have hb3 : b3 ≠ ob := fun e => by subst e; exact box_int hk c3
  exact ⟨b3, o3, e3, (bl b3 _ hb3).trans c3⟩
end Go.Proofs.Ytjhmammoakiknaa

namespace Go.Proofs.Ytjhmammoakiknaa
open Go.RowKit

set_option maxRecDepth 100000 in
set_option maxHeartbeats 4000000 in
theorem l02Write_noneg (ah : Option Addr) (n c : Nat) (aw : Option Addr) (nw cw : Nat) (at_ : Nat) (ad : Option Addr) (cd : Nat) (w : World) :
    Calls Try.prog 56 #[fv ah n c aw nw cw, .int .i64 (at_ : Int), .slice ad 0 cd] w fun e w' => e = .returned (fv ah n c aw nw cw) ∧ Below w.heap.size w w' := by
  go_enter Try.func56, Try.ntmps56
  go_wp2_with fail
  refine bodyPost_ret (v := fv ah n c aw nw cw) (by simp [results, Try.results56, go_sem]) rfl ⟨rfl, ?_⟩
  exact ((Below.refl _ _).alloc (Nat.le_refl _) _).alloc (by simp) _
theorem l02Write_none (b off n c : Nat) (aw : Option Addr) (nw cw : Nat) (at_ : Nat) (ad : Option Addr) (cd : Nat) (w : World) :
    Calls Try.prog 56 #[fv (some ⟨b, off, none⟩) n c aw nw cw, .int .i64 (at_ : Int), .slice ad 0 cd] w fun e w' => e = .returned (fv (some ⟨b, off, none⟩) n c aw nw cw) ∧ Below w.heap.size w w' :=
  l02Write_noneg (some ⟨b, off, none⟩) n c aw nw cw at_ ad cd w
theorem row_of_owns_len {w : World} {B g cap m n : Nat} {xs : List Int} (h : Owns w B (.slice (some ⟨g, 0, none⟩) n cap) xs) (hl : xs.length = m) : Row w (some ⟨g, 0, none⟩) m xs := by
  have hn : n = xs.length := by
    rcases h.2 with ⟨e, _⟩ | ⟨g', cap', cur, e, _⟩
    · cases e
    · injection e
  subst hn
  rw [← hl]
  exact row_of_owns h
/-- A device that is a local, while sectors are appended to what waits. -/
structure WOut (B : Nat) (w2 wc : World) (ob g cap : Nat) (ah : Option Addr) (n c : Nat) (cs : List Value) (ws : List WD) : Prop where
  bel : Below w2.heap.size w2 wc
  c0 : wc.cell? ⟨ob, 0, none⟩ = some (.slice ah n c)
  c1 : wc.cell? ⟨ob, 1, none⟩ = some (.slice (some ⟨g, 0, none⟩) ws.length cap)
  kind : ∃ cur, wc.heap[ob]? = some (.cells cur 28 (0, 0))
  low : w2.heap.size ≤ ob
  own : wc.ownsRow w2.heap.size 87 2 (.slice (some ⟨g, 0, none⟩) ws.length cap) ws.length cs
  cells : WCs wc B cs ws
  lowB : B ≤ w2.heap.size
theorem ownsW_kept {w w' : World} {base n : Nat} {v : Value} {cs : List Value} (h : w.ownsRow base 87 2 v n cs) (hk : ∀ k, v.ownBlock = some k → w'.heap[k]? = w.heap[k]?) : w'.ownsRow base 87 2 v n cs := by
  obtain ⟨h1, h2⟩ := h
  refine ⟨h1, ?_⟩
  rcases h2 with h2 | ⟨g, cap, cur, rfl, hg, hh, r⟩
  · exact .inl h2
  · exact .inr ⟨g, cap, cur, rfl, hg, (hk g rfl).trans hh, r⟩
theorem ownsW_kind {w : World} {base n g cap : Nat} {cs : List Value} (h : w.ownsRow base 87 2 (.slice (some ⟨g, 0, none⟩) n cap) n cs) : ∃ cur, w.heap[g]? = some (.cells cur 87 (0, 0)) := by
  rcases h.2 with ⟨e, _⟩ | ⟨g', cap', cur, e, _, hh, _⟩
  · cases e
  · injection e with e1 _ _
    injection e1 with e1
    injection e1 with e1
    subst e1
    exact ⟨cur, hh⟩
theorem WOut.new {B : Nat} {w2 w3 : World} {g cap : Nat} {ah : Option Addr} {n c : Nat} {cs : List Value} {ws : List WD} (hb : Below w2.heap.size w2 w3) (ho : w3.ownsRow w2.heap.size 87 2 (.slice (some ⟨g, 0, none⟩) ws.length cap) ws.length cs) (hc : WCs w3 B cs ws) (hB : B ≤ w2.heap.size) :
    WOut B w2 (w3.alloc (.cells #[.slice ah n c, .slice (some ⟨g, 0, none⟩) ws.length cap] 28)) w3.heap.size g cap ah n c cs ws :=
  have b : Below w3.heap.size w3 (w3.alloc (.cells #[.slice ah n c, .slice (some ⟨g, 0, none⟩) ws.length cap] 28)) := (Below.refl _ _).alloc (Nat.le_refl _) _
  ⟨hb.trans (b.mono hb.size), (cell_new rfl).trans rfl, (cell_new rfl).trans rfl, ⟨_, heap_alloc_last _ _⟩, hb.size, ho.alloc _, hc.grow b, hB⟩
/-- The row that waits is laid into the box. -/
theorem WOut.lay {B : Nat} {w2 w3 : World} {ob g cap : Nat} {ah : Option Addr} {n c : Nat} {cs : List Value} {ws : List WD} {v0 v1 : Value} (hb : Below w2.heap.size w2 w3) (hl : w2.heap.size ≤ ob) (hk : ∃ cur, w3.heap[ob]? = some (.cells cur 28 (0, 0))) (h0 : w3.cell? ⟨ob, 0, none⟩ = some v0) (h1 : w3.cell? ⟨ob, 1, none⟩ = some v1)
    (ho : w3.ownsRow w2.heap.size 87 2 (.slice (some ⟨g, 0, none⟩) ws.length cap) ws.length cs) (hc : WCs w3 B cs ws) (hB : B ≤ w2.heap.size) :
    WOut B w2 ((w3.setCell ⟨ob, 0, none⟩ (.slice ah n c)).setCell ⟨ob, 1, none⟩ (.slice (some ⟨g, 0, none⟩) ws.length cap)) ob g cap ah n c cs ws := by
  obtain ⟨cur, hk⟩ := hk
  obtain ⟨curg, hkg⟩ := ownsW_kind ho
  have hne : g ≠ ob := fun e => by
    rw [e, hk] at hkg
    injection hkg with hkg
    injection hkg with _ hkg
    exact absurd hkg (by decide)
  have bl : ∀ k, k ≠ ob → ((w3.setCell ⟨ob, 0, none⟩ (.slice ah n c)).setCell ⟨ob, 1, none⟩ (.slice (some ⟨g, 0, none⟩) ws.length cap)).heap[k]? = w3.heap[k]? := fun k hk => by rw [Below.heap_setCell _ _ _ _ hk, Below.heap_setCell _ _ _ _ hk]
  obtain ⟨cur1, hk1⟩ := setCell_kind (o := 0) (v := .slice ah n c) hk
  refine ⟨(hb.setCell (p := ⟨ob, 0, none⟩) hl _).setCell (p := ⟨ob, 1, none⟩) hl _, (World.cell?_setCell_other _ _ _ _ (by intro e; injection e; omega)).trans (World.cell?_setCell_same _ _ _ h0), World.cell?_setCell_same _ _ _ ((World.cell?_setCell_other _ _ _ _ (by intro e; injection e; omega)).trans h1), setCell_kind hk1, hl, ownsW_kept ho (fun k hk => bl k (fun e => hne ((show g = k by simpa [Value.ownBlock] using hk).trans e))), hc.but (Nat.le_trans hB hl) ⟨cur, _, _, hk, by decide⟩ (by simp [World.setCell]) (fun k _ hk => bl k hk), hB⟩
/-- One sector more waits in the box. -/
theorem WOut.more {B : Nat} {w2 wr w5 : World} {ob g cap g5 cap5 : Nat} {ah : Option Addr} {n c : Nat} {cs cs' : List Value} {ws : List WD} {d : WD} (h : WOut B w2 wr ob g cap ah n c cs ws)
    (ho : w5.ownsRow w2.heap.size 87 2 (.slice (some ⟨g5, 0, none⟩) (ws ++ [d]).length cap5) (ws ++ [d]).length cs') (hc : WCs w5 B cs' (ws ++ [d])) (hb : Below w2.heap.size wr w5) (hk : ∀ k, k < wr.heap.size → k ≠ g → w5.heap[k]? = wr.heap[k]?) :
    (w5.cell? ⟨ob, 1, none⟩ = some (.slice (some ⟨g, 0, none⟩) ws.length cap) ∧ w5.frozen? ⟨ob, 1, none⟩ = false ∧ ob < wr.heap.size) ∧ WOut B w2 (w5.setCell ⟨ob, 1, none⟩ (.slice (some ⟨g5, 0, none⟩) (ws ++ [d]).length cap5)) ob g5 cap5 ah n c cs' (ws ++ [d]) := by
  have hobl : ob < wr.heap.size := cell_lt h.c0
  obtain ⟨cur, hkd⟩ := h.kind
  obtain ⟨curg, hkg⟩ := ownsW_kind h.own
  have hne : ob ≠ g := fun e => by
    rw [e, hkg] at hkd
    injection hkd with hkd
    injection hkd with _ hkd
    exact absurd hkd (by decide)
  have e5 := hk ob hobl hne
  have hk5 := e5.trans hkd
  obtain ⟨cur5, hkg5⟩ := ownsW_kind ho
  have hne5 : g5 ≠ ob := fun e => by
    rw [e, hk5] at hkg5
    injection hkg5 with hkg5
    injection hkg5 with _ hkg5
    exact absurd hkg5 (by decide)
  have c1 : w5.cell? ⟨ob, 1, none⟩ = some (.slice (some ⟨g, 0, none⟩) ws.length cap) := (World.cell?_of_block (w := wr) (a := ⟨ob, 1, none⟩) e5).trans h.c1
  have c0 : w5.cell? ⟨ob, 0, none⟩ = some (.slice ah n c) := (World.cell?_of_block (w := wr) (a := ⟨ob, 0, none⟩) e5).trans h.c0
  refine ⟨⟨c1, by simp [World.frozen?, hk5], hobl⟩, ⟨(h.bel.trans hb).setCell (p := ⟨ob, 1, none⟩) h.low _, (World.cell?_setCell_other _ _ _ _ (by intro e; injection e; omega)).trans c0, World.cell?_setCell_same _ _ _ c1, setCell_kind hk5, h.low, ownsW_kept ho (fun k hk => Below.heap_setCell _ _ _ _ (fun e => hne5 ((show g5 = k by simpa [Value.ownBlock] using hk).trans e))), hc.but (Nat.le_trans h.lowB h.low) ⟨cur, _, _, hk5, by decide⟩ (by simp [World.setCell]) (fun k _ hk => Below.heap_setCell _ _ _ _ hk), h.lowB⟩⟩
theorem newW_snoc (b : List Int) (at_ : Nat) (d : List Int) (k : Nat) (h : k < touchN at_ d.length) : (newW b at_ d).take (k + 1) = (newW b at_ d).take k ++ [⟨((at_ / 16 + k : Nat) : Int), secW (allW b at_ d) (at_ / 16 + k)⟩] := by
  rw [List.take_succ_eq_append_getElem (by rw [newW_len]; exact h)]
  simp [newW]
/-- What is written into a box of two slices leaves a row of the call's own. -/
theorem wcs_box {w : World} {base low B g cap m ob : Nat} {cs : List Value} {ws : List WD} {cur : Array Value} {fr : Nat × Nat} (ho : w.ownsRow base 87 2 (.slice (some ⟨g, 0, none⟩) m cap) m cs) (hl : low ≤ base) (hc : WCs w B cs ws) (hB : B ≤ ob) (hk : w.heap[ob]? = some (.cells cur 28 fr)) (u v : Value) :
    ∃ cs, ((w.setCell ⟨ob, 0, none⟩ u).setCell ⟨ob, 1, none⟩ v).ownsRow low 87 2 (.slice (some ⟨g, 0, none⟩) m cap) m cs ∧ WCs ((w.setCell ⟨ob, 0, none⟩ u).setCell ⟨ob, 1, none⟩ v) B cs ws := by
  obtain ⟨curg, hkg⟩ := ownsW_kind ho
  have hne : g ≠ ob := fun e => by
    rw [e, hk] at hkg
    injection hkg with hkg
    injection hkg with _ hkg
    exact absurd hkg (by decide)
  have bl : ∀ k, k ≠ ob → ((w.setCell ⟨ob, 0, none⟩ u).setCell ⟨ob, 1, none⟩ v).heap[k]? = w.heap[k]? := fun k hk => by rw [Below.heap_setCell _ _ _ _ hk, Below.heap_setCell _ _ _ _ hk]
  have h1 := ownsW_kept ho (w' := (w.setCell ⟨ob, 0, none⟩ u).setCell ⟨ob, 1, none⟩ v) (fun k hk => bl k (fun e => hne ((show g = k by simpa [Value.ownBlock] using hk).trans e)))
  refine ⟨cs, ⟨h1.1, ?_⟩, hc.but hB ⟨cur, _, _, hk, by decide⟩ (by simp [World.setCell]) (fun k _ hk => bl k hk)⟩
  rcases h1.2 with h2 | ⟨g', cap', cur', e, hg, r⟩
  · exact .inl h2
  · exact .inr ⟨g', cap', cur', e, by omega, r⟩
set_option maxRecDepth 100000 in
set_option maxHeartbeats 4000000 in
theorem l02Write_far (ah : Option Addr) (n c : Nat) (aw : Option Addr) (nw cw : Nat) (at_ : Nat) (bd od cd : Nat) (ds : List Int) (xs : List Int) (ws : List WD) (w : World) (hR : Row w ah n xs) (hah : Adr ah n c) (hW : WRow w aw nw ws) (B0 : Nat) (hB0 : B0 ≤ w.heap.size) (hF : FarW w B0 aw ws) (hn : n ≤ 2048) (h16 : n % 16 = 0) (hnw : nw ≤ 4096) (hall : ∀ d ∈ ws, okW d = true) (hds : Row w (some ⟨bd, od, none⟩) ds.length ds) (hd0 : 0 < ds.length) (hfit : at_ + ds.length ≤ 2048) (haw : aw = none → nw = 0 ∧ cw = 0) :
    Calls Try.prog 56 #[fv ah n c aw nw cw, .int .i64 (at_ : Int), .slice (some ⟨bd, od, none⟩) ds.length cd] w fun e w' => ∃ g cw', e = .returned (fv ah n c (some ⟨g, 0, none⟩) (writeD xs ws at_ ds).length cw') ∧ WRow w' (some ⟨g, 0, none⟩) (writeD xs ws at_ ds).length (writeD xs ws at_ ds) ∧ Below w.heap.size w w' ∧ ∃ cs, w'.ownsRow w.heap.size 87 2 (.slice (some ⟨g, 0, none⟩) (writeD xs ws at_ ds).length cw') (writeD xs ws at_ ds).length cs ∧ WCs w' B0 cs (writeD xs ws at_ ds) := by
  obtain ⟨i0, hi, hz0, hz1, hz2⟩ := info_parts Try.infoU8
  have hxl := hR.1
  have hb0 : ∀ o1 o2, Below w.heap.size w ((w.alloc o1).alloc o2) := fun o1 o2 => ((Below.refl _ _).alloc (Nat.le_refl _) _).alloc (by simp) _
  have HL := hide (fun o1 o2 => l02Read_gen ah n c aw nw cw xs ws ((w.alloc o1).alloc o2) (row_grow hR (hb0 o1 o2)) hah (hW.below (hb0 o1 o2)) hn h16 (by omega) hall)
  have HB := hide (readD_bounds xs ws (by rw [hxl]; exact h16) (by rw [hxl]; exact hn) hall)
  have HR := hide hR
  have HW := hide hW
  have HD := hide hds
  have HA := hide hall
  clear hR hW hall hds
  have HAW := hide haw
  clear haw
  have HF := hide hF
  clear hF
  have q0 : ((ds.length : Int) == 0) = false := by rw [beq_eq_false_iff_ne]; omega
  go_enter Try.func56, Try.ntmps56
  go_wp2_with fail
  refine (unhide HL _ _).mono ?_
  rintro e w1 ⟨g, cap, rfl, hO, hb1⟩
  have hz : ∀ o1 o2, ((w.alloc o1).alloc o2).heap.size = w.heap.size + 1 + 1 := fun o1 o2 => by simp
  have B1 := hide ((hb0 (.cells #[.slice ah n c, .slice aw nw cw] 28) (.cells #[.slice none 0 0, .slice none 0 0] 28)).trans (hb1.mono (by rw [hz]; omega)))
  have hs1 := hb1.size
  rw [hz] at hs1 hb1 hO
  have y0 : w1.cell? ⟨w.heap.size, 0, none⟩ = some (.slice ah n c) := (hb1.cell (p := ⟨w.heap.size, 0, none⟩) (by simp; omega)).trans ((cell_old (by simp)).trans ((cell_new rfl).trans rfl))
  have y1 : w1.cell? ⟨w.heap.size, 1, none⟩ = some (.slice aw nw cw) := (hb1.cell (p := ⟨w.heap.size, 1, none⟩) (by simp; omega)).trans ((cell_old (by simp)).trans ((cell_new rfl).trans rfl))
  have r0 : w1.cell? ⟨w.heap.size + 1, 0, none⟩ = some (.slice none 0 0) := (hb1.cell (p := ⟨w.heap.size + 1, 0, none⟩) (by simp)).trans ((cell_new (by simp)).trans rfl)
  have r1 : w1.cell? ⟨w.heap.size + 1, 1, none⟩ = some (.slice none 0 0) := (hb1.cell (p := ⟨w.heap.size + 1, 1, none⟩) (by simp)).trans ((cell_new (by simp)).trans rfl)
  have rf := hide (fun j => show w1.frozen? ⟨w.heap.size + 1, j, none⟩ = false from (hb1.frozen (p := ⟨w.heap.size + 1, j, none⟩) (by simp)).trans (frozen_new (by simp)))
  have RB := hide (show w1.heap[w.heap.size + 1]? = some (.cells #[.slice none 0 0, .slice none 0 0] 28 (0, 0)) from by
    rw [hb1.block (w.heap.size + 1) (by omega)]
    have e : w.heap.size + 1 = (w.alloc (.cells #[.slice ah n c, .slice aw nw cw] 28)).heap.size := by simp
    rw [e]; exact heap_alloc_last _ _)
  have OO := hide hO
  have hbB := unhide HB
  have HWD := hide (show writeD xs ws at_ ds = ws ++ newW (readD xs ws) at_ ds from rfl)
  clear hb1 hO HL hz hb0 HB
  generalize readD xs ws = B at *
  obtain ⟨hB16, hB2048⟩ := hbB
  have hfl := fillN_le hB2048 hfit
  have hge := fillN_ge B.length (at_ + ds.length)
  go_wp2_with fail
  go_loopw [7] (fun o wr => ∃ (j g cap : Nat) (ys : List Int), B.length + j ≤ fillN B.length (at_ + ds.length) ∧ o = .slice (some ⟨g, 0, none⟩) ys.length cap ∧ Hid (ys.length = B.length + j) ∧ Hid (ys = B ++ List.replicate j 0) ∧ Hid (Owns wr (w.heap.size + 1 + 1) (.slice (some ⟨g, 0, none⟩) ys.length cap) ys) ∧ Below (w.heap.size + 1 + 1) w1 wr) (fun o _ => 4096 - (match o with | .slice _ l _ => l | _ => 0))
  case atStart => exact ⟨0, g, cap, B, by omega, rfl, by show B.length = _; simp, by show B = _; simp, unhide OO, Below.refl _ _⟩
  case round =>
    clear OO
    obtain ⟨j, g, cap, ys, hj, rfl, hyl, hy, hO, hb⟩ := hrel
    have hyb : B.length ≤ ys.length ∧ ys.length ≤ 2048 := by have := unhide hyl; omega
    have hsz : w.heap.size + 1 + 1 ≤ wr.heap.size := Nat.le_trans hs1 hb.size
    by_cases hlt : B.length + j < fillN B.length (at_ + ds.length)
    · have hc : ((ys.length : Int) < (at_ : Int) + (ds.length : Int)) ∨ ¬ ys.length % 16 = 0 := by
        have h1 := unhide hyl
        rcases fillN_more hB16 (show B.length ≤ B.length + j by omega) hlt with h | h
        · exact .inl (by omega)
        · exact .inr (by rw [h1]; exact h)
      have HS := hide (show ys ++ [0] = B ++ List.replicate (j + 1) 0 by rw [unhide hy, List.replicate_succ', List.append_assoc])
      have HSL := hide (show (ys ++ [(0 : Int)]).length = B.length + (j + 1) by rw [List.length_append, unhide hyl]; rfl)
      have q1 : ((at_ : Int) + (ds.length : Int) ≤ (ys.length : Int)) → ((ys.length : Int) % 16 != 0) = true := fun h => by
        have hh : ¬ ys.length % 16 = 0 := by omega
        rw [bne_iff_ne]; omega
      have Q1 := hide q1
      clear q1 hc
      by_cases hl1 : (ys.length : Int) < (at_ : Int) + (ds.length : Int)
      all_goals
        first | (have q2 := unhide Q1 (by omega)) | skip
        have hlen : ys.length ≤ 2048 := hyb.2
        clear Q1
        go_wp2_with (at_builtin; refine wpList_append_own _ rfl _ _ 22 rfl (w.heap.size + 1 + 1) 5 i0 (.int .u8 0) 1 1 Try.underlying22 hi hz0 hz1 hz2 rfl (by decide) _ _ _ rfl ((unhide hO).alloc _) ⟨wr.heap.size, 0, none⟩ 1 1 [.int .u8 0] rfl rfl (cell_one_new _ _ _) (one_u8 _) (by unfold maxLen; omega) (by omega) (by simp; omega) ?_)
        intro v2 w2 hown2 hgrow2 hnil2
        have O2 := owns_app hown2
        obtain ⟨g2, cap2, rfl, _⟩ := owns_form O2 (fun e => by subst e; have := hnil2; simp at this)
        have O3 := hide O2
        have B2 := hide (below_app hb hsz (unhide hO) hgrow2)
        clear hown2 hgrow2 hnil2 O2 hO hb
        generalize ys ++ [(0 : Int)] = zs at *
        go_wp2_with fail
        go_roundw
        case rel => exact ⟨j + 1, g2, cap2, zs, by omega, rfl, unhide HSL, unhide HS, unhide O3, unhide B2⟩
        case measure => have := unhide HSL; have := unhide hyl; simp; omega
    · have hje : B.length + j = fillN B.length (at_ + ds.length) := by omega
      have HE := hide (show ys = B ++ List.replicate (fillN B.length (at_ + ds.length) - B.length) 0 by rw [unhide hy]; congr 2; omega)
      have hyl2 : ys.length = fillN B.length (at_ + ds.length) := by rw [unhide hyl]; exact hje
      have hl1 : ¬ (ys.length : Int) < (at_ : Int) + (ds.length : Int) := by omega
      have q2 : ((ys.length : Int) % 16 != 0) = false := by
        have := fillN_16 (n := at_ + ds.length) hB16
        rw [bne_eq_false_iff_eq]; omega
      have HYL := hide hyl2
      clear hyl hy hlt hje hyl2
      have hcap := owns_cap (unhide hO)
      have hac : at_ < cap := by omega
      have hbw : Below w.heap.size w wr := (unhide B1).trans (hb.mono (by omega))
      obtain ⟨w2, hcp, hO2, ho2⟩ := owns_copy (unhide hO) (row_grow (unhide HD) hbw) (o := at_) (show at_ + ds.length ≤ ys.length by omega) (ys.length - at_) (cap - at_) ds.length cd (show Nat.min ds.length (ys.length - at_) = ds.length from Nat.min_eq_left (by omega))
      rw [show putB ys at_ ds = allW B at_ ds by rw [unhide HE]; rfl] at hO2
      have hgB : w.heap.size + 1 + 1 ≤ g := ((unhide hO).lt g rfl).1
      have B2 : Below (w.heap.size + 1 + 1) w1 w2 := hb.trans (ho2.below hgB)
      have OO2 := hide hO2
      have hgt : ¬ cap = at_ := by omega
      clear hO ho2 hO2 hb hbw
      go_upto_region 7 with fail
      clear hcp
      have hbw2 : Below w.heap.size w w2 := (unhide B1).trans (B2.mono (by omega))
      have y0 := (B2.cell (p := ⟨w.heap.size, 0, none⟩) (by simp; omega)).trans y0
      have y1 := (B2.cell (p := ⟨w.heap.size, 1, none⟩) (by simp; omega)).trans y1
      have hs2 : w.heap.size + 1 + 1 ≤ w2.heap.size := Nat.le_trans hs1 B2.size
      have CW := hide (fun (u : World) (g0 : Nat) (hb0 : Below w2.heap.size w2 u) (hO : u.ownsRow w2.heap.size 87 2 (.slice (some ⟨g0, 0, none⟩) 0 0) 0 []) => copy_waiting 26 ((unhide HW).below hbw2) ((unhide HF).below (unhide HW) hbw2) (unhide HAW) (show nw ≤ 1048576 by omega) hb0 hO)
      have hlt2 : w.heap.size < w2.heap.size := by omega
      go_cut [8] (fun o wc => ∃ (ob g3 cap3 : Nat) (cs : List Value), o = .pointer (some ⟨ob, 0, none⟩) ∧ WOut B0 w2 wc ob g3 cap3 ah n c cs ws)
      case first =>
        have hzE : (w2.alloc (.cells #[] 87)).heap.size = w2.heap.size + 1 := by simp
        have hzO : (w2.alloc (.cells #[.slice none 0 0, .slice none 0 0] 28)).heap.size = w2.heap.size + 1 := by simp
        have bE := (Below.refl w2.heap.size w2).alloc (Nat.le_refl _) (.cells #[] 87)
        have bO := (Below.refl w2.heap.size w2).alloc (Nat.le_refl _) (.cells #[.slice none 0 0, .slice none 0 0] 28)
        have oE : (w2.alloc (.cells #[] 87)).ownsRow w2.heap.size 87 2 (.slice (some ⟨w2.heap.size, 0, none⟩) 0 0) 0 [] := World.ownsRow_lit (base := w2.heap.size) (e := 87) (size := 2) w2 #[] 0 (Nat.le_refl _) (by unfold maxLen; simp) rfl
        have oOE : ((w2.alloc (.cells #[.slice none 0 0, .slice none 0 0] 28)).alloc (.cells #[] 87)).ownsRow w2.heap.size 87 2 (.slice (some ⟨w2.heap.size + 1, 0, none⟩) 0 0) 0 [] := by
          have := World.ownsRow_lit (base := w2.heap.size) (e := 87) (size := 2) (w2.alloc (.cells #[.slice none 0 0, .slice none 0 0] 28)) #[] 0 (by simp) (by unfold maxLen; simp) rfl
          rwa [hzO] at this
        have CA := hide (unhide CW (w2.alloc (.cells #[] 87)).drew w2.heap.size (bel_drewN (n := 1) bE) oE)
        have box : ∀ (u w3 : World) (ob : Nat), u.heap[ob]? = some (.cells #[.slice none 0 0, .slice none 0 0] 28 (0, 0)) → w3.heap[ob]? = u.heap[ob]? → (w3.cell? ⟨ob, 0, none⟩ = some (.slice none 0 0) ∧ w3.cell? ⟨ob, 1, none⟩ = some (.slice none 0 0) ∧ w3.frozen? ⟨ob, 0, none⟩ = false ∧ w3.frozen? ⟨ob, 1, none⟩ = false ∧ ∃ cur, w3.heap[ob]? = some (.cells cur 28 (0, 0))) := fun u w3 ob h1 h2 => by
          have h3 := h2.trans h1
          refine ⟨?_, ?_, ?_, ?_, _, h3⟩ <;> simp [World.cell?, World.frozen?, h3]
        have CB := hide (show ∃ g3 cap3 w3 cs3, _ ∧ _ ∧ _ ∧ _ ∧ _ from by
          obtain ⟨g3, cap3, w3, cs3, hrun3, hO3, hC3, hb3, hz3, hk3⟩ := unhide CW ((w2.alloc (.cells #[] 87)).alloc (.cells #[.slice none 0 0, .slice none 0 0] 28)).drew w2.heap.size (bel_drewN (n := 1) (bE.alloc (by simp) _)) (oE.alloc _)
          exact ⟨g3, cap3, w3, cs3, hrun3, hO3, hC3, hb3, box ((w2.alloc (.cells #[] 87)).alloc (.cells #[.slice none 0 0, .slice none 0 0] 28)).drew w3 (w2.heap.size + 1) (by rw [← hzE]; exact heap_alloc_last _ _) (hk3 _ (by show w2.heap.size + 1 < ((w2.alloc _).alloc _).heap.size; simp) (by omega))⟩)
        have CC := hide (show ∃ g3 cap3 w3 cs3, _ ∧ _ ∧ _ ∧ _ ∧ _ from by
          obtain ⟨g3, cap3, w3, cs3, hrun3, hO3, hC3, hb3, hz3, hk3⟩ := unhide CW ((w2.alloc (.cells #[.slice none 0 0, .slice none 0 0] 28)).alloc (.cells #[] 87)).drew (w2.heap.size + 1) (bel_drewN (n := 1) (bO.alloc (by simp) _)) oOE
          exact ⟨g3, cap3, w3, cs3, hrun3, hO3, hC3, hb3, box ((w2.alloc (.cells #[.slice none 0 0, .slice none 0 0] 28)).alloc (.cells #[] 87)).drew w3 w2.heap.size (by show ((w2.alloc _).alloc _).heap[w2.heap.size]? = _; rw [Below.heap_alloc _ _ _ (by simp)]; exact heap_alloc_last _ _) (hk3 _ (by show w2.heap.size < ((w2.alloc _).alloc _).heap.size; simp; omega) (by omega))⟩)
        clear bE bO oE oOE hzE hzO CW box
        go_region_law (first
          | (obtain ⟨g3, cap3, w3, cs3, hrun3, hO3, hC3, hb3, hz3, hk3⟩ := unhide CA; have z0 := (hb3.cell (p := ⟨w.heap.size, 0, none⟩) hlt2).trans y0; have hl3 := Nat.lt_of_lt_of_le hlt2 hb3.size; refine step_append_eq rfl (.tmp 39) (.tmp 41) 26 rfl (.slice (some ⟨w2.heap.size, 0, none⟩) 0 0) (.slice aw nw cw) (.slice (some ⟨g3, 0, none⟩) ws.length cap3) w3 rfl rfl hrun3 ?_)
          | (obtain ⟨g3, cap3, w3, cs3, hrun3, hO3, hC3, hb3, q0, q1, f0, f1, hkd⟩ := unhide CB; have z0 := (hb3.cell (p := ⟨w.heap.size, 0, none⟩) hlt2).trans y0; have hl3 := Nat.lt_of_lt_of_le hlt2 hb3.size; refine step_append_eq rfl (.tmp 39) (.tmp 41) 26 rfl (.slice (some ⟨w2.heap.size, 0, none⟩) 0 0) (.slice aw nw cw) (.slice (some ⟨g3, 0, none⟩) ws.length cap3) w3 rfl rfl hrun3 ?_)
          | (obtain ⟨g3, cap3, w3, cs3, hrun3, hO3, hC3, hb3, q0, q1, f0, f1, hkd⟩ := unhide CC; have z0 := (hb3.cell (p := ⟨w.heap.size, 0, none⟩) hlt2).trans y0; have hl3 := Nat.lt_of_lt_of_le hlt2 hb3.size; refine step_append_eq rfl (.tmp 39) (.tmp 41) 26 rfl (.slice (some ⟨w2.heap.size + 1, 0, none⟩) 0 0) (.slice aw nw cw) (.slice (some ⟨g3, 0, none⟩) ws.length cap3) w3 rfl rfl hrun3 ?_))
        all_goals
          go_wp2_with fail
          go_meet
          case rel => first | exact ⟨w3.heap.size, g3, cap3, cs3, rfl, WOut.new hb3 hO3 hC3 (by omega)⟩ | exact ⟨w2.heap.size + 1, g3, cap3, cs3, rfl, WOut.lay hb3 (by omega) hkd q0 q1 hO3 hC3 (by omega)⟩ | exact ⟨w2.heap.size, g3, cap3, cs3, rfl, WOut.lay hb3 (Nat.le_refl _) hkd q0 q1 hO3 hC3 (by omega)⟩
      case rest =>
        obtain ⟨ob, g3, cap3, cs3, rfl, hW3⟩ := hcut
        have HO3 := hide hW3
        clear hW3 CW
        have HNL := hide (newW_len B at_ ds)
        have htl := touch_le hfit
        have ALL := hide (row_of_owns_len (unhide OO2) (allW_len B at_ ds))
        go_wp2_with fail
        go_loopw [9] (fun i wr => ∃ (k g3 cap3 : Nat) (cs : List Value), k ≤ touchN at_ ds.length ∧ i = .int .i64 ((at_ / 16 + k : Nat) : Int) ∧ Hid (WOut B0 w2 wr ob g3 cap3 ah n c cs (ws ++ (newW B at_ ds).take k))) (fun i _ => 4096 - (intOf i).toNat)
        case atStart => exact ⟨0, g3, cap3, cs3, Nat.zero_le _, by simp, by rw [List.take_zero, List.append_nil]; exact unhide HO3⟩
        case round =>
          clear HO3
          obtain ⟨k, g3, cap3, cs3, hk, rfl, hW⟩ := hrel
          have hk127 := htl.2 k
          by_cases hlt : k < touchN at_ ds.length
          · have h127 := hk127 hlt
            have hcond : ((at_ / 16 + k : Nat) : Int) * 16 < (at_ : Int) + (ds.length : Int) := by have := (touch_more (at_ := at_) hd0).2 hlt; omega
            have hin := sec_in B at_ ds hB16 k hlt hd0
            rw [allW_len, ← unhide HYL] at hin
            have SN := hide (newW_snoc B at_ ds k hlt)
            have hlen : (ws ++ (newW B at_ ds).take k).length ≤ 100000 := by have := (unhide HW).1; rw [List.length_append, List.length_take, unhide HNL]; omega
            have hs16 : (secW (allW B at_ ds) (at_ / 16 + k)).length = 16 := by unfold secW; rw [List.length_take, List.length_drop, allW_len, ← unhide HYL]; omega
            have hrow : Row wr (some ⟨g, (at_ / 16 + k) * 16, none⟩) 16 (secW (allW B at_ ds) (at_ / 16 + k)) := row_off (row_grow (unhide ALL) (unhide hW).bel) _ _ (by rw [← unhide HYL]; omega)
            obtain ⟨g4, cap4, w4, v5, w5, cs5, hr1, hr2, ho5, hv5, hc5, hb5, hk5, hb4⟩ := write_one (unhide hW).own (unhide hW).lowB (unhide hW).cells (unhide hW).bel.size hlen g ((at_ / 16 + k) * 16) (cap - (at_ / 16 + k) * 16) (at_ / 16 + k) _ hs16 hrow
            obtain ⟨g5, cap5, rfl⟩ : ∃ g5 cap5, v5 = .slice (some ⟨g5, 0, none⟩) ((ws ++ (newW B at_ ds).take k).length + 1) cap5 := by
              rcases ho5.2 with ⟨e, _⟩ | ⟨g, cap, _, e, _⟩
              · exact absurd e hv5
              · exact ⟨g, cap, e⟩
            have WM := WOut.more (unhide hW) (d := ⟨((at_ / 16 + k : Nat) : Int), secW (allW B at_ ds) (at_ / 16 + k)⟩) (g5 := g5) (cap5 := cap5) (cs' := cs5) (by rw [List.length_append]; exact ho5) hc5 hb5 (fun j hj hne => hk5 j hj (by simp [Value.ownBlock]; exact hne))
            obtain ⟨⟨c15, f15, hobl⟩, hW5⟩ := WM
            rw [List.append_assoc, ← unhide SN] at hW5
            have HLL := hide (show (ws ++ (newW B at_ ds).take (k + 1)).length = (ws ++ (newW B at_ ds).take k).length + 1 by rw [unhide SN, ← List.append_assoc, List.length_append]; rfl)
            have c1r := (unhide hW).c1
            have c14 := (hb4.cell (p := ⟨ob, 1, none⟩) hobl).trans c1r
            have hob4 := Nat.lt_of_lt_of_le hobl hb4.size
            rw [unhide HLL] at hW5
            have HW5 := hide hW5
            have hr1' : (Builtin.append_ #[22, 22] 22 #[.slice (some ⟨wr.heap.size, 0, none⟩) 0 0, .slice (some ⟨g, (at_ / 16 + k) * 16, none⟩) 16 (cap - (at_ / 16 + k) * 16)]).run Try.prog (wr.alloc (.cells #[] 5)).drew = .ok (.slice (some ⟨g4, 0, none⟩) 16 cap4) w4 := hr1
            clear hr1 hW hW5 ho5 hv5 hc5 hb5 hk5 hb4 hrow hs16 SN hk127
            generalize (ws ++ (newW B at_ ds).take k).length = L at *
            obtain ⟨s, hs⟩ : ∃ s, s = at_ / 16 + k := ⟨_, rfl⟩
            rw [← hs] at hr1' hr2 hcond h127 hin ⊢
            have HS := hide hs
            have hsc : s * 16 < cap := by omega
            have hsc2 : (s + 1) * 16 ≤ cap := by omega
            have hle1 : (s : Int) * 16 ≤ ((s : Int) + 1) * 16 := by omega
            clear hs
            have hwa : IntKind.i64.wrap ((s : Int) * 16) = (s : Int) * 16 := by rw [IntKind.wrap_i64]; omega
            have hwb : IntKind.i64.wrap ((s : Int) + 1) = (s : Int) + 1 := by rw [IntKind.wrap_i64]; omega
            have hwc : IntKind.i64.wrap (((s : Int) + 1) * 16) = ((s : Int) + 1) * 16 := by rw [IntKind.wrap_i64]; omega
            have hta : ((s : Int) * 16).toNat = s * 16 := by omega
            have htb : (((s : Int) + 1) * 16).toNat = (s + 1) * 16 := by omega
            have hia : (0 : Int) ≤ (s : Int) * 16 := by omega
            have hib : (0 : Int) ≤ ((s : Int) + 1) * 16 := by omega
            have hic : ((s : Int) + 1) * 16 ≤ (cap : Int) := by omega
            have hid : (s : Int) ≤ (s : Int) + 1 := by omega
            have hne : ¬ cap = s * 16 := by omega
            have h16e : (s + 1) * 16 - s * 16 = 16 := by omega
            go_wp2_with fail
            go_region_law (first
              | refine step_append_eq rfl (.tmp 58) (.tmp 65) 22 rfl (.slice (some ⟨wr.heap.size, 0, none⟩) 0 0) (.slice (some ⟨g, s * 16, none⟩) 16 (cap - s * 16)) (.slice (some ⟨g4, 0, none⟩) 16 cap4) w4 rfl rfl hr1' ?_
              | refine step_append_eq rfl (.tmp 56) (.tmp 68) 26 rfl (.slice (some ⟨g3, 0, none⟩) L cap3) (.slice (some ⟨w4.heap.size, 0, none⟩) 1 1) (.slice (some ⟨g5, 0, none⟩) (L + 1) cap5) w5 rfl rfl hr2 ?_)
            all_goals
              have R := hide (show WOut B0 w2 (w5.setCell ⟨ob, 1, none⟩ (.slice (some ⟨g5, 0, none⟩) (L + 1) cap5)) ob g5 cap5 ah n c cs5 (ws ++ (newW B at_ ds).take (k + 1)) from unhide HW5)
              clear HW5 hr1' hr2
              go_wp2_with fail
              go_roundw
              case rel => exact ⟨k + 1, g5, cap5, cs5, by omega, by rw [unhide HS]; go_num, unhide R⟩
              case measure => simp [intOf]; omega
          · obtain rfl : k = touchN at_ ds.length := by omega
            have hcond : ¬ ((at_ / 16 + touchN at_ ds.length : Nat) : Int) * 16 < (at_ : Int) + (ds.length : Int) := by
              have := touch_more (at_ := at_) (i := touchN at_ ds.length) hd0
              omega
            have hW2 := unhide hW
            rw [List.take_of_length_le (by rw [unhide HNL]; exact Nat.le_refl _), ← unhide HWD] at hW2
            obtain ⟨a6, c6, e6, hr6⟩ := wrow_owns hW2.own hW2.cells rfl
            have c0 := hW2.c0
            have c1 := hW2.c1
            have B6 := hbw2.trans (hW2.bel.mono (by omega))
            have bb : Below (w.heap.size + 1 + 1) w1 wr := B2.trans (hW2.bel.mono (by omega))
            have r0 := (bb.cell (p := ⟨w.heap.size + 1, 0, none⟩) (by simp)).trans r0
            have r1 := (bb.cell (p := ⟨w.heap.size + 1, 1, none⟩) (by simp)).trans r1
            have f0 := (bb.frozen (p := ⟨w.heap.size + 1, 0, none⟩) (by simp)).trans (unhide rf 0)
            have f1 := (bb.frozen (p := ⟨w.heap.size + 1, 1, none⟩) (by simp)).trans (unhide rf 1)
            injection e6 with e61 _ e63
            subst e61 e63
            have HR6 := hide hr6
            have RB6 := hide ((bb.block (w.heap.size + 1) (by omega)).trans (unhide RB))
            have hls := hW2.low
            have OW6 := hide hW2.own
            have CW6 := hide hW2.cells
            have hl6 := hW2.lowB
            clear hW2 hW hr6 bb
            generalize hzs : writeD xs ws at_ ds = zs at *
            have HZ2 := hide hzs
            clear hzs
            go_wp2_with fail
            refine bodyPost_ret (v := fv ah n c (some ⟨g3, 0, none⟩) zs.length cap3) (by simp [results, Try.results56, go_sem, r0, r1]) rfl ⟨g3, cap3, by rw [unhide HZ2], ?_, (B6.setCell (p := ⟨w.heap.size + 1, 0, none⟩) (by simp) _).setCell (p := ⟨w.heap.size + 1, 1, none⟩) (by simp) _, ?_⟩
            · rw [unhide HZ2]
              exact (unhide HR6).box (unhide RB6) _ _
            · rw [unhide HZ2]
              exact wcs_box (unhide OW6) (by omega) (unhide CW6) (by omega) (unhide RB6) _ _
theorem l02Write_gen (ah : Option Addr) (n c : Nat) (aw : Option Addr) (nw cw : Nat) (at_ : Nat) (bd od cd : Nat) (ds : List Int) (xs : List Int) (ws : List WD) (w : World) (hR : Row w ah n xs) (hah : Adr ah n c) (hW : WRow w aw nw ws) (hn : n ≤ 2048) (h16 : n % 16 = 0) (hnw : nw ≤ 4096) (hall : ∀ d ∈ ws, okW d = true) (hds : Row w (some ⟨bd, od, none⟩) ds.length ds) (hd0 : 0 < ds.length) (hfit : at_ + ds.length ≤ 2048) (haw : aw = none → nw = 0 ∧ cw = 0) :
    Calls Try.prog 56 #[fv ah n c aw nw cw, .int .i64 (at_ : Int), .slice (some ⟨bd, od, none⟩) ds.length cd] w fun e w' => ∃ g cw', e = .returned (fv ah n c (some ⟨g, 0, none⟩) (writeD xs ws at_ ds).length cw') ∧ WRow w' (some ⟨g, 0, none⟩) (writeD xs ws at_ ds).length (writeD xs ws at_ ds) ∧ Below w.heap.size w w' :=
  (l02Write_far ah n c aw nw cw at_ bd od cd ds xs ws w hR hah hW w.heap.size (Nat.le_refl _) (FarW.all hW) hn h16 hnw hall hds hd0 hfit haw).mono fun _ _ ⟨g, cw', h1, h2, h3, _⟩ => ⟨g, cw', h1, h2, h3⟩
theorem l02Write_some (b off n c : Nat) (aw : Option Addr) (nw cw : Nat) (at_ : Nat) (bd od cd : Nat) (ds : List Int) (xs : List Int) (ws : List WD) (w : World) (hR : Row w (some ⟨b, off, none⟩) n xs) (hW : WRow w aw nw ws) (hn : n ≤ 2048) (h16 : n % 16 = 0) (hnw : nw ≤ 4096) (hall : ∀ d ∈ ws, okW d = true) (hds : Row w (some ⟨bd, od, none⟩) ds.length ds) (hd0 : 0 < ds.length) (hfit : at_ + ds.length ≤ 2048) (haw : aw = none → nw = 0 ∧ cw = 0) :
    Calls Try.prog 56 #[fv (some ⟨b, off, none⟩) n c aw nw cw, .int .i64 (at_ : Int), .slice (some ⟨bd, od, none⟩) ds.length cd] w fun e w' => ∃ g cw', e = .returned (fv (some ⟨b, off, none⟩) n c (some ⟨g, 0, none⟩) (writeD xs ws at_ ds).length cw') ∧ WRow w' (some ⟨g, 0, none⟩) (writeD xs ws at_ ds).length (writeD xs ws at_ ds) ∧ Below w.heap.size w w' :=
  l02Write_gen (some ⟨b, off, none⟩) n c aw nw cw at_ bd od cd ds xs ws w hR (.inr ⟨b, off, rfl⟩) hW hn h16 hnw hall hds hd0 hfit haw
end Go.Proofs.Ytjhmammoakiknaa

namespace Go.Proofs.Ytjhmammoakiknaa
open Go.RowKit Go.Maps

/-- The row is one of kind t. -/
def KindA (w : World) (t : TypeId) (a : Option Addr) : Prop := ∀ x, a = some x → ∃ cur fr, w.heap[x.block]? = some (Obj.cells cur t fr)
/-- All but rows of ints is as it was. -/
def KeepI (w w' : World) : Prop := ∀ (k : Nat) (cur : Array Value) (t : TypeId) (fr : Nat × Nat), w.heap[k]? = some (Obj.cells cur t fr) → t ≠ 3 → w'.heap[k]? = w.heap[k]?
theorem KeepI.refl (w : World) : KeepI w w := fun _ _ _ _ _ _ => rfl
theorem KeepI.trans {w1 w2 w3 : World} (h : KeepI w1 w2) (k : KeepI w2 w3) : KeepI w1 w3 := fun i c t f hi h1 => (k i c t f ((h i c t f hi h1).trans hi) h1).trans (h i c t f hi h1)
theorem KeepI.of_below {w w' : World} (h : Below w.heap.size w w') : KeepI w w' := fun i _ _ _ hi _ => h.block i (Array.getElem?_eq_some_iff.1 hi).1
theorem KindA.keep {w w' : World} {t : TypeId} {a : Option Addr} (h : KindA w t a) (ht : t ≠ 3) (hk : KeepI w w') : KindA w' t a := fun x hx => by
  obtain ⟨cur, fr, e⟩ := h x hx
  exact ⟨cur, fr, (hk _ _ _ _ e ht).trans e⟩
theorem KindA.cell {w w' : World} {t : TypeId} {b off j : Nat} (h : KindA w t (some ⟨b, off, none⟩)) (ht : t ≠ 3) (hk : KeepI w w') : w'.cell? ⟨b, j, none⟩ = w.cell? ⟨b, j, none⟩ := by
  obtain ⟨cur, fr, e⟩ := h _ rfl
  exact World.cell?_of_block (w := w) (a := ⟨b, j, none⟩) (hk _ _ _ _ e ht)
theorem row_keepI {w w' : World} {a : Option Addr} {n : Nat} {xs : List Int} (h : Row w a n xs) (hk : KindA w 5 a) (hi : KeepI w w') : Row w' a n xs := by
  refine ⟨h.1, fun i hl => ?_⟩
  obtain ⟨b, off, e, hc⟩ := h.2 i hl
  subst e
  exact ⟨b, off, rfl, (hk.cell (by decide) hi).trans hc⟩
/-- What waits, with the kinds of its rows. -/
def WKind (w : World) (a : Option Addr) (ws : List WD) : Prop := KindA w 87 a ∧ ∀ i (_ : i < ws.length) b off a' m c, a = some ⟨b, off, none⟩ → w.cell? ⟨b, off + i * 2 + 1, none⟩ = some (.slice a' m c) → KindA w 5 a'
theorem wrow_keepI {w w' : World} {a : Option Addr} {n : Nat} {ws : List WD} (h : WRow w a n ws) (hk : WKind w a ws) (hi : KeepI w w') : WRow w' a n ws := by
  refine ⟨h.1, fun i hl => ?_⟩
  obtain ⟨b, off, e, c0, a', c', c1, hm, hr⟩ := h.2 i hl
  subst e
  exact ⟨b, off, rfl, (hk.1.cell (by decide) hi).trans c0, a', c', (hk.1.cell (by decide) hi).trans c1, hm, row_keepI hr (hk.2 i hl b off a' _ c' rfl c1) hi⟩
theorem WKind.keep {w w' : World} {a : Option Addr} {ws : List WD} (hk : WKind w a ws) (hi : KeepI w w') : WKind w' a ws := by
  refine ⟨hk.1.keep (by decide) hi, fun i hl b off a' m c e hc => ?_⟩
  subst e
  exact (hk.2 i hl b off a' m c rfl ((hk.1.cell (by decide) hi).symm.trans hc)).keep (by decide) hi
theorem KindA.set {w : World} {t : TypeId} {a : Option Addr} (h : KindA w t a) (ob o : Nat) (v : Value) : KindA (w.setCell ⟨ob, o, none⟩ v) t a := fun x hx => by
  obtain ⟨cur, fr, e⟩ := h x hx
  by_cases hb : x.block = ob
  · subst hb
    obtain ⟨cur', h'⟩ := setCell_kind (o := o) (v := v) e
    exact ⟨cur', fr, h'⟩
  · exact ⟨cur, fr, (Below.heap_setCell _ _ _ _ hb).trans e⟩
theorem KindA.none (w : World) (t : TypeId) : KindA w t none := fun _ h => by cases h
theorem WKind.nil (w : World) (a : Option Addr) (h : KindA w 87 a) : WKind w a [] := ⟨h, fun _ hi => absurd hi (Nat.not_lt_zero _)⟩
theorem WKind.box {w : World} {ob : Nat} {a1 a2 : Option Addr} {n1 c1 n2 c2 : Nat} {t : TypeId} {fr : Nat × Nat} {a : Option Addr} {n : Nat} {ws : List WD} (h : WKind w a ws) (hW : WRow w a n ws) (hk : w.heap[ob]? = some (.cells #[.slice a1 n1 c1, .slice a2 n2 c2] t fr)) (u v : Value) : WKind ((w.setCell ⟨ob, 0, none⟩ u).setCell ⟨ob, 1, none⟩ v) a ws := by
  refine ⟨(h.1.set ob 0 u).set ob 1 v, fun i hl b off a' m c e hc => ?_⟩
  obtain ⟨b', off', e', c0, _⟩ := hW.2 i hl
  rw [e] at e'
  injection e' with e'
  injection e' with e1 e2
  subst e1 e2
  have hb : b ≠ ob := fun e => by subst e; exact box_int hk c0
  exact ((h.2 i hl b off a' m c e ((World.cell?_of_block (w := w) (a := ⟨b, off + i * 2 + 1, none⟩) ((Below.heap_setCell _ _ _ _ hb).trans (Below.heap_setCell _ _ _ _ hb))).symm.trans hc)).set ob 0 u).set ob 1 v
theorem kind_owns {w : World} {B g m cap : Nat} {xs : List Int} (h : Owns w B (.slice (some ⟨g, 0, none⟩) m cap) xs) : KindA w 5 (some ⟨g, 0, none⟩) := fun x hx => by
  cases hx
  rcases h.2 with ⟨e, _⟩ | ⟨g', cap', cur, e, _, hh, _⟩
  · cases e
  · injection e with e1 _ _
    injection e1 with e1
    injection e1 with e1
    subst e1
    exact ⟨cur, _, hh⟩
/-- Kinds tell that the bytes of what waits lie in rows of bytes. -/
theorem WKind.far {w : World} {a : Option Addr} {ws : List WD} (h : WKind w a ws) : FarW w 0 a ws := by
  intro b off e i hi a' m c' hc hp x hx
  obtain ⟨cur, fr, hh⟩ := h.2 i hi b off a' m c' e hc x hx
  exact ⟨(Array.getElem?_eq_some_iff.1 hh).1, .inr ⟨cur, fr, hh⟩⟩
theorem WCs.kind {w : World} {base g cap m : Nat} {cs : List Value} {ws : List WD} (h : w.ownsRow base 87 2 (.slice (some ⟨g, 0, none⟩) m cap) m cs) (hc : WCs w 0 cs ws) (hm : ws.length = m) (hall : ∀ d ∈ ws, okW d = true) : WKind w (some ⟨g, 0, none⟩) ws := by
  obtain ⟨cur, hh⟩ := ownsW_kind h
  refine ⟨fun x hx => by cases hx; exact ⟨cur, _, hh⟩, fun i hl b off a' m' c e hcell => ?_⟩
  cases e
  obtain ⟨_, a2, c2, h1, _, _, h4⟩ := hc.2 i hl
  have e1 := h.cellAt (i * 2 + 1) (by omega)
  rw [Nat.zero_add, e1, h1] at hcell
  injection hcell with hcell
  injection hcell with hcell
  subst hcell
  obtain ⟨m, s, hd, _, hs⟩ := okW_shape (hall ws[i] (List.getElem_mem hl))
  intro x hx
  obtain ⟨_, f1⟩ := h4 (by rw [hd]; simp only; omega) x hx
  rcases f1 with f1 | f1
  · exact absurd f1 (Nat.not_lt_zero _)
  · exact f1
end Go.Proofs.Ytjhmammoakiknaa

namespace Go.Proofs.Ytjhmammoakiknaa
open Go.RowKit Go.Maps

/-- Bytes have room on a device. -/
def fitB (E : Int) (n : Nat) : Bool := decide (0 ≤ E ∧ E + (n : Int) ≤ 2048)
set_option maxHeartbeats 1000000 in
theorem l02Fits_any (E : Int) (n : Nat) (w : World) (hn : n ≤ 1048576) :
    Calls Try.prog 55 #[.int .i64 E, .int .i64 (n : Int)] w fun e w' => e = .returned (.bool (fitB E n)) ∧ w' = w := by
  by_cases h0 : 0 ≤ E
  · by_cases h1 : (n : Int) ≤ 2048
    · have wr : IntKind.i64.wrap (2048 - (n : Int)) = 2048 - (n : Int) := by rw [IntKind.wrap_i64]; omega
      have HE := hide (show fitB E n = decide (E ≤ 2048 - (n : Int)) from decide_eq_decide.2 ⟨fun h => by omega, fun h => ⟨h0, by omega⟩⟩)
      go_enter Try.func55, Try.ntmps55
      go_wp2_with fail
      refine (l02Size_any _).mono ?_
      rintro e w1 ⟨rfl, hw⟩
      subst w1
      go_wp2_with fail
      refine (l02Size_any _).mono ?_
      rintro e w1 ⟨rfl, hw⟩
      subst w1
      go_wp2_with fail
      go_ret
      rw [unhide HE]
      exact ⟨by simp, rfl⟩
    · have HE := hide (show fitB E n = false from decide_eq_false (by omega))
      go_enter Try.func55, Try.ntmps55
      go_wp2_with fail
      refine (l02Size_any _).mono ?_
      rintro e w1 ⟨rfl, hw⟩
      subst w1
      go_wp2_with fail
      go_ret
      rw [unhide HE]
      exact ⟨rfl, rfl⟩
  · have HE := hide (show fitB E n = false from decide_eq_false (by omega))
    go_enter Try.func55, Try.ntmps55
    go_wp2_with fail
    go_ret
    rw [unhide HE]
    exact ⟨rfl, rfl⟩
end Go.Proofs.Ytjhmammoakiknaa

namespace Go.Proofs.Ytjhmammoakiknaa
open Go.RowKit Go.Maps

/-- A device as the specification holds it. -/
structure SF (W : World) (ah : Option Addr) (n c : Nat) (aw : Option Addr) (nw cw : Nat) (f : FD) : Prop where
  row : Row W ah n f.xs
  adr : Adr ah n c
  wait : WRow W aw nw f.ws
  wn : aw = none → nw = 0 ∧ cw = 0
  hk : KindA W 5 ah
  wk : WKind W aw f.ws
  ok : okF f
theorem SF.below {W W2 : World} {ah : Option Addr} {n c : Nat} {aw : Option Addr} {nw cw : Nat} {f : FD} (h : SF W ah n c aw nw cw f) (hb : Below W.heap.size W W2) : SF W2 ah n c aw nw cw f := ⟨row_grow h.row hb, h.adr, h.wait.below hb, h.wn, h.hk.keep (by decide) (KeepI.of_below hb), h.wk.keep (KeepI.of_below hb), h.ok⟩
/-- What changes rows of ints alone leaves the device. -/
theorem SF.keep {W W2 : World} {ah : Option Addr} {n c : Nat} {aw : Option Addr} {nw cw : Nat} {f : FD} (h : SF W ah n c aw nw cw f) (hi : KeepI W W2) : SF W2 ah n c aw nw cw f :=
  ⟨row_keepI h.row h.hk hi, h.adr, wrow_keepI h.wait h.wk hi, h.wn, h.hk.keep (by decide) hi, h.wk.keep hi, h.ok⟩
theorem SF.len {W : World} {ah : Option Addr} {n c : Nat} {aw : Option Addr} {nw cw : Nat} {f : FD} (h : SF W ah n c aw nw cw f) : n ≤ 2048 ∧ n % 16 = 0 ∧ nw ≤ 4096 := by
  have h1 := h.row.1
  have h2 := h.wait.1
  have h3 := h.ok
  exact ⟨by rw [← h1]; exact h3.2.1, by rw [← h1]; exact h3.1, by rw [← h2]; exact h3.2.2.1⟩
/-- Bytes don't lie in a box of slices. -/
theorem row_box {w : World} {ob : Nat} {a1 a2 : Option Addr} {n1 c1 n2 c2 : Nat} {t : TypeId} {fr : Nat × Nat} {a : Option Addr} {n : Nat} {xs : List Int} (h : Row w a n xs) (hk : w.heap[ob]? = some (.cells #[.slice a1 n1 c1, .slice a2 n2 c2] t fr)) (u v : Value) : Row ((w.setCell ⟨ob, 0, none⟩ u).setCell ⟨ob, 1, none⟩ v) a n xs := by
  refine ⟨h.1, fun i hi => ?_⟩
  obtain ⟨b, off, e, hc⟩ := h.2 i hi
  have hb : b ≠ ob := fun e => by subst e; exact box_int hk hc
  exact ⟨b, off, e, (World.cell?_of_block (w := w) (a := ⟨b, off + i, none⟩) ((Below.heap_setCell _ _ _ _ hb).trans (Below.heap_setCell _ _ _ _ hb))).trans hc⟩
theorem SF.box {W : World} {ob : Nat} {a1 a2 : Option Addr} {n1 c1 n2 c2 : Nat} {t : TypeId} {fr : Nat × Nat} {ah : Option Addr} {n c : Nat} {aw : Option Addr} {nw cw : Nat} {f : FD} (h : SF W ah n c aw nw cw f) (hk : W.heap[ob]? = some (.cells #[.slice a1 n1 c1, .slice a2 n2 c2] t fr)) (u v : Value) : SF ((W.setCell ⟨ob, 0, none⟩ u).setCell ⟨ob, 1, none⟩ v) ah n c aw nw cw f :=
  ⟨row_box h.row hk u v, h.adr, h.wait.box hk u v, h.wn, (h.hk.set ob 0 u).set ob 1 v, h.wk.box h.wait hk u v, h.ok⟩
/-- What an act leaves. -/
def AcRes (f : FD) (x : ActD) (w : World) (e : Ending) (w' : World) : Prop :=
  ∃ ah n c aw nw cw, e = .returned (.tuple #[fv ah n c aw nw cw, .int .i64 (actD f x).2]) ∧ SF w' ah n c aw nw cw (actD f x).1 ∧ Below w.heap.size w w'
/-- The boxes of l02Act. -/
structure AcB (B : Nat) (W : World) (ah : Option Addr) (n c : Nat) (aw : Option Addr) (nw cw : Nat) (kind at_ torn : Int) (ad : Option Addr) (nd cd : Nat) (ak : Option Addr) (nk ck : Nat) : Prop where
  fb : W.heap[B]? = some (.cells #[.slice ah n c, .slice aw nw cw] 28 (0, 0))
  xb : W.heap[B + 1]? = some (.cells #[.int .i64 kind, .int .i64 at_, .int .i64 torn, .slice ad nd cd, .slice ak nk ck] 34 (0, 0))
  rb : W.heap[B + 1 + 1]? = some (.cells #[.slice none 0 0, .slice none 0 0] 28 (0, 0))
theorem AcB.start (w : World) (ah : Option Addr) (n c : Nat) (aw : Option Addr) (nw cw : Nat) (kind at_ torn : Int) (ad : Option Addr) (nd cd : Nat) (ak : Option Addr) (nk ck : Nat) :
    AcB w.heap.size (((w.alloc (.cells #[.slice ah n c, .slice aw nw cw] 28)).alloc (.cells #[.int .i64 kind, .int .i64 at_, .int .i64 torn, .slice ad nd cd, .slice ak nk ck] 34)).alloc (.cells #[.slice none 0 0, .slice none 0 0] 28)) ah n c aw nw cw kind at_ torn ad nd cd ak nk ck := by
  have z1 : (w.alloc (.cells #[.slice ah n c, .slice aw nw cw] 28)).heap.size = w.heap.size + 1 := by simp
  have z2 : ((w.alloc (.cells #[.slice ah n c, .slice aw nw cw] 28)).alloc (.cells #[.int .i64 kind, .int .i64 at_, .int .i64 torn, .slice ad nd cd, .slice ak nk ck] 34)).heap.size = w.heap.size + 1 + 1 := by simp
  have b2 := fun (u : World) (o : Obj) => (Below.refl u.heap.size u).alloc (Nat.le_refl _) o
  refine ⟨?_, ?_, ?_⟩
  · exact ((b2 _ _).block w.heap.size (by rw [z2]; omega)).trans (((b2 _ _).block w.heap.size (by rw [z1]; omega)).trans (heap_alloc_last _ _))
  · refine ((b2 _ _).block (w.heap.size + 1) (by rw [z2]; omega)).trans ?_
    rw [← z1]
    exact heap_alloc_last _ _
  · rw [← z2]
    exact heap_alloc_last _ _
theorem AcB.step {B : Nat} {W W2 : World} {ah : Option Addr} {n c : Nat} {aw : Option Addr} {nw cw : Nat} {kind at_ torn : Int} {ad : Option Addr} {nd cd : Nat} {ak : Option Addr} {nk ck : Nat} (h : AcB B W ah n c aw nw cw kind at_ torn ad nd cd ak nk ck) (hb : Below W.heap.size W W2) : AcB B W2 ah n c aw nw cw kind at_ torn ad nd cd ak nk ck :=
  ⟨(hb.block B (Array.getElem?_eq_some_iff.1 h.fb).1).trans h.fb, (hb.block (B + 1) (Array.getElem?_eq_some_iff.1 h.xb).1).trans h.xb, (hb.block (B + 1 + 1) (Array.getElem?_eq_some_iff.1 h.rb).1).trans h.rb⟩
theorem AcB.size {B : Nat} {W : World} {ah : Option Addr} {n c : Nat} {aw : Option Addr} {nw cw : Nat} {kind at_ torn : Int} {ad : Option Addr} {nd cd : Nat} {ak : Option Addr} {nk ck : Nat} (h : AcB B W ah n c aw nw cw kind at_ torn ad nd cd ak nk ck) : B + 1 + 1 < W.heap.size := (Array.getElem?_eq_some_iff.1 h.rb).1
theorem acRes {f : FD} {x : ActD} {w W : World} {B : Nat} (hB : B = w.heap.size) {ah : Option Addr} {n c : Nat} {aw : Option Addr} {nw cw : Nat} {g : FD} {k : Int} (hs : SF W ah n c aw nw cw g) (hr : W.heap[B + 1 + 1]? = some (.cells #[.slice none 0 0, .slice none 0 0] 28 (0, 0))) (hb : Below w.heap.size w W) (he : actD f x = (g, k)) :
    AcRes f x w (.returned (.tuple #[fv ah n c aw nw cw, .int .i64 k])) ((W.setCell ⟨B + 1 + 1, 0, none⟩ (.slice ah n c)).setCell ⟨B + 1 + 1, 1, none⟩ (.slice aw nw cw)) :=
  ⟨ah, n, c, aw, nw, cw, by rw [he], by rw [he]; exact hs.box hr _ _, (hb.setCell (p := ⟨B + 1 + 1, 0, none⟩) (by simp; omega) _).setCell (p := ⟨B + 1 + 1, 1, none⟩) (by simp; omega) _⟩
theorem l01In_act (n a b : Int) (w : World) : Calls Try.prog 58 #[.int .i64 n, .int .i64 a, .int .i64 b] w fun e w' => e = .returned (.bool (decide (a ≤ n) && decide (n ≤ b))) ∧ w' = w := by
  by_cases h : a ≤ n
  · have E := hide (show decide (n ≤ b) = (decide (a ≤ n) && decide (n ≤ b)) by rw [decide_eq_true h]; rfl)
    go_enter Try.func58, Try.ntmps58
    go_wp2_with fail
    go_ret
    exact ⟨ret_bool (unhide E), rfl⟩
  · have E := hide (show false = (decide (a ≤ n) && decide (n ≤ b)) by rw [decide_eq_false h]; rfl)
    go_enter Try.func58, Try.ntmps58
    go_wp2_with fail
    go_ret
    exact ⟨ret_bool (unhide E), rfl⟩
theorem crashD_bounds (xs : List Int) (ws : List WD) (ks : List Bool) (t : Nat) (h16 : xs.length % 16 = 0) (hb : xs.length ≤ 2048) (hall : ∀ d ∈ ws, okW d = true) (ht : t ≤ 16) : (crashD xs ws ks t).length % 16 = 0 ∧ (crashD xs ws ks t).length ≤ 2048 := by
  unfold crashD
  have hk : ∀ d ∈ keptD ws ks, okW d = true := fun d hd => hall d (keptD_mem _ _ d hd)
  rcases List.eq_nil_or_concat (keptD ws ks) with e | ⟨K, d, e⟩
  · rw [e, crB_nil]; exact ⟨h16, hb⟩
  · rw [List.concat_eq_append] at e
    rw [e] at hk ⊢
    rw [crB_snoc]
    obtain ⟨n, s, rfl, hn, hs⟩ := okW_shape (hk d (by simp))
    rw [putD_len _ _ _ hs ht]
    have := readD_bounds xs K h16 hb (fun d hd => hk d (by simp [hd]))
    simp
    omega
theorem okF_write {f : FD} (h : okF f) (E : Nat) (d : List Int) (hf : E + d.length ≤ 2048) (hn : (writeD f.xs f.ws E d).length ≤ 4096) : okF ⟨f.xs, writeD f.xs f.ws E d⟩ := by
  refine ⟨h.1, h.2.1, hn, fun w hw => ?_⟩
  have hb16 : (readD f.xs f.ws).length % 16 = 0 := (readD_bounds f.xs f.ws h.1 h.2.1 h.2.2.2).1
  rcases List.mem_append.1 hw with hw | hw
  · exact h.2.2.2 w hw
  · exact newW_ok _ _ _ hb16 hf w hw
theorem l02Write_act (ah : Option Addr) (n c : Nat) (aw : Option Addr) (nw cw E : Nat) (ad : Option Addr) (nd cd : Nat) (data : List Int) (f : FD) (m : Nat) (w : World) (hS : SF w ah n c aw nw cw f) (hR : Row w ad nd data) (hd0 : 0 < data.length) (hfit : E + data.length ≤ 2048) (hm : (writeD f.xs f.ws E data).length = m) :
    Calls Try.prog 56 #[fv ah n c aw nw cw, .int .i64 (E : Int), .slice ad nd cd] w fun e w' => ∃ g cw', e = .returned (fv ah n c (some ⟨g, 0, none⟩) m cw') ∧ WRow w' (some ⟨g, 0, none⟩) m (writeD f.xs f.ws E data) ∧ Below w.heap.size w w' ∧ WKind w' (some ⟨g, 0, none⟩) (writeD f.xs f.ws E data) := by
  obtain ⟨h1, h2, h3⟩ := hS.len
  have hl := hR.1
  subst hl
  obtain ⟨b, off, e, _⟩ := hR.2 0 hd0
  subst e
  subst hm
  have hb16 : (readD f.xs f.ws).length % 16 = 0 := (readD_bounds f.xs f.ws hS.ok.1 hS.ok.2.1 hS.ok.2.2.2).1
  refine (l02Write_far ah n c aw nw cw E b off cd data f.xs f.ws w hS.row hS.adr hS.wait 0 (Nat.zero_le _) hS.wk.far h1 h2 h3 hS.ok.2.2.2 hR hd0 hfit hS.wn).mono ?_
  rintro e w' ⟨g, cw', e1, e2, e3, cs, e4, e5⟩
  refine ⟨g, cw', e1, e2, e3, e5.kind e4 rfl fun d hd => ?_⟩
  rcases List.mem_append.1 hd with hd | hd
  · exact hS.ok.2.2.2 d hd
  · exact newW_ok _ _ _ hb16 hfit d hd
set_option maxRecDepth 100000 in
set_option maxHeartbeats 2000000 in
theorem ac_else (ah : Option Addr) (n c : Nat) (aw : Option Addr) (nw cw : Nat) (f : FD) (kind at_ torn : Int) (ad : Option Addr) (nd cd : Nat) (ak : Option Addr) (nk ck : Nat) (data : List Int) (keep : List Bool) (w : World) (hS : SF w ah n c aw nw cw f) (k1 : kind ≠ 1) (k2 : kind ≠ 2) (k3 : kind ≠ 3) (k4 : kind ≠ 4) :
    Calls Try.prog 27 #[fv ah n c aw nw cw, .agg #[.int .i64 kind, .int .i64 at_, .int .i64 torn, .slice ad nd cd, .slice ak nk ck]] w fun e w' => AcRes f ⟨kind, at_, torn, data, keep⟩ w e w' := by
  have b0 : Below w.heap.size w (((w.alloc (.cells #[.slice ah n c, .slice aw nw cw] 28)).alloc (.cells #[.int .i64 kind, .int .i64 at_, .int .i64 torn, .slice ad nd cd, .slice ak nk ck] 34)).alloc (.cells #[.slice none 0 0, .slice none 0 0] 28)) := (((Below.refl _ _).alloc (Nat.le_refl _) _).alloc (by simp) _).alloc (by simp; omega) _
  have T := hide (AcB.start w ah n c aw nw cw kind at_ torn ad nd cd ak nk ck)
  have B := hide b0
  have SS := hide (hS.below b0)
  obtain ⟨hn1, hn2, hn3⟩ := hS.len
  clear b0
  have HE := hide (show actD f ⟨kind, at_, torn, data, keep⟩ = (f, 3) by unfold actD; simp only; rw [if_neg k1, if_neg k2, if_neg k3, if_neg k4])
  have q1 : (kind == 1) = false := by simpa using k1
  have q2 : (kind == 2) = false := by simpa using k2
  have q3 : (kind == 3) = false := by simpa using k3
  have q4 : (kind == 4) = false := by simpa using k4
  go_enter Try.func27, Try.ntmps27
  go_wp2_with fail
  have bb : ∀ o1 o2 o3, Below w.heap.size w (((w.alloc o1).alloc o2).alloc o3) := fun o1 o2 o3 => (((Below.refl _ _).alloc (Nat.le_refl _) _).alloc (by simp) _).alloc (by simp; omega) _
  exact bodyPost_ret (v := .tuple #[fv ah n c aw nw cw, .int .i64 3]) (by simp [results, Try.results27, go_sem]) rfl ⟨ah, n, c, aw, nw, cw, by rw [unhide HE], by rw [unhide HE]; exact hS.below (bb _ _ _), bb _ _ _⟩
set_option maxRecDepth 100000 in
set_option maxHeartbeats 2000000 in
theorem ac_sync (ah : Option Addr) (n c : Nat) (aw : Option Addr) (nw cw : Nat) (f : FD) (at_ torn : Int) (ad : Option Addr) (nd cd : Nat) (ak : Option Addr) (nk ck : Nat) (data : List Int) (keep : List Bool) (w : World) (hS : SF w ah n c aw nw cw f) :
    Calls Try.prog 27 #[fv ah n c aw nw cw, .agg #[.int .i64 2, .int .i64 at_, .int .i64 torn, .slice ad nd cd, .slice ak nk ck]] w fun e w' => AcRes f ⟨2, at_, torn, data, keep⟩ w e w' := by
  have b0 : Below w.heap.size w (((w.alloc (.cells #[.slice ah n c, .slice aw nw cw] 28)).alloc (.cells #[.int .i64 2, .int .i64 at_, .int .i64 torn, .slice ad nd cd, .slice ak nk ck] 34)).alloc (.cells #[.slice none 0 0, .slice none 0 0] 28)) := (((Below.refl _ _).alloc (Nat.le_refl _) _).alloc (by simp) _).alloc (by simp; omega) _
  have T := hide (AcB.start w ah n c aw nw cw 2 at_ torn ad nd cd ak nk ck)
  have B := hide b0
  have SS := hide (hS.below b0)
  obtain ⟨hn1, hn2, hn3⟩ := hS.len
  clear b0
  have HE := hide (show actD f ⟨2, at_, torn, data, keep⟩ = (⟨readD f.xs f.ws, []⟩, 0) from rfl)
  have HP := hide (l02Read_gen ah n c aw nw cw f.xs f.ws _ (unhide SS).row (unhide SS).adr (unhide SS).wait hn1 hn2 (by omega) (unhide SS).ok.2.2.2)
  have HB := hide (readD_bounds f.xs f.ws (unhide SS).ok.1 (unhide SS).ok.2.1 (unhide SS).ok.2.2.2)
  go_enter Try.func27, Try.ntmps27
  go_wp2_with fail
  generalize (((w.alloc (.cells #[.slice ah n c, .slice aw nw cw] 28)).alloc (.cells #[.int .i64 2, .int .i64 at_, .int .i64 torn, .slice ad nd cd, .slice ak nk ck] 34)).alloc (.cells #[.slice none 0 0, .slice none 0 0] 28)) = w0 at *
  refine (unhide HP).mono ?_
  rintro e w1 ⟨g, cap, rfl, hO, hb⟩
  replace T := hide ((unhide T).step hb)
  replace B := hide ((unhide B).trans (hb.mono (unhide B).size))
  replace SS := hide ((unhide SS).below hb)
  have S2 := hide (show SF w1 (some ⟨g, 0, none⟩) (readD f.xs f.ws).length cap none 0 0 ⟨readD f.xs f.ws, []⟩ from ⟨row_of_owns hO, .inr ⟨g, 0, rfl⟩, ⟨rfl, fun _ hi => absurd hi (Nat.not_lt_zero _)⟩, fun _ => ⟨rfl, rfl⟩, kind_owns hO, WKind.nil _ _ (KindA.none _ _), (unhide HB).1, (unhide HB).2, Nat.zero_le _, fun _ h => by cases h⟩)
  clear hO hb HP
  have r0 := (heap_at (unhide T).rb 0).1
  have r1 := (heap_at (unhide T).rb 1).1
  have z0 := (heap_at (unhide T).rb 0).2
  have z1 := (heap_at (unhide T).rb 1).2
  go_wp2_with fail
  refine bodyPost_ret (v := .tuple #[fv (some ⟨g, 0, none⟩) (readD f.xs f.ws).length cap none 0 0, .int .i64 0]) (by simp [results, Try.results27, go_sem, r0, r1]) rfl (acRes rfl (unhide S2) (unhide T).rb (unhide B) (unhide HE))
set_option maxRecDepth 100000 in
set_option maxHeartbeats 2000000 in
theorem ac_crash (ah : Option Addr) (n c : Nat) (aw : Option Addr) (nw cw : Nat) (f : FD) (at_ : Int) (t : Nat) (ad : Option Addr) (nd cd : Nat) (ak : Option Addr) (nk ck : Nat) (data : List Int) (keep : List Bool) (w : World) (hS : SF w ah n c aw nw cw f) (ht : t ≤ 16) (hnk : nk ≤ 1048576) (hK : BRow w ak nk keep) :
    Calls Try.prog 27 #[fv ah n c aw nw cw, .agg #[.int .i64 3, .int .i64 at_, .int .i64 (t : Int), .slice ad nd cd, .slice ak nk ck]] w fun e w' => AcRes f ⟨3, at_, (t : Int), data, keep⟩ w e w' := by
  have b0 : Below w.heap.size w (((w.alloc (.cells #[.slice ah n c, .slice aw nw cw] 28)).alloc (.cells #[.int .i64 3, .int .i64 at_, .int .i64 (t : Int), .slice ad nd cd, .slice ak nk ck] 34)).alloc (.cells #[.slice none 0 0, .slice none 0 0] 28)) := (((Below.refl _ _).alloc (Nat.le_refl _) _).alloc (by simp) _).alloc (by simp; omega) _
  have T := hide (AcB.start w ah n c aw nw cw 3 at_ (t : Int) ad nd cd ak nk ck)
  have B := hide b0
  have SS := hide (hS.below b0)
  obtain ⟨hn1, hn2, hn3⟩ := hS.len
  clear b0
  have HE := hide (show actD f ⟨3, at_, (t : Int), data, keep⟩ = (⟨crashD f.xs f.ws keep t, []⟩, 0) by rw [actD_3 rfl]; simp only; rw [if_pos ⟨by omega, by omega⟩, Int.toNat_natCast])
  have HK := hide (fun W (hb : Below w.heap.size w W) => hK.grow hb)
  have HIN := hide (fun W => l01In_act (t : Int) 0 16 W)
  have hin : (decide ((0 : Int) ≤ (t : Int)) && decide ((t : Int) ≤ 16)) = true := by simp; omega
  rw [hin] at HIN
  clear hin hK
  go_enter Try.func27, Try.ntmps27
  go_wp2_with fail
  generalize (((w.alloc (.cells #[.slice ah n c, .slice aw nw cw] 28)).alloc (.cells #[.int .i64 3, .int .i64 at_, .int .i64 (t : Int), .slice ad nd cd, .slice ak nk ck] 34)).alloc (.cells #[.slice none 0 0, .slice none 0 0] 28)) = w0 at *
  refine (unhide HIN _).mono ?_
  rintro e w1 ⟨rfl, hw⟩
  subst w1
  have HC := hide (l02Crash_gen ah n c aw nw cw ak nk ck keep f.xs f.ws t w0 (unhide SS).row (unhide SS).adr (unhide SS).wait (unhide HK w0 (unhide B)) hn1 hn2 hn3 (by omega) (unhide SS).ok.2.2.2 ht)
  have f0 := (heap_at (unhide T).fb 0).1
  have f1 := (heap_at (unhide T).fb 1).1
  have x1 := (heap_at (unhide T).xb 1).1
  have x2 := (heap_at (unhide T).xb 2).1
  have x3 := (heap_at (unhide T).xb 3).1
  have x4 := (heap_at (unhide T).xb 4).1
  go_wp2_with fail
  clear f0 f1 x1 x2 x3 x4
  refine (unhide HC).mono ?_
  rintro e w1 ⟨g, cap, rfl, hO, hb⟩
  replace T := hide ((unhide T).step hb)
  replace B := hide ((unhide B).trans (hb.mono (unhide B).size))
  replace SS := hide ((unhide SS).below hb)
  have hcb : (crashD f.xs f.ws keep t).length % 16 = 0 ∧ (crashD f.xs f.ws keep t).length ≤ 2048 := crashD_bounds f.xs f.ws keep t (unhide SS).ok.1 (unhide SS).ok.2.1 (unhide SS).ok.2.2.2 ht
  have S2 := hide (show SF w1 (some ⟨g, 0, none⟩) (crashD f.xs f.ws keep t).length cap none 0 0 ⟨crashD f.xs f.ws keep t, []⟩ from ⟨row_of_owns hO, .inr ⟨g, 0, rfl⟩, ⟨rfl, fun _ hi => absurd hi (Nat.not_lt_zero _)⟩, fun _ => ⟨rfl, rfl⟩, kind_owns hO, WKind.nil _ _ (KindA.none _ _), hcb.1, hcb.2, Nat.zero_le _, fun _ h => by cases h⟩)
  clear hO hb HC hcb
  have r0 := (heap_at (unhide T).rb 0).1
  have r1 := (heap_at (unhide T).rb 1).1
  have z0 := (heap_at (unhide T).rb 0).2
  have z1 := (heap_at (unhide T).rb 1).2
  go_wp2_with fail
  refine bodyPost_ret (v := .tuple #[fv (some ⟨g, 0, none⟩) (crashD f.xs f.ws keep t).length cap none 0 0, .int .i64 0]) (by simp [results, Try.results27, go_sem, r0, r1]) rfl (acRes rfl (unhide S2) (unhide T).rb (unhide B) (unhide HE))
set_option maxRecDepth 100000 in
set_option maxHeartbeats 2000000 in
theorem ac_torn (ah : Option Addr) (n c : Nat) (aw : Option Addr) (nw cw : Nat) (f : FD) (at_ torn : Int) (ad : Option Addr) (nd cd : Nat) (ak : Option Addr) (nk ck : Nat) (data : List Int) (keep : List Bool) (w : World) (hS : SF w ah n c aw nw cw f) (ht : ¬ (0 ≤ torn ∧ torn ≤ 16)) :
    Calls Try.prog 27 #[fv ah n c aw nw cw, .agg #[.int .i64 3, .int .i64 at_, .int .i64 torn, .slice ad nd cd, .slice ak nk ck]] w fun e w' => AcRes f ⟨3, at_, torn, data, keep⟩ w e w' := by
  have b0 : Below w.heap.size w (((w.alloc (.cells #[.slice ah n c, .slice aw nw cw] 28)).alloc (.cells #[.int .i64 3, .int .i64 at_, .int .i64 torn, .slice ad nd cd, .slice ak nk ck] 34)).alloc (.cells #[.slice none 0 0, .slice none 0 0] 28)) := (((Below.refl _ _).alloc (Nat.le_refl _) _).alloc (by simp) _).alloc (by simp; omega) _
  have T := hide (AcB.start w ah n c aw nw cw 3 at_ torn ad nd cd ak nk ck)
  have B := hide b0
  have SS := hide (hS.below b0)
  obtain ⟨hn1, hn2, hn3⟩ := hS.len
  clear b0
  have HE := hide (show actD f ⟨3, at_, torn, data, keep⟩ = (f, 4) by rw [actD_3 rfl]; simp only; rw [if_neg ht])
  have HIN := hide (fun W => l01In_act torn 0 16 W)
  have hin : (decide ((0 : Int) ≤ torn) && decide (torn ≤ 16)) = false := by
    cases hh : (decide ((0 : Int) ≤ torn) && decide (torn ≤ 16)) with
    | false => rfl
    | true => rw [Bool.and_eq_true] at hh; exact absurd ⟨of_decide_eq_true hh.1, of_decide_eq_true hh.2⟩ ht
  rw [hin] at HIN
  clear hin
  go_enter Try.func27, Try.ntmps27
  go_wp2_with fail
  generalize (((w.alloc (.cells #[.slice ah n c, .slice aw nw cw] 28)).alloc (.cells #[.int .i64 3, .int .i64 at_, .int .i64 torn, .slice ad nd cd, .slice ak nk ck] 34)).alloc (.cells #[.slice none 0 0, .slice none 0 0] 28)) = w0 at *
  refine (unhide HIN _).mono ?_
  rintro e w1 ⟨rfl, hw⟩
  subst w1
  have r0 := (heap_at (unhide T).rb 0).1
  have r1 := (heap_at (unhide T).rb 1).1
  have z0 := (heap_at (unhide T).rb 0).2
  have z1 := (heap_at (unhide T).rb 1).2
  have f0 := (heap_at (unhide T).fb 0).1
  have f1 := (heap_at (unhide T).fb 1).1
  go_wp2_with fail
  refine bodyPost_ret (v := .tuple #[fv ah n c aw nw cw, .int .i64 4]) (by simp [results, Try.results27, go_sem, r0, r1]) rfl (acRes rfl (unhide SS) (unhide T).rb (unhide B) (unhide HE))
set_option maxRecDepth 100000 in
set_option maxHeartbeats 2000000 in
theorem ac_out (ah : Option Addr) (n c : Nat) (aw : Option Addr) (nw cw : Nat) (f : FD) (at_ torn : Int) (ad : Option Addr) (nd cd : Nat) (ak : Option Addr) (nk ck : Nat) (data : List Int) (keep : List Bool) (w : World) (hS : SF w ah n c aw nw cw f) (ht : ¬ (0 ≤ at_ ∧ at_ ≤ 127)) :
    Calls Try.prog 27 #[fv ah n c aw nw cw, .agg #[.int .i64 4, .int .i64 at_, .int .i64 torn, .slice ad nd cd, .slice ak nk ck]] w fun e w' => AcRes f ⟨4, at_, torn, data, keep⟩ w e w' := by
  have b0 : Below w.heap.size w (((w.alloc (.cells #[.slice ah n c, .slice aw nw cw] 28)).alloc (.cells #[.int .i64 4, .int .i64 at_, .int .i64 torn, .slice ad nd cd, .slice ak nk ck] 34)).alloc (.cells #[.slice none 0 0, .slice none 0 0] 28)) := (((Below.refl _ _).alloc (Nat.le_refl _) _).alloc (by simp) _).alloc (by simp; omega) _
  have T := hide (AcB.start w ah n c aw nw cw 4 at_ torn ad nd cd ak nk ck)
  have B := hide b0
  have SS := hide (hS.below b0)
  obtain ⟨hn1, hn2, hn3⟩ := hS.len
  clear b0
  have HE := hide (show actD f ⟨4, at_, torn, data, keep⟩ = (f, 4) by rw [actD_4 rfl]; simp only; rw [if_neg ht])
  have HIN := hide (fun W => l01In_act at_ 0 127 W)
  have hin : (decide ((0 : Int) ≤ at_) && decide (at_ ≤ 127)) = false := by
    cases hh : (decide ((0 : Int) ≤ at_) && decide (at_ ≤ 127)) with
    | false => rfl
    | true => rw [Bool.and_eq_true] at hh; exact absurd ⟨of_decide_eq_true hh.1, of_decide_eq_true hh.2⟩ ht
  rw [hin] at HIN
  clear hin
  go_enter Try.func27, Try.ntmps27
  go_wp2_with fail
  generalize (((w.alloc (.cells #[.slice ah n c, .slice aw nw cw] 28)).alloc (.cells #[.int .i64 4, .int .i64 at_, .int .i64 torn, .slice ad nd cd, .slice ak nk ck] 34)).alloc (.cells #[.slice none 0 0, .slice none 0 0] 28)) = w0 at *
  refine (unhide HIN _).mono ?_
  rintro e w1 ⟨rfl, hw⟩
  subst w1
  have r0 := (heap_at (unhide T).rb 0).1
  have r1 := (heap_at (unhide T).rb 1).1
  have z0 := (heap_at (unhide T).rb 0).2
  have z1 := (heap_at (unhide T).rb 1).2
  have f0 := (heap_at (unhide T).fb 0).1
  have f1 := (heap_at (unhide T).fb 1).1
  go_wp2_with fail
  refine bodyPost_ret (v := .tuple #[fv ah n c aw nw cw, .int .i64 4]) (by simp [results, Try.results27, go_sem, r0, r1]) rfl (acRes rfl (unhide SS) (unhide T).rb (unhide B) (unhide HE))
set_option maxRecDepth 100000 in
set_option maxHeartbeats 2000000 in
theorem ac_full (ah : Option Addr) (n c : Nat) (aw : Option Addr) (nw cw : Nat) (f : FD) (at_ torn : Int) (ad : Option Addr) (nd cd : Nat) (ak : Option Addr) (nk ck : Nat) (data : List Int) (keep : List Bool) (w : World) (hS : SF w ah n c aw nw cw f) (hnd : nd = data.length) (hnd2 : nd ≤ 1048576) (hf : fitD at_ data.length = false) :
    Calls Try.prog 27 #[fv ah n c aw nw cw, .agg #[.int .i64 1, .int .i64 at_, .int .i64 torn, .slice ad nd cd, .slice ak nk ck]] w fun e w' => AcRes f ⟨1, at_, torn, data, keep⟩ w e w' := by
  have b0 : Below w.heap.size w (((w.alloc (.cells #[.slice ah n c, .slice aw nw cw] 28)).alloc (.cells #[.int .i64 1, .int .i64 at_, .int .i64 torn, .slice ad nd cd, .slice ak nk ck] 34)).alloc (.cells #[.slice none 0 0, .slice none 0 0] 28)) := (((Below.refl _ _).alloc (Nat.le_refl _) _).alloc (by simp) _).alloc (by simp; omega) _
  have T := hide (AcB.start w ah n c aw nw cw 1 at_ torn ad nd cd ak nk ck)
  have B := hide b0
  have SS := hide (hS.below b0)
  obtain ⟨hn1, hn2, hn3⟩ := hS.len
  clear b0
  have HE := hide (show actD f ⟨1, at_, torn, data, keep⟩ = (f, 7) by rw [actD_1 rfl]; simp only; rw [hf]; rfl)
  have HFT := hide (fun W => l02Fits_any at_ nd W hnd2)
  have hfb : fitB at_ nd = false := by rw [hnd]; exact hf
  rw [hfb] at HFT
  clear hfb
  clear hnd hf hnd2
  go_enter Try.func27, Try.ntmps27
  go_wp2_with fail
  generalize (((w.alloc (.cells #[.slice ah n c, .slice aw nw cw] 28)).alloc (.cells #[.int .i64 1, .int .i64 at_, .int .i64 torn, .slice ad nd cd, .slice ak nk ck] 34)).alloc (.cells #[.slice none 0 0, .slice none 0 0] 28)) = w0 at *
  refine (unhide HFT _).mono ?_
  rintro e w1 ⟨rfl, hw⟩
  subst w1
  have r0 := (heap_at (unhide T).rb 0).1
  have r1 := (heap_at (unhide T).rb 1).1
  have z0 := (heap_at (unhide T).rb 0).2
  have z1 := (heap_at (unhide T).rb 1).2
  have f0 := (heap_at (unhide T).fb 0).1
  have f1 := (heap_at (unhide T).fb 1).1
  go_wp2_with fail
  refine bodyPost_ret (v := .tuple #[fv ah n c aw nw cw, .int .i64 7]) (by simp [results, Try.results27, go_sem, r0, r1]) rfl (acRes rfl (unhide SS) (unhide T).rb (unhide B) (unhide HE))
set_option maxRecDepth 100000 in
set_option maxHeartbeats 2000000 in
theorem ac_nil (ah : Option Addr) (n c : Nat) (aw : Option Addr) (nw cw : Nat) (f : FD) (E : Nat) (torn : Int) (ad : Option Addr) (nd cd : Nat) (ak : Option Addr) (nk ck : Nat) (keep : List Bool) (w : World) (hS : SF w ah n c aw nw cw f) (hnd : nd = 0) (hE : E ≤ 2048) :
    Calls Try.prog 27 #[fv ah n c aw nw cw, .agg #[.int .i64 1, .int .i64 (E : Int), .int .i64 torn, .slice ad nd cd, .slice ak nk ck]] w fun e w' => AcRes f ⟨1, (E : Int), torn, [], keep⟩ w e w' := by
  have b0 : Below w.heap.size w (((w.alloc (.cells #[.slice ah n c, .slice aw nw cw] 28)).alloc (.cells #[.int .i64 1, .int .i64 (E : Int), .int .i64 torn, .slice ad nd cd, .slice ak nk ck] 34)).alloc (.cells #[.slice none 0 0, .slice none 0 0] 28)) := (((Below.refl _ _).alloc (Nat.le_refl _) _).alloc (by simp) _).alloc (by simp; omega) _
  have T := hide (AcB.start w ah n c aw nw cw 1 (E : Int) torn ad nd cd ak nk ck)
  have B := hide b0
  have SS := hide (hS.below b0)
  obtain ⟨hn1, hn2, hn3⟩ := hS.len
  clear b0
  have HE := hide (show actD f ⟨1, (E : Int), torn, [], keep⟩ = (f, 0) by rw [actD_1 rfl]; simp only [Int.toNat_natCast, List.length_nil, writeD_nil]; rw [if_pos (show fitD (E : Int) 0 = true from decide_eq_true ⟨by omega, by omega⟩), if_pos hS.ok.2.2.1])
  subst hnd
  have HFT := hide (fun W => l02Fits_any (E : Int) 0 W (by omega))
  have hfb : fitB (E : Int) 0 = true := decide_eq_true ⟨by omega, by omega⟩
  rw [hfb] at HFT
  clear hfb
  go_enter Try.func27, Try.ntmps27
  go_wp2_with fail
  generalize (((w.alloc (.cells #[.slice ah n c, .slice aw nw cw] 28)).alloc (.cells #[.int .i64 1, .int .i64 (E : Int), .int .i64 torn, .slice ad 0 cd, .slice ak nk ck] 34)).alloc (.cells #[.slice none 0 0, .slice none 0 0] 28)) = w0 at *
  refine (unhide HFT _).mono ?_
  rintro e w1 ⟨rfl, hw⟩
  subst w1
  have HW := hide (l02Write_noneg ah n c aw nw cw E ad cd w0)
  have f0 := (heap_at (unhide T).fb 0).1
  have f1 := (heap_at (unhide T).fb 1).1
  have x1 := (heap_at (unhide T).xb 1).1
  have x2 := (heap_at (unhide T).xb 2).1
  have x3 := (heap_at (unhide T).xb 3).1
  have x4 := (heap_at (unhide T).xb 4).1
  go_wp2_with fail
  clear f0 f1 x1 x2 x3 x4
  refine (unhide HW).mono ?_
  rintro e w1 ⟨rfl, hb⟩
  replace T := hide ((unhide T).step hb)
  replace B := hide ((unhide B).trans (hb.mono (unhide B).size))
  replace SS := hide ((unhide SS).below hb)
  have S2 := SS
  have hb2 : Below w1.heap.size w1 (w1.alloc (.cells #[.slice ah n c, .slice aw nw cw] 28)) := (Below.refl _ _).alloc (Nat.le_refl _) _
  replace T := hide ((unhide T).step hb2)
  replace B := hide ((unhide B).trans (hb2.mono (unhide B).size))
  replace S2 := hide ((unhide S2).below hb2)
  clear hb hb2 HW SS
  have r0 := (heap_at (unhide T).rb 0).1
  have r1 := (heap_at (unhide T).rb 1).1
  have z0 := (heap_at (unhide T).rb 0).2
  have z1 := (heap_at (unhide T).rb 1).2
  have hg : decide ((4096 : Int) < (nw : Nat)) = false := decide_eq_false (by omega)
  go_wp2_with fail
  refine bodyPost_ret (v := .tuple #[fv ah n c aw nw cw, .int .i64 0]) (by simp [results, Try.results27, go_sem, r0, r1]) rfl (acRes rfl (unhide S2) (unhide T).rb (unhide B) (unhide HE))
set_option maxRecDepth 100000 in
set_option maxHeartbeats 2000000 in
theorem ac_wr (ah : Option Addr) (n c : Nat) (aw : Option Addr) (nw cw : Nat) (f : FD) (E : Nat) (torn : Int) (ad : Option Addr) (nd cd : Nat) (ak : Option Addr) (nk ck : Nat) (data : List Int) (keep : List Bool) (w : World) (hS : SF w ah n c aw nw cw f) (m : Nat) (hR : Row w ad nd data) (hd0 : 0 < data.length) (hfit : E + data.length ≤ 2048) (hm : (writeD f.xs f.ws E data).length = m) (hm2 : m ≤ 4096) :
    Calls Try.prog 27 #[fv ah n c aw nw cw, .agg #[.int .i64 1, .int .i64 (E : Int), .int .i64 torn, .slice ad nd cd, .slice ak nk ck]] w fun e w' => AcRes f ⟨1, (E : Int), torn, data, keep⟩ w e w' := by
  have b0 : Below w.heap.size w (((w.alloc (.cells #[.slice ah n c, .slice aw nw cw] 28)).alloc (.cells #[.int .i64 1, .int .i64 (E : Int), .int .i64 torn, .slice ad nd cd, .slice ak nk ck] 34)).alloc (.cells #[.slice none 0 0, .slice none 0 0] 28)) := (((Below.refl _ _).alloc (Nat.le_refl _) _).alloc (by simp) _).alloc (by simp; omega) _
  have T := hide (AcB.start w ah n c aw nw cw 1 (E : Int) torn ad nd cd ak nk ck)
  have B := hide b0
  have SS := hide (hS.below b0)
  obtain ⟨hn1, hn2, hn3⟩ := hS.len
  clear b0
  have HE := hide (show actD f ⟨1, (E : Int), torn, data, keep⟩ = (⟨f.xs, writeD f.xs f.ws E data⟩, 0) by rw [actD_1 rfl]; simp only [Int.toNat_natCast]; rw [if_pos (show fitD (E : Int) data.length = true from decide_eq_true ⟨by omega, by omega⟩), if_pos (by omega)])
  have HR := hide (fun W (hb : Below w.heap.size w W) => row_grow hR hb)
  have hl := hR.1
  have hok := hS.ok
  clear hR
  have HFT := hide (fun W => l02Fits_any (E : Int) nd W (by omega))
  have hfb : fitB (E : Int) nd = true := decide_eq_true ⟨by omega, by omega⟩
  rw [hfb] at HFT
  clear hfb
  go_enter Try.func27, Try.ntmps27
  go_wp2_with fail
  generalize (((w.alloc (.cells #[.slice ah n c, .slice aw nw cw] 28)).alloc (.cells #[.int .i64 1, .int .i64 (E : Int), .int .i64 torn, .slice ad nd cd, .slice ak nk ck] 34)).alloc (.cells #[.slice none 0 0, .slice none 0 0] 28)) = w0 at *
  refine (unhide HFT _).mono ?_
  rintro e w1 ⟨rfl, hw⟩
  subst w1
  have HW := hide (l02Write_act ah n c aw nw cw E ad nd cd data f m w0 (unhide SS) (unhide HR w0 (unhide B)) hd0 hfit hm)
  have f0 := (heap_at (unhide T).fb 0).1
  have f1 := (heap_at (unhide T).fb 1).1
  have x1 := (heap_at (unhide T).xb 1).1
  have x2 := (heap_at (unhide T).xb 2).1
  have x3 := (heap_at (unhide T).xb 3).1
  have x4 := (heap_at (unhide T).xb 4).1
  go_wp2_with fail
  clear f0 f1 x1 x2 x3 x4
  refine (unhide HW).mono ?_
  rintro e w1 ⟨g, cw2, rfl, hWR, hb, hWK⟩
  replace T := hide ((unhide T).step hb)
  replace B := hide ((unhide B).trans (hb.mono (unhide B).size))
  replace SS := hide ((unhide SS).below hb)
  have S2 := hide (show SF w1 ah n c (some ⟨g, 0, none⟩) m cw2 ⟨f.xs, writeD f.xs f.ws E data⟩ from ⟨(unhide SS).row, (unhide SS).adr, hWR, (fun h => by cases h), (unhide SS).hk, hWK, okF_write (unhide SS).ok E data hfit (by omega)⟩)
  clear hWR hWK hm hl
  have hb2 : Below w1.heap.size w1 (w1.alloc (.cells #[.slice ah n c, .slice (some ⟨g, 0, none⟩) m cw2] 28)) := (Below.refl _ _).alloc (Nat.le_refl _) _
  replace T := hide ((unhide T).step hb2)
  replace B := hide ((unhide B).trans (hb2.mono (unhide B).size))
  replace S2 := hide ((unhide S2).below hb2)
  clear hb hb2 HW SS
  have r0 := (heap_at (unhide T).rb 0).1
  have r1 := (heap_at (unhide T).rb 1).1
  have z0 := (heap_at (unhide T).rb 0).2
  have z1 := (heap_at (unhide T).rb 1).2
  have hg : decide ((4096 : Int) < (m : Nat)) = false := decide_eq_false (by omega)
  go_wp2_with fail
  refine bodyPost_ret (v := .tuple #[fv ah n c (some ⟨g, 0, none⟩) m cw2, .int .i64 0]) (by simp [results, Try.results27, go_sem, r0, r1]) rfl (acRes rfl (unhide S2) (unhide T).rb (unhide B) (unhide HE))
set_option maxRecDepth 100000 in
set_option maxHeartbeats 2000000 in
theorem ac_many (ah : Option Addr) (n c : Nat) (aw : Option Addr) (nw cw : Nat) (f : FD) (E : Nat) (torn : Int) (ad : Option Addr) (nd cd : Nat) (ak : Option Addr) (nk ck : Nat) (data : List Int) (keep : List Bool) (w : World) (hS : SF w ah n c aw nw cw f) (m : Nat) (hR : Row w ad nd data) (hd0 : 0 < data.length) (hfit : E + data.length ≤ 2048) (hm : (writeD f.xs f.ws E data).length = m) (hm2 : ¬ m ≤ 4096) :
    Calls Try.prog 27 #[fv ah n c aw nw cw, .agg #[.int .i64 1, .int .i64 (E : Int), .int .i64 torn, .slice ad nd cd, .slice ak nk ck]] w fun e w' => AcRes f ⟨1, (E : Int), torn, data, keep⟩ w e w' := by
  have b0 : Below w.heap.size w (((w.alloc (.cells #[.slice ah n c, .slice aw nw cw] 28)).alloc (.cells #[.int .i64 1, .int .i64 (E : Int), .int .i64 torn, .slice ad nd cd, .slice ak nk ck] 34)).alloc (.cells #[.slice none 0 0, .slice none 0 0] 28)) := (((Below.refl _ _).alloc (Nat.le_refl _) _).alloc (by simp) _).alloc (by simp; omega) _
  have T := hide (AcB.start w ah n c aw nw cw 1 (E : Int) torn ad nd cd ak nk ck)
  have B := hide b0
  have SS := hide (hS.below b0)
  obtain ⟨hn1, hn2, hn3⟩ := hS.len
  clear b0
  have HE := hide (show actD f ⟨1, (E : Int), torn, data, keep⟩ = (f, 6) by rw [actD_1 rfl]; simp only [Int.toNat_natCast]; rw [if_pos (show fitD (E : Int) data.length = true from decide_eq_true ⟨by omega, by omega⟩), if_neg (by omega)])
  have HR := hide (fun W (hb : Below w.heap.size w W) => row_grow hR hb)
  have hl := hR.1
  have hok := hS.ok
  clear hR
  have HFT := hide (fun W => l02Fits_any (E : Int) nd W (by omega))
  have hfb : fitB (E : Int) nd = true := decide_eq_true ⟨by omega, by omega⟩
  rw [hfb] at HFT
  clear hfb
  go_enter Try.func27, Try.ntmps27
  go_wp2_with fail
  generalize (((w.alloc (.cells #[.slice ah n c, .slice aw nw cw] 28)).alloc (.cells #[.int .i64 1, .int .i64 (E : Int), .int .i64 torn, .slice ad nd cd, .slice ak nk ck] 34)).alloc (.cells #[.slice none 0 0, .slice none 0 0] 28)) = w0 at *
  refine (unhide HFT _).mono ?_
  rintro e w1 ⟨rfl, hw⟩
  subst w1
  have HW := hide (l02Write_act ah n c aw nw cw E ad nd cd data f m w0 (unhide SS) (unhide HR w0 (unhide B)) hd0 hfit hm)
  have f0 := (heap_at (unhide T).fb 0).1
  have f1 := (heap_at (unhide T).fb 1).1
  have x1 := (heap_at (unhide T).xb 1).1
  have x2 := (heap_at (unhide T).xb 2).1
  have x3 := (heap_at (unhide T).xb 3).1
  have x4 := (heap_at (unhide T).xb 4).1
  go_wp2_with fail
  clear f0 f1 x1 x2 x3 x4
  refine (unhide HW).mono ?_
  rintro e w1 ⟨g, cw2, rfl, _, hb, _⟩
  replace T := hide ((unhide T).step hb)
  replace B := hide ((unhide B).trans (hb.mono (unhide B).size))
  replace SS := hide ((unhide SS).below hb)
  have S2 := SS
  clear hm hl
  have hb2 : Below w1.heap.size w1 (w1.alloc (.cells #[.slice ah n c, .slice (some ⟨g, 0, none⟩) m cw2] 28)) := (Below.refl _ _).alloc (Nat.le_refl _) _
  replace T := hide ((unhide T).step hb2)
  replace B := hide ((unhide B).trans (hb2.mono (unhide B).size))
  replace S2 := hide ((unhide S2).below hb2)
  clear hb hb2 HW SS
  have r0 := (heap_at (unhide T).rb 0).1
  have r1 := (heap_at (unhide T).rb 1).1
  have z0 := (heap_at (unhide T).rb 0).2
  have z1 := (heap_at (unhide T).rb 1).2
  have f0 := (heap_at (unhide T).fb 0).1
  have f1 := (heap_at (unhide T).fb 1).1
  have hg : decide ((4096 : Int) < (m : Nat)) = true := decide_eq_true (by omega)
  go_wp2_with fail
  refine bodyPost_ret (v := .tuple #[fv ah n c aw nw cw, .int .i64 6]) (by simp [results, Try.results27, go_sem, r0, r1]) rfl (acRes rfl (unhide S2) (unhide T).rb (unhide B) (unhide HE))
set_option maxRecDepth 100000 in
set_option maxHeartbeats 2000000 in
theorem ac_trim (ah : Option Addr) (n c : Nat) (aw : Option Addr) (nw cw : Nat) (f : FD) (t : Nat) (torn : Int) (ad : Option Addr) (nd cd : Nat) (ak : Option Addr) (nk ck : Nat) (data : List Int) (keep : List Bool) (w : World) (hS : SF w ah n c aw nw cw f) (ht : t < 128) :
    Calls Try.prog 27 #[fv ah n c aw nw cw, .agg #[.int .i64 4, .int .i64 (t : Int), .int .i64 torn, .slice ad nd cd, .slice ak nk ck]] w fun e w' => AcRes f ⟨4, (t : Int), torn, data, keep⟩ w e w' := by
  have b0 : Below w.heap.size w (((w.alloc (.cells #[.slice ah n c, .slice aw nw cw] 28)).alloc (.cells #[.int .i64 4, .int .i64 (t : Int), .int .i64 torn, .slice ad nd cd, .slice ak nk ck] 34)).alloc (.cells #[.slice none 0 0, .slice none 0 0] 28)) := (((Below.refl _ _).alloc (Nat.le_refl _) _).alloc (by simp) _).alloc (by simp; omega) _
  have T := hide (AcB.start w ah n c aw nw cw 4 (t : Int) torn ad nd cd ak nk ck)
  have B := hide b0
  have SS := hide (hS.below b0)
  obtain ⟨hn1, hn2, hn3⟩ := hS.len
  clear b0
  have HE := hide (show actD f ⟨4, (t : Int), torn, data, keep⟩ = (⟨trimD (readD f.xs f.ws) t, []⟩, 0) by rw [actD_4 rfl]; simp only; rw [if_pos ⟨by omega, by omega⟩, Int.toNat_natCast])
  have HIN := hide (fun W => l01In_act (t : Int) 0 127 W)
  have hin : (decide ((0 : Int) ≤ (t : Int)) && decide ((t : Int) ≤ 127)) = true := by simp; omega
  rw [hin] at HIN
  clear hin
  have HP := hide (fun W (h : SF W ah n c aw nw cw f) => l02Read_gen ah n c aw nw cw f.xs f.ws W h.row h.adr h.wait hn1 hn2 (by omega) h.ok.2.2.2)
  have HB := hide (readD_bounds f.xs f.ws (unhide SS).ok.1 (unhide SS).ok.2.1 (unhide SS).ok.2.2.2)
  obtain ⟨ys, hys⟩ : ∃ ys, ys = readD f.xs f.ws := ⟨_, rfl⟩
  rw [← hys] at HE HP HB
  clear hys
  go_enter Try.func27, Try.ntmps27
  go_wp2_with fail
  generalize (((w.alloc (.cells #[.slice ah n c, .slice aw nw cw] 28)).alloc (.cells #[.int .i64 4, .int .i64 (t : Int), .int .i64 torn, .slice ad nd cd, .slice ak nk ck] 34)).alloc (.cells #[.slice none 0 0, .slice none 0 0] 28)) = w0 at *
  refine (unhide HIN _).mono ?_
  rintro e w1 ⟨rfl, hw⟩
  subst w1
  have f0 := (heap_at (unhide T).fb 0).1
  have f1 := (heap_at (unhide T).fb 1).1
  go_wp2_with fail
  clear f0 f1
  refine (unhide HP _ (unhide SS)).mono ?_
  rintro e w1 ⟨g, cap, rfl, hO, hb⟩
  have HO := hide hO
  have HBB := hide hb
  have hcap := owns_cap hO
  have hl2 := (unhide HB).2
  have x1 : w1.cell? ⟨w.heap.size + 1, 1, none⟩ = some (.int .i64 (t : Int)) := (heap_at ((unhide T).step hb).xb 1).1
  clear hO hb HP HIN
  by_cases hr : (t + 1) * 16 ≤ ys.length
  · obtain ⟨q, hq⟩ : ∃ q, q = t * 16 := ⟨_, rfl⟩
    have HT := hide (show trimD ys t = putB ys q nou by unfold trimD; rw [if_pos hr, hq])
    have wt : IntKind.i64.wrap ((t : Int) * 16) = (q : Int) := by rw [IntKind.wrap_i64, hq]; omega
    have hql : q ≤ ys.length := by omega
    have hmk : ∀ w, (Instr.makeSlice 22 (.int .i64 16) (.int .i64 16)).run Try.prog w = .ok (.slice (some ⟨w.heap.size, 0, none⟩) 16 16) (w.alloc (.cells (Array.replicate 16 (Value.int .u8 0)) 5)) := fun _ => by kernel_rfl
    have b5 : Below w1.heap.size w1 (w1.drew.alloc (.cells (Array.replicate 16 (Value.int .u8 0)) 5)) := (Below.refl w1.heap.size w1).drew.alloc (Nat.le_refl _) _
    have NR : Row (w1.drew.alloc (.cells (Array.replicate 16 (Value.int .u8 0)) 5)) (some ⟨w1.drew.heap.size, 0, none⟩) nou.length nou := ⟨rfl, fun i hi => ⟨_, 0, rfl, (cell_new rfl).trans (by
      have hi2 : i < 16 := hi
      rw [Nat.zero_add, Array.getElem?_eq_getElem (by simp; omega)]
      have e : nou.getD i 0 = 0 := by unfold nou; rw [List.getD_eq_getElem?_getD, List.getElem?_replicate]; split <;> rfl
      rw [e, Array.getElem_replicate])⟩⟩
    obtain ⟨w2, hcp, hO2, hon⟩ := owns_copy (owns_below (unhide HO) b5) NR (o := q) (show q + 16 ≤ ys.length by omega) (ys.length - q) (cap - q) 16 16 (show Nat.min 16 (ys.length - q) = 16 from Nat.min_eq_left (by omega))
    have hg0 := ((unhide HO).lt g rfl).1
    have hb2 : Below w0.heap.size w0 w2 := (unhide HBB).trans ((b5.mono (unhide HBB).size).trans (hon.below hg0))
    have T2 := hide ((unhide T).step hb2)
    have B2 := hide ((unhide B).trans (hb2.mono (unhide B).size))
    have hpl := putB_len ys q nou (show q + 16 ≤ ys.length by omega)
    have S2 := hide (show SF w2 (some ⟨g, 0, none⟩) ys.length cap none 0 0 ⟨trimD ys t, []⟩ from ⟨by rw [unhide HT]; exact row_of_owns_len hO2 hpl, .inr ⟨g, 0, rfl⟩, ⟨rfl, fun _ hi => absurd hi (Nat.not_lt_zero _)⟩, fun _ => ⟨rfl, rfl⟩, kind_owns hO2, WKind.nil _ _ (KindA.none _ _), by rw [unhide HT]; show (putB ys q nou).length % 16 = 0; rw [hpl]; exact (unhide HB).1, by rw [unhide HT]; show (putB ys q nou).length ≤ 2048; rw [hpl]; exact (unhide HB).2, Nat.zero_le _, fun _ h => by cases h⟩)
    have x5 : (w1.drew.alloc (.cells (Array.replicate 16 (Value.int .u8 0)) 5)).cell? ⟨w.heap.size + 1, 1, none⟩ = some (.int .i64 (t : Int)) := (b5.cell (p := ⟨w.heap.size + 1, 1, none⟩) (cell_lt x1)).trans x1
    have x6 : w2.cell? ⟨w.heap.size + 1, 1, none⟩ = some (.int .i64 (t : Int)) := (heap_at (unhide T2).xb 1).1
    have hgt : ¬ cap = q := by omega
    have r0 := (heap_at (unhide T2).rb 0).1
    have r1 := (heap_at (unhide T2).rb 1).1
    have z0 := (heap_at (unhide T2).rb 0).2
    have z1 := (heap_at (unhide T2).rb 1).2
    clear hq hpl hb2 hon hO2 NR b5 hg0 T B SS HO HBB HT
    go_upto_region 20 with fail
    refine wp_region_held_drew (S := (fun u => u.cell? ⟨w.heap.size + 1, 1, none⟩ = some (.int .i64 (t : Int)))) (by kernel_rfl) (x1) (fun hHeld => ?_)
    refine anyH_take 0 66 (v := ?v1) rfl rfl (by kernel_rfl) (by kernel_rfl) (by kernel_rfl) (fun _ _ _ h => h) (by rfl) ?h1 hHeld ?r1
    case h1 => (intro w hSw; (try dsimp only at hSw); go_simp; try (with_reducible rfl))
    simp only [Act.put, List.setIfInBounds_toArray, List.set_cons_zero, List.set_cons_succ]
    refine anyH_take 1 67 (v := ?v2) rfl rfl (by kernel_rfl) (by kernel_rfl) (by kernel_rfl) (fun _ _ _ h => h) (by rfl) ?h2 hHeld ?r2
    case h2 => (intro w hSw; (try dsimp only at hSw); go_simp; try (with_reducible rfl))
    simp only [Act.put, List.setIfInBounds_toArray, List.set_cons_zero, List.set_cons_succ]
    refine anyH_take 2 68 (v := ?v3) rfl rfl (by kernel_rfl) (by kernel_rfl) (by kernel_rfl) (fun _ _ _ h => h) (by rfl) ?h3 hHeld ?r3
    case h3 => (intro w hSw; (try dsimp only at hSw); go_simp; try (with_reducible rfl))
    simp only [Act.put, List.setIfInBounds_toArray, List.set_cons_zero, List.set_cons_succ]
    refine anyH_take 3 69 (v := ?v4) rfl rfl (by kernel_rfl) (by kernel_rfl) (by kernel_rfl) (fun _ _ _ h => h) (by rfl) ?h4 hHeld ?r4
    case h4 => (intro w hSw; (try dsimp only at hSw); go_simp; try (with_reducible rfl))
    simp only [Act.put, List.setIfInBounds_toArray, List.set_cons_zero, List.set_cons_succ]
    refine anyH_take 4 70 (v := ?v5) rfl rfl (by kernel_rfl) (by kernel_rfl) (by kernel_rfl) (fun _ _ _ h => h) (by rfl) ?h5 hHeld ?r5
    case h5 => (intro w hSw; (try dsimp only at hSw); go_simp; try (with_reducible rfl))
    simp only [Act.put, List.setIfInBounds_toArray, List.set_cons_zero, List.set_cons_succ]
    refine wpAnyH_ready (rs := [5]) (by kernel_rfl) (by simp) ?_
    refine AllReadyH.cons rfl (fun K hK => ?_) AllReadyH.nil
    go_simp
    refine hK.out _ _ (x5) (fun hHeld => ?_)
    clear hK K
    refine wpAnyH_ready (rs := [6]) (by kernel_rfl) (by simp) ?_
    refine AllReadyH.cons rfl (fun K hK => ?_) AllReadyH.nil
    refine step_copy_eq rfl (.tmp 70) (.tmp 71) 22 rfl _ _ _ w2 (by first | rfl | (simp [Act.eval]; done) | (simp [Act.eval, Act.put]; done)) (by first | rfl | (simp [Act.eval]; done) | (simp [Act.eval, Act.put]; done)) hcp ?_
    refine hK.out _ _ (x6) (fun hHeld => ?_)
    clear hK K
    refine wpAnyH_done (by kernel_rfl) ?_ _
    clear hcp hmk x1 x5 x6
    go_wp2_with fail
    refine bodyPost_ret (v := .tuple #[fv (some ⟨g, 0, none⟩) ys.length cap none 0 0, .int .i64 0]) (by simp [results, Try.results27, go_sem, r0, r1]) rfl (acRes rfl (unhide S2) (unhide T2).rb (unhide B2) (unhide HE))
  · have HT := hide (show trimD ys t = ys by unfold trimD; rw [if_neg hr])
    have T2 := hide ((unhide T).step (unhide HBB))
    have B2 := hide ((unhide B).trans ((unhide HBB).mono (unhide B).size))
    have S2 := hide (show SF w1 (some ⟨g, 0, none⟩) ys.length cap none 0 0 ⟨trimD ys t, []⟩ from ⟨by rw [unhide HT]; exact row_of_owns (unhide HO), .inr ⟨g, 0, rfl⟩, ⟨rfl, fun _ hi => absurd hi (Nat.not_lt_zero _)⟩, fun _ => ⟨rfl, rfl⟩, kind_owns (unhide HO), WKind.nil _ _ (KindA.none _ _), by rw [unhide HT]; exact (unhide HB).1, by rw [unhide HT]; exact (unhide HB).2, Nat.zero_le _, fun _ h => by cases h⟩)
    have r0 := (heap_at (unhide T2).rb 0).1
    have r1 := (heap_at (unhide T2).rb 1).1
    have z0 := (heap_at (unhide T2).rb 0).2
    have z1 := (heap_at (unhide T2).rb 1).2
    clear T B SS HO HBB HT
    go_wp2_with fail
    refine bodyPost_ret (v := .tuple #[fv (some ⟨g, 0, none⟩) ys.length cap none 0 0, .int .i64 0]) (by simp [results, Try.results27, go_sem, r0, r1]) rfl (acRes rfl (unhide S2) (unhide T2).rb (unhide B2) (unhide HE))
theorem l02Act_any (ah : Option Addr) (n c : Nat) (aw : Option Addr) (nw cw : Nat) (f : FD) (x : ActD) (ad : Option Addr) (nd cd : Nat) (ak : Option Addr) (nk ck : Nat) (w : World) (hS : SF w ah n c aw nw cw f) (hnd2 : nd ≤ 1048576) (hnk : nk ≤ 1048576) (hR : Row w ad nd x.data) (hK : BRow w ak nk x.keep) :
    Calls Try.prog 27 #[fv ah n c aw nw cw, av x ad nd cd ak nk ck] w fun e w' => AcRes f x w e w' := by
  obtain ⟨kind, at_, torn, data, keep⟩ := x
  have hnd : nd = data.length := hR.1.symm
  by_cases k1 : kind = 1
  · subst k1
    by_cases hf : fitD at_ data.length = true
    · have h := of_decide_eq_true hf
      obtain ⟨E, rfl⟩ : ∃ E : Nat, at_ = (E : Int) := ⟨at_.toNat, by omega⟩
      by_cases h0 : 0 < data.length
      · by_cases hm : (writeD f.xs f.ws E data).length ≤ 4096
        · exact ac_wr ah n c aw nw cw f E torn ad nd cd ak nk ck data keep w hS _ hR h0 (by omega) rfl hm
        · exact ac_many ah n c aw nw cw f E torn ad nd cd ak nk ck data keep w hS _ hR h0 (by omega) rfl hm
      · obtain rfl : data = [] := List.eq_nil_of_length_eq_zero (by omega)
        exact ac_nil ah n c aw nw cw f E torn ad nd cd ak nk ck keep w hS hnd (by simp at h; omega)
    · exact ac_full ah n c aw nw cw f at_ torn ad nd cd ak nk ck data keep w hS hnd hnd2 (by simpa using hf)
  · by_cases k2 : kind = 2
    · subst k2
      exact ac_sync ah n c aw nw cw f at_ torn ad nd cd ak nk ck data keep w hS
    · by_cases k3 : kind = 3
      · subst k3
        by_cases ht : 0 ≤ torn ∧ torn ≤ 16
        · obtain ⟨t, rfl⟩ : ∃ t : Nat, torn = (t : Int) := ⟨torn.toNat, by omega⟩
          exact ac_crash ah n c aw nw cw f at_ t ad nd cd ak nk ck data keep w hS (by omega) hnk hK
        · exact ac_torn ah n c aw nw cw f at_ torn ad nd cd ak nk ck data keep w hS ht
      · by_cases k4 : kind = 4
        · subst k4
          by_cases ht : 0 ≤ at_ ∧ at_ ≤ 127
          · obtain ⟨t, rfl⟩ : ∃ t : Nat, at_ = (t : Int) := ⟨at_.toNat, by omega⟩
            exact ac_trim ah n c aw nw cw f t torn ad nd cd ak nk ck data keep w hS (by omega)
          · exact ac_out ah n c aw nw cw f at_ torn ad nd cd ak nk ck data keep w hS ht
        · exact ac_else ah n c aw nw cw f kind at_ torn ad nd cd ak nk ck data keep w hS k1 k2 k3 k4
end Go.Proofs.Ytjhmammoakiknaa
