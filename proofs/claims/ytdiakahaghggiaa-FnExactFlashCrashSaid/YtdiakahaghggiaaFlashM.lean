/-
  The walks of markWriteS and markFlash: only the blocks of what is marked are written.
-/
import Derived.Test.YtdiakahaghggiaaFlashS
import Derived.Test.YtdiakahaghggiaaTail
namespace Go.Proofs.Ytdiakahaghggiaa
open Go.RowKit

theorem WOwn.setAt {w : World} {g n k : Nat} {W : Nat → WD} {A : Nat → Option Addr} {C : Nat → Nat} (h : WOwn w g n W A C) (hk : k < n) (x : Int) : WOwn (w.setCell ⟨g, k * 2, none⟩ (.int .i64 x)) g n (updW W k ⟨x, (W k).xs⟩) A C := by
  have ne : ∀ p q : Nat, p ≠ q → (⟨g, p, none⟩ : Addr) ≠ ⟨g, q, none⟩ := fun p q hpq e => hpq (by injection e)
  have nb : ∀ p : Addr, p.block ≠ g → (w.setCell ⟨g, k * 2, none⟩ (.int .i64 x)).cell? p = w.cell? p := fun p hp => World.cell?_setCell_other _ _ _ _ (by intro e; rw [← e] at hp; exact hp rfl)
  have hx : ∀ i, (updW W k ⟨x, (W k).xs⟩ i).xs = (W i).xs := fun i => by
    unfold updW
    split
    · rename_i e; rw [e]
    · rfl
  refine ⟨by simpa using h.lt, fun j => by simpa using h.free j, fun i hi => ?_, fun i hi => ?_, fun i hi => ?_, fun i hi => ?_, fun i hi y hy => ⟨(h.own i hi y hy).1, by simpa using (h.own i hi y hy).2.1, fun j => by simpa using (h.own i hi y hy).2.2 j⟩, h.apart⟩
  · unfold updW
    by_cases e : i = k
    · subst e
      rw [if_pos rfl]
      exact World.cell?_setCell_same _ _ _ (h.at_ i hi)
    · rw [if_neg e, World.cell?_setCell_other _ _ _ _ (ne _ _ (by omega))]
      exact h.at_ i hi
  · rw [hx, World.cell?_setCell_other _ _ _ _ (ne _ _ (by omega))]
    exact h.data i hi
  · rw [hx]; exact h.len i hi
  · rw [hx]; exact (h.row i hi).of_cells fun y hy p hp => nb p (by rw [hp]; exact (h.own i hi y hy).1)
theorem WOwn.marked {w w' : World} {g n k : Nat} {W : Nat → WD} {A : Nat → Option Addr} {C : Nat → Nat} {ys : List Int} (h : WOwn w g n W A C) (hk : k < n) (ht : Touch (A k) w w') (hr : Row w' (A k) (W k).xs.length ys) : WOwn w' g n (updW W k ⟨(W k).at_, ys⟩) A C := by
  have hl := hr.1
  have hs := ht.size
  have kept : ∀ b, (∀ x, A k = some x → b ≠ x.block) → w'.heap[b]? = w.heap[b]? := fun b hb => by
    rcases ht with rfl | ⟨x, hx, ho⟩
    · rfl
    · exact ho.block b (hb x hx)
  have fz : ∀ a, w'.frozen? a = w.frozen? a := fun a => by
    rcases ht with rfl | ⟨x, hx, ho⟩
    · rfl
    · exact ho.frozen a
  have hg : w'.heap[g]? = w.heap[g]? := kept g (fun x hx e => (h.own k hk x hx).1 e.symm)
  have cg : ∀ j, w'.cell? ⟨g, j, none⟩ = w.cell? ⟨g, j, none⟩ := fun j => World.cell?_of_block (w := w) (a := ⟨g, j, none⟩) hg
  refine ⟨by rw [hs]; exact h.lt, fun j => (fz _).trans (h.free j), fun i hi => ?_, fun i hi => ?_, fun i hi => ?_, fun i hi => ?_, fun i hi x hx => ⟨(h.own i hi x hx).1, by rw [hs]; exact (h.own i hi x hx).2.1, fun j => (fz _).trans ((h.own i hi x hx).2.2 j)⟩, h.apart⟩
  · rw [cg]
    unfold updW
    by_cases e : i = k
    · subst e; rw [if_pos rfl]; exact h.at_ i hi
    · rw [if_neg e]; exact h.at_ i hi
  · rw [cg]
    unfold updW
    by_cases e : i = k
    · subst e; rw [if_pos rfl, hl]; exact h.data i hi
    · rw [if_neg e]; exact h.data i hi
  · unfold updW
    by_cases e : i = k
    · subst e; rw [if_pos rfl, hl]; exact h.len i hi
    · rw [if_neg e]; exact h.len i hi
  · unfold updW
    by_cases e : i = k
    · subst e; rw [if_pos rfl, hl]; exact hr
    · rw [if_neg e]
      exact (h.row i hi).of_cells fun x hx p hp => World.cell?_of_block (w := w) (kept p.block (fun y hy => by rw [hp]; exact h.apart i k hi hk e x y hx hy))
/-- The blocks of S hold what they held, and nothing else of the world has changed. -/
structure Band (S : Nat → Prop) (w w' : World) : Prop where
  os : w'.os = w.os
  tape : w'.tape = w.tape
  output : w'.output = w.output
  kept : Kept S w w'
theorem Band.refl (S : Nat → Prop) (w : World) : Band S w w := ⟨rfl, rfl, rfl, Kept.refl _ _⟩
theorem Band.trans {S : Nat → Prop} {w1 w2 w3 : World} (h : Band S w1 w2) (k : Band S w2 w3) : Band S w1 w3 := ⟨k.os.trans h.os, k.tape.trans h.tape, k.output.trans h.output, h.kept.trans k.kept⟩
theorem Band.set {S : Nat → Prop} {b : Nat} (h : ¬ S b) (w : World) (o : Nat) (v : Value) : Band S w (w.setCell ⟨b, o, none⟩ v) := ⟨rfl, rfl, rfl, Kept.set h _ _ _⟩
theorem Band.touch {S : Nat → Prop} {a : Option Addr} {w w' : World} (ht : Touch a w w') (h : ∀ x, a = some x → ¬ S x.block) : Band S w w' := by
  rcases ht with rfl | ⟨x, hx, ho⟩
  · exact Band.refl _ _
  · exact ⟨ho.os, ho.tape, ho.output, by rw [ho.size]; exact Nat.le_refl _, fun k hk _ => ho.block k (fun e => h x hx (e ▸ hk))⟩
theorem Band.grow {S : Nat → Prop} {w w' : World} (h : Below w.heap.size w w') : Band S w w' := ⟨h.os, h.tape, h.output, Kept.grow h⟩
theorem Band.below {S : Nat → Prop} {w w' : World} {B : Nat} (h : Band S w w') (hB : B ≤ w.heap.size) (hS : ∀ k, k < B → S k) : Below B w w' := ⟨h.os, h.tape, h.output, h.kept.1, fun k hk => h.kept.2 k (hS k hk) (by omega)⟩
theorem Band.mono {S T : Nat → Prop} {w w' : World} (h : Band S w w') (hS : ∀ k, T k → S k) : Band T w w' := ⟨h.os, h.tape, h.output, h.kept.mono hS⟩

set_option maxHeartbeats 2000000 in
theorem markWriteS_any (S : Nat → Prop) (g n c k0 : Nat) (W : Nat → WD) (A : Nat → Option Addr) (C : Nat → Nat) (w : World) (hn : n ≤ 1048576) (hk0 : k0 ≤ 10000000) (h : WOwn w g n W A C) (hl : ∀ i, i < n → (W i).xs.length ≤ 1048576) (hg : ¬ S g) (hA : ∀ i, i < n → ∀ x, A i = some x → ¬ S x.block) :
    Calls Try.prog 44 #[.slice (some ⟨g, 0, none⟩) n c, .int .i64 (k0 : Int)] w fun e w' => ∃ k : Nat, e = .returned (.int .i64 (k : Int)) ∧ Band S w w' ∧ k ≤ 2000000000000 := by
  have H := hide h
  have HL := hide hl
  have HA := hide hA
  clear h hl hA
  go_enter Try.func44, Try.ntmps44
  go_wp2_with fail
  go_loopw [1, 5] (fun q i wr => ∃ (k m : Nat) (V : Nat → WD), k ≤ n ∧ i = .int .i64 k ∧ q = .int .i64 (m : Int) ∧ m ≤ 10000000 + k * 1048577 ∧ Hid (WOwn wr g n V A C) ∧ Hid (∀ i, i < n → (V i).xs.length ≤ 1048576) ∧ Band S w wr) (fun _ i _ => n - (intOf i).toNat)
  case atStart => exact ⟨0, k0, W, Nat.zero_le _, rfl, rfl, by omega, unhide H, unhide HL, Band.refl _ _⟩
  case round =>
    clear H HL
    obtain ⟨k, m, V, hk, rfl, rfl, hm, hO, hL, hB⟩ := hrel
    by_cases hlt : k < n
    · have e0 := (unhide hO).at_ k hlt
      have f0 := (unhide hO).free (k * 2)
      have O1 := hide ((unhide hO).setAt hlt (m : Int))
      have B1 := hide (hB.trans (Band.set hg wr (k * 2) (.int .i64 (m : Int))))
      have hl1 : (V k).xs.length ≤ 1048576 := unhide hL k hlt
      have e1 := (unhide hO).data k hlt
      have hx : ∀ i, (updW V k ⟨(m : Int), (V k).xs⟩ i).xs = (V i).xs := fun i => by
        unfold updW
        split
        · rename_i e; rw [e]
        · rfl
      have R1 := (unhide O1).row k hlt
      have F1 := fun x hx' => ((unhide O1).own k hlt x hx').2.2
      rw [hx] at R1
      have HR := hide R1
      have HF := hide F1
      have L1 := hide (show ∀ i, i < n → (updW V k ⟨(m : Int), (V k).xs⟩ i).xs.length ≤ 1048576 from fun i hi => by rw [hx]; exact unhide hL i hi)
      clear hO hB hL R1 F1
      go_wp2_with fail
      refine (markByteS_any (A k) (V k).xs.length (C k) (V k).xs ((m : Int) + 1) _ (by omega) (by omega) (by omega) (unhide HR) (unhide HF)).mono ?_
      rintro e w2 ⟨rfl, r2, t2⟩
      have O2 := hide ((unhide O1).marked hlt t2 (by rw [hx]; exact r2))
      have B2 := hide ((unhide B1).trans (Band.touch t2 (unhide HA k hlt)))
      have hml := marks_length ((m : Int) + 1) (V k).xs.length
      have L2 := hide (show ∀ i, i < n → (updW (updW V k ⟨(m : Int), (V k).xs⟩) k ⟨(updW V k ⟨(m : Int), (V k).xs⟩ k).at_, marks ((m : Int) + 1) (V k).xs.length⟩ i).xs.length ≤ 1048576 from fun i hi => by
        by_cases e : i = k
        · simp only [updW, e, if_true]; rw [hml]; exact hl1
        · simp only [updW, e, if_false]; exact (by have := unhide L1 i hi; rw [hx] at this; exact this))
      clear O1 B1 L1 r2 t2 HR HF hx hml e0 e1 f0
      go_wp2_with fail
      go_roundw
      case rel => exact ⟨k + 1, m + 1 + (V k).xs.length, _, by omega, by go_num, by go_num, by omega, unhide O2, unhide L2, unhide B2⟩
      case measure => simp [intOf]; omega
    · obtain rfl : k = n := by omega
      go_wp2_with fail
      go_ret
      exact ⟨m, rfl, hB, by omega⟩

/-- A device in memory of the call's own, from block 'lo' on, ahead of block 'hi'. -/
def FIn (w : World) (lo hi : Nat) (ah : Option Addr) (nh ch g nw : Nat) (xs : List Int) (ws : List WD) : Prop :=
  (∃ b, ah = some ⟨b, 0, none⟩) ∧ xs.length = nh ∧ ws.length = nw ∧ Mine w lo (.slice ah nh ch) xs ∧ (∀ x, ah = some x → x.block < hi) ∧ lo ≤ g ∧ g < hi ∧ ∃ W A C, WOwn w g nw W A C ∧ (∀ i (hi : i < ws.length), W i = ws[i]) ∧ (∀ i x, A i = some x → lo ≤ x.block) ∧ (∀ i, i < nw → ∀ x, A i = some x → x.block < hi) ∧ ∀ x, ah = some x → x.block ≠ g ∧ ∀ i y, A i = some y → x.block ≠ y.block
theorem FIn.below {w w' : World} {lo hi : Nat} {ah : Option Addr} {nh ch g nw : Nat} {xs : List Int} {ws : List WD} (h : FIn w lo hi ah nh ch g nw xs ws) (hb : Below w.heap.size w w') : FIn w' lo hi ah nh ch g nw xs ws := by
  obtain ⟨h0, h1, h2, h3, h3', h4, h4', W, A, C, h5, h6, h7, h7', h8⟩ := h
  exact ⟨h0, h1, h2, mine_below h3 hb, h3', h4, h4', W, A, C, h5.below hb, h6, h7, h7', h8⟩
theorem FIn.mine {w : World} {lo hi : Nat} {ah : Option Addr} {nh ch g nw : Nat} {xs : List Int} {ws : List WD} (h : FIn w lo hi ah nh ch g nw xs ws) : FMine w lo ah nh ch g nw xs ws := by
  obtain ⟨h0, h1, h2, h3, h3', h4, h4', W, A, C, h5, h6, h7, h7', h8⟩ := h
  exact ⟨h0, h1, h2, h3, h4, W, A, C, h5, h6, h7, h8⟩
theorem FMine.fin {w : World} {lo : Nat} {ah : Option Addr} {nh ch g nw : Nat} {xs : List Int} {ws : List WD} (h : FMine w lo ah nh ch g nw xs ws) : FIn w lo w.heap.size ah nh ch g nw xs ws := by
  obtain ⟨h0, h1, h2, h3, h4, W, A, C, h5, h6, h7, h8⟩ := h
  refine ⟨h0, h1, h2, h3, fun x hx => ?_, h4, h5.lt, W, A, C, h5, h6, h7, fun i hi x hx => (h5.own i hi x hx).2.1, h8⟩
  obtain ⟨a, c, e, _, _, _, m4⟩ := h3
  injection e with e1
  exact (m4 x (e1 ▸ hx)).2.1
set_option maxRecDepth 100000 in
set_option maxHeartbeats 2000000 in
theorem markFlash_any (lo hi : Nat) (ah : Option Addr) (nh ch g nw cw : Nat) (xs : List Int) (ws : List WD) (w : World) (hnh : nh ≤ 1048576) (hn : nw ≤ 1048576) (hx : ∀ i (hi : i < ws.length), ws[i].xs.length ≤ 1048576) (h : FIn w lo hi ah nh ch g nw xs ws) (hhi : hi ≤ w.heap.size) :
    Calls Try.prog 16 #[fv ah nh ch (some ⟨g, 0, none⟩) nw cw, .int .i64 1] w fun e w' => ∃ k : Nat, e = .returned (.int .i64 (k : Int)) ∧ Band (fun b => b < lo ∨ hi ≤ b) w w' ∧ k ≤ 2000000000000 := by
  obtain ⟨_, rfl, h2, ⟨a1, c1, e1, m1, m2, m3, m4⟩, h3, h4, h4', W, A, C, h5, h6, h7, h7', h8⟩ := h
  obtain ⟨rfl, rfl⟩ : ah = a1 ∧ ch = c1 := by injection e1 with e1 _ e3; exact ⟨e1, e3⟩
  clear e1
  have hb0 : ∀ o, Below w.heap.size w (w.alloc o) := fun o => (Below.refl _ _).alloc (Nat.le_refl _) _
  have HR := hide fun o => row_grow m3 (hb0 o)
  have HF := hide fun (o : Obj) (x : Addr) (hx : ah = some x) (j : Nat) => ((hb0 o).frozen (p := ⟨x.block, j, none⟩) (m4 x hx).2.1).trans ((m4 x hx).2.2 j)
  have HO := hide h5
  have H3 := hide (fun x hx => And.intro (m4 x hx).1 (h3 x hx))
  have H7 := hide (fun i hi x hx => And.intro (h7 i x hx) (h7' i hi x hx))
  have H8 := hide h8
  have HL := hide (show ∀ i, i < nw → (W i).xs.length ≤ 1048576 from fun i hi => by rw [h6 i (by omega)]; exact hx i (by omega))
  have H0 := hide hb0
  clear m1 m2 m3 m4 h3 h5 h6 h7 h7' h8 hx h2 hb0
  have hR1 := fun o => markByteS_any ah xs.length ch xs 1 (w.alloc o) (by omega) (by omega) (by omega) (unhide HR o) (unhide HF o)
  have HC := hide hR1
  clear hR1
  go_enter Try.func16, Try.ntmps16
  go_wp2_with fail
  refine (unhide HC _).mono ?_
  rintro e w1 ⟨rfl, r1, t1⟩
  have hsz := t1.size
  simp at hsz
  have B1 := hide ((Band.grow (S := fun b => b < lo ∨ hi ≤ b) (unhide H0 (.cells #[.slice ah xs.length ch, .slice (some ⟨g, 0, none⟩) nw cw] 30))).trans (Band.touch t1 (fun x hx => by have := unhide H3 x hx; omega)))
  have hbl : ∀ b, (∀ x, ah = some x → b ≠ x.block) → b < w.heap.size → w1.heap[b]? = w.heap[b]? := fun b hb hl => by
    rw [← Below.heap_alloc w (.cells #[.slice ah xs.length ch, .slice (some ⟨g, 0, none⟩) nw cw] 30) b hl]
    rcases t1 with rfl | ⟨x, hx, ho⟩
    · rfl
    · exact ho.block b (hb x hx)
  have O1 := hide ((unhide HO).kept (S := fun b => b < w.heap.size ∧ ∀ x, ah = some x → b ≠ x.block) ⟨by omega, fun b hb hl => hbl b hb.2 hl⟩ ⟨(unhide HO).lt, fun x hx e => (unhide H8 x hx).1 e.symm⟩ (fun i hi x hx => ⟨((unhide HO).own i hi x hx).2.1, fun y hy e => (unhide H8 y hy).2 i x hx e.symm⟩))
  have p1 : w1.cell? ⟨w.heap.size, 1, none⟩ = some (.slice (some ⟨g, 0, none⟩) nw cw) := by
    rcases t1 with rfl | ⟨x, hx, ho⟩
    · exact (cell_new rfl).trans rfl
    · have := (unhide H3 x hx).2
      exact (ho.cell (p := ⟨w.heap.size, 1, none⟩) (by simp; omega)).trans ((cell_new rfl).trans rfl)
  have hcast : (1 : Int) + (xs.length : Int) = ((1 + xs.length : Nat) : Int) := by omega
  rw [hcast]
  clear HC r1 t1 HR HF hcast hbl
  go_wp2_with fail
  refine (markWriteS_any (fun b => b < lo ∨ hi ≤ b) g nw cw (1 + xs.length) W A C w1 hn (by omega) (unhide O1) (unhide HL) (by omega) (fun i hi' x hx => by have := unhide H7 i hi' x hx; omega)).mono ?_
  rintro e w2 ⟨k, rfl, hb2, hkb⟩
  have B2 := hide ((unhide B1).trans hb2)
  clear hb2 p1
  go_wp2_with fail
  go_ret
  exact ⟨k, rfl, unhide B2, hkb⟩
end Go.Proofs.Ytdiakahaghggiaa
