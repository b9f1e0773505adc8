/-
  The walks of toWriteS and toFlash: new memory with the same sectors.
-/
import Derived.Test.YtdiakahaghggiaaFlashT
namespace Go.Proofs.Ytdiakahaghggiaa
open Go.RowKit

theorem wown_made {w : World} {base g n : Nat} (h : w.ownsRow base 62 2 (.slice (some ⟨g, 0, none⟩) n n) n (madeCells #[.int .i64 0, .slice none 0 0] (n * 2)).toList) : WOwn w g n (fun _ => ⟨0, []⟩) (fun _ => none) (fun _ => 0) := by
  have e : ∀ j, j < n * 2 → (madeCells #[.int .i64 0, .slice none 0 0] (n * 2)).toList[j]? = some ((#[.int .i64 0, .slice none 0 0] : Array Value)[j % 2]!) := fun j hj => by simp [madeCells, hj]
  refine ⟨(h.lt g rfl).2, fun j => h.frozenAt j, fun i hi => ?_, fun i hi => ?_, fun i hi => ⟨by unfold maxLen; simp, by simp⟩, fun i hi => ⟨rfl, fun j hj => absurd hj (Nat.not_lt_zero _)⟩, fun i hi x hx => (by cases hx), fun i j _ _ _ x y hx => (by cases hx)⟩
  · rw [h.cellAt _ (by omega), e _ (by omega), show i * 2 % 2 = 0 by omega]; rfl
  · rw [h.cellAt _ (by omega), e _ (by omega), show (i * 2 + 1) % 2 = 1 by omega]; rfl

set_option maxHeartbeats 2000000 in
theorem toWriteS_any (a : Option Addr) (n c : Nat) (ws : List WD) (w : World) (hn : n ≤ 1048576) (hx : ∀ i (hi : i < ws.length), ws[i].xs.length ≤ 1048576) (hr : WRow w a n ws) :
    Calls Try.prog 38 #[.slice a n c] w fun e w' => ∃ g W A C, e = .returned (.slice (some ⟨g, 0, none⟩) n n) ∧ w.heap.size ≤ g ∧ WOwn w' g n W A C ∧ (∀ i (hi : i < ws.length), W i = ws[i]) ∧ (∀ i x, A i = some x → w.heap.size ≤ x.block) ∧ Below w.heap.size w w' := by
  obtain ⟨i0, hi, hz0, hz1, hz2⟩ := info_parts Try.infoWrite
  have L := hide hr.1
  have R := hide hr.2
  have X := hide hx
  clear hr hx
  go_enter Try.func38, Try.ntmps38
  go_wp2_with (at_make; refine wpList_make_full _ rfl _ _ 28 rfl w.heap.size 62 i0 _ 2 Try.underlying28 hi hz0 hz1 _ _ _ _ n rfl rfl rfl rfl (by rw [hz2]; omega) (by unfold maxLen; omega) (Nat.le_refl _) ?_)
  intro w1 hown hgrow
  have hl0 := wown_made hown
  have hbel : Below w.heap.size w w1 := (Below.refl _ _).grown hgrow (Nat.le_refl _) (fun k hk => by cases hk)
  clear hown hgrow
  go_wp2_with fail
  go_loopw [4] (fun i wr => ∃ k : Nat, k ≤ n ∧ i = .int .i64 k ∧ (∃ W A C, Hid (WOwn wr w.heap.size n W A C) ∧ Hid (∀ i (hi : i < ws.length), i < k → W i = ws[i]) ∧ Hid (∀ i x, A i = some x → w.heap.size ≤ x.block)) ∧ Below w.heap.size w wr) (fun i _ => n - (intOf i).toNat)
  case atStart => exact ⟨0, by omega, rfl, ⟨_, _, _, hl0, fun i _ hi => absurd hi (Nat.not_lt_zero _), fun i x hx => by cases hx⟩, hbel⟩
  case round =>
    clear hl0 hbel
    obtain ⟨k, hk, rfl, ⟨W, A, C, hO, hW, hA⟩, hb⟩ := hrel
    by_cases hlt : k < n
    · have hk2 : k < ws.length := by rw [unhide L]; exact hlt
      obtain ⟨b, off, rfl, c0, a', c', c1, _, r1⟩ := unhide R k hk2
      have hX := unhide X k hk2
      have hbl : b < w.heap.size := cell_lt c0
      have d0 := (hb.cell (p := ⟨b, off + k * 2, none⟩) hbl).trans c0
      have d1 := (hb.cell (p := ⟨b, off + k * 2 + 1, none⟩) hbl).trans c1
      have r2 := hide (row_grow r1 hb)
      have hW2 := hide (fun i (hi : i < ws.length) (h : i < k + 1) => show updW W k ws[k] i = ws[i] from if e : i = k then by subst e; simp [updW] else by simp [updW, e]; exact unhide hW i hi (by omega))
      clear c0 c1 r1 hW
      generalize ws[k] = pd at *
      go_wp2_with fail
      refine (toWrite_any pd a' c' wr hX (unhide r2)).mono ?_
      rintro e w2 ⟨a2, c2, rfl, hm, hb2⟩
      have O2 := (unhide hO).below hb2
      have S := hide (O2.lay (d := pd) (a := a2) (c := c2) hlt (B := wr.heap.size) (unhide hO).lt (fun i hi x hx => ((unhide hO).own i hi x hx).2.1) hm)
      have A2 := hide (show ∀ i x, updA A k a2 i = some x → w.heap.size ≤ x.block from fun i x hx => by
        unfold updA at hx
        by_cases e : i = k
        · rw [if_pos e] at hx
          obtain ⟨a3, c3, e3, _, _, _, h4⟩ := hm
          injection e3 with e3
          have h5 := (h4 x (e3 ▸ hx)).1
          have h6 := hb.size
          omega
        · rw [if_neg e] at hx; exact unhide hA i x hx)
      have e0 := O2.at_ k hlt
      have e1 := O2.data k hlt
      have f0 := O2.free (k * 2)
      have f1 := O2.free (k * 2 + 1)
      have B2 := hide (((hb.trans (hb2.mono hb.size)).setCell (p := ⟨w.heap.size, k * 2, none⟩) (Nat.le_refl _) (.int .i64 pd.at_)).setCell (p := ⟨w.heap.size, k * 2 + 1, none⟩) (Nat.le_refl _) (.slice a2 pd.xs.length c2))
      clear O2 hb hb2 d0 d1 hO hA r2 hm
      go_wp2_with fail
      go_roundw
      case rel => exact ⟨k + 1, by omega, by go_num, ⟨_, _, _, unhide S, unhide hW2, unhide A2⟩, unhide B2⟩
      case measure => simp [intOf]; omega
    · obtain rfl : k = n := by omega
      go_wp2_with fail
      go_ret
      exact ⟨_, W, A, C, rfl, Nat.le_refl _, unhide hO, fun i hi => unhide hW i hi (by rw [← unhide L]; exact hi), unhide hA, hb⟩

/-- A device in memory of the call's own, from block 'lo' on. -/
def FMine (w : World) (lo : Nat) (ah : Option Addr) (nh ch g nw : Nat) (xs : List Int) (ws : List WD) : Prop :=
  (∃ b, ah = some ⟨b, 0, none⟩) ∧ xs.length = nh ∧ ws.length = nw ∧ Mine w lo (.slice ah nh ch) xs ∧ lo ≤ g ∧ ∃ W A C, WOwn w g nw W A C ∧ (∀ i (hi : i < ws.length), W i = ws[i]) ∧ (∀ i x, A i = some x → lo ≤ x.block) ∧ ∀ x, ah = some x → x.block ≠ g ∧ ∀ i y, A i = some y → x.block ≠ y.block
theorem mine_below {w w' : World} {B : Nat} {v : Value} {xs : List Int} (h : Mine w B v xs) (hb : Below w.heap.size w w') : Mine w' B v xs := by
  obtain ⟨a, c, e, h1, h2, h3, h4⟩ := h
  exact ⟨a, c, e, h1, h2, row_grow h3 hb, fun x hx => ⟨(h4 x hx).1, Nat.lt_of_lt_of_le (h4 x hx).2.1 hb.size, fun j => (hb.frozen (p := ⟨x.block, j, none⟩) (h4 x hx).2.1).trans ((h4 x hx).2.2 j)⟩⟩
theorem FMine.below {w w' : World} {lo : Nat} {ah : Option Addr} {nh ch g nw : Nat} {xs : List Int} {ws : List WD} (h : FMine w lo ah nh ch g nw xs ws) (hb : Below w.heap.size w w') : FMine w' lo ah nh ch g nw xs ws := by
  obtain ⟨h0, h1, h2, h3, h4, W, A, C, h5, h6, h7, h8⟩ := h
  exact ⟨h0, h1, h2, mine_below h3 hb, h4, W, A, C, h5.below hb, h6, h7, h8⟩
theorem Kept.mine {S : Nat → Prop} {w w' : World} {B : Nat} {v : Value} {xs : List Int} (hk : Kept S w w') (h : Mine w B v xs) (hS : ∀ k, B ≤ k → S k) : Mine w' B v xs := by
  obtain ⟨a, c, e, h1, h2, h3, h4⟩ := h
  exact ⟨a, c, e, h1, h2, hk.row h3 (fun x hx => hS _ (h4 x hx).1), fun x hx => ⟨(h4 x hx).1, Nat.lt_of_lt_of_le (h4 x hx).2.1 hk.1, fun j => (hk.frozen (p := ⟨x.block, j, none⟩) (hS _ (h4 x hx).1) (h4 x hx).2.1).trans ((h4 x hx).2.2 j)⟩⟩
theorem FMine.kept {S : Nat → Prop} {w w' : World} {lo : Nat} {ah : Option Addr} {nh ch g nw : Nat} {xs : List Int} {ws : List WD} (h : FMine w lo ah nh ch g nw xs ws) (hk : Kept S w w') (hS : ∀ k, lo ≤ k → S k) : FMine w' lo ah nh ch g nw xs ws := by
  obtain ⟨h0, h1, h2, h3, h4, W, A, C, h5, h6, h7, h8⟩ := h
  exact ⟨h0, h1, h2, hk.mine h3 hS, h4, W, A, C, h5.kept hk (hS _ h4) (fun i _ x hx => hS _ (h7 i x hx)), h6, h7, h8⟩
theorem FMine.mono {w : World} {lo lo' : Nat} {ah : Option Addr} {nh ch g nw : Nat} {xs : List Int} {ws : List WD} (h : FMine w lo ah nh ch g nw xs ws) (hl : lo' ≤ lo) : FMine w lo' ah nh ch g nw xs ws := by
  obtain ⟨h0, h1, h2, h3, h4, W, A, C, h5, h6, h7, h8⟩ := h
  exact ⟨h0, h1, h2, mine_mono h3 hl, Nat.le_trans hl h4, W, A, C, h5, h6, fun i x hx => Nat.le_trans hl (h7 i x hx), h8⟩
theorem FMine.row {w : World} {lo : Nat} {ah : Option Addr} {nh ch g nw : Nat} {xs : List Int} {ws : List WD} (h : FMine w lo ah nh ch g nw xs ws) : Row w ah nh xs := by
  obtain ⟨_, h1, _, ⟨a, c, e, _, _, h3, _⟩, _⟩ := h
  injection e with e1 e2
  subst e1
  rw [← h1]; exact h3
theorem FMine.wrow {w : World} {lo : Nat} {ah : Option Addr} {nh ch g nw : Nat} {xs : List Int} {ws : List WD} (h : FMine w lo ah nh ch g nw xs ws) : WRow w (some ⟨g, 0, none⟩) nw ws := by
  obtain ⟨_, _, h2, _, _, W, A, C, h5, h6, _⟩ := h
  exact h5.wrow h2 h6

set_option maxHeartbeats 1000000 in
theorem toFlash_any (ah : Option Addr) (nh ch : Nat) (aw : Option Addr) (nw cw : Nat) (xs : List Int) (ws : List WD) (w : World) (hnh : nh ≤ 1048576) (hn : nw ≤ 1048576) (hx : ∀ i (hi : i < ws.length), ws[i].xs.length ≤ 1048576) (hh : Row w ah nh xs) (hr : WRow w aw nw ws) :
    Calls Try.prog 10 #[fv ah nh ch aw nw cw] w fun e w' => ∃ ah' ch' g, e = .returned (fv ah' nh ch' (some ⟨g, 0, none⟩) nw nw) ∧ FMine w' w.heap.size ah' nh ch' g nw xs ws ∧ Below w.heap.size w w' := by
  have hb0 : ∀ o1 o2 o3, Below w.heap.size w (((w.alloc o1).alloc o2).alloc o3) := fun o1 o2 o3 => (((Below.refl w.heap.size w).alloc (Nat.le_refl _) _).alloc (by simp) _).alloc (by simp; omega) _
  have R1 := hide fun o1 o2 o3 => row_grow hh (hb0 o1 o2 o3)
  have R2 := hide hr
  have hxl := hide hh.1
  have hwl := hide hr.1
  have X := hide hx
  clear hh hr hx
  go_enter Try.func10, Try.ntmps10
  go_wp2_with fail
  refine (toByteS_at ah nh ch xs _ hnh (unhide R1 _ _ _)).mono ?_
  clear R1
  rintro e w1 ⟨rfl, hm, hb⟩
  obtain ⟨a1, c1, ea, m1, m2, m3, m4⟩ := hm
  have ha1 : ∃ b, a1 = some ⟨b, 0, none⟩ := by injection ea with e1; exact ⟨_, e1.symm⟩
  have hA1 := hide ha1
  clear ha1
  rw [ea]
  clear ea
  rw [unhide hxl] at m1 m3 ⊢
  have hs := hb.size
  simp at hs
  have M := hide (show Mine w1 (w.heap.size + 1 + 1 + 1) (.slice a1 nh c1) xs from ⟨a1, c1, by rw [unhide hxl], by rw [unhide hxl]; exact m1, m2, by rw [unhide hxl]; exact m3, fun x hx => ⟨by have := (m4 x hx).1; simpa using this, (m4 x hx).2⟩⟩)
  clear m1 m2 m3 m4
  have d1 : w1.cell? ⟨w.heap.size, 1, none⟩ = some (.slice aw nw cw) := (hb.cell (p := ⟨w.heap.size, 1, none⟩) (by simp; omega)).trans ((cell_old (by simp; omega)).trans ((cell_old (by simp)).trans ((cell_new rfl).trans rfl)))
  have o0 : w1.cell? ⟨w.heap.size + 1 + 1, 0, none⟩ = some (.slice none 0 0) := (hb.cell (p := ⟨w.heap.size + 1 + 1, 0, none⟩) (by simp)).trans ((cell_new (by simp)).trans rfl)
  have o1 : w1.cell? ⟨w.heap.size + 1 + 1, 1, none⟩ = some (.slice none 0 0) := (hb.cell (p := ⟨w.heap.size + 1 + 1, 1, none⟩) (by simp)).trans ((cell_new (by simp)).trans rfl)
  have g0 : w1.cell? ⟨w.heap.size + 1, 0, none⟩ = some (.slice none 0 0) := (hb.cell (p := ⟨w.heap.size + 1, 0, none⟩) (by simp)).trans ((cell_old (by simp)).trans ((cell_new (by simp)).trans rfl))
  have g1 : w1.cell? ⟨w.heap.size + 1, 1, none⟩ = some (.slice none 0 0) := (hb.cell (p := ⟨w.heap.size + 1, 1, none⟩) (by simp)).trans ((cell_old (by simp)).trans ((cell_new (by simp)).trans rfl))
  have fo : ∀ j, w1.frozen? ⟨w.heap.size + 1 + 1, j, none⟩ = false := fun j => (hb.frozen (p := ⟨w.heap.size + 1 + 1, j, none⟩) (by simp)).trans (frozen_new (by simp))
  have fg : ∀ j, w1.frozen? ⟨w.heap.size + 1, j, none⟩ = false := fun j => (hb.frozen (p := ⟨w.heap.size + 1, j, none⟩) (by simp)).trans ((frozen_old (by simp)).trans (frozen_new (by simp)))
  have BB := (hb0 (.cells #[.slice ah nh ch, .slice aw nw cw] 25) (.cells #[.slice none 0 0, .slice none 0 0] 30) (.cells #[.slice none 0 0, .slice none 0 0] 30)).trans (hb.mono (by simp; omega))
  clear hb hb0
  -- behind the first store
  obtain ⟨wx, hwx⟩ : ∃ wx, wx = w1.setCell ⟨w.heap.size + 1 + 1, 0, none⟩ (.slice a1 nh c1) := ⟨_, rfl⟩
  have x0 : wx.cell? ⟨w.heap.size + 1 + 1, 0, none⟩ = some (.slice a1 nh c1) := by rw [hwx]; exact World.cell?_setCell_same _ _ _ o0
  have ot : ∀ p : Addr, p ≠ ⟨w.heap.size + 1 + 1, 0, none⟩ → wx.cell? p = w1.cell? p := fun p hp => by rw [hwx]; exact World.cell?_setCell_other _ _ _ _ (fun e => hp e.symm)
  have x1 := (ot ⟨w.heap.size + 1 + 1, 1, none⟩ (by simp)).trans o1
  have y1 := (ot ⟨w.heap.size, 1, none⟩ (by simp)).trans d1
  have z0 := (ot ⟨w.heap.size + 1, 0, none⟩ (by simp)).trans g0
  have z1 := (ot ⟨w.heap.size + 1, 1, none⟩ (by simp)).trans g1
  have ff : ∀ p, wx.frozen? p = w1.frozen? p := fun p => by rw [hwx]; simp
  have BX := hide (show Below w.heap.size w wx by rw [hwx]; exact BB.setCell (p := ⟨w.heap.size + 1 + 1, 0, none⟩) (by simp; omega) _)
  have hsx : w.heap.size + 1 + 1 + 1 ≤ wx.heap.size := by rw [hwx]; simpa using hs
  have MX := hide (show Mine wx (w.heap.size + 1 + 1 + 1) (.slice a1 nh c1) xs from by
    obtain ⟨a, c, e, m1, m2, m3, m4⟩ := unhide M
    refine ⟨a, c, e, m1, m2, m3.of_cells fun y hy p hp => ot p (fun e => by have := (m4 y hy).1; rw [← hp, e] at this; simp at this; omega), fun y hy => ⟨(m4 y hy).1, by rw [hwx]; simpa using (m4 y hy).2.1, fun j => (ff _).trans ((m4 y hy).2.2 j)⟩⟩)
  have RX := hide ((unhide R2).below (unhide BX))
  have fo0 := fo 0
  clear M R2 BB ot hs g0 g1
  go_wp2_with fail
  rw [← hwx]
  clear hwx o0 o1 fo0 d1
  refine (toWriteS_any aw nw cw ws wx hn (unhide X) (unhide RX)).mono ?_
  rintro e w2 ⟨g, W, A, C, rfl, hg, hO, hW, hA, hb⟩
  have hlt1 : w.heap.size + 1 + 1 < wx.heap.size := by omega
  have p0 := (hb.cell (p := ⟨w.heap.size + 1 + 1, 0, none⟩) hlt1).trans x0
  have p1 := (hb.cell (p := ⟨w.heap.size + 1 + 1, 1, none⟩) hlt1).trans x1
  have q0 := (hb.cell (p := ⟨w.heap.size + 1, 0, none⟩) (show w.heap.size + 1 < wx.heap.size by omega)).trans z0
  have q1 := (hb.cell (p := ⟨w.heap.size + 1, 1, none⟩) (show w.heap.size + 1 < wx.heap.size by omega)).trans z1
  have f1 : w2.frozen? ⟨w.heap.size + 1 + 1, 1, none⟩ = false := (hb.frozen (p := ⟨w.heap.size + 1 + 1, 1, none⟩) hlt1).trans ((ff _).trans (fo 1))
  have k0 : w2.frozen? ⟨w.heap.size + 1, 0, none⟩ = false := (hb.frozen (p := ⟨w.heap.size + 1, 0, none⟩) (show w.heap.size + 1 < wx.heap.size by omega)).trans ((ff _).trans (fg 0))
  have k1 : w2.frozen? ⟨w.heap.size + 1, 1, none⟩ = false := (hb.frozen (p := ⟨w.heap.size + 1, 1, none⟩) (show w.heap.size + 1 < wx.heap.size by omega)).trans ((ff _).trans (fg 1))
  have F2 := hide (show FMine w2 (w.heap.size + 1 + 1 + 1) a1 nh c1 g nw xs ws from ⟨unhide hA1, unhide hxl, unhide hwl, mine_below (unhide MX) hb, by omega, W, A, C, hO, hW, fun i x hx => by have := hA i x hx; omega, fun x hx => by
    obtain ⟨a, c, e, _, _, _, m4⟩ := unhide MX
    injection e with e1
    have := (m4 x (e1 ▸ hx)).2.1
    exact ⟨by omega, fun i y hy => by have := hA i y hy; omega⟩⟩)
  have B2 := hide ((unhide BX).trans (hb.mono (by omega)))
  have hs2 : w.heap.size + 1 < w2.heap.size := by have := hb.size; omega
  clear x0 x1 z0 z1 ff MX BX RX hO hW hA hb fo fg
  go_wp2_with fail
  have B3 := hide ((((unhide B2).setCell (p := ⟨w.heap.size + 1 + 1, 1, none⟩) (by simp; omega) (.slice (some ⟨g, 0, none⟩) nw nw)).setCell (p := ⟨w.heap.size + 1, 0, none⟩) (by simp) (.slice a1 nh c1)).setCell (p := ⟨w.heap.size + 1, 1, none⟩) (by simp) (.slice (some ⟨g, 0, none⟩) nw nw))
  refine bodyPost_ret (v := fv a1 nh c1 (some ⟨g, 0, none⟩) nw nw) (by simp [results, Try.results10, go_sem, q0, q1]) rfl ⟨a1, c1, g, rfl, ?_, unhide B3⟩
  exact ((unhide F2).kept (S := fun k => w.heap.size + 1 + 1 + 1 ≤ k) (((Kept.set (by simp) _ _ _).trans (Kept.set (by simp; omega) _ _ _)).trans (Kept.set (by simp; omega) _ _ _)) (fun _ h => h)).mono (by omega)
end Go.Proofs.Ytdiakahaghggiaa
