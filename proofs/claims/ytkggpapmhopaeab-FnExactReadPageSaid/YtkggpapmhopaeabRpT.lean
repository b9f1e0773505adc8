/-
  The specification's reader along bytes: two bytes, a line.
-/
import Derived.Test.YtkggpapmhopaeabRpS
namespace Go.Proofs.Ytkggpapmhopaeab
open Go.RowKit

theorem sOne_le {xs : List Int} (h : By xs) (s : Ss) : 0 ≤ (sOne xs s).1 ∧ (sOne xs s).1 ≤ 255 := by
  unfold sOne
  split
  · exact ⟨by simp, by simp⟩
  · exact h.getD _
set_option maxRecDepth 100000 in
set_option maxHeartbeats 2000000 in
theorem stwo_any (rb D : Nat) (a : Option Addr) (n c : Nat) (xs : List Int) (s : Ss) (w : World) (h : SdAt w rb D a n c xs s) (hb : By xs) :
    Calls Try.prog 19 #[.pointer (some ⟨rb, 0, none⟩)] w fun e w' => Sds w rb D a n c xs (.int .i64 (sTwo xs s).1) (sTwo xs s).2 e w' := by
  have H := hide h
  have l0 := sOne_le hb s
  have l1 := sOne_le hb (sOne xs s).2
  obtain ⟨x, hx⟩ : ∃ x, (sOne xs s).1 = x := ⟨_, rfl⟩
  obtain ⟨y, hy⟩ : ∃ y, (sOne xs (sOne xs s).2).1 = y := ⟨_, rfl⟩
  have E := hide (show sTwo xs s = (x * 256 + y, (sOne xs (sOne xs s).2).2) by rw [← hx, ← hy]; rfl)
  have X := hide hx
  have Y := hide hy
  rw [hx] at l0
  rw [hy] at l1
  have w0 : IntKind.i64.wrap (x * 256) = x * 256 := by rw [IntKind.wrap_i64]; omega
  have w1 : IntKind.i64.wrap (x * 256 + y) = x * 256 + y := by rw [IntKind.wrap_i64]; omega
  clear h hx hy
  go_enter Try.func19, Try.ntmps19
  go_wp2_with fail
  refine (sone_any rb D a n c xs s w (unhide H) hb).mono ?_
  rintro e w2 ⟨rfl, h2, hw2⟩
  rw [unhide X]
  have H2 := hide h2
  have HW := hide hw2
  clear h2 hw2
  go_wp2_with fail
  refine (sone_any rb D a n c xs (sOne xs s).2 w2 (unhide H2) hb).mono ?_
  rintro e w3 ⟨rfl, h3, hw3⟩
  rw [unhide Y]
  have FIN := hide (show Sds w rb D a n c xs (.int .i64 (sTwo xs s).1) (sTwo xs s).2 (.returned (.int .i64 (x * 256 + y))) w3 from ⟨by rw [unhide E], by rw [unhide E]; exact h3, (unhide HW).trans hw3⟩)
  clear h3 hw3
  go_wp2_with fail
  go_ret
  exact unhide FIN
set_option maxRecDepth 100000 in
set_option maxHeartbeats 2000000 in
theorem sline_any (rb D : Nat) (a : Option Addr) (n c : Nat) (xs : List Int) (s : Ss) (w : World) (h : SdAt w rb D a n c xs s) (hb : By xs) :
    Calls Try.prog 18 #[.pointer (some ⟨rb, 0, none⟩)] w fun e w' => Sds w rb D a n c xs (.string (sLine xs s).1) (sLine xs s).2 e w' := by
  have H := hide h
  have l0 := sOne_le hb s
  obtain ⟨m, hm⟩ : ∃ m : Nat, (sOne xs s).1 = (m : Int) := Int.eq_ofNat_of_zero_le l0.1
  rw [hm] at l0
  obtain ⟨t, ht⟩ : ∃ t, (sOne xs s).2 = t := ⟨_, rfl⟩
  have E := hide (show sLine xs s = sLn xs m t by rw [← ht, ← Int.toNat_natCast m, ← hm]; rfl)
  have HM := hide hm
  have HT := hide ht
  have hm2 : m ≤ 255 := by omega
  clear h hm ht
  go_enter Try.func18, Try.ntmps18
  go_wp2_with fail
  refine (sone_any rb D a n c xs s w (unhide H) hb).mono ?_
  rintro e w2 ⟨rfl, h2, hw2⟩
  rw [unhide HM]
  rw [unhide HT] at h2
  obtain ⟨c0, c1, c2, f1, f2⟩ := h2.cells
  have hL := h2.row.1
  have hlen := h2.len
  have hpos := h2.pos
  obtain ⟨p, b⟩ := t
  simp only at c1 c2 hpos
  have wp : IntKind.i64.wrap ((p : Int) + (m : Int)) = (p : Int) + (m : Int) := by rw [IntKind.wrap_i64]; omega
  have BADF := hide (show sLn xs m (p, b) = (ByteArray.empty, (p, true)) → ∀ w', w'.heap = (w2.setCell ⟨rb, 2, none⟩ (.bool true)).heap → w'.os = w2.os → w'.tape = w2.tape → w'.output = w2.output → Sds w rb D a n c xs (.string (sLine xs s).1) (sLine xs s).2 (.returned (.string ByteArray.empty)) w' from fun hE w' g1 g2 g3 g4 => ⟨by rw [unhide E, hE], by rw [unhide E, hE]; exact h2.bad.same g1, hw2.trans ((wr_cell w2 rb 2 _).same g1 g2 g3 g4)⟩)
  cases b with
  | true =>
    have B2 := hide (unhide BADF (by unfold sLn; rw [if_pos (.inl rfl)]))
    clear h2 hw2 hL BADF
    go_wp2_with fail
    go_quiet (fail)
    go_wp2_with fail
    go_ret
    exact unhide B2 _ rfl rfl rfl rfl
  | false =>
    by_cases hl : n < p + m
    · have B2 := hide (unhide BADF (by unfold sLn; rw [if_pos (.inr (by rw [hL]; exact hl))]))
      have hli : (n : Int) < (p : Int) + (m : Int) := by omega
      clear h2 hw2 hL BADF
      go_wp2_with fail
      go_quiet (fail)
      go_wp2_with fail
      go_ret
      exact unhide B2 _ rfl rfl rfl rfl
    · have hli : ¬ ((n : Int) < (p : Int) + (m : Int)) := by omega
      have EL : sLn xs m (p, false) = (strOfNums ((xs.drop p).take m), (p + m, false)) := by unfold sLn; rw [if_neg (by simp; omega)]
      have G := h2.go (p + m) (by omega)
      have cap := h2.cap
      obtain ⟨av, hav⟩ : ∃ av, av = (if c = p then a else a.map (·.add p)) := ⟨_, rfl⟩
      have hD : Row (w2.setCell ⟨rb, 1, none⟩ (.int .i64 ((p + m : Nat) : Int))) av m ((xs.drop p).take m) := by
        by_cases h0 : m = 0
        · subst h0
          exact ⟨by simp, fun i hi => absurd hi (Nat.not_lt_zero _)⟩
        · obtain ⟨b, off, ha, _⟩ := G.row.2 0 (by omega)
          have hr := G.row
          rw [ha] at hr
          rw [hav, if_neg (by omega), ha]
          have e : (⟨b, off, none⟩ : Addr).add p = ⟨b, off + p, none⟩ := by unfold Addr.add; split <;> simp_all
          simp only [Option.map_some, e]
          exact row_take (row_drop hr (by omega)) (by omega)
      have GF := hide (show ∀ w', w'.heap = (w2.setCell ⟨rb, 1, none⟩ (.int .i64 ((p : Int) + (m : Int)))).heap → w'.os = w2.os → w'.tape = w2.tape → w'.output = w2.output → Sds w rb D a n c xs (.string (sLine xs s).1) (sLine xs s).2 (.returned (.string (strOfNums ((xs.drop p).take m)))) w' from fun w' g1 g2 g3 g4 => ⟨by rw [unhide E, EL], by rw [unhide E, EL]; rw [← show ((p + m : Nat) : Int) = (p : Int) + (m : Int) by omega] at g1; exact G.same g1, hw2.trans ((wr_cell w2 rb 1 _).same g1 g2 g3 g4)⟩)
      have g0 := (heap_at G.k 0).1
      have g1 := (heap_at G.k 1).1
      have HD := hide hD
      have HAV := hide hav
      clear h2 hw2 hL BADF G EL hD hav
      go_wp2_with fail
      go_quiet (fail)
      go_wp2_with fail
      clear c0 c1 c2 f1 f2
      obtain ⟨X, hX⟩ : ∃ X, X = (w2.drewN nq).setCell ⟨rb, 1, none⟩ (.int .i64 ((p : Int) + (m : Int))) := ⟨_, rfl⟩
      have eh : X.heap = (w2.setCell ⟨rb, 1, none⟩ (.int .i64 ((p + m : Nat) : Int))).heap := by rw [hX, show ((p + m : Nat) : Int) = (p : Int) + (m : Int) by omega]; rfl
      have x0 : X.cell? ⟨rb, 0, none⟩ = some (.slice a n c) := (World.cell?_of_block (w := w2.setCell ⟨rb, 1, none⟩ (.int .i64 ((p + m : Nat) : Int))) (by rw [eh])).trans g0
      have x1 : X.cell? ⟨rb, 1, none⟩ = some (.int .i64 ((p : Int) + (m : Int))) := by
        have := (World.cell?_of_block (a := ⟨rb, 1, none⟩) (w := w2.setCell ⟨rb, 1, none⟩ (.int .i64 ((p + m : Nat) : Int))) (w' := X) (by rw [eh])).trans g1
        rw [this]
        simp
      have hr : Row X av m ((xs.drop p).take m) := (unhide HD).of_cells fun x _ z _ => World.cell?_of_block (w := w2.setCell ⟨rb, 1, none⟩ (.int .i64 ((p + m : Nat) : Int))) (by rw [eh])
      have hcv : ∀ q cc, (convert 22 9 (.slice av m cc)).run Try.prog (X.drewN q) = .ok (.string (strOfNums ((xs.drop p).take m))) (X.drewN q) := fun q cc => conv_text (w := X.drewN q) hr
      have GX := hide (show ∀ q, Sds w rb D a n c xs (.string (sLine xs s).1) (sLine xs s).2 (.returned (.string (strOfNums ((xs.drop p).take m)))) (X.drewN q) from fun q => unhide GF _ (by rw [hX]; rfl) (by rw [hX]; rfl) (by rw [hX]; rfl) (by rw [hX]; rfl))
      rw [← hX]
      clear hX eh g0 g1 HD GF hr
      have e1 : (p : Int) + (m : Int) - (m : Int) = (p : Int) := by omega
      have e2 : IntKind.i64.wrap (p : Int) = (p : Int) := by rw [IntKind.wrap_i64]; omega
      have e3 : ((p : Int) + (m : Int)).toNat = p + m := by omega
      have e4 : (p : Int) ≤ (p : Int) + (m : Int) := by omega
      have e5 : (p : Int) + (m : Int) ≤ (c : Int) := by omega
      generalize strOfNums ((xs.drop p).take m) = str at *
      by_cases hck : c = p
      · have ea : av = a := by rw [unhide HAV, if_pos hck]
        obtain rfl : m = 0 := by omega
        subst hck
        rw [ea] at hcv
        go_quiet (fail)
        go_wp2_with fail
        go_ret
        exact unhide GX _
      · have hck' : ¬ (p = c) := fun h => hck h.symm
        have ea : av = a.map (·.add p) := by rw [unhide HAV, if_neg hck]
        rw [ea] at hcv
        by_cases hp0 : p = 0
        · subst hp0
          rw [map_add0] at hcv
          go_quiet (fail)
          go_wp2_with fail
          go_ret
          exact unhide GX _
        · go_quiet (fail)
          go_wp2_with fail
          go_ret
          exact unhide GX _
end Go.Proofs.Ytkggpapmhopaeab
