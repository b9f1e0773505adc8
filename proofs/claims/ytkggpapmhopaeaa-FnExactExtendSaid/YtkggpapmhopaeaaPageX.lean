/-
  impl.Extend.
-/
import Derived.Test.YtkggpapmhopaeaaPageW
namespace Go.Proofs.Ytkggpapmhopaeaa
open Go.RowKit

set_option maxRecDepth 100000 in
set_option maxHeartbeats 8000000 in
theorem implExtend_any (lo hi : ByteArray) (r : Int) (ab : Option Addr) (nb cb : Nat) (es : List EntD) (ac : Option Addr) (nc cc : Nat) (ds : List DelD) (d : DelD) (w : World) (hE : ERow w ab nb es) (hD : DRow w ac nc ds) (hcb : ab = none → cb = 0) (hcc : ac = none → cc = 0) :
    Calls Try.prog 21 #[pgv lo hi r ab nb cb ac nc cc, dv d] w fun e w' => ExtRes lo hi r es ds d w e w' := by
  obtain ⟨W, hW, k1, k2, k3, z, B⟩ := three_new w (.string lo) (.string hi) (.int .i64 r) (.slice ab nb cb) (.slice ac nc cc) d
  have RE := hide hE
  have RD := hide hD
  have LE := hide hE.1
  have LD := hide hD.1
  have K1 := hide k1
  have K2 := hide k2
  have K3 := hide k3
  clear hE hD k1 k2 k3
  go_enter Try.func21, Try.ntmps21
  go_wp2_with fail
  rw [← hW]
  clear hW
  refine (settle_any lo hi r ab nb cb es ac nc cc ds W ((unhide RE).below B) ((unhide RD).below B)).mono ?_
  rintro e w1 ⟨v, b, rfl, ⟨hb', hs⟩, hb⟩
  replace K1 := hide ((hb.block w.heap.size (by omega)).trans (unhide K1))
  replace K2 := hide ((hb.block (w.heap.size + 1) (by omega)).trans (unhide K2))
  replace K3 := hide ((hb.block (w.heap.size + 1 + 1) (by omega)).trans (unhide K3))
  replace B := B.trans (hb.mono (by omega))
  have z1 : w.heap.size + 1 + 1 + 1 ≤ w1.heap.size := by have := hb.size; omega
  clear hb
  cases b with
  | false =>
    have HOK := hide hb'.symm
    clear hb' hs
    obtain ⟨t0, t1, t2, t3, t4⟩ := pg_cells5 (unhide K3)
    obtain ⟨f0, f1, f2, f3, f4⟩ := fz_cells (unhide K3)
    have EX := hide (ext1 (d := d) (unhide HOK))
    go_wp2_with fail
    refine bodyPost_ret (v := .tuple #[pgv ByteArray.empty ByteArray.empty 0 none 0 0 none 0 0, .int .i64 1]) (by simp [results, Try.results21, go_sem, *] <;> rfl) rfl ?_
    exact ext_bad (unhide EX) (by decide) (by first | exact set5_below B (by omega) _ _ _ _ _ | exact B)
  | true =>
    obtain ⟨sb, a', n', c', rfl, hsb, hS⟩ := hs rfl
    have HOK := hide hb'.symm
    have HS := hide hS
    have hl := ok_len (unhide HOK)
    have hb3 : nb ≤ 32 := by have := unhide LE; omega
    have hc' : nc ≤ 12 := by have := unhide LD; omega
    have hn' : n' ≤ 100 := by have := (unhide HS).len; omega
    have hsb3 : w.heap.size + 1 + 1 + 1 ≤ sb := by omega
    clear hb' hs hS hl z
    obtain ⟨q0, q1, q2, q3⟩ := d_cells (unhide K2)
    go_wp2_with fail
    refine (changeOf_any d w1).mono ?_
    rintro e w2 ⟨cv, rfl, hcv, hb⟩
    replace K1 := hide ((hb.block w.heap.size (by omega)).trans (unhide K1))
    replace K2 := hide ((hb.block (w.heap.size + 1) (by omega)).trans (unhide K2))
    replace K3 := hide ((hb.block (w.heap.size + 1 + 1) (by omega)).trans (unhide K3))
    replace B := B.trans (hb.mono (by omega))
    replace HS := hide ((unhide HS).step hb)
    have z2 : w.heap.size + 1 + 1 + 1 ≤ w2.heap.size := by have := hb.size; omega
    clear hb q0 q1 q2 q3
    by_cases hc : okC d = true
    · obtain rfl := hcv hc
      have HC := hide hc
      rw [hc]
      clear hcv
      go_wp2_with fail
      refine (takes_any sb lo (highE hi ds) (rightE r ds) _ d w2 (unhide HS).at_ hc).mono ?_
      rintro e w3 ⟨rfl, hb⟩
      clear hc
      replace K1 := hide ((hb.block w.heap.size (by omega)).trans (unhide K1))
      replace K2 := hide ((hb.block (w.heap.size + 1) (by omega)).trans (unhide K2))
      replace K3 := hide ((hb.block (w.heap.size + 1 + 1) (by omega)).trans (unhide K3))
      replace B := B.trans (hb.mono (by omega))
      replace HS := hide ((unhide HS).step hb)
      have z3 : w.heap.size + 1 + 1 + 1 ≤ w3.heap.size := by have := hb.size; omega
      clear hb
      by_cases ht : takesC lo (highE hi ds) d = true
      · have HDL := hide (show okDel lo (highE hi ds) d = true by rw [okDel_eq, unhide HC, ht]; rfl)
        rw [ht]
        clear ht
        obtain ⟨p0, p1, p2, p3, p4⟩ := pg_cells5 (unhide K1)
        by_cases h12 : nc = 12
        · have hn12 : ds.length = 12 := by rw [unhide LD]; exact h12
          have h12' : ((nc : Int) == 12) = true := by simp [h12]
          have H12 := hide hn12
          clear h12 hn12
          obtain ⟨t0, t1, t2, t3, t4⟩ := pg_cells5 (unhide K3)
          obtain ⟨f0, f1, f2, f3, f4⟩ := fz_cells (unhide K3)
          have EX := hide (ext7 (unhide HOK) (unhide HDL) (unhide H12))
          go_wp2_with fail
          refine bodyPost_ret (v := .tuple #[pgv ByteArray.empty ByteArray.empty 0 none 0 0 none 0 0, .int .i64 7]) (by simp [results, Try.results21, go_sem, *] <;> rfl) rfl ?_
          exact ext_bad (unhide EX) (by decide) (by first | exact set5_below B (by omega) _ _ _ _ _ | exact B)
        · have hn12 : ¬ ds.length = 12 := by rw [unhide LD]; exact h12
          have h12' : ((nc : Int) == 12) = false := by simp; omega
          have H12 := hide hn12
          clear h12 hn12
          go_wp2_with fail
          refine (do_any sb lo (highE hi ds) (rightE r ds) a' n' c' (entsE es ds) d w3 (unhide HS) hn' (unhide HC)).mono ?_
          rintro e w4 ⟨rfl, ⟨a4, n4, c4, hS4⟩, hb⟩
          clear p0 p1 p2 p3 p4
          replace K1 := hide ((hb.block w.heap.size (by omega)).trans (unhide K1))
          replace K2 := hide ((hb.block (w.heap.size + 1) (by omega)).trans (unhide K2))
          replace K3 := hide ((hb.block (w.heap.size + 1 + 1) (by omega)).trans (unhide K3))
          replace B := B.trans (hb.mono (by omega))
          have z4 : w.heap.size + 1 + 1 + 1 ≤ w4.heap.size := by have := hb.size; omega
          have x3 := hS4.at_.c3
          have HM := hide (show n4 = (entsE es (ds ++ [d])).length by rw [entsE_snoc]; exact hS4.len)
          clear hb HS hS4
          by_cases h32 : 32 < n4
          · have h32i : (32 : Int) < (n4 : Int) := by omega
            have H32 := hide (show 32 < (entsE es (ds ++ [d])).length by rw [← unhide HM]; exact h32)
            clear h32
            obtain ⟨t0, t1, t2, t3, t4⟩ := pg_cells5 (unhide K3)
            obtain ⟨f0, f1, f2, f3, f4⟩ := fz_cells (unhide K3)
            have EX := hide (ext6 (unhide HOK) (unhide HDL) (unhide H12) (unhide H32))
            go_wp2_with fail
            refine bodyPost_ret (v := .tuple #[pgv ByteArray.empty ByteArray.empty 0 none 0 0 none 0 0, .int .i64 6]) (by simp [results, Try.results21, go_sem, *] <;> rfl) rfl ?_
            exact ext_bad (unhide EX) (by decide) (by first | exact set5_below B (by omega) _ _ _ _ _ | exact B)
          · have h32i : ¬ (32 : Int) < (n4 : Int) := by omega
            have EX := hide (ext0 (unhide HOK) (unhide HDL) (unhide H12) (show ¬ 32 < (entsE es (ds ++ [d])).length by rw [← unhide HM]; exact h32))
            clear h32
            obtain ⟨p0, p1, p2, p3, p4⟩ := pg_cells5 (unhide K1)
            go_upto_region 12 with fail
            -- Concat of the entries
            have bo : Below w4.heap.size w4 (w4.alloc (.cells #[.slice ab nb cb] 28)) := (Below.refl _ _).alloc (Nat.le_refl _) _
            have KO : (w4.alloc (.cells #[.slice ab nb cb] 28)).cell? ⟨w4.heap.size, 0, none⟩ = some (.slice ab nb cb) := heap_cell (heap_alloc_new w4 _) 0
            have zo : (w4.alloc (.cells #[.slice ab nb cb] 28)).heap.size = w4.heap.size + 1 := by simp
            have Bo := B.trans (bo.mono B.size)
            have CE := hide (concatE1 w4.heap.size ab nb cb es _ KO ((unhide RE).below Bo) hcb (by omega))
            have K1o := hide ((bo.block w.heap.size (by omega)).trans (unhide K1))
            have K2o := hide ((bo.block (w.heap.size + 1) (by omega)).trans (unhide K2))
            have K3o := hide ((bo.block (w.heap.size + 1 + 1) (by omega)).trans (unhide K3))
            clear bo KO
            have ZO := hide zo
            clear zo
            go_wp2_with fail
            refine (unhide CE).mono ?_
            rintro e w5 ⟨v5, rfl, hO5, hb⟩
            have zo := unhide ZO
            have K15 := (hb.block w.heap.size (by omega)).trans (unhide K1o)
            have K25 := (hb.block (w.heap.size + 1) (by omega)).trans (unhide K2o)
            have K35 := (hb.block (w.heap.size + 1 + 1) (by omega)).trans (unhide K3o)
            have B5 := Bo.trans (hb.mono Bo.size)
            have z5 := hb.size
            obtain ⟨a5, n5, c5, rfl⟩ : ∃ a n c, v5 = .slice a n c := by
              rcases hO5.2 with ⟨e, _⟩ | ⟨g, cap, cur, e, _⟩
              · exact ⟨_, _, _, e⟩
              · exact ⟨_, _, _, e⟩
            have c53 : w5.cell? ⟨w.heap.size, 3, none⟩ = some (.slice ab nb cb) := heap_cell K15 3
            have f53 := heap_frozen K15 3
            have K16 := hide (heap_set K15 3 (.slice a5 n5 c5))
            have K26 := hide ((Below.heap_setCell w5 ⟨w.heap.size, 3, none⟩ (.slice a5 n5 c5) (w.heap.size + 1) (by simp)).trans K25)
            have K36 := hide ((Below.heap_setCell w5 ⟨w.heap.size, 3, none⟩ (.slice a5 n5 c5) (w.heap.size + 1 + 1) (by show w.heap.size + 1 + 1 ≠ w.heap.size; omega)).trans K35)
            have O6 := hide (ownsRow_set (show w5.ownsRow _ _ _ _ _ _ from hO5) (sb := w.heap.size) (by omega) 3 (.slice a5 n5 c5))
            have B6 := B5.setCell (p := ⟨w.heap.size, 3, none⟩) (Nat.le_refl _) (.slice a5 n5 c5)
            have z6 : (w5.setCell ⟨w.heap.size, 3, none⟩ (.slice a5 n5 c5)).heap.size = w5.heap.size := by simp [World.setCell]
            have L5 : w4.heap.size ≤ (w4.alloc (.cells #[.slice ab nb cb] 28)).heap.size := by omega
            replace O6 := hide (ownsRow_base (unhide O6) L5)
            obtain ⟨w6, hw6⟩ : ∃ w6, w6 = w5.setCell ⟨w.heap.size, 3, none⟩ (.slice a5 n5 c5) := ⟨_, rfl⟩
            rw [← hw6] at K16 K26 K36 O6 B6 z6
            have HW6 := hide hw6
            have zz6 : w.heap.size + 1 + 1 + 1 ≤ w6.heap.size := by omega
            have zz46 : w4.heap.size ≤ w6.heap.size := by omega
            clear hb hO5 K15 K25 K35 B5 hw6 z6 zo z5 L5 K1o K2o K3o Bo CE p0 p1 p2 p3 p4 x3 ZO
            go_upto_region 13 with fail
            rw [← unhide HW6]
            clear c53 f53
            -- Concat of the changes
            obtain ⟨p0, p1, p2, p3, p4⟩ := (show w6.cell? ⟨w.heap.size, 0, none⟩ = some (.string lo) ∧ w6.cell? ⟨w.heap.size, 1, none⟩ = some (.string hi) ∧ w6.cell? ⟨w.heap.size, 2, none⟩ = some (.int .i64 r) ∧ w6.cell? ⟨w.heap.size, 3, none⟩ = some (.slice a5 n5 c5) ∧ w6.cell? ⟨w.heap.size, 4, none⟩ = some (.slice ac nc cc) from ⟨heap_cell (unhide K16) 0, heap_cell (unhide K16) 1, heap_cell (unhide K16) 2, heap_cell (unhide K16) 3, heap_cell (unhide K16) 4⟩)
            obtain ⟨q0, q1, q2, q3⟩ := d_cells (unhide K26)
            have bd : Below w6.heap.size w6 (w6.alloc (.cells #[.int .i64 d.kind, .string d.k, .string d.v, .int .i64 d.to] 44)) := (Below.refl _ _).alloc (Nat.le_refl _) _
            have KD := drow_one (heap_alloc_new w6 (.cells #[.int .i64 d.kind, .string d.k, .string d.v, .int .i64 d.to] 44))
            have zd : (w6.alloc (.cells #[.int .i64 d.kind, .string d.k, .string d.v, .int .i64 d.to] 44)).heap.size = w6.heap.size + 1 := by simp
            obtain ⟨w7, hw7⟩ : ∃ w7, w7 = w6.alloc (.cells #[.int .i64 d.kind, .string d.k, .string d.v, .int .i64 d.to] 44) := ⟨_, rfl⟩
            rw [← hw7] at bd KD zd
            have bp : Below w7.heap.size w7 (w7.alloc (.cells #[.slice ac nc cc, .slice (some ⟨w6.heap.size, 0, none⟩) 1 1] 29)) := (Below.refl _ _).alloc (Nat.le_refl _) _
            have KP := heap_new zd #[.slice ac nc cc, .slice (some ⟨w6.heap.size, 0, none⟩) 1 1] 29
            have B8 := (B6.trans (bd.mono B6.size)).trans (bp.mono (by omega))
            have zp : (w7.alloc (.cells #[.slice ac nc cc, .slice (some ⟨w6.heap.size, 0, none⟩) 1 1] 29)).heap.size = w6.heap.size + 1 + 1 := by simp [zd]
            have b68 : Below w6.heap.size w6 (w7.alloc (.cells #[.slice ac nc cc, .slice (some ⟨w6.heap.size, 0, none⟩) 1 1] 29)) := bd.trans (bp.mono (by omega))
            have CD := hide (concatD2 (w6.heap.size + 1) ac nc cc ds w6.heap.size d _ (heap_cell KP 0) (heap_cell KP 1) ((unhide RD).below B8) (KD.below bp) hcc (by omega))
            have K18 := hide ((b68.block w.heap.size (by omega)).trans (unhide K16))
            have K38 := hide ((b68.block (w.heap.size + 1 + 1) (by omega)).trans (unhide K36))
            have O8 := hide (ownsRow_below (unhide O6) b68)
            have HZP := hide zp
            have HW7 := hide hw7
            rw [hw7] at *
            clear bd KD zd bp KP b68 zp hw7
            go_wp2_with fail
            refine (unhide CD).mono ?_
            rintro e w9 ⟨v9, rfl, hO9, hb⟩
            have zp := unhide HZP
            have K19 := (hb.block w.heap.size (by omega)).trans (unhide K18)
            have K39 := (hb.block (w.heap.size + 1 + 1) (by omega)).trans (unhide K38)
            have O9 := ownsRow_below (unhide O8) hb
            have B9 := B8.trans (hb.mono B8.size)
            have z9 := hb.size
            obtain ⟨a9, n9, c9, rfl⟩ : ∃ a n c, v9 = .slice a n c := by
              rcases hO9.2 with ⟨e, _⟩ | ⟨g, cap, cur, e, _⟩
              · exact ⟨_, _, _, e⟩
              · exact ⟨_, _, _, e⟩
            have c94 : w9.cell? ⟨w.heap.size, 4, none⟩ = some (.slice ac nc cc) := heap_cell K19 4
            have f94 := heap_frozen K19 4
            have K1u := heap_set K19 4 (.slice a9 n9 c9)
            have K3u := (Below.heap_setCell w9 ⟨w.heap.size, 4, none⟩ (.slice a9 n9 c9) (w.heap.size + 1 + 1) (by show w.heap.size + 1 + 1 ≠ w.heap.size; omega)).trans K39
            have OEu := ownsRow_set O9 (sb := w.heap.size) (by omega) 4 (.slice a9 n9 c9)
            have ODu := ownsRow_set (ownsRow_base (show w9.ownsRow _ _ _ _ _ _ from hO9) (C := w4.heap.size) (by omega)) (sb := w.heap.size) (by omega) 4 (.slice a9 n9 c9)
            have Bu := B9.setCell (p := ⟨w.heap.size, 4, none⟩) (Nat.le_refl _) (.slice a9 n9 c9)
            obtain ⟨wu, hwu⟩ : ∃ wu, wu = w9.setCell ⟨w.heap.size, 4, none⟩ (.slice a9 n9 c9) := ⟨_, rfl⟩
            rw [← hwu] at K1u K3u OEu ODu Bu
            have u0 : wu.cell? ⟨w.heap.size, 0, none⟩ = some (.string lo) := heap_cell K1u 0
            have u1 : wu.cell? ⟨w.heap.size, 1, none⟩ = some (.string hi) := heap_cell K1u 1
            have u2 : wu.cell? ⟨w.heap.size, 2, none⟩ = some (.int .i64 r) := heap_cell K1u 2
            have u3 : wu.cell? ⟨w.heap.size, 3, none⟩ = some (.slice a5 n5 c5) := heap_cell K1u 3
            have u4 : wu.cell? ⟨w.heap.size, 4, none⟩ = some (.slice a9 n9 c9) := heap_cell K1u 4
            obtain ⟨t0, t1, t2, t3, t4⟩ := pg_cells5 K3u
            obtain ⟨f0, f1, f2, f3, f4⟩ := fz_cells K3u
            have hlt4 : w.heap.size + 1 + 1 < w4.heap.size := by omega
            have hle4 : w.heap.size ≤ w4.heap.size := by omega
            have hle5 : w.heap.size ≤ w.heap.size + 1 + 1 := by omega
            have FE := hide (ownsRow_base (set5_owns OEu hlt4 (.string lo) (.string hi) (.int .i64 r) (.slice a5 n5 c5) (.slice a9 n9 c9)) hle4)
            have FD := hide (ownsRow_base (set5_owns ODu hlt4 (.string lo) (.string hi) (.int .i64 r) (.slice a5 n5 c5) (.slice a9 n9 c9)) hle4)
            have FB := hide (set5_below Bu hle5 (.string lo) (.string hi) (.int .i64 r) (.slice a5 n5 c5) (.slice a9 n9 c9))
            have HWU := hide hwu
            clear hb hO9 K19 K39 O9 B9 K1u K3u OEu ODu Bu hwu zp z9 CD K18 K38 O8 HZP HW7 p0 p1 p2 p3 p4 q0 q1 q2 q3
            go_upto_region 14 with fail
            rw [← unhide HWU]
            clear c94 f94
            go_wp2_with fail
            refine bodyPost_ret (v := .tuple #[pgv lo hi r a5 n5 c5 a9 n9 c9, .int .i64 0]) (by simp [results, Try.results21, go_sem, *]) rfl ?_
            exact ext_good (unhide EX) (unhide FE) (unhide FD) (unhide FB)
      · have ht : takesC lo (highE hi ds) d = false := by simpa using ht
        have HDL := hide (show okDel lo (highE hi ds) d = false by rw [okDel_eq, unhide HC, ht]; rfl)
        rw [ht]
        clear ht
        obtain ⟨t0, t1, t2, t3, t4⟩ := pg_cells5 (unhide K3)
        obtain ⟨f0, f1, f2, f3, f4⟩ := fz_cells (unhide K3)
        have EX := hide (ext4 (unhide HOK) (unhide HDL))
        go_wp2_with fail
        refine bodyPost_ret (v := .tuple #[pgv ByteArray.empty ByteArray.empty 0 none 0 0 none 0 0, .int .i64 4]) (by simp [results, Try.results21, go_sem, *] <;> rfl) rfl ?_
        exact ext_bad (unhide EX) (by decide) (by first | exact set5_below B (by omega) _ _ _ _ _ | exact B)
    · have hc : okC d = false := by simpa using hc
      have HDL := hide (show okDel lo (highE hi ds) d = false by rw [okDel_eq, hc]; rfl)
      rw [hc]
      clear hcv hc
      obtain ⟨t0, t1, t2, t3, t4⟩ := pg_cells5 (unhide K3)
      obtain ⟨f0, f1, f2, f3, f4⟩ := fz_cells (unhide K3)
      have EX := hide (ext4 (unhide HOK) (unhide HDL))
      go_wp2_with fail
      refine bodyPost_ret (v := .tuple #[pgv ByteArray.empty ByteArray.empty 0 none 0 0 none 0 0, .int .i64 4]) (by simp [results, Try.results21, go_sem, *] <;> rfl) rfl ?_
      exact ext_bad (unhide EX) (by decide) (by first | exact set5_below B (by omega) _ _ _ _ _ | exact B)
end Go.Proofs.Ytkggpapmhopaeaa
