/-
  spec.Consolidate, impl.Consolidate.
-/
import Derived.Test.YtkggpapmhopaeaaPageT
namespace Go.Proofs.Ytkggpapmhopaeaa
open Go.RowKit

theorem con_ok {lo hi : ByteArray} {r : Int} {es : List EntD} {ds : List DelD} (h : okPage lo hi r es ds = true) : conP lo hi r es ds = ⟨lo, highE hi ds, rightE r ds, entsE es ds, []⟩ ∧ conC lo hi r es ds = 0 := by unfold conP conC; rw [if_pos h, if_pos h]; exact ⟨rfl, rfl⟩
theorem con_bad {lo hi : ByteArray} {r : Int} {es : List EntD} {ds : List DelD} (h : okPage lo hi r es ds = false) : conP lo hi r es ds = ⟨ByteArray.empty, ByteArray.empty, 0, [], []⟩ ∧ conC lo hi r es ds = 1 := by unfold conP conC; rw [if_neg (by rw [h]; decide), if_neg (by rw [h]; decide)]; exact ⟨rfl, rfl⟩
theorem conRes_bad {lo hi : ByteArray} {r : Int} {es : List EntD} {ds : List DelD} {w w' : World} (h : okPage lo hi r es ds = false) (hb : Below w.heap.size w w') : ConRes lo hi r es ds w (.returned (.tuple #[pgv ByteArray.empty ByteArray.empty 0 none 0 0 none 0 0, .int .i64 1])) w' := by
  unfold ConRes
  rw [(con_bad h).1, (con_bad h).2]
  exact ⟨none, 0, 0, rfl, World.ownsRow_nil _ _ _ _, hb⟩
theorem conRes_ok {lo hi : ByteArray} {r : Int} {es : List EntD} {ds : List DelD} {w w' : World} {a : Option Addr} {n c : Nat} (h : okPage lo hi r es ds = true) (ho : EOwns w' w.heap.size (.slice a n c) (entsE es ds)) (hb : Below w.heap.size w w') : ConRes lo hi r es ds w (.returned (.tuple #[pgv lo (highE hi ds) (rightE r ds) a n c none 0 0, .int .i64 0])) w' := by
  unfold ConRes
  rw [(con_ok h).1, (con_ok h).2]
  exact ⟨a, n, c, rfl, ho, hb⟩
set_option maxRecDepth 100000 in
set_option maxHeartbeats 4000000 in
theorem specConsolidate_any (lo hi : ByteArray) (r : Int) (ab : Option Addr) (nb cb : Nat) (es : List EntD) (ac : Option Addr) (nc cc : Nat) (ds : List DelD) (w : World) (hE : ERow w ab nb es) (hD : DRow w ac nc ds) (hcb : ab = none → cb = 0) :
    Calls Try.prog 24 #[pgv lo hi r ab nb cb ac nc cc] w fun e w' => ConRes lo hi r es ds w e w' := by
  obtain ⟨W, hW, k1, k2, z, b0⟩ := two_new w (.string lo) (.string hi) (.int .i64 r) (.slice ab nb cb) (.slice ac nc cc)
  have RE := hide (hE.below b0)
  have RD := hide (hD.below b0)
  have LE := hide hE.1
  have LD := hide hD.1
  have K1 := hide k1
  have K2 := hide k2
  clear hE hD k1 k2
  go_enter Try.func24, Try.ntmps24
  go_wp2_with fail
  rw [← hW]
  clear hW
  refine (specPageOK_any lo hi r ab nb cb es ac nc cc ds W (unhide RE) (unhide RD) hcb).mono ?_
  rintro e w1 ⟨rfl, hb1⟩
  have K1' := hide ((hb1.block w.heap.size (by omega)).trans (unhide K1))
  have K2' := hide ((hb1.block (w.heap.size + 1) (by omega)).trans (unhide K2))
  have B1 := b0.trans (hb1.mono b0.size)
  have z1 : w.heap.size + 1 + 1 ≤ w1.heap.size := by have := hb1.size; omega
  have RE1 := hide ((unhide RE).below hb1)
  have RD1 := hide ((unhide RD).below hb1)
  clear hb1 b0 RE RD K1 K2 z
  by_cases hok : okPage lo hi r es ds = true
  · have hl := ok_len hok
    have HOK := hide hok
    have hb : nb ≤ 100 := by have := unhide LE; omega
    have hc : nc ≤ 100 := by have := unhide LD; omega
    rw [hok]
    clear hok hl
    obtain ⟨p0, p1, p2, p3, p4⟩ := pg_cells5 (unhide K1')
    go_wp2_with fail
    refine (l04Consolidate_any lo hi r ab nb cb es ac nc cc ds w1 (unhide RE1) (unhide RD1) hb hc hcb).mono ?_
    rintro e w2 ⟨a, n, c, rfl, hO, hb2⟩
    have B2 := B1.trans (hb2.mono B1.size)
    obtain ⟨t0, t1, t2, t3, t4⟩ := pg_cells5 ((hb2.block (w.heap.size + 1) (by omega)).trans (unhide K2'))
    obtain ⟨f0, f1, f2, f3, f4⟩ := fz_cells ((hb2.block (w.heap.size + 1) (by omega)).trans (unhide K2'))
    have O2 := hide hO
    clear hO hb2 p0 p1 p2 p3 p4 RE1 RD1 K1' K2'
    have HR := hide (fun w' (ho : EOwns w' w.heap.size (.slice a n c) (entsE es ds)) hb => conRes_ok (w := w) (unhide HOK) ho hb)
    generalize highE hi ds = hi1 at *
    generalize rightE r ds = r1 at *
    go_wp2_with fail
    have hlt : w.heap.size + 1 < w1.heap.size := by omega
    refine bodyPost_ret (v := .tuple #[pgv lo hi1 r1 a n c none 0 0, .int .i64 0]) (by simp [results, Try.results24, go_sem, *]) rfl ?_
    exact unhide HR _ (ownsRow_base (set5_owns (unhide O2) hlt _ _ _ _ _) (by omega)) (set5_below B2 (Nat.le_succ _) _ _ _ _ _)
  · have hok : okPage lo hi r es ds = false := by simpa using hok
    have HOK := hide hok
    rw [hok]
    clear hok
    obtain ⟨t0, t1, t2, t3, t4⟩ := pg_cells5 (unhide K2')
    obtain ⟨f0, f1, f2, f3, f4⟩ := fz_cells (unhide K2')
    go_wp2_with fail
    refine bodyPost_ret (v := .tuple #[pgv ByteArray.empty ByteArray.empty 0 none 0 0 none 0 0, .int .i64 1]) (by simp [results, Try.results24, go_sem, *] <;> rfl) rfl ?_
    exact conRes_bad (unhide HOK) (by first | exact set5_below B1 (Nat.le_succ _) _ _ _ _ _ | exact B1)
set_option maxRecDepth 100000 in
set_option maxHeartbeats 4000000 in
theorem implConsolidate_any (lo hi : ByteArray) (r : Int) (ab : Option Addr) (nb cb : Nat) (es : List EntD) (ac : Option Addr) (nc cc : Nat) (ds : List DelD) (w : World) (hE : ERow w ab nb es) (hD : DRow w ac nc ds) :
    Calls Try.prog 25 #[pgv lo hi r ab nb cb ac nc cc] w fun e w' => ConRes lo hi r es ds w e w' := by
  obtain ⟨W, hW, k1, k2, z, b0⟩ := two_new w (.string lo) (.string hi) (.int .i64 r) (.slice ab nb cb) (.slice ac nc cc)
  have RE := hide (hE.below b0)
  have RD := hide (hD.below b0)
  have K2 := hide k2
  clear hE hD k1 k2
  go_enter Try.func25, Try.ntmps25
  go_wp2_with fail
  rw [← hW]
  clear hW
  refine (settle_any lo hi r ab nb cb es ac nc cc ds W (unhide RE) (unhide RD)).mono ?_
  rintro e w1 ⟨v, b, rfl, ⟨hb, hs⟩, hb1⟩
  have K2' := hide ((hb1.block (w.heap.size + 1) (by omega)).trans (unhide K2))
  have B1 := b0.trans (hb1.mono b0.size)
  have z1 : w.heap.size + 1 + 1 ≤ w1.heap.size := by have := hb1.size; omega
  clear hb1 b0 RE RD K2
  cases b with
  | false =>
    have HOK := hide hb.symm
    clear hb hs
    obtain ⟨t0, t1, t2, t3, t4⟩ := pg_cells5 (unhide K2')
    obtain ⟨f0, f1, f2, f3, f4⟩ := fz_cells (unhide K2')
    go_wp2_with fail
    refine bodyPost_ret (v := .tuple #[pgv ByteArray.empty ByteArray.empty 0 none 0 0 none 0 0, .int .i64 1]) (by simp [results, Try.results25, go_sem, *] <;> rfl) rfl ?_
    exact conRes_bad (unhide HOK) (by first | exact set5_below B1 (Nat.le_succ _) _ _ _ _ _ | exact B1)
  | true =>
    obtain ⟨sb, a', n', c', rfl, hsb, hS⟩ := hs rfl
    have HOK := hide hb.symm
    have HS := hide hS
    clear hb hs hS
    go_wp2_with fail
    refine (page_any sb lo (highE hi ds) (rightE r ds) a' n' c' w1 (unhide HS).at_).mono ?_
    rintro e w2 ⟨rfl, hb2⟩
    have B2 := B1.trans (hb2.mono B1.size)
    have S2 := hide ((unhide HS).step hb2)
    obtain ⟨t0, t1, t2, t3, t4⟩ := pg_cells5 ((hb2.block (w.heap.size + 1) (by omega)).trans (unhide K2'))
    obtain ⟨f0, f1, f2, f3, f4⟩ := fz_cells ((hb2.block (w.heap.size + 1) (by omega)).trans (unhide K2'))
    clear hb2 K2' HS
    have HR := hide (fun w' (ho : EOwns w' w.heap.size (.slice a' n' c') (entsE es ds)) hb => conRes_ok (w := w) (unhide HOK) ho hb)
    have O2 := hide (unhide S2).own
    have hlt : w.heap.size + 1 < sb + 1 := by omega
    generalize highE hi ds = hi1 at *
    generalize rightE r ds = r1 at *
    go_wp2_with fail
    refine bodyPost_ret (v := .tuple #[pgv lo hi1 r1 a' n' c' none 0 0, .int .i64 0]) (by simp [results, Try.results25, go_sem, *]) rfl ?_
    exact unhide HR _ (ownsRow_base (set5_owns (unhide O2) hlt _ _ _ _ _) (by omega)) (set5_below B2 (Nat.le_succ _) _ _ _ _ _)
end Go.Proofs.Ytkggpapmhopaeaa
