/-
  The walks of the specification's source of choices: a byte, one of n, one of some texts.
-/
import Derived.Test.YtbboigidkimkmaaOwn
namespace Go.Proofs.Ytbboigidkimkmaa
open Go.RowKit

/-- A source at block p over the bytes xs of a slice; at most K bytes have been taken. -/
structure Src (w : World) (p : Nat) (a : Option Addr) (n c : Nat) (xs : List Int) (K : Int) : Prop where
  code : w.cell? ⟨p, 0, none⟩ = some (.slice a n c)
  place : ∃ t : Int, w.cell? ⟨p, 1, none⟩ = some (.int .i64 t) ∧ 0 ≤ t ∧ t ≤ K
  seed : ∃ s : Int, w.cell? ⟨p, 2, none⟩ = some (.int .i64 s) ∧ 0 ≤ s ∧ s < 2147483648
  free : ∀ j, w.frozen? ⟨p, j, none⟩ = false
  row : Row w a n xs
  bytes : ∀ i, i < n → 0 ≤ xs.getD i 0 ∧ xs.getD i 0 ≤ 255
  apart : ∀ x, a = some x → 0 < n → x.block ≠ p
  bound : n ≤ 1048576

theorem Only.drewN {p k : Nat} {w w1 : World} (h : Only p w w1) : Only p w (w1.drewN k) := ⟨h.os, h.tape, h.output, h.size, h.block, h.frozen⟩

theorem Only.drew {p : Nat} {w w1 : World} (h : Only p w w1) : Only p w w1.drew := ⟨h.os, h.tape, h.output, h.size, h.block, h.frozen⟩
theorem src_step {w w' : World} {p : Nat} {a : Option Addr} {n c : Nat} {xs : List Int} {K t s : Int} (ho : Only p w w') (h0 : w'.cell? ⟨p, 0, none⟩ = some (.slice a n c)) (h1 : w'.cell? ⟨p, 1, none⟩ = some (.int .i64 t))
    (h2 : w'.cell? ⟨p, 2, none⟩ = some (.int .i64 s)) (ht : 0 ≤ t) (htK : t ≤ K) (hs : 0 ≤ s) (hs1 : s < 2147483648) (hf : ∀ j, w.frozen? ⟨p, j, none⟩ = false) (hr : Row w a n xs)
    (hb : ∀ i, i < n → 0 ≤ xs.getD i 0 ∧ xs.getD i 0 ≤ 255) (ha : ∀ x, a = some x → 0 < n → x.block ≠ p) (hn : n ≤ 1048576) : Src w' p a n c xs K := by
  refine ⟨h0, ⟨t, h1, ht, htK⟩, ⟨s, h2, hs, hs1⟩, fun j => (ho.frozen _).trans (hf j), ?_, hb, ha, hn⟩
  by_cases hp : 0 < n
  · exact hr.of_cells fun x hx q hq => ho.cell (by rw [hq]; exact ha x hx hp)
  · exact ⟨hr.1, fun i hi => absurd hi (by omega)⟩

set_option maxHeartbeats 1000000 in
theorem byte_any (p : Nat) (a : Option Addr) (n c : Nat) (xs : List Int) (K : Int) (w : World) (h : Src w p a n c xs K) (hK : K ≤ 1000000) :
    Calls Try.prog 68 #[.pointer (some ⟨p, 0, none⟩)] w fun e w' => ∃ r : Int, e = .returned (.int .i64 r) ∧ 0 ≤ r ∧ r ≤ 255 ∧ Only p w w' ∧ Src w' p a n c xs (K + 1) := by
  obtain ⟨hc, ⟨t, ht, ht0, htK⟩, ⟨s, hs, hs0, hs1⟩, hf, hr, hby, hap, hbd⟩ := h
  have f1 := hf 1
  have f2 := hf 2
  have R := hide hr
  have BY := hide hby
  have AP := hide hap
  have HF := hide hf
  clear hf hr hby hap
  by_cases hlt : t + 1 ≤ (n : Int)
  · obtain ⟨k, rfl⟩ := Int.eq_ofNat_of_zero_le ht0
    obtain ⟨b, off, rfl, e1⟩ := (unhide R).2 k (by omega)
    obtain ⟨x0, x1⟩ := unhide BY k (by omega)
    generalize hx : xs.getD k 0 = x at *
    have hne : ¬ b = p := unhide AP _ rfl (by omega)
    clear hx
    go_enter Try.func68, Try.ntmps68
    go_wp2_with fail
    go_quiet (fail)
    go_wp2_with fail
    have d0 : ((w.setCell ⟨p, 1, none⟩ (.int .i64 ((k : Int) + 1))).drewN nq).cell? ⟨p, 0, none⟩ = some (.slice (some ⟨b, off, none⟩) n c) := (World.cell?_setCell_other _ _ _ _ (by intro h; simp at h)).trans hc
    have d1 : ((w.setCell ⟨p, 1, none⟩ (.int .i64 ((k : Int) + 1))).drewN nq).cell? ⟨p, 1, none⟩ = some (.int .i64 ((k : Int) + 1)) := World.cell?_setCell_same _ _ _ ht
    have d2 : ((w.setCell ⟨p, 1, none⟩ (.int .i64 ((k : Int) + 1))).drewN nq).cell? ⟨p, 2, none⟩ = some (.int .i64 s) := (World.cell?_setCell_other _ _ _ _ (by intro h; simp at h)).trans hs
    have dr : ((w.setCell ⟨p, 1, none⟩ (.int .i64 ((k : Int) + 1))).drewN nq).cell? ⟨b, off + k, none⟩ = some (.int .u8 x) := (World.cell?_setCell_other _ _ _ _ (by intro h; simp only [Addr.mk.injEq] at h; exact hne h.1.symm)).trans e1
    have df : ((w.setCell ⟨p, 1, none⟩ (.int .i64 ((k : Int) + 1))).drewN nq).frozen? ⟨p, 2, none⟩ = false := by simpa using f2
    have dO : Only p w ((w.setCell ⟨p, 1, none⟩ (.int .i64 ((k : Int) + 1))).drewN nq) := Only.drewN (Only.setCell _ _ _ _)
    have DO := hide dO
    clear dO hc ht hs e1 f1 f2
    generalize (w.setCell ⟨p, 1, none⟩ (.int .i64 ((k : Int) + 1))).drewN nq = W1 at *
    go_region
    go_wp2_with fail
    go_quiet (fail)
    go_wp2_with fail
    go_ret
    refine ⟨x, rfl, x0, x1, Only.drewN (Only.drew ((unhide DO).trans (Only.setCell _ _ _ _))), ?_⟩
    refine src_step (t := (k : Int) + 1) (Only.drewN (Only.drew ((unhide DO).trans (Only.setCell _ _ _ _)))) ((World.cell?_setCell_other _ _ _ _ (by intro h; simp at h)).trans d0) ((World.cell?_setCell_other _ _ _ _ (by intro h; simp at h)).trans d1) (World.cell?_setCell_same _ _ _ d2) (by omega) (by omega) ?_ ?_ (unhide HF) (unhide R) (unhide BY) (unhide AP) hbd
    all_goals omega
  · have hgt : (n : Int) < t + 1 := by omega
    clear hlt
    by_cases h3 : 3000 < t + 1
    · go_enter Try.func68, Try.ntmps68
      go_wp2_with fail
      go_quiet (fail)
      go_wp2_with fail
      go_ret
      have hO := Only.drewN (k := nq) (Only.setCell w p 1 (.int .i64 (t + 1)))
      exact ⟨0, rfl, by omega, by omega, hO, src_step (t := t + 1) (s := s) hO ((World.cell?_setCell_other _ _ _ _ (by intro h; simp at h)).trans hc) (World.cell?_setCell_same _ _ _ ht) ((World.cell?_setCell_other _ _ _ _ (by intro h; simp at h)).trans hs) (by omega) (by omega) hs0 hs1 (unhide HF) (unhide R) (unhide BY) (unhide AP) hbd⟩
    · go_enter Try.func68, Try.ntmps68
      go_wp2_with fail
      go_quiet (fail)
      go_wp2_with fail
      go_ret
      have hO := Only.drewN (k := nq) (Only.setCell w p 1 (.int .i64 (t + 1)))
      have hO2 := hO.trans (Only.setCell _ p 2 (.int .i64 ((s * 1103515245 + 12345) % 2147483648)))
      refine ⟨_, rfl, ?_, ?_, hO2, src_step (t := t + 1) hO2 ((World.cell?_setCell_other _ _ _ _ (by intro h; simp at h)).trans ((World.cell?_setCell_other _ _ _ _ (by intro h; simp at h)).trans hc)) ((World.cell?_setCell_other _ _ _ _ (by intro h; simp at h)).trans (World.cell?_setCell_same _ _ _ ht)) (World.cell?_setCell_same _ _ _ ((World.cell?_setCell_other _ _ _ _ (by intro h; simp at h)).trans hs)) (by omega) (by omega) ?_ ?_ (unhide HF) (unhide R) (unhide BY) (unhide AP) hbd⟩
      all_goals omega
end Go.Proofs.Ytbboigidkimkmaa
