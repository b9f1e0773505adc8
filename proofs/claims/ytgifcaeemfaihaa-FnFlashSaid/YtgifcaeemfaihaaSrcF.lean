/-
  The source of choices, each choice told: a byte, one of n, a chance, flags; and the laws' 'at' at the choice 0.
-/
import Derived.Test.YtgifcaeemfaihaaSrcB
import Derived.Deep.WholeRow
set_option maxRecDepth 100000
namespace Go.Proofs.Ytgifcaeemfaihaa
open Go.RowKit

/-- Block p is a source's: three cells. -/
def Three (w : World) (p : Nat) : Prop := ∃ v0 v1 v2 fr, w.heap[p]? = some (.cells #[v0, v1, v2] 104 fr)
theorem Three.set {w : World} {p : Nat} (h : Three w p) (o : Nat) (v : Value) : Three (w.setCell ⟨p, o, none⟩ v) p := by
  obtain ⟨v0, v1, v2, fr, h⟩ := h
  rw [setCell_eq_setRow w p o _ _ fr v h]
  have h2 := setRow_heap w p _ (#[v0, v1, v2].setIfInBounds o v) _ fr h
  match o, h2 with
  | 0, h2 => exact ⟨_, _, _, fr, h2⟩
  | 1, h2 => exact ⟨_, _, _, fr, h2⟩
  | 2, h2 => exact ⟨_, _, _, fr, h2⟩
  | o + 3, h2 => exact ⟨v0, v1, v2, fr, by rw [h2, Array.setIfInBounds_eq_of_size_le (by simp)]⟩
theorem Three.same {w w' : World} {p : Nat} (h : Three w p) (e : w'.heap[p]? = w.heap[p]?) : Three w' p := by
  obtain ⟨v0, v1, v2, fr, h⟩ := h
  exact ⟨v0, v1, v2, fr, e.trans h⟩
/-- A source at block p over the bytes xs, its place and its seed told. -/
structure SrcF (w : World) (p : Nat) (a : Option Addr) (n c : Nat) (xs : List Int) (t s : Int) : Prop where
  code : w.cell? ⟨p, 0, none⟩ = some (.slice a n c)
  place : w.cell? ⟨p, 1, none⟩ = some (.int .i64 t)
  seed : w.cell? ⟨p, 2, none⟩ = some (.int .i64 s)
  ht : 0 ≤ t
  hs0 : 0 ≤ s
  hs1 : s < 2147483648
  free : ∀ j, w.frozen? ⟨p, j, none⟩ = false
  row : Row w a n xs
  bytes : ∀ i, i < n → 0 ≤ xs.getD i 0 ∧ xs.getD i 0 ≤ 255
  apart : ∀ x, a = some x → 0 < n → x.block ≠ p
  bound : n ≤ 1048576
  shape : Three w p
/-- A byte, and the seed behind it. -/
def byteV (xs : List Int) (t s : Int) : Int × Int :=
  if t + 1 ≤ (xs.length : Int) then (xs.getD t.toNat 0, (s * 31 + xs.getD t.toNat 0 + 7) % 2147483648)
  else if 3000 < t + 1 then (0, s) else ((s * 1103515245 + 12345) % 2147483648 / 65536 % 256, (s * 1103515245 + 12345) % 2147483648)
theorem srcF_step {w w' : World} {p : Nat} {a : Option Addr} {n c : Nat} {xs : List Int} {t s : Int} (ho : Only p w w') (h0 : w'.cell? ⟨p, 0, none⟩ = some (.slice a n c)) (h1 : w'.cell? ⟨p, 1, none⟩ = some (.int .i64 t))
    (h2 : w'.cell? ⟨p, 2, none⟩ = some (.int .i64 s)) (ht : 0 ≤ t) (hs : 0 ≤ s) (hs1 : s < 2147483648) (hf : ∀ j, w.frozen? ⟨p, j, none⟩ = false) (hr : Row w a n xs)
    (hb : ∀ i, i < n → 0 ≤ xs.getD i 0 ∧ xs.getD i 0 ≤ 255) (ha : ∀ x, a = some x → 0 < n → x.block ≠ p) (hn : n ≤ 1048576) (h3 : Three w' p) : SrcF w' p a n c xs t s := by
  refine ⟨h0, h1, h2, ht, hs, hs1, fun j => (ho.frozen _).trans (hf j), ?_, hb, ha, hn, h3⟩
  by_cases hp : 0 < n
  · exact hr.of_cells fun x hx q hq => ho.cell (by rw [hq]; exact ha x hx hp)
  · exact ⟨hr.1, fun i hi => absurd hi (by omega)⟩
set_option maxHeartbeats 1000000 in
theorem byteF_any (p : Nat) (a : Option Addr) (n c : Nat) (xs : List Int) (t s : Int) (w : World) (h : SrcF w p a n c xs t s) (hK : t ≤ 1000000) :
    Calls Try.prog 90 #[.pointer (some ⟨p, 0, none⟩)] w fun e w' => e = .returned (.int .i64 (byteV xs t s).1) ∧ 0 ≤ (byteV xs t s).1 ∧ (byteV xs t s).1 ≤ 255 ∧ Only p w w' ∧ SrcF w' p a n c xs (t + 1) (byteV xs t s).2 := by
  obtain ⟨hc, ht, hs, ht0, hs0, hs1, hf, hr, hby, hap, hbd, h3c⟩ := h
  have H3 := hide h3c
  clear h3c
  have f1 := hf 1
  have f2 := hf 2
  have hxl := hide hr.1
  have R := hide hr
  have BY := hide hby
  have AP := hide hap
  have HF := hide hf
  clear hf hr hby hap
  by_cases hlt : t + 1 ≤ (n : Int)
  · have HV := hide (show byteV xs t s = (xs.getD t.toNat 0, (s * 31 + xs.getD t.toNat 0 + 7) % 2147483648) by unfold byteV; rw [if_pos (by rw [unhide hxl]; exact hlt)])
    obtain ⟨k, rfl⟩ := Int.eq_ofNat_of_zero_le ht0
    obtain ⟨b, off, rfl, e1⟩ := (unhide R).2 k (by omega)
    obtain ⟨x0, x1⟩ := unhide BY k (by omega)
    rw [show (k : Int).toNat = k from rfl] at HV
    generalize hx : xs.getD k 0 = x at *
    have hne : ¬ b = p := unhide AP _ rfl (by omega)
    clear hx
    go_enter Try.func90, Try.ntmps90
    go_wp2_with fail
    go_quiet (fail)
    go_wp2_with fail
    have d0 : ((w.setCell ⟨p, 1, none⟩ (.int .i64 ((k : Int) + 1))).drewN nq).cell? ⟨p, 0, none⟩ = some (.slice (some ⟨b, off, none⟩) n c) := (World.cell?_setCell_other _ _ _ _ (by intro h; simp at h)).trans hc
    have d1 : ((w.setCell ⟨p, 1, none⟩ (.int .i64 ((k : Int) + 1))).drewN nq).cell? ⟨p, 1, none⟩ = some (.int .i64 ((k : Int) + 1)) := World.cell?_setCell_same _ _ _ ht
    have d2 : ((w.setCell ⟨p, 1, none⟩ (.int .i64 ((k : Int) + 1))).drewN nq).cell? ⟨p, 2, none⟩ = some (.int .i64 s) := (World.cell?_setCell_other _ _ _ _ (by intro h; simp at h)).trans hs
    have dr : ((w.setCell ⟨p, 1, none⟩ (.int .i64 ((k : Int) + 1))).drewN nq).cell? ⟨b, off + k, none⟩ = some (.int .u8 x) := (World.cell?_setCell_other _ _ _ _ (by intro h; simp only [Addr.mk.injEq] at h; exact hne h.1.symm)).trans e1
    have df : ((w.setCell ⟨p, 1, none⟩ (.int .i64 ((k : Int) + 1))).drewN nq).frozen? ⟨p, 2, none⟩ = false := by simpa using f2
    have dO : Only p w ((w.setCell ⟨p, 1, none⟩ (.int .i64 ((k : Int) + 1))).drewN nq) := Only.drewN (Only.setCell _ _ _ _)
    have DO := hide dO
    have D3 := hide (show Three ((w.setCell ⟨p, 1, none⟩ (.int .i64 ((k : Int) + 1))).drewN nq) p from (unhide H3).set 1 _)
    clear dO hc ht hs e1 f1 f2
    generalize (w.setCell ⟨p, 1, none⟩ (.int .i64 ((k : Int) + 1))).drewN nq = W1 at *
    go_region
    go_wp2_with fail
    go_quiet (fail)
    go_wp2_with fail
    go_ret
    rw [unhide HV]
    refine ⟨rfl, x0, x1, Only.drewN (Only.drew ((unhide DO).trans (Only.setCell _ _ _ _))), ?_⟩
    refine srcF_step (t := (k : Int) + 1) (Only.drewN (Only.drew ((unhide DO).trans (Only.setCell _ _ _ _)))) ((World.cell?_setCell_other _ _ _ _ (by intro h; simp at h)).trans d0) ((World.cell?_setCell_other _ _ _ _ (by intro h; simp at h)).trans d1) (World.cell?_setCell_same _ _ _ d2) (by omega) ?_ ?_ (unhide HF) (unhide R) (unhide BY) (unhide AP) hbd (show Three _ p from (unhide D3).set 2 _)
    all_goals simp only; omega
  · have hgt : (n : Int) < t + 1 := by omega
    by_cases h3 : 3000 < t + 1
    · have HV := hide (show byteV xs t s = (0, s) by unfold byteV; rw [if_neg (by rw [unhide hxl]; exact hlt), if_pos h3])
      clear hlt
      go_enter Try.func90, Try.ntmps90
      go_wp2_with fail
      go_quiet (fail)
      go_wp2_with fail
      go_ret
      have hO := Only.drewN (k := nq) (Only.setCell w p 1 (.int .i64 (t + 1)))
      rw [unhide HV]
      exact ⟨rfl, by simp, by simp, hO, srcF_step (t := t + 1) (s := s) hO ((World.cell?_setCell_other _ _ _ _ (by intro h; simp at h)).trans hc) (World.cell?_setCell_same _ _ _ ht) ((World.cell?_setCell_other _ _ _ _ (by intro h; simp at h)).trans hs) (by omega) hs0 hs1 (unhide HF) (unhide R) (unhide BY) (unhide AP) hbd (show Three _ p from (unhide H3).set 1 _)⟩
    · have HV := hide (show byteV xs t s = ((s * 1103515245 + 12345) % 2147483648 / 65536 % 256, (s * 1103515245 + 12345) % 2147483648) by unfold byteV; rw [if_neg (by rw [unhide hxl]; exact hlt), if_neg h3])
      clear hlt
      go_enter Try.func90, Try.ntmps90
      go_wp2_with fail
      go_quiet (fail)
      go_wp2_with fail
      go_ret
      have hO := Only.drewN (k := nq) (Only.setCell w p 1 (.int .i64 (t + 1)))
      have hO2 := hO.trans (Only.setCell _ p 2 (.int .i64 ((s * 1103515245 + 12345) % 2147483648)))
      rw [unhide HV]
      refine ⟨rfl, ?_, ?_, hO2, srcF_step (t := t + 1) hO2 ((World.cell?_setCell_other _ _ _ _ (by intro h; simp at h)).trans ((World.cell?_setCell_other _ _ _ _ (by intro h; simp at h)).trans hc)) ((World.cell?_setCell_other _ _ _ _ (by intro h; simp at h)).trans (World.cell?_setCell_same _ _ _ ht)) (World.cell?_setCell_same _ _ _ ((World.cell?_setCell_other _ _ _ _ (by intro h; simp at h)).trans hs)) (by omega) ?_ ?_ (unhide HF) (unhide R) (unhide BY) (unhide AP) hbd (show Three _ p from ((show Three ((w.setCell ⟨p, 1, none⟩ (.int .i64 (t + 1))).drewN nq) p from (unhide H3).set 1 _).set 2 _))⟩
      all_goals simp only; omega
/-- One of m out of one byte. -/
def nextV (xs : List Int) (t s m : Int) : Int := (byteV xs t s).1 % m
set_option maxHeartbeats 1000000 in
theorem nextF_any (p : Nat) (a : Option Addr) (n c : Nat) (xs : List Int) (t s m : Int) (w : World) (h : SrcF w p a n c xs t s) (hK : t ≤ 900000) (hm : 2 ≤ m) (hm2 : m ≤ 256) :
    Calls Try.prog 67 #[.pointer (some ⟨p, 0, none⟩), .int .i64 m] w fun e w' => e = .returned (.int .i64 (nextV xs t s m)) ∧ 0 ≤ nextV xs t s m ∧ nextV xs t s m < m ∧ Only p w w' ∧ SrcF w' p a n c xs (t + 1) (byteV xs t s).2 := by
  have HV := hide (show nextV xs t s m = (byteV xs t s).1 % m from rfl)
  go_enter Try.func67, Try.ntmps67
  go_wp2_with fail
  refine (byteF_any p a n c xs t s w h (by omega)).mono ?_
  rintro e w1 ⟨rfl, hr0, hr1, ho, hs⟩
  have HO := hide ho
  have HS := hide hs
  clear ho hs
  generalize (byteV xs t s).1 = r at *
  go_wp2_with fail
  go_ret
  rw [unhide HV]
  exact ⟨rfl, Int.emod_nonneg _ (by omega), Int.emod_lt_of_pos _ (by omega), unhide HO, unhide HS⟩
set_option maxHeartbeats 1000000 in
theorem chanceF_any (p : Nat) (a : Option Addr) (n c : Nat) (xs : List Int) (t s m : Int) (w : World) (h : SrcF w p a n c xs t s) (hK : t ≤ 800000) (hm : 2 ≤ m) (hm2 : m ≤ 256) :
    Calls Try.prog 89 #[.pointer (some ⟨p, 0, none⟩), .int .i64 m] w fun e w' => e = .returned (.bool (nextV xs t s m == m - 1)) ∧ Only p w w' ∧ SrcF w' p a n c xs (t + 1) (byteV xs t s).2 := by
  go_enter Try.func89, Try.ntmps89
  go_wp2_with fail
  refine (nextF_any p a n c xs t s m w h (by omega) hm hm2).mono ?_
  rintro e w1 ⟨rfl, hr0, hr1, ho, hs⟩
  have HO := hide ho
  have HS := hide hs
  clear ho hs
  go_wp2_with fail
  go_ret
  exact ⟨rfl, unhide HO, unhide HS⟩
end Go.Proofs.Ytgifcaeemfaihaa
