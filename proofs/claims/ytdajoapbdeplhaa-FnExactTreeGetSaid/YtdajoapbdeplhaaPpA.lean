/-
  Lists of Page: plain data, and the walks of sz.., to.., eq.. .
-/
import Derived.Test.YtdajoapbdeplhaaGdA
import Derived.Test.YtdajoapbdeplhaaPpC
import Derived.Test.YtdajoapbdeplhaaSlT
import Derived.Deep.RegionWith
import Derived.Deep.Cut
namespace Go.Proofs.Ytdajoapbdeplhaa
open Go.RowKit
/-- A record and where its rows lie. -/
structure PpH where
  X : PageD
  s0 : Sl
  s1 : Sl
def ppV (h : PpH) : Value := .agg #[.string h.X.lo, .string h.X.hi, .int .i64 h.X.r, .slice h.s0.a h.s0.n h.s0.c, .slice h.s1.a h.s1.n h.s1.c]
def ppEl (h : PpH) : El := ⟨[.string h.X.lo, .string h.X.hi, .int .i64 h.X.r, .slice h.s0.a h.s0.n h.s0.c, .slice h.s1.a h.s1.n h.s1.c], [⟨79, 2, h.X.es.length, .slice h.s0.a h.s0.n h.s0.c, ecs h.X.es⟩, ⟨93, 4, h.X.ds.length, .slice h.s1.a h.s1.n h.s1.c, dcs h.X.ds⟩]⟩
abbrev PpOwn (w : World) (B : Nat) (v : Value) (hs : List PpH) : Prop := NOwn w B 53 5 v hs.length (hs.map ppEl)
abbrev PpIn (w : World) (v : Value) (n : Nat) (hs : List PpH) : Prop := NIn w 5 v n (hs.map ppEl)
theorem ppEl_at {hs : List PpH} {k : Nat} (hk : k < hs.length) : (hs.map ppEl)[k]? = some (ppEl hs[k]) := by rw [List.getElem?_map, List.getElem?_eq_getElem hk]; rfl
theorem ppEl_wid (hs : List PpH) : ∀ e ∈ hs.map ppEl, e.hd.length = 5 := by intro e he; obtain ⟨h, _, rfl⟩ := List.mem_map.1 he; rfl
theorem PpIn.sub {w : World} {v : Value} {n : Nat} {hs : List PpH} (h : PpIn w v n hs) {k : Nat} (hk : k < hs.length) : RowC w (.slice hs[k].s0.a hs[k].s0.n hs[k].s0.c) hs[k].X.es.length (ecs hs[k].X.es) ∧ RowC w (.slice hs[k].s1.a hs[k].s1.n hs[k].s1.c) hs[k].X.ds.length (dcs hs[k].X.ds) := by
  have d := h.dat (ppEl hs[k]) (List.mem_map_of_mem (List.getElem_mem hk))
  exact ⟨d _ (List.Mem.head _), d _ (List.Mem.tail _ (List.Mem.head _))⟩
theorem PpIn.cells {w : World} {a : Option Addr} {n c : Nat} {hs : List PpH} (h : PpIn w (.slice a n c) n hs) {k : Nat} (hk : k < hs.length) : ∃ b off, a = some ⟨b, off, none⟩ ∧ b < w.heap.size ∧ w.cell? ⟨b, off + k * 5, none⟩ = some (.string hs[k].X.lo) ∧ w.cell? ⟨b, off + k * 5 + 1, none⟩ = some (.string hs[k].X.hi) ∧ w.cell? ⟨b, off + k * 5 + 2, none⟩ = some (.int .i64 hs[k].X.r) ∧ w.cell? ⟨b, off + k * 5 + 3, none⟩ = some (.slice hs[k].s0.a hs[k].s0.n hs[k].s0.c) ∧ w.cell? ⟨b, off + k * 5 + 4, none⟩ = some (.slice hs[k].s1.a hs[k].s1.n hs[k].s1.c) := by
  obtain ⟨b, off, e, hb, q⟩ := h.cell (ppEl_at hk) (by decide)
  exact ⟨b, off, e, hb, q 0 _ rfl, by rw [Nat.add_assoc]; exact q 1 _ rfl, by rw [Nat.add_assoc]; exact q 2 _ rfl, by rw [Nat.add_assoc]; exact q 3 _ rfl, by rw [Nat.add_assoc]; exact q 4 _ rfl⟩
theorem Try.infoPp : (Try.prog.info? 53).map (fun i => (i.zero, i.size, i.bytes)) = some (some (.agg #[.string ByteArray.empty, .string ByteArray.empty, .int .i64 0, .slice none 0 0, .slice none 0 0]), 5, 88) := by kernel_rfl
/-- A page that came in. -/
abbrev PpIs (w : World) (h : PpH) : Prop := IsPage w h.X.lo h.X.hi h.s0.a h.s0.n h.X.es h.s1.a h.s1.n h.X.ds
theorem szPage_nest (h : PpH) (left : Int) (w : World) (h0 : 0 ≤ left) (h1 : left ≤ 1048576) (hP : PpIs w h) :
    Calls Try.prog 47 #[ppV h, .int .i64 left] w fun e w' => ∃ q : Int, e = .returned (.int .i64 q) ∧ (q = -1 ∨ (0 ≤ q ∧ q ≤ left ∧ (h.s0.n : Int) ≤ left ∧ (h.s1.n : Int) ≤ left)) ∧ Below w.heap.size w w' :=
  szPage_any h.X.lo h.X.hi h.X.r h.s0.a h.s0.n h.s0.c h.X.es h.s1.a h.s1.n h.s1.c h.X.ds left w h0 h1 hP
set_option maxHeartbeats 1000000 in
theorem szPageS_any (a : Option Addr) (n c : Nat) (hs : List PpH) (left : Int) (w : World) (h0 : 0 ≤ left) (h1 : left ≤ 1048576) (hr : PpIn w (.slice a n c) n hs) (hn : n ≤ maxLen) (hl : ∀ h ∈ hs, PpIs w h) :
    Calls Try.prog 19 #[.slice a n c, .int .i64 left] w fun e w' => ∃ q : Int, e = .returned (.int .i64 q) ∧ (q = -1 ∨ (0 ≤ q ∧ q ≤ left ∧ (n : Int) ≤ left ∧ ∀ h ∈ hs, h.s0.n ≤ 1048576 ∧ h.s1.n ≤ 1048576)) ∧ Below w.heap.size w w' := by
  unfold maxLen at hn
  have L := hide (show hs.length = n by have := hr.len; simpa using this)
  have R := hide hr
  have T := hide hl
  clear hr hl
  by_cases hb : left - n < 0
  · go_enter Try.func19, Try.ntmps19
    go_wp2_with fail
    go_ret
    exact ⟨-1, rfl, .inl rfl, Below.refl _ _⟩
  have hb' : 0 ≤ left - n := by omega
  go_enter Try.func19, Try.ntmps19
  go_wp2_with fail
  go_loopw [1, 5] (fun l i wr => ∃ k : Nat, k ≤ n ∧ i = .int .i64 k ∧ ∃ q : Int, l = .int .i64 q ∧ 0 ≤ q ∧ q ≤ left - n ∧ Below w.heap.size w wr ∧ Hid (∀ h ∈ hs.take k, h.s0.n ≤ 1048576 ∧ h.s1.n ≤ 1048576)) (fun _ i _ => n - (intOf i).toNat)
  case atStart => exact ⟨0, by omega, rfl, _, rfl, by omega, by omega, Below.refl _ _, fun h hh => by simp at hh⟩
  case round =>
    obtain ⟨k, hk, rfl, q, rfl, hq0, hq1, hbel, hA⟩ := hrel
    by_cases hlt : k < n
    · have hk2 : k < hs.length := by rw [unhide L]; exact hlt
      obtain ⟨b, off, rfl, hbl, d0, d1, d2, d3, d4⟩ := PpIn.cells ((unhide R).below hbel) hk2
      have hsz := hbel.size
      have C := hide (szPage_nest hs[k] q wr hq0 (by omega) ((unhide T _ (List.getElem_mem hk2)).below hbel))
      have ST := hide (show hs[k].s0.n ≤ 1048576 ∧ hs[k].s1.n ≤ 1048576 → ∀ h ∈ hs.take (k + 1), h.s0.n ≤ 1048576 ∧ h.s1.n ≤ 1048576 from fun e h hh => by
        rw [rb_take_snoc hs k hk2] at hh
        rcases List.mem_append.1 hh with hh | hh
        · exact unhide hA h hh
        · rw [List.mem_singleton.1 hh]; exact e)
      unfold ppV at C
      generalize hs[k] = pd at *
      clear hA
      obtain ⟨X, ⟨a0, n0, c0⟩, ⟨a1, n1, c1⟩⟩ := pd
      simp only at d0 d1 d2 d3 d4 C ST
      generalize X.lo = x0 at *
      generalize X.hi = x1 at *
      generalize X.r = x2 at *
      go_wp2_with fail
      refine (unhide C).mono ?_
      rintro e w1 ⟨r, rfl, hr, hb1⟩
      have bA := hbel.trans (hb1.mono hsz)
      clear hbel hb1 d0 d1 d2 d3 d4 C
      rcases hr with rfl | ⟨r0, r1, r2, r3⟩
      · go_wp2_with fail
        go_ret
        exact ⟨-1, rfl, .inl rfl, bA⟩
      · have Z := hide (unhide ST ⟨by omega, by omega⟩)
        go_wp2_with fail
        go_roundw
        case rel => exact ⟨k + 1, by omega, by go_num, r, rfl, r0, by omega, bA, unhide Z⟩
        case measure => simp [intOf]; omega
    · obtain rfl : k = n := by omega
      have Z := hide (show ∀ h ∈ hs, h.s0.n ≤ 1048576 ∧ h.s1.n ≤ 1048576 from fun h hh => unhide hA h (by rw [List.take_of_length_le (by rw [unhide L]; exact Nat.le_refl _)]; exact hh))
      go_wp2_with fail
      go_ret
      exact ⟨q, rfl, .inr ⟨hq0, by omega, by omega, unhide Z⟩, hbel⟩
end Go.Proofs.Ytdajoapbdeplhaa
