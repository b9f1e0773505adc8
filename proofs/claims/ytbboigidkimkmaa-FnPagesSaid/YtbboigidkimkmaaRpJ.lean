/-
  The program's reader along bytes: one byte, two, a text, an entry, a change.
-/
import Derived.Test.YtbboigidkimkmaaRpI
import Derived.Test.YtbboigidkimkmaaBits
namespace Go.Proofs.Ytbboigidkimkmaa
open Go.RowKit

theorem i64_or_two (x y : Int) (hx : 0 ≤ x ∧ x ≤ 255) (hy : 0 ≤ y ∧ y ≤ 255) : bits .or .i64 (x * 256) y = x * 256 + y := by
  obtain ⟨a, rfl⟩ := Int.eq_ofNat_of_zero_le hx.1
  obtain ⟨b, rfl⟩ := Int.eq_ofNat_of_zero_le hy.1
  show IntKind.i64.wrap ((BitVec.ofInt 64 ((a : Int) * 256) ||| BitVec.ofInt 64 (b : Int)).toNat : Int) = _
  have e1 : (BitVec.ofInt 64 ((a : Int) * 256)).toNat = a * 256 := by rw [BitVec.toNat_ofInt]; omega
  have e2 : (BitVec.ofInt 64 (b : Int)).toNat = b := by rw [BitVec.toNat_ofInt]; omega
  rw [BitVec.toNat_or, e1, e2, nat_join 8 (a * 256) b (by omega) (by omega), IntKind.wrap_i64]
  omega
set_option maxHeartbeats 1000000 in
theorem twoAt_any (a : Option Addr) (n c at_ : Nat) (xs : List Int) (w : World) (h : Row w a n xs) (hb : By xs) (hat : at_ + 1 < n) (hn : n ≤ 1000000000) :
    Calls Try.prog 70 #[.slice a n c, .int .i64 at_] w fun e w' => e = .returned (.int .i64 (xs.getD at_ 0 * 256 + xs.getD (at_ + 1) 0)) ∧ Below w.heap.size w w' := by
  obtain ⟨b, off, rfl, c0⟩ := h.2 at_ (by omega)
  obtain ⟨b', off', e, c1⟩ := h.2 (at_ + 1) (by omega)
  cases e
  have x0 := hb.getD at_
  have x1 := hb.getD (at_ + 1)
  have hor := i64_or_two _ _ x0 x1
  generalize xs.getD at_ 0 = u at *
  generalize xs.getD (at_ + 1) 0 = v at *
  have h0 : (0 : Int) ≤ (at_ : Int) := by omega
  have h1 : (at_ : Int) < (n : Int) := by omega
  have h2 : (at_ : Int) + 1 < (n : Int) := by omega
  have w1 : IntKind.i64.wrap ((at_ : Int) + 1) = (at_ : Int) + 1 := by rw [IntKind.wrap_i64]; omega
  have w2 : IntKind.i64.wrap u = u := by rw [IntKind.wrap_i64]; omega
  have w3 : IntKind.i64.wrap v = v := by rw [IntKind.wrap_i64]; omega
  have w4 : IntKind.i64.wrap (u * 256) = u * 256 := by rw [IntKind.wrap_i64]; omega
  have w5 : ((at_ : Int) + 1).toNat = at_ + 1 := by omega
  clear h hb
  go_enter Try.func70, Try.ntmps70
  go_wp2_with fail
  go_quiet (fail)
  go_wp2_with fail
  go_ret
  exact ⟨rfl, bel_drewN (Below.refl _ _) _⟩
/-- What a reading leaves: its answer, the reader behind it, nothing else written. -/
def Rds (w : World) (rb D : Nat) (v : Value) (s : Rs) (e : Ending) (w' : World) : Prop := e = .returned v ∧ RdAt w' rb D s ∧ Wr (fun i => i = rb) w w'
set_option maxHeartbeats 1000000 in
theorem one_any (rb D : Nat) (s : Rs) (w : World) (h : RdAt w rb D s) (hb : By s.1) :
    Calls Try.prog 59 #[.pointer (some ⟨rb, 0, none⟩)] w fun e w' => Rds w rb D (.int .i64 (rOne s).1) (rOne s).2 e w' := by
  have LE := hide (rOne_le hb)
  have H := hide h
  clear h
  go_enter Try.func59, Try.ntmps59
  go_wp2_with fail
  refine (take_any rb D 1 s w (unhide H) (by omega)).mono ?_
  rintro e w1 ⟨a, c, rfl, hr, hR, hw⟩
  obtain ⟨b, off, rfl, c0⟩ := hr.2 0 (by omega)
  have e0 : (tk 1 s).1.getD 0 0 = (rOne s).1 := rfl
  rw [e0, Nat.add_zero] at c0
  have w2 : IntKind.i64.wrap (rOne s).1 = (rOne s).1 := by have := unhide LE; rw [IntKind.wrap_i64]; omega
  obtain ⟨x, hx⟩ : ∃ x, x = (rOne s).1 := ⟨_, rfl⟩
  have FIN := hide (show Rds w rb D (.int .i64 (rOne s).1) (rOne s).2 (.returned (.int .i64 x)) w1 from ⟨by rw [hx], hR, hw⟩)
  rw [← hx] at c0 w2
  clear hr hR hw e0 hx
  go_wp2_with fail
  go_ret
  exact unhide FIN
set_option maxHeartbeats 1000000 in
theorem two_any (rb D : Nat) (s : Rs) (w : World) (h : RdAt w rb D s) (hb : By s.1) :
    Calls Try.prog 58 #[.pointer (some ⟨rb, 0, none⟩)] w fun e w' => Rds w rb D (.int .i64 (rTwo s).1) (rTwo s).2 e w' := by
  have H := hide h
  have HB := hide (tk_by hb 2)
  clear h
  go_enter Try.func58, Try.ntmps58
  go_wp2_with fail
  refine (take_any rb D 2 s w (unhide H) (by omega)).mono ?_
  rintro e w1 ⟨a, c, rfl, hr, hR, hw⟩
  have HR := hide hr
  have HA := hide hR
  have HW := hide hw
  clear hr hR hw
  go_wp2_with fail
  refine (twoAt_any a 2 c 0 (tk 2 s).1 w1 (unhide HR) (unhide HB) (by omega) (by omega)).mono ?_
  rintro e w2 ⟨rfl, hb2⟩
  have FIN := hide (show Rds w rb D (.int .i64 (rTwo s).1) (rTwo s).2 (.returned (.int .i64 ((tk 2 s).1.getD 0 0 * 256 + (tk 2 s).1.getD (0 + 1) 0))) w2 from ⟨rfl, (unhide HA).below hb2, (unhide HW).trans (Wr.of_below hb2)⟩)
  clear hb2
  generalize (tk 2 s).1.getD 0 0 * 256 + (tk 2 s).1.getD (0 + 1) 0 = x at *
  go_wp2_with fail
  go_ret
  exact unhide FIN
theorem conv_text {w : World} {a : Option Addr} {n c : Nat} {xs : List Int} (h : Row w a n xs) : (convert 22 9 (.slice a n c)).run Try.prog w = .ok (.string (strOfNums xs)) w := by
  by_cases hn : 0 < n
  · obtain ⟨b, off, rfl, _⟩ := h.2 0 hn
    exact run_convert_bytes_arg _ 22 5 Try.underlying22 Try.underlying5 b off n c xs h.1 (fun i hi => by
      obtain ⟨b', off', e, hc⟩ := h.2 i hi
      cases e
      exact hc) 9 Try.underlying9
  · obtain rfl : n = 0 := by omega
    obtain rfl : xs = [] := List.eq_nil_of_length_eq_zero h.1
    cases a with
    | none => rw [run_convert_bytes_string (P := Try.prog) w 22 9 5 none 0 c Try.underlying22 Try.underlying5 Try.underlying9]; rfl
    | some x =>
      obtain ⟨b, off, spot⟩ := x
      rw [run_convert_bytes_string (P := Try.prog) w 22 9 5 (some ⟨b, off, spot⟩) 0 c Try.underlying22 Try.underlying5 Try.underlying9]; rfl
set_option maxHeartbeats 1000000 in
theorem textR_any (rb D : Nat) (s : Rs) (w : World) (h : RdAt w rb D s) (hb : By s.1) :
    Calls Try.prog 57 #[.pointer (some ⟨rb, 0, none⟩)] w fun e w' => Rds w rb D (.string (rText s).1) (rText s).2 e w' := by
  have H := hide h
  have LE := rOne_le hb
  obtain ⟨m, hm⟩ : ∃ m : Nat, (rOne s).1 = (m : Int) := Int.eq_ofNat_of_zero_le LE.1
  have ET := hide (show rText s = (strOfNums (tk m (rOne s).2).1, (tk m (rOne s).2).2) by
    have : (rOne s).1.toNat = m := by omega
    rw [← this]; rfl)
  have HM := hide hm
  have hm2 : m ≤ 255 := by omega
  clear h hm LE
  go_enter Try.func57, Try.ntmps57
  go_wp2_with fail
  refine (one_any rb D s w (unhide H) hb).mono ?_
  rintro e w1 ⟨rfl, hR, hw⟩
  have HA := hide hR
  have HW := hide hw
  clear hR hw
  rw [unhide HM]
  go_wp2_with fail
  refine (take_any rb D m (rOne s).2 w1 (unhide HA) (by omega)).mono ?_
  rintro e w2 ⟨a, c, rfl, hr, hR, hw⟩
  have hcv := conv_text (c := c) hr
  have FIN := hide (show Rds w rb D (.string (rText s).1) (rText s).2 (.returned (.string (strOfNums (tk m (rOne s).2).1))) w2 from ⟨by rw [unhide ET], by rw [unhide ET]; exact hR, (unhide HW).trans hw⟩)
  clear hr hR hw
  generalize strOfNums (tk m (rOne s).2).1 = x at *
  go_wp2_with fail
  go_ret
  exact unhide FIN
end Go.Proofs.Ytbboigidkimkmaa
