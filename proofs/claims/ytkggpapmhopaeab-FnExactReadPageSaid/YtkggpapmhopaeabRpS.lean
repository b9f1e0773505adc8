/-
  The specification's reader along bytes: one byte, two, a line.
-/
import Derived.Test.YtkggpapmhopaeabRpJ
namespace Go.Proofs.Ytkggpapmhopaeab
open Go.RowKit

/-- The specification's reader in memory: its bytes, the place, the flag. -/
structure SdAt (w : World) (rb D : Nat) (a : Option Addr) (n c : Nat) (xs : List Int) (s : Ss) : Prop where
  k : w.heap[rb]? = some (.cells #[.slice a n c, .int .i64 (s.1 : Int), .bool s.2] 46 (0, 0))
  row : Row w a n xs
  cap : n ≤ c
  far : ∀ x, a = some x → x.block ≠ rb ∧ x.block < D
  len : n ≤ 65536
  pos : s.1 ≤ n
  lt : rb < D
theorem SdAt.wr {P : Nat → Prop} {w w' : World} {rb D : Nat} {a : Option Addr} {n c : Nat} {xs : List Int} {s : Ss} (h : SdAt w rb D a n c xs s) (hw : Wr P w w') (hp : ∀ i, P i → D ≤ i) : SdAt w' rb D a n c xs s :=
  have hl := h.lt
  ⟨loc_wr h.k hw (fun e => by have := hp _ e; omega), h.row.wr hw (fun x hx e => by have := hp _ e; have := (h.far x hx).2; omega), h.cap, h.far, h.len, h.pos, h.lt⟩
theorem SdAt.below {w w' : World} {rb D : Nat} {a : Option Addr} {n c : Nat} {xs : List Int} {s : Ss} (h : SdAt w rb D a n c xs s) (hb : Below w.heap.size w w') : SdAt w' rb D a n c xs s :=
  h.wr (P := fun _ => False) (Wr.of_below hb) (fun _ h => h.elim)
theorem SdAt.cells {w : World} {rb D : Nat} {a : Option Addr} {n c : Nat} {xs : List Int} {s : Ss} (h : SdAt w rb D a n c xs s) : w.cell? ⟨rb, 0, none⟩ = some (.slice a n c) ∧ w.cell? ⟨rb, 1, none⟩ = some (.int .i64 (s.1 : Int)) ∧ w.cell? ⟨rb, 2, none⟩ = some (.bool s.2) ∧ w.frozen? ⟨rb, 1, none⟩ = false ∧ w.frozen? ⟨rb, 2, none⟩ = false :=
  ⟨(heap_at h.k 0).1, (heap_at h.k 1).1, (heap_at h.k 2).1, (heap_at h.k 1).2, (heap_at h.k 2).2⟩
/-- The flag set. -/
theorem SdAt.bad {w : World} {rb D : Nat} {a : Option Addr} {n c : Nat} {xs : List Int} {s : Ss} (h : SdAt w rb D a n c xs s) : SdAt (w.setCell ⟨rb, 2, none⟩ (.bool true)) rb D a n c xs (s.1, true) := by
  have hc := wr_cell w rb 2 (.bool true)
  exact ⟨by simpa using heap_set h.k 2 (.bool true), h.row.wr hc (fun x hx => (h.far x hx).1), h.cap, h.far, h.len, h.pos, h.lt⟩
/-- The place set. -/
theorem SdAt.go {w : World} {rb D : Nat} {a : Option Addr} {n c : Nat} {xs : List Int} {s : Ss} (h : SdAt w rb D a n c xs s) (p : Nat) (hp : p ≤ n) : SdAt (w.setCell ⟨rb, 1, none⟩ (.int .i64 (p : Int))) rb D a n c xs (p, s.2) := by
  have hc := wr_cell w rb 1 (.int .i64 (p : Int))
  exact ⟨by simpa using heap_set h.k 1 (.int .i64 (p : Int)), h.row.wr hc (fun x hx => (h.far x hx).1), h.cap, h.far, h.len, hp, h.lt⟩
theorem SdAt.same {w w' : World} {rb D : Nat} {a : Option Addr} {n c : Nat} {xs : List Int} {s : Ss} (h : SdAt w rb D a n c xs s) (e : w'.heap = w.heap) : SdAt w' rb D a n c xs s :=
  ⟨by rw [e]; exact h.k, h.row.of_cells fun x _ p _ => World.cell?_of_block (w := w) (by rw [e]), h.cap, h.far, h.len, h.pos, h.lt⟩
theorem Wr.same {P : Nat → Prop} {w w1 w' : World} (h : Wr P w w1) (e : w'.heap = w1.heap) (e1 : w'.os = w1.os) (e2 : w'.tape = w1.tape) (e3 : w'.output = w1.output) : Wr P w w' :=
  ⟨e1.trans h.os, e2.trans h.tape, e3.trans h.output, by rw [e]; exact h.size, fun k hk hp => by rw [e]; exact h.block k hk hp⟩
/-- What a reading leaves. -/
def Sds (w : World) (rb D : Nat) (a : Option Addr) (n c : Nat) (xs : List Int) (v : Value) (s : Ss) (e : Ending) (w' : World) : Prop := e = .returned v ∧ SdAt w' rb D a n c xs s ∧ Wr (fun i => i = rb) w w'
theorem Wr.refl (P : Nat → Prop) (w : World) : Wr P w w := Wr.of_below (Below.refl _ _)
set_option maxRecDepth 100000 in
set_option maxHeartbeats 2000000 in
theorem sone_any (rb D : Nat) (a : Option Addr) (n c : Nat) (xs : List Int) (s : Ss) (w : World) (h : SdAt w rb D a n c xs s) (hb : By xs) :
    Calls Try.prog 20 #[.pointer (some ⟨rb, 0, none⟩)] w fun e w' => Sds w rb D a n c xs (.int .i64 (sOne xs s).1) (sOne xs s).2 e w' := by
  obtain ⟨c0, c1, c2, f1, f2⟩ := h.cells
  have hL := h.row.1
  obtain ⟨p, b⟩ := s
  simp only at c1 c2
  cases b with
  | true =>
    have E := hide (show sOne xs (p, true) = (0, (p, true)) by unfold sOne; rw [if_pos (.inl rfl)])
    have FIN := hide (show ∀ w', w'.heap = (w.setCell ⟨rb, 2, none⟩ (.bool true)).heap → w'.os = w.os → w'.tape = w.tape → w'.output = w.output → Sds w rb D a n c xs (.int .i64 (sOne xs (p, true)).1) (sOne xs (p, true)).2 (.returned (.int .i64 0)) w' from fun w' g1 g2 g3 g4 => ⟨by rw [unhide E], by rw [unhide E]; exact h.bad.same g1, (wr_cell w rb 2 _).same g1 g2 g3 g4⟩)
    clear h hL
    go_enter Try.func20, Try.ntmps20
    go_wp2_with fail
    go_quiet (fail)
    go_wp2_with fail
    go_ret
    exact unhide FIN _ rfl rfl rfl rfl
  | false =>
    by_cases hl : n ≤ p
    · have E := hide (show sOne xs (p, false) = (0, (p, true)) by unfold sOne; rw [if_pos (.inr (by omega))])
      have FIN := hide (show ∀ w', w'.heap = (w.setCell ⟨rb, 2, none⟩ (.bool true)).heap → w'.os = w.os → w'.tape = w.tape → w'.output = w.output → Sds w rb D a n c xs (.int .i64 (sOne xs (p, false)).1) (sOne xs (p, false)).2 (.returned (.int .i64 0)) w' from fun w' g1 g2 g3 g4 => ⟨by rw [unhide E], by rw [unhide E]; exact h.bad.same g1, (wr_cell w rb 2 _).same g1 g2 g3 g4⟩)
      have hli : (n : Int) ≤ (p : Int) := by omega
      clear h hL
      go_enter Try.func20, Try.ntmps20
      go_wp2_with fail
      go_quiet (fail)
      go_wp2_with fail
      go_ret
      exact unhide FIN _ rfl rfl rfl rfl
    · have E := hide (show sOne xs (p, false) = (xs.getD p 0, (p + 1, false)) by unfold sOne; rw [if_neg (by simp; omega)])
      have G := h.go (p + 1) (by omega)
      have hx := hb.getD p
      obtain ⟨x, hxx⟩ : ∃ x, x = xs.getD p 0 := ⟨_, rfl⟩
      have FIN := hide (show ∀ w', w'.heap = (w.setCell ⟨rb, 1, none⟩ (.int .i64 ((p + 1 : Nat) : Int))).heap → w'.os = w.os → w'.tape = w.tape → w'.output = w.output → Sds w rb D a n c xs (.int .i64 (sOne xs (p, false)).1) (sOne xs (p, false)).2 (.returned (.int .i64 x)) w' from fun w' g1 g2 g3 g4 => ⟨by rw [unhide E, hxx], by rw [unhide E]; exact G.same g1, (wr_cell w rb 1 _).same g1 g2 g3 g4⟩)
      have hr := h.row
      obtain ⟨bb, off, rfl, ce⟩ := hr.2 p (by omega)
      have hn1 : ¬ (bb = rb) := (h.far _ rfl).1
      have hn2 : ¬ (rb = bb) := fun e => hn1 e.symm
      rw [← hxx] at ce hx
      have hli : ¬ ((n : Int) ≤ (p : Int)) := by omega
      have w1 : IntKind.i64.wrap ((p : Int) + 1) = (p : Int) + 1 := by rw [IntKind.wrap_i64]; have := h.len; have := h.pos; omega
      have w2 : IntKind.i64.wrap (p : Int) = (p : Int) := by rw [IntKind.wrap_i64]; have := h.len; have := h.pos; omega
      have w3 : IntKind.i64.wrap x = x := by rw [IntKind.wrap_i64]; omega
      have e1 : ((p + 1 : Nat) : Int) = (p : Int) + 1 := by omega
      have e2 : (p : Int) + 1 - 1 = (p : Int) := by omega
      have hpn : (p : Int) < (n : Int) := by omega
      rw [e1] at FIN
      clear h hL G hr hxx e1
      go_enter Try.func20, Try.ntmps20
      go_wp2_with fail
      go_quiet (fail)
      go_wp2_with fail
      go_quiet (fail)
      go_wp2_with fail
      go_ret
      exact unhide FIN _ rfl rfl rfl rfl
end Go.Proofs.Ytkggpapmhopaeab
