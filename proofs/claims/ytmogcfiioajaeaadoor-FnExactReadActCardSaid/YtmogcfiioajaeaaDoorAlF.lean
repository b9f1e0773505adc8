/-
  The table of commands, and the act that words tell.
-/
import Derived.Test.YtmogcfiioajaeaaDoorAlE
import Derived.Maps.OwnOps
import Derived.Maps.OwnSet
import Derived.MapKept
namespace Go.Proofs.YtmogcfiioajaeaaDoor
open Go.RowKit Go.Maps

theorem fm_inj {a b : ByteArray} (h : a.data.toList = b.data.toList) : a = b := by
  cases a
  cases b
  simp at h
  simp [h]
/-- A function in a map reads as itself. -/
def fmElem (v : Value) : Option (DataW Value × List MemPlace) := some (.held v, [])
/-- Block m is a map of at most N entries that has the functions f. -/
def FMap (w : World) (m N : Nat) (f : ByteArray → Option Value) : Prop :=
  ∃ D : DataW Value, w.ownsMap Tryd.prog 9 fmElem m N D ∧ (∀ k : ByteArray, k.size ≤ maxLen → D.atKey (.string k.data.toList) (.held Value.nilFunc) = .held ((f k).getD Value.nilFunc)) ∧ ∀ k : ByteArray, k.size ≤ maxLen → has D (.string k.data.toList) = (f k).isSome
theorem FMap.lt {w : World} {m N : Nat} {f : ByteArray → Option Value} (h : FMap w m N f) : m < w.heap.size := by obtain ⟨D, h, _⟩ := h; exact h.lt
theorem FMap.block {w w' : World} {m N : Nat} {f : ByteArray → Option Value} (h : FMap w m N f) (hb : w'.heap[m]? = w.heap[m]?) : FMap w' m N f := by
  obtain ⟨D, ⟨es, clock, h1, h2⟩, h3⟩ := h
  exact ⟨D, ⟨es, clock, hb.trans h1, h2⟩, h3⟩
theorem fmap_made (w : World) : FMap (w.alloc (.map #[] 0)) w.heap.size 0 (fun _ => none) :=
  ⟨.map [], World.ownsMap_made w _ _ _, fun _ _ => rfl, fun k _ => by simp [has_eq]⟩
theorem fm_zero (w : World) : (zeroValue 51).run Tryd.prog w = .ok Value.nilFunc w := by kernel_rfl
theorem FMap.lookup {w : World} {m N : Nat} {f : ByteArray → Option Value} (h : FMap w m N f) {k : ByteArray} (hk : k.size ≤ maxLen) : (Instr.lookup 53 (.map (some m)) (.string k) true).run Tryd.prog w = .ok (.tuple #[(f k).getD Value.nilFunc, .bool (f k).isSome]) w := by
  obtain ⟨D, h1, h2, h3⟩ := h
  obtain ⟨v, ps, hrun, hv⟩ := h1.look_ok (string_keyed Tryd.underlying9) Tryd.underlying53 (fm_zero w) (zd := .held Value.nilFunc) (zp := []) rfl (WideMaps.keyOf_string_mk (P := Tryd.prog) Tryd.underlying9 hk)
  rw [h2 k hk] at hv
  simp [fmElem] at hv
  rw [hrun, hv.1, h3 k hk]
theorem FMap.update {w : World} {m N : Nat} {f : ByteArray → Option Value} (h : FMap w m N f) {k : ByteArray} (hk : k.size ≤ maxLen) (hN : N < maxLen) (v : Value) :
    ∃ w', (Instr.mapUpdate 53 (.map (some m)) (.string k) v).run Tryd.prog w = .ok () w' ∧ FMap w' m (N + 1) (fun x => if x = k then some v else f x) ∧ w.grownBy w' (some m) := by
  obtain ⟨D, h1, h2, h3⟩ := h
  obtain ⟨w', hrun, ho, hg⟩ := h1.update (string_keyed Tryd.underlying9) Tryd.underlying53 hN (WideMaps.keyOf_string_mk (P := Tryd.prog) Tryd.underlying9 hk) (val := v) (d := .held v) (ps := []) rfl
  refine ⟨w', hrun, ⟨_, ho, fun j hj => ?_, fun j hj => ?_⟩, hg⟩
  · show _ = DataW.held ((if j = k then some v else f j).getD Value.nilFunc)
    by_cases e : j = k
    · subst e
      rw [if_pos rfl, atKey_put_same h1.isMap (show WideAt.IsKeyLit (.string j.data.toList) from trivial)]
      rfl
    · rw [if_neg e, atKey_put_other (by intro h; injection h with h; exact e (fm_inj h)), h2 j hj]
  · show _ = (if j = k then some v else f j).isSome
    by_cases e : j = k
    · subst e
      rw [if_pos rfl, has_put_same h1.isMap (show WideAt.IsKeyLit (.string j.data.toList) from trivial)]
      rfl
    · rw [if_neg e, has_put_other (by intro h; injection h with h; exact e (fm_inj h)), h3 j hj]
theorem al_wpIns {P : Program} {w : World} {ops : Array Oper} {rest : List Oper} {o : Oper} {a : Act} {Q : Exit → Act → World → Prop}
    (hg : o.guard = none) (m k v : Operand) (t : TypeId) (hop : o.op = Op.insert t m k v) (vm vk vv : Value) (w' : World) (hm : a.eval m = vm) (hk : a.eval k = vk) (hv : a.eval v = vv)
    (hrun : (Instr.mapUpdate t vm vk vv).run P w = .ok () w') (hK : wpList P ops Q rest (a.put o.dst undef) w') : wpList P ops Q (o :: rest) a w := by
  refine wpList_plain hg fun K' hK' => ?_
  unfold Oper.wp
  simp [execOp, hop, hm, hk, hv, hrun, Result.andThen]
  exact hK' _ _ hK
def fnV (n : Nat) : Value := .func (.func n) #[] #[]
/-- The functions that the words name. -/
def cmdF (x : ByteArray) : Option Value := (if x = ⟨#[99, 114, 97, 115, 104]⟩ then some (fnV 40) else (if x = ⟨#[99, 108, 101, 97, 110]⟩ then some (fnV 39) else (if x = ⟨#[115, 121, 110, 99]⟩ then some (fnV 38) else (if x = ⟨#[115, 99, 97, 110]⟩ then some (fnV 37) else (if x = ⟨#[100, 114, 111, 112]⟩ then some (fnV 36) else (if x = ⟨#[112, 117, 116]⟩ then some (fnV 35) else (if x = ⟨#[103, 101, 116]⟩ then some (fnV 34) else (if x = ⟨#[97, 98, 111, 114, 116]⟩ then some (fnV 33) else (if x = ⟨#[99, 111, 109, 109, 105, 116]⟩ then some (fnV 32) else (if x = ⟨#[98, 101, 103, 105, 110]⟩ then some (fnV 31) else none))))))))))
set_option maxRecDepth 100000 in
set_option maxHeartbeats 4000000 in
theorem commands_any (w : World) :
    Calls Tryd.prog 27 #[] w fun e w' => ∃ m, e = .returned (.map (some m)) ∧ FMap w' m 10 cmdF ∧ Below w.heap.size w w' ∧ w.heap.size ≤ m := by
  obtain ⟨w0, hw0⟩ : ∃ w0, w0 = w.alloc (.map #[] 0) := ⟨_, rfl⟩
  have F0 := fmap_made w
  rw [← hw0] at F0
  have b0 : Below w.heap.size w w0 := by rw [hw0]; exact (Below.refl _ _).alloc (Nat.le_refl _) _
  obtain ⟨w1, r1, F1, g1⟩ := F0.update (k := ⟨#[98, 101, 103, 105, 110]⟩) (by decide) (by decide) (.func (.func 31) #[] #[])
  have b1 := b0.grown g1 b0.size (fun q e => by injection e with e; rw [← e]; exact Nat.le_refl _)
  obtain ⟨w2, r2, F2, g2⟩ := F1.update (k := ⟨#[99, 111, 109, 109, 105, 116]⟩) (by decide) (by decide) (.func (.func 32) #[] #[])
  have b2 := b1.grown g2 b1.size (fun q e => by injection e with e; rw [← e]; exact Nat.le_refl _)
  obtain ⟨w3, r3, F3, g3⟩ := F2.update (k := ⟨#[97, 98, 111, 114, 116]⟩) (by decide) (by decide) (.func (.func 33) #[] #[])
  have b3 := b2.grown g3 b2.size (fun q e => by injection e with e; rw [← e]; exact Nat.le_refl _)
  obtain ⟨w4, r4, F4, g4⟩ := F3.update (k := ⟨#[103, 101, 116]⟩) (by decide) (by decide) (.func (.func 34) #[] #[])
  have b4 := b3.grown g4 b3.size (fun q e => by injection e with e; rw [← e]; exact Nat.le_refl _)
  obtain ⟨w5, r5, F5, g5⟩ := F4.update (k := ⟨#[112, 117, 116]⟩) (by decide) (by decide) (.func (.func 35) #[] #[])
  have b5 := b4.grown g5 b4.size (fun q e => by injection e with e; rw [← e]; exact Nat.le_refl _)
  obtain ⟨w6, r6, F6, g6⟩ := F5.update (k := ⟨#[100, 114, 111, 112]⟩) (by decide) (by decide) (.func (.func 36) #[] #[])
  have b6 := b5.grown g6 b5.size (fun q e => by injection e with e; rw [← e]; exact Nat.le_refl _)
  obtain ⟨w7, r7, F7, g7⟩ := F6.update (k := ⟨#[115, 99, 97, 110]⟩) (by decide) (by decide) (.func (.func 37) #[] #[])
  have b7 := b6.grown g7 b6.size (fun q e => by injection e with e; rw [← e]; exact Nat.le_refl _)
  obtain ⟨w8, r8, F8, g8⟩ := F7.update (k := ⟨#[115, 121, 110, 99]⟩) (by decide) (by decide) (.func (.func 38) #[] #[])
  have b8 := b7.grown g8 b7.size (fun q e => by injection e with e; rw [← e]; exact Nat.le_refl _)
  obtain ⟨w9, r9, F9, g9⟩ := F8.update (k := ⟨#[99, 108, 101, 97, 110]⟩) (by decide) (by decide) (.func (.func 39) #[] #[])
  have b9 := b8.grown g9 b8.size (fun q e => by injection e with e; rw [← e]; exact Nat.le_refl _)
  obtain ⟨w10, r10, F10, g10⟩ := F9.update (k := ⟨#[99, 114, 97, 115, 104]⟩) (by decide) (by decide) (.func (.func 40) #[] #[])
  have b10 := b9.grown g10 b9.size (fun q e => by injection e with e; rw [← e]; exact Nat.le_refl _)
  have RES := hide (And.intro (show FMap w10 w.heap.size 10 cmdF from F10) b10)
  clear F0 F1 F2 F3 F4 F5 F6 F7 F8 F9 F10 b0 b1 b2 b3 b4 b5 b6 b7 b8 b9 b10 g1 g2 g3 g4 g5 g6 g7 g8 g9 g10
  go_enter Tryd.func27, Tryd.ntmps27
  have hmm := @run_makeMap Tryd.prog
  subst hw0
  go_wp2_with fail
  go_ret
  exact ⟨w.heap.size, rfl, (unhide RES).1, (unhide RES).2, Nat.le_refl _⟩
end Go.Proofs.YtmogcfiioajaeaaDoor
