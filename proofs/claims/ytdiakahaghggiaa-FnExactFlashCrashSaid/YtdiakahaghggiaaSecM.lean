/-
  A map from numbers to sectors that the call itself made: look-ups, stores, copies.
-/
import Derived.Test.YtdiakahaghggiaaOwn
import Derived.Test.YtdiakahaghggiaaSec
import Derived.Maps.OwnOps
import Derived.Maps.OwnSet
import Derived.MapKept
import Derived.Laws.Externs
namespace Go.Proofs.Ytdiakahaghggiaa
open Go.RowKit Go.Maps

/-- A sector in a map reads as itself. -/
def selfElem (v : Value) : Option (DataW Value × List MemPlace) := some (.held v, [])
/-- A sector as a value. -/
def secV (s : List Int) : Value := .agg (s.map (Value.int .u8)).toArray
/-- Block m is a map of at most N entries that has the sectors f. -/
def SecMap (w : World) (m N : Nat) (f : Nat → List Int) : Prop :=
  ∃ D : DataW Value, w.ownsMap Try.prog 3 selfElem m N D ∧ ∀ i : Nat, i < 128 → D.atKey (.int .i64 i) (.held (secV nou)) = .held (secV (f i))
theorem SecMap.lt {w : World} {m N : Nat} {f : Nat → List Int} (h : SecMap w m N f) : m < w.heap.size := by obtain ⟨D, h, _⟩ := h; exact h.lt
theorem SecMap.mono {w : World} {m N N' : Nat} {f : Nat → List Int} (h : SecMap w m N f) (hn : N ≤ N') : SecMap w m N' f := by obtain ⟨D, h, h2⟩ := h; exact ⟨D, h.mono hn, h2⟩
theorem SecMap.block {w w' : World} {m N : Nat} {f : Nat → List Int} (h : SecMap w m N f) (hb : w'.heap[m]? = w.heap[m]?) : SecMap w' m N f := by
  obtain ⟨D, ⟨es, clock, h1, h2⟩, h3⟩ := h
  exact ⟨D, ⟨es, clock, hb.trans h1, h2⟩, h3⟩
theorem SecMap.below {w w' : World} {m N B : Nat} {f : Nat → List Int} (h : SecMap w m N f) (hb : Below B w w') (hm : m < B) : SecMap w' m N f := h.block (hb.block m hm)
theorem secMap_made (w : World) : SecMap (w.alloc (.map #[] 0)) w.heap.size 0 (fun _ => nou) :=
  ⟨.map [], World.ownsMap_made w _ _ _, fun _ _ => rfl⟩
theorem sec_zero (w : World) : (zeroValue 90).run Try.prog w = .ok (secV nou) w := by kernel_rfl
theorem key_wf {i : Nat} (h : i < 128) : (Lit.int .i64 (i : Int)).wf = true := by
  simp [Lit.wf, IntKind.min, IntKind.max, IntKind.signed, IntKind.bits]; omega
theorem SecMap.lookup {w : World} {m N : Nat} {f : Nat → List Int} (h : SecMap w m N f) {i : Nat} (hi : i < 128) : (Instr.lookup 67 (.map (some m)) (.int .i64 (i : Int)) false).run Try.prog w = .ok (secV (f i)) w := by
  obtain ⟨D, h1, h2⟩ := h
  obtain ⟨v, ps, hrun, hv⟩ := h1.lookup (int_keyed Try.underlying3) Try.underlying67 (sec_zero w) (zd := .held (secV nou)) (zp := []) rfl (keyOf_int_mk Try.underlying3 (key_wf hi))
  rw [h2 i hi] at hv
  simp [selfElem] at hv
  rw [hrun, hv.1]
theorem SecMap.update {w : World} {m N : Nat} {f : Nat → List Int} (h : SecMap w m N f) {i : Nat} (hi : i < 128) (hN : N < maxLen) (s : List Int) :
    ∃ w', (Instr.mapUpdate 67 (.map (some m)) (.int .i64 (i : Int)) (secV s)).run Try.prog w = .ok () w' ∧ SecMap w' m (N + 1) (updS f i s) ∧ w.grownBy w' (some m) := by
  obtain ⟨D, h1, h2⟩ := h
  obtain ⟨w', hrun, ho, hg⟩ := h1.update (int_keyed Try.underlying3) Try.underlying67 hN (keyOf_int_mk Try.underlying3 (key_wf hi)) (val := secV s) (d := .held (secV s)) (ps := []) rfl
  refine ⟨w', hrun, ⟨_, ho, fun j hj => ?_⟩, hg⟩
  unfold updS
  by_cases e : j = i
  · subst e
    rw [if_pos rfl, atKey_put_same h1.isMap (show WideAt.IsKeyLit (.int .i64 (j : Int)) from trivial)]
  · rw [if_neg e, atKey_put_other (by intro h; injection h; omega), h2 j hj]
theorem wpList_lookup_sec (w : World) {ops : Array Oper} {rest : List Oper} {o : Oper} {a : Act} {Q : Exit → Act → World → Prop}
    (hg : o.guard = none) (m x : Operand) (hop : o.op = Op.lookup 67 m x false) (b N : Nat) (f : Nat → List Int) (i : Nat) (hm : a.eval m = .map (some b)) (hx : a.eval x = .int .i64 (i : Int)) (h : SecMap w b N f) (hi : i < 128)
    (hK : wpList Try.prog ops Q rest (a.put o.dst (secV (f i))) w) : wpList Try.prog ops Q (o :: rest) a w := by
  refine wpList_plain hg fun K' hK' => ?_
  have hrun := h.lookup hi
  unfold Oper.wp
  simp [execOp, hop, hm, hx, hrun, Result.andThen]
  exact hK' _ _ hK
theorem wpList_update_sec (w : World) {ops : Array Oper} {rest : List Oper} {o : Oper} {a : Act} {Q : Exit → Act → World → Prop}
    (hg : o.guard = none) (m x v : Operand) (hop : o.op = Op.mapUpdate 67 m x v) (b N : Nat) (f : Nat → List Int) (i : Nat) (s : List Int) (hm : a.eval m = .map (some b)) (hx : a.eval x = .int .i64 (i : Int)) (hv : a.eval v = secV s) (h : SecMap w b N f) (hi : i < 128) (hN : N < maxLen)
    (hK : ∀ w', SecMap w' b (N + 1) (updS f i s) → w.grownBy w' (some b) → wpList Try.prog ops Q rest (a.put o.dst undef) w') : wpList Try.prog ops Q (o :: rest) a w := by
  refine wpList_plain hg fun K' hK' => ?_
  obtain ⟨w', hrun, r1, r2⟩ := h.update hi hN s
  unfold Oper.wp
  simp [execOp, hop, hm, hx, hv, hrun, Result.andThen]
  exact hK' _ _ (hK w' r1 r2)
theorem run_eql_map_nil (w : World) (t k e : TypeId) (p : Option Nat) (h : Try.prog.underlying t = some (.map k e)) :
    (binOp .eql t (.map p) (.map none)).run Try.prog w = .ok (.bool p.isNone) w := by
  have e0 : ∀ d, (Op.equalIn (d + 1) t (.map p) (.map none)).run Try.prog w = .ok p.isNone w := fun d => by cases p <;> simp [Op.equalIn, run_underlying h]
  simp only [binOp]
  simp [show Op.equal t (.map p) (.map none) = Op.equalIn (9999 + 1) t (.map p) (.map none) from rfl, e0 9999]
theorem run_clone {w : World} {r : Nat} {es : Array MapEntry} {clock : Nat} (t : TypeId) (hb : w.heap[r]? = some (.map es clock)) :
    (Extern.MapsClone.clone #[.iface t (.map (some r))]).run Try.prog w = .ok (.iface t (.map (some w.heap.size))) (w.alloc (.map es clock)) := by
  have e : Extern.MapsClone.clone #[.iface t (.map (some r))] = (getObj r >>= fun o => match o with
      | .map entries clock => (newObj (.map entries clock) >>= fun n => pure (.iface t (.map (some n))))
      | _ => stuck "maps.clone: a map expected") := rfl
  rw [e]
  simp [MapKept.run_getObj_map hb, Result.andThen, go_sem]
theorem run_assert_map (w : World) (t xT k e : TypeId) (v : Value) (h : Try.prog.underlying t = some (.map k e)) : (Instr.typeAssert (.iface t v) xT t false).run Try.prog w = .ok v w := by
  simp [Instr.typeAssert, run_underlying h, go_sem, Result.andThen]
set_option maxRecDepth 100000 in
set_option maxHeartbeats 2000000 in
theorem mapsClone_any (m N : Nat) (f : Nat → List Int) (w : World) (h : SecMap w m N f) :
    Calls Try.prog 67 #[.map (some m)] w fun e w' => e = .returned (.map (some w.heap.size)) ∧ SecMap w' w.heap.size N f ∧ Below w.heap.size w w' := by
  obtain ⟨D, ⟨es, clock, hb, hF, hs, hD⟩, hf⟩ := h
  have hq := run_eql_map_nil w 67 _ _ (some m) Try.underlying67
  have F := hide (show SecMap (w.alloc (.map es clock)) w.heap.size N f from ⟨D, ⟨es, clock, (MapKept.heap_alloc w _).1, hF, hs, hD⟩, hf⟩)
  clear hF hs hD hf
  go_enter Try.func67, Try.ntmps67
  go_wp2_with fail
  rw [run_callFunc_extern Try.func68 (by kernel_rfl) (by kernel_rfl) (by kernel_rfl) (e := Extern.MapsClone.clone) (by kernel_rfl), run_clone 67 hb]
  simp only [Result.andThen]
  rw [Oper.upon_value]
  go_wp2_with fail
  rw [run_assert_map _ 67 20 _ _ _ Try.underlying67]
  simp only [Result.andThen]
  rw [Oper.upon_value]
  go_wp2_with fail
  go_ret
  exact ⟨rfl, unhide F, (Below.refl _ _).alloc (Nat.le_refl _) _⟩
end Go.Proofs.Ytdiakahaghggiaa
