/-
  Lines of bytes appended: laws for a region that draws its order.
-/
import Derived.Test.YtkggpapmhopaeaaPbI
namespace Go.Proofs.Ytkggpapmhopaeaa
open Go.RowKit

/-- The cells of a row of bytes that the call owns. -/
theorem own_cells {w : World} {B g n cap : Nat} {xs : List Int} (h : Owns w B (.slice (some ⟨g, 0, none⟩) n cap) xs) : ∀ j u, (xs.map (Value.int .u8))[j]? = some u → w.cell? ((⟨g, 0, none⟩ : Addr).add j) = some u := by
  intro j u hu
  have hj : j < xs.length := by simpa using (List.getElem?_eq_some_iff.1 hu).1
  have e : n = xs.length := by
    rcases h.2 with ⟨e, _⟩ | ⟨g', cap', cur, e, _⟩
    · cases e
    · injection e
  subst e
  have := World.ownsRow.cellAt h j (by omega)
  have e2 : (⟨g, 0, none⟩ : Addr).add j = ⟨g, j, none⟩ := by unfold Addr.add; split <;> simp_all
  rw [e2, this, hu]
theorem owns_lines {w w' : World} {B : Nat} {v v' : Value} {xs : List Int} {t : ByteArray} (_h : Owns w B v xs) (h : w'.ownsRow B 5 1 v' (xs.length + (t.size + 1)) (xs.map (Value.int .u8) ++ (lineL t).map (Value.int .u8))) : Owns w' B v' (xs ++ lineL t) :=
  owns_apps (lineL_length t) h
/-- A row of bytes made later is no other one's. -/
theorem owns_apart {w w' : World} {B C : Nat} {v u : Value} {xs ys : List Int} (h : Owns w C u ys) (_ : Owns w B v xs) (hlt : ∀ k, v.ownBlock = some k → k < C) (hg : w.grownBy w' v.ownBlock) : Owns w' C u ys :=
  World.ownsRow.kept h hg (by
    cases hu : u.ownBlock with
    | none => exact .inl rfl
    | some k => exact .inr fun e => by have := (h.lt k hu).1; have := hlt k e.symm; omega)
/-- An operation that calls a function, by its contract, in a region that draws. -/
theorem stepCallG {P : Program} {ops : Array Oper} {o : Oper} {a : Act} {w : World} {K : Act → World → Prop} {Q : Exit → Act → World → Prop} {E : Prop}
    (f : FuncId) {fn : Func} (hf : P.funcs[f]? = some fn) (hname : (fn.name == "runtime.NumGoroutine") = false) (hbody : fn.body.isNone = false) (hg : o.guard = none) (x : Operand) (t : TypeId) (hop : o.op = Op.call { callee := Callee.value (Operand.func f), args := #[x], argTypes := #[t] })
    (vx : Value) (hx : a.eval x = vx) {R : Value → World → Prop} (hc : Calls P f #[vx] w fun e w' => ∃ v, e = .returned v ∧ R v w') (hK : ∀ v w', R v w' → K (a.put o.dst v) w') :
    if Region.wanted o (yielded ops a.tmps) = true then Oper.wp P o a w K Q else E := by
  have hw : Region.wanted o (yielded ops a.tmps) = true := by simp [Region.wanted, hg]
  rw [if_pos hw]
  unfold Oper.wp
  have h1 : fn.name ≠ "runtime.NumGoroutine" := by simpa using hname
  have hr : (execOp a.eval o).run P w = .ok (.enter f #[vx]) w := by
    obtain ⟨dst, op, ty, pos, after, guard⟩ := o
    simp only at hop
    subst hop
    rw [execOp_call_go]
    have h2 : fn.body ≠ none := by intro h; rw [h] at hbody; cases hbody
    simp [callFunc, hf, h1, h2, hx]
  rw [hr, Oper.upon_enter]
  refine hc.mono ?_
  rintro e w' ⟨v, rfl, h⟩
  exact hK v w' h
/-- The append of a line. -/
theorem line_run {w : World} {B C g cap : Nat} {v : Value} {xs : List Int} {t : ByteArray} (ho : Owns w B v xs) (ol : Owns w C (.slice (some ⟨g, 0, none⟩) (t.size + 1) cap) (lineL t)) (hz : xs.length ≤ 100000) (ht : t.size ≤ 255) (hB : B ≤ w.heap.size) :
    ∃ v' w', (Builtin.append_ #[49, 49] 49 #[v, .slice (some ⟨g, 0, none⟩) (t.size + 1) cap]).run Try.prog w = .ok v' w' ∧ Owns w' B v' (xs ++ lineL t) ∧ w.grownBy w' v.ownBlock := by
  obtain ⟨i0, hi0, hz0, hz1, hz2⟩ := info_parts Try.infoU8
  obtain ⟨v', w', hr, ho', hg, _⟩ := run_append_own (P := Try.prog) w B 49 49 5 i0 (.int .u8 0) 1 1 Try.underlying49 hi0 hz0 hz1 hz2 rfl (by decide) v _ _ ho ⟨g, 0, none⟩ (t.size + 1) cap ((lineL t).map (Value.int .u8)) (by simp [lineL_length]) (own_cells ol) (all_u8 _) (by unfold maxLen; omega) (by omega) hB
  exact ⟨v', w', hr, owns_apps (lineL_length t) ho', hg⟩
/-- The append of a byte that lies at g; where the row then lies. -/
theorem byte_run {w : World} {B C g : Nat} {v : Value} {xs : List Int} {x : Int} (ho : Owns w B v xs) (ol : Owns w C (.slice (some ⟨g, 0, none⟩) 1 1) [x]) (hz : xs.length ≤ 100000) (hB : B ≤ w.heap.size) :
    ∃ v' w', (Builtin.append_ #[49, 49] 49 #[v, .slice (some ⟨g, 0, none⟩) 1 1]).run Try.prog w = .ok v' w' ∧ Owns w' B v' (xs ++ [x]) ∧ w.grownBy w' v.ownBlock ∧ (v'.ownBlock = v.ownBlock ∨ v'.ownBlock = some w.heap.size) := by
  obtain ⟨i0, hi0, hz0, hz1, hz2⟩ := info_parts Try.infoU8
  obtain ⟨v', w', hr, ho', hg, _⟩ := run_append_own (P := Try.prog) w B 49 49 5 i0 (.int .u8 0) 1 1 Try.underlying49 hi0 hz0 hz1 hz2 rfl (by decide) v _ _ ho ⟨g, 0, none⟩ 1 1 [.int .u8 x] rfl (own_cells ol) (one_u8 _) (by unfold maxLen; omega) (by omega) hB
  refine ⟨v', w', hr, owns_app ho', hg, ?_⟩
  rcases ho.2 with ⟨rfl, h0⟩ | ⟨g', cap, cur, rfl, hbg, hgg, hnc, hcm, hcs, htake⟩
  · have h := run_append_nil (P := Try.prog) w 49 49 5 i0 (.int .u8 0) Try.underlying49 hi0 hz0 ⟨g, 0, none⟩ 1 1 [.int .u8 x] (by rw [hz1]; rfl) (own_cells ol) (by omega) (by omega) (by rw [hz2]; omega)
    rw [hr] at h
    injection h with h _
    subst h
    exact .inr rfl
  · by_cases hroom : xs.length + 1 ≤ cap
    · have h := run_append_room (P := Try.prog) w 49 49 5 i0 Try.underlying49 hi0 g' xs.length cap cur hgg ⟨g, 0, none⟩ 1 1 [.int .u8 x] (by rw [hz1]; rfl) (own_cells ol) (one_u8 _) hroom (by rw [hz1, hcs]; simp; omega)
      rw [hr] at h
      injection h with h _
      subst h
      exact .inl rfl
    · have h := run_append_grow (P := Try.prog) w 49 49 5 i0 (.int .u8 0) Try.underlying49 hi0 hz0 ⟨g', 0, none⟩ xs.length cap (xs.map (Value.int .u8)) (by rw [hz1]; simp) (own_cells ho) ⟨g, 0, none⟩ 1 1 [.int .u8 x] (by rw [hz1]; rfl) (own_cells ol) (by omega) (by omega) (by rw [hz2]; exact growslice_fits (by omega) (by omega))
      rw [hr] at h
      injection h with h _
      subst h
      exact .inr rfl
theorem apart_new {w w' : World} {B g n c : Nat} {v : Value} {xs ys : List Int} (h : Owns w B v xs) (hl : Owns w' w.heap.size (.slice (some ⟨g, 0, none⟩) n c) ys) : v.ownBlock ≠ some g := fun e => by
  have h1 := (h.lt g e).2
  have h2 := (hl.lt g rfl).1
  omega
theorem apart_blk {w : World} {C g n c : Nat} {v v' : Value} {ys : List Int} (hbl : v'.ownBlock = v.ownBlock ∨ v'.ownBlock = some w.heap.size) (hn : v.ownBlock ≠ some g) (hl : Owns w C (.slice (some ⟨g, 0, none⟩) n c) ys) : v'.ownBlock ≠ some g := fun e => by
  rcases hbl with h | h
  · exact hn (h.symm.trans e)
  · have h2 := (hl.lt g rfl).2
    rw [h] at e
    injection e with e
    omega
theorem owns_ne {w w' : World} {C g n c : Nat} {v : Value} {ys : List Int} (h : Owns w C (.slice (some ⟨g, 0, none⟩) n c) ys) (hne : v.ownBlock ≠ some g) (hg : w.grownBy w' v.ownBlock) : Owns w' C (.slice (some ⟨g, 0, none⟩) n c) ys :=
  World.ownsRow.kept h hg (.inr fun e => hne e.symm)
/-- A change's cells, behind a new block too. -/
theorem d_all {X : World} {db : Nat} {v0 v1 v2 v3 : Value} {t : TypeId} (h : X.heap[db]? = some (.cells #[v0, v1, v2, v3] t (0, 0))) :
    X.cell? ⟨db, 0, none⟩ = some v0 ∧ X.cell? ⟨db, 1, none⟩ = some v1 ∧ X.cell? ⟨db, 2, none⟩ = some v2 ∧ (∀ o, (X.alloc o).cell? ⟨db, 1, none⟩ = some v1) ∧ (∀ o, (X.alloc o).cell? ⟨db, 2, none⟩ = some v2) := by
  obtain ⟨h0, h1, h2, _⟩ := pg_c4 h
  have hb : ∀ o, Below X.heap.size X (X.alloc o) := fun o => (Below.refl _ _).alloc (Nat.le_refl _) o
  exact ⟨h0, h1, h2, fun o => ((hb o).cell (p := ⟨db, 1, none⟩) (heap_lt' h)).trans h1, fun o => ((hb o).cell (p := ⟨db, 2, none⟩) (heap_lt' h)).trans h2⟩
theorem KeepT.alloc (w : World) (o : Obj) : KeepT w (w.alloc o) := KeepT.below ((Below.refl _ _).alloc (Nat.le_refl _) o)
/-- l04Line, along a call's walk. -/
theorem line_at {B : Nat} {W : World} (hW : B ≤ W.heap.size) (u : World) (hb : Below B W u) (t : ByteArray) (ht : t.size ≤ 255) :
    Calls Try.prog 80 #[.string t] u fun e u' => ∃ v, e = .returned v ∧ ∃ g cap, v = .slice (some ⟨g, 0, none⟩) (t.size + 1) cap ∧ Owns u' u.heap.size (.slice (some ⟨g, 0, none⟩) (t.size + 1) cap) (lineL t) ∧ Below u.heap.size u u' ∧ Below B W u' := by
  refine (l04Line_any t u ht).mono ?_
  rintro e u' ⟨g, cap, rfl, h1, h2⟩
  exact ⟨_, rfl, g, cap, rfl, h1, h2, hb.trans (h2.mono (Nat.le_trans hW hb.size))⟩
end Go.Proofs.Ytkggpapmhopaeaa
