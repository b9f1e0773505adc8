/-
  The program's reader along bytes: a page.
-/
import Derived.Test.YtbboigidkimkmaaRpK
import Derived.Test.YtbboigidkimkmaaPgK
import Derived.Test.YtbboigidkimkmaaPgG
import Derived.Test.YtbboigidkimkmaaPageJ
import Derived.Deep.RegionLaw
namespace Go.Proofs.Ytbboigidkimkmaa
open Go.RowKit

theorem own_apart' {w : World} {B C : Nat} {v v2 : Value} {es : List EntD} {ds : List DelD} (h1 : EOwns w B v es) (h2 : DOwns w C v2 ds) : ∀ i, v.ownBlock = some i → ¬ v2.ownBlock = some i := by
  intro i e1 e2
  rcases h1.2 with ⟨rfl, _⟩ | ⟨g, cap, cur, rfl, _, hh, _⟩
  · cases e1
  · rcases h2.2 with ⟨rfl, _⟩ | ⟨g2, cap2, cur2, rfl, _, hh2, _⟩
    · cases e2
    · simp [Value.ownBlock] at e1 e2
      subst e1
      subst e2
      rw [hh] at hh2
      injection hh2 with hh2
      injection hh2 with _ hh2 _
      exact absurd hh2 (by decide)
/-- An operation that calls a function, by its contract, in a region that draws. -/
theorem stepCallR {P : Program} {ops : Array Oper} {o : Oper} {a : Act} {w : World} {K : Act → World → Prop} {Q : Exit → Act → World → Prop} {E : Prop}
    (f : FuncId) {fn : Func} (hf : P.funcs[f]? = some fn) (hname : (fn.name == "runtime.NumGoroutine") = false) (hbody : fn.body.isNone = false) (hg : o.guard = none) (x : Operand) (t : TypeId) (hop : o.op = Op.call { callee := Callee.value (Operand.func f), args := #[x], argTypes := #[t] })
    (vx : Value) (hx : a.eval x = vx) {R : Value → World → Prop} (hc : Calls P f #[vx] w fun e w' => ∃ v, e = .returned v ∧ R v w') (hK : ∀ v w', R v w' → K (a.put o.dst v) w') :
    if Region.wanted o (yielded ops a.tmps) = true then Oper.wp P o a w K Q else E := by
  have hw : Region.wanted o (yielded ops a.tmps) = true := by simp [Region.wanted, hg]
  rw [if_pos hw]
  unfold Oper.wp
  have h1 : fn.name ≠ "runtime.NumGoroutine" := by simpa using hname
  have hr : (execOp a.eval o).run P w = .ok (.enter f #[vx]) w := by
    obtain ⟨dst, op, ty, pos, after, guard⟩ := o
    simp only at hop
    subst hop
    rw [execOp_call_go]
    have h2 : fn.body ≠ none := by intro h; rw [h] at hbody; cases hbody
    simp [callFunc, hf, h1, h2, hx]
  rw [hr, Oper.upon_enter]
  refine hc.mono ?_
  rintro e w' ⟨v, rfl, h⟩
  exact hK v w' h
/-- A page that is being read: the result's block, the page's, the lists that are hers, the reader. -/
structure PgSt (w wr : World) (rb D : Nat) (lo hi : ByteArray) (r : Int) (vb vc : Value) (es : List EntD) (ds : List DelD) (s : Rs) : Prop where
  k1 : wr.heap[w.heap.size]? = some (.cells #[.string ⟨#[]⟩, .string ⟨#[]⟩, .int .i64 0, .slice none 0 0, .slice none 0 0] 26 (0, 0))
  k2 : wr.heap[w.heap.size + 1]? = some (.cells #[.string lo, .string hi, .int .i64 r, vb, vc] 26 (0, 0))
  oe : EOwns wr (w.heap.size + 2) vb es
  od : DOwns wr (w.heap.size + 2) vc ds
  rd : RdAt wr rb D s
  hw : Wr (fun i => i = rb) w wr
  lt : rb < D ∧ D ≤ w.heap.size
theorem PgSt.sz {w wr : World} {rb D : Nat} {lo hi : ByteArray} {r : Int} {vb vc : Value} {es : List EntD} {ds : List DelD} {s : Rs} (h : PgSt w wr rb D lo hi r vb vc es ds s) : w.heap.size + 2 ≤ wr.heap.size := heap_lt1 h.k2
/-- The reader has gone on. -/
theorem PgSt.read {w wr w1 : World} {rb D : Nat} {lo hi : ByteArray} {r : Int} {vb vc : Value} {es : List EntD} {ds : List DelD} {s s' : Rs} (h : PgSt w wr rb D lo hi r vb vc es ds s) (hr : RdAt w1 rb D s') (hw : Wr (fun i => i = rb) wr w1) : PgSt w w1 rb D lo hi r vb vc es ds s' :=
  have hl := h.lt
  ⟨loc_wr h.k1 hw (by omega), loc_wr h.k2 hw (by omega), owns_wr h.oe hw (fun i hi e => by have := (h.oe.lt i hi).1; omega), owns_wr h.od hw (fun i hi e => by have := (h.od.lt i hi).1; omega), hr, h.hw.trans hw, hl⟩
theorem PgSt.below {w wr w1 : World} {rb D : Nat} {lo hi : ByteArray} {r : Int} {vb vc : Value} {es : List EntD} {ds : List DelD} {s : Rs} (h : PgSt w wr rb D lo hi r vb vc es ds s) (hb : Below wr.heap.size wr w1) : PgSt w w1 rb D lo hi r vb vc es ds s :=
  h.read (h.rd.below hb) (Wr.of_below hb)
/-- A field of the page stored. -/
theorem PgSt.pushE {w wr w3 : World} {rb D : Nat} {lo hi : ByteArray} {r : Int} {vb vc v' : Value} {es es' : List EntD} {ds : List DelD} {s : Rs} (h : PgSt w wr rb D lo hi r vb vc es ds s) (hg : wr.grownBy w3 vb.ownBlock) (ho : EOwns w3 (w.heap.size + 2) v' es') : PgSt w (w3.setCell ⟨w.heap.size + 1, 3, none⟩ v') rb D lo hi r v' vc es' ds s := by
  have hl := h.lt
  have hP : ∀ i, vb.ownBlock = some i → w.heap.size + 2 ≤ i := fun i hi => (h.oe.lt i hi).1
  have hw : Wr (fun i => vb.ownBlock = some i) wr w3 := Wr.of_grown hg (fun i h => h)
  have hc := wr_cell w3 (w.heap.size + 1) 3 v'
  have k1 := loc_wr (loc_wr h.k1 hw (fun e => by have := hP _ e; omega)) hc (by omega)
  have k2 : (w3.setCell ⟨w.heap.size + 1, 3, none⟩ v').heap[w.heap.size + 1]? = _ := heap_set (loc_wr h.k2 hw (fun e => by have := hP _ e; omega)) 3 v'
  refine ⟨k1, by simpa using k2, owns_wr ho hc (fun i hi e => by have := (ho.lt i hi).1; omega), owns_wr (owns_wr h.od hw (fun i hi e => own_apart' h.oe h.od i e hi)) hc (fun i hi e => by have := (h.od.lt i hi).1; omega), (h.rd.wr hw (fun i hi => by have := hP _ hi; omega)).wr hc (fun i hi => by omega), ?_, hl⟩
  exact (Wr.store ⟨hw.os.trans h.hw.os, hw.tape.trans h.hw.tape, hw.output.trans h.hw.output, Nat.le_trans h.hw.size hw.size, fun k hk hp => (hw.block k (Nat.lt_of_lt_of_le hk h.hw.size) (fun e => by have := hP _ e; omega)).trans (h.hw.block k hk hp)⟩ (by omega) 3 v')
theorem PgSt.pushD {w wr w3 : World} {rb D : Nat} {lo hi : ByteArray} {r : Int} {vb vc v' : Value} {es : List EntD} {ds ds' : List DelD} {s : Rs} (h : PgSt w wr rb D lo hi r vb vc es ds s) (hg : wr.grownBy w3 vc.ownBlock) (ho : DOwns w3 (w.heap.size + 2) v' ds') : PgSt w (w3.setCell ⟨w.heap.size + 1, 4, none⟩ v') rb D lo hi r vb v' es ds' s := by
  have hl := h.lt
  have hP : ∀ i, vc.ownBlock = some i → w.heap.size + 2 ≤ i := fun i hi => (h.od.lt i hi).1
  have hw : Wr (fun i => vc.ownBlock = some i) wr w3 := Wr.of_grown hg (fun i h => h)
  have hc := wr_cell w3 (w.heap.size + 1) 4 v'
  have k1 := loc_wr (loc_wr h.k1 hw (fun e => by have := hP _ e; omega)) hc (by omega)
  have k2 : (w3.setCell ⟨w.heap.size + 1, 4, none⟩ v').heap[w.heap.size + 1]? = _ := heap_set (loc_wr h.k2 hw (fun e => by have := hP _ e; omega)) 4 v'
  refine ⟨k1, by simpa using k2, owns_wr (owns_wr h.oe hw (fun i hi e => own_apart' h.oe h.od i hi e)) hc (fun i hi e => by have := (h.oe.lt i hi).1; omega), owns_wr ho hc (fun i hi e => by have := (ho.lt i hi).1; omega), (h.rd.wr hw (fun i hi => by have := hP _ hi; omega)).wr hc (fun i hi => by omega), ?_, hl⟩
  exact (Wr.store ⟨hw.os.trans h.hw.os, hw.tape.trans h.hw.tape, hw.output.trans h.hw.output, Nat.le_trans h.hw.size hw.size, fun k hk hp => (hw.block k (Nat.lt_of_lt_of_le hk h.hw.size) (fun e => by have := hP _ e; omega)).trans (h.hw.block k hk hp)⟩ (by omega) 4 v')
/-- A bound of the page stored. -/
theorem PgSt.set {w wr : World} {rb D : Nat} {lo hi lo' hi' : ByteArray} {r r' : Int} {vb vc : Value} {es : List EntD} {ds : List DelD} {s : Rs} (h : PgSt w wr rb D lo hi r vb vc es ds s) (j : Nat) (v : Value) (e : (#[.string lo, .string hi, .int .i64 r, vb, vc] : Array Value).setIfInBounds j v = #[.string lo', .string hi', .int .i64 r', vb, vc]) : PgSt w (wr.setCell ⟨w.heap.size + 1, j, none⟩ v) rb D lo' hi' r' vb vc es ds s := by
  have hl := h.lt
  have hc := wr_cell wr (w.heap.size + 1) j v
  have k2 := heap_set h.k2 j v
  rw [e] at k2
  exact ⟨loc_wr h.k1 hc (by omega), k2, owns_wr h.oe hc (fun i hi e => by have := (h.oe.lt i hi).1; omega), owns_wr h.od hc (fun i hi e => by have := (h.od.lt i hi).1; omega), h.rd.wr hc (fun i hi => by omega), h.hw.store (by omega) j v, hl⟩
theorem PgSt.at2 {w wr : World} {rb D : Nat} {lo hi : ByteArray} {r : Int} {vb vc : Value} {es : List EntD} {ds : List DelD} {s : Rs} (h : PgSt w wr rb D lo hi r vb vc es ds s) : wr.cell? ⟨w.heap.size + 1, 0, none⟩ = some (.string lo) ∧ wr.cell? ⟨w.heap.size + 1, 1, none⟩ = some (.string hi) ∧ wr.cell? ⟨w.heap.size + 1, 2, none⟩ = some (.int .i64 r) ∧ wr.cell? ⟨w.heap.size + 1, 3, none⟩ = some vb ∧ wr.cell? ⟨w.heap.size + 1, 4, none⟩ = some vc :=
  ⟨(heap_at h.k2 0).1, (heap_at h.k2 1).1, (heap_at h.k2 2).1, (heap_at h.k2 3).1, (heap_at h.k2 4).1⟩
end Go.Proofs.Ytbboigidkimkmaa
