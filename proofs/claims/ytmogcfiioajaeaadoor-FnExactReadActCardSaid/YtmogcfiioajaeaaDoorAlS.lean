/-
  An act's box: what is stored there; what the call has made stays apart.
-/
import Derived.Test.YtmogcfiioajaeaaDoorAlP
import Derived.Test.YtmogcfiioajaeaaDoorWrT
namespace Go.Proofs.YtmogcfiioajaeaaDoor
open Go.RowKit

/-- An act as words tell it. -/
structure AlD where
  kind : Int
  torn : Int
  tk : Int
  ts : Int
  key : ByteArray
  to : ByteArray
  val : ByteArray
  keep : List Bool
theorem al_lt {w : World} {b : Nat} {o : Obj} (h : w.heap[b]? = some o) : b < w.heap.size := (Array.getElem?_eq_some_iff.1 h).1
theorem al_set {B : Nat} {w u : World} (h : Below B w u) {b : Nat} (hb : B ≤ b) (j : Nat) (v : Value) : Below B w (u.setCell ⟨b, j, none⟩ v) :=
  ⟨h.os, h.tape, h.output, by simp only [World.setCell, Array.size_modify]; exact h.size, fun i hi => (Below.heap_setCell _ _ _ _ (fun e => by have : i = b := e; omega)).trans (h.block i hi)⟩
def sv8 (w : World) (b : Nat) (v0 v1 v2 v3 v4 v5 v6 v7 : Value) : World := (((((((w.setCell ⟨b, 0, none⟩ v0).setCell ⟨b, 1, none⟩ v1).setCell ⟨b, 2, none⟩ v2).setCell ⟨b, 3, none⟩ v3).setCell ⟨b, 4, none⟩ v4).setCell ⟨b, 5, none⟩ v5).setCell ⟨b, 6, none⟩ v6).setCell ⟨b, 7, none⟩ v7
theorem sv8_below {B : Nat} {w u : World} (h : Below B w u) {b : Nat} (hb : B ≤ b) (v0 v1 v2 v3 v4 v5 v6 v7 : Value) : Below B w (sv8 u b v0 v1 v2 v3 v4 v5 v6 v7) :=
  al_set (al_set (al_set (al_set (al_set (al_set (al_set (al_set h hb 0 v0) hb 1 v1) hb 2 v2) hb 3 v3) hb 4 v4) hb 5 v5) hb 6 v6) hb 7 v7
theorem sv8_heap {w : World} {b : Nat} {u0 u1 u2 u3 u4 u5 u6 u7 : Value} {T : TypeId} (h : w.heap[b]? = some (.cells #[u0, u1, u2, u3, u4, u5, u6, u7] T (0, 0))) (v0 v1 v2 v3 v4 v5 v6 v7 : Value) : (sv8 w b v0 v1 v2 v3 v4 v5 v6 v7).heap[b]? = some (.cells #[v0, v1, v2, v3, v4, v5, v6, v7] T (0, 0)) := by
  have h1 := heap_set h 0 v0
  have h2 := heap_set h1 1 v1
  have h3 := heap_set h2 2 v2
  have h4 := heap_set h3 3 v3
  have h5 := heap_set h4 4 v4
  have h6 := heap_set h5 5 v5
  have h7 := heap_set h6 6 v6
  have h8 := heap_set h7 7 v7
  unfold sv8
  simpa using h8
/-- An act as it stands in its box. -/
def alC (d : AlD) (k : Value) : Array Value := #[.int .i64 d.kind, .int .i64 d.torn, .int .i64 d.tk, .int .i64 d.ts, .string d.key, .string d.to, .string d.val, k]
def sv8d (w : World) (b : Nat) (d : AlD) (k : Value) : World := sv8 w b (.int .i64 d.kind) (.int .i64 d.torn) (.int .i64 d.tk) (.int .i64 d.ts) (.string d.key) (.string d.to) (.string d.val) k
theorem run_storeAl {w : World} {b : Nat} {u0 u1 u2 u3 u4 u5 u6 u7 : Value} (h : w.heap[b]? = some (.cells #[u0, u1, u2, u3, u4, u5, u6, u7] 26 (0, 0))) (d : AlD) (a : Option Addr) (n c : Nat) :
    (Instr.storeAt 26 (.pointer (some ⟨b, 0, none⟩)) (.agg #[.int .i64 d.kind, .int .i64 d.torn, .int .i64 d.tk, .int .i64 d.ts, .string d.key, .string d.to, .string d.val, .slice a n c])).run Tryd.prog w = .ok () (sv8d w b d (.slice a n c)) := by
  have c0 := (heap_at h 0).1
  have c1 := (heap_at h 1).1
  have c2 := (heap_at h 2).1
  have c3 := (heap_at h 3).1
  have c4 := (heap_at h 4).1
  have c5 := (heap_at h 5).1
  have c6 := (heap_at h 6).1
  have c7 := (heap_at h 7).1
  have f0 := (heap_at h 0).2
  have f1 := (heap_at h 1).2
  have f2 := (heap_at h 2).2
  have f3 := (heap_at h 3).2
  have f4 := (heap_at h 4).2
  have f5 := (heap_at h 5).2
  have f6 := (heap_at h 6).2
  have f7 := (heap_at h 7).2
  clear h
  unfold sv8d sv8
  go_simp
theorem al_wpStore {P : Program} {w : World} {ops : Array Oper} {rest : List Oper} {o : Oper} {a : Act} {Q : Exit → Act → World → Prop}
    (hg : o.guard = none) (p v : Operand) (t : TypeId) (hop : o.op = Op.store t p v) (vp vv : Value) (w' : World) (hp : a.eval p = vp) (hv : a.eval v = vv)
    (hrun : (Instr.storeAt t vp vv).run P w = .ok () w') (hK : wpList P ops Q rest (a.put o.dst undef) w') : wpList P ops Q (o :: rest) a w := by
  refine wpList_plain hg fun K' hK' => ?_
  unfold Oper.wp
  simp [execOp, hop, hp, hv, hrun, Result.andThen]
  exact hK' _ _ hK
end Go.Proofs.YtmogcfiioajaeaaDoor
