/-
  impl.standingImages, impl.scan, impl.ScanImages.
-/
import Derived.Test.YtpmbpldjjnjafaaScT
import Derived.Test.YtpmbpldjjnjafaaRf
namespace Go.Proofs.Ytpmbpldjjnjafaa
open Go.RowKit Go.Shelf
attribute [local go_sem] Oper.semAt_some

/-- An image that is handed over: where its bytes lie, the place behind it. -/
structure ImY where
  X : ImD
  g : Nat
  c : Nat
  nx : Nat
def yH (y : ImY) : ImH := ⟨y.X, y.g, y.c⟩
def yV (y : ImY) : Array Value := #[iv y.X.id y.X.gone (some ⟨y.g, 0, none⟩) y.X.xs.length y.c, .int .i64 (y.nx : Int)]
/-- What lay below a block stays, and all bytes and slices of bytes. -/
structure KpU (n0 : Nat) (W W' : World) : Prop where
  bel : Below n0 W W'
  keep : ∀ (k : Nat) (cur : Array Value) (t : TypeId) (fr : Nat × Nat), W.heap[k]? = some (Obj.cells cur t fr) → (t = 5 ∨ t = 22) → W'.heap[k]? = W.heap[k]?
theorem KpU.trans {n0 : Nat} {A B C : World} (h : KpU n0 A B) (k : KpU n0 B C) : KpU n0 A C :=
  ⟨h.bel.trans k.bel, fun i cur t fr hi ht => by
    have h1 := h.keep i cur t fr hi ht
    exact (k.keep i cur t fr (h1.trans hi) ht).trans h1⟩
theorem KpU.of_below {n0 : Nat} {A B : World} (h : Below A.heap.size A B) (hn : n0 ≤ A.heap.size) : KpU n0 A B :=
  ⟨h.mono hn, fun k _ _ _ hk _ => h.block k (Array.getElem?_eq_some_iff.1 hk).1⟩
theorem KpU.alloc {n0 : Nat} (W : World) (o : Obj) (hn : n0 ≤ W.heap.size) : KpU n0 W (W.alloc o) := KpU.of_below ((Below.refl _ _).alloc (Nat.le_refl _) _) hn
def endOf (ys : List ImY) : Nat := match ys.getLast? with
  | some y => y.nx
  | none => 0
theorem endOf_snoc (ys : List ImY) (y : ImY) : endOf (ys ++ [y]) = y.nx := by simp [endOf]
def YFact (n0 : Nat) (pre : List ImY) (y : ImY) (W : World) : Prop := Owns W n0 (.slice (some ⟨y.g, 0, none⟩) y.X.xs.length y.c) y.X.xs ∧ (∀ x ∈ pre, x.g ≠ y.g) ∧ pre.length ≤ 65536
def YFin (xs : List Int) (ys : List ImY) (_ : World) : Prop := Steps xs (ys.map (·.X)) (endOf ys) ∧ nextI xs (endOf ys) = none
def YFinX (xs : List Int) (ys : List ImY) (_ : World) : Prop := Steps xs (ys.map (·.X)) (endOf ys)
set_option maxRecDepth 100000 in
set_option maxHeartbeats 8000000 in
theorem images_tells (m n0 n1 hb : Nat) (a : Option Addr) (n c : Nat) (xs : List Int) (w0 w : World) (hn0 : n0 ≤ w.heap.size) (hn1 : n1 ≤ w.heap.size) (hbel : Below n0 w0 w) (hbox : w.heap[hb]? = some (.cells #[.slice a n c] 22 (0, 0)))
    (hR : ∀ u, Below n0 w0 u → Row u a n xs) (h8 : Bytes8 xs) (hn : n ≤ 65536) (hc : n ≤ c) (hc2 : c ≤ maxLen) (ha : a = none → c = 0) (hm : 1 ≤ m) :
    SeqTells Fence.wide m Try.prog 53 #[.pointer (some ⟨hb, 0, none⟩)] yV (KpU n0) (YFact n1) (YFin xs) (YFinX xs) w := by
  intro l J Jx W hW kW hJ _ hY h0
  have IM := hide (fun (p : Nat) (u : World) (hp : p ≤ n) (hu : Below n0 w0 u) => imageAt_any a n c p xs u (hR u hu) h8 hp hn hc hc2 ha)
  have LN := hide (hR w hbel).1
  have YY := hide hY
  have HJ := hide (show ∀ pre u u', J pre u → Below u.heap.size u u' → J pre u' from fun pre u u' h hb => hJ pre u u' none h (rb_grownBy_below hb) (fun r e => by cases e))
  have B0 := hide (show Below n0 w0 W from hbel.trans (hW.mono hn0))
  have K0 := hide ((kW.keep hb _ _ _ hbox (.inr rfl)).trans hbox)
  have sz0 : w.heap.size ≤ W.heap.size := hW.size
  have hro : Fence.wide.round = none := rfl
  clear hW kW hJ hY hR h8 hbel hbox
  refine callsIn_of_wp Try.func53 rfl trivial ?_ hro
  simp only [Try.ntmps53, List.size_toArray, List.length_cons, List.length_nil, Nat.reduceAdd, Nat.reduceSub, Array.replicate_succ, Array.replicate_zero, List.push_toArray, List.append_toArray, List.nil_append, List.cons_append]
  gi_wp2
  gi_loopw [3] (fun i wr => ∃ (p : Nat) (pre : List ImY), i = .int .i64 (p : Int) ∧ p ≤ n ∧ Hid (p = endOf pre) ∧ Hid (Steps xs (pre.map (·.X)) p) ∧ J pre wr ∧ Hid (Below n0 w0 wr) ∧ Hid (wr.heap[hb]? = some (.cells #[.slice a n c] 22 (0, 0))) ∧ w.heap.size ≤ wr.heap.size ∧ Hid (∀ x ∈ pre, x.g < wr.heap.size)) (fun i _ => n - (intOf i).toNat)
  case atStart => exact ⟨0, [], rfl, Nat.zero_le _, hide rfl, Steps.start, h0, unhide B0, unhide K0, sz0, fun x hx => absurd hx List.not_mem_nil⟩
  case round =>
    clear h0 B0 K0 sz0
    obtain ⟨p, pre, rfl, hp, hpe, hS, hJs, hB, hK, hsz, hG⟩ := hrel
    have c0 : wr.cell? ⟨hb, 0, none⟩ = some (.slice a n c) := (heap_at (unhide hK) 0).1
    have hf1 : Fence.wide.fn 54 := trivial
    have LAY := hide (show ∀ (X : ImD) (g cp : Nat) (w2 : World), nextI xs p = some X → Owns w2 wr.heap.size (.slice (some ⟨g, 0, none⟩) X.xs.length cp) X.xs → Below wr.heap.size wr w2 →
        ∃ fn tmps assign body, (Instr.yield l #[.agg #[.int .i64 X.id, .bool X.gone, .slice (some ⟨g, 0, none⟩) X.xs.length cp], .int .i64 ((p : Int) + 9 + (X.xs.length : Int))]).run Try.prog (w2.alloc (.cells #[.int .i64 X.id, .bool X.gone, .slice (some ⟨g, 0, none⟩) X.xs.length cp] 48)) = .ok (.round l fn tmps assign body) (w2.alloc (.cells #[.int .i64 X.id, .bool X.gone, .slice (some ⟨g, 0, none⟩) X.xs.length cp] 48)) ∧
          RoundIn Fence.wide (m - 1) Try.prog l fn tmps assign body (w2.alloc (.cells #[.int .i64 X.id, .bool X.gone, .slice (some ⟨g, 0, none⟩) X.xs.length cp] 48)) fun e W' => (e = .returned (.bool true) ∧ J (pre ++ [⟨X, g, cp, p + 9 + X.xs.length⟩]) W' ∧ KpU n0 (w2.alloc (.cells #[.int .i64 X.id, .bool X.gone, .slice (some ⟨g, 0, none⟩) X.xs.length cp] 48)) W') ∨ (e = .returned (.bool false) ∧ Jx (pre ++ [⟨X, g, cp, p + 9 + X.xs.length⟩]) W' ∧ KpU n0 (w2.alloc (.cells #[.int .i64 X.id, .bool X.gone, .slice (some ⟨g, 0, none⟩) X.xs.length cp] 48)) W') from fun X g cp w2 _ ho hb1 => by
      have bA : Below w2.heap.size w2 (w2.alloc (.cells #[.int .i64 X.id, .bool X.gone, .slice (some ⟨g, 0, none⟩) X.xs.length cp] 48)) := (Below.refl _ _).alloc (Nat.le_refl _) _
      have hy := unhide YY pre ⟨X, g, cp, p + 9 + X.xs.length⟩ (w2.alloc (.cells #[.int .i64 X.id, .bool X.gone, .slice (some ⟨g, 0, none⟩) X.xs.length cp] 48)) (unhide HJ _ _ _ hJs (hb1.trans (bA.mono hb1.size))) ⟨sc_down (owns_below ho bA) (Nat.le_trans hn1 hsz), fun x hx e => by
        have h1 := unhide hG x hx
        have h2 := (ho.lt g rfl).1
        simp only at e
        omega, by
        have h1 := (unhide hS).le
        rw [List.length_map] at h1
        omega⟩
      unfold yV iv at hy
      simp only at hy
      rw [show ((p + 9 + X.xs.length : Nat) : Int) = (p : Int) + 9 + (X.xs.length : Int) by omega] at hy
      exact hy)
    have PLE := hide (show ∀ X, nextI xs p = some X → p + 9 + X.xs.length ≤ n from fun X h => by have := (next_some h).2.2.2; rw [unhide LN] at this; exact this)
    clear YY
    gi_wp2_with fail
    refine (callsIn_wide.2 (unhide IM p wr hp (unhide hB))).mono ?_
    intro e w2 hv
    rcases hv with ⟨hnx, rfl, hb1⟩ | ⟨X, g, cp, hnx, rfl, ho, hb1⟩
    · have bA : Below w2.heap.size w2 (w2.alloc (.cells #[.int .i64 0, .bool false, .slice none 0 0] 48)) := (Below.refl _ _).alloc (Nat.le_refl _) _
      have FIN := hide (show YFin xs pre (w2.alloc (.cells #[.int .i64 0, .bool false, .slice none 0 0] 48)) ∧ J pre (w2.alloc (.cells #[.int .i64 0, .bool false, .slice none 0 0] 48)) from ⟨⟨by rw [← unhide hpe]; exact unhide hS, by rw [← unhide hpe]; exact hnx⟩, unhide HJ _ _ _ hJs (hb1.trans (bA.mono hb1.size))⟩)
      unfold iv
      clear LAY bA
      gi_wp2
      refine ⟨fun _ h => (by cases h), ?_⟩
      gi_wp2
      refine bodyPost_ret (results_none rfl _ _ _) rfl ?_
      exact ⟨⟨_, rfl⟩, .inl ⟨pre, (unhide FIN).1, (unhide FIN).2⟩⟩
    · obtain ⟨fn, tmps, assign, body, hy, hRd⟩ := unhide LAY X g cp w2 hnx ho hb1
      have hxb := heap_alloc_new w2 (.cells #[.int .i64 X.id, .bool X.gone, .slice (some ⟨g, 0, none⟩) X.xs.length cp] 48)
      have x0 : (w2.alloc (.cells #[.int .i64 X.id, .bool X.gone, .slice (some ⟨g, 0, none⟩) X.xs.length cp] 48)).cell? ⟨w2.heap.size, 0, none⟩ = some (.int .i64 X.id) := (heap_at hxb 0).1
      have x1 : (w2.alloc (.cells #[.int .i64 X.id, .bool X.gone, .slice (some ⟨g, 0, none⟩) X.xs.length cp] 48)).cell? ⟨w2.heap.size, 1, none⟩ = some (.bool X.gone) := (heap_at hxb 1).1
      have x2 : (w2.alloc (.cells #[.int .i64 X.id, .bool X.gone, .slice (some ⟨g, 0, none⟩) X.xs.length cp] 48)).cell? ⟨w2.heap.size, 2, none⟩ = some (.slice (some ⟨g, 0, none⟩) X.xs.length cp) := (heap_at hxb 2).1
      have hpl := unhide PLE X hnx
      have bA : Below w2.heap.size w2 (w2.alloc (.cells #[.int .i64 X.id, .bool X.gone, .slice (some ⟨g, 0, none⟩) X.xs.length cp] 48)) := (Below.refl _ _).alloc (Nat.le_refl _) _
      have BN := hide (hb1.trans (bA.mono hb1.size))
      have ST := hide (show Steps xs ((pre ++ [(⟨X, g, cp, p + 9 + X.xs.length⟩ : ImY)]).map (fun y : ImY => y.X)) (p + 9 + X.xs.length) by rw [List.map_append]; exact Steps.more (unhide hS) hnx)
      have GN : g < (w2.alloc (.cells #[.int .i64 X.id, .bool X.gone, .slice (some ⟨g, 0, none⟩) X.xs.length cp] 48)).heap.size := Nat.lt_of_lt_of_le (ho.lt g rfl).2 bA.size
      clear hxb LAY PLE bA ho hb1
      unfold iv
      gi_wp2
      refine hRd.mono ?_
      rintro e W3 (⟨rfl, hJ3, hk3⟩ | ⟨rfl, hJx3, hk3⟩)
      · have KN := hide ((hk3.keep hb _ _ _ (((unhide BN).block hb (Array.getElem?_eq_some_iff.1 (unhide hK)).1).trans (unhide hK)) (.inr rfl)).trans (((unhide BN).block hb (Array.getElem?_eq_some_iff.1 (unhide hK)).1).trans (unhide hK)))
        have BB := hide ((unhide hB).trans (((unhide BN).mono (Nat.le_trans hn0 hsz)).trans hk3.bel))
        have s3 := hk3.bel.size
        have sBN := (unhide BN).size
        have GG := hide (show ∀ x ∈ pre ++ [(⟨X, g, cp, p + 9 + X.xs.length⟩ : ImY)], x.g < W3.heap.size from fun x hx => by
          rcases List.mem_append.1 hx with hx | hx
          · have := unhide hG x hx
            omega
          · obtain rfl := List.mem_singleton.1 hx
            exact Nat.lt_of_lt_of_le GN s3)
        clear hRd hy hk3 BN x0 x1 x2 hK hB hG hS
        gi_wp2
        go_roundw
        case rel => exact ⟨p + 9 + X.xs.length, pre ++ [(⟨X, g, cp, p + 9 + X.xs.length⟩ : ImY)], by first | rfl | go_num, hpl, hide (endOf_snoc pre (⟨X, g, cp, p + 9 + X.xs.length⟩ : ImY)).symm, ST, hJ3, BB, KN, by omega, GG⟩
        case measure => simp [intOf]; omega
      · clear hRd hy x0 x1 x2
        gi_wp2
        refine bodyPost_ret (results_none rfl _ _ _) rfl ?_
        exact ⟨⟨_, rfl⟩, .inr ⟨_, by unfold YFinX; rw [endOf_snoc]; exact unhide ST, hJx3⟩⟩
end Go.Proofs.Ytpmbpldjjnjafaa
