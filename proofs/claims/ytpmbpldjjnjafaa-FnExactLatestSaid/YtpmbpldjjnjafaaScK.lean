/-
  impl.scan, impl.ScanImages.
-/
import Derived.Test.YtpmbpldjjnjafaaScJ
import Derived.Test.YtpmbpldjjnjafaaImM
namespace Go.Proofs.Ytpmbpldjjnjafaa
open Go.RowKit Go.Shelf
attribute [local go_sem] Oper.semAt_some

theorem sc_wpAppIn {F : Fence} {n : Nat} {P : Program} {ops : Array Oper} {rest : List Oper} {o : Oper} {a : Act} {w : World} {Q : Exit → Act → World → Prop}
    (hg : o.guard = none) (s x : Operand) (t : TypeId) (hop : o.op = Op.call { callee := Callee.builtin Builtin.append, args := #[s, x], argTypes := #[t, t] })
    (vs vx v' : Value) (w' : World) (hs : a.eval s = vs) (hx : a.eval x = vx) (hrun : (Builtin.append_ #[t, t] o.type #[vs, vx]).run P w = .ok v' w') (h : wpListIn F n P ops Q rest (a.put o.dst v') w') :
    wpListIn F n P ops Q (o :: rest) a w := by
  refine wpListIn_plain hg fun K hK => ?_
  unfold Oper.wpIn
  refine ⟨by simp [Oper.about, hop, resolve, Target.leads, Sem.run_pure], ?_⟩
  rw [Oper.semAt_plain F _ _ (by rw [hop]; intro c hc; cases hc)]
  simp [execOp, hop, resolve, invoke, builtin, hs, hx, hrun, Result.andThen]
  exact hK _ _ h
set_option maxHeartbeats 1000000 in
theorem standingImages_any (a : Option Addr) (n c : Nat) (w : World) :
    Calls Try.prog 36 #[.slice a n c] w fun e w' => e = .returned (.func (.func 53) #[] #[.pointer (some ⟨w.heap.size, 0, none⟩)]) ∧ w' = w.alloc (.cells #[.slice a n c] 22) := by
  have hmf : ∀ (fn : Fn) (first cap : Array Value) (w : World), (Instr.makeFunc fn first cap).run Try.prog w = .ok (.func fn first cap) w := fun _ _ _ _ => rfl
  go_enter Try.func36, Try.ntmps36
  go_wp2_with fail
  go_ret
  exact ⟨rfl, rfl⟩
/-- Cells stay where what is written is none. -/
theorem rf_cells {A B : World} {row : Option Nat} {k : Nat} {cur : Array Value} {t : TypeId} {fr : Nat × Nat} (hg : A.grownBy B row) (hr : ∀ r, row = some r → ∃ o : Obj, A.heap[r]? = some o ∧ o.isCells = false) (h : A.heap[k]? = some (.cells cur t fr)) : B.heap[k]? = A.heap[k]? :=
  hg.block k (Array.getElem?_eq_some_iff.1 h).1 (fun e => by
    obtain ⟨o, ho, hc⟩ := hr k e.symm
    rw [h] at ho
    cases ho
    cases hc)
theorem IOwn.rf {A B : World} {b : Nat} {v : Value} {hs : List ImH} (h : IOwn A b v hs) (hk : ∀ (k : Nat) (cur : Array Value) (t : TypeId) (fr : Nat × Nat), A.heap[k]? = some (Obj.cells cur t fr) → B.heap[k]? = A.heap[k]?) (hsz : A.heap.size ≤ B.heap.size) (hd : ∀ i (hi : i < hs.length), ∃ cur t fr, A.heap[hs[i].g]? = some (Obj.cells cur t fr)) : IOwn B b v hs :=
  ⟨ownsRow_heap h.row (fun g hg => by
    rcases h.row.2 with ⟨e, _⟩ | ⟨g', cap, cur, e, _, hh, _⟩
    · subst e; cases hg
    · subst e
      obtain rfl : g' = g := by simpa [Value.ownBlock] using hg
      exact hk _ _ _ _ hh), fun i hi => (h.dat i hi).of_blocks hsz (fun x hx => by
        cases hx
        obtain ⟨cur, t, fr, hh⟩ := hd i hi
        exact hk _ _ _ _ hh), h.far, h.off⟩
/-- The caller's variables between two rounds. -/
structure ScI_ (w : World) (pre : List ImY) (W : World) (v : Value) : Prop where
  lst : W.heap[w.heap.size]? = some (.cells #[v] 23 (0, 0))
  fin : W.heap[w.heap.size + 1]? = some (.cells #[.int .i64 (endOf pre : Int)] 3 (0, 0))
  own : IOwn W (w.heap.size + 2) v (pre.map yH)
  knd : ∀ y ∈ pre, ∃ cur fr, W.heap[y.g]? = some (Obj.cells cur 5 fr)
  bel : Below w.heap.size w W
  siz : w.heap.size + 3 ≤ W.heap.size
def ScInv (w : World) (pre : List ImY) (W : World) : Prop := ∃ v, ScI_ w pre W v
theorem scinv_grown {w : World} {pre : List ImY} {A B : World} {row : Option Nat} (h : ScInv w pre A) (hg : A.grownBy B row) (hr : ∀ r, row = some r → w.heap.size ≤ r ∧ ∃ o : Obj, A.heap[r]? = some o ∧ o.isCells = false) : ScInv w pre B := by
  obtain ⟨v, h⟩ := h
  have hk : ∀ (k : Nat) (cur : Array Value) (t : TypeId) (fr : Nat × Nat), A.heap[k]? = some (Obj.cells cur t fr) → B.heap[k]? = A.heap[k]? := fun k cur t fr hc => rf_cells hg (fun r e => (hr r e).2) hc
  refine ⟨v, (hk _ _ _ _ h.lst).trans h.lst, (hk _ _ _ _ h.fin).trans h.fin, h.own.rf hk hg.size (fun i hi => by
    obtain ⟨cur, fr, e⟩ := h.knd (pre[i]'(by simpa using hi)) (List.getElem_mem _)
    exact ⟨cur, _, fr, by rw [List.getElem_map]; exact e⟩), fun y hy => ?_, ?_, Nat.le_trans h.siz hg.size⟩
  · obtain ⟨cur, fr, e⟩ := h.knd y hy
    exact ⟨cur, fr, (hk _ _ _ _ e).trans e⟩
  · exact h.bel.grown hg h.bel.size (fun k e => (hr k e).1)
theorem scinv_own (w : World) (B : Nat) (hB : w.heap.size ≤ B) : OwnFrom B (ScInv w) := fun _ _ _ _ hs hg hr => scinv_grown hs hg (fun r e => ⟨Nat.le_trans hB (hr r e).1, (hr r e).2⟩)
theorem kpu_put {n0 : Nat} {W : World} {l : Nat} {o o' : Obj} (hl : n0 ≤ l) (h : W.heap[l]? = some o) (hc : o.isCells = false) : KpU n0 W (W.putObj l o') :=
  ⟨⟨rfl, rfl, rfl, by simp [World.putObj], fun k hk => World.putObj_heap_other (by omega)⟩, fun k cur t fr hk _ => World.putObj_heap_other (fun e => by
    subst e
    rw [h] at hk
    cases hk
    cases hc)⟩
theorem im_knd {w : World} {B : Nat} {v : Value} {rs : List ImR} {k : Nat} (h : GOwns w B v rs) (hk : v.ownBlock = some k) : ∃ cur, w.heap[k]? = some (Obj.cells cur 48 (0, 0)) := by
  rcases h.2 with ⟨e, _⟩ | ⟨g', cap, cur, e, _, hh, _⟩
  · subst e; cases hk
  · subst e
    obtain rfl : g' = k := by simpa [Value.ownBlock] using hk
    exact ⟨cur, hh⟩
theorem by_knd {w : World} {B g n c : Nat} {xs : List Int} (h : Owns w B (.slice (some ⟨g, 0, none⟩) n c) xs) : ∃ cur, w.heap[g]? = some (Obj.cells cur 5 (0, 0)) := by
  rcases h.2 with ⟨e, _⟩ | ⟨g', cap, cur, e, _, hh, _⟩
  · cases e
  · injection e with e1 _ _
    injection e1 with e1
    injection e1 with e1
    subst e1
    exact ⟨cur, hh⟩
/-- A round of the scan. -/
theorem scinv_step {w W w' : World} {pre : List ImY} {y : ImY} {v v' : Value} {B : Nat} (h : ScI_ w pre W v) (hF : YFact (w.heap.size + 2) pre y W) (ho : IOwn w' (w.heap.size + 2) v' (pre.map yH ++ [yH y])) (hg : (W.alloc (.cells #[.int .i64 y.X.id, .bool y.X.gone, .slice (some ⟨y.g, 0, none⟩) y.X.xs.length y.c] 48)).grownBy w' v.ownBlock) :
    (w'.heap[w.heap.size]? = some (.cells #[v] 23 (0, 0)) ∧ (w'.setCell ⟨w.heap.size, 0, none⟩ v').heap[w.heap.size + 1]? = some (.cells #[.int .i64 (endOf pre : Int)] 3 (0, 0))) ∧
    ScI_ w (pre ++ [y]) ((w'.setCell ⟨w.heap.size, 0, none⟩ v').setCell ⟨w.heap.size + 1, 0, none⟩ (.int .i64 (y.nx : Int))) v' ∧ KeepsFrom B W ((w'.setCell ⟨w.heap.size, 0, none⟩ v').setCell ⟨w.heap.size + 1, 0, none⟩ (.int .i64 (y.nx : Int))) ∧ KpU w.heap.size W ((w'.setCell ⟨w.heap.size, 0, none⟩ v').setCell ⟨w.heap.size + 1, 0, none⟩ (.int .i64 (y.nx : Int))) := by
  have bA : Below W.heap.size W (W.alloc (.cells #[.int .i64 y.X.id, .bool y.X.gone, .slice (some ⟨y.g, 0, none⟩) y.X.xs.length y.c] 48)) := (Below.refl _ _).alloc (Nat.le_refl _) _
  have keep1 : ∀ k, k < W.heap.size → v.ownBlock ≠ some k → w'.heap[k]? = W.heap[k]? := fun k hk hne => (hg.block k (Nat.lt_of_lt_of_le hk bA.size) (fun e => hne e.symm)).trans (bA.block k hk)
  have s3 := h.siz
  have vge : ∀ k, v.ownBlock = some k → w.heap.size + 2 ≤ k := fun k hk => (h.own.row.lt k hk).1
  have l1 : w'.heap[w.heap.size]? = some (.cells #[v] 23 (0, 0)) := (keep1 _ (by omega) (fun e => by have := vge _ e; omega)).trans h.lst
  have e1 : w'.heap[w.heap.size + 1]? = some (.cells #[.int .i64 (endOf pre : Int)] 3 (0, 0)) := (keep1 _ (by omega) (fun e => by have := vge _ e; omega)).trans h.fin
  have l2 : (w'.setCell ⟨w.heap.size, 0, none⟩ v').heap[w.heap.size]? = some (.cells #[v'] 23 (0, 0)) := heap_set l1 0 v'
  have e2 : (w'.setCell ⟨w.heap.size, 0, none⟩ v').heap[w.heap.size + 1]? = some (.cells #[.int .i64 (endOf pre : Int)] 3 (0, 0)) := (Below.heap_setCell _ _ _ _ (show w.heap.size + 1 ≠ w.heap.size by omega)).trans e1
  obtain ⟨V, hV⟩ : ∃ V, V = (w'.setCell ⟨w.heap.size, 0, none⟩ v').setCell ⟨w.heap.size + 1, 0, none⟩ (.int .i64 (y.nx : Int)) := ⟨_, rfl⟩
  have same : ∀ k, k ≠ w.heap.size → k ≠ w.heap.size + 1 → V.heap[k]? = w'.heap[k]? := fun k h1 h2 => by rw [hV]; exact (Below.heap_setCell _ _ _ _ h2).trans (Below.heap_setCell _ _ _ _ h1)
  have szV : V.heap.size = w'.heap.size := by rw [hV]; simp [World.setCell]
  have szW : W.heap.size ≤ V.heap.size := by rw [szV]; exact Nat.le_trans bA.size hg.size
  have osV : V.os = W.os ∧ V.tape = W.tape ∧ V.output = W.output := by
    rw [hV]
    exact ⟨hg.os.trans bA.os, hg.tape.trans bA.tape, hg.output.trans bA.output⟩
  have all : ∀ k, k < W.heap.size → v.ownBlock ≠ some k → k ≠ w.heap.size → k ≠ w.heap.size + 1 → V.heap[k]? = W.heap[k]? := fun k hk h1 h2 h3 => (same k h2 h3).trans (keep1 k hk h1)
  refine ⟨⟨l1, e2⟩, ?_⟩
  rw [← hV]
  refine ⟨⟨?_, ?_, ?_, fun q hq => ?_, ?_, by omega⟩, ⟨szW, fun k o hB hk hc => ?_⟩, ⟨?_, fun k cur t fr hk ht => ?_⟩⟩
  · rw [hV]; exact (Below.heap_setCell _ _ _ _ (show w.heap.size ≠ w.heap.size + 1 by omega)).trans l2
  · rw [hV, heap_set e2 0 _, endOf_snoc]; rfl
  · rw [List.map_append]
    exact ⟨ownsRow_heap ho.row (fun k hk => same k (by have := (ho.row.lt k hk).1; omega) (by have := (ho.row.lt k hk).1; omega)),
      fun i hi => (ho.dat i hi).of_blocks (Nat.le_of_eq szV.symm) (fun x hx => by
        cases hx
        have := (hDat.lt (ho.dat i hi)).1
        exact same _ (by simp only; omega) (by simp only; omega)), ho.far, ho.off⟩
  · have hkn : ∀ q : ImY, (∃ cur fr, W.heap[q.g]? = some (Obj.cells cur 5 fr)) → w.heap.size + 2 ≤ q.g → ∃ cur fr, V.heap[q.g]? = some (Obj.cells cur 5 fr) := fun q hq hge => by
      obtain ⟨cur, fr, hh⟩ := hq
      refine ⟨cur, fr, (all q.g (Array.getElem?_eq_some_iff.1 hh).1 (fun e => ?_) (by omega) (by omega)).trans hh⟩
      obtain ⟨cur', h'⟩ := im_knd h.own.row e
      rw [hh] at h'
      injection h' with h'
      injection h' with _ h' _
      exact absurd h' (by decide)
    rcases List.mem_append.1 hq with hq | hq
    · obtain ⟨i, hi, rfl⟩ := List.getElem_of_mem hq
      have := (hDat.lt (h.own.dat i (by simpa using hi))).1
      rw [List.getElem_map] at this
      exact hkn _ (h.knd _ hq) this
    · obtain rfl := List.mem_singleton.1 hq
      obtain ⟨cur, hh⟩ := by_knd hF.1
      exact hkn _ ⟨cur, _, hh⟩ (hF.1.lt _ rfl).1
  · refine h.bel.trans ⟨osV.1, osV.2.1, osV.2.2, szW, fun k hk => all k (by omega) (fun e => by have := vge k e; omega) (by omega) (by omega)⟩
  · refine (all k (Array.getElem?_eq_some_iff.1 hk).1 (fun e => ?_) (fun e => ?_) (fun e => ?_)).trans hk
    · obtain ⟨cur', h'⟩ := im_knd h.own.row e
      rw [hk] at h'
      cases h'
      cases hc
    · subst e
      rw [h.lst] at hk
      cases hk
      cases hc
    · subst e
      rw [h.fin] at hk
      cases hk
      cases hc
  · exact ⟨osV.1, osV.2.1, osV.2.2, szW, fun k hk => all k (by omega) (fun e => by have := vge k e; omega) (by omega) (by omega)⟩
  · refine all k (Array.getElem?_eq_some_iff.1 hk).1 (fun e => ?_) (fun e => ?_) (fun e => ?_)
    · obtain ⟨cur', h'⟩ := im_knd h.own.row e
      rw [hk] at h'
      injection h' with h'
      injection h' with _ h' _
      subst h'
      exact absurd ht (by decide)
    · subst e
      rw [h.lst] at hk
      injection hk with hk
      injection hk with _ hk _
      subst hk
      exact absurd ht (by decide)
    · subst e
      rw [h.fin] at hk
      injection hk with hk
      injection hk with _ hk _
      subst hk
      exact absurd ht (by decide)
set_option maxRecDepth 100000 in
set_option maxHeartbeats 8000000 in
theorem scan_any (a : Option Addr) (n c : Nat) (xs : List Int) (w : World) (hR : Row w a n xs) (h8 : Bytes8 xs) (hn : n ≤ 65536) (hc : n ≤ c) (hc2 : c ≤ maxLen) (ha : a = none → c = 0) :
    Calls Try.prog 20 #[.slice a n c] w fun e w' => ScRes xs w e w' := by
  refine (callsIn_wide (n := 6)).1 ?_
  have hf1 : Fence.wide.fn 36 := trivial
  have hro : Fence.wide.round = none := rfl
  refine callsIn_of_wp_marks Try.func20 rfl trivial ?_ hro
  simp only [Try.ntmps20, List.size_toArray, List.length_cons, List.length_nil, Nat.reduceAdd, Nat.reduceSub, Array.replicate_succ, Array.replicate_zero, List.push_toArray, List.append_toArray, List.nil_append, List.cons_append]
  gi_wp2_with (gi_at_call 36; refine (callsIn_wide.2 (standingImages_any a n c _)).mono ?_; rintro e w' ⟨rfl, rfl⟩)
  obtain ⟨W0, hW0⟩ : ∃ W0, ((w.alloc (.cells #[.slice none 0 0] 23)).alloc (.cells #[.int .i64 0] 3)).alloc (.cells #[.slice a n c] 22) = W0 := ⟨_, rfl⟩
  have z0 : W0.heap.size = w.heap.size + 3 := by rw [← hW0]; simp
  have bW : Below w.heap.size w W0 := by rw [← hW0]; exact (((Below.refl _ w).alloc (Nat.le_refl _) _).alloc (by simp) _).alloc (by simp; omega) _
  have k0 : W0.heap[w.heap.size]? = some (.cells #[.slice none 0 0] 23 (0, 0)) := by
    rw [← hW0, Below.heap_alloc _ _ _ (by simp; omega), Below.heap_alloc _ _ _ (by simp)]
    exact heap_alloc_new _ _
  have k1 : W0.heap[w.heap.size + 1]? = some (.cells #[.int .i64 0] 3 (0, 0)) := by
    rw [← hW0, Below.heap_alloc _ _ _ (by simp)]
    have := heap_alloc_new (w.alloc (.cells #[.slice none 0 0] 23)) (.cells #[.int .i64 0] 3)
    simpa using this
  have k2 : W0.heap[w.heap.size + 1 + 1]? = some (.cells #[.slice a n c] 22 (0, 0)) := by
    have := heap_alloc_new ((w.alloc (.cells #[.slice none 0 0] 23)).alloc (.cells #[.int .i64 0] 3)) (.cells #[.slice a n c] 22)
    rw [hW0] at this
    simpa using this
  rw [hW0]
  have TEL := images_tells 5 w.heap.size (w.heap.size + 2) (w.heap.size + 1 + 1) a n c xs w W0 (by omega) (by omega) bW k2 (fun u hu => row_grow' hR hu) h8 hn hc hc2 ha (by omega)
  have ST0 : ScInv w [] W0 := ⟨_, k0, k1, IOwn.nil _ _, fun y hy => absurd hy List.not_mem_nil, bW, by omega⟩
  refine wpIn_rangeTells hro (by omega) (gf := 53) (lb := #[.pointer (some ⟨w.heap.size + 1 + 1, 0, none⟩)]) rfl trivial (enters_of Try.func53 (by kernel_rfl) rfl) TEL
    (fun h k => h.trans k) (fun o o' => (KpU.alloc W0 o (by omega)).trans (KpU.alloc _ o' (by simp; omega))) (fun W l o o' hl h hc => kpu_put (by omega) h hc) (fun _ => rfl)
    (fun _ _ _ _ hs _ _ => hs) (fun _ _ _ _ hs _ _ => hs)
    (ScInv w) (fun _ _ _ => False) (scinv_own w _ (by omega)) (fun _ _ _ _ _ hs _ _ => hs) ST0
    (fun pre y a' W => ∃ xb, w.heap.size + 2 ≤ xb ∧ W.heap[xb]? = some (.cells #[.int .i64 y.X.id, .bool y.X.gone, .slice (some ⟨y.g, 0, none⟩) y.X.xs.length y.c] 48 (0, 0)) ∧
      a' = { tmps := #[.slice a n c, undef, .slice none 0 0, .int .i64 0, .pointer (some ⟨w.heap.size, 0, none⟩), .pointer (some ⟨w.heap.size + 1, 0, none⟩), .pointer (some ⟨xb, 0, none⟩), .int .i64 (y.nx : Int), .slice a n c, .func (.func 53) #[] #[.pointer (some ⟨w.heap.size + 1 + 1, 0, none⟩)], iv y.X.id y.X.gone (some ⟨y.g, 0, none⟩) y.X.xs.length y.c, .int .i64 (y.nx : Int), undef, undef, undef, undef, undef, undef, undef], defers := [] } ∧
      YFact (w.heap.size + 2) pre y W)
    ?_ ?assign ?body ?done ?stop
  · rintro pre y a' _ A B row ⟨xb, h1, h2, h3, h4, h5⟩ hg hr
    obtain ⟨cur, hh⟩ := by_knd h4
    refine ⟨xb, h1, (rf_cells hg (fun r e => (hr r e).2) h2).trans h2, h3, ownsRow_heap h4 (fun k hk => ?_), h5⟩
    obtain rfl : y.g = k := by simpa [Value.ownBlock] using hk
    exact rf_cells hg (fun r e => (hr r e).2) hh
  case assign =>
    intro l pre y W K hi hF hK
    have s3 := (show w.heap.size + 3 ≤ W.heap.size from by obtain ⟨_, h⟩ := hi; exact h.siz)
    have bA : Below W.heap.size W (W.alloc (.cells #[.int .i64 y.X.id, .bool y.X.gone, .slice (some ⟨y.g, 0, none⟩) y.X.xs.length y.c] 48)) := (Below.refl _ _).alloc (Nat.le_refl _) _
    have Z := hide (hK { tmps := #[.slice a n c, undef, .slice none 0 0, .int .i64 0, .pointer (some ⟨w.heap.size, 0, none⟩), .pointer (some ⟨w.heap.size + 1, 0, none⟩), .pointer (some ⟨W.heap.size, 0, none⟩), .int .i64 (y.nx : Int), .slice a n c, .func (.func 53) #[] #[.pointer (some ⟨w.heap.size + 1 + 1, 0, none⟩)], iv y.X.id y.X.gone (some ⟨y.g, 0, none⟩) y.X.xs.length y.c, .int .i64 (y.nx : Int), undef, undef, undef, undef, undef, undef, undef], defers := [] } (W.alloc (.cells #[.int .i64 y.X.id, .bool y.X.gone, .slice (some ⟨y.g, 0, none⟩) y.X.xs.length y.c] 48))
      ((KeepsOthers.alloc _ _).from _) (KpU.alloc _ _ (by omega)) (scinv_grown (row := none) hi (rb_grownBy_below bA) (fun r e => by cases e)) ⟨W.heap.size, by omega, heap_alloc_new _ _, rfl, owns_below hF.1 bA, hF.2⟩)
    clear hK hF hi
    unfold yV iv
    unfold iv at Z
    gi_wp2
    exact unhide Z
  case body =>
    rintro l pre y a' W hl ⟨v, hi⟩ ⟨xb, hxb, hkx, rfl, hF⟩
    have s3 := hi.siz
    have c0 : W.cell? ⟨w.heap.size, 0, none⟩ = some v := (heap_at hi.lst 0).1
    have x0 : W.cell? ⟨xb, 0, none⟩ = some (.int .i64 y.X.id) := (heap_at hkx 0).1
    have x1 : W.cell? ⟨xb, 1, none⟩ = some (.bool y.X.gone) := (heap_at hkx 1).1
    have x2 : W.cell? ⟨xb, 2, none⟩ = some (.slice (some ⟨y.g, 0, none⟩) y.X.xs.length y.c) := (heap_at hkx 2).1
    have f0 : W.frozen? ⟨w.heap.size, 0, none⟩ = false := (heap_at hi.lst 0).2
    obtain ⟨v', w', hr', ho', hg', hv'⟩ := im_app (h := yH y) hi.own (hdat_of_owns (h := yH y) hF.1) (fun i hlt e => by
        have := hF.2.1 (pre[i]'(by simpa using hlt)) (List.getElem_mem _)
        rw [List.getElem_map] at e
        exact this e) (fun e => by
        obtain ⟨cur', h'⟩ := im_knd hi.own.row e
        obtain ⟨cur, hh⟩ := by_knd hF.1
        rw [show (yH y).g = y.g from rfl, hh] at h'
        injection h' with h'
        injection h' with _ h' _
        exact absurd h' (by decide)) (by have := hF.2.2; simpa using (by omega : pre.length ≤ 1000000)) (by omega)
    unfold yH at hr' hg'
    simp only at hr' hg'
    obtain ⟨⟨q0, q1⟩, hst, hkf, hku⟩ := scinv_step (B := W0.heap.size) hi hF ho' hg'
    have c1 : w'.cell? ⟨w.heap.size, 0, none⟩ = some v := (heap_at q0 0).1
    have f1 : w'.frozen? ⟨w.heap.size, 0, none⟩ = false := (heap_at q0 0).2
    have c2 : (w'.setCell ⟨w.heap.size, 0, none⟩ v').cell? ⟨w.heap.size + 1, 0, none⟩ = some (.int .i64 (endOf pre : Int)) := (heap_at q1 0).1
    have f2 : (w'.setCell ⟨w.heap.size, 0, none⟩ v').frozen? ⟨w.heap.size + 1, 0, none⟩ = false := (heap_at q1 0).2
    obtain ⟨av, cv, hvv⟩ := im_slice ho'
    rw [show (pre.map yH ++ [yH y]).length = pre.length + 1 by simp] at hvv
    subst hvv
    have Z := hide (And.intro hkf (And.intro hku (show ScInv w (pre ++ [y]) _ from ⟨_, hst⟩)))
    clear hst hkf hku ho' hg' hi hF q0 q1 hkx
    unfold iv
    gi_wp2_with (gi_at_builtin; refine sc_wpAppIn rfl (.tmp 12) (.tmp 14) 23 rfl _ _ _ w' rfl rfl hr' ?_)
    exact unhide Z
  case done =>
    rintro D ys W hD hFin ⟨v, hi⟩ hK
    have E := hide (scan_end hFin.1 hFin.2)
    have c0 : W.cell? ⟨w.heap.size, 0, none⟩ = some v := (heap_at hi.lst 0).1
    have c1 : W.cell? ⟨w.heap.size + 1, 0, none⟩ = some (.int .i64 (endOf ys : Int)) := (heap_at hi.fin 0).1
    have hKD : W.drew.heap[D]? = some (.deferred (some [])) := hK
    have HI := hide (show ScInv w ys (W.drew.putObj D (.deferred none)) from scinv_grown (row := some D) (scinv_grown (row := none) ⟨v, hi⟩ (rb_grownBy_below (Below.refl _ _).drew) (fun r e => by cases e)) (grownBy_putObj' _ D (.deferred none)) (fun r e => by cases e; exact ⟨by omega, _, hKD, rfl⟩))
    have VV := hide (show ∀ v', ScI_ w ys (W.drew.putObj D (.deferred none)) v' → v' = v from fun v' h' => by
      have h1 := h'.lst
      have h2 : (W.drew.putObj D (.deferred none)).heap[w.heap.size]? = W.drew.heap[w.heap.size]? := World.putObj_heap_other (by omega)
      rw [h2] at h1
      have h3 := (show W.drew.heap[w.heap.size]? = _ from hi.lst).symm.trans h1
      injection h3 with h3
      injection h3 with h3 _ _
      simpa using h3.symm)
    clear hi hFin
    gi_wp2
    gi_region
    all_goals
      gi_wp2
      refine ⟨by simp, .inl ⟨_, _, rfl, run_takeDeferred hKD, ?_⟩⟩
      refine ⟨.tuple #[v, .int .i64 (endOf ys : Int)], by simp [results, Try.results20], ?_⟩
      obtain ⟨v', h'⟩ := unhide HI
      obtain rfl := unhide VV v' h'
      exact ⟨v', ys.map yH, by rw [unhide E], h'.own.down (by omega), by rw [unhide E, List.map_map]; rfl, h'.bel⟩
  case stop =>
    rintro D co pre W _ _ h _
    exact h.elim
set_option maxHeartbeats 2000000 in
theorem implScanImages_any (a : Option Addr) (n c : Nat) (xs : List Int) (w : World) (hR : Row w a n xs) (h8 : Bytes8 xs) (hn : n ≤ 1048576) (hc : n ≤ c) (hc2 : c ≤ maxLen) (ha : a = none → c = 0) :
    Calls Try.prog 7 #[.slice a n c] w fun e w' => SiRes xs w e w' := by
  obtain rfl := hR.1
  by_cases h6 : xs.length ≤ 65536
  · have g6 : ¬ (65536 : Int) < (xs.length : Int) := by omega
    have C := hide (scan_any a xs.length c xs w hR h8 h6 hc hc2 ha)
    clear hR h8
    go_enter Try.func7, Try.ntmps7
    go_wp2_with fail
    refine (unhide C).mono ?_
    rintro e w1 ⟨v, hs, rfl, ho, he, hb⟩
    have Z := hide (si_some h6 ho he hb)
    clear C ho he hb
    go_wp2_with fail
    refine bodyPost_ret (v := .tuple #[v, .int .i64 ((scanB xs).2 : Int), .int .i64 0]) (by simp [results, Try.results7, go_sem, *]) rfl ?_
    exact unhide Z
  · have g6 : (65536 : Int) < (xs.length : Int) := by omega
    have Z := hide (si_long h6 (IOwn.nil w w.heap.size) (Below.refl _ _))
    clear hR h8
    go_enter Try.func7, Try.ntmps7
    go_wp2_with fail
    refine bodyPost_ret (v := .tuple #[.slice none 0 0, .int .i64 0, .int .i64 2]) (by simp [results, Try.results7, go_sem, *]) rfl ?_
    exact unhide Z
end Go.Proofs.Ytpmbpldjjnjafaa
