/-
  A range over a function whose iterator tells of memory: of what it hands over, and of what lies there at its end.
-/
import Derived.Test.YtpmbpldjjnjafaaWrT
import Derived.RangeFuncNested
import Derived.RangeFuncBound
import Derived.RangeFuncCalls
import Derived.RangeFuncLeaves
import Derived.Shelf.Abstract
import Derived.Shelf.RegionOpen
import Derived.OwnWalkIn
import Derived.TacticsInMore
import Derived.LoopNIn
import Derived.LoopIn
namespace Go.Proofs.Ytpmbpldjjnjafaa
open Go.RowKit Go.Shelf

/-- An iterator's word: of each thing that it hands over a fact holds as it does so; what holds at its end, or where a round has said that no more is wanted. -/
def SeqTells {α : Type} (F : Fence) (n : Nat) (P : Program) (g : Nat) (lb : Array Value) (encs : α → Array Value) (Kp : World → World → Prop) (Fact : List α → α → World → Prop) (Fin FinX : List α → World → Prop) (w : World) : Prop :=
  ∀ (l : Nat) (J Jx : List α → World → Prop) (W : World), Below w.heap.size w W → Kp w W → AbidesFrom W.heap.size J → AbidesFrom W.heap.size Jx →
    (∀ pre x W1, J pre W1 → Fact pre x W1 → YieldAt F (n - 1) P l (encs x) W1 fun e W2 =>
      (e = .returned (.bool true) ∧ J (pre ++ [x]) W2 ∧ Kp W1 W2) ∨ (e = .returned (.bool false) ∧ Jx (pre ++ [x]) W2 ∧ Kp W1 W2)) →
    J [] W →
    CallsIn F n P g (#[.func (.yield l) #[] #[]] ++ lb) W fun e W2 => (∃ v, e = .returned v) ∧ ((∃ xs, Fin xs W2 ∧ J xs W2) ∨ ∃ pre, FinX pre W2 ∧ Jx pre W2)
/-- What a round's body owes. -/
def rfPost {α : Type} (B : Nat) (Kp : World → World → Prop) (I : List α → World → Prop) (Ix : Code → List α → World → Prop) (xs : List α) (W : World) : Exit → Act → World → Prop
  | .normal, _, W' => KeepsFrom B W W' ∧ Kp W W' ∧ I xs W'
  | .ret, _, W' => KeepsFrom B W W' ∧ Kp W W' ∧ Ix .ret xs W'
  | .exit id, _, W' => KeepsFrom B W W' ∧ Kp W W' ∧ Ix (.exit id) xs W'
  | .goto t, _, W' => KeepsFrom B W W' ∧ Kp W W' ∧ Ix (.goto t) xs W'
  | .panic _, _, _ => False
  | .outgrown, _, _ => False
/-- The loop's two blocks of its own, the record in a state. -/
structure RfAt (B : Nat) (r : Loop) (W : World) : Prop where
  rec_ : W.heap[B + 1]? = some (.loop r)
  def_ : W.heap[B]? = some (.deferred (some []))
theorem RfAt.lt {B : Nat} {r : Loop} {W : World} (h : RfAt B r W) : B + 1 < W.heap.size := (Array.getElem?_eq_some_iff.1 h.rec_).1
theorem RfAt.keep {B : Nat} {r : Loop} {W W' : World} (h : RfAt B r W) (k : KeepsFrom B W W') : RfAt B r W' := ⟨k.same _ _ (by omega) h.rec_ rfl, k.same _ _ (Nat.le_refl _) h.def_ rfl⟩
theorem RfAt.put {B : Nat} {r : Loop} {W : World} (h : RfAt B r W) (r' : Loop) : RfAt B r' (W.putObj (B + 1) (.loop r')) := ⟨World.putObj_heap_same h.lt, (World.putObj_heap_other (by omega)).trans h.def_⟩
theorem RfAt.grown {B C : Nat} {r : Loop} {W W' : World} {row : Option Nat} (h : RfAt B r W) (hg : W.grownBy W' row) (hr : ∀ k, row = some k → C ≤ k ∧ ∃ o : Obj, W.heap[k]? = some o ∧ o.isWalk = true) : RfAt B r W' :=
  ⟨(grownBy_keeps hg (fun k e => (hr k e).2) h.rec_ rfl).trans h.rec_, (grownBy_keeps hg (fun k e => (hr k e).2) h.def_ rfl).trans h.def_⟩
theorem rf_steady {α : Type} {B C : Nat} {I : List α → World → Prop} (h : OwnFrom B I) (hc : B ≤ C) {s : List α} {W W' : World} {row : Option Nat} (hs : I s W) (hg : W.grownBy W' row) (hr : ∀ k, row = some k → C ≤ k ∧ ∃ o : Obj, W.heap[k]? = some o ∧ o.isWalk = true) : I s W' :=
  h s W W' row hs hg fun k e => by
    obtain ⟨h1, o, h2, h3⟩ := hr k e
    exact ⟨by omega, o, h2, Obj.not_cells_of_walk h3⟩
/-- THE LAW. -/
theorem wpIn_rangeTells {F : Fence} {n : Nat} {P : Program} {α : Type} {g : Operand} {ps : Array Tmp} {assign body : Code} {Q : Exit → Act → World → Prop} {a : Act} {w : World}
    (hro : F.round = none) (h1 : 1 ≤ n) {gf : Nat} {lb : Array Value} (hg : a.eval g = .func (.func gf) #[] lb) (hFg : F.fn gf) (eg : ∀ args w, (callFunc gf args).run P w = .ok (.enter gf args) w)
    {encs : α → Array Value} {Kp : World → World → Prop} {Fact : List α → α → World → Prop} {Fin FinX : List α → World → Prop} (hseq : SeqTells F (n - 1) P gf lb encs Kp Fact Fin FinX w)
    (kt : ∀ {A B C : World}, Kp A B → Kp B C → Kp A C) (ka : ∀ o o' : Obj, Kp w ((w.alloc o).alloc o')) (kb : ∀ (W : World) (l : Nat) (o o' : Obj), w.heap.size ≤ l → W.heap[l]? = some o → o.isCells = false → Kp W (W.putObj l o')) (hps : ∀ x, (encs x).size = ps.size)
    (hFin : OwnFrom w.heap.size Fin) (hFinX : OwnFrom w.heap.size FinX)
    (I : List α → World → Prop) (Ix : Code → List α → World → Prop) (hI : OwnFrom w.heap.size I) (hIx : ∀ c, OwnFrom w.heap.size (Ix c)) (h0 : I [] w) (Ax : List α → α → Act → World → Prop) (hAx : ∀ pre x a', OwnFrom w.heap.size (fun (_ : Unit) W => Ax pre x a' W))
    (hassign : ∀ (l : Nat) (pre : List α) (x : α) (W : World) (K : Act → World → Prop), I pre W → Fact pre x W → (∀ a' W', KeepsFrom w.heap.size W W' → Kp W W' → I pre W' → Ax pre x a' W' → K a' W') →
      assign.wpIn (F.inRound l) (n - 1 - 1) P (Exit.then K (fun _ _ _ => False)) { tmps := (ps.zip (encs x)).foldl (fun t (p, v) => t.setIfInBounds p v) a.tmps, defers := [] } W)
    (hbody : ∀ (l : Nat) (pre : List α) (x : α) (a' : Act) (W : World), w.heap.size ≤ l → I pre W → Ax pre x a' W → body.wpIn (F.inRound l) (n - 1 - 1) P (rfPost w.heap.size Kp I Ix (pre ++ [x]) W) a' W)
    (hdone : ∀ (D : Nat) (xs : List α) (W : World), w.heap.size ≤ D → Fin xs W → I xs W → W.heap[D]? = some (.deferred (some [])) → Q .normal { a with defers := { target := .collected D, args := #[] } :: a.defers } W)
    (hstop : ∀ (D : Nat) (c : Code) (pre : List α) (W : World), w.heap.size ≤ D → FinX pre W → Ix c pre W → W.heap[D]? = some (.deferred (some [])) → c.wpIn F n P Q { a with defers := { target := .collected D, args := #[] } :: a.defers } W) :
    (Code.rangeFunc g ps assign body).wpIn F n P Q a w := by
  refine wpIn_rangeFunc ?_
  intro fn hfn
  rw [hro]
  obtain ⟨R, hR⟩ : ∃ R : LoopState → Option Code → Loop, R = fun st pe => { state := st, pending := pe, fn, tmps := a.tmps, params := ps, assign, body, defers := w.heap.size } := ⟨_, rfl⟩
  obtain ⟨V, hV⟩ : ∃ V, (w.alloc (.deferred (some []))).alloc (.loop (R .ready none)) = V := ⟨_, rfl⟩
  have sV : V.heap.size = w.heap.size + 1 + 1 := by rw [← hV]; simp
  have atV : RfAt w.heap.size (R .ready none) V := by
    rw [← hV]
    refine ⟨?_, (Below.heap_alloc _ _ _ (by simp)).trans (World.alloc_heap_new w _)⟩
    have := World.alloc_heap_new (w.alloc (.deferred (some []))) (.loop (R .ready none))
    rwa [World.size_alloc] at this
  have bV : Below w.heap.size w V := by rw [← hV]; exact ((Below.refl _ w).alloc (Nat.le_refl _) _).alloc (by simp) _
  have kV : Kp w V := by rw [← hV]; exact ka _ _
  have iV : I [] V := by rw [← hV]; exact hI.alloc _ (hI.alloc _ h0)
  refine ⟨w.heap.size + 1, [{ target := .collected w.heap.size, args := #[] }], V, { target := .fn (.func gf) lb, args := #[.func (.yield (w.heap.size + 1)) #[] #[]] }, V, gf,
    #[.func (.yield (w.heap.size + 1)) #[] #[]] ++ lb, V, ?_, ?_, ?_, ?_, fun _ => h1, ?_⟩
  · rw [← hV, hR]; exact run_enterLoop_outer _ _ _ _ _
  · simp only [resolve, hg]
    simp [go_sem]
  · intro f' hf'; simp [Target.leads] at hf'; subst hf'; exact hFg
  · simp [invoke, go_sem, eg]
  have hword := hseq (w.heap.size + 1) (fun pre W => I pre W ∧ RfAt w.heap.size (R .ready none) W) (fun pre W => ∃ c, Ix c pre W ∧ RfAt w.heap.size (R .done (some c)) W) V bV kV
    (fun s A B row hs hgr hr => ⟨rf_steady hI (by omega) hs.1 hgr hr, hs.2.grown hgr hr⟩)
    (fun s A B row hs hgr hr => by
      obtain ⟨c, hc, hl⟩ := hs
      exact ⟨c, rf_steady (hIx c) (by omega) hc hgr hr, hl.grown hgr hr⟩)
    (fun pre x W hJ hF => by
      obtain ⟨hi, hl⟩ := hJ
      have hy := run_yield (P := P) (args := encs x) hl.rec_ (by rw [hR]; exact hps x)
      rw [hR] at hy
      refine ⟨fn, _, assign, body, hy, roundIn_of_wpIn hfn (hassign _ pre x W _ hi hF ?_)⟩
      clear hy
      intro a' Wa keepA kpA hia hax
      have atA := hl.keep keepA
      refine ⟨_, run_beginRound atA.rec_ (by rw [hR]), ?_⟩
      have atB := atA.put { R .ready none with state := .busy }
      have kpB : Kp Wa (Wa.putObj (w.heap.size + 1) (.loop { R .ready none with state := .busy })) := kb _ _ _ _ (by omega) atA.rec_ rfl
      refine wpIn_mono (hbody _ pre x a' _ (by omega) (hI.putObj _ hia (by omega) atA.rec_ rfl) ((hAx pre x a').putObj (s := ()) _ hax (by omega) atA.rec_ rfl)) ?_
      have close : ∀ (jump : Option Code) (W3 : World), KeepsFrom w.heap.size (Wa.putObj (w.heap.size + 1) (.loop { R .ready none with state := .busy })) W3 →
          (Instr.endRound (w.heap.size + 1) jump).run P W3 = .ok (.bool jump.isNone) (W3.putObj (w.heap.size + 1) (.loop (R (if jump.isNone then .ready else .done) jump))) ∧ RfAt w.heap.size { R .ready none with state := .busy } W3 := fun jump W3 hk3 => by
        have at3 := atB.keep hk3
        have := run_endRound (P := P) jump at3.rec_
        rw [hR] at this at3 ⊢
        exact ⟨this, at3⟩
      have leave : ∀ (c : Code) (W3 : World), KeepsFrom w.heap.size (Wa.putObj (w.heap.size + 1) (.loop { R .ready none with state := .busy })) W3 → Kp (Wa.putObj (w.heap.size + 1) (.loop { R .ready none with state := .busy })) W3 → Ix c (pre ++ [x]) W3 →
          ∃ W4, (Instr.endRound (w.heap.size + 1) (some c)).run P W3 = .ok (.bool false) W4 ∧ (Ix c (pre ++ [x]) W4 ∧ RfAt w.heap.size (R .done (some c)) W4) ∧ Kp W W4 := fun c W3 hk3 hp3 hi3 => by
        obtain ⟨hr, at3⟩ := close (some c) W3 hk3
        exact ⟨_, hr, ⟨(hIx c).putObj _ hi3 (by omega) at3.rec_ rfl, at3.put _⟩, kt kpA (kt (kt kpB hp3) (kb _ _ _ _ (by omega) at3.rec_ rfl))⟩
      rintro e a3 W3 hp
      cases e with
      | normal =>
        obtain ⟨hk3, hp3, hi3⟩ := hp
        obtain ⟨hr, at3⟩ := close none W3 hk3
        exact ⟨_, _, hr, .inl ⟨rfl, ⟨hI.putObj _ hi3 (by omega) at3.rec_ rfl, at3.put _⟩, kt kpA (kt (kt kpB hp3) (kb _ _ _ _ (by omega) at3.rec_ rfl))⟩⟩
      | ret =>
        obtain ⟨W4, hr, hi4, hk4⟩ := leave _ W3 hp.1 hp.2.1 hp.2.2
        exact ⟨_, _, hr, .inr ⟨rfl, ⟨_, hi4⟩, hk4⟩⟩
      | exit id =>
        obtain ⟨W4, hr, hi4, hk4⟩ := leave _ W3 hp.1 hp.2.1 hp.2.2
        exact ⟨_, _, hr, .inr ⟨rfl, ⟨_, hi4⟩, hk4⟩⟩
      | goto t =>
        obtain ⟨W4, hr, hi4, hk4⟩ := leave _ W3 hp.1 hp.2.1 hp.2.2
        exact ⟨_, _, hr, .inr ⟨rfl, ⟨_, hi4⟩, hk4⟩⟩
      | panic ch => exact hp.elim
      | outgrown => exact hp.elim)
    ⟨iV, atV⟩
  refine hword.mono ?_
  rintro e W2 ⟨⟨v, rfl⟩, (⟨xs, hS, hi, hl⟩ | ⟨pre, hS, c, hi, hl⟩)⟩
  · exact ⟨none, _, by have := run_endLoop (P := P) hl.rec_ (by rw [hR]; simp); rw [hR] at this; exact this, hdone _ xs _ (Nat.le_refl _) (hFin.putObj _ hS (by omega) hl.rec_ rfl) (hI.putObj _ hi (by omega) hl.rec_ rfl) ((World.putObj_heap_other (by omega)).trans hl.def_)⟩
  · exact ⟨some c, _, by have := run_endLoop (P := P) hl.rec_ (by rw [hR]; simp); rw [hR] at this; exact this, hstop _ c pre _ (Nat.le_refl _) (hFinX.putObj _ hS (by omega) hl.rec_ rfl) ((hIx c).putObj _ hi (by omega) hl.rec_ rfl) ((World.putObj_heap_other (by omega)).trans hl.def_)⟩
end Go.Proofs.Ytpmbpldjjnjafaa
