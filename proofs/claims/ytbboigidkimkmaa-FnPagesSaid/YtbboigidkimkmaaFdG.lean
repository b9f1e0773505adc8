/-
  A drawn page in memory, and that it is right.
-/
import Derived.Test.YtbboigidkimkmaaFdE
import Derived.Test.YtbboigidkimkmaaPgB
import Derived.Test.YtbboigidkimkmaaFdF
import Derived.Test.YtbboigidkimkmaaPgK
namespace Go.Proofs.Ytbboigidkimkmaa
open Go.RowKit

/-! ### Plain facts -/
theorem BaseOK.put {lo hi : ByteArray} {es : List EntD} (h : BaseOK lo hi es) {e : EntD} (he : okEnt lo hi e = true) : BaseOK lo hi (putE es e false) := by
  refine ⟨stepE_rise h.1 _, fun x hx => ?_⟩
  have hk : (⟨if false = true then 2 else 1, e.k, e.v, 0⟩ : DelD).kind = 1 := rfl
  unfold putE at hx
  cases hf : found es e.k with
  | false =>
    rw [stepE_put_new hk hf] at hx
    rcases List.mem_append.1 hx with hx | hx
    · exact h.2 x (List.mem_of_mem_take hx)
    · rcases List.mem_cons.1 hx with rfl | hx
      · exact he
      · exact h.2 x (List.mem_of_mem_drop hx)
  | true =>
    rw [stepE_put_old hk hf] at hx
    rcases List.mem_or_eq_of_mem_set hx with hx | rfl
    · exact h.2 x hx
    · exact he
theorem putE_len (es : List EntD) (e : EntD) : (putE es e false).length ≤ es.length + 1 := stepE_len es _
def LowOK (lo : ByteArray) : Prop := lo.size ≤ 1 ∧ ltK lo ⟨#[104]⟩ = true ∧ ltK lo ⟨#[105]⟩ = true ∧ ltK lo ⟨#[106]⟩ = true
theorem low_none : LowOK ⟨#[]⟩ := ⟨by decide, by decide +kernel, by decide +kernel, by decide +kernel⟩
theorem low_a : LowOK ⟨#[97]⟩ := ⟨by decide, by decide +kernel, by decide +kernel, by decide +kernel⟩
theorem low_b : LowOK ⟨#[98]⟩ := ⟨by decide, by decide +kernel, by decide +kernel, by decide +kernel⟩
theorem low_c : LowOK ⟨#[99]⟩ := ⟨by decide, by decide +kernel, by decide +kernel, by decide +kernel⟩
theorem bounds_none {lo : ByteArray} (h : LowOK lo) : okBounds lo ⟨#[]⟩ (-1) = true := by
  unfold okBounds
  rw [decide_eq_true (show lo.size ≤ 40 by have := h.1; omega), decide_eq_true (show (⟨#[]⟩ : ByteArray).size ≤ 40 by decide), if_pos (by decide +kernel)]
  rfl
def HighOK (hi : ByteArray) : Prop := hi = ⟨#[104]⟩ ∨ hi = ⟨#[105]⟩ ∨ hi = ⟨#[106]⟩
theorem bounds_some {lo hi : ByteArray} {r : Int} (h : LowOK lo) (hh : HighOK hi) (h0 : 0 ≤ r) (h1 : r < 5) : okBounds lo hi r = true := by
  unfold okBounds
  have hr : idK r = true := by unfold idK; rw [decide_eq_true]; omega
  rw [decide_eq_true (show lo.size ≤ 40 by have := h.1; omega), hr]
  rcases hh with rfl | rfl | rfl
  · rw [h.2.1, decide_eq_true (show (⟨#[104]⟩ : ByteArray).size ≤ 40 by decide), if_neg (by decide +kernel)]; rfl
  · rw [h.2.2.1, decide_eq_true (show (⟨#[105]⟩ : ByteArray).size ≤ 40 by decide), if_neg (by decide +kernel)]; rfl
  · rw [h.2.2.2, decide_eq_true (show (⟨#[106]⟩ : ByteArray).size ≤ 40 by decide), if_neg (by decide +kernel)]; rfl
theorem okPage_of {lo hi : ByteArray} {r : Int} {es : List EntD} {ds : List DelD} (h1 : okBounds lo hi r = true) (h2 : BaseOK lo hi es) (h3 : okChain lo hi ds = true) (h4 : es.length ≤ 6) (h5 : ds.length ≤ 6) : okPage lo hi r es ds = true := by
  have := entsE_len es ds
  unfold okPage
  rw [h1, okBase_of h2, h3, decide_eq_true (show es.length ≤ 32 by omega), decide_eq_true (show ds.length ≤ 12 by omega), decide_eq_true (show (entsE es ds).length ≤ 32 by omega)]
  rfl
/-! ### In memory -/
theorem own_apart2 {w : World} {B C : Nat} {v v2 : Value} {es : List EntD} {ds : List DelD} (h1 : EOwns w B v es) (h2 : DOwns w C v2 ds) : ∀ i, v.ownBlock = some i → ¬ v2.ownBlock = some i := by
  intro i e1 e2
  rcases h1.2 with ⟨rfl, _⟩ | ⟨g, cap, cur, rfl, _, hh, _⟩
  · cases e1
  · rcases h2.2 with ⟨rfl, _⟩ | ⟨g2, cap2, cur2, rfl, _, hh2, _⟩
    · cases e2
    · simp [Value.ownBlock] at e1 e2
      subst e1
      subst e2
      rw [hh] at hh2
      injection hh2 with hh2
      injection hh2 with _ hh2 _
      exact absurd hh2 (by decide)
theorem Wrote.wr {p : Nat} {w w' : World} (h : Wrote p w w') : Wr (fun i => i = p) w w' := ⟨h.os, h.tape, h.output, h.size, fun k hk hp => h.block k hp hk⟩
/-- A page that is being drawn. -/
structure DgSt (w wr : World) (p : Nat) (a : Option Addr) (n c : Nat) (xs : List Int) (K : Int) (lo hi : ByteArray) (r : Int) (vb vc : Value) (es : List EntD) (ds : List DelD) : Prop where
  k1 : wr.heap[w.heap.size]? = some (.cells #[.string ⟨#[]⟩, .string ⟨#[]⟩, .int .i64 0, .slice none 0 0, .slice none 0 0] 26 (0, 0))
  k2 : wr.heap[w.heap.size + 1]? = some (.cells #[.string lo, .string hi, .int .i64 r, vb, vc] 26 (0, 0))
  oe : EOwns wr (w.heap.size + 2) vb es
  od : DOwns wr (w.heap.size + 2) vc ds
  src : Src wr p a n c xs K
  wt : Wrote p w wr
  lt : p < w.heap.size
  far : ∀ x, a = some x → 0 < n → x.block < w.heap.size
theorem owns_wr2 {P : Nat → Prop} {w w' : World} {B e s n : Nat} {v : Value} {vs : List Value} (h : w.ownsRow B e s v n vs) (hw : Wr P w w') (hp : ∀ i, v.ownBlock = some i → ¬ P i) : w'.ownsRow B e s v n vs :=
  ownsRow_heap h (fun g hg => hw.block g (h.lt g hg).2 (hp g hg))
theorem loc_wr2 {P : Nat → Prop} {w w' : World} {b : Nat} {o : Obj} (h : w.heap[b]? = some o) (hw : Wr P w w') (hp : ¬ P b) : w'.heap[b]? = some o := (hw.block b (heap_ltD h) hp).trans h
/-- The source has gone on. -/
theorem DgSt.draw {w wr w1 : World} {p : Nat} {a : Option Addr} {n c : Nat} {xs : List Int} {K K' : Int} {lo hi : ByteArray} {r : Int} {vb vc : Value} {es : List EntD} {ds : List DelD} (h : DgSt w wr p a n c xs K lo hi r vb vc es ds) (hs : Src w1 p a n c xs K') (hw : Wrote p wr w1) : DgSt w w1 p a n c xs K' lo hi r vb vc es ds :=
  have hl := h.lt
  ⟨loc_wr2 h.k1 hw.wr (by omega), loc_wr2 h.k2 hw.wr (by omega), owns_wr2 h.oe hw.wr (fun i hi e => by have := (h.oe.lt i hi).1; omega), owns_wr2 h.od hw.wr (fun i hi e => by have := (h.od.lt i hi).1; omega), hs, h.wt.trans hw, hl, h.far⟩
theorem wrote_below {p : Nat} {w w' : World} (h : Below w.heap.size w w') : Wrote p w w' := ⟨h.os, h.tape, h.output, h.size, fun k _ hl => h.block k hl⟩
theorem DgSt.below {w wr w1 : World} {p : Nat} {a : Option Addr} {n c : Nat} {xs : List Int} {K : Int} {lo hi : ByteArray} {r : Int} {vb vc : Value} {es : List EntD} {ds : List DelD} (h : DgSt w wr p a n c xs K lo hi r vb vc es ds) (hb : Below wr.heap.size wr w1) : DgSt w w1 p a n c xs K lo hi r vb vc es ds :=
  h.draw (h.src.below hb) (wrote_below hb)
theorem DgSt.more {w wr : World} {p : Nat} {a : Option Addr} {n c : Nat} {xs : List Int} {K K' : Int} {lo hi : ByteArray} {r : Int} {vb vc : Value} {es : List EntD} {ds : List DelD} (h : DgSt w wr p a n c xs K lo hi r vb vc es ds) (hk : K ≤ K') : DgSt w wr p a n c xs K' lo hi r vb vc es ds :=
  ⟨h.k1, h.k2, h.oe, h.od, h.src.more hk, h.wt, h.lt, h.far⟩
theorem wr_one (w : World) (b o : Nat) (v : Value) : Wr (fun i => i = b) w (w.setCell ⟨b, o, none⟩ v) := ⟨rfl, rfl, rfl, by simp [World.setCell], fun k _ hk => Below.heap_setCell _ _ _ _ hk⟩
theorem DgSt.srcset {w wr : World} {p : Nat} {a : Option Addr} {n c : Nat} {xs : List Int} {K : Int} {lo hi : ByteArray} {r : Int} {vb vc : Value} {es : List EntD} {ds : List DelD} (h : DgSt w wr p a n c xs K lo hi r vb vc es ds) {w1 : World} (hs : Src w1 p a n c xs K) (j : Nat) (v : Value) : Src (w1.setCell ⟨w.heap.size + 1, j, none⟩ v) p a n c xs K :=
  have hl := h.lt
  hs.set (by omega) (fun x hx hn => by have := h.far x hx hn; omega) j v
/-- A bound stored. -/
theorem DgSt.set {w wr : World} {p : Nat} {a : Option Addr} {n c : Nat} {xs : List Int} {K : Int} {lo hi lo' hi' : ByteArray} {r r' : Int} {vb vc : Value} {es : List EntD} {ds : List DelD} (h : DgSt w wr p a n c xs K lo hi r vb vc es ds) (j : Nat) (v : Value) (e : (#[.string lo, .string hi, .int .i64 r, vb, vc] : Array Value).setIfInBounds j v = #[.string lo', .string hi', .int .i64 r', vb, vc]) : DgSt w (wr.setCell ⟨w.heap.size + 1, j, none⟩ v) p a n c xs K lo' hi' r' vb vc es ds := by
  have hl := h.lt
  have hc := wr_one wr (w.heap.size + 1) j v
  have k2 := heap_set h.k2 j v
  rw [e] at k2
  exact ⟨loc_wr2 h.k1 hc (by omega), k2, owns_wr2 h.oe hc (fun i hi e => by have := (h.oe.lt i hi).1; omega), owns_wr2 h.od hc (fun i hi e => by have := (h.od.lt i hi).1; omega), h.srcset h.src j v, h.wt.loc (by omega) j v, hl, h.far⟩
/-- Another list of entries. -/
theorem DgSt.base {w wr w3 : World} {p : Nat} {a : Option Addr} {n c : Nat} {xs : List Int} {K : Int} {lo hi : ByteArray} {r : Int} {vb vc v' : Value} {es es' : List EntD} {ds : List DelD} (h : DgSt w wr p a n c xs K lo hi r vb vc es ds) (hb : Below wr.heap.size wr w3) (ho : EOwns w3 wr.heap.size v' es') : DgSt w (w3.setCell ⟨w.heap.size + 1, 3, none⟩ v') p a n c xs K lo hi r v' vc es' ds := by
  have hl := h.lt
  have hz := heap_ltD h.k2
  have h3 := h.below hb
  have hc := wr_one w3 (w.heap.size + 1) 3 v'
  have k2 := heap_set h3.k2 3 v'
  exact ⟨loc_wr2 h3.k1 hc (by omega), by simpa using k2, ownsRow_base (owns_wr2 ho hc (fun i hi e => by have := (ho.lt i hi).1; omega)) (by omega), owns_wr2 h3.od hc (fun i hi e => by have := (h3.od.lt i hi).1; omega), h3.srcset h3.src 3 v', h3.wt.loc (by omega) 3 v', hl, h.far⟩
/-- A longer chain. -/
theorem DgSt.chain {w wr w3 : World} {p : Nat} {a : Option Addr} {n c : Nat} {xs : List Int} {K : Int} {lo hi : ByteArray} {r : Int} {vb vc v' : Value} {es : List EntD} {ds ds' : List DelD} (h : DgSt w wr p a n c xs K lo hi r vb vc es ds) (hg : wr.grownBy w3 vc.ownBlock) (ho : DOwns w3 (w.heap.size + 2) v' ds') : DgSt w (w3.setCell ⟨w.heap.size + 1, 4, none⟩ v') p a n c xs K lo hi r vb v' es ds' := by
  have hl := h.lt
  have hP : ∀ i, vc.ownBlock = some i → w.heap.size + 2 ≤ i := fun i hi => (h.od.lt i hi).1
  have hw : Wr (fun i => vc.ownBlock = some i) wr w3 := Wr.of_grown hg (fun i h => h)
  have hc := wr_one w3 (w.heap.size + 1) 4 v'
  have k2 := heap_set (loc_wr2 h.k2 hw (fun e => by have := hP _ e; omega)) 4 v'
  have hs : Src w3 p a n c xs K := h.src.of_blocks' (hw.block p (by have := h.wt.size; omega) (fun e => by have := hP _ e; omega)) (fun x hx hn => hw.block x.block (by have := h.wt.size; have := h.far x hx hn; omega) (fun e => by have := hP _ e; have := h.far x hx hn; omega))
  have wt : Wrote p w w3 := ⟨hw.os.trans h.wt.os, hw.tape.trans h.wt.tape, hw.output.trans h.wt.output, Nat.le_trans h.wt.size hw.size, fun k hk hl' => (hw.block k (Nat.lt_of_lt_of_le hl' h.wt.size) (fun e => by have := hP _ e; omega)).trans (h.wt.block k hk hl')⟩
  exact ⟨loc_wr2 (loc_wr2 h.k1 hw (fun e => by have := hP _ e; omega)) hc (by omega), by simpa using k2, owns_wr2 (owns_wr2 h.oe hw (fun i hi e => own_apart2 h.oe h.od i hi e)) hc (fun i hi e => by have := (h.oe.lt i hi).1; omega), owns_wr2 ho hc (fun i hi e => by have := (ho.lt i hi).1; omega), h.srcset hs 4 v', wt.loc (by omega) 4 v', hl, h.far⟩
theorem five_of {w : World} {b : Nat} {v0 v1 v2 v3 v4 : Value} {t : TypeId} (h : w.heap[b]? = some (.cells #[v0, v1, v2, v3, v4] t (0, 0))) : (w.cell? ⟨b, 0, none⟩ = some v0 ∧ w.cell? ⟨b, 1, none⟩ = some v1 ∧ w.cell? ⟨b, 2, none⟩ = some v2 ∧ w.cell? ⟨b, 3, none⟩ = some v3 ∧ w.cell? ⟨b, 4, none⟩ = some v4) ∧ ∀ j, w.frozen? ⟨b, j, none⟩ = false := by
  refine ⟨⟨?_, ?_, ?_, ?_, ?_⟩, fun j => ?_⟩ <;> simp [World.cell?, World.frozen?, h]
end Go.Proofs.Ytbboigidkimkmaa
