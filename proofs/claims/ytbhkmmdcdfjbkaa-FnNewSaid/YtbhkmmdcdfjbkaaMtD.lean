/-
  A mapping table that the call owns: a page's pointer appended.
-/
import Derived.Test.YtbhkmmdcdfjbkaaMtC
import Derived.Test.YtbhkmmdcdfjbkaaAppL
import Derived.Test.YtbhkmmdcdfjbkaaWrT
namespace Go.Proofs.Ytbhkmmdcdfjbkaa
open Go.RowKit

theorem Try.infoPtr : (Try.prog.info? 70).map (fun i => (i.zero, i.size, i.bytes)) = some (some (.pointer none), 1, 8) := by kernel_rfl
abbrev POwns (w : World) (B : Nat) (v : Value) (qs : List (Option (Nat × PpH))) : Prop := w.ownsRow B 70 1 v qs.length (qs.map ptrQ)
theorem p_app {w : World} {B : Nat} {v : Value} {qs : List (Option (Nat × PpH))} {q : Option (Nat × PpH)} (ho : POwns w B v qs) (hz : qs.length ≤ 1000000) (hB : B ≤ w.heap.size) :
    ∃ v' w', (Builtin.append_ #[66, 66] 66 #[v, .slice (some ⟨w.heap.size, 0, none⟩) 1 1]).run Try.prog (w.alloc (.cells #[ptrQ q] 70)) = .ok v' w' ∧ POwns w' B v' (qs ++ [q]) ∧ (w.alloc (.cells #[ptrQ q] 70)).grownBy w' v.ownBlock := by
  obtain ⟨i0, hi0, hz0, hz1, hz2⟩ := info_parts Try.infoPtr
  obtain ⟨W, hW⟩ : ∃ W, W = w.alloc (.cells #[ptrQ q] 70) := ⟨_, rfl⟩
  have bA : Below w.heap.size w W := by rw [hW]; exact (Below.refl _ _).alloc (Nat.le_refl _) _
  have zW : W.heap.size = w.heap.size + 1 := by rw [hW]; simp
  have hcells : ∀ j u, ([ptrQ q])[j]? = some u → W.cell? ((⟨w.heap.size, 0, none⟩ : Addr).add j) = some u := fun j u hu => by
    have hj : j < 1 := by simpa using (List.getElem?_eq_some_iff.1 hu).1
    obtain rfl : j = 0 := by omega
    have e2 : (⟨w.heap.size, 0, none⟩ : Addr).add 0 = ⟨w.heap.size, 0, none⟩ := by unfold Addr.add; split <;> simp_all
    rw [e2, hW]
    exact rb_cell_new rfl (by simpa using hu)
  have hoa : POwns W B v qs := rb_ownsRow_below ho bA
  rw [← hW]
  obtain ⟨v', w', hrun, ho', hg, _, _⟩ := app_at (P := Try.prog) (w := W) (B := B) 66 66 70 Try.underlying66 hi0 hz0 hz1 hz2 rfl (by decide) hoa ⟨w.heap.size, 0, none⟩ 1 1 [ptrQ q] (by simp) hcells (by simp [ptrQ, Value.oneCell']) (by unfold maxLen; omega) (by omega) (by omega) (fun _ => by omega)
  refine ⟨v', w', hrun, ?_, hg⟩
  unfold POwns
  rw [List.map_append, List.length_append]
  exact ho'
theorem own_kind {w : World} {B t s n i : Nat} {v : Value} {cs : List Value} (h : w.ownsRow B t s v n cs) (hi : v.ownBlock = some i) : ∃ cur, w.heap[i]? = some (.cells cur t (0, 0)) := by
  rcases h.2 with ⟨e, _⟩ | ⟨g, cap, cur, e, _, hh, _⟩
  · subst e; cases hi
  · subst e; cases hi; exact ⟨cur, hh⟩
theorem Wr.set (w : World) (b j : Nat) (v : Value) : Wr (· = b) w (w.setCell ⟨b, j, none⟩ v) := ⟨rfl, rfl, rfl, by simp [World.setCell], fun k _ hk => Below.heap_setCell _ _ _ _ hk⟩
/-- A page in a box of its own. -/
def PgBox (w : World) (B b : Nat) (h : PpH) : Prop := B ≤ b ∧ w.heap[b]? = some (.cells #[.string h.X.lo, .string h.X.hi, .int .i64 h.X.r, .slice h.s0.a h.s0.n h.s0.c, .slice h.s1.a h.s1.n h.s1.c] 51 (0, 0))
/-- A mapping table that the call owns. -/
structure TbOwn (w : World) (B mb : Nat) (qs : List (Option (Nat × PpH))) (idx : List RefD) (vp vi : Value) : Prop where
  box : w.heap[mb]? = some (.cells #[vp, vi] 68 (0, 0))
  bx : B ≤ mb
  row : POwns w B vp qs
  pgs : ∀ b h, some (b, h) ∈ qs → PgBox w B b h
  ix : JOwns w B vi idx
theorem TbOwn.below {w w' : World} {B mb : Nat} {qs : List (Option (Nat × PpH))} {idx : List RefD} {vp vi : Value} (h : TbOwn w B mb qs idx vp vi) (hb : Below w.heap.size w w') : TbOwn w' B mb qs idx vp vi :=
  ⟨(hb.block mb (Array.getElem?_eq_some_iff.1 h.box).1).trans h.box, h.bx, rb_ownsRow_below h.row hb, fun b x hx => ⟨(h.pgs b x hx).1, (hb.block b (Array.getElem?_eq_some_iff.1 (h.pgs b x hx).2).1).trans (h.pgs b x hx).2⟩, rb_ownsRow_below h.ix hb⟩
theorem TbOwn.push {w w' : World} {B mb : Nat} {qs : List (Option (Nat × PpH))} {q : Option (Nat × PpH)} {idx : List RefD} {vp vi v' : Value} {o : Obj} (h : TbOwn w B mb qs idx vp vi) (hq : ∀ b x, q = some (b, x) → PgBox w B b x) (hg : (w.alloc o).grownBy w' vp.ownBlock) (ho : POwns w' B v' (qs ++ [q])) (hB : B ≤ w.heap.size) :
    TbOwn (w'.setCell ⟨mb, 0, none⟩ v') B mb (qs ++ [q]) idx v' vi ∧ Below B w (w'.setCell ⟨mb, 0, none⟩ v') ∧ w'.heap[mb]? = some (.cells #[vp, vi] 68 (0, 0)) := by
  have bA : Below w.heap.size w (w.alloc o) := (Below.refl _ _).alloc (Nat.le_refl _) _
  have hT := h.below bA
  have keep : ∀ i ob, (w.alloc o).heap[i]? = some ob → (∀ cur, ob ≠ Obj.cells cur 70 (0, 0)) → w'.heap[i]? = some ob := fun i ob hi hk => by
    refine (hg.block i (Array.getElem?_eq_some_iff.1 hi).1 fun e => ?_).trans hi
    obtain ⟨cur, hc⟩ := own_kind hT.row e.symm
    rw [hi] at hc
    injection hc with hc
    exact hk cur hc
  have k0 := keep mb _ hT.box (fun cur e => by injection e with _ e; exact absurd e (by decide))
  have W := Wr.set w' mb 0 v'
  have nmb : ∀ i ob, w'.heap[i]? = some ob → (∀ cur, ob ≠ Obj.cells cur 68 (0, 0)) → (w'.setCell ⟨mb, 0, none⟩ v').heap[i]? = some ob := fun i ob hi hk => by
    refine loc_wr hi W fun e => ?_
    rw [e, k0] at hi
    injection hi with hi
    exact hk _ hi.symm
  refine ⟨⟨heap_set k0 0 v', h.bx, ?_, ?_, ?_⟩, ?_, k0⟩
  · refine owns_wr ho W fun i hi e => ?_
    obtain ⟨cur, hc⟩ := own_kind ho hi
    rw [e, k0] at hc
    injection hc with hc
    injection hc with _ hc
    exact absurd hc (by decide)
  · intro b x hx
    have hp : PgBox (w.alloc o) B b x := by
      rcases List.mem_append.1 hx with hx | hx
      · exact hT.pgs b x hx
      · have h2 := hq b x (List.mem_singleton.1 hx).symm
        exact ⟨h2.1, (bA.block b (Array.getElem?_eq_some_iff.1 h2.2).1).trans h2.2⟩
    exact ⟨hp.1, nmb b _ (keep b _ hp.2 (fun cur e => by injection e with _ e; exact absurd e (by decide))) (fun cur e => by injection e with _ e; exact absurd e (by decide))⟩
  · refine ownsRow_heap hT.ix fun g hg2 => ?_
    obtain ⟨cur, hc⟩ := own_kind hT.ix hg2
    rw [hc]
    exact nmb g _ (keep g _ hc (fun cur e => by injection e with _ e; exact absurd e (by decide))) (fun cur e => by injection e with _ e; exact absurd e (by decide))
  · have b1 : Below B w w' := (bA.mono hB).trans ((Below.refl B (w.alloc o)).grown hg (Nat.le_trans hB bA.size) (fun k hk => (hT.row.lt k hk).1))
    exact b1.trans (Wr.below W (fun i e => by rw [e]; exact h.bx) (Nat.le_trans hB b1.size))
end Go.Proofs.Ytbhkmmdcdfjbkaa
