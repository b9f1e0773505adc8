/-
  spec.Extend.
-/
import Derived.Test.YtbboigidkimkmaaPageV
namespace Go.Proofs.Ytbboigidkimkmaa
open Go.RowKit

/-- A change as a value. -/
abbrev dv (d : DelD) : Value := .agg #[.int .i64 d.kind, .string d.k, .string d.v, .int .i64 d.to]
/-- The code of Extend. -/
def extC (lo hi : ByteArray) (r : Int) (es : List EntD) (ds : List DelD) (d : DelD) : Int :=
  if okPage lo hi r es ds = false then 1 else if okDel lo (highE hi ds) d = false then 4 else if ds.length = 12 then 7 else if 32 < (entsE es (ds ++ [d])).length then 6 else 0
/-- The page of Extend. -/
def extP (lo hi : ByteArray) (r : Int) (es : List EntD) (ds : List DelD) (d : DelD) : PageD := if extC lo hi r es ds d = 0 then ⟨lo, hi, r, es, ds ++ [d]⟩ else ⟨ByteArray.empty, ByteArray.empty, 0, [], []⟩
/-- The answer of Extend. -/
def ExtRes (lo hi : ByteArray) (r : Int) (es : List EntD) (ds : List DelD) (d : DelD) (w : World) (e : Ending) (w' : World) : Prop :=
  ∃ a n c a2 n2 c2, e = .returned (.tuple #[pgv (extP lo hi r es ds d).lo (extP lo hi r es ds d).hi (extP lo hi r es ds d).r a n c a2 n2 c2, .int .i64 (extC lo hi r es ds d)]) ∧ PgOwn w' w.heap.size a n c a2 n2 c2 (extP lo hi r es ds d).es (extP lo hi r es ds d).ds ∧ Below w.heap.size w w'
theorem own_apart {w : World} {B C : Nat} {v v2 : Value} {es : List EntD} {ds : List DelD} (h1 : EOwns w B v es) (h2 : DOwns w C v2 ds) : ∀ i, v.ownBlock = some i → ¬ v2.ownBlock = some i := by
  intro i e1 e2
  rcases h1.2 with ⟨rfl, _⟩ | ⟨g, cap, cur, rfl, _, hh, _⟩
  · cases e1
  rcases h2.2 with ⟨rfl, _⟩ | ⟨g2, cap2, cur2, rfl, _, hh2, _⟩
  · cases e2
  simp only [Value.ownBlock, Option.some.injEq] at e1 e2
  subst e1 e2
  rw [hh] at hh2
  injection hh2 with hh2
  injection hh2 with _ hh2
  exact absurd hh2 (by decide)
theorem pgown_nil (w : World) (B : Nat) : PgOwn w B none 0 0 none 0 0 [] [] := ⟨World.ownsRow_nil _ _ _ _, World.ownsRow_nil _ _ _ _, fun i h => by cases h⟩
theorem ext_bad {lo hi : ByteArray} {r : Int} {es : List EntD} {ds : List DelD} {d : DelD} {w w' : World} {k : Int} (h : extC lo hi r es ds d = k) (hk : k ≠ 0) (hb : Below w.heap.size w w') : ExtRes lo hi r es ds d w (.returned (.tuple #[pgv ByteArray.empty ByteArray.empty 0 none 0 0 none 0 0, .int .i64 k])) w' := by
  have e : extP lo hi r es ds d = ⟨ByteArray.empty, ByteArray.empty, 0, [], []⟩ := by unfold extP; rw [if_neg (by rw [h]; exact hk)]
  unfold ExtRes
  rw [e, h]
  exact ⟨none, 0, 0, none, 0, 0, rfl, pgown_nil _ _, hb⟩
theorem ext_good {lo hi : ByteArray} {r : Int} {es : List EntD} {ds : List DelD} {d : DelD} {w w' : World} {a : Option Addr} {n c : Nat} {a2 : Option Addr} {n2 c2 : Nat} (h : extC lo hi r es ds d = 0) (ho : EOwns w' w.heap.size (.slice a n c) es) (ho2 : DOwns w' w.heap.size (.slice a2 n2 c2) (ds ++ [d])) (hb : Below w.heap.size w w') : ExtRes lo hi r es ds d w (.returned (.tuple #[pgv lo hi r a n c a2 n2 c2, .int .i64 0])) w' := by
  have e : extP lo hi r es ds d = ⟨lo, hi, r, es, ds ++ [d]⟩ := by unfold extP; rw [if_pos h]
  unfold ExtRes
  rw [e, h]
  exact ⟨a, n, c, a2, n2, c2, rfl, ⟨ho, ho2, own_apart ho ho2⟩, hb⟩
theorem ext1 {lo hi : ByteArray} {r : Int} {es : List EntD} {ds : List DelD} {d : DelD} (h : okPage lo hi r es ds = false) : extC lo hi r es ds d = 1 := by unfold extC; rw [if_pos h]
theorem ext4 {lo hi : ByteArray} {r : Int} {es : List EntD} {ds : List DelD} {d : DelD} (h : okPage lo hi r es ds = true) (h1 : okDel lo (highE hi ds) d = false) : extC lo hi r es ds d = 4 := by unfold extC; rw [if_neg (by rw [h]; decide), if_pos h1]
theorem ext7 {lo hi : ByteArray} {r : Int} {es : List EntD} {ds : List DelD} {d : DelD} (h : okPage lo hi r es ds = true) (h1 : okDel lo (highE hi ds) d = true) (h2 : ds.length = 12) : extC lo hi r es ds d = 7 := by unfold extC; rw [if_neg (by rw [h]; decide), if_neg (by rw [h1]; decide), if_pos h2]
theorem ext6 {lo hi : ByteArray} {r : Int} {es : List EntD} {ds : List DelD} {d : DelD} (h : okPage lo hi r es ds = true) (h1 : okDel lo (highE hi ds) d = true) (h2 : ¬ ds.length = 12) (h3 : 32 < (entsE es (ds ++ [d])).length) : extC lo hi r es ds d = 6 := by unfold extC; rw [if_neg (by rw [h]; decide), if_neg (by rw [h1]; decide), if_neg h2, if_pos h3]
theorem ext0 {lo hi : ByteArray} {r : Int} {es : List EntD} {ds : List DelD} {d : DelD} (h : okPage lo hi r es ds = true) (h1 : okDel lo (highE hi ds) d = true) (h2 : ¬ ds.length = 12) (h3 : ¬ 32 < (entsE es (ds ++ [d])).length) : extC lo hi r es ds d = 0 := by unfold extC; rw [if_neg (by rw [h]; decide), if_neg (by rw [h1]; decide), if_neg h2, if_neg h3]
/-- Three blocks at a call's head: a page, a change and room for an answer. -/
theorem three_new (w : World) (v0 v1 v2 v3 v4 : Value) (d : DelD) : ∃ W, W = ((w.alloc (.cells #[v0, v1, v2, v3, v4] 26)).alloc (.cells #[.int .i64 d.kind, .string d.k, .string d.v, .int .i64 d.to] 41)).alloc (.cells #[.string ⟨#[]⟩, .string ⟨#[]⟩, .int .i64 0, .slice none 0 0, .slice none 0 0] 26) ∧ W.heap[w.heap.size]? = some (.cells #[v0, v1, v2, v3, v4] 26 (0, 0)) ∧
    W.heap[w.heap.size + 1]? = some (.cells #[.int .i64 d.kind, .string d.k, .string d.v, .int .i64 d.to] 41 (0, 0)) ∧ W.heap[w.heap.size + 1 + 1]? = some (.cells #[.string ⟨#[]⟩, .string ⟨#[]⟩, .int .i64 0, .slice none 0 0, .slice none 0 0] 26 (0, 0)) ∧ W.heap.size = w.heap.size + 1 + 1 + 1 ∧ Below w.heap.size w W := by
  obtain ⟨W1, h1⟩ : ∃ W1, W1 = w.alloc (.cells #[v0, v1, v2, v3, v4] 26) := ⟨_, rfl⟩
  have z1 : W1.heap.size = w.heap.size + 1 := by rw [h1]; simp
  have k1 : W1.heap[w.heap.size]? = some (.cells #[v0, v1, v2, v3, v4] 26 (0, 0)) := by rw [h1]; exact heap_new rfl _ _
  have b1 : Below w.heap.size w W1 := by rw [h1]; exact (Below.refl _ _).alloc (Nat.le_refl _) _
  obtain ⟨W2, h2⟩ : ∃ W2, W2 = W1.alloc (.cells #[.int .i64 d.kind, .string d.k, .string d.v, .int .i64 d.to] 41) := ⟨_, rfl⟩
  have z2 : W2.heap.size = w.heap.size + 1 + 1 := by rw [h2]; simp [z1]
  have k2 : W2.heap[w.heap.size + 1]? = some (.cells #[.int .i64 d.kind, .string d.k, .string d.v, .int .i64 d.to] 41 (0, 0)) := by rw [h2]; exact heap_new z1 _ _
  have b2 : Below W1.heap.size W1 W2 := by rw [h2]; exact (Below.refl _ _).alloc (Nat.le_refl _) _
  obtain ⟨W3, h3⟩ : ∃ W3, W3 = W2.alloc (.cells #[.string ⟨#[]⟩, .string ⟨#[]⟩, .int .i64 0, .slice none 0 0, .slice none 0 0] 26) := ⟨_, rfl⟩
  have b3 : Below W2.heap.size W2 W3 := by rw [h3]; exact (Below.refl _ _).alloc (Nat.le_refl _) _
  refine ⟨W3, by rw [h3, h2, h1], (b3.block _ (by omega)).trans ((b2.block _ (by omega)).trans k1), (b3.block _ (by omega)).trans k2, by rw [h3]; exact heap_new z2 _ _, by rw [h3]; simp [z2], ?_⟩
  exact b1.trans ((b2.mono (by omega)).trans (b3.mono (by omega)))
theorem d_cells {w : World} {b : Nat} {d : DelD} {t : TypeId} (h : w.heap[b]? = some (.cells #[.int .i64 d.kind, .string d.k, .string d.v, .int .i64 d.to] t (0, 0))) : w.cell? ⟨b, 0, none⟩ = some (.int .i64 d.kind) ∧ w.cell? ⟨b, 1, none⟩ = some (.string d.k) ∧ w.cell? ⟨b, 2, none⟩ = some (.string d.v) ∧ w.cell? ⟨b, 3, none⟩ = some (.int .i64 d.to) :=
  ⟨heap_cell h 0, heap_cell h 1, heap_cell h 2, heap_cell h 3⟩
theorem drow_one {w : World} {b : Nat} {d : DelD} {t : TypeId} (h : w.heap[b]? = some (.cells #[.int .i64 d.kind, .string d.k, .string d.v, .int .i64 d.to] t (0, 0))) : DRow w (some ⟨b, 0, none⟩) 1 [d] := by
  obtain ⟨h0, h1, h2, h3⟩ := d_cells h
  refine ⟨rfl, fun i hi => ⟨b, 0, rfl, ?_⟩⟩
  obtain rfl : i = 0 := by simp at hi; omega
  exact ⟨h0, h1, h2, h3⟩
theorem heap_lt {w : World} {b : Nat} {o : Obj} (h : w.heap[b]? = some o) : b < w.heap.size := (Array.getElem?_eq_some_iff.1 h).1
set_option maxRecDepth 100000 in
set_option maxHeartbeats 8000000 in
theorem specExtend_any (lo hi : ByteArray) (r : Int) (ab : Option Addr) (nb cb : Nat) (es : List EntD) (ac : Option Addr) (nc cc : Nat) (ds : List DelD) (d : DelD) (w : World) (hE : ERow w ab nb es) (hD : DRow w ac nc ds) (hcb : ab = none → cb = 0) (hcc : ac = none → cc = 0) :
    Calls Try.prog 17 #[pgv lo hi r ab nb cb ac nc cc, dv d] w fun e w' => ExtRes lo hi r es ds d w e w' := by
  obtain ⟨W, hW, k1, k2, k3, z, b0⟩ := three_new w (.string lo) (.string hi) (.int .i64 r) (.slice ab nb cb) (.slice ac nc cc) d
  have RE := hide (hE.below b0)
  have RD := hide (hD.below b0)
  have LE := hide hE.1
  have LD := hide hD.1
  have K1 := hide k1
  have K2 := hide k2
  have K3 := hide k3
  clear hE hD k1 k2 k3
  go_enter Try.func17, Try.ntmps17
  go_wp2_with fail
  rw [← hW]
  clear hW
  refine (specPageOK_any lo hi r ab nb cb es ac nc cc ds W (unhide RE) (unhide RD) hcb).mono ?_
  rintro e w1 ⟨rfl, hb⟩
  replace K1 := hide ((hb.block w.heap.size (by omega)).trans (unhide K1))
  replace K2 := hide ((hb.block (w.heap.size + 1) (by omega)).trans (unhide K2))
  replace K3 := hide ((hb.block (w.heap.size + 1 + 1) (by omega)).trans (unhide K3))
  replace RE := hide ((unhide RE).below hb)
  replace RD := hide ((unhide RD).below hb)
  have B1 := b0.trans (hb.mono b0.size)
  have z1 : w.heap.size + 1 + 1 + 1 ≤ w1.heap.size := by have := hb.size; omega
  clear hb b0 z
  by_cases hok : okPage lo hi r es ds = true
  · have hl := ok_len hok
    have HOK := hide hok
    have hb' : nb ≤ 100 := by have := unhide LE; omega
    have hc' : nc ≤ 12 := by have := unhide LD; omega
    rw [hok]
    clear hok hl
    obtain ⟨p0, p1, p2, p3, p4⟩ := pg_cells5 (unhide K1)
    go_wp2_with fail
    refine (l04Bounds_any lo hi r (.slice ab nb cb) ac nc cc ds w1 (unhide RD) (by omega)).mono ?_
    rintro e w2 ⟨rfl, hb⟩
    replace K1 := hide ((hb.block w.heap.size (by omega)).trans (unhide K1))
    replace K2 := hide ((hb.block (w.heap.size + 1) (by omega)).trans (unhide K2))
    replace K3 := hide ((hb.block (w.heap.size + 1 + 1) (by omega)).trans (unhide K3))
    replace RE := hide ((unhide RE).below hb)
    replace RD := hide ((unhide RD).below hb)
    replace B1 := B1.trans (hb.mono B1.size)
    have z2 : w.heap.size + 1 + 1 + 1 ≤ w2.heap.size := by have := hb.size; omega
    clear hb p0 p1 p2 p3 p4 z1
    obtain ⟨p0, p1, p2, p3, p4⟩ := pg_cells5 (unhide K1)
    obtain ⟨q0, q1, q2, q3⟩ := d_cells (unhide K2)
    go_wp2_with fail
    refine (l04Delta_any d lo (highE hi ds) w2).mono ?_
    rintro e w3 ⟨rfl, hb⟩
    replace K1 := hide ((hb.block w.heap.size (by omega)).trans (unhide K1))
    replace K2 := hide ((hb.block (w.heap.size + 1) (by omega)).trans (unhide K2))
    replace K3 := hide ((hb.block (w.heap.size + 1 + 1) (by omega)).trans (unhide K3))
    replace RE := hide ((unhide RE).below hb)
    replace RD := hide ((unhide RD).below hb)
    replace B1 := B1.trans (hb.mono B1.size)
    have z3 : w.heap.size + 1 + 1 + 1 ≤ w3.heap.size := by have := hb.size; omega
    clear hb p0 p1 p2 p3 p4 q0 q1 q2 q3 z2
    obtain ⟨p0, p1, p2, p3, p4⟩ := pg_cells5 (unhide K1)
    by_cases hdl : okDel lo (highE hi ds) d = true
    · have HDL := hide hdl
      rw [hdl]
      clear hdl
      by_cases h12 : nc = 12
      · have hn12 : ds.length = 12 := by rw [unhide LD]; exact h12
        have h12' : ((nc : Int) == 12) = true := by simp [h12]
        have H12 := hide hn12
        clear h12 hn12
        obtain ⟨t0, t1, t2, t3, t4⟩ := pg_cells5 (unhide K3)
        obtain ⟨f0, f1, f2, f3, f4⟩ := fz_cells (unhide K3)
        have EX := hide (ext7 (unhide HOK) (unhide HDL) (unhide H12))
        go_wp2_with fail
        refine bodyPost_ret (v := .tuple #[pgv ByteArray.empty ByteArray.empty 0 none 0 0 none 0 0, .int .i64 7]) (by simp [results, Try.results17, go_sem, *] <;> rfl) rfl ?_
        exact ext_bad (unhide EX) (by decide) (by first | exact set5_below B1 (by omega) _ _ _ _ _ | exact B1)
      · have hn12 : ¬ ds.length = 12 := by rw [unhide LD]; exact h12
        have h12' : ((nc : Int) == 12) = false := by simp; omega
        have H12 := hide hn12
        have hc11 : nc ≤ 11 := by omega
        clear h12 hn12
        go_wp2_with fail
        refine (l04Own_any lo hi r ab nb cb es ac nc cc ds w3 (unhide RE) (unhide RD) (by omega) (by omega) hcb hcc).mono ?_
        rintro e w4 ⟨a4, n4, c4, a5, n5, c5, rfl, hO, hb⟩
        have OW := hide hO
        replace K2 := hide ((hb.block (w.heap.size + 1) (by omega)).trans (unhide K2))
        replace K3 := hide ((hb.block (w.heap.size + 1 + 1) (by omega)).trans (unhide K3))
        replace B1 := B1.trans (hb.mono B1.size)
        have z4 : w.heap.size + 1 + 1 + 1 ≤ w4.heap.size := by have := hb.size; omega
        have z34 : w3.heap.size ≤ w4.heap.size := hb.size
        clear hb p0 p1 p2 p3 p4 K1 RE RD hO
        have bx : Below w4.heap.size w4 (w4.alloc (.cells #[.string lo, .string hi, .int .i64 r, .slice a4 n4 c4, .slice a5 n5 c5] 26)) := (Below.refl _ _).alloc (Nat.le_refl _) _
        have KX := hide (heap_alloc_new w4 (.cells #[.string lo, .string hi, .int .i64 r, .slice a4 n4 c4, .slice a5 n5 c5] 26))
        have zx : (w4.alloc (.cells #[.string lo, .string hi, .int .i64 r, .slice a4 n4 c4, .slice a5 n5 c5] 26)).heap.size = w4.heap.size + 1 := by simp
        have BLK := hide (show ∀ i, PgBlk a4 n4 c4 a5 n5 c5 i → i < w4.heap.size from fun i h => ((unhide OW).blk h).2)
        replace OW := hide ((unhide OW).below bx)
        replace K2 := hide ((bx.block (w.heap.size + 1) (by omega)).trans (unhide K2))
        replace K3 := hide ((bx.block (w.heap.size + 1 + 1) (by omega)).trans (unhide K3))
        replace B1 := B1.trans (bx.mono B1.size)
        obtain ⟨wx, hwx⟩ : ∃ wx, wx = w4.alloc (.cells #[.string lo, .string hi, .int .i64 r, .slice a4 n4 c4, .slice a5 n5 c5] 26) := ⟨_, rfl⟩
        rw [← hwx] at KX zx OW K2 K3 B1
        obtain ⟨bo, hbo⟩ : ∃ bo, bo = w4.heap.size := ⟨_, rfl⟩
        rw [← hbo] at KX zx BLK z4 z34
        have HWX := hide hwx
        have HBO := hide hbo
        clear hwx bx
        -- the append
        have by' : Below wx.heap.size wx (wx.alloc (.cells #[.int .i64 d.kind, .string d.k, .string d.v, .int .i64 d.to] 41)) := (Below.refl _ _).alloc (Nat.le_refl _) _
        have KD := drow_one (heap_alloc_new wx (.cells #[.int .i64 d.kind, .string d.k, .string d.v, .int .i64 d.to] 41))
        have zy : (wx.alloc (.cells #[.int .i64 d.kind, .string d.k, .string d.v, .int .i64 d.to] 41)).heap.size = wx.heap.size + 1 := by simp
        have OY := (unhide OW).below by'
        have KXy := (by'.block bo (by omega)).trans (unhide KX)
        have K3y := (by'.block (w.heap.size + 1 + 1) (by omega)).trans (unhide K3)
        have By := B1.trans (by'.mono B1.size)
        obtain ⟨v6, w6, hr6, hO6, hg6, _⟩ := run_appD (c := 1) 24 OY.2.1 KD (by have := unhide LD; omega) (by omega) (fun h => by cases h) (by omega)
        have NB5 : ∀ i, i = bo ∨ i = w.heap.size + 1 + 1 → some i ≠ (Value.slice a5 n5 c5).ownBlock := fun i hi e => by
          have h1 := unhide BLK i (.inr e.symm)
          have h2 := (OY.2.1.lt i e.symm).1
          omega
        have KX6 := (hg6.block bo (by omega) (NB5 bo (.inl rfl))).trans KXy
        have K36 := (hg6.block (w.heap.size + 1 + 1) (by omega) (NB5 _ (.inr rfl))).trans K3y
        have OE6 := ownsRow_heap OY.1 (fun g hg => hg6.block g (OY.1.lt g hg).2 (fun e => OY.2.2 g hg e.symm))
        have B6 := By.trans ((Below.refl w.heap.size _).grown hg6 (by omega) (fun k hk => by have := (OY.2.1.lt k hk).1; omega))
        obtain ⟨a6, n6, c6, rfl⟩ : ∃ a n c, v6 = .slice a n c := by
          rcases hO6.2 with ⟨e, _⟩ | ⟨g, cap, cur, e, _⟩
          · exact ⟨_, _, _, e⟩
          · exact ⟨_, _, _, e⟩
        have zg6 := hg6.size
        have KX7 := heap_set KX6 4 (.slice a6 n6 c6)
        have K37 := (Below.heap_setCell w6 ⟨bo, 4, none⟩ (.slice a6 n6 c6) (w.heap.size + 1 + 1) (by show w.heap.size + 1 + 1 ≠ bo; omega)).trans K36
        have AP6 := own_apart OE6 hO6
        have hbE : ∀ g, (Value.slice a4 n4 c4).ownBlock = some g → g ≠ bo := fun g hg e => by have := unhide BLK g (.inl hg); omega
        have hbD : ∀ g, (Value.slice a6 n6 c6).ownBlock = some g → g ≠ bo := fun g hg e => by
          rcases hO6.2 with ⟨e', _⟩ | ⟨g', cap, cur, e', _, hh, _⟩
          · rw [e'] at hg; cases hg
          · rw [e'] at hg
            simp only [Value.ownBlock, Option.some.injEq] at hg
            subst hg e
            rw [KX6] at hh
            injection hh with hh
            injection hh with _ hh
            exact absurd hh (by decide)
        have OE7 := ownsRow_heap (w' := w6.setCell ⟨bo, 4, none⟩ (.slice a6 n6 c6)) OE6 (fun g hg => Below.heap_setCell _ _ _ _ (hbE g hg))
        have OD7 := ownsRow_heap (w' := w6.setCell ⟨bo, 4, none⟩ (.slice a6 n6 c6)) hO6 (fun g hg => Below.heap_setCell _ _ _ _ (hbD g hg))
        have B7 := B6.setCell (p := ⟨bo, 4, none⟩) (by show w.heap.size ≤ bo; omega) (.slice a6 n6 c6)
        have z7 : (w6.setCell ⟨bo, 4, none⟩ (.slice a6 n6 c6)).heap.size = w6.heap.size := by simp [World.setCell]
        have x4 : wx.cell? ⟨bo, 4, none⟩ = some (.slice a5 n5 c5) := heap_cell (unhide KX) 4
        obtain ⟨q0, q1, q2, q3⟩ := d_cells (unhide K2)
        have x64 : w6.cell? ⟨bo, 4, none⟩ = some (.slice a5 n5 c5) := heap_cell KX6 4
        have fx6 := heap_frozen KX6 4
        obtain ⟨w7, hw7⟩ : ∃ w7, w7 = w6.setCell ⟨bo, 4, none⟩ (.slice a6 n6 c6) := ⟨_, rfl⟩
        rw [← hw7] at KX7 K37 OE7 OD7 B7 z7
        have R7 := hide (show ERow w7 a4 n4 es from erow_of_owns OE7)
        have D7 := hide (show DRow w7 a6 n6 (ds ++ [d]) from drow_of_owns OD7)
        have hn4 : n4 ≤ 100 := by have := (unhide R7).1; have := unhide LE; omega
        have hn6 : n6 ≤ 100 := by have := (unhide D7).1; have := unhide LD; simp at *; omega
        have hc4 : a4 = none → c4 = 0 := fun h => by
          subst h
          rcases OE7.2 with ⟨e, _⟩ | ⟨g, cap, cur, e, _⟩
          · injection e
          · cases e
        have FE := hide OE7
        have FD := hide OD7
        have KX' := hide KX7
        have K3' := hide K37
        have HR6 := hide hr6
        have HW7 := hide hw7
        have hbo7 : bo < w7.heap.size := by omega
        have hbb : w.heap.size + 1 + 1 < bo := by omega
        have hzz7 : w.heap.size + 1 + 1 + 1 ≤ w7.heap.size := by omega
        clear KX KX6 KX7 K36 K37 OE6 OE7 OD7 hO6 hg6 AP6 hbE hbD OY KXy K3y By B6 by' KD zy z7 zg6 NB5 hr6 hw7 BLK OW K2 K3 zx
        clear hbo
        go_upto_region 9 with fail
        rw [← unhide HWX, ← unhide HBO]
        go_upto_region 10 with (at_builtin; refine wpAppE rfl _ _ 24 rfl _ _ _ w6 rfl rfl (unhide HR6) ?_)
        rw [← unhide HW7]
        clear x4 q0 q1 q2 q3 x64 fx6
        have u0 : w7.cell? ⟨bo, 0, none⟩ = some (.string lo) := heap_cell (unhide KX') 0
        have u1 : w7.cell? ⟨bo, 1, none⟩ = some (.string hi) := heap_cell (unhide KX') 1
        have u2 : w7.cell? ⟨bo, 2, none⟩ = some (.int .i64 r) := heap_cell (unhide KX') 2
        have u3 : w7.cell? ⟨bo, 3, none⟩ = some (.slice a4 n4 c4) := heap_cell (unhide KX') 3
        have u4 : w7.cell? ⟨bo, 4, none⟩ = some (.slice a6 n6 c6) := heap_cell (unhide KX') 4
        go_wp2_with fail
        refine (l04Entries_any lo hi r a4 n4 c4 es a6 n6 c6 (ds ++ [d]) w7 (unhide R7) (unhide D7) hn4 hn6 hc4).mono ?_
        rintro e w8 ⟨g8, c8, rfl, _, hb⟩
        have K3 := hide ((hb.block (w.heap.size + 1 + 1) (by omega)).trans (unhide K3'))
        have KX8 := hide ((hb.block bo (by omega)).trans (unhide KX'))
        have B8 := B7.trans (hb.mono B7.size)
        have FE8 := hide (ownsRow_below (unhide FE) hb)
        have FD8 := hide (ownsRow_below (unhide FD) hb)
        clear hb u0 u1 u2 u3 u4 K3' KX' FE FD R7 D7
        obtain ⟨m, hm⟩ : ∃ m, m = (entsE es (ds ++ [d])).length := ⟨_, rfl⟩
        rw [← hm]
        have HM := hide hm
        clear hm
        by_cases h32 : 32 < m
        · have h32i : (32 : Int) < (m : Int) := by omega
          have H32 := hide (show 32 < (entsE es (ds ++ [d])).length by rw [← unhide HM]; exact h32)
          clear h32
          obtain ⟨t0, t1, t2, t3, t4⟩ := pg_cells5 (unhide K3)
          obtain ⟨f0, f1, f2, f3, f4⟩ := fz_cells (unhide K3)
          have EX := hide (ext6 (unhide HOK) (unhide HDL) (unhide H12) (unhide H32))
          go_wp2_with fail
          refine bodyPost_ret (v := .tuple #[pgv ByteArray.empty ByteArray.empty 0 none 0 0 none 0 0, .int .i64 6]) (by simp [results, Try.results17, go_sem, *] <;> rfl) rfl ?_
          exact ext_bad (unhide EX) (by decide) (by first | exact set5_below B8 (by omega) _ _ _ _ _ | exact B8)
        · have h32i : ¬ (32 : Int) < (m : Int) := by omega
          have EX := hide (ext0 (unhide HOK) (unhide HDL) (unhide H12) (show ¬ 32 < (entsE es (ds ++ [d])).length by rw [← unhide HM]; exact h32))
          clear h32
          obtain ⟨t0, t1, t2, t3, t4⟩ := pg_cells5 (unhide K3)
          obtain ⟨f0, f1, f2, f3, f4⟩ := fz_cells (unhide K3)
          have u0 : w8.cell? ⟨bo, 0, none⟩ = some (.string lo) := heap_cell (unhide KX8) 0
          have u1 : w8.cell? ⟨bo, 1, none⟩ = some (.string hi) := heap_cell (unhide KX8) 1
          have u2 : w8.cell? ⟨bo, 2, none⟩ = some (.int .i64 r) := heap_cell (unhide KX8) 2
          have u3 : w8.cell? ⟨bo, 3, none⟩ = some (.slice a4 n4 c4) := heap_cell (unhide KX8) 3
          have u4 : w8.cell? ⟨bo, 4, none⟩ = some (.slice a6 n6 c6) := heap_cell (unhide KX8) 4
          have hlt3 : w.heap.size + 1 + 1 < w3.heap.size := by omega
          have FE9 := hide (set5_owns (unhide FE8) hlt3 (.string lo) (.string hi) (.int .i64 r) (.slice a4 n4 c4) (.slice a6 n6 c6))
          have FD9 := hide (set5_owns (unhide FD8) hlt3 (.string lo) (.string hi) (.int .i64 r) (.slice a4 n4 c4) (.slice a6 n6 c6))
          have hle3 : w.heap.size ≤ w3.heap.size := by omega
          have hle4 : w.heap.size ≤ w.heap.size + 1 + 1 := by omega
          go_wp2_with fail
          refine bodyPost_ret (v := .tuple #[pgv lo hi r a4 n4 c4 a6 n6 c6, .int .i64 0]) (by simp [results, Try.results17, go_sem, *]) rfl ?_
          exact ext_good (unhide EX) (ownsRow_base (unhide FE9) hle3) (ownsRow_base (unhide FD9) hle3) (set5_below B8 hle4 _ _ _ _ _)
    · have hdl : okDel lo (highE hi ds) d = false := by simpa using hdl
      have HDL := hide hdl
      rw [hdl]
      clear hdl
      obtain ⟨t0, t1, t2, t3, t4⟩ := pg_cells5 (unhide K3)
      obtain ⟨f0, f1, f2, f3, f4⟩ := fz_cells (unhide K3)
      have EX := hide (ext4 (unhide HOK) (unhide HDL))
      go_wp2_with fail
      refine bodyPost_ret (v := .tuple #[pgv ByteArray.empty ByteArray.empty 0 none 0 0 none 0 0, .int .i64 4]) (by simp [results, Try.results17, go_sem, *] <;> rfl) rfl ?_
      exact ext_bad (unhide EX) (by decide) (by first | exact set5_below B1 (by omega) _ _ _ _ _ | exact B1)
  · have hok : okPage lo hi r es ds = false := by simpa using hok
    have HOK := hide hok
    rw [hok]
    clear hok
    obtain ⟨t0, t1, t2, t3, t4⟩ := pg_cells5 (unhide K3)
    obtain ⟨f0, f1, f2, f3, f4⟩ := fz_cells (unhide K3)
    have EX := hide (ext1 (d := d) (unhide HOK))
    go_wp2_with fail
    refine bodyPost_ret (v := .tuple #[pgv ByteArray.empty ByteArray.empty 0 none 0 0 none 0 0, .int .i64 1]) (by simp [results, Try.results17, go_sem, *] <;> rfl) rfl ?_
    exact ext_bad (unhide EX) (by decide) (by first | exact set5_below B1 (by omega) _ _ _ _ _ | exact B1)
end Go.Proofs.Ytbboigidkimkmaa
