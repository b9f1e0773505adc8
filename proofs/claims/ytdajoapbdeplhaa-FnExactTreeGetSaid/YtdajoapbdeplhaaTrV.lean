/-
  Trees that the call owns; the walks of szTree, toTree, eqTree.
-/
import Derived.Test.YtdajoapbdeplhaaMtE
import Derived.Test.YtdajoapbdeplhaaPpT
import Derived.Test.YtdajoapbdeplhaaPpE
import Derived.Test.YtdajoapbdeplhaaJxT
import Derived.Test.YtdajoapbdeplhaaJxE
import Derived.Test.YtdajoapbdeplhaaGdO
namespace Go.Proofs.Ytdajoapbdeplhaa
open Go.RowKit

theorem tv_cell (w : World) (b o : Nat) (v : Value) (k : Nat) (hk : k ≠ b) : (w.setCell ⟨b, o, none⟩ v).heap[k]? = w.heap[k]? := Below.heap_setCell _ _ _ _ hk
theorem tv_wrb (w : World) (q j : Nat) (u : Value) : WrB (· = q) w (w.setCell ⟨q, j, none⟩ u) := ⟨rfl, rfl, rfl, by simp [World.setCell], fun k _ hk => Below.heap_setCell _ _ _ _ hk⟩
theorem NOwn.setLow {w : World} {B T S n q : Nat} {v : Value} {es : List El} (h : NOwn w B T S v n es) (hq : q < B) (j : Nat) (u : Value) : NOwn (w.setCell ⟨q, j, none⟩ u) B T S v n es :=
  h.wr (tv_wrb w q j u) fun i hi e => by have := (h.lt i hi).1; omega
/-- A tree that the call owns. -/
structure TrOwn (w : World) (B np ng : Nat) (vp vg vi : Value) (hs : List PpH) (gs : List Bool) (idx : List RefD) : Prop where
  pg : NOwn w B 53 5 vp np (hs.map ppEl)
  go : w.ownsRow B 4 1 vg ng (gs.map Value.bool)
  ix : JOwns w B vi idx
theorem TrOwn.set {w : World} {B np ng q : Nat} {vp vg vi : Value} {hs : List PpH} {gs : List Bool} {idx : List RefD} (h : TrOwn w B np ng vp vg vi hs gs idx) (hq : q < B) (j : Nat) (u : Value) : TrOwn (w.setCell ⟨q, j, none⟩ u) B np ng vp vg vi hs gs idx :=
  ⟨h.pg.setLow hq j u, gd_set h.go hq j u, gd_set h.ix hq j u⟩
theorem TrOwn.dn {w : World} {B C np ng : Nat} {vp vg vi : Value} {hs : List PpH} {gs : List Bool} {idx : List RefD} (h : TrOwn w B np ng vp vg vi hs gs idx) (hc : C ≤ B) : TrOwn w C np ng vp vg vi hs gs idx :=
  ⟨h.pg.down hc, gd_base h.go hc, gd_base h.ix hc⟩
theorem TrOwn.below {w w' : World} {B np ng : Nat} {vp vg vi : Value} {hs : List PpH} {gs : List Bool} {idx : List RefD} (h : TrOwn w B np ng vp vg vi hs gs idx) (hb : Below w.heap.size w w') : TrOwn w' B np ng vp vg vi hs gs idx :=
  ⟨h.pg.below hb, rb_ownsRow_below h.go hb, rb_ownsRow_below h.ix hb⟩
theorem TrOwn.reads {w : World} {B np ng ni cp cg ci : Nat} {ap ag ai : Option Addr} {hs : List PpH} {gs : List Bool} {idx : List RefD} (h : TrOwn w B np ng (.slice ap np cp) (.slice ag ng cg) (.slice ai ni ci) hs gs idx) : TrIn w ap np cp ag ng cg ai ni hs gs idx :=
  ⟨h.pg.reads, rowC_of_owns h.go, by have := h.go.1; simpa using this, jrow_of_owns h.ix⟩
/-- A tree that came in. -/
structure TrCame (w : World) (hs : List PpH) (idx : List RefD) : Prop where
  pg : ∀ h ∈ hs, PpIs w h
  ix : ∀ i (hi : i < idx.length), idx[i].low.size ≤ maxLen
set_option maxHeartbeats 1000000 in
theorem szBoolS_tr (a : Option Addr) (n c : Nat) (left : Int) (w : World) (h0 : 0 ≤ left) (h1 : left ≤ 1048576) (hn : n ≤ maxLen) :
    Calls Try.prog 20 #[.slice a n c, .int .i64 left] w fun e w' => ∃ q : Int, e = .returned (.int .i64 q) ∧ (q = -1 ∨ (0 ≤ q ∧ q ≤ left ∧ (n : Int) ≤ left)) ∧ w' = w := by
  unfold maxLen at hn
  by_cases hb : left - n < 0
  · go_enter Try.func20, Try.ntmps20
    go_wp2_with fail
    go_ret
    exact ⟨-1, rfl, .inl rfl, rfl⟩
  · go_enter Try.func20, Try.ntmps20
    go_wp2_with fail
    go_ret
    exact ⟨_, rfl, .inr ⟨by omega, by omega, by omega⟩, rfl⟩
set_option maxHeartbeats 1000000 in
theorem szTree_any (ap : Option Addr) (np cp : Nat) (ag : Option Addr) (ng cg : Nat) (ai : Option Addr) (ni ci : Nat) (hs : List PpH) (gs : List Bool) (idx : List RefD) (left : Int) (w : World) (h0 : 0 ≤ left) (h1 : left ≤ 1048576) (hT : TrIn w ap np cp ag ng cg ai ni hs gs idx) (hC : TrCame w hs idx) (hn : np ≤ maxLen ∧ ng ≤ maxLen ∧ ni ≤ maxLen) :
    Calls Try.prog 6 #[.agg #[.slice ap np cp, .slice ag ng cg, .slice ai ni ci], .int .i64 left] w fun e w' => ∃ q : Int, e = .returned (.int .i64 q) ∧ (q = -1 ∨ (0 ≤ q ∧ q ≤ left ∧ np ≤ 1048576 ∧ ng ≤ 1048576 ∧ ni ≤ 1048576 ∧ ∀ h ∈ hs, h.s0.n ≤ 1048576 ∧ h.s1.n ≤ 1048576)) ∧ Below w.heap.size w w' := by
  have b0 : Below w.heap.size w (w.alloc (.cells #[.slice ap np cp, .slice ag ng cg, .slice ai ni ci] 26)) := (Below.refl _ _).alloc (Nat.le_refl _) _
  have t1 : (w.alloc (.cells #[.slice ap np cp, .slice ag ng cg, .slice ai ni ci] 26)).cell? ⟨w.heap.size, 1, none⟩ = some (.slice ag ng cg) := by simp
  have t2 : (w.alloc (.cells #[.slice ap np cp, .slice ag ng cg, .slice ai ni ci] 26)).cell? ⟨w.heap.size, 2, none⟩ = some (.slice ai ni ci) := by simp
  have HP := hide (szPageS_any ap np cp hs left _ h0 h1 (hT.below b0).pgs hn.1 (fun h hh => (hC.pg h hh).below b0))
  have HG := hide (fun u l (h0 : 0 ≤ l) (h1 : l ≤ 1048576) => szBoolS_tr ag ng cg l u h0 h1 hn.2.1)
  have HI := hide (fun u (hu : Below w.heap.size w u) l (h0 : 0 ≤ l) (h1 : l ≤ 1048576) => szRefS_any ai ni ci idx l u h0 h1 (hT.below hu).ix hn.2.2 hC.ix)
  clear hT hC hn
  go_enter Try.func6, Try.ntmps6
  go_wp2_with fail
  generalize w.alloc (.cells #[.slice ap np cp, .slice ag ng cg, .slice ai ni ci] 26) = W at *
  refine (unhide HP).mono ?_
  rintro e w1 ⟨q, rfl, hq, hb1⟩
  have bA := b0.trans (hb1.mono b0.size)
  have s1 := (hb1.cell (p := ⟨w.heap.size, 1, none⟩) (cell_lt t1)).trans t1
  have s2 := (hb1.cell (p := ⟨w.heap.size, 2, none⟩) (cell_lt t2)).trans t2
  clear HP t1 t2 hb1
  rcases hq with rfl | ⟨q0, q1, q2, q3⟩
  · go_wp2_with fail
    go_ret
    exact ⟨-1, rfl, .inl rfl, bA⟩
  have Q3 := hide q3
  clear q3
  go_wp2_with fail
  refine (unhide HG _ q q0 (by omega)).mono ?_
  rintro e w2 ⟨r, rfl, hr, hw2⟩
  subst w2
  clear HG
  rcases hr with rfl | ⟨r0, r1, r2⟩
  · go_wp2_with fail
    go_ret
    exact ⟨-1, rfl, .inl rfl, bA⟩
  go_wp2_with fail
  refine (unhide HI _ bA r r0 (by omega)).mono ?_
  rintro e w3 ⟨x, rfl, hx, hb3⟩
  have bB := bA.trans (hb3.mono bA.size)
  clear HI s1 s2 hb3
  rcases hx with rfl | ⟨x0, x1, x2⟩
  · go_wp2_with fail
    go_ret
    exact ⟨-1, rfl, .inl rfl, bB⟩
  go_wp2_with fail
  go_ret
  exact ⟨x, rfl, .inr ⟨x0, by omega, by omega, by omega, by omega, unhide Q3⟩, bB⟩
set_option maxRecDepth 100000 in
set_option maxHeartbeats 4000000 in
theorem toTree_any (ap : Option Addr) (np cp : Nat) (ag : Option Addr) (ng cg : Nat) (ai : Option Addr) (ni ci : Nat) (hs : List PpH) (gs : List Bool) (idx : List RefD) (w : World) (hT : TrIn w ap np cp ag ng cg ai ni hs gs idx) (hC : TrCame w hs idx) (hn : np ≤ 1048576 ∧ ng ≤ 1048576 ∧ ni ≤ 1048576) (hl : ∀ h ∈ hs, h.s0.n ≤ 1048576 ∧ h.s1.n ≤ 1048576) :
    Calls Try.prog 8 #[.agg #[.slice ap np cp, .slice ag ng cg, .slice ai ni ci]] w fun e w' => ∃ (g1 g2 g3 : Nat) (hs' : List PpH), e = .returned (.agg #[.slice (some ⟨g1, 0, none⟩) np np, .slice (some ⟨g2, 0, none⟩) ng ng, .slice (some ⟨g3, 0, none⟩) ni ni]) ∧ TrOwn w' w.heap.size np ng (.slice (some ⟨g1, 0, none⟩) np np) (.slice (some ⟨g2, 0, none⟩) ng ng) (.slice (some ⟨g3, 0, none⟩) ni ni) hs' gs idx ∧ hs'.map (·.X) = hs.map (·.X) ∧ Below w.heap.size w w' := by
  have b1 : Below w.heap.size w (w.alloc (.cells #[.slice ap np cp, .slice ag ng cg, .slice ai ni ci] 26)) := (Below.refl _ _).alloc (Nat.le_refl _) _
  have h1 := heap_alloc_new w (.cells #[.slice ap np cp, .slice ag ng cg, .slice ai ni ci] 26)
  obtain ⟨W1, hW1⟩ : ∃ W1, W1 = w.alloc (.cells #[.slice ap np cp, .slice ag ng cg, .slice ai ni ci] 26) := ⟨_, rfl⟩
  have z1 : W1.heap.size = w.heap.size + 1 := by rw [hW1]; simp
  have b2 : Below (w.heap.size + 1) W1 (W1.alloc (.cells #[.slice none 0 0, .slice none 0 0, .slice none 0 0] 32)) := (Below.refl _ _).alloc (by omega) _
  have h2 : (W1.alloc (.cells #[.slice none 0 0, .slice none 0 0, .slice none 0 0] 32)).heap[w.heap.size + 1]? = some (.cells #[.slice none 0 0, .slice none 0 0, .slice none 0 0] 32 (0, 0)) := by rw [← z1]; exact heap_alloc_new _ _
  obtain ⟨W2, hW2⟩ : ∃ W2, W2 = W1.alloc (.cells #[.slice none 0 0, .slice none 0 0, .slice none 0 0] 32) := ⟨_, rfl⟩
  have z2 : W2.heap.size = w.heap.size + 1 + 1 := by rw [hW2]; simp [z1]
  have b3 : Below (w.heap.size + 1 + 1) W2 (W2.alloc (.cells #[.slice none 0 0, .slice none 0 0, .slice none 0 0] 32)) := (Below.refl _ _).alloc (by omega) _
  have h3 : (W2.alloc (.cells #[.slice none 0 0, .slice none 0 0, .slice none 0 0] 32)).heap[w.heap.size + 1 + 1]? = some (.cells #[.slice none 0 0, .slice none 0 0, .slice none 0 0] 32 (0, 0)) := by rw [← z2]; exact heap_alloc_new _ _
  rw [← hW1] at b1 h1
  rw [← hW2] at b2 h2
  have k1 := hide ((b3.block w.heap.size (by omega)).trans ((b2.block w.heap.size (by omega)).trans h1))
  have k2 := hide ((b3.block (w.heap.size + 1) (by omega)).trans h2)
  have k3 := hide h3
  have B := b1.trans ((b2.mono (by omega)).trans (b3.mono (by omega)))
  have z3 : (W2.alloc (.cells #[.slice none 0 0, .slice none 0 0, .slice none 0 0] 32)).heap.size = w.heap.size + 1 + 1 + 1 := by simp [z2]
  clear b1 b2 b3 h1 h2 h3 z1 z2
  subst hW2 hW1
  have HP := hide (toPageS_any ap np cp hs _ hn.1 (hT.below B).pgs (fun h hh => (hC.pg h hh).below B) hl)
  have HG := hide (fun u (hu : Below w.heap.size w u) => toBoolS_own ag ng cg gs u hn.2.1 hT.glen (hT.below hu).gone)
  have HI := hide (fun u (hu : Below w.heap.size w u) => toRefS_any ai ni ci idx u hn.2.2 (hT.below hu).ix)
  clear hT hC hn hl
  have x0 := (heap_at (unhide k1) 0).1
  go_enter Try.func8, Try.ntmps8
  go_wp2_with fail
  generalize ((w.alloc (.cells #[.slice ap np cp, .slice ag ng cg, .slice ai ni ci] 26)).alloc (.cells #[.slice none 0 0, .slice none 0 0, .slice none 0 0] 32)).alloc (.cells #[.slice none 0 0, .slice none 0 0, .slice none 0 0] 32) = W3 at *
  refine (unhide HP).mono ?_
  rintro e w1 ⟨hs', rfl, hO, hX, hb⟩
  have hg1 : (w.heap.size + 1 + 1 + 1) ≤ W3.heap.size := by omega
  have HX := hide hX
  clear hX HP x0
  replace k1 := hide ((hb.block w.heap.size (by omega)).trans (unhide k1))
  replace k2 := hide ((hb.block (w.heap.size + 1) (by omega)).trans (unhide k2))
  replace k3 := hide ((hb.block (w.heap.size + 1 + 1) (by omega)).trans (unhide k3))
  replace B := B.trans (hb.mono B.size)
  have O1 := hide (hO.down (C := (w.heap.size + 1 + 1 + 1)) (by omega))
  have zz1 := hb.size
  clear hO hb
  generalize W3.heap.size = g1 at *
  clear z3
  have x2 := (heap_at (unhide k3) 0).1
  have x3 := (heap_at (unhide k3) 0).2
  have x1 := (heap_at (unhide k1) 1).1
  have hc1 := tv_cell w1 (w.heap.size + 1 + 1) 0 (.slice (some ⟨g1, 0, none⟩) np np)
  have K1 := hide ((hc1 w.heap.size (by omega)).trans (unhide k1))
  have K2 := hide ((hc1 (w.heap.size + 1) (by omega)).trans (unhide k2))
  have K3 := hide (show (w1.setCell ⟨w.heap.size + 1 + 1, 0, none⟩ (.slice (some ⟨g1, 0, none⟩) np np)).heap[w.heap.size + 1 + 1]? = some (.cells #[.slice (some ⟨g1, 0, none⟩) np np, .slice none 0 0, .slice none 0 0] 32 (0, 0)) from heap_set (unhide k3) 0 (.slice (some ⟨g1, 0, none⟩) np np))
  replace O1 := hide ((unhide O1).setLow (show w.heap.size + 1 + 1 < w.heap.size + 1 + 1 + 1 by omega) 0 (.slice (some ⟨g1, 0, none⟩) np np))
  replace B := B.setCell (p := ⟨w.heap.size + 1 + 1, 0, none⟩) (by show w.heap.size ≤ w.heap.size + 1 + 1; omega) (.slice (some ⟨g1, 0, none⟩) np np)
  have zs0 : (w1.setCell ⟨w.heap.size + 1 + 1, 0, none⟩ (.slice (some ⟨g1, 0, none⟩) np np)).heap.size = w1.heap.size := by simp [World.setCell]
  clear k1 k2 k3 hc1
  go_wp2_with fail
  generalize w1.setCell ⟨w.heap.size + 1 + 1, 0, none⟩ (.slice (some ⟨g1, 0, none⟩) np np) = w2 at *
  clear x1 x2 x3
  have k1 := K1
  have k2 := K2
  have k3 := K3
  clear K1 K2 K3
  refine (unhide HG _ B).mono ?_
  rintro e w3 ⟨rfl, hO, hb⟩
  clear HG
  have hg2 : (w.heap.size + 1 + 1 + 1) ≤ w2.heap.size := by omega
  replace k1 := hide ((hb.block w.heap.size (by omega)).trans (unhide k1))
  replace k2 := hide ((hb.block (w.heap.size + 1) (by omega)).trans (unhide k2))
  replace k3 := hide ((hb.block (w.heap.size + 1 + 1) (by omega)).trans (unhide k3))
  replace B := B.trans (hb.mono B.size)
  replace O1 := hide ((unhide O1).below hb)
  have O2 := hide (gd_base hO (C := (w.heap.size + 1 + 1 + 1)) (by omega))
  have zz2 := hb.size
  clear hO hb
  clear zs0
  generalize w2.heap.size = g2 at *
  have x2 := (heap_at (unhide k3) 1).1
  have x3 := (heap_at (unhide k3) 1).2
  have x1 := (heap_at (unhide k1) 2).1
  have hc1 := tv_cell w3 (w.heap.size + 1 + 1) 1 (.slice (some ⟨g2, 0, none⟩) ng ng)
  have K1 := hide ((hc1 w.heap.size (by omega)).trans (unhide k1))
  have K2 := hide ((hc1 (w.heap.size + 1) (by omega)).trans (unhide k2))
  have K3 := hide (show (w3.setCell ⟨w.heap.size + 1 + 1, 1, none⟩ (.slice (some ⟨g2, 0, none⟩) ng ng)).heap[w.heap.size + 1 + 1]? = some (.cells #[.slice (some ⟨g1, 0, none⟩) np np, .slice (some ⟨g2, 0, none⟩) ng ng, .slice none 0 0] 32 (0, 0)) from heap_set (unhide k3) 1 (.slice (some ⟨g2, 0, none⟩) ng ng))
  replace O1 := hide ((unhide O1).setLow (show w.heap.size + 1 + 1 < w.heap.size + 1 + 1 + 1 by omega) 1 (.slice (some ⟨g2, 0, none⟩) ng ng))
  replace O2 := hide (gd_set (unhide O2) (show w.heap.size + 1 + 1 < w.heap.size + 1 + 1 + 1 by omega) 1 (.slice (some ⟨g2, 0, none⟩) ng ng))
  replace B := B.setCell (p := ⟨w.heap.size + 1 + 1, 1, none⟩) (by show w.heap.size ≤ w.heap.size + 1 + 1; omega) (.slice (some ⟨g2, 0, none⟩) ng ng)
  have zs1 : (w3.setCell ⟨w.heap.size + 1 + 1, 1, none⟩ (.slice (some ⟨g2, 0, none⟩) ng ng)).heap.size = w3.heap.size := by simp [World.setCell]
  clear k1 k2 k3 hc1
  go_wp2_with fail
  generalize w3.setCell ⟨w.heap.size + 1 + 1, 1, none⟩ (.slice (some ⟨g2, 0, none⟩) ng ng) = w4 at *
  clear x1 x2 x3
  have k1 := K1
  have k2 := K2
  have k3 := K3
  clear K1 K2 K3
  refine (unhide HI _ B).mono ?_
  rintro e w5 ⟨g3, rfl, hO, hb⟩
  clear HI
  have l2 := (hb.block (w.heap.size + 1) (by omega)).trans (unhide k2)
  have l3 := (hb.block (w.heap.size + 1 + 1) (by omega)).trans (unhide k3)
  have BB := hide (B.trans (hb.mono B.size))
  have OW := hide (show TrOwn w5 (w.heap.size + 1 + 1 + 1) np ng (.slice (some ⟨g1, 0, none⟩) np np) (.slice (some ⟨g2, 0, none⟩) ng ng) (.slice (some ⟨g3, 0, none⟩) ni ni) hs' gs idx from ⟨(unhide O1).below hb, rb_ownsRow_below (unhide O2) hb, gd_base hO (by omega)⟩)
  clear hO hb B O1 O2 k1 k2 k3
  have t0 : w5.cell? ⟨w.heap.size + 1 + 1, 0, none⟩ = some (.slice (some ⟨g1, 0, none⟩) np np) := (heap_at l3 0).1
  have t1 : w5.cell? ⟨w.heap.size + 1 + 1, 1, none⟩ = some (.slice (some ⟨g2, 0, none⟩) ng ng) := (heap_at l3 1).1
  have t2 : w5.cell? ⟨w.heap.size + 1 + 1, 2, none⟩ = some (.slice none 0 0) := (heap_at l3 2).1
  have tf := (heap_at l3 2).2
  have u0 : w5.cell? ⟨w.heap.size + 1, 0, none⟩ = some (.slice none 0 0) := (heap_at l2 0).1
  have u1 : w5.cell? ⟨w.heap.size + 1, 1, none⟩ = some (.slice none 0 0) := (heap_at l2 1).1
  have u2 : w5.cell? ⟨w.heap.size + 1, 2, none⟩ = some (.slice none 0 0) := (heap_at l2 2).1
  have v0 := (heap_at l2 0).2
  have v1 := (heap_at l2 1).2
  have v2 := (heap_at l2 2).2
  clear l2 l3 hg1 hg2 zz1 zz2 zs1
  go_wp2_with fail
  have q1 : w.heap.size + 1 < w.heap.size + 1 + 1 + 1 := by omega
  have q2 : w.heap.size + 1 + 1 < w.heap.size + 1 + 1 + 1 := by omega
  have q3 : w.heap.size ≤ w.heap.size + 1 := by omega
  have q4 : w.heap.size ≤ w.heap.size + 1 + 1 := by omega
  refine bodyPost_ret (v := .agg #[.slice (some ⟨g1, 0, none⟩) np np, .slice (some ⟨g2, 0, none⟩) ng ng, .slice (some ⟨g3, 0, none⟩) ni ni]) (by simp [results, Try.results8, go_sem, *]) rfl ⟨g1, g2, g3, hs', rfl, ?_, unhide HX, ?_⟩
  · exact (((((unhide OW).set q2 _ _).set q1 _ _).set q1 _ _).set q1 _ _).dn (by omega)
  · exact ((((unhide BB).setCell (p := ⟨w.heap.size + 1 + 1, 2, none⟩) q4 _).setCell (p := ⟨w.heap.size + 1, 0, none⟩) q3 _).setCell (p := ⟨w.heap.size + 1, 1, none⟩) q3 _).setCell (p := ⟨w.heap.size + 1, 2, none⟩) q3 _
set_option maxRecDepth 100000 in
set_option maxHeartbeats 1000000 in
theorem eqTree_any (ap ap' : Option Addr) (np cp cp' : Nat) (ag ag' : Option Addr) (ng cg cg' : Nat) (ai ai' : Option Addr) (ni ci ci' : Nat) (hs hs' : List PpH) (gs : List Bool) (idx : List RefD) (w : World) (h1 : TrIn w ap np cp ag ng cg ai ni hs gs idx) (h2 : TrIn w ap' np cp' ag' ng cg' ai' ni hs' gs idx) (hX : hs'.map (·.X) = hs.map (·.X)) (hn : np ≤ 1048576 ∧ ng ≤ 1048576 ∧ ni ≤ 1048576) (hl : ∀ h ∈ hs, h.s0.n ≤ 1048576 ∧ h.s1.n ≤ 1048576) :
    Calls Try.prog 10 #[.agg #[.slice ap np cp, .slice ag ng cg, .slice ai ni ci], .agg #[.slice ap' np cp', .slice ag' ng cg', .slice ai' ni ci']] w fun e w' => e = .returned (.bool true) ∧ Below w.heap.size w w' := by
  have b0 : Below w.heap.size w ((w.alloc (.cells #[.slice ap np cp, .slice ag ng cg, .slice ai ni ci] 32)).alloc (.cells #[.slice ap' np cp', .slice ag' ng cg', .slice ai' ni ci'] 32)) := ((Below.refl _ _).alloc (Nat.le_refl _) _).alloc (by simp) _
  have k1 : ((w.alloc (.cells #[.slice ap np cp, .slice ag ng cg, .slice ai ni ci] 32)).alloc (.cells #[.slice ap' np cp', .slice ag' ng cg', .slice ai' ni ci'] 32)).heap[w.heap.size]? = some (.cells #[.slice ap np cp, .slice ag ng cg, .slice ai ni ci] 32 (0, 0)) :=
    (((Below.refl (w.heap.size + 1) (w.alloc (.cells #[.slice ap np cp, .slice ag ng cg, .slice ai ni ci] 32))).alloc (by simp) _).block w.heap.size (by omega)).trans (heap_alloc_new _ _)
  have k2 : ((w.alloc (.cells #[.slice ap np cp, .slice ag ng cg, .slice ai ni ci] 32)).alloc (.cells #[.slice ap' np cp', .slice ag' ng cg', .slice ai' ni ci'] 32)).heap[w.heap.size + 1]? = some (.cells #[.slice ap' np cp', .slice ag' ng cg', .slice ai' ni ci'] 32 (0, 0)) := by
    have := heap_alloc_new (w.alloc (.cells #[.slice ap np cp, .slice ag ng cg, .slice ai ni ci] 32)) (.cells #[.slice ap' np cp', .slice ag' ng cg', .slice ai' ni ci'] 32)
    simpa using this
  have HP := hide (eqPageS_any ap ap' np cp cp' hs hs' _ hn.1 (h1.below b0).pgs (h2.below b0).pgs hX hl)
  have HG := hide (fun u (hu : Below w.heap.size w u) => eqBoolS_C ag ag' ng cg cg' gs u (by have := hn.2.1; unfold maxLen; omega) h1.glen (h1.below hu).gone (h2.below hu).gone)
  have HI := hide (fun u (hu : Below w.heap.size w u) => eqRefS_any ai ai' ni ci ci' idx u hn.2.2 (h1.below hu).ix (h2.below hu).ix)
  have hs0 : w.heap.size < ((w.alloc (.cells #[.slice ap np cp, .slice ag ng cg, .slice ai ni ci] 32)).alloc (.cells #[.slice ap' np cp', .slice ag' ng cg', .slice ai' ni ci'] 32)).heap.size := by simp <;> omega
  have hs1 : w.heap.size + 1 < ((w.alloc (.cells #[.slice ap np cp, .slice ag ng cg, .slice ai ni ci] 32)).alloc (.cells #[.slice ap' np cp', .slice ag' ng cg', .slice ai' ni ci'] 32)).heap.size := by simp <;> omega
  have K1 := hide k1
  have K2 := hide k2
  clear k1 k2 h1 h2 hX hn hl
  go_enter Try.func10, Try.ntmps10
  go_wp2_with fail
  generalize ((w.alloc (.cells #[.slice ap np cp, .slice ag ng cg, .slice ai ni ci] 32)).alloc (.cells #[.slice ap' np cp', .slice ag' ng cg', .slice ai' ni ci'] 32)) = W at *
  refine (unhide HP).mono ?_
  rintro e w1 ⟨rfl, hb1⟩
  have bA := b0.trans (hb1.mono b0.size)
  have k1 := (hb1.block w.heap.size hs0).trans (unhide K1)
  have k2 := (hb1.block (w.heap.size + 1) hs1).trans (unhide K2)
  have x1 := (heap_at k1 1).1
  have x2 := (heap_at k2 1).1
  have zz := hb1.size
  clear HP
  go_wp2_with fail
  refine (unhide HG _ bA).mono ?_
  rintro e w2 ⟨rfl, hb2⟩
  have bB := bA.trans (hb2.mono bA.size)
  replace k1 := (hb2.block w.heap.size (by omega)).trans k1
  replace k2 := (hb2.block (w.heap.size + 1) (by omega)).trans k2
  clear HG x1 x2
  have x1 := (heap_at k1 2).1
  have x2 := (heap_at k2 2).1
  go_wp2_with fail
  refine (unhide HI _ bB).mono ?_
  rintro e w3 ⟨rfl, hb3⟩
  have bC := bB.trans (hb3.mono bB.size)
  clear x1 x2 k1 k2 HI
  go_wp2_with fail
  go_ret
  exact ⟨rfl, bC⟩
end Go.Proofs.Ytdajoapbdeplhaa
