/-
  Drawn images.
-/
import Derived.Test.YtocdbijmpecdgaaSrcM
import Derived.Test.YtocdbijmpecdgaaSrcB
import Derived.Test.YtocdbijmpecdgaaImC
import Derived.Test.YtocdbijmpecdgaaImgL
namespace Go.Proofs.Ytocdbijmpecdgaa
open Go.RowKit

/-- An image and where its bytes lie; one that is Gone may have none. -/
structure ImG where
  X : ImD
  a : Option Addr
  c : Nat
def gr (h : ImG) : ImR := ⟨h.X.id, h.X.gone, ⟨h.a, h.X.xs.length, h.c⟩⟩
/-- Its bytes, from block B on. -/
def gDat (w : World) (B : Nat) (h : ImG) : Prop :=
  (∃ g, h.a = some ⟨g, 0, none⟩ ∧ B ≤ g ∧ g < w.heap.size ∧ Row w h.a h.X.xs.length h.X.xs) ∨ (h.a = none ∧ h.c = 0 ∧ h.X.xs = [] ∧ h.X.gone = true)
def gOK (h : ImG) : Prop := h.X.ok = true ∧ Bytes8 h.X.xs ∧ h.X.xs.length ≤ 20
theorem gDat.down {w : World} {B C : Nat} {h : ImG} (hd : gDat w B h) (hc : C ≤ B) : gDat w C h := by
  rcases hd with ⟨g, h1, h2, h3⟩ | h
  · exact .inl ⟨g, h1, Nat.le_trans hc h2, h3⟩
  · exact .inr h
theorem gDat.keep {w w' : World} {B : Nat} {h : ImG} (hd : gDat w B h) (hs : w.heap.size ≤ w'.heap.size) (hk : ∀ g, B ≤ g → h.a = some ⟨g, 0, none⟩ → w'.heap[g]? = w.heap[g]?) : gDat w' B h := by
  rcases hd with ⟨g, h1, h2, h3, h4⟩ | h
  · exact .inl ⟨g, h1, h2, Nat.lt_of_lt_of_le h3 hs, h4.of_cells fun x hx q hq => World.cell?_of_block (w := w) (by rw [h1] at hx; cases hx; rw [hq]; exact hk g h2 h1)⟩
  · exact .inr h
theorem row_of_mineO {w : World} {B g n cap : Nat} {xs : List Int} (h : Owns w B (.slice (some ⟨g, 0, none⟩) n cap) xs) : Row w (some ⟨g, 0, none⟩) xs.length xs := by
  obtain ⟨a, c, e, _, _, h3, _⟩ := mine_of_owns h
  injection e with e1 _ _
  rw [e1]
  exact h3
set_option maxRecDepth 100000 in
set_option maxHeartbeats 2000000 in
theorem image_any (p : Nat) (a : Option Addr) (n c : Nat) (xs : List Int) (K : Int) (w : World) (h : Src w p a n c xs K) (hK : K ≤ 100000) :
    Calls Try.prog 99 #[.pointer (some ⟨p, 0, none⟩)] w fun e w' => ∃ h : ImG, e = .returned (iv h.X.id h.X.gone h.a h.X.xs.length h.c) ∧ gOK h ∧ gDat w' w.heap.size h ∧ Wrote p w w' ∧ Src w' p a n c xs (K + 100) := by
  have hp := cell_lt h.code
  have H := hide (h.alloc (.cells #[.int .i64 0, .bool false, .slice none 0 0] 45))
  have HC := hide (src_code' h)
  clear h
  go_enter Try.func99, Try.ntmps99
  go_wp2_with fail
  refine (chance_any p a n c xs K 5 _ (unhide H) (by omega) (by omega) (by omega)).mono ?_
  rintro e w1 ⟨b, rfl, ho1, hs1⟩
  have W1 := (Wrote.alloc w p (.cells #[.int .i64 0, .bool false, .slice none 0 0] 45)).trans ho1.wrote
  have r0 : ∀ W, Only p w1 W → W.cell? ⟨w.heap.size, 0, none⟩ = some (.int .i64 0) ∧ W.cell? ⟨w.heap.size, 1, none⟩ = some (.bool false) ∧ W.cell? ⟨w.heap.size, 2, none⟩ = some (.slice none 0 0) ∧ W.frozen? ⟨w.heap.size, 0, none⟩ = false ∧ W.frozen? ⟨w.heap.size, 1, none⟩ = false ∧ W.frozen? ⟨w.heap.size, 2, none⟩ = false ∧ w.heap.size < W.heap.size := fun W hO => by
    have hne : w.heap.size ≠ p := by omega
    have o2 := ho1.trans hO
    refine ⟨(o2.cell (p := ⟨w.heap.size, 0, none⟩) hne).trans (by simp), (o2.cell (p := ⟨w.heap.size, 1, none⟩) hne).trans (by simp), (o2.cell (p := ⟨w.heap.size, 2, none⟩) hne).trans (by simp), (o2.frozen _).trans (by simp), (o2.frozen _).trans (by simp), (o2.frozen _).trans (by simp), ?_⟩
    rw [o2.size]; simp
  have WW1 := hide W1
  have R0 := hide r0
  have S1 := hide hs1
  clear W1 r0 hs1 H ho1
  cases b with
  | true =>
    go_wp2_with fail
    refine (next_any p a n c xs _ 5 w1 (unhide S1) (by omega) (by omega) (by omega)).mono ?_
    rintro e w2 ⟨r, rfl, hr0, hr1, ho2, hs2⟩
    obtain ⟨c0, c1, c2, f0, f1, f2, hz⟩ := unhide R0 w2 ho2
    have W2 := hide ((unhide WW1).trans ho2.wrote)
    have S2 := hide hs2
    clear ho2 hs2 R0 S1 WW1
    go_wp2_with fail
    refine bodyPost_ret (v := iv r true none 0 0) (by simp [results, Try.results99, go_sem, c0, c1, c2]) rfl ?_
    have hw3 : Wrote p w (((w2.setCell ⟨w.heap.size, 0, none⟩ (.int .i64 r)).setCell ⟨w.heap.size, 1, none⟩ (.bool true)).setCell ⟨w.heap.size, 2, none⟩ (.slice none 0 0)) := by
      have q := unhide W2
      refine ⟨q.os, q.tape, q.output, by simp [World.setCell]; exact q.size, fun k hk hl => ?_⟩
      rw [Below.heap_setCell _ _ _ _ (by simp; omega), Below.heap_setCell _ _ _ _ (by simp; omega), Below.heap_setCell _ _ _ _ (by simp; omega)]
      exact q.block k hk hl
    refine ⟨⟨⟨r, true, []⟩, none, 0⟩, rfl, ⟨show imOK r true 0 = true from imOK_yes hr0 (by omega) (by omega) (fun _ => rfl), fun i hi => absurd hi (Nat.not_lt_zero _), by simp⟩, .inr ⟨rfl, rfl, rfl, rfl⟩, hw3, ?_⟩
    have e : ∀ b, b ≠ w.heap.size → (((w2.setCell ⟨w.heap.size, 0, none⟩ (.int .i64 r)).setCell ⟨w.heap.size, 1, none⟩ (.bool true)).setCell ⟨w.heap.size, 2, none⟩ (.slice none 0 0)).heap[b]? = w2.heap[b]? := fun b hb => by
      rw [Below.heap_setCell _ _ _ _ hb, Below.heap_setCell _ _ _ _ hb, Below.heap_setCell _ _ _ _ hb]
    exact (((unhide S2).of_blocks' (e p (by omega)) (fun x hx hn => e _ (by have := unhide HC x hx hn; omega))).more (by omega))
  | false =>
    go_wp2_with fail
    refine (next_any p a n c xs _ 5 w1 (unhide S1) (by omega) (by omega) (by omega)).mono ?_
    rintro e w2 ⟨r, rfl, hr0, hr1, ho2, hs2⟩
    have W2 := hide ((unhide WW1).trans ho2.wrote)
    have O2 := hide ho2
    have S2 := hide hs2
    clear ho2 hs2 S1 WW1
    go_wp2_with fail
    refine (bytes_draw p a n c xs _ 20 w2 (unhide S2) (by omega) (by omega)).mono ?_
    rintro e w3 ⟨g, cap, ys, rfl, hy, hO3, hY3, hW3, hS3⟩
    obtain ⟨c0, c1, c2, f0, f1, f2, hz⟩ := unhide R0 w2 (unhide O2)
    have hne : w.heap.size ≠ p := by omega
    have d0 := (hW3.cell (p := ⟨w.heap.size, 0, none⟩) hne hz).trans c0
    have d1 := (hW3.cell (p := ⟨w.heap.size, 1, none⟩) hne hz).trans c1
    have d2 := (hW3.cell (p := ⟨w.heap.size, 2, none⟩) hne hz).trans c2
    have g0 := (hW3.frozen (p := ⟨w.heap.size, 0, none⟩) hne hz).trans f0
    have g1 := (hW3.frozen (p := ⟨w.heap.size, 1, none⟩) hne hz).trans f1
    have g2 := (hW3.frozen (p := ⟨w.heap.size, 2, none⟩) hne hz).trans f2
    have hz3 : w.heap.size < w3.heap.size := Nat.lt_of_lt_of_le hz hW3.size
    have O3 := hide hO3
    have Y3 := hide hY3
    have W3 := hide ((unhide W2).trans hW3)
    have S3 := hide hS3
    clear hO3 hY3 hW3 hS3 R0 c0 c1 c2 f0 f1 f2 O2 S2 W2
    go_wp2_with fail
    refine bodyPost_ret (v := iv r false (some ⟨g, 0, none⟩) ys.length cap) (by simp [results, Try.results99, go_sem, d0, d1, d2]) rfl ?_
    have e : ∀ b, b ≠ w.heap.size → (((w3.setCell ⟨w.heap.size, 0, none⟩ (.int .i64 r)).setCell ⟨w.heap.size, 1, none⟩ (.bool false)).setCell ⟨w.heap.size, 2, none⟩ (.slice (some ⟨g, 0, none⟩) ys.length cap)).heap[b]? = w3.heap[b]? := fun b hb => by
      rw [Below.heap_setCell _ _ _ _ hb, Below.heap_setCell _ _ _ _ hb, Below.heap_setCell _ _ _ _ hb]
    have hsz : (((w3.setCell ⟨w.heap.size, 0, none⟩ (.int .i64 r)).setCell ⟨w.heap.size, 1, none⟩ (.bool false)).setCell ⟨w.heap.size, 2, none⟩ (.slice (some ⟨g, 0, none⟩) ys.length cap)).heap.size = w3.heap.size := by simp [World.setCell]
    have hgl := (unhide O3).lt g rfl
    have hw3 : Wrote p w (((w3.setCell ⟨w.heap.size, 0, none⟩ (.int .i64 r)).setCell ⟨w.heap.size, 1, none⟩ (.bool false)).setCell ⟨w.heap.size, 2, none⟩ (.slice (some ⟨g, 0, none⟩) ys.length cap)) := by
      have q := unhide W3
      exact ⟨q.os, q.tape, q.output, by rw [hsz]; exact q.size, fun k hk hl => (e k (by omega)).trans (q.block k hk hl)⟩
    have hrow := row_of_mineO (unhide O3)
    refine ⟨⟨⟨r, false, ys⟩, some ⟨g, 0, none⟩, cap⟩, rfl, ⟨show imOK r false ys.length = true from imOK_yes hr0 (by omega) (by omega) (fun h => by cases h), bytes8_mem.2 (unhide Y3), hy⟩, .inl ⟨g, rfl, by omega, by rw [hsz]; exact hgl.2, ?_⟩, hw3, ?_⟩
    · exact hrow.of_cells fun x hx q hq => World.cell?_of_block (w := w3) (by cases hx; rw [hq]; exact e g (by omega))
    · exact (((unhide S3).of_blocks' (e p (by omega)) (fun x hx hn => e _ (by have := unhide HC x hx hn; omega))).more (by omega))
/-- Drawn images: their headers in a row that the call owns. -/
structure IDr (w : World) (B : Nat) (v : Value) (hs : List ImG) : Prop where
  row : GOwns w B v (hs.map gr)
  dat : ∀ i (hi : i < hs.length), gDat w B hs[i]
  off : ∀ i (hi : i < hs.length) g, hs[i].a = some ⟨g, 0, none⟩ → v.ownBlock ≠ some g
  ok : ∀ i (hi : i < hs.length), gOK hs[i]
theorem gd_app {w : World} {B : Nat} {v : Value} {ds : List ImR} (h : GOwns w B v ds) (r : ImR) (hz : ds.length ≤ 200000) (hB : B ≤ w.heap.size) :
    ∃ v' w', (Builtin.append_ #[40, 40] 40 #[v, .slice (some ⟨w.heap.size, 0, none⟩) 1 1]).run Try.prog (w.alloc (.cells #[.int .i64 r.id, .bool r.gone, .slice r.d.a r.d.n r.d.c] 45)) = .ok v' w' ∧ GOwns w' B v' (ds ++ [r]) ∧ (w.alloc (.cells #[.int .i64 r.id, .bool r.gone, .slice r.d.a r.d.n r.d.c] 45)).grownBy w' v.ownBlock ∧ v' ≠ .slice none 0 0 ∧ (v'.ownBlock = v.ownBlock ∨ v'.ownBlock = some (w.heap.size + 1)) := by
  obtain ⟨i0, hi0, hz0, hz1, hz2⟩ := info_parts infoIm
  have hcells : ∀ j u, (gcs [r])[j]? = some u → (w.alloc (.cells #[.int .i64 r.id, .bool r.gone, .slice r.d.a r.d.n r.d.c] 45)).cell? ((⟨w.heap.size, 0, none⟩ : Addr).add j) = some u := fun j u hu => by
    have hj : j < 3 := by simpa [gcs] using (List.getElem?_eq_some_iff.1 hu).1
    have e2 : (⟨w.heap.size, 0, none⟩ : Addr).add j = ⟨w.heap.size, j, none⟩ := by unfold Addr.add; split <;> simp_all
    rw [e2]
    refine rb_cell_new rfl ?_
    match j, hj with
    | 0, _ => simpa [gcs] using hu
    | 1, _ => simpa [gcs] using hu
    | 2, _ => simpa [gcs] using hu
  obtain ⟨v', w', hrun, ho', hg, hv, hloc⟩ := app_at (P := Try.prog) (w := w.alloc (.cells #[.int .i64 r.id, .bool r.gone, .slice r.d.a r.d.n r.d.c] 45)) (B := B) 40 40 45 Try.underlying40 hi0 hz0 hz1 hz2 rfl (by decide) (World.ownsRow.alloc h _) ⟨w.heap.size, 0, none⟩ 1 1 (gcs [r]) (by simp [gcs]) hcells (gcs_one _) (by unfold maxLen; omega) (by omega) (by simp; omega) (fun _ => by omega)
  refine ⟨v', w', hrun, ?_, hg, hv, by simpa using hloc⟩
  unfold GOwns
  rw [List.length_append, gcs_append]
  exact ho'
theorem fi_wpApp {P : Program} {ops : Array Oper} {rest : List Oper} {o : Oper} {a : Act} {w : World} {Q : Exit → Act → World → Prop}
    (hg : o.guard = none) (s x : Operand) (t : TypeId) (hop : o.op = Op.call { callee := Callee.builtin Builtin.append, args := #[s, x], argTypes := #[t, t] })
    (vs vx v' : Value) (w' : World) (hs : a.eval s = vs) (hx : a.eval x = vx) (hrun : (Builtin.append_ #[t, t] o.type #[vs, vx]).run P w = .ok v' w') (h : wpList P ops Q rest (a.put o.dst v') w') :
    wpList P ops Q (o :: rest) a w :=
  wpList_plain hg fun _ hK => by
    unfold Oper.wp
    simp [execOp, hop, resolve, invoke, builtin, hs, hx, hrun, Result.andThen]
    exact hK _ _ h
theorem size_draw (p : Nat) (a : Option Addr) (n c : Nat) (xs : List Int) (K : Int) (m : Nat) (w : World) (h : Src w p a n c xs K) :
    Calls Try.prog 86 #[.pointer (some ⟨p, 0, none⟩), .int .i64 (m : Int)] w fun e w' => ∃ r : Nat, e = .returned (.int .i64 (r : Int)) ∧ r ≤ m ∧ w' = w := by
  have c0 := h.code
  have hb := h.bound
  have hq : Int.tdiv (n : Int) 12 = ((n / 12 : Nat) : Int) := by rw [Int.tdiv_eq_ediv_of_nonneg (by omega)]; omega
  have wr : IntKind.i64.wrap (1 + ((n / 12 : Nat) : Int)) = ((1 + n / 12 : Nat) : Int) := by rw [IntKind.wrap_i64]; omega
  clear h
  go_enter Try.func86, Try.ntmps86
  go_wp2_with fail
  · go_ret
    exact ⟨m, rfl, by omega, rfl⟩
  · go_ret
    exact ⟨1 + n / 12, by simp, by omega, rfl⟩
set_option maxRecDepth 100000 in
set_option maxHeartbeats 4000000 in
theorem images_any (p : Nat) (a : Option Addr) (n c : Nat) (xs : List Int) (K : Int) (w : World) (h : Src w p a n c xs K) (hK : K ≤ 1000) :
    Calls Try.prog 53 #[.pointer (some ⟨p, 0, none⟩)] w fun e w' => ∃ v hs, e = .returned v ∧ IDr w' w.heap.size v hs ∧ hs.length ≤ 9 ∧ Wrote p w w' := by
  have hp := cell_lt h.code
  have HC := hide (src_code' h)
  have H := hide (h.alloc (.cells #[] 45))
  clear h
  go_enter Try.func53, Try.ntmps53
  go_wp2_with fail
  refine (size_draw p a n c xs K 8 _ (unhide H)).mono ?_
  rintro e w1 ⟨r1, rfl, hr1, hw⟩
  subst w1
  have wr1 : IntKind.i64.wrap ((r1 : Int) + 2) = (r1 : Int) + 2 := by rw [IntKind.wrap_i64]; omega
  go_wp2_with fail
  refine (next_any p a n c xs K ((r1 : Int) + 2) _ (unhide H) (by omega) (by omega) (by omega)).mono ?_
  rintro e w2 ⟨r, rfl, hr0, hr2, ho2, hs2⟩
  obtain ⟨r, rfl⟩ := Int.eq_ofNat_of_zero_le hr0
  have O0 : GOwns (w.alloc (.cells #[] 45)) w.heap.size (.slice (some ⟨w.heap.size, 0, none⟩) 0 0) [] := World.ownsRow_lit _ _ _ (Nat.le_refl _) (by unfold maxLen; simp) rfl
  have W2 := hide ((Wrote.alloc w p (.cells #[] 45)).trans ho2.wrote)
  have I2 := hide (show IDr w2 w.heap.size (.slice (some ⟨w.heap.size, 0, none⟩) 0 0) [] from ⟨World.ownsRow.kept (row := some p) O0 ⟨ho2.os, ho2.tape, ho2.output, by rw [ho2.size]; exact Nat.le_refl _, fun i _ hne => ho2.block i (fun e => hne (by rw [e]))⟩ (.inr fun e => by have := (World.ownsRow.lt O0 _ e).1; omega), fun _ hi => absurd hi (Nat.not_lt_zero _), fun _ hi => absurd hi (Nat.not_lt_zero _), fun _ hi => absurd hi (Nat.not_lt_zero _)⟩)
  have S2 := hide hs2
  have hr9 : r ≤ 9 := by omega
  clear ho2 hs2 O0 H hr0 hr2 wr1
  go_wp2_with fail
  go_loopw [3, 4] (fun v i wr => ∃ (q g cap : Nat) (hs : List ImG), v = .slice (some ⟨g, 0, none⟩) hs.length cap ∧ i = .int .i64 (q : Int) ∧ hs.length + q ≤ 9 ∧ Hid (IDr wr w.heap.size (.slice (some ⟨g, 0, none⟩) hs.length cap) hs) ∧ Hid (Wrote p w wr) ∧ Hid (Src wr p a n c xs (K + 3 + 100 * hs.length))) (fun _ i _ => (intOf i).toNat)
  case atStart => exact ⟨r, w.heap.size, 0, [], rfl, rfl, by simp; omega, unhide I2, unhide W2, (unhide S2).more (by simp)⟩
  case round =>
    clear I2 W2 S2
    obtain ⟨q, g3, cap3, hs, rfl, rfl, hq, hI, hW, hS⟩ := hrel
    by_cases hlt : 0 < q
    · have hpl : w.heap.size ≤ wr.heap.size := (unhide hW).size
      go_wp2_with fail
      refine (image_any p a n c xs _ wr (unhide hS) (by omega)).mono ?_
      rintro e w2 ⟨x, rfl, hok, hd, hw2, hs2⟩
      have hne : ∀ i (hi : i < hs.length) g, hs[i].a = some ⟨g, 0, none⟩ → w.heap.size ≤ g ∧ g < wr.heap.size := fun i hi g hg => by
        rcases (unhide hI).dat i hi with ⟨g', h1, h2, h3, _⟩ | ⟨h1, _⟩
        · rw [h1] at hg
          injection hg with hg
          injection hg with hg
          omega
        · rw [h1] at hg
          cases hg
      have I2 : IDr w2 w.heap.size (.slice (some ⟨g3, 0, none⟩) hs.length cap3) hs := by
        have q := unhide hI
        refine ⟨World.ownsRow.kept (row := some p) q.row ⟨hw2.os, hw2.tape, hw2.output, hw2.size, fun i hi hne => hw2.block i (fun e => hne (by rw [e])) hi⟩ (.inr fun e => by have := (World.ownsRow.lt q.row _ e).1; omega), fun i hi => (q.dat i hi).keep hw2.size (fun g hg ha => ?_), q.off, q.ok⟩
        have := hne i hi g ha
        exact hw2.block g (by omega) (by omega)
      have hgl := World.ownsRow.lt (unhide hI).row g3 rfl
      obtain ⟨v4, w4, hrun, ho4, hg4, hv4, hloc⟩ := gd_app I2.row (gr x) (by simp; omega) (Nat.le_trans hpl hw2.size)
      have hz2 := hw2.size
      have hz4 : w2.heap.size ≤ w4.heap.size := by have := hg4.size; simp at this; omega
      have K4 : ∀ k, k < w2.heap.size → k ≠ g3 → w4.heap[k]? = w2.heap[k]? := fun k hk hn => by
        rw [hg4.block k (by simp; omega) (by simp [Value.ownBlock]; exact hn)]
        exact ((Below.refl w2.heap.size w2).alloc (Nat.le_refl _) _).block k hk
      have hxne : ∀ g, x.a = some ⟨g, 0, none⟩ → wr.heap.size ≤ g ∧ g < w2.heap.size := fun g hg => by
        rcases hd with ⟨g', h1, h2, h3, _⟩ | ⟨h1, _⟩
        · rw [h1] at hg
          injection hg with hg
          injection hg with hg
          omega
        · rw [h1] at hg
          cases hg
      obtain ⟨g4, cap4, rfl⟩ : ∃ g c, v4 = .slice (some ⟨g, 0, none⟩) (hs ++ [x]).length c := by
        rcases ho4.2 with ⟨e, _⟩ | ⟨g, cap, cur, e, _⟩
        · exact absurd e hv4
        · exact ⟨g, cap, by rw [e]; simp⟩
      have hl4 : g4 = g3 ∨ g4 = w2.heap.size + 1 := by simpa [Value.ownBlock] using hloc
      have I4 := hide (show IDr w4 w.heap.size (.slice (some ⟨g4, 0, none⟩) (hs ++ [x]).length cap4) (hs ++ [x]) from by
        have key : ∀ k (hk : k < (hs ++ [x]).length), (∃ hk' : k < hs.length, (hs ++ [x])[k] = hs[k]) ∨ (k = hs.length ∧ (hs ++ [x])[k] = x) := fun k hk => by
          by_cases e : k < hs.length
          · exact .inl ⟨e, List.getElem_append_left e⟩
          · have : k = hs.length := by simp at hk; omega
            subst this
            exact .inr ⟨rfl, by rw [List.getElem_append_right (Nat.le_refl _)]; simp⟩
        refine ⟨by rw [List.map_append]; exact ho4, fun i hi => ?_, fun i hi g hg => ?_, fun i hi => ?_⟩
        · rcases key i hi with ⟨h1, e1⟩ | ⟨h1, e1⟩ <;> rw [e1]
          · exact (I2.dat i h1).keep hz4 (fun g hg ha => K4 g (by have := hne i h1 g ha; omega) (fun e => I2.off i h1 g ha (by rw [e]; rfl)))
          · exact (hd.down hpl).keep hz4 (fun g hg ha => K4 g (hxne g ha).2 (by have := hxne g ha; omega))
        · rcases key i hi with ⟨h1, e1⟩ | ⟨h1, e1⟩ <;> rw [e1] at hg
          · have h2 := hne i h1 g hg
            have h3 := I2.off i h1 g hg
            intro e
            have e : g4 = g := by simpa [Value.ownBlock] using e
            rcases hl4 with h | h
            · exact h3 (by rw [← e, h]; rfl)
            · omega
          · have h2 := hxne g hg
            intro e
            have e : g4 = g := by simpa [Value.ownBlock] using e
            omega
        · rcases key i hi with ⟨h1, e1⟩ | ⟨h1, e1⟩ <;> rw [e1]
          · exact I2.ok i h1
          · exact hok)
      have W4 := hide (show Wrote p w w4 from wrote_grown' (((unhide hW).trans hw2).trans (Wrote.alloc w2 p _)) hg4 (fun k hk => by simp [Value.ownBlock] at hk; omega))
      have S4 := hide ((hs2.alloc (.cells #[.int .i64 (gr x).id, .bool (gr x).gone, .slice (gr x).d.a (gr x).d.n (gr x).d.c] 45)).grown hg4 (B := w.heap.size) (fun k hk => by simp [Value.ownBlock] at hk; omega) hp (unhide HC))
      have HL := hide (show (hs ++ [x]).length = hs.length + 1 by simp)
      clear hI hW hS hok hd hw2 hs2 I2 hne ho4 hg4 hv4 hloc K4 hxne hl4 hgl hz2 hz4
      generalize hs ++ [x] = us at *
      go_wp2_with (at_builtin; refine fi_wpApp rfl (.tmp 15) (.tmp 18) 40 rfl _ _ _ w4 rfl rfl hrun ?_)
      go_roundw
      case rel => exact ⟨q - 1, g4, cap4, us, rfl, by go_num, by have := unhide HL; omega, unhide I4, unhide W4, (unhide S4).more (by have := unhide HL; omega)⟩
      case measure => simp [intOf]; omega
    · obtain rfl : q = 0 := by omega
      go_wp2_with fail
      go_ret
      exact ⟨_, hs, rfl, unhide hI, by omega, unhide hW⟩
end Go.Proofs.Ytocdbijmpecdgaa
