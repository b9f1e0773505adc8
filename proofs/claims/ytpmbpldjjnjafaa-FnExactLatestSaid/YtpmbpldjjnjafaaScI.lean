/-
  impl.imageAt.
-/
import Derived.Test.YtpmbpldjjnjafaaScB
import Derived.Test.YtpmbpldjjnjafaaImgB
import Derived.Deep.DeepCutAuto
namespace Go.Proofs.Ytpmbpldjjnjafaa
open Go.RowKit

/-- What imageAt gives. -/
def ImRes (xs : List Int) (p : Nat) (w : World) (e : Ending) (w' : World) : Prop :=
  (nextI xs p = none ∧ e = .returned (.tuple #[iv 0 false none 0 0, .int .i64 0, .bool false]) ∧ Below w.heap.size w w') ∨
  ∃ x g cap, nextI xs p = some x ∧ e = .returned (.tuple #[iv x.id x.gone (some ⟨g, 0, none⟩) x.xs.length cap, .int .i64 ((p + 9 + x.xs.length : Nat) : Int), .bool true]) ∧ Owns w' w.heap.size (.slice (some ⟨g, 0, none⟩) x.xs.length cap) x.xs ∧ Below w.heap.size w w'
/-- The image in a box, its bytes in a row of their own. -/
structure ImBox (W : World) (B xb g cp : Nat) (X : ImD) (wc : World) : Prop where
  box : wc.heap[xb]? = some (.cells #[.int .i64 X.id, .bool X.gone, .slice (some ⟨g, 0, none⟩) X.xs.length cp] 48 (0, 0))
  own : Owns wc B (.slice (some ⟨g, 0, none⟩) X.xs.length cp) X.xs
  ne : g ≠ xb
  ge : B ≤ xb
  bel : Below B W wc
theorem sc_set3 {w : World} {b : Nat} {x y z : Value} {t : TypeId} (h : w.heap[b]? = some (.cells #[x, y, z] t (0, 0))) (u v r : Value) : (((w.setCell ⟨b, 0, none⟩ u).setCell ⟨b, 1, none⟩ v).setCell ⟨b, 2, none⟩ r).heap[b]? = some (.cells #[u, v, r] t (0, 0)) := by
  rw [heap_set (heap_set (heap_set h 0 u) 1 v) 2 r]
  rfl
theorem sc_owns_set {w : World} {B b g n c j : Nat} {xs : List Int} (h : Owns w B (.slice (some ⟨g, 0, none⟩) n c) xs) (hne : g ≠ b) (v : Value) : Owns (w.setCell ⟨b, j, none⟩ v) B (.slice (some ⟨g, 0, none⟩) n c) xs :=
  ownsRow_heap h (fun k hk => by
    have : k = g := by simpa [Value.ownBlock] using hk.symm
    subst this
    exact Below.heap_setCell _ _ _ _ hne)
theorem ImBox.of_store {W : World} {B xb g cp : Nat} {X : ImD} {w : World} {t : Value} (hk : w.heap[xb]? = some (.cells #[.int .i64 0, .bool false, t] 48 (0, 0))) (ho : Owns w B (.slice (some ⟨g, 0, none⟩) X.xs.length cp) X.xs) (hne : g ≠ xb) (hge : B ≤ xb) (hb : Below B W w) :
    ImBox W B xb g cp X (((w.setCell ⟨xb, 0, none⟩ (.int .i64 X.id)).setCell ⟨xb, 1, none⟩ (.bool X.gone)).setCell ⟨xb, 2, none⟩ (.slice (some ⟨g, 0, none⟩) X.xs.length cp)) :=
  ⟨sc_set3 hk _ _ _, sc_owns_set (sc_owns_set (sc_owns_set ho hne _) hne _) hne _, hne, hge, ((hb.setCell (p := ⟨xb, 0, none⟩) hge _).setCell (p := ⟨xb, 1, none⟩) hge _).setCell (p := ⟨xb, 2, none⟩) hge _⟩
theorem ImBox.of_new {W : World} {B g cp : Nat} {X : ImD} {w : World} (ho : Owns w B (.slice (some ⟨g, 0, none⟩) X.xs.length cp) X.xs) (hb : Below B W w) :
    ImBox W B w.heap.size g cp X (w.alloc (.cells #[.int .i64 X.id, .bool X.gone, .slice (some ⟨g, 0, none⟩) X.xs.length cp] 48)) :=
  ⟨heap_alloc_new _ _, owns_below ho ((Below.refl _ _).alloc (Nat.le_refl _) _), fun e => by have := (ho.lt g rfl).2; omega, by have := ho.lt g rfl; omega, hb.alloc (by have := ho.lt g rfl; omega) _⟩
theorem sc_at_below {w w' : World} {b : Nat} {o : Obj} (h : w.heap[b]? = some o) (hb : Below w.heap.size w w') : w'.heap[b]? = some o := (hb.block b (Array.getElem?_eq_some_iff.1 h).1).trans h
theorem sc_g {w : World} {B g n c : Nat} {xs : List Int} (h : Owns w B (.slice (some ⟨g, 0, none⟩) n c) xs) : B ≤ g ∧ g < w.heap.size := h.lt g rfl
theorem sc_down {w : World} {B C : Nat} {v : Value} {xs : List Int} (h : Owns w B v xs) (hc : C ≤ B) : Owns w C v xs := by
  refine ⟨h.1, ?_⟩
  rcases h.2 with h | ⟨g, cap, cur, e, hb, r⟩
  · exact .inl h
  · exact .inr ⟨g, cap, cur, e, Nat.le_trans hc hb, r⟩
set_option maxRecDepth 100000 in
set_option maxHeartbeats 8000000 in
theorem imageAt_any (a : Option Addr) (n c p : Nat) (xs : List Int) (w : World) (hR : Row w a n xs) (h8 : Bytes8 xs) (hp : p ≤ n) (hn : n ≤ 65536) (hc : n ≤ c) (hc2 : c ≤ maxLen) (ha : a = none → c = 0) :
    Calls Try.prog 54 #[.slice a n c, .int .i64 (p : Int)] w fun e w' => ImRes xs p w e w' := by
  unfold maxLen at hc2
  obtain rfl := hR.1
  have b0 : Below w.heap.size w (w.alloc (.cells #[.int .i64 0, .bool false, .slice none 0 0] 48)) := (Below.refl _ _).alloc (Nat.le_refl _) _
  have KR := hide (heap_alloc_new w (.cells #[.int .i64 0, .bool false, .slice none 0 0] 48))
  have zs : (w.alloc (.cells #[.int .i64 0, .bool false, .slice none 0 0] 48)).heap.size = w.heap.size + 1 := by simp
  have q3 : w.heap.size ≤ w.heap.size := Nat.le_refl _
  have RR := hide (row_grow' hR b0)
  have HB := hide h8
  have SB : ∀ u : World, Below w.heap.size w u → Below w.heap.size w (((u.setCell ⟨w.heap.size, 0, none⟩ (.int .i64 0)).setCell ⟨w.heap.size, 1, none⟩ (.bool false)).setCell ⟨w.heap.size, 2, none⟩ (.slice none 0 0)) := fun u hu => ((hu.setCell (p := ⟨w.heap.size, 0, none⟩) q3 _).setCell (p := ⟨w.heap.size, 1, none⟩) q3 _).setCell (p := ⟨w.heap.size, 2, none⟩) q3 _
  have NO := hide (show ∀ u : World, nextI xs p = none → Below w.heap.size w u → ImRes xs p w (.returned (.tuple #[iv 0 false none 0 0, .int .i64 0, .bool false])) u from fun u h hu => .inl ⟨h, rfl, hu⟩)
  by_cases h5 : ¬ (p + 5 ≤ xs.length)
  · have g5 : (xs.length : Int) - (p : Int) < 5 := by omega
    have wr1 : IntKind.i64.wrap ((xs.length : Int) - (p : Int)) = (xs.length : Int) - (p : Int) := by rw [IntKind.wrap_i64]; omega
    have NN := hide (next_no (b := xs) (p := p) (fun h => h5 h.1))
    clear hR h8 RR HB
    go_enter Try.func54, Try.ntmps54
    go_wp2_with fail
    generalize w.alloc (.cells #[.int .i64 0, .bool false, .slice none 0 0] 48) = W at *
    have y0 : W.cell? ⟨w.heap.size, 0, none⟩ = some (.int .i64 0) := (heap_at (unhide KR) 0).1
    have y1 : W.cell? ⟨w.heap.size, 1, none⟩ = some (.bool false) := (heap_at (unhide KR) 1).1
    have y2 : W.cell? ⟨w.heap.size, 2, none⟩ = some (.slice none 0 0) := (heap_at (unhide KR) 2).1
    have f0 : W.frozen? ⟨w.heap.size, 0, none⟩ = false := (heap_at (unhide KR) 0).2
    have f1 : W.frozen? ⟨w.heap.size, 1, none⟩ = false := (heap_at (unhide KR) 1).2
    have f2 : W.frozen? ⟨w.heap.size, 2, none⟩ = false := (heap_at (unhide KR) 2).2
    go_wp2_with fail
    refine bodyPost_ret (v := .tuple #[iv 0 false none 0 0, .int .i64 0, .bool false]) (by unfold iv; simp [results, Try.results54, go_sem, *] <;> rfl) rfl ?_
    first | exact unhide NO _ (unhide NN) b0 | exact unhide NO _ (unhide NN) (SB _ b0)
  replace h5 := Decidable.not_not.1 h5
  have g5 : ¬ ((xs.length : Int) - (p : Int) < 5) := by omega
  have wr1 : IntKind.i64.wrap ((xs.length : Int) - (p : Int)) = (xs.length : Int) - (p : Int) := by rw [IntKind.wrap_i64]; omega
  have wr2 : IntKind.i64.wrap ((p : Int) + 3) = (p : Int) + 3 := by rw [IntKind.wrap_i64]; omega
  have wr3 : IntKind.i64.wrap ((p : Int) + 5) = (p : Int) + 5 := by rw [IntKind.wrap_i64]; omega
  have T3 := hide (show ∀ u, Below w.heap.size w u → Calls Try.prog 60 #[.slice a xs.length c, .int .i64 ((p : Int) + 3)] u fun e w' => e = .returned (.int .i64 (lenAt xs p : Int)) ∧ Below u.heap.size u w' from fun u hu => (scTwo_any a xs.length c (p + 3) xs u (row_grow' hR hu) h8 (by omega) (by omega)).mono fun e w' h => ⟨by rw [h.1, lenAt_eq h8], h.2⟩)
  have T1 := hide (show ∀ u, Below w.heap.size w u → Calls Try.prog 60 #[.slice a xs.length c, .int .i64 ((p : Int) + 1)] u fun e w' => e = .returned (.int .i64 (imAt xs p).id) ∧ Below u.heap.size u w' from fun u hu => (scTwo_any a xs.length c (p + 1) xs u (row_grow' hR hu) h8 (by omega) (by omega)).mono fun e w' h => ⟨h.1, h.2⟩)
  have LE := lenAt_le h8 p
  have IMA := hide (show imAt xs p = imAt xs p from rfl)
  go_enter Try.func54, Try.ntmps54
  go_wp2_with fail
  refine (unhide T3 _ b0).mono ?_
  rintro e w1 ⟨rfl, hb1⟩
  have B1 := b0.trans (hb1.mono b0.size)
  have K1 := hide (sc_at_below (unhide KR) hb1)
  have z1 : w.heap.size < w1.heap.size := by have := hb1.size; omega
  clear T3 KR hb1 RR
  generalize w.alloc (.cells #[.int .i64 0, .bool false, .slice none 0 0] 48) = W at *
  by_cases h6 : ¬ (p + 5 + lenAt xs p ≤ xs.length)
  · have NN := hide (next_no (b := xs) (p := p) (fun h => h6 h.2.1))
    generalize lenAt xs p = sz at *
    have g6 : (xs.length : Int) - ((p : Int) + 5) < (sz : Int) := by omega
    have wr4 : IntKind.i64.wrap ((xs.length : Int) - ((p : Int) + 5)) = (xs.length : Int) - ((p : Int) + 5) := by rw [IntKind.wrap_i64]; omega
    clear hR h8 HB T1 IMA
    have y0 : w1.cell? ⟨w.heap.size, 0, none⟩ = some (.int .i64 0) := (heap_at (unhide K1) 0).1
    have y1 : w1.cell? ⟨w.heap.size, 1, none⟩ = some (.bool false) := (heap_at (unhide K1) 1).1
    have y2 : w1.cell? ⟨w.heap.size, 2, none⟩ = some (.slice none 0 0) := (heap_at (unhide K1) 2).1
    have f0 : w1.frozen? ⟨w.heap.size, 0, none⟩ = false := (heap_at (unhide K1) 0).2
    have f1 : w1.frozen? ⟨w.heap.size, 1, none⟩ = false := (heap_at (unhide K1) 1).2
    have f2 : w1.frozen? ⟨w.heap.size, 2, none⟩ = false := (heap_at (unhide K1) 2).2
    go_wp2_with fail
    refine bodyPost_ret (v := .tuple #[iv 0 false none 0 0, .int .i64 0, .bool false]) (by unfold iv; simp [results, Try.results54, go_sem, *] <;> rfl) rfl ?_
    exact unhide NO _ (unhide NN) (SB _ B1)
  replace h6 := Decidable.not_not.1 h6
  have XL := imAt_len h6
  have XB := hide (imAt_bytes h8 p)
  have XI := imAt_id h8 p
  have NY := hide (fun h3 h4 => next_yes (b := xs) (p := p) h5 h6 h3 h4)
  have NN3 := hide (show (imAt xs p).ok = false → nextI xs p = none from fun h3 => next_no (fun h => by rw [h3] at h; exact absurd h.2.2.1 (by decide)))
  have NN4 := hide (show ¬ (xs.drop p).take ((imAt xs p).xs.length + 9) = (imAt xs p).by → nextI xs p = none from fun h3 => next_no (fun h => h3 (by rw [XL]; exact h.2.2.2)))
  have NY4 := hide (show (imAt xs p).ok = true → (xs.drop p).take ((imAt xs p).xs.length + 9) = (imAt xs p).by → nextI xs p = some (imAt xs p) from fun h3 h4 => unhide NY h3 (by rw [XL] at h4; exact h4))
  obtain ⟨b, off, rfl, _⟩ := hR.2 0 (by omega)
  have XR := hide (show ∀ u, Below w.heap.size w u → Row u (some ⟨b, off + (p + 5), none⟩) (imAt xs p).xs.length (imAt xs p).xs from fun u hu => by
    rw [XL]
    exact sc_row_take (sc_row_drop (row_grow' hR hu) (p + 5)) (by omega))
  have XP := hide (show ∀ u, Below w.heap.size w u → Row u (some ⟨b, off + p, none⟩) (xs.length - p) (xs.drop p) from fun u hu => sc_row_drop (row_grow' hR hu) p)
  have XM := hide (show ∀ u, Below w.heap.size w u → u.cell? ⟨b, off + p, none⟩ = some (.int .u8 (xs.getD p 0)) from fun u hu => by
    obtain ⟨b', off', e, hcell⟩ := (row_grow' hR hu).2 p (by omega)
    cases e
    exact hcell)
  have XG := hide (show (imAt xs p).gone = decide (xs.getD p 0 = 2) from rfl)
  have HD := hide (show Bytes8 (xs.drop p) from by have := bytes8_drop h8 p xs.length; rwa [List.take_of_length_le (by simp)] at this)
  obtain ⟨X, hX⟩ : ∃ X, X = imAt xs p := ⟨_, rfl⟩
  rw [← hX] at T1 XL XB XI NY NN3 NN4 NY4 XR XG
  generalize lenAt xs p = sz at *
  subst XL
  clear IMA hX NY HB hR h8
  generalize hm : xs.getD p 0 = mk at *
  have hq : ∀ i : Nat, i = xs.length → i = xs.length := fun _ h => h
  generalize hnn : xs.length = n at *
  have g6 : ¬ ((n : Int) - ((p : Int) + 5) < (X.xs.length : Int)) := by omega
  have wr4 : IntKind.i64.wrap ((n : Int) - ((p : Int) + 5)) = (n : Int) - ((p : Int) + 5) := by rw [IntKind.wrap_i64]; omega
  have wr5 : IntKind.i64.wrap ((p : Int) + 1) = (p : Int) + 1 := by rw [IntKind.wrap_i64]; omega
  have wr6 : IntKind.i64.wrap ((p : Int) + 5 + (X.xs.length : Int)) = (p : Int) + 5 + (X.xs.length : Int) := by rw [IntKind.wrap_i64]; omega
  have hgx : (mk == 2) = X.gone := (unhide XG).symm
  have i0 : (0 : Int) ≤ (p : Int) := by omega
  have i1 : (p : Int) < (n : Int) := by omega
  have i2 : (0 : Int) ≤ (p : Int) + 5 := by omega
  have i3 : (p : Int) + 5 ≤ (p : Int) + 5 + (X.xs.length : Int) := by omega
  have i4 : (p : Int) + 5 + (X.xs.length : Int) ≤ (c : Int) := by omega
  have i4' : (0 : Int) ≤ (p : Int) + 5 + (X.xs.length : Int) := by omega
  have i5 : ((p : Int) + 5).toNat = p + 5 := by omega
  have i6 : ((p : Int) + 5 + (X.xs.length : Int)).toNat = p + 5 + X.xs.length := by omega
  have i7 : p + 5 + X.xs.length - (p + 5) = X.xs.length := by omega
  have i9 : max ((p : Int) + 5 + (X.xs.length : Int)) 0 = (p : Int) + 5 + (X.xs.length : Int) := by omega
  obtain ⟨so, hso, hsr⟩ : ∃ so : Nat, (if c = p + 5 then some (⟨b, off, none⟩ : Addr) else some ⟨b, off + (p + 5), none⟩) = some ⟨b, so, none⟩ ∧ ∀ u, Below w.heap.size w u → Row u (some ⟨b, so, none⟩) X.xs.length X.xs := by
    by_cases hcp : c = p + 5
    · refine ⟨off, if_pos hcp, fun u hu => ?_⟩
      have h0 : X.xs.length = 0 := by omega
      exact ⟨rfl, fun i hi => absurd hi (by omega)⟩
    · exact ⟨off + (p + 5), if_neg hcp, unhide XR⟩
  have XS := hide hsr
  clear hsr
  go_upto_region 7 with fail
  go_cut [9] (fun v wc => ∃ xb g cp, v = .pointer (some ⟨xb, 0, none⟩) ∧ Hid (ImBox w1 w1.heap.size xb g cp X wc))
  case first =>
    have SK := hide (show ∀ u, Below w1.heap.size w1 u → (fun u => Below w1.heap.size w1 u ∧ u.cell? ⟨b, off + p, none⟩ = some (.int .u8 mk)) u from fun u hu => ⟨hu, unhide XM u (B1.trans (hu.mono B1.size))⟩)
    have CL := hide (show ∀ u, Below w1.heap.size w1 u → Calls Try.prog 61 #[.slice (some ⟨b, so, none⟩) X.xs.length (c - (p + 5))] u fun e w' => ∃ g cap, e = .returned (.slice (some ⟨g, 0, none⟩) X.xs.length cap) ∧ Owns w' u.heap.size (.slice (some ⟨g, 0, none⟩) X.xs.length cap) X.xs ∧ Below u.heap.size u w' from fun u hu => clone_any b so X.xs.length _ X.xs u (unhide XS u (B1.trans (hu.mono B1.size))) (by omega))
    have D0 := hide (show Below w1.heap.size w1 w1.drew from (Below.refl _ _).drew)
    refine wp_region_held_drew (S := (fun u => Below w1.heap.size w1 u ∧ u.cell? ⟨b, off + p, none⟩ = some (.int .u8 mk))) (by kernel_rfl) (unhide SK _ (unhide D0)) (fun hHeld => ?_)
    refine anyH_take 0 30 (v := ?v1) rfl rfl (by kernel_rfl) (by kernel_rfl) (by kernel_rfl) (fun _ _ _ h => h) (by rfl) ?h1 hHeld ?r1
    case h1 => (intro w hSw; (try dsimp only at hSw); go_simp; try (with_reducible rfl))
    simp only [Act.put, List.setIfInBounds_toArray, List.set_cons_zero, List.set_cons_succ]
    refine anyH_take 1 31 (v := ?v2) rfl rfl (by kernel_rfl) (by kernel_rfl) (by kernel_rfl) (fun _ _ _ h => h) (by rfl) ?h2 hHeld ?r2
    case h2 => (intro w hSw; (try dsimp only at hSw); go_simp; try (with_reducible rfl))
    simp only [Act.put, List.setIfInBounds_toArray, List.set_cons_zero, List.set_cons_succ]
    refine anyH_take 2 32 (v := ?v3) rfl rfl (by kernel_rfl) (by kernel_rfl) (by kernel_rfl) (fun _ _ _ h => h) (by rfl) ?h3 hHeld ?r3
    case h3 => (intro w hSw; (try dsimp only at hSw); go_simp; try (with_reducible rfl))
    simp only [Act.put, List.setIfInBounds_toArray, List.set_cons_zero, List.set_cons_succ]
    refine anyH_take 4 34 (v := ?v4) rfl rfl (by kernel_rfl) (by kernel_rfl) (by kernel_rfl) (fun _ _ _ h => h) (by rfl) ?h4 hHeld ?r4
    case h4 => (intro w hSw; (try dsimp only at hSw); go_simp; try (with_reducible rfl))
    simp only [Act.put, List.setIfInBounds_toArray, List.set_cons_zero, List.set_cons_succ]
    refine anyH_take 5 35 (v := ?v5) rfl rfl (by kernel_rfl) (by kernel_rfl) (by kernel_rfl) (fun _ _ _ h => h) (by rfl) ?h5 hHeld ?r5
    case h5 => (intro w hSw; (try dsimp only at hSw); go_simp; try (with_reducible rfl))
    simp only [Act.put, List.setIfInBounds_toArray, List.set_cons_zero, List.set_cons_succ]
    refine anyH_take 6 36 (v := ?v6) rfl rfl (by kernel_rfl) (by kernel_rfl) (by kernel_rfl) (fun _ _ _ h => h) (by rfl) ?h6 hHeld ?r6
    case h6 => (intro w hSw; (try dsimp only at hSw); go_simp; try (with_reducible rfl))
    simp only [Act.put, List.setIfInBounds_toArray, List.set_cons_zero, List.set_cons_succ]
    refine anyH_take 7 37 (v := ?v7) rfl rfl (by kernel_rfl) (by kernel_rfl) (by kernel_rfl) (fun _ _ _ h => h) (by rfl) ?h7 hHeld ?r7
    case h7 => (intro w hSw; (try dsimp only at hSw); go_simp; try (with_reducible rfl))
    simp only [Act.put, List.setIfInBounds_toArray, List.set_cons_zero, List.set_cons_succ]
    refine anyH_take 8 38 (v := ?v8) rfl rfl (by kernel_rfl) (by kernel_rfl) (by kernel_rfl) (fun _ _ _ h => h) (by rfl) ?h8 hHeld ?r8
    case h8 => (intro w hSw; (try dsimp only at hSw); go_simp; try (with_reducible rfl))
    simp only [Act.put, List.setIfInBounds_toArray, List.set_cons_zero, List.set_cons_succ]
    refine anyH_take 9 39 (v := ?v9) rfl rfl (by kernel_rfl) (by kernel_rfl) (by kernel_rfl) (fun _ _ _ h => h) (by rfl) ?h9 hHeld ?r9
    case h9 => (intro w hSw; (try dsimp only at hSw); go_simp; try (with_reducible rfl))
    simp only [Act.put, List.setIfInBounds_toArray, List.set_cons_zero, List.set_cons_succ]
    refine anyH_take 10 40 (v := ?v10) rfl rfl (by kernel_rfl) (by kernel_rfl) (by kernel_rfl) (fun _ _ _ h => h) (by rfl) ?h10 hHeld ?r10
    case h10 => (intro w hSw; (try dsimp only at hSw); go_simp; try (with_reducible rfl))
    simp only [Act.put, List.setIfInBounds_toArray, List.set_cons_zero, List.set_cons_succ]
    refine anyH_take 11 41 (v := ?v11) rfl rfl (by kernel_rfl) (by kernel_rfl) (by kernel_rfl) (fun _ _ _ h => h) (by rfl) ?h11 hHeld ?r11
    case h11 => (intro w hSw; (try dsimp only at hSw); go_simp; try (with_reducible rfl))
    simp only [Act.put, List.setIfInBounds_toArray, List.set_cons_zero, List.set_cons_succ]
    refine anyH_take 12 42 (v := ?v12) rfl rfl (by kernel_rfl) (by kernel_rfl) (by kernel_rfl) (fun _ _ _ h => h) (by rfl) ?h12 hHeld ?r12
    case h12 => (intro w hSw; (try dsimp only at hSw); go_simp; try (with_reducible rfl))
    simp only [Act.put, List.setIfInBounds_toArray, List.set_cons_zero, List.set_cons_succ]
    refine anyH_take 13 43 (v := ?v13) rfl rfl (by kernel_rfl) (by kernel_rfl) (by kernel_rfl) (fun _ _ _ h => h) (by rfl) ?h13 hHeld ?r13
    case h13 => (intro w hSw; (try dsimp only at hSw); go_simp; try (with_reducible rfl))
    simp only [Act.put, List.setIfInBounds_toArray, List.set_cons_zero, List.set_cons_succ]
    refine anyH_take 14 44 (v := ?v14) rfl rfl (by kernel_rfl) (by kernel_rfl) (by kernel_rfl) (fun _ _ _ h => h) (by rfl) ?h14 hHeld ?r14
    case h14 => (intro w hSw; (try dsimp only at hSw); go_simp; try (with_reducible rfl))
    simp only [Act.put, List.setIfInBounds_toArray, List.set_cons_zero, List.set_cons_succ]
    refine wpAnyH_ready (rs := [3, 17]) (by kernel_rfl) (by simp) ?_
    refine AllReadyH.cons rfl (fun K hK => ?_) (AllReadyH.cons rfl (fun K hK => ?_) AllReadyH.nil)
    · go_simp
      refine (unhide T1 _ (B1.trans ((unhide D0).mono B1.size))).mono ?_
      rintro e u3 ⟨rfl, hb⟩
      have D3 := hide ((unhide D0).trans (hb.mono (unhide D0).size))
      clear hb
      refine hK.out _ _ (unhide SK _ (unhide D3)) (fun hHeld => ?_)
      clear hK K
      refine wpAnyH_ready (rs := [15, 17]) (by kernel_rfl) (by simp) ?_
      refine AllReadyH.cons rfl (fun K hK => ?_) (AllReadyH.cons rfl (fun K hK => ?_) AllReadyH.nil)
      · go_simp
        refine (unhide CL _ (unhide D3)).mono ?_
        rintro e u3_15 ⟨g, cp, rfl, ho, hb⟩
        have D3_15 := hide ((unhide D3).trans (hb.mono (unhide D3).size))
        have OX3_15 := hide (sc_down ho (unhide D3).size)
        clear hb ho
        refine hK.out _ _ (unhide SK _ (unhide D3_15)) (fun hHeld => ?_)
        clear hK K
        refine anyH_take 16 46 (v := ?v15) rfl rfl (by kernel_rfl) (by kernel_rfl) (by kernel_rfl) (fun _ _ _ h => h) (by rfl) ?h15 hHeld ?r15
        case h15 => (intro w hSw; (try dsimp only at hSw); go_simp; try (with_reducible rfl))
        simp only [Act.put, List.setIfInBounds_toArray, List.set_cons_zero, List.set_cons_succ]
        refine wpAnyH_ready (rs := [17]) (by kernel_rfl) (by simp) ?_
        refine AllReadyH.cons rfl (fun K hK => ?_) AllReadyH.nil
        have hb : Below u3_15.heap.size u3_15 (u3_15.alloc (.cells #[.int .i64 0, .bool false, .slice none 0 0] 48)) := (Below.refl _ _).alloc (Nat.le_refl _) _
        have D3_15_17 := hide ((unhide D3_15).trans (hb.mono (unhide D3_15).size))
        have KX3_15_17 := hide (heap_alloc_new u3_15 (.cells #[.int .i64 0, .bool false, .slice none 0 0] 48))
        have OX3_15_17 := hide (owns_below (unhide OX3_15) hb)
        have NX3_15_17 : g ≠ u3_15.heap.size := fun e => by have h1 := (sc_g (unhide OX3_15)).2; omega
        clear hb
        go_simp
        refine hK.out _ _ (unhide SK _ (unhide D3_15_17)) (fun hHeld => ?_)
        clear hK K
        refine wpAnyH_ready (rs := [18]) (by kernel_rfl) (by simp) ?_
        refine AllReadyH.cons rfl (fun K hK => ?_) AllReadyH.nil
        have y0 : (u3_15.alloc (.cells #[.int .i64 0, .bool false, .slice none 0 0] 48)).cell? ⟨u3_15.heap.size, 0, none⟩ = some (.int .i64 0) := (heap_at (unhide KX3_15_17) 0).1
        have y1 : (u3_15.alloc (.cells #[.int .i64 0, .bool false, .slice none 0 0] 48)).cell? ⟨u3_15.heap.size, 1, none⟩ = some (.bool false) := (heap_at (unhide KX3_15_17) 1).1
        have y2 : (u3_15.alloc (.cells #[.int .i64 0, .bool false, .slice none 0 0] 48)).cell? ⟨u3_15.heap.size, 2, none⟩ = some (.slice none 0 0) := (heap_at (unhide KX3_15_17) 2).1
        have f0 : (u3_15.alloc (.cells #[.int .i64 0, .bool false, .slice none 0 0] 48)).frozen? ⟨u3_15.heap.size, 0, none⟩ = false := (heap_at (unhide KX3_15_17) 0).2
        have f1 : (u3_15.alloc (.cells #[.int .i64 0, .bool false, .slice none 0 0] 48)).frozen? ⟨u3_15.heap.size, 1, none⟩ = false := (heap_at (unhide KX3_15_17) 1).2
        have f2 : (u3_15.alloc (.cells #[.int .i64 0, .bool false, .slice none 0 0] 48)).frozen? ⟨u3_15.heap.size, 2, none⟩ = false := (heap_at (unhide KX3_15_17) 2).2
        have BX := hide (ImBox.of_new (X := X) (unhide OX3_15) (unhide D3_15))
        go_simp
        refine hK.out _ _ (unhide SK _ (unhide BX).bel) (fun hHeld => ?_)
        clear hK K
        refine wpAnyH_done (by kernel_rfl) ?_ _
        go_wp2_with fail
        go_meet
        case rel => exact ⟨_, _, _, rfl, unhide BX⟩
      · have hb : Below u3.heap.size u3 (u3.alloc (.cells #[.int .i64 0, .bool false, .slice none 0 0] 48)) := (Below.refl _ _).alloc (Nat.le_refl _) _
        have D3_17 := hide ((unhide D3).trans (hb.mono (unhide D3).size))
        have KX3_17 := hide (heap_alloc_new u3 (.cells #[.int .i64 0, .bool false, .slice none 0 0] 48))
        clear hb
        go_simp
        refine hK.out _ _ (unhide SK _ (unhide D3_17)) (fun hHeld => ?_)
        clear hK K
        refine wpAnyH_ready (rs := [15]) (by kernel_rfl) (by simp) ?_
        refine AllReadyH.cons rfl (fun K hK => ?_) AllReadyH.nil
        go_simp
        refine (unhide CL _ (unhide D3_17)).mono ?_
        rintro e u3_17_15 ⟨g, cp, rfl, ho, hb⟩
        have D3_17_15 := hide ((unhide D3_17).trans (hb.mono (unhide D3_17).size))
        have OX3_17_15 := hide (sc_down ho (unhide D3_17).size)
        have KX3_17_15 := hide (sc_at_below (unhide KX3_17) hb)
        have NX3_17_15 : g ≠ u3.heap.size := fun e => by have h1 := (sc_g ho).1; have h2 : u3.heap.size < (u3.alloc (.cells #[.int .i64 0, .bool false, .slice none 0 0] 48)).heap.size := (Array.getElem?_eq_some_iff.1 (unhide KX3_17)).1; omega
        clear hb ho
        refine hK.out _ _ (unhide SK _ (unhide D3_17_15)) (fun hHeld => ?_)
        clear hK K
        refine anyH_take 16 46 (v := ?v16) rfl rfl (by kernel_rfl) (by kernel_rfl) (by kernel_rfl) (fun _ _ _ h => h) (by rfl) ?h16 hHeld ?r16
        case h16 => (intro w hSw; (try dsimp only at hSw); go_simp; try (with_reducible rfl))
        simp only [Act.put, List.setIfInBounds_toArray, List.set_cons_zero, List.set_cons_succ]
        refine wpAnyH_ready (rs := [18]) (by kernel_rfl) (by simp) ?_
        refine AllReadyH.cons rfl (fun K hK => ?_) AllReadyH.nil
        have y0 : u3_17_15.cell? ⟨u3.heap.size, 0, none⟩ = some (.int .i64 0) := (heap_at (unhide KX3_17_15) 0).1
        have y1 : u3_17_15.cell? ⟨u3.heap.size, 1, none⟩ = some (.bool false) := (heap_at (unhide KX3_17_15) 1).1
        have y2 : u3_17_15.cell? ⟨u3.heap.size, 2, none⟩ = some (.slice none 0 0) := (heap_at (unhide KX3_17_15) 2).1
        have f0 : u3_17_15.frozen? ⟨u3.heap.size, 0, none⟩ = false := (heap_at (unhide KX3_17_15) 0).2
        have f1 : u3_17_15.frozen? ⟨u3.heap.size, 1, none⟩ = false := (heap_at (unhide KX3_17_15) 1).2
        have f2 : u3_17_15.frozen? ⟨u3.heap.size, 2, none⟩ = false := (heap_at (unhide KX3_17_15) 2).2
        have BX := hide (ImBox.of_store (X := X) (unhide KX3_17_15) (unhide OX3_17_15) NX3_17_15 ((unhide D3).size) (unhide D3_17_15))
        go_simp
        refine hK.out _ _ (unhide SK _ (unhide BX).bel) (fun hHeld => ?_)
        clear hK K
        refine wpAnyH_done (by kernel_rfl) ?_ _
        go_wp2_with fail
        go_meet
        case rel => exact ⟨_, _, _, rfl, unhide BX⟩
    · have hb : Below w1.drew.heap.size w1.drew (w1.drew.alloc (.cells #[.int .i64 0, .bool false, .slice none 0 0] 48)) := (Below.refl _ _).alloc (Nat.le_refl _) _
      have D17 := hide ((unhide D0).trans (hb.mono (unhide D0).size))
      have KX17 := hide (heap_alloc_new w1.drew (.cells #[.int .i64 0, .bool false, .slice none 0 0] 48))
      clear hb
      go_simp
      refine hK.out _ _ (unhide SK _ (unhide D17)) (fun hHeld => ?_)
      clear hK K
      refine wpAnyH_ready (rs := [3]) (by kernel_rfl) (by simp) ?_
      refine AllReadyH.cons rfl (fun K hK => ?_) AllReadyH.nil
      go_simp
      refine (unhide T1 _ (B1.trans ((unhide D17).mono B1.size))).mono ?_
      rintro e u17_3 ⟨rfl, hb⟩
      have D17_3 := hide ((unhide D17).trans (hb.mono (unhide D17).size))
      have KX17_3 := hide (sc_at_below (unhide KX17) hb)
      clear hb
      refine hK.out _ _ (unhide SK _ (unhide D17_3)) (fun hHeld => ?_)
      clear hK K
      refine wpAnyH_ready (rs := [15]) (by kernel_rfl) (by simp) ?_
      refine AllReadyH.cons rfl (fun K hK => ?_) AllReadyH.nil
      go_simp
      refine (unhide CL _ (unhide D17_3)).mono ?_
      rintro e u17_3_15 ⟨g, cp, rfl, ho, hb⟩
      have D17_3_15 := hide ((unhide D17_3).trans (hb.mono (unhide D17_3).size))
      have OX17_3_15 := hide (sc_down ho (unhide D17_3).size)
      have KX17_3_15 := hide (sc_at_below (unhide KX17_3) hb)
      have NX17_3_15 : g ≠ w1.heap.size := fun e => by have h1 := (sc_g ho).1; have h2 : w1.heap.size < u17_3.heap.size := (Array.getElem?_eq_some_iff.1 (unhide KX17_3)).1; omega
      clear hb ho
      refine hK.out _ _ (unhide SK _ (unhide D17_3_15)) (fun hHeld => ?_)
      clear hK K
      refine anyH_take 16 46 (v := ?v17) rfl rfl (by kernel_rfl) (by kernel_rfl) (by kernel_rfl) (fun _ _ _ h => h) (by rfl) ?h17 hHeld ?r17
      case h17 => (intro w hSw; (try dsimp only at hSw); go_simp; try (with_reducible rfl))
      simp only [Act.put, List.setIfInBounds_toArray, List.set_cons_zero, List.set_cons_succ]
      refine wpAnyH_ready (rs := [18]) (by kernel_rfl) (by simp) ?_
      refine AllReadyH.cons rfl (fun K hK => ?_) AllReadyH.nil
      have y0 : u17_3_15.cell? ⟨w1.heap.size, 0, none⟩ = some (.int .i64 0) := (heap_at (unhide KX17_3_15) 0).1
      have y1 : u17_3_15.cell? ⟨w1.heap.size, 1, none⟩ = some (.bool false) := (heap_at (unhide KX17_3_15) 1).1
      have y2 : u17_3_15.cell? ⟨w1.heap.size, 2, none⟩ = some (.slice none 0 0) := (heap_at (unhide KX17_3_15) 2).1
      have f0 : u17_3_15.frozen? ⟨w1.heap.size, 0, none⟩ = false := (heap_at (unhide KX17_3_15) 0).2
      have f1 : u17_3_15.frozen? ⟨w1.heap.size, 1, none⟩ = false := (heap_at (unhide KX17_3_15) 1).2
      have f2 : u17_3_15.frozen? ⟨w1.heap.size, 2, none⟩ = false := (heap_at (unhide KX17_3_15) 2).2
      have BX := hide (ImBox.of_store (X := X) (unhide KX17_3_15) (unhide OX17_3_15) NX17_3_15 (Nat.le_refl _) (unhide D17_3_15))
      go_simp
      refine hK.out _ _ (unhide SK _ (unhide BX).bel) (fun hHeld => ?_)
      clear hK K
      refine wpAnyH_done (by kernel_rfl) ?_ _
      go_wp2_with fail
      go_meet
      case rel => exact ⟨_, _, _, rfl, unhide BX⟩
  case rest =>
    obtain ⟨xb, g, cp, rfl, hbx⟩ := hcut
    have B2 := hide (B1.trans ((unhide hbx).bel.mono B1.size))
    have K2 := hide ((((unhide hbx).bel.block w.heap.size z1)).trans (unhide K1))
    have BX := hide (unhide hbx).box
    have OX := hide (unhide hbx).own
    have NEX : xb ≠ w.heap.size := by have := (unhide hbx).ge; omega
    clear hbx K1 T1 B1 XM
    have x0 : wc.cell? ⟨xb, 0, none⟩ = some (.int .i64 X.id) := (heap_at (unhide BX) 0).1
    have x1 : wc.cell? ⟨xb, 1, none⟩ = some (.bool X.gone) := (heap_at (unhide BX) 1).1
    have x2 : wc.cell? ⟨xb, 2, none⟩ = some (.slice (some ⟨g, 0, none⟩) X.xs.length cp) := (heap_at (unhide BX) 2).1
    go_wp2_with fail
    refine (imageOK_any X.id X.gone (some ⟨g, 0, none⟩) X.xs.length cp wc (by unfold maxLen; omega)).mono ?_
    rintro e w2 ⟨rfl, hb2⟩
    have B3 := (unhide B2).trans (hb2.mono (unhide B2).size)
    have K3 := hide (sc_at_below (unhide K2) hb2)
    have BX3 := hide (sc_at_below (unhide BX) hb2)
    have OX3 := hide (owns_below (unhide OX) hb2)
    clear hb2 K2 BX OX B2 x0 x1 x2
    have EOK := hide (show imOK X.id X.gone X.xs.length = X.ok from rfl)
    cases hok : imOK X.id X.gone X.xs.length with
    | false =>
      have NN := hide (unhide NN3 (by rw [← unhide EOK]; exact hok))
      clear NN3 NN4 NY4 XP XR XB XG HD OX3 BX3 hok EOK
      have y0 : w2.cell? ⟨w.heap.size, 0, none⟩ = some (.int .i64 0) := (heap_at (unhide K3) 0).1
      have y1 : w2.cell? ⟨w.heap.size, 1, none⟩ = some (.bool false) := (heap_at (unhide K3) 1).1
      have y2 : w2.cell? ⟨w.heap.size, 2, none⟩ = some (.slice none 0 0) := (heap_at (unhide K3) 2).1
      have f0 : w2.frozen? ⟨w.heap.size, 0, none⟩ = false := (heap_at (unhide K3) 0).2
      have f1 : w2.frozen? ⟨w.heap.size, 1, none⟩ = false := (heap_at (unhide K3) 1).2
      have f2 : w2.frozen? ⟨w.heap.size, 2, none⟩ = false := (heap_at (unhide K3) 2).2
      go_wp2_with fail
      refine bodyPost_ret (v := .tuple #[iv 0 false none 0 0, .int .i64 0, .bool false]) (by unfold iv; simp [results, Try.results54, go_sem, *] <;> rfl) rfl ?_
      exact unhide NO _ (unhide NN) (SB _ B3)
    | true =>
      have OK3 : X.ok = true := by rw [← unhide EOK]; exact hok
      have CPL : X.xs.length ≤ cp := by
        rcases (unhide OX3).2 with ⟨e, _⟩ | ⟨g', cap, cur, e, _, _, h1, _⟩
        · cases e
        · injection e with _ _ e
          subst e
          exact h1
      have RX : Row w2 (some ⟨g, 0, none⟩) X.xs.length X.xs := by
        obtain ⟨g', cap', e, hr⟩ := owns_row (unhide OX3) (by simp)
        injection e with e1 e2 e3
        injection e1 with e1
        injection e1 with e1
        subst e1
        exact hr
      have IB := hide (imageBytes_any X.id X.gone g 0 cp X.xs w2 CPL hok RX (unhide XB))
      clear CPL RX
      have x0 : w2.cell? ⟨xb, 0, none⟩ = some (.int .i64 X.id) := (heap_at (unhide BX3) 0).1
      have x1 : w2.cell? ⟨xb, 1, none⟩ = some (.bool X.gone) := (heap_at (unhide BX3) 1).1
      have x2 : w2.cell? ⟨xb, 2, none⟩ = some (.slice (some ⟨g, 0, none⟩) X.xs.length cp) := (heap_at (unhide BX3) 2).1
      go_wp2_with fail
      refine (unhide IB).mono ?_
      rintro e w3 ⟨v, rfl, ho3, hv3, hb3⟩
      have B4 := B3.trans (hb3.mono B3.size)
      have K4 := hide (sc_at_below (unhide K3) hb3)
      have BX4 := hide (sc_at_below (unhide BX3) hb3)
      have OX4 := hide (owns_below (unhide OX3) hb3)
      obtain ⟨g3, c3, rfl, hr3⟩ := owns_row ho3 hv3
      rw [imgL_length] at hr3 ⊢
      have HP := hide (hasPrefix_any (some ⟨b, off + p, none⟩) (some ⟨g3, 0, none⟩) (n - p) (c - p) (X.xs.length + 9) c3 (xs.drop p) X.by w3 (unhide XP w3 B4) hr3 (unhide HD) (imgL_bytes (unhide XB) (by omega) (by omega) (by omega)) (by omega) (by unfold maxLen; omega) (fun h => by cases h))
      clear hb3 ho3 hv3 hr3 IB K3 BX3 OX3 B3 x0 x1 x2 hok EOK
      have wr7 : IntKind.i64.wrap ((p : Int) + ((X.xs.length : Int) + 9)) = (p : Int) + 9 + (X.xs.length : Int) := by rw [IntKind.wrap_i64]; omega
      have i8 : (p : Int) ≤ (n : Int) := by omega
      have i10 : c - p ≠ 0 := by omega
      have i11 : ¬ c = p := by omega
      go_wp2_with fail
      refine (unhide HP).mono ?_
      rintro e w4 ⟨rfl, hw4⟩
      subst w4
      clear HP
      by_cases hmt : (xs.drop p).take (X.xs.length + 9) = X.by
      · have NS := hide (unhide NY4 OK3 hmt)
        have hd : decide ((xs.drop p).take (X.xs.length + 9) = X.by) = true := decide_eq_true hmt
        clear NN3 NN4 NY4 XP XR XB XG HD hmt
        have x0 : w3.cell? ⟨xb, 0, none⟩ = some (.int .i64 X.id) := (heap_at (unhide BX4) 0).1
        have x1 : w3.cell? ⟨xb, 1, none⟩ = some (.bool X.gone) := (heap_at (unhide BX4) 1).1
        have x2 : w3.cell? ⟨xb, 2, none⟩ = some (.slice (some ⟨g, 0, none⟩) X.xs.length cp) := (heap_at (unhide BX4) 2).1
        have y0 : w3.cell? ⟨w.heap.size, 0, none⟩ = some (.int .i64 0) := (heap_at (unhide K4) 0).1
        have y1 : w3.cell? ⟨w.heap.size, 1, none⟩ = some (.bool false) := (heap_at (unhide K4) 1).1
        have y2 : w3.cell? ⟨w.heap.size, 2, none⟩ = some (.slice none 0 0) := (heap_at (unhide K4) 2).1
        have f0 : w3.frozen? ⟨w.heap.size, 0, none⟩ = false := (heap_at (unhide K4) 0).2
        have f1 : w3.frozen? ⟨w.heap.size, 1, none⟩ = false := (heap_at (unhide K4) 1).2
        have f2 : w3.frozen? ⟨w.heap.size, 2, none⟩ = false := (heap_at (unhide K4) 2).2
        have FB := hide (show Below w.heap.size w (((w3.setCell ⟨w.heap.size, 0, none⟩ (.int .i64 X.id)).setCell ⟨w.heap.size, 1, none⟩ (.bool X.gone)).setCell ⟨w.heap.size, 2, none⟩ (.slice (some ⟨g, 0, none⟩) X.xs.length cp)) from ((B4.setCell (p := ⟨w.heap.size, 0, none⟩) q3 _).setCell (p := ⟨w.heap.size, 1, none⟩) q3 _).setCell (p := ⟨w.heap.size, 2, none⟩) q3 _)
        have FO := hide (show Owns (((w3.setCell ⟨w.heap.size, 0, none⟩ (.int .i64 X.id)).setCell ⟨w.heap.size, 1, none⟩ (.bool X.gone)).setCell ⟨w.heap.size, 2, none⟩ (.slice (some ⟨g, 0, none⟩) X.xs.length cp)) w.heap.size (.slice (some ⟨g, 0, none⟩) X.xs.length cp) X.xs from by
          have hne : g ≠ w.heap.size := by have := (sc_g (unhide OX4)).1; omega
          exact sc_owns_set (sc_owns_set (sc_owns_set (sc_down (unhide OX4) (by omega)) hne _) hne _) hne _)
        clear OX4 BX4 K4
        go_wp2_with fail
        refine bodyPost_ret (v := .tuple #[iv X.id X.gone (some ⟨g, 0, none⟩) X.xs.length cp, .int .i64 ((p + 9 + X.xs.length : Nat) : Int), .bool true]) (by unfold iv; simp [results, Try.results54, go_sem, *] <;> rfl) rfl ?_
        exact .inr ⟨X, g, cp, unhide NS, rfl, unhide FO, unhide FB⟩
      · have NN := hide (unhide NN4 hmt)
        have hd : decide ((xs.drop p).take (X.xs.length + 9) = X.by) = false := decide_eq_false hmt
        clear NN3 NN4 NY4 XP XR XB XG HD OX4 BX4 hmt
        have y0 : w3.cell? ⟨w.heap.size, 0, none⟩ = some (.int .i64 0) := (heap_at (unhide K4) 0).1
        have y1 : w3.cell? ⟨w.heap.size, 1, none⟩ = some (.bool false) := (heap_at (unhide K4) 1).1
        have y2 : w3.cell? ⟨w.heap.size, 2, none⟩ = some (.slice none 0 0) := (heap_at (unhide K4) 2).1
        have f0 : w3.frozen? ⟨w.heap.size, 0, none⟩ = false := (heap_at (unhide K4) 0).2
        have f1 : w3.frozen? ⟨w.heap.size, 1, none⟩ = false := (heap_at (unhide K4) 1).2
        have f2 : w3.frozen? ⟨w.heap.size, 2, none⟩ = false := (heap_at (unhide K4) 2).2
        go_wp2_with fail
        refine bodyPost_ret (v := .tuple #[iv 0 false none 0 0, .int .i64 0, .bool false]) (by unfold iv; simp [results, Try.results54, go_sem, *] <;> rfl) rfl ?_
        exact unhide NO _ (unhide NN) (SB _ B4)
end Go.Proofs.Ytpmbpldjjnjafaa
