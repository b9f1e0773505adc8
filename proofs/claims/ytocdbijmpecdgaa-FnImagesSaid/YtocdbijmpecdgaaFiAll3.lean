/-
  LtT, LtI, CrcI, ImgI, ImgI1, ImgI2, CrcS, ImgS, ImgB, ScI, ScS, ScT, Rf, ScJ, ImM, ScK in one.
-/
import Derived.Test.YtocdbijmpecdgaaFiAll1
import Derived.Test.YtocdbijmpecdgaaSfI
import Derived.Deep.LoopGhost
import Derived.Shelf.SlSortCmp.NoneTotal
import Derived.WalkMore
import Derived.Test.YtocdbijmpecdgaaCrcL
import Derived.Laws.BitsLemmas
import Derived.Test.YtocdbijmpecdgaaImgL
import Derived.Deep.MidRow
import Derived.Deep.RegionWith
import Derived.Deep.DeepCutAuto
import Derived.Test.YtocdbijmpecdgaaImC
import Derived.Test.YtocdbijmpecdgaaWrT
import Derived.RangeFuncNested
import Derived.RangeFuncBound
import Derived.RangeFuncCalls
import Derived.RangeFuncLeaves
import Derived.Shelf.Abstract
import Derived.Shelf.RegionOpen
import Derived.OwnWalkIn
import Derived.TacticsInMore
import Derived.LoopNIn
import Derived.LoopIn
namespace Go.Proofs.Ytocdbijmpecdgaa
open Go.RowKit Go.Sort

/-- Two Ids compared. -/
def ltC (x y : Int) : Int := if x < y then -1 else if y < x then 1 else 0
set_option maxHeartbeats 400000 in
theorem lt_isNaN_any (x : Int) (w : World) : Calls Try.prog 123 #[.int .i64 x] w fun e w' => e = .returned (.bool false) ∧ w' = w := by
  go_enter Try.func123, Try.ntmps123
  go_wp2_with fail
  all_goals go_ret
  all_goals exact ⟨by first | rfl | exact ret_bool (by simp), rfl⟩
set_option maxHeartbeats 400000 in
theorem lt_cmpInt_any (x y : Int) (w : World) : Calls Try.prog 106 #[.int .i64 x, .int .i64 y] w fun e w' => e = .returned (.int .i64 (ltC x y)) ∧ w' = w := by
  rcases (show x < y ∨ x = y ∨ y < x from by omega) with h | h | h
  · have H := hide (show ltC x y = -1 by simp [ltC, h])
    go_enter Try.func106, Try.ntmps106
    go_wp2_with (go_at_call 123; refine (lt_isNaN_any _ _).mono ?_; rintro e w' ⟨rfl, rfl⟩)
    all_goals go_ret
    all_goals exact ⟨ret_int (unhide H).symm, rfl⟩
  · subst h
    have H := hide (show ltC x x = 0 by simp [ltC])
    go_enter Try.func106, Try.ntmps106
    go_wp2_with (go_at_call 123; refine (lt_isNaN_any _ _).mono ?_; rintro e w' ⟨rfl, rfl⟩)
    all_goals go_ret
    all_goals exact ⟨ret_int (unhide H).symm, rfl⟩
  · have H := hide (show ltC x y = 1 by simp [ltC, h]; omega)
    go_enter Try.func106, Try.ntmps106
    go_wp2_with (go_at_call 123; refine (lt_isNaN_any _ _).mono ?_; rintro e w' ⟨rfl, rfl⟩)
    all_goals go_ret
    all_goals exact ⟨ret_int (unhide H).symm, rfl⟩
instance : Inhabited ImH := ⟨⟨⟨0, false, []⟩, 0, 0⟩⟩
/-- A header's three cells. -/
def encH (x : ImH) : List Value := [.int .i64 x.X.id, .bool x.X.gone, .slice (some ⟨x.g, 0, none⟩) x.X.xs.length x.c]
def cfH (x y : ImH) : Int := ltC x.X.id y.X.id
theorem ltH (x y : ImH) : ltOf cfH x y = decide (x.X.id < y.X.id) := by
  unfold ltOf cfH ltC
  by_cases h1 : x.X.id < y.X.id
  · simp [h1]
  · by_cases h2 : y.X.id < x.X.id <;> simp [h1, h2]
theorem swoH : SWO (ltOf cfH) where
  irrefl x := by rw [ltH]; simp
  trans x y z h1 h2 := by rw [ltH] at *; simp at *; omega
  ntrans x y z h1 h2 := by rw [ltH] at *; simp at *; omega
set_option maxHeartbeats 1000000 in
theorem lt_closure_any (x y : ImH) (W : World) : Calls Try.prog 105 #[.agg #[.int .i64 x.X.id, .bool x.X.gone, .slice (some ⟨x.g, 0, none⟩) x.X.xs.length x.c], .agg #[.int .i64 y.X.id, .bool y.X.gone, .slice (some ⟨y.g, 0, none⟩) y.X.xs.length y.c]] W fun e w' => e = .returned (.int .i64 (cfH x y)) ∧ ∃ q os', w' = grow (W.drewN q) os' := by
  have hcon := fun W' => lt_cmpInt_any x.X.id y.X.id W'
  unfold cfH
  generalize ltC x.X.id y.X.id = r at hcon ⊢
  go_enter Try.func105, Try.ntmps105
  go_wp2_with (go_at_call 106; refine (hcon _).mono ?_; rintro e w' ⟨rfl, rfl⟩)
  go_ret
  exact ⟨rfl, 0, _, by rw [alloc_eq_grow, alloc_eq_grow, grow_grow]; rfl⟩
theorem lt_cmpLays (blk off size : Nat) (w : World) : CmpLays Try.prog 105 #[] encH 3 cfH blk off size w :=
  fun _ _ _ _ x y => lt_closure_any x y _
theorem flat_hcs (d : Array ImH) : (flatK encH 3 d).toList = hcs d.toList := by
  refine List.ext_getElem (by simp [hcs_len]) (fun t h1 h2 => ?_)
  have ht : t < d.size * 3 := by simpa using h1
  have hi : t / 3 < d.size := by omega
  have e1 : (flatK encH 3 d).toList[t] = (encH d[t / 3]!)[t % 3]! := by
    rw [Array.getElem_toList, ← getElem!_pos (flatK encH 3 d) t (by simpa using ht)]
    exact get_flatK _ _ _ _ ht
  have h3 := gcs_at (d.toList.map hr) (t / 3) (by simpa using hi)
  have e2 : (hcs d.toList)[t]? = some (hcs d.toList)[t] := List.getElem?_eq_getElem h2
  rw [getElem!_pos d _ hi] at e1
  have hx : (d.toList.map hr)[t / 3]'(by simpa using hi) = hr d[t / 3] := by simp
  rw [hx] at h3
  rw [e1]
  refine Option.some.inj ?_
  rw [← e2]
  unfold hcs
  rcases (show t % 3 = 0 ∨ t % 3 = 1 ∨ t % 3 = 2 by omega) with h | h | h
  · have e := h3.1
    rw [show t / 3 * 3 = t by omega] at e
    rw [h, e]
    rfl
  · have e := h3.2.1
    rw [show t / 3 * 3 + 1 = t by omega] at e
    rw [h, e]
    rfl
  · have e := h3.2.2
    rw [show t / 3 * 3 + 2 = t by omega] at e
    rw [h, e]
    rfl
theorem ROwn.holds {w : World} {B g n cap : Nat} {R : List ImH} (h : ROwn w B g n cap R) : HoldsK encH 3 w g 0 R.toArray := by
  intro j hj
  have hl := h.1
  have hj' : j < R.length * 3 := by simpa using hj
  rw [Nat.zero_add]
  refine ⟨?_, gowns_fz h.gowns j⟩
  rw [h.2.cellAt j (by omega), show hcs R = hcs R.toArray.toList from rfl, ← flat_hcs, getElem!_pos _ j hj, Array.getElem?_toList, Array.getElem?_eq_getElem hj]
  rfl
/-- The row behind the sort. -/
theorem ROwn.sorted {w : World} {B g n cap q : Nat} {R : List ImH} (h : ROwn w B g n cap R) (d : Array ImH) (hd : d.size = n) (os : Array Obj) :
    ROwn (sortWorldK encH 3 w g 0 q d os) B g n cap d.toList ∧ Below g w (sortWorldK encH 3 w g 0 q d os) ∧ ∀ k, k < w.heap.size → k ≠ g → (sortWorldK encH 3 w g 0 q d os).heap[k]? = w.heap[k]? := by
  have hg := h.lt
  have blk : ∀ k, k < w.heap.size → k ≠ g → (sortWorldK encH 3 w g 0 q d os).heap[k]? = w.heap[k]? := fun k hk hne => by
    unfold sortWorldK
    rw [heap_grow_old _ _ (by unfold putRowK; simpa using hk)]
    unfold putRowK putRow mapBlock
    simp only [Array.getElem?_modify, heap_ahead]
    rw [if_neg (Ne.symm hne)]
  have hsz : w.heap.size ≤ (sortWorldK encH 3 w g 0 q d os).heap.size := by
    unfold sortWorldK putRowK
    simp
  refine ⟨⟨by simpa using hd, by rw [hcs_len]; simp [hd], ?_⟩, ⟨rfl, rfl, rfl, hsz, fun k hk => blk k (by omega) (by omega)⟩, blk⟩
  rcases h.2.2 with ⟨e, _⟩ | ⟨g', cap', cur, e, h0, h1, h2, h3, h4, h5⟩
  · cases e
  · cases e
    refine .inr ⟨g, cap, putCells id 0 (flatK encH 3 d) cur, rfl, h0, ?_, h2, h3, ?_, ?_⟩
    · unfold sortWorldK
      rw [heap_grow_old _ _ (by unfold putRowK; simpa using hg.2)]
      unfold putRowK putRow mapBlock
      simp only [Array.getElem?_modify, heap_ahead, if_true, h1, Option.map_some, onCells]
    · unfold putCells
      simpa using h4
    · rw [← flat_hcs]
      refine List.ext_getElem (by unfold putCells; simp [h4, hd]; omega) (fun t t1 t2 => ?_)
      have ht : t < d.size * 3 := by simpa using t2
      rw [List.getElem_take]
      unfold putCells
      simp [ht]
/-- Sorted: the headers rise by Id. -/
theorem sorted_up {d d' : Array ImH} (hp : PermIn 0 d.size d d') (hs : SortedIn (ltOf cfH) 0 d.size d') : d'.size = d.size ∧ d'.toList.Perm d.toList ∧ d'.toList.Pairwise (fun a b => kH a ≤ kH b) := by
  have hsz := hp.1
  refine ⟨hsz, ?_, ?_⟩
  · have h := hp.2.2
    have e1 : d'.extract 0 d.size = d' := by rw [← hsz]; simp
    have e2 : d.extract 0 d.size = d := by simp
    rw [e1, e2] at h
    exact h
  · rw [List.pairwise_iff_getElem]
    intro i j hi hj hij
    have hj' : j < d'.size := by simpa using hj
    have hi' : i < d'.size := by simpa using hi
    have h := hs i j (Nat.zero_le _) hij (by omega)
    rw [getElem!_pos d' j hj', getElem!_pos d' i hi', ltH] at h
    simp at h
    simpa using h
end Go.Proofs.Ytocdbijmpecdgaa

namespace Go.Proofs.Ytocdbijmpecdgaa
open Go.RowKit Go.Sort

/-- What lastOfEach hands back. -/
def LeRes (hs : List ImH) (w : World) (e : Ending) (w' : World) : Prop := ∃ v R, e = .returned v ∧ GOwns w' w.heap.size v (R.map hr) ∧ Lat kH gH hs R ∧ Below w.heap.size w w' ∧ R.length ≤ hs.length
/-- The images behind one, as a slice expression gives them. -/
theorem le_later {w : World} {b off n c : Nat} {hs : List ImH} (hR : GRow w (some ⟨b, off, none⟩) n (hs.map hr)) (hc : n ≤ c) (i : Nat) : ∃ b2 off2, (if c = i + 1 then some (⟨b, off, none⟩ : Addr) else some ⟨b, off + (i + 1) * 3, none⟩) = some ⟨b2, off2, none⟩ ∧ Hid (∀ u, Below w.heap.size w u → ∀ k (hk : i + 1 + k < hs.length), u.cell? ⟨b2, off2 + k * 3, none⟩ = some (.int .i64 hs[i + 1 + k].X.id) ∧ u.cell? ⟨b2, off2 + k * 3 + 1, none⟩ = some (.bool hs[i + 1 + k].X.gone) ∧ u.cell? ⟨b2, off2 + k * 3 + 2, none⟩ = some (.slice (some ⟨hs[i + 1 + k].g, 0, none⟩) hs[i + 1 + k].X.xs.length hs[i + 1 + k].c)) := by
  have hl : hs.length = n := by simpa using hR.1
  by_cases e : c = i + 1
  · exact ⟨b, off, by simp [e], fun u _ k hk => absurd hk (by omega)⟩
  · refine ⟨b, off + (i + 1) * 3, by simp [e], fun u hu k hk => ?_⟩
    obtain ⟨b', off', ha, _, h0, h1, h2⟩ := lts_cells (GRow.below hR hu) (i + 1 + k) hk
    injection ha with ha
    injection ha with e1 e2
    subst e1 e2
    rw [show off + (i + 1) * 3 + k * 3 = off + (i + 1 + k) * 3 by omega]
    exact ⟨h0, h1, h2⟩
theorem keep_skip {hs : List ImH} {i : Nat} (hi : i < hs.length) {k : Nat} (hk : i + 1 + k < hs.length) (he : hs[i + 1 + k].X.id = hs[i].X.id) : keepL kH gH (hs.drop i) = keepL kH gH (hs.drop (i + 1)) := by
  rw [List.drop_eq_getElem_cons hi, keepL, if_pos]
  rw [Bool.or_eq_true]
  refine .inl (List.any_eq_true.2 ⟨hs[i + 1 + k], ?_, by simpa using he⟩)
  rw [List.mem_iff_getElem]
  exact ⟨k, by rw [List.length_drop]; omega, by rw [List.getElem_drop]⟩
theorem keep_gone {hs : List ImH} {i : Nat} (hi : i < hs.length) (hg : hs[i].X.gone = true) : keepL kH gH (hs.drop i) = keepL kH gH (hs.drop (i + 1)) := by
  rw [List.drop_eq_getElem_cons hi, keepL, if_pos]
  rw [Bool.or_eq_true]
  exact .inr hg
theorem keep_here {hs : List ImH} {i : Nat} (hi : i < hs.length) (hg : hs[i].X.gone = false) (hne : ∀ k (hk : i + 1 + k < hs.length), hs[i + 1 + k].X.id ≠ hs[i].X.id) : keepL kH gH (hs.drop i) = hs[i] :: keepL kH gH (hs.drop (i + 1)) := by
  rw [List.drop_eq_getElem_cons hi, keepL, if_neg]
  rw [Bool.or_eq_true]
  rintro (h | h)
  · obtain ⟨x, hx, he⟩ := List.any_eq_true.1 h
    obtain ⟨k, hk, rfl⟩ := List.mem_iff_getElem.1 hx
    rw [List.getElem_drop] at he
    exact hne k (by rw [List.length_drop] at hk; omega) (by simpa using he)
  · exact absurd (hg.symm.trans h) (by simp)
/-- A header appended to a row that may be nil. -/
theorem ga_app {w : World} {B : Nat} {v : Value} {K : List ImH} (h : GOwns w B v (K.map hr)) (x : ImH) (hz : K.length ≤ 200000) (hB : B ≤ w.heap.size) :
    ∃ v' w', (Builtin.append_ #[40, 40] 40 #[v, .slice (some ⟨w.heap.size, 0, none⟩) 1 1]).run Try.prog (w.alloc (.cells #[.int .i64 x.X.id, .bool x.X.gone, .slice (some ⟨x.g, 0, none⟩) x.X.xs.length x.c] 45)) = .ok v' w' ∧ GOwns w' B v' ((K ++ [x]).map hr) ∧ (w.alloc (.cells #[.int .i64 x.X.id, .bool x.X.gone, .slice (some ⟨x.g, 0, none⟩) x.X.xs.length x.c] 45)).grownBy w' v.ownBlock := by
  obtain ⟨i0, hi0, hz0, hz1, hz2⟩ := info_parts infoIm
  have hl : (K.map hr).length ≤ 200000 := by simpa using hz
  obtain ⟨v', w', hrun, ho', hg, -, -⟩ := app_at (P := Try.prog) (w := w.alloc (.cells #[.int .i64 x.X.id, .bool x.X.gone, .slice (some ⟨x.g, 0, none⟩) x.X.xs.length x.c] 45)) (B := B) 40 40 45 Try.underlying40 hi0 hz0 hz1 hz2 rfl (by decide) (World.ownsRow.alloc h _) ⟨w.heap.size, 0, none⟩ 1 1 (hcs [x]) rfl (one_src w x _ rfl) (gcs_one _) (by unfold maxLen; omega) (by omega) (by simp; omega) (fun _ => Nat.one_pos)
  refine ⟨v', w', hrun, ?_, hg⟩
  unfold GOwns
  rw [List.map_append, List.length_append, gcs_append]
  exact ho'
theorem sort_none (cb : Array Value) (w : World) : Calls Try.prog 104 #[.slice none 0 0, .func (.func 105) #[] cb] w fun e w' => e = .returned (.tuple #[]) ∧ w' = w := AnyF.slices_SortFunc_none sortImg none 0 _ w
theorem sort_some {w : World} {B g n cap : Nat} {R : List ImH} (h : ROwn w B g n cap R) (hn : n ≤ 1000000) : Calls Try.prog 104 #[.slice (some ⟨g, 0, none⟩) n cap, .func (.func 105) #[] #[]] w fun e w' => e = .returned (.tuple #[]) ∧ ∃ d nn os, PermIn 0 R.toArray.size R.toArray d ∧ SortedIn (ltOf cfH) 0 R.toArray.size d ∧ w' = sortWorldK encH 3 w g 0 nn d os := by
  have eg : ∀ args w, (callFunc 105 args).run Try.prog w = .ok (.enter 105 args) w := enters_of Try.func105 (by kernel_rfl) rfl
  have hcon := AnyQ.slices_SortFunc sortImg 3 Try.isAgg45 Try.sizeOf45 encH (fun _ => rfl) (fun x v hv => by simp [encH] at hv; rcases hv with rfl | rfl | rfl <;> rfl) cfH swoH 105 #[] g 0 cap R.toArray w eg (lt_cmpLays g 0 R.toArray.size w) h.holds h.lt.2 (by have := h.1; simp; omega)
  change Calls Try.prog 104 _ _ _ at hcon
  obtain rfl := h.1
  simpa using hcon
set_option maxRecDepth 100000 in
set_option maxHeartbeats 8000000 in
theorem lastOfEach_any (a : Option Addr) (n c : Nat) (hs : List ImH) (w : World) (hR : GRow w a n (hs.map hr)) (hn : n ≤ 100000) (hc : n ≤ c) :
    Calls Try.prog 59 #[.slice a n c] w fun e w' => LeRes hs w e w' := by
  have LN := hide (show hs.length = n by simpa using hR.1)
  have RW := hide hR
  clear hR
  go_enter Try.func59, Try.ntmps59
  go_wp2_with fail
  go_step3
  go_wp2_with fail
  go_step3
  go_wp2_with fail
  go_loopg [3, 10] n (fun gq v ii wr => ∃ (i : Nat) (K : List ImH), i + gq = n ∧ ii = .int .i64 (i : Int) ∧ K.length ≤ i ∧ Hid (K ++ keepL kH gH (hs.drop i) = keepL kH gH hs) ∧ Hid (GOwns wr w.heap.size v (K.map hr)) ∧ Hid (Below w.heap.size w wr))
  case atStart => exact ⟨0, [], by omega, rfl, Nat.le_refl _, by simp [Hid], World.ownsRow_nil _ _ _ _, Below.refl _ _⟩
  case round =>
    obtain ⟨i, K, hig, rfl, hK, hL, hO, hB⟩ := hrel
    cases gk with
    | zero =>
      have hinz : ¬ ((i : Int) < (n : Int)) := by omega
      have E : K = keepL kH gH hs := by
        have := unhide hL
        rw [List.drop_of_length_le (by rw [unhide LN]; omega)] at this
        simpa [keepL] using this
      rcases (unhide hO).2 with ⟨rfl, h0⟩ | ⟨g, cap, cur, rfl, hr0⟩
      · have E0 : K = [] := by simpa using h0
        have hcon := fun W => sort_none #[] W
        have Z := hide (show LeRes hs w (.returned (.slice none 0 0)) wr from ⟨_, [], rfl, World.ownsRow_nil _ _ _ _, Lat.of_perm (by rw [← E, E0]) List.Pairwise.nil, unhide hB, Nat.zero_le _⟩)
        clear hL hO hB E E0 h0 RW
        go_wp2_with (go_at_call 104; refine (hcon _).mono ?_; rintro e w' ⟨rfl, rfl⟩)
        try rw [Exit.noGoto_ret]
        go_ret
        exact unhide Z
      · have hKl : (K.map hr).length = K.length := List.length_map ..
        have RO : ROwn wr w.heap.size g K.length cap K := ⟨rfl, by have := unhide hO; unfold GOwns at this; rw [hKl] at this; exact this⟩
        have hcon := sort_some RO (by omega)
        rw [hKl]
        have Z := hide (show ∀ d : Array ImH, ∀ nn os, PermIn 0 K.toArray.size K.toArray d → SortedIn (ltOf cfH) 0 K.toArray.size d → LeRes hs w (.returned (.slice (some ⟨g, 0, none⟩) K.length cap)) (sortWorldK encH 3 wr g 0 nn d os) from fun d nn os hp hso => by
          obtain ⟨h1, h2, h3⟩ := sorted_up hp hso
          obtain ⟨r1, r2, r3⟩ := RO.sorted (q := nn) d (by simpa using h1) os
          refine ⟨_, d.toList, rfl, r1.gowns, Lat.of_perm (by rw [← E]; simpa using h2) h3, (unhide hB).trans (r2.mono RO.lt.1), by have e1 := h2.length_eq; rw [E] at e1; have e2 := (keepL_sub (k := kH) (g := gH) hs).length_le; simp only [List.length_map] at *; omega⟩)
        clear hL hO hB E RW RO hKl hr0
        go_wp2_with (go_at_call 104; refine hcon.mono ?_; rintro e w' ⟨rfl, d, nn, os, hp, hso, rfl⟩)
        try rw [Exit.noGoto_ret]
        go_ret
        exact unhide Z d nn os hp hso
    | succ gq =>
      have hin : i < n := by omega
      have hih : i < hs.length := by rw [unhide LN]; exact hin
      obtain ⟨b, off, ha, hbl, x0, x1, x2⟩ := lts_cells (GRow.below (unhide RW) (unhide hB)) i hih
      subst ha
      obtain ⟨b2, off2, hA, LR⟩ := le_later (unhide RW) hc i
      have wr1 : IntKind.i64.wrap ((i : Int) + 1) = ((i + 1 : Nat) : Int) := by rw [IntKind.wrap_i64]; omega
      have hc1 : i + 1 ≤ c := by omega
      have hn1 : i + 1 ≤ n := by omega
      go_wp2_with fail
      have B1 := hide ((unhide hB).alloc (unhide hB).size (.cells #[.int .i64 hs[i].X.id, .bool hs[i].X.gone, .slice (some ⟨hs[i].g, 0, none⟩) hs[i].X.xs.length hs[i].c] 45))
      have O1 := hide (World.ownsRow.alloc (unhide hO) (.cells #[.int .i64 hs[i].X.id, .bool hs[i].X.gone, .slice (some ⟨hs[i].g, 0, none⟩) hs[i].X.xs.length hs[i].c] 45))
      have KX := hide (heap_alloc_new wr (.cells #[.int .i64 hs[i].X.id, .bool hs[i].X.gone, .slice (some ⟨hs[i].g, 0, none⟩) hs[i].X.xs.length hs[i].c] 45))
      clear hO hB x0 x1 x2 hA
      generalize wr.alloc (.cells #[.int .i64 hs[i].X.id, .bool hs[i].X.gone, .slice (some ⟨hs[i].g, 0, none⟩) hs[i].X.xs.length hs[i].c] 45) = W1 at *
      generalize wr.heap.size = bx at *
      have hbx : bx < W1.heap.size := (Array.getElem?_eq_some_iff.1 (unhide KX)).1
      go_loopg [20] (n - (i + 1)) (fun g2 s wq => ∃ (k : Nat), k + g2 = n - (i + 1) ∧ s = .int .i64 (k : Int) ∧ Hid (∀ j (hj : i + 1 + j < hs.length), j < k → hs[i + 1 + j].X.id ≠ hs[i].X.id) ∧ Hid (Below W1.heap.size W1 wq))
      case atStart => exact ⟨0, by omega, rfl, fun j _ hj => absurd hj (Nat.not_lt_zero _), Below.refl _ _⟩
      case round =>
        obtain ⟨k, hkg, rfl, hN, hB2⟩ := hrel
        have KB := ((unhide hB2).block bx hbx).trans (unhide KX)
        have x0 : wr.cell? ⟨bx, 0, none⟩ = some (.int .i64 hs[i].X.id) := (heap_at KB 0).1
        have x1 : wr.cell? ⟨bx, 1, none⟩ = some (.bool hs[i].X.gone) := (heap_at KB 1).1
        have x2 : wr.cell? ⟨bx, 2, none⟩ = some (.slice (some ⟨hs[i].g, 0, none⟩) hs[i].X.xs.length hs[i].c) := (heap_at KB 2).1
        have B2 := hide ((unhide B1).trans ((unhide hB2).mono (unhide B1).size))
        have O2 := hide (rb_ownsRow_below (unhide O1) (unhide hB2))
        clear KB
        cases gk with
        | zero =>
          have hkz : ¬ ((k : Int) < ((n - (i + 1) : Nat) : Int)) := by omega
          cases hgone : hs[i].X.gone with
          | true =>
            have E := hide (show K ++ keepL kH gH (hs.drop (i + 1)) = keepL kH gH hs by rw [← keep_gone hih hgone]; exact unhide hL)
            rw [hgone] at x1
            clear hL LR hN hB2 x0 x2
            go_wp2_with fail
            go_roundg gq
            case measure => omega
            case rel => exact ⟨i + 1, K, by omega, by first | rfl | go_num, by omega, unhide E, unhide O2, unhide B2⟩
          | false =>
            have E := hide (show (K ++ [hs[i]]) ++ keepL kH gH (hs.drop (i + 1)) = keepL kH gH hs by rw [List.append_assoc, List.singleton_append, ← keep_here hih hgone (fun j hj => unhide hN j hj (by have := unhide LN; omega))]; exact unhide hL)
            have hKl : (K ++ [hs[i]]).length ≤ i + 1 := by simp; omega
            obtain ⟨v', w', hrun, ho', hg'⟩ := ga_app (unhide O2) hs[i] (by omega) (unhide B2).size
            have B3 := hide (((unhide B2).alloc (unhide B2).size _).grown hg' (by have := (unhide B2).size; simp; omega) (fun q hq => ((unhide O2).lt q hq).1))
            have O3 := hide ho'
            rw [hgone] at x1 hrun
            clear hL LR hN hB2 ho' hg'
            go_wp2_with (at_builtin; refine sc_wpApp rfl (.tmp 33) (.tmp 35) 40 rfl _ _ _ w' rfl rfl hrun ?_)
            go_roundg gq
            case measure => omega
            case rel => exact ⟨i + 1, K ++ [hs[i]], by omega, by first | rfl | go_num, hKl, unhide E, unhide O3, unhide B3⟩
        | succ g2 =>
          have hkz : (k : Int) < ((n - (i + 1) : Nat) : Int) := by omega
          have hkh : i + 1 + k < hs.length := by have := unhide LN; omega
          obtain ⟨y0, y1, y2⟩ := unhide LR wr (unhide B2) k hkh
          have x0' : ∀ o, (wr.alloc o).cell? ⟨bx, 0, none⟩ = some (.int .i64 hs[i].X.id) := fun o => (((Below.refl wr.heap.size wr).alloc (Nat.le_refl _) o).cell (p := ⟨bx, 0, none⟩) (cell_lt x0)).trans x0
          have B4 := hide (fun o => (unhide hB2).alloc (unhide hB2).size o)
          have O4 := hide (fun o => World.ownsRow.alloc (unhide O2) o)
          have B5 := hide (fun o => (unhide B2).alloc (unhide B2).size o)
          clear x1 x2 hB2 O2 B2
          by_cases he : hs[i + 1 + k].X.id = hs[i].X.id
          · have E := hide (show K ++ keepL kH gH (hs.drop (i + 1)) = keepL kH gH hs by rw [← keep_skip hih hkh he]; exact unhide hL)
            clear hL LR hN
            go_wp2_with fail
            go_roundg gq
            case measure => omega
            case rel => exact ⟨i + 1, K, by omega, by first | rfl | go_num, by omega, unhide E, unhide O4 _, unhide B5 _⟩
          · have E := hide (show ∀ j (hj : i + 1 + j < hs.length), j < k + 1 → hs[i + 1 + j].X.id ≠ hs[i].X.id from fun j hj hjk => by
              by_cases e : j = k
              · subst e; exact he
              · exact unhide hN j hj (by omega))
            clear LR hN
            go_wp2_with fail
            go_roundg g2
            case measure => omega
            case rel => exact ⟨k + 1, by omega, by first | rfl | go_num, unhide E, unhide B4 _⟩
end Go.Proofs.Ytocdbijmpecdgaa

namespace Go.Proofs.Ytocdbijmpecdgaa
open Go.RowKit

theorem crc_and {c : Nat} (hc : c < 4294967296) : bits .and .u32 (c : Int) 1 = ((c % 2 : Nat) : Int) := by
  have := u32_and_nat c 1 hc (by omega)
  rw [← nat_mask1, ← this]; rfl
theorem crcBit_odd_u32 {c : Nat} (hc : c < 4294967296) (h : c % 2 = 1) : bits .xor .u32 ((c : Int) / 2) 3988292384 = ((crcBit c : Nat) : Int) := by
  unfold crcBit
  rw [if_pos h]
  have := u32_xor_nat (c / 2) 3988292384 (by omega) (by omega)
  rw [← this]
  rfl
theorem crcBit_even_i {c : Nat} (h : ¬ c % 2 = 1) : ((c / 2 : Nat) : Int) = ((crcBit c : Nat) : Int) := by unfold crcBit; rw [if_neg h]
set_option maxHeartbeats 1000000 in
theorem crcOf_any (a : Option Addr) (n c : Nat) (xs : List Int) (w : World) (hn : n ≤ 1048576) (h1 : Row w a n xs) (h8 : Bytes8 xs) :
    Calls Try.prog 65 #[.slice a n c] w fun e w' => e = .returned (.int .u32 ((crcV xs : Nat) : Int)) ∧ w' = w := by
  have L1 := hide h1.1
  have H1 := hide h1.2
  have H8 := hide h8
  clear h1 h8
  go_enter Try.func65, Try.ntmps65
  go_wp2_with fail
  go_loop [3, 9] (fun s i => ∃ k : Nat, k ≤ n ∧ i = .int .i64 k ∧ s = .int .u32 ((crcSum (xs.take k) : Nat) : Int)) (fun _ i => n - (intOf i).toNat)
  case atStart => exact ⟨0, Nat.zero_le _, rfl, rfl⟩
  case round =>
    obtain ⟨k, hk, rfl, rfl⟩ := hrel
    by_cases hlt : k < n
    · obtain ⟨b, off, rfl, e1⟩ := unhide H1 k hlt
      have hx := unhide H8 k (by rw [unhide L1]; exact hlt)
      have hs := crcSum_take_lt (unhide H8) k (by rw [unhide L1]; omega)
      have SN := hide (crcSum_snoc xs k (by rw [unhide L1]; exact hlt))
      generalize xs.getD k 0 = x at *
      generalize crcSum (xs.take k) = s at *
      have hxx : bits .xor .u32 (s : Int) x = ((s ^^^ x.toNat : Nat) : Int) := by
        have := u32_xor_nat s x.toNat hs (by omega)
        rwa [Int.toNat_of_nonneg hx.1] at this
      have hS := hide (xor32 hs (show x.toNat < 4294967296 by omega))
      have SN2 := hide (show crcSum (xs.take (k + 1)) = crcBits (s ^^^ x.toNat) 8 from unhide SN)
      clear SN
      generalize s ^^^ x.toNat = t at *
      go_wp2_with fail
      go_loop [3, 17] (fun s i => ∃ j : Nat, j ≤ 8 ∧ i = .int .i64 j ∧ s = .int .u32 ((crcBits t j : Nat) : Int)) (fun _ i => 8 - (intOf i).toNat)
      case atStart => exact ⟨0, Nat.zero_le _, rfl, rfl⟩
      case round =>
        obtain ⟨j, hj, rfl, rfl⟩ := hrel
        by_cases hlt8 : j < 8
        · have hb := crcBits_lt (unhide hS) j
          have HE := hide (show crcBits t (j + 1) = crcBit (crcBits t j) from rfl)
          generalize crcBits t j = u at *
          have ha := crc_and hb
          by_cases ho : u % 2 = 1
          · have hr := crcBit_odd_u32 hb ho
            rw [ho] at ha
            clear ho
            go_wp2_with fail
            go_round
            case rel => exact ⟨j + 1, by omega, by go_num, by rw [unhide HE]⟩
            case measure => simp [intOf]; omega
          · have hr := hide (crcBit_even_i ho)
            rw [show u % 2 = 0 by omega] at ha
            clear ho
            go_wp2_with fail
            go_round
            case rel => exact ⟨j + 1, by omega, by go_num, by rw [unhide HE, ← unhide hr]; rfl⟩
            case measure => simp [intOf]; omega
        · obtain rfl : j = 8 := by omega
          go_wp2_with fail
          go_round
          case rel => exact ⟨k + 1, by omega, by go_num, by rw [unhide SN2]⟩
          case measure => simp [intOf]; omega
    · obtain rfl : k = n := by omega
      rw [List.take_of_length_le (by rw [unhide L1]; exact Nat.le_refl _)]
      have HV := hide (show bits .xor .u32 4294967295 ((crcSum xs : Nat) : Int) = ((crcV xs : Nat) : Int) from (u32_xor_nat 4294967295 _ (by omega) (crcSum_lt (unhide H8))).trans (by rw [Nat.xor_comm]; rfl))
      generalize crcSum xs = s at *
      go_wp2_with fail
      go_ret
      exact ⟨ret_int (unhide HV), rfl⟩
theorem u32_lt {v : Nat} (h : v < 4294967296) : IntKind.i64.wrap (v : Int) = (v : Int) := by rw [IntKind.wrap_i64]; omega
set_option maxHeartbeats 400000 in
theorem implCrc_any (a : Option Addr) (n c : Nat) (xs : List Int) (w : World) (hn : n ≤ 1048576) (h1 : Row w a n xs) (h8 : Bytes8 xs) :
    Calls Try.prog 23 #[.slice a n c] w fun e w' => e = .returned (.int .i64 (crcR xs)) ∧ w' = w := by
  have hl := h1.1
  by_cases h : 65536 < n
  · have HR := hide (show crcR xs = 0 by unfold crcR; rw [if_pos (by omega)])
    clear h1 h8 hl
    go_enter Try.func23, Try.ntmps23
    go_wp2_with fail
    go_ret
    exact ⟨ret_int (unhide HR).symm, rfl⟩
  · have HR := hide (show crcR xs = ((crcV xs : Nat) : Int) by unfold crcR; rw [if_neg (by omega)])
    have HC := hide (crcOf_any a n c xs w hn h1 h8)
    have hv := crcV_lt h8
    clear h1 h8 hl
    go_enter Try.func23, Try.ntmps23
    go_wp2_with (go_at_call 65; refine (unhide HC).mono ?_; rintro e w1 ⟨rfl, rfl⟩)
    go_ret
    exact ⟨ret_int (unhide HR).symm, rfl⟩
end Go.Proofs.Ytocdbijmpecdgaa

namespace Go.Proofs.Ytocdbijmpecdgaa
open Go.RowKit

theorem cell_new1 {w : World} {cs : Array Value} {t : TypeId} {g j : Nat} (hg : g = w.heap.size) : (w.alloc (.cells cs t)).cell? ⟨g, j, none⟩ = cs[j]? := by subst hg; simp
/-- The bounds of an image's number. -/
def idI (n : Int) : Bool := decide (0 ≤ n ∧ n ≤ 1000)
theorem idOK_img (n : Int) (w : World) : Calls Try.prog 100 #[.int .i64 n] w fun e w' => e = .returned (.bool (idI n)) ∧ w' = w := by
  by_cases h : 0 ≤ n
  · have E := hide (show decide (n ≤ 1000) = idI n by unfold idI; rw [decide_eq_decide]; omega)
    go_enter Try.func100, Try.ntmps100
    go_wp2_with fail
    go_ret
    exact ⟨ret_bool (unhide E), rfl⟩
  · have E := hide (show false = idI n by unfold idI; rw [decide_eq_false]; omega)
    go_enter Try.func100, Try.ntmps100
    go_wp2_with fail
    go_ret
    exact ⟨ret_bool (unhide E), rfl⟩
set_option maxHeartbeats 1000000 in
theorem imageOK_any (id : Int) (gone : Bool) (a : Option Addr) (n c : Nat) (w : World) (hn : n ≤ maxLen) :
    Calls Try.prog 54 #[iv id gone a n c] w fun e w' => e = .returned (.bool (imOK id gone n)) ∧ Below w.heap.size w w' := by
  unfold maxLen at hn
  have B0 : ∀ o, Below w.heap.size w (w.alloc o) := fun o => (Below.refl _ _).alloc (Nat.le_refl _) _
  cases gone
  all_goals
    go_enter Try.func54, Try.ntmps54
    go_wp2_with (go_at_call 100; refine (idOK_img id _).mono ?_; rintro e w1 ⟨rfl, rfl⟩)
    all_goals go_ret
    all_goals exact ⟨ret_bool (by simp_all [imOK, idI]; try omega), B0 _⟩
set_option maxHeartbeats 1000000 in
theorem appendTwo_any (B : Nat) (v0 : Value) (zs : List Int) (n : Int) (w : World) (hB : B ≤ w.heap.size) (hz : zs.length ≤ 10000000) (h0 : 0 ≤ n) (h1 : n ≤ 65535) (ho : Owns w B v0 zs) :
    Calls Try.prog 103 #[v0, .int .i64 n] w fun e w' => ∃ v, e = .returned v ∧ Owns w' B v (zs ++ [n / 256, n % 256]) ∧ Below B w w' := by
  obtain ⟨i0, hi, hz0, hz1, hz2⟩ := info_parts Try.infoU8
  have hq : n / 256 % 256 = n / 256 := by omega
  go_enter Try.func103, Try.ntmps103
  go_wp2_with (at_builtin; refine wpList_append_own _ rfl _ _ 22 rfl B 5 i0 (.int .u8 0) 1 1 Try.underlying22 hi hz0 hz1 hz2 rfl (by decide) _ _ _ rfl (ho.alloc _) ⟨w.heap.size, 0, none⟩ 2 2 [.int .u8 (n / 256), .int .u8 (n % 256)] rfl rfl cell_two (two_u8 _ _) (by unfold maxLen; omega) (by omega) (by simp; omega) ?_)
  intro v1 w1 hown1 hgrow1 _
  have R1 := hide (owns_app2 hown1)
  have R2 := hide (below_app (Below.refl _ _) hB ho hgrow1)
  clear ho hown1 hgrow1
  go_wp2_with fail
  go_ret
  exact ⟨_, rfl, unhide R1, unhide R2⟩
theorem owns_one {w : World} {B : Nat} (x : Int) (h : B ≤ w.heap.size) : Owns (w.alloc (.cells #[.int .u8 x] 5)) B (.slice (some ⟨w.heap.size, 0, none⟩) 1 1) [x] :=
  World.ownsRow_lit _ _ _ h (by unfold maxLen; simp) rfl
theorem owns_down {w : World} {B C : Nat} {v : Value} {xs : List Int} (h : Owns w B v xs) (hc : C ≤ B) : Owns w C v xs := by
  obtain ⟨h1, h2⟩ := h
  refine ⟨h1, ?_⟩
  rcases h2 with h2 | ⟨g, cap, cur, e, hb, r⟩
  · exact .inl h2
  · exact .inr ⟨g, cap, cur, e, Nat.le_trans hc hb, r⟩
/-- The cells of a row of bytes, as a law of the library asks them. -/
theorem row_cells' {w : World} {b off : Nat} {xs : List Int} (h : Row w (some ⟨b, off, none⟩) xs.length xs) : ∀ j u, (xs.map (Value.int .u8))[j]? = some u → w.cell? ((⟨b, off, none⟩ : Addr).add j) = some u := by
  intro j u hu
  have hj : j < xs.length := by simpa using (List.getElem?_eq_some_iff.1 hu).1
  obtain ⟨b', off', e, hc⟩ := h.2 j hj
  injection e with e
  injection e with e1 e2
  subst e1 e2
  rw [Addr.add_mid, hc, ← hu]
  simp [List.getD, hj]
theorem row_grow' {w w' : World} {a : Option Addr} {n : Nat} {xs : List Int} (h : Row w a n xs) (hb : Below w.heap.size w w') : Row w' a n xs := by
  refine ⟨h.1, fun i hi => ?_⟩
  obtain ⟨b, off, e, hc⟩ := h.2 i hi
  exact ⟨b, off, e, (hb.cell (p := ⟨b, off + i, none⟩) (cell_lt hc)).trans hc⟩
theorem owns_row {w : World} {B : Nat} {v : Value} {xs : List Int} (h : Owns w B v xs) (hv : v ≠ .slice none 0 0) : ∃ g cap, v = .slice (some ⟨g, 0, none⟩) xs.length cap ∧ Row w (some ⟨g, 0, none⟩) xs.length xs := by
  rcases h.2 with ⟨e, _⟩ | ⟨g, cap, cur, rfl, _⟩
  · exact absurd e hv
  · refine ⟨g, cap, rfl, rfl, fun i hi => ⟨g, 0, rfl, ?_⟩⟩
    have := World.ownsRow.cellAt h i (by omega)
    rw [Nat.zero_add, this]
    simp [List.getD, hi]
theorem owns_app4 {w : World} {B : Nat} {v : Value} {xs : List Int} {x y z u : Int} (h : w.ownsRow B 5 1 v (xs.length + 4) (xs.map (Value.int .u8) ++ [.int .u8 x, .int .u8 y, .int .u8 z, .int .u8 u])) : Owns w B v (xs ++ [x, y, z, u]) := by
  unfold Owns
  rw [List.length_append, List.map_append]; exact h
theorem four_u8 (x y z u : Int) : ∀ t ∈ [Value.int .u8 x, Value.int .u8 y, Value.int .u8 z, Value.int .u8 u], t.oneCell' = true := by
  intro t ht
  simp at ht
  rcases ht with rfl | rfl | rfl | rfl <;> rfl
theorem owns_nonnil {w : World} {B : Nat} {xs : List Int} (h : Owns w B (.slice none 0 0) xs) : xs = [] := by
  rcases h.2 with ⟨_, e⟩ | ⟨g, cap, cur, e, _⟩
  · exact List.eq_nil_of_length_eq_zero e
  · cases e
end Go.Proofs.Ytocdbijmpecdgaa

namespace Go.Proofs.Ytocdbijmpecdgaa
open Go.RowKit

set_option maxRecDepth 100000 in
set_option maxHeartbeats 40000000 in
theorem imageBytes_false (id : Int) (b off c : Nat) (xs : List Int) (w : World) (h : imOK id false xs.length = true) (h1 : Row w (some ⟨b, off, none⟩) xs.length xs) (h8 : Bytes8 xs) :
    Calls Try.prog 58 #[iv id false (some ⟨b, off, none⟩) xs.length c] w fun e w' => ∃ v, e = .returned v ∧ Owns w' w.heap.size v (imgL id false xs) ∧ v ≠ .slice none 0 0 ∧ Below w.heap.size w w' := by
  obtain ⟨i0, hi, hz0, hz1, hz2⟩ := info_parts Try.infoU8
  obtain ⟨g0, g1, g2, g3⟩ := of_decide_eq_true h
  clear g3
  have H8 := hide h8
  have R := hide h1
  clear h h1 h8
  have hb0 : Below w.heap.size w (w.alloc (.cells #[.int .i64 id, .bool false, .slice (some ⟨b, off, none⟩) xs.length c] 45)) := (Below.refl _ _).alloc (Nat.le_refl _) _
  have x0 : (w.alloc (.cells #[.int .i64 id, .bool false, .slice (some ⟨b, off, none⟩) xs.length c] 45)).cell? ⟨w.heap.size, 0, none⟩ = some (.int .i64 id) := (cell_new1 rfl).trans rfl
  have x2 : (w.alloc (.cells #[.int .i64 id, .bool false, .slice (some ⟨b, off, none⟩) xs.length c] 45)).cell? ⟨w.heap.size, 2, none⟩ = some (.slice (some ⟨b, off, none⟩) xs.length c) := (cell_new1 rfl).trans rfl
  have hsz : (w.alloc (.cells #[.int .i64 id, .bool false, .slice (some ⟨b, off, none⟩) xs.length c] 45)).heap.size = w.heap.size + 1 := by simp
  go_enter Try.func58, Try.ntmps58
  go_wp2_with fail
  generalize w.alloc (.cells #[.int .i64 id, .bool false, .slice (some ⟨b, off, none⟩) xs.length c] 45) = w0 at *
  have O0 := hide (owns_one (w := w0) (B := w0.heap.size) 1 (Nat.le_refl _))
  have B1 := hide ((Below.refl w0.heap.size w0).alloc (Nat.le_refl _) (.cells #[.int .u8 1] 5))
  have HS := hide hsz
  have hlt : w.heap.size < w0.heap.size := by omega
  have gid : id ≤ 65535 := by omega
  have gl1 : [(1 : Int)].length ≤ 10000000 := by simp
  have gl2 : ([(1 : Int)] ++ [id / 256, id % 256]).length ≤ 10000000 := by simp
  have gl3 : (xs.length : Int) ≤ 65535 := by omega
  have gl0 : (0 : Int) ≤ (xs.length : Int) := by omega
  have hle : ∀ o, w0.heap.size ≤ (w0.alloc o).heap.size := fun o => by simp
  have HA := hide (appendTwo_any w0.heap.size (.slice (some ⟨w0.heap.size, 0, none⟩) 1 1) [1] id (w0.alloc (.cells #[.int .u8 1] 5)).drew (hle _) gl1 g0 gid (unhide O0))
  clear hsz O0
  go_region_with (first
    | (revert hb1; intro hb1; go_at_call 103; refine (appendTwo_any w0.heap.size v1 ([1] ++ [id / 256, id % 256]) (xs.length : Int) w1 hb1.size gl2 gl0 gl3 ho1).mono ?_; rintro e w2 ⟨v2, rfl, ho2, hb2⟩)
    | (go_at_call 103; refine (unhide HA).mono ?_; rintro e w1 ⟨v1, rfl, ho1, hb1⟩; replace hb1 : Below w0.heap.size w0 w1 := (unhide B1).trans ⟨hb1.os, hb1.tape, hb1.output, hb1.size, hb1.block⟩; have y2 := (hb1.cell (p := ⟨w.heap.size, 2, none⟩) hlt).trans x2))
  all_goals
    have hb3 : Below w0.heap.size w0 w2 := hb1.trans hb2
    have HB := hide (hb0.trans (hb3.mono (by omega)))
    have z2 := (hb3.cell (p := ⟨w.heap.size, 2, none⟩) hlt).trans x2
    have RC := hide (row_cells' (row_grow' (unhide R) (unhide HB)))
    have hs2 := hb3.size
    clear hb3 hb2 hb1 ho1 y2 x0 x2 HA B1 hle gl1 gl2 gl3 gl0 hb0
    have e4 : [(1 : Int)] ++ [id / 256, id % 256] ++ [(xs.length : Int) / 256, (xs.length : Int) % 256] = [1, id / 256, id % 256, (xs.length : Int) / 256, (xs.length : Int) % 256] := rfl
    rw [e4] at ho2
    clear e4
    go_wp2_with (at_builtin; refine wpList_append_own _ rfl _ _ 22 rfl w0.heap.size 5 i0 (.int .u8 0) 1 1 Try.underlying22 hi hz0 hz1 hz2 rfl (by decide) _ 5 _ rfl ho2 ⟨b, off, none⟩ xs.length c (xs.map (Value.int .u8)) rfl (by simp) (unhide RC) (all_u8 _) (by unfold maxLen; omega) (by omega) (by omega) ?_)
    intro v3 w3 hown3 hgrow3 hnil3
    have O3 : Owns w3 w0.heap.size v3 (imgH id false xs) := by
      have := owns_apps (xs := [1, id / 256, id % 256, (xs.length : Int) / 256, (xs.length : Int) % 256]) rfl hown3
      exact this
    have HB3 := hide ((unhide HB).grown hgrow3 (by omega) (fun k hk => by have := (ho2.lt k hk).1; omega))
    have hs3 : w0.heap.size ≤ w3.heap.size := by have := hgrow3.size; omega
    have hv3 : v3 ≠ .slice none 0 0 := fun e => by subst e; have := congrArg List.length (owns_nonnil O3); simp [imgH] at this
    obtain ⟨g, cap, rfl, hr3⟩ := owns_row O3 hv3
    have HH := hide (imgH_bytes (gone := false) (unhide H8) g0 gid (by omega))
    have hl3 : (imgH id false xs).length ≤ 2000 := by rw [imgH_length]; omega
    have HI := hide (show imgL id false xs = imgH id false xs ++ four (crcV (imgH id false xs)) from rfl)
    have hcv := crcV_lt (unhide HH)
    clear hown3 hgrow3 hnil3 ho2 HB RC z2 hv3 R
    generalize imgH id false xs = ys at *
    go_wp2_with (first | (go_at_call 65; refine (crcOf_any (some ⟨g, 0, none⟩) ys.length cap ys w3 (by omega) hr3 (unhide HH)).mono ?_; rintro e w4 ⟨rfl, rfl⟩) | (at_builtin; refine wpList_append_own _ rfl _ _ 22 rfl w0.heap.size 5 i0 (.int .u8 0) 1 1 Try.underlying22 hi hz0 hz1 hz2 rfl (by decide) _ ys.length _ rfl (World.ownsRow.alloc O3 _) ⟨w4.heap.size, 0, none⟩ 4 4 [.int .u8 ((crcV ys : Int) / 16777216), .int .u8 ((crcV ys : Int) / 65536 % 256), .int .u8 ((crcV ys : Int) / 256 % 256), .int .u8 ((crcV ys : Int) % 256)] rfl rfl cells_new (four_u8 _ _ _ _) (by unfold maxLen; omega) (by omega) (by simp; omega) ?_))
    intro v5 w5 hown5 hgrow5 hnil5
    have O5 := hide (owns_down (owns_app4 hown5) (show w.heap.size ≤ w0.heap.size by omega))
    have B5 := hide (below_app (unhide HB3) (by omega) (owns_down O3 (show w.heap.size ≤ w0.heap.size by omega)) hgrow5)
    have N5 := hide (show v5 ≠ .slice none 0 0 from hnil5)
    clear hown5 hgrow5 hnil5 O3 HB3 hr3
    go_wp2_with fail
    go_ret
    exact ⟨_, rfl, by rw [unhide HI]; exact unhide O5, unhide N5, unhide B5⟩
end Go.Proofs.Ytocdbijmpecdgaa

namespace Go.Proofs.Ytocdbijmpecdgaa
open Go.RowKit

set_option maxRecDepth 100000 in
set_option maxHeartbeats 40000000 in
theorem imageBytes_true (id : Int) (b off c : Nat) (xs : List Int) (w : World) (h : imOK id true xs.length = true) (h1 : Row w (some ⟨b, off, none⟩) xs.length xs) (h8 : Bytes8 xs) :
    Calls Try.prog 58 #[iv id true (some ⟨b, off, none⟩) xs.length c] w fun e w' => ∃ v, e = .returned v ∧ Owns w' w.heap.size v (imgL id true xs) ∧ v ≠ .slice none 0 0 ∧ Below w.heap.size w w' := by
  obtain ⟨i0, hi, hz0, hz1, hz2⟩ := info_parts Try.infoU8
  obtain ⟨g0, g1, g2, g3⟩ := of_decide_eq_true h
  clear g3
  have H8 := hide h8
  have R := hide h1
  clear h h1 h8
  have hb0 : Below w.heap.size w (w.alloc (.cells #[.int .i64 id, .bool true, .slice (some ⟨b, off, none⟩) xs.length c] 45)) := (Below.refl _ _).alloc (Nat.le_refl _) _
  have x0 : (w.alloc (.cells #[.int .i64 id, .bool true, .slice (some ⟨b, off, none⟩) xs.length c] 45)).cell? ⟨w.heap.size, 0, none⟩ = some (.int .i64 id) := (cell_new1 rfl).trans rfl
  have x2 : (w.alloc (.cells #[.int .i64 id, .bool true, .slice (some ⟨b, off, none⟩) xs.length c] 45)).cell? ⟨w.heap.size, 2, none⟩ = some (.slice (some ⟨b, off, none⟩) xs.length c) := (cell_new1 rfl).trans rfl
  have hsz : (w.alloc (.cells #[.int .i64 id, .bool true, .slice (some ⟨b, off, none⟩) xs.length c] 45)).heap.size = w.heap.size + 1 := by simp
  go_enter Try.func58, Try.ntmps58
  go_wp2_with fail
  generalize w.alloc (.cells #[.int .i64 id, .bool true, .slice (some ⟨b, off, none⟩) xs.length c] 45) = w0 at *
  have O0 := hide (owns_one (w := w0) (B := w0.heap.size) 2 (Nat.le_refl _))
  have B1 := hide ((Below.refl w0.heap.size w0).alloc (Nat.le_refl _) (.cells #[.int .u8 2] 5))
  have HS := hide hsz
  have hlt : w.heap.size < w0.heap.size := by omega
  have gid : id ≤ 65535 := by omega
  have gl1 : [(2 : Int)].length ≤ 10000000 := by simp
  have gl2 : ([(2 : Int)] ++ [id / 256, id % 256]).length ≤ 10000000 := by simp
  have gl3 : (xs.length : Int) ≤ 65535 := by omega
  have gl0 : (0 : Int) ≤ (xs.length : Int) := by omega
  have hle : ∀ o, w0.heap.size ≤ (w0.alloc o).heap.size := fun o => by simp
  have HA := hide (appendTwo_any w0.heap.size (.slice (some ⟨w0.heap.size, 0, none⟩) 1 1) [2] id (w0.alloc (.cells #[.int .u8 2] 5)).drew (hle _) gl1 g0 gid (unhide O0))
  clear hsz O0
  go_region_with (first
    | (revert hb1; intro hb1; go_at_call 103; refine (appendTwo_any w0.heap.size v1 ([2] ++ [id / 256, id % 256]) (xs.length : Int) w1 hb1.size gl2 gl0 gl3 ho1).mono ?_; rintro e w2 ⟨v2, rfl, ho2, hb2⟩)
    | (go_at_call 103; refine (unhide HA).mono ?_; rintro e w1 ⟨v1, rfl, ho1, hb1⟩; replace hb1 : Below w0.heap.size w0 w1 := (unhide B1).trans ⟨hb1.os, hb1.tape, hb1.output, hb1.size, hb1.block⟩; have y2 := (hb1.cell (p := ⟨w.heap.size, 2, none⟩) hlt).trans x2))
  all_goals
    have hb3 : Below w0.heap.size w0 w2 := hb1.trans hb2
    have HB := hide (hb0.trans (hb3.mono (by omega)))
    have z2 := (hb3.cell (p := ⟨w.heap.size, 2, none⟩) hlt).trans x2
    have RC := hide (row_cells' (row_grow' (unhide R) (unhide HB)))
    have hs2 := hb3.size
    clear hb3 hb2 hb1 ho1 y2 x0 x2 HA B1 hle gl1 gl2 gl3 gl0 hb0
    have e4 : [(2 : Int)] ++ [id / 256, id % 256] ++ [(xs.length : Int) / 256, (xs.length : Int) % 256] = [2, id / 256, id % 256, (xs.length : Int) / 256, (xs.length : Int) % 256] := rfl
    rw [e4] at ho2
    clear e4
    go_wp2_with (at_builtin; refine wpList_append_own _ rfl _ _ 22 rfl w0.heap.size 5 i0 (.int .u8 0) 1 1 Try.underlying22 hi hz0 hz1 hz2 rfl (by decide) _ 5 _ rfl ho2 ⟨b, off, none⟩ xs.length c (xs.map (Value.int .u8)) rfl (by simp) (unhide RC) (all_u8 _) (by unfold maxLen; omega) (by omega) (by omega) ?_)
    intro v3 w3 hown3 hgrow3 hnil3
    have O3 : Owns w3 w0.heap.size v3 (imgH id true xs) := by
      have := owns_apps (xs := [2, id / 256, id % 256, (xs.length : Int) / 256, (xs.length : Int) % 256]) rfl hown3
      exact this
    have HB3 := hide ((unhide HB).grown hgrow3 (by omega) (fun k hk => by have := (ho2.lt k hk).1; omega))
    have hs3 : w0.heap.size ≤ w3.heap.size := by have := hgrow3.size; omega
    have hv3 : v3 ≠ .slice none 0 0 := fun e => by subst e; have := congrArg List.length (owns_nonnil O3); simp [imgH] at this
    obtain ⟨g, cap, rfl, hr3⟩ := owns_row O3 hv3
    have HH := hide (imgH_bytes (gone := true) (unhide H8) g0 gid (by omega))
    have hl3 : (imgH id true xs).length ≤ 2000 := by rw [imgH_length]; omega
    have HI := hide (show imgL id true xs = imgH id true xs ++ four (crcV (imgH id true xs)) from rfl)
    have hcv := crcV_lt (unhide HH)
    clear hown3 hgrow3 hnil3 ho2 HB RC z2 hv3 R
    generalize imgH id true xs = ys at *
    go_wp2_with (first | (go_at_call 65; refine (crcOf_any (some ⟨g, 0, none⟩) ys.length cap ys w3 (by omega) hr3 (unhide HH)).mono ?_; rintro e w4 ⟨rfl, rfl⟩) | (at_builtin; refine wpList_append_own _ rfl _ _ 22 rfl w0.heap.size 5 i0 (.int .u8 0) 1 1 Try.underlying22 hi hz0 hz1 hz2 rfl (by decide) _ ys.length _ rfl (World.ownsRow.alloc O3 _) ⟨w4.heap.size, 0, none⟩ 4 4 [.int .u8 ((crcV ys : Int) / 16777216), .int .u8 ((crcV ys : Int) / 65536 % 256), .int .u8 ((crcV ys : Int) / 256 % 256), .int .u8 ((crcV ys : Int) % 256)] rfl rfl cells_new (four_u8 _ _ _ _) (by unfold maxLen; omega) (by omega) (by simp; omega) ?_))
    intro v5 w5 hown5 hgrow5 hnil5
    have O5 := hide (owns_down (owns_app4 hown5) (show w.heap.size ≤ w0.heap.size by omega))
    have B5 := hide (below_app (unhide HB3) (by omega) (owns_down O3 (show w.heap.size ≤ w0.heap.size by omega)) hgrow5)
    have N5 := hide (show v5 ≠ .slice none 0 0 from hnil5)
    clear hown5 hgrow5 hnil5 O3 HB3 hr3
    go_wp2_with fail
    go_ret
    exact ⟨_, rfl, by rw [unhide HI]; exact unhide O5, unhide N5, unhide B5⟩
end Go.Proofs.Ytocdbijmpecdgaa

namespace Go.Proofs.Ytocdbijmpecdgaa
open Go.RowKit

theorem crcBit_even {c : Nat} (h : ¬ c % 2 = 1) : ((c / 2 : Nat) : Int) = ((crcBit c : Nat) : Int) := by unfold crcBit; rw [if_neg h]
theorem crcBit_odd_i64 {c : Nat} (hc : c < 4294967296) (h : c % 2 = 1) : bits .xor .i64 ((c : Int) / 2) 3988292384 = ((crcBit c : Nat) : Int) := by
  unfold crcBit
  rw [if_pos h]
  have := i64_xor_nat (c / 2) 3988292384 (by omega) (by omega)
  rw [← this]
  rfl
set_option maxHeartbeats 1000000 in
theorem l03Crc_any (a : Option Addr) (n c : Nat) (xs : List Int) (w : World) (hn : n ≤ 1048576) (h1 : Row w a n xs) (h8 : Bytes8 xs) :
    Calls Try.prog 66 #[.slice a n c] w fun e w' => e = .returned (.int .i64 ((crcV xs : Nat) : Int)) ∧ w' = w := by
  have L1 := hide h1.1
  have H1 := hide h1.2
  have H8 := hide h8
  clear h1 h8
  go_enter Try.func66, Try.ntmps66
  go_wp2_with fail
  go_loop [3, 4] (fun s i => ∃ k : Nat, k ≤ n ∧ i = .int .i64 k ∧ s = .int .i64 ((crcSum (xs.take k) : Nat) : Int)) (fun _ i => n - (intOf i).toNat)
  case atStart => exact ⟨0, Nat.zero_le _, rfl, rfl⟩
  case round =>
    obtain ⟨k, hk, rfl, rfl⟩ := hrel
    by_cases hlt : k < n
    · obtain ⟨b, off, rfl, e1⟩ := unhide H1 k hlt
      have hx := unhide H8 k (by rw [unhide L1]; exact hlt)
      have hs := crcSum_take_lt (unhide H8) k (by rw [unhide L1]; omega)
      have SN := hide (crcSum_snoc xs k (by rw [unhide L1]; exact hlt))
      generalize xs.getD k 0 = x at *
      generalize crcSum (xs.take k) = s at *
      have hxx : bits .xor .i64 (s : Int) x = ((s ^^^ x.toNat : Nat) : Int) := by
        have := i64_xor_nat s x.toNat hs (by omega)
        rwa [Int.toNat_of_nonneg hx.1] at this
      have hS := hide (xor32 hs (show x.toNat < 4294967296 by omega))
      have SN2 := hide (show crcSum (xs.take (k + 1)) = crcBits (s ^^^ x.toNat) 8 from unhide SN)
      clear SN
      generalize s ^^^ x.toNat = t at *
      go_wp2_with fail
      go_loop [3, 5] (fun s i => ∃ j : Nat, j ≤ 8 ∧ i = .int .i64 j ∧ s = .int .i64 ((crcBits t j : Nat) : Int)) (fun _ i => 8 - (intOf i).toNat)
      case atStart => exact ⟨0, Nat.zero_le _, rfl, rfl⟩
      case round =>
        obtain ⟨j, hj, rfl, rfl⟩ := hrel
        by_cases hlt8 : j < 8
        · have hb := crcBits_lt (unhide hS) j
          have HE := hide (show crcBits t (j + 1) = crcBit (crcBits t j) from rfl)
          generalize crcBits t j = u at *
          by_cases ho : u % 2 = 1
          · have q : ((u : Int) % 2 == 1) = true := by simp; omega
            have hr := crcBit_odd_i64 hb ho
            clear ho
            go_wp2_with fail
            go_round
            case rel => exact ⟨j + 1, by omega, by go_num, by rw [unhide HE]⟩
            case measure => simp [intOf]; omega
          · have q : ((u : Int) % 2 == 1) = false := by simp; omega
            have hr := hide (crcBit_even ho)
            clear ho
            go_wp2_with fail
            go_round
            case rel => exact ⟨j + 1, by omega, by go_num, by rw [unhide HE, ← unhide hr]; rfl⟩
            case measure => simp [intOf]; omega
        · obtain rfl : j = 8 := by omega
          go_wp2_with fail
          go_round
          case rel => exact ⟨k + 1, by omega, by go_num, by rw [unhide SN2]⟩
          case measure => simp [intOf]; omega
    · obtain rfl : k = n := by omega
      rw [List.take_of_length_le (by rw [unhide L1]; exact Nat.le_refl _)]
      have HV := hide (show bits .xor .i64 ((crcSum xs : Nat) : Int) 4294967295 = ((crcV xs : Nat) : Int) from i64_xor_nat _ 4294967295 (crcSum_lt (unhide H8)) (by omega))
      generalize crcSum xs = s at *
      go_wp2_with fail
      go_ret
      exact ⟨ret_int (unhide HV), rfl⟩
set_option maxHeartbeats 400000 in
theorem specCrc_any (a : Option Addr) (n c : Nat) (xs : List Int) (w : World) (hn : n ≤ 1048576) (h1 : Row w a n xs) (h8 : Bytes8 xs) :
    Calls Try.prog 24 #[.slice a n c] w fun e w' => e = .returned (.int .i64 (crcR xs)) ∧ w' = w := by
  have hl := h1.1
  by_cases h : 65536 < n
  · have HR := hide (show crcR xs = 0 by unfold crcR; rw [if_pos (by omega)])
    clear h1 h8 hl
    go_enter Try.func24, Try.ntmps24
    go_wp2_with fail
    go_ret
    exact ⟨ret_int (unhide HR).symm, rfl⟩
  · have HR := hide (show crcR xs = ((crcV xs : Nat) : Int) by unfold crcR; rw [if_neg (by omega)])
    have HC := hide (l03Crc_any a n c xs w hn h1 h8)
    clear h1 h8 hl
    go_enter Try.func24, Try.ntmps24
    go_wp2_with (go_at_call 66; refine (unhide HC).mono ?_; rintro e w1 ⟨rfl, rfl⟩)
    go_ret
    exact ⟨ret_int (unhide HR).symm, rfl⟩
end Go.Proofs.Ytocdbijmpecdgaa

namespace Go.Proofs.Ytocdbijmpecdgaa
open Go.RowKit

theorem l01In_i (p lo hi : Int) (w : World) : Calls Try.prog 96 #[.int .i64 p, .int .i64 lo, .int .i64 hi] w fun e w' => e = .returned (.bool (decide (lo ≤ p) && decide (p ≤ hi))) ∧ w' = w := by
  go_enter Try.func96, Try.ntmps96
  go_wp2_with fail
  all_goals go_ret
  all_goals exact ⟨ret_bool (by simp_all; try omega), rfl⟩
set_option maxHeartbeats 1000000 in
theorem l03Image_any (id : Int) (gone : Bool) (a : Option Addr) (n c : Nat) (w : World) (hn : n ≤ maxLen) :
    Calls Try.prog 79 #[iv id gone a n c] w fun e w' => e = .returned (.bool (imOK id gone n)) ∧ Below w.heap.size w w' := by
  unfold maxLen at hn
  have B0 : ∀ o, Below w.heap.size w (w.alloc o) := fun o => (Below.refl _ _).alloc (Nat.le_refl _) _
  by_cases h1 : 0 ≤ id ∧ id ≤ 1000
  · have hI : ∀ w, Calls Try.prog 96 #[.int .i64 id, .int .i64 0, .int .i64 1000] w fun e w' => e = .returned (.bool true) ∧ w' = w := fun w => by
      have := l01In_i id 0 1000 w
      rwa [decide_eq_true h1.1, decide_eq_true h1.2] at this
    have HI := hide hI
    clear hI
    cases gone
    all_goals
      go_enter Try.func79, Try.ntmps79
      go_wp2_with (go_at_call 96; refine (unhide HI _).mono ?_; rintro e w1 ⟨rfl, rfl⟩)
      all_goals go_ret
      all_goals exact ⟨ret_bool (by rw [Bool.eq_iff_iff]; simp_all [imOK]; try omega), B0 _⟩
  · have hI : ∀ w, Calls Try.prog 96 #[.int .i64 id, .int .i64 0, .int .i64 1000] w fun e w' => e = .returned (.bool false) ∧ w' = w := fun w => by
      have := l01In_i id 0 1000 w
      have e : (decide (0 ≤ id) && decide (id ≤ 1000)) = false := by rw [← Bool.decide_and]; exact decide_eq_false h1
      rwa [e] at this
    have HI := hide hI
    clear hI
    go_enter Try.func79, Try.ntmps79
    go_wp2_with (go_at_call 96; refine (unhide HI _).mono ?_; rintro e w1 ⟨rfl, rfl⟩)
    go_ret
    exact ⟨ret_bool (imOK_no (fun h => h1 ⟨h.1, h.2.1⟩)).symm, B0 _⟩
set_option maxRecDepth 100000 in
set_option maxHeartbeats 4000000 in
theorem l03Bytes_false (id : Int) (b off c : Nat) (xs : List Int) (w : World) (h : imOK id false xs.length = true) (h1 : Row w (some ⟨b, off, none⟩) xs.length xs) (h8 : Bytes8 xs) :
    Calls Try.prog 80 #[iv id false (some ⟨b, off, none⟩) xs.length c] w fun e w' => ∃ v, e = .returned v ∧ Owns w' w.heap.size v (imgL id false xs) ∧ v ≠ .slice none 0 0 ∧ Below w.heap.size w w' := by
  obtain ⟨i0, hi, hz0, hz1, hz2⟩ := info_parts Try.infoU8
  obtain ⟨g0, g1, g2, g3⟩ := of_decide_eq_true h
  clear g3
  have H8 := hide h8
  have R := hide h1
  clear h h1 h8
  have hb0 : Below w.heap.size w (w.alloc (.cells #[.int .i64 id, .bool false, .slice (some ⟨b, off, none⟩) xs.length c] 45)) := (Below.refl _ _).alloc (Nat.le_refl _) _
  have x0 : (w.alloc (.cells #[.int .i64 id, .bool false, .slice (some ⟨b, off, none⟩) xs.length c] 45)).cell? ⟨w.heap.size, 0, none⟩ = some (.int .i64 id) := (cell_new1 rfl).trans rfl
  have x1 : (w.alloc (.cells #[.int .i64 id, .bool false, .slice (some ⟨b, off, none⟩) xs.length c] 45)).cell? ⟨w.heap.size, 1, none⟩ = some (.bool false) := (cell_new1 rfl).trans rfl
  have x2 : (w.alloc (.cells #[.int .i64 id, .bool false, .slice (some ⟨b, off, none⟩) xs.length c] 45)).cell? ⟨w.heap.size, 2, none⟩ = some (.slice (some ⟨b, off, none⟩) xs.length c) := (cell_new1 rfl).trans rfl
  have hsz : (w.alloc (.cells #[.int .i64 id, .bool false, .slice (some ⟨b, off, none⟩) xs.length c] 45)).heap.size = w.heap.size + 1 := by simp
  have q1 : (xs.length : Int) / 256 % 256 = (xs.length : Int) / 256 := by omega
  have q2 : id / 256 % 256 = id / 256 := by omega
  have O0 : Owns ((w.alloc (.cells #[.int .i64 id, .bool false, .slice (some ⟨b, off, none⟩) xs.length c] 45)).alloc (.cells #[.int .u8 1, .int .u8 (id / 256), .int .u8 (id % 256), .int .u8 ((xs.length : Int) / 256), .int .u8 ((xs.length : Int) % 256)] 5)) (w.heap.size + 1) (.slice (some ⟨w.heap.size + 1, 0, none⟩) 5 5) [1, id / 256, id % 256, (xs.length : Int) / 256, (xs.length : Int) % 256] := by
    have := World.ownsRow_lit (base := w.heap.size + 1) (e := 5) (size := 1) (w.alloc (.cells #[.int .i64 id, .bool false, .slice (some ⟨b, off, none⟩) xs.length c] 45)) #[.int .u8 1, .int .u8 (id / 256), .int .u8 (id % 256), .int .u8 ((xs.length : Int) / 256), .int .u8 ((xs.length : Int) % 256)] 5 (by simp) (by unfold maxLen; simp) rfl
    rw [hsz] at this
    exact this
  have HO := hide O0
  have HBB := hide (hb0.alloc (by rw [hsz]; omega) (.cells #[.int .u8 1, .int .u8 (id / 256), .int .u8 (id % 256), .int .u8 ((xs.length : Int) / 256), .int .u8 ((xs.length : Int) % 256)] 5))
  clear O0
  clear hsz
  go_enter Try.func80, Try.ntmps80
  go_wp2_with (at_builtin; refine wpList_append_own _ rfl _ _ 22 rfl (w.heap.size + 1) 5 i0 (.int .u8 0) 1 1 Try.underlying22 hi hz0 hz1 hz2 rfl (by decide) _ 5 _ rfl (unhide HO) ⟨b, off, none⟩ xs.length c (xs.map (Value.int .u8)) rfl (by simp) (row_cells' (row_grow' (unhide R) (unhide HBB))) (all_u8 _) (by unfold maxLen; omega) (by omega) (by simp) ?_)
  intro v3 w3 hown3 hgrow3 hnil3
  have O3 : Owns w3 (w.heap.size + 1) v3 (imgH id false xs) := owns_apps (xs := [1, id / 256, id % 256, (xs.length : Int) / 256, (xs.length : Int) % 256]) rfl hown3
  have HB3 := hide ((unhide HBB).grown hgrow3 (by simp; omega) (fun k hk => by cases hk; simp))
  have hs3 : w.heap.size + 1 ≤ w3.heap.size := by have := hgrow3.size; simp at this; omega
  have hv3 : v3 ≠ .slice none 0 0 := fun e => by subst e; have := congrArg List.length (owns_nonnil O3); simp [imgH] at this
  obtain ⟨g, cap, rfl, hr3⟩ := owns_row O3 hv3
  have HH := hide (imgH_bytes (gone := false) (unhide H8) g0 (show id ≤ 65535 by omega) (show xs.length ≤ 65535 by omega))
  have hl3 : (imgH id false xs).length ≤ 2000 := by rw [imgH_length]; omega
  have HI := hide (show imgL id false xs = imgH id false xs ++ four (crcV (imgH id false xs)) from rfl)
  have hcv := crcV_lt (unhide HH)
  clear hown3 hgrow3 hnil3 HO HBB hv3 R x0 x1 x2 hb0 H8 q1 q2
  generalize imgH id false xs = ys at *
  have q3 : (crcV ys : Int) / 16777216 % 256 = (crcV ys : Int) / 16777216 := by omega
  go_wp2_with (first | (go_at_call 66; refine (l03Crc_any (some ⟨g, 0, none⟩) ys.length cap ys w3 (by omega) hr3 (unhide HH)).mono ?_; rintro e w4 ⟨rfl, rfl⟩) | (at_builtin; refine wpList_append_own _ rfl _ _ 22 rfl (w.heap.size + 1) 5 i0 (.int .u8 0) 1 1 Try.underlying22 hi hz0 hz1 hz2 rfl (by decide) _ ys.length _ rfl (World.ownsRow.alloc O3 _) ⟨w4.heap.size, 0, none⟩ 4 4 [.int .u8 ((crcV ys : Int) / 16777216), .int .u8 ((crcV ys : Int) / 65536 % 256), .int .u8 ((crcV ys : Int) / 256 % 256), .int .u8 ((crcV ys : Int) % 256)] rfl rfl cells_new (four_u8 _ _ _ _) (by unfold maxLen; omega) (by omega) (by simp; omega) ?_))
  intro v5 w5 hown5 hgrow5 hnil5
  have O5 := hide (owns_down (owns_app4 hown5) (show w.heap.size ≤ w.heap.size + 1 by omega))
  have B5 := hide (below_app (unhide HB3) (by omega) (owns_down O3 (show w.heap.size ≤ w.heap.size + 1 by omega)) hgrow5)
  have N5 := hide (show v5 ≠ .slice none 0 0 from hnil5)
  clear hown5 hgrow5 hnil5 O3 HB3 hr3
  go_wp2_with fail
  go_ret
  exact ⟨_, rfl, by rw [unhide HI]; exact unhide O5, unhide N5, unhide B5⟩
set_option maxRecDepth 100000 in
set_option maxHeartbeats 4000000 in
theorem l03Bytes_true (id : Int) (b off c : Nat) (xs : List Int) (w : World) (h : imOK id true xs.length = true) (h1 : Row w (some ⟨b, off, none⟩) xs.length xs) (h8 : Bytes8 xs) :
    Calls Try.prog 80 #[iv id true (some ⟨b, off, none⟩) xs.length c] w fun e w' => ∃ v, e = .returned v ∧ Owns w' w.heap.size v (imgL id true xs) ∧ v ≠ .slice none 0 0 ∧ Below w.heap.size w w' := by
  obtain ⟨i0, hi, hz0, hz1, hz2⟩ := info_parts Try.infoU8
  obtain ⟨g0, g1, g2, g3⟩ := of_decide_eq_true h
  clear g3
  have H8 := hide h8
  have R := hide h1
  clear h h1 h8
  have hb0 : Below w.heap.size w (w.alloc (.cells #[.int .i64 id, .bool true, .slice (some ⟨b, off, none⟩) xs.length c] 45)) := (Below.refl _ _).alloc (Nat.le_refl _) _
  have x0 : (w.alloc (.cells #[.int .i64 id, .bool true, .slice (some ⟨b, off, none⟩) xs.length c] 45)).cell? ⟨w.heap.size, 0, none⟩ = some (.int .i64 id) := (cell_new1 rfl).trans rfl
  have x1 : (w.alloc (.cells #[.int .i64 id, .bool true, .slice (some ⟨b, off, none⟩) xs.length c] 45)).cell? ⟨w.heap.size, 1, none⟩ = some (.bool true) := (cell_new1 rfl).trans rfl
  have x2 : (w.alloc (.cells #[.int .i64 id, .bool true, .slice (some ⟨b, off, none⟩) xs.length c] 45)).cell? ⟨w.heap.size, 2, none⟩ = some (.slice (some ⟨b, off, none⟩) xs.length c) := (cell_new1 rfl).trans rfl
  have hsz : (w.alloc (.cells #[.int .i64 id, .bool true, .slice (some ⟨b, off, none⟩) xs.length c] 45)).heap.size = w.heap.size + 1 := by simp
  have q1 : (xs.length : Int) / 256 % 256 = (xs.length : Int) / 256 := by omega
  have q2 : id / 256 % 256 = id / 256 := by omega
  have O0 : Owns ((w.alloc (.cells #[.int .i64 id, .bool true, .slice (some ⟨b, off, none⟩) xs.length c] 45)).alloc (.cells #[.int .u8 2, .int .u8 (id / 256), .int .u8 (id % 256), .int .u8 ((xs.length : Int) / 256), .int .u8 ((xs.length : Int) % 256)] 5)) (w.heap.size + 1) (.slice (some ⟨w.heap.size + 1, 0, none⟩) 5 5) [2, id / 256, id % 256, (xs.length : Int) / 256, (xs.length : Int) % 256] := by
    have := World.ownsRow_lit (base := w.heap.size + 1) (e := 5) (size := 1) (w.alloc (.cells #[.int .i64 id, .bool true, .slice (some ⟨b, off, none⟩) xs.length c] 45)) #[.int .u8 2, .int .u8 (id / 256), .int .u8 (id % 256), .int .u8 ((xs.length : Int) / 256), .int .u8 ((xs.length : Int) % 256)] 5 (by simp) (by unfold maxLen; simp) rfl
    rw [hsz] at this
    exact this
  have HO := hide O0
  have HBB := hide (hb0.alloc (by rw [hsz]; omega) (.cells #[.int .u8 2, .int .u8 (id / 256), .int .u8 (id % 256), .int .u8 ((xs.length : Int) / 256), .int .u8 ((xs.length : Int) % 256)] 5))
  clear O0
  clear hsz
  go_enter Try.func80, Try.ntmps80
  go_wp2_with (at_builtin; refine wpList_append_own _ rfl _ _ 22 rfl (w.heap.size + 1) 5 i0 (.int .u8 0) 1 1 Try.underlying22 hi hz0 hz1 hz2 rfl (by decide) _ 5 _ rfl (unhide HO) ⟨b, off, none⟩ xs.length c (xs.map (Value.int .u8)) rfl (by simp) (row_cells' (row_grow' (unhide R) (unhide HBB))) (all_u8 _) (by unfold maxLen; omega) (by omega) (by simp) ?_)
  intro v3 w3 hown3 hgrow3 hnil3
  have O3 : Owns w3 (w.heap.size + 1) v3 (imgH id true xs) := owns_apps (xs := [2, id / 256, id % 256, (xs.length : Int) / 256, (xs.length : Int) % 256]) rfl hown3
  have HB3 := hide ((unhide HBB).grown hgrow3 (by simp; omega) (fun k hk => by cases hk; simp))
  have hs3 : w.heap.size + 1 ≤ w3.heap.size := by have := hgrow3.size; simp at this; omega
  have hv3 : v3 ≠ .slice none 0 0 := fun e => by subst e; have := congrArg List.length (owns_nonnil O3); simp [imgH] at this
  obtain ⟨g, cap, rfl, hr3⟩ := owns_row O3 hv3
  have HH := hide (imgH_bytes (gone := true) (unhide H8) g0 (show id ≤ 65535 by omega) (show xs.length ≤ 65535 by omega))
  have hl3 : (imgH id true xs).length ≤ 2000 := by rw [imgH_length]; omega
  have HI := hide (show imgL id true xs = imgH id true xs ++ four (crcV (imgH id true xs)) from rfl)
  have hcv := crcV_lt (unhide HH)
  clear hown3 hgrow3 hnil3 HO HBB hv3 R x0 x1 x2 hb0 H8 q1 q2
  generalize imgH id true xs = ys at *
  have q3 : (crcV ys : Int) / 16777216 % 256 = (crcV ys : Int) / 16777216 := by omega
  go_wp2_with (first | (go_at_call 66; refine (l03Crc_any (some ⟨g, 0, none⟩) ys.length cap ys w3 (by omega) hr3 (unhide HH)).mono ?_; rintro e w4 ⟨rfl, rfl⟩) | (at_builtin; refine wpList_append_own _ rfl _ _ 22 rfl (w.heap.size + 1) 5 i0 (.int .u8 0) 1 1 Try.underlying22 hi hz0 hz1 hz2 rfl (by decide) _ ys.length _ rfl (World.ownsRow.alloc O3 _) ⟨w4.heap.size, 0, none⟩ 4 4 [.int .u8 ((crcV ys : Int) / 16777216), .int .u8 ((crcV ys : Int) / 65536 % 256), .int .u8 ((crcV ys : Int) / 256 % 256), .int .u8 ((crcV ys : Int) % 256)] rfl rfl cells_new (four_u8 _ _ _ _) (by unfold maxLen; omega) (by omega) (by simp; omega) ?_))
  intro v5 w5 hown5 hgrow5 hnil5
  have O5 := hide (owns_down (owns_app4 hown5) (show w.heap.size ≤ w.heap.size + 1 by omega))
  have B5 := hide (below_app (unhide HB3) (by omega) (owns_down O3 (show w.heap.size ≤ w.heap.size + 1 by omega)) hgrow5)
  have N5 := hide (show v5 ≠ .slice none 0 0 from hnil5)
  clear hown5 hgrow5 hnil5 O3 HB3 hr3
  go_wp2_with fail
  go_ret
  exact ⟨_, rfl, by rw [unhide HI]; exact unhide O5, unhide N5, unhide B5⟩
theorem l03Bytes_any0 (id : Int) (gone : Bool) (b off c : Nat) (xs : List Int) (w : World) (h : imOK id gone xs.length = true) (h1 : Row w (some ⟨b, off, none⟩) xs.length xs) (h8 : Bytes8 xs) :
    Calls Try.prog 80 #[iv id gone (some ⟨b, off, none⟩) xs.length c] w fun e w' => ∃ v, e = .returned v ∧ Owns w' w.heap.size v (imgL id gone xs) ∧ v ≠ .slice none 0 0 ∧ Below w.heap.size w w' := by
  cases gone
  · exact l03Bytes_false id b off c xs w h h1 h8
  · exact l03Bytes_true id b off c xs w h h1 h8
theorem l03Bytes_any (id : Int) (gone : Bool) (b off c : Nat) (xs : List Int) (w : World) (_ : xs.length ≤ c) (h : imOK id gone xs.length = true) (h1 : Row w (some ⟨b, off, none⟩) xs.length xs) (h8 : Bytes8 xs) :
    Calls Try.prog 80 #[iv id gone (some ⟨b, off, none⟩) xs.length c] w fun e w' => ∃ v, e = .returned v ∧ Owns w' w.heap.size v (imgL id gone xs) ∧ v ≠ .slice none 0 0 ∧ Below w.heap.size w w' := l03Bytes_any0 id gone b off c xs w h h1 h8
end Go.Proofs.Ytocdbijmpecdgaa

namespace Go.Proofs.Ytocdbijmpecdgaa
open Go.RowKit

theorem imageBytes_any0 (id : Int) (gone : Bool) (b off c : Nat) (xs : List Int) (w : World) (h : imOK id gone xs.length = true) (h1 : Row w (some ⟨b, off, none⟩) xs.length xs) (h8 : Bytes8 xs) :
    Calls Try.prog 58 #[iv id gone (some ⟨b, off, none⟩) xs.length c] w fun e w' => ∃ v, e = .returned v ∧ Owns w' w.heap.size v (imgL id gone xs) ∧ v ≠ .slice none 0 0 ∧ Below w.heap.size w w' := by
  cases gone
  · exact imageBytes_false id b off c xs w h h1 h8
  · exact imageBytes_true id b off c xs w h h1 h8
theorem imageBytes_any (id : Int) (gone : Bool) (b off c : Nat) (xs : List Int) (w : World) (_ : xs.length ≤ c) (h : imOK id gone xs.length = true) (h1 : Row w (some ⟨b, off, none⟩) xs.length xs) (h8 : Bytes8 xs) :
    Calls Try.prog 58 #[iv id gone (some ⟨b, off, none⟩) xs.length c] w fun e w' => ∃ v, e = .returned v ∧ Owns w' w.heap.size v (imgL id gone xs) ∧ v ≠ .slice none 0 0 ∧ Below w.heap.size w w' := imageBytes_any0 id gone b off c xs w h h1 h8
set_option maxHeartbeats 1000000 in
theorem implImageBytes_any (id : Int) (gone : Bool) (b off c : Nat) (xs : List Int) (w : World) (hn : xs.length ≤ 1048576) (hc : xs.length ≤ c) (h1 : Row w (some ⟨b, off, none⟩) xs.length xs) (h8 : Bytes8 xs) :
    Calls Try.prog 17 #[iv id gone (some ⟨b, off, none⟩) xs.length c] w fun e w' => ∃ a cap, e = .returned (.tuple #[.slice a (ibL id gone xs).length cap, .int .i64 (ibC id gone xs)]) ∧ Mine w' w.heap.size (.slice a (ibL id gone xs).length cap) (ibL id gone xs) ∧ Below w.heap.size w w' := by
  have R := hide h1
  have H8 := hide h8
  have HO := hide (fun w => imageOK_any id gone (some ⟨b, off, none⟩) xs.length c w (by unfold maxLen; omega))
  have B0 := hide (fun o => (Below.refl w.heap.size w).alloc (Nat.le_refl _) o)
  clear h1 h8
  by_cases h : imOK id gone xs.length = true
  · have HE := hide (show ibL id gone xs = imgL id gone xs ∧ ibC id gone xs = 0 by unfold ibL ibC; rw [h]; exact ⟨rfl, rfl⟩)
    have HC := hide (fun w' (hb : Below w.heap.size w w') => imageBytes_any id gone b off c xs w' hc h (row_grow' (unhide R) hb) (unhide H8))
    rw [h] at HO
    clear h
    go_enter Try.func17, Try.ntmps17
    go_wp2_with fail
    refine (unhide HO _).mono ?_
    rintro e w1 ⟨rfl, hb1⟩
    have B1 : Below w.heap.size w w1 := (unhide B0 _).trans (hb1.mono (by simp))
    have y0 : w1.cell? ⟨w.heap.size, 0, none⟩ = some (.int .i64 id) := (hb1.cell (p := ⟨w.heap.size, 0, none⟩) (by simp)).trans ((cell_new1 rfl).trans rfl)
    have y1 : w1.cell? ⟨w.heap.size, 1, none⟩ = some (.bool gone) := (hb1.cell (p := ⟨w.heap.size, 1, none⟩) (by simp)).trans ((cell_new1 rfl).trans rfl)
    have y2 : w1.cell? ⟨w.heap.size, 2, none⟩ = some (.slice (some ⟨b, off, none⟩) xs.length c) := (hb1.cell (p := ⟨w.heap.size, 2, none⟩) (by simp)).trans ((cell_new1 rfl).trans rfl)
    have hs1 := B1.size
    clear hb1 HO
    go_wp2_with fail
    refine (unhide HC _ B1).mono ?_
    rintro e w2 ⟨v, rfl, ho, hv, hb2⟩
    obtain ⟨g, cap, rfl, _⟩ := owns_row ho hv
    have M2 := hide (mine_mono (mine_of_owns ho) hs1)
    have B2 := hide (B1.trans (hb2.mono hs1))
    clear ho hv hb2 HC
    go_wp2_with fail
    go_ret2
    rw [(unhide HE).1, (unhide HE).2]
    exact ⟨_, _, rfl, unhide M2, unhide B2⟩
  · have h : imOK id gone xs.length = false := by simpa using h
    have HE := hide (show ibL id gone xs = [] ∧ ibC id gone xs = 1 by unfold ibL ibC; rw [h]; exact ⟨rfl, rfl⟩)
    rw [h] at HO
    clear h
    go_enter Try.func17, Try.ntmps17
    go_wp2_with fail
    refine (unhide HO _).mono ?_
    rintro e w1 ⟨rfl, hb1⟩
    have B1 : Below w.heap.size w w1 := (unhide B0 _).trans (hb1.mono (by simp))
    have y0 : w1.cell? ⟨w.heap.size, 0, none⟩ = some (.int .i64 id) := (hb1.cell (p := ⟨w.heap.size, 0, none⟩) (by simp)).trans ((cell_new1 rfl).trans rfl)
    have y1 : w1.cell? ⟨w.heap.size, 1, none⟩ = some (.bool gone) := (hb1.cell (p := ⟨w.heap.size, 1, none⟩) (by simp)).trans ((cell_new1 rfl).trans rfl)
    have y2 : w1.cell? ⟨w.heap.size, 2, none⟩ = some (.slice (some ⟨b, off, none⟩) xs.length c) := (hb1.cell (p := ⟨w.heap.size, 2, none⟩) (by simp)).trans ((cell_new1 rfl).trans rfl)
    have hs1 := B1.size
    clear hb1 HO
    go_wp2_with fail
    go_ret2
    rw [(unhide HE).1, (unhide HE).2]
    exact ⟨none, 0, rfl, mine_nil _ _, B1⟩
end Go.Proofs.Ytocdbijmpecdgaa

namespace Go.Proofs.Ytocdbijmpecdgaa
open Go.RowKit

/-- What imageAt gives. -/
def ImRes (xs : List Int) (p : Nat) (w : World) (e : Ending) (w' : World) : Prop :=
  (nextI xs p = none ∧ e = .returned (.tuple #[iv 0 false none 0 0, .int .i64 0, .bool false]) ∧ Below w.heap.size w w') ∨
  ∃ x g cap, nextI xs p = some x ∧ e = .returned (.tuple #[iv x.id x.gone (some ⟨g, 0, none⟩) x.xs.length cap, .int .i64 ((p + 9 + x.xs.length : Nat) : Int), .bool true]) ∧ Owns w' w.heap.size (.slice (some ⟨g, 0, none⟩) x.xs.length cap) x.xs ∧ Below w.heap.size w w'
/-- The image in a box, its bytes in a row of their own. -/
structure ImBox (W : World) (B xb g cp : Nat) (X : ImD) (wc : World) : Prop where
  box : wc.heap[xb]? = some (.cells #[.int .i64 X.id, .bool X.gone, .slice (some ⟨g, 0, none⟩) X.xs.length cp] 45 (0, 0))
  own : Owns wc B (.slice (some ⟨g, 0, none⟩) X.xs.length cp) X.xs
  ne : g ≠ xb
  ge : B ≤ xb
  bel : Below B W wc
theorem sc_set3 {w : World} {b : Nat} {x y z : Value} {t : TypeId} (h : w.heap[b]? = some (.cells #[x, y, z] t (0, 0))) (u v r : Value) : (((w.setCell ⟨b, 0, none⟩ u).setCell ⟨b, 1, none⟩ v).setCell ⟨b, 2, none⟩ r).heap[b]? = some (.cells #[u, v, r] t (0, 0)) := by
  rw [heap_set (heap_set (heap_set h 0 u) 1 v) 2 r]
  rfl
theorem sc_owns_set {w : World} {B b g n c j : Nat} {xs : List Int} (h : Owns w B (.slice (some ⟨g, 0, none⟩) n c) xs) (hne : g ≠ b) (v : Value) : Owns (w.setCell ⟨b, j, none⟩ v) B (.slice (some ⟨g, 0, none⟩) n c) xs :=
  ownsRow_heap h (fun k hk => by
    have : k = g := by simpa [Value.ownBlock] using hk.symm
    subst this
    exact Below.heap_setCell _ _ _ _ hne)
theorem ImBox.of_store {W : World} {B xb g cp : Nat} {X : ImD} {w : World} {t : Value} (hk : w.heap[xb]? = some (.cells #[.int .i64 0, .bool false, t] 45 (0, 0))) (ho : Owns w B (.slice (some ⟨g, 0, none⟩) X.xs.length cp) X.xs) (hne : g ≠ xb) (hge : B ≤ xb) (hb : Below B W w) :
    ImBox W B xb g cp X (((w.setCell ⟨xb, 0, none⟩ (.int .i64 X.id)).setCell ⟨xb, 1, none⟩ (.bool X.gone)).setCell ⟨xb, 2, none⟩ (.slice (some ⟨g, 0, none⟩) X.xs.length cp)) :=
  ⟨sc_set3 hk _ _ _, sc_owns_set (sc_owns_set (sc_owns_set ho hne _) hne _) hne _, hne, hge, ((hb.setCell (p := ⟨xb, 0, none⟩) hge _).setCell (p := ⟨xb, 1, none⟩) hge _).setCell (p := ⟨xb, 2, none⟩) hge _⟩
theorem ImBox.of_new {W : World} {B g cp : Nat} {X : ImD} {w : World} (ho : Owns w B (.slice (some ⟨g, 0, none⟩) X.xs.length cp) X.xs) (hb : Below B W w) :
    ImBox W B w.heap.size g cp X (w.alloc (.cells #[.int .i64 X.id, .bool X.gone, .slice (some ⟨g, 0, none⟩) X.xs.length cp] 45)) :=
  ⟨heap_alloc_new _ _, owns_below ho ((Below.refl _ _).alloc (Nat.le_refl _) _), fun e => by have := (ho.lt g rfl).2; omega, by have := ho.lt g rfl; omega, hb.alloc (by have := ho.lt g rfl; omega) _⟩
theorem sc_at_below {w w' : World} {b : Nat} {o : Obj} (h : w.heap[b]? = some o) (hb : Below w.heap.size w w') : w'.heap[b]? = some o := (hb.block b (Array.getElem?_eq_some_iff.1 h).1).trans h
theorem sc_g {w : World} {B g n c : Nat} {xs : List Int} (h : Owns w B (.slice (some ⟨g, 0, none⟩) n c) xs) : B ≤ g ∧ g < w.heap.size := h.lt g rfl
theorem sc_down {w : World} {B C : Nat} {v : Value} {xs : List Int} (h : Owns w B v xs) (hc : C ≤ B) : Owns w C v xs := by
  refine ⟨h.1, ?_⟩
  rcases h.2 with h | ⟨g, cap, cur, e, hb, r⟩
  · exact .inl h
  · exact .inr ⟨g, cap, cur, e, Nat.le_trans hc hb, r⟩
set_option maxRecDepth 100000 in
set_option maxHeartbeats 8000000 in
theorem imageAt_any (a : Option Addr) (n c p : Nat) (xs : List Int) (w : World) (hR : Row w a n xs) (h8 : Bytes8 xs) (hp : p ≤ n) (hn : n ≤ 65536) (hc : n ≤ c) (hc2 : c ≤ maxLen) (ha : a = none → c = 0) :
    Calls Try.prog 120 #[.slice a n c, .int .i64 (p : Int)] w fun e w' => ImRes xs p w e w' := by
  unfold maxLen at hc2
  obtain rfl := hR.1
  have b0 : Below w.heap.size w (w.alloc (.cells #[.int .i64 0, .bool false, .slice none 0 0] 45)) := (Below.refl _ _).alloc (Nat.le_refl _) _
  have KR := hide (heap_alloc_new w (.cells #[.int .i64 0, .bool false, .slice none 0 0] 45))
  have zs : (w.alloc (.cells #[.int .i64 0, .bool false, .slice none 0 0] 45)).heap.size = w.heap.size + 1 := by simp
  have q3 : w.heap.size ≤ w.heap.size := Nat.le_refl _
  have RR := hide (row_grow' hR b0)
  have HB := hide h8
  have SB : ∀ u : World, Below w.heap.size w u → Below w.heap.size w (((u.setCell ⟨w.heap.size, 0, none⟩ (.int .i64 0)).setCell ⟨w.heap.size, 1, none⟩ (.bool false)).setCell ⟨w.heap.size, 2, none⟩ (.slice none 0 0)) := fun u hu => ((hu.setCell (p := ⟨w.heap.size, 0, none⟩) q3 _).setCell (p := ⟨w.heap.size, 1, none⟩) q3 _).setCell (p := ⟨w.heap.size, 2, none⟩) q3 _
  have NO := hide (show ∀ u : World, nextI xs p = none → Below w.heap.size w u → ImRes xs p w (.returned (.tuple #[iv 0 false none 0 0, .int .i64 0, .bool false])) u from fun u h hu => .inl ⟨h, rfl, hu⟩)
  by_cases h5 : ¬ (p + 5 ≤ xs.length)
  · have g5 : (xs.length : Int) - (p : Int) < 5 := by omega
    have wr1 : IntKind.i64.wrap ((xs.length : Int) - (p : Int)) = (xs.length : Int) - (p : Int) := by rw [IntKind.wrap_i64]; omega
    have NN := hide (next_no (b := xs) (p := p) (fun h => h5 h.1))
    clear hR h8 RR HB
    go_enter Try.func120, Try.ntmps120
    go_wp2_with fail
    generalize w.alloc (.cells #[.int .i64 0, .bool false, .slice none 0 0] 45) = W at *
    have y0 : W.cell? ⟨w.heap.size, 0, none⟩ = some (.int .i64 0) := (heap_at (unhide KR) 0).1
    have y1 : W.cell? ⟨w.heap.size, 1, none⟩ = some (.bool false) := (heap_at (unhide KR) 1).1
    have y2 : W.cell? ⟨w.heap.size, 2, none⟩ = some (.slice none 0 0) := (heap_at (unhide KR) 2).1
    have f0 : W.frozen? ⟨w.heap.size, 0, none⟩ = false := (heap_at (unhide KR) 0).2
    have f1 : W.frozen? ⟨w.heap.size, 1, none⟩ = false := (heap_at (unhide KR) 1).2
    have f2 : W.frozen? ⟨w.heap.size, 2, none⟩ = false := (heap_at (unhide KR) 2).2
    go_wp2_with fail
    refine bodyPost_ret (v := .tuple #[iv 0 false none 0 0, .int .i64 0, .bool false]) (by unfold iv; simp [results, Try.results120, go_sem, *] <;> rfl) rfl ?_
    first | exact unhide NO _ (unhide NN) b0 | exact unhide NO _ (unhide NN) (SB _ b0)
  replace h5 := Decidable.not_not.1 h5
  have g5 : ¬ ((xs.length : Int) - (p : Int) < 5) := by omega
  have wr1 : IntKind.i64.wrap ((xs.length : Int) - (p : Int)) = (xs.length : Int) - (p : Int) := by rw [IntKind.wrap_i64]; omega
  have wr2 : IntKind.i64.wrap ((p : Int) + 3) = (p : Int) + 3 := by rw [IntKind.wrap_i64]; omega
  have wr3 : IntKind.i64.wrap ((p : Int) + 5) = (p : Int) + 5 := by rw [IntKind.wrap_i64]; omega
  have T3 := hide (show ∀ u, Below w.heap.size w u → Calls Try.prog 125 #[.slice a xs.length c, .int .i64 ((p : Int) + 3)] u fun e w' => e = .returned (.int .i64 (lenAt xs p : Int)) ∧ Below u.heap.size u w' from fun u hu => (scTwo_any a xs.length c (p + 3) xs u (row_grow' hR hu) h8 (by omega) (by omega)).mono fun e w' h => ⟨by rw [h.1, lenAt_eq h8], h.2⟩)
  have T1 := hide (show ∀ u, Below w.heap.size w u → Calls Try.prog 125 #[.slice a xs.length c, .int .i64 ((p : Int) + 1)] u fun e w' => e = .returned (.int .i64 (imAt xs p).id) ∧ Below u.heap.size u w' from fun u hu => (scTwo_any a xs.length c (p + 1) xs u (row_grow' hR hu) h8 (by omega) (by omega)).mono fun e w' h => ⟨h.1, h.2⟩)
  have LE := lenAt_le h8 p
  have IMA := hide (show imAt xs p = imAt xs p from rfl)
  go_enter Try.func120, Try.ntmps120
  go_wp2_with fail
  refine (unhide T3 _ b0).mono ?_
  rintro e w1 ⟨rfl, hb1⟩
  have B1 := b0.trans (hb1.mono b0.size)
  have K1 := hide (sc_at_below (unhide KR) hb1)
  have z1 : w.heap.size < w1.heap.size := by have := hb1.size; omega
  clear T3 KR hb1 RR
  generalize w.alloc (.cells #[.int .i64 0, .bool false, .slice none 0 0] 45) = W at *
  by_cases h6 : ¬ (p + 5 + lenAt xs p ≤ xs.length)
  · have NN := hide (next_no (b := xs) (p := p) (fun h => h6 h.2.1))
    generalize lenAt xs p = sz at *
    have g6 : (xs.length : Int) - ((p : Int) + 5) < (sz : Int) := by omega
    have wr4 : IntKind.i64.wrap ((xs.length : Int) - ((p : Int) + 5)) = (xs.length : Int) - ((p : Int) + 5) := by rw [IntKind.wrap_i64]; omega
    clear hR h8 HB T1 IMA
    have y0 : w1.cell? ⟨w.heap.size, 0, none⟩ = some (.int .i64 0) := (heap_at (unhide K1) 0).1
    have y1 : w1.cell? ⟨w.heap.size, 1, none⟩ = some (.bool false) := (heap_at (unhide K1) 1).1
    have y2 : w1.cell? ⟨w.heap.size, 2, none⟩ = some (.slice none 0 0) := (heap_at (unhide K1) 2).1
    have f0 : w1.frozen? ⟨w.heap.size, 0, none⟩ = false := (heap_at (unhide K1) 0).2
    have f1 : w1.frozen? ⟨w.heap.size, 1, none⟩ = false := (heap_at (unhide K1) 1).2
    have f2 : w1.frozen? ⟨w.heap.size, 2, none⟩ = false := (heap_at (unhide K1) 2).2
    go_wp2_with fail
    refine bodyPost_ret (v := .tuple #[iv 0 false none 0 0, .int .i64 0, .bool false]) (by unfold iv; simp [results, Try.results120, go_sem, *] <;> rfl) rfl ?_
    exact unhide NO _ (unhide NN) (SB _ B1)
  replace h6 := Decidable.not_not.1 h6
  have XL := imAt_len h6
  have XB := hide (imAt_bytes h8 p)
  have XI := imAt_id h8 p
  have NY := hide (fun h3 h4 => next_yes (b := xs) (p := p) h5 h6 h3 h4)
  have NN3 := hide (show (imAt xs p).ok = false → nextI xs p = none from fun h3 => next_no (fun h => by rw [h3] at h; exact absurd h.2.2.1 (by decide)))
  have NN4 := hide (show ¬ (xs.drop p).take ((imAt xs p).xs.length + 9) = (imAt xs p).by → nextI xs p = none from fun h3 => next_no (fun h => h3 (by rw [XL]; exact h.2.2.2)))
  have NY4 := hide (show (imAt xs p).ok = true → (xs.drop p).take ((imAt xs p).xs.length + 9) = (imAt xs p).by → nextI xs p = some (imAt xs p) from fun h3 h4 => unhide NY h3 (by rw [XL] at h4; exact h4))
  obtain ⟨b, off, rfl, _⟩ := hR.2 0 (by omega)
  have XR := hide (show ∀ u, Below w.heap.size w u → Row u (some ⟨b, off + (p + 5), none⟩) (imAt xs p).xs.length (imAt xs p).xs from fun u hu => by
    rw [XL]
    exact sc_row_take (sc_row_drop (row_grow' hR hu) (p + 5)) (by omega))
  have XP := hide (show ∀ u, Below w.heap.size w u → Row u (some ⟨b, off + p, none⟩) (xs.length - p) (xs.drop p) from fun u hu => sc_row_drop (row_grow' hR hu) p)
  have XM := hide (show ∀ u, Below w.heap.size w u → u.cell? ⟨b, off + p, none⟩ = some (.int .u8 (xs.getD p 0)) from fun u hu => by
    obtain ⟨b', off', e, hcell⟩ := (row_grow' hR hu).2 p (by omega)
    cases e
    exact hcell)
  have XG := hide (show (imAt xs p).gone = decide (xs.getD p 0 = 2) from rfl)
  have HD := hide (show Bytes8 (xs.drop p) from by have := bytes8_drop h8 p xs.length; rwa [List.take_of_length_le (by simp)] at this)
  obtain ⟨X, hX⟩ : ∃ X, X = imAt xs p := ⟨_, rfl⟩
  rw [← hX] at T1 XL XB XI NY NN3 NN4 NY4 XR XG
  generalize lenAt xs p = sz at *
  subst XL
  clear IMA hX NY HB hR h8
  generalize hm : xs.getD p 0 = mk at *
  have hq : ∀ i : Nat, i = xs.length → i = xs.length := fun _ h => h
  generalize hnn : xs.length = n at *
  have g6 : ¬ ((n : Int) - ((p : Int) + 5) < (X.xs.length : Int)) := by omega
  have wr4 : IntKind.i64.wrap ((n : Int) - ((p : Int) + 5)) = (n : Int) - ((p : Int) + 5) := by rw [IntKind.wrap_i64]; omega
  have wr5 : IntKind.i64.wrap ((p : Int) + 1) = (p : Int) + 1 := by rw [IntKind.wrap_i64]; omega
  have wr6 : IntKind.i64.wrap ((p : Int) + 5 + (X.xs.length : Int)) = (p : Int) + 5 + (X.xs.length : Int) := by rw [IntKind.wrap_i64]; omega
  have hgx : (mk == 2) = X.gone := (unhide XG).symm
  have i0 : (0 : Int) ≤ (p : Int) := by omega
  have i1 : (p : Int) < (n : Int) := by omega
  have i2 : (0 : Int) ≤ (p : Int) + 5 := by omega
  have i3 : (p : Int) + 5 ≤ (p : Int) + 5 + (X.xs.length : Int) := by omega
  have i4 : (p : Int) + 5 + (X.xs.length : Int) ≤ (c : Int) := by omega
  have i4' : (0 : Int) ≤ (p : Int) + 5 + (X.xs.length : Int) := by omega
  have i5 : ((p : Int) + 5).toNat = p + 5 := by omega
  have i6 : ((p : Int) + 5 + (X.xs.length : Int)).toNat = p + 5 + X.xs.length := by omega
  have i7 : p + 5 + X.xs.length - (p + 5) = X.xs.length := by omega
  have i9 : max ((p : Int) + 5 + (X.xs.length : Int)) 0 = (p : Int) + 5 + (X.xs.length : Int) := by omega
  obtain ⟨so, hso, hsr⟩ : ∃ so : Nat, (if c = p + 5 then some (⟨b, off, none⟩ : Addr) else some ⟨b, off + (p + 5), none⟩) = some ⟨b, so, none⟩ ∧ ∀ u, Below w.heap.size w u → Row u (some ⟨b, so, none⟩) X.xs.length X.xs := by
    by_cases hcp : c = p + 5
    · refine ⟨off, if_pos hcp, fun u hu => ?_⟩
      have h0 : X.xs.length = 0 := by omega
      exact ⟨rfl, fun i hi => absurd hi (by omega)⟩
    · exact ⟨off + (p + 5), if_neg hcp, unhide XR⟩
  have XS := hide hsr
  clear hsr
  go_upto_region 7 with fail
  go_cut [9] (fun v wc => ∃ xb g cp, v = .pointer (some ⟨xb, 0, none⟩) ∧ Hid (ImBox w1 w1.heap.size xb g cp X wc))
  case first =>
    have SK := hide (show ∀ u, Below w1.heap.size w1 u → (fun u => Below w1.heap.size w1 u ∧ u.cell? ⟨b, off + p, none⟩ = some (.int .u8 mk)) u from fun u hu => ⟨hu, unhide XM u (B1.trans (hu.mono B1.size))⟩)
    have CL := hide (show ∀ u, Below w1.heap.size w1 u → Calls Try.prog 95 #[.slice (some ⟨b, so, none⟩) X.xs.length (c - (p + 5))] u fun e w' => ∃ g cap, e = .returned (.slice (some ⟨g, 0, none⟩) X.xs.length cap) ∧ Owns w' u.heap.size (.slice (some ⟨g, 0, none⟩) X.xs.length cap) X.xs ∧ Below u.heap.size u w' from fun u hu => clone_any b so X.xs.length _ X.xs u (unhide XS u (B1.trans (hu.mono B1.size))) (by omega))
    have D0 := hide (show Below w1.heap.size w1 w1.drew from (Below.refl _ _).drew)
    refine wp_region_held_drew (S := (fun u => Below w1.heap.size w1 u ∧ u.cell? ⟨b, off + p, none⟩ = some (.int .u8 mk))) (by kernel_rfl) (unhide SK _ (unhide D0)) (fun hHeld => ?_)
    refine anyH_take 0 30 (v := ?v1) rfl rfl (by kernel_rfl) (by kernel_rfl) (by kernel_rfl) (fun _ _ _ h => h) (by rfl) ?h1 hHeld ?r1
    case h1 => (intro w hSw; (try dsimp only at hSw); go_simp; try (with_reducible rfl))
    simp only [Act.put, List.setIfInBounds_toArray, List.set_cons_zero, List.set_cons_succ]
    refine anyH_take 1 31 (v := ?v2) rfl rfl (by kernel_rfl) (by kernel_rfl) (by kernel_rfl) (fun _ _ _ h => h) (by rfl) ?h2 hHeld ?r2
    case h2 => (intro w hSw; (try dsimp only at hSw); go_simp; try (with_reducible rfl))
    simp only [Act.put, List.setIfInBounds_toArray, List.set_cons_zero, List.set_cons_succ]
    refine anyH_take 2 32 (v := ?v3) rfl rfl (by kernel_rfl) (by kernel_rfl) (by kernel_rfl) (fun _ _ _ h => h) (by rfl) ?h3 hHeld ?r3
    case h3 => (intro w hSw; (try dsimp only at hSw); go_simp; try (with_reducible rfl))
    simp only [Act.put, List.setIfInBounds_toArray, List.set_cons_zero, List.set_cons_succ]
    refine anyH_take 4 34 (v := ?v4) rfl rfl (by kernel_rfl) (by kernel_rfl) (by kernel_rfl) (fun _ _ _ h => h) (by rfl) ?h4 hHeld ?r4
    case h4 => (intro w hSw; (try dsimp only at hSw); go_simp; try (with_reducible rfl))
    simp only [Act.put, List.setIfInBounds_toArray, List.set_cons_zero, List.set_cons_succ]
    refine anyH_take 5 35 (v := ?v5) rfl rfl (by kernel_rfl) (by kernel_rfl) (by kernel_rfl) (fun _ _ _ h => h) (by rfl) ?h5 hHeld ?r5
    case h5 => (intro w hSw; (try dsimp only at hSw); go_simp; try (with_reducible rfl))
    simp only [Act.put, List.setIfInBounds_toArray, List.set_cons_zero, List.set_cons_succ]
    refine anyH_take 6 36 (v := ?v6) rfl rfl (by kernel_rfl) (by kernel_rfl) (by kernel_rfl) (fun _ _ _ h => h) (by rfl) ?h6 hHeld ?r6
    case h6 => (intro w hSw; (try dsimp only at hSw); go_simp; try (with_reducible rfl))
    simp only [Act.put, List.setIfInBounds_toArray, List.set_cons_zero, List.set_cons_succ]
    refine anyH_take 7 37 (v := ?v7) rfl rfl (by kernel_rfl) (by kernel_rfl) (by kernel_rfl) (fun _ _ _ h => h) (by rfl) ?h7 hHeld ?r7
    case h7 => (intro w hSw; (try dsimp only at hSw); go_simp; try (with_reducible rfl))
    simp only [Act.put, List.setIfInBounds_toArray, List.set_cons_zero, List.set_cons_succ]
    refine anyH_take 8 38 (v := ?v8) rfl rfl (by kernel_rfl) (by kernel_rfl) (by kernel_rfl) (fun _ _ _ h => h) (by rfl) ?h8 hHeld ?r8
    case h8 => (intro w hSw; (try dsimp only at hSw); go_simp; try (with_reducible rfl))
    simp only [Act.put, List.setIfInBounds_toArray, List.set_cons_zero, List.set_cons_succ]
    refine anyH_take 9 39 (v := ?v9) rfl rfl (by kernel_rfl) (by kernel_rfl) (by kernel_rfl) (fun _ _ _ h => h) (by rfl) ?h9 hHeld ?r9
    case h9 => (intro w hSw; (try dsimp only at hSw); go_simp; try (with_reducible rfl))
    simp only [Act.put, List.setIfInBounds_toArray, List.set_cons_zero, List.set_cons_succ]
    refine anyH_take 10 40 (v := ?v10) rfl rfl (by kernel_rfl) (by kernel_rfl) (by kernel_rfl) (fun _ _ _ h => h) (by rfl) ?h10 hHeld ?r10
    case h10 => (intro w hSw; (try dsimp only at hSw); go_simp; try (with_reducible rfl))
    simp only [Act.put, List.setIfInBounds_toArray, List.set_cons_zero, List.set_cons_succ]
    refine anyH_take 11 41 (v := ?v11) rfl rfl (by kernel_rfl) (by kernel_rfl) (by kernel_rfl) (fun _ _ _ h => h) (by rfl) ?h11 hHeld ?r11
    case h11 => (intro w hSw; (try dsimp only at hSw); go_simp; try (with_reducible rfl))
    simp only [Act.put, List.setIfInBounds_toArray, List.set_cons_zero, List.set_cons_succ]
    refine anyH_take 12 42 (v := ?v12) rfl rfl (by kernel_rfl) (by kernel_rfl) (by kernel_rfl) (fun _ _ _ h => h) (by rfl) ?h12 hHeld ?r12
    case h12 => (intro w hSw; (try dsimp only at hSw); go_simp; try (with_reducible rfl))
    simp only [Act.put, List.setIfInBounds_toArray, List.set_cons_zero, List.set_cons_succ]
    refine anyH_take 13 43 (v := ?v13) rfl rfl (by kernel_rfl) (by kernel_rfl) (by kernel_rfl) (fun _ _ _ h => h) (by rfl) ?h13 hHeld ?r13
    case h13 => (intro w hSw; (try dsimp only at hSw); go_simp; try (with_reducible rfl))
    simp only [Act.put, List.setIfInBounds_toArray, List.set_cons_zero, List.set_cons_succ]
    refine anyH_take 14 44 (v := ?v14) rfl rfl (by kernel_rfl) (by kernel_rfl) (by kernel_rfl) (fun _ _ _ h => h) (by rfl) ?h14 hHeld ?r14
    case h14 => (intro w hSw; (try dsimp only at hSw); go_simp; try (with_reducible rfl))
    simp only [Act.put, List.setIfInBounds_toArray, List.set_cons_zero, List.set_cons_succ]
    refine wpAnyH_ready (rs := [3, 17]) (by kernel_rfl) (by simp) ?_
    refine AllReadyH.cons rfl (fun K hK => ?_) (AllReadyH.cons rfl (fun K hK => ?_) AllReadyH.nil)
    · go_simp
      refine (unhide T1 _ (B1.trans ((unhide D0).mono B1.size))).mono ?_
      rintro e u3 ⟨rfl, hb⟩
      have D3 := hide ((unhide D0).trans (hb.mono (unhide D0).size))
      clear hb
      refine hK.out _ _ (unhide SK _ (unhide D3)) (fun hHeld => ?_)
      clear hK K
      refine wpAnyH_ready (rs := [15, 17]) (by kernel_rfl) (by simp) ?_
      refine AllReadyH.cons rfl (fun K hK => ?_) (AllReadyH.cons rfl (fun K hK => ?_) AllReadyH.nil)
      · go_simp
        refine (unhide CL _ (unhide D3)).mono ?_
        rintro e u3_15 ⟨g, cp, rfl, ho, hb⟩
        have D3_15 := hide ((unhide D3).trans (hb.mono (unhide D3).size))
        have OX3_15 := hide (sc_down ho (unhide D3).size)
        clear hb ho
        refine hK.out _ _ (unhide SK _ (unhide D3_15)) (fun hHeld => ?_)
        clear hK K
        refine anyH_take 16 46 (v := ?v15) rfl rfl (by kernel_rfl) (by kernel_rfl) (by kernel_rfl) (fun _ _ _ h => h) (by rfl) ?h15 hHeld ?r15
        case h15 => (intro w hSw; (try dsimp only at hSw); go_simp; try (with_reducible rfl))
        simp only [Act.put, List.setIfInBounds_toArray, List.set_cons_zero, List.set_cons_succ]
        refine wpAnyH_ready (rs := [17]) (by kernel_rfl) (by simp) ?_
        refine AllReadyH.cons rfl (fun K hK => ?_) AllReadyH.nil
        have hb : Below u3_15.heap.size u3_15 (u3_15.alloc (.cells #[.int .i64 0, .bool false, .slice none 0 0] 45)) := (Below.refl _ _).alloc (Nat.le_refl _) _
        have D3_15_17 := hide ((unhide D3_15).trans (hb.mono (unhide D3_15).size))
        have KX3_15_17 := hide (heap_alloc_new u3_15 (.cells #[.int .i64 0, .bool false, .slice none 0 0] 45))
        have OX3_15_17 := hide (owns_below (unhide OX3_15) hb)
        have NX3_15_17 : g ≠ u3_15.heap.size := fun e => by have h1 := (sc_g (unhide OX3_15)).2; omega
        clear hb
        go_simp
        refine hK.out _ _ (unhide SK _ (unhide D3_15_17)) (fun hHeld => ?_)
        clear hK K
        refine wpAnyH_ready (rs := [18]) (by kernel_rfl) (by simp) ?_
        refine AllReadyH.cons rfl (fun K hK => ?_) AllReadyH.nil
        have y0 : (u3_15.alloc (.cells #[.int .i64 0, .bool false, .slice none 0 0] 45)).cell? ⟨u3_15.heap.size, 0, none⟩ = some (.int .i64 0) := (heap_at (unhide KX3_15_17) 0).1
        have y1 : (u3_15.alloc (.cells #[.int .i64 0, .bool false, .slice none 0 0] 45)).cell? ⟨u3_15.heap.size, 1, none⟩ = some (.bool false) := (heap_at (unhide KX3_15_17) 1).1
        have y2 : (u3_15.alloc (.cells #[.int .i64 0, .bool false, .slice none 0 0] 45)).cell? ⟨u3_15.heap.size, 2, none⟩ = some (.slice none 0 0) := (heap_at (unhide KX3_15_17) 2).1
        have f0 : (u3_15.alloc (.cells #[.int .i64 0, .bool false, .slice none 0 0] 45)).frozen? ⟨u3_15.heap.size, 0, none⟩ = false := (heap_at (unhide KX3_15_17) 0).2
        have f1 : (u3_15.alloc (.cells #[.int .i64 0, .bool false, .slice none 0 0] 45)).frozen? ⟨u3_15.heap.size, 1, none⟩ = false := (heap_at (unhide KX3_15_17) 1).2
        have f2 : (u3_15.alloc (.cells #[.int .i64 0, .bool false, .slice none 0 0] 45)).frozen? ⟨u3_15.heap.size, 2, none⟩ = false := (heap_at (unhide KX3_15_17) 2).2
        have BX := hide (ImBox.of_new (X := X) (unhide OX3_15) (unhide D3_15))
        go_simp
        refine hK.out _ _ (unhide SK _ (unhide BX).bel) (fun hHeld => ?_)
        clear hK K
        refine wpAnyH_done (by kernel_rfl) ?_ _
        go_wp2_with fail
        go_meet
        case rel => exact ⟨_, _, _, rfl, unhide BX⟩
      · have hb : Below u3.heap.size u3 (u3.alloc (.cells #[.int .i64 0, .bool false, .slice none 0 0] 45)) := (Below.refl _ _).alloc (Nat.le_refl _) _
        have D3_17 := hide ((unhide D3).trans (hb.mono (unhide D3).size))
        have KX3_17 := hide (heap_alloc_new u3 (.cells #[.int .i64 0, .bool false, .slice none 0 0] 45))
        clear hb
        go_simp
        refine hK.out _ _ (unhide SK _ (unhide D3_17)) (fun hHeld => ?_)
        clear hK K
        refine wpAnyH_ready (rs := [15]) (by kernel_rfl) (by simp) ?_
        refine AllReadyH.cons rfl (fun K hK => ?_) AllReadyH.nil
        go_simp
        refine (unhide CL _ (unhide D3_17)).mono ?_
        rintro e u3_17_15 ⟨g, cp, rfl, ho, hb⟩
        have D3_17_15 := hide ((unhide D3_17).trans (hb.mono (unhide D3_17).size))
        have OX3_17_15 := hide (sc_down ho (unhide D3_17).size)
        have KX3_17_15 := hide (sc_at_below (unhide KX3_17) hb)
        have NX3_17_15 : g ≠ u3.heap.size := fun e => by have h1 := (sc_g ho).1; have h2 : u3.heap.size < (u3.alloc (.cells #[.int .i64 0, .bool false, .slice none 0 0] 45)).heap.size := (Array.getElem?_eq_some_iff.1 (unhide KX3_17)).1; omega
        clear hb ho
        refine hK.out _ _ (unhide SK _ (unhide D3_17_15)) (fun hHeld => ?_)
        clear hK K
        refine anyH_take 16 46 (v := ?v16) rfl rfl (by kernel_rfl) (by kernel_rfl) (by kernel_rfl) (fun _ _ _ h => h) (by rfl) ?h16 hHeld ?r16
        case h16 => (intro w hSw; (try dsimp only at hSw); go_simp; try (with_reducible rfl))
        simp only [Act.put, List.setIfInBounds_toArray, List.set_cons_zero, List.set_cons_succ]
        refine wpAnyH_ready (rs := [18]) (by kernel_rfl) (by simp) ?_
        refine AllReadyH.cons rfl (fun K hK => ?_) AllReadyH.nil
        have y0 : u3_17_15.cell? ⟨u3.heap.size, 0, none⟩ = some (.int .i64 0) := (heap_at (unhide KX3_17_15) 0).1
        have y1 : u3_17_15.cell? ⟨u3.heap.size, 1, none⟩ = some (.bool false) := (heap_at (unhide KX3_17_15) 1).1
        have y2 : u3_17_15.cell? ⟨u3.heap.size, 2, none⟩ = some (.slice none 0 0) := (heap_at (unhide KX3_17_15) 2).1
        have f0 : u3_17_15.frozen? ⟨u3.heap.size, 0, none⟩ = false := (heap_at (unhide KX3_17_15) 0).2
        have f1 : u3_17_15.frozen? ⟨u3.heap.size, 1, none⟩ = false := (heap_at (unhide KX3_17_15) 1).2
        have f2 : u3_17_15.frozen? ⟨u3.heap.size, 2, none⟩ = false := (heap_at (unhide KX3_17_15) 2).2
        have BX := hide (ImBox.of_store (X := X) (unhide KX3_17_15) (unhide OX3_17_15) NX3_17_15 ((unhide D3).size) (unhide D3_17_15))
        go_simp
        refine hK.out _ _ (unhide SK _ (unhide BX).bel) (fun hHeld => ?_)
        clear hK K
        refine wpAnyH_done (by kernel_rfl) ?_ _
        go_wp2_with fail
        go_meet
        case rel => exact ⟨_, _, _, rfl, unhide BX⟩
    · have hb : Below w1.drew.heap.size w1.drew (w1.drew.alloc (.cells #[.int .i64 0, .bool false, .slice none 0 0] 45)) := (Below.refl _ _).alloc (Nat.le_refl _) _
      have D17 := hide ((unhide D0).trans (hb.mono (unhide D0).size))
      have KX17 := hide (heap_alloc_new w1.drew (.cells #[.int .i64 0, .bool false, .slice none 0 0] 45))
      clear hb
      go_simp
      refine hK.out _ _ (unhide SK _ (unhide D17)) (fun hHeld => ?_)
      clear hK K
      refine wpAnyH_ready (rs := [3]) (by kernel_rfl) (by simp) ?_
      refine AllReadyH.cons rfl (fun K hK => ?_) AllReadyH.nil
      go_simp
      refine (unhide T1 _ (B1.trans ((unhide D17).mono B1.size))).mono ?_
      rintro e u17_3 ⟨rfl, hb⟩
      have D17_3 := hide ((unhide D17).trans (hb.mono (unhide D17).size))
      have KX17_3 := hide (sc_at_below (unhide KX17) hb)
      clear hb
      refine hK.out _ _ (unhide SK _ (unhide D17_3)) (fun hHeld => ?_)
      clear hK K
      refine wpAnyH_ready (rs := [15]) (by kernel_rfl) (by simp) ?_
      refine AllReadyH.cons rfl (fun K hK => ?_) AllReadyH.nil
      go_simp
      refine (unhide CL _ (unhide D17_3)).mono ?_
      rintro e u17_3_15 ⟨g, cp, rfl, ho, hb⟩
      have D17_3_15 := hide ((unhide D17_3).trans (hb.mono (unhide D17_3).size))
      have OX17_3_15 := hide (sc_down ho (unhide D17_3).size)
      have KX17_3_15 := hide (sc_at_below (unhide KX17_3) hb)
      have NX17_3_15 : g ≠ w1.heap.size := fun e => by have h1 := (sc_g ho).1; have h2 : w1.heap.size < u17_3.heap.size := (Array.getElem?_eq_some_iff.1 (unhide KX17_3)).1; omega
      clear hb ho
      refine hK.out _ _ (unhide SK _ (unhide D17_3_15)) (fun hHeld => ?_)
      clear hK K
      refine anyH_take 16 46 (v := ?v17) rfl rfl (by kernel_rfl) (by kernel_rfl) (by kernel_rfl) (fun _ _ _ h => h) (by rfl) ?h17 hHeld ?r17
      case h17 => (intro w hSw; (try dsimp only at hSw); go_simp; try (with_reducible rfl))
      simp only [Act.put, List.setIfInBounds_toArray, List.set_cons_zero, List.set_cons_succ]
      refine wpAnyH_ready (rs := [18]) (by kernel_rfl) (by simp) ?_
      refine AllReadyH.cons rfl (fun K hK => ?_) AllReadyH.nil
      have y0 : u17_3_15.cell? ⟨w1.heap.size, 0, none⟩ = some (.int .i64 0) := (heap_at (unhide KX17_3_15) 0).1
      have y1 : u17_3_15.cell? ⟨w1.heap.size, 1, none⟩ = some (.bool false) := (heap_at (unhide KX17_3_15) 1).1
      have y2 : u17_3_15.cell? ⟨w1.heap.size, 2, none⟩ = some (.slice none 0 0) := (heap_at (unhide KX17_3_15) 2).1
      have f0 : u17_3_15.frozen? ⟨w1.heap.size, 0, none⟩ = false := (heap_at (unhide KX17_3_15) 0).2
      have f1 : u17_3_15.frozen? ⟨w1.heap.size, 1, none⟩ = false := (heap_at (unhide KX17_3_15) 1).2
      have f2 : u17_3_15.frozen? ⟨w1.heap.size, 2, none⟩ = false := (heap_at (unhide KX17_3_15) 2).2
      have BX := hide (ImBox.of_store (X := X) (unhide KX17_3_15) (unhide OX17_3_15) NX17_3_15 (Nat.le_refl _) (unhide D17_3_15))
      go_simp
      refine hK.out _ _ (unhide SK _ (unhide BX).bel) (fun hHeld => ?_)
      clear hK K
      refine wpAnyH_done (by kernel_rfl) ?_ _
      go_wp2_with fail
      go_meet
      case rel => exact ⟨_, _, _, rfl, unhide BX⟩
  case rest =>
    obtain ⟨xb, g, cp, rfl, hbx⟩ := hcut
    have B2 := hide (B1.trans ((unhide hbx).bel.mono B1.size))
    have K2 := hide ((((unhide hbx).bel.block w.heap.size z1)).trans (unhide K1))
    have BX := hide (unhide hbx).box
    have OX := hide (unhide hbx).own
    have NEX : xb ≠ w.heap.size := by have := (unhide hbx).ge; omega
    clear hbx K1 T1 B1 XM
    have x0 : wc.cell? ⟨xb, 0, none⟩ = some (.int .i64 X.id) := (heap_at (unhide BX) 0).1
    have x1 : wc.cell? ⟨xb, 1, none⟩ = some (.bool X.gone) := (heap_at (unhide BX) 1).1
    have x2 : wc.cell? ⟨xb, 2, none⟩ = some (.slice (some ⟨g, 0, none⟩) X.xs.length cp) := (heap_at (unhide BX) 2).1
    go_wp2_with fail
    refine (imageOK_any X.id X.gone (some ⟨g, 0, none⟩) X.xs.length cp wc (by unfold maxLen; omega)).mono ?_
    rintro e w2 ⟨rfl, hb2⟩
    have B3 := (unhide B2).trans (hb2.mono (unhide B2).size)
    have K3 := hide (sc_at_below (unhide K2) hb2)
    have BX3 := hide (sc_at_below (unhide BX) hb2)
    have OX3 := hide (owns_below (unhide OX) hb2)
    clear hb2 K2 BX OX B2 x0 x1 x2
    have EOK := hide (show imOK X.id X.gone X.xs.length = X.ok from rfl)
    cases hok : imOK X.id X.gone X.xs.length with
    | false =>
      have NN := hide (unhide NN3 (by rw [← unhide EOK]; exact hok))
      clear NN3 NN4 NY4 XP XR XB XG HD OX3 BX3 hok EOK
      have y0 : w2.cell? ⟨w.heap.size, 0, none⟩ = some (.int .i64 0) := (heap_at (unhide K3) 0).1
      have y1 : w2.cell? ⟨w.heap.size, 1, none⟩ = some (.bool false) := (heap_at (unhide K3) 1).1
      have y2 : w2.cell? ⟨w.heap.size, 2, none⟩ = some (.slice none 0 0) := (heap_at (unhide K3) 2).1
      have f0 : w2.frozen? ⟨w.heap.size, 0, none⟩ = false := (heap_at (unhide K3) 0).2
      have f1 : w2.frozen? ⟨w.heap.size, 1, none⟩ = false := (heap_at (unhide K3) 1).2
      have f2 : w2.frozen? ⟨w.heap.size, 2, none⟩ = false := (heap_at (unhide K3) 2).2
      go_wp2_with fail
      refine bodyPost_ret (v := .tuple #[iv 0 false none 0 0, .int .i64 0, .bool false]) (by unfold iv; simp [results, Try.results120, go_sem, *] <;> rfl) rfl ?_
      exact unhide NO _ (unhide NN) (SB _ B3)
    | true =>
      have OK3 : X.ok = true := by rw [← unhide EOK]; exact hok
      have CPL : X.xs.length ≤ cp := by
        rcases (unhide OX3).2 with ⟨e, _⟩ | ⟨g', cap, cur, e, _, _, h1, _⟩
        · cases e
        · injection e with _ _ e
          subst e
          exact h1
      have RX : Row w2 (some ⟨g, 0, none⟩) X.xs.length X.xs := by
        obtain ⟨g', cap', e, hr⟩ := owns_row (unhide OX3) (by simp)
        injection e with e1 e2 e3
        injection e1 with e1
        injection e1 with e1
        subst e1
        exact hr
      have IB := hide (imageBytes_any X.id X.gone g 0 cp X.xs w2 CPL hok RX (unhide XB))
      clear CPL RX
      have x0 : w2.cell? ⟨xb, 0, none⟩ = some (.int .i64 X.id) := (heap_at (unhide BX3) 0).1
      have x1 : w2.cell? ⟨xb, 1, none⟩ = some (.bool X.gone) := (heap_at (unhide BX3) 1).1
      have x2 : w2.cell? ⟨xb, 2, none⟩ = some (.slice (some ⟨g, 0, none⟩) X.xs.length cp) := (heap_at (unhide BX3) 2).1
      go_wp2_with fail
      refine (unhide IB).mono ?_
      rintro e w3 ⟨v, rfl, ho3, hv3, hb3⟩
      have B4 := B3.trans (hb3.mono B3.size)
      have K4 := hide (sc_at_below (unhide K3) hb3)
      have BX4 := hide (sc_at_below (unhide BX3) hb3)
      have OX4 := hide (owns_below (unhide OX3) hb3)
      obtain ⟨g3, c3, rfl, hr3⟩ := owns_row ho3 hv3
      rw [imgL_length] at hr3 ⊢
      have HP := hide (hasPrefix_any (some ⟨b, off + p, none⟩) (some ⟨g3, 0, none⟩) (n - p) (c - p) (X.xs.length + 9) c3 (xs.drop p) X.by w3 (unhide XP w3 B4) hr3 (unhide HD) (imgL_bytes (unhide XB) (by omega) (by omega) (by omega)) (by omega) (by unfold maxLen; omega) (fun h => by cases h))
      clear hb3 ho3 hv3 hr3 IB K3 BX3 OX3 B3 x0 x1 x2 hok EOK
      have wr7 : IntKind.i64.wrap ((p : Int) + ((X.xs.length : Int) + 9)) = (p : Int) + 9 + (X.xs.length : Int) := by rw [IntKind.wrap_i64]; omega
      have i8 : (p : Int) ≤ (n : Int) := by omega
      have i10 : c - p ≠ 0 := by omega
      have i11 : ¬ c = p := by omega
      go_wp2_with fail
      refine (unhide HP).mono ?_
      rintro e w4 ⟨rfl, hw4⟩
      subst w4
      clear HP
      by_cases hmt : (xs.drop p).take (X.xs.length + 9) = X.by
      · have NS := hide (unhide NY4 OK3 hmt)
        have hd : decide ((xs.drop p).take (X.xs.length + 9) = X.by) = true := decide_eq_true hmt
        clear NN3 NN4 NY4 XP XR XB XG HD hmt
        have x0 : w3.cell? ⟨xb, 0, none⟩ = some (.int .i64 X.id) := (heap_at (unhide BX4) 0).1
        have x1 : w3.cell? ⟨xb, 1, none⟩ = some (.bool X.gone) := (heap_at (unhide BX4) 1).1
        have x2 : w3.cell? ⟨xb, 2, none⟩ = some (.slice (some ⟨g, 0, none⟩) X.xs.length cp) := (heap_at (unhide BX4) 2).1
        have y0 : w3.cell? ⟨w.heap.size, 0, none⟩ = some (.int .i64 0) := (heap_at (unhide K4) 0).1
        have y1 : w3.cell? ⟨w.heap.size, 1, none⟩ = some (.bool false) := (heap_at (unhide K4) 1).1
        have y2 : w3.cell? ⟨w.heap.size, 2, none⟩ = some (.slice none 0 0) := (heap_at (unhide K4) 2).1
        have f0 : w3.frozen? ⟨w.heap.size, 0, none⟩ = false := (heap_at (unhide K4) 0).2
        have f1 : w3.frozen? ⟨w.heap.size, 1, none⟩ = false := (heap_at (unhide K4) 1).2
        have f2 : w3.frozen? ⟨w.heap.size, 2, none⟩ = false := (heap_at (unhide K4) 2).2
        have FB := hide (show Below w.heap.size w (((w3.setCell ⟨w.heap.size, 0, none⟩ (.int .i64 X.id)).setCell ⟨w.heap.size, 1, none⟩ (.bool X.gone)).setCell ⟨w.heap.size, 2, none⟩ (.slice (some ⟨g, 0, none⟩) X.xs.length cp)) from ((B4.setCell (p := ⟨w.heap.size, 0, none⟩) q3 _).setCell (p := ⟨w.heap.size, 1, none⟩) q3 _).setCell (p := ⟨w.heap.size, 2, none⟩) q3 _)
        have FO := hide (show Owns (((w3.setCell ⟨w.heap.size, 0, none⟩ (.int .i64 X.id)).setCell ⟨w.heap.size, 1, none⟩ (.bool X.gone)).setCell ⟨w.heap.size, 2, none⟩ (.slice (some ⟨g, 0, none⟩) X.xs.length cp)) w.heap.size (.slice (some ⟨g, 0, none⟩) X.xs.length cp) X.xs from by
          have hne : g ≠ w.heap.size := by have := (sc_g (unhide OX4)).1; omega
          exact sc_owns_set (sc_owns_set (sc_owns_set (sc_down (unhide OX4) (by omega)) hne _) hne _) hne _)
        clear OX4 BX4 K4
        go_wp2_with fail
        refine bodyPost_ret (v := .tuple #[iv X.id X.gone (some ⟨g, 0, none⟩) X.xs.length cp, .int .i64 ((p + 9 + X.xs.length : Nat) : Int), .bool true]) (by unfold iv; simp [results, Try.results120, go_sem, *] <;> rfl) rfl ?_
        exact .inr ⟨X, g, cp, unhide NS, rfl, unhide FO, unhide FB⟩
      · have NN := hide (unhide NN4 hmt)
        have hd : decide ((xs.drop p).take (X.xs.length + 9) = X.by) = false := decide_eq_false hmt
        clear NN3 NN4 NY4 XP XR XB XG HD OX4 BX4 hmt
        have y0 : w3.cell? ⟨w.heap.size, 0, none⟩ = some (.int .i64 0) := (heap_at (unhide K4) 0).1
        have y1 : w3.cell? ⟨w.heap.size, 1, none⟩ = some (.bool false) := (heap_at (unhide K4) 1).1
        have y2 : w3.cell? ⟨w.heap.size, 2, none⟩ = some (.slice none 0 0) := (heap_at (unhide K4) 2).1
        have f0 : w3.frozen? ⟨w.heap.size, 0, none⟩ = false := (heap_at (unhide K4) 0).2
        have f1 : w3.frozen? ⟨w.heap.size, 1, none⟩ = false := (heap_at (unhide K4) 1).2
        have f2 : w3.frozen? ⟨w.heap.size, 2, none⟩ = false := (heap_at (unhide K4) 2).2
        go_wp2_with fail
        refine bodyPost_ret (v := .tuple #[iv 0 false none 0 0, .int .i64 0, .bool false]) (by unfold iv; simp [results, Try.results120, go_sem, *] <;> rfl) rfl ?_
        exact unhide NO _ (unhide NN) (SB _ B4)
end Go.Proofs.Ytocdbijmpecdgaa

namespace Go.Proofs.Ytocdbijmpecdgaa
open Go.RowKit

/-- What l03Next gives. -/
def NxRes (xs : List Int) (p : Nat) (w : World) (e : Ending) (w' : World) : Prop :=
  (nextI xs p = none ∧ e = .returned (.tuple #[iv 0 false none 0 0, .bool false]) ∧ Below w.heap.size w w') ∨
  ∃ x g cap, nextI xs p = some x ∧ e = .returned (.tuple #[iv x.id x.gone (some ⟨g, 0, none⟩) x.xs.length cap, .bool true]) ∧ Owns w' w.heap.size (.slice (some ⟨g, 0, none⟩) x.xs.length cap) x.xs ∧ Below w.heap.size w w'
theorem sc_stepConv {P : Program} {ops : Array Oper} {o : Oper} {a : Act} {w : World} {K : Act → World → Prop} {Q : Exit → Act → World → Prop} {E : Prop}
    (hw : Region.wanted o (yielded ops a.tmps) = true) (x : Operand) (s t : TypeId) (hop : o.op = Op.convert s t x) (vx v' : Value) (hx : a.eval x = vx) (hrun : (convert s t vx).run P w = .ok v' w) (hK : K (a.put o.dst v') w) :
    if Region.wanted o (yielded ops a.tmps) = true then Oper.wp P o a w K Q else E := by
  rw [if_pos hw]
  unfold Oper.wp
  simp [execOp, hop, hx, hrun, Result.andThen]
  exact hK
set_option maxRecDepth 100000 in
set_option maxHeartbeats 8000000 in
theorem l03Next_any (a : Option Addr) (n c p : Nat) (xs : List Int) (w : World) (hR : Row w a n xs) (h8 : Bytes8 xs) (hp : p ≤ n) (hn : n ≤ 65536) (hc : n ≤ c) (_hc2 : c ≤ maxLen) :
    Calls Try.prog 108 #[.slice a n c, .int .i64 (p : Int)] w fun e w' => NxRes xs p w e w' := by
  unfold maxLen at _hc2
  obtain rfl := hR.1
  have b0 : Below w.heap.size w (w.alloc (.cells #[.int .i64 0, .bool false, .slice none 0 0] 45)) := (Below.refl _ _).alloc (Nat.le_refl _) _
  have KR := hide (heap_alloc_new w (.cells #[.int .i64 0, .bool false, .slice none 0 0] 45))
  have zs : (w.alloc (.cells #[.int .i64 0, .bool false, .slice none 0 0] 45)).heap.size = w.heap.size + 1 := by simp
  have q3 : w.heap.size ≤ w.heap.size := Nat.le_refl _
  have SB : ∀ u : World, Below w.heap.size w u → Below w.heap.size w (((u.setCell ⟨w.heap.size, 0, none⟩ (.int .i64 0)).setCell ⟨w.heap.size, 1, none⟩ (.bool false)).setCell ⟨w.heap.size, 2, none⟩ (.slice none 0 0)) := fun u hu => ((hu.setCell (p := ⟨w.heap.size, 0, none⟩) q3 _).setCell (p := ⟨w.heap.size, 1, none⟩) q3 _).setCell (p := ⟨w.heap.size, 2, none⟩) q3 _
  have NO := hide (show ∀ u : World, nextI xs p = none → Below w.heap.size w u → NxRes xs p w (.returned (.tuple #[iv 0 false none 0 0, .bool false])) u from fun u h hu => .inl ⟨h, rfl, hu⟩)
  have wr9 : IntKind.i64.wrap ((p : Int) + 9) = (p : Int) + 9 := by rw [IntKind.wrap_i64]; omega
  by_cases h9 : ¬ (p + 9 ≤ xs.length)
  · have g9 : (xs.length : Int) < (p : Int) + 9 := by omega
    have NN := hide (next_no9 (b := xs) (p := p) (fun h => h9 h.1))
    clear hR h8
    go_enter Try.func108, Try.ntmps108
    go_wp2_with fail
    generalize w.alloc (.cells #[.int .i64 0, .bool false, .slice none 0 0] 45) = W at *
    have y0 : W.cell? ⟨w.heap.size, 0, none⟩ = some (.int .i64 0) := (heap_at (unhide KR) 0).1
    have y1 : W.cell? ⟨w.heap.size, 1, none⟩ = some (.bool false) := (heap_at (unhide KR) 1).1
    have y2 : W.cell? ⟨w.heap.size, 2, none⟩ = some (.slice none 0 0) := (heap_at (unhide KR) 2).1
    have f0 : W.frozen? ⟨w.heap.size, 0, none⟩ = false := (heap_at (unhide KR) 0).2
    have f1 : W.frozen? ⟨w.heap.size, 1, none⟩ = false := (heap_at (unhide KR) 1).2
    have f2 : W.frozen? ⟨w.heap.size, 2, none⟩ = false := (heap_at (unhide KR) 2).2
    go_wp2_with fail
    refine bodyPost_ret (v := .tuple #[iv 0 false none 0 0, .bool false]) (by unfold iv; simp [results, Try.results108, go_sem, *] <;> rfl) rfl ?_
    first | exact unhide NO _ (unhide NN) b0 | exact unhide NO _ (unhide NN) (SB _ b0)
  replace h9 := Decidable.not_not.1 h9
  have g9 : ¬ ((xs.length : Int) < (p : Int) + 9) := by omega
  obtain ⟨b, off, rfl, _⟩ := hR.2 0 (by omega)
  have CELL := hide (show ∀ j, j < xs.length → ∀ u, Below w.heap.size w u → u.cell? ⟨b, off + j, none⟩ = some (.int .u8 (xs.getD j 0)) from fun j hj u hu => by
    obtain ⟨b', off', e, hcell⟩ := (row_grow' hR hu).2 j hj
    cases e
    exact hcell)
  have i0 : (0 : Int) ≤ (p : Int) := by omega
  have i1 : (p : Int) < (xs.length : Int) := by omega
  have mb := getD_bytes h8 p
  by_cases hmk : ¬ (xs.getD p 0 = 1 ∨ xs.getD p 0 = 2)
  · have NN := hide (next_no9 (b := xs) (p := p) (fun h => hmk h.2.1))
    have cm := unhide CELL p (by omega) _ b0
    have g1 : xs.getD p 0 < 1 ∨ 2 < xs.getD p 0 := by omega
    generalize xs.getD p 0 = mk at *
    clear hR h8 CELL
    rcases g1 with g1 | g1
    · go_enter Try.func108, Try.ntmps108
      go_wp2_with fail
      generalize w.alloc (.cells #[.int .i64 0, .bool false, .slice none 0 0] 45) = W at *
      have y0 : W.cell? ⟨w.heap.size, 0, none⟩ = some (.int .i64 0) := (heap_at (unhide KR) 0).1
      have y1 : W.cell? ⟨w.heap.size, 1, none⟩ = some (.bool false) := (heap_at (unhide KR) 1).1
      have y2 : W.cell? ⟨w.heap.size, 2, none⟩ = some (.slice none 0 0) := (heap_at (unhide KR) 2).1
      have f0 : W.frozen? ⟨w.heap.size, 0, none⟩ = false := (heap_at (unhide KR) 0).2
      have f1 : W.frozen? ⟨w.heap.size, 1, none⟩ = false := (heap_at (unhide KR) 1).2
      have f2 : W.frozen? ⟨w.heap.size, 2, none⟩ = false := (heap_at (unhide KR) 2).2
      go_wp2_with fail
      refine bodyPost_ret (v := .tuple #[iv 0 false none 0 0, .bool false]) (by unfold iv; simp [results, Try.results108, go_sem, *] <;> rfl) rfl ?_
      first | exact unhide NO _ (unhide NN) b0 | exact unhide NO _ (unhide NN) (SB _ b0)
    · have g2 : ¬ mk < 1 := by omega
      go_enter Try.func108, Try.ntmps108
      go_wp2_with fail
      generalize w.alloc (.cells #[.int .i64 0, .bool false, .slice none 0 0] 45) = W at *
      have y0 : W.cell? ⟨w.heap.size, 0, none⟩ = some (.int .i64 0) := (heap_at (unhide KR) 0).1
      have y1 : W.cell? ⟨w.heap.size, 1, none⟩ = some (.bool false) := (heap_at (unhide KR) 1).1
      have y2 : W.cell? ⟨w.heap.size, 2, none⟩ = some (.slice none 0 0) := (heap_at (unhide KR) 2).1
      have f0 : W.frozen? ⟨w.heap.size, 0, none⟩ = false := (heap_at (unhide KR) 0).2
      have f1 : W.frozen? ⟨w.heap.size, 1, none⟩ = false := (heap_at (unhide KR) 1).2
      have f2 : W.frozen? ⟨w.heap.size, 2, none⟩ = false := (heap_at (unhide KR) 2).2
      go_wp2_with fail
      refine bodyPost_ret (v := .tuple #[iv 0 false none 0 0, .bool false]) (by unfold iv; simp [results, Try.results108, go_sem, *] <;> rfl) rfl ?_
      first | exact unhide NO _ (unhide NN) b0 | exact unhide NO _ (unhide NN) (SB _ b0)
  replace hmk := Decidable.not_not.1 hmk
  have wr3 : IntKind.i64.wrap ((p : Int) + 3) = (p : Int) + 3 := by rw [IntKind.wrap_i64]; omega
  have wr4 : IntKind.i64.wrap ((p : Int) + 4) = (p : Int) + 4 := by rw [IntKind.wrap_i64]; omega
  have wl : IntKind.i64.wrap (xs.getD (p + 3) 0) = xs.getD (p + 3) 0 := by have := getD_bytes h8 (p + 3); rw [IntKind.wrap_i64]; omega
  have wl2 : IntKind.i64.wrap (xs.getD (p + 4) 0) = xs.getD (p + 4) 0 := by have := getD_bytes h8 (p + 4); rw [IntKind.wrap_i64]; omega
  have wl3 : IntKind.i64.wrap (xs.getD (p + 3) 0 * 256) = xs.getD (p + 3) 0 * 256 := by have := getD_bytes h8 (p + 3); rw [IntKind.wrap_i64]; omega
  have wl4 : IntKind.i64.wrap (xs.getD (p + 3) 0 * 256 + xs.getD (p + 4) 0) = (lenAt xs p : Int) := by have h3 := getD_bytes h8 (p + 3); have h4 := getD_bytes h8 (p + 4); rw [lenAt_eq h8, IntKind.wrap_i64]; omega
  have LE := lenAt_le h8 p
  have c3 := unhide CELL (p + 3) (by omega) _ b0
  have c4 := unhide CELL (p + 4) (by omega) _ b0
  have cm := unhide CELL p (by omega) _ b0
  have i3 : (0 : Int) ≤ (p : Int) + 3 := by omega
  have i3' : (p : Int) + 3 < (xs.length : Int) := by omega
  have i3t : ((p : Int) + 3).toNat = p + 3 := by omega
  have i4 : (0 : Int) ≤ (p : Int) + 4 := by omega
  have i4' : (p : Int) + 4 < (xs.length : Int) := by omega
  have i4t : ((p : Int) + 4).toNat = p + 4 := by omega
  have gm1 : ¬ xs.getD p 0 < 1 := by omega
  have gm2 : ¬ 2 < xs.getD p 0 := by omega
  have LQ := hide (lenAt_eq h8 p)
  have NN6 := hide (show ¬ p + 9 + lenAt xs p ≤ xs.length → nextI xs p = none from fun h => next_no9 (fun k => h k.2.2))
  obtain ⟨mk, hM⟩ : ∃ mk, mk = xs.getD p 0 := ⟨_, rfl⟩
  rw [← hM] at cm gm1 gm2 hmk mb
  have HM := hide hM
  clear hM
  generalize xs.getD (p + 3) 0 = m3 at c3 wl wl3 wl4
  generalize xs.getD (p + 4) 0 = m4 at c4 wl2 wl4
  generalize hln : lenAt xs p = sz at wl4
  go_enter Try.func108, Try.ntmps108
  go_wp2_with fail
  generalize hW1 : w.alloc (.cells #[.int .i64 0, .bool false, .slice none 0 0] 45) = w1 at *
  go_quiet (fail)
  generalize hD1 : w1.drewN _ = w2 at *
  have B2 : Below w.heap.size w w2 := by rw [← hD1]; exact bel_drewN b0 _
  have K2 := hide (show w2.heap[w.heap.size]? = some (.cells #[.int .i64 0, .bool false, .slice none 0 0] 45 (0, 0)) by rw [← hD1]; exact unhide KR)
  have z2 : w.heap.size < w2.heap.size := by rw [← hD1]; show w.heap.size < w1.heap.size; omega
  subst hln
  clear KR hD1 hW1 c3 c4 cm wl wl2 wl3 wl4 i3 i3' i3t i4 i4' i4t wr3 wr4 b0 zs LQ
  by_cases h6 : ¬ (p + 9 + lenAt xs p ≤ xs.length)
  · have NN := hide (unhide NN6 h6)
    generalize lenAt xs p = sz at *
    have g6 : (xs.length : Int) < (p : Int) + 9 + (sz : Int) := by omega
    have wr5 : IntKind.i64.wrap ((p : Int) + 9 + (sz : Int)) = (p : Int) + 9 + (sz : Int) := by rw [IntKind.wrap_i64]; omega
    clear hR h8 CELL NN6
    have y0 : w2.cell? ⟨w.heap.size, 0, none⟩ = some (.int .i64 0) := (heap_at (unhide K2) 0).1
    have y1 : w2.cell? ⟨w.heap.size, 1, none⟩ = some (.bool false) := (heap_at (unhide K2) 1).1
    have y2 : w2.cell? ⟨w.heap.size, 2, none⟩ = some (.slice none 0 0) := (heap_at (unhide K2) 2).1
    have f0 : w2.frozen? ⟨w.heap.size, 0, none⟩ = false := (heap_at (unhide K2) 0).2
    have f1 : w2.frozen? ⟨w.heap.size, 1, none⟩ = false := (heap_at (unhide K2) 1).2
    have f2 : w2.frozen? ⟨w.heap.size, 2, none⟩ = false := (heap_at (unhide K2) 2).2
    go_wp2_with fail
    refine bodyPost_ret (v := .tuple #[iv 0 false none 0 0, .bool false]) (by unfold iv; simp [results, Try.results108, go_sem, *] <;> rfl) rfl ?_
    exact unhide NO _ (unhide NN) (SB _ B2)
  replace h6 := Decidable.not_not.1 h6
  have h5 : p + 5 + lenAt xs p ≤ xs.length := by omega
  have XL := imAt_len h5
  have XB := hide (imAt_bytes h8 p)
  have XI := imAt_id h8 p
  have NN3 := hide (show (imAt xs p).ok = false → nextI xs p = none from fun h3 => next_no (fun h => by rw [h3] at h; exact absurd h.2.2.1 (by decide)))
  have NN4 := hide (show ¬ (xs.drop p).take ((imAt xs p).xs.length + 9) = (imAt xs p).by → nextI xs p = none from fun h3 => next_no (fun h => h3 (by rw [XL]; exact h.2.2.2)))
  have NY4 := hide (show (imAt xs p).ok = true → (xs.drop p).take ((imAt xs p).xs.length + 9) = (imAt xs p).by → nextI xs p = some (imAt xs p) from fun h3 h4 => next_yes (by omega) h5 h3 (by rw [XL] at h4; exact h4))
  have XR := hide (show ∀ u, Below w.heap.size w u → Row u (some ⟨b, off + (p + 5), none⟩) (imAt xs p).xs.length (imAt xs p).xs from fun u hu => by
    rw [XL]
    exact sc_row_take (sc_row_drop (row_grow' hR hu) (p + 5)) (by omega))
  have XP := hide (show ∀ u, Below w.heap.size w u → Row u (some ⟨b, off + p, none⟩) ((imAt xs p).xs.length + 9) ((xs.drop p).take ((imAt xs p).xs.length + 9)) from fun u hu => sc_row_take (sc_row_drop (row_grow' hR hu) p) (by omega))
  have XG := hide (show (imAt xs p).gone = decide (xs.getD p 0 = 2) from rfl)
  have XD := hide (show (imAt xs p).id = xs.getD (p + 1) 0 * 256 + xs.getD (p + 2) 0 from rfl)
  have HD := hide (show Bytes8 ((xs.drop p).take ((imAt xs p).xs.length + 9)) from bytes8_drop h8 _ _)
  have m1b := getD_bytes h8 (p + 1)
  have m2b := getD_bytes h8 (p + 2)
  have C0 := hide (unhide CELL p (by omega))
  have C1 := hide (unhide CELL (p + 1) (by omega))
  have C2 := hide (unhide CELL (p + 2) (by omega))
  obtain ⟨X, hX⟩ : ∃ X, X = imAt xs p := ⟨_, rfl⟩
  rw [← hX] at XL XB XI NN3 NN4 NY4 XR XP XG XD HD
  generalize lenAt xs p = sz at *
  subst XL
  clear hX hR h8 CELL NN6 h5
  rw [← unhide HM] at XG C0
  clear HM
  generalize xs.getD (p + 1) 0 = m1 at *
  generalize xs.getD (p + 2) 0 = m2 at *
  generalize hYs : (xs.drop p).take (X.xs.length + 9) = Ys at *
  clear hYs
  generalize hnn : xs.length = n at *
  clear hnn
  have wr5 : IntKind.i64.wrap ((p : Int) + 9 + (X.xs.length : Int)) = (p : Int) + 9 + (X.xs.length : Int) := by rw [IntKind.wrap_i64]; omega
  have g6 : ¬ ((n : Int) < (p : Int) + 9 + (X.xs.length : Int)) := by omega
  have wra : IntKind.i64.wrap ((p : Int) + 1) = (p : Int) + 1 := by rw [IntKind.wrap_i64]; omega
  have wrb : IntKind.i64.wrap ((p : Int) + 2) = (p : Int) + 2 := by rw [IntKind.wrap_i64]; omega
  have wrc : IntKind.i64.wrap ((p : Int) + 5) = (p : Int) + 5 := by rw [IntKind.wrap_i64]; omega
  have wrd : IntKind.i64.wrap ((p : Int) + 5 + (X.xs.length : Int)) = (p : Int) + 5 + (X.xs.length : Int) := by rw [IntKind.wrap_i64]; omega
  have wre : IntKind.i64.wrap m1 = m1 := by rw [IntKind.wrap_i64]; omega
  have wrf : IntKind.i64.wrap m2 = m2 := by rw [IntKind.wrap_i64]; omega
  have wrg : IntKind.i64.wrap (m1 * 256) = m1 * 256 := by rw [IntKind.wrap_i64]; omega
  have wrh : IntKind.i64.wrap (m1 * 256 + m2) = X.id := by rw [unhide XD, IntKind.wrap_i64]; omega
  have j1 : (0 : Int) ≤ (p : Int) + 1 := by omega
  have j1' : (p : Int) + 1 < (n : Int) := by omega
  have j1t : ((p : Int) + 1).toNat = p + 1 := by omega
  have j2 : (0 : Int) ≤ (p : Int) + 2 := by omega
  have j2' : (p : Int) + 2 < (n : Int) := by omega
  have j2t : ((p : Int) + 2).toNat = p + 2 := by omega
  have j5 : (0 : Int) ≤ (p : Int) + 5 := by omega
  have j5' : (p : Int) + 5 ≤ (p : Int) + 5 + (X.xs.length : Int) := by omega
  have j6 : (p : Int) + 5 + (X.xs.length : Int) ≤ (c : Int) := by omega
  have j6' : (0 : Int) ≤ (p : Int) + 5 + (X.xs.length : Int) := by omega
  have j7 : ((p : Int) + 5).toNat = p + 5 := by omega
  have j8 : ((p : Int) + 5 + (X.xs.length : Int)).toNat = p + 5 + X.xs.length := by omega
  have j9 : p + 5 + X.xs.length - (p + 5) = X.xs.length := by omega
  have ja : max ((p : Int) + 5 + (X.xs.length : Int)) 0 = (p : Int) + 5 + (X.xs.length : Int) := by omega
  have jb : ¬ c = p + 5 := by omega
  have hgx : (mk == 2) = X.gone := (unhide XG).symm
  go_upto_region 6 with fail
  go_cut [7] (fun v wc => ∃ xb g cp, v = .pointer (some ⟨xb, 0, none⟩) ∧ Hid (ImBox w2 w2.heap.size xb g cp X wc))
  case first =>
    have SK := hide (show ∀ u, Below w2.heap.size w2 u → (fun u => Below w2.heap.size w2 u ∧ u.cell? ⟨b, off + p, none⟩ = some (.int .u8 mk) ∧ u.cell? ⟨b, off + (p + 1), none⟩ = some (.int .u8 m1) ∧ u.cell? ⟨b, off + (p + 2), none⟩ = some (.int .u8 m2)) u from fun u hu => ⟨hu, unhide C0 u (B2.trans (hu.mono B2.size)), unhide C1 u (B2.trans (hu.mono B2.size)), unhide C2 u (B2.trans (hu.mono B2.size))⟩)
    have AP := hide (fun (u : World) (q : Nat) (hu : Below w2.heap.size w2 u) (hO : Owns u w2.heap.size (.slice (some ⟨q, 0, none⟩) 0 0) []) => sc_copy2 (c := c - (p + 5)) 22 hO (unhide XR u (B2.trans (hu.mono B2.size))) (by omega) hu.size)
    have D0 := hide (show Below w2.heap.size w2 w2.drew from (Below.refl _ _).drew)
    refine wp_region_held_drew (S := (fun u => Below w2.heap.size w2 u ∧ u.cell? ⟨b, off + p, none⟩ = some (.int .u8 mk) ∧ u.cell? ⟨b, off + (p + 1), none⟩ = some (.int .u8 m1) ∧ u.cell? ⟨b, off + (p + 2), none⟩ = some (.int .u8 m2))) (by kernel_rfl) (unhide SK _ (unhide D0)) (fun hHeld => ?_)
    refine anyH_take 0 50 (v := ?v1) rfl rfl (by kernel_rfl) (by kernel_rfl) (by kernel_rfl) (fun _ _ _ h => h) (by rfl) ?h1 hHeld ?r1
    case h1 => (intro w hSw; (try dsimp only at hSw); go_simp; try (with_reducible rfl))
    simp only [Act.put, List.setIfInBounds_toArray, List.set_cons_zero, List.set_cons_succ]
    refine anyH_take 1 51 (v := ?v2) rfl rfl (by kernel_rfl) (by kernel_rfl) (by kernel_rfl) (fun _ _ _ h => h) (by rfl) ?h2 hHeld ?r2
    case h2 => (intro w hSw; (try dsimp only at hSw); go_simp; try (with_reducible rfl))
    simp only [Act.put, List.setIfInBounds_toArray, List.set_cons_zero, List.set_cons_succ]
    refine anyH_take 2 52 (v := ?v3) rfl rfl (by kernel_rfl) (by kernel_rfl) (by kernel_rfl) (fun _ _ _ h => h) (by rfl) ?h3 hHeld ?r3
    case h3 => (intro w hSw; (try dsimp only at hSw); go_simp; try (with_reducible rfl))
    simp only [Act.put, List.setIfInBounds_toArray, List.set_cons_zero, List.set_cons_succ]
    refine anyH_take 3 53 (v := ?v4) rfl rfl (by kernel_rfl) (by kernel_rfl) (by kernel_rfl) (fun _ _ _ h => h) (by rfl) ?h4 hHeld ?r4
    case h4 => (intro w hSw; (try dsimp only at hSw); go_simp; try (with_reducible rfl))
    simp only [Act.put, List.setIfInBounds_toArray, List.set_cons_zero, List.set_cons_succ]
    refine anyH_take 4 54 (v := ?v5) rfl rfl (by kernel_rfl) (by kernel_rfl) (by kernel_rfl) (fun _ _ _ h => h) (by rfl) ?h5 hHeld ?r5
    case h5 => (intro w hSw; (try dsimp only at hSw); go_simp; try (with_reducible rfl))
    simp only [Act.put, List.setIfInBounds_toArray, List.set_cons_zero, List.set_cons_succ]
    refine anyH_take 5 55 (v := ?v6) rfl rfl (by kernel_rfl) (by kernel_rfl) (by kernel_rfl) (fun _ _ _ h => h) (by rfl) ?h6 hHeld ?r6
    case h6 => (intro w hSw; (try dsimp only at hSw); go_simp; try (with_reducible rfl))
    simp only [Act.put, List.setIfInBounds_toArray, List.set_cons_zero, List.set_cons_succ]
    refine anyH_take 6 56 (v := ?v7) rfl rfl (by kernel_rfl) (by kernel_rfl) (by kernel_rfl) (fun _ _ _ h => h) (by rfl) ?h7 hHeld ?r7
    case h7 => (intro w hSw; (try dsimp only at hSw); go_simp; try (with_reducible rfl))
    simp only [Act.put, List.setIfInBounds_toArray, List.set_cons_zero, List.set_cons_succ]
    refine anyH_take 7 57 (v := ?v8) rfl rfl (by kernel_rfl) (by kernel_rfl) (by kernel_rfl) (fun _ _ _ h => h) (by rfl) ?h8 hHeld ?r8
    case h8 => (intro w hSw; (try dsimp only at hSw); go_simp; try (with_reducible rfl))
    simp only [Act.put, List.setIfInBounds_toArray, List.set_cons_zero, List.set_cons_succ]
    refine anyH_take 8 58 (v := ?v9) rfl rfl (by kernel_rfl) (by kernel_rfl) (by kernel_rfl) (fun _ _ _ h => h) (by rfl) ?h9 hHeld ?r9
    case h9 => (intro w hSw; (try dsimp only at hSw); go_simp; try (with_reducible rfl))
    simp only [Act.put, List.setIfInBounds_toArray, List.set_cons_zero, List.set_cons_succ]
    refine anyH_take 9 59 (v := ?v10) rfl rfl (by kernel_rfl) (by kernel_rfl) (by kernel_rfl) (fun _ _ _ h => h) (by rfl) ?h10 hHeld ?r10
    case h10 => (intro w hSw; (try dsimp only at hSw); go_simp; try (with_reducible rfl))
    simp only [Act.put, List.setIfInBounds_toArray, List.set_cons_zero, List.set_cons_succ]
    refine anyH_take 10 60 (v := ?v11) rfl rfl (by kernel_rfl) (by kernel_rfl) (by kernel_rfl) (fun _ _ _ h => h) (by rfl) ?h11 hHeld ?r11
    case h11 => (intro w hSw; (try dsimp only at hSw); go_simp; try (with_reducible rfl))
    simp only [Act.put, List.setIfInBounds_toArray, List.set_cons_zero, List.set_cons_succ]
    refine anyH_take 11 61 (v := ?v12) rfl rfl (by kernel_rfl) (by kernel_rfl) (by kernel_rfl) (fun _ _ _ h => h) (by rfl) ?h12 hHeld ?r12
    case h12 => (intro w hSw; (try dsimp only at hSw); go_simp; try (with_reducible rfl))
    simp only [Act.put, List.setIfInBounds_toArray, List.set_cons_zero, List.set_cons_succ]
    refine anyH_take 12 62 (v := ?v13) rfl rfl (by kernel_rfl) (by kernel_rfl) (by kernel_rfl) (fun _ _ _ h => h) (by rfl) ?h13 hHeld ?r13
    case h13 => (intro w hSw; (try dsimp only at hSw); go_simp; try (with_reducible rfl))
    simp only [Act.put, List.setIfInBounds_toArray, List.set_cons_zero, List.set_cons_succ]
    refine anyH_take 13 63 (v := ?v14) rfl rfl (by kernel_rfl) (by kernel_rfl) (by kernel_rfl) (fun _ _ _ h => h) (by rfl) ?h14 hHeld ?r14
    case h14 => (intro w hSw; (try dsimp only at hSw); go_simp; try (with_reducible rfl))
    simp only [Act.put, List.setIfInBounds_toArray, List.set_cons_zero, List.set_cons_succ]
    refine anyH_take 14 64 (v := ?v15) rfl rfl (by kernel_rfl) (by kernel_rfl) (by kernel_rfl) (fun _ _ _ h => h) (by rfl) ?h15 hHeld ?r15
    case h15 => (intro w hSw; (try dsimp only at hSw); go_simp; try (with_reducible rfl))
    simp only [Act.put, List.setIfInBounds_toArray, List.set_cons_zero, List.set_cons_succ]
    refine anyH_take 15 65 (v := ?v16) rfl rfl (by kernel_rfl) (by kernel_rfl) (by kernel_rfl) (fun _ _ _ h => h) (by rfl) ?h16 hHeld ?r16
    case h16 => (intro w hSw; (try dsimp only at hSw); go_simp; try (with_reducible rfl))
    simp only [Act.put, List.setIfInBounds_toArray, List.set_cons_zero, List.set_cons_succ]
    refine anyH_take 16 66 (v := ?v17) rfl rfl (by kernel_rfl) (by kernel_rfl) (by kernel_rfl) (fun _ _ _ h => h) (by rfl) ?h17 hHeld ?r17
    case h17 => (intro w hSw; (try dsimp only at hSw); go_simp; try (with_reducible rfl))
    simp only [Act.put, List.setIfInBounds_toArray, List.set_cons_zero, List.set_cons_succ]
    refine anyH_take 17 67 (v := ?v18) rfl rfl (by kernel_rfl) (by kernel_rfl) (by kernel_rfl) (fun _ _ _ h => h) (by rfl) ?h18 hHeld ?r18
    case h18 => (intro w hSw; (try dsimp only at hSw); go_simp; try (with_reducible rfl))
    simp only [Act.put, List.setIfInBounds_toArray, List.set_cons_zero, List.set_cons_succ]
    refine anyH_take 18 68 (v := ?v19) rfl rfl (by kernel_rfl) (by kernel_rfl) (by kernel_rfl) (fun _ _ _ h => h) (by rfl) ?h19 hHeld ?r19
    case h19 => (intro w hSw; (try dsimp only at hSw); go_simp; try (with_reducible rfl))
    simp only [Act.put, List.setIfInBounds_toArray, List.set_cons_zero, List.set_cons_succ]
    refine anyH_take 20 70 (v := ?v20) rfl rfl (by kernel_rfl) (by kernel_rfl) (by kernel_rfl) (fun _ _ _ h => h) (by rfl) ?h20 hHeld ?r20
    case h20 => (intro w hSw; (try dsimp only at hSw); go_simp; try (with_reducible rfl))
    simp only [Act.put, List.setIfInBounds_toArray, List.set_cons_zero, List.set_cons_succ]
    refine anyH_take 21 71 (v := ?v21) rfl rfl (by kernel_rfl) (by kernel_rfl) (by kernel_rfl) (fun _ _ _ h => h) (by rfl) ?h21 hHeld ?r21
    case h21 => (intro w hSw; (try dsimp only at hSw); go_simp; try (with_reducible rfl))
    simp only [Act.put, List.setIfInBounds_toArray, List.set_cons_zero, List.set_cons_succ]
    refine anyH_take 22 72 (v := ?v22) rfl rfl (by kernel_rfl) (by kernel_rfl) (by kernel_rfl) (fun _ _ _ h => h) (by rfl) ?h22 hHeld ?r22
    case h22 => (intro w hSw; (try dsimp only at hSw); go_simp; try (with_reducible rfl))
    simp only [Act.put, List.setIfInBounds_toArray, List.set_cons_zero, List.set_cons_succ]
    refine anyH_take 23 73 (v := ?v23) rfl rfl (by kernel_rfl) (by kernel_rfl) (by kernel_rfl) (fun _ _ _ h => h) (by rfl) ?h23 hHeld ?r23
    case h23 => (intro w hSw; (try dsimp only at hSw); go_simp; try (with_reducible rfl))
    simp only [Act.put, List.setIfInBounds_toArray, List.set_cons_zero, List.set_cons_succ]
    refine anyH_take 24 74 (v := ?v24) rfl rfl (by kernel_rfl) (by kernel_rfl) (by kernel_rfl) (fun _ _ _ h => h) (by rfl) ?h24 hHeld ?r24
    case h24 => (intro w hSw; (try dsimp only at hSw); go_simp; try (with_reducible rfl))
    simp only [Act.put, List.setIfInBounds_toArray, List.set_cons_zero, List.set_cons_succ]
    refine anyH_take 25 75 (v := ?v25) rfl rfl (by kernel_rfl) (by kernel_rfl) (by kernel_rfl) (fun _ _ _ h => h) (by rfl) ?h25 hHeld ?r25
    case h25 => (intro w hSw; (try dsimp only at hSw); go_simp; try (with_reducible rfl))
    simp only [Act.put, List.setIfInBounds_toArray, List.set_cons_zero, List.set_cons_succ]
    refine anyH_take 26 76 (v := ?v26) rfl rfl (by kernel_rfl) (by kernel_rfl) (by kernel_rfl) (fun _ _ _ h => h) (by rfl) ?h26 hHeld ?r26
    case h26 => (intro w hSw; (try dsimp only at hSw); go_simp; try (with_reducible rfl))
    simp only [Act.put, List.setIfInBounds_toArray, List.set_cons_zero, List.set_cons_succ]
    refine anyH_take 27 77 (v := ?v27) rfl rfl (by kernel_rfl) (by kernel_rfl) (by kernel_rfl) (fun _ _ _ h => h) (by rfl) ?h27 hHeld ?r27
    case h27 => (intro w hSw; (try dsimp only at hSw); go_simp; try (with_reducible rfl))
    simp only [Act.put, List.setIfInBounds_toArray, List.set_cons_zero, List.set_cons_succ]
    refine wpAnyH_ready (rs := [19, 30]) (by kernel_rfl) (by simp) ?_
    refine AllReadyH.cons rfl (fun K hK => ?_) (AllReadyH.cons rfl (fun K hK => ?_) AllReadyH.nil)
    · have hb : Below w2.drew.heap.size w2.drew (w2.drew.alloc (.cells #[] 5)) := (Below.refl _ _).alloc (Nat.le_refl _) _
      have D19 := hide ((unhide D0).trans (hb.mono (unhide D0).size))
      have OE19 := hide (show Owns (w2.drew.alloc (.cells #[] 5)) w2.heap.size (.slice (some ⟨w2.heap.size, 0, none⟩) 0 0) [] from (by have h : Owns (w2.drew.alloc (.cells #[] 5)) w2.heap.size (.slice (some ⟨w2.drew.heap.size, 0, none⟩) 0 0) [] := World.ownsRow_lit _ _ _ (unhide D0).size (by unfold maxLen; simp) rfl; exact h))
      clear hb
      go_simp
      refine hK.out _ _ (unhide SK _ (unhide D19)) (fun hHeld => ?_)
      clear hK K
      refine wpAnyH_ready (rs := [28, 30]) (by kernel_rfl) (by simp) ?_
      refine AllReadyH.cons rfl (fun K hK => ?_) (AllReadyH.cons rfl (fun K hK => ?_) AllReadyH.nil)
      · obtain ⟨g, cp, u19_28, hrun, ho, hgq, hg⟩ := unhide AP _ _ (unhide D19) (unhide OE19)
        have hb : Below w2.heap.size (w2.drew.alloc (.cells #[] 5)) u19_28 := (Below.refl _ _).grown hg (unhide D19).size (fun i hi => by have e : w2.heap.size = i := (by simpa using hi); have := (unhide D0).size; omega)
        have D19_28 := hide ((unhide D19).trans hb)
        have OX19_28 := hide ho
        refine sc_stepApp rfl (.tmp 69) (.tmp 77) 22 rfl _ _ _ u19_28 (by first | rfl | (simp [Act.eval]; done) | (simp [Act.eval, Act.put]; done)) (by first | rfl | (simp [Act.eval]; done) | (simp [Act.eval, Act.put]; done)) hrun ?_
        refine hK.out _ _ (unhide SK _ (unhide D19_28)) (fun hHeld => ?_)
        clear hK K
        clear hb ho hgq hg hrun
        refine anyH_take 29 79 (v := ?v28) rfl rfl (by kernel_rfl) (by kernel_rfl) (by kernel_rfl) (fun _ _ _ h => h) (by rfl) ?h28 hHeld ?r28
        case h28 => (intro w hSw; (try dsimp only at hSw); go_simp; try (with_reducible rfl))
        simp only [Act.put, List.setIfInBounds_toArray]
        refine wpAnyH_ready (rs := [30]) (by kernel_rfl) (by simp) ?_
        refine AllReadyH.cons rfl (fun K hK => ?_) AllReadyH.nil
        have hb : Below u19_28.heap.size u19_28 (u19_28.alloc (.cells #[.int .i64 0, .bool false, .slice none 0 0] 45)) := (Below.refl _ _).alloc (Nat.le_refl _) _
        have D19_28_30 := hide ((unhide D19_28).trans (hb.mono (unhide D19_28).size))
        have KX19_28_30 := hide (show (u19_28.alloc (.cells #[.int .i64 0, .bool false, .slice none 0 0] 45)).heap[u19_28.heap.size]? = some (.cells #[.int .i64 0, .bool false, .slice none 0 0] 45 (0, 0)) from (by have h := heap_alloc_new u19_28 (.cells #[.int .i64 0, .bool false, .slice none 0 0] 45); exact h))
        have OX19_28_30 := hide (owns_below (unhide OX19_28) hb)
        have NX19_28_30 : g ≠ u19_28.heap.size := fun e => by have h1 := (sc_g (unhide OX19_28)).2; omega
        clear hb
        go_simp
        refine hK.out _ _ (unhide SK _ (unhide D19_28_30)) (fun hHeld => ?_)
        clear hK K
        refine wpAnyH_ready (rs := [31]) (by kernel_rfl) (by simp) ?_
        refine AllReadyH.cons rfl (fun K hK => ?_) AllReadyH.nil
        have y0 : (u19_28.alloc (.cells #[.int .i64 0, .bool false, .slice none 0 0] 45)).cell? ⟨u19_28.heap.size, 0, none⟩ = some (.int .i64 0) := (heap_at (unhide KX19_28_30) 0).1
        have y1 : (u19_28.alloc (.cells #[.int .i64 0, .bool false, .slice none 0 0] 45)).cell? ⟨u19_28.heap.size, 1, none⟩ = some (.bool false) := (heap_at (unhide KX19_28_30) 1).1
        have y2 : (u19_28.alloc (.cells #[.int .i64 0, .bool false, .slice none 0 0] 45)).cell? ⟨u19_28.heap.size, 2, none⟩ = some (.slice none 0 0) := (heap_at (unhide KX19_28_30) 2).1
        have f0 : (u19_28.alloc (.cells #[.int .i64 0, .bool false, .slice none 0 0] 45)).frozen? ⟨u19_28.heap.size, 0, none⟩ = false := (heap_at (unhide KX19_28_30) 0).2
        have f1 : (u19_28.alloc (.cells #[.int .i64 0, .bool false, .slice none 0 0] 45)).frozen? ⟨u19_28.heap.size, 1, none⟩ = false := (heap_at (unhide KX19_28_30) 1).2
        have f2 : (u19_28.alloc (.cells #[.int .i64 0, .bool false, .slice none 0 0] 45)).frozen? ⟨u19_28.heap.size, 2, none⟩ = false := (heap_at (unhide KX19_28_30) 2).2
        have BX := hide (ImBox.of_new (X := X) (unhide OX19_28) (unhide D19_28))
        go_simp
        refine hK.out _ _ (unhide SK _ (unhide BX).bel) (fun hHeld => ?_)
        clear hK K
        refine wpAnyH_done (by kernel_rfl) ?_ _
        go_wp2_with fail
        go_meet
        case rel => exact ⟨_, _, _, rfl, unhide BX⟩
      · have hb : Below (w2.drew.alloc (.cells #[] 5)).heap.size (w2.drew.alloc (.cells #[] 5)) ((w2.drew.alloc (.cells #[] 5)).alloc (.cells #[.int .i64 0, .bool false, .slice none 0 0] 45)) := (Below.refl _ _).alloc (Nat.le_refl _) _
        have D19_30 := hide ((unhide D19).trans (hb.mono (unhide D19).size))
        have hz : (w2.drew.alloc (.cells #[] 5)).heap.size = w2.heap.size + 1 := by simp
        have KX19_30 := hide (show ((w2.drew.alloc (.cells #[] 5)).alloc (.cells #[.int .i64 0, .bool false, .slice none 0 0] 45)).heap[w2.heap.size + 1]? = some (.cells #[.int .i64 0, .bool false, .slice none 0 0] 45 (0, 0)) from (by have h := heap_alloc_new (w2.drew.alloc (.cells #[] 5)) (.cells #[.int .i64 0, .bool false, .slice none 0 0] 45); rw [hz] at h; exact h))
        have OE19_30 := hide (owns_below (unhide OE19) hb)
        clear hb hz
        go_simp
        refine hK.out _ _ (unhide SK _ (unhide D19_30)) (fun hHeld => ?_)
        clear hK K
        refine wpAnyH_ready (rs := [28]) (by kernel_rfl) (by simp) ?_
        refine AllReadyH.cons rfl (fun K hK => ?_) AllReadyH.nil
        obtain ⟨g, cp, u19_30_28, hrun, ho, hgq, hg⟩ := unhide AP _ _ (unhide D19_30) (unhide OE19_30)
        have hb : Below w2.heap.size ((w2.drew.alloc (.cells #[] 5)).alloc (.cells #[.int .i64 0, .bool false, .slice none 0 0] 45)) u19_30_28 := (Below.refl _ _).grown hg (unhide D19_30).size (fun i hi => by have e : w2.heap.size = i := (by simpa using hi); have := (unhide D0).size; omega)
        have D19_30_28 := hide ((unhide D19_30).trans hb)
        have OX19_30_28 := hide ho
        have KX19_30_28 := hide ((hg.block (w2.heap.size + 1) (by exact (Array.getElem?_eq_some_iff.1 (unhide KX19_30)).1) (fun e => by injection e with e; omega)).trans (unhide KX19_30))
        have NX19_30_28 : g ≠ w2.heap.size + 1 := fun e => by have hk := (Array.getElem?_eq_some_iff.1 (unhide KX19_30)).1; rcases hgq with h | h <;> (rw [h] at e; simp at e hk; try omega)
        refine sc_stepApp rfl (.tmp 69) (.tmp 77) 22 rfl _ _ _ u19_30_28 (by first | rfl | (simp [Act.eval]; done) | (simp [Act.eval, Act.put]; done)) (by first | rfl | (simp [Act.eval]; done) | (simp [Act.eval, Act.put]; done)) hrun ?_
        refine hK.out _ _ (unhide SK _ (unhide D19_30_28)) (fun hHeld => ?_)
        clear hK K
        clear hb ho hgq hg hrun
        refine anyH_take 29 79 (v := ?v29) rfl rfl (by kernel_rfl) (by kernel_rfl) (by kernel_rfl) (fun _ _ _ h => h) (by rfl) ?h29 hHeld ?r29
        case h29 => (intro w hSw; (try dsimp only at hSw); go_simp; try (with_reducible rfl))
        simp only [Act.put, List.setIfInBounds_toArray]
        refine wpAnyH_ready (rs := [31]) (by kernel_rfl) (by simp) ?_
        refine AllReadyH.cons rfl (fun K hK => ?_) AllReadyH.nil
        have y0 : u19_30_28.cell? ⟨w2.heap.size + 1, 0, none⟩ = some (.int .i64 0) := (heap_at (unhide KX19_30_28) 0).1
        have y1 : u19_30_28.cell? ⟨w2.heap.size + 1, 1, none⟩ = some (.bool false) := (heap_at (unhide KX19_30_28) 1).1
        have y2 : u19_30_28.cell? ⟨w2.heap.size + 1, 2, none⟩ = some (.slice none 0 0) := (heap_at (unhide KX19_30_28) 2).1
        have f0 : u19_30_28.frozen? ⟨w2.heap.size + 1, 0, none⟩ = false := (heap_at (unhide KX19_30_28) 0).2
        have f1 : u19_30_28.frozen? ⟨w2.heap.size + 1, 1, none⟩ = false := (heap_at (unhide KX19_30_28) 1).2
        have f2 : u19_30_28.frozen? ⟨w2.heap.size + 1, 2, none⟩ = false := (heap_at (unhide KX19_30_28) 2).2
        have BX := hide (ImBox.of_store (X := X) (unhide KX19_30_28) (unhide OX19_30_28) NX19_30_28 (by omega) (unhide D19_30_28))
        go_simp
        refine hK.out _ _ (unhide SK _ (unhide BX).bel) (fun hHeld => ?_)
        clear hK K
        refine wpAnyH_done (by kernel_rfl) ?_ _
        go_wp2_with fail
        go_meet
        case rel => exact ⟨_, _, _, rfl, unhide BX⟩
    · have hb : Below w2.drew.heap.size w2.drew (w2.drew.alloc (.cells #[.int .i64 0, .bool false, .slice none 0 0] 45)) := (Below.refl _ _).alloc (Nat.le_refl _) _
      have D30 := hide ((unhide D0).trans (hb.mono (unhide D0).size))
      have KX30 := hide (show (w2.drew.alloc (.cells #[.int .i64 0, .bool false, .slice none 0 0] 45)).heap[w2.heap.size]? = some (.cells #[.int .i64 0, .bool false, .slice none 0 0] 45 (0, 0)) from (by have h := heap_alloc_new w2.drew (.cells #[.int .i64 0, .bool false, .slice none 0 0] 45); exact h))
      clear hb
      go_simp
      refine hK.out _ _ (unhide SK _ (unhide D30)) (fun hHeld => ?_)
      clear hK K
      refine wpAnyH_ready (rs := [19]) (by kernel_rfl) (by simp) ?_
      refine AllReadyH.cons rfl (fun K hK => ?_) AllReadyH.nil
      have hb : Below (w2.drew.alloc (.cells #[.int .i64 0, .bool false, .slice none 0 0] 45)).heap.size (w2.drew.alloc (.cells #[.int .i64 0, .bool false, .slice none 0 0] 45)) ((w2.drew.alloc (.cells #[.int .i64 0, .bool false, .slice none 0 0] 45)).alloc (.cells #[] 5)) := (Below.refl _ _).alloc (Nat.le_refl _) _
      have D30_19 := hide ((unhide D30).trans (hb.mono (unhide D30).size))
      have hz : (w2.drew.alloc (.cells #[.int .i64 0, .bool false, .slice none 0 0] 45)).heap.size = w2.heap.size + 1 := by simp
      have KX30_19 := hide (sc_at_below (unhide KX30) hb)
      have OE30_19 := hide (show Owns ((w2.drew.alloc (.cells #[.int .i64 0, .bool false, .slice none 0 0] 45)).alloc (.cells #[] 5)) w2.heap.size (.slice (some ⟨w2.heap.size + 1, 0, none⟩) 0 0) [] from (by have h : Owns ((w2.drew.alloc (.cells #[.int .i64 0, .bool false, .slice none 0 0] 45)).alloc (.cells #[] 5)) w2.heap.size (.slice (some ⟨(w2.drew.alloc (.cells #[.int .i64 0, .bool false, .slice none 0 0] 45)).heap.size, 0, none⟩) 0 0) [] := World.ownsRow_lit _ _ _ (unhide D30).size (by unfold maxLen; simp) rfl; rw [hz] at h; exact h))
      clear hb hz
      go_simp
      refine hK.out _ _ (unhide SK _ (unhide D30_19)) (fun hHeld => ?_)
      clear hK K
      refine wpAnyH_ready (rs := [28]) (by kernel_rfl) (by simp) ?_
      refine AllReadyH.cons rfl (fun K hK => ?_) AllReadyH.nil
      obtain ⟨g, cp, u30_19_28, hrun, ho, hgq, hg⟩ := unhide AP _ _ (unhide D30_19) (unhide OE30_19)
      have hb : Below w2.heap.size ((w2.drew.alloc (.cells #[.int .i64 0, .bool false, .slice none 0 0] 45)).alloc (.cells #[] 5)) u30_19_28 := (Below.refl _ _).grown hg (unhide D30_19).size (fun i hi => by have e : w2.heap.size + 1 = i := (by simpa using hi); have := (unhide D30).size; omega)
      have D30_19_28 := hide ((unhide D30_19).trans hb)
      have OX30_19_28 := hide ho
      have KX30_19_28 := hide ((hg.block (w2.heap.size) (by exact (Array.getElem?_eq_some_iff.1 (unhide KX30_19)).1) (fun e => by injection e with e; omega)).trans (unhide KX30_19))
      have NX30_19_28 : g ≠ w2.heap.size := fun e => by have hk := (Array.getElem?_eq_some_iff.1 (unhide KX30_19)).1; rcases hgq with h | h <;> (rw [h] at e; simp at e hk; try omega)
      refine sc_stepApp rfl (.tmp 69) (.tmp 77) 22 rfl _ _ _ u30_19_28 (by first | rfl | (simp [Act.eval]; done) | (simp [Act.eval, Act.put]; done)) (by first | rfl | (simp [Act.eval]; done) | (simp [Act.eval, Act.put]; done)) hrun ?_
      refine hK.out _ _ (unhide SK _ (unhide D30_19_28)) (fun hHeld => ?_)
      clear hK K
      clear hb ho hgq hg hrun
      refine anyH_take 29 79 (v := ?v30) rfl rfl (by kernel_rfl) (by kernel_rfl) (by kernel_rfl) (fun _ _ _ h => h) (by rfl) ?h30 hHeld ?r30
      case h30 => (intro w hSw; (try dsimp only at hSw); go_simp; try (with_reducible rfl))
      simp only [Act.put, List.setIfInBounds_toArray]
      refine wpAnyH_ready (rs := [31]) (by kernel_rfl) (by simp) ?_
      refine AllReadyH.cons rfl (fun K hK => ?_) AllReadyH.nil
      have y0 : u30_19_28.cell? ⟨w2.heap.size, 0, none⟩ = some (.int .i64 0) := (heap_at (unhide KX30_19_28) 0).1
      have y1 : u30_19_28.cell? ⟨w2.heap.size, 1, none⟩ = some (.bool false) := (heap_at (unhide KX30_19_28) 1).1
      have y2 : u30_19_28.cell? ⟨w2.heap.size, 2, none⟩ = some (.slice none 0 0) := (heap_at (unhide KX30_19_28) 2).1
      have f0 : u30_19_28.frozen? ⟨w2.heap.size, 0, none⟩ = false := (heap_at (unhide KX30_19_28) 0).2
      have f1 : u30_19_28.frozen? ⟨w2.heap.size, 1, none⟩ = false := (heap_at (unhide KX30_19_28) 1).2
      have f2 : u30_19_28.frozen? ⟨w2.heap.size, 2, none⟩ = false := (heap_at (unhide KX30_19_28) 2).2
      have BX := hide (ImBox.of_store (X := X) (unhide KX30_19_28) (unhide OX30_19_28) NX30_19_28 (Nat.le_refl _) (unhide D30_19_28))
      go_simp
      refine hK.out _ _ (unhide SK _ (unhide BX).bel) (fun hHeld => ?_)
      clear hK K
      refine wpAnyH_done (by kernel_rfl) ?_ _
      go_wp2_with fail
      go_meet
      case rel => exact ⟨_, _, _, rfl, unhide BX⟩
  case rest =>
    obtain ⟨xb, g, cp, rfl, hbx⟩ := hcut
    have B3 := hide (B2.trans ((unhide hbx).bel.mono B2.size))
    have K3 := hide ((((unhide hbx).bel.block w.heap.size z2)).trans (unhide K2))
    have BX := hide (unhide hbx).box
    have OX := hide (unhide hbx).own
    have NEX : xb ≠ w.heap.size := by have := (unhide hbx).ge; omega
    have GGE : w2.heap.size ≤ g := (sc_g (unhide OX)).1
    clear hbx K2 C0 C1 C2 wra wrb wrc wrd wre wrf wrg wrh j1 j1' j1t j2 j2' j2t j5 j5' j6 j6' j7 j8 j9 ja jb hgx XR XD XG
    have SK := hide (show ∀ u, Below wc.heap.size wc u → (fun u => Below wc.heap.size wc u ∧ u.cell? ⟨xb, 0, none⟩ = some (.int .i64 X.id) ∧ u.cell? ⟨xb, 1, none⟩ = some (.bool X.gone) ∧ u.cell? ⟨xb, 2, none⟩ = some (.slice (some ⟨g, 0, none⟩) X.xs.length cp) ∧ (convert 22 9 (.slice (some ⟨b, off + p, none⟩) (X.xs.length + 9) (c - p))).run Try.prog u = .ok (.string (strOfNums Ys)) u) u from fun u hu => ⟨hu, (heap_at (sc_at_below (unhide BX) hu) 0).1, (heap_at (sc_at_below (unhide BX) hu) 1).1, (heap_at (sc_at_below (unhide BX) hu) 2).1, sc_conv (unhide XP u ((unhide B3).trans (hu.mono (unhide B3).size)))⟩)
    have D0 := hide (show Below wc.heap.size wc wc.drew from (Below.refl _ _).drew)
    have IMG := hide (fun (u : World) => l03Image_any X.id X.gone (some ⟨g, 0, none⟩) X.xs.length cp u (by unfold maxLen; omega))
    have k9 : (p : Int) ≤ (p : Int) + 9 + (X.xs.length : Int) := by omega
    have k9' : (p : Int) + 9 + (X.xs.length : Int) ≤ (c : Int) := by omega
    have k9a : (0 : Int) ≤ (p : Int) + 9 + (X.xs.length : Int) := by omega
    have k9b : max ((p : Int) + 9 + (X.xs.length : Int)) 0 = (p : Int) + 9 + (X.xs.length : Int) := by omega
    have k9t : ((p : Int) + 9 + (X.xs.length : Int)).toNat = p + 9 + X.xs.length := by omega
    have k9s : p + 9 + X.xs.length - p = X.xs.length + 9 := by omega
    have k9c : ¬ c = p := by omega
    go_upto_region 7 with fail
    cases hok : imOK X.id X.gone X.xs.length with
    | false =>
      have NN := hide (unhide NN3 hok)
      refine wp_region_held_drew (S := (fun u => Below wc.heap.size wc u ∧ u.cell? ⟨xb, 0, none⟩ = some (.int .i64 X.id) ∧ u.cell? ⟨xb, 1, none⟩ = some (.bool X.gone) ∧ u.cell? ⟨xb, 2, none⟩ = some (.slice (some ⟨g, 0, none⟩) X.xs.length cp) ∧ (convert 22 9 (.slice (some ⟨b, off + p, none⟩) (X.xs.length + 9) (c - p))).run Try.prog u = .ok (.string (strOfNums Ys)) u)) (by kernel_rfl) (unhide SK _ (unhide D0)) (fun hHeld => ?_)
      refine anyH_take 0 80 (v := ?v31) rfl rfl (by kernel_rfl) (by kernel_rfl) (by kernel_rfl) (fun _ _ _ h => h) (by rfl) ?h31 hHeld ?r31
      case h31 => (intro w hSw; (try dsimp only at hSw); go_simp; try (with_reducible rfl))
      simp only [Act.put, List.setIfInBounds_toArray, List.set_cons_zero, List.set_cons_succ]
      refine wpAnyH_ready (rs := [1]) (by kernel_rfl) (by simp) ?_
      refine AllReadyH.cons rfl (fun K hK => ?_) AllReadyH.nil
      go_simp
      refine (unhide IMG _).mono ?_
      rintro e v1 ⟨rfl, hb⟩
      have D1 := hide ((unhide D0).trans (hb.mono (unhide D0).size))
      clear hb
      rw [hok]
      refine hK.out _ _ (unhide SK _ (unhide D1)) (fun hHeld => ?_)
      clear hK K
      refine anyH_take 2 82 (v := ?v32) rfl rfl (by kernel_rfl) (by kernel_rfl) (by kernel_rfl) (fun _ _ _ h => h) (by rfl) ?h32 hHeld ?r32
      case h32 => (intro w hSw; (try dsimp only at hSw); go_simp; try (with_reducible rfl))
      simp only [Act.put, List.setIfInBounds_toArray, List.set_cons_zero, List.set_cons_succ]
      refine anyH_take 3 83 (v := ?v33) rfl rfl (by kernel_rfl) (by kernel_rfl) (by kernel_rfl) (fun _ _ _ h => h) (by rfl) ?h33 hHeld ?r33
      case h33 => (intro w hSw; (try dsimp only at hSw); go_simp; try (with_reducible rfl))
      simp only [Act.put, List.setIfInBounds_toArray, List.set_cons_zero, List.set_cons_succ]
      refine anyH_skip 4 84 rfl rfl (by kernel_rfl) (by kernel_rfl) (by kernel_rfl) (fun _ _ _ h => h) (by rfl) hHeld ?_
      simp only [Act.put, List.setIfInBounds_toArray, List.set_cons_zero, List.set_cons_succ]
      refine anyH_skip 5 85 rfl rfl (by kernel_rfl) (by kernel_rfl) (by kernel_rfl) (fun _ _ _ h => h) (by rfl) hHeld ?_
      simp only [Act.put, List.setIfInBounds_toArray, List.set_cons_zero, List.set_cons_succ]
      refine anyH_skip 6 86 rfl rfl (by kernel_rfl) (by kernel_rfl) (by kernel_rfl) (fun _ _ _ h => h) (by rfl) hHeld ?_
      simp only [Act.put, List.setIfInBounds_toArray, List.set_cons_zero, List.set_cons_succ]
      refine anyH_skip 7 87 rfl rfl (by kernel_rfl) (by kernel_rfl) (by kernel_rfl) (fun _ _ _ h => h) (by rfl) hHeld ?_
      simp only [Act.put, List.setIfInBounds_toArray, List.set_cons_zero, List.set_cons_succ]
      refine anyH_skip 8 88 rfl rfl (by kernel_rfl) (by kernel_rfl) (by kernel_rfl) (fun _ _ _ h => h) (by rfl) hHeld ?_
      simp only [Act.put, List.setIfInBounds_toArray, List.set_cons_zero, List.set_cons_succ]
      refine anyH_skip 9 89 rfl rfl (by kernel_rfl) (by kernel_rfl) (by kernel_rfl) (fun _ _ _ h => h) (by rfl) hHeld ?_
      simp only [Act.put, List.setIfInBounds_toArray, List.set_cons_zero, List.set_cons_succ]
      refine anyH_skip 10 90 rfl rfl (by kernel_rfl) (by kernel_rfl) (by kernel_rfl) (fun _ _ _ h => h) (by rfl) hHeld ?_
      simp only [Act.put, List.setIfInBounds_toArray, List.set_cons_zero, List.set_cons_succ]
      refine anyH_skip 11 91 rfl rfl (by kernel_rfl) (by kernel_rfl) (by kernel_rfl) (fun _ _ _ h => h) (by rfl) hHeld ?_
      simp only [Act.put, List.setIfInBounds_toArray, List.set_cons_zero, List.set_cons_succ]
      refine anyH_skip 12 92 rfl rfl (by kernel_rfl) (by kernel_rfl) (by kernel_rfl) (fun _ _ _ h => h) (by rfl) hHeld ?_
      simp only [Act.put, List.setIfInBounds_toArray, List.set_cons_zero, List.set_cons_succ]
      refine anyH_skip 13 93 rfl rfl (by kernel_rfl) (by kernel_rfl) (by kernel_rfl) (fun _ _ _ h => h) (by rfl) hHeld ?_
      simp only [Act.put, List.setIfInBounds_toArray, List.set_cons_zero, List.set_cons_succ]
      refine anyH_skip 14 94 rfl rfl (by kernel_rfl) (by kernel_rfl) (by kernel_rfl) (fun _ _ _ h => h) (by rfl) hHeld ?_
      simp only [Act.put, List.setIfInBounds_toArray, List.set_cons_zero, List.set_cons_succ]
      refine anyH_skip 15 95 rfl rfl (by kernel_rfl) (by kernel_rfl) (by kernel_rfl) (fun _ _ _ h => h) (by rfl) hHeld ?_
      simp only [Act.put, List.setIfInBounds_toArray, List.set_cons_zero, List.set_cons_succ]
      refine anyH_take 16 96 (v := ?v34) rfl rfl (by kernel_rfl) (by kernel_rfl) (by kernel_rfl) (fun _ _ _ h => h) (by rfl) ?h34 hHeld ?r34
      case h34 => (intro w hSw; (try dsimp only at hSw); go_simp; try (with_reducible rfl))
      simp only [Act.put, List.setIfInBounds_toArray, List.set_cons_zero, List.set_cons_succ]
      refine wpAnyH_done (by kernel_rfl) ?_ _
      have BF := (unhide B3).trans ((unhide D1).mono (unhide B3).size)
      have KF := hide (sc_at_below (unhide K3) (unhide D1))
      clear NN3 NN4 NY4 XP XB HD OX SK IMG hHeld
      have y0 : v1.cell? ⟨w.heap.size, 0, none⟩ = some (.int .i64 0) := (heap_at (unhide KF) 0).1
      have y1 : v1.cell? ⟨w.heap.size, 1, none⟩ = some (.bool false) := (heap_at (unhide KF) 1).1
      have y2 : v1.cell? ⟨w.heap.size, 2, none⟩ = some (.slice none 0 0) := (heap_at (unhide KF) 2).1
      have f0 : v1.frozen? ⟨w.heap.size, 0, none⟩ = false := (heap_at (unhide KF) 0).2
      have f1 : v1.frozen? ⟨w.heap.size, 1, none⟩ = false := (heap_at (unhide KF) 1).2
      have f2 : v1.frozen? ⟨w.heap.size, 2, none⟩ = false := (heap_at (unhide KF) 2).2
      go_wp2_with fail
      refine bodyPost_ret (v := .tuple #[iv 0 false none 0 0, .bool false]) (by unfold iv; simp [results, Try.results108, go_sem, *] <;> rfl) rfl ?_
      exact unhide NO _ (unhide NN) (SB _ BF)
    | true =>
      have CPL : X.xs.length ≤ cp := by
        rcases (unhide OX).2 with ⟨e, _⟩ | ⟨g', cap, cur, e, _, _, h1, _⟩
        · cases e
        · injection e with _ _ e
          subst e
          exact h1
      have RX : Row wc (some ⟨g, 0, none⟩) X.xs.length X.xs := by
        obtain ⟨g', cap', e, hr⟩ := owns_row (unhide OX) (by simp)
        injection e with e1 e2 e3
        injection e1 with e1
        injection e1 with e1
        subst e1
        exact hr
      have IB := hide (fun (u : World) (hu : Below wc.heap.size wc u) => l03Bytes_any X.id X.gone g 0 cp X.xs u CPL hok (row_grow' RX hu) (unhide XB))
      clear CPL RX
      have ESTR := hide (sc_strs (imgL_bytes (id := X.id) (gone := X.gone) (unhide XB) (by omega) (by omega) (by omega)) (unhide HD))
      by_cases hmt : Ys = imgL X.id X.gone X.xs
      · have NS := hide (unhide NY4 hok hmt)
        have hst : ((strOfNums (imgL X.id X.gone X.xs)).toList == (strOfNums Ys).toList) = true := by rw [unhide ESTR]; exact decide_eq_true hmt.symm
        refine wp_region_held_drew (S := (fun u => Below wc.heap.size wc u ∧ u.cell? ⟨xb, 0, none⟩ = some (.int .i64 X.id) ∧ u.cell? ⟨xb, 1, none⟩ = some (.bool X.gone) ∧ u.cell? ⟨xb, 2, none⟩ = some (.slice (some ⟨g, 0, none⟩) X.xs.length cp) ∧ (convert 22 9 (.slice (some ⟨b, off + p, none⟩) (X.xs.length + 9) (c - p))).run Try.prog u = .ok (.string (strOfNums Ys)) u)) (by kernel_rfl) (unhide SK _ (unhide D0)) (fun hHeld => ?_)
        refine anyH_take 0 80 (v := ?v35) rfl rfl (by kernel_rfl) (by kernel_rfl) (by kernel_rfl) (fun _ _ _ h => h) (by rfl) ?h35 hHeld ?r35
        case h35 => (intro w hSw; (try dsimp only at hSw); go_simp; try (with_reducible rfl))
        simp only [Act.put, List.setIfInBounds_toArray, List.set_cons_zero, List.set_cons_succ]
        refine wpAnyH_ready (rs := [1]) (by kernel_rfl) (by simp) ?_
        refine AllReadyH.cons rfl (fun K hK => ?_) AllReadyH.nil
        go_simp
        refine (unhide IMG _).mono ?_
        rintro e v1 ⟨rfl, hb⟩
        have D1 := hide ((unhide D0).trans (hb.mono (unhide D0).size))
        clear hb
        rw [hok]
        refine hK.out _ _ (unhide SK _ (unhide D1)) (fun hHeld => ?_)
        clear hK K
        refine anyH_take 2 82 (v := ?v36) rfl rfl (by kernel_rfl) (by kernel_rfl) (by kernel_rfl) (fun _ _ _ h => h) (by rfl) ?h36 hHeld ?r36
        case h36 => (intro w hSw; (try dsimp only at hSw); go_simp; try (with_reducible rfl))
        simp only [Act.put, List.setIfInBounds_toArray, List.set_cons_zero, List.set_cons_succ]
        refine anyH_take 3 83 (v := ?v37) rfl rfl (by kernel_rfl) (by kernel_rfl) (by kernel_rfl) (fun _ _ _ h => h) (by rfl) ?h37 hHeld ?r37
        case h37 => (intro w hSw; (try dsimp only at hSw); go_simp; try (with_reducible rfl))
        simp only [Act.put, List.setIfInBounds_toArray, List.set_cons_zero, List.set_cons_succ]
        refine anyH_take 4 84 (v := ?v38) rfl rfl (by kernel_rfl) (by kernel_rfl) (by kernel_rfl) (fun _ _ _ h => h) (by rfl) ?h38 hHeld ?r38
        case h38 => (intro w hSw; (try dsimp only at hSw); go_simp; try (with_reducible rfl))
        simp only [Act.put, List.setIfInBounds_toArray, List.set_cons_zero, List.set_cons_succ]
        refine anyH_take 7 87 (v := ?v39) rfl rfl (by kernel_rfl) (by kernel_rfl) (by kernel_rfl) (fun _ _ _ h => h) (by rfl) ?h39 hHeld ?r39
        case h39 => (intro w hSw; (try dsimp only at hSw); go_simp; try (with_reducible rfl))
        simp only [Act.put, List.setIfInBounds_toArray, List.set_cons_zero, List.set_cons_succ]
        refine anyH_take 8 88 (v := ?v40) rfl rfl (by kernel_rfl) (by kernel_rfl) (by kernel_rfl) (fun _ _ _ h => h) (by rfl) ?h40 hHeld ?r40
        case h40 => (intro w hSw; (try dsimp only at hSw); go_simp; try (with_reducible rfl))
        simp only [Act.put, List.setIfInBounds_toArray, List.set_cons_zero, List.set_cons_succ]
        refine anyH_take 9 89 (v := ?v41) rfl rfl (by kernel_rfl) (by kernel_rfl) (by kernel_rfl) (fun _ _ _ h => h) (by rfl) ?h41 hHeld ?r41
        case h41 => (intro w hSw; (try dsimp only at hSw); go_simp; try (with_reducible rfl))
        simp only [Act.put, List.setIfInBounds_toArray, List.set_cons_zero, List.set_cons_succ]
        refine anyH_take 10 90 (v := ?v42) rfl rfl (by kernel_rfl) (by kernel_rfl) (by kernel_rfl) (fun _ _ _ h => h) (by rfl) ?h42 hHeld ?r42
        case h42 => (intro w hSw; (try dsimp only at hSw); go_simp; try (with_reducible rfl))
        simp only [Act.put, List.setIfInBounds_toArray, List.set_cons_zero, List.set_cons_succ]
        refine anyH_take 11 91 (v := ?v43) rfl rfl (by kernel_rfl) (by kernel_rfl) (by kernel_rfl) (fun _ _ _ h => h) (by rfl) ?h43 hHeld ?r43
        case h43 => (intro w hSw; (try dsimp only at hSw); go_simp; try (with_reducible rfl))
        simp only [Act.put, List.setIfInBounds_toArray, List.set_cons_zero, List.set_cons_succ]
        refine anyH_take 12 92 (v := ?v44) rfl rfl (by kernel_rfl) (by kernel_rfl) (by kernel_rfl) (fun _ _ _ h => h) (by rfl) ?h44 hHeld ?r44
        case h44 => (intro w hSw; (try dsimp only at hSw); go_simp; try (with_reducible rfl))
        simp only [Act.put, List.setIfInBounds_toArray, List.set_cons_zero, List.set_cons_succ]
        refine anyH_take 13 93 (v := ?v45) rfl rfl (by kernel_rfl) (by kernel_rfl) (by kernel_rfl) (fun _ _ _ h => h) (by rfl) ?h45 hHeld ?r45
        case h45 => (intro w hSw; (try dsimp only at hSw); go_simp; try (with_reducible rfl))
        simp only [Act.put, List.setIfInBounds_toArray, List.set_cons_zero, List.set_cons_succ]
        refine anyH_take 14 94 (v := ?v46) rfl rfl (by kernel_rfl) (by kernel_rfl) (by kernel_rfl) (fun _ _ _ h => h) (by rfl) ?h46 hHeld ?r46
        case h46 => (intro w hSw; (try dsimp only at hSw); go_simp; try (with_reducible rfl))
        simp only [Act.put, List.setIfInBounds_toArray, List.set_cons_zero, List.set_cons_succ]
        refine wpAnyH_ready (rs := [5]) (by kernel_rfl) (by simp) ?_
        refine AllReadyH.cons rfl (fun K hK => ?_) AllReadyH.nil
        go_simp
        refine (unhide IB _ (unhide D1)).mono ?_
        rintro e v1_5 ⟨vv, rfl, ho3, hv3, hb⟩
        have D1_5 := hide ((unhide D1).trans (hb.mono (unhide D1).size))
        obtain ⟨g3, c3, rfl, hr3⟩ := owns_row ho3 hv3
        have CV := sc_conv (c := c3) hr3
        clear hb ho3 hv3 hr3
        refine hK.out _ _ (unhide SK _ (unhide D1_5)) (fun hHeld => ?_)
        clear hK K
        refine wpAnyH_ready (rs := [6]) (by kernel_rfl) (by simp) ?_
        refine AllReadyH.cons rfl (fun K hK => ?_) AllReadyH.nil
        have D1_5_6 := D1_5
        refine sc_stepConv (by rfl) (.tmp 85) 22 9 rfl _ _ (by first | rfl | (simp [Act.eval]; done) | (simp [Act.eval, Act.put]; done)) CV ?_
        refine hK.out _ _ (unhide SK _ (unhide D1_5)) (fun hHeld => ?_)
        clear hK K
        simp only [Act.put, List.setIfInBounds_toArray]
        refine anyH_take 15 95 (v := ?v47) rfl rfl (by kernel_rfl) (by kernel_rfl) (by kernel_rfl) (fun _ _ _ h => h) (by rfl) ?h47 hHeld ?r47
        case h47 => (intro w hSw; (try dsimp only at hSw); go_simp; try (with_reducible rfl))
        simp only [Act.put]
        refine anyH_take 16 96 (v := ?v48) rfl rfl (by kernel_rfl) (by kernel_rfl) (by kernel_rfl) (fun _ _ _ h => h) (by rfl) ?h48 hHeld ?r48
        case h48 => (intro w hSw; (try dsimp only at hSw); go_simp; try (with_reducible rfl))
        simp only [Act.put]
        refine wpAnyH_done (by kernel_rfl) ?_ _
        have BF := (unhide B3).trans ((unhide D1_5_6).mono (unhide B3).size)
        have KF := hide (sc_at_below (unhide K3) (unhide D1_5_6))
        have OF := hide (owns_below (unhide OX) (unhide D1_5_6))
        have BXF := hide (sc_at_below (unhide BX) (unhide D1_5_6))
        clear NN3 NN4 NY4 XP XB HD OX SK IMG IB CV hHeld
        have y0 : v1_5.cell? ⟨w.heap.size, 0, none⟩ = some (.int .i64 0) := (heap_at (unhide KF) 0).1
        have y1 : v1_5.cell? ⟨w.heap.size, 1, none⟩ = some (.bool false) := (heap_at (unhide KF) 1).1
        have y2 : v1_5.cell? ⟨w.heap.size, 2, none⟩ = some (.slice none 0 0) := (heap_at (unhide KF) 2).1
        have f0 : v1_5.frozen? ⟨w.heap.size, 0, none⟩ = false := (heap_at (unhide KF) 0).2
        have f1 : v1_5.frozen? ⟨w.heap.size, 1, none⟩ = false := (heap_at (unhide KF) 1).2
        have f2 : v1_5.frozen? ⟨w.heap.size, 2, none⟩ = false := (heap_at (unhide KF) 2).2
        have x0 : v1_5.cell? ⟨xb, 0, none⟩ = some (.int .i64 X.id) := (heap_at (unhide BXF) 0).1
        have x1 : v1_5.cell? ⟨xb, 1, none⟩ = some (.bool X.gone) := (heap_at (unhide BXF) 1).1
        have x2 : v1_5.cell? ⟨xb, 2, none⟩ = some (.slice (some ⟨g, 0, none⟩) X.xs.length cp) := (heap_at (unhide BXF) 2).1
        have hne : g ≠ w.heap.size := by omega
        have FB := hide (show Below w.heap.size w (((v1_5.setCell ⟨w.heap.size, 0, none⟩ (.int .i64 X.id)).setCell ⟨w.heap.size, 1, none⟩ (.bool X.gone)).setCell ⟨w.heap.size, 2, none⟩ (.slice (some ⟨g, 0, none⟩) X.xs.length cp)) from ((BF.setCell (p := ⟨w.heap.size, 0, none⟩) q3 _).setCell (p := ⟨w.heap.size, 1, none⟩) q3 _).setCell (p := ⟨w.heap.size, 2, none⟩) q3 _)
        have FO := hide (show Owns (((v1_5.setCell ⟨w.heap.size, 0, none⟩ (.int .i64 X.id)).setCell ⟨w.heap.size, 1, none⟩ (.bool X.gone)).setCell ⟨w.heap.size, 2, none⟩ (.slice (some ⟨g, 0, none⟩) X.xs.length cp)) w.heap.size (.slice (some ⟨g, 0, none⟩) X.xs.length cp) X.xs from sc_owns_set (sc_owns_set (sc_owns_set (sc_down (unhide OF) (by omega)) hne _) hne _) hne _)
        clear OF BXF KF
        go_wp2_with fail
        refine bodyPost_ret (v := .tuple #[iv X.id X.gone (some ⟨g, 0, none⟩) X.xs.length cp, .bool true]) (by unfold iv; simp [results, Try.results108, go_sem, *] <;> rfl) rfl ?_
        exact .inr ⟨X, g, cp, unhide NS, rfl, unhide FO, unhide FB⟩
      · have NN := hide (unhide NN4 hmt)
        have hst : ((strOfNums (imgL X.id X.gone X.xs)).toList == (strOfNums Ys).toList) = false := by rw [unhide ESTR]; exact decide_eq_false (fun e => hmt e.symm)
        refine wp_region_held_drew (S := (fun u => Below wc.heap.size wc u ∧ u.cell? ⟨xb, 0, none⟩ = some (.int .i64 X.id) ∧ u.cell? ⟨xb, 1, none⟩ = some (.bool X.gone) ∧ u.cell? ⟨xb, 2, none⟩ = some (.slice (some ⟨g, 0, none⟩) X.xs.length cp) ∧ (convert 22 9 (.slice (some ⟨b, off + p, none⟩) (X.xs.length + 9) (c - p))).run Try.prog u = .ok (.string (strOfNums Ys)) u)) (by kernel_rfl) (unhide SK _ (unhide D0)) (fun hHeld => ?_)
        refine anyH_take 0 80 (v := ?v49) rfl rfl (by kernel_rfl) (by kernel_rfl) (by kernel_rfl) (fun _ _ _ h => h) (by rfl) ?h49 hHeld ?r49
        case h49 => (intro w hSw; (try dsimp only at hSw); go_simp; try (with_reducible rfl))
        simp only [Act.put, List.setIfInBounds_toArray, List.set_cons_zero, List.set_cons_succ]
        refine wpAnyH_ready (rs := [1]) (by kernel_rfl) (by simp) ?_
        refine AllReadyH.cons rfl (fun K hK => ?_) AllReadyH.nil
        go_simp
        refine (unhide IMG _).mono ?_
        rintro e v1 ⟨rfl, hb⟩
        have D1 := hide ((unhide D0).trans (hb.mono (unhide D0).size))
        clear hb
        rw [hok]
        refine hK.out _ _ (unhide SK _ (unhide D1)) (fun hHeld => ?_)
        clear hK K
        refine anyH_take 2 82 (v := ?v50) rfl rfl (by kernel_rfl) (by kernel_rfl) (by kernel_rfl) (fun _ _ _ h => h) (by rfl) ?h50 hHeld ?r50
        case h50 => (intro w hSw; (try dsimp only at hSw); go_simp; try (with_reducible rfl))
        simp only [Act.put, List.setIfInBounds_toArray, List.set_cons_zero, List.set_cons_succ]
        refine anyH_take 3 83 (v := ?v51) rfl rfl (by kernel_rfl) (by kernel_rfl) (by kernel_rfl) (fun _ _ _ h => h) (by rfl) ?h51 hHeld ?r51
        case h51 => (intro w hSw; (try dsimp only at hSw); go_simp; try (with_reducible rfl))
        simp only [Act.put, List.setIfInBounds_toArray, List.set_cons_zero, List.set_cons_succ]
        refine anyH_take 4 84 (v := ?v52) rfl rfl (by kernel_rfl) (by kernel_rfl) (by kernel_rfl) (fun _ _ _ h => h) (by rfl) ?h52 hHeld ?r52
        case h52 => (intro w hSw; (try dsimp only at hSw); go_simp; try (with_reducible rfl))
        simp only [Act.put, List.setIfInBounds_toArray, List.set_cons_zero, List.set_cons_succ]
        refine anyH_take 7 87 (v := ?v53) rfl rfl (by kernel_rfl) (by kernel_rfl) (by kernel_rfl) (fun _ _ _ h => h) (by rfl) ?h53 hHeld ?r53
        case h53 => (intro w hSw; (try dsimp only at hSw); go_simp; try (with_reducible rfl))
        simp only [Act.put, List.setIfInBounds_toArray, List.set_cons_zero, List.set_cons_succ]
        refine anyH_take 8 88 (v := ?v54) rfl rfl (by kernel_rfl) (by kernel_rfl) (by kernel_rfl) (fun _ _ _ h => h) (by rfl) ?h54 hHeld ?r54
        case h54 => (intro w hSw; (try dsimp only at hSw); go_simp; try (with_reducible rfl))
        simp only [Act.put, List.setIfInBounds_toArray, List.set_cons_zero, List.set_cons_succ]
        refine anyH_take 9 89 (v := ?v55) rfl rfl (by kernel_rfl) (by kernel_rfl) (by kernel_rfl) (fun _ _ _ h => h) (by rfl) ?h55 hHeld ?r55
        case h55 => (intro w hSw; (try dsimp only at hSw); go_simp; try (with_reducible rfl))
        simp only [Act.put, List.setIfInBounds_toArray, List.set_cons_zero, List.set_cons_succ]
        refine anyH_take 10 90 (v := ?v56) rfl rfl (by kernel_rfl) (by kernel_rfl) (by kernel_rfl) (fun _ _ _ h => h) (by rfl) ?h56 hHeld ?r56
        case h56 => (intro w hSw; (try dsimp only at hSw); go_simp; try (with_reducible rfl))
        simp only [Act.put, List.setIfInBounds_toArray, List.set_cons_zero, List.set_cons_succ]
        refine anyH_take 11 91 (v := ?v57) rfl rfl (by kernel_rfl) (by kernel_rfl) (by kernel_rfl) (fun _ _ _ h => h) (by rfl) ?h57 hHeld ?r57
        case h57 => (intro w hSw; (try dsimp only at hSw); go_simp; try (with_reducible rfl))
        simp only [Act.put, List.setIfInBounds_toArray, List.set_cons_zero, List.set_cons_succ]
        refine anyH_take 12 92 (v := ?v58) rfl rfl (by kernel_rfl) (by kernel_rfl) (by kernel_rfl) (fun _ _ _ h => h) (by rfl) ?h58 hHeld ?r58
        case h58 => (intro w hSw; (try dsimp only at hSw); go_simp; try (with_reducible rfl))
        simp only [Act.put, List.setIfInBounds_toArray, List.set_cons_zero, List.set_cons_succ]
        refine anyH_take 13 93 (v := ?v59) rfl rfl (by kernel_rfl) (by kernel_rfl) (by kernel_rfl) (fun _ _ _ h => h) (by rfl) ?h59 hHeld ?r59
        case h59 => (intro w hSw; (try dsimp only at hSw); go_simp; try (with_reducible rfl))
        simp only [Act.put, List.setIfInBounds_toArray, List.set_cons_zero, List.set_cons_succ]
        refine anyH_take 14 94 (v := ?v60) rfl rfl (by kernel_rfl) (by kernel_rfl) (by kernel_rfl) (fun _ _ _ h => h) (by rfl) ?h60 hHeld ?r60
        case h60 => (intro w hSw; (try dsimp only at hSw); go_simp; try (with_reducible rfl))
        simp only [Act.put, List.setIfInBounds_toArray, List.set_cons_zero, List.set_cons_succ]
        refine wpAnyH_ready (rs := [5]) (by kernel_rfl) (by simp) ?_
        refine AllReadyH.cons rfl (fun K hK => ?_) AllReadyH.nil
        go_simp
        refine (unhide IB _ (unhide D1)).mono ?_
        rintro e v1_5 ⟨vv, rfl, ho3, hv3, hb⟩
        have D1_5 := hide ((unhide D1).trans (hb.mono (unhide D1).size))
        obtain ⟨g3, c3, rfl, hr3⟩ := owns_row ho3 hv3
        have CV := sc_conv (c := c3) hr3
        clear hb ho3 hv3 hr3
        refine hK.out _ _ (unhide SK _ (unhide D1_5)) (fun hHeld => ?_)
        clear hK K
        refine wpAnyH_ready (rs := [6]) (by kernel_rfl) (by simp) ?_
        refine AllReadyH.cons rfl (fun K hK => ?_) AllReadyH.nil
        have D1_5_6 := D1_5
        refine sc_stepConv (by rfl) (.tmp 85) 22 9 rfl _ _ (by first | rfl | (simp [Act.eval]; done) | (simp [Act.eval, Act.put]; done)) CV ?_
        refine hK.out _ _ (unhide SK _ (unhide D1_5)) (fun hHeld => ?_)
        clear hK K
        simp only [Act.put, List.setIfInBounds_toArray]
        refine anyH_take 15 95 (v := ?v61) rfl rfl (by kernel_rfl) (by kernel_rfl) (by kernel_rfl) (fun _ _ _ h => h) (by rfl) ?h61 hHeld ?r61
        case h61 => (intro w hSw; (try dsimp only at hSw); go_simp; try (with_reducible rfl))
        simp only [Act.put]
        refine anyH_take 16 96 (v := ?v62) rfl rfl (by kernel_rfl) (by kernel_rfl) (by kernel_rfl) (fun _ _ _ h => h) (by rfl) ?h62 hHeld ?r62
        case h62 => (intro w hSw; (try dsimp only at hSw); go_simp; try (with_reducible rfl))
        simp only [Act.put]
        refine wpAnyH_done (by kernel_rfl) ?_ _
        have BF := (unhide B3).trans ((unhide D1_5_6).mono (unhide B3).size)
        have KF := hide (sc_at_below (unhide K3) (unhide D1_5_6))
        clear NN3 NN4 NY4 XP XB HD OX SK IMG hHeld
        have y0 : v1_5.cell? ⟨w.heap.size, 0, none⟩ = some (.int .i64 0) := (heap_at (unhide KF) 0).1
        have y1 : v1_5.cell? ⟨w.heap.size, 1, none⟩ = some (.bool false) := (heap_at (unhide KF) 1).1
        have y2 : v1_5.cell? ⟨w.heap.size, 2, none⟩ = some (.slice none 0 0) := (heap_at (unhide KF) 2).1
        have f0 : v1_5.frozen? ⟨w.heap.size, 0, none⟩ = false := (heap_at (unhide KF) 0).2
        have f1 : v1_5.frozen? ⟨w.heap.size, 1, none⟩ = false := (heap_at (unhide KF) 1).2
        have f2 : v1_5.frozen? ⟨w.heap.size, 2, none⟩ = false := (heap_at (unhide KF) 2).2
        go_wp2_with fail
        refine bodyPost_ret (v := .tuple #[iv 0 false none 0 0, .bool false]) (by unfold iv; simp [results, Try.results108, go_sem, *] <;> rfl) rfl ?_
        exact unhide NO _ (unhide NN) (SB _ BF)
end Go.Proofs.Ytocdbijmpecdgaa

namespace Go.Proofs.Ytocdbijmpecdgaa
open Go.RowKit

/-- What a scan gives: the images and the place behind them. -/
def ScRes (xs : List Int) (w : World) (e : Ending) (w' : World) : Prop :=
  ∃ v hs, e = .returned (.tuple #[v, .int .i64 ((scanB xs).2 : Int)]) ∧ IOwn w' w.heap.size v hs ∧ hs.map (·.X) = (scanB xs).1 ∧ Below w.heap.size w w'
theorem hdat_of_owns {w : World} {B : Nat} {h : ImH} (ho : Owns w B (.slice (some ⟨h.g, 0, none⟩) h.X.xs.length h.c) h.X.xs) : hDat w B h := by
  obtain ⟨a, c, e, hb⟩ := br_of_owns ho
  injection e with e1 e2 e3
  subst e1
  exact hb
set_option maxRecDepth 100000 in
set_option maxHeartbeats 8000000 in
theorem l03Scan_any (a : Option Addr) (n c : Nat) (xs : List Int) (w : World) (hR : Row w a n xs) (h8 : Bytes8 xs) (hn : n ≤ 65536) (hc : n ≤ c) (hc2 : c ≤ maxLen) :
    Calls Try.prog 61 #[.slice a n c] w fun e w' => ScRes xs w e w' := by
  have LN := hide hR.1
  have NX := hide (fun (p : Nat) (u : World) (hp : p ≤ n) (hu : Below w.heap.size w u) => l03Next_any a n c p xs u (row_grow' hR hu) h8 hp hn hc hc2)
  have H0 := hide (show IOwn (w.alloc (.cells #[] 45)) w.heap.size (.slice (some ⟨w.heap.size, 0, none⟩) 0 0) [] from IOwn.lit (Nat.le_refl _))
  have B0 := hide (show Below w.heap.size w (w.alloc (.cells #[] 45)) from (Below.refl _ _).alloc (Nat.le_refl _) _)
  clear hR h8
  go_enter Try.func61, Try.ntmps61
  go_wp2_with fail
  go_loopw [4, 5] (fun o' i wr => ∃ (p : Nat) (o : Value) (hs : List ImH), o' = o ∧ i = .int .i64 (p : Int) ∧ p ≤ n ∧ Hid (Steps xs (hs.map (·.X)) p) ∧ Hid (IOwn wr w.heap.size o hs) ∧ Hid (Below w.heap.size w wr)) (fun _ i _ => n - (intOf i).toNat)
  case atStart => exact ⟨0, _, [], rfl, rfl, Nat.zero_le _, Steps.start, unhide H0, unhide B0⟩
  case round =>
    clear H0 B0
    obtain ⟨p, o, hs, rfl, rfl, hp, hS, hI, hB⟩ := hrel
    go_wp2_with fail
    refine (unhide NX p wr hp (unhide hB)).mono ?_
    intro e w2 hv
    rcases hv with ⟨hnx, rfl, hb1⟩ | ⟨X, g, cp, hnx, rfl, ho, hb1⟩
    · have Z := hide (scan_end (unhide hS) hnx)
      have hb3 := hb1.trans (((Below.refl _ _).alloc (Nat.le_refl _) (.cells #[.int .i64 0, .bool false, .slice none 0 0] 45)).mono hb1.size)
      have HN := hide ((unhide hI).below hb3)
      have BN := hide ((unhide hB).trans (hb3.mono (unhide hB).size))
      clear hb1 hb3 hnx hI hB NX hS
      unfold iv
      go_wp2_with fail
      go_ret2
      exact ⟨u4, hs, (by rw [unhide Z]; rfl), unhide HN, (by rw [unhide Z]), unhide BN⟩
    · have hsm := next_some hnx
      have hpl : p + 9 + X.xs.length ≤ n := by have := hsm.2.2.2; rw [unhide LN] at this; exact this
      have hsl := (unhide hS).le
      rw [List.length_map] at hsl
      have ST := hide (show Steps xs ((hs ++ [(⟨X, g, cp⟩ : ImH)]).map (fun x : ImH => x.X)) (p + 9 + X.xs.length) by rw [List.map_append]; exact Steps.more (unhide hS) hnx)
      have fresh : ∀ i (hi : i < hs.length), hs[i].g ≠ g := fun i hi e => by
        have h1 := (hDat.lt ((unhide hI).dat i hi)).2
        have h2 := (ho.lt g rfl).1
        omega
      have fresh2 : u4.ownBlock ≠ some g := fun e => by
        have h1 := ((unhide hI).row.lt g e).2
        have h2 := (ho.lt g rfl).1
        omega
      have OB : ∀ k, u4.ownBlock = some k → k < w2.heap.size := fun k hk => Nat.lt_of_lt_of_le ((unhide hI).row.lt k hk).2 hb1.size
      have bA : Below w2.heap.size w2 (w2.alloc (.cells #[.int .i64 X.id, .bool X.gone, .slice (some ⟨g, 0, none⟩) X.xs.length cp] 45)) := (Below.refl _ _).alloc (Nat.le_refl _) _
      have hb3 := hb1.trans (bA.mono hb1.size)
      have HN := (unhide hI).below hb3
      have BN := (unhide hB).trans (hb3.mono (unhide hB).size)
      have DN : hDat (w2.alloc (.cells #[.int .i64 X.id, .bool X.gone, .slice (some ⟨g, 0, none⟩) X.xs.length cp] 45)) w.heap.size ⟨X, g, cp⟩ := by
        have h1 := (hdat_of_owns (h := ⟨X, g, cp⟩) ho).below bA
        exact ⟨h1.row, fun x hx => ⟨Nat.le_trans (unhide hB).size (h1.own x hx).1, (h1.own x hx).2⟩⟩
      have KX := heap_alloc_new w2 (.cells #[.int .i64 X.id, .bool X.gone, .slice (some ⟨g, 0, none⟩) X.xs.length cp] 45)
      have x0 : (w2.alloc (.cells #[.int .i64 X.id, .bool X.gone, .slice (some ⟨g, 0, none⟩) X.xs.length cp] 45)).cell? ⟨w2.heap.size, 0, none⟩ = some (.int .i64 X.id) := (heap_at KX 0).1
      have x1 : (w2.alloc (.cells #[.int .i64 X.id, .bool X.gone, .slice (some ⟨g, 0, none⟩) X.xs.length cp] 45)).cell? ⟨w2.heap.size, 1, none⟩ = some (.bool X.gone) := (heap_at KX 1).1
      have x2 : (w2.alloc (.cells #[.int .i64 X.id, .bool X.gone, .slice (some ⟨g, 0, none⟩) X.xs.length cp] 45)).cell? ⟨w2.heap.size, 2, none⟩ = some (.slice (some ⟨g, 0, none⟩) X.xs.length cp) := (heap_at KX 2).1
      have KXH := hide KX
      clear KX hb1 hb3 bA ho hI hB NX hS hsm hnx
      unfold iv
      go_upto_region 6 with fail
      generalize w2.alloc (.cells #[.int .i64 X.id, .bool X.gone, .slice (some ⟨g, 0, none⟩) X.xs.length cp] 45) = W3 at *
      generalize w2.heap.size = bx at *
      obtain ⟨v', w', hr', ho', hg', hv'⟩ := im_app (h := ⟨X, g, cp⟩) HN DN fresh fresh2 (by omega) BN.size
      have BF := hide (((BN.alloc BN.size _)).grown hg' (by have := BN.size; simp; omega) (fun k hk => (HN.row.lt k hk).1))
      have HF := hide ho'
      have hbx : bx < W3.heap.size := (Array.getElem?_eq_some_iff.1 (unhide KXH)).1
      have kx : w'.heap[bx]? = W3.heap[bx]? := (hg'.block bx (by simp; omega) (fun e => by have := OB bx e.symm; omega)).trans (Below.heap_alloc _ _ _ hbx)
      have x2' : w'.cell? ⟨bx, 2, none⟩ = some (.slice (some ⟨g, 0, none⟩) X.xs.length cp) := (heap_at (kx.trans (unhide KXH)) 2).1
      have wr1 : IntKind.i64.wrap (9 + (X.xs.length : Int)) = 9 + (X.xs.length : Int) := by rw [IntKind.wrap_i64]; omega
      have wr2 : IntKind.i64.wrap ((p : Int) + (9 + (X.xs.length : Int))) = ((p + 9 + X.xs.length : Nat) : Int) := by rw [IntKind.wrap_i64]; omega
      clear HN BN DN ho' hg' kx KXH OB fresh fresh2
      simp only at hr'
      go_wp2_with (at_builtin; refine sc_wpApp rfl (.tmp 19) (.tmp 21) 40 rfl _ _ _ w' rfl rfl hr' ?_)
      go_roundw
      case rel => exact ⟨p + 9 + X.xs.length, _, hs ++ [(⟨X, g, cp⟩ : ImH)], rfl, by first | rfl | go_num, by omega, ST, HF, BF⟩
      case measure => simp [intOf]; omega
def siC (xs : List Int) : Int := if xs.length ≤ 65536 then 0 else 2
def siL (xs : List Int) : List ImD := if xs.length ≤ 65536 then (scanB xs).1 else []
def siE (xs : List Int) : Nat := if xs.length ≤ 65536 then (scanB xs).2 else 0
/-- What ScanImages gives. -/
def SiRes (xs : List Int) (w : World) (e : Ending) (w' : World) : Prop :=
  ∃ v hs, e = .returned (.tuple #[v, .int .i64 (siE xs : Int), .int .i64 (siC xs)]) ∧ IOwn w' w.heap.size v hs ∧ hs.map (·.X) = siL xs ∧ Below w.heap.size w w'
theorem si_long {xs : List Int} {v : Value} {w w' : World} (h : ¬ xs.length ≤ 65536) (ho : IOwn w' w.heap.size v []) (hb : Below w.heap.size w w') : SiRes xs w (.returned (.tuple #[v, .int .i64 0, .int .i64 2])) w' :=
  ⟨v, [], by unfold siE siC; rw [if_neg h, if_neg h]; rfl, ho, by unfold siL; rw [if_neg h]; rfl, hb⟩
theorem si_some {xs : List Int} {v : Value} {hs : List ImH} {w w' : World} (h : xs.length ≤ 65536) (ho : IOwn w' w.heap.size v hs) (he : hs.map (·.X) = (scanB xs).1) (hb : Below w.heap.size w w') : SiRes xs w (.returned (.tuple #[v, .int .i64 ((scanB xs).2 : Int), .int .i64 0])) w' :=
  ⟨v, hs, by unfold siE siC; rw [if_pos h, if_pos h], ho, by unfold siL; rw [if_pos h]; exact he, hb⟩
end Go.Proofs.Ytocdbijmpecdgaa

namespace Go.Proofs.Ytocdbijmpecdgaa
open Go.RowKit Go.Shelf

/-- An iterator's word: of each thing that it hands over a fact holds as it does so; what holds at its end, or where a round has said that no more is wanted. -/
def SeqTells {α : Type} (F : Fence) (n : Nat) (P : Program) (g : Nat) (lb : Array Value) (encs : α → Array Value) (Kp : World → World → Prop) (Fact : List α → α → World → Prop) (Fin FinX : List α → World → Prop) (w : World) : Prop :=
  ∀ (l : Nat) (J Jx : List α → World → Prop) (W : World), Below w.heap.size w W → Kp w W → AbidesFrom W.heap.size J → AbidesFrom W.heap.size Jx →
    (∀ pre x W1, J pre W1 → Fact pre x W1 → YieldAt F (n - 1) P l (encs x) W1 fun e W2 =>
      (e = .returned (.bool true) ∧ J (pre ++ [x]) W2 ∧ Kp W1 W2) ∨ (e = .returned (.bool false) ∧ Jx (pre ++ [x]) W2 ∧ Kp W1 W2)) →
    J [] W →
    CallsIn F n P g (#[.func (.yield l) #[] #[]] ++ lb) W fun e W2 => (∃ v, e = .returned v) ∧ ((∃ xs, Fin xs W2 ∧ J xs W2) ∨ ∃ pre, FinX pre W2 ∧ Jx pre W2)
/-- What a round's body owes. -/
def rfPost {α : Type} (B : Nat) (Kp : World → World → Prop) (I : List α → World → Prop) (Ix : Code → List α → World → Prop) (xs : List α) (W : World) : Exit → Act → World → Prop
  | .normal, _, W' => KeepsFrom B W W' ∧ Kp W W' ∧ I xs W'
  | .ret, _, W' => KeepsFrom B W W' ∧ Kp W W' ∧ Ix .ret xs W'
  | .exit id, _, W' => KeepsFrom B W W' ∧ Kp W W' ∧ Ix (.exit id) xs W'
  | .goto t, _, W' => KeepsFrom B W W' ∧ Kp W W' ∧ Ix (.goto t) xs W'
  | .panic _, _, _ => False
  | .outgrown, _, _ => False
/-- The loop's two blocks of its own, the record in a state. -/
structure RfAt (B : Nat) (r : Loop) (W : World) : Prop where
  rec_ : W.heap[B + 1]? = some (.loop r)
  def_ : W.heap[B]? = some (.deferred (some []))
theorem RfAt.lt {B : Nat} {r : Loop} {W : World} (h : RfAt B r W) : B + 1 < W.heap.size := (Array.getElem?_eq_some_iff.1 h.rec_).1
theorem RfAt.keep {B : Nat} {r : Loop} {W W' : World} (h : RfAt B r W) (k : KeepsFrom B W W') : RfAt B r W' := ⟨k.same _ _ (by omega) h.rec_ rfl, k.same _ _ (Nat.le_refl _) h.def_ rfl⟩
theorem RfAt.put {B : Nat} {r : Loop} {W : World} (h : RfAt B r W) (r' : Loop) : RfAt B r' (W.putObj (B + 1) (.loop r')) := ⟨World.putObj_heap_same h.lt, (World.putObj_heap_other (by omega)).trans h.def_⟩
theorem RfAt.grown {B C : Nat} {r : Loop} {W W' : World} {row : Option Nat} (h : RfAt B r W) (hg : W.grownBy W' row) (hr : ∀ k, row = some k → C ≤ k ∧ ∃ o : Obj, W.heap[k]? = some o ∧ o.isWalk = true) : RfAt B r W' :=
  ⟨(grownBy_keeps hg (fun k e => (hr k e).2) h.rec_ rfl).trans h.rec_, (grownBy_keeps hg (fun k e => (hr k e).2) h.def_ rfl).trans h.def_⟩
theorem rf_steady {α : Type} {B C : Nat} {I : List α → World → Prop} (h : OwnFrom B I) (hc : B ≤ C) {s : List α} {W W' : World} {row : Option Nat} (hs : I s W) (hg : W.grownBy W' row) (hr : ∀ k, row = some k → C ≤ k ∧ ∃ o : Obj, W.heap[k]? = some o ∧ o.isWalk = true) : I s W' :=
  h s W W' row hs hg fun k e => by
    obtain ⟨h1, o, h2, h3⟩ := hr k e
    exact ⟨by omega, o, h2, Obj.not_cells_of_walk h3⟩
/-- THE LAW. -/
theorem wpIn_rangeTells {F : Fence} {n : Nat} {P : Program} {α : Type} {g : Operand} {ps : Array Tmp} {assign body : Code} {Q : Exit → Act → World → Prop} {a : Act} {w : World}
    (hro : F.round = none) (h1 : 1 ≤ n) {gf : Nat} {lb : Array Value} (hg : a.eval g = .func (.func gf) #[] lb) (hFg : F.fn gf) (eg : ∀ args w, (callFunc gf args).run P w = .ok (.enter gf args) w)
    {encs : α → Array Value} {Kp : World → World → Prop} {Fact : List α → α → World → Prop} {Fin FinX : List α → World → Prop} (hseq : SeqTells F (n - 1) P gf lb encs Kp Fact Fin FinX w)
    (kt : ∀ {A B C : World}, Kp A B → Kp B C → Kp A C) (ka : ∀ o o' : Obj, Kp w ((w.alloc o).alloc o')) (kb : ∀ (W : World) (l : Nat) (o o' : Obj), w.heap.size ≤ l → W.heap[l]? = some o → o.isCells = false → Kp W (W.putObj l o')) (hps : ∀ x, (encs x).size = ps.size)
    (hFin : OwnFrom w.heap.size Fin) (hFinX : OwnFrom w.heap.size FinX)
    (I : List α → World → Prop) (Ix : Code → List α → World → Prop) (hI : OwnFrom w.heap.size I) (hIx : ∀ c, OwnFrom w.heap.size (Ix c)) (h0 : I [] w) (Ax : List α → α → Act → World → Prop) (hAx : ∀ pre x a', OwnFrom w.heap.size (fun (_ : Unit) W => Ax pre x a' W))
    (hassign : ∀ (l : Nat) (pre : List α) (x : α) (W : World) (K : Act → World → Prop), I pre W → Fact pre x W → (∀ a' W', KeepsFrom w.heap.size W W' → Kp W W' → I pre W' → Ax pre x a' W' → K a' W') →
      assign.wpIn (F.inRound l) (n - 1 - 1) P (Exit.then K (fun _ _ _ => False)) { tmps := (ps.zip (encs x)).foldl (fun t (p, v) => t.setIfInBounds p v) a.tmps, defers := [] } W)
    (hbody : ∀ (l : Nat) (pre : List α) (x : α) (a' : Act) (W : World), w.heap.size ≤ l → I pre W → Ax pre x a' W → body.wpIn (F.inRound l) (n - 1 - 1) P (rfPost w.heap.size Kp I Ix (pre ++ [x]) W) a' W)
    (hdone : ∀ (D : Nat) (xs : List α) (W : World), w.heap.size ≤ D → Fin xs W → I xs W → W.heap[D]? = some (.deferred (some [])) → Q .normal { a with defers := { target := .collected D, args := #[] } :: a.defers } W)
    (hstop : ∀ (D : Nat) (c : Code) (pre : List α) (W : World), w.heap.size ≤ D → FinX pre W → Ix c pre W → W.heap[D]? = some (.deferred (some [])) → c.wpIn F n P Q { a with defers := { target := .collected D, args := #[] } :: a.defers } W) :
    (Code.rangeFunc g ps assign body).wpIn F n P Q a w := by
  refine wpIn_rangeFunc ?_
  intro fn hfn
  rw [hro]
  obtain ⟨R, hR⟩ : ∃ R : LoopState → Option Code → Loop, R = fun st pe => { state := st, pending := pe, fn, tmps := a.tmps, params := ps, assign, body, defers := w.heap.size } := ⟨_, rfl⟩
  obtain ⟨V, hV⟩ : ∃ V, (w.alloc (.deferred (some []))).alloc (.loop (R .ready none)) = V := ⟨_, rfl⟩
  have sV : V.heap.size = w.heap.size + 1 + 1 := by rw [← hV]; simp
  have atV : RfAt w.heap.size (R .ready none) V := by
    rw [← hV]
    refine ⟨?_, (Below.heap_alloc _ _ _ (by simp)).trans (World.alloc_heap_new w _)⟩
    have := World.alloc_heap_new (w.alloc (.deferred (some []))) (.loop (R .ready none))
    rwa [World.size_alloc] at this
  have bV : Below w.heap.size w V := by rw [← hV]; exact ((Below.refl _ w).alloc (Nat.le_refl _) _).alloc (by simp) _
  have kV : Kp w V := by rw [← hV]; exact ka _ _
  have iV : I [] V := by rw [← hV]; exact hI.alloc _ (hI.alloc _ h0)
  refine ⟨w.heap.size + 1, [{ target := .collected w.heap.size, args := #[] }], V, { target := .fn (.func gf) lb, args := #[.func (.yield (w.heap.size + 1)) #[] #[]] }, V, gf,
    #[.func (.yield (w.heap.size + 1)) #[] #[]] ++ lb, V, ?_, ?_, ?_, ?_, fun _ => h1, ?_⟩
  · rw [← hV, hR]; exact run_enterLoop_outer _ _ _ _ _
  · simp only [resolve, hg]
    simp [go_sem]
  · intro f' hf'; simp [Target.leads] at hf'; subst hf'; exact hFg
  · simp [invoke, go_sem, eg]
  have hword := hseq (w.heap.size + 1) (fun pre W => I pre W ∧ RfAt w.heap.size (R .ready none) W) (fun pre W => ∃ c, Ix c pre W ∧ RfAt w.heap.size (R .done (some c)) W) V bV kV
    (fun s A B row hs hgr hr => ⟨rf_steady hI (by omega) hs.1 hgr hr, hs.2.grown hgr hr⟩)
    (fun s A B row hs hgr hr => by
      obtain ⟨c, hc, hl⟩ := hs
      exact ⟨c, rf_steady (hIx c) (by omega) hc hgr hr, hl.grown hgr hr⟩)
    (fun pre x W hJ hF => by
      obtain ⟨hi, hl⟩ := hJ
      have hy := run_yield (P := P) (args := encs x) hl.rec_ (by rw [hR]; exact hps x)
      rw [hR] at hy
      refine ⟨fn, _, assign, body, hy, roundIn_of_wpIn hfn (hassign _ pre x W _ hi hF ?_)⟩
      clear hy
      intro a' Wa keepA kpA hia hax
      have atA := hl.keep keepA
      refine ⟨_, run_beginRound atA.rec_ (by rw [hR]), ?_⟩
      have atB := atA.put { R .ready none with state := .busy }
      have kpB : Kp Wa (Wa.putObj (w.heap.size + 1) (.loop { R .ready none with state := .busy })) := kb _ _ _ _ (by omega) atA.rec_ rfl
      refine wpIn_mono (hbody _ pre x a' _ (by omega) (hI.putObj _ hia (by omega) atA.rec_ rfl) ((hAx pre x a').putObj (s := ()) _ hax (by omega) atA.rec_ rfl)) ?_
      have close : ∀ (jump : Option Code) (W3 : World), KeepsFrom w.heap.size (Wa.putObj (w.heap.size + 1) (.loop { R .ready none with state := .busy })) W3 →
          (Instr.endRound (w.heap.size + 1) jump).run P W3 = .ok (.bool jump.isNone) (W3.putObj (w.heap.size + 1) (.loop (R (if jump.isNone then .ready else .done) jump))) ∧ RfAt w.heap.size { R .ready none with state := .busy } W3 := fun jump W3 hk3 => by
        have at3 := atB.keep hk3
        have := run_endRound (P := P) jump at3.rec_
        rw [hR] at this at3 ⊢
        exact ⟨this, at3⟩
      have leave : ∀ (c : Code) (W3 : World), KeepsFrom w.heap.size (Wa.putObj (w.heap.size + 1) (.loop { R .ready none with state := .busy })) W3 → Kp (Wa.putObj (w.heap.size + 1) (.loop { R .ready none with state := .busy })) W3 → Ix c (pre ++ [x]) W3 →
          ∃ W4, (Instr.endRound (w.heap.size + 1) (some c)).run P W3 = .ok (.bool false) W4 ∧ (Ix c (pre ++ [x]) W4 ∧ RfAt w.heap.size (R .done (some c)) W4) ∧ Kp W W4 := fun c W3 hk3 hp3 hi3 => by
        obtain ⟨hr, at3⟩ := close (some c) W3 hk3
        exact ⟨_, hr, ⟨(hIx c).putObj _ hi3 (by omega) at3.rec_ rfl, at3.put _⟩, kt kpA (kt (kt kpB hp3) (kb _ _ _ _ (by omega) at3.rec_ rfl))⟩
      rintro e a3 W3 hp
      cases e with
      | normal =>
        obtain ⟨hk3, hp3, hi3⟩ := hp
        obtain ⟨hr, at3⟩ := close none W3 hk3
        exact ⟨_, _, hr, .inl ⟨rfl, ⟨hI.putObj _ hi3 (by omega) at3.rec_ rfl, at3.put _⟩, kt kpA (kt (kt kpB hp3) (kb _ _ _ _ (by omega) at3.rec_ rfl))⟩⟩
      | ret =>
        obtain ⟨W4, hr, hi4, hk4⟩ := leave _ W3 hp.1 hp.2.1 hp.2.2
        exact ⟨_, _, hr, .inr ⟨rfl, ⟨_, hi4⟩, hk4⟩⟩
      | exit id =>
        obtain ⟨W4, hr, hi4, hk4⟩ := leave _ W3 hp.1 hp.2.1 hp.2.2
        exact ⟨_, _, hr, .inr ⟨rfl, ⟨_, hi4⟩, hk4⟩⟩
      | goto t =>
        obtain ⟨W4, hr, hi4, hk4⟩ := leave _ W3 hp.1 hp.2.1 hp.2.2
        exact ⟨_, _, hr, .inr ⟨rfl, ⟨_, hi4⟩, hk4⟩⟩
      | panic ch => exact hp.elim
      | outgrown => exact hp.elim)
    ⟨iV, atV⟩
  refine hword.mono ?_
  rintro e W2 ⟨⟨v, rfl⟩, (⟨xs, hS, hi, hl⟩ | ⟨pre, hS, c, hi, hl⟩)⟩
  · exact ⟨none, _, by have := run_endLoop (P := P) hl.rec_ (by rw [hR]; simp); rw [hR] at this; exact this, hdone _ xs _ (Nat.le_refl _) (hFin.putObj _ hS (by omega) hl.rec_ rfl) (hI.putObj _ hi (by omega) hl.rec_ rfl) ((World.putObj_heap_other (by omega)).trans hl.def_)⟩
  · exact ⟨some c, _, by have := run_endLoop (P := P) hl.rec_ (by rw [hR]; simp); rw [hR] at this; exact this, hstop _ c pre _ (Nat.le_refl _) (hFinX.putObj _ hS (by omega) hl.rec_ rfl) ((hIx c).putObj _ hi (by omega) hl.rec_ rfl) ((World.putObj_heap_other (by omega)).trans hl.def_)⟩
end Go.Proofs.Ytocdbijmpecdgaa

namespace Go.Proofs.Ytocdbijmpecdgaa
open Go.RowKit Go.Shelf
attribute [local go_sem] Oper.semAt_some

/-- An image that is handed over: where its bytes lie, the place behind it. -/
structure ImY where
  X : ImD
  g : Nat
  c : Nat
  nx : Nat
def yH (y : ImY) : ImH := ⟨y.X, y.g, y.c⟩
def yV (y : ImY) : Array Value := #[iv y.X.id y.X.gone (some ⟨y.g, 0, none⟩) y.X.xs.length y.c, .int .i64 (y.nx : Int)]
/-- What lay below a block stays, and all bytes and slices of bytes. -/
structure KpU (n0 : Nat) (W W' : World) : Prop where
  bel : Below n0 W W'
  keep : ∀ (k : Nat) (cur : Array Value) (t : TypeId) (fr : Nat × Nat), W.heap[k]? = some (Obj.cells cur t fr) → (t = 5 ∨ t = 22) → W'.heap[k]? = W.heap[k]?
theorem KpU.trans {n0 : Nat} {A B C : World} (h : KpU n0 A B) (k : KpU n0 B C) : KpU n0 A C :=
  ⟨h.bel.trans k.bel, fun i cur t fr hi ht => by
    have h1 := h.keep i cur t fr hi ht
    exact (k.keep i cur t fr (h1.trans hi) ht).trans h1⟩
theorem KpU.of_below {n0 : Nat} {A B : World} (h : Below A.heap.size A B) (hn : n0 ≤ A.heap.size) : KpU n0 A B :=
  ⟨h.mono hn, fun k _ _ _ hk _ => h.block k (Array.getElem?_eq_some_iff.1 hk).1⟩
theorem KpU.alloc {n0 : Nat} (W : World) (o : Obj) (hn : n0 ≤ W.heap.size) : KpU n0 W (W.alloc o) := KpU.of_below ((Below.refl _ _).alloc (Nat.le_refl _) _) hn
def endOf (ys : List ImY) : Nat := match ys.getLast? with
  | some y => y.nx
  | none => 0
theorem endOf_snoc (ys : List ImY) (y : ImY) : endOf (ys ++ [y]) = y.nx := by simp [endOf]
def YFact (n0 : Nat) (pre : List ImY) (y : ImY) (W : World) : Prop := Owns W n0 (.slice (some ⟨y.g, 0, none⟩) y.X.xs.length y.c) y.X.xs ∧ (∀ x ∈ pre, x.g ≠ y.g) ∧ pre.length ≤ 65536
def YFin (xs : List Int) (ys : List ImY) (_ : World) : Prop := Steps xs (ys.map (·.X)) (endOf ys) ∧ nextI xs (endOf ys) = none
def YFinX (xs : List Int) (ys : List ImY) (_ : World) : Prop := Steps xs (ys.map (·.X)) (endOf ys)
set_option maxRecDepth 100000 in
set_option maxHeartbeats 8000000 in
theorem images_tells (m n0 n1 hb : Nat) (a : Option Addr) (n c : Nat) (xs : List Int) (w0 w : World) (hn0 : n0 ≤ w.heap.size) (hn1 : n1 ≤ w.heap.size) (hbel : Below n0 w0 w) (hbox : w.heap[hb]? = some (.cells #[.slice a n c] 22 (0, 0)))
    (hR : ∀ u, Below n0 w0 u → Row u a n xs) (h8 : Bytes8 xs) (hn : n ≤ 65536) (hc : n ≤ c) (hc2 : c ≤ maxLen) (ha : a = none → c = 0) (hm : 1 ≤ m) :
    SeqTells Fence.wide m Try.prog 119 #[.pointer (some ⟨hb, 0, none⟩)] yV (KpU n0) (YFact n1) (YFin xs) (YFinX xs) w := by
  intro l J Jx W hW kW hJ _ hY h0
  have IM := hide (fun (p : Nat) (u : World) (hp : p ≤ n) (hu : Below n0 w0 u) => imageAt_any a n c p xs u (hR u hu) h8 hp hn hc hc2 ha)
  have LN := hide (hR w hbel).1
  have YY := hide hY
  have HJ := hide (show ∀ pre u u', J pre u → Below u.heap.size u u' → J pre u' from fun pre u u' h hb => hJ pre u u' none h (rb_grownBy_below hb) (fun r e => by cases e))
  have B0 := hide (show Below n0 w0 W from hbel.trans (hW.mono hn0))
  have K0 := hide ((kW.keep hb _ _ _ hbox (.inr rfl)).trans hbox)
  have sz0 : w.heap.size ≤ W.heap.size := hW.size
  have hro : Fence.wide.round = none := rfl
  clear hW kW hJ hY hR h8 hbel hbox
  refine callsIn_of_wp Try.func119 rfl trivial ?_ hro
  simp only [Try.ntmps119, List.size_toArray, List.length_cons, List.length_nil, Nat.reduceAdd, Nat.reduceSub, Array.replicate_succ, Array.replicate_zero, List.push_toArray, List.append_toArray, List.nil_append, List.cons_append]
  gi_wp2
  gi_loopw [3] (fun i wr => ∃ (p : Nat) (pre : List ImY), i = .int .i64 (p : Int) ∧ p ≤ n ∧ Hid (p = endOf pre) ∧ Hid (Steps xs (pre.map (·.X)) p) ∧ J pre wr ∧ Hid (Below n0 w0 wr) ∧ Hid (wr.heap[hb]? = some (.cells #[.slice a n c] 22 (0, 0))) ∧ w.heap.size ≤ wr.heap.size ∧ Hid (∀ x ∈ pre, x.g < wr.heap.size)) (fun i _ => n - (intOf i).toNat)
  case atStart => exact ⟨0, [], rfl, Nat.zero_le _, hide rfl, Steps.start, h0, unhide B0, unhide K0, sz0, fun x hx => absurd hx List.not_mem_nil⟩
  case round =>
    clear h0 B0 K0 sz0
    obtain ⟨p, pre, rfl, hp, hpe, hS, hJs, hB, hK, hsz, hG⟩ := hrel
    have c0 : wr.cell? ⟨hb, 0, none⟩ = some (.slice a n c) := (heap_at (unhide hK) 0).1
    have hf1 : Fence.wide.fn 120 := trivial
    have LAY := hide (show ∀ (X : ImD) (g cp : Nat) (w2 : World), nextI xs p = some X → Owns w2 wr.heap.size (.slice (some ⟨g, 0, none⟩) X.xs.length cp) X.xs → Below wr.heap.size wr w2 →
        ∃ fn tmps assign body, (Instr.yield l #[.agg #[.int .i64 X.id, .bool X.gone, .slice (some ⟨g, 0, none⟩) X.xs.length cp], .int .i64 ((p : Int) + 9 + (X.xs.length : Int))]).run Try.prog (w2.alloc (.cells #[.int .i64 X.id, .bool X.gone, .slice (some ⟨g, 0, none⟩) X.xs.length cp] 45)) = .ok (.round l fn tmps assign body) (w2.alloc (.cells #[.int .i64 X.id, .bool X.gone, .slice (some ⟨g, 0, none⟩) X.xs.length cp] 45)) ∧
          RoundIn Fence.wide (m - 1) Try.prog l fn tmps assign body (w2.alloc (.cells #[.int .i64 X.id, .bool X.gone, .slice (some ⟨g, 0, none⟩) X.xs.length cp] 45)) fun e W' => (e = .returned (.bool true) ∧ J (pre ++ [⟨X, g, cp, p + 9 + X.xs.length⟩]) W' ∧ KpU n0 (w2.alloc (.cells #[.int .i64 X.id, .bool X.gone, .slice (some ⟨g, 0, none⟩) X.xs.length cp] 45)) W') ∨ (e = .returned (.bool false) ∧ Jx (pre ++ [⟨X, g, cp, p + 9 + X.xs.length⟩]) W' ∧ KpU n0 (w2.alloc (.cells #[.int .i64 X.id, .bool X.gone, .slice (some ⟨g, 0, none⟩) X.xs.length cp] 45)) W') from fun X g cp w2 _ ho hb1 => by
      have bA : Below w2.heap.size w2 (w2.alloc (.cells #[.int .i64 X.id, .bool X.gone, .slice (some ⟨g, 0, none⟩) X.xs.length cp] 45)) := (Below.refl _ _).alloc (Nat.le_refl _) _
      have hy := unhide YY pre ⟨X, g, cp, p + 9 + X.xs.length⟩ (w2.alloc (.cells #[.int .i64 X.id, .bool X.gone, .slice (some ⟨g, 0, none⟩) X.xs.length cp] 45)) (unhide HJ _ _ _ hJs (hb1.trans (bA.mono hb1.size))) ⟨sc_down (owns_below ho bA) (Nat.le_trans hn1 hsz), fun x hx e => by
        have h1 := unhide hG x hx
        have h2 := (ho.lt g rfl).1
        simp only at e
        omega, by
        have h1 := (unhide hS).le
        rw [List.length_map] at h1
        omega⟩
      unfold yV iv at hy
      simp only at hy
      rw [show ((p + 9 + X.xs.length : Nat) : Int) = (p : Int) + 9 + (X.xs.length : Int) by omega] at hy
      exact hy)
    have PLE := hide (show ∀ X, nextI xs p = some X → p + 9 + X.xs.length ≤ n from fun X h => by have := (next_some h).2.2.2; rw [unhide LN] at this; exact this)
    clear YY
    gi_wp2_with fail
    refine (callsIn_wide.2 (unhide IM p wr hp (unhide hB))).mono ?_
    intro e w2 hv
    rcases hv with ⟨hnx, rfl, hb1⟩ | ⟨X, g, cp, hnx, rfl, ho, hb1⟩
    · have bA : Below w2.heap.size w2 (w2.alloc (.cells #[.int .i64 0, .bool false, .slice none 0 0] 45)) := (Below.refl _ _).alloc (Nat.le_refl _) _
      have FIN := hide (show YFin xs pre (w2.alloc (.cells #[.int .i64 0, .bool false, .slice none 0 0] 45)) ∧ J pre (w2.alloc (.cells #[.int .i64 0, .bool false, .slice none 0 0] 45)) from ⟨⟨by rw [← unhide hpe]; exact unhide hS, by rw [← unhide hpe]; exact hnx⟩, unhide HJ _ _ _ hJs (hb1.trans (bA.mono hb1.size))⟩)
      unfold iv
      clear LAY bA
      gi_wp2
      refine ⟨fun _ h => (by cases h), ?_⟩
      gi_wp2
      refine bodyPost_ret (results_none rfl _ _ _) rfl ?_
      exact ⟨⟨_, rfl⟩, .inl ⟨pre, (unhide FIN).1, (unhide FIN).2⟩⟩
    · obtain ⟨fn, tmps, assign, body, hy, hRd⟩ := unhide LAY X g cp w2 hnx ho hb1
      have hxb := heap_alloc_new w2 (.cells #[.int .i64 X.id, .bool X.gone, .slice (some ⟨g, 0, none⟩) X.xs.length cp] 45)
      have x0 : (w2.alloc (.cells #[.int .i64 X.id, .bool X.gone, .slice (some ⟨g, 0, none⟩) X.xs.length cp] 45)).cell? ⟨w2.heap.size, 0, none⟩ = some (.int .i64 X.id) := (heap_at hxb 0).1
      have x1 : (w2.alloc (.cells #[.int .i64 X.id, .bool X.gone, .slice (some ⟨g, 0, none⟩) X.xs.length cp] 45)).cell? ⟨w2.heap.size, 1, none⟩ = some (.bool X.gone) := (heap_at hxb 1).1
      have x2 : (w2.alloc (.cells #[.int .i64 X.id, .bool X.gone, .slice (some ⟨g, 0, none⟩) X.xs.length cp] 45)).cell? ⟨w2.heap.size, 2, none⟩ = some (.slice (some ⟨g, 0, none⟩) X.xs.length cp) := (heap_at hxb 2).1
      have hpl := unhide PLE X hnx
      have bA : Below w2.heap.size w2 (w2.alloc (.cells #[.int .i64 X.id, .bool X.gone, .slice (some ⟨g, 0, none⟩) X.xs.length cp] 45)) := (Below.refl _ _).alloc (Nat.le_refl _) _
      have BN := hide (hb1.trans (bA.mono hb1.size))
      have ST := hide (show Steps xs ((pre ++ [(⟨X, g, cp, p + 9 + X.xs.length⟩ : ImY)]).map (fun y : ImY => y.X)) (p + 9 + X.xs.length) by rw [List.map_append]; exact Steps.more (unhide hS) hnx)
      have GN : g < (w2.alloc (.cells #[.int .i64 X.id, .bool X.gone, .slice (some ⟨g, 0, none⟩) X.xs.length cp] 45)).heap.size := Nat.lt_of_lt_of_le (ho.lt g rfl).2 bA.size
      clear hxb LAY PLE bA ho hb1
      unfold iv
      gi_wp2
      refine hRd.mono ?_
      rintro e W3 (⟨rfl, hJ3, hk3⟩ | ⟨rfl, hJx3, hk3⟩)
      · have KN := hide ((hk3.keep hb _ _ _ (((unhide BN).block hb (Array.getElem?_eq_some_iff.1 (unhide hK)).1).trans (unhide hK)) (.inr rfl)).trans (((unhide BN).block hb (Array.getElem?_eq_some_iff.1 (unhide hK)).1).trans (unhide hK)))
        have BB := hide ((unhide hB).trans (((unhide BN).mono (Nat.le_trans hn0 hsz)).trans hk3.bel))
        have s3 := hk3.bel.size
        have sBN := (unhide BN).size
        have GG := hide (show ∀ x ∈ pre ++ [(⟨X, g, cp, p + 9 + X.xs.length⟩ : ImY)], x.g < W3.heap.size from fun x hx => by
          rcases List.mem_append.1 hx with hx | hx
          · have := unhide hG x hx
            omega
          · obtain rfl := List.mem_singleton.1 hx
            exact Nat.lt_of_lt_of_le GN s3)
        clear hRd hy hk3 BN x0 x1 x2 hK hB hG hS
        gi_wp2
        go_roundw
        case rel => exact ⟨p + 9 + X.xs.length, pre ++ [(⟨X, g, cp, p + 9 + X.xs.length⟩ : ImY)], by first | rfl | go_num, hpl, hide (endOf_snoc pre (⟨X, g, cp, p + 9 + X.xs.length⟩ : ImY)).symm, ST, hJ3, BB, KN, by omega, GG⟩
        case measure => simp [intOf]; omega
      · clear hRd hy x0 x1 x2
        gi_wp2
        refine bodyPost_ret (results_none rfl _ _ _) rfl ?_
        exact ⟨⟨_, rfl⟩, .inr ⟨_, by unfold YFinX; rw [endOf_snoc]; exact unhide ST, hJx3⟩⟩
end Go.Proofs.Ytocdbijmpecdgaa

namespace Go.Proofs.Ytocdbijmpecdgaa
open Go.RowKit

/-- The next mark behind images. -/
def kOf (k : Nat) : List ImH → Nat
  | [] => k
  | h :: r => kOf (k + 2 + h.X.xs.length) r
def mkH (k : Nat) (h : ImH) : ImH := ⟨⟨(k : Int), decide ((k + 1) % 3 = 0), marks ((k + 2 : Nat) : Int) h.X.xs.length⟩, h.g, h.c⟩
/-- Images, marked. -/
def markI (k : Nat) : List ImH → List ImH
  | [] => []
  | h :: r => mkH k h :: markI (k + 2 + h.X.xs.length) r
theorem kOf_snoc : ∀ (k : Nat) (hs : List ImH) (h : ImH), kOf k (hs ++ [h]) = kOf k hs + 2 + h.X.xs.length
  | k, [], h => rfl
  | k, x :: r, h => by simp only [List.cons_append, kOf]; exact kOf_snoc _ r h
theorem markI_snoc : ∀ (k : Nat) (hs : List ImH) (h : ImH), markI k (hs ++ [h]) = markI k hs ++ [mkH (kOf k hs) h]
  | k, [], h => rfl
  | k, x :: r, h => by simp only [List.cons_append, markI, kOf]; rw [markI_snoc _ r h]
theorem markI_len : ∀ (k : Nat) (hs : List ImH), (markI k hs).length = hs.length
  | k, [] => rfl
  | k, x :: r => by simp only [markI, List.length_cons]; rw [markI_len _ r]
theorem kOf_mono : ∀ (k : Nat) (hs : List ImH), k ≤ kOf k hs
  | k, [] => Nat.le_refl _
  | k, x :: r => Nat.le_trans (by omega) (kOf_mono _ r)
theorem kOf_take (k : Nat) (hs : List ImH) (j : Nat) : kOf k (hs.take j) ≤ kOf k hs := by
  induction hs generalizing k j with
  | nil => simp [kOf]
  | cons x r ih =>
    cases j with
    | zero => exact kOf_mono _ _
    | succ j => exact ih _ j
theorem kOf_sum : ∀ (k : Nat) (hs : List ImH), kOf k hs = k + (hs.map fun h => h.X.xs.length + 2).sum
  | k, [] => rfl
  | k, x :: r => by simp only [kOf, List.map_cons, List.sum_cons]; rw [kOf_sum _ r]; omega
theorem kOf_len : ∀ (k : Nat) (hs : List ImH), hs.length ≤ kOf k hs
  | k, [] => Nat.zero_le _
  | k, x :: r => by
    have h1 := kOf_len (k + 2 + x.X.xs.length) r
    have h2 : r.length + 1 ≤ kOf (k + 2 + x.X.xs.length) r := by
      have := kOf_sum (k + 2 + x.X.xs.length) r
      have h3 : ∀ l : List ImH, l.length ≤ (l.map fun h => h.X.xs.length + 2).sum := fun l => by
        induction l with
        | nil => simp
        | cons y r ih => simp only [List.map_cons, List.sum_cons, List.length_cons]; omega
      have := h3 r
      omega
    simpa [kOf] using h2
/-- The first j marked, the others as they were. -/
def halfI (k : Nat) (hs : List ImH) (j : Nat) : List ImH := markI k (hs.take j) ++ hs.drop j
theorem halfI_len (k : Nat) (hs : List ImH) (j : Nat) (hj : j ≤ hs.length) : (halfI k hs j).length = hs.length := by
  unfold halfI
  rw [List.length_append, markI_len, List.length_take, List.length_drop]
  omega
theorem halfI_at {k : Nat} {hs : List ImH} {j : Nat} (hj : j < hs.length) : ∃ h : j < (halfI k hs j).length, (halfI k hs j)[j] = hs[j] := by
  refine ⟨by rw [halfI_len _ _ _ (by omega)]; exact hj, ?_⟩
  unfold halfI
  rw [List.getElem_append_right (by rw [markI_len, List.length_take]; omega)]
  simp only [markI_len, List.length_take, List.getElem_drop]
  congr 1
  omega
theorem halfI_step {k : Nat} {hs : List ImH} {j : Nat} (hj : j < hs.length) : halfI k hs (j + 1) = (halfI k hs j).set j (mkH (kOf k (hs.take j)) hs[j]) := by
  unfold halfI
  rw [rb_take_snoc hs j hj, markI_snoc, List.set_append_right _ _ (by rw [markI_len, List.length_take]; omega), markI_len, List.length_take, show j - min j hs.length = 0 by omega, List.drop_eq_getElem_cons hj, List.set_cons_zero, List.append_assoc, List.singleton_append]
/-- Header cells of an image set anew. -/
theorem gcs_set2 (ds : List ImR) (i : Nat) (hi : i < ds.length) (id : Int) (g : Bool) : ((gcs ds).set (i * 3) (.int .i64 id)).set (i * 3 + 1) (.bool g) = gcs (ds.set i ⟨id, g, ds[i].d⟩) := by
  rw [gcs_set]
  simp only
  symm
  apply List.ext_getElem?
  intro m
  by_cases e : m = i * 3 + 2
  · subst e
    rw [List.getElem?_set_self (by simp [gcs_len]; omega), List.getElem?_set_ne (by omega), List.getElem?_set_ne (by omega)]
    exact (gcs_at ds i hi).2.2.symm
  · rw [List.getElem?_set_ne (by omega)]
/-- One image marked: its header, its bytes. -/
theorem IOwn.mark {w w1 w2 : World} {B g n c : Nat} {hs : List ImH} (h : IOwn w B (.slice (some ⟨g, 0, none⟩) n c) hs) {j k : Nat} (hj : j < hs.length) (he : w1 = (w.setCell ⟨g, j * 3, none⟩ (.int .i64 (k : Int))).setCell ⟨g, j * 3 + 1, none⟩ (.bool (decide ((k + 1) % 3 = 0))))
    (hm : Row w2 (some ⟨hs[j].g, 0, none⟩) hs[j].X.xs.length (marks ((k + 2 : Nat) : Int) hs[j].X.xs.length)) (ht : Touch (some ⟨hs[j].g, 0, none⟩) w1 w2) :
    IOwn w2 B (.slice (some ⟨g, 0, none⟩) n c) (hs.set j (mkH k hs[j])) ∧ WrB (fun i => i = g ∨ i = hs[j].g) w w2 := by
  have hn : n = (hs.map hr).length := (grow_of_owns h.row).1.symm
  have hgl : g < w.heap.size := (h.row.lt g rfl).2
  have hne : ∀ i (hi : i < hs.length), hs[i].g ≠ g := fun i hi e => h.off i hi (by rw [e]; rfl)
  have only1 : Only g w w1 := by rw [he]; exact (Only.setCell _ _ _ _).trans (Only.setCell _ _ _ _)
  have sz2 : w2.heap.size = w.heap.size := by rw [ht.size, only1.size]
  have keep2 : ∀ i, i ≠ hs[j].g → w2.heap[i]? = w1.heap[i]? := fun i hi => by
    rcases ht with rfl | ⟨x, hx, ho⟩
    · rfl
    · cases hx
      exact ho.block i hi
  have r1 : GOwns w1 B (.slice (some ⟨g, 0, none⟩) n c) ((hs.map hr).set j ⟨(k : Int), decide ((k + 1) % 3 = 0), (hr hs[j]).d⟩) := by
    have hr0 : w.ownsRow B 45 3 (.slice (some ⟨g, 0, none⟩) n c) n (gcs (hs.map hr)) := by have := h.row; unfold GOwns at this; rwa [← hn] at this
    obtain ⟨o1, _⟩ := World.ownsRow.stored hr0 (j * 3) (.int .i64 (k : Int))
    obtain ⟨o2, _⟩ := World.ownsRow.stored o1 (j * 3 + 1) (.bool (decide ((k + 1) % 3 = 0)))
    rw [gcs_set2 _ j (by simpa using hj), ← he] at o2
    unfold GOwns
    rw [List.length_set, ← hn]
    simpa using o2
  refine ⟨⟨?_, fun i hi => ?_, fun i i' hi hi' hii => ?_, fun i hi => ?_⟩, ⟨?_, ?_, ?_, Nat.le_of_eq sz2.symm, fun i hi hp => ?_⟩⟩
  · have e : (hs.set j (mkH k hs[j])).map hr = (hs.map hr).set j ⟨(k : Int), decide ((k + 1) % 3 = 0), (hr hs[j]).d⟩ := by
      rw [List.map_set]
      congr 1
      unfold hr mkH
      simp only [marks_length]
    rw [e]
    exact ownsRow_heap r1 (fun i hi => by
      have : i = g := by simpa [Value.ownBlock] using hi.symm
      subst this
      exact keep2 _ (fun e => hne j hj e.symm))
  · have hi' : i < hs.length := by simpa using hi
    by_cases e : i = j
    · subst e
      rw [List.getElem_set_self]
      unfold hDat mkH
      simp only [marks_length]
      refine ⟨hm, fun x hx => ?_⟩
      cases hx
      obtain ⟨p1, p2, p3⟩ := (h.dat i hi').own _ rfl
      refine ⟨p1, by rw [sz2]; exact p2, fun q => ?_⟩
      rcases ht with rfl | ⟨y, _, ho⟩
      · exact (only1.frozen _).trans (p3 q)
      · exact (ho.frozen _).trans ((only1.frozen _).trans (p3 q))
    · rw [List.getElem_set_ne (fun e' => e e'.symm)]
      exact (h.dat i hi').of_blocks (Nat.le_of_eq sz2.symm) (fun x hx => by
        cases hx
        exact (keep2 _ (h.far i j hi' hj e)).trans (only1.block _ (hne i hi')))
  · have gg : ∀ q (hq : q < (hs.set j (mkH k hs[j])).length), (hs.set j (mkH k hs[j]))[q].g = (hs[q]'(by simpa using hq)).g := fun q hq => by
      by_cases e : q = j
      · subst e; rw [List.getElem_set_self]; rfl
      · rw [List.getElem_set_ne (fun e' => e e'.symm)]
    rw [gg, gg]
    exact h.far i i' (by simpa using hi) (by simpa using hi') hii
  · have gg : (hs.set j (mkH k hs[j]))[i].g = (hs[i]'(by simpa using hi)).g := by
      by_cases e : i = j
      · subst e; rw [List.getElem_set_self]; rfl
      · rw [List.getElem_set_ne (fun e' => e e'.symm)]
    rw [gg]
    exact h.off i (by simpa using hi)
  · rcases ht with rfl | ⟨y, _, ho⟩
    · exact only1.os
    · exact ho.os.trans only1.os
  · rcases ht with rfl | ⟨y, _, ho⟩
    · exact only1.tape
    · exact ho.tape.trans only1.tape
  · rcases ht with rfl | ⟨y, _, ho⟩
    · exact only1.output
    · exact ho.output.trans only1.output
  · exact (keep2 i (fun e => hp (.inr e))).trans (only1.block i (fun e => hp (.inl e)))
/-- The blocks of images. -/
def ImBl (v : Value) (hs : List ImH) (i : Nat) : Prop := v.ownBlock = some i ∨ ∃ h ∈ hs, i = h.g
theorem WrB.trans2 {P : Nat → Prop} {w1 w2 w3 : World} (h : WrB P w1 w2) (k : WrB P w2 w3) : WrB P w1 w3 :=
  ⟨k.os.trans h.os, k.tape.trans h.tape, k.output.trans h.output, Nat.le_trans h.size k.size, fun i hi hp => (k.block i (Nat.lt_of_lt_of_le hi h.size) hp).trans (h.block i hi hp)⟩
theorem WrB.mono2 {P Q : Nat → Prop} {w w' : World} (h : WrB P w w') (hpq : ∀ i, P i → Q i) : WrB Q w w' := ⟨h.os, h.tape, h.output, h.size, fun k hk hq => h.block k hk (fun hp => hq (hpq k hp))⟩
theorem WrB.refl2 (P : Nat → Prop) (w : World) : WrB P w w := ⟨rfl, rfl, rfl, Nat.le_refl _, fun _ _ _ => rfl⟩
theorem markI_dat : ∀ (k : Nat) (hs : List ImH) (j : Nat) (hj : j < hs.length), ∃ h : j < (markI k hs).length, (markI k hs)[j] = mkH (kOf k (hs.take j)) hs[j]
  | k, [], j, hj => by simp at hj
  | k, x :: r, 0, _ => ⟨by simp [markI], rfl⟩
  | k, x :: r, j + 1, hj => by
    obtain ⟨h, e⟩ := markI_dat (k + 2 + x.X.xs.length) r j (by simpa using hj)
    exact ⟨by simp only [markI, List.length_cons]; omega, by simp only [markI, List.getElem_cons_succ, List.take_succ_cons, kOf]; exact e⟩
end Go.Proofs.Ytocdbijmpecdgaa

namespace Go.Proofs.Ytocdbijmpecdgaa
open Go.RowKit Go.Shelf
attribute [local go_sem] Oper.semAt_some

theorem sc_wpAppIn {F : Fence} {n : Nat} {P : Program} {ops : Array Oper} {rest : List Oper} {o : Oper} {a : Act} {w : World} {Q : Exit → Act → World → Prop}
    (hg : o.guard = none) (s x : Operand) (t : TypeId) (hop : o.op = Op.call { callee := Callee.builtin Builtin.append, args := #[s, x], argTypes := #[t, t] })
    (vs vx v' : Value) (w' : World) (hs : a.eval s = vs) (hx : a.eval x = vx) (hrun : (Builtin.append_ #[t, t] o.type #[vs, vx]).run P w = .ok v' w') (h : wpListIn F n P ops Q rest (a.put o.dst v') w') :
    wpListIn F n P ops Q (o :: rest) a w := by
  refine wpListIn_plain hg fun K hK => ?_
  unfold Oper.wpIn
  refine ⟨by simp [Oper.about, hop, resolve, Target.leads, Sem.run_pure], ?_⟩
  rw [Oper.semAt_plain F _ _ (by rw [hop]; intro c hc; cases hc)]
  simp [execOp, hop, resolve, invoke, builtin, hs, hx, hrun, Result.andThen]
  exact hK _ _ h
set_option maxHeartbeats 1000000 in
theorem standingImages_any (a : Option Addr) (n c : Nat) (w : World) :
    Calls Try.prog 101 #[.slice a n c] w fun e w' => e = .returned (.func (.func 119) #[] #[.pointer (some ⟨w.heap.size, 0, none⟩)]) ∧ w' = w.alloc (.cells #[.slice a n c] 22) := by
  have hmf : ∀ (fn : Fn) (first cap : Array Value) (w : World), (Instr.makeFunc fn first cap).run Try.prog w = .ok (.func fn first cap) w := fun _ _ _ _ => rfl
  go_enter Try.func101, Try.ntmps101
  go_wp2_with fail
  go_ret
  exact ⟨rfl, rfl⟩
/-- Cells stay where what is written is none. -/
theorem rf_cells {A B : World} {row : Option Nat} {k : Nat} {cur : Array Value} {t : TypeId} {fr : Nat × Nat} (hg : A.grownBy B row) (hr : ∀ r, row = some r → ∃ o : Obj, A.heap[r]? = some o ∧ o.isCells = false) (h : A.heap[k]? = some (.cells cur t fr)) : B.heap[k]? = A.heap[k]? :=
  hg.block k (Array.getElem?_eq_some_iff.1 h).1 (fun e => by
    obtain ⟨o, ho, hc⟩ := hr k e.symm
    rw [h] at ho
    cases ho
    cases hc)
theorem IOwn.rf {A B : World} {b : Nat} {v : Value} {hs : List ImH} (h : IOwn A b v hs) (hk : ∀ (k : Nat) (cur : Array Value) (t : TypeId) (fr : Nat × Nat), A.heap[k]? = some (Obj.cells cur t fr) → B.heap[k]? = A.heap[k]?) (hsz : A.heap.size ≤ B.heap.size) (hd : ∀ i (hi : i < hs.length), ∃ cur t fr, A.heap[hs[i].g]? = some (Obj.cells cur t fr)) : IOwn B b v hs :=
  ⟨ownsRow_heap h.row (fun g hg => by
    rcases h.row.2 with ⟨e, _⟩ | ⟨g', cap, cur, e, _, hh, _⟩
    · subst e; cases hg
    · subst e
      obtain rfl : g' = g := by simpa [Value.ownBlock] using hg
      exact hk _ _ _ _ hh), fun i hi => (h.dat i hi).of_blocks hsz (fun x hx => by
        cases hx
        obtain ⟨cur, t, fr, hh⟩ := hd i hi
        exact hk _ _ _ _ hh), h.far, h.off⟩
/-- The caller's variables between two rounds. -/
structure ScI_ (w : World) (pre : List ImY) (W : World) (v : Value) : Prop where
  lst : W.heap[w.heap.size]? = some (.cells #[v] 40 (0, 0))
  fin : W.heap[w.heap.size + 1]? = some (.cells #[.int .i64 (endOf pre : Int)] 3 (0, 0))
  own : IOwn W (w.heap.size + 2) v (pre.map yH)
  knd : ∀ y ∈ pre, ∃ cur fr, W.heap[y.g]? = some (Obj.cells cur 5 fr)
  bel : Below w.heap.size w W
  siz : w.heap.size + 3 ≤ W.heap.size
def ScInv (w : World) (pre : List ImY) (W : World) : Prop := ∃ v, ScI_ w pre W v
theorem scinv_grown {w : World} {pre : List ImY} {A B : World} {row : Option Nat} (h : ScInv w pre A) (hg : A.grownBy B row) (hr : ∀ r, row = some r → w.heap.size ≤ r ∧ ∃ o : Obj, A.heap[r]? = some o ∧ o.isCells = false) : ScInv w pre B := by
  obtain ⟨v, h⟩ := h
  have hk : ∀ (k : Nat) (cur : Array Value) (t : TypeId) (fr : Nat × Nat), A.heap[k]? = some (Obj.cells cur t fr) → B.heap[k]? = A.heap[k]? := fun k cur t fr hc => rf_cells hg (fun r e => (hr r e).2) hc
  refine ⟨v, (hk _ _ _ _ h.lst).trans h.lst, (hk _ _ _ _ h.fin).trans h.fin, h.own.rf hk hg.size (fun i hi => by
    obtain ⟨cur, fr, e⟩ := h.knd (pre[i]'(by simpa using hi)) (List.getElem_mem _)
    exact ⟨cur, _, fr, by rw [List.getElem_map]; exact e⟩), fun y hy => ?_, ?_, Nat.le_trans h.siz hg.size⟩
  · obtain ⟨cur, fr, e⟩ := h.knd y hy
    exact ⟨cur, fr, (hk _ _ _ _ e).trans e⟩
  · exact h.bel.grown hg h.bel.size (fun k e => (hr k e).1)
theorem scinv_own (w : World) (B : Nat) (hB : w.heap.size ≤ B) : OwnFrom B (ScInv w) := fun _ _ _ _ hs hg hr => scinv_grown hs hg (fun r e => ⟨Nat.le_trans hB (hr r e).1, (hr r e).2⟩)
theorem kpu_put {n0 : Nat} {W : World} {l : Nat} {o o' : Obj} (hl : n0 ≤ l) (h : W.heap[l]? = some o) (hc : o.isCells = false) : KpU n0 W (W.putObj l o') :=
  ⟨⟨rfl, rfl, rfl, by simp [World.putObj], fun k hk => World.putObj_heap_other (by omega)⟩, fun k cur t fr hk _ => World.putObj_heap_other (fun e => by
    subst e
    rw [h] at hk
    cases hk
    cases hc)⟩
theorem im_knd {w : World} {B : Nat} {v : Value} {rs : List ImR} {k : Nat} (h : GOwns w B v rs) (hk : v.ownBlock = some k) : ∃ cur, w.heap[k]? = some (Obj.cells cur 45 (0, 0)) := by
  rcases h.2 with ⟨e, _⟩ | ⟨g', cap, cur, e, _, hh, _⟩
  · subst e; cases hk
  · subst e
    obtain rfl : g' = k := by simpa [Value.ownBlock] using hk
    exact ⟨cur, hh⟩
theorem by_knd {w : World} {B g n c : Nat} {xs : List Int} (h : Owns w B (.slice (some ⟨g, 0, none⟩) n c) xs) : ∃ cur, w.heap[g]? = some (Obj.cells cur 5 (0, 0)) := by
  rcases h.2 with ⟨e, _⟩ | ⟨g', cap, cur, e, _, hh, _⟩
  · cases e
  · injection e with e1 _ _
    injection e1 with e1
    injection e1 with e1
    subst e1
    exact ⟨cur, hh⟩
/-- A round of the scan. -/
theorem scinv_step {w W w' : World} {pre : List ImY} {y : ImY} {v v' : Value} {B : Nat} (h : ScI_ w pre W v) (hF : YFact (w.heap.size + 2) pre y W) (ho : IOwn w' (w.heap.size + 2) v' (pre.map yH ++ [yH y])) (hg : (W.alloc (.cells #[.int .i64 y.X.id, .bool y.X.gone, .slice (some ⟨y.g, 0, none⟩) y.X.xs.length y.c] 45)).grownBy w' v.ownBlock) :
    (w'.heap[w.heap.size]? = some (.cells #[v] 40 (0, 0)) ∧ (w'.setCell ⟨w.heap.size, 0, none⟩ v').heap[w.heap.size + 1]? = some (.cells #[.int .i64 (endOf pre : Int)] 3 (0, 0))) ∧
    ScI_ w (pre ++ [y]) ((w'.setCell ⟨w.heap.size, 0, none⟩ v').setCell ⟨w.heap.size + 1, 0, none⟩ (.int .i64 (y.nx : Int))) v' ∧ KeepsFrom B W ((w'.setCell ⟨w.heap.size, 0, none⟩ v').setCell ⟨w.heap.size + 1, 0, none⟩ (.int .i64 (y.nx : Int))) ∧ KpU w.heap.size W ((w'.setCell ⟨w.heap.size, 0, none⟩ v').setCell ⟨w.heap.size + 1, 0, none⟩ (.int .i64 (y.nx : Int))) := by
  have bA : Below W.heap.size W (W.alloc (.cells #[.int .i64 y.X.id, .bool y.X.gone, .slice (some ⟨y.g, 0, none⟩) y.X.xs.length y.c] 45)) := (Below.refl _ _).alloc (Nat.le_refl _) _
  have keep1 : ∀ k, k < W.heap.size → v.ownBlock ≠ some k → w'.heap[k]? = W.heap[k]? := fun k hk hne => (hg.block k (Nat.lt_of_lt_of_le hk bA.size) (fun e => hne e.symm)).trans (bA.block k hk)
  have s3 := h.siz
  have vge : ∀ k, v.ownBlock = some k → w.heap.size + 2 ≤ k := fun k hk => (h.own.row.lt k hk).1
  have l1 : w'.heap[w.heap.size]? = some (.cells #[v] 40 (0, 0)) := (keep1 _ (by omega) (fun e => by have := vge _ e; omega)).trans h.lst
  have e1 : w'.heap[w.heap.size + 1]? = some (.cells #[.int .i64 (endOf pre : Int)] 3 (0, 0)) := (keep1 _ (by omega) (fun e => by have := vge _ e; omega)).trans h.fin
  have l2 : (w'.setCell ⟨w.heap.size, 0, none⟩ v').heap[w.heap.size]? = some (.cells #[v'] 40 (0, 0)) := heap_set l1 0 v'
  have e2 : (w'.setCell ⟨w.heap.size, 0, none⟩ v').heap[w.heap.size + 1]? = some (.cells #[.int .i64 (endOf pre : Int)] 3 (0, 0)) := (Below.heap_setCell _ _ _ _ (show w.heap.size + 1 ≠ w.heap.size by omega)).trans e1
  obtain ⟨V, hV⟩ : ∃ V, V = (w'.setCell ⟨w.heap.size, 0, none⟩ v').setCell ⟨w.heap.size + 1, 0, none⟩ (.int .i64 (y.nx : Int)) := ⟨_, rfl⟩
  have same : ∀ k, k ≠ w.heap.size → k ≠ w.heap.size + 1 → V.heap[k]? = w'.heap[k]? := fun k h1 h2 => by rw [hV]; exact (Below.heap_setCell _ _ _ _ h2).trans (Below.heap_setCell _ _ _ _ h1)
  have szV : V.heap.size = w'.heap.size := by rw [hV]; simp [World.setCell]
  have szW : W.heap.size ≤ V.heap.size := by rw [szV]; exact Nat.le_trans bA.size hg.size
  have osV : V.os = W.os ∧ V.tape = W.tape ∧ V.output = W.output := by
    rw [hV]
    exact ⟨hg.os.trans bA.os, hg.tape.trans bA.tape, hg.output.trans bA.output⟩
  have all : ∀ k, k < W.heap.size → v.ownBlock ≠ some k → k ≠ w.heap.size → k ≠ w.heap.size + 1 → V.heap[k]? = W.heap[k]? := fun k hk h1 h2 h3 => (same k h2 h3).trans (keep1 k hk h1)
  refine ⟨⟨l1, e2⟩, ?_⟩
  rw [← hV]
  refine ⟨⟨?_, ?_, ?_, fun q hq => ?_, ?_, by omega⟩, ⟨szW, fun k o hB hk hc => ?_⟩, ⟨?_, fun k cur t fr hk ht => ?_⟩⟩
  · rw [hV]; exact (Below.heap_setCell _ _ _ _ (show w.heap.size ≠ w.heap.size + 1 by omega)).trans l2
  · rw [hV, heap_set e2 0 _, endOf_snoc]; rfl
  · rw [List.map_append]
    exact ⟨ownsRow_heap ho.row (fun k hk => same k (by have := (ho.row.lt k hk).1; omega) (by have := (ho.row.lt k hk).1; omega)),
      fun i hi => (ho.dat i hi).of_blocks (Nat.le_of_eq szV.symm) (fun x hx => by
        cases hx
        have := (hDat.lt (ho.dat i hi)).1
        exact same _ (by simp only; omega) (by simp only; omega)), ho.far, ho.off⟩
  · have hkn : ∀ q : ImY, (∃ cur fr, W.heap[q.g]? = some (Obj.cells cur 5 fr)) → w.heap.size + 2 ≤ q.g → ∃ cur fr, V.heap[q.g]? = some (Obj.cells cur 5 fr) := fun q hq hge => by
      obtain ⟨cur, fr, hh⟩ := hq
      refine ⟨cur, fr, (all q.g (Array.getElem?_eq_some_iff.1 hh).1 (fun e => ?_) (by omega) (by omega)).trans hh⟩
      obtain ⟨cur', h'⟩ := im_knd h.own.row e
      rw [hh] at h'
      injection h' with h'
      injection h' with _ h' _
      exact absurd h' (by decide)
    rcases List.mem_append.1 hq with hq | hq
    · obtain ⟨i, hi, rfl⟩ := List.getElem_of_mem hq
      have := (hDat.lt (h.own.dat i (by simpa using hi))).1
      rw [List.getElem_map] at this
      exact hkn _ (h.knd _ hq) this
    · obtain rfl := List.mem_singleton.1 hq
      obtain ⟨cur, hh⟩ := by_knd hF.1
      exact hkn _ ⟨cur, _, hh⟩ (hF.1.lt _ rfl).1
  · refine h.bel.trans ⟨osV.1, osV.2.1, osV.2.2, szW, fun k hk => all k (by omega) (fun e => by have := vge k e; omega) (by omega) (by omega)⟩
  · refine (all k (Array.getElem?_eq_some_iff.1 hk).1 (fun e => ?_) (fun e => ?_) (fun e => ?_)).trans hk
    · obtain ⟨cur', h'⟩ := im_knd h.own.row e
      rw [hk] at h'
      cases h'
      cases hc
    · subst e
      rw [h.lst] at hk
      cases hk
      cases hc
    · subst e
      rw [h.fin] at hk
      cases hk
      cases hc
  · exact ⟨osV.1, osV.2.1, osV.2.2, szW, fun k hk => all k (by omega) (fun e => by have := vge k e; omega) (by omega) (by omega)⟩
  · refine all k (Array.getElem?_eq_some_iff.1 hk).1 (fun e => ?_) (fun e => ?_) (fun e => ?_)
    · obtain ⟨cur', h'⟩ := im_knd h.own.row e
      rw [hk] at h'
      injection h' with h'
      injection h' with _ h' _
      subst h'
      exact absurd ht (by decide)
    · subst e
      rw [h.lst] at hk
      injection hk with hk
      injection hk with _ hk _
      subst hk
      exact absurd ht (by decide)
    · subst e
      rw [h.fin] at hk
      injection hk with hk
      injection hk with _ hk _
      subst hk
      exact absurd ht (by decide)
set_option maxRecDepth 100000 in
set_option maxHeartbeats 8000000 in
theorem scan_any (a : Option Addr) (n c : Nat) (xs : List Int) (w : World) (hR : Row w a n xs) (h8 : Bytes8 xs) (hn : n ≤ 65536) (hc : n ≤ c) (hc2 : c ≤ maxLen) (ha : a = none → c = 0) :
    Calls Try.prog 56 #[.slice a n c] w fun e w' => ScRes xs w e w' := by
  refine (callsIn_wide (n := 6)).1 ?_
  have hf1 : Fence.wide.fn 101 := trivial
  have hro : Fence.wide.round = none := rfl
  refine callsIn_of_wp_marks Try.func56 rfl trivial ?_ hro
  simp only [Try.ntmps56, List.size_toArray, List.length_cons, List.length_nil, Nat.reduceAdd, Nat.reduceSub, Array.replicate_succ, Array.replicate_zero, List.push_toArray, List.append_toArray, List.nil_append, List.cons_append]
  gi_wp2_with (gi_at_call 101; refine (callsIn_wide.2 (standingImages_any a n c _)).mono ?_; rintro e w' ⟨rfl, rfl⟩)
  obtain ⟨W0, hW0⟩ : ∃ W0, ((w.alloc (.cells #[.slice none 0 0] 40)).alloc (.cells #[.int .i64 0] 3)).alloc (.cells #[.slice a n c] 22) = W0 := ⟨_, rfl⟩
  have z0 : W0.heap.size = w.heap.size + 3 := by rw [← hW0]; simp
  have bW : Below w.heap.size w W0 := by rw [← hW0]; exact (((Below.refl _ w).alloc (Nat.le_refl _) _).alloc (by simp) _).alloc (by simp; omega) _
  have k0 : W0.heap[w.heap.size]? = some (.cells #[.slice none 0 0] 40 (0, 0)) := by
    rw [← hW0, Below.heap_alloc _ _ _ (by simp; omega), Below.heap_alloc _ _ _ (by simp)]
    exact heap_alloc_new _ _
  have k1 : W0.heap[w.heap.size + 1]? = some (.cells #[.int .i64 0] 3 (0, 0)) := by
    rw [← hW0, Below.heap_alloc _ _ _ (by simp)]
    have := heap_alloc_new (w.alloc (.cells #[.slice none 0 0] 40)) (.cells #[.int .i64 0] 3)
    simpa using this
  have k2 : W0.heap[w.heap.size + 1 + 1]? = some (.cells #[.slice a n c] 22 (0, 0)) := by
    have := heap_alloc_new ((w.alloc (.cells #[.slice none 0 0] 40)).alloc (.cells #[.int .i64 0] 3)) (.cells #[.slice a n c] 22)
    rw [hW0] at this
    simpa using this
  rw [hW0]
  have TEL := images_tells 5 w.heap.size (w.heap.size + 2) (w.heap.size + 1 + 1) a n c xs w W0 (by omega) (by omega) bW k2 (fun u hu => row_grow' hR hu) h8 hn hc hc2 ha (by omega)
  have ST0 : ScInv w [] W0 := ⟨_, k0, k1, IOwn.nil _ _, fun y hy => absurd hy List.not_mem_nil, bW, by omega⟩
  refine wpIn_rangeTells hro (by omega) (gf := 119) (lb := #[.pointer (some ⟨w.heap.size + 1 + 1, 0, none⟩)]) rfl trivial (enters_of Try.func119 (by kernel_rfl) rfl) TEL
    (fun h k => h.trans k) (fun o o' => (KpU.alloc W0 o (by omega)).trans (KpU.alloc _ o' (by simp; omega))) (fun W l o o' hl h hc => kpu_put (by omega) h hc) (fun _ => rfl)
    (fun _ _ _ _ hs _ _ => hs) (fun _ _ _ _ hs _ _ => hs)
    (ScInv w) (fun _ _ _ => False) (scinv_own w _ (by omega)) (fun _ _ _ _ _ hs _ _ => hs) ST0
    (fun pre y a' W => ∃ xb, w.heap.size + 2 ≤ xb ∧ W.heap[xb]? = some (.cells #[.int .i64 y.X.id, .bool y.X.gone, .slice (some ⟨y.g, 0, none⟩) y.X.xs.length y.c] 45 (0, 0)) ∧
      a' = { tmps := #[.slice a n c, undef, .slice none 0 0, .int .i64 0, .pointer (some ⟨w.heap.size, 0, none⟩), .pointer (some ⟨w.heap.size + 1, 0, none⟩), .pointer (some ⟨xb, 0, none⟩), .int .i64 (y.nx : Int), .slice a n c, .func (.func 119) #[] #[.pointer (some ⟨w.heap.size + 1 + 1, 0, none⟩)], iv y.X.id y.X.gone (some ⟨y.g, 0, none⟩) y.X.xs.length y.c, .int .i64 (y.nx : Int), undef, undef, undef, undef, undef, undef, undef], defers := [] } ∧
      YFact (w.heap.size + 2) pre y W)
    ?_ ?assign ?body ?done ?stop
  · rintro pre y a' _ A B row ⟨xb, h1, h2, h3, h4, h5⟩ hg hr
    obtain ⟨cur, hh⟩ := by_knd h4
    refine ⟨xb, h1, (rf_cells hg (fun r e => (hr r e).2) h2).trans h2, h3, ownsRow_heap h4 (fun k hk => ?_), h5⟩
    obtain rfl : y.g = k := by simpa [Value.ownBlock] using hk
    exact rf_cells hg (fun r e => (hr r e).2) hh
  case assign =>
    intro l pre y W K hi hF hK
    have s3 := (show w.heap.size + 3 ≤ W.heap.size from by obtain ⟨_, h⟩ := hi; exact h.siz)
    have bA : Below W.heap.size W (W.alloc (.cells #[.int .i64 y.X.id, .bool y.X.gone, .slice (some ⟨y.g, 0, none⟩) y.X.xs.length y.c] 45)) := (Below.refl _ _).alloc (Nat.le_refl _) _
    have Z := hide (hK { tmps := #[.slice a n c, undef, .slice none 0 0, .int .i64 0, .pointer (some ⟨w.heap.size, 0, none⟩), .pointer (some ⟨w.heap.size + 1, 0, none⟩), .pointer (some ⟨W.heap.size, 0, none⟩), .int .i64 (y.nx : Int), .slice a n c, .func (.func 119) #[] #[.pointer (some ⟨w.heap.size + 1 + 1, 0, none⟩)], iv y.X.id y.X.gone (some ⟨y.g, 0, none⟩) y.X.xs.length y.c, .int .i64 (y.nx : Int), undef, undef, undef, undef, undef, undef, undef], defers := [] } (W.alloc (.cells #[.int .i64 y.X.id, .bool y.X.gone, .slice (some ⟨y.g, 0, none⟩) y.X.xs.length y.c] 45))
      ((KeepsOthers.alloc _ _).from _) (KpU.alloc _ _ (by omega)) (scinv_grown (row := none) hi (rb_grownBy_below bA) (fun r e => by cases e)) ⟨W.heap.size, by omega, heap_alloc_new _ _, rfl, owns_below hF.1 bA, hF.2⟩)
    clear hK hF hi
    unfold yV iv
    unfold iv at Z
    gi_wp2
    exact unhide Z
  case body =>
    rintro l pre y a' W hl ⟨v, hi⟩ ⟨xb, hxb, hkx, rfl, hF⟩
    have s3 := hi.siz
    have c0 : W.cell? ⟨w.heap.size, 0, none⟩ = some v := (heap_at hi.lst 0).1
    have x0 : W.cell? ⟨xb, 0, none⟩ = some (.int .i64 y.X.id) := (heap_at hkx 0).1
    have x1 : W.cell? ⟨xb, 1, none⟩ = some (.bool y.X.gone) := (heap_at hkx 1).1
    have x2 : W.cell? ⟨xb, 2, none⟩ = some (.slice (some ⟨y.g, 0, none⟩) y.X.xs.length y.c) := (heap_at hkx 2).1
    have f0 : W.frozen? ⟨w.heap.size, 0, none⟩ = false := (heap_at hi.lst 0).2
    obtain ⟨v', w', hr', ho', hg', hv'⟩ := im_app (h := yH y) hi.own (hdat_of_owns (h := yH y) hF.1) (fun i hlt e => by
        have := hF.2.1 (pre[i]'(by simpa using hlt)) (List.getElem_mem _)
        rw [List.getElem_map] at e
        exact this e) (fun e => by
        obtain ⟨cur', h'⟩ := im_knd hi.own.row e
        obtain ⟨cur, hh⟩ := by_knd hF.1
        rw [show (yH y).g = y.g from rfl, hh] at h'
        injection h' with h'
        injection h' with _ h' _
        exact absurd h' (by decide)) (by have := hF.2.2; simpa using (by omega : pre.length ≤ 1000000)) (by omega)
    unfold yH at hr' hg'
    simp only at hr' hg'
    obtain ⟨⟨q0, q1⟩, hst, hkf, hku⟩ := scinv_step (B := W0.heap.size) hi hF ho' hg'
    have c1 : w'.cell? ⟨w.heap.size, 0, none⟩ = some v := (heap_at q0 0).1
    have f1 : w'.frozen? ⟨w.heap.size, 0, none⟩ = false := (heap_at q0 0).2
    have c2 : (w'.setCell ⟨w.heap.size, 0, none⟩ v').cell? ⟨w.heap.size + 1, 0, none⟩ = some (.int .i64 (endOf pre : Int)) := (heap_at q1 0).1
    have f2 : (w'.setCell ⟨w.heap.size, 0, none⟩ v').frozen? ⟨w.heap.size + 1, 0, none⟩ = false := (heap_at q1 0).2
    obtain ⟨av, cv, hvv⟩ := im_slice ho'
    rw [show (pre.map yH ++ [yH y]).length = pre.length + 1 by simp] at hvv
    subst hvv
    have Z := hide (And.intro hkf (And.intro hku (show ScInv w (pre ++ [y]) _ from ⟨_, hst⟩)))
    clear hst hkf hku ho' hg' hi hF q0 q1 hkx
    unfold iv
    gi_wp2_with (gi_at_builtin; refine sc_wpAppIn rfl (.tmp 12) (.tmp 14) 40 rfl _ _ _ w' rfl rfl hr' ?_)
    exact unhide Z
  case done =>
    rintro D ys W hD hFin ⟨v, hi⟩ hK
    have E := hide (scan_end hFin.1 hFin.2)
    have c0 : W.cell? ⟨w.heap.size, 0, none⟩ = some v := (heap_at hi.lst 0).1
    have c1 : W.cell? ⟨w.heap.size + 1, 0, none⟩ = some (.int .i64 (endOf ys : Int)) := (heap_at hi.fin 0).1
    have hKD : W.drew.heap[D]? = some (.deferred (some [])) := hK
    have HI := hide (show ScInv w ys (W.drew.putObj D (.deferred none)) from scinv_grown (row := some D) (scinv_grown (row := none) ⟨v, hi⟩ (rb_grownBy_below (Below.refl _ _).drew) (fun r e => by cases e)) (grownBy_putObj' _ D (.deferred none)) (fun r e => by cases e; exact ⟨by omega, _, hKD, rfl⟩))
    have VV := hide (show ∀ v', ScI_ w ys (W.drew.putObj D (.deferred none)) v' → v' = v from fun v' h' => by
      have h1 := h'.lst
      have h2 : (W.drew.putObj D (.deferred none)).heap[w.heap.size]? = W.drew.heap[w.heap.size]? := World.putObj_heap_other (by omega)
      rw [h2] at h1
      have h3 := (show W.drew.heap[w.heap.size]? = _ from hi.lst).symm.trans h1
      injection h3 with h3
      injection h3 with h3 _ _
      simpa using h3.symm)
    clear hi hFin
    gi_wp2
    gi_region
    all_goals
      gi_wp2
      refine ⟨by simp, .inl ⟨_, _, rfl, run_takeDeferred hKD, ?_⟩⟩
      refine ⟨.tuple #[v, .int .i64 (endOf ys : Int)], by simp [results, Try.results56], ?_⟩
      obtain ⟨v', h'⟩ := unhide HI
      obtain rfl := unhide VV v' h'
      exact ⟨v', ys.map yH, by rw [unhide E], h'.own.down (by omega), by rw [unhide E, List.map_map]; rfl, h'.bel⟩
  case stop =>
    rintro D co pre W _ _ h _
    exact h.elim
set_option maxHeartbeats 2000000 in
theorem implScanImages_any (a : Option Addr) (n c : Nat) (xs : List Int) (w : World) (hR : Row w a n xs) (h8 : Bytes8 xs) (hn : n ≤ 1048576) (hc : n ≤ c) (hc2 : c ≤ maxLen) (ha : a = none → c = 0) :
    Calls Try.prog 18 #[.slice a n c] w fun e w' => SiRes xs w e w' := by
  obtain rfl := hR.1
  by_cases h6 : xs.length ≤ 65536
  · have g6 : ¬ (65536 : Int) < (xs.length : Int) := by omega
    have C := hide (scan_any a xs.length c xs w hR h8 h6 hc hc2 ha)
    clear hR h8
    go_enter Try.func18, Try.ntmps18
    go_wp2_with fail
    refine (unhide C).mono ?_
    rintro e w1 ⟨v, hs, rfl, ho, he, hb⟩
    have Z := hide (si_some h6 ho he hb)
    clear C ho he hb
    go_wp2_with fail
    refine bodyPost_ret (v := .tuple #[v, .int .i64 ((scanB xs).2 : Int), .int .i64 0]) (by simp [results, Try.results18, go_sem, *]) rfl ?_
    exact unhide Z
  · have g6 : (65536 : Int) < (xs.length : Int) := by omega
    have Z := hide (si_long h6 (IOwn.nil w w.heap.size) (Below.refl _ _))
    clear hR h8
    go_enter Try.func18, Try.ntmps18
    go_wp2_with fail
    refine bodyPost_ret (v := .tuple #[.slice none 0 0, .int .i64 0, .int .i64 2]) (by simp [results, Try.results18, go_sem, *]) rfl ?_
    exact unhide Z
end Go.Proofs.Ytocdbijmpecdgaa
