/-
  A page's bytes: plain facts, and the small functions that append.
-/
import Derived.Test.YtkggpapmhopaeaaPageS
import Derived.Lib.AppendStr
namespace Go.Proofs.Ytkggpapmhopaeaa
open Go.RowKit

/-- A text's bytes. -/
def bytesL (t : ByteArray) : List Int := t.data.toList.map fun b => (b.toNat : Int)
theorem bytesL_length (t : ByteArray) : (bytesL t).length = t.size := by
  rw [bytesL, List.length_map, Array.length_toList]; rfl
theorem strCells_L (t : ByteArray) : Lib.strCells t = (bytesL t).map (Value.int .u8) := by
  rw [Lib.strCells, bytesL, List.map_map]; rfl
/-- A text with its length ahead. -/
def lineL (t : ByteArray) : List Int := (t.size : Int) :: bytesL t
theorem lineL_length (t : ByteArray) : (lineL t).length = t.size + 1 := by rw [lineL, List.length_cons, bytesL_length]
def twoL (n : Int) : List Int := [n / 256, n % 256]
def entL (e : EntD) : List Int := lineL e.k ++ lineL e.v
def delL (d : DelD) : List Int := d.kind :: (lineL d.k ++ lineL d.v ++ twoL d.to)
theorem owns_str {w : World} {B : Nat} {v : Value} {xs : List Int} {t : ByteArray} (h : w.ownsRow B 5 1 v (xs.length + t.size) (xs.map (Value.int .u8) ++ Lib.strCells t)) : Owns w B v (xs ++ bytesL t) :=
  owns_apps (bytesL_length t) (by rw [← strCells_L]; exact h)
theorem owns_line {w : World} {B : Nat} {v : Value} {xs : List Int} {t : ByteArray} (h : w.ownsRow B 5 1 v (xs.length + 1 + t.size) (xs.map (Value.int .u8) ++ .int .u8 (t.size : Int) :: Lib.strCells t)) : Owns w B v (xs ++ lineL t) := by
  unfold Owns
  rw [List.length_append, lineL_length, List.map_append, lineL, List.map_cons, ← strCells_L, show xs.length + (t.size + 1) = xs.length + 1 + t.size by omega]
  exact h
theorem below_grown {B : Nat} {w wr w1 : World} {n : Nat} {v : Value} {xs : List Value} (hb : Below B w wr) (hB : B ≤ wr.heap.size) (hown : wr.ownsRow B 5 1 v n xs) (hg : wr.grownBy w1 v.ownBlock) : Below B w w1 :=
  hb.grown hg hB (fun k hk => (hown.lt k hk).1)
/-- What a right page's fields are bounded by. -/
def SmallP (lo hi : ByteArray) (r : Int) (es : List EntD) (ds : List DelD) : Prop :=
  lo.size ≤ 40 ∧ hi.size ≤ 40 ∧ 0 ≤ r + 1 ∧ r + 1 ≤ 1001 ∧ es.length ≤ 32 ∧ ds.length ≤ 12 ∧ (∀ i (hi : i < es.length), es[i].k.size ≤ 100 ∧ es[i].v.size ≤ 100) ∧ ∀ i (hi : i < ds.length), 0 ≤ ds[i].kind ∧ ds[i].kind ≤ 255 ∧ ds[i].k.size ≤ 100 ∧ ds[i].v.size ≤ 100 ∧ 0 ≤ ds[i].to ∧ ds[i].to ≤ 1000
theorem okE_small {lo hi : ByteArray} {e : EntD} (h : okEnt lo hi e = true) : e.k.size ≤ 100 ∧ e.v.size ≤ 100 := by
  unfold okEnt keyK valK at h
  simp only [Bool.and_eq_true, decide_eq_true_eq] at h
  omega
theorem size_empty {v : ByteArray} (h : v.toList.isEmpty = true) : v.size ≤ 100 := by
  have := congrArg List.length (List.isEmpty_iff.1 h)
  rw [ByteArray.toList_eq] at this
  have e : v.size = v.data.toList.length := by rw [Array.length_toList]; rfl
  rw [e, this]
  simp
theorem okD_small {lo hi : ByteArray} {d : DelD} (h : okDel lo hi d = true) : 0 ≤ d.kind ∧ d.kind ≤ 255 ∧ d.k.size ≤ 100 ∧ d.v.size ≤ 100 ∧ 0 ≤ d.to ∧ d.to ≤ 1000 := by
  unfold okDel keyK valK idK at h
  simp only [Bool.and_eq_true, Bool.or_eq_true, decide_eq_true_eq] at h
  obtain ⟨⟨h1, _⟩, (⟨⟨h2, h3⟩, h4⟩ | ⟨⟨h2, h3⟩, h4⟩) | ⟨⟨⟨h2, h3⟩, _⟩, h4⟩⟩ := h
  · omega
  · have := size_empty h3; omega
  · have := size_empty h3; omega
theorem ok_small {lo hi : ByteArray} {r : Int} {es : List EntD} {ds : List DelD} (h : okPage lo hi r es ds = true) : SmallP lo hi r es ds := by
  have hl := ok_len h
  unfold okPage at h
  simp only [Bool.and_eq_true, decide_eq_true_eq] at h
  obtain ⟨⟨⟨⟨⟨h1, h2⟩, h3⟩, h4⟩, h5⟩, _⟩ := h
  unfold okBounds at h1
  simp only [Bool.and_eq_true, decide_eq_true_eq] at h1
  have hr : 0 ≤ r + 1 ∧ r + 1 ≤ 1001 := by
    have h6 := h1.2
    split at h6
    · have := of_decide_eq_true h6; omega
    · unfold idK at h6; simp only [Bool.and_eq_true, decide_eq_true_eq] at h6; omega
  refine ⟨h1.1.1, h1.1.2, hr.1, hr.2, h2, h3, fun i hi' => ?_, fun i hi' => ?_⟩
  · have h7 := List.all_eq_true.1 h4 i (List.mem_range.2 hi')
    unfold okAtE at h7
    rw [List.getElem?_eq_getElem hi'] at h7
    simp only [Bool.and_eq_true] at h7
    exact okE_small h7.1
  · have h7 := List.all_eq_true.1 h5 i (List.mem_range.2 hi')
    rw [okAtD_at hi'] at h7
    exact okD_small h7
def entsL (es : List EntD) : List Int := es.flatMap entL
def delsL (ds : List DelD) : List Int := ds.flatMap delL
theorem entsL_snoc (es : List EntD) (e : EntD) : entsL (es ++ [e]) = entsL es ++ entL e := by simp [entsL]
theorem delsL_snoc (ds : List DelD) (d : DelD) : delsL (ds ++ [d]) = delsL ds ++ delL d := by simp [delsL]
theorem entL_length (e : EntD) : (entL e).length = e.k.size + 1 + (e.v.size + 1) := by rw [entL, List.length_append, lineL_length, lineL_length]
theorem delL_length (d : DelD) : (delL d).length = d.k.size + 1 + (d.v.size + 1) + 2 + 1 := by simp [delL, twoL, lineL_length]; omega
theorem entsL_le : ∀ es : List EntD, (∀ i (hi : i < es.length), es[i].k.size ≤ 100 ∧ es[i].v.size ≤ 100) → (entsL es).length ≤ 202 * es.length
  | [], _ => by simp [entsL]
  | e :: r, h => by
    have h0 := h 0 (by simp)
    have h1 := entsL_le r (fun i hi => h (i + 1) (by simp; omega))
    have h2 := entL_length e
    simp only [entsL, List.flatMap_cons, List.length_append, List.length_cons, List.getElem_cons_zero] at *
    omega
theorem delsL_le : ∀ ds : List DelD, (∀ i (hi : i < ds.length), 0 ≤ ds[i].kind ∧ ds[i].kind ≤ 255 ∧ ds[i].k.size ≤ 100 ∧ ds[i].v.size ≤ 100 ∧ 0 ≤ ds[i].to ∧ ds[i].to ≤ 1000) → (delsL ds).length ≤ 205 * ds.length
  | [], _ => by simp [delsL]
  | d :: r, h => by
    have h0 := h 0 (by simp)
    have h1 := delsL_le r (fun i hi => h (i + 1) (by simp; omega))
    have h2 := delL_length d
    simp only [delsL, List.flatMap_cons, List.length_append, List.length_cons, List.getElem_cons_zero] at *
    omega
/-- A page's bytes ahead of the entries, and all of them. -/
def headL (lo hi : ByteArray) (r : Int) (n : Nat) : List Int := lineL lo ++ lineL hi ++ twoL (r + 1) ++ [(n : Int)]
theorem headL_length (lo hi : ByteArray) (r : Int) (n : Nat) : (headL lo hi r n).length = lo.size + hi.size + 5 := by simp [headL, lineL_length, twoL]; omega
def pageL (lo hi : ByteArray) (r : Int) (es : List EntD) (ds : List DelD) : List Int := headL lo hi r es.length ++ entsL es ++ [(ds.length : Int)] ++ delsL ds
theorem pageL_length {lo hi : ByteArray} {r : Int} {es : List EntD} {ds : List DelD} (h : SmallP lo hi r es ds) : (pageL lo hi r es ds).length ≤ 10000 := by
  obtain ⟨h1, h2, _, _, h3, h4, h5, h6⟩ := h
  have a := entsL_le es h5
  have b := delsL_le ds h6
  have c := headL_length lo hi r es.length
  simp only [pageL, List.length_append, List.length_singleton]
  omega
/-- Blocks that are no row of bytes stay. -/
def KeepT (w w' : World) : Prop := ∀ (b : Nat) (cs : Array Value) (t : TypeId), t ≠ 5 → w.heap[b]? = some (.cells cs t (0, 0)) → w'.heap[b]? = some (.cells cs t (0, 0))
theorem KeepT.refl (w : World) : KeepT w w := fun _ _ _ _ h => h
theorem KeepT.trans {a b c : World} (h : KeepT a b) (k : KeepT b c) : KeepT a c := fun i cs t ht e => k i cs t ht (h i cs t ht e)
theorem heap_lt' {w : World} {b : Nat} {o : Obj} (h : w.heap[b]? = some o) : b < w.heap.size := (Array.getElem?_eq_some_iff.1 h).1
theorem KeepT.below {w w' : World} (h : Below w.heap.size w w') : KeepT w w' := fun b _ _ _ e => (h.block b (heap_lt' e)).trans e
theorem KeepT.grown {w w' : World} {B : Nat} {v : Value} {xs : List Int} (ho : Owns w B v xs) (h : w.grownBy w' v.ownBlock) : KeepT w w' := by
  intro b cs t ht e
  rw [h.block b (heap_lt' e) ?_]
  · exact e
  · intro hb
    rcases ho.2 with ⟨rfl, _⟩ | ⟨g, cap, cur, rfl, _, hg, _⟩
    · cases hb
    · have hbg : b = g := by simpa [Value.ownBlock] using hb
      subst hbg
      rw [e] at hg
      injection hg with hg
      injection hg with _ h2 _
      exact ht h2
theorem KeepT.app {w w' : World} {B : Nat} {v : Value} {xs : List Int} {o : Obj} (ho : Owns w B v xs) (h : (w.alloc o).grownBy w' v.ownBlock) : KeepT w w' :=
  (KeepT.below ((Below.refl _ _).alloc (Nat.le_refl _) o)).trans (KeepT.grown (World.ownsRow.alloc ho o) h)
theorem owns_lit1 {w : World} {B : Nat} (x : Int) (h : B ≤ w.heap.size) : Owns (w.alloc (.cells #[.int .u8 x] 5)) B (.slice (some ⟨w.heap.size, 0, none⟩) 1 1) [x] :=
  World.ownsRow_lit _ _ _ h (by unfold maxLen; simp) rfl
theorem owns_lit2 {w : World} {B : Nat} (x y : Int) (h : B ≤ w.heap.size) : Owns (w.alloc (.cells #[.int .u8 x, .int .u8 y] 5)) B (.slice (some ⟨w.heap.size, 0, none⟩) 2 2) [x, y] :=
  World.ownsRow_lit _ _ _ h (by unfold maxLen; simp) rfl
theorem owns_nil8 (w : World) (B : Nat) : Owns w B (.slice none 0 0) [] := ⟨rfl, .inl ⟨rfl, rfl⟩⟩
set_option maxHeartbeats 1000000 in
theorem appTwo_any (B : Nat) (v0 : Value) (zs : List Int) (n : Int) (w : World) (hB : B ≤ w.heap.size) (hz : zs.length ≤ 10000000) (h0 : 0 ≤ n) (h1 : n ≤ 65535) (ho : Owns w B v0 zs) :
    Calls Try.prog 62 #[v0, .int .i64 n] w fun e w' => ∃ v, e = .returned v ∧ Owns w' B v (zs ++ twoL n) ∧ Below B w w' ∧ KeepT w w' := by
  obtain ⟨i0, hi, hz0, hz1, hz2⟩ := info_parts Try.infoU8
  have hq : n / 256 % 256 = n / 256 := by omega
  go_enter Try.func62, Try.ntmps62
  go_wp2_with (at_builtin; refine wpList_append_own _ rfl _ _ 49 rfl B 5 i0 (.int .u8 0) 1 1 Try.underlying49 hi hz0 hz1 hz2 rfl (by decide) _ _ _ rfl (ho.alloc _) ⟨w.heap.size, 0, none⟩ 2 2 [.int .u8 (n / 256), .int .u8 (n % 256)] rfl rfl cell_two (two_u8 _ _) (by unfold maxLen; omega) (by omega) (by simp; omega) ?_)
  intro v1 w1 hown1 hgrow1 _
  have R1 := hide (owns_app2 hown1)
  have R2 := hide (below_app (Below.refl _ _) hB ho hgrow1)
  have R3 := hide (KeepT.app ho hgrow1)
  clear ho hown1 hgrow1
  go_wp2_with fail
  go_ret
  exact ⟨_, rfl, unhide R1, unhide R2, unhide R3⟩
set_option maxHeartbeats 1000000 in
theorem appShort_any (B : Nat) (v0 : Value) (zs : List Int) (t : ByteArray) (w : World) (hB : B ≤ w.heap.size) (hz : zs.length ≤ 10000000) (ht : t.size ≤ 255) (ho : Owns w B v0 zs) :
    Calls Try.prog 61 #[v0, .string t] w fun e w' => ∃ v, e = .returned v ∧ Owns w' B v (zs ++ lineL t) ∧ Below B w w' ∧ KeepT w w' := by
  obtain ⟨i0, hi, hz0, hz1, hz2⟩ := info_parts Try.infoU8
  have hq : (t.size : Int) % 256 = (t.size : Int) := by omega
  go_enter Try.func61, Try.ntmps61
  go_wp2_with (at_builtin; refine wpList_append_own _ rfl _ _ 49 rfl B 5 i0 (.int .u8 0) 1 1 Try.underlying49 hi hz0 hz1 hz2 rfl (by decide) _ _ _ rfl (ho.alloc _) ⟨w.heap.size, 0, none⟩ 1 1 [.int .u8 (t.size : Int)] rfl rfl (cell_one_new _ _ _) (one_u8 _) (by unfold maxLen; omega) (by omega) (by simp; omega) ?_)
  intro v1 w1 hown1 hgrow1 _
  have O1 := owns_app hown1
  have R2 := below_app (Below.refl _ _) hB ho hgrow1
  have R4 := KeepT.app ho hgrow1
  have hs1 : B ≤ w1.heap.size := Nat.le_trans hB R2.size
  have hl1 : (zs ++ [(t.size : Int)]).length ≤ 10000001 := by simp; omega
  clear ho hown1 hgrow1
  go_wp2_with (at_builtin; refine Lib.wpList_append_own_string _ rfl _ _ 49 9 rfl B 5 i0 Try.underlying49 Try.underlying9 hi hz0 hz1 hz2 _ _ _ rfl O1 t rfl (by unfold maxLen; omega) (by omega) hs1 ?_)
  intro v2 w2 hown2 hgrow2 _
  have R1 := hide (owns_line hown2)
  have R3 := hide (below_grown R2 hs1 O1 hgrow2)
  have R5 := hide (R4.trans (KeepT.grown O1 hgrow2))
  clear O1 R2 R4 hown2 hgrow2
  go_wp2_with fail
  go_ret
  exact ⟨_, rfl, unhide R1, unhide R3, unhide R5⟩
set_option maxHeartbeats 1000000 in
theorem l04Two_any (n : Int) (w : World) (h0 : 0 ≤ n) (h1 : n ≤ 65535) :
    Calls Try.prog 81 #[.int .i64 n] w fun e w' => e = .returned (.slice (some ⟨w.heap.size, 0, none⟩) 2 2) ∧ w' = w.alloc (.cells #[.int .u8 (n / 256), .int .u8 (n % 256)] 5) := by
  have hq : n / 256 % 256 = n / 256 := by omega
  go_enter Try.func81, Try.ntmps81
  go_wp2_with fail
  go_ret
  exact ⟨rfl, rfl⟩
set_option maxHeartbeats 1000000 in
theorem l04Line_any (t : ByteArray) (w : World) (ht : t.size ≤ 255) :
    Calls Try.prog 80 #[.string t] w fun e w' => ∃ g cap, e = .returned (.slice (some ⟨g, 0, none⟩) (t.size + 1) cap) ∧ Owns w' w.heap.size (.slice (some ⟨g, 0, none⟩) (t.size + 1) cap) (lineL t) ∧ Below w.heap.size w w' := by
  obtain ⟨i0, hi, hz0, hz1, hz2⟩ := info_parts Try.infoU8
  have hq : (t.size : Int) % 256 = (t.size : Int) := by omega
  have O0 := owns_lit1 (w := w) (B := w.heap.size) (t.size : Int) (Nat.le_refl _)
  have B0 : Below w.heap.size w (w.alloc (.cells #[.int .u8 (t.size : Int)] 5)) := (Below.refl _ _).alloc (Nat.le_refl _) _
  have hs0 := B0.size
  go_enter Try.func80, Try.ntmps80
  go_wp2_with (at_builtin; refine Lib.wpList_append_own_string _ rfl _ _ 49 9 rfl w.heap.size 5 i0 Try.underlying49 Try.underlying9 hi hz0 hz1 hz2 _ _ _ rfl O0 t rfl (by unfold maxLen; simp; omega) (by simp; omega) hs0 ?_)
  intro v2 w2 hown2 hgrow2 hnil
  have R1 : Owns w2 w.heap.size v2 (lineL t) := owns_str (xs := [(t.size : Int)]) hown2
  have R3 := hide (below_grown B0 hs0 O0 hgrow2)
  have hn : v2 ≠ .slice none 0 0 := hnil
  clear O0 B0 hown2 hgrow2 hnil
  obtain ⟨g, cap, rfl⟩ : ∃ g cap, v2 = .slice (some ⟨g, 0, none⟩) (t.size + 1) cap := by
    rcases R1.2 with ⟨e, _⟩ | ⟨g, cap, cur, e, _⟩
    · exact absurd e hn
    · exact ⟨g, cap, by rw [e, lineL_length]⟩
  have R1' := hide R1
  clear R1 hn
  go_wp2_with fail
  go_ret
  exact ⟨g, cap, rfl, unhide R1', unhide R3⟩
end Go.Proofs.Ytkggpapmhopaeaa
