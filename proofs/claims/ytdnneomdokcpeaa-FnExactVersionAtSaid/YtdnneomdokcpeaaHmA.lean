/-
  A map from keys to rows of versions that the call itself made: look-ups, stores.
-/
import Derived.Test.YtdnneomdokcpeaaVrT
import Derived.Test.YtdnneomdokcpeaaVrL
import Derived.Test.YtdnneomdokcpeaaVaG
import Derived.Test.YtdnneomdokcpeaaWrT
import Derived.Test.YtdnneomdokcpeaaTakes
import Derived.Maps.OwnOps
import Derived.Maps.OwnSet
import Derived.MapKept
namespace Go.Proofs.Ytdnneomdokcpeaa
open Go.RowKit Go.Maps

theorem hm_inj {a b : ByteArray} (h : a.data.toList = b.data.toList) : a = b := by
  cases a
  cases b
  simp at h
  simp [h]
/-- A slice in a map reads as itself. -/
def hmElem (v : Value) : Option (DataW Value × List MemPlace) := some (.held v, [])
/-- Block m is a map of at most N entries that has the slices f. -/
def HMap (w : World) (m N : Nat) (f : ByteArray → Value) : Prop :=
  ∃ D : DataW Value, w.ownsMap Try.prog 9 hmElem m N D ∧ (∀ k : ByteArray, k.size ≤ maxLen → D.atKey (.string k.data.toList) (.held (.slice none 0 0)) = .held (f k)) ∧ ∀ k : ByteArray, k.size ≤ maxLen → (has D (.string k.data.toList) = true ↔ f k ≠ .slice none 0 0)
theorem HMap.lt {w : World} {m N : Nat} {f : ByteArray → Value} (h : HMap w m N f) : m < w.heap.size := by obtain ⟨D, h, _⟩ := h; exact h.lt
theorem HMap.block {w w' : World} {m N : Nat} {f : ByteArray → Value} (h : HMap w m N f) (hb : w'.heap[m]? = w.heap[m]?) : HMap w' m N f := by
  obtain ⟨D, ⟨es, clock, h1, h2⟩, h3⟩ := h
  exact ⟨D, ⟨es, clock, hb.trans h1, h2⟩, h3⟩
theorem hmap_made (w : World) : HMap (w.alloc (.map #[] 0)) w.heap.size 0 (fun _ => .slice none 0 0) :=
  ⟨.map [], World.ownsMap_made w _ _ _, fun _ _ => rfl, fun k _ => by simp [has_eq]⟩
theorem hm_zero (w : World) : (zeroValue 27).run Try.prog w = .ok (.slice none 0 0) w := by kernel_rfl
theorem HMap.lookup {w : World} {m N : Nat} {f : ByteArray → Value} (h : HMap w m N f) {k : ByteArray} (hk : k.size ≤ maxLen) : (Instr.lookup 90 (.map (some m)) (.string k) false).run Try.prog w = .ok (f k) w := by
  obtain ⟨D, h1, h2, _⟩ := h
  obtain ⟨v, ps, hrun, hv⟩ := h1.lookup (string_keyed Try.underlying9) Try.underlying90 (hm_zero w) (zd := .held (.slice none 0 0)) (zp := []) rfl (WideMaps.keyOf_string_mk (P := Try.prog) Try.underlying9 hk)
  rw [h2 k hk] at hv
  simp [hmElem] at hv
  rw [hrun, hv.1]
theorem HMap.update {w : World} {m N : Nat} {f : ByteArray → Value} (h : HMap w m N f) {k : ByteArray} (hk : k.size ≤ maxLen) (hN : N < maxLen) (v : Value) (hv : v ≠ .slice none 0 0) :
    ∃ w', (Instr.mapUpdate 90 (.map (some m)) (.string k) v).run Try.prog w = .ok () w' ∧ HMap w' m (N + 1) (fun x => if x = k then v else f x) ∧ w.grownBy w' (some m) := by
  obtain ⟨D, h1, h2, h3⟩ := h
  obtain ⟨w', hrun, ho, hg⟩ := h1.update (string_keyed Try.underlying9) Try.underlying90 hN (WideMaps.keyOf_string_mk (P := Try.prog) Try.underlying9 hk) (val := v) (d := .held v) (ps := []) rfl
  refine ⟨w', hrun, ⟨_, ho, fun j hj => ?_, fun j hj => ?_⟩, hg⟩
  · show _ = DataW.held (if j = k then v else f j)
    by_cases e : j = k
    · subst e
      rw [if_pos rfl, atKey_put_same h1.isMap (show WideAt.IsKeyLit (.string j.data.toList) from trivial)]
    · rw [if_neg e, atKey_put_other (by intro h; injection h with h; exact e (hm_inj h)), h2 j hj]
  · show _ ↔ (if j = k then v else f j) ≠ _
    by_cases e : j = k
    · subst e
      rw [if_pos rfl, has_put_same h1.isMap (show WideAt.IsKeyLit (.string j.data.toList) from trivial)]
      exact ⟨fun _ => hv, fun _ => rfl⟩
    · rw [if_neg e, has_put_other (by intro h; injection h with h; exact e (hm_inj h)), h3 j hj]
/-- A history: a map whose slices the call owns from block B on, no two in one row, none in the map's own block. -/
structure HisAt (w : World) (m N B : Nat) (f : ByteArray → Value) (ds : List VerD) : Prop where
  map : HMap w m N f
  own : ∀ k, VOwns w B (f k) (grp ds k)
  far : ∀ k j, k ≠ j → ∀ g, (f k).ownBlock = some g → (f j).ownBlock ≠ some g
  mb : m < B
  no : ∀ k, grp ds k = [] → f k = .slice none 0 0
theorem HisAt.below {w w' : World} {m N B : Nat} {f : ByteArray → Value} {ds : List VerD} (h : HisAt w m N B f ds) (hb : Below w.heap.size w w') : HisAt w' m N B f ds :=
  ⟨h.map.block (hb.block m h.map.lt), fun k => vowns_below (h.own k) hb, h.far, h.mb, h.no⟩
/-- One version appended to a row of the call's own; where the row then lies. -/
theorem hm_app {w : World} {B : Nat} {v : Value} {ds : List VerD} {d : VerD} (ho : VOwns w B v ds) (hz : ds.length ≤ 1000000) (hB : B ≤ w.heap.size) :
    ∃ v' w', (Builtin.append_ #[27, 27] 27 #[v, .slice (some ⟨w.heap.size, 0, none⟩) 1 1]).run Try.prog (w.alloc (.cells #[.string d.k, .int .i64 d.t, .string d.v, .bool d.g] 52)) = .ok v' w' ∧ VOwns w' B v' (ds ++ [d]) ∧ (w.alloc (.cells #[.string d.k, .int .i64 d.t, .string d.v, .bool d.g] 52)).grownBy w' v.ownBlock ∧ (v'.ownBlock = v.ownBlock ∨ v'.ownBlock = some (w.heap.size + 1)) := by
  obtain ⟨i0, hi0, hz0, hz1, hz2⟩ := info_parts Try.infoVersion
  have hcells : ∀ j u, (vcs [d])[j]? = some u → (w.alloc (.cells #[.string d.k, .int .i64 d.t, .string d.v, .bool d.g] 52)).cell? ((⟨w.heap.size, 0, none⟩ : Addr).add j) = some u := fun j u hu => by
    have hj : j < 4 := by simpa [vcs] using (List.getElem?_eq_some_iff.1 hu).1
    have e2 : (⟨w.heap.size, 0, none⟩ : Addr).add j = ⟨w.heap.size, j, none⟩ := by unfold Addr.add; split <;> simp_all
    rw [e2]
    refine rb_cell_new rfl ?_
    match j, hj with
    | 0, _ => simpa [vcs] using hu
    | 1, _ => simpa [vcs] using hu
    | 2, _ => simpa [vcs] using hu
    | 3, _ => simpa [vcs] using hu
  have hoa := World.ownsRow.alloc ho (.cells #[.string d.k, .int .i64 d.t, .string d.v, .bool d.g] 52)
  obtain ⟨v', w', hr, ho', hg, _⟩ := run_append_own (P := Try.prog) (w.alloc (.cells #[.string d.k, .int .i64 d.t, .string d.v, .bool d.g] 52)) B 27 27 52 i0 _ 4 48 Try.underlying27 hi0 hz0 hz1 hz2 rfl (by decide) v _ _ hoa ⟨w.heap.size, 0, none⟩ 1 1 (vcs [d]) (by simp [vcs]) hcells (vcs_one _) (by unfold maxLen; omega) (by omega) (by simp; omega)
  refine ⟨v', w', hr, by unfold VOwns; rw [List.length_append, vcs_append]; exact ho', hg, ?_⟩
  have hsz : (w.alloc (.cells #[.string d.k, .int .i64 d.t, .string d.v, .bool d.g] 52)).heap.size = w.heap.size + 1 := by simp
  rcases hoa.2 with ⟨rfl, h0⟩ | ⟨g', cap', cur, rfl, hbg, hgg, hnc, hcm, hcs, htake⟩
  · have h := run_append_nil (P := Try.prog) (w.alloc (.cells #[.string d.k, .int .i64 d.t, .string d.v, .bool d.g] 52)) 27 27 52 i0 _ Try.underlying27 hi0 hz0 ⟨w.heap.size, 0, none⟩ 1 1 (vcs [d]) (by rw [hz1]; simp [vcs]) hcells (by omega) (by omega) (by rw [hz2]; omega)
    rw [hr] at h
    injection h with h _
    subst h
    exact .inr (by simp [Value.ownBlock, hsz])
  · by_cases hroom : ds.length + 1 ≤ cap'
    · have h := run_append_room (P := Try.prog) (w.alloc (.cells #[.string d.k, .int .i64 d.t, .string d.v, .bool d.g] 52)) 27 27 52 i0 Try.underlying27 hi0 g' ds.length cap' cur hgg ⟨w.heap.size, 0, none⟩ 1 1 (vcs [d]) (by rw [hz1]; simp [vcs]) hcells (vcs_one _) hroom (by rw [hz1, hcs]; simp [vcs]; omega)
      rw [hr] at h
      injection h with h _
      subst h
      exact .inl rfl
    · have h := run_append_grow (P := Try.prog) (w.alloc (.cells #[.string d.k, .int .i64 d.t, .string d.v, .bool d.g] 52)) 27 27 52 i0 _ Try.underlying27 hi0 hz0 ⟨g', 0, none⟩ ds.length cap' (vcs ds) (by rw [hz1, vcs_len]) (fun j u hu => by
          have hj : j < ds.length * 4 := by rw [← vcs_len]; exact (List.getElem?_eq_some_iff.1 hu).1
          have e2 : (⟨g', 0, none⟩ : Addr).add j = ⟨g', j, none⟩ := by unfold Addr.add; split <;> simp_all
          rw [e2, hoa.cellAt j hj, hu]) ⟨w.heap.size, 0, none⟩ 1 1 (vcs [d]) (by rw [hz1]; simp [vcs]) hcells (by omega) (by omega) (by rw [hz2]; exact growslice_fits (by omega) (by omega))
      rw [hr] at h
      injection h with h _
      subst h
      exact .inr (by simp [Value.ownBlock, hsz])
end Go.Proofs.Ytdnneomdokcpeaa
