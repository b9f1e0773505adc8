/-
  Entries in memory; what a page is behind changes, as it lies in memory; its bounds; a search in it.
-/
import Derived.Test.YtkggpapmhopaeaaPageA
namespace Go.Proofs.Ytkggpapmhopaeaa
open Go.RowKit

/-- A slice of entries as it reads. -/
def ERow (w : World) (a : Option Addr) (n : Nat) (es : List EntD) : Prop :=
  es.length = n ∧ ∀ i (hi : i < es.length), ∃ b off, a = some ⟨b, off, none⟩ ∧ w.cell? ⟨b, off + i * 2, none⟩ = some (.string es[i].k) ∧ w.cell? ⟨b, off + i * 2 + 1, none⟩ = some (.string es[i].v)
theorem ERow.below {w w' : World} {a : Option Addr} {n : Nat} {es : List EntD} (h : ERow w a n es) (hb : Below w.heap.size w w') : ERow w' a n es := by
  refine ⟨h.1, fun i hi => ?_⟩
  obtain ⟨b, off, e, c0, c1⟩ := h.2 i hi
  have hbl : b < w.heap.size := cell_lt c0
  exact ⟨b, off, e, (hb.cell (p := ⟨b, off + i * 2, none⟩) hbl).trans c0, (hb.cell (p := ⟨b, off + i * 2 + 1, none⟩) hbl).trans c1⟩
/-- The cells of entries. -/
def ecs : List EntD → List Value
  | [] => []
  | e :: r => .string e.k :: .string e.v :: ecs r
theorem ecs_len : ∀ es : List EntD, (ecs es).length = es.length * 2
  | [] => rfl
  | e :: r => by simp only [ecs, List.length_cons, ecs_len r]; omega
theorem ecs_append : ∀ a b : List EntD, ecs (a ++ b) = ecs a ++ ecs b
  | [], _ => rfl
  | e :: r, b => by simp only [List.cons_append, ecs, ecs_append r b]
theorem ecs_take : ∀ (es : List EntD) (n : Nat), ecs (es.take n) = (ecs es).take (n * 2)
  | [], n => by simp [ecs]
  | e :: r, 0 => by simp [ecs]
  | e :: r, n + 1 => by
    rw [List.take_succ_cons, show (n + 1) * 2 = n * 2 + 1 + 1 by omega]
    simp only [ecs, List.take_succ_cons, ecs_take r n]
theorem ecs_drop : ∀ (es : List EntD) (n : Nat), ecs (es.drop n) = (ecs es).drop (n * 2)
  | [], n => by simp [ecs]
  | e :: r, 0 => by simp [ecs]
  | e :: r, n + 1 => by
    rw [List.drop_succ_cons, show (n + 1) * 2 = n * 2 + 1 + 1 by omega]
    simp only [ecs, List.drop_succ_cons, ecs_drop r n]
theorem ecs_at0 : ∀ (es : List EntD) (i : Nat) (hi : i < es.length), (ecs es)[i * 2]? = some (.string es[i].k)
  | [], _, hi => by simp at hi
  | e :: r, 0, _ => rfl
  | e :: r, i + 1, hi => by
    rw [show (i + 1) * 2 = i * 2 + 1 + 1 by omega]
    simp only [ecs, List.getElem?_cons_succ, List.getElem_cons_succ]
    exact ecs_at0 r i (by simpa using hi)
theorem ecs_at1 : ∀ (es : List EntD) (i : Nat) (hi : i < es.length), (ecs es)[i * 2 + 1]? = some (.string es[i].v)
  | [], _, hi => by simp at hi
  | e :: r, 0, _ => rfl
  | e :: r, i + 1, hi => by
    rw [show (i + 1) * 2 + 1 = i * 2 + 1 + 1 + 1 by omega]
    simp only [ecs, List.getElem?_cons_succ, List.getElem_cons_succ]
    exact ecs_at1 r i (by simpa using hi)
theorem ecs_set (es : List EntD) (i : Nat) (e : EntD) : ecs (es.set i e) = ((ecs es).set (i * 2) (.string e.k)).set (i * 2 + 1) (.string e.v) := by
  induction es generalizing i with
  | nil => rfl
  | cons x r ih =>
    cases i with
    | zero => rfl
    | succ i =>
      rw [List.set_cons_succ, show (i + 1) * 2 = i * 2 + 1 + 1 by omega]
      simp only [ecs, List.set_cons_succ, ih]
theorem ecs_one (es : List EntD) : ∀ u ∈ ecs es, u.oneCell' = true := by
  induction es with
  | nil => intro u hu; simp [ecs] at hu
  | cons e r ih =>
    intro u hu
    simp only [ecs, List.mem_cons] at hu
    rcases hu with rfl | rfl | hu
    · rfl
    · rfl
    · exact ih u hu
/-- A slice of entries that the call owns from block B on. -/
abbrev EOwns (w : World) (B : Nat) (v : Value) (es : List EntD) : Prop := w.ownsRow B 58 2 v es.length (ecs es)
theorem erow_of_owns {w : World} {B n c : Nat} {a : Option Addr} {es : List EntD} (h : EOwns w B (.slice a n c) es) : ERow w a n es := by
  have h' := h
  obtain ⟨hl, h⟩ := h
  rcases h with ⟨e, hn⟩ | ⟨g, cap, cur, e, hb, hh, hc, hm, hs, ht⟩
  · injection e with e1 e2 e3
    subst e1 e2 e3
    exact ⟨hn, fun i hi => absurd hi (by omega)⟩
  · injection e with e1 e2 e3
    subst e1 e2 e3
    refine ⟨rfl, fun i hi => ⟨g, 0, rfl, ?_, ?_⟩⟩
    · rw [Nat.zero_add, h'.cellAt (i * 2) (by omega), ecs_at0 es i hi]
    · rw [Nat.zero_add, h'.cellAt (i * 2 + 1) (by omega), ecs_at1 es i hi]
/-- What a page is behind changes, in memory: her bounds and the value of her entries' slice. -/
def SetAt (w : World) (sb : Nat) (lo hi : ByteArray) (r : Int) (v : Value) : Prop := w.heap[sb]? = some (.cells #[.string lo, .string hi, .int .i64 r, v] 73 (0, 0))
theorem SetAt.c0 {w : World} {sb : Nat} {lo hi : ByteArray} {r : Int} {v : Value} (h : SetAt w sb lo hi r v) : w.cell? ⟨sb, 0, none⟩ = some (.string lo) := by unfold SetAt at h; simp [World.cell?, h]
theorem SetAt.c1 {w : World} {sb : Nat} {lo hi : ByteArray} {r : Int} {v : Value} (h : SetAt w sb lo hi r v) : w.cell? ⟨sb, 1, none⟩ = some (.string hi) := by unfold SetAt at h; simp [World.cell?, h]
theorem SetAt.c2 {w : World} {sb : Nat} {lo hi : ByteArray} {r : Int} {v : Value} (h : SetAt w sb lo hi r v) : w.cell? ⟨sb, 2, none⟩ = some (.int .i64 r) := by unfold SetAt at h; simp [World.cell?, h]
theorem SetAt.c3 {w : World} {sb : Nat} {lo hi : ByteArray} {r : Int} {v : Value} (h : SetAt w sb lo hi r v) : w.cell? ⟨sb, 3, none⟩ = some v := by unfold SetAt at h; simp [World.cell?, h]
theorem SetAt.fz {w : World} {sb : Nat} {lo hi : ByteArray} {r : Int} {v : Value} (h : SetAt w sb lo hi r v) (j : Nat) : w.frozen? ⟨sb, j, none⟩ = false := by unfold SetAt at h; simp [World.frozen?, h]
theorem SetAt.lt {w : World} {sb : Nat} {lo hi : ByteArray} {r : Int} {v : Value} (h : SetAt w sb lo hi r v) : sb < w.heap.size := (Array.getElem?_eq_some_iff.1 h).1
theorem SetAt.kept {w w' : World} {sb : Nat} {lo hi : ByteArray} {r : Int} {v : Value} (h : SetAt w sb lo hi r v) (hk : w'.heap[sb]? = w.heap[sb]?) : SetAt w' sb lo hi r v := hk.trans h
theorem SetAt.below {w w' : World} {B sb : Nat} {lo hi : ByteArray} {r : Int} {v : Value} (h : SetAt w sb lo hi r v) (hb : Below B w w') (hs : sb < B) : SetAt w' sb lo hi r v := h.kept (hb.block sb hs)

set_option maxHeartbeats 1000000 in
theorem within_any (k lo hi : ByteArray) (w : World) : Calls Try.prog 70 #[.string k, .string lo, .string hi] w fun e w' => e = .returned (.bool (inK lo hi k)) ∧ w' = w := by
  by_cases h1 : Op.bytesLess k.toList lo.toList = true
  · have E := hide (show false = inK lo hi k by unfold inK ltK; rw [h1]; rfl)
    go_enter Try.func70, Try.ntmps70
    go_wp2_with fail
    go_ret
    exact ⟨ret_bool (unhide E), rfl⟩
  · have h1' : Op.bytesLess k.toList lo.toList = false := by simpa using h1
    by_cases h2 : hi.toList.isEmpty = true
    · have E := hide (show true = inK lo hi k by unfold inK ltK; rw [h1', h2]; rfl)
      go_enter Try.func70, Try.ntmps70
      go_wp2_with fail
      go_ret
      exact ⟨ret_bool (unhide E), rfl⟩
    · have h2' : hi.toList.isEmpty = false := by simpa using h2
      have E := hide (show Op.bytesLess k.toList hi.toList = inK lo hi k by unfold inK ltK; rw [h1', h2']; simp)
      go_enter Try.func70, Try.ntmps70
      go_wp2_with fail
      go_ret
      exact ⟨ret_bool (unhide E), rfl⟩
set_option maxHeartbeats 1000000 in
theorem covers_any (sb : Nat) (lo hi : ByteArray) (r : Int) (v : Value) (k : ByteArray) (w : World) (h : SetAt w sb lo hi r v) : Calls Try.prog 46 #[.pointer (some ⟨sb, 0, none⟩), .string k] w fun e w' => e = .returned (.bool (inK lo hi k)) ∧ ∃ q, w' = w.drewN q := by
  have c0 := h.c0
  have c1 := h.c1
  clear h
  go_enter Try.func46, Try.ntmps46
  go_wp2_with fail
  go_quiet ((go_at_call 70; exact Calls.quiet_of_same (within_any k lo hi _)))
  go_wp2_with fail
  go_ret
  exact ⟨rfl, _, rfl⟩
set_option maxHeartbeats 1000000 in
theorem keyOf_any (k v : ByteArray) (w : World) : Calls Try.prog 72 #[.agg #[.string k, .string v]] w fun e w' => e = .returned (.string k) ∧ Below w.heap.size w w' := by
  go_enter Try.func72, Try.ntmps72
  go_wp2_with fail
  go_ret
  exact ⟨rfl, (Below.refl _ _).alloc (Nat.le_refl _) _⟩
end Go.Proofs.Ytkggpapmhopaeaa
