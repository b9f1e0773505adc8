/-
  Bytes appended to a row that the call owns: plain facts, appendShort and l04Line.
-/
import Derived.Test.YtdnneomdokcpeaaVrL
import Derived.Test.YtdnneomdokcpeaaTakes
import Derived.Lib.AppendStr
namespace Go.Proofs.Ytdnneomdokcpeaa
open Go.RowKit

theorem cb_strCells (t : ByteArray) : Lib.strCells t = (cbText t).map (Value.int .u8) := by
  rw [Lib.strCells, cbText, List.map_map]; rfl
theorem cb_owns_str {w : World} {B : Nat} {v : Value} {xs : List Int} {t : ByteArray} (h : w.ownsRow B 5 1 v (xs.length + t.size) (xs.map (Value.int .u8) ++ Lib.strCells t)) : Owns w B v (xs ++ cbText t) :=
  owns_apps (cbText_length t) (by rw [← cb_strCells]; exact h)
theorem cb_owns_line {w : World} {B : Nat} {v : Value} {xs : List Int} {t : ByteArray} (h : w.ownsRow B 5 1 v (xs.length + 1 + t.size) (xs.map (Value.int .u8) ++ .int .u8 (t.size : Int) :: Lib.strCells t)) : Owns w B v (xs ++ cbLine t) := by
  unfold Owns
  rw [List.length_append, cbLine_length, List.map_append, cbLine, List.map_cons, ← cb_strCells, show xs.length + (t.size + 1) = xs.length + 1 + t.size by omega]
  exact h
theorem cb_below_grown {B : Nat} {w wr w1 : World} {n : Nat} {v : Value} {xs : List Value} (hb : Below B w wr) (hB : B ≤ wr.heap.size) (hown : wr.ownsRow B 5 1 v n xs) (hg : wr.grownBy w1 v.ownBlock) : Below B w w1 :=
  hb.grown hg hB (fun k hk => (hown.lt k hk).1)
/-- Blocks that are no row of bytes stay. -/
def CbKeep (w w' : World) : Prop := ∀ (b : Nat) (cs : Array Value) (t : TypeId), t ≠ 5 → w.heap[b]? = some (.cells cs t (0, 0)) → w'.heap[b]? = some (.cells cs t (0, 0))
theorem CbKeep.refl (w : World) : CbKeep w w := fun _ _ _ _ h => h
theorem CbKeep.trans {a b c : World} (h : CbKeep a b) (k : CbKeep b c) : CbKeep a c := fun i cs t ht e => k i cs t ht (h i cs t ht e)
theorem cb_heap_lt {w : World} {b : Nat} {o : Obj} (h : w.heap[b]? = some o) : b < w.heap.size := (Array.getElem?_eq_some_iff.1 h).1
theorem CbKeep.below {w w' : World} (h : Below w.heap.size w w') : CbKeep w w' := fun b _ _ _ e => (h.block b (cb_heap_lt e)).trans e
theorem CbKeep.grown {w w' : World} {B : Nat} {v : Value} {xs : List Int} (ho : Owns w B v xs) (h : w.grownBy w' v.ownBlock) : CbKeep w w' := by
  intro b cs t ht e
  rw [h.block b (cb_heap_lt e) ?_]
  · exact e
  · intro hb
    rcases ho.2 with ⟨rfl, _⟩ | ⟨g, cap, cur, rfl, _, hg, _⟩
    · cases hb
    · have hbg : b = g := by simpa [Value.ownBlock] using hb
      subst hbg
      rw [e] at hg
      injection hg with hg
      injection hg with _ h2 _
      exact ht h2
theorem CbKeep.app {w w' : World} {B : Nat} {v : Value} {xs : List Int} {o : Obj} (ho : Owns w B v xs) (h : (w.alloc o).grownBy w' v.ownBlock) : CbKeep w w' :=
  (CbKeep.below ((Below.refl _ _).alloc (Nat.le_refl _) o)).trans (CbKeep.grown (World.ownsRow.alloc ho o) h)
theorem cb_lit1 {w : World} {B : Nat} (x : Int) (h : B ≤ w.heap.size) : Owns (w.alloc (.cells #[.int .u8 x] 5)) B (.slice (some ⟨w.heap.size, 0, none⟩) 1 1) [x] :=
  World.ownsRow_lit _ _ _ h (by unfold maxLen; simp) rfl
theorem cb_nil (w : World) (B : Nat) : Owns w B (.slice none 0 0) [] := ⟨rfl, .inl ⟨rfl, rfl⟩⟩
theorem cb_below {w w' : World} {B : Nat} {v : Value} {xs : List Int} (h : Owns w B v xs) (hb : Below w.heap.size w w') : Owns w' B v xs := rb_ownsRow_below h hb
theorem cb_dn {w : World} {B C : Nat} {v : Value} {xs : List Int} (h : Owns w B v xs) (hc : C ≤ B) : Owns w C v xs := by
  obtain ⟨h1, h2⟩ := h
  refine ⟨h1, ?_⟩
  rcases h2 with h2 | ⟨g, cap, cur, e, hb, r⟩
  · exact .inl h2
  · exact .inr ⟨g, cap, cur, e, Nat.le_trans hc hb, r⟩
/-- The cells of a row of bytes that the call owns. -/
theorem cb_cells {w : World} {B g n cap : Nat} {xs : List Int} (h : Owns w B (.slice (some ⟨g, 0, none⟩) n cap) xs) : ∀ j u, (xs.map (Value.int .u8))[j]? = some u → w.cell? ((⟨g, 0, none⟩ : Addr).add j) = some u := by
  intro j u hu
  have hj : j < xs.length := by simpa using (List.getElem?_eq_some_iff.1 hu).1
  have e : n = xs.length := by
    rcases h.2 with ⟨e, _⟩ | ⟨g', cap', cur, e, _⟩
    · cases e
    · injection e
  subst e
  have := World.ownsRow.cellAt h j (by omega)
  have e2 : (⟨g, 0, none⟩ : Addr).add j = ⟨g, j, none⟩ := by unfold Addr.add; split <;> simp_all
  rw [e2, this, hu]
/-- The append of a row of bytes that lies at g; where the row then lies. -/
theorem cb_app {w : World} {B C g m cap : Nat} {v : Value} {xs ys : List Int} (ho : Owns w B v xs) (ol : Owns w C (.slice (some ⟨g, 0, none⟩) m cap) ys) (hm : ys.length = m) (hm0 : 0 < m) (hmm : m ≤ 100000) (hz : xs.length ≤ 10000000) (hB : B ≤ w.heap.size) :
    ∃ v' w', (Builtin.append_ #[24, 24] 24 #[v, .slice (some ⟨g, 0, none⟩) m cap]).run Try.prog w = .ok v' w' ∧ Owns w' B v' (xs ++ ys) ∧ w.grownBy w' v.ownBlock ∧ (v'.ownBlock = v.ownBlock ∨ v'.ownBlock = some w.heap.size) := by
  obtain ⟨i0, hi0, hz0, hz1, hz2⟩ := info_parts Try.infoU8
  obtain ⟨v', w', hr, ho', hg, _⟩ := run_append_own (P := Try.prog) w B 24 24 5 i0 (.int .u8 0) 1 1 Try.underlying24 hi0 hz0 hz1 hz2 rfl (by decide) v _ _ ho ⟨g, 0, none⟩ m cap (ys.map (Value.int .u8)) (by simp [hm]) (cb_cells ol) (all_u8 _) (by unfold maxLen; omega) (by omega) hB
  refine ⟨v', w', hr, owns_apps hm ho', hg, ?_⟩
  rcases ho.2 with ⟨rfl, h0⟩ | ⟨g', cap', cur, rfl, hbg, hgg, hnc, hcm, hcs, htake⟩
  · have h := run_append_nil (P := Try.prog) w 24 24 5 i0 (.int .u8 0) Try.underlying24 hi0 hz0 ⟨g, 0, none⟩ m cap (ys.map (Value.int .u8)) (by rw [hz1]; simp [hm]) (cb_cells ol) (by omega) (by omega) (by rw [hz2]; omega)
    rw [hr] at h
    injection h with h _
    subst h
    exact .inr rfl
  · by_cases hroom : xs.length + m ≤ cap'
    · have h := run_append_room (P := Try.prog) w 24 24 5 i0 Try.underlying24 hi0 g' xs.length cap' cur hgg ⟨g, 0, none⟩ m cap (ys.map (Value.int .u8)) (by rw [hz1]; simp [hm]) (cb_cells ol) (all_u8 _) hroom (by rw [hz1, hcs]; simp; omega)
      rw [hr] at h
      injection h with h _
      subst h
      exact .inl rfl
    · have h := run_append_grow (P := Try.prog) w 24 24 5 i0 (.int .u8 0) Try.underlying24 hi0 hz0 ⟨g', 0, none⟩ xs.length cap' (xs.map (Value.int .u8)) (by rw [hz1]; simp) (cb_cells ho) ⟨g, 0, none⟩ m cap (ys.map (Value.int .u8)) (by rw [hz1]; simp [hm]) (cb_cells ol) (by omega) (by omega) (by rw [hz2]; exact growslice_fits (by omega) (by omega))
      rw [hr] at h
      injection h with h _
      subst h
      exact .inr rfl
theorem cb_apart {w w' : World} {B g n c : Nat} {v : Value} {xs ys : List Int} (h : Owns w B v xs) (hl : Owns w' w.heap.size (.slice (some ⟨g, 0, none⟩) n c) ys) : v.ownBlock ≠ some g := fun e => by
  have h1 := (h.lt g e).2
  have h2 := (hl.lt g rfl).1
  omega
theorem cb_moved {w : World} {C g n c : Nat} {v v' : Value} {ys : List Int} (hbl : v'.ownBlock = v.ownBlock ∨ v'.ownBlock = some w.heap.size) (hn : v.ownBlock ≠ some g) (hl : Owns w C (.slice (some ⟨g, 0, none⟩) n c) ys) : v'.ownBlock ≠ some g := fun e => by
  rcases hbl with h | h
  · exact hn (h.symm.trans e)
  · have h2 := (hl.lt g rfl).2
    rw [h] at e
    injection e with e
    omega
theorem cb_stays {w w' : World} {C g n c : Nat} {v : Value} {ys : List Int} (h : Owns w C (.slice (some ⟨g, 0, none⟩) n c) ys) (hne : v.ownBlock ≠ some g) (hg : w.grownBy w' v.ownBlock) : Owns w' C (.slice (some ⟨g, 0, none⟩) n c) ys :=
  World.ownsRow.kept h hg (.inr fun e => hne e.symm)
/-- An append whose run is known, as one step of a region that draws. -/
theorem cb_stepApp {P : Program} {ops : Array Oper} {o : Oper} {a : Act} {w : World} {K : Act → World → Prop} {Q : Exit → Act → World → Prop} {E : Prop}
    (hg : o.guard = none) (s x : Operand) (t : TypeId) (hop : o.op = Op.call { callee := Callee.builtin Builtin.append, args := #[s, x], argTypes := #[t, t] })
    (vs vx v' : Value) (w' : World) (hs : a.eval s = vs) (hx : a.eval x = vx) (hrun : (Builtin.append_ #[t, t] o.type #[vs, vx]).run P w = .ok v' w') (hK : K (a.put o.dst v') w') :
    if Region.wanted o (yielded ops a.tmps) = true then Oper.wp P o a w K Q else E := by
  have hw : Region.wanted o (yielded ops a.tmps) = true := by simp [Region.wanted, hg]
  rw [if_pos hw]
  unfold Oper.wp
  simp [execOp, hop, resolve, invoke, builtin, hs, hx, hrun, Result.andThen]
  exact hK
set_option maxHeartbeats 1000000 in
theorem cb_short (B : Nat) (v0 : Value) (zs : List Int) (t : ByteArray) (w : World) (hB : B ≤ w.heap.size) (hz : zs.length ≤ 10000000) (ht : t.size ≤ 255) (ho : Owns w B v0 zs) :
    Calls Try.prog 57 #[v0, .string t] w fun e w' => ∃ v, e = .returned v ∧ Owns w' B v (zs ++ cbLine t) ∧ Below B w w' ∧ CbKeep w w' := by
  obtain ⟨i0, hi, hz0, hz1, hz2⟩ := info_parts Try.infoU8
  have hq : (t.size : Int) % 256 = (t.size : Int) := by omega
  go_enter Try.func57, Try.ntmps57
  go_wp2_with (at_builtin; refine wpList_append_own _ rfl _ _ 24 rfl B 5 i0 (.int .u8 0) 1 1 Try.underlying24 hi hz0 hz1 hz2 rfl (by decide) _ _ _ rfl (ho.alloc _) ⟨w.heap.size, 0, none⟩ 1 1 [.int .u8 (t.size : Int)] rfl rfl (cell_one_new _ _ _) (one_u8 _) (by unfold maxLen; omega) (by omega) (by simp; omega) ?_)
  intro v1 w1 hown1 hgrow1 _
  have O1 := owns_app hown1
  have R2 := below_app (Below.refl _ _) hB ho hgrow1
  have R4 := CbKeep.app ho hgrow1
  have hs1 : B ≤ w1.heap.size := Nat.le_trans hB R2.size
  have hl1 : (zs ++ [(t.size : Int)]).length ≤ 10000001 := by simp; omega
  clear ho hown1 hgrow1
  go_wp2_with (at_builtin; refine Lib.wpList_append_own_string _ rfl _ _ 24 9 rfl B 5 i0 Try.underlying24 Try.underlying9 hi hz0 hz1 hz2 _ _ _ rfl O1 t rfl (by unfold maxLen; omega) (by omega) hs1 ?_)
  intro v2 w2 hown2 hgrow2 _
  have R1 := hide (cb_owns_line hown2)
  have R3 := hide (cb_below_grown R2 hs1 O1 hgrow2)
  have R5 := hide (R4.trans (CbKeep.grown O1 hgrow2))
  clear O1 R2 R4 hown2 hgrow2
  go_wp2_with fail
  go_ret
  exact ⟨_, rfl, unhide R1, unhide R3, unhide R5⟩
set_option maxHeartbeats 1000000 in
theorem cb_line (t : ByteArray) (w : World) (ht : t.size ≤ 255) :
    Calls Try.prog 55 #[.string t] w fun e w' => ∃ g cap, e = .returned (.slice (some ⟨g, 0, none⟩) (t.size + 1) cap) ∧ Owns w' w.heap.size (.slice (some ⟨g, 0, none⟩) (t.size + 1) cap) (cbLine t) ∧ Below w.heap.size w w' := by
  obtain ⟨i0, hi, hz0, hz1, hz2⟩ := info_parts Try.infoU8
  have hq : (t.size : Int) % 256 = (t.size : Int) := by omega
  have O0 := cb_lit1 (w := w) (B := w.heap.size) (t.size : Int) (Nat.le_refl _)
  have B0 : Below w.heap.size w (w.alloc (.cells #[.int .u8 (t.size : Int)] 5)) := (Below.refl _ _).alloc (Nat.le_refl _) _
  have hs0 := B0.size
  go_enter Try.func55, Try.ntmps55
  go_wp2_with (at_builtin; refine Lib.wpList_append_own_string _ rfl _ _ 24 9 rfl w.heap.size 5 i0 Try.underlying24 Try.underlying9 hi hz0 hz1 hz2 _ _ _ rfl O0 t rfl (by unfold maxLen; simp; omega) (by simp; omega) hs0 ?_)
  intro v2 w2 hown2 hgrow2 hnil
  have R1 : Owns w2 w.heap.size v2 (cbLine t) := cb_owns_str (xs := [(t.size : Int)]) hown2
  have R3 := hide (cb_below_grown B0 hs0 O0 hgrow2)
  have hn : v2 ≠ .slice none 0 0 := hnil
  clear O0 B0 hown2 hgrow2 hnil
  obtain ⟨g, cap, rfl⟩ : ∃ g cap, v2 = .slice (some ⟨g, 0, none⟩) (t.size + 1) cap := by
    rcases R1.2 with ⟨e, _⟩ | ⟨g, cap, cur, e, _⟩
    · exact absurd e hn
    · exact ⟨g, cap, by rw [e, cbLine_length]⟩
  have R1' := hide R1
  clear R1 hn
  go_wp2_with fail
  go_ret
  exact ⟨g, cap, rfl, unhide R1', unhide R3⟩
end Go.Proofs.Ytdnneomdokcpeaa
