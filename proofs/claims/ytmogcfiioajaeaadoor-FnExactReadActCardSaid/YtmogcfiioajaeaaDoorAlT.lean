/-
  Rows of texts: that read, that the call owns; one more behind a row; noughts laid over them.
-/
import Derived.Test.YtmogcfiioajaeaaDoorRowB
import Derived.Test.YtmogcfiioajaeaaDoorAppL
namespace Go.Proofs.YtmogcfiioajaeaaDoor
open Go.RowKit

/-- A slice of texts as it reads. -/
def StrRow (w : World) (a : Option Addr) (n : Nat) (ks : List ByteArray) : Prop :=
  ks.length = n ∧ ∀ i (hi : i < ks.length), ∃ b off, a = some ⟨b, off, none⟩ ∧ w.cell? ⟨b, off + i, none⟩ = some (.string ks[i])
theorem StrRow.below {w w' : World} {a : Option Addr} {n : Nat} {ks : List ByteArray} (h : StrRow w a n ks) (hb : Below w.heap.size w w') : StrRow w' a n ks := by
  refine ⟨h.1, fun i hi => ?_⟩
  obtain ⟨b, off, e, c⟩ := h.2 i hi
  exact ⟨b, off, e, (hb.cell (p := ⟨b, off + i, none⟩) (cell_lt c)).trans c⟩
/-- A slice of texts that the call owns from block B on. -/
abbrev StrOwns (w : World) (B : Nat) (v : Value) (ks : List ByteArray) : Prop := w.ownsRow B 9 1 v ks.length (ks.map Value.string)
theorem strowns_mono {w : World} {B C : Nat} {v : Value} {ks : List ByteArray} (h : StrOwns w B v ks) (hc : C ≤ B) : StrOwns w C v ks := by
  refine ⟨h.1, ?_⟩
  rcases h.2 with h | ⟨g, cap, cur, e, hb, r⟩
  · exact .inl h
  · exact .inr ⟨g, cap, cur, e, Nat.le_trans hc hb, r⟩
theorem strrow_of_owns {w : World} {B : Nat} {v : Value} {ks : List ByteArray} (h : StrOwns w B v ks) : ∃ a c, v = .slice a ks.length c ∧ StrRow w a ks.length ks := by
  have h' := h
  rcases h.2 with ⟨rfl, h0⟩ | ⟨g, cap, cur, rfl, _⟩
  · exact ⟨none, 0, by rw [h0], rfl, fun i hi => absurd hi (by omega)⟩
  · refine ⟨_, cap, rfl, rfl, fun i hi => ⟨g, 0, rfl, ?_⟩⟩
    rw [Nat.zero_add, h'.cellAt i (by omega)]
    simp [hi]
theorem strowns_form {w : World} {B n c : Nat} {a : Option Addr} {es : List ByteArray} (h : StrOwns w B (.slice a n c) es) (h0 : 0 < es.length) : ∃ g cur, a = some ⟨g, 0, none⟩ ∧ n = es.length ∧ B ≤ g ∧ w.heap[g]? = some (.cells cur 9 (0, 0)) ∧ n ≤ c ∧ c ≤ maxLen ∧ cur.size = c * 1 ∧ cur.toList.take (n * 1) = es.map Value.string := by
  rcases h.2 with ⟨e, hn⟩ | ⟨g, cap, cur, e, hb, hh, h1, h2, h3, h4⟩
  · omega
  · injection e with e1 e2 e3
    subst e1 e2 e3
    exact ⟨g, cur, rfl, rfl, hb, hh, h1, h2, h3, h4⟩
theorem strowns_n {w : World} {B n c : Nat} {a : Option Addr} {ks : List ByteArray} (h : StrOwns w B (.slice a n c) ks) : n = ks.length := by
  rcases h.2 with ⟨e, hn⟩ | ⟨g, cap, cur, e, _⟩
  · injection e with _ e _; omega
  · injection e with _ e _
theorem strowns_at {w : World} {B g n c : Nat} {ks : List ByteArray} (h : StrOwns w B (.slice (some ⟨g, 0, none⟩) n c) ks) (i : Nat) (hi : i < ks.length) : w.cell? ⟨g, i, none⟩ = some (.string ks[i]) := by
  obtain rfl := strowns_n h
  refine (h.cellAt i (by omega)).trans ?_
  rw [List.getElem?_map, List.getElem?_eq_getElem hi]
  rfl
theorem strowns_fz {w : World} {B g n c : Nat} {ks : List ByteArray} (h : StrOwns w B (.slice (some ⟨g, 0, none⟩) n c) ks) (j : Nat) : w.frozen? ⟨g, j, none⟩ = false := by
  obtain rfl := strowns_n h
  exact h.frozenAt j
theorem strowns_store {w : World} {B g n c : Nat} {ks : List ByteArray} (h : StrOwns w B (.slice (some ⟨g, 0, none⟩) n c) ks) (i : Nat) (d : ByteArray) : StrOwns (w.setCell ⟨g, i, none⟩ (.string d)) B (.slice (some ⟨g, 0, none⟩) n c) (ks.set i d) := by
  obtain rfl := strowns_n h
  obtain ⟨o1, _⟩ := World.ownsRow.stored h i (.string d)
  unfold StrOwns
  rw [List.map_set, List.length_set]
  exact o1
theorem strrow_own {w : World} {B n c : Nat} {a : Option Addr} {ks : List ByteArray} (h : StrOwns w B (.slice a n c) ks) : StrRow w a n ks := by
  obtain ⟨a', c', e, hr⟩ := strrow_of_owns h
  injection e with e1 e2 e3
  subst e1 e2 e3
  exact hr
/-- Noughts laid over texts. -/
def zS (m : Nat) : List Value := (Builtin.zeroCells (Value.string ByteArray.empty).cells m).toList
theorem zS_len (m : Nat) : (zS m).length = m * 1 := by unfold zS; rw [Array.length_toList, size_zeroCells]; rfl
theorem zS_one (m : Nat) : ∀ v ∈ zS m, v.oneCell' = true := by
  intro v hv
  unfold zS Builtin.zeroCells at hv
  have hc : (Value.string ByteArray.empty).cells = #[Value.string ByteArray.empty] := by kernel_rfl
  rw [hc] at hv
  simp at hv
  obtain ⟨_, _, rfl⟩ := hv
  rw [Nat.mod_one]
  rfl
theorem run_clearS (w : World) (ty : TypeId) (g o m c : Nat) (cur : Array Value) (hg : w.heap[g]? = some (.cells cur 9 (0, 0))) (hfit : o + m * 1 ≤ cur.size) (hm : 0 < m) :
    (Builtin.clear_ #[32] ty #[.slice (some ⟨g, o, none⟩) m c]).run Tryd.prog w = .ok (.tuple #[]) (w.setRow g (cur.toList.take o ++ zS m ++ cur.toList.drop (o + m * 1)).toArray) := by
  have hv : ∀ w, (zeroValue 9).run Tryd.prog w = .ok (.string ByteArray.empty) w := fun w => Tryd.zeroValue9 w
  have hst := run_storeCells_at Tryd.prog g o 9 (zS m) 0 cur w hg (by rw [zS_len]; simpa using hfit) (zS_one m)
  rw [zS_len] at hst
  simp only [Nat.add_zero] at hst
  obtain ⟨j, rfl⟩ : ∃ j, m = j + 1 := ⟨m - 1, by omega⟩
  unfold zS at hst ⊢
  simp [Builtin.clear_, run_underlying Tryd.underlying32, hv, hst]
theorem Tryd.infoStr : (Tryd.prog.info? 9).map (fun i => (i.zero, i.size, i.bytes)) = some (some (.string ByteArray.empty), 1, 16) := by kernel_rfl
theorem str_app {w : World} {B : Nat} {v : Value} {ks : List ByteArray} (k : ByteArray) (ho : StrOwns w B v ks) (hz : ks.length ≤ 1000000) (hB : B ≤ w.heap.size) :
    ∃ v' w', (Builtin.append_ #[32, 32] 32 #[v, .slice (some ⟨w.heap.size, 0, none⟩) 1 1]).run Tryd.prog (w.alloc (.cells #[.string k] 9)) = .ok v' w' ∧ StrOwns w' B v' (ks ++ [k]) ∧ (w.alloc (.cells #[.string k] 9)).grownBy w' v.ownBlock := by
  obtain ⟨i0, hi0, hz0, hz1, hz2⟩ := info_parts Tryd.infoStr
  have hoa := World.ownsRow.alloc ho (.cells #[.string k] 9)
  have hcells : ∀ j u, ([Value.string k])[j]? = some u → (w.alloc (.cells #[.string k] 9)).cell? ((⟨w.heap.size, 0, none⟩ : Addr).add j) = some u := fun j u hu => by
    have hj : j < 1 := by simpa using (List.getElem?_eq_some_iff.1 hu).1
    have e2 : (⟨w.heap.size, 0, none⟩ : Addr).add j = ⟨w.heap.size, j, none⟩ := by unfold Addr.add; split <;> simp_all
    rw [e2]
    refine rb_cell_new rfl ?_
    match j, hj with
    | 0, _ => simpa using hu
  obtain ⟨v', w', hrun, ho', hg, -⟩ := app_at (P := Tryd.prog) (w := w.alloc (.cells #[.string k] 9)) (B := B) 32 32 9 Tryd.underlying32 hi0 hz0 hz1 hz2 rfl (by decide) hoa ⟨w.heap.size, 0, none⟩ 1 1 [.string k] (by simp) hcells (by intro u hu; simp at hu; rw [hu]; rfl) (by unfold maxLen; omega) (by omega) (by simp; omega) (fun _ => by omega)
  exact ⟨v', w', hrun, by unfold StrOwns; rw [List.length_append, List.map_append]; exact ho', hg⟩
end Go.Proofs.YtmogcfiioajaeaaDoor
