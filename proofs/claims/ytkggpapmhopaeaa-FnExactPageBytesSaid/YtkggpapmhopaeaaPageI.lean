/-
  Any change, taken and done; the lists of a page that came in.
-/
import Derived.Test.YtkggpapmhopaeaaPageH
namespace Go.Proofs.Ytkggpapmhopaeaa
open Go.RowKit

/-- A slice of changes as it reads. -/
def DRow (w : World) (a : Option Addr) (n : Nat) (ds : List DelD) : Prop :=
  ds.length = n ∧ ∀ i (hi : i < ds.length), ∃ b off, a = some ⟨b, off, none⟩ ∧ w.cell? ⟨b, off + i * 4, none⟩ = some (.int .i64 ds[i].kind) ∧ w.cell? ⟨b, off + i * 4 + 1, none⟩ = some (.string ds[i].k) ∧
    w.cell? ⟨b, off + i * 4 + 2, none⟩ = some (.string ds[i].v) ∧ w.cell? ⟨b, off + i * 4 + 3, none⟩ = some (.int .i64 ds[i].to)
theorem DRow.below {w w' : World} {a : Option Addr} {n : Nat} {ds : List DelD} (h : DRow w a n ds) (hb : Below w.heap.size w w') : DRow w' a n ds := by
  refine ⟨h.1, fun i hi => ?_⟩
  obtain ⟨b, off, e, c0, c1, c2, c3⟩ := h.2 i hi
  have hbl : b < w.heap.size := cell_lt c0
  exact ⟨b, off, e, (hb.cell (p := ⟨b, off + i * 4, none⟩) hbl).trans c0, (hb.cell (p := ⟨b, off + i * 4 + 1, none⟩) hbl).trans c1, (hb.cell (p := ⟨b, off + i * 4 + 2, none⟩) hbl).trans c2, (hb.cell (p := ⟨b, off + i * 4 + 3, none⟩) hbl).trans c3⟩
/-- A change that is right by itself may stand there. -/
def takesC (lo hi : ByteArray) (d : DelD) : Bool := if d.kind = 3 then inK lo hi d.k && ltK lo d.k else inK lo hi d.k
theorem okDel_eq (lo hi : ByteArray) (d : DelD) : okDel lo hi d = (okC d && takesC lo hi d) := by
  unfold okDel okC takesC
  cases keyK d.k <;> cases inK lo hi d.k <;> cases ltK lo d.k <;> cases valK d.v <;> cases d.v.toList.isEmpty <;> cases idK d.to <;> by_cases h1 : d.kind = 1 <;> by_cases h2 : d.kind = 2 <;> by_cases h3 : d.kind = 3 <;> by_cases h4 : d.to = 0 <;> simp [h1, h2, h3, h4] <;> omega
theorem okC_cases {d : DelD} (h : okC d = true) : d.kind = 1 ∧ d.to = 0 ∨ d.kind = 2 ∧ d.to = 0 ∨ d.kind = 3 := by
  unfold okC at h
  simp only [Bool.and_eq_true, Bool.or_eq_true, decide_eq_true_eq] at h
  rcases h.2 with (⟨⟨a, _⟩, b⟩ | ⟨⟨a, _⟩, b⟩) | ⟨⟨a, _⟩, _⟩
  · exact .inl ⟨a, b⟩
  · exact .inr (.inl ⟨a, b⟩)
  · exact .inr (.inr a)
theorem takes_any (sb : Nat) (lo hi : ByteArray) (r : Int) (v : Value) (d : DelD) (w : World) (h : SetAt w sb lo hi r v) (hc : okC d = true) :
    Calls Try.prog 50 #[.pointer (some ⟨sb, 0, none⟩), chgV d] w fun e w' => e = .returned (.bool (takesC lo hi d)) ∧ Below w.heap.size w w' := by
  rcases okC_cases hc with ⟨a, _⟩ | ⟨a, _⟩ | a
  · rw [show chgV d = .iface 102 (.agg #[.string d.k, .string d.v]) by unfold chgV; rw [if_pos a], show takesC lo hi d = inK lo hi d.k by unfold takesC; rw [if_neg (by omega)]]
    exact takes_put sb lo hi r v d.k d.v w h
  · rw [show chgV d = .iface 104 (.agg #[.string d.k]) by unfold chgV; rw [if_neg (by omega), if_pos a], show takesC lo hi d = inK lo hi d.k by unfold takesC; rw [if_neg (by omega)]]
    exact takes_drop sb lo hi r v d.k w h
  · rw [show chgV d = .iface 106 (.agg #[.string d.k, .int .i64 d.to]) by unfold chgV; rw [if_neg (by omega), if_neg (by omega)], show takesC lo hi d = (inK lo hi d.k && ltK lo d.k) by unfold takesC; rw [if_pos a]]
    exact takes_split sb lo hi r v d.k d.to w h
theorem do_any (sb : Nat) (lo hi : ByteArray) (r : Int) (a : Option Addr) (n c : Nat) (es : List EntD) (d : DelD) (w : World) (h : Sett w sb lo hi r a n c es) (hn : n ≤ 100) (hc : okC d = true) :
    Calls Try.prog 51 #[.pointer (some ⟨sb, 0, none⟩), chgV d] w fun e w' => e = .returned (.tuple #[]) ∧ (∃ a' n' c', Sett w' sb lo (if d.kind = 3 then d.k else hi) (if d.kind = 3 then d.to else r) a' n' c' (stepE es d)) ∧ Below sb w w' := by
  rcases okC_cases hc with ⟨k, z⟩ | ⟨k, z⟩ | k
  · rw [show chgV d = .iface 102 (.agg #[.string d.k, .string d.v]) by unfold chgV; rw [if_pos k], if_neg (by omega), if_neg (by omega), show stepE es d = stepE es ⟨1, d.k, d.v, 0⟩ by unfold stepE; simp [k]]
    exact do_put sb lo hi r a n c es d.k d.v w h hn
  · rw [show chgV d = .iface 104 (.agg #[.string d.k]) by unfold chgV; rw [if_neg (by omega), if_pos k], if_neg (by omega), if_neg (by omega), show stepE es d = stepE es ⟨2, d.k, ByteArray.empty, 0⟩ by unfold stepE; simp [k]]
    exact do_drop sb lo hi r a n c es d.k w h hn
  · rw [show chgV d = .iface 106 (.agg #[.string d.k, .int .i64 d.to]) by unfold chgV; rw [if_neg (by omega), if_neg (by omega)], if_pos k, if_pos k, show stepE es d = stepE es ⟨3, d.k, ByteArray.empty, d.to⟩ by unfold stepE; simp [k]]
    exact do_split sb lo hi r a n c es d.k d.to w h hn
theorem rise_take {lo hi : ByteArray} {es : List EntD} {j : Nat} (hj : j ≤ es.length) (h : ∀ i, i < j → okAtE lo hi es i = true) : Rise (es.take j) := by
  refine rise_of_ok (lo := lo) (hi := hi) fun i hi' => ?_
  have hij : i < j := by rw [List.length_take] at hi'; omega
  rw [← h i hij]
  unfold okAtE
  rw [List.getElem?_take, if_pos hij]
  cases es[i]? with
  | none => rfl
  | some e =>
    simp only
    rw [List.getElem?_take, if_pos (by omega)]
theorem follows_at {lo hi : ByteArray} {es : List EntD} {j : Nat} (hj : j < es.length) : (okEnt lo hi es[j] && lastOK (es.take j) es[j]) = okAtE lo hi es j := by
  unfold lastOK
  cases j with
  | zero => rw [okAtE_first hj]; simp
  | succ j =>
    rw [okAtE_next hj, takeG_snoc es j (by omega), List.getLast?_append]
    simp
/-- An append whose run is known, as one step of a region that draws. -/
theorem stepAppE {P : Program} {ops : Array Oper} {o : Oper} {a : Act} {w : World} {K : Act → World → Prop} {Q : Exit → Act → World → Prop} {E : Prop}
    (hg : o.guard = none) (s x : Operand) (t : TypeId) (hop : o.op = Op.call { callee := Callee.builtin Builtin.append, args := #[s, x], argTypes := #[t, t] })
    (vs vx v' : Value) (w' : World) (hs : a.eval s = vs) (hx : a.eval x = vx) (hrun : (Builtin.append_ #[t, t] o.type #[vs, vx]).run P w = .ok v' w') (hK : K (a.put o.dst v') w') :
    if Region.wanted o (yielded ops a.tmps) = true then Oper.wp P o a w K Q else E := by
  have hw : Region.wanted o (yielded ops a.tmps) = true := by simp [Region.wanted, hg]
  rw [if_pos hw]
  unfold Oper.wp
  simp [execOp, hop, resolve, invoke, builtin, hs, hx, hrun, Result.andThen]
  exact hK
end Go.Proofs.Ytkggpapmhopaeaa
