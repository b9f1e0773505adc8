/-
  Bytes of Go's library: a copy, equality, a beginning; two bytes read as a number.
-/
import Derived.Test.YtdiakahaghggiaaScL
import Derived.Test.YtdiakahaghggiaaBits
import Derived.Test.YtdiakahaghggiaaTakes
import Derived.Test.YtdiakahaghggiaaWrT
import Derived.Test.YtdiakahaghggiaaAppL
import Derived.Laws.AppendOwnNone
namespace Go.Proofs.Ytdiakahaghggiaa
open Go.RowKit

theorem sc_conv {w : World} {a : Option Addr} {n c : Nat} {xs : List Int} (h : Row w a n xs) : (convert 22 9 (.slice a n c)).run Try.prog w = .ok (.string (strOfNums xs)) w := by
  by_cases hn : 0 < n
  · obtain ⟨b, off, rfl, _⟩ := h.2 0 hn
    exact run_convert_bytes_arg _ 22 5 Try.underlying22 Try.underlying5 b off n c xs h.1 (fun i hi => by
      obtain ⟨b', off', e, hc⟩ := h.2 i hi
      cases e
      exact hc) 9 Try.underlying9
  · obtain rfl : n = 0 := by omega
    obtain rfl : xs = [] := List.eq_nil_of_length_eq_zero h.1
    cases a with
    | none => rw [run_convert_bytes_string (P := Try.prog) w 22 9 5 none 0 c Try.underlying22 Try.underlying5 Try.underlying9]; rfl
    | some x =>
      obtain ⟨b, off, spot⟩ := x
      rw [run_convert_bytes_string (P := Try.prog) w 22 9 5 (some ⟨b, off, spot⟩) 0 c Try.underlying22 Try.underlying5 Try.underlying9]; rfl
theorem sc_back {xs : List Int} (hb : Bytes8 xs) : (strOfNums xs).data.toList.map (fun b : UInt8 => (b.toNat : Int)) = xs := by
  rw [strOfNums_data, List.map_map]
  have : ∀ x ∈ xs, ((fun b : UInt8 => (b.toNat : Int)) ∘ fun n : Int => UInt8.ofNat n.toNat) x = x := fun x hx => by
    have := bytes8_mem.1 hb x hx
    simp
    omega
  rw [List.map_congr_left this, List.map_id']
theorem sc_strs {xs ys : List Int} (hx : Bytes8 xs) (hy : Bytes8 ys) : ((strOfNums xs).toList == (strOfNums ys).toList) = decide (xs = ys) := by
  by_cases h : xs = ys
  · subst h; simp
  · rw [decide_eq_false h]
    cases hq : ((strOfNums xs).toList == (strOfNums ys).toList) with
    | false => rfl
    | true =>
      refine absurd ?_ h
      have e : (strOfNums xs).toList = (strOfNums ys).toList := by simpa using hq
      rw [ByteArray.toList_eq, ByteArray.toList_eq] at e
      rw [← sc_back hx, ← sc_back hy, e]
theorem sc_row_take {w : World} {a : Option Addr} {n m : Nat} {xs : List Int} (h : Row w a n xs) (hm : m ≤ n) : Row w a m (xs.take m) := by
  refine ⟨by rw [List.length_take, h.1]; omega, fun i hi => ?_⟩
  obtain ⟨b, off, e, c⟩ := h.2 i (by omega)
  refine ⟨b, off, e, c.trans ?_⟩
  simp [List.getD, hi]
theorem sc_row_drop {w : World} {b off n : Nat} {xs : List Int} (h : Row w (some ⟨b, off, none⟩) n xs) (m : Nat) : Row w (some ⟨b, off + m, none⟩) (n - m) (xs.drop m) := by
  refine ⟨by rw [List.length_drop, h.1], fun i hi => ?_⟩
  obtain ⟨b', off', e, c⟩ := h.2 (m + i) (by omega)
  cases e
  refine ⟨b, off + m, rfl, ?_⟩
  rw [show off + m + i = off + (m + i) by omega, c]
  simp [List.getD]
/-- append([]byte{}, s...): the copy lies in a new block. -/
theorem sc_copy {w : World} {B b off n c : Nat} {xs : List Int} (ty : TypeId) (hr : Row w (some ⟨b, off, none⟩) n xs) (hn : n ≤ 1000000) (hB : B ≤ w.heap.size) :
    ∃ g cap w', (Builtin.append_ #[22, 22] ty #[.slice (some ⟨w.heap.size, 0, none⟩) 0 0, .slice (some ⟨b, off, none⟩) n c]).run Try.prog (w.alloc (.cells #[] 5)) = .ok (.slice (some ⟨g, 0, none⟩) n cap) w' ∧ Owns w' B (.slice (some ⟨g, 0, none⟩) n cap) xs ∧ w.heap.size ≤ g ∧ Below w.heap.size w w' := by
  obtain ⟨i0, hi0, hz0, hz1, hz2⟩ := info_parts Try.infoU8
  have bA : Below w.heap.size w (w.alloc (.cells #[] 5)) := (Below.refl _ _).alloc (Nat.le_refl _) _
  have hO : Owns (w.alloc (.cells #[] 5)) w.heap.size (.slice (some ⟨w.heap.size, 0, none⟩) 0 0) [] := World.ownsRow_lit _ _ _ (Nat.le_refl _) (by unfold maxLen; simp) rfl
  obtain rfl := hr.1
  have hs : ∀ j u, (xs.map (Value.int .u8))[j]? = some u → (w.alloc (.cells #[] 5)).cell? ((⟨b, off, none⟩ : Addr).add j) = some u := fun j u hu => by
    have hj : j < xs.length := by simpa using (List.getElem?_eq_some_iff.1 hu).1
    obtain ⟨b', off', e, hc⟩ := hr.2 j hj
    cases e
    have e2 : (⟨b, off, none⟩ : Addr).add j = ⟨b, off + j, none⟩ := by unfold Addr.add; split <;> simp_all
    rw [e2, bA.cell (p := ⟨b, off + j, none⟩) (cell_lt hc), hc]
    rw [List.getElem?_map] at hu
    rw [← hu]
    simp [List.getD, hj]
  obtain ⟨v', w', hrun, ho, hg, hv⟩ := run_append_own (P := Try.prog) (w.alloc (.cells #[] 5)) w.heap.size 22 ty 5 i0 (.int .u8 0) 1 1 Try.underlying22 hi0 hz0 hz1 hz2 rfl (by decide) _ _ _ hO ⟨b, off, none⟩ xs.length c (xs.map (Value.int .u8)) (by simp) hs (all_u8 _) (by unfold maxLen; simp; omega) (by simp; omega) bA.size
  have ho' : Owns w' w.heap.size v' xs := by
    have := ho
    simp only [List.length_nil, Nat.zero_add, List.map_nil, List.nil_append] at this
    exact this
  have hb' : Below w.heap.size w w' := bA.trans ((Below.refl _ _).grown hg bA.size (fun k hk => (hO.lt k hk).1))
  rcases ho'.2 with ⟨e, _⟩ | ⟨g, cap, cur, e, hbg, r⟩
  · exfalso
    have := (hv.1 e).1
    cases this
  · subst e
    refine ⟨g, cap, w', hrun, ⟨ho'.1, .inr ⟨g, cap, cur, rfl, Nat.le_trans hB hbg, r⟩⟩, hbg, hb'⟩
/-- The same, other blocks made between. -/
theorem sc_copy2 {w : World} {C q b off n c : Nat} {xs : List Int} (ty : TypeId) (hO : Owns w C (.slice (some ⟨q, 0, none⟩) 0 0) []) (hr : Row w (some ⟨b, off, none⟩) n xs) (hn : n ≤ 1000000) (hC : C ≤ w.heap.size) :
    ∃ g cap w', (Builtin.append_ #[22, 22] ty #[.slice (some ⟨q, 0, none⟩) 0 0, .slice (some ⟨b, off, none⟩) n c]).run Try.prog w = .ok (.slice (some ⟨g, 0, none⟩) n cap) w' ∧ Owns w' C (.slice (some ⟨g, 0, none⟩) n cap) xs ∧ (g = q ∨ g = w.heap.size) ∧ w.grownBy w' (some q) := by
  obtain ⟨i0, hi0, hz0, hz1, hz2⟩ := info_parts Try.infoU8
  obtain rfl := hr.1
  have hs : ∀ j u, (xs.map (Value.int .u8))[j]? = some u → w.cell? ((⟨b, off, none⟩ : Addr).add j) = some u := fun j u hu => by
    have hj : j < xs.length := by simpa using (List.getElem?_eq_some_iff.1 hu).1
    obtain ⟨b', off', e, hc⟩ := hr.2 j hj
    cases e
    have e2 : (⟨b, off, none⟩ : Addr).add j = ⟨b, off + j, none⟩ := by unfold Addr.add; split <;> simp_all
    rw [e2, hc]
    rw [List.getElem?_map] at hu
    rw [← hu]
    simp [List.getD, hj]
  obtain ⟨v', w', hrun, ho, hg, hv, hloc⟩ := app_at (P := Try.prog) (w := w) (B := C) 22 ty 5 Try.underlying22 hi0 hz0 hz1 hz2 rfl (by decide) hO ⟨b, off, none⟩ xs.length c (xs.map (Value.int .u8)) (by simp) hs (all_u8 _) (by unfold maxLen; simp; omega) (by simp; omega) hC (fun e => by cases e)
  have ho' : Owns w' C v' xs := by
    have := ho
    simp only [List.length_nil, Nat.zero_add, List.map_nil, List.nil_append] at this
    exact this
  rcases ho'.2 with ⟨e, _⟩ | ⟨g, cap, cur, e, hbg, r⟩
  · exact absurd e hv
  · subst e
    refine ⟨g, cap, w', hrun, ho', ?_, hg⟩
    simpa [Value.ownBlock] using hloc
theorem sc_wpApp {P : Program} {ops : Array Oper} {rest : List Oper} {o : Oper} {a : Act} {w : World} {Q : Exit → Act → World → Prop}
    (hg : o.guard = none) (s x : Operand) (t : TypeId) (hop : o.op = Op.call { callee := Callee.builtin Builtin.append, args := #[s, x], argTypes := #[t, t] })
    (vs vx v' : Value) (w' : World) (hs : a.eval s = vs) (hx : a.eval x = vx) (hrun : (Builtin.append_ #[t, t] o.type #[vs, vx]).run P w = .ok v' w') (h : wpList P ops Q rest (a.put o.dst v') w') :
    wpList P ops Q (o :: rest) a w :=
  wpList_plain hg fun _ hK => by
    unfold Oper.wp
    simp [execOp, hop, resolve, invoke, builtin, hs, hx, hrun, Result.andThen]
    exact hK _ _ h
theorem sc_stepApp {P : Program} {ops : Array Oper} {o : Oper} {a : Act} {w : World} {K : Act → World → Prop} {Q : Exit → Act → World → Prop} {E : Prop}
    (hg : o.guard = none) (s x : Operand) (t : TypeId) (hop : o.op = Op.call { callee := Callee.builtin Builtin.append, args := #[s, x], argTypes := #[t, t] })
    (vs vx v' : Value) (w' : World) (hs : a.eval s = vs) (hx : a.eval x = vx) (hrun : (Builtin.append_ #[t, t] o.type #[vs, vx]).run P w = .ok v' w') (hK : K (a.put o.dst v') w') :
    if Region.wanted o (yielded ops a.tmps) = true then Oper.wp P o a w K Q else E := by
  have hw : Region.wanted o (yielded ops a.tmps) = true := by simp [Region.wanted, hg]
  rw [if_pos hw]
  unfold Oper.wp
  simp [execOp, hop, resolve, invoke, builtin, hs, hx, hrun, Result.andThen]
  exact hK
theorem sc_eql_nil (w : World) (x : Addr) (n c : Nat) : (binOp .eql 22 (.slice (some x) n c) (.slice none 0 0)).run Try.prog w = .ok (.bool false) w := by
  have e0 : ∀ d, (Op.equalIn (d + 1) 22 (.slice (some x) n c) (.slice none 0 0)).run Try.prog w = .ok false w := fun d => by simp [Op.equalIn, run_underlying Try.underlying22]
  simp only [binOp]
  simp [show Op.equal 22 (.slice (some x) n c) (.slice none 0 0) = Op.equalIn (9999 + 1) 22 (.slice (some x) n c) (.slice none 0 0) from rfl, e0 9999]
set_option maxRecDepth 100000 in
set_option maxHeartbeats 1000000 in
theorem clone_any (b off n c : Nat) (xs : List Int) (w : World) (hr : Row w (some ⟨b, off, none⟩) n xs) (hn : n ≤ 1000000) :
    Calls Try.prog 64 #[.slice (some ⟨b, off, none⟩) n c] w fun e w' => ∃ g cap, e = .returned (.slice (some ⟨g, 0, none⟩) n cap) ∧ Owns w' w.heap.size (.slice (some ⟨g, 0, none⟩) n cap) xs ∧ Below w.heap.size w w' := by
  obtain ⟨g, cap, w', hrun, ho, _, hb⟩ := sc_copy (c := c) (B := w.heap.size) 22 hr hn (Nat.le_refl _)
  have Z := hide (And.intro ho hb)
  have hnil := sc_eql_nil w ⟨b, off, none⟩ n c
  clear ho hb hr
  go_enter Try.func64, Try.ntmps64
  go_wp2_with (at_builtin; refine sc_wpApp rfl (.tmp 5) (.tmp 6) 22 rfl _ _ _ w' rfl rfl hrun ?_)
  go_ret
  exact ⟨g, cap, rfl, (unhide Z).1, (unhide Z).2⟩
theorem sc_or_two (x y : Int) (hx : 0 ≤ x ∧ x ≤ 255) (hy : 0 ≤ y ∧ y ≤ 255) : bits .or .i64 (x * 256) y = x * 256 + y := by
  obtain ⟨a, rfl⟩ := Int.eq_ofNat_of_zero_le hx.1
  obtain ⟨b, rfl⟩ := Int.eq_ofNat_of_zero_le hy.1
  show IntKind.i64.wrap ((BitVec.ofInt 64 ((a : Int) * 256) ||| BitVec.ofInt 64 (b : Int)).toNat : Int) = _
  have e1 : (BitVec.ofInt 64 ((a : Int) * 256)).toNat = a * 256 := by rw [BitVec.toNat_ofInt]; omega
  have e2 : (BitVec.ofInt 64 (b : Int)).toNat = b := by rw [BitVec.toNat_ofInt]; omega
  rw [BitVec.toNat_or, e1, e2, nat_join 8 (a * 256) b (by omega) (by omega), IntKind.wrap_i64]
  omega
end Go.Proofs.Ytdiakahaghggiaa
