/-
  FdL, FdM, FdS, FdI, FdJ, FpA, FpB, FpC, FpK, FpP in one.
-/
import Derived.Test.YtbboigidkimkmaaPageW
import Derived.Test.YtbboigidkimkmaaPgK
import Derived.Laws.StructEq
import Derived.Deep.DeepCutAuto
import Derived.Test.YtbboigidkimkmaaFdH
import Derived.Test.YtbboigidkimkmaaPageS
import Derived.Test.YtbboigidkimkmaaPbI
import Derived.Test.YtbboigidkimkmaaRpR
import Derived.Test.YtbboigidkimkmaaFdG
import Derived.Test.YtbboigidkimkmaaPageU
import Derived.ProofKit
import Derived.OpenShut
import Derived.ShutString
import Derived.ChangeOld
import Derived.Below
namespace Go.Proofs.Ytbboigidkimkmaa
open Go.RowKit

theorem nek {k : ByteArray} {e : EntD} (h : e.k ≠ k) : (e.k.toList == k.toList) = false := by
  cases hq : (e.k.toList == k.toList) with
  | false => rfl
  | true => exact absurd (toList_inj (by simpa using hq)) h
theorem find_no {A : List EntD} {k : ByteArray} (h : ∀ e ∈ A, e.k ≠ k) : A.find? (fun e => e.k.toList == k.toList) = none :=
  List.find?_eq_none.2 (fun e he => by rw [nek (h e he)]; decide)
theorem look_app {A B : List EntD} {k : ByteArray} (h : ∀ e ∈ A, e.k ≠ k) : lookE (A ++ B) k = lookE B k := by
  unfold lookE
  rw [List.find?_append, find_no h]
  rfl
theorem look_app_r {A B : List EntD} {k : ByteArray} (h : ∀ e ∈ B, e.k ≠ k) : lookE (A ++ B) k = lookE A k := by
  unfold lookE
  rw [List.find?_append, find_no h]
  simp
theorem look_here {B : List EntD} {k v : ByteArray} : lookE (⟨k, v⟩ :: B) k = some v := by
  unfold lookE
  rw [List.find?_cons_of_pos (by simp)]
  rfl
theorem look_skip {B : List EntD} {e : EntD} {k : ByteArray} (h : e.k ≠ k) : lookE (e :: B) k = lookE B k := by
  unfold lookE
  rw [List.find?_cons_of_neg (by rw [nek h]; decide)]
theorem look_no {A : List EntD} {k : ByteArray} (h : ∀ e ∈ A, e.k ≠ k) : lookE A k = none := by
  have := look_app (B := []) h
  rw [List.append_nil] at this
  exact this
theorem look_mid {A B : List EntD} {e : EntD} {k : ByteArray} (h : e.k ≠ k) : lookE (A ++ e :: B) k = lookE (A ++ B) k := by
  unfold lookE
  rw [List.find?_append, List.find?_append, List.find?_cons_of_neg (by rw [nek h]; decide)]
theorem ltK_ne {a b : ByteArray} (h : ltK a b = true) : a ≠ b := fun e => by rw [e, ltK_irr] at h; cases h
theorem take_lt {es : List EntD} {k : ByteArray} : ∀ e ∈ es.take (pos es k), ltK e.k k = true := by
  intro e he
  obtain ⟨i, hi, rfl⟩ := List.mem_iff_getElem.1 he
  rw [List.getElem_take]
  rw [List.length_take] at hi
  exact pos_lt es k i (by omega) (by omega)
theorem drop_ge {es : List EntD} (h : Rise es) {k : ByteArray} : ∀ e ∈ es.drop (pos es k), ltK e.k k = false := by
  intro e he
  obtain ⟨i, hi, rfl⟩ := List.mem_iff_getElem.1 he
  rw [List.getElem_drop]
  rw [List.length_drop] at hi
  exact h.ge (i := pos es k) (by omega) (by omega) (pos_at es k (by omega))
theorem drop_gt {es : List EntD} (h : Rise es) {k : ByteArray} (hf : found es k = true) : ∀ e ∈ es.drop (pos es k + 1), ltK k e.k = true := by
  intro e he
  obtain ⟨hp, hk⟩ := found_in hf
  obtain ⟨i, hi, rfl⟩ := List.mem_iff_getElem.1 he
  rw [List.getElem_drop]
  rw [List.length_drop] at hi
  have := h.lt (i := pos es k) (j := pos es k + 1 + i) (by omega) (by omega)
  rw [hk] at this
  exact this
/-- The value of the change's own key. -/
theorem look_step {es : List EntD} (h : Rise es) (d : DelD) : (d.kind = 1 → lookE (stepE es d) d.k = some d.v) ∧ (d.kind = 2 → lookE (stepE es d) d.k = none) := by
  have ht : ∀ e ∈ es.take (pos es d.k), e.k ≠ d.k := fun e he => ltK_ne (take_lt e he)
  constructor
  · intro hk
    cases hf : found es d.k with
    | false =>
      rw [stepE_put_new hk hf, look_app ht, look_here]
    | true =>
      obtain ⟨hp, _⟩ := found_in hf
      rw [stepE_put_old hk hf, List.set_eq_take_append_cons_drop, if_pos hp, look_app ht, look_here]
  · intro hk
    cases hf : found es d.k with
    | false => rw [stepE_drop_new hk hf]; exact (look_rise h).2 hf
    | true =>
      rw [stepE_drop_old hk hf, look_app ht]
      exact look_no fun e he => (ltK_ne (drop_gt h hf e he)).symm
/-- The value of another key. -/
theorem look_other {es : List EntD} (hR : Rise es) (d : DelD) (hk : d.kind = 1 ∨ d.kind = 2 ∨ d.kind = 3) {o : ByteArray} (ho : o ≠ d.k) (h3 : d.kind = 3 → ltK o d.k = true) : lookE (stepE es d) o = lookE es o := by
  have e0 : es = es.take (pos es d.k) ++ es.drop (pos es d.k) := (List.take_append_drop _ _).symm
  rcases hk with hk | hk | hk
  · cases hf : found es d.k with
    | false =>
      rw [stepE_put_new hk hf, look_mid (e := ⟨d.k, d.v⟩) (fun h => ho h.symm), ← e0]
    | true =>
      obtain ⟨hp, hx⟩ := found_in hf
      rw [stepE_put_old hk hf, List.set_eq_take_append_cons_drop, if_pos hp, look_mid (e := ⟨d.k, d.v⟩) (fun h => ho h.symm)]
      have e1 : es = es.take (pos es d.k) ++ es[pos es d.k] :: es.drop (pos es d.k + 1) := by
        rw [← List.drop_eq_getElem_cons hp]; exact e0
      have := look_mid (A := es.take (pos es d.k)) (B := es.drop (pos es d.k + 1)) (e := es[pos es d.k]) (k := o) (by rw [hx]; exact fun h => ho h.symm)
      rw [← e1] at this
      exact this.symm
  · cases hf : found es d.k with
    | false => rw [stepE_drop_new hk hf]
    | true =>
      obtain ⟨hp, hx⟩ := found_in hf
      rw [stepE_drop_old hk hf]
      have e1 : es = es.take (pos es d.k) ++ es[pos es d.k] :: es.drop (pos es d.k + 1) := by
        rw [← List.drop_eq_getElem_cons hp]; exact e0
      have := look_mid (A := es.take (pos es d.k)) (B := es.drop (pos es d.k + 1)) (e := es[pos es d.k]) (k := o) (by rw [hx]; exact fun h => ho h.symm)
      rw [← e1] at this
      exact this.symm
  · rw [stepE_split hk]
    have := look_app_r (A := es.take (pos es d.k)) (B := es.drop (pos es d.k)) (k := o) (fun e he h => by
      have g := drop_ge hR e he
      rw [h, h3 hk] at g
      cases g)
    rw [← e0] at this
    exact this.symm
end Go.Proofs.Ytbboigidkimkmaa

namespace Go.Proofs.Ytbboigidkimkmaa
open Go.RowKit

/-- What Find answers of a right page and a key: value, number, code. -/
def findI (lo hi : ByteArray) (r : Int) (es : List EntD) (k : ByteArray) : ByteArray × Int × Int :=
  if ltK k lo = true then (ByteArray.empty, 0, 4)
  else if underK k hi = false then (ByteArray.empty, r, 12)
  else match lookE es k with
    | some v => (v, 0, 0)
    | none => (ByteArray.empty, 0, 5)
/-- What Find answers. -/
def findT (lo hi : ByteArray) (r : Int) (es : List EntD) (ds : List DelD) (k : ByteArray) : ByteArray × Int × Int :=
  if 65536 < k.size then (ByteArray.empty, 0, 2)
  else if okPage lo hi r es ds = true ∧ keyK k = true then findI lo (highE hi ds) (rightE r ds) (entsE es ds) k
  else (ByteArray.empty, 0, 1)
theorem findT_in {lo hi : ByteArray} {r : Int} {es : List EntD} {ds : List DelD} {k : ByteArray} (h : okPage lo hi r es ds = true) (hk : keyK k = true) (hs : ¬ 65536 < k.size) : findT lo hi r es ds k = findI lo (highE hi ds) (rightE r ds) (entsE es ds) k := by
  have c : okPage lo hi r es ds = true ∧ keyK k = true := ⟨h, hk⟩
  unfold findT
  rw [if_neg hs, if_pos c]
abbrev tup3 (t : ByteArray × Int × Int) : Value := .tuple #[.string t.1, .int .i64 t.2.1, .int .i64 t.2.2]
theorem findA_eq (lo hi : ByteArray) (r : Int) (es : List EntD) (ds : List DelD) (k : ByteArray) : findA lo hi r es ds k = tup3 (findT lo hi r es ds k) := by
  unfold findA findT findV findI
  split
  · rfl
  · split
    · split
      · rfl
      · split
        · rfl
        · cases lookE (entsE es ds) k <;> rfl
    · rfl
theorem ok_parts {lo hi : ByteArray} {r : Int} {es : List EntD} {ds : List DelD} (h : okPage lo hi r es ds = true) : okBounds lo hi r = true ∧ es.length ≤ 32 ∧ ds.length ≤ 12 ∧ okBase lo hi es = true ∧ okChain lo hi ds = true ∧ (entsE es ds).length ≤ 32 := by
  unfold okPage at h
  simp only [Bool.and_eq_true, decide_eq_true_eq] at h
  exact ⟨h.1.1.1.1.1, h.1.1.1.1.2, h.1.1.1.2, h.1.1.2, h.1.2, h.2⟩
theorem ok_rise {lo hi : ByteArray} {r : Int} {es : List EntD} {ds : List DelD} (h : okPage lo hi r es ds = true) : Rise (entsE es ds) := by
  refine entsE_rise (rise_of_ok (lo := lo) (hi := hi) fun i hi' => ?_) ds
  have := (ok_parts h).2.2.2.1
  unfold okBase at this
  rw [List.all_eq_true] at this
  exact this i (by simpa using hi')
theorem ext_facts {lo hi : ByteArray} {r : Int} {es : List EntD} {ds : List DelD} {d : DelD} (h : extC lo hi r es ds d = 0) : okPage lo hi r es ds = true ∧ okDel lo (highE hi ds) d = true ∧ okPage lo hi r es (ds ++ [d]) = true := by
  unfold extC at h
  split at h
  · cases h
  · rename_i h1
    split at h
    · cases h
    · rename_i h2
      split at h
      · cases h
      · rename_i h3
        split at h
        · cases h
        · rename_i h4
          have k1 : okPage lo hi r es ds = true := by simpa using h1
          have k2 : okDel lo (highE hi ds) d = true := by simpa using h2
          obtain ⟨p1, p2, p3, p4, p5, p6⟩ := ok_parts k1
          refine ⟨k1, k2, ?_⟩
          unfold okPage
          simp only [Bool.and_eq_true, decide_eq_true_eq]
          refine ⟨⟨⟨⟨⟨p1, p2⟩, by simp; omega⟩, p4⟩, ?_⟩, by omega⟩
          refine okChain_true fun i hi' => ?_
          rw [okAtD_at hi']
          rw [List.length_append] at hi'
          by_cases hl : i < ds.length
          · rw [List.getElem_append_left hl, List.take_append_of_le_length (by omega)]
            unfold okChain at p5
            rw [List.all_eq_true] at p5
            have := p5 i (by simpa using hl)
            rw [okAtD_at hl] at this
            exact this
          · obtain rfl : i = ds.length := by simp at hi'; omega
            rw [List.take_append_of_le_length (Nat.le_refl _), List.take_length]
            simpa using k2
theorem okDel_parts {lo hi : ByteArray} {d : DelD} (h : okDel lo hi d = true) : keyK d.k = true ∧ ltK d.k lo = false ∧ underK d.k hi = true ∧ (d.kind = 1 ∨ d.kind = 2 ∨ d.kind = 3) := by
  unfold okDel at h
  simp only [Bool.and_eq_true, Bool.or_eq_true, decide_eq_true_eq] at h
  obtain ⟨⟨h1, h2⟩, h3⟩ := h
  unfold inK at h2
  simp only [Bool.and_eq_true, Bool.not_eq_true'] at h2
  refine ⟨h1, h2.1, by unfold underK; exact h2.2, ?_⟩
  rcases h3 with (h | h) | h
  · exact .inl h.1.1
  · exact .inr (.inl h.1.1)
  · exact .inr (.inr h.1.1.1)
theorem key_small {k : ByteArray} (h : keyK k = true) : ¬ 65536 < k.size := by unfold keyK at h; simp at h; omega
theorem find_own {lo hi : ByteArray} {r : Int} {es : List EntD} {ds : List DelD} {d : DelD} (h : extC lo hi r es ds d = 0) :
    (d.kind = 1 → findT lo hi r es (ds ++ [d]) d.k = (d.v, 0, 0)) ∧ (d.kind = 2 → findT lo hi r es (ds ++ [d]) d.k = (ByteArray.empty, 0, 5)) ∧ (d.kind = 3 → findT lo hi r es (ds ++ [d]) d.k = (ByteArray.empty, d.to, 12)) := by
  obtain ⟨h1, h2, h3⟩ := ext_facts h
  obtain ⟨g1, g2, g3, _⟩ := okDel_parts h2
  have hR := ok_rise h1
  rw [findT_in h3 g1 (key_small g1)]
  unfold findI
  rw [if_neg (show ¬ ltK d.k lo = true by rw [g2]; decide)]
  rw [highE_snoc, rightE_snoc, entsE_snoc]
  have hu : ¬ underK d.k (highE hi ds) = false := by rw [g3]; decide
  refine ⟨fun hk => ?_, fun hk => ?_, fun hk => ?_⟩
  · have hn3 : ¬ d.kind = 3 := by omega
    simp only [if_neg hn3, if_neg hu]
    rw [(look_step hR d).1 hk]
  · have hn3 : ¬ d.kind = 3 := by omega
    simp only [if_neg hn3, if_neg hu]
    rw [(look_step hR d).2 hk]
  · simp only [if_pos hk]
    rw [if_pos ?_]
    unfold underK
    rw [ltK_irr]
    have hne : d.k.toList.isEmpty = false := by
      unfold keyK at g1
      simp only [decide_eq_true_eq] at g1
      cases hl : d.k.toList with
      | nil =>
        have e0 : d.k = ByteArray.empty := toList_inj (by rw [hl]; first | (simp; done) | decide +kernel)
        rw [e0] at g1
        exact absurd g1.1 (by decide)
      | cons x xs => rfl
    rw [hne]
    rfl
theorem find_other {lo hi : ByteArray} {r : Int} {es : List EntD} {ds : List DelD} {d : DelD} (h : extC lo hi r es ds d = 0) {o : ByteArray} (ho : o ≠ d.k) (h3' : d.kind = 3 → ltK o d.k = true) :
    (findT lo hi r es ds o).1 = (findT lo hi r es (ds ++ [d]) o).1 ∧ (findT lo hi r es ds o).2.2 = (findT lo hi r es (ds ++ [d]) o).2.2 := by
  obtain ⟨h1, h2, h3⟩ := ext_facts h
  obtain ⟨g1, g2, g3, g4⟩ := okDel_parts h2
  have hR := ok_rise h1
  by_cases a1 : 65536 < o.size
  · unfold findT
    rw [if_pos a1, if_pos a1]
    exact ⟨rfl, rfl⟩
  by_cases a2 : keyK o = true
  · rw [findT_in h1 a2 a1, findT_in h3 a2 a1, highE_snoc, entsE_snoc]
    unfold findI
    by_cases a3 : ltK o lo = true
    · rw [if_pos a3, if_pos a3]
      exact ⟨rfl, rfl⟩
    · rw [if_neg a3, if_neg a3, look_other hR d g4 ho h3']
      by_cases hk : d.kind = 3
      · rw [if_pos hk]
        have u2 : underK o d.k = true := by unfold underK; rw [h3' hk]; simp
        have u1 : underK o (highE hi ds) = true := by
          unfold underK at g3 ⊢
          cases he : (highE hi ds).toList.isEmpty with
          | true => rfl
          | false =>
            rw [he] at g3
            simp only [Bool.false_or] at g3 ⊢
            exact ltK_trans (h3' hk) g3
        rw [if_neg (show ¬ underK o (highE hi ds) = false by rw [u1]; decide), if_neg (show ¬ underK o d.k = false by rw [u2]; decide)]
        exact ⟨rfl, rfl⟩
      · rw [if_neg hk]
        by_cases a4 : underK o (highE hi ds) = false
        · rw [if_pos a4, if_pos a4]
          exact ⟨rfl, rfl⟩
        · rw [if_neg a4, if_neg a4]
          exact ⟨rfl, rfl⟩
  · have c1 : ¬ (okPage lo hi r es ds = true ∧ keyK o = true) := fun h => a2 h.2
    have c2 : ¬ (okPage lo hi r es (ds ++ [d]) = true ∧ keyK o = true) := fun h => a2 h.2
    unfold findT
    rw [if_neg a1, if_neg c1, if_neg a1, if_neg c2]
    exact ⟨rfl, rfl⟩
end Go.Proofs.Ytbboigidkimkmaa

namespace Go.Proofs.Ytbboigidkimkmaa
open Go.RowKit

theorem Try.entS : Try.prog.underlying 57 = some (.struct (Try.prog.fieldsOf 57)) := by kernel_rfl
theorem Try.entH : Try.prog.stoodInHeld 57 = false := by kernel_rfl
theorem Try.entG : Try.prog.eqGuardType Try.prog.depth 57 = false := by kernel_rfl
theorem Try.delS : Try.prog.underlying 41 = some (.struct (Try.prog.fieldsOf 41)) := by kernel_rfl
theorem Try.delH : Try.prog.stoodInHeld 41 = false := by kernel_rfl
theorem Try.delG : Try.prog.eqGuardType Try.prog.depth 41 = false := by kernel_rfl
set_option maxRecDepth 100000 in
theorem eqEntV (e : EntD) (w : World) : (Op.equalIn 10000 57 (.agg #[.string e.k, .string e.v]) (.agg #[.string e.k, .string e.v])).run Try.prog w = .ok true w := by
  rw [run_equalIn_struct w 9999 _ _ _ Try.entS Try.entH]
  simp [Program.fieldsOf, Try.underlying57, Op.eqFields, go_sem, Try.underlying9]
set_option maxRecDepth 100000 in
theorem eqDelV (d : DelD) (w : World) : (Op.equalIn 10000 41 (.agg #[.int .i64 d.kind, .string d.k, .string d.v, .int .i64 d.to]) (.agg #[.int .i64 d.kind, .string d.k, .string d.v, .int .i64 d.to])).run Try.prog w = .ok true w := by
  rw [run_equalIn_struct w 9999 _ _ _ Try.delS Try.delH]
  simp [Program.fieldsOf, Try.underlying41, Op.eqFields, go_sem, Try.underlying9, Try.underlying3]
set_option maxRecDepth 100000 in
set_option maxHeartbeats 2000000 in
theorem sameEntries_any (a a2 : Option Addr) (n c c2 : Nat) (es : List EntD) (w : World) (h1 : ERow w a n es) (h2 : ERow w a2 n es) (hn : n ≤ 1000) :
    Calls Try.prog 33 #[.slice a n c, .slice a2 n c2] w fun e w' => e = .returned (.bool true) ∧ Below w.heap.size w w' := by
  have R1 := hide h1
  have R2 := hide h2
  have LN := hide h1.1
  have q3 := Try.entG
  have q4 := eqEntV
  clear h1 h2
  go_enter Try.func33, Try.ntmps33
  go_wp2_with fail
  go_loopw [5] (fun i wr => ∃ k : Nat, k ≤ n ∧ i = .int .i64 k ∧ Below w.heap.size w wr) (fun i _ => n - (intOf i).toNat)
  case atStart => exact ⟨0, Nat.zero_le _, rfl, Below.refl _ _⟩
  case round =>
    obtain ⟨k, hk, rfl, hb⟩ := hrel
    by_cases hlt : k < n
    · have hl := unhide LN
      obtain ⟨b, off, rfl, c0, c1⟩ := ((unhide R1).below hb).2 k (by omega)
      obtain ⟨b', off', rfl, d0, d1⟩ := ((unhide R2).below hb).2 k (by omega)
      generalize es[k]'(by omega) = em at *
      clear hl
      go_wp2_with fail
      go_quiet (fail)
      go_wp2_with fail
      go_roundw
      case rel => exact ⟨k + 1, by omega, by go_num, bel_drewN hb _⟩
      case measure => simp [intOf]; omega
    · obtain rfl : k = n := by omega
      go_wp2_with fail
      go_ret
      exact ⟨rfl, hb⟩
theorem two_boxes (w : World) (cs ds : Array Value) (t u : TypeId) : ∃ W, W = (w.alloc (.cells cs t)).alloc (.cells ds u) ∧ Below w.heap.size w W ∧ W.heap[w.heap.size]? = some (.cells cs t (0, 0)) ∧ W.heap[w.heap.size + 1]? = some (.cells ds u (0, 0)) ∧ W.heap.size = w.heap.size + 2 := by
  refine ⟨_, rfl, ((Below.refl _ _).alloc (Nat.le_refl _) _).alloc (by simp) _, ?_, ?_, by simp⟩
  · have b2 : Below (w.heap.size + 1) (w.alloc (.cells cs t)) ((w.alloc (.cells cs t)).alloc (.cells ds u)) := (Below.refl _ _).alloc (by simp) _
    exact (b2.block w.heap.size (by omega)).trans (heap_alloc_new w _)
  · have := heap_alloc_new (w.alloc (.cells cs t)) (.cells ds u)
    simpa using this
theorem five_in {w : World} {b : Nat} {v0 v1 v2 v3 v4 : Value} {t : TypeId} (h : w.heap[b]? = some (.cells #[v0, v1, v2, v3, v4] t (0, 0))) : w.cell? ⟨b, 0, none⟩ = some v0 ∧ w.cell? ⟨b, 1, none⟩ = some v1 ∧ w.cell? ⟨b, 2, none⟩ = some v2 ∧ w.cell? ⟨b, 3, none⟩ = some v3 ∧ w.cell? ⟨b, 4, none⟩ = some v4 := by
  refine ⟨?_, ?_, ?_, ?_, ?_⟩ <;> simp [World.cell?, h]
theorem heap_lt2 {w : World} {b : Nat} {o : Obj} (h : w.heap[b]? = some o) : b < w.heap.size := (Array.getElem?_eq_some_iff.1 h).1
set_option maxRecDepth 100000 in
set_option maxHeartbeats 4000000 in
theorem samePage_any (lo hi : ByteArray) (r : Int) (a a' : Option Addr) (n c c' : Nat) (es : List EntD) (a2 a2' : Option Addr) (n2 c2 c2' : Nat) (ds : List DelD) (w : World) (h1 : ERow w a n es) (h2 : ERow w a' n es) (g1 : DRow w a2 n2 ds) (g2 : DRow w a2' n2 ds) (hn : n ≤ 1000) (hn2 : n2 ≤ 1000) :
    Calls Try.prog 14 #[pgv lo hi r a n c a2 n2 c2, pgv lo hi r a' n c' a2' n2 c2'] w fun e w' => e = .returned (.bool true) ∧ Below w.heap.size w w' := by
  obtain ⟨W0, hW0, hB0, k1, k2, hz⟩ := two_boxes w #[.string lo, .string hi, .int .i64 r, .slice a n c, .slice a2 n2 c2] #[.string lo, .string hi, .int .i64 r, .slice a' n c', .slice a2' n2 c2'] 26 26
  have R1 := hide (h1.below hB0)
  have R2 := hide (h2.below hB0)
  have D1 := hide (g1.below hB0)
  have D2 := hide (g2.below hB0)
  have LN := hide g1.1
  have q3 := Try.delG
  have q4 := eqDelV
  obtain ⟨p0, p1, p2, p3, p4⟩ := five_in k1
  obtain ⟨s0, s1, s2, s3, s4⟩ := five_in k2
  have K1 := hide k1
  have K2 := hide k2
  clear h1 h2 g1 g2 k1 k2
  go_enter Try.func14, Try.ntmps14
  go_upto_region 1 with fail
  rw [← hW0]
  clear hW0
  go_wp2_with fail
  refine (sameEntries_any a a' n c c' es W0 (unhide R1) (unhide R2) hn).mono ?_
  rintro e w1 ⟨rfl, hb1⟩
  replace D1 := hide ((unhide D1).below hb1)
  replace D2 := hide ((unhide D2).below hb1)
  replace K1 := hide ((hb1.block _ (heap_lt2 (unhide K1))).trans (unhide K1))
  replace K2 := hide ((hb1.block _ (heap_lt2 (unhide K2))).trans (unhide K2))
  have B1 := hB0.trans (hb1.mono hB0.size)
  clear p0 p1 p2 p3 p4 s0 s1 s2 s3 s4 hb1 hB0 R1 R2
  obtain ⟨p0, p1, p2, p3, p4⟩ := five_in (unhide K1)
  obtain ⟨s0, s1, s2, s3, s4⟩ := five_in (unhide K2)
  go_wp2_with fail
  clear p0 p1 p2 p3 s0 s1 s2 s3
  go_loopw [5] (fun i wr => ∃ k : Nat, k ≤ n2 ∧ i = .int .i64 k ∧ Below w1.heap.size w1 wr) (fun i _ => n2 - (intOf i).toNat)
  case atStart => exact ⟨0, Nat.zero_le _, rfl, Below.refl _ _⟩
  case round =>
    obtain ⟨k, hk, rfl, hb⟩ := hrel
    have x4 := (hb.cell (p := ⟨w.heap.size, 4, none⟩) (heap_lt2 (unhide K1))).trans p4
    have y4 := (hb.cell (p := ⟨w.heap.size + 1, 4, none⟩) (heap_lt2 (unhide K2))).trans s4
    by_cases hlt : k < n2
    · have hl := unhide LN
      obtain ⟨b, off, rfl, c0, c1, e2, e3⟩ := ((unhide D1).below hb).2 k (by omega)
      obtain ⟨b', off', rfl, d0, d1, f2, f3⟩ := ((unhide D2).below hb).2 k (by omega)
      generalize ds[k]'(by omega) = em at *
      clear hl
      go_wp2_with fail
      go_quiet (fail)
      go_wp2_with fail
      go_roundw
      case rel => exact ⟨k + 1, by omega, by go_num, bel_drewN hb _⟩
      case measure => simp [intOf]; omega
    · obtain rfl : k = n2 := by omega
      go_wp2_with fail
      go_ret
      exact ⟨rfl, B1.trans (hb.mono B1.size)⟩
end Go.Proofs.Ytbboigidkimkmaa

namespace Go.Proofs.Ytbboigidkimkmaa
open Go.RowKit

theorem src_below {w w1 w2 : World} (h1 : Below w.heap.size w w1) (hw : Wrote w.heap.size w1 w2) : Below w.heap.size w w2 := h1.trans (hw.below (Nat.le_refl _) h1.size)
theorem own_sets {X : World} {B b : Nat} {a1 : Option Addr} {n1 c1 : Nat} {a2 : Option Addr} {n2 c2 : Nat} {es : List EntD} {ds : List DelD} (h : PgOwn X B a1 n1 c1 a2 n2 c2 es ds) (hb : b < B) (v0 v1 v2 v3 v4 : Value) : PgOwn (((((X.setCell ⟨b, 0, none⟩ v0).setCell ⟨b, 1, none⟩ v1).setCell ⟨b, 2, none⟩ v2).setCell ⟨b, 3, none⟩ v3).setCell ⟨b, 4, none⟩ v4) B a1 n1 c1 a2 n2 c2 es ds := by
  have st : ∀ (X : World) (j : Nat) (v : Value), PgOwn X B a1 n1 c1 a2 n2 c2 es ds → PgOwn (X.setCell ⟨b, j, none⟩ v) B a1 n1 c1 a2 n2 c2 es ds := fun X j v h => h.wr (wr_one X _ j v) (fun i hi e => by have := (h.blk hi).1; omega)
  exact st _ 4 v4 (st _ 3 v3 (st _ 2 v2 (st _ 1 v1 (st _ 0 v0 h))))
theorem below_sets4 {w X : World} {B b : Nat} (h : Below B w X) (hb : B ≤ b) (v0 v1 v2 v3 : Value) : Below B w ((((X.setCell ⟨b, 0, none⟩ v0).setCell ⟨b, 1, none⟩ v1).setCell ⟨b, 2, none⟩ v2).setCell ⟨b, 3, none⟩ v3) :=
  (((h.setCell (p := ⟨b, 0, none⟩) hb v0).setCell (p := ⟨b, 1, none⟩) hb v1).setCell (p := ⟨b, 2, none⟩) hb v2).setCell (p := ⟨b, 3, none⟩) hb v3
theorem below_sets5 {w X : World} {B b : Nat} (h : Below B w X) (hb : B ≤ b) (v0 v1 v2 v3 v4 : Value) : Below B w (((((X.setCell ⟨b, 0, none⟩ v0).setCell ⟨b, 1, none⟩ v1).setCell ⟨b, 2, none⟩ v2).setCell ⟨b, 3, none⟩ v3).setCell ⟨b, 4, none⟩ v4) :=
  (below_sets4 h hb v0 v1 v2 v3).setCell (p := ⟨b, 4, none⟩) hb v4
set_option maxHeartbeats 1000000 in
theorem pageOf_any (a : Option Addr) (n c : Nat) (xs : List Int) (w : World) (hr : Row w a n xs) (hby : ∀ i, i < n → 0 ≤ xs.getD i 0 ∧ xs.getD i 0 ≤ 255) (hn : n ≤ 1048576) :
    Calls Try.prog 5 #[.slice a n c] w fun e w' => ∃ lo hi r a1 n1 c1 a2 n2 c2 es ds, e = .returned (pgv lo hi r a1 n1 c1 a2 n2 c2) ∧ PgOwn w' w.heap.size a1 n1 c1 a2 n2 c2 es ds ∧ (okPage lo hi r es ds = true ∧ es.length ≤ 6 ∧ ds.length ≤ 6) ∧ Below w.heap.size w w' := by
  have R := hide (row_alloc (o := .cells #[.string ⟨#[]⟩, .string ⟨#[]⟩, .int .i64 0, .slice none 0 0, .slice none 0 0] 26) hr)
  have BY := hide hby
  have b0 : Below w.heap.size w (w.alloc (.cells #[.string ⟨#[]⟩, .string ⟨#[]⟩, .int .i64 0, .slice none 0 0, .slice none 0 0] 26)) := (Below.refl _ _).alloc (Nat.le_refl _) _
  have KZ := heap_alloc_new w (.cells #[.string ⟨#[]⟩, .string ⟨#[]⟩, .int .i64 0, .slice none 0 0, .slice none 0 0] 26)
  have HZ := hide (show (w.alloc (.cells #[.string ⟨#[]⟩, .string ⟨#[]⟩, .int .i64 0, .slice none 0 0, .slice none 0 0] 26)).heap.size = w.heap.size + 1 by simp)
  clear hr hby
  go_enter Try.func5, Try.ntmps5
  go_wp2_with fail
  generalize w.alloc (.cells #[.string ⟨#[]⟩, .string ⟨#[]⟩, .int .i64 0, .slice none 0 0, .slice none 0 0] 26) = W0 at *
  refine (source_any a n c xs W0 (unhide R) (unhide BY) hn).mono ?_
  rintro e w1 ⟨rfl, hs1, hb1, hz1⟩
  go_wp2_with fail
  refine (pageD_any W0.heap.size a n c xs w1 hs1).mono ?_
  rintro e w2 ⟨lo, hi, r, a1, n1, c1, a2, n2, c2, es, ds, rfl, ho, hok, hw⟩
  have hz := unhide HZ
  have bA := b0.trans ((src_below hb1 hw).mono (by omega))
  have K2 := (hw.block w.heap.size (by omega) (by omega)).trans ((hb1.block w.heap.size (by omega)).trans KZ)
  have O := hide ((own_sets (b := w.heap.size) ho (by omega) (.string lo) (.string hi) (.int .i64 r) (.slice a1 n1 c1) (.slice a2 n2 c2)).base (show w.heap.size ≤ w1.heap.size by omega))
  have bB := hide (below_sets5 (b := w.heap.size) bA (Nat.le_refl _) (.string lo) (.string hi) (.int .i64 r) (.slice a1 n1 c1) (.slice a2 n2 c2))
  have OK := hide hok
  obtain ⟨⟨e0, e1, e2, e3, e4⟩, fz⟩ := five_of K2
  have f0 := fz 0
  have f1 := fz 1
  have f2 := fz 2
  have f3 := fz 3
  have f4 := fz 4
  clear fz hb1 hw hs1 ho hok hz1 hz bA K2 KZ HZ b0 R BY
  go_wp2_with fail
  refine bodyPost_ret (v := pgv lo hi r a1 n1 c1 a2 n2 c2) (by simp [results, Try.results5, go_sem, pgv, *] <;> rfl) rfl ?_
  exact ⟨lo, hi, r, a1, n1, c1, a2, n2, c2, es, ds, rfl, unhide O, unhide OK, unhide bB⟩
set_option maxHeartbeats 1000000 in
theorem deltaOf_any (a : Option Addr) (n c : Nat) (xs : List Int) (w : World) (hr : Row w a n xs) (hby : ∀ i, i < n → 0 ≤ xs.getD i 0 ∧ xs.getD i 0 ≤ 255) (hn : n ≤ 1048576) :
    Calls Try.prog 15 #[.slice a n c] w fun e w' => ∃ d : DelD, e = .returned (dV d) ∧ Below w.heap.size w w' := by
  have R := hide (row_alloc (o := .cells #[.int .i64 0, .string ⟨#[]⟩, .string ⟨#[]⟩, .int .i64 0] 41) hr)
  have BY := hide hby
  have b0 : Below w.heap.size w (w.alloc (.cells #[.int .i64 0, .string ⟨#[]⟩, .string ⟨#[]⟩, .int .i64 0] 41)) := (Below.refl _ _).alloc (Nat.le_refl _) _
  have KZ := heap_alloc_new w (.cells #[.int .i64 0, .string ⟨#[]⟩, .string ⟨#[]⟩, .int .i64 0] 41)
  have HZ := hide (show (w.alloc (.cells #[.int .i64 0, .string ⟨#[]⟩, .string ⟨#[]⟩, .int .i64 0] 41)).heap.size = w.heap.size + 1 by simp)
  clear hr hby
  go_enter Try.func15, Try.ntmps15
  go_wp2_with fail
  generalize w.alloc (.cells #[.int .i64 0, .string ⟨#[]⟩, .string ⟨#[]⟩, .int .i64 0] 41) = W0 at *
  refine (source_any a n c xs W0 (unhide R) (unhide BY) hn).mono ?_
  rintro e w1 ⟨rfl, hs1, hb1, hz1⟩
  go_wp2_with fail
  refine (deltaD_any W0.heap.size a n c xs 0 w1 hs1 (by omega)).mono ?_
  rintro e w2 ⟨d, rfl, hw, _⟩
  have hz := unhide HZ
  have bA := b0.trans ((src_below hb1 hw).mono (by omega))
  have K2 := (hw.block w.heap.size (by omega) (by omega)).trans ((hb1.block w.heap.size (by omega)).trans KZ)
  have bB := hide (below_sets4 (b := w.heap.size) bA (Nat.le_refl _) (.int .i64 d.kind) (.string d.k) (.string d.v) (.int .i64 d.to))
  obtain ⟨⟨e0, e1, e2, e3⟩, f0, f1, f2, f3⟩ := four_set K2
  clear hb1 hw hs1 hz1 hz bA K2 KZ HZ b0 R BY
  unfold dV
  go_wp2_with fail
  refine bodyPost_ret (v := dV d) (by simp [results, Try.results15, go_sem, dV, *] <;> rfl) rfl ?_
  exact ⟨d, rfl, unhide bB⟩
set_option maxHeartbeats 1000000 in
theorem keyOfD_any (a : Option Addr) (n c : Nat) (xs : List Int) (w : World) (hr : Row w a n xs) (hby : ∀ i, i < n → 0 ≤ xs.getD i 0 ∧ xs.getD i 0 ≤ 255) (hn : n ≤ 1048576) :
    Calls Try.prog 6 #[.slice a n c] w fun e w' => ∃ t : ByteArray, e = .returned (.string t) ∧ keyK t = true ∧ Below w.heap.size w w' := by
  have R := hide hr
  have BY := hide hby
  clear hr hby
  go_enter Try.func6, Try.ntmps6
  go_wp2_with fail
  refine (source_any a n c xs w (unhide R) (unhide BY) hn).mono ?_
  rintro e w1 ⟨rfl, hs1, hb1, hz1⟩
  go_wp2_with fail
  refine (longKeyD_any w.heap.size a n c xs 0 w1 hs1 (by omega)).mono ?_
  rintro e w2 ⟨t, rfl, hk, hw, _⟩
  have bA := hide (src_below hb1 hw)
  clear hb1 hw hs1 hz1
  go_wp2_with fail
  go_ret
  exact ⟨t, rfl, hk, unhide bA⟩
end Go.Proofs.Ytbboigidkimkmaa

namespace Go.Proofs.Ytbboigidkimkmaa
open Go.RowKit

theorem row_growF {w w' : World} {a : Option Addr} {n : Nat} {xs : List Int} (h : Row w a n xs) (hb : Below w.heap.size w w') : Row w' a n xs := by
  refine ⟨h.1, fun i hi => ?_⟩
  obtain ⟨b, off, e, c⟩ := h.2 i hi
  exact ⟨b, off, e, (hb.cell (p := ⟨b, off + i, none⟩) (cell_lt c)).trans c⟩
theorem cap_eown {w : World} {B n c : Nat} {a : Option Addr} {es : List EntD} (h : EOwns w B (.slice a n c) es) : a = none → c = 0 := fun e => by
  subst e
  rcases h.2 with ⟨e, _⟩ | ⟨g, cap, cur, e, _⟩
  · injection e
  · cases e
theorem cap_down {w : World} {B n c : Nat} {a : Option Addr} {ds : List DelD} (h : DOwns w B (.slice a n c) ds) : a = none → c = 0 := fun e => by
  subst e
  rcases h.2 with ⟨e, _⟩ | ⟨g, cap, cur, e, _⟩
  · injection e
  · cases e
/-- A page at a block, with its lists. -/
structure PgAt (w : World) (b : Nat) (lo hi : ByteArray) (r : Int) (a1 : Option Addr) (n1 c1 : Nat) (a2 : Option Addr) (n2 c2 : Nat) (es : List EntD) (ds : List DelD) : Prop where
  k : w.heap[b]? = some (.cells #[.string lo, .string hi, .int .i64 r, .slice a1 n1 c1, .slice a2 n2 c2] 26 (0, 0))
  er : ERow w a1 n1 es
  dr : DRow w a2 n2 ds
  ce : a1 = none → c1 = 0
  cd : a2 = none → c2 = 0
theorem PgAt.below {w w' : World} {b : Nat} {lo hi : ByteArray} {r : Int} {a1 : Option Addr} {n1 c1 : Nat} {a2 : Option Addr} {n2 c2 : Nat} {es : List EntD} {ds : List DelD} (h : PgAt w b lo hi r a1 n1 c1 a2 n2 c2 es ds) (hb : Below w.heap.size w w') : PgAt w' b lo hi r a1 n1 c1 a2 n2 c2 es ds :=
  ⟨(hb.block b (heap_ltD h.k)).trans h.k, h.er.below hb, h.dr.below hb, h.ce, h.cd⟩
/-- A page of the call's own, laid at a new block. -/
theorem PgAt.new {w : World} {B : Nat} {lo hi : ByteArray} {r : Int} {a1 : Option Addr} {n1 c1 : Nat} {a2 : Option Addr} {n2 c2 : Nat} {es : List EntD} {ds : List DelD} (h : PgOwn w B a1 n1 c1 a2 n2 c2 es ds) : PgAt (w.alloc (.cells #[.string lo, .string hi, .int .i64 r, .slice a1 n1 c1, .slice a2 n2 c2] 26)) w.heap.size lo hi r a1 n1 c1 a2 n2 c2 es ds :=
  have b : Below w.heap.size w (w.alloc (.cells #[.string lo, .string hi, .int .i64 r, .slice a1 n1 c1, .slice a2 n2 c2] 26)) := (Below.refl _ _).alloc (Nat.le_refl _) _
  ⟨heap_alloc_new w _, (erow_of_owns h.1).below b, (drow_of_owns h.2.1).below b, cap_eown h.1, cap_down h.2.1⟩
end Go.Proofs.Ytbboigidkimkmaa

namespace Go.Proofs.Ytbboigidkimkmaa
open Go.RowKit

theorem strOf_bytesL (s : ByteArray) : strOfNums (bytesL s) = s := by
  unfold strOfNums bytesL
  rw [List.map_map]
  have e : (fun n : Int => UInt8.ofNat n.toNat) ∘ (fun c : UInt8 => (c.toNat : Int)) = id := by
    funext c
    simp
  rw [e, List.map_id]
theorem tk_app (xs rest : List Int) (b : Bool) : tk xs.length (xs ++ rest, b) = (xs, (rest, b)) := by
  unfold tk
  rw [if_neg (by simp), List.take_left, List.drop_left]
theorem rOne_cons (x : Int) (rest : List Int) (b : Bool) : rOne (x :: rest, b) = (x, (rest, b)) := by
  have := tk_app [x] rest b
  unfold rOne bd
  rw [show (x :: rest) = [x] ++ rest from rfl, show (1 : Nat) = [x].length from rfl, this]
  rfl
theorem rTwo_app (n : Int) (rest : List Int) (b : Bool) : rTwo (twoL n ++ rest, b) = (n, (rest, b)) := by
  have := tk_app (twoL n) rest b
  unfold rTwo bd
  rw [show (2 : Nat) = (twoL n).length from rfl, this]
  show (n / 256 * 256 + n % 256, (rest, b)) = (n, (rest, b))
  rw [show n / 256 * 256 + n % 256 = n by omega]
theorem rText_app (t : ByteArray) (rest : List Int) (b : Bool) : rText (lineL t ++ rest, b) = (t, (rest, b)) := by
  have h := tk_app (bytesL t) rest b
  rw [bytesL_length] at h
  unfold rText bd
  rw [show lineL t ++ rest = (t.size : Int) :: (bytesL t ++ rest) from rfl, rOne_cons]
  show (strOfNums (tk (t.size : Int).toNat (bytesL t ++ rest, b)).1, (tk (t.size : Int).toNat (bytesL t ++ rest, b)).2) = _
  rw [show ((t.size : Int)).toNat = t.size by omega, h, strOf_bytesL]
theorem bd_eq {σ α β : Type} {f : σ → α × σ} {g : α → σ → β × σ} {s s' : σ} {x : α} (h : f s = (x, s')) : bd f g s = g x s' := by unfold bd; rw [h]
theorem rEnt_app (e : EntD) (rest : List Int) (b : Bool) : rEnt (entL e ++ rest, b) = (e, (rest, b)) := by
  unfold rEnt entL
  rw [List.append_assoc]
  exact (bd_eq (rText_app _ _ _)).trans (bd_eq (rText_app _ _ _))
theorem rDel_app (d : DelD) (rest : List Int) (b : Bool) : rDel (delL d ++ rest, b) = (d, (rest, b)) := by
  unfold rDel delL
  rw [show (d.kind :: (lineL d.k ++ lineL d.v ++ twoL d.to)) ++ rest = d.kind :: (lineL d.k ++ (lineL d.v ++ (twoL d.to ++ rest))) by simp]
  exact (bd_eq (rOne_cons _ _ _)).trans ((bd_eq (rText_app _ _ _)).trans ((bd_eq (rText_app _ _ _)).trans (bd_eq (rTwo_app _ _ _))))
theorem rep_ents (es : List EntD) (rest : List Int) (b : Bool) : rep rEnt es.length (entsL es ++ rest, b) = (es, (rest, b)) := by
  induction es with
  | nil => rfl
  | cons e es ih =>
    rw [List.length_cons, rep, show entsL (e :: es) ++ rest = entL e ++ (entsL es ++ rest) by simp [entsL], rEnt_app, ih]
theorem rep_dels (ds : List DelD) (rest : List Int) (b : Bool) : rep rDel ds.length (delsL ds ++ rest, b) = (ds, (rest, b)) := by
  induction ds with
  | nil => rfl
  | cons d ds ih =>
    rw [List.length_cons, rep, show delsL (d :: ds) ++ rest = delL d ++ (delsL ds ++ rest) by simp [delsL], rDel_app, ih]
theorem rPage_app (lo hi : ByteArray) (r : Int) (es : List EntD) (ds : List DelD) : rPage (pageL lo hi r es ds, false) = (⟨lo, hi, r, es, ds⟩, ([], false)) := by
  have e : pageL lo hi r es ds = lineL lo ++ (lineL hi ++ (twoL (r + 1) ++ ((es.length : Int) :: (entsL es ++ ((ds.length : Int) :: (delsL ds ++ [])))))) := by simp [pageL, headL]
  rw [e]
  unfold rPage
  refine (bd_eq (rText_app _ _ _)).trans ((bd_eq (rText_app _ _ _)).trans ((bd_eq (rTwo_app _ _ _)).trans ((bd_eq (rOne_cons _ _ _)).trans ?_)))
  rw [show ((es.length : Int)).toNat = es.length by omega]
  refine (bd_eq (rep_ents _ _ _)).trans ((bd_eq (rOne_cons _ _ _)).trans ?_)
  rw [show ((ds.length : Int)).toNat = ds.length by omega]
  refine (bd_eq (rep_dels _ _ _)).trans ?_
  rw [show r + 1 - 1 = r by omega]
theorem rd_back {lo hi : ByteArray} {r : Int} {es : List EntD} {ds : List DelD} (h : okPage lo hi r es ds = true) (hl : (pageL lo hi r es ds).length ≤ 65536) : rdP (pageL lo hi r es ds) = ⟨lo, hi, r, es, ds⟩ ∧ rdC (pageL lo hi r es ds) = 0 := by
  have ok : rdOK (pageL lo hi r es ds) = true := by
    unfold rdOK
    rw [rPage_app]
    simp [h]
  have hn : ¬ 65536 < (pageL lo hi r es ds).length := by omega
  unfold rdP rdC
  rw [if_neg hn, if_neg hn, if_pos ok, if_pos ok, rPage_app]
  exact ⟨rfl, rfl⟩
end Go.Proofs.Ytbboigidkimkmaa

namespace Go.Proofs.Ytbboigidkimkmaa
open Go.RowKit

theorem isE_key {k : ByteArray} (h : keyK k = true) : k.toList.isEmpty = false := by
  unfold keyK at h
  simp only [decide_eq_true_eq] at h
  cases hl : k.toList with
  | nil =>
    have e0 : k = ByteArray.empty := toList_inj (by rw [hl]; first | (simp; done) | decide +kernel)
    rw [e0] at h
    exact absurd h.1 (by decide)
  | cons x xs => rfl
theorem stepE_mem {es : List EntD} {d : DelD} {x : EntD} (h : x ∈ stepE es d) (h3 : d.kind ≠ 3) : x ∈ es ∨ (d.kind ≠ 2 ∧ x = ⟨d.k, d.v⟩) := by
  unfold stepE at h
  rw [if_neg h3] at h
  rcases List.mem_append.1 h with h | h
  · rcases List.mem_append.1 h with h | h
    · exact .inl (List.mem_of_mem_take h)
    · by_cases h2 : d.kind = 2
      · rw [if_pos h2] at h
        cases h
      · rw [if_neg h2] at h
        exact .inr ⟨h2, by simpa using h⟩
  · exact .inl (List.mem_of_mem_drop h)
theorem con_step {lo H : ByteArray} {R : Int} {es : List EntD} {d : DelD} (h1 : okBounds lo H R = true) (h2 : BaseOK lo H es) (h3 : okDel lo H d = true) :
    okBounds lo (if d.kind = 3 then d.k else H) (if d.kind = 3 then d.to else R) = true ∧ BaseOK lo (if d.kind = 3 then d.k else H) (stepE es d) := by
  unfold okDel at h3
  simp only [Bool.and_eq_true, Bool.or_eq_true, decide_eq_true_eq] at h3
  obtain ⟨⟨k1, k2⟩, k3⟩ := h3
  by_cases hk : d.kind = 3
  · rw [if_pos hk, if_pos hk]
    have k4 : ltK lo d.k = true ∧ idK d.to = true := by
      rcases k3 with (k3 | k3) | k3
      · omega
      · omega
      · exact ⟨k3.1.2, k3.2⟩
    refine ⟨?_, stepE_rise h2.1 d, fun x hx => ?_⟩
    · unfold okBounds at h1 ⊢
      simp only [Bool.and_eq_true, decide_eq_true_eq] at h1 ⊢
      have hs : d.k.size ≤ 40 := by unfold keyK at k1; simp at k1; omega
      refine ⟨⟨h1.1.1, hs⟩, ?_⟩
      rw [if_neg (show ¬ d.k.toList.isEmpty = true by rw [isE_key k1]; decide), k4.1, k4.2]
      rfl
    · unfold stepE at hx
      rw [if_pos hk] at hx
      have a := h2.2 x (List.mem_of_mem_take hx)
      have b := take_lt x hx
      unfold okEnt inK at a ⊢
      simp only [Bool.and_eq_true] at a ⊢
      exact ⟨a.1, a.2.1, by rw [b]; simp⟩
  · rw [if_neg hk, if_neg hk]
    refine ⟨h1, stepE_rise h2.1 d, fun x hx => ?_⟩
    rcases stepE_mem hx hk with hx | ⟨hn2, rfl⟩
    · exact h2.2 x hx
    · have kv : valK d.v = true := by
        rcases k3 with (k3 | k3) | k3
        · exact k3.1.2
        · exact absurd k3.1.1 hn2
        · exact absurd k3.1.1.1 hk
      unfold okEnt
      simp only [Bool.and_eq_true]
      exact ⟨⟨k1, kv⟩, k2⟩
theorem con_inv {lo hi : ByteArray} {r : Int} {es : List EntD} {ds : List DelD} (h1 : okBounds lo hi r = true) (h2 : BaseOK lo hi es) (h3 : okChain lo hi ds = true) : ∀ n, n ≤ ds.length → okBounds lo (highE hi (ds.take n)) (rightE r (ds.take n)) = true ∧ BaseOK lo (highE hi (ds.take n)) (entsE es (ds.take n))
  | 0, _ => by rw [List.take_zero]; exact ⟨h1, h2⟩
  | n + 1, hn => by
    obtain ⟨a, b⟩ := con_inv h1 h2 h3 n (by omega)
    have c : okDel lo (highE hi (ds.take n)) ds[n] = true := by
      unfold okChain at h3
      rw [List.all_eq_true] at h3
      have := h3 n (by simp; omega)
      rw [okAtD_at (by omega)] at this
      exact this
    rw [← List.take_append_getElem (show n < ds.length by omega), highE_snoc, rightE_snoc, entsE_snoc]
    exact con_step a b c
theorem baseOK_of {lo hi : ByteArray} {es : List EntD} (h : okBase lo hi es = true) : BaseOK lo hi es := by
  unfold okBase at h
  rw [List.all_eq_true] at h
  have h' : ∀ i, i < es.length → okAtE lo hi es i = true := fun i hi' => h i (by simpa using hi')
  refine ⟨rise_of_ok h', fun e he => ?_⟩
  obtain ⟨i, hi', rfl⟩ := List.mem_iff_getElem.1 he
  have := h' i hi'
  unfold okAtE at this
  rw [List.getElem?_eq_getElem hi'] at this
  simp only [Bool.and_eq_true] at this
  exact this.1
/-- A page put together is right. -/
theorem conPage_ok {lo hi : ByteArray} {r : Int} {es : List EntD} {ds : List DelD} (h : okPage lo hi r es ds = true) : okPage lo (highE hi ds) (rightE r ds) (entsE es ds) [] = true := by
  obtain ⟨p1, p2, p3, p4, p5, p6⟩ := ok_parts h
  obtain ⟨a, b⟩ := con_inv p1 (baseOK_of p4) p5 ds.length (Nat.le_refl _)
  rw [List.take_length] at a b
  unfold okPage
  simp only [Bool.and_eq_true, decide_eq_true_eq]
  exact ⟨⟨⟨⟨⟨a, p6⟩, by simp⟩, okBase_of b⟩, okChain_true fun i hi' => by simp at hi'⟩, p6⟩
/-- And it finds the same. -/
theorem con_find {lo hi : ByteArray} {r : Int} {es : List EntD} {ds : List DelD} (h : okPage lo hi r es ds = true) (k : ByteArray) : findT lo (highE hi ds) (rightE r ds) (entsE es ds) [] k = findT lo hi r es ds k := by
  unfold findT
  rw [conPage_ok h, h]
  rfl
end Go.Proofs.Ytbboigidkimkmaa

namespace Go.Proofs.Ytbboigidkimkmaa
open Go.RowKit

theorem By.app {xs ys : List Int} (h1 : By xs) (h2 : By ys) : By (xs ++ ys) := fun x hx => by
  rcases List.mem_append.1 hx with hx | hx
  · exact h1 x hx
  · exact h2 x hx
theorem By.one {x : Int} (h1 : 0 ≤ x) (h2 : x ≤ 255) : By [x] := fun y hy => by
  obtain rfl : y = x := by simpa using hy
  exact ⟨h1, h2⟩
theorem by_bytesL (t : ByteArray) : By (bytesL t) := fun x hx => by
  unfold bytesL at hx
  obtain ⟨b, _, rfl⟩ := List.mem_map.1 hx
  have := b.toNat_lt
  omega
theorem by_line {t : ByteArray} (h : t.size ≤ 255) : By (lineL t) := (By.one (x := (t.size : Int)) (by omega) (by omega)).app (by_bytesL t)
theorem by_two {n : Int} (h1 : 0 ≤ n) (h2 : n ≤ 65535) : By (twoL n) := (By.one (x := n / 256) (by omega) (by omega)).app (By.one (x := n % 256) (by omega) (by omega))
theorem by_page {lo hi : ByteArray} {r : Int} {es : List EntD} {ds : List DelD} (h : SmallP lo hi r es ds) : By (pageL lo hi r es ds) := by
  obtain ⟨h1, h2, h3, h4, h5, h6, h7, h8⟩ := h
  refine (((((((by_line (by omega)).app (by_line (by omega))).app (by_two h3 (by omega))).app (By.one (by omega) (by omega)))).app ?_).app (By.one (by omega) (by omega))).app ?_
  · intro x hx
    obtain ⟨e, he, hx⟩ := List.mem_flatMap.1 hx
    obtain ⟨i, hi', rfl⟩ := List.mem_iff_getElem.1 he
    have := h7 i hi'
    exact ((by_line (by omega)).app (by_line (by omega))) x hx
  · intro x hx
    obtain ⟨e, he, hx⟩ := List.mem_flatMap.1 hx
    obtain ⟨i, hi', rfl⟩ := List.mem_iff_getElem.1 he
    have := h8 i hi'
    exact ((By.one (by omega) (by omega)).app (((by_line (by omega)).app (by_line (by omega))).app (by_two (by omega) (by omega)))) x hx
theorem row_own {w : World} {B : Nat} {v : Value} {xs : List Int} (h : Owns w B v xs) : ∃ a n c, v = .slice a n c ∧ Row w a n xs ∧ n ≤ c ∧ ∀ x, a = some x → x.block < w.heap.size := by
  rcases h.2 with ⟨e, hn⟩ | ⟨g, cap, cur, e, hb, hh, hc, h1⟩
  · obtain rfl := List.eq_nil_of_length_eq_zero hn
    exact ⟨none, 0, 0, e, ⟨rfl, fun i hi => absurd hi (Nat.not_lt_zero _)⟩, Nat.le_refl _, fun x hx => by cases hx⟩
  · subst e
    refine ⟨some ⟨g, 0, none⟩, xs.length, cap, rfl, ?_, hc, fun x hx => ?_⟩
    · obtain ⟨a, c, e, _, _, h3, _⟩ := mine_of_owns h
      injection e with e1
      subst e1
      exact h3
    · injection hx with hx
      subst hx
      exact heap_ltD hh
end Go.Proofs.Ytbboigidkimkmaa

namespace Go.Proofs.Ytbboigidkimkmaa
open Go.RowKit

set_option maxRecDepth 100000 in
set_option maxHeartbeats 8000000 in
theorem fnPages_law (a1 : Option Addr) (n1 c1 : Nat) (zs1 : List Int) (a2 : Option Addr) (n2 c2 : Nat) (zs2 : List Int) (w : World) (h1 : IsRow .u8 w a1 n1 c1 zs1) (h2 : IsRow .u8 w a2 n2 c2 zs2) :
    Calls Try.prog 3 #[.slice a1 n1 c1, .slice a2 n2 c2] w fun e w' => e = .returned (.bool true) ∧ Below w.heap.size w w' := by
  obtain ⟨hr1, hm1, _⟩ := row_of_isRow h1
  obtain ⟨hr2, hm2, _⟩ := row_of_isRow h2
  have by1 := hide (bytes_of_isRow h1)
  have by2 := hide (bytes_of_isRow h2)
  clear h1 h2
  unfold maxLen at hm1 hm2
  by_cases hbig : 1048576 < n1 ∨ 1048576 < n2
  · clear hr1 hr2 by1 by2
    by_cases hb1 : 1048576 < n1
    all_goals
      go_enter Try.func3, Try.ntmps3
      go_wp2_with fail
      go_ret
      exact ⟨rfl, Below.refl _ _⟩
  have hn1 : n1 ≤ 1048576 := by omega
  have hn2 : n2 ≤ 1048576 := by omega
  clear hbig hm1 hm2
  generalize zs1.take n1 = xs1 at *
  generalize zs2.take n2 = xs2 at *
  have R1 := hide hr1
  have R2 := hide hr2
  clear hr1 hr2
  go_enter Try.func3, Try.ntmps3
  go_wp2_with fail
  refine (pageOf_any a1 n1 c1 xs1 w (unhide R1) (unhide by1) hn1).mono ?_
  rintro e w1 ⟨lo, hi, r, b1, m1, d1, b2, m2, d2, es, ds, rfl, ho, hok, hb⟩
  obtain ⟨rfl, rfl⟩ := ho.len
  have bN : Below w1.heap.size w1 (w1.alloc (.cells #[.string lo, .string hi, .int .i64 r, .slice b1 es.length d1, .slice b2 ds.length d2] 26)) := (Below.refl _ _).alloc (Nat.le_refl _) _
  have P := hide (PgAt.new (lo := lo) (hi := hi) (r := r) ho)
  have BW := hide (hb.trans (bN.mono hb.size))
  replace R2 := hide (row_growF (unhide R2) (unhide BW))
  have OK := hide hok
  clear ho hok hb bN R1 by1
  go_wp2_with fail
  generalize w1.alloc (.cells #[.string lo, .string hi, .int .i64 r, .slice b1 es.length d1, .slice b2 ds.length d2] 26) = wA at *
  generalize w1.heap.size = bp at *
  refine (keyOfD_any a2 n2 c2 xs2 _ (unhide R2) (unhide by2) hn2).mono ?_
  rintro e w2 ⟨k, rfl, _, bT⟩
  replace P := hide ((unhide P).below bT)
  replace BW := hide ((unhide BW).trans (bT.mono (unhide BW).size))
  clear bT R2 by2
  obtain ⟨H, hH⟩ : ∃ H, H = highE hi ds := ⟨_, rfl⟩
  obtain ⟨R, hR⟩ : ∃ R, R = rightE r ds := ⟨_, rfl⟩
  obtain ⟨E, hE⟩ : ∃ E, E = entsE es ds := ⟨_, rfl⟩
  obtain ⟨X, hX⟩ : ∃ X, X = pageL lo hi r es ds := ⟨_, rfl⟩
  obtain ⟨⟨t1, t2, t3⟩, hT⟩ : ∃ T, findT lo hi r es ds k = T := ⟨_, rfl⟩
  have ok := (unhide OK).1
  have qk : okPage lo H R E [] = true := by rw [hH, hR, hE]; exact conPage_ok ok
  have hQ : findT lo H R E [] k = (t1, t2, t3) := by rw [hH, hR, hE, con_find ok, hT]
  have sm := ok_small ok
  have rb := rd_back ok (by have := pageL_length sm; omega)
  have CC := hide (show ∀ (u : World), PgAt u bp lo hi r b1 es.length d1 b2 ds.length d2 es ds → Calls Try.prog 7 #[pgv lo hi r b1 es.length d1 b2 ds.length d2] u fun e w' => ∃ a c, e = .returned (.tuple #[pgv lo H R a E.length c none 0 0, .int .i64 0]) ∧ PgOwn w' u.heap.size a E.length c none 0 0 E [] ∧ Below u.heap.size u w' from fun u h => (implConsolidate_any lo hi r b1 es.length d1 es b2 ds.length d2 ds u h.er h.dr).mono fun e w' ⟨a, n, c, h1, h2, h3⟩ => by
    have e1 : conP lo hi r es ds = ⟨lo, H, R, E, []⟩ := by rw [hH, hR, hE]; unfold conP; rw [if_pos ok]
    have e2 : conC lo hi r es ds = 0 := by unfold conC; rw [if_pos ok]
    rw [e1, e2] at h1
    rw [e1] at h2
    obtain rfl : n = E.length := (erow_of_owns h2).1.symm
    exact ⟨a, c, h1, ⟨h2, World.ownsRow_nil _ _ _ _, fun i hi hj => by cases hj⟩, h3⟩)
  have CF := hide (show ∀ (u : World), PgAt u bp lo hi r b1 es.length d1 b2 ds.length d2 es ds → Calls Try.prog 8 #[pgv lo hi r b1 es.length d1 b2 ds.length d2, .string k] u fun e w' => e = .returned (.tuple #[.string t1, .int .i64 t2, .int .i64 t3]) ∧ Below u.heap.size u w' from fun u h => (implFind_any lo hi r b1 es.length d1 es b2 ds.length d2 ds k u h.er h.dr).mono fun e w' ⟨h1, h2⟩ => ⟨by rw [h1, findA_eq, hT], h2⟩)
  have CW := hide (show ∀ (u : World), PgAt u bp lo hi r b1 es.length d1 b2 ds.length d2 es ds → Calls Try.prog 9 #[pgv lo hi r b1 es.length d1 b2 ds.length d2, .string k] u fun e w' => e = .returned (.tuple #[.string t1, .int .i64 t2, .int .i64 t3]) ∧ Below u.heap.size u w' from fun u h => (specFind_any lo hi r b1 es.length d1 es b2 ds.length d2 ds k u h.er h.dr h.ce).mono fun e w' ⟨h1, h2⟩ => ⟨by rw [h1, findA_eq, hT], h2⟩)
  have CB := hide (show ∀ (u : World), PgAt u bp lo hi r b1 es.length d1 b2 ds.length d2 es ds → Calls Try.prog 10 #[pgv lo hi r b1 es.length d1 b2 ds.length d2] u fun e w' => e = .returned (.tuple #[.string H, .int .i64 R, .int .i64 0]) ∧ Below u.heap.size u w' from fun u h => (implBounds_any lo hi r b1 es.length d1 es b2 ds.length d2 ds u h.er h.dr).mono fun e w' ⟨h1, h2⟩ => ⟨by rw [h1, if_pos ok, hH, hR], h2⟩)
  have CP := hide (show ∀ (u : World), PgAt u bp lo hi r b1 es.length d1 b2 ds.length d2 es ds → Calls Try.prog 11 #[pgv lo hi r b1 es.length d1 b2 ds.length d2] u fun e w' => ∃ a n c, e = .returned (.tuple #[.slice a n c, .int .i64 0]) ∧ (Row w' a n X ∧ n ≤ c ∧ ∀ x, a = some x → x.block < w'.heap.size) ∧ Below u.heap.size u w' from fun u h => (implPageBytes_any lo hi r b1 es.length d1 es b2 ds.length d2 ds u h.er h.dr).mono fun e w' ⟨v, h1, h2, h3⟩ => by
    have e1 : pbC lo hi r es ds = 0 := by unfold pbC; rw [if_pos ok]
    have e2 : pbL lo hi r es ds = X := by unfold pbL; rw [if_pos ok, hX]
    rw [e1] at h1
    rw [e2] at h2
    obtain ⟨a, n, c, rfl, g⟩ := row_own h2
    exact ⟨a, n, c, h1, g, h3⟩)
  have CQ := hide (show ∀ (u : World) (bq : Nat) (a : Option Addr) (c : Nat), PgAt u bq lo H R a E.length c none 0 0 E [] → Calls Try.prog 8 #[pgv lo H R a E.length c none 0 0, .string k] u fun e w' => e = .returned (.tuple #[.string t1, .int .i64 t2, .int .i64 t3]) ∧ Below u.heap.size u w' from fun u bq a c h => (implFind_any lo H R a E.length c E none 0 0 [] k u h.er h.dr).mono fun e w' ⟨h1, h2⟩ => ⟨by rw [h1, findA_eq, hQ], h2⟩)
  have CR := hide (show ∀ (u : World) (bq : Nat) (a : Option Addr) (c : Nat), PgAt u bq lo H R a E.length c none 0 0 E [] → Calls Try.prog 10 #[pgv lo H R a E.length c none 0 0] u fun e w' => e = .returned (.tuple #[.string H, .int .i64 R, .int .i64 0]) ∧ Below u.heap.size u w' from fun u bq a c h => (implBounds_any lo H R a E.length c E none 0 0 [] u h.er h.dr).mono fun e w' ⟨h1, h2⟩ => ⟨by rw [h1, if_pos qk]; rfl, h2⟩)
  have CO := hide (show ∀ (u : World) (bq : Nat) (a : Option Addr) (c : Nat), PgAt u bq lo H R a E.length c none 0 0 E [] → Calls Try.prog 13 #[pgv lo H R a E.length c none 0 0] u fun e w' => e = .returned (.bool true) ∧ Below u.heap.size u w' from fun u bq a c h => (implPageOK_any lo H R a E.length c E none 0 0 [] u h.er h.dr).mono fun e w' ⟨h1, h2⟩ => ⟨by rw [h1, qk], h2⟩)
  have CD := hide (show ∀ (u : World) (a : Option Addr) (n c : Nat), (Row u a n X ∧ n ≤ c ∧ ∀ x, a = some x → x.block < u.heap.size) → Calls Try.prog 12 #[.slice a n c] u fun e w' => ∃ a1 c1 a2 c2, e = .returned (.tuple #[pgv lo hi r a1 es.length c1 a2 ds.length c2, .int .i64 0]) ∧ PgOwn w' u.heap.size a1 es.length c1 a2 ds.length c2 es ds ∧ Below u.heap.size u w' from fun u a n c h => (implReadPage_any a n c X u h.1 (by rw [hX]; exact by_page sm) h.2.1 h.2.2).mono fun e w' ⟨a1, m1, c1, a2, m2, c2, h1, h2, h3⟩ => by
    have e1 : rdP X = ⟨lo, hi, r, es, ds⟩ := by rw [hX]; exact rb.1
    have e2 : rdC X = 0 := by rw [hX]; exact rb.2
    rw [e1, e2] at h1
    rw [e1] at h2
    obtain ⟨rfl, rfl⟩ := h2.len
    exact ⟨a1, c1, a2, c2, h1, h2, h3⟩)
  have LN := hide (unhide OK).2
  clear hH hR hE hX hT ok qk hQ sm rb OK
  obtain ⟨⟨p0, p1, p2, p3, p4⟩, _⟩ := five_of (unhide P).k
  go_wp2_with fail
  clear p0 p1 p2 p3 p4
  refine (unhide CC _ (unhide P)).mono ?_
  rintro e w3 ⟨e1, f1, rfl, ho, hb⟩
  have bN : Below w3.heap.size w3 (w3.alloc (.cells #[.string lo, .string H, .int .i64 R, .slice e1 E.length f1, .slice none 0 0] 26)) := (Below.refl _ _).alloc (Nat.le_refl _) _
  have bT := hb.trans (bN.mono hb.size)
  replace P := hide ((unhide P).below bT)
  replace BW := hide ((unhide BW).trans (bT.mono (unhide BW).size))
  have Q := hide (PgAt.new (lo := lo) (hi := H) (r := R) ho)
  clear hb bN bT ho CC
  go_upto_region 6 with fail
  generalize w3.alloc (.cells #[.string lo, .string H, .int .i64 R, .slice e1 E.length f1, .slice none 0 0] 26) = wC at *
  generalize w3.heap.size = bq at *
  obtain ⟨⟨p0, p1, p2, p3, p4⟩, _⟩ := five_of (unhide P).k
  go_wp2_with fail
  clear p0 p1 p2 p3 p4
  refine (unhide CF _ (unhide P)).mono ?_
  rintro e w4 ⟨rfl, bT⟩
  replace P := hide ((unhide P).below bT)
  replace BW := hide ((unhide BW).trans (bT.mono (unhide BW).size))
  replace Q := hide ((unhide Q).below bT)
  clear bT CF
  obtain ⟨⟨p0, p1, p2, p3, p4⟩, _⟩ := five_of (unhide Q).k
  go_wp2_with fail
  clear p0 p1 p2 p3 p4
  refine (unhide CQ _ bq _ _ (unhide Q)).mono ?_
  rintro e w5 ⟨rfl, bT⟩
  replace P := hide ((unhide P).below bT)
  replace BW := hide ((unhide BW).trans (bT.mono (unhide BW).size))
  replace Q := hide ((unhide Q).below bT)
  clear bT CQ
  obtain ⟨⟨p0, p1, p2, p3, p4⟩, _⟩ := five_of (unhide P).k
  go_wp2_with fail
  clear p0 p1 p2 p3 p4
  refine (unhide CW _ (unhide P)).mono ?_
  rintro e w6 ⟨rfl, bT⟩
  replace P := hide ((unhide P).below bT)
  replace BW := hide ((unhide BW).trans (bT.mono (unhide BW).size))
  replace Q := hide ((unhide Q).below bT)
  clear bT CW
  obtain ⟨⟨p0, p1, p2, p3, p4⟩, _⟩ := five_of (unhide P).k
  go_wp2_with fail
  clear p0 p1 p2 p3 p4
  refine (unhide CB _ (unhide P)).mono ?_
  rintro e w7 ⟨rfl, bT⟩
  replace P := hide ((unhide P).below bT)
  replace BW := hide ((unhide BW).trans (bT.mono (unhide BW).size))
  replace Q := hide ((unhide Q).below bT)
  clear bT CB
  obtain ⟨⟨p0, p1, p2, p3, p4⟩, _⟩ := five_of (unhide Q).k
  go_wp2_with fail
  clear p0 p1 p2 p3 p4
  refine (unhide CR _ bq _ _ (unhide Q)).mono ?_
  rintro e w8 ⟨rfl, bT⟩
  replace P := hide ((unhide P).below bT)
  replace BW := hide ((unhide BW).trans (bT.mono (unhide BW).size))
  replace Q := hide ((unhide Q).below bT)
  clear bT CR
  obtain ⟨⟨p0, p1, p2, p3, p4⟩, _⟩ := five_of (unhide P).k
  go_wp2_with fail
  clear p0 p1 p2 p3 p4
  refine (unhide CP _ (unhide P)).mono ?_
  rintro e w9 ⟨ab, nb, cb, rfl, hx, bT⟩
  replace P := hide ((unhide P).below bT)
  replace BW := hide ((unhide BW).trans (bT.mono (unhide BW).size))
  replace Q := hide ((unhide Q).below bT)
  have XX := hide hx
  clear bT CP hx
  go_wp2_with fail
  refine (unhide CD _ ab nb cb (unhide XX)).mono ?_
  rintro e wa ⟨e2, f2, e3, f3, rfl, ho, hb⟩
  have bN : Below wa.heap.size wa (wa.alloc (.cells #[.string lo, .string hi, .int .i64 r, .slice e2 es.length f2, .slice e3 ds.length f3] 26)) := (Below.refl _ _).alloc (Nat.le_refl _) _
  have bT := hb.trans (bN.mono hb.size)
  replace P := hide ((unhide P).below bT)
  replace BW := hide ((unhide BW).trans (bT.mono (unhide BW).size))
  replace Q := hide ((unhide Q).below bT)
  have V := hide (PgAt.new (lo := lo) (hi := hi) (r := r) ho)
  clear hb bN bT ho CD XX
  go_upto_region 13 with fail
  generalize wa.alloc (.cells #[.string lo, .string hi, .int .i64 r, .slice e2 es.length f2, .slice e3 ds.length f3] 26) = wE at *
  generalize wa.heap.size = bv at *
  obtain ⟨⟨p0, p1, p2, p3, p4⟩, _⟩ := five_of (unhide Q).k
  go_wp2_with fail
  clear p0 p1 p2 p3 p4
  refine (unhide CO _ bq _ _ (unhide Q)).mono ?_
  rintro e wf ⟨rfl, bT⟩
  replace P := hide ((unhide P).below bT)
  replace BW := hide ((unhide BW).trans (bT.mono (unhide BW).size))
  replace Q := hide ((unhide Q).below bT)
  replace V := hide ((unhide V).below bT)
  clear bT CO
  obtain ⟨⟨p0, p1, p2, p3, p4⟩, _⟩ := five_of (unhide V).k
  obtain ⟨⟨q0, q1, q2, q3, q4⟩, _⟩ := five_of (unhide P).k
  go_wp2_with fail
  clear p0 p1 p2 p3 p4 q0 q1 q2 q3 q4
  refine (samePage_any lo hi r e2 b1 es.length f2 d1 es e3 b2 ds.length f3 d2 ds _ (unhide V).er (unhide P).er (unhide V).dr (unhide P).dr (by have := (unhide LN).1; omega) (by have := (unhide LN).2; omega)).mono ?_
  rintro e wg ⟨rfl, bT⟩
  replace BW := hide ((unhide BW).trans (bT.mono (unhide BW).size))
  clear bT
  go_wp2_with fail
  go_ret
  exact ⟨rfl, unhide BW⟩
end Go.Proofs.Ytbboigidkimkmaa

namespace Go.Proofs.Ytbboigidkimkmaa.fnPagesFrame
open Go.ChangeShapes Go.WideShapes Go.ChangeAt Go.RowKit
open Go.ChangeMaps (open_string shut_string)
set_option linter.unusedVariables false

theorem own : ownKnob Try.prog.godebug = none := by kernel_rfl
theorem laidOut : laidOutB Try.prog = true := by kernel_rfl

set_option maxRecDepth 100000 in
theorem lifted (os : Os) (started : os.Started) (H : Type) (enc : TypeId × Value → H) :
    ReturnsInHanded {} Try.checked os 3 .any (Rows.fnPagesSpec.pre6 enc Try.prog Try.f3 Rows.fnPagesRow.domain false) (Rows.fnPagesSpec.post enc Try.prog Try.f3 false true false false) := by
  refine returnsInHanded_of_change (C := Try.checked) own started (by kernel_rfl) Try.func3
    (ChangeSpec.witness6 (enc := enc) (C := Try.checked) false ⟨#[], #[.slice none 0 0, .slice none 0 0], []⟩ 8 (by kernel_rfl) (by kernel_rfl) (by kernel_rfl) (by kernel_rfl)) ?_
  intro W base args ds gs before hval0 hW _ _
  have hval : ∀ (j : Nat) t v, Try.f3.params[j]? = some t → args[j]? = some v → Value.okWide Try.prog W .any base t v := hval0
  have hW' := hW
  obtain ⟨p, q, hA0, hV, rfl, _, _⟩ := hW
  have hA : DataW.TrodAll enc Try.prog W 0 (fun _ => true) true Try.f3.params.toList args.toList ds p := hA0
  rw [Try.params3] at hA hval
  obtain ⟨v0, vs0, d0, ds0, p0, q0, hargs, rfl, rfl, h0, r0⟩ := trodAll_cons hA
  obtain ⟨v1, vs1, d1, ds1, p1, q1, rfl, rfl, rfl, h1, r1⟩ := trodAll_cons r0
  obtain ⟨rfl, rfl, rfl⟩ := trodAll_nil r1
  obtain rfl : args = #[v0, v1] := by cases args; simp_all
  obtain ⟨rfl, rfl⟩ := trodVars_none hV
  have k0 := h0
  have lt0 : ∀ x ∈ p0, x.block < W.heap.size := by obtain ⟨m, hm⟩ := k0; exact DataW.trod_lt m _ _ _ hm
  have k1 := h1
  have lt1 : ∀ x ∈ p1, x.block < W.heap.size := by obtain ⟨m, hm⟩ := k1; exact DataW.trod_lt m _ _ _ hm
  obtain ⟨a0, len0, cap0, rfl⟩ := okWide_slice Try.underlying22 (hval 0 22 v0 rfl rfl)
  obtain ⟨z0, w0⟩ : ∃ zs, IsRow .u8 W a0 len0 cap0 zs := by
    obtain ⟨fuel, hf⟩ := h0
    rcases open_ints Try.underlying22 Try.underlying5 (by kernel_rfl) hf with ⟨hcs, _⟩ | ⟨x, l, c, zs, hcs, _, hl, hm, hz, _, hcell, hwz⟩
    · simp [Value.cells] at hcs
      obtain ⟨rfl, rfl, rfl⟩ := hcs
      exact ⟨[], .inl ⟨rfl, rfl, rfl, rfl⟩⟩
    · simp [Value.cells] at hcs
      obtain ⟨rfl, rfl, rfl⟩ := hcs
      exact ⟨zs, .inr ⟨_, rfl, hl, hm, by simpa using hz, hcell, hwz⟩⟩
  obtain ⟨a1, len1, cap1, rfl⟩ := okWide_slice Try.underlying22 (hval 1 22 v1 rfl rfl)
  obtain ⟨z1, w1⟩ : ∃ zs, IsRow .u8 W a1 len1 cap1 zs := by
    obtain ⟨fuel, hf⟩ := h1
    rcases open_ints Try.underlying22 Try.underlying5 (by kernel_rfl) hf with ⟨hcs, _⟩ | ⟨x, l, c, zs, hcs, _, hl, hm, hz, _, hcell, hwz⟩
    · simp [Value.cells] at hcs
      obtain ⟨rfl, rfl, rfl⟩ := hcs
      exact ⟨[], .inl ⟨rfl, rfl, rfl, rfl⟩⟩
    · simp [Value.cells] at hcs
      obtain ⟨rfl, rfl, rfl⟩ := hcs
      exact ⟨zs, .inr ⟨_, rfl, hl, hm, by simpa using hz, hcell, hwz⟩⟩
  clear hA0 hval0
  refine (fnPages_law a0 len0 cap0 z0 a1 len1 cap1 z1 W w0 w1).mono fun e W' ⟨he, bel⟩ => ?_
  subst he
  exact ⟨_, rfl, _, _, _, [], _, [], hW', trodAll_mk1 (shut_bool Try.underlying4 _), (trodAll_cons_mk (Below.trod laidOut (by kernel_rfl) (of_decide_eq_true (by kernel_rfl)) k0 bel lt0) (trodAll_cons_mk (Below.trod laidOut (by kernel_rfl) (of_decide_eq_true (by kernel_rfl)) k1 bel lt1) trodAll_mk0)), rfl, bel.frame _, fun h => by cases h⟩

theorem over : Rows.fnPagesRow.holds Try.pinned (OpenSpec.ofChange Rows.fnPagesSpec) :=
  OpenClaim.holds_of_wide 3 Try.f3 rfl rfl rfl rfl rfl rfl rfl ⟨rfl, rfl, rfl, rfl, rfl⟩ rfl rfl rfl rfl rfl (by kernel_rfl) Try.func3 (by kernel_rfl)
    (of_decide_eq_true (by kernel_rfl)) (by unfold Func.isWrapper; first | (rw [if_pos (by decide +kernel)]; kernel_rfl) | (rw [if_neg (by decide +kernel)]; exact ⟨rfl, rfl⟩))
    (fun os started H enc _ => lifted os started H enc)

end Go.Proofs.Ytbboigidkimkmaa.fnPagesFrame
namespace Go.Proofs.Ytbboigidkimkmaa
/-- THE STATEMENT. -/
theorem fnPages_proved : Rows.FnPagesSaid := fnPagesFrame.over
#print axioms fnPages_proved
end Go.Proofs.Ytbboigidkimkmaa
