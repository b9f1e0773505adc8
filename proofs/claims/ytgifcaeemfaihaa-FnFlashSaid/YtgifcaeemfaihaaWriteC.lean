/-
  Rows of sectors with their numbers that a call makes by appends.
-/
import Derived.Test.YtgifcaeemfaihaaWriteL
import Derived.Test.YtgifcaeemfaihaaDevW
import Derived.Laws.AppendOwnNone
set_option maxRecDepth 100000
namespace Go.Proofs.Ytgifcaeemfaihaa
open Go.RowKit

/-- Bytes that lie ahead of block B, or in a block of bytes. -/
def Far (w : World) (B : Nat) (a : Option Addr) : Prop := ∀ x, a = some x → x.block < w.heap.size ∧ (x.block < B ∨ ∃ cur fr, w.heap[x.block]? = some (.cells cur 5 fr))
theorem Far.grow {w w' : World} {B : Nat} {a : Option Addr} (h : Far w B a) (hb : Below w.heap.size w w') : Far w' B a := fun x hx => by
  obtain ⟨h0, h1⟩ := h x hx
  refine ⟨Nat.lt_of_lt_of_le h0 hb.size, ?_⟩
  rcases h1 with h1 | ⟨cur, fr, h1⟩
  · exact .inl h1
  · exact .inr ⟨cur, fr, (hb.block _ h0).trans h1⟩
/-- The cells of sectors with their numbers. -/
def WCs (w : World) (B : Nat) (cs : List Value) (ws : List WD) : Prop :=
  cs.length = ws.length * 2 ∧ ∀ i (hi : i < ws.length), cs[i * 2]? = some (.int .i64 ws[i].at_) ∧ ∃ a' c', cs[i * 2 + 1]? = some (.slice a' ws[i].xs.length c') ∧ (ws[i].xs.length ≤ maxLen ∧ ws[i].xs.length ≤ c') ∧ Row w a' ws[i].xs.length ws[i].xs ∧ (0 < ws[i].xs.length → Far w B a')
theorem WCs.grow {w w' : World} {B : Nat} {cs : List Value} {ws : List WD} (h : WCs w B cs ws) (hb : Below w.heap.size w w') : WCs w' B cs ws :=
  ⟨h.1, fun i hi => by
    obtain ⟨h0, a', c', h1, h2, h3, h4⟩ := h.2 i hi
    exact ⟨h0, a', c', h1, h2, row_grow h3 hb, fun hp => (h4 hp).grow hb⟩⟩
theorem WCs.snoc {w : World} {B : Nat} {cs : List Value} {ws : List WD} (h : WCs w B cs ws) (d : WD) (a : Option Addr) (c : Nat) (h1 : d.xs.length ≤ maxLen) (h2 : d.xs.length ≤ c) (h3 : Row w a d.xs.length d.xs) (h4 : 0 < d.xs.length → Far w B a) : WCs w B (cs ++ [.int .i64 d.at_, .slice a d.xs.length c]) (ws ++ [d]) := by
  refine ⟨by simp [h.1]; omega, fun i hi => ?_⟩
  simp only [List.length_append, List.length_cons, List.length_nil] at hi
  by_cases e : i < ws.length
  · obtain ⟨g0, a', c', g1, g2, g3⟩ := h.2 i e
    rw [List.getElem_append_left e]
    refine ⟨by rw [List.getElem?_append_left (by rw [h.1]; omega)]; exact g0, a', c', by rw [List.getElem?_append_left (by rw [h.1]; omega)]; exact g1, g2, g3⟩
  · obtain rfl : i = ws.length := by omega
    rw [List.getElem_append_right (Nat.le_refl _)]
    refine ⟨?_, a, c, ?_, ⟨by simpa using h1, by simpa using h2⟩, by simpa using h3, by simpa using h4⟩
    · rw [List.getElem?_append_right (by rw [h.1]; omega), h.1]; simp
    · rw [List.getElem?_append_right (by rw [h.1]; omega), h.1, show ws.length * 2 + 1 - ws.length * 2 = 1 by omega]; simp
theorem WCs.one {w : World} {B : Nat} {cs : List Value} {ws : List WD} (h : WCs w B cs ws) : ∀ u ∈ cs, u.oneCell' = true := by
  intro u hu
  obtain ⟨j, hj, rfl⟩ := List.getElem_of_mem hu
  have hl := h.1
  have hi : j / 2 < ws.length := by omega
  obtain ⟨h0, a', c', h1, _⟩ := h.2 (j / 2) hi
  by_cases e : j % 2 = 0
  · rw [show j / 2 * 2 = j by omega, List.getElem?_eq_getElem hj] at h0
    injection h0 with h0
    rw [h0]; rfl
  · rw [show j / 2 * 2 + 1 = j by omega, List.getElem?_eq_getElem hj] at h1
    injection h1 with h1
    rw [h1]; rfl
/-- The bytes of what waits lie ahead of block B, or in blocks of bytes. -/
def FarW (w : World) (B : Nat) (aw : Option Addr) (ws : List WD) : Prop := ∀ b off, aw = some ⟨b, off, none⟩ → ∀ i (_ : i < ws.length) a' m c', w.cell? ⟨b, off + i * 2 + 1, none⟩ = some (.slice a' m c') → 0 < ws[i].xs.length → Far w B a'
theorem FarW.all {w : World} {aw : Option Addr} {n : Nat} {ws : List WD} (h : WRow w aw n ws) : FarW w w.heap.size aw ws := by
  intro b off e i hi a' m c' hc hp x hx
  obtain ⟨b', off', e', _, a2, c2, hc2, _, hr⟩ := h.2 i hi
  rw [e] at e'
  injection e' with e'
  injection e' with e1 e2
  subst e1 e2
  rw [hc2] at hc
  injection hc with hc
  injection hc with hc
  subst hc
  obtain ⟨b1, o1, e1, hc1⟩ := hr.2 0 hp
  rw [hx] at e1
  cases e1
  exact ⟨cell_lt hc1, .inl (cell_lt hc1)⟩
theorem FarW.below {w w' : World} {B : Nat} {aw : Option Addr} {n : Nat} {ws : List WD} (hf : FarW w B aw ws) (h : WRow w aw n ws) (hb : Below w.heap.size w w') : FarW w' B aw ws := by
  intro b off e i hi a' m c' hc hp
  obtain ⟨b', off', e', c0, a2, c2, hc2, _, hr⟩ := h.2 i hi
  rw [e] at e'
  injection e' with e'
  injection e' with e1 e2
  subst e1 e2
  exact (hf b off e i hi a' m c' ((hb.cell (p := ⟨b, off + i * 2 + 1, none⟩) (cell_lt hc2)).symm.trans hc) hp).grow hb
/-- A row that reads so has such cells. -/
theorem WRow.cells {w : World} {b off n : Nat} {ws : List WD} (h : WRow w (some ⟨b, off, none⟩) n ws) {B : Nat} (hF : FarW w B (some ⟨b, off, none⟩) ws) : ∃ cs, WCs w B cs ws ∧ ∀ j u, cs[j]? = some u → w.cell? ((⟨b, off, none⟩ : Addr).add j) = some u := by
  have key : ∀ k, k ≤ ws.length → ∃ cs, WCs w B cs (ws.take k) ∧ ∀ j u, cs[j]? = some u → w.cell? ⟨b, off + j, none⟩ = some u := by
    intro k
    induction k with
    | zero => intro _; exact ⟨[], ⟨rfl, fun i hi => by simp at hi⟩, fun j u hu => by simp at hu⟩
    | succ k ih =>
      intro hk
      obtain ⟨cs, h1, h2⟩ := ih (by omega)
      obtain ⟨b', off', e, c0, a', c', c1, hm, hr⟩ := h.2 k (by omega)
      injection e with e
      injection e with e1 e2
      subst e1 e2
      have hl : cs.length = k * 2 := by rw [h1.1, List.length_take, Nat.min_eq_left (by omega)]
      refine ⟨cs ++ [.int .i64 ws[k].at_, .slice a' ws[k].xs.length c'], by rw [List.take_succ_eq_append_getElem (by omega)]; exact h1.snoc _ _ _ hm.1 hm.2 hr (fun hp => hF b off rfl k (by omega) a' _ c' c1 hp), fun j u hu => ?_⟩
      by_cases hj : j < cs.length
      · rw [List.getElem?_append_left hj] at hu; exact h2 j u hu
      · rw [List.getElem?_append_right (by omega), hl] at hu
        have hjl : j - k * 2 < 2 := by have := (List.getElem?_eq_some_iff.1 hu).1; simpa using this
        by_cases e : j = k * 2
        · subst e
          rw [Nat.sub_self] at hu
          simp at hu
          rw [← hu]; exact c0
        · obtain rfl : j = k * 2 + 1 := by omega
          rw [show k * 2 + 1 - k * 2 = 1 by omega] at hu
          simp at hu
          rw [← hu, ← Nat.add_assoc]; exact c1
  obtain ⟨cs, h1, h2⟩ := key ws.length (Nat.le_refl _)
  rw [List.take_length] at h1
  refine ⟨cs, h1, fun j u hu => ?_⟩
  have e : (⟨b, off, none⟩ : Addr).add j = ⟨b, off + j, none⟩ := by unfold Addr.add; split <;> simp_all
  rw [e]; exact h2 j u hu
/-- Such a row of the call's own reads so. -/
theorem wrow_owns {w : World} {base n B : Nat} {v : Value} {cs : List Value} {ws : List WD} (h : w.ownsRow base 101 2 v n cs) (hc : WCs w B cs ws) (hn : ws.length = n) : ∃ a c, v = .slice a n c ∧ WRow w a n ws := by
  rcases h.2 with ⟨rfl, h0⟩ | ⟨g, cap, cur, rfl, _⟩
  · exact ⟨none, 0, by rw [h0], hn, fun i hi => absurd hi (by omega)⟩
  · refine ⟨_, cap, rfl, hn, fun i hi => ?_⟩
    obtain ⟨h0, a', c', h1, h2, h3, _⟩ := hc.2 i hi
    have e0 := h.cellAt (i * 2) (by omega)
    have e1 := h.cellAt (i * 2 + 1) (by omega)
    exact ⟨g, 0, rfl, by rw [Nat.zero_add, e0, h0], a', c', by rw [Nat.zero_add, e1, h1], h2, h3⟩
theorem nil_wrow {w : World} {n : Nat} {ws : List WD} (h : WRow w none n ws) : ws = [] := by
  cases ws with
  | nil => rfl
  | cons d r =>
    obtain ⟨b, off, e, _⟩ := h.2 0 (by simp)
    cases e
/-- What waits is copied into a new row. -/
theorem copy_waiting {w u : World} {aw : Option Addr} {nw cw g0 : Nat} {ws : List WD} (ty : TypeId) (hW : WRow w aw nw ws) {B : Nat} (hF : FarW w B aw ws) (haw : aw = none → nw = 0 ∧ cw = 0) (hnw : nw ≤ 1048576) (hb0 : Below w.heap.size w u) (hO : u.ownsRow w.heap.size 101 2 (.slice (some ⟨g0, 0, none⟩) 0 0) 0 []) :
    ∃ g cap w3 cs, (Builtin.append_ #[48, 48] ty #[.slice (some ⟨g0, 0, none⟩) 0 0, .slice aw nw cw]).run Try.prog u = .ok (.slice (some ⟨g, 0, none⟩) ws.length cap) w3 ∧ w3.ownsRow w.heap.size 101 2 (.slice (some ⟨g, 0, none⟩) ws.length cap) ws.length cs ∧ WCs w3 B cs ws ∧ Below w.heap.size w w3 ∧ u.heap.size ≤ w3.heap.size ∧ (∀ k, k < u.heap.size → k ≠ g0 → w3.heap[k]? = u.heap[k]?) := by
  obtain ⟨i0, hi, hz0, hz1, hz2⟩ := info_parts Try.infoWrite
  cases aw with
  | none =>
    obtain ⟨rfl, rfl⟩ := haw rfl
    obtain rfl := nil_wrow hW
    have hrun := run_append_owned_none (P := Try.prog) (w := u) w.heap.size 48 ty 101 i0 2 Try.underlying48 hi _ 0 [] hO
    exact ⟨g0, 0, u, [], hrun, hO, ⟨rfl, fun i hi => by simp at hi⟩, hb0, Nat.le_refl _, fun _ _ _ => rfl⟩
  | some x =>
    obtain ⟨cs, hcs, hcell⟩ : ∃ cs, WCs w B cs ws ∧ ∀ j u, cs[j]? = some u → w.cell? (x.add j) = some u := by
      by_cases h0 : 0 < ws.length
      · obtain ⟨b, off, e, _⟩ := hW.2 0 h0
        injection e with e
        subst e
        exact hW.cells hF
      · obtain rfl : ws = [] := List.eq_nil_of_length_eq_zero (by omega)
        exact ⟨[], ⟨rfl, fun i hi => by simp at hi⟩, fun j u hu => by simp at hu⟩
    have hwl := hW.1
    obtain ⟨v, w3, hrun, hown, hg, hnil⟩ := run_append_own (P := Try.prog) u w.heap.size 48 ty 101 i0 _ 2 32 Try.underlying48 hi hz0 hz1 hz2 rfl (by decide) _ 0 [] hO x nw cw cs (by rw [hcs.1, hwl]) (fun j u hu => cell_later hb0 (hcell j u hu)) hcs.one (by unfold maxLen; omega) (by omega) hb0.size
    have hown' : w3.ownsRow w.heap.size 101 2 v ws.length cs := by rw [hwl]; simpa using hown
    obtain ⟨g, cap, rfl⟩ : ∃ g cap, v = .slice (some ⟨g, 0, none⟩) ws.length cap := by
      rcases hown'.2 with ⟨e, _⟩ | ⟨g, cap, _, e, _⟩
      · have := (hnil.1 e).1
        cases this
      · exact ⟨g, cap, e⟩
    have hbw : Below w.heap.size w w3 := hb0.grown hg hb0.size (fun k hk => (hO.lt k hk).1)
    exact ⟨g, cap, w3, cs, hrun, hown', hcs.grow hbw, hbw, hg.size, fun k hk hne => hg.block k hk (by simp [Value.ownBlock]; exact hne)⟩
/-- All blocks but the row's own are as they were: the bytes too. -/
theorem WCs.kept {w w' : World} {B base : Nat} {v : Value} {n : Nat} {cs cs' : List Value} {ws : List WD} (h : WCs w B cs' ws) (hBb : B ≤ base) (ho : w.ownsRow base 101 2 v n cs) (hs : w.heap.size ≤ w'.heap.size) (hk : ∀ k, k < w.heap.size → some k ≠ v.ownBlock → w'.heap[k]? = w.heap[k]?) : WCs w' B cs' ws := by
  have key : ∀ b, b < w.heap.size → (b < B ∨ ∃ cur fr, w.heap[b]? = some (.cells cur 5 fr)) → w'.heap[b]? = w.heap[b]? := fun b hb hf => hk b hb (fun e => by
    have hl := ho.lt b e.symm
    rcases hf with hf | ⟨cur, fr, hf⟩
    · omega
    · rcases ho.2 with ⟨e0, _⟩ | ⟨g, cap, cur0, e0, _, hh, _⟩
      · subst e0; cases e
      · subst e0
        have hg : b = g := by simpa [Value.ownBlock] using e
        subst hg
        rw [hf] at hh
        injection hh with hh
        injection hh with _ hh
        exact absurd hh (by decide))
  refine ⟨h.1, fun i hi => ?_⟩
  obtain ⟨h0, a', c', h1, h2, h3, h4⟩ := h.2 i hi
  refine ⟨h0, a', c', h1, h2, ?_, fun hp x hx => ?_⟩
  · by_cases hp : 0 < ws[i].xs.length
    · exact h3.of_cells fun x hx p hpb => World.cell?_of_block (w := w) (by rw [hpb]; exact key _ (h4 hp x hx).1 (h4 hp x hx).2)
    · exact ⟨h3.1, fun j hj => absurd hj (by omega)⟩
  · obtain ⟨f0, f1⟩ := h4 hp x hx
    refine ⟨Nat.lt_of_lt_of_le f0 hs, ?_⟩
    have e := key _ f0 f1
    rcases f1 with f1 | ⟨cur, fr, f1⟩
    · exact .inl f1
    · exact .inr ⟨cur, fr, e.trans f1⟩
theorem WCs.but {w w' : World} {B bad : Nat} {cs' : List Value} {ws : List WD} (h : WCs w B cs' ws) (hbad : B ≤ bad) (hkind : ∃ cur t fr, w.heap[bad]? = some (.cells cur t fr) ∧ t ≠ 5) (hs : w.heap.size ≤ w'.heap.size) (hk : ∀ k, k < w.heap.size → k ≠ bad → w'.heap[k]? = w.heap[k]?) : WCs w' B cs' ws := by
  have key : ∀ b, b < w.heap.size → (b < B ∨ ∃ cur fr, w.heap[b]? = some (.cells cur 5 fr)) → w'.heap[b]? = w.heap[b]? := fun b hb hf => hk b hb (fun e => by
    subst e
    rcases hf with hf | ⟨cur, fr, hf⟩
    · omega
    · obtain ⟨cur0, t, fr0, hh, hne⟩ := hkind
      rw [hf] at hh
      injection hh with hh
      injection hh with _ hh
      exact hne hh.symm)
  refine ⟨h.1, fun i hi => ?_⟩
  obtain ⟨h0, a', c', h1, h2, h3, h4⟩ := h.2 i hi
  refine ⟨h0, a', c', h1, h2, ?_, fun hp x hx => ?_⟩
  · by_cases hp : 0 < ws[i].xs.length
    · exact h3.of_cells fun x hx p hpb => World.cell?_of_block (w := w) (by rw [hpb]; exact key _ (h4 hp x hx).1 (h4 hp x hx).2)
    · exact ⟨h3.1, fun j hj => absurd hj (by omega)⟩
  · obtain ⟨f0, f1⟩ := h4 hp x hx
    refine ⟨Nat.lt_of_lt_of_le f0 hs, ?_⟩
    have e := key _ f0 f1
    rcases f1 with f1 | ⟨cur, fr, f1⟩
    · exact .inl f1
    · exact .inr ⟨cur, fr, e.trans f1⟩
/-- One sector more waits: its bytes are copied, and it is appended. -/
theorem write_one {w : World} {base B : Nat} {v : Value} {cs : List Value} {ws : List WD} (hO : w.ownsRow base 101 2 v ws.length cs) (hBb : B ≤ base) (hC : WCs w B cs ws) (hbase : base ≤ w.heap.size) (hws : ws.length ≤ 100000) (g so sc n : Nat) (s : List Int) (hs : s.length = 16) (hr : Row w (some ⟨g, so, none⟩) 16 s) :
    ∃ g4 cap4 w4 v5 w5 cs', (Builtin.append_ #[22, 22] 22 #[.slice (some ⟨w.heap.size, 0, none⟩) 0 0, .slice (some ⟨g, so, none⟩) 16 sc]).run Try.prog (w.drew.alloc (.cells #[] 5)) = .ok (.slice (some ⟨g4, 0, none⟩) 16 cap4) w4 ∧
      (Builtin.append_ #[48, 48] 48 #[v, .slice (some ⟨w4.heap.size, 0, none⟩) 1 1]).run Try.prog (w4.alloc (.cells #[.int .i64 (n : Int), .slice (some ⟨g4, 0, none⟩) 16 cap4] 101)) = .ok v5 w5 ∧
      w5.ownsRow base 101 2 v5 (ws.length + 1) cs' ∧ v5 ≠ .slice none 0 0 ∧ WCs w5 B cs' (ws ++ [⟨(n : Int), s⟩]) ∧ Below base w w5 ∧ (∀ k, k < w.heap.size → some k ≠ v.ownBlock → w5.heap[k]? = w.heap[k]?) ∧ Below w.heap.size w w4 := by
  obtain ⟨i0, hi, hz0, hz1, hz2⟩ := info_parts Try.infoU8
  obtain ⟨j0, hj, kz0, kz1, kz2⟩ := info_parts Try.infoWrite
  have hsd : w.drew.heap.size = w.heap.size := rfl
  have hb0 : Below w.heap.size w (w.drew.alloc (.cells #[] 5)) := (bel_drewN (n := 1) (Below.refl _ _)).alloc (Nat.le_refl _) _
  have hL : (w.drew.alloc (.cells #[] 5)).ownsRow w.heap.size 5 1 (.slice (some ⟨w.heap.size, 0, none⟩) 0 0) 0 [] :=
    World.ownsRow_lit (base := w.heap.size) (e := 5) (size := 1) w.drew #[] 0 (Nat.le_refl _) (by unfold maxLen; simp) rfl
  have hr' : Row w (some ⟨g, so, none⟩) s.length s := by rw [hs]; exact hr
  obtain ⟨v4, w4, hrun4, hown4, hg4, hnil4⟩ := run_append_own (P := Try.prog) (w.drew.alloc (.cells #[] 5)) w.heap.size 22 22 5 i0 _ 1 1 Try.underlying22 hi hz0 hz1 hz2 rfl (by decide) _ 0 [] hL ⟨g, so, none⟩ 16 sc (s.map (Value.int .u8)) (by simp [hs]) (row_cells (row_grow hr' hb0)) (all_u8 _) (by unfold maxLen; omega) (by omega) (by simp [hsd])
  have O4 : Owns w4 w.heap.size v4 s := by
    unfold Owns
    rw [hs]
    simpa using hown4
  obtain ⟨g4, cap4, rfl, hgB, hgl, hc1, hc2⟩ := owns_formF O4 (fun e => by have := (hnil4.1 e).1; cases this)
  rw [hs] at hrun4 hc1 O4
  have B4 : Below w.heap.size w w4 := hb0.grown hg4 (by simp [hsd]) (fun k hk => by cases hk; exact Nat.le_refl _)
  have hkind4 : ∃ cur fr, w4.heap[g4]? = some (.cells cur 5 fr) := by
    rcases O4.2 with ⟨e, _⟩ | ⟨g', cap', cur, e, _, hh, _⟩
    · cases e
    · injection e with e1 _ _
      injection e1 with e1
      injection e1 with e1
      subst e1
      exact ⟨cur, _, hh⟩
  have O5 : (w4.alloc (.cells #[.int .i64 (n : Int), .slice (some ⟨g4, 0, none⟩) 16 cap4] 101)).ownsRow base 101 2 v ws.length cs := by
    have : w4.ownsRow base 101 2 v ws.length cs := World.ownsRow.kept (row := none) hO ⟨B4.os, B4.tape, B4.output, B4.size, fun i hi _ => B4.block i hi⟩ (by cases hv : v.ownBlock <;> simp)
    exact this.alloc _
  obtain ⟨v5, w5, hrun5, hown5, hg5, hnil5⟩ := run_append_own (P := Try.prog) (w4.alloc (.cells #[.int .i64 (n : Int), .slice (some ⟨g4, 0, none⟩) 16 cap4] 101)) base 48 48 101 j0 _ 2 32 Try.underlying48 hj kz0 kz1 kz2 rfl (by decide) v ws.length cs O5 ⟨w4.heap.size, 0, none⟩ 1 1 [.int .i64 (n : Int), .slice (some ⟨g4, 0, none⟩) 16 cap4] rfl cells_new (by intro u hu; simp at hu; rcases hu with rfl | rfl <;> rfl) (by unfold maxLen; omega) (by omega) (by have := B4.size; simp; omega)
  have hvl : ∀ k, v.ownBlock = some k → base ≤ k ∧ k < w.heap.size := fun k hk => hO.lt k hk
  have K5 : ∀ k, k < w4.heap.size → some k ≠ v.ownBlock → w5.heap[k]? = w4.heap[k]? := fun k hk hne => by rw [hg5.block k (by simp; omega) hne, Below.heap_alloc _ _ _ hk]
  have s45 : w4.heap.size ≤ w5.heap.size := by have := hg5.size; simp at this; omega
  have C4 : WCs w4 B (cs ++ [.int .i64 (n : Int), .slice (some ⟨g4, 0, none⟩) 16 cap4]) (ws ++ [⟨(n : Int), s⟩]) := by
    have := (hC.grow B4).snoc ⟨(n : Int), s⟩ (some ⟨g4, 0, none⟩) cap4 (by simp only; rw [hs]; unfold maxLen; omega) (by simp only; rw [hs]; exact hc1) (row_of_owns (by rw [hs]; exact O4)) (fun _ x hx => by cases hx; exact ⟨hgl, .inr hkind4⟩)
    simpa [hs] using this
  have O4' : w4.ownsRow base 101 2 v ws.length cs := World.ownsRow.kept (row := none) hO ⟨B4.os, B4.tape, B4.output, B4.size, fun i hi _ => B4.block i hi⟩ (by cases hv : v.ownBlock <;> simp)
  refine ⟨g4, cap4, w4, v5, w5, _, hrun4, hrun5, hown5, fun e => ?_, C4.kept hBb O4' s45 K5, ?_, fun k hk hne => ?_, B4⟩
  · have := (hnil5.1 e).2
    cases this
  · exact ⟨hg5.os.trans B4.os, hg5.tape.trans B4.tape, hg5.output.trans B4.output, Nat.le_trans B4.size s45, fun k hk => by
      rw [K5 k (Nat.lt_of_lt_of_le hk (Nat.le_trans hbase B4.size)) (fun e => by have := (hvl k e.symm).1; omega), B4.block k (by omega)]⟩
  · rw [K5 k (Nat.lt_of_lt_of_le hk B4.size) hne, B4.block k hk]
theorem row_off {w : World} {g n : Nat} {xs : List Int} (h : Row w (some ⟨g, 0, none⟩) n xs) (k m : Nat) (hk : k + m ≤ n) : Row w (some ⟨g, k, none⟩) m ((xs.drop k).take m) := by
  have hl := h.1
  refine ⟨by simp; omega, fun i hi => ⟨g, k, rfl, ?_⟩⟩
  obtain ⟨b, off, e, hc⟩ := h.2 (k + i) (by omega)
  cases e
  rw [Nat.zero_add] at hc
  rw [hc]
  simp [List.getD, hi]
theorem box_int {w : World} {ob j : Nat} {a a' : Option Addr} {n c n' c' : Nat} {t : TypeId} {fr : Nat × Nat} {k : IntKind} {x : Int} (hk : w.heap[ob]? = some (.cells #[.slice a n c, .slice a' n' c'] t fr)) (h : w.cell? ⟨ob, j, none⟩ = some (.int k x)) : False := by
  simp only [World.cell?, hk] at h
  match j, h with
  | 0, h => simp at h
  | 1, h => simp at h
  | j + 2, h => simp at h
/-- What is written into a box of two slices changes no row of sectors. -/
theorem WRow.box {w : World} {ob : Nat} {a a' : Option Addr} {n c n' c' : Nat} {t : TypeId} {fr : Nat × Nat} {aw : Option Addr} {nw : Nat} {ws : List WD} (h : WRow w aw nw ws) (hk : w.heap[ob]? = some (.cells #[.slice a n c, .slice a' n' c'] t fr)) (u v : Value) : WRow ((w.setCell ⟨ob, 0, none⟩ u).setCell ⟨ob, 1, none⟩ v) aw nw ws := by
  have bl : ∀ b j, b ≠ ob → ((w.setCell ⟨ob, 0, none⟩ u).setCell ⟨ob, 1, none⟩ v).cell? ⟨b, j, none⟩ = w.cell? ⟨b, j, none⟩ := fun b j hb => World.cell?_of_block (w := w) (a := ⟨b, j, none⟩) (by rw [Below.heap_setCell _ _ _ _ hb, Below.heap_setCell _ _ _ _ hb])
  refine ⟨h.1, fun i hi => ?_⟩
  obtain ⟨b, off, e, c0, a2, c2, c1, hm, hr⟩ := h.2 i hi
  have hb : b ≠ ob := fun e => by subst e; exact box_int hk c0
  refine ⟨b, off, e, (bl b _ hb).trans c0, a2, c2, (bl b _ hb).trans c1, hm, hr.1, fun j hj => ?_⟩
  obtain ⟨b3, o3, e3, c3⟩ := hr.2 j hj
  have hb3 : b3 ≠ ob := fun e => by subst e; exact box_int hk c3
  exact ⟨b3, o3, e3, (bl b3 _ hb3).trans c3⟩
end Go.Proofs.Ytgifcaeemfaihaa
