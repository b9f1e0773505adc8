/-
  The walks of the drawn part and of drawn parts.
-/
import Derived.Test.YtgifcaeemfaihaaFloatD
import Derived.Test.YtgifcaeemfaihaaTupOrd
import Derived.Test.YtgifcaeemfaihaaReadTL
set_option maxRecDepth 100000
namespace Go.Proofs.Ytgifcaeemfaihaa
open Go.RowKit
attribute [local go_sem] run_store_float

theorem zkept {w w' : World} {p : Nat} (hw : Wrote p (w.alloc zpart) w') (hp : p < w.heap.size) : w'.cell? ⟨w.heap.size, 0, none⟩ = some (.int .i64 0) ∧ w'.cell? ⟨w.heap.size, 1, none⟩ = some (.int .i64 0) ∧ w'.cell? ⟨w.heap.size, 2, none⟩ = some (.float .f64 0) ∧ w'.cell? ⟨w.heap.size, 3, none⟩ = some (.string ByteArray.empty) ∧
    (∀ o, w'.frozen? ⟨w.heap.size, o, none⟩ = false) ∧ w.heap.size < w'.heap.size := by
  have hs := hw.size
  simp at hs
  have hne : w.heap.size ≠ p := by omega
  refine ⟨?_, ?_, ?_, ?_, fun o => ?_, by omega⟩
  · exact (hw.cell (p := ⟨w.heap.size, 0, none⟩) hne (by simp)).trans (by simp)
  · exact (hw.cell (p := ⟨w.heap.size, 1, none⟩) hne (by simp)).trans (by simp)
  · exact (hw.cell (p := ⟨w.heap.size, 2, none⟩) hne (by simp)).trans (by simp)
  · exact (hw.cell (p := ⟨w.heap.size, 3, none⟩) hne (by simp)).trans (by simp)
  · exact (hw.frozen (p := ⟨w.heap.size, o, none⟩) hne (by simp)).trans (by simp)
/-- A new block that is written changes nothing old. -/
theorem wrote_sets {p B : Nat} {w w0 w1 : World} (h0 : Wrote p w w0) (h : Wrote p w0 w1) (hB : w.heap.size ≤ B) (v0 v1 v2 v3 : Value) : Wrote p w ((((w1.setCell ⟨B, 0, none⟩ v0).setCell ⟨B, 1, none⟩ v1).setCell ⟨B, 2, none⟩ v2).setCell ⟨B, 3, none⟩ v3) := by
  have h2 := h0.trans h
  have hs : ∀ (x : World) (o : Nat) (v : Value), Wrote p w x → Wrote p w (x.setCell ⟨B, o, none⟩ v) := fun x o v hx =>
    ⟨hx.os, hx.tape, hx.output, by simp only [World.setCell]; simpa using hx.size, fun k hk hl => (Below.heap_setCell _ _ _ _ (by show k ≠ B; omega)).trans (hx.block k hk hl)⟩
  exact hs _ _ _ (hs _ _ _ (hs _ _ _ (hs _ _ _ h2)))

theorem Src.of_blocks {w w' : World} {p : Nat} {a : Option Addr} {n c : Nat} {xs : List Int} {K : Int} (h : Src w p a n c xs K) (hp : w'.heap[p]? = w.heap[p]?) (ha : ∀ x, a = some x → 0 < n → w'.heap[x.block]? = w.heap[x.block]?) : Src w' p a n c xs K := by
  obtain ⟨h1, ⟨t, ht, ht0, htK⟩, ⟨s, hs, hs0, hs1⟩, h4, h5, h6, h7, h8⟩ := h
  refine ⟨(World.cell?_of_block (w := w) (a := ⟨p, 0, none⟩) hp).trans h1, ⟨t, (World.cell?_of_block (w := w) (a := ⟨p, 1, none⟩) hp).trans ht, ht0, htK⟩, ⟨s, (World.cell?_of_block (w := w) (a := ⟨p, 2, none⟩) hp).trans hs, hs0, hs1⟩, fun j => (World.frozen?_of_block (w := w) (a := ⟨p, j, none⟩) hp).trans (h4 j), ⟨h5.1, fun i hi => ?_⟩, h6, h7, h8⟩
  obtain ⟨b, off, e, hc⟩ := h5.2 i hi
  have hb : w'.heap[b]? = w.heap[b]? := ha _ e (by omega)
  exact ⟨b, off, e, (World.cell?_of_block (w := w) (a := ⟨b, off + i, none⟩) hb).trans hc⟩
theorem src_sets {w : World} {p B : Nat} {a : Option Addr} {n c : Nat} {xs : List Int} {K : Int} (h : Src w p a n c xs K) (hp : p < B) (ha : ∀ x, a = some x → 0 < n → x.block < B) (v0 v1 v2 v3 : Value) : Src ((((w.setCell ⟨B, 0, none⟩ v0).setCell ⟨B, 1, none⟩ v1).setCell ⟨B, 2, none⟩ v2).setCell ⟨B, 3, none⟩ v3) p a n c xs K := by
  have hs : ∀ (x : World) (o : Nat) (v : Value) (k : Nat), k < B → (x.setCell ⟨B, o, none⟩ v).heap[k]? = x.heap[k]? := fun x o v k hk => Below.heap_setCell _ _ _ _ (by show k ≠ B; omega)
  exact h.of_blocks (by rw [hs _ _ _ _ hp, hs _ _ _ _ hp, hs _ _ _ _ hp, hs _ _ _ _ hp]) (fun x hx hn => by have := ha x hx hn; rw [hs _ _ _ _ this, hs _ _ _ _ this, hs _ _ _ _ this, hs _ _ _ _ this])
theorem src_code {w : World} {p : Nat} {a : Option Addr} {n c : Nat} {xs : List Int} {K : Int} (h : Src w p a n c xs K) : ∀ x, a = some x → 0 < n → x.block < w.heap.size := fun x hx hn => by
  obtain ⟨b, off, e, hc⟩ := h.row.2 0 hn
  rw [hx] at e
  cases e
  exact cell_lt hc
theorem ok_int (n : Int) : okD ⟨1, n, 0, ByteArray.empty⟩ = true := by simp [okD]
theorem ok_float (f : Nat) : okD ⟨2, 0, f, ByteArray.empty⟩ = true := by simp [okD]
theorem ok_text {t : ByteArray} (h : t.size ≤ 3) : okD ⟨3, 0, 0, t⟩ = true := by
  simp [okD]; omega

set_option maxHeartbeats 1000000 in
theorem part_any (p : Nat) (a : Option Addr) (n c : Nat) (xs : List Int) (K : Int) (w : World) (h : Src w p a n c xs K) (hK : K ≤ 400000) :
    Calls Try.prog 74 #[.pointer (some ⟨p, 0, none⟩)] w fun e w' => ∃ d : PartD, e = .returned (pv d) ∧ okD d = true ∧ Fits d ∧ Wrote p w w' ∧ Src w' p a n c xs (K + 12) := by
  have hp := cell_lt h.code
  have HX := hide (src_code h)
  have H := hide (fun o => h.alloc o)
  clear h
  go_enter Try.func74, Try.ntmps74
  go_wp2_with fail
  refine (next_any p a n c xs K 3 _ (unhide H _) (by omega) (by omega) (by omega)).mono ?_
  rintro e w1 ⟨r, rfl, hr0, hr1, ho, hs⟩
  have W1 := ho.wrote
  clear ho H
  by_cases h0 : r = 0
  · subst h0
    go_wp2_with fail
    refine (next_any p a n c xs _ 5 _ hs (by omega) (by omega) (by omega)).mono ?_
    rintro e w2 ⟨q, rfl, hq0, hq1, ho2, hs2⟩
    have W2 := W1.trans ho2.wrote
    obtain ⟨z0, z1, z2, z3, ff, hlt⟩ := zkept W2 hp
    have WW := hide W2
    have S2 := hide hs2
    clear W1 W2 ho2 hs hs2
    go_wp2_with fail
    refine bodyPost_ret (v := .agg #[.int .i64 1, .int .i64 (q - 2), .float .f64 0, .string ByteArray.empty]) (by simp [results, Try.results74, go_sem, z0, z1, z2, z3] <;> rfl) rfl ⟨⟨1, (q - 2), 0, ByteArray.empty⟩, rfl, ok_int _, ⟨by show _ ≤ q - 2; omega, by show q - 2 < _; omega, by show 0 < _; omega⟩, wrote_sets (Wrote.alloc w p _) (unhide WW) (Nat.le_refl _) _ _ _ _, src_sets ((unhide S2).more (by omega)) hp (unhide HX) _ _ _ _⟩
  by_cases h1 : r = 1
  · subst h1
    go_wp2_with fail
    refine (float_any p a n c xs _ _ hs (by omega)).mono ?_
    rintro e w2 ⟨f, rfl, hf, ho2, hs2⟩
    have W2 := W1.trans ho2
    obtain ⟨z0, z1, z2, z3, ff, hlt⟩ := zkept W2 hp
    have WW := hide W2
    have S2 := hide hs2
    clear W1 W2 ho2 hs hs2
    go_wp2_with fail
    refine bodyPost_ret (v := .agg #[.int .i64 2, .int .i64 0, .float .f64 f, .string ByteArray.empty]) (by simp [results, Try.results74, go_sem, z0, z1, z2, z3] <;> rfl) rfl ⟨⟨2, 0, f, ByteArray.empty⟩, rfl, ok_float _, ⟨by show _ ≤ (0 : Int); omega, by show (0 : Int) < _; omega, hf⟩, wrote_sets (Wrote.alloc w p _) (unhide WW) (Nat.le_refl _) _ _ _ _, src_sets ((unhide S2).more (by omega)) hp (unhide HX) _ _ _ _⟩
  · have q0 : (r == 0) = false := by simp [h0]
    have q1 : (r == 1) = false := by simp [h1]
    clear h0 h1
    go_wp2_with fail
    refine (text_any p a n c xs _ _ hs (by omega)).mono ?_
    rintro e w2 ⟨t, rfl, ht, ho2, hs2⟩
    have W2 := W1.trans ho2
    obtain ⟨z0, z1, z2, z3, ff, hlt⟩ := zkept W2 hp
    have WW := hide W2
    have S2 := hide hs2
    clear W1 W2 ho2 hs hs2
    go_wp2_with fail
    refine bodyPost_ret (v := .agg #[.int .i64 3, .int .i64 0, .float .f64 0, .string t]) (by simp [results, Try.results74, go_sem, z0, z1, z2, z3] <;> rfl) rfl ⟨⟨3, 0, 0, t⟩, rfl, ok_text ht, ⟨by show _ ≤ (0 : Int); omega, by show (0 : Int) < _; omega, by show 0 < _; omega⟩, wrote_sets (Wrote.alloc w p _) (unhide WW) (Nat.le_refl _) _ _ _ _, src_sets ((unhide S2).more (by omega)) hp (unhide HX) _ _ _ _⟩

theorem powns_lit {w : World} {B : Nat} (h : B ≤ w.heap.size) : POwns (w.alloc (.cells #[] 47)) B (.slice (some ⟨w.heap.size, 0, none⟩) 0 0) [] :=
  World.ownsRow_lit _ _ _ h (by unfold maxLen; simp) rfl
theorem powns_mono {w : World} {B C : Nat} {v : Value} {ps : List PartD} (h : POwns w B v ps) (hc : C ≤ B) : POwns w C v ps := by
  obtain ⟨h0, h⟩ := h
  refine ⟨h0, ?_⟩
  rcases h with h | ⟨g, cap, cur, h1, h2, h3⟩
  · exact .inl h
  · exact .inr ⟨g, cap, cur, h1, Nat.le_trans hc h2, h3⟩
/-- Drawn parts: a slice that the call owns, not nil. -/
structure Drawn (w : World) (B : Nat) (v : Value) (ps : List PartD) : Prop where
  own : POwns w B v ps
  some : v ≠ .slice none 0 0
  ok : ps.all okD = true
  fits : ∀ d ∈ ps, Fits d
theorem powns_wrote {w w' : World} {B p : Nat} {v : Value} {ps : List PartD} (h : POwns w B v ps) (hw : Wrote p w w') (hp : p < B) : POwns w' B v ps :=
  World.ownsRow.kept (row := some p) h ⟨hw.os, hw.tape, hw.output, hw.size, fun i hi hne => hw.block i (fun e => hne (by rw [e])) hi⟩ (.inr fun e => by have := (h.lt _ e).1; omega)
theorem src_grown {w w' : World} {p : Nat} {a : Option Addr} {n c : Nat} {xs : List Int} {K : Int} {row : Option Nat} (h : Src w p a n c xs K) (hg : w.grownBy w' row) (hr : ∀ k, row = some k → p < k) (ha : ∀ x, a = some x → 0 < n → x.block < p) : Src w' p a n c xs K := by
  have hp := cell_lt h.code
  have hk : ∀ k, k ≤ p → w'.heap[k]? = w.heap[k]? := fun k hk => hg.block k (Nat.lt_of_le_of_lt hk hp) (fun e => by have := hr k e.symm; omega)
  exact h.of_blocks (hk p (Nat.le_refl _)) (fun x hx hn => hk _ (Nat.le_of_lt (ha x hx hn)))
theorem wrote_grown {p : Nat} {w w1 w2 : World} {row : Option Nat} (h : Wrote p w w1) (hg : w1.grownBy w2 row) (hr : ∀ k, row = some k → w.heap.size ≤ k) : Wrote p w w2 :=
  ⟨hg.os.trans h.os, hg.tape.trans h.tape, hg.output.trans h.output, Nat.le_trans h.size hg.size, fun k hk hl => (hg.block k (Nat.lt_of_lt_of_le hl h.size) (fun e => by have := hr k e.symm; omega)).trans (h.block k hk hl)⟩
theorem wrote_of_alloc {p : Nat} {w w1 : World} {o : Obj} (h : Wrote p w w1) : Wrote p w (w1.alloc o) := h.trans (Wrote.alloc w1 p o)

set_option maxHeartbeats 1000000 in
theorem parts_any (p : Nat) (a : Option Addr) (n c : Nat) (xs : List Int) (w : World) (h : Src w p a n c xs 0) (ha : ∀ x, a = some x → 0 < n → x.block < p) (hpp : w.heap.size = p + 1) :
    Calls Try.prog 47 #[.pointer (some ⟨p, 0, none⟩)] w fun e w' => ∃ v ps, e = .returned v ∧ Drawn w' (p + 1) v ps ∧ ps.length ≤ 3 ∧ Wrote p w w' := by
  obtain ⟨i0, hi, hz0, hz1, hz2⟩ := info_parts Try.infoPart
  have HA := hide ha
  have H := hide (fun o => h.alloc o)
  clear h ha
  go_enter Try.func47, Try.ntmps47
  go_wp2_with fail
  refine (next_any p a n c xs 0 4 _ (unhide H _) (by omega) (by omega) (by omega)).mono ?_
  rintro e w1 ⟨r, rfl, hr0, hr1, ho, hs⟩
  go_wp2_with fail
  obtain ⟨j0, rfl⟩ := Int.eq_ofNat_of_zero_le hr0
  have W1 : Wrote p w w1 := (Wrote.alloc w p _).trans ho.wrote
  have O1 : POwns w1 (p + 1) (.slice (some ⟨p + 1, 0, none⟩) 0 0) [] := by
    have := powns_wrote (p := p) (powns_lit (w := w) (B := p + 1) (by omega)) ho.wrote (by omega)
    rw [hpp] at this
    exact this
  clear ho H
  go_loopw [3, 4] (fun v i wr => ∃ (j : Nat) (ps : List PartD), j ≤ 3 ∧ ps.length + j ≤ 3 ∧ i = .int .i64 j ∧ Drawn wr (p + 1) v ps ∧ Wrote p w wr ∧ Src wr p a n c xs (39 - 12 * j)) (fun _ i _ => (intOf i).toNat)
  case atStart => exact ⟨j0, [], by omega, by simp; omega, rfl, ⟨O1, by simp, rfl, fun d hd => absurd hd (by simp)⟩, W1, hs.more (by omega)⟩
  case round =>
    clear O1 W1 hs hr0 hr1
    obtain ⟨j, ps, hj, hjl, rfl, ⟨ho, hnn, hok, hfi⟩, hw, hs⟩ := hrel
    by_cases hp : 0 < j
    · have OK := hide hok
      have FI := hide hfi
      have NN := hide hnn
      have O := hide ho
      clear hok hfi hnn ho
      go_wp2_with fail
      refine (part_any p a n c xs _ _ hs (by omega)).mono ?_
      rintro e w2 ⟨d, rfl, hd, hfd, hw2, hs2⟩
      have O2 := powns_wrote (unhide O) hw2 (by omega)
      have W2 := hw.trans hw2
      have z2 := W2.size
      have OK2 := hide (show (ps ++ [d]).all okD = true by rw [List.all_append, unhide OK]; simp [hd])
      have FI2 := hide (show ∀ x ∈ ps ++ [d], Fits x from fun x hx => by
        rcases List.mem_append.1 hx with h | h
        · exact unhide FI x h
        · obtain rfl : x = d := by simpa using h
          exact hfd)
      have S2 := hide (fun o => hs2.alloc o)
      clear hs hs2 hw hw2 hd hfd OK FI O
      go_wp2_with (at_builtin; refine wpList_append_own _ rfl _ _ 40 rfl (p + 1) 47 i0 (.agg #[.int .i64 0, .int .i64 0, .float .f64 0, .string ByteArray.empty]) 4 40 Try.underlying40 hi hz0 hz1 hz2 rfl (by decide) _ _ _ rfl (O2.alloc _) ⟨w2.heap.size, 0, none⟩ 1 1 (cells4 d) rfl rfl cells_new (part_cells d) (by unfold maxLen; omega) (by omega) (by simp; omega) ?_)
      intro v3 w3 hown3 hgrow3 hnil
      have O3 := hide (powns_app (ps := ps) (d := d) hown3)
      have NN3 := hide (show v3 ≠ .slice none 0 0 from hnil)
      have W3 := hide (wrote_grown (wrote_of_alloc W2) hgrow3 (fun k hk => by have := (O2.lt k hk).1; omega))
      have S3 := hide (src_grown (unhide S2 _) hgrow3 (fun k hk => by have := (O2.lt k hk).1; omega) (unhide HA))
      clear O2 hown3 hgrow3 hnil W2 S2 NN
      go_wp2_with fail
      go_roundw
      case rel => exact ⟨j - 1, ps ++ [d], by omega, by simp; omega, by go_num, ⟨unhide O3, unhide NN3, unhide OK2, unhide FI2⟩, unhide W3, (unhide S3).more (by omega)⟩
      case measure => simp [intOf]; omega
    · obtain rfl : j = 0 := by omega
      have O := hide ho
      clear ho
      go_wp2_with fail
      go_ret
      exact ⟨_, ps, rfl, ⟨unhide O, hnn, hok, hfi⟩, by omega, hw⟩
set_option maxHeartbeats 1000000 in
theorem partsOf_any (a : Option Addr) (n c : Nat) (xs : List Int) (w : World) (hr : Row w a n xs) (hby : ∀ i, i < n → 0 ≤ xs.getD i 0 ∧ xs.getD i 0 ≤ 255) (hn : n ≤ 1048576) :
    Calls Try.prog 20 #[.slice a n c] w fun e w' => ∃ v ps, e = .returned v ∧ Drawn w' w.heap.size v ps ∧ ps.length ≤ 3 ∧ Below w.heap.size w w' := by
  have R := hide hr
  have BY := hide hby
  have HX := hide (show ∀ x, a = some x → 0 < n → x.block < w.heap.size from fun x hx hp => by
    obtain ⟨b, off, e, hc⟩ := hr.2 0 hp
    rw [hx] at e
    cases e
    exact cell_lt hc)
  clear hr hby
  go_enter Try.func20, Try.ntmps20
  go_wp2_with fail
  refine (source_any a n c xs w (unhide R) (unhide BY) hn).mono ?_
  rintro e w1 ⟨rfl, hs1, hb1, hz1⟩
  go_wp2_with fail
  refine (parts_any w.heap.size a n c xs w1 hs1 (unhide HX) hz1).mono ?_
  rintro e w2 ⟨v, ps, rfl, ⟨h1, h2, h3, h4⟩, hl, hw⟩
  have bA := hb1.trans (hw.below (Nat.le_refl _) hb1.size)
  have O := hide (powns_mono h1 (show w.heap.size ≤ w.heap.size + 1 by omega))
  clear hb1 hs1 hw h1
  go_wp2_with fail
  go_ret
  exact ⟨_, ps, rfl, ⟨unhide O, h2, h3, h4⟩, hl, bA⟩
end Go.Proofs.Ytgifcaeemfaihaa
