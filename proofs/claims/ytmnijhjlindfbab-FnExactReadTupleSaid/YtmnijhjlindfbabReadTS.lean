/-
  The walk of ReadTuple, the specification's.
-/
import Derived.Test.YtmnijhjlindfbabReadTL
import Derived.Test.YtmnijhjlindfbabBitsS
import Derived.Test.YtmnijhjlindfbabReadL
namespace Go.Proofs.Ytmnijhjlindfbab
open Go.RowKit
attribute [local go_sem] run_store_float

theorem oct_row {w : World} {b off n k : Nat} {xs : List Int} (hr : Row w (some ⟨b, off, none⟩) n xs) (hk : k + 8 ≤ n) : Row w (some ⟨b, off + k, none⟩) 8 (oct xs k) := by
  refine ⟨rfl, fun i hi => ⟨b, off + k, rfl, ?_⟩⟩
  have hh : i < 8 := hi
  obtain ⟨b', off', e, h⟩ := hr.2 (k + i) (by omega)
  cases e
  rw [Nat.add_assoc, h]
  have : (oct xs k).getD i 0 = xs.getD (k + i) 0 := by
    match i, hh with
    | 0, _ => rfl
    | 1, _ => rfl
    | 2, _ => rfl
    | 3, _ => rfl
    | 4, _ => rfl
    | 5, _ => rfl
    | 6, _ => rfl
    | 7, _ => rfl
  rw [this]
theorem powns_empty {w : World} {B : Nat} (h : B ≤ w.heap.size) : POwns (w.alloc (.cells #[] 47)) B (.slice (some ⟨w.heap.size, 0, none⟩) 0 0) [] :=
  World.ownsRow_lit _ _ _ h (by unfold maxLen; simp) rfl

theorem powns_empty1 {w : World} {B : Nat} {o : Obj} (h : B ≤ w.heap.size) : POwns ((w.alloc o).alloc (.cells #[] 47)) B (.slice (some ⟨w.heap.size + 1, 0, none⟩) 0 0) [] := by
  have e : (w.alloc o).heap.size = w.heap.size + 1 := by simp
  rw [← e]; exact powns_empty (by omega)
theorem powns_emptyS {w : World} {B : Nat} {p : Addr} {v : Value} (h : B ≤ w.heap.size) : POwns ((w.setCell p v).alloc (.cells #[] 47)) B (.slice (some ⟨w.heap.size, 0, none⟩) 0 0) [] := by
  have e : (w.setCell p v).heap.size = w.heap.size := by simp
  rw [← e]; exact powns_empty (by omega)
theorem cells_newS {w : World} {p : Addr} {v : Value} {vs : List Value} {t : TypeId} : ∀ j u, vs[j]? = some u → ((w.setCell p v).alloc (.cells vs.toArray t)).cell? ((⟨w.heap.size, 0, none⟩ : Addr).add j) = some u := by
  have e : (w.setCell p v).heap.size = w.heap.size := by simp
  rw [← e]; exact cells_new
theorem text_kept {w w' : World} (hb : Below (w.alloc (.cells #[.int .i64 3, .int .i64 0, .float .f64 0, .string ByteArray.empty] 47)).heap.size (w.alloc (.cells #[.int .i64 3, .int .i64 0, .float .f64 0, .string ByteArray.empty] 47)) w') : w'.cell? ⟨w.heap.size, 0, none⟩ = some (.int .i64 3) ∧ w'.cell? ⟨w.heap.size, 1, none⟩ = some (.int .i64 0) ∧ w'.cell? ⟨w.heap.size, 2, none⟩ = some (.float .f64 0) ∧ w'.cell? ⟨w.heap.size, 3, none⟩ = some (.string ByteArray.empty) ∧
    (∀ o, w'.frozen? ⟨w.heap.size, o, none⟩ = false) ∧ Below w.heap.size w w' := by
  refine ⟨?_, ?_, ?_, ?_, fun o => ?_, ((Below.refl _ _).alloc (Nat.le_refl _) _).trans (hb.mono (by simp))⟩
  · exact (hb.cell (p := ⟨w.heap.size, 0, none⟩) (by simp)).trans (by simp)
  · exact (hb.cell (p := ⟨w.heap.size, 1, none⟩) (by simp)).trans (by simp)
  · exact (hb.cell (p := ⟨w.heap.size, 2, none⟩) (by simp)).trans (by simp)
  · exact (hb.cell (p := ⟨w.heap.size, 3, none⟩) (by simp)).trans (by simp)
  · exact (hb.frozen (p := ⟨w.heap.size, o, none⟩) (by simp)).trans (by simp)
theorem powns_set {w : World} {B g o : Nat} {v : Value} {ps : List PartD} (h : POwns w B v ps) (x : Value) (hg : v.ownBlock ≠ some g) : POwns (w.setCell ⟨g, o, none⟩ x) B v ps :=
  World.ownsRow.kept (row := some g) h ⟨rfl, rfl, rfl, by simp, fun i _ hne => Below.heap_setCell _ _ _ _ (by intro e; exact hne (by rw [e]))⟩ (.inr hg)
set_option maxRecDepth 100000 in
set_option maxHeartbeats 2000000 in
theorem specReadTuple_any (a : Option Addr) (n c : Nat) (xs : List Int) (w : World) (hn : n ≤ 1048576) (hnc : n ≤ c) (hc : c ≤ maxLen) (hr : Row w a n xs) (hby : ∀ i, i < n → 0 ≤ xs.getD i 0 ∧ xs.getD i 0 ≤ 255) :
    Calls Try.prog 15 #[.slice a n c] w fun e w' => ∃ v, e = .returned (.tuple #[v, .int .i64 (rtA xs).2]) ∧ POwns w' w.heap.size v (rtA xs).1 ∧ Below w.heap.size w w' := by
  obtain ⟨i0, hi, hz0, hz1, hz2⟩ := info_parts Try.infoPart
  unfold maxLen at hc
  have L := hide hr.1
  have H := hide hr
  have BY := hide hby
  clear hr hby
  by_cases hl : 65536 < n
  · have E := hide (show rtA xs = ([], 2) by unfold rtA; rw [if_pos (by rw [unhide L]; exact hl)])
    go_enter Try.func15, Try.ntmps15
    go_wp2_with fail
    go_ret2
    exact ⟨_, by rw [unhide E]; rfl, by rw [unhide E]; exact powns_empty (Nat.le_refl _), (Below.refl _ _).alloc (Nat.le_refl _) _⟩
  have E := hide (show rtA xs = rdT n xs 0 [] by unfold rtA; rw [if_neg (by rw [unhide L]; exact hl), unhide L])
  go_enter Try.func15, Try.ntmps15
  go_wp2_with fail
  go_loopw [4, 5] (fun v i wr => ∃ (k : Nat) (acc : List PartD) (f : Nat), k ≤ n ∧ i = .int .i64 k ∧ acc.length ≤ 6 ∧ POwns wr w.heap.size v acc ∧ Below w.heap.size w wr ∧ Hid (n - k ≤ f) ∧ Hid (rdT n xs 0 [] = rdT f xs k acc)) (fun _ i _ => n - (intOf i).toNat)
  case atStart => exact ⟨0, [], n, by omega, rfl, by simp, powns_empty (Nat.le_refl _), (Below.refl _ _).alloc (Nat.le_refl _) _, by show n - 0 ≤ n; omega, rfl⟩
  case round =>
    obtain ⟨k, acc, f, hk, rfl, h6, ho, hb, hf, he⟩ := hrel
    by_cases hlt : k < n
    · have hkx : k < xs.length := by rw [unhide L]; exact hlt
      have hfx : xs.length - k ≤ f := by rw [unhide L]; exact unhide hf
      obtain ⟨b, off, rfl, e1⟩ := (unhide H).2 k hlt
      have hbl : b < w.heap.size := cell_lt e1
      have R := hide ((unhide H).below hb (fun x hx => by cases hx; exact hbl))
      have hsz := hb.size
      have EN := hide (fun h => (unhide he).trans (rdT_none (acc := acc) hkx hfx h))
      have EF := hide (fun d q (h : rdP xs k = some (d, q)) (h6 : acc.length = 6) => (unhide he).trans (rdT_full hkx hfx h h6))
      have ES := hide (fun d q (h : rdP xs k = some (d, q)) (h6 : ¬ acc.length = 6) => rdT_step hkx hfx h h6)
      have PL := hide (fun d q (h : rdP xs k = some (d, q)) => rdP_place hkx h)
      have c1 := (hb.cell (p := ⟨b, off + k, none⟩) hbl).trans e1
      have O2 := ho
      have hy := unhide BY k hlt
      clear e1 hfx hkx ho
      by_cases h1 : xs.getD k 0 = 1
      · rw [h1] at c1
        by_cases h9 : k + 9 ≤ n
        · have hrp : rdP xs k = some (⟨1, unr (num (oct xs (k + 1))), 0, ByteArray.empty⟩, k + 9) := by unfold rdP; rw [if_pos h1, if_pos (by rw [unhide L]; exact h9)]
          have KI := hide (fun o cc => specKeyInt_any (some ⟨b, off + (k + 1), none⟩) cc (oct xs (k + 1)) (wr.alloc o) (oct_row (row_alloc (o := o) (unhide R)) (by omega)) (oct_bytes (unhide BY) (show k + 1 + 8 ≤ n by omega)))
          clear h1 hy
          generalize unr (num (oct xs (k + 1))) = nn at *
          by_cases hfull : acc.length = 6
          · have E2 := hide ((unhide E).trans (unhide EF _ _ hrp hfull))
            have hv := powns_val O2
            rw [hfull] at hv
            obtain ⟨a1, c1', rfl⟩ := hv
            clear hrp O2 hfull EN EF ES PL
            go_wp2_with fail
            refine (unhide KI _ _).mono ?_
            rintro e w3 ⟨rfl, rfl⟩
            go_wp2_with fail
            go_ret2
            exact ⟨_, by rw [unhide E2]; rfl, by rw [unhide E2]; exact powns_empty1 (by omega), (hb.alloc hsz _).alloc (by simp; omega) _⟩
          · obtain ⟨f2, hf2, he2⟩ := unhide ES _ _ hrp hfull
            have HF := hide (show n - (k + 9) ≤ f2 by rw [unhide L] at hf2; exact hf2)
            have HE := hide ((unhide he).trans he2)
            have hq6 : ((acc.length : Int) == 6) = false := by simp; omega
            obtain ⟨a1, c1', rfl⟩ := powns_val O2
            clear hrp EN EF ES PL hf2 he2
            go_wp2_with fail
            refine (unhide KI _ _).mono ?_
            rintro e w3 ⟨rfl, rfl⟩
            go_wp2_with (at_builtin; refine wpList_append_own _ rfl _ _ 27 rfl w.heap.size 47 i0 (.agg #[.int .i64 0, .int .i64 0, .float .f64 0, .string ByteArray.empty]) 4 40 Try.underlying27 hi hz0 hz1 hz2 rfl (by decide) _ _ _ rfl ((O2.alloc _).alloc _) ⟨wr.heap.size + 1, 0, none⟩ 1 1 (cells4 ⟨1, nn, 0, ByteArray.empty⟩) rfl rfl cells_new1 (part_cells _) (by unfold maxLen; omega) (by omega) (by simp; omega) ?_)
            intro v3 w4 hown3 hgrow3 _
            have O3 := hide (powns_app (ps := acc) (d := ⟨1, nn, 0, ByteArray.empty⟩) hown3)
            have B3 := hide (below_appP hb hsz O2 hgrow3)
            clear O2 hown3 hgrow3 hb hsz
            go_wp2_with fail
            go_roundw
            case rel => exact ⟨k + 9, acc ++ [(⟨1, nn, 0, ByteArray.empty⟩ : PartD)], f2, by omega, by go_num, by simp; omega, unhide O3, unhide B3, unhide HF, unhide HE⟩
            case measure => simp [intOf]; omega
        · have hrp : rdP xs k = none := by unfold rdP; rw [if_pos h1, if_neg (by rw [unhide L]; exact h9)]
          have E2 := hide ((unhide E).trans (unhide EN hrp))
          clear hrp O2 EN EF ES PL h1 hy
          go_wp2_with fail
          go_ret2
          exact ⟨_, by rw [unhide E2]; rfl, by rw [unhide E2]; exact powns_empty1 (by omega), (hb.alloc hsz _).alloc (by simp; omega) _⟩
      by_cases h2 : xs.getD k 0 = 2
      · rw [h2] at c1
        by_cases h9 : k + 9 ≤ n
        · have hrp : rdP xs k = some (⟨2, 0, unf (num (oct xs (k + 1))), ByteArray.empty⟩, k + 9) := by unfold rdP; rw [if_neg h1, if_pos h2, if_pos (by rw [unhide L]; exact h9)]
          have KI := hide (fun o cc => l01Float_any (some ⟨b, off + (k + 1), none⟩) cc (oct xs (k + 1)) (wr.alloc o) (oct_row (row_alloc (o := o) (unhide R)) (by omega)) (oct_bytes (unhide BY) (show k + 1 + 8 ≤ n by omega)))
          clear h1 h2 hy
          generalize unf (num (oct xs (k + 1))) = nn at *
          by_cases hfull : acc.length = 6
          · have E2 := hide ((unhide E).trans (unhide EF _ _ hrp hfull))
            have hv := powns_val O2
            rw [hfull] at hv
            obtain ⟨a1, c1', rfl⟩ := hv
            clear hrp O2 hfull EN EF ES PL
            go_wp2_with fail
            refine (unhide KI _ _).mono ?_
            rintro e w3 ⟨rfl, rfl⟩
            go_wp2_with fail
            go_ret2
            exact ⟨_, by rw [unhide E2]; rfl, by rw [unhide E2]; exact powns_empty1 (by omega), (hb.alloc hsz _).alloc (by simp; omega) _⟩
          · obtain ⟨f2, hf2, he2⟩ := unhide ES _ _ hrp hfull
            have HF := hide (show n - (k + 9) ≤ f2 by rw [unhide L] at hf2; exact hf2)
            have HE := hide ((unhide he).trans he2)
            have hq6 : ((acc.length : Int) == 6) = false := by simp; omega
            obtain ⟨a1, c1', rfl⟩ := powns_val O2
            clear hrp EN EF ES PL hf2 he2
            go_wp2_with fail
            refine (unhide KI _ _).mono ?_
            rintro e w3 ⟨rfl, rfl⟩
            go_wp2_with (at_builtin; refine wpList_append_own _ rfl _ _ 27 rfl w.heap.size 47 i0 (.agg #[.int .i64 0, .int .i64 0, .float .f64 0, .string ByteArray.empty]) 4 40 Try.underlying27 hi hz0 hz1 hz2 rfl (by decide) _ _ _ rfl ((O2.alloc _).alloc _) ⟨wr.heap.size + 1, 0, none⟩ 1 1 (cells4 ⟨2, 0, nn, ByteArray.empty⟩) rfl rfl cells_new1 (part_cells _) (by unfold maxLen; omega) (by omega) (by simp; omega) ?_)
            intro v3 w4 hown3 hgrow3 _
            have O3 := hide (powns_app (ps := acc) (d := ⟨2, 0, nn, ByteArray.empty⟩) hown3)
            have B3 := hide (below_appP hb hsz O2 hgrow3)
            clear O2 hown3 hgrow3 hb hsz
            go_wp2_with fail
            go_roundw
            case rel => exact ⟨k + 9, acc ++ [(⟨2, 0, nn, ByteArray.empty⟩ : PartD)], f2, by omega, by go_num, by simp; omega, unhide O3, unhide B3, unhide HF, unhide HE⟩
            case measure => simp [intOf]; omega
        · have hrp : rdP xs k = none := by unfold rdP; rw [if_neg h1, if_pos h2, if_neg (by rw [unhide L]; exact h9)]
          have E2 := hide ((unhide E).trans (unhide EN hrp))
          clear hrp O2 EN EF ES PL h1 h2 hy
          go_wp2_with fail
          go_ret2
          exact ⟨_, by rw [unhide E2]; rfl, by rw [unhide E2]; exact powns_empty1 (by omega), (hb.alloc hsz _).alloc (by simp; omega) _⟩
      by_cases h3 : xs.getD k 0 = 3
      · rw [h3] at c1
        have hrd : rdP xs k = (short (rd (xs.drop (k + 1)) [] (k + 1))).map fun x => (⟨3, 0, 0, strOfNums x.1⟩, x.2) := by unfold rdP; rw [if_neg h1, if_neg h2, if_pos h3]
        have HRD := hide hrd
        have LR := hide (fun o => l01Read_any (some ⟨b, off, none⟩) n c (k + 1) xs (wr.alloc o) hn (row_alloc (o := o) (unhide R)) (by omega))
        rw [show ((k + 1 : Nat) : Int) = (k : Int) + 1 by omega] at LR
        clear h1 h2 h3 hy hrd
        obtain ⟨a1, c1', rfl⟩ := powns_val O2
        have O := hide O2
        have FAR := hide (show (Value.slice a1 acc.length c1').ownBlock ≠ some wr.heap.size from fun e => absurd (O2.lt _ e).2 (Nat.lt_irrefl _))
        clear O2
        go_wp2_with fail
        refine (unhide LR _).mono ?_
        rintro e w2 ⟨rfl, hb2⟩
        clear LR
        obtain ⟨z0, z1, z2, z3, ff, bB⟩ := text_kept hb2
        have hs2 := hb2.size
        simp at hs2
        have bA : Below w.heap.size w w2 := hb.trans (bB.mono hsz)
        have O2 := powns_below (unhide O) bB
        clear hb2 hb bB O
        cases hs : rd (xs.drop (k + 1)) [] (k + 1) with
        | none =>
          have hrp : rdP xs k = none := by rw [unhide HRD, hs]; rfl
          have E2 := hide ((unhide E).trans (unhide EN hrp))
          clear hs hrp EN EF ES PL O2
          simp only [rdV]
          go_wp2_with fail
          go_ret2
          exact ⟨_, by rw [unhide E2]; rfl, by rw [unhide E2]; exact powns_empty (by omega), bA.alloc (by omega) _⟩
        | some x =>
          obtain ⟨o, q⟩ := x
          simp only [rdV]
          by_cases hol : o.length ≤ 100
          · have hrp : rdP xs k = some (⟨3, 0, 0, strOfNums o⟩, q) := by rw [unhide HRD, hs, short_some hol]; rfl
            have hq := unhide PL _ q hrp
            rw [unhide L] at hq
            obtain ⟨hq1, hq2⟩ := hq
            rw [show decide (o.length ≤ 100) = true by simpa using hol]
            generalize strOfNums o = tx at *
            clear hs hol
            by_cases hfull : acc.length = 6
            · have E2 := hide ((unhide E).trans (unhide EF _ _ hrp hfull))
              rw [hfull]
              clear hrp O2 hfull EN EF ES PL
              go_wp2_with fail
              go_ret2
              exact ⟨_, by rw [unhide E2]; rfl, by rw [unhide E2]; exact powns_emptyS (by omega), ((bA.setCell (p := ⟨wr.heap.size, 3, none⟩) hsz (.string tx)).alloc (by simp; omega) _)⟩
            · obtain ⟨f2, hf2, he2⟩ := unhide ES _ _ hrp hfull
              have HF := hide (show n - q ≤ f2 by rw [unhide L] at hf2; exact hf2)
              have HE := hide ((unhide he).trans he2)
              have hq6 : ((acc.length : Int) == 6) = false := by simp; omega
              have OZ := powns_set O2 (o := 3) (.string tx) (unhide FAR)
              have BZ := bA.setCell (p := ⟨wr.heap.size, 3, none⟩) hsz (.string tx)
              clear hrp EN EF ES PL hf2 he2 O2 bA
              go_wp2_with (at_builtin; refine wpList_append_own _ rfl _ _ 27 rfl w.heap.size 47 i0 (.agg #[.int .i64 0, .int .i64 0, .float .f64 0, .string ByteArray.empty]) 4 40 Try.underlying27 hi hz0 hz1 hz2 rfl (by decide) _ _ _ rfl (OZ.alloc _) ⟨w2.heap.size, 0, none⟩ 1 1 (cells4 ⟨3, 0, 0, tx⟩) rfl rfl cells_newS (part_cells _) (by unfold maxLen; omega) (by omega) (by simp; omega) ?_)
              intro v3 w4 hown3 hgrow3 _
              have O3 := hide (powns_app (ps := acc) (d := ⟨3, 0, 0, tx⟩) hown3)
              have B3 := hide ((BZ.alloc (by simp; omega) _).grown hgrow3 (by simp; omega) (fun k hk => (OZ.lt k hk).1))
              clear OZ BZ hown3 hgrow3
              go_wp2_with fail
              go_roundw
              case rel => exact ⟨q, acc ++ [(⟨3, 0, 0, tx⟩ : PartD)], f2, by omega, rfl, by simp; omega, unhide O3, unhide B3, unhide HF, unhide HE⟩
              case measure => simp [intOf]; omega
          · have hrp : rdP xs k = none := by rw [unhide HRD, hs, short_long (by omega)]; rfl
            have E2 := hide ((unhide E).trans (unhide EN hrp))
            rw [show decide (o.length ≤ 100) = false by simpa using hol]
            clear hs hrp EN EF ES PL O2 hol
            go_wp2_with fail
            go_ret2
            exact ⟨_, by rw [unhide E2]; rfl, by rw [unhide E2]; exact powns_empty (by omega), bA.alloc (by omega) _⟩
      · have hrp : rdP xs k = none := by unfold rdP; rw [if_neg h1, if_neg h2, if_neg h3]
        have E2 := hide ((unhide E).trans (unhide EN hrp))
        have q1 : (xs.getD k 0 == 1) = false := by simpa using h1
        have q2 : (xs.getD k 0 == 2) = false := by simpa using h2
        have q3 : (xs.getD k 0 == 3) = false := by simpa using h3
        clear hrp O2 EN EF ES PL h1 h2 h3
        generalize xs.getD k 0 = y at *
        go_wp2_with fail
        go_ret2
        exact ⟨_, by rw [unhide E2]; rfl, by rw [unhide E2]; exact powns_empty1 (by omega), (hb.alloc hsz _).alloc (by simp; omega) _⟩
    · have E2 := hide ((unhide E).trans ((unhide he).trans (rdT_end (by rw [unhide L]; omega))))
      have O := hide ho
      clear ho
      go_wp2_with fail
      go_ret2
      exact ⟨_, by rw [unhide E2]; rfl, by rw [unhide E2]; exact unhide O, hb⟩
end Go.Proofs.Ytmnijhjlindfbab
