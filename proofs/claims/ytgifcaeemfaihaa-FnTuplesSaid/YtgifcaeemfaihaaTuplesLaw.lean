/-
  The walk of FnTuples.
-/
import Derived.Test.YtgifcaeemfaihaaPartsD
import Derived.Test.YtgifcaeemfaihaaTupBack
import Derived.Test.YtgifcaeemfaihaaTupI
import Derived.Test.YtgifcaeemfaihaaReadTI
import Derived.Test.YtgifcaeemfaihaaAt
import Derived.Test.YtgifcaeemfaihaaSame
import Derived.Deep.RegionWith
set_option maxRecDepth 100000
namespace Go.Proofs.Ytgifcaeemfaihaa
open Go.RowKit
attribute [local go_sem] run_store_float

theorem str_inj : ∀ (x y : List Int), (∀ b ∈ x, 0 ≤ b ∧ b ≤ 255) → (∀ b ∈ y, 0 ≤ b ∧ b ≤ 255) → x.map (fun n : Int => UInt8.ofNat n.toNat) = y.map (fun n : Int => UInt8.ofNat n.toNat) → x = y
  | [], [], _, _, _ => rfl
  | [], _ :: _, _, _, h => by simp at h
  | _ :: _, [], _, _, h => by simp at h
  | a :: x, b :: y, hx, hy, h => by
    simp only [List.map_cons, List.cons.injEq] at h
    have ih := str_inj x y (fun z hz => hx z (by simp [hz])) (fun z hz => hy z (by simp [hz])) h.2
    have ha := hx a (by simp)
    have hb := hy b (by simp)
    have e := congrArg UInt8.toNat h.1
    simp only [UInt8.toNat_ofNat'] at e
    rw [ih, show a = b by omega]
theorem less_tkey {p q : List PartD} (hp : p.all okD = true) (hq : q.all okD = true) (fp : ∀ d ∈ p, Fits d) (fq : ∀ d ∈ q, Fits d) : Op.bytesLess (strOfNums (tkey p)).toList (strOfNums (tkey q)).toList = decide (cmpsD p q < 0) := by
  rw [less_strs _ _ (tkey_bytes hp) (tkey_bytes hq)]
  exact (tkey_order p q fp fq).1
theorem same_tkey {p q : List PartD} (hp : p.all okD = true) (hq : q.all okD = true) (fp : ∀ d ∈ p, Fits d) (fq : ∀ d ∈ q, Fits d) : ((strOfNums (tkey p)).toList == (strOfNums (tkey q)).toList) = decide (cmpsD p q = 0) := by
  rw [Bool.eq_iff_iff]
  simp only [beq_iff_eq, decide_eq_true_eq]
  rw [← (tkey_order p q fp fq).2]
  constructor
  · intro h
    rw [ByteArray.toList_eq, ByteArray.toList_eq, strOfNums_data, strOfNums_data] at h
    exact str_inj _ _ (tkey_bytes hp) (tkey_bytes hq) h
  · intro h; rw [h]
/-- Drawn parts as they lie in memory. -/
theorem drawn_row {w : World} {B : Nat} {v : Value} {ps : List PartD} (h : Drawn w B v ps) : ∃ g cap, v = .slice (some ⟨g, 0, none⟩) ps.length cap ∧ ps.length ≤ cap ∧ cap ≤ maxLen ∧ B ≤ g ∧ g < w.heap.size ∧ PRow w (some ⟨g, 0, none⟩) ps.length ps ∧ ∀ j u, (ps.flatMap cells4)[j]? = some u → w.cell? ⟨g, j, none⟩ = some u := by
  have hh := h.own
  rcases h.own.2 with ⟨h1, _⟩ | ⟨g, cap, cur, h1, h2, h3, h4, h5, h6, h7⟩
  · exact absurd h1 h.some
  · rcases powns hh with ⟨h8, _⟩ | ⟨g', cap', h8, _, _, hrow⟩
    · exact absurd h8 h.some
    · rw [h1] at h8
      have e : g' = g := by injection h8 with e1; injection e1 with e2; injection e2 with e3; exact e3.symm
      subst e
      refine ⟨g', cap, h1, h4, h5, h2, (Array.getElem?_eq_some_iff.1 h3).1, hrow, fun j u hj => ?_⟩
      have hjl : j < ps.length * 4 := by
        have := (List.getElem?_eq_some_iff.1 hj).1
        rw [pcells_length] at this; exact this
      rw [h1] at hh
      rw [hh.cellAt j hjl]; exact hj
theorem cells_below {w w' : World} {B g : Nat} {vs : List Value} (h : ∀ j u, vs[j]? = some u → w.cell? ⟨g, j, none⟩ = some u) (hb : Below B w w') (hg : g < B) : ∀ j u, vs[j]? = some u → w'.cell? ⟨g, j, none⟩ = some u :=
  fun j u hj => (hb.cell (p := ⟨g, j, none⟩) hg).trans (h j u hj)
theorem cells_add {w : World} {g : Nat} {vs : List Value} (h : ∀ j u, vs[j]? = some u → w.cell? ⟨g, j, none⟩ = some u) : ∀ j u, vs[j]? = some u → w.cell? ((⟨g, 0, none⟩ : Addr).add j) = some u := fun j u hj => by
  have e : (⟨g, 0, none⟩ : Addr).add j = ⟨g, j, none⟩ := by unfold Addr.add; split <;> simp_all
  rw [e]; exact h j u hj

theorem cells_take {w : World} {g m : Nat} {ps : List PartD} (h : ∀ j u, (ps.flatMap cells4)[j]? = some u → w.cell? ⟨g, j, none⟩ = some u) : ∀ j u, ((ps.take m).flatMap cells4)[j]? = some u → w.cell? ⟨g, j, none⟩ = some u := fun j u hj => by
  refine h j u ?_
  have e : ps.flatMap cells4 = (ps.take m).flatMap cells4 ++ (ps.drop m).flatMap cells4 := by rw [← List.flatMap_append, List.take_append_drop]
  rw [e, List.getElem?_append_left (List.getElem?_eq_some_iff.1 hj).1]
  exact hj
theorem all_cells (ps : List PartD) : ∀ u ∈ ps.flatMap cells4, u.oneCell' = true := by
  intro u hu
  obtain ⟨d, _, hd⟩ := List.mem_flatMap.1 hu
  exact part_cells d u hd

theorem parts_small {ps : List PartD} (h : ps.all okD = true) (hf : ∀ d ∈ ps, Fits d) : ∀ i (hi : i < ps.length), ps[i].t.size ≤ maxLen ∧ ps[i].f < 18446744073709551616 := fun i hi => by
  rw [List.all_eq_true] at h
  have h1 := okD_text (h _ (List.getElem_mem hi))
  exact ⟨by unfold maxLen; omega, (hf _ (List.getElem_mem hi)).2.2⟩
theorem oks_of {ps : List PartD} (h : ps.all okD = true) (hl : ps.length ≤ 6) : oksD ps = true := by
  unfold oksD; rw [h]; simpa using hl
theorem bytes_at {xs : List Int} (h : ∀ b ∈ xs, 0 ≤ b ∧ b ≤ 255) : ∀ i, i < xs.length → 0 ≤ xs.getD i 0 ∧ xs.getD i 0 ≤ 255 := fun i hi => by
  have e : xs.getD i 0 = xs[i] := by simp [List.getD, hi]
  rw [e]; exact h _ (List.getElem_mem hi)
theorem owns_drewN {w : World} {B k : Nat} {v : Value} {xs : List Int} (h : Owns w B v xs) : Owns (w.drewN k) B v xs := h
theorem conv_draws {w : World} {B : Nat} {v : Value} {xs : List Int} (h : Owns w B v xs) : ∀ k, (convert 22 9 v).run Try.prog (w.drewN k) = .ok (.string (strOfNums xs)) (w.drewN k) := fun _ => conv_owns (owns_drewN h)

theorem last_eq (od : Int) : (decide (od = 0) == (od == 0)) = true := by
  rw [show (od == 0) = decide (od = 0) from rfl]; simp

set_option maxRecDepth 100000 in
set_option maxHeartbeats 4000000 in
theorem lawTuples_any (a1 : Option Addr) (n1 c1 : Nat) (z1 : List Int) (a2 : Option Addr) (n2 c2 : Nat) (z2 : List Int) (w : World) (h1 : IsRow .u8 w a1 n1 c1 z1) (h2 : IsRow .u8 w a2 n2 c2 z2) :
    Calls Try.prog 5 #[.slice a1 n1 c1, .slice a2 n2 c2] w fun e w' => e = .returned (.bool true) ∧ Below w.heap.size w w' := by
  obtain ⟨hr1, hm1, hlt1⟩ := row_of_isRow h1
  obtain ⟨hr2, hm2, hlt2⟩ := row_of_isRow h2
  unfold maxLen at hm1 hm2
  by_cases hb1 : 1048576 < n1
  · clear hr1 hlt1 hr2 hlt2 h1 h2
    go_enter Try.func5, Try.ntmps5
    go_wp2_with fail
    go_ret
    exact ⟨rfl, Below.refl _ _⟩
  by_cases hb2 : 1048576 < n2
  · clear hr1 hlt1 hr2 hlt2 h1 h2
    go_enter Try.func5, Try.ntmps5
    go_wp2_with fail
    go_ret
    exact ⟨rfl, Below.refl _ _⟩
  have hs1 : n1 ≤ 1048576 := by omega
  have hs2 : n2 ≤ 1048576 := by omega
  clear hb1 hb2
  have by1 := hide (bytes_of_isRow h1)
  have by2 := hide (bytes_of_isRow h2)
  generalize z1.take n1 = xs1 at *
  generalize z2.take n2 = xs2 at *
  have B2 := hide (show ∀ w', Below w.heap.size w w' → Row w' a2 n2 xs2 from fun w' hb => by
    by_cases h : 0 < n2
    · exact hr2.below hb (fun x hx => hlt2 x hx h)
    · exact ⟨hr2.1, fun i hi => absurd hi (by omega)⟩)
  have R1 := hide hr1
  clear hr1 hr2 hlt1 hlt2 h1 h2
  obtain ⟨i0, hi, hz0, hz1, hz2⟩ := info_parts Try.infoPart
  go_enter Try.func5, Try.ntmps5
  go_wp2_with fail
  refine (partsOf_any a1 n1 c1 xs1 w (unhide R1) (unhide by1) hs1).mono ?_
  rintro e w1 ⟨v1, ps, rfl, hD1, hl1, bb1⟩
  obtain ⟨g1, cap1, rfl, hc1, hm1', hg1, hg1', hp1, hn1⟩ := drawn_row hD1
  have OKP := hide hD1.ok
  have FIP := hide hD1.fits
  have P1 := hide hp1
  have N1 := hide hn1
  clear hp1 hn1 hD1
  go_wp2_with fail
  refine (partsOf_any a2 n2 c2 xs2 w1 (unhide B2 w1 bb1) (unhide by2) hs2).mono ?_
  rintro e w2 ⟨v2, qs, rfl, hD2, hl2, bb2⟩
  obtain ⟨g2, cap2, rfl, hc2, hm2', hg2, hg2', hp2, hn2⟩ := drawn_row hD2
  have OKQ := hide hD2.ok
  have FIQ := hide hD2.fits
  have P2 := hide hp2
  have N2 := hide hn2
  have b2 := bb1.trans (bb2.mono bb1.size)
  have P1a := hide ((unhide P1).below bb2)
  have N1a := hide (cells_below (unhide N1) bb2 hg1')
  have z2' := bb2.size
  have z1' := bb1.size
  clear hp2 hn2 hD2 bb1 bb2 P1 N1
  go_wp2_with fail
  refine (at_any a2 n2 c2 xs2 3 _ (unhide B2 _ b2) (unhide by2) hs2 (by omega) (by omega)).mono ?_
  rintro e w3 ⟨r, rfl, hr0, hr1, d3, rfl⟩
  have b3 := bel_drewN b2 d3
  have P1b : Hid (PRow (w2.drewN d3) (some ⟨g1, 0, none⟩) ps.length ps) := unhide P1a
  have P2b : Hid (PRow (w2.drewN d3) (some ⟨g2, 0, none⟩) qs.length qs) := unhide P2
  have N1b : Hid (∀ j u, (ps.flatMap cells4)[j]? = some u → (w2.drewN d3).cell? ⟨g1, j, none⟩ = some u) := unhide N1a
  have N2b : Hid (∀ j u, (qs.flatMap cells4)[j]? = some u → (w2.drewN d3).cell? ⟨g2, j, none⟩ = some u) := unhide N2
  have k1 : g1 < (w2.drewN d3).heap.size := by show g1 < w2.heap.size; omega
  have k2 : g2 < (w2.drewN d3).heap.size := hg2'
  clear P1a P2 N1a N2 b2 z2' z1' hg1' hg2'
  generalize w2.drewN d3 = w3 at *
  by_cases hcond : r = 0 ∧ 0 < ps.length
  · obtain ⟨rfl, hpos⟩ := hcond
    obtain ⟨m, hm⟩ : ∃ m, ps.length = m + 1 := ⟨ps.length - 1, by omega⟩
    have hO := powns_lit (w := w3) (B := w3.heap.size) (Nat.le_refl _)
    have hW : Below w3.heap.size w3 (w3.alloc (.cells #[] 47)) := (Below.refl _ _).alloc (Nat.le_refl _) _
    have hsrc1 := hide (cells_add (cells_below (cells_take (m := m) (unhide N1b)) hW k1))
    have hlen1 := hide (show ((ps.take m).flatMap cells4).length = m * 4 by rw [pcells_length, List.length_take, hm]; congr 1; omega)
    have TK := hide (show (ps.take m).length = m by rw [List.length_take, hm]; omega)
    have S5 : w3.heap.size ≤ (w3.alloc (.cells #[] 47)).heap.size := hW.size
    have hone1 := hide (all_cells (ps.take m))
    have hone2 := hide (all_cells qs)
    have HM := hide hm
    have HW := hide hW
    have hmA : m ≤ 2 := by omega
    have hmB : m + 1 ≤ cap1 := by omega
    rw [hm]
    clear hW hm hpos
    go_wp2_with (at_builtin; refine wpList_append_own _ rfl (.tmp 40) (.tmp 45) 40 rfl w3.heap.size 47 i0 (.agg #[.int .i64 0, .int .i64 0, .float .f64 0, .string ByteArray.empty]) 4 40 Try.underlying40 hi hz0 hz1 hz2 rfl (by decide) _ 0 [] rfl hO ⟨g1, 0, none⟩ m cap1 ((ps.take m).flatMap cells4) rfl (unhide hlen1) (unhide hsrc1) (unhide hone1) (by unfold maxLen; omega) (by omega) S5 ?_)
    intro v4 w4 hown4 hgrow4 hnn
    have hnn4 := hide (show v4 ≠ .slice none 0 0 from hnn)
    have B4 : Below w3.heap.size w3 w4 := (unhide HW).grown hgrow4 S5 (fun k hk => by cases hk; exact Nat.le_refl _)
    have hsrc2 := hide (cells_add (cells_below (unhide N2b) B4 k2))
    have hlen2 := hide (pcells_length qs)
    have S4 := B4.size
    have lt4 := hide (fun k (hk : v4.ownBlock = some k) => (hown4.lt k hk).1)
    clear hgrow4 hO hsrc1 hlen1 hone1 S5 HW
    go_wp2_with (at_builtin; refine wpList_append_own _ rfl (.tmp 46) (.tmp 47) 40 rfl w3.heap.size 47 i0 (.agg #[.int .i64 0, .int .i64 0, .float .f64 0, .string ByteArray.empty]) 4 40 Try.underlying40 hi hz0 hz1 hz2 rfl (by decide) _ m _ rfl hown4 ⟨g2, 0, none⟩ qs.length cap2 (qs.flatMap cells4) rfl (unhide hlen2) (unhide hsrc2) (unhide hone2) (by unfold maxLen; omega) (by omega) S4 ?_)
    intro v5 w5 hown5 hgrow5 hnil5
    have O5 : POwns w5 w3.heap.size v5 (ps.take m ++ qs) := by
      unfold POwns
      rw [List.length_append, List.flatMap_append, unhide TK]
      exact hown5
    have B5 : Below w3.heap.size w3 w5 := B4.grown hgrow5 S4 (fun k hk => unhide lt4 k hk)
    have NN5 : v5 ≠ .slice none 0 0 := hnil5
    have OKq := hide (show (ps.take m ++ qs).all okD = true by rw [List.all_append, all_take (unhide OKP) m, unhide OKQ]; rfl)
    have FIq := hide (show ∀ d ∈ ps.take m ++ qs, Fits d from fun d hd => by
      rcases List.mem_append.1 hd with h | h
      · exact unhide FIP d (List.mem_of_mem_take h)
      · exact unhide FIQ d h)
    have lenQ : (ps.take m ++ qs).length ≤ 5 := by rw [List.length_append, unhide TK]; omega
    obtain ⟨gq, capq, rfl, _, _, _, _, hpq, _⟩ := drawn_row ⟨O5, NN5, unhide OKq, unhide FIq⟩
    have PQ := hide hpq
    have PP : Hid (PRow w5 (some ⟨g1, 0, none⟩) (m + 1) ps) := by
      have := (unhide P1b).below B5
      rw [unhide HM] at this
      exact this
    have bA : Below w.heap.size w w5 := b3.trans (B5.mono b3.size)
    clear hown4 hown5 hgrow5 hnil5 O5 NN5 hpq B4 B5 hsrc2 hlen2 hone2 lt4 hnn4 P1b P2b N1b N2b S4 b3 k1 k2 TK
    generalize ps.take m ++ qs = Q at *
    have TP := hide (parts_small (unhide OKP) (unhide FIP))
    have TQ := hide (parts_small (unhide OKq) (unhide FIq))
    have KP := hide (tup_ok (ps := ps) (by omega) (oks_of (unhide OKP) (by omega)))
    have KQ := hide (tup_ok (ps := Q) (by omega) (oks_of (unhide OKq) (by omega)))
    have CP := hide (cp_ok (p := ps) (q := Q) (by omega) ⟨oks_of (unhide OKP) (by omega), oks_of (unhide OKq) (by omega)⟩)
    have RB := hide (rtA_back (oks_of (unhide OKP) (by omega)) (unhide FIP))
    have LF := less_tkey (unhide OKP) (unhide OKq) (unhide FIP) (unhide FIq)
    have SF := same_tkey (unhide OKP) (unhide OKq) (unhide FIP) (unhide FIq)
    have BY := hide (bytes_at (tkey_bytes (unhide OKP)))
    have TL := hide (show (tkey ps).length ≤ 1218 by have := tkey_length (unhide OKP); omega)
    have TLQ := hide (show (tkey Q).length ≤ 1218 by have := tkey_length (unhide OKq); omega)
    go_wp2_with fail
    refine (tupleKey_owns (some ⟨g1, 0, none⟩) (m + 1) cap1 ps w5 (by omega) (unhide PP) (unhide TP)).mono ?_
    rintro e w6 ⟨v6, rfl, ho6, b6⟩
    rw [(unhide KP).1] at ho6
    rw [(unhide KP).2]
    have PP6 := hide ((unhide PP).below b6)
    have PQ6 := hide ((unhide PQ).below b6)
    have bB := bA.trans (b6.mono bA.size)
    have O6 := hide ho6
    clear ho6 b6 bA PP PQ
    go_wp2_with fail
    refine (tupleKey_owns (some ⟨gq, 0, none⟩) Q.length capq Q w6 (by omega) (unhide PQ6) (unhide TQ)).mono ?_
    rintro e w7 ⟨v7, rfl, ho7, b7⟩
    rw [(unhide KQ).1] at ho7
    rw [(unhide KQ).2]
    have PP7 := hide ((unhide PP6).below b7)
    have PQ7 := hide ((unhide PQ6).below b7)
    have O6a := hide (owns_below (unhide O6) b7)
    have bC := bB.trans (b7.mono bB.size)
    have O7 := hide ho7
    clear ho7 b7 bB PP6 PQ6 O6
    go_wp2_with fail
    refine (implCompareParts_any (some ⟨g1, 0, none⟩) (some ⟨gq, 0, none⟩) (m + 1) Q.length cap1 capq ps Q w7 (by omega) (by omega) (unhide PP7) (unhide PQ7) (unhide TP) (unhide TQ)).mono ?_
    rintro e w8 ⟨rfl, b8⟩
    rw [(unhide CP).1, (unhide CP).2]
    have PP8 := hide ((unhide PP7).below b8)
    have PQ8 := hide ((unhide PQ7).below b8)
    have O6b := hide (owns_below (unhide O6a) b8)
    have O7b := hide (owns_below (unhide O7) b8)
    have bD := bC.trans (b8.mono bC.size)
    clear b8 bC PP7 PQ7 O6a O7
    go_wp2_with fail
    refine (specCompareParts_any (some ⟨g1, 0, none⟩) (some ⟨gq, 0, none⟩) (m + 1) Q.length cap1 capq ps Q w8 (by omega) (by omega) (unhide PP8) (unhide PQ8) (unhide TP) (unhide TQ)).mono ?_
    rintro e w9 ⟨rfl, b9⟩
    rw [(unhide CP).1, (unhide CP).2]
    have PP9 := hide ((unhide PP8).below b9)
    have O6c := owns_below (unhide O6b) b9
    have O7c := hide (owns_below (unhide O7b) b9)
    have bE := bD.trans (b9.mono bD.size)
    obtain ⟨a6, c6, rfl, hc6, hc6', hr6, _⟩ := mine_of_owns O6c
    have O6d := hide O6c
    have R6 := hide hr6
    have HC6 := hide (And.intro hc6 hc6')
    clear b9 bD PP8 PQ8 O6b O7b O6c hr6 hc6 hc6'
    go_wp2_with fail
    refine (readTuple_any a6 (tkey ps).length c6 (tkey ps) w9 (by have := unhide TL; omega) (unhide HC6).1 (unhide HC6).2 (unhide R6) (unhide BY)).mono ?_
    rintro e w10 ⟨v10, rfl, ho10, b10⟩
    rw [unhide RB] at ho10
    rw [unhide RB]
    obtain ⟨a10, c10, rfl, r10, _⟩ := powns_row ho10
    have PP10 := hide ((unhide PP9).below b10)
    have O6e := hide (owns_below (unhide O6d) b10)
    have O7e := hide (owns_below (unhide O7c) b10)
    have bF := bE.trans (b10.mono bE.size)
    have PB := hide r10
    clear b10 bE PP9 O6d O7c R6 HC6 ho10 r10
    go_wp2_with fail
    refine (tupleKey_owns a10 ps.length c10 ps w10 (by omega) (unhide PB) (unhide TP)).mono ?_
    rintro e w11 ⟨v11, rfl, ho11, b11⟩
    rw [(unhide KP).1] at ho11
    rw [(unhide KP).2]
    have PP11 := hide ((unhide PP10).below b11)
    have PB11 := hide ((unhide PB).below b11)
    have O6f := owns_below (unhide O6e) b11
    have O7f := owns_below (unhide O7e) b11
    have bG := bF.trans (b11.mono bF.size)
    have x6 := conv_draws O6f
    have x7 := conv_draws O7f
    have x11 := conv_draws ho11
    obtain ⟨a7, c7, rfl, _, _, _, _⟩ := mine_of_owns O7f
    obtain ⟨a11, c11, rfl, _, _, _, _⟩ := mine_of_owns ho11
    have X6 := hide x6
    have X7 := hide x7
    have y6 := x6 0
    have y7 := x7 0
    have y11 := x11 0
    rw [World.drewN_zero] at y6 y7 y11
    clear x6 x7 x11 O6f O7f ho11 b11 bF O6e O7e PP10 PB KP KQ CP RB BY
    generalize strOfNums (tkey ps) = sa at *
    generalize strOfNums (tkey Q) = sb at *
    generalize cmpsD ps Q = od at *
    have hne : ((ps.length : Int) != (m : Int) + 1) = false := by have := unhide HM; simp; omega
    go_wp2_with fail
    go_loopw [19] (fun i wr => ∃ k : Nat, k ≤ (m + 1) ∧ i = .int .i64 k ∧ ∃ d, wr = w11.drewN d) (fun i _ => (m + 1) - (intOf i).toNat)
    case atStart => exact ⟨0, by omega, rfl, 0, rfl⟩
    case round =>
      obtain ⟨k, hk, rfl, d, hwr⟩ := hrel
      have HWR := hide hwr
      by_cases hlt : k < (m + 1)
      · have hkp : k < ps.length := by rw [(unhide PP11).1]; exact hlt
        obtain ⟨b, off, e, x0, x1, x2, x3⟩ := (unhide PP11).2 k hkp
        cases e
        obtain ⟨b', off', rfl, t0, t1, t2, t3⟩ := (unhide PB11).2 k hkp
        rw [Nat.zero_add] at x0 x1 x2 x3
        have hF := (unhide FIP ps[k] (List.getElem_mem hkp)).2.2
        generalize ps[k] = pd at *
        have d0 : wr.cell? ⟨g1, k * 4, none⟩ = some (.int .i64 pd.k) := by rw [hwr]; exact x0
        have d1 : wr.cell? ⟨g1, k * 4 + 1, none⟩ = some (.int .i64 pd.n) := by rw [hwr]; exact x1
        have d2 : wr.cell? ⟨g1, k * 4 + 2, none⟩ = some (.float .f64 pd.f) := by rw [hwr]; exact x2
        have d3' : wr.cell? ⟨g1, k * 4 + 3, none⟩ = some (.string pd.t) := by rw [hwr]; exact x3
        have e0 : wr.cell? ⟨b', off' + k * 4, none⟩ = some (.int .i64 pd.k) := by rw [hwr]; exact t0
        have e1 : wr.cell? ⟨b', off' + k * 4 + 1, none⟩ = some (.int .i64 pd.n) := by rw [hwr]; exact t1
        have e2 : wr.cell? ⟨b', off' + k * 4 + 2, none⟩ = some (.float .f64 pd.f) := by rw [hwr]; exact t2
        have e3 : wr.cell? ⟨b', off' + k * 4 + 3, none⟩ = some (.string pd.t) := by rw [hwr]; exact t3
        clear x0 x1 x2 x3 t0 t1 t2 t3 hwr
        go_wp2_with fail
        go_quiet ((go_at_call 14; exact Calls.quiet_of_same (same_any pd.f _ hF)))
        go_wp2_with fail
        go_roundw
        case rel => exact ⟨k + 1, by omega, by go_num, d + nq, by rw [unhide HWR, World.drewN_drewN]⟩
        case measure => simp [intOf]; omega
      · obtain rfl : k = m + 1 := by omega
        have v6 : ∀ j, (convert 22 9 (.slice a6 (tkey ps).length c6)).run Try.prog (wr.drewN j) = .ok (.string sa) (wr.drewN j) := fun j => by rw [unhide HWR, World.drewN_drewN]; exact unhide X6 _
        have v7 : ∀ j, (convert 22 9 (.slice a7 (tkey Q).length c7)).run Try.prog (wr.drewN j) = .ok (.string sb) (wr.drewN j) := fun j => by rw [unhide HWR, World.drewN_drewN]; exact unhide X7 _
        have u6 := v6 0
        have u7 := v7 0
        rw [World.drewN_zero] at u6 u7
        have bH : Below w.heap.size w wr := by rw [hwr]; exact bel_drewN bG d
        clear y6 y7 y11 X6 X7 bG hwr PP11 PB11
        go_wp2_with fail
        all_goals go_ret
        all_goals exact ⟨ret_bool (last_eq od), bH⟩
  · have lenQ : qs.length ≤ 5 := by omega
    have hq1 : (r == 0) = false ∨ (r = 0 ∧ decide (0 < ps.length) = false) := by
      by_cases h : r = 0
      · right; exact ⟨h, by simp only [decide_eq_false_iff_not]; omega⟩
      · left; simpa using h
    clear hcond N1b N2b k1 k2
    rcases hq1 with hq1 | ⟨rfl, hq1⟩
    all_goals
      have TP := hide (parts_small (unhide OKP) (unhide FIP))
      have TQ := hide (parts_small (unhide OKQ) (unhide FIQ))
      have KP := hide (tup_ok (ps := ps) (by omega) (oks_of (unhide OKP) (by omega)))
      have KQ := hide (tup_ok (ps := qs) (by omega) (oks_of (unhide OKQ) (by omega)))
      have CP := hide (cp_ok (p := ps) (q := qs) (by omega) ⟨oks_of (unhide OKP) (by omega), oks_of (unhide OKQ) (by omega)⟩)
      have RB := hide (rtA_back (oks_of (unhide OKP) (by omega)) (unhide FIP))
      have LF := less_tkey (unhide OKP) (unhide OKQ) (unhide FIP) (unhide FIQ)
      have SF := same_tkey (unhide OKP) (unhide OKQ) (unhide FIP) (unhide FIQ)
      have BY := hide (bytes_at (tkey_bytes (unhide OKP)))
      have TL := hide (show (tkey ps).length ≤ 1218 by have := tkey_length (unhide OKP); omega)
      have TLQ := hide (show (tkey qs).length ≤ 1218 by have := tkey_length (unhide OKQ); omega)
      go_wp2_with fail
      refine (tupleKey_owns (some ⟨g1, 0, none⟩) ps.length cap1 ps w3 (by omega) (unhide P1b) (unhide TP)).mono ?_
      rintro e w6 ⟨v6, rfl, ho6, b6⟩
      rw [(unhide KP).1] at ho6
      rw [(unhide KP).2]
      have PP6 := hide ((unhide P1b).below b6)
      have PQ6 := hide ((unhide P2b).below b6)
      have bB := b3.trans (b6.mono b3.size)
      have O6 := hide ho6
      clear ho6 b6 b3 P1b P2b
      go_wp2_with fail
      refine (tupleKey_owns (some ⟨g2, 0, none⟩) qs.length cap2 qs w6 (by omega) (unhide PQ6) (unhide TQ)).mono ?_
      rintro e w7 ⟨v7, rfl, ho7, b7⟩
      rw [(unhide KQ).1] at ho7
      rw [(unhide KQ).2]
      have PP7 := hide ((unhide PP6).below b7)
      have PQ7 := hide ((unhide PQ6).below b7)
      have O6a := hide (owns_below (unhide O6) b7)
      have bC := bB.trans (b7.mono bB.size)
      have O7 := hide ho7
      clear ho7 b7 bB PP6 PQ6 O6
      go_wp2_with fail
      refine (implCompareParts_any (some ⟨g1, 0, none⟩) (some ⟨g2, 0, none⟩) ps.length qs.length cap1 cap2 ps qs w7 (by omega) (by omega) (unhide PP7) (unhide PQ7) (unhide TP) (unhide TQ)).mono ?_
      rintro e w8 ⟨rfl, b8⟩
      rw [(unhide CP).1, (unhide CP).2]
      have PP8 := hide ((unhide PP7).below b8)
      have PQ8 := hide ((unhide PQ7).below b8)
      have O6b := hide (owns_below (unhide O6a) b8)
      have O7b := hide (owns_below (unhide O7) b8)
      have bD := bC.trans (b8.mono bC.size)
      clear b8 bC PP7 PQ7 O6a O7
      go_wp2_with fail
      refine (specCompareParts_any (some ⟨g1, 0, none⟩) (some ⟨g2, 0, none⟩) ps.length qs.length cap1 cap2 ps qs w8 (by omega) (by omega) (unhide PP8) (unhide PQ8) (unhide TP) (unhide TQ)).mono ?_
      rintro e w9 ⟨rfl, b9⟩
      rw [(unhide CP).1, (unhide CP).2]
      have PP9 := hide ((unhide PP8).below b9)
      have O6c := owns_below (unhide O6b) b9
      have O7c := hide (owns_below (unhide O7b) b9)
      have bE := bD.trans (b9.mono bD.size)
      obtain ⟨a6, c6, rfl, hc6, hc6', hr6, _⟩ := mine_of_owns O6c
      have O6d := hide O6c
      have R6 := hide hr6
      have HC6 := hide (And.intro hc6 hc6')
      clear b9 bD PP8 PQ8 O6b O7b O6c hr6 hc6 hc6'
      go_wp2_with fail
      refine (readTuple_any a6 (tkey ps).length c6 (tkey ps) w9 (by have := unhide TL; omega) (unhide HC6).1 (unhide HC6).2 (unhide R6) (unhide BY)).mono ?_
      rintro e w10 ⟨v10, rfl, ho10, b10⟩
      rw [unhide RB] at ho10
      rw [unhide RB]
      obtain ⟨a10, c10, rfl, r10, _⟩ := powns_row ho10
      have PP10 := hide ((unhide PP9).below b10)
      have O6e := hide (owns_below (unhide O6d) b10)
      have O7e := hide (owns_below (unhide O7c) b10)
      have bF := bE.trans (b10.mono bE.size)
      have PB := hide r10
      clear b10 bE PP9 O6d O7c R6 HC6 ho10 r10
      go_wp2_with fail
      refine (tupleKey_owns a10 ps.length c10 ps w10 (by omega) (unhide PB) (unhide TP)).mono ?_
      rintro e w11 ⟨v11, rfl, ho11, b11⟩
      rw [(unhide KP).1] at ho11
      rw [(unhide KP).2]
      have PP11 := hide ((unhide PP10).below b11)
      have PB11 := hide ((unhide PB).below b11)
      have O6f := owns_below (unhide O6e) b11
      have O7f := owns_below (unhide O7e) b11
      have bG := bF.trans (b11.mono bF.size)
      have x6 := conv_draws O6f
      have x7 := conv_draws O7f
      have x11 := conv_draws ho11
      obtain ⟨a7, c7, rfl, _, _, _, _⟩ := mine_of_owns O7f
      obtain ⟨a11, c11, rfl, _, _, _, _⟩ := mine_of_owns ho11
      have X6 := hide x6
      have X7 := hide x7
      have y6 := x6 0
      have y7 := x7 0
      have y11 := x11 0
      rw [World.drewN_zero] at y6 y7 y11
      clear x6 x7 x11 O6f O7f ho11 b11 bF O6e O7e PP10 PB KP KQ CP RB BY
      generalize strOfNums (tkey ps) = sa at *
      generalize strOfNums (tkey qs) = sb at *
      generalize cmpsD ps qs = od at *
      go_wp2_with fail
      go_loopw [19] (fun i wr => ∃ k : Nat, k ≤ ps.length ∧ i = .int .i64 k ∧ ∃ d, wr = w11.drewN d) (fun i _ => ps.length - (intOf i).toNat)
      case atStart => exact ⟨0, by omega, rfl, 0, rfl⟩
      case round =>
        obtain ⟨k, hk, rfl, d, hwr⟩ := hrel
        have HWR := hide hwr
        by_cases hlt : k < ps.length
        · have hkp : k < ps.length := by rw [(unhide PP11).1]; exact hlt
          obtain ⟨b, off, e, x0, x1, x2, x3⟩ := (unhide PP11).2 k hkp
          cases e
          obtain ⟨b', off', rfl, t0, t1, t2, t3⟩ := (unhide PB11).2 k hkp
          rw [Nat.zero_add] at x0 x1 x2 x3
          have hF := (unhide FIP ps[k] (List.getElem_mem hkp)).2.2
          generalize ps[k] = pd at *
          have d0 : wr.cell? ⟨g1, k * 4, none⟩ = some (.int .i64 pd.k) := by rw [hwr]; exact x0
          have d1 : wr.cell? ⟨g1, k * 4 + 1, none⟩ = some (.int .i64 pd.n) := by rw [hwr]; exact x1
          have d2 : wr.cell? ⟨g1, k * 4 + 2, none⟩ = some (.float .f64 pd.f) := by rw [hwr]; exact x2
          have d3' : wr.cell? ⟨g1, k * 4 + 3, none⟩ = some (.string pd.t) := by rw [hwr]; exact x3
          have e0 : wr.cell? ⟨b', off' + k * 4, none⟩ = some (.int .i64 pd.k) := by rw [hwr]; exact t0
          have e1 : wr.cell? ⟨b', off' + k * 4 + 1, none⟩ = some (.int .i64 pd.n) := by rw [hwr]; exact t1
          have e2 : wr.cell? ⟨b', off' + k * 4 + 2, none⟩ = some (.float .f64 pd.f) := by rw [hwr]; exact t2
          have e3 : wr.cell? ⟨b', off' + k * 4 + 3, none⟩ = some (.string pd.t) := by rw [hwr]; exact t3
          clear x0 x1 x2 x3 t0 t1 t2 t3 hwr
          go_wp2_with fail
          go_quiet ((go_at_call 14; exact Calls.quiet_of_same (same_any pd.f _ hF)))
          go_wp2_with fail
          go_roundw
          case rel => exact ⟨k + 1, by omega, by go_num, d + nq, by rw [unhide HWR, World.drewN_drewN]⟩
          case measure => simp [intOf]; omega
        · obtain rfl : k = ps.length := by omega
          have v6 : ∀ j, (convert 22 9 (.slice a6 (tkey ps).length c6)).run Try.prog (wr.drewN j) = .ok (.string sa) (wr.drewN j) := fun j => by rw [unhide HWR, World.drewN_drewN]; exact unhide X6 _
          have v7 : ∀ j, (convert 22 9 (.slice a7 (tkey qs).length c7)).run Try.prog (wr.drewN j) = .ok (.string sb) (wr.drewN j) := fun j => by rw [unhide HWR, World.drewN_drewN]; exact unhide X7 _
          have u6 := v6 0
          have u7 := v7 0
          rw [World.drewN_zero] at u6 u7
          have bH : Below w.heap.size w wr := by rw [hwr]; exact bel_drewN bG d
          clear y6 y7 y11 X6 X7 bG hwr PP11 PB11
          go_wp2_with fail
          all_goals go_ret
          all_goals exact ⟨ret_bool (last_eq od), bH⟩
end Go.Proofs.Ytgifcaeemfaihaa
