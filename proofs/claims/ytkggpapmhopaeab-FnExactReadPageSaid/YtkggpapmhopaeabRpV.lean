/-
  The walk of spec.ReadPage.
-/
import Derived.Test.YtkggpapmhopaeabRpU
namespace Go.Proofs.Ytkggpapmhopaeab
open Go.RowKit

set_option maxRecDepth 100000 in
set_option maxHeartbeats 16000000 in
theorem specReadPage_any (a : Option Addr) (n c : Nat) (xs : List Int) (w : World) (h : Row w a n xs) (hby : By xs) (hnc : n ≤ c) (hlt : ∀ x, a = some x → x.block < w.heap.size) :
    Calls Try.prog 5 #[.slice a n c] w fun e w' => RpRes xs w e w' := by
  have hL := h.1
  by_cases hlong : 65536 < n
  · have b0 : Below w.heap.size w (w.alloc (.cells #[.string ⟨#[]⟩, .string ⟨#[]⟩, .int .i64 0, .slice none 0 0, .slice none 0 0] 26)) := (Below.refl _ _).alloc (Nat.le_refl _) _
    have FIN := hide (fun w' hb => rp_long (w := w) (w' := w') (xs := xs) (by omega) hb)
    have hi : (65536 : Int) < (n : Int) := by omega
    clear h hL
    go_enter Try.func5, Try.ntmps5
    go_wp2_with fail
    refine bodyPost_ret (v := .tuple #[pgv ByteArray.empty ByteArray.empty 0 none 0 0 none 0 0, .int .i64 2]) (by simp [results, Try.results5, go_sem, *] <;> rfl) rfl ?_
    exact unhide FIN _ (by first | exact b0 | exact set5_belowR b0 (Nat.le_refl _) _ _ _ _ _)
  have hi : ¬ ((65536 : Int) < (n : Int)) := by omega
  obtain ⟨lo, hi', r, n0, es, m0, ds, s1, s2, s3, s4, s5, s6, s7, e1, e2, e3, e4, e5, e6, e7, e8⟩ := sPage_eq xs (0, false)
  have hr3 : 0 ≤ r ∧ r ≤ 65535 := by have := sTwo_le hby s2; rw [e3] at this; exact this
  have hn4 : 0 ≤ n0 ∧ n0 ≤ 255 := by have := sOne_le hby s3; rw [e4] at this; exact this
  have hm6 : 0 ≤ m0 ∧ m0 ≤ 255 := by have := sOne_le hby s5; rw [e6] at this; exact this
  obtain ⟨nn, rfl⟩ := Int.eq_ofNat_of_zero_le hn4.1
  obtain ⟨mm, rfl⟩ := Int.eq_ofNat_of_zero_le hm6.1
  rw [Int.toNat_natCast] at e5 e7
  have hnn : nn ≤ 255 := by omega
  have hmm : mm ≤ 255 := by omega
  obtain ⟨rs1, rs2⟩ := rd_same xs
  rw [e8] at rs1 rs2
  have RS := hide rs1
  have BAD := hide (fun w' ho hb => rp_bad (w := w) (w' := w') (xs := xs) (by omega) ho hb)
  have GOOD := hide (fun w' a n c a2 n2 c2 ho hp hb => rp_good (w := w) (w' := w') (xs := xs) (q := ⟨lo, hi', r - 1, es, ds⟩) (a := a) (n := n) (c := c) (a2 := a2) (n2 := n2) (c2 := c2) (by omega) ho (rs2 ho) hp hb)
  have E1 := hide e1
  have E2 := hide e2
  have E3 := hide e3
  have E4 := hide e4
  have E5 := hide e5
  have E6 := hide e6
  have E7 := hide e7
  clear e1 e2 e3 e4 e5 e6 e7 e8 rs1 rs2
  obtain ⟨W0, hW0, hB0, k1, k2, hz⟩ := two_allocs w #[.string ⟨#[]⟩, .string ⟨#[]⟩, .int .i64 0, .slice none 0 0, .slice none 0 0] #[.slice a n c, .int .i64 0, .bool false] 26 46
  have R0 := hide (show SdAt W0 (w.heap.size + 1) (w.heap.size + 2) a n c xs (0, false) from ⟨k2, h.below hB0 hlt, hnc, fun x hx => by have := hlt x hx; omega, by omega, Nat.zero_le _, by omega⟩)
  have K1 := hide k1
  have B0 := hide hB0
  have LL := hide hL
  clear h hL k1 k2 hB0
  go_enter Try.func5, Try.ntmps5
  go_wp2_with fail
  rw [← hW0]
  clear hW0
  refine (sline_any (w.heap.size + 1) (w.heap.size + 2) a n c xs (0, false) W0 (unhide R0) hby).mono ?_
  rintro e w1 ⟨rfl, hR, hw⟩
  rw [unhide E1] at hR ⊢
  have R1 := hide hR
  replace K1 := hide (loc_wr (unhide K1) hw (by omega))
  replace B0 := hide ((unhide B0).trans (hw.below (B := w.heap.size) (fun i hi => by omega) (by omega)))
  have z1 := hw.size
  clear hR hw R0
  go_wp2_with fail
  refine (sline_any (w.heap.size + 1) (w.heap.size + 2) a n c xs s1 w1 (unhide R1) hby).mono ?_
  rintro e w2 ⟨rfl, hR, hw⟩
  rw [unhide E2] at hR ⊢
  have R2 := hide hR
  replace K1 := hide (loc_wr (unhide K1) hw (by omega))
  replace B0 := hide ((unhide B0).trans (hw.below (B := w.heap.size) (fun i hi => by omega) (by omega)))
  have z2 := hw.size
  clear hR hw R1
  go_wp2_with fail
  refine (stwo_any (w.heap.size + 1) (w.heap.size + 2) a n c xs s2 w2 (unhide R2) hby).mono ?_
  rintro e w3 ⟨rfl, hR, hw⟩
  rw [unhide E3] at hR ⊢
  have wr1 : IntKind.i64.wrap (r - 1) = r - 1 := by rw [IntKind.wrap_i64]; omega
  have z3 := hw.size
  have b3 : Below w3.heap.size w3 (w3.alloc (.cells #[.string lo, .string hi', .int .i64 (r - 1), .slice none 0 0, .slice none 0 0] 26)) := (Below.refl _ _).alloc (Nat.le_refl _) _
  have k3 := heap_alloc_new w3 (.cells #[.string lo, .string hi', .int .i64 (r - 1), .slice none 0 0, .slice none 0 0] 26)
  have K1' := loc_wr (unhide K1) hw (by omega)
  have B3 := (unhide B0).trans (hw.below (B := w.heap.size) (fun i hi => by omega) (by omega))
  have ST := hide (show PsSt w (w3.alloc (.cells #[.string lo, .string hi', .int .i64 (r - 1), .slice none 0 0, .slice none 0 0] 26)) w3.heap.size a n c xs lo hi' (r - 1) (.slice none 0 0) (.slice none 0 0) [] [] s3 from ⟨(b3.block _ (heap_lt1 K1')).trans K1', k3, World.ownsRow_nil _ _ _ _, World.ownsRow_nil _ _ _ _, hR.below b3, B3.trans (b3.mono B3.size), by omega⟩)
  clear hR hw R2 K1 K1' B0 B3 b3 k3
  go_wp2_with fail
  generalize w3.alloc (.cells #[.string lo, .string hi', .int .i64 (r - 1), .slice none 0 0, .slice none 0 0] 26) = w4 at *
  generalize w3.heap.size = pb at *
  generalize r - 1 = r1 at *
  refine (sone_any (w.heap.size + 1) (w.heap.size + 2) a n c xs s3 w4 (unhide ST).rd hby).mono ?_
  rintro e w5 ⟨rfl, hR, hw⟩
  rw [unhide E4] at hR ⊢
  replace ST := hide ((unhide ST).read hR hw)
  clear hR hw
  go_wp2_with fail
  go_loopw [6] (fun i wr => ∃ (j : Nat) (acc : List EntD) (sk : Ss) (vx : Value), i = .int .i64 j ∧ acc.length + j ≤ 255 ∧ Hid (PsSt w wr pb a n c xs lo hi' r1 vx (.slice none 0 0) acc [] sk) ∧ Hid (repS (sEnt xs) nn s4 = (acc ++ (repS (sEnt xs) j sk).1, (repS (sEnt xs) j sk).2))) (fun i _ => (intOf i).toNat)
  case atStart => exact ⟨nn, [], s4, _, rfl, by simp; omega, ST, by simp [hide]⟩
  case round =>
    clear ST
    obtain ⟨j, acc, sk, vx, rfl, hjl, ST, IV⟩ := hrel
    obtain ⟨c0, c1, c2, _, _⟩ := (unhide ST).rd.cells
    by_cases hgo : 0 < j ∧ sk.2 = false
    · obtain ⟨hj, hsk⟩ := hgo
      rw [hsk] at c2
      obtain ⟨j, rfl⟩ : ∃ i, j = i + 1 := ⟨j - 1, by omega⟩
      have hji : (0 : Int) < ((j + 1 : Nat) : Int) := by omega
      have hji2 : (0 : Int) < (j : Int) + 1 := by omega
      have wj : IntKind.i64.wrap ((j : Int) + 1 - 1) = (j : Int) := by rw [IntKind.wrap_i64]; omega
      have ej : (j : Int) + 1 - 1 = (j : Int) := by omega
      have wj2 : IntKind.i64.wrap (j : Int) = (j : Int) := by rw [IntKind.wrap_i64]; omega
      have SN := hide (repS_step (f := sEnt xs) hsk j)
      obtain ⟨p0, p1, p2, p3, p4⟩ := (unhide ST).at2
      have sz := (unhide ST).lt
      obtain ⟨⟨x0, t0⟩, g0⟩ : ∃ y, sLine xs sk = y := ⟨_, rfl⟩
      have C0 := hide (show Calls Try.prog 18 #[.pointer (some ⟨w.heap.size + 1, 0, none⟩)] wr.drew fun e w' => ∃ v, e = .returned v ∧ (v = .string x0 ∧ PsSt w w' pb a n c xs lo hi' r1 vx (.slice none 0 0) acc [] t0) from (sline_any (w.heap.size + 1) (w.heap.size + 2) a n c xs sk wr.drew (show SdAt wr.drew _ _ _ _ _ _ _ from (unhide ST).rd.same rfl) hby).mono fun e w' ⟨h1, h2, h3⟩ => ⟨_, h1, by rw [g0], (unhide ST).read (by rw [g0] at h2; exact h2) ⟨h3.os, h3.tape, h3.output, h3.size, h3.block⟩⟩)
      obtain ⟨⟨x1, t1⟩, g1⟩ : ∃ y, sLine xs t0 = y := ⟨_, rfl⟩
      have C1 := hide (show ∀ u, PsSt w u pb a n c xs lo hi' r1 vx (.slice none 0 0) acc [] t0 → Calls Try.prog 18 #[.pointer (some ⟨w.heap.size + 1, 0, none⟩)] u fun e w' => ∃ v, e = .returned v ∧ (v = .string x1 ∧ PsSt w w' pb a n c xs lo hi' r1 vx (.slice none 0 0) acc [] t1) from fun u hu => (sline_any (w.heap.size + 1) (w.heap.size + 2) a n c xs t0 u hu.rd hby).mono fun e w' ⟨h1, h2, h3⟩ => ⟨_, h1, by rw [g1], hu.read (by rw [g1] at h2; exact h2) h3⟩)
      have EV := hide (show sEnt xs sk = (⟨x0, x1⟩, t1) by rw [sEnt_eq, g0, g1])
      clear g0 g1
      have HE := hide (show ∀ w1 : World, PsSt w w1 pb a n c xs lo hi' r1 vx (.slice none 0 0) acc [] t1 → (∀ o, (w1.alloc o).cell? ⟨pb, 3, none⟩ = some vx) ∧ ∃ a3 n3 c3 w3, (Builtin.append_ #[23, 23] 23 #[vx, .slice (some ⟨w1.heap.size, 0, none⟩) 1 1]).run Try.prog (w1.alloc (.cells #[.string x0, .string x1] 50)) = .ok (.slice a3 n3 c3) w3 ∧ w3.cell? ⟨pb, 3, none⟩ = some vx ∧ w3.frozen? ⟨pb, 3, none⟩ = false ∧ PsSt w (w3.setCell ⟨pb, 3, none⟩ (.slice a3 n3 c3)) pb a n c xs lo hi' r1 (.slice a3 n3 c3) (.slice none 0 0) (acc ++ [⟨x0, x1⟩]) [] t1 from fun w1 h1 => by
        have hb : ∀ o, Below w1.heap.size w1 (w1.alloc o) := fun o => (Below.refl _ _).alloc (Nat.le_refl _) o
        have h2 := h1.below (hb (.cells #[.string x0, .string x1] 50))
        have hn := heap_alloc_new w1 (.cells #[.string x0, .string x1] 50)
        have hR : ERow (w1.alloc (.cells #[.string x0, .string x1] 50)) (some ⟨w1.heap.size, 0, none⟩) 1 [⟨x0, x1⟩] := ⟨rfl, fun i hi => by
          obtain rfl : i = 0 := by simpa using hi
          exact ⟨_, 0, rfl, (heap_at hn 0).1, (heap_at hn 1).1⟩⟩
        obtain ⟨v3, w3, hr, ho, hg, _⟩ := run_appE 23 h2.oe hR (by omega) (by omega) (fun h => by cases h) (by have := heap_lt1 h2.k2; omega)
        obtain ⟨a3, n3, c3, rfl⟩ : ∃ a n c, v3 = .slice a n c := by
          rcases ho.2 with ⟨e, _⟩ | ⟨g, cap, cur, e, _⟩ <;> exact ⟨_, _, _, e⟩
        have hk2 := loc_wr h2.k2 (Wr.of_grown (P := fun i => vx.ownBlock = some i) hg (fun i h => h)) (fun e => by have := (h2.oe.lt _ e).1; omega)
        exact ⟨fun o => (heap_at (h1.below (hb o)).k2 3).1, a3, n3, c3, w3, hr, (heap_at hk2 3).1, (heap_at hk2 3).2, h2.pushE hg ho⟩)
      go_wp2_with fail
      go_region_law (first
        | (obtain ⟨_, a3, n3, c3, w3, hr3, q3, g3, st9⟩ := unhide HE _ st1; refine stepAppE rfl (.tmp 37) (.tmp 43) 23 rfl vx _ (.slice a3 n3 c3) w3 (by first | rfl | (simp [Act.eval]; done) | (simp [Act.eval, Act.put]; done)) (by first | rfl | (simp [Act.eval]; done) | (simp [Act.eval, Act.put]; done)) hr3 ?_; clear hr3)
        | (refine stepCallR 18 Try.func18 (by decide) rfl rfl (.tmp 40) 44 rfl (.pointer (some ⟨w.heap.size + 1, 0, none⟩)) (by first | rfl | (simp [Act.eval]; done) | (simp [Act.eval, Act.put]; done)) (unhide C1 _ st0) ?_; rintro _ u1 ⟨rfl, st1⟩; have q11 := (heap_at st1.k2 3).1; simp only [List.getElem?_toArray, List.getElem?_cons_zero, List.getElem?_cons_succ] at q11; have qa := (unhide HE _ st1).1)
        | (refine stepCallR 18 Try.func18 (by decide) rfl rfl (.tmp 38) 44 rfl (.pointer (some ⟨w.heap.size + 1, 0, none⟩)) (by first | rfl | (simp [Act.eval]; done) | (simp [Act.eval, Act.put]; done)) (unhide C0) ?_; rintro _ u0 ⟨rfl, st0⟩; have q10 := (heap_at st0.k2 3).1; simp only [List.getElem?_toArray, List.getElem?_cons_zero, List.getElem?_cons_succ] at q10))
      all_goals
        have ST9 := hide st9
        clear st9 q3 g3 qa st0 q10 st1 q11
        go_wp2_with fail
        go_roundw
        case rel => exact ⟨j, acc ++ [⟨x0, x1⟩], t1, _, by go_num, by simp; omega, ST9, by rw [unhide IV, unhide SN, unhide EV]; simp [hide]⟩
        case measure => simp [intOf]
    · have hst : j = 0 ∨ sk.2 = true := by rcases Nat.eq_zero_or_pos j with h | h; exact .inl h; exact .inr (by cases hb : sk.2 with | true => rfl | false => exact absurd ⟨h, hb⟩ hgo)
      have ED := hide (show repS (sEnt xs) nn s4 = (acc, sk) by rw [unhide IV, repS_end hst]; simp)
      have eE : es = acc ∧ s5 = sk := by have := (unhide E5).symm.trans (unhide ED); injection this with h1 h2; exact ⟨h1, h2⟩
      obtain ⟨rfl, rfl⟩ := eE
      have hcase : j = 0 ∨ (0 < j ∧ s5.2 = true) := by rcases hst with h | h; exact .inl h; exact (Nat.eq_zero_or_pos j).imp id (fun g => ⟨g, h⟩)
      obtain ⟨vb, hvb⟩ : ∃ v, v = vx := ⟨_, rfl⟩
      rw [← hvb] at ST
      clear ED IV hgo hst hvb
      rcases hcase with hj | ⟨hj, hb5⟩
      all_goals (first | subst hj | (rw [hb5] at c2; have hji : (0 : Int) < (j : Int) := by omega))
      all_goals
        go_wp2_with fail
        clear c0 c1 c2
        refine (sone_any (w.heap.size + 1) (w.heap.size + 2) a n c xs s5 wr (unhide ST).rd hby).mono ?_
        rintro e w6 ⟨rfl, hR, hw⟩
        rw [unhide E6] at hR ⊢
        replace ST := hide ((unhide ST).read hR hw)
        clear hR hw
        go_wp2_with fail
        go_loopw [7] (fun i wr => ∃ (j : Nat) (acc : List DelD) (sk : Ss) (vx : Value), i = .int .i64 j ∧ acc.length + j ≤ 255 ∧ Hid (PsSt w wr pb a n c xs lo hi' r1 vb vx es acc sk) ∧ Hid (repS (sDel xs) mm s6 = (acc ++ (repS (sDel xs) j sk).1, (repS (sDel xs) j sk).2))) (fun i _ => (intOf i).toNat)
        case atStart => exact ⟨mm, [], s6, _, rfl, by simp; omega, ST, by simp [hide]⟩
        case round =>
          clear ST
          obtain ⟨j, acc, sk, vx, rfl, hjl, ST, IV⟩ := hrel
          obtain ⟨c0, c1, c2, _, _⟩ := (unhide ST).rd.cells
          by_cases hgo : 0 < j ∧ sk.2 = false
          · obtain ⟨hj, hsk⟩ := hgo
            rw [hsk] at c2
            obtain ⟨j, rfl⟩ : ∃ i, j = i + 1 := ⟨j - 1, by omega⟩
            have hji : (0 : Int) < ((j + 1 : Nat) : Int) := by omega
            have hji2 : (0 : Int) < (j : Int) + 1 := by omega
            have wj : IntKind.i64.wrap ((j : Int) + 1 - 1) = (j : Int) := by rw [IntKind.wrap_i64]; omega
            have ej : (j : Int) + 1 - 1 = (j : Int) := by omega
            have wj2 : IntKind.i64.wrap (j : Int) = (j : Int) := by rw [IntKind.wrap_i64]; omega
            have SN := hide (repS_step (f := sDel xs) hsk j)
            obtain ⟨p0, p1, p2, p3, p4⟩ := (unhide ST).at2
            have sz := (unhide ST).lt
            obtain ⟨⟨x0, t0⟩, g0⟩ : ∃ y, sOne xs sk = y := ⟨_, rfl⟩
            have C0 := hide (show Calls Try.prog 20 #[.pointer (some ⟨w.heap.size + 1, 0, none⟩)] wr.drew fun e w' => ∃ v, e = .returned v ∧ (v = .int .i64 x0 ∧ PsSt w w' pb a n c xs lo hi' r1 vb vx es acc t0) from (sone_any (w.heap.size + 1) (w.heap.size + 2) a n c xs sk wr.drew (show SdAt wr.drew _ _ _ _ _ _ _ from (unhide ST).rd.same rfl) hby).mono fun e w' ⟨h1, h2, h3⟩ => ⟨_, h1, by rw [g0], (unhide ST).read (by rw [g0] at h2; exact h2) ⟨h3.os, h3.tape, h3.output, h3.size, h3.block⟩⟩)
            obtain ⟨⟨x1, t1⟩, g1⟩ : ∃ y, sLine xs t0 = y := ⟨_, rfl⟩
            have C1 := hide (show ∀ u, PsSt w u pb a n c xs lo hi' r1 vb vx es acc t0 → Calls Try.prog 18 #[.pointer (some ⟨w.heap.size + 1, 0, none⟩)] u fun e w' => ∃ v, e = .returned v ∧ (v = .string x1 ∧ PsSt w w' pb a n c xs lo hi' r1 vb vx es acc t1) from fun u hu => (sline_any (w.heap.size + 1) (w.heap.size + 2) a n c xs t0 u hu.rd hby).mono fun e w' ⟨h1, h2, h3⟩ => ⟨_, h1, by rw [g1], hu.read (by rw [g1] at h2; exact h2) h3⟩)
            obtain ⟨⟨x2, t2⟩, g2⟩ : ∃ y, sLine xs t1 = y := ⟨_, rfl⟩
            have C2 := hide (show ∀ u, PsSt w u pb a n c xs lo hi' r1 vb vx es acc t1 → Calls Try.prog 18 #[.pointer (some ⟨w.heap.size + 1, 0, none⟩)] u fun e w' => ∃ v, e = .returned v ∧ (v = .string x2 ∧ PsSt w w' pb a n c xs lo hi' r1 vb vx es acc t2) from fun u hu => (sline_any (w.heap.size + 1) (w.heap.size + 2) a n c xs t1 u hu.rd hby).mono fun e w' ⟨h1, h2, h3⟩ => ⟨_, h1, by rw [g2], hu.read (by rw [g2] at h2; exact h2) h3⟩)
            obtain ⟨⟨x3, t3⟩, g3⟩ : ∃ y, sTwo xs t2 = y := ⟨_, rfl⟩
            have C3 := hide (show ∀ u, PsSt w u pb a n c xs lo hi' r1 vb vx es acc t2 → Calls Try.prog 19 #[.pointer (some ⟨w.heap.size + 1, 0, none⟩)] u fun e w' => ∃ v, e = .returned v ∧ (v = .int .i64 x3 ∧ PsSt w w' pb a n c xs lo hi' r1 vb vx es acc t3) from fun u hu => (stwo_any (w.heap.size + 1) (w.heap.size + 2) a n c xs t2 u hu.rd hby).mono fun e w' ⟨h1, h2, h3⟩ => ⟨_, h1, by rw [g3], hu.read (by rw [g3] at h2; exact h2) h3⟩)
            have EV := hide (show sDel xs sk = (⟨x0, x1, x2, x3⟩, t3) by rw [sDel_eq, g0, g1, g2, g3])
            clear g0 g1 g2 g3
            have HE := hide (show ∀ w1 : World, PsSt w w1 pb a n c xs lo hi' r1 vb vx es acc t3 → (∀ o, (w1.alloc o).cell? ⟨pb, 4, none⟩ = some vx) ∧ ∃ a3 n3 c3 w3, (Builtin.append_ #[24, 24] 24 #[vx, .slice (some ⟨w1.heap.size, 0, none⟩) 1 1]).run Try.prog (w1.alloc (.cells #[.int .i64 x0, .string x1, .string x2, .int .i64 x3] 52)) = .ok (.slice a3 n3 c3) w3 ∧ w3.cell? ⟨pb, 4, none⟩ = some vx ∧ w3.frozen? ⟨pb, 4, none⟩ = false ∧ PsSt w (w3.setCell ⟨pb, 4, none⟩ (.slice a3 n3 c3)) pb a n c xs lo hi' r1 vb (.slice a3 n3 c3) es (acc ++ [⟨x0, x1, x2, x3⟩]) t3 from fun w1 h1 => by
              have hb : ∀ o, Below w1.heap.size w1 (w1.alloc o) := fun o => (Below.refl _ _).alloc (Nat.le_refl _) o
              have h2 := h1.below (hb (.cells #[.int .i64 x0, .string x1, .string x2, .int .i64 x3] 52))
              have hn := heap_alloc_new w1 (.cells #[.int .i64 x0, .string x1, .string x2, .int .i64 x3] 52)
              have hR : DRow (w1.alloc (.cells #[.int .i64 x0, .string x1, .string x2, .int .i64 x3] 52)) (some ⟨w1.heap.size, 0, none⟩) 1 [⟨x0, x1, x2, x3⟩] := ⟨rfl, fun i hi => by
                obtain rfl : i = 0 := by simpa using hi
                exact ⟨_, 0, rfl, (heap_at hn 0).1, (heap_at hn 1).1, (heap_at hn 2).1, (heap_at hn 3).1⟩⟩
              obtain ⟨v3, w3, hr, ho, hg, _⟩ := run_appD 24 h2.od hR (by omega) (by omega) (fun h => by cases h) (by have := heap_lt1 h2.k2; omega)
              obtain ⟨a3, n3, c3, rfl⟩ : ∃ a n c, v3 = .slice a n c := by
                rcases ho.2 with ⟨e, _⟩ | ⟨g, cap, cur, e, _⟩ <;> exact ⟨_, _, _, e⟩
              have hk2 := loc_wr h2.k2 (Wr.of_grown (P := fun i => vx.ownBlock = some i) hg (fun i h => h)) (fun e => by have := (h2.od.lt _ e).1; omega)
              exact ⟨fun o => (heap_at (h1.below (hb o)).k2 4).1, a3, n3, c3, w3, hr, (heap_at hk2 4).1, (heap_at hk2 4).2, h2.pushD hg ho⟩)
            go_wp2_with fail
            go_region_law (first
              | (obtain ⟨_, a3, n3, c3, w3, hr3, q3, g3, st9⟩ := unhide HE _ st3; refine stepAppE rfl (.tmp 60) (.tmp 70) 24 rfl vx _ (.slice a3 n3 c3) w3 (by first | rfl | (simp [Act.eval]; done) | (simp [Act.eval, Act.put]; done)) (by first | rfl | (simp [Act.eval]; done) | (simp [Act.eval, Act.put]; done)) hr3 ?_; clear hr3)
              | (refine stepCallR 19 Try.func19 (by decide) rfl rfl (.tmp 67) 44 rfl (.pointer (some ⟨w.heap.size + 1, 0, none⟩)) (by first | rfl | (simp [Act.eval]; done) | (simp [Act.eval, Act.put]; done)) (unhide C3 _ st2) ?_; rintro _ u3 ⟨rfl, st3⟩; have q13 := (heap_at st3.k2 4).1; simp only [List.getElem?_toArray, List.getElem?_cons_zero, List.getElem?_cons_succ] at q13; have qa := (unhide HE _ st3).1)
              | (refine stepCallR 18 Try.func18 (by decide) rfl rfl (.tmp 65) 44 rfl (.pointer (some ⟨w.heap.size + 1, 0, none⟩)) (by first | rfl | (simp [Act.eval]; done) | (simp [Act.eval, Act.put]; done)) (unhide C2 _ st1) ?_; rintro _ u2 ⟨rfl, st2⟩; have q12 := (heap_at st2.k2 4).1; simp only [List.getElem?_toArray, List.getElem?_cons_zero, List.getElem?_cons_succ] at q12)
              | (refine stepCallR 18 Try.func18 (by decide) rfl rfl (.tmp 63) 44 rfl (.pointer (some ⟨w.heap.size + 1, 0, none⟩)) (by first | rfl | (simp [Act.eval]; done) | (simp [Act.eval, Act.put]; done)) (unhide C1 _ st0) ?_; rintro _ u1 ⟨rfl, st1⟩; have q11 := (heap_at st1.k2 4).1; simp only [List.getElem?_toArray, List.getElem?_cons_zero, List.getElem?_cons_succ] at q11)
              | (refine stepCallR 20 Try.func20 (by decide) rfl rfl (.tmp 61) 44 rfl (.pointer (some ⟨w.heap.size + 1, 0, none⟩)) (by first | rfl | (simp [Act.eval]; done) | (simp [Act.eval, Act.put]; done)) (unhide C0) ?_; rintro _ u0 ⟨rfl, st0⟩; have q10 := (heap_at st0.k2 4).1; simp only [List.getElem?_toArray, List.getElem?_cons_zero, List.getElem?_cons_succ] at q10))
            all_goals
              have ST9 := hide st9
              clear st9 q3 g3 qa st0 q10 st1 q11 st2 q12 st3 q13
              go_wp2_with fail
              go_roundw
              case rel => exact ⟨j, acc ++ [⟨x0, x1, x2, x3⟩], t3, _, by go_num, by simp; omega, ST9, by rw [unhide IV, unhide SN, unhide EV]; simp [hide]⟩
              case measure => simp [intOf]
          · have hst : j = 0 ∨ sk.2 = true := by rcases Nat.eq_zero_or_pos j with h | h; exact .inl h; exact .inr (by cases hb : sk.2 with | true => rfl | false => exact absurd ⟨h, hb⟩ hgo)
            have ED := hide (show repS (sDel xs) mm s6 = (acc, sk) by rw [unhide IV, repS_end hst]; simp)
            have eE : ds = acc ∧ s7 = sk := by have := (unhide E7).symm.trans (unhide ED); injection this with h1 h2; exact ⟨h1, h2⟩
            obtain ⟨rfl, rfl⟩ := eE
            have hcase : j = 0 ∨ (0 < j ∧ s7.2 = true) := by rcases hst with h | h; exact .inl h; exact (Nat.eq_zero_or_pos j).imp id (fun g => ⟨g, h⟩)
            have hsl : (∃ a n c, vb = .slice a n c ∧ (a = none → c = 0)) ∧ ∃ a n c, vx = .slice a n c := by
              constructor
              · rcases (unhide ST).oe.2 with ⟨e, _⟩ | ⟨g, cap, cur, e, _⟩
                · exact ⟨_, _, _, e, fun _ => rfl⟩
                · exact ⟨_, _, _, e, fun h => by cases h⟩
              · rcases (unhide ST).od.2 with ⟨e, _⟩ | ⟨g, cap, cur, e, _⟩ <;> exact ⟨_, _, _, e⟩
            obtain ⟨⟨a1, n1, c1', rfl, hcb⟩, a2, n2, c2', rfl⟩ := hsl
            clear ED IV hgo hst
            have FINB := hide (show rdOK xs = false → ∀ w', Below w.heap.size w w' → RpRes xs w (.returned (.tuple #[pgv ByteArray.empty ByteArray.empty 0 none 0 0 none 0 0, .int .i64 3])) w' from fun ho w' hb => unhide BAD w' ho hb)
            have SX := ST
            have k1 := (unhide ST).k1
            obtain ⟨d0, d1, d2, d3, d4⟩ := five_at k1
            obtain ⟨g0, g1, g2, g3, g4⟩ := five_fz k1
            obtain ⟨p0, p1, p2, p3, p4⟩ := (unhide ST).at2
            have B7 := (unhide ST).bel
            clear k1 SX
            obtain ⟨q7, b7⟩ := s7
            by_cases hj : 0 < j
            · obtain rfl : b7 = true := by rcases hcase with h | h; omega; exact h.2
              have hji : (0 : Int) < (j : Int) := by omega
              have HO := hide (show rdOK xs = false by rw [unhide RS]; rfl)
              clear hcase
              go_wp2_with fail
              refine bodyPost_ret (v := .tuple #[pgv ByteArray.empty ByteArray.empty 0 none 0 0 none 0 0, .int .i64 3]) (by simp [results, Try.results5, go_sem, *] <;> rfl) rfl ?_
              exact unhide FINB (unhide HO) _ (by first | exact B7 | exact set5_belowR B7 (Nat.le_refl _) _ _ _ _ _)
            obtain rfl : j = 0 := by omega
            clear hcase hj
            cases b7 with
            | true =>
              have HO := hide (show rdOK xs = false by rw [unhide RS]; rfl)
              go_wp2_with fail
              refine bodyPost_ret (v := .tuple #[pgv ByteArray.empty ByteArray.empty 0 none 0 0 none 0 0, .int .i64 3]) (by simp [results, Try.results5, go_sem, *] <;> rfl) rfl ?_
              exact unhide FINB (unhide HO) _ (by first | exact B7 | exact set5_belowR B7 (Nat.le_refl _) _ _ _ _ _)
            | false =>
              by_cases hq : q7 = n
              · subst hq
                have HO := hide (show rdOK xs = okPage lo hi' r1 es ds by rw [unhide RS]; simp [unhide LL])
                go_wp2_with fail
                refine (specPageOK_any lo hi' r1 a1 n1 c1' es a2 n2 c2' ds wr (erow_of_owns (unhide ST).oe) (drow_of_owns (unhide ST).od) hcb).mono ?_
                rintro e w8 ⟨rfl, hb8⟩
                have S8 := hide ((unhide ST).below hb8)
                clear d0 d1 d2 d3 d4 g0 g1 g2 g3 g4 p0 p1 p2 p3 p4 B7 hb8 ST c0 c1 c2
                obtain ⟨d0, d1, d2, d3, d4⟩ := five_at (unhide S8).k1
                obtain ⟨g0, g1, g2, g3, g4⟩ := five_fz (unhide S8).k1
                obtain ⟨p0, p1, p2, p3, p4⟩ := (unhide S8).at2
                have B8 := (unhide S8).bel
                cases hk : okPage lo hi' r1 es ds with
                | false =>
                  rw [hk] at HO
                  go_wp2_with fail
                  refine bodyPost_ret (v := .tuple #[pgv ByteArray.empty ByteArray.empty 0 none 0 0 none 0 0, .int .i64 3]) (by simp [results, Try.results5, go_sem, *] <;> rfl) rfl ?_
                  exact unhide FINB (unhide HO) _ (by first | exact B8 | exact set5_belowR B8 (Nat.le_refl _) _ _ _ _ _)
                | true =>
                  rw [hk] at HO
                  have EN := hide (show ∀ v0 v1 v2 v3 v4, RpRes xs w (.returned (.tuple #[pgv lo hi' r1 a1 n1 c1' a2 n2 c2', .int .i64 0])) (((((w8.setCell ⟨w.heap.size, 0, none⟩ v0).setCell ⟨w.heap.size, 1, none⟩ v1).setCell ⟨w.heap.size, 2, none⟩ v2).setCell ⟨w.heap.size, 3, none⟩ v3).setCell ⟨w.heap.size, 4, none⟩ v4) from fun v0 v1 v2 v3 v4 => by
                    have hl := (unhide S8).lt
                    have o1 := owns_wr (unhide S8).oe (wr5 w8 w.heap.size v0 v1 v2 v3 v4) (fun i hi e => by have := ((unhide S8).oe.lt i hi).1; omega)
                    have o2 := owns_wr (unhide S8).od (wr5 w8 w.heap.size v0 v1 v2 v3 v4) (fun i hi e => by have := ((unhide S8).od.lt i hi).1; omega)
                    exact unhide GOOD _ a1 n1 c1' a2 n2 c2' (unhide HO) ⟨ownsRow_base o1 (by omega), ownsRow_base o2 (by omega), own_apart' o1 o2⟩ (set5_belowR B8 (Nat.le_refl _) _ _ _ _ _))
                  clear S8
                  go_wp2_with fail
                  refine bodyPost_ret (v := .tuple #[pgv lo hi' r1 a1 n1 c1' a2 n2 c2', .int .i64 0]) (by simp [results, Try.results5, go_sem, *]) rfl ?_
                  exact unhide EN _ _ _ _ _
              · have HO := hide (show rdOK xs = false by rw [unhide RS]; simp [unhide LL, hq])
                have hqi : ¬ ((q7 : Int) = (n : Int)) := by omega
                go_wp2_with fail
                refine bodyPost_ret (v := .tuple #[pgv ByteArray.empty ByteArray.empty 0 none 0 0 none 0 0, .int .i64 3]) (by simp [results, Try.results5, go_sem, *] <;> rfl) rfl ?_
                exact unhide FINB (unhide HO) _ (by first | exact B7 | exact set5_belowR B7 (Nat.le_refl _) _ _ _ _ _)
end Go.Proofs.Ytkggpapmhopaeab
