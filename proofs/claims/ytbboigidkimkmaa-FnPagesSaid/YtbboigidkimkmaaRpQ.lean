/-
  The program's reader along bytes: the walk of page.
-/
import Derived.Test.YtbboigidkimkmaaRpP
namespace Go.Proofs.Ytbboigidkimkmaa
open Go.RowKit

theorem rPage_eq (s : Rs) : ∃ lo hi r n es m ds s1 s2 s3 s4 s5 s6 s7, rText s = (lo, s1) ∧ rText s1 = (hi, s2) ∧ rTwo s2 = (r, s3) ∧ rOne s3 = (n, s4) ∧ rep rEnt n.toNat s4 = (es, s5) ∧ rOne s5 = (m, s6) ∧ rep rDel m.toNat s6 = (ds, s7) ∧ rPage s = (⟨lo, hi, r - 1, es, ds⟩, s7) := by
  obtain ⟨⟨lo, s1⟩, h1⟩ : ∃ x, rText s = x := ⟨_, rfl⟩
  obtain ⟨⟨hi, s2⟩, h2⟩ : ∃ x, rText s1 = x := ⟨_, rfl⟩
  obtain ⟨⟨r, s3⟩, h3⟩ : ∃ x, rTwo s2 = x := ⟨_, rfl⟩
  obtain ⟨⟨n, s4⟩, h4⟩ : ∃ x, rOne s3 = x := ⟨_, rfl⟩
  obtain ⟨⟨es, s5⟩, h5⟩ : ∃ x, rep rEnt n.toNat s4 = x := ⟨_, rfl⟩
  obtain ⟨⟨m, s6⟩, h6⟩ : ∃ x, rOne s5 = x := ⟨_, rfl⟩
  obtain ⟨⟨ds, s7⟩, h7⟩ : ∃ x, rep rDel m.toNat s6 = x := ⟨_, rfl⟩
  exact ⟨lo, hi, r, n, es, m, ds, s1, s2, s3, s4, s5, s6, s7, h1, h2, h3, h4, h5, h6, h7, by simp only [rPage, bd, h1, h2, h3, h4, h5, h6, h7]⟩
/-- What page leaves. -/
def PgRes (w : World) (rb D : Nat) (s : Rs) (e : Ending) (w' : World) : Prop :=
  ∃ a n c a2 n2 c2, e = .returned (pgv (rPage s).1.lo (rPage s).1.hi (rPage s).1.r a n c a2 n2 c2) ∧ PgOwn w' w.heap.size a n c a2 n2 c2 (rPage s).1.es (rPage s).1.ds ∧ RdAt w' rb D (rPage s).2 ∧ Wr (fun i => i = rb) w w'
set_option maxRecDepth 100000 in
set_option maxHeartbeats 8000000 in
theorem rdPg_any (rb D : Nat) (s : Rs) (w : World) (h : RdAt w rb D s) (hb : By s.1) (hD : D ≤ w.heap.size) :
    Calls Try.prog 31 #[.pointer (some ⟨rb, 0, none⟩)] w fun e w' => PgRes w rb D s e w' := by
  obtain ⟨lo, hi, r, n, es, m, ds, s1, s2, s3, s4, s5, s6, s7, e1, e2, e3, e4, e5, e6, e7, e8⟩ := rPage_eq s
  have b1 : By s1.1 := by have := good_text.by_ s hb; rw [e1] at this; exact this
  have b2 : By s2.1 := by have := good_text.by_ s1 b1; rw [e2] at this; exact this
  have b3 : By s3.1 := by have := good_two.by_ s2 b2; rw [e3] at this; exact this
  have b4 : By s4.1 := by have := good_one.by_ s3 b3; rw [e4] at this; exact this
  have b5 : By s5.1 := by have := (good_ent.rep n.toNat).by_ s4 b4; rw [e5] at this; exact this
  have b6 : By s6.1 := by have := good_one.by_ s5 b5; rw [e6] at this; exact this
  have hr3 : 0 ≤ r ∧ r ≤ 65535 := by have := rTwo_le b2; rw [e3] at this; exact this
  have hn4 : 0 ≤ n ∧ n ≤ 255 := by have := rOne_le b3; rw [e4] at this; exact this
  have hm6 : 0 ≤ m ∧ m ≤ 255 := by have := rOne_le b5; rw [e6] at this; exact this
  obtain ⟨nn, rfl⟩ := Int.eq_ofNat_of_zero_le hn4.1
  obtain ⟨mm, rfl⟩ := Int.eq_ofNat_of_zero_le hm6.1
  rw [Int.toNat_natCast] at e5 e7
  have hnn : nn ≤ 255 := by omega
  have hmm : mm ≤ 255 := by omega
  have FIN := hide (show ∀ a n c a2 n2 c2 w', PgOwn w' w.heap.size a n c a2 n2 c2 es ds → RdAt w' rb D s7 → Wr (fun i => i = rb) w w' → PgRes w rb D s (.returned (pgv lo hi (r - 1) a n c a2 n2 c2)) w' from fun a n c a2 n2 c2 w' h1 h2 h3 => ⟨a, n, c, a2, n2, c2, by rw [e8], by rw [e8]; exact h1, by rw [e8]; exact h2, h3⟩)
  have BE := hide (fun k => (good_ent.rep k).by_ s4 b4)
  have BD := hide (fun k => (good_del.rep k).by_ s6 b6)
  have E1 := hide e1
  have E2 := hide e2
  have E3 := hide e3
  have E4 := hide e4
  have E5 := hide e5
  have E6 := hide e6
  have E7 := hide e7
  clear e1 e2 e3 e4 e5 e6 e7 e8
  obtain ⟨W0, hW0, hB0, k1, k2, hz⟩ := two_allocs w #[.string ⟨#[]⟩, .string ⟨#[]⟩, .int .i64 0, .slice none 0 0, .slice none 0 0] #[.string ⟨#[]⟩, .string ⟨#[]⟩, .int .i64 0, .slice none 0 0, .slice none 0 0] 26 26
  have ST := hide (show PgSt w W0 rb D ⟨#[]⟩ ⟨#[]⟩ 0 (.slice none 0 0) (.slice none 0 0) [] [] s from ⟨k1, k2, World.ownsRow_nil _ _ _ _, World.ownsRow_nil _ _ _ _, h.below hB0, Wr.of_below hB0, h.lt.2, hD⟩)
  clear h k1 k2 hB0 hz
  go_enter Try.func31, Try.ntmps31
  go_wp2_with fail
  rw [← hW0]
  clear hW0
  -- Low
  refine (textR_any rb D s W0 (unhide ST).rd hb).mono ?_
  rintro e w1 ⟨rfl, hR, hw⟩
  rw [unhide E1] at hR ⊢
  replace ST := hide ((unhide ST).read hR hw)
  clear hR hw
  obtain ⟨p0, p1, p2, p3, p4⟩ := (unhide ST).at2
  have f0 := (heap_at (unhide ST).k2 0).2
  go_wp2_with fail
  clear p0 p1 p2 p3 p4 f0
  replace ST := hide ((unhide ST).set (lo' := lo) (hi' := ⟨#[]⟩) (r' := 0) 0 (.string lo) rfl)
  generalize w1.setCell ⟨w.heap.size + 1, 0, none⟩ (.string lo) = w2 at *
  -- High
  refine (textR_any rb D s1 w2 (unhide ST).rd b1).mono ?_
  rintro e w3 ⟨rfl, hR, hw⟩
  rw [unhide E2] at hR ⊢
  replace ST := hide ((unhide ST).read hR hw)
  clear hR hw
  obtain ⟨p0, p1, p2, p3, p4⟩ := (unhide ST).at2
  have f0 := (heap_at (unhide ST).k2 1).2
  go_wp2_with fail
  clear p0 p1 p2 p3 p4 f0
  replace ST := hide ((unhide ST).set (lo' := lo) (hi' := hi) (r' := 0) 1 (.string hi) rfl)
  generalize w3.setCell ⟨w.heap.size + 1, 1, none⟩ (.string hi) = w4 at *
  -- Right
  refine (two_any rb D s2 w4 (unhide ST).rd b2).mono ?_
  rintro e w5 ⟨rfl, hR, hw⟩
  rw [unhide E3] at hR ⊢
  replace ST := hide ((unhide ST).read hR hw)
  clear hR hw
  obtain ⟨p0, p1, p2, p3, p4⟩ := (unhide ST).at2
  have f0 := (heap_at (unhide ST).k2 2).2
  have wr1 : IntKind.i64.wrap (r - 1) = r - 1 := by rw [IntKind.wrap_i64]; omega
  go_wp2_with fail
  clear p0 p1 p2 p3 p4 f0
  replace ST := hide ((unhide ST).set (lo' := lo) (hi' := hi) (r' := r - 1) 2 (.int .i64 (r - 1)) rfl)
  generalize w5.setCell ⟨w.heap.size + 1, 2, none⟩ (.int .i64 (r - 1)) = w6 at *
  -- entries
  refine (one_any rb D s3 w6 (unhide ST).rd b3).mono ?_
  rintro e w7 ⟨rfl, hR, hw⟩
  rw [unhide E4] at hR ⊢
  replace ST := hide ((unhide ST).read hR hw)
  clear hR hw
  generalize r - 1 = r1 at *
  go_wp2_with fail
  go_loopw [16] (fun i wr => ∃ k : Nat, k ≤ nn ∧ i = .int .i64 k ∧ ∃ vb, Hid (PgSt w wr rb D lo hi r1 vb (.slice none 0 0) (rep rEnt k s4).1 [] (rep rEnt k s4).2)) (fun i _ => nn - (intOf i).toNat)
  case atStart => exact ⟨0, Nat.zero_le _, rfl, _, ST⟩
  case round =>
    clear ST
    obtain ⟨k, hk, rfl, vb, ST⟩ := hrel
    by_cases hlt : k < nn
    · have hki : (k : Int) < (nn : Int) := by omega
      have SN := hide (rep_snoc rEnt k s4)
      have hbk := unhide BE k
      have hlen := rep_len rEnt k s4
      obtain ⟨sk, hsk⟩ : ∃ x, x = (rep rEnt k s4).2 := ⟨_, rfl⟩
      obtain ⟨ek, hek⟩ : ∃ x, x = (rep rEnt k s4).1 := ⟨_, rfl⟩
      rw [← hsk, ← hek] at ST SN
      rw [← hsk] at hbk
      rw [← hek] at hlen
      have HL := hide hlen
      clear hsk hek hlen
      obtain ⟨p0, p1, p2, p3, p4⟩ := (unhide ST).at2
      have sz := (unhide ST).sz
      have hl := (unhide ST).lt
      have CE := hide (show Calls Try.prog 60 #[.pointer (some ⟨rb, 0, none⟩)] wr.drew fun e w' => ∃ v, e = .returned v ∧ (v = .agg #[.string (rEnt sk).1.k, .string (rEnt sk).1.v] ∧ PgSt w w' rb D lo hi r1 vb (.slice none 0 0) ek [] (rEnt sk).2) from (entry_any rb D sk wr.drew (show RdAt wr.drew rb D sk from (unhide ST).rd) hbk (by have : wr.drew.heap.size = wr.heap.size := rfl; omega)).mono fun e w' ⟨h1, h2, h3⟩ => ⟨_, h1, rfl, (unhide ST).read h2 ⟨h3.os, h3.tape, h3.output, h3.size, h3.block⟩⟩)
      have HE := hide (show ∀ w1 : World, PgSt w w1 rb D lo hi r1 vb (.slice none 0 0) ek [] (rEnt sk).2 → (w1.cell? ⟨w.heap.size + 1, 3, none⟩ = some vb ∧ ∀ o, (w1.alloc o).cell? ⟨w.heap.size + 1, 3, none⟩ = some vb) ∧ ∃ a3 n3 c3 w3, (Builtin.append_ #[23, 23] 23 #[vb, .slice (some ⟨w1.heap.size, 0, none⟩) 1 1]).run Try.prog (w1.alloc (.cells #[.string (rEnt sk).1.k, .string (rEnt sk).1.v] 57)) = .ok (.slice a3 n3 c3) w3 ∧ w3.cell? ⟨w.heap.size + 1, 3, none⟩ = some vb ∧ w3.frozen? ⟨w.heap.size + 1, 3, none⟩ = false ∧ PgSt w (w3.setCell ⟨w.heap.size + 1, 3, none⟩ (.slice a3 n3 c3)) rb D lo hi r1 (.slice a3 n3 c3) (.slice none 0 0) (ek ++ [(rEnt sk).1]) [] (rEnt sk).2 from fun w1 h1 => by
        have hb : ∀ o, Below w1.heap.size w1 (w1.alloc o) := fun o => (Below.refl _ _).alloc (Nat.le_refl _) o
        have h2 := h1.below (hb (.cells #[.string (rEnt sk).1.k, .string (rEnt sk).1.v] 57))
        have hn := heap_alloc_new w1 (.cells #[.string (rEnt sk).1.k, .string (rEnt sk).1.v] 57)
        have hR : ERow (w1.alloc (.cells #[.string (rEnt sk).1.k, .string (rEnt sk).1.v] 57)) (some ⟨w1.heap.size, 0, none⟩) 1 [(rEnt sk).1] := ⟨rfl, fun i hi => by
          obtain rfl : i = 0 := by simpa using hi
          exact ⟨_, 0, rfl, (heap_at hn 0).1, (heap_at hn 1).1⟩⟩
        obtain ⟨v3, w3, hr, ho, hg, _⟩ := run_appE 23 h2.oe hR (by have := unhide HL; omega) (by omega) (fun h => by cases h) (by have := h2.sz; omega)
        obtain ⟨a3, n3, c3, rfl⟩ : ∃ a n c, v3 = .slice a n c := by
          rcases ho.2 with ⟨e, _⟩ | ⟨g, cap, cur, e, _⟩ <;> exact ⟨_, _, _, e⟩
        have hk2 := loc_wr h2.k2 (Wr.of_grown (P := fun i => vb.ownBlock = some i) hg (fun i h => h)) (fun e => by have := (h2.oe.lt _ e).1; omega)
        exact ⟨⟨(heap_at h1.k2 3).1, fun o => (heap_at (h1.below (hb o)).k2 3).1⟩, a3, n3, c3, w3, hr, (heap_at hk2 3).1, (heap_at hk2 3).2, h2.pushE hg ho⟩)
      clear p0 p1 p2 p4
      obtain ⟨ev, hev⟩ : ∃ x, x = rEnt sk := ⟨_, rfl⟩
      rw [← hev] at CE HE SN
      clear hev
      go_wp2_with fail
      go_region_law (first
        | (obtain ⟨_, a3, n3, c3, w3, hr3, q3, g3, st3⟩ := unhide HE _ st1; refine stepAppE rfl (.tmp 19) (.tmp 22) 23 rfl vb _ (.slice a3 n3 c3) w3 (by first | rfl | (simp [Act.eval]; done) | (simp [Act.eval, Act.put]; done)) (by first | rfl | (simp [Act.eval]; done) | (simp [Act.eval, Act.put]; done)) hr3 ?_; clear hr3)
        | (refine stepCallR 60 Try.func60 (by decide) rfl rfl (.tmp 20) 92 rfl (.pointer (some ⟨rb, 0, none⟩)) (by first | rfl | (simp [Act.eval]; done) | (simp [Act.eval, Act.put]; done)) (unhide CE) ?_; rintro _ w1 ⟨rfl, st1⟩; obtain ⟨⟨q1, q2⟩, _⟩ := unhide HE _ st1))
      all_goals
        have ST3 := hide st3
        clear st3 st1 q1 q2 q3 g3
        go_wp2_with fail
        go_roundw
        case rel => exact ⟨k + 1, by omega, by go_num, _, by rw [unhide SN]; exact ST3⟩
        case measure => simp [intOf]; omega
    · obtain rfl : k = nn := by omega
      rw [unhide E5] at ST
      clear hlt hk BE
      have hge : ¬ ((k : Int) < (k : Int)) := by omega
      go_wp2_with fail
      refine (one_any rb D s5 wr (unhide ST).rd b5).mono ?_
      rintro e w8 ⟨rfl, hR, hw⟩
      rw [unhide E6] at hR ⊢
      replace ST := hide ((unhide ST).read hR hw)
      clear hR hw
      go_wp2_with fail
      go_loopw [28] (fun i wr => ∃ k : Nat, k ≤ mm ∧ i = .int .i64 k ∧ ∃ vc, Hid (PgSt w wr rb D lo hi r1 vb vc es (rep rDel k s6).1 (rep rDel k s6).2)) (fun i _ => mm - (intOf i).toNat)
      case atStart => exact ⟨0, Nat.zero_le _, rfl, _, ST⟩
      case round =>
        clear ST
        rename_i wrx hgx
        clear hge
        obtain ⟨j, hj, rfl, vc, ST⟩ := hrel
        by_cases hlt : j < mm
        · have hji : (j : Int) < (mm : Int) := by omega
          have SN := hide (rep_snoc rDel j s6)
          have hbk := unhide BD j
          have hlen := rep_len rDel j s6
          obtain ⟨sk, hsk⟩ : ∃ x, x = (rep rDel j s6).2 := ⟨_, rfl⟩
          obtain ⟨dk, hdk⟩ : ∃ x, x = (rep rDel j s6).1 := ⟨_, rfl⟩
          rw [← hsk, ← hdk] at ST SN
          rw [← hsk] at hbk
          rw [← hdk] at hlen
          have HL := hide hlen
          clear hsk hdk hlen
          obtain ⟨p0, p1, p2, p3, p4⟩ := (unhide ST).at2
          have sz := (unhide ST).sz
          have hl := (unhide ST).lt
          have CE := hide (show Calls Try.prog 61 #[.pointer (some ⟨rb, 0, none⟩)] wr.drew fun e w' => ∃ v, e = .returned v ∧ (v = .agg #[.int .i64 (rDel sk).1.kind, .string (rDel sk).1.k, .string (rDel sk).1.v, .int .i64 (rDel sk).1.to] ∧ PgSt w w' rb D lo hi r1 vb vc es dk (rDel sk).2) from (delta_any rb D sk wr.drew (show RdAt wr.drew rb D sk from (unhide ST).rd) hbk (by have : wr.drew.heap.size = wr.heap.size := rfl; omega)).mono fun e w' ⟨h1, h2, h3⟩ => ⟨_, h1, rfl, (unhide ST).read h2 ⟨h3.os, h3.tape, h3.output, h3.size, h3.block⟩⟩)
          have HE := hide (show ∀ w1 : World, PgSt w w1 rb D lo hi r1 vb vc es dk (rDel sk).2 → (w1.cell? ⟨w.heap.size + 1, 4, none⟩ = some vc ∧ ∀ o, (w1.alloc o).cell? ⟨w.heap.size + 1, 4, none⟩ = some vc) ∧ ∃ a3 n3 c3 w3, (Builtin.append_ #[24, 24] 24 #[vc, .slice (some ⟨w1.heap.size, 0, none⟩) 1 1]).run Try.prog (w1.alloc (.cells #[.int .i64 (rDel sk).1.kind, .string (rDel sk).1.k, .string (rDel sk).1.v, .int .i64 (rDel sk).1.to] 41)) = .ok (.slice a3 n3 c3) w3 ∧ w3.cell? ⟨w.heap.size + 1, 4, none⟩ = some vc ∧ w3.frozen? ⟨w.heap.size + 1, 4, none⟩ = false ∧ PgSt w (w3.setCell ⟨w.heap.size + 1, 4, none⟩ (.slice a3 n3 c3)) rb D lo hi r1 vb (.slice a3 n3 c3) es (dk ++ [(rDel sk).1]) (rDel sk).2 from fun w1 h1 => by
            have hb : ∀ o, Below w1.heap.size w1 (w1.alloc o) := fun o => (Below.refl _ _).alloc (Nat.le_refl _) o
            have h2 := h1.below (hb (.cells #[.int .i64 (rDel sk).1.kind, .string (rDel sk).1.k, .string (rDel sk).1.v, .int .i64 (rDel sk).1.to] 41))
            have hn := heap_alloc_new w1 (.cells #[.int .i64 (rDel sk).1.kind, .string (rDel sk).1.k, .string (rDel sk).1.v, .int .i64 (rDel sk).1.to] 41)
            have hR : DRow (w1.alloc (.cells #[.int .i64 (rDel sk).1.kind, .string (rDel sk).1.k, .string (rDel sk).1.v, .int .i64 (rDel sk).1.to] 41)) (some ⟨w1.heap.size, 0, none⟩) 1 [(rDel sk).1] := ⟨rfl, fun i hi => by
              obtain rfl : i = 0 := by simpa using hi
              exact ⟨_, 0, rfl, (heap_at hn 0).1, (heap_at hn 1).1, (heap_at hn 2).1, (heap_at hn 3).1⟩⟩
            obtain ⟨v3, w3, hr, ho, hg, _⟩ := run_appD 24 h2.od hR (by have := unhide HL; omega) (by omega) (fun h => by cases h) (by have := h2.sz; omega)
            obtain ⟨a3, n3, c3, rfl⟩ : ∃ a n c, v3 = .slice a n c := by
              rcases ho.2 with ⟨e, _⟩ | ⟨g, cap, cur, e, _⟩ <;> exact ⟨_, _, _, e⟩
            have hk2 := loc_wr h2.k2 (Wr.of_grown (P := fun i => vc.ownBlock = some i) hg (fun i h => h)) (fun e => by have := (h2.od.lt _ e).1; omega)
            exact ⟨⟨(heap_at h1.k2 4).1, fun o => (heap_at (h1.below (hb o)).k2 4).1⟩, a3, n3, c3, w3, hr, (heap_at hk2 4).1, (heap_at hk2 4).2, h2.pushD hg ho⟩)
          clear p0 p1 p2 p3
          obtain ⟨ev, hev⟩ : ∃ x, x = rDel sk := ⟨_, rfl⟩
          rw [← hev] at CE HE SN
          clear hev
          go_wp2_with fail
          go_region_law (first
            | (obtain ⟨_, a3, n3, c3, w3, hr3, q3, g3, st3⟩ := unhide HE _ st1; refine stepAppE rfl (.tmp 31) (.tmp 34) 24 rfl vc _ (.slice a3 n3 c3) w3 (by first | rfl | (simp [Act.eval]; done) | (simp [Act.eval, Act.put]; done)) (by first | rfl | (simp [Act.eval]; done) | (simp [Act.eval, Act.put]; done)) hr3 ?_; clear hr3)
            | (refine stepCallR 61 Try.func61 (by decide) rfl rfl (.tmp 32) 92 rfl (.pointer (some ⟨rb, 0, none⟩)) (by first | rfl | (simp [Act.eval]; done) | (simp [Act.eval, Act.put]; done)) (unhide CE) ?_; rintro _ w1 ⟨rfl, st1⟩; obtain ⟨⟨q1, q2⟩, _⟩ := unhide HE _ st1))
          all_goals
            have ST3 := hide st3
            clear st3 st1 q1 q2 q3 g3
            go_wp2_with fail
            go_roundw
            case rel => exact ⟨j + 1, by omega, by go_num, _, by rw [unhide SN]; exact ST3⟩
            case measure => simp [intOf]; omega
        · obtain rfl : j = mm := by omega
          rw [unhide E7] at ST
          clear hlt hj BD
          have hge : ¬ ((j : Int) < (j : Int)) := by omega
          obtain ⟨p0, p1, p2, p3, p4⟩ := (unhide ST).at2
          have hsl : (∃ a n c, vb = .slice a n c) ∧ ∃ a n c, vc = .slice a n c := by
            constructor
            · rcases (unhide ST).oe.2 with ⟨e, _⟩ | ⟨g, cap, cur, e, _⟩ <;> exact ⟨_, _, _, e⟩
            · rcases (unhide ST).od.2 with ⟨e, _⟩ | ⟨g, cap, cur, e, _⟩ <;> exact ⟨_, _, _, e⟩
          obtain ⟨⟨a1, n1, c1, rfl⟩, a2, n2, c2, rfl⟩ := hsl
          have d0 := (heap_at (unhide ST).k1 0).1
          have d1 := (heap_at (unhide ST).k1 1).1
          have d2 := (heap_at (unhide ST).k1 2).1
          have d3 := (heap_at (unhide ST).k1 3).1
          have d4 := (heap_at (unhide ST).k1 4).1
          simp only [List.getElem?_toArray, List.getElem?_cons_zero, List.getElem?_cons_succ] at d0 d1 d2 d3 d4
          have f0 := (heap_at (unhide ST).k1 0).2
          have f1 := (heap_at (unhide ST).k1 1).2
          have f2 := (heap_at (unhide ST).k1 2).2
          have f3 := (heap_at (unhide ST).k1 3).2
          have f4 := (heap_at (unhide ST).k1 4).2
          have EN := hide (show ∀ v0 v1 v2 v3 v4, PgRes w rb D s (.returned (pgv lo hi r1 a1 n1 c1 a2 n2 c2)) (((((wr.setCell ⟨w.heap.size, 0, none⟩ v0).setCell ⟨w.heap.size, 1, none⟩ v1).setCell ⟨w.heap.size, 2, none⟩ v2).setCell ⟨w.heap.size, 3, none⟩ v3).setCell ⟨w.heap.size, 4, none⟩ v4) from fun v0 v1 v2 v3 v4 => by
            have hl := (unhide ST).lt
            have hW : Wr (fun i => i = w.heap.size) wr (((((wr.setCell ⟨w.heap.size, 0, none⟩ v0).setCell ⟨w.heap.size, 1, none⟩ v1).setCell ⟨w.heap.size, 2, none⟩ v2).setCell ⟨w.heap.size, 3, none⟩ v3).setCell ⟨w.heap.size, 4, none⟩ v4) := ((((wr_cell _ _ 0 v0).trans (wr_cell _ _ 1 v1)).trans (wr_cell _ _ 2 v2)).trans (wr_cell _ _ 3 v3)).trans (wr_cell _ _ 4 v4)
            have o1 := owns_wr (unhide ST).oe hW (fun i hi e => by have := ((unhide ST).oe.lt i hi).1; omega)
            have o2 := owns_wr (unhide ST).od hW (fun i hi e => by have := ((unhide ST).od.lt i hi).1; omega)
            refine unhide FIN a1 n1 c1 a2 n2 c2 _ ⟨ownsRow_base o1 (by omega), ownsRow_base o2 (by omega), own_apart' o1 o2⟩ ((unhide ST).rd.wr hW (fun i hi => by omega)) ?_
            exact ((((((unhide ST).hw.store (Nat.le_refl _) 0 v0).store (Nat.le_refl _) 1 v1).store (Nat.le_refl _) 2 v2).store (Nat.le_refl _) 3 v3).store (Nat.le_refl _) 4 v4))
          clear ST
          go_wp2_with fail
          refine bodyPost_ret (v := pgv lo hi r1 a1 n1 c1 a2 n2 c2) (by simp [results, Try.results31, go_sem, *]) rfl ?_
          exact unhide EN _ _ _ _ _
end Go.Proofs.Ytbboigidkimkmaa
