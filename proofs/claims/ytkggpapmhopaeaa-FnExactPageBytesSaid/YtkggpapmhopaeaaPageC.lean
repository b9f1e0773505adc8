/-
  The search in entries, and what may follow them.
-/
import Derived.Test.YtkggpapmhopaeaaPageB
namespace Go.Proofs.Ytkggpapmhopaeaa
open Go.RowKit

theorem tup_ib {a b : Int} {c d : Bool} (h : a = b) (g : c = d) : Ending.returned (.tuple #[.int .i64 a, .bool c]) = .returned (.tuple #[.int .i64 b, .bool d]) := by rw [h, g]
set_option maxRecDepth 100000 in
set_option maxHeartbeats 4000000 in
theorem search_any (a : Option Addr) (n c : Nat) (es : List EntD) (k : ByteArray) (w : World) (hR : ERow w a n es) (hS : Rise es) (hn : n ≤ 100000) :
    Calls Try.prog 71 #[.slice a n c, .string k, .func (.func 72) #[] #[]] w fun e w' => e = .returned (.tuple #[.int .i64 (pos es k : Nat), .bool (found es k)]) ∧ Below w.heap.size w w' := by
  have R := hide hR
  have S := hide hS
  have L := hR.1
  clear hR hS
  have PL := hide (pos_le es k)
  go_enter Try.func71, Try.ntmps71
  go_wp2_with fail
  go_loopw [8, 9] (fun x y wr => ∃ (f t : Nat), x = .int .i64 (f : Int) ∧ y = .int .i64 (t : Int) ∧ f ≤ t ∧ t ≤ n ∧ Hid (∀ i (hi : i < es.length), i < f → ltK es[i].k k = true) ∧ Hid (∀ i (hi : i < es.length), t ≤ i → ltK es[i].k k = false) ∧ Below w.heap.size w wr) (fun x y _ => (intOf y).toNat - (intOf x).toNat)
  case atStart => exact ⟨0, n, rfl, rfl, Nat.zero_le _, Nat.le_refl _, fun i _ h => absurd h (Nat.not_lt_zero _), fun i hi h => absurd hi (by omega), Below.refl _ _⟩
  case round =>
    obtain ⟨f, t, rfl, rfl, hft, htn, hlo, hup, hb⟩ := hrel
    by_cases hlt : f < t
    · have R1 := hide ((unhide R).below hb)
      have hdiv : ((t : Int) - (f : Int)) / 2 = (((t - f) / 2 : Nat) : Int) := by omega
      obtain ⟨m, hmm⟩ : ∃ m, m = f + (t - f) / 2 := ⟨_, rfl⟩
      have hmi : (f : Int) + (((t - f) / 2 : Nat) : Int) = (m : Int) := by omega
      have hm' : m < es.length := by omega
      obtain ⟨b, off, rfl, c0, c1⟩ := (unhide R1).2 m hm'
      have hm1 : f ≤ m := by omega
      have hm2 : m < t := by omega
      have hmw : IntKind.i64.wrap (m : Int) = (m : Int) := by rw [IntKind.wrap_i64]; omega
      have HM := hide hmm
      clear hmm hmi hmw
      by_cases hl : Op.bytesLess es[m].k.toList k.toList = true
      · have LO := hide (show ∀ i (hi : i < es.length), i < m + 1 → ltK es[i].k k = true from fun i hi hlt => (unhide S).le hm' (by omega) hl)
        generalize es[m] = em at *
        rw [unhide HM] at c0 c1
        go_wp2_with fail
        refine (keyOf_any em.k em.v _).mono ?_
        rintro e w1 ⟨rfl, hb1⟩
        have B1 := hb.trans (hb1.mono hb.size)
        clear hb hb1
        go_wp2_with fail
        go_roundw
        case rel => exact ⟨m + 1, t, by rw [unhide HM]; go_num, rfl, by omega, htn, unhide LO, unhide hup, B1⟩
        case measure => have := unhide HM; simp [intOf]; omega
      · have hl' : Op.bytesLess es[m].k.toList k.toList = false := by simpa using hl
        have UP := hide (show ∀ i (hi : i < es.length), m ≤ i → ltK es[i].k k = false from fun i hi hle => (unhide S).ge hi hle hl')
        generalize es[m] = em at *
        rw [unhide HM] at c0 c1
        go_wp2_with fail
        refine (keyOf_any em.k em.v _).mono ?_
        rintro e w1 ⟨rfl, hb1⟩
        have B1 := hb.trans (hb1.mono hb.size)
        clear hb hb1
        go_wp2_with fail
        go_roundw
        case rel => exact ⟨f, m, rfl, by rw [unhide HM]; go_num, by omega, by omega, unhide hlo, unhide UP, B1⟩
        case measure => have := unhide HM; simp [intOf]; omega
    · obtain rfl : f = t := by omega
      have HP := hide (pos_uni es k f (by omega) (unhide hlo) (fun hi => unhide hup f hi (Nat.le_refl _)))
      have FD := hide (show found es k = match es[f]? with
        | some e => e.k.toList == k.toList
        | none => false by rw [unhide HP]; rfl)
      by_cases hi : f < es.length
      · have R1 := hide ((unhide R).below hb)
        obtain ⟨b, off, rfl, c0, c1⟩ := (unhide R1).2 f hi
        have FD2 := hide (show (es[f].k.toList == k.toList) = found es k by rw [unhide FD, List.getElem?_eq_getElem hi])
        clear FD
        generalize es[f] = em at *
        have hfn : f < n := by omega
        go_wp2_with fail
        refine (keyOf_any em.k em.v _).mono ?_
        rintro e w1 ⟨rfl, hb1⟩
        have B1 := hb.trans (hb1.mono hb.size)
        clear hb hb1
        go_wp2_with fail
        go_ret2
        exact ⟨tup_ib (by rw [← unhide HP]) (unhide FD2), B1⟩
      · have FD2 := hide (show false = found es k by rw [unhide FD, List.getElem?_eq_none (by omega)])
        clear FD
        have hfn : ¬ f < n := by omega
        go_wp2_with fail
        go_ret2
        exact ⟨tup_ib (by rw [← unhide HP]) (unhide FD2), hb⟩
set_option maxHeartbeats 1000000 in
theorem searchEntry_any (a : Option Addr) (n c : Nat) (es : List EntD) (k : ByteArray) (w : World) (hR : ERow w a n es) (hS : Rise es) (hn : n ≤ 100000) :
    Calls Try.prog 47 #[.slice a n c, .string k] w fun e w' => e = .returned (.tuple #[.int .i64 (pos es k : Nat), .bool (found es k)]) ∧ Below w.heap.size w w' := by
  have R := hide hR
  have S := hide hS
  clear hR hS
  go_enter Try.func47, Try.ntmps47
  go_wp2_with fail
  refine (search_any a n c es k w (unhide R) (unhide S) hn).mono ?_
  rintro e w1 ⟨rfl, hb1⟩
  go_wp2_with fail
  go_ret2
  exact ⟨rfl, hb1⟩
/-- The last of the entries that are here is below one. -/
def lastOK (es : List EntD) (e : EntD) : Bool := match es.getLast? with
  | some p => ltK p.k e.k
  | none => true
set_option maxHeartbeats 2000000 in
theorem follows_any (sb : Nat) (lo hi : ByteArray) (r : Int) (a : Option Addr) (n c : Nat) (es : List EntD) (e : EntD) (w : World) (h : SetAt w sb lo hi r (.slice a n c)) (hR : ERow w a n es) (hn : n ≤ 100000) :
    Calls Try.prog 67 #[.pointer (some ⟨sb, 0, none⟩), .agg #[.string e.k, .string e.v]] w fun x w' => x = .returned (.bool (okEnt lo hi e && lastOK es e)) ∧ Below w.heap.size w w' := by
  obtain ⟨T, hT⟩ : ∃ T, T = (okEnt lo hi e && lastOK es e) := ⟨_, rfl⟩
  have HT := hide hT
  rw [← hT]
  clear hT
  have B0 := (Below.refl w.heap.size w).alloc (Nat.le_refl _) (.cells #[.string e.k, .string e.v] 58)
  have R := hide (hR.below B0)
  have HS := hide (h.below B0 h.lt)
  have c3 := (unhide HS).c3
  have L := hR.1
  clear h hR
  by_cases k1 : keyK e.k = true
  · by_cases k2 : valK e.v = true
    · by_cases k3 : inK lo hi e.k = true
      · have HE := hide (show okEnt lo hi e = true by unfold okEnt; rw [k1, k2, k3]; rfl)
        rcases List.eq_nil_or_concat es with rfl | ⟨ini, p, rfl⟩
        · have E := hide (show true = T by rw [unhide HT, unhide HE]; rfl)
          obtain rfl : n = 0 := by simpa using L.symm
          go_enter Try.func67, Try.ntmps67
          go_wp2_with fail
          refine (keyOK_any e.k _).mono ?_
          rintro x w1 ⟨rfl, rfl⟩
          rw [k1]
          go_wp2_with fail
          refine (valueOK_any e.v _).mono ?_
          rintro x w1 ⟨rfl, rfl⟩
          rw [k2]
          go_wp2_with fail
          refine (covers_any sb lo hi r _ e.k _ (unhide HS)).mono ?_
          rintro x w1 ⟨rfl, qc, rfl⟩
          rw [k3]
          go_wp2_with fail
          go_quiet (fail)
          go_wp2_with fail
          go_ret
          exact ⟨ret_bool (unhide E), bel_drewN (bel_drewN B0 _) _⟩
        · have hl : n = ini.length + 1 := by rw [← L]; simp
          have E := hide (show Op.bytesLess p.k.toList e.k.toList = T by rw [unhide HT, unhide HE, List.concat_eq_append]; unfold lastOK; rw [List.getLast?_append]; rfl)
          obtain ⟨b, off, rfl, d0, d1⟩ := (unhide R).2 ini.length (by simp)
          rw [show (ini.concat p)[ini.length]'(by simp) = p by simp] at d0 d1
          generalize ini.length = q at *
          subst hl
          have hq : ((q + 1 : Nat) : Int) - 1 = (q : Int) := by omega
          have hq0 : ((((q + 1 : Nat) : Int)) == 0) = false := by rw [beq_eq_false_iff_ne]; omega
          have hq1 : ((q : Int) + 1 == 0) = false := by rw [beq_eq_false_iff_ne]; omega
          have hq2 : IntKind.i64.wrap (q : Int) = (q : Int) := by rw [IntKind.wrap_i64]; omega
          have hq3 : (q : Int) < (q : Int) + 1 := by omega
          go_enter Try.func67, Try.ntmps67
          go_wp2_with fail
          refine (keyOK_any e.k _).mono ?_
          rintro x w1 ⟨rfl, rfl⟩
          rw [k1]
          go_wp2_with fail
          refine (valueOK_any e.v _).mono ?_
          rintro x w1 ⟨rfl, rfl⟩
          rw [k2]
          go_wp2_with fail
          refine (covers_any sb lo hi r _ e.k _ (unhide HS)).mono ?_
          rintro x w1 ⟨rfl, qc, rfl⟩
          rw [k3]
          go_wp2_with fail
          go_quiet (fail)
          go_wp2_with fail
          go_ret
          exact ⟨ret_bool (unhide E), bel_drewN (bel_drewN B0 _) _⟩
      · have k3 : inK lo hi e.k = false := by simpa using k3
        have E := hide (show false = T by rw [unhide HT]; unfold okEnt; rw [k3, Bool.and_false]; rfl)
        go_enter Try.func67, Try.ntmps67
        go_wp2_with fail
        refine (keyOK_any e.k _).mono ?_
        rintro x w1 ⟨rfl, rfl⟩
        rw [k1]
        go_wp2_with fail
        refine (valueOK_any e.v _).mono ?_
        rintro x w1 ⟨rfl, rfl⟩
        rw [k2]
        go_wp2_with fail
        refine (covers_any sb lo hi r _ e.k _ (unhide HS)).mono ?_
        rintro x w1 ⟨rfl, qc, rfl⟩
        rw [k3]
        go_wp2_with fail
        go_ret
        exact ⟨ret_bool (unhide E), bel_drewN B0 _⟩
    · have k2 : valK e.v = false := by simpa using k2
      have E := hide (show false = T by rw [unhide HT]; unfold okEnt; rw [k2, Bool.and_false]; rfl)
      go_enter Try.func67, Try.ntmps67
      go_wp2_with fail
      refine (keyOK_any e.k _).mono ?_
      rintro x w1 ⟨rfl, rfl⟩
      rw [k1]
      go_wp2_with fail
      refine (valueOK_any e.v _).mono ?_
      rintro x w1 ⟨rfl, rfl⟩
      rw [k2]
      go_wp2_with fail
      go_ret
      exact ⟨ret_bool (unhide E), B0⟩
  · have k1 : keyK e.k = false := by simpa using k1
    have E := hide (show false = T by rw [unhide HT]; unfold okEnt; rw [k1]; rfl)
    go_enter Try.func67, Try.ntmps67
    go_wp2_with fail
    refine (keyOK_any e.k _).mono ?_
    rintro x w1 ⟨rfl, rfl⟩
    rw [k1]
    go_wp2_with fail
    go_ret
    exact ⟨ret_bool (unhide E), B0⟩
end Go.Proofs.Ytkggpapmhopaeaa
