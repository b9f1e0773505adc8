/-
  PgK, FdS, At, VeJ, VaB, FvK, FvP in one.
-/
import Derived.Test.YtfajenejngddeaaGreatFvAll7
import Derived.Test.YtfajenejngddeaaGreatWrT
import Derived.Laws.StructEq
import Derived.Deep.DeepCutAuto
import Derived.Test.YtfajenejngddeaaGreatOwn
import Derived.Test.YtfajenejngddeaaGreatFvAll4
import Derived.Test.YtfajenejngddeaaGreatVrQ
import Derived.Test.YtfajenejngddeaaGreatFvAll2
import Derived.Test.YtfajenejngddeaaGreatFvAll5
import Derived.ProofKit
import Derived.OpenShut
import Derived.ShutString
import Derived.ChangeOld
import Derived.Below
namespace Go.Proofs.YtfajenejngddeaaGreat
open Go.RowKit

end Go.Proofs.YtfajenejngddeaaGreat

namespace Go.Proofs.YtfajenejngddeaaGreat
open Go.RowKit

theorem Tryz.entS : Tryz.prog.underlying 43 = some (.struct (Tryz.prog.fieldsOf 43)) := by kernel_rfl
theorem Tryz.entH : Tryz.prog.stoodInHeld 43 = false := by kernel_rfl
theorem Tryz.entG : Tryz.prog.eqGuardType Tryz.prog.depth 43 = false := by kernel_rfl
set_option maxRecDepth 100000 in
theorem eqEntV (e : EntD) (w : World) : (Op.equalIn 10000 43 (.agg #[.string e.k, .string e.v]) (.agg #[.string e.k, .string e.v])).run Tryz.prog w = .ok true w := by
  rw [run_equalIn_struct w 9999 _ _ _ Tryz.entS Tryz.entH]
  simp [Program.fieldsOf, Tryz.underlying43, Op.eqFields, go_sem, Tryz.underlying9]
set_option maxRecDepth 100000 in
set_option maxHeartbeats 2000000 in
theorem sameEntries_any (a a2 : Option Addr) (n c c2 : Nat) (es : List EntD) (w : World) (h1 : ERow w a n es) (h2 : ERow w a2 n es) (hn : n ≤ 1000) :
    Calls Tryz.prog 10 #[.slice a n c, .slice a2 n c2] w fun e w' => e = .returned (.bool true) ∧ Below w.heap.size w w' := by
  have R1 := hide h1
  have R2 := hide h2
  have LN := hide h1.1
  have q3 := Tryz.entG
  have q4 := eqEntV
  clear h1 h2
  go_enter Tryz.func10, Tryz.ntmps10
  go_wp2_with fail
  go_loopw [5] (fun i wr => ∃ k : Nat, k ≤ n ∧ i = .int .i64 k ∧ Below w.heap.size w wr) (fun i _ => n - (intOf i).toNat)
  case atStart => exact ⟨0, Nat.zero_le _, rfl, Below.refl _ _⟩
  case round =>
    obtain ⟨k, hk, rfl, hb⟩ := hrel
    by_cases hlt : k < n
    · have hl := unhide LN
      obtain ⟨b, off, rfl, c0, c1⟩ := ((unhide R1).below hb).2 k (by omega)
      obtain ⟨b', off', rfl, d0, d1⟩ := ((unhide R2).below hb).2 k (by omega)
      generalize es[k]'(by omega) = em at *
      clear hl
      go_wp2_with fail
      go_quiet (fail)
      go_wp2_with fail
      go_roundw
      case rel => exact ⟨k + 1, by omega, by go_num, bel_drewN hb _⟩
      case measure => simp [intOf]; omega
    · obtain rfl : k = n := by omega
      go_wp2_with fail
      go_ret
      exact ⟨rfl, hb⟩
end Go.Proofs.YtfajenejngddeaaGreat

namespace Go.Proofs.YtfajenejngddeaaGreat
open Go.RowKit

set_option maxHeartbeats 1000000 in
theorem at_any (a : Option Addr) (n c : Nat) (xs : List Int) (m : Int) (w : World) (hr : Row w a n xs) (hby : ∀ i, i < n → 0 ≤ xs.getD i 0 ∧ xs.getD i 0 ≤ 255) (hn : n ≤ 1048576) (hm : 2 ≤ m) (hm2 : m ≤ 100000) :
    Calls Tryz.prog 7 #[.slice a n c, .int .i64 0, .int .i64 m] w fun e w' => ∃ r : Int, e = .returned (.int .i64 r) ∧ 0 ≤ r ∧ r < m ∧ ∃ d, w' = w.drewN d := by
  have R := hide hr
  have BY := hide hby
  clear hr hby
  by_cases h0 : n = 0
  · subst h0
    clear R BY
    go_enter Tryz.func7, Tryz.ntmps7
    go_wp2_with fail
    go_ret
    exact ⟨0, rfl, by omega, by omega, 0, rfl⟩
  have q0 : ((n : Int) == 0) = false := by simp; omega
  obtain ⟨b, off, rfl, e0⟩ := (unhide R).2 0 (by omega)
  obtain ⟨x0, x1⟩ := unhide BY 0 (by omega)
  by_cases h1 : n = 1
  · subst h1
    generalize xs.getD 0 0 = x at *
    simp only [Nat.add_zero] at e0
    go_enter Tryz.func7, Tryz.ntmps7
    go_wp2_with fail
    go_quiet (fail)
    go_wp2_with fail
    go_ret
    refine ⟨_, rfl, ?_, ?_, _, rfl⟩
    · first | exact Int.emod_nonneg _ (by omega) | (simp; omega)
    · first | exact Int.emod_lt_of_pos _ (by omega) | (simp; omega)
  · obtain ⟨b', off', e, e1⟩ := (unhide R).2 1 (by omega)
    cases e
    obtain ⟨y0, y1⟩ := unhide BY 1 (by omega)
    generalize xs.getD 0 0 = x at *
    generalize xs.getD 1 0 = y at *
    simp only [Nat.add_zero] at e0
    have hmod : (1 : Int) % (n : Int) = 1 := Int.emod_eq_of_lt (by omega) (by omega)
    have hdiv : (0 : Int) / (n : Int) = 0 := Int.zero_ediv _
    go_enter Tryz.func7, Tryz.ntmps7
    go_wp2_with fail
    go_quiet (fail)
    go_wp2_with fail
    go_ret
    refine ⟨_, rfl, ?_, ?_, _, rfl⟩
    · first | exact Int.emod_nonneg _ (by omega) | (simp; omega)
    · first | exact Int.emod_lt_of_pos _ (by omega) | (simp; omega)
end Go.Proofs.YtfajenejngddeaaGreat

namespace Go.Proofs.YtfajenejngddeaaGreat
open Go.RowKit Go.Maps

def eeC (ds : List VerD) : Int := if ds.length ≤ 4096 then (if okVs ds = true then 0 else 1) else 2
def eeL (ds : List VerD) (t : Int) : List KvD := if ds.length ≤ 4096 ∧ okVs ds = true then entsAt ds t else []
/-- What EntriesAt gives. -/
def EeRes (ds : List VerD) (t : Int) (w : World) (e : Ending) (w' : World) : Prop := ∃ v, e = .returned (.tuple #[v, .int .i64 (eeC ds)]) ∧ KOwns w' w.heap.size v (eeL ds t) ∧ Below w.heap.size w w'
theorem ee_none {ds : List VerD} {t c : Int} {v : Value} {w w' : World} (hc : eeC ds = c) (hl : ¬ (ds.length ≤ 4096 ∧ okVs ds = true)) (ho : KOwns w' w.heap.size v []) (hb : Below w.heap.size w w') : EeRes ds t w (.returned (.tuple #[v, .int .i64 c])) w' := by
  refine ⟨v, by rw [hc], ?_, hb⟩
  unfold eeL
  rw [if_neg hl]
  exact ho
theorem ee_some {ds : List VerD} {t : Int} {v : Value} {w w' : World} (hl : ds.length ≤ 4096) (hok : okVs ds = true) (ho : KOwns w' w.heap.size v (entsAt ds t)) (hb : Below w.heap.size w w') : EeRes ds t w (.returned (.tuple #[v, .int .i64 0])) w' := by
  refine ⟨v, by unfold eeC; rw [if_pos hl, if_pos hok], ?_, hb⟩
  unfold eeL
  rw [if_pos ⟨hl, hok⟩]
  exact ho
theorem verAt_key {ds : List VerD} {k : ByteArray} {t : Int} {x : VerD} (h : verAt ds k t = some x) : x.k = k := by
  unfold verAt at h
  split at h
  · rename_i d hd
    split at h
    · cases h
    · injection h with h
      subst h
      unfold lastAt at hd
      have h1 := List.mem_of_getLast? hd
      have h2 := (List.mem_filter.1 h1).1
      exact of_decide_eq_true (List.mem_filter.1 h2).2
  · cases h
theorem seen_ents (ds : List VerD) (t : Int) : seenL (fun k => verAt ds k t) (dkeys ds) = entsAt ds t := by
  unfold entsAt seenL dkeys
  rw [ents_dk ds t _ (Nat.le_refl _)]
  congr 1
  funext k
  show seeK k (verAt ds k t) = kvOf (verAt ds k t)
  cases h : verAt ds k t with
  | none => rfl
  | some x => simp [seeK, kvOf, verAt_key h]
set_option maxRecDepth 100000 in
set_option maxHeartbeats 4000000 in
theorem specEntriesAt_any (a : Option Addr) (n c : Nat) (ds : List VerD) (t : Int) (w : World) (hn : n ≤ 1048576) (hr : VRow w a n ds) :
    Calls Tryz.prog 9 #[.slice a n c, .int .i64 t] w fun e w' => EeRes ds t w e w' := by
  have LN := hide hr.1
  have R := hide hr
  have HL := hide (show ∀ u : World, w.heap.size ≤ u.heap.size → KOwns (u.alloc (.cells #[] 43)) w.heap.size (.slice (some ⟨u.heap.size, 0, none⟩) 0 0) [] from fun u hu => World.ownsRow_lit _ _ _ hu (by unfold maxLen; simp) rfl)
  clear hr
  by_cases h4 : n ≤ 4096
  · have g4 : ¬ (4096 : Int) < (n : Int) := by omega
    have L4 : ds.length ≤ 4096 := by rw [unhide LN]; exact h4
    have EN := hide (fun (u : World) (hb : Below w.heap.size w u) => l06Entries_any a n c ds t u (by omega) ((unhide R).below hb))
    go_enter Tryz.func9, Tryz.ntmps9
    go_wp2_with fail
    refine (l06List_any a n c ds w hn (unhide R)).mono ?_
    rintro e w1 ⟨rfl, hb1⟩
    cases hok : okVs ds with
    | false =>
      have Z := hide (ee_none (t := t) (c := 1) (show eeC ds = 1 by unfold eeC; rw [if_pos L4, if_neg (by rw [hok]; decide)]) (fun h => by rw [hok] at h; exact absurd h.2 (by decide)) (unhide HL w1 hb1.size) (hb1.alloc hb1.size _))
      clear R EN HL
      go_wp2_with fail
      go_ret2
      exact unhide Z
    | true =>
      go_wp2_with fail
      refine (unhide EN w1 hb1).mono ?_
      rintro e w2 ⟨v, rfl, ho, hb2⟩
      have ho' : KOwns w2 w.heap.size v (entsAt ds t) := by
        refine ⟨ho.1, ?_⟩
        rcases ho.2 with h | ⟨g, cap, cur, e, hb, r⟩
        · exact .inl h
        · exact .inr ⟨g, cap, cur, e, Nat.le_trans hb1.size hb, r⟩
      have Z := hide (ee_some L4 hok ho' (hb1.trans (hb2.mono hb1.size)))
      clear R EN HL ho ho'
      go_wp2_with fail
      go_ret2
      exact unhide Z
  · have g4 : (4096 : Int) < (n : Int) := by omega
    have Z := hide (ee_none (t := t) (c := 2) (show eeC ds = 2 by unfold eeC; rw [if_neg (by rw [unhide LN]; exact h4)]) (fun h => h4 (by rw [← unhide LN]; exact h.1)) (unhide HL w (Nat.le_refl _)) ((Below.refl _ _).alloc (Nat.le_refl _) _))
    clear R HL
    go_enter Tryz.func9, Tryz.ntmps9
    go_wp2_with fail
    go_ret2
    exact unhide Z
set_option maxRecDepth 100000 in
set_option maxHeartbeats 4000000 in
theorem implEntriesAt_any (a : Option Addr) (n c : Nat) (ds : List VerD) (t : Int) (w : World) (hn : n ≤ 1048576) (hr : VRow w a n ds) :
    Calls Tryz.prog 8 #[.slice a n c, .int .i64 t] w fun e w' => EeRes ds t w e w' := by
  have LN := hide hr.1
  have R := hide hr
  have HL := hide (show ∀ u : World, KOwns u w.heap.size (.slice none 0 0) [] from fun u => World.ownsRow_nil _ _ _ _)
  clear hr
  by_cases h4 : n ≤ 4096
  · have g4 : ¬ (4096 : Int) < (n : Int) := by omega
    have L4 : ds.length ≤ 4096 := by rw [unhide LN]; exact h4
    go_enter Tryz.func8, Tryz.ntmps8
    go_wp2_with fail
    refine (listOK_any a n c ds w hn (unhide R)).mono ?_
    rintro e w1 ⟨rfl, hb1⟩
    cases hok : okVs ds with
    | false =>
      have Z := hide (ee_none (t := t) (c := 1) (show eeC ds = 1 by unfold eeC; rw [if_pos L4, if_neg (by rw [hok]; decide)]) (fun h => by rw [hok] at h; exact absurd h.2 (by decide)) (unhide HL w1) hb1)
      clear R HL
      go_wp2_with fail
      go_ret2
      exact unhide Z
    | true =>
      have HS := hide (show ∀ i (hi : i < ds.length), ds[i].k.size ≤ maxLen from fun i hi => by have := verK_small (okVs_ver hok hi); unfold maxLen; omega)
      have R1 := hide ((unhide R).below hb1)
      have KSZ := hide (show ∀ k ∈ dkeys ds, k.size ≤ maxLen from fun k hk => by
        obtain ⟨i, hi, _, rfl⟩ := (dk_mem ds k _ (Nat.le_refl _)).1 hk
        exact unhide HS i hi)
      go_wp2_with fail
      refine (historyOf_any a n c ds w1 h4 (unhide R1) (unhide HS)).mono ?_
      rintro e w2 ⟨f, rfl, hH, hb2⟩
      have B2 := hb1.trans (hb2.mono hb1.size)
      have KA := hide (keys_any w1.heap.size n (w1.heap.size + 1) f ds w2 hH hok (by omega))
      have HH := hide hH
      clear hH R1 HS hb2
      go_wp2_with fail
      refine (unhide KA).mono ?_
      rintro e w3 ⟨v, rfl, hO, hb3⟩
      have B3 := B2.trans (hb3.mono B2.size)
      have H3 := hide ((unhide HH).below hb3)
      obtain ⟨ak, ck, rfl, hSR⟩ := strrow_of_owns hO
      have SR := hide hSR
      clear KA HH hO hSR hb3
      have hkl := dkTo_len ds ds.length
      have hkl2 : (dkeys ds).length ≤ 4096 := by unfold dkeys; omega
      generalize hnk : (dkeys ds).length = nk at *
      have hnk' := hide hnk
      clear hnk
      go_wp2_with fail
      refine (viewAt_any w1.heap.size t w3).mono ?_
      rintro e w4 ⟨rfl, hw4⟩
      have b4 : Below w3.heap.size w3 w4 := by rw [hw4]; exact ((Below.refl _ _).alloc (Nat.le_refl _) _).alloc (by simp) _
      have c1 : w4.cell? ⟨w3.heap.size, 0, none⟩ = some (.map (some w1.heap.size)) := by rw [hw4]; simp [go_sem]
      have c2 : w4.cell? ⟨w3.heap.size + 1, 0, none⟩ = some (.int .i64 t) := by rw [hw4]; simp [go_sem]
      have B4 := hide (B3.trans (b4.mono B3.size))
      have ES := hide (entriesSeen_any ak nk ck (dkeys ds) (some ⟨w3.heap.size, 0, none⟩) (some ⟨w3.heap.size + 1, 0, none⟩) (fun k => verAt ds k t) w4 (by omega) ((unhide SR).below b4) (fun k hk u hu =>
        (view_any w3.heap.size (w3.heap.size + 1) w1.heap.size n (w1.heap.size + 1) f ds k t u (((unhide H3).below b4).below hu) hok L4 (unhide KSZ k hk) ((hu.cell (p := ⟨w3.heap.size, 0, none⟩) (cell_lt c1)).trans c1) ((hu.cell (p := ⟨w3.heap.size + 1, 0, none⟩) (cell_lt c2)).trans c2)).mono (fun e u' h => vw_gives h)))
      clear hw4 c1 c2 SR H3 B2 B3 b4
      go_wp2_with fail
      refine (unhide ES).mono ?_
      rintro e w5 ⟨v, rfl, ho, hb5⟩
      rw [seen_ents] at ho
      have ho' : KOwns w5 w.heap.size v (entsAt ds t) := by
        refine ⟨ho.1, ?_⟩
        rcases ho.2 with h | ⟨g, cap, cur, e, hb, r⟩
        · exact .inl h
        · exact .inr ⟨g, cap, cur, e, Nat.le_trans (unhide B4).size hb, r⟩
      have Z := hide (ee_some L4 hok ho' ((unhide B4).trans (hb5.mono (unhide B4).size)))
      clear ho ho' ES B4 hb5 KSZ HL
      go_wp2_with fail
      go_ret2
      exact unhide Z
  · have g4 : (4096 : Int) < (n : Int) := by omega
    have Z := hide (ee_none (t := t) (c := 2) (show eeC ds = 2 by unfold eeC; rw [if_neg (by rw [unhide LN]; exact h4)]) (fun h => h4 (by rw [← unhide LN]; exact h.1)) (unhide HL w) (Below.refl _ _))
    clear R HL
    go_enter Tryz.func8, Tryz.ntmps8
    go_wp2_with fail
    go_ret2
    exact unhide Z
end Go.Proofs.YtfajenejngddeaaGreat

namespace Go.Proofs.YtfajenejngddeaaGreat
open Go.RowKit Go.Maps

set_option maxRecDepth 100000 in
set_option maxHeartbeats 4000000 in
theorem implVersionAt_any (a : Option Addr) (n c : Nat) (ds : List VerD) (k : ByteArray) (t : Int) (w : World) (hn : n ≤ 1048576) (hr : VRow w a n ds) :
    Calls Tryz.prog 11 #[.slice a n c, .string k, .int .i64 t] w fun e w' => VaRes ds k t w e w' := by
  have LN := hide hr.1
  have R := hide hr
  clear hr
  have b0 : Below w.heap.size w (w.alloc (.cells #[.string ⟨#[]⟩, .int .i64 0, .string ⟨#[]⟩, .bool false] 39)) := (Below.refl _ _).alloc (Nat.le_refl _) _
  have KR := hide (heap_alloc_new w (.cells #[.string ⟨#[]⟩, .int .i64 0, .string ⟨#[]⟩, .bool false] 39))
  have zs : (w.alloc (.cells #[.string ⟨#[]⟩, .int .i64 0, .string ⟨#[]⟩, .bool false] 39)).heap.size = w.heap.size + 1 := by simp
  have q3 : w.heap.size ≤ w.heap.size := Nat.le_refl _
  by_cases h4 : n ≤ 4096
  · have g4 : ¬ (4096 : Int) < (n : Int) := by omega
    by_cases h5 : k.size ≤ 65536
    · have g5 : ¬ (65536 : Int) < (k.size : Int) := by omega
      have LL : ds.length ≤ 4096 ∧ k.size ≤ 65536 := ⟨by rw [unhide LN]; exact h4, h5⟩
      have RW := hide ((unhide R).below b0)
      go_enter Tryz.func11, Tryz.ntmps11
      go_wp2_with fail
      generalize w.alloc (.cells #[.string ⟨#[]⟩, .int .i64 0, .string ⟨#[]⟩, .bool false] 39) = W at *
      refine (listOK_any a n c ds W hn (unhide RW)).mono ?_
      rintro e w1 ⟨rfl, hb1⟩
      have B1 := b0.trans (hb1.mono b0.size)
      have KR1 := hide ((hb1.block w.heap.size (by omega)).trans (unhide KR))
      have R1 := hide ((unhide R).below B1)
      have s1 := hb1.size
      clear KR RW R hb1 b0
      cases hok : okVs ds with
      | false =>
        obtain ⟨y0, y1, y2, y3⟩ : w1.cell? ⟨w.heap.size, 0, none⟩ = some (.string ⟨#[]⟩) ∧ w1.cell? ⟨w.heap.size, 1, none⟩ = some (.int .i64 0) ∧ w1.cell? ⟨w.heap.size, 2, none⟩ = some (.string ⟨#[]⟩) ∧ w1.cell? ⟨w.heap.size, 3, none⟩ = some (.bool false) := ⟨(heap_at (unhide KR1) 0).1, (heap_at (unhide KR1) 1).1, (heap_at (unhide KR1) 2).1, (heap_at (unhide KR1) 3).1⟩
        have f0 := (heap_at (unhide KR1) 0).2
        have f1 := (heap_at (unhide KR1) 1).2
        have f2 := (heap_at (unhide KR1) 2).2
        have f3 := (heap_at (unhide KR1) 3).2
        go_wp2_with fail
        refine bodyPost_ret (v := .tuple #[vv noV, .int .i64 1]) (by unfold vv noV; simp [results, Tryz.results11, go_sem, *] <;> rfl) rfl ?_
        exact va_bad LL hok ((((B1.setCell (p := ⟨w.heap.size, 0, none⟩) q3 _).setCell (p := ⟨w.heap.size, 1, none⟩) q3 _).setCell (p := ⟨w.heap.size, 2, none⟩) q3 _).setCell (p := ⟨w.heap.size, 3, none⟩) q3 _)
      | true =>
        have HS := hide (show ∀ i (hi : i < ds.length), ds[i].k.size ≤ maxLen from fun i hi => by have := verK_small (okVs_ver hok hi); unfold maxLen; omega)
        go_wp2_with fail
        refine (historyOf_any a n c ds w1 h4 (unhide R1) (unhide HS)).mono ?_
        rintro e w2 ⟨f, rfl, hH, hb2⟩
        have B2 := B1.trans (hb2.mono B1.size)
        have KR2 := hide ((hb2.block w.heap.size (by omega)).trans (unhide KR1))
        have s2 := hb2.size
        clear KR1 R1 HS hb2
        go_wp2_with fail
        refine (viewAt_any w1.heap.size t w2).mono ?_
        rintro e w3 ⟨rfl, hw3⟩
        have b3 : Below w2.heap.size w2 w3 := by rw [hw3]; exact ((Below.refl _ _).alloc (Nat.le_refl _) _).alloc (by simp) _
        have c1 : w3.cell? ⟨w2.heap.size, 0, none⟩ = some (.map (some w1.heap.size)) := by rw [hw3]; simp [go_sem]
        have c2 : w3.cell? ⟨w2.heap.size + 1, 0, none⟩ = some (.int .i64 t) := by rw [hw3]; simp [go_sem]
        have B3 := B2.trans (b3.mono B2.size)
        have KR3 := hide ((b3.block w.heap.size (by omega)).trans (unhide KR2))
        have s3 := b3.size
        have VW := hide (view_any w2.heap.size (w2.heap.size + 1) w1.heap.size n (w1.heap.size + 1) f ds k t w3 (hH.below b3) hok LL.1 (by unfold maxLen; omega) c1 c2)
        clear KR2 hH hw3 b3 c1 c2
        go_wp2_with fail
        refine (unhide VW).mono ?_
        intro e w4 hv
        rcases hv with ⟨x, rfl, hva, hb4⟩ | ⟨x, rfl, hva, hb4⟩
        · have B4 := B3.trans (hb4.mono B3.size)
          have KR4 := hide ((hb4.block w.heap.size (by omega)).trans (unhide KR3))
          have s4 := hb4.size
          clear KR3 hb4 VW
          obtain ⟨xk, xt, xv, xg⟩ := x
          unfold vv
          have bL : Below w4.heap.size w4 (w4.alloc (.cells #[.string xk, .int .i64 xt, .string xv, .bool xg] 39)) := (Below.refl _ _).alloc (Nat.le_refl _) _
          have B5 := B4.trans (bL.mono B4.size)
          have KR5 := hide ((bL.block w.heap.size (by omega)).trans (unhide KR4))
          clear KR4 bL B1 B2 B3
          obtain ⟨y0, y1, y2, y3⟩ : (w4.alloc (.cells #[.string xk, .int .i64 xt, .string xv, .bool xg] 39)).cell? ⟨w.heap.size, 0, none⟩ = some (.string ⟨#[]⟩) ∧ (w4.alloc (.cells #[.string xk, .int .i64 xt, .string xv, .bool xg] 39)).cell? ⟨w.heap.size, 1, none⟩ = some (.int .i64 0) ∧ (w4.alloc (.cells #[.string xk, .int .i64 xt, .string xv, .bool xg] 39)).cell? ⟨w.heap.size, 2, none⟩ = some (.string ⟨#[]⟩) ∧ (w4.alloc (.cells #[.string xk, .int .i64 xt, .string xv, .bool xg] 39)).cell? ⟨w.heap.size, 3, none⟩ = some (.bool false) := ⟨(heap_at (unhide KR5) 0).1, (heap_at (unhide KR5) 1).1, (heap_at (unhide KR5) 2).1, (heap_at (unhide KR5) 3).1⟩
          have f0 := (heap_at (unhide KR5) 0).2
          have f1 := (heap_at (unhide KR5) 1).2
          have f2 := (heap_at (unhide KR5) 2).2
          have f3 := (heap_at (unhide KR5) 3).2
          go_wp2_with fail
          refine bodyPost_ret (v := .tuple #[vv noV, .int .i64 5]) (by unfold vv noV; simp [results, Tryz.results11, go_sem, *] <;> rfl) rfl ?_
          exact va_none LL hok hva ((((B5.setCell (p := ⟨w.heap.size, 0, none⟩) q3 _).setCell (p := ⟨w.heap.size, 1, none⟩) q3 _).setCell (p := ⟨w.heap.size, 2, none⟩) q3 _).setCell (p := ⟨w.heap.size, 3, none⟩) q3 _)
        · have B4 := B3.trans (hb4.mono B3.size)
          have KR4 := hide ((hb4.block w.heap.size (by omega)).trans (unhide KR3))
          have s4 := hb4.size
          clear KR3 hb4 VW
          obtain ⟨xk, xt, xv, xg⟩ := x
          unfold vv
          have bL : Below w4.heap.size w4 (w4.alloc (.cells #[.string xk, .int .i64 xt, .string xv, .bool xg] 39)) := (Below.refl _ _).alloc (Nat.le_refl _) _
          have B5 := B4.trans (bL.mono B4.size)
          have KR5 := hide ((bL.block w.heap.size (by omega)).trans (unhide KR4))
          clear KR4 bL B1 B2 B3
          obtain ⟨y0, y1, y2, y3⟩ : (w4.alloc (.cells #[.string xk, .int .i64 xt, .string xv, .bool xg] 39)).cell? ⟨w.heap.size, 0, none⟩ = some (.string ⟨#[]⟩) ∧ (w4.alloc (.cells #[.string xk, .int .i64 xt, .string xv, .bool xg] 39)).cell? ⟨w.heap.size, 1, none⟩ = some (.int .i64 0) ∧ (w4.alloc (.cells #[.string xk, .int .i64 xt, .string xv, .bool xg] 39)).cell? ⟨w.heap.size, 2, none⟩ = some (.string ⟨#[]⟩) ∧ (w4.alloc (.cells #[.string xk, .int .i64 xt, .string xv, .bool xg] 39)).cell? ⟨w.heap.size, 3, none⟩ = some (.bool false) := ⟨(heap_at (unhide KR5) 0).1, (heap_at (unhide KR5) 1).1, (heap_at (unhide KR5) 2).1, (heap_at (unhide KR5) 3).1⟩
          have f0 := (heap_at (unhide KR5) 0).2
          have f1 := (heap_at (unhide KR5) 1).2
          have f2 := (heap_at (unhide KR5) 2).2
          have f3 := (heap_at (unhide KR5) 3).2
          go_wp2_with fail
          refine bodyPost_ret (v := .tuple #[vv ⟨xk, xt, xv, xg⟩, .int .i64 0]) (by unfold vv; simp [results, Tryz.results11, go_sem, *] <;> rfl) rfl ?_
          exact va_some LL hok hva ((((B5.setCell (p := ⟨w.heap.size, 0, none⟩) q3 _).setCell (p := ⟨w.heap.size, 1, none⟩) q3 _).setCell (p := ⟨w.heap.size, 2, none⟩) q3 _).setCell (p := ⟨w.heap.size, 3, none⟩) q3 _)
    · have g5 : (65536 : Int) < (k.size : Int) := by omega
      go_enter Tryz.func11, Tryz.ntmps11
      go_wp2_with fail
      refine bodyPost_ret (v := .tuple #[vv noV, .int .i64 2]) (by unfold vv noV; simp [results, Tryz.results11, go_sem, *] <;> rfl) rfl ?_
      exact va_long (by exact fun x => h5 x.2) b0
  · have g4 : (4096 : Int) < (n : Int) := by omega
    go_enter Tryz.func11, Tryz.ntmps11
    go_wp2_with fail
    refine bodyPost_ret (v := .tuple #[vv noV, .int .i64 2]) (by unfold vv noV; simp [results, Tryz.results11, go_sem, *] <;> rfl) rfl ?_
    exact va_long (by exact fun x => h4 (by have := unhide LN; omega)) b0
end Go.Proofs.YtfajenejngddeaaGreat

namespace Go.Proofs.YtfajenejngddeaaGreat
open Go.RowKit

theorem k_erow {w : World} {B n c : Nat} {a : Option Addr} {ds : List KvD} (h : KOwns w B (.slice a n c) ds) : ERow w a n (ds.map kvE) := by
  refine erow_of_owns (B := B) (c := c) ?_
  unfold EOwns
  rw [List.length_map, ← kcs_ecs]
  exact h
theorem k_at {w : World} {B n c : Nat} {a : Option Addr} {ds : List KvD} (h : KOwns w B (.slice a n c) ds) {i : Nat} (hi : i < ds.length) : ∃ g, a = some ⟨g, 0, none⟩ ∧ n = ds.length ∧ w.cell? ⟨g, i * 2, none⟩ = some (.string ds[i].k) ∧ w.cell? ⟨g, i * 2 + 1, none⟩ = some (.string ds[i].v) := by
  have hn := owns_n h
  subst hn
  rcases h.2 with ⟨e, h0⟩ | ⟨g, cap, cur, e, _⟩
  · omega
  · injection e with e1 _ e3
    subst e1 e3
    have h0 := h.cellAt (i * 2) (by omega)
    have h1 := h.cellAt (i * 2 + 1) (by omega)
    obtain ⟨a0, a1⟩ := kcs_at ds i hi
    exact ⟨g, rfl, rfl, by rw [h0, a0], by rw [h1, a1]⟩
theorem vz_few {w : World} {l f s : Sl} {hs : List SeH} {d : VsD} (h : VzIn w l f s hs d) {k : Nat} (hr : RunV d k) (hk : k ≤ 4096) : VsFew l f s (hs.map seR) := by
  have h1 := h.vr.1
  have h2 := h.fr.1
  have h3 := h.len
  have h4 := hr.cnt
  have h5 := hr.fen
  have h6 := hr.ses
  refine ⟨by omega, by omega, by omega, fun i hi => ?_⟩
  rw [List.length_map] at hi
  rw [List.getElem_map]
  have h7 := (SeIn.row h.sr hi).1
  obtain ⟨hd, he⟩ := h.at hi
  have h8 := sesK_ws (hr.sk _ (List.getElem_mem hd))
  rw [← he] at h8
  show hs[i].s0.n ≤ 1048576
  omega
/-- A key's version in words of the entries. -/
theorem va_ent {ds : List VerD} {t : Int} {e : KvD} (ok : okVs ds = true) (hl : ds.length ≤ 4096) (hk : e.k.size ≤ 65536) (he : e ∈ entsAt ds t) : ∃ x, vaC ds e.k t = 0 ∧ vaV ds e.k t = x ∧ x.v = e.v ∧ x.t ≤ t ∧ x.g = false := by
  obtain ⟨x, hx, h1, h2, h3⟩ := ents_at he
  refine ⟨x, ?_, ?_, h1, h2, h3⟩
  · unfold vaC; rw [if_pos ⟨hl, hk⟩, if_pos ok, hx]
  · unfold vaV; rw [if_pos ⟨hl, hk, ok⟩, hx]; rfl
theorem ent_short {ds : List VerD} {t : Int} {e : KvD} (ok : okVs ds = true) (he : e ∈ entsAt ds t) : e.k.size ≤ 65536 := by
  obtain ⟨x, hx, _⟩ := ents_at he
  obtain ⟨h1, _, _, h4⟩ := verAt_of hx
  have := verK_small (((okVs_iff ds).1 ok).1 x h4)
  rw [← h1]
  omega
set_option maxRecDepth 100000 in
set_option maxHeartbeats 16000000 in
theorem fnVersions_law (aa : Option Addr) (na ca : Nat) (zs1 : List Int) (ab : Option Addr) (nb cb : Nat) (zs2 : List Int) (w : World) (h1 : IsRow .u8 w aa na ca zs1) (h2 : IsRow .u8 w ab nb cb zs2) :
    Calls Tryz.prog 3 #[.slice aa na ca, .slice ab nb cb] w fun e w' => e = .returned (.bool true) ∧ Below w.heap.size w w' := by
  obtain ⟨hr1, hm1, _⟩ := row_of_isRow h1
  obtain ⟨hr2, hm2, hbb⟩ := row_of_isRow h2
  have by1 := hide (bytes_of_isRow h1)
  have by2 := hide (bytes_of_isRow h2)
  clear h1 h2
  unfold maxLen at hm1 hm2
  by_cases hbig : 1048576 < na
  · clear hr1 by1 hr2 by2 hbb
    go_enter Tryz.func3, Tryz.ntmps3
    go_wp2_with fail
    go_ret
    exact ⟨rfl, Below.refl _ _⟩
  have hn1 : na ≤ 1048576 := by omega
  by_cases hbig2 : 1048576 < nb
  · clear hr1 by1 hr2 by2 hbb
    go_enter Tryz.func3, Tryz.ntmps3
    go_wp2_with fail
    go_ret
    exact ⟨rfl, Below.refl _ _⟩
  have hn2 : nb ≤ 1048576 := by omega
  clear hm1 hm2 hbig hbig2
  generalize zs1.take na = xs1 at *
  generalize zs2.take nb = xs2 at *
  have R1 := hide hr1
  have R2 := hide (show ∀ u, Below w.heap.size w u → Row u ab nb xs2 from fun u hu => ⟨hr2.1, fun i hi => by
    obtain ⟨b, off, e, hc⟩ := hr2.2 i hi
    exact ⟨b, off, e, (hu.cell (p := ⟨b, off + i, none⟩) (cell_lt hc)).trans hc⟩⟩)
  clear hr1 hr2 hbb
  go_enter Tryz.func3, Tryz.ntmps3
  go_wp2_with fail
  refine (txActsOf_any aa na ca xs1 w (unhide R1) (unhide by1) hn1).mono ?_
  rintro e w1 ⟨g, m, cm, ds, rfl, hX, hd60, -, hb1⟩
  have XR := xrow_of_owns hX
  have hm60 : m ≤ 60 := by have := XR.1; omega
  have TR := hide (specTxRun_any (some ⟨g, 0, none⟩) m cm ds w1 XR (by omega))
  have B1 := hide hb1
  clear hX hb1 R1 by1 XR
  go_wp2_with fail
  refine (unhide TR).mono ?_
  rintro e w2 ⟨⟨la, ln, lc⟩, ⟨fa, fn, fc⟩, ⟨sa, sn, sc⟩, hs, ⟨qa, qn, qc⟩, zs, rfl, hO, -, -, hb2⟩
  have eV : txV ds = (runV ds).1 := by unfold txV; rw [if_neg (by omega)]
  have eC : txC ds = 0 := by unfold txC; rw [if_neg (by omega), if_neg (by omega)]
  rw [eV] at hO
  rw [eV, eC]
  clear eV eC TR
  have RV : RunV (runV ds).1 60 := by
    have := runV_ok ds ds.length (Nat.le_refl _)
    rw [List.take_length] at this
    exact this.more hd60
  generalize (runV ds).1 = d at *
  have ok := RV.ok
  have okD := RV.okD (by omega)
  have hll : d.list.length ≤ 60 := by have := RV.cnt; omega
  have hnx := RV.nx
  unfold vzC
  simp only
  obtain ⟨W, hW⟩ : ∃ W, W = w2.alloc (.cells #[.int .i64 d.next, .slice la ln lc, .slice fa fn fc, .slice sa sn sc] 27) := ⟨_, rfl⟩
  have bW : Below w2.heap.size w2 W := by rw [hW]; exact (Below.refl _ _).alloc (Nat.le_refl _) _
  have kW : W.heap[w2.heap.size]? = some (.cells #[.int .i64 d.next, .slice la ln lc, .slice fa fn fc, .slice sa sn sc] 27 (0, 0)) := by rw [hW]; exact heap_alloc_new _ _
  have I0 := hO.reads.below bW
  have b12 := (unhide B1).trans (hb2.mono (unhide B1).size)
  have BW := hide (b12.trans (bW.mono b12.size))
  have hln : ln = d.list.length := I0.vr.1.symm
  have hln60 : ln ≤ 60 := by omega
  have HLN := hide hln
  clear hln
  -- what holds of the Versions in whatever world comes
  have VI := hide (fun (u : World) (hu : Below W.heap.size W u) => I0.below hu)
  have FEW := hide (vz_few I0 RV (by omega))
  have KB := hide (show ∀ u, Below W.heap.size W u → u.heap[w2.heap.size]? = some (.cells #[.int .i64 d.next, .slice la ln lc, .slice fa fn fc, .slice sa sn sc] 27 (0, 0)) from fun u hu => (hu.block _ (blk_lt kW)).trans kW)
  have CSN := hide (show sa = none → sc = 0 from (cap_of_owns (s := ⟨sa, sn, sc⟩) hO.so.row).2)
  clear hO bW I0 hb2 b12 RV hd60 hm60
  go_wp2_with fail
  rw [← hW]
  clear hW
  generalize hvb : w2.heap.size = vb at *
  clear hvb
  refine (at_any ab nb cb xs2 12 W (unhide R2 W (unhide BW)) (unhide by2) hn2 (by omega) (by omega)).mono ?_
  rintro e w3 ⟨t, rfl, ht0, ht1, q3, hw3⟩
  have D3 := hide (show Below W.heap.size W w3 from by rw [hw3]; exact bel_drewN (Below.refl _ _) _)
  clear hw3 kW R2 by2
  have v1 := (heap_at (unhide KB w3 (unhide D3)) 1).1
  have C1 := hide (implEntriesAt_any la ln lc d.list t w3 (by omega) (unhide VI w3 (unhide D3)).vr)
  go_wp2_with fail
  refine (unhide C1).mono ?_
  rintro e w4 ⟨v4, rfl, o4, b4⟩
  have eC : eeC d.list = 0 := by unfold eeC; rw [if_pos (by omega), if_pos ok]
  have eL : ∀ u, eeL d.list u = entsAt d.list u := fun u => by unfold eeL; rw [if_pos ⟨by omega, ok⟩]
  rw [eL] at o4
  rw [eC]
  have D4 := hide ((unhide D3).trans (b4.mono (unhide D3).size))
  have hel := ents_len d.list t
  obtain ⟨a4, c4, rfl⟩ := us_sl o4
  have O4 := hide o4
  clear o4 b4 C1 v1
  have v1 := (heap_at (unhide KB w4 (unhide D4)) 1).1
  have C2 := hide (specEntriesAt_any la ln lc d.list t w4 (by omega) (unhide VI w4 (unhide D4)).vr)
  go_wp2_with fail
  refine (unhide C2).mono ?_
  rintro e w5 ⟨v5, rfl, o5, b5⟩
  rw [eL] at o5
  rw [eC]
  have D5 := hide ((unhide D4).trans (b5.mono (unhide D4).size))
  obtain ⟨a5, c5, rfl⟩ := us_sl o5
  have O45 := hide (rb_ownsRow_below (unhide O4) b5)
  have EM := hide (fun (i : Nat) (hi : i < (entsAt d.list t).length) => va_ent ok (by omega) (ent_short ok (List.getElem_mem hi)) (List.getElem_mem hi))
  have C3 := hide (sameEntries_any a4 a5 (entsAt d.list t).length c4 c5 ((entsAt d.list t).map kvE) w5 (k_erow (unhide O45)) (k_erow o5) (by omega))
  clear eL eC
  generalize entsAt d.list t = ents at *
  clear o5 b5 C2 v1 O4
  obtain ⟨ne, hne⟩ : ∃ ne, ne = ents.length := ⟨_, rfl⟩
  rw [← hne] at C3 hel ⊢
  have HNE := hide hne.symm
  have hne60 : ne ≤ 60 := by omega
  clear hne hel
  go_wp2_with fail
  refine (unhide C3).mono ?_
  rintro e w6 ⟨rfl, b6⟩
  have D6 := hide ((unhide D5).trans (b6.mono (unhide D5).size))
  have O6 := hide (rb_ownsRow_below (unhide O45) b6)
  clear b6 C3 O45 D5 D4 D3
  go_wp2_with fail
  go_loopw [13] (fun iv wr => ∃ k : Nat, iv = .int .i64 (k : Int) ∧ k ≤ ne ∧ Hid (Below w6.heap.size w6 wr)) (fun iv _ => ne - (intOf iv).toNat)
  case atStart => exact ⟨0, rfl, Nat.zero_le _, hide (Below.refl _ _)⟩
  case round =>
    obtain ⟨k, rfl, hk, hB⟩ := hrel
    by_cases hlt : k < ne
    · have hkl : k < ents.length := by rw [unhide HNE]; exact hlt
      have hkn : (k : Int) < (ne : Int) := by omega
      have DW := hide ((unhide D6).trans ((unhide hB).mono (unhide D6).size))
      obtain ⟨ge, hae, -, d0, d1⟩ := k_at (rb_ownsRow_below (unhide O6) (unhide hB)) hkl
      subst hae
      obtain ⟨x, hx1, hx2, hx3, hx4, hx5⟩ := unhide EM k hkl
      have v1 := (heap_at (unhide KB wr (unhide DW)) 1).1
      simp only [List.getElem?_toArray, List.getElem?_cons_zero, List.getElem?_cons_succ] at v1
      have CV := hide (fun (u : World) (hu : Below wr.heap.size wr u) => implVersionAt_any la ln lc d.list ents[k].k t u (by omega) (unhide VI u ((unhide DW).trans (hu.mono (unhide DW).size))).vr)
      unfold VaRes at CV
      rw [hx1, hx2] at CV
      rw [← hx3] at d1
      generalize ents[k].k = key at *
      clear hx1 hx2 hx3
      obtain ⟨xk, xt, xv, xg⟩ := x
      simp only at hx4 hx5 d1
      subst hx5
      unfold vv at CV
      simp only at CV
      have SK := hide (show ∀ u, Below wr.heap.size wr u → (u.cell? ⟨vb, 1, none⟩ = some (.slice la ln lc) ∧ u.cell? ⟨ge, k * 2, none⟩ = some (.string key)) from fun u hu => ⟨(hu.cell (p := ⟨vb, 1, none⟩) (cell_lt v1)).trans v1, (hu.cell (p := ⟨ge, k * 2, none⟩) (cell_lt d0)).trans d0⟩)
      have SE := hide (show ∀ u, Below wr.heap.size wr u → u.cell? ⟨ge, k * 2 + 1, none⟩ = some (.string xv) from fun u hu => (hu.cell (p := ⟨ge, k * 2 + 1, none⟩) (cell_lt d1)).trans d1)
      have G0 := hide (show Below wr.heap.size wr wr.drew from (Below.refl _ _).drew)
      clear v1 d0 d1
      go_upto_region 12 with fail
      refine wp_region_held_drew (S := (fun u => (u.cell? ⟨vb, 1, none⟩ = some (.slice la ln lc) ∧ u.cell? ⟨ge, k * 2, none⟩ = some (.string key)))) (by kernel_rfl) (unhide SK _ (unhide G0)) (fun hHeld => ?_)
      generalize wr.drew = u0 at *
      refine anyH_take 0 71 (v := ?v1) rfl rfl (by kernel_rfl) (by kernel_rfl) (by kernel_rfl) (fun _ _ _ h => h) (by rfl) ?h1 hHeld ?r1
      case h1 => (intro w hSw; (try dsimp only at hSw); go_simp; try (with_reducible rfl))
      simp only [Act.put, List.setIfInBounds_toArray, List.set_cons_zero, List.set_cons_succ]
      refine anyH_take 1 72 (v := ?v2) rfl rfl (by kernel_rfl) (by kernel_rfl) (by kernel_rfl) (fun _ _ _ h => h) (by rfl) ?h2 hHeld ?r2
      case h2 => (intro w hSw; (try dsimp only at hSw); go_simp; try (with_reducible rfl))
      simp only [Act.put, List.setIfInBounds_toArray, List.set_cons_zero, List.set_cons_succ]
      refine anyH_take 2 73 (v := ?v3) rfl rfl (by kernel_rfl) (by kernel_rfl) (by kernel_rfl) (fun _ _ _ h => h) (by rfl) ?h3 hHeld ?r3
      case h3 => (intro w hSw; (try dsimp only at hSw); go_simp; try (with_reducible rfl))
      simp only [Act.put, List.setIfInBounds_toArray, List.set_cons_zero, List.set_cons_succ]
      refine anyH_take 3 74 (v := ?v4) rfl rfl (by kernel_rfl) (by kernel_rfl) (by kernel_rfl) (fun _ _ _ h => h) (by rfl) ?h4 hHeld ?r4
      case h4 => (intro w hSw; (try dsimp only at hSw); go_simp; try (with_reducible rfl))
      simp only [Act.put, List.setIfInBounds_toArray, List.set_cons_zero, List.set_cons_succ]
      refine anyH_take 4 75 (v := ?v5) rfl rfl (by kernel_rfl) (by kernel_rfl) (by kernel_rfl) (fun _ _ _ h => h) (by rfl) ?h5 hHeld ?r5
      case h5 => (intro w hSw; (try dsimp only at hSw); go_simp; try (with_reducible rfl))
      simp only [Act.put, List.setIfInBounds_toArray, List.set_cons_zero, List.set_cons_succ]
      refine anyH_take 5 76 (v := ?v6) rfl rfl (by kernel_rfl) (by kernel_rfl) (by kernel_rfl) (fun _ _ _ h => h) (by rfl) ?h6 hHeld ?r6
      case h6 => (intro w hSw; (try dsimp only at hSw); go_simp; try (with_reducible rfl))
      simp only [Act.put, List.setIfInBounds_toArray, List.set_cons_zero, List.set_cons_succ]
      refine anyH_take 6 77 (v := ?v7) rfl rfl (by kernel_rfl) (by kernel_rfl) (by kernel_rfl) (fun _ _ _ h => h) (by rfl) ?h7 hHeld ?r7
      case h7 => (intro w hSw; (try dsimp only at hSw); go_simp; try (with_reducible rfl))
      simp only [Act.put, List.setIfInBounds_toArray, List.set_cons_zero, List.set_cons_succ]
      refine anyH_take 7 78 (v := ?v8) rfl rfl (by kernel_rfl) (by kernel_rfl) (by kernel_rfl) (fun _ _ _ h => h) (by rfl) ?h8 hHeld ?r8
      case h8 => (intro w hSw; (try dsimp only at hSw); go_simp; try (with_reducible rfl))
      simp only [Act.put, List.setIfInBounds_toArray, List.set_cons_zero, List.set_cons_succ]
      refine wpAnyH_ready (rs := [8, 12]) (by kernel_rfl) (by simp) ?_
      refine AllReadyH.cons rfl (fun K hK => ?_) (AllReadyH.cons rfl (fun K hK => ?_) AllReadyH.nil)
      · go_simp
        refine (unhide CV _ (unhide G0)).mono ?_
        rintro e u8 ⟨rfl, hb8⟩
        have G8 := hide ((unhide G0).trans (hb8.mono (unhide G0).size))
        clear hb8
        refine hK.out _ _ (unhide SK _ (unhide G8)) (fun hHeld => ?_)
        clear hK K
        refine anyH_take 9 70 (v := ?v9) rfl rfl (by kernel_rfl) (by kernel_rfl) (by kernel_rfl) (fun _ _ _ h => h) (by rfl) ?h9 hHeld ?r9
        case h9 => (intro w hSw; (try dsimp only at hSw); go_simp; try (with_reducible rfl))
        simp only [Act.put, List.setIfInBounds_toArray, List.set_cons_zero, List.set_cons_succ]
        refine anyH_take 10 80 (v := ?v10) rfl rfl (by kernel_rfl) (by kernel_rfl) (by kernel_rfl) (fun _ _ _ h => h) (by rfl) ?h10 hHeld ?r10
        case h10 => (intro w hSw; (try dsimp only at hSw); go_simp; try (with_reducible rfl))
        simp only [Act.put, List.setIfInBounds_toArray, List.set_cons_zero, List.set_cons_succ]
        refine anyH_take 11 81 (v := ?v11) rfl rfl (by kernel_rfl) (by kernel_rfl) (by kernel_rfl) (fun _ _ _ h => h) (by rfl) ?h11 hHeld ?r11
        case h11 => (intro w hSw; (try dsimp only at hSw); go_simp; try (with_reducible rfl))
        simp only [Act.put, List.setIfInBounds_toArray, List.set_cons_zero, List.set_cons_succ]
        refine wpAnyH_ready (rs := [12]) (by kernel_rfl) (by simp) ?_
        refine AllReadyH.cons rfl (fun K hK => ?_) AllReadyH.nil
        have kA := heap_alloc_new u8 (.cells #[.string ⟨#[]⟩, .int .i64 0, .string ⟨#[]⟩, .bool false] 39)
        have G8_12 := hide ((unhide G8).alloc (unhide G8).size (.cells #[.string ⟨#[]⟩, .int .i64 0, .string ⟨#[]⟩, .bool false] 39))
        have hsb := (unhide G8).size
        go_simp
        generalize u8.alloc (.cells #[.string ⟨#[]⟩, .int .i64 0, .string ⟨#[]⟩, .bool false] 39) = u8_12 at *
        generalize u8.heap.size = sb at *
        refine hK.out _ _ (unhide SK _ (unhide G8_12)) (fun hHeld => ?_)
        clear hK K
        refine wpAnyH_ready (rs := [13]) (by kernel_rfl) (by simp) ?_
        refine AllReadyH.cons rfl (fun K hK => ?_) AllReadyH.nil
        have y0 := (heap_at kA 0).1
        have y1 := (heap_at kA 1).1
        have y2 := (heap_at kA 2).1
        have y3 := (heap_at kA 3).1
        have f0 := (heap_at kA 0).2
        have f1 := (heap_at kA 1).2
        have f2 := (heap_at kA 2).2
        have f3 := (heap_at kA 3).2
        have K5 := hide (sv4_heap kA (.string xk) (.int .i64 xt) (.string xv) (.bool false))
        have D5 := hide (bel_sv4 (unhide G8_12) hsb (.string xk) (.int .i64 xt) (.string xv) (.bool false))
        unfold sv4 at K5 D5
        clear kA
        go_simp
        refine hK.out _ _ (unhide SK _ (unhide D5)) (fun hHeld => ?_)
        clear hK K
        clear y0 y1 y2 y3 f0 f1 f2 f3
        generalize ((((u8_12.setCell ⟨sb, 0, none⟩ (.string xk)).setCell ⟨sb, 1, none⟩ (.int .i64 xt)).setCell ⟨sb, 2, none⟩ (.string xv)).setCell ⟨sb, 3, none⟩ (.bool false)) = u5 at *
        refine anyH_take 14 15 (v := ?v12) rfl rfl (by kernel_rfl) (by kernel_rfl) (by kernel_rfl) (fun _ _ _ h => h) (by rfl) ?h12 hHeld ?r12
        case h12 => (intro w hSw; (try dsimp only at hSw); go_simp; try (with_reducible rfl))
        simp only [Act.put, List.setIfInBounds_toArray, List.set_cons_zero, List.set_cons_succ]
        refine wpAnyH_done (by kernel_rfl) ?_ _
        clear hHeld SK
        have x1 := (heap_at (unhide K5) 1).1
        have x2 := (heap_at (unhide K5) 2).1
        have x3 := (heap_at (unhide K5) 3).1
        have e1 := unhide SE _ (unhide D5)
        have BF := hide ((unhide hB).trans ((unhide D5).mono (unhide hB).size))
        have hbq : (xv.toList != xv.toList) = false := by simp
        have hxt : decide (t < xt) = false := decide_eq_false (by omega)
        clear K5 D5 SE CV
        go_wp2_with fail
        go_quiet (fail)
        go_wp2_with fail
        go_roundw
        case rel => exact ⟨k + 1, by go_num, by omega, hide (bel_drewN (unhide BF) _)⟩
        case measure => simp [intOf]; omega
      · have kA := heap_alloc_new u0 (.cells #[.string ⟨#[]⟩, .int .i64 0, .string ⟨#[]⟩, .bool false] 39)
        have G12 := hide ((unhide G0).alloc (unhide G0).size (.cells #[.string ⟨#[]⟩, .int .i64 0, .string ⟨#[]⟩, .bool false] 39))
        have hsb := (unhide G0).size
        go_simp
        generalize u0.alloc (.cells #[.string ⟨#[]⟩, .int .i64 0, .string ⟨#[]⟩, .bool false] 39) = u12 at *
        generalize u0.heap.size = sb at *
        refine hK.out _ _ (unhide SK _ (unhide G12)) (fun hHeld => ?_)
        clear hK K
        refine wpAnyH_ready (rs := [8]) (by kernel_rfl) (by simp) ?_
        refine AllReadyH.cons rfl (fun K hK => ?_) AllReadyH.nil
        go_simp
        refine (unhide CV _ (unhide G12)).mono ?_
        rintro e u12_8 ⟨rfl, hb8⟩
        have G12_8 := hide ((unhide G12).trans (hb8.mono (unhide G12).size))
        replace kA := (hb8.block sb (blk_lt kA)).trans kA
        clear hb8
        refine hK.out _ _ (unhide SK _ (unhide G12_8)) (fun hHeld => ?_)
        clear hK K
        refine anyH_take 9 70 (v := ?v13) rfl rfl (by kernel_rfl) (by kernel_rfl) (by kernel_rfl) (fun _ _ _ h => h) (by rfl) ?h13 hHeld ?r13
        case h13 => (intro w hSw; (try dsimp only at hSw); go_simp; try (with_reducible rfl))
        simp only [Act.put, List.setIfInBounds_toArray, List.set_cons_zero, List.set_cons_succ]
        refine anyH_take 10 80 (v := ?v14) rfl rfl (by kernel_rfl) (by kernel_rfl) (by kernel_rfl) (fun _ _ _ h => h) (by rfl) ?h14 hHeld ?r14
        case h14 => (intro w hSw; (try dsimp only at hSw); go_simp; try (with_reducible rfl))
        simp only [Act.put, List.setIfInBounds_toArray, List.set_cons_zero, List.set_cons_succ]
        refine anyH_take 11 81 (v := ?v15) rfl rfl (by kernel_rfl) (by kernel_rfl) (by kernel_rfl) (fun _ _ _ h => h) (by rfl) ?h15 hHeld ?r15
        case h15 => (intro w hSw; (try dsimp only at hSw); go_simp; try (with_reducible rfl))
        simp only [Act.put, List.setIfInBounds_toArray, List.set_cons_zero, List.set_cons_succ]
        refine wpAnyH_ready (rs := [13]) (by kernel_rfl) (by simp) ?_
        refine AllReadyH.cons rfl (fun K hK => ?_) AllReadyH.nil
        have y0 := (heap_at kA 0).1
        have y1 := (heap_at kA 1).1
        have y2 := (heap_at kA 2).1
        have y3 := (heap_at kA 3).1
        have f0 := (heap_at kA 0).2
        have f1 := (heap_at kA 1).2
        have f2 := (heap_at kA 2).2
        have f3 := (heap_at kA 3).2
        have K5 := hide (sv4_heap kA (.string xk) (.int .i64 xt) (.string xv) (.bool false))
        have D5 := hide (bel_sv4 (unhide G12_8) hsb (.string xk) (.int .i64 xt) (.string xv) (.bool false))
        unfold sv4 at K5 D5
        clear kA
        go_simp
        refine hK.out _ _ (unhide SK _ (unhide D5)) (fun hHeld => ?_)
        clear hK K
        clear y0 y1 y2 y3 f0 f1 f2 f3
        generalize ((((u12_8.setCell ⟨sb, 0, none⟩ (.string xk)).setCell ⟨sb, 1, none⟩ (.int .i64 xt)).setCell ⟨sb, 2, none⟩ (.string xv)).setCell ⟨sb, 3, none⟩ (.bool false)) = u5 at *
        refine anyH_take 14 15 (v := ?v16) rfl rfl (by kernel_rfl) (by kernel_rfl) (by kernel_rfl) (fun _ _ _ h => h) (by rfl) ?h16 hHeld ?r16
        case h16 => (intro w hSw; (try dsimp only at hSw); go_simp; try (with_reducible rfl))
        simp only [Act.put, List.setIfInBounds_toArray, List.set_cons_zero, List.set_cons_succ]
        refine wpAnyH_done (by kernel_rfl) ?_ _
        clear hHeld SK
        have x1 := (heap_at (unhide K5) 1).1
        have x2 := (heap_at (unhide K5) 2).1
        have x3 := (heap_at (unhide K5) 3).1
        have e1 := unhide SE _ (unhide D5)
        have BF := hide ((unhide hB).trans ((unhide D5).mono (unhide hB).size))
        have hbq : (xv.toList != xv.toList) = false := by simp
        have hxt : decide (t < xt) = false := decide_eq_false (by omega)
        clear K5 D5 SE CV
        go_wp2_with fail
        go_quiet (fail)
        go_wp2_with fail
        go_roundw
        case rel => exact ⟨k + 1, by go_num, by omega, hide (bel_drewN (unhide BF) _)⟩
        case measure => simp [intOf]; omega
    · obtain rfl : k = ne := by omega
      have DW := hide ((unhide D6).trans ((unhide hB).mono (unhide D6).size))
      clear EM O6 hB D6 HNE
      have kb := unhide KB wr (unhide DW)
      have v0 := (heap_at kb 0).1
      have v1 := (heap_at kb 1).1
      have v2 := (heap_at kb 2).1
      have v3 := (heap_at kb 3).1
      have C4 := hide (implPrune_any d t ⟨la, ln, lc⟩ ⟨fa, fn, fc⟩ ⟨sa, sn, sc⟩ hs wr (unhide VI wr (unhide DW)) (unhide CSN) (unhide FEW))
      unfold vzC at C4
      simp only at C4
      clear kb
      go_wp2_with fail
      refine (unhide C4).mono ?_
      rintro e w7 ⟨⟨xa, xn, xc⟩, ⟨ya, yn, yc⟩, ⟨za, zn, zc⟩, hs7, rfl, o7, b7⟩
      have D7 := hide ((unhide DW).trans (b7.mono (unhide DW).size))
      unfold vzC
      simp only
      -- the box of what was pruned
      obtain ⟨U, hU⟩ : ∃ U, U = w7.alloc (.cells #[.int .i64 (prV d t).next, .slice xa xn xc, .slice ya yn yc, .slice za zn zc] 27) := ⟨_, rfl⟩
      have bU : Below w7.heap.size w7 U := by rw [hU]; exact (Below.refl _ _).alloc (Nat.le_refl _) _
      have kU : U.heap[w7.heap.size]? = some (.cells #[.int .i64 (prV d t).next, .slice xa xn xc, .slice ya yn yc, .slice za zn zc] 27 (0, 0)) := by rw [hU]; exact heap_alloc_new _ _
      have DU := hide ((unhide D7).trans (bU.mono (unhide D7).size))
      have PI := hide (fun (u : World) (hu : Below U.heap.size U u) => (o7.reads.below bU).below hu)
      have KU := hide (show ∀ u, Below U.heap.size U u → u.heap[w7.heap.size]? = some (.cells #[.int .i64 (prV d t).next, .slice xa xn xc, .slice ya yn yc, .slice za zn zc] 27 (0, 0)) from fun u hu => (hu.block _ (blk_lt kU)).trans kU)
      have kb := unhide KB U (unhide DU)
      rw [hU] at kb
      clear v0 v1 v2 v3
      have v0 := (heap_at kb 0).1
      have v1 := (heap_at kb 1).1
      have v2 := (heap_at kb 2).1
      have v3 := (heap_at kb 3).1
      have C5 := hide (specPrune_any d t ⟨la, ln, lc⟩ ⟨fa, fn, fc⟩ ⟨sa, sn, sc⟩ hs U (unhide VI U (unhide DU)) (unhide FEW))
      unfold vzC at C5
      simp only at C5
      have hxn : xn = (prV d t).list.length := (unhide PI U (Below.refl _ _)).vr.1.symm
      have hyn : yn = (prV d t).fen.length := (unhide PI U (Below.refl _ _)).fr.1.symm
      have HXN := hide hxn
      have HYN := hide hyn
      clear kb kU bU o7 b7 C4 D7 hxn hyn
      generalize hvn : (prV d t).next = pn at *
      clear hvn
      go_wp2_with fail
      rw [← hU]
      clear hU v0 v1 v2 v3
      generalize w7.heap.size = ub at *
      refine (unhide C5).mono ?_
      rintro e w8 ⟨⟨xa8, xn8, xc8⟩, ⟨ya8, yn8, yc8⟩, ⟨za8, zn8, zc8⟩, hs8, rfl, o8, b8⟩
      have E8 := hide b8
      unfold vzC
      simp only
      have hxn8 : xn8 = (prV d t).list.length := o8.reads.vr.1.symm
      have hyn8 : yn8 = (prV d t).fen.length := o8.reads.fr.1.symm
      rw [← unhide HXN] at hxn8
      rw [← unhide HYN] at hyn8
      subst hxn8 hyn8
      obtain ⟨Y, hY⟩ : ∃ Y, Y = w8.alloc (.cells #[.int .i64 (prV d t).next, .slice xa8 xn8 xc8, .slice ya8 yn8 yc8, .slice za8 zn8 zc8] 27) := ⟨_, rfl⟩
      have bY : Below w8.heap.size w8 Y := by rw [hY]; exact (Below.refl _ _).alloc (Nat.le_refl _) _
      have kY : Y.heap[w8.heap.size]? = some (.cells #[.int .i64 (prV d t).next, .slice xa8 xn8 xc8, .slice ya8 yn8 yc8, .slice za8 zn8 zc8] 27 (0, 0)) := by rw [hY]; exact heap_alloc_new _ _
      have EY := hide ((unhide E8).trans (bY.mono (unhide E8).size))
      have RY := hide (o8.reads.below bY).vr
      have kb := unhide KU Y (unhide EY)
      rw [hY] at kb
      have ky := kY
      rw [hY] at ky
      have p1 := (heap_at kb 1).1
      have p2 := (heap_at kb 2).1
      have y1 := (heap_at ky 1).1
      have y2 := (heap_at ky 2).1
      have C6 := hide (sameVersions_any xa xa8 xn8 xc xc8 (prV d t).list Y (unhide PI Y (unhide EY)).vr (unhide RY) (by
        have h1 := unhide HXN
        have h2 : (prV d t).list.length ≤ 60 := by
          unfold prV
          split
          · have := prTo_len d.list t d.list.length
            show (prL d.list t).length ≤ 60
            unfold prL
            omega
          · show 0 ≤ 60; omega
        omega))
      have hpc : (prC d t != prC d t) = false := by simp
      have C7 := hide (show ∀ u, Below Y.heap.size Y u → (u.cell? ⟨ub, 2, none⟩ = some (.slice ya yn8 yc) ∧ u.cell? ⟨w8.heap.size, 2, none⟩ = some (.slice ya8 yn8 yc8)) from fun u hu => ⟨(heap_at (unhide KU u ((unhide EY).trans (hu.mono (unhide EY).size))) 2).1, (heap_at ((hu.block _ (blk_lt kY)).trans kY) 2).1⟩)
      have PC := hide (show (prC d t = 8) ∨ (prC d t = 0 ∧ prV d t = ⟨d.next, prL d.list t, prF d.fen (leastV d), d.ses⟩) by
        unfold prC prV
        rw [if_pos okD]
        by_cases hle : leastV d ≤ t
        · exact .inl (by rw [if_pos hle])
        · exact .inr ⟨by rw [if_neg hle], by rw [if_pos ⟨okD, hle⟩]⟩)
      clear kb ky kY bY o8 b8 C5
      generalize hpcv : prC d t = pc at *
      clear hpcv
      go_wp2_with fail
      rw [← hY]
      clear hY p1 p2 y1 y2
      generalize w8.heap.size = yb at *
      refine (unhide C6).mono ?_
      rintro e w9 ⟨rfl, b9⟩
      obtain ⟨f2, g2⟩ := unhide C7 w9 b9
      have E9 := hide ((unhide EY).trans (b9.mono (unhide EY).size))
      have D9 := hide ((unhide DU).trans ((unhide E9).mono (unhide DU).size))
      clear C6 C7 b9
      rcases unhide PC with rfl | ⟨rfl, hpv⟩
      · have BF := hide ((unhide BW).trans ((unhide D9).mono (unhide BW).size))
        clear PC
        go_wp2_with fail
        go_ret
        exact ⟨rfl, unhide BF⟩
      have PI2 := hide (show ∀ u, Below U.heap.size U u → VRow u xa xn8 (prL d.list t) from fun u hu => by
        have := (unhide PI u hu).vr
        rw [hpv] at this
        exact this)
      have hpl : (prL d.list t).length ≤ 60 := by
        have := prTo_len d.list t d.list.length
        unfold prL
        omega
      have ok2 := prL_ok ok t
      have EP := hide (fun (u : Int) (hu : t ≤ u) => ents_pr ok hu)
      have LE := hide (show xn8 ≤ ln by
        have h1 := unhide HXN
        rw [hpv] at h1
        have h2 := prTo_len d.list t d.list.length
        have h3 : xn8 = (prL d.list t).length := h1
        have h4 := unhide HLN
        unfold prL at h3
        omega)
      clear PC hpv PI RY
      go_wp2_with fail
      clear f2 g2
      go_loopw [20] (fun kv wx => ∃ u : Int, kv = .int .i64 u ∧ t ≤ u ∧ u ≤ 1001 ∧ Hid (Below U.heap.size U wx)) (fun kv _ => (1002 - intOf kv).toNat)
      case atStart => exact ⟨t, rfl, Int.le_refl _, by omega, E9⟩
      case round =>
        obtain ⟨u, rfl, htu, hu, hE⟩ := hrel
        have DX := hide ((unhide DU).trans ((unhide hE).mono (unhide DU).size))
        have kb := unhide KB wr (unhide DX)
        have v0 := (heap_at kb 0).1
        have v1 := (heap_at kb 1).1
        have ku := unhide KU wr (unhide hE)
        have p1 := (heap_at ku 1).1
        clear kb ku
        by_cases hle : u ≤ d.next
        · have C8 := hide (specEntriesAt_any la ln lc d.list u wr (by omega) (unhide VI wr (unhide DX)).vr)
          have hwp : IntKind.i64.wrap (u + 1) = u + 1 := by rw [IntKind.wrap_i64]; omega
          go_wp2_with fail
          refine (unhide C8).mono ?_
          rintro e x1 ⟨z1, rfl, o1, b1⟩
          have eL : eeL d.list u = entsAt d.list u := by unfold eeL; rw [if_pos ⟨by omega, ok⟩]
          rw [eL] at o1
          obtain ⟨s1, q1, rfl⟩ := us_sl o1
          have hl1 := ents_len d.list u
          have O1 := hide o1
          have E1 := hide ((unhide hE).trans (b1.mono (unhide hE).size))
          clear o1 b1 eL C8 v0 v1 p1
          have ku := unhide KU x1 (unhide E1)
          have p1 := (heap_at ku 1).1
          have C9 := hide (specEntriesAt_any xa xn8 xc (prL d.list t) u x1 (by have := unhide LE; omega) (unhide PI2 x1 (unhide E1)))
          clear ku
          go_wp2_with fail
          refine (unhide C9).mono ?_
          rintro e x2 ⟨z2, rfl, o2, b2⟩
          have eL : eeL (prL d.list t) u = entsAt d.list u := by unfold eeL; rw [if_pos ⟨by omega, ok2⟩, unhide EP u htu]
          rw [eL] at o2
          obtain ⟨s2, q2, rfl⟩ := us_sl o2
          have O12 := hide (rb_ownsRow_below (unhide O1) b2)
          have E2 := hide ((unhide E1).trans (b2.mono (unhide E1).size))
          have C10 := hide (sameEntries_any s1 s2 (entsAt d.list u).length q1 q2 ((entsAt d.list u).map kvE) x2 (k_erow (unhide O12)) (k_erow o2) (by omega))
          clear o2 b2 O1 O12 eL C9 p1
          generalize (entsAt d.list u).length = nu at *
          go_wp2_with fail
          refine (unhide C10).mono ?_
          rintro e x3 ⟨rfl, b3⟩
          have E3 := hide ((unhide E2).trans (b3.mono (unhide E2).size))
          clear b3 C10
          go_wp2_with fail
          go_roundw
          case rel => exact ⟨u + 1, by go_num, by omega, by omega, E3⟩
          case measure => simp [intOf]; omega
        · have BF := hide ((unhide BW).trans ((unhide DX).mono (unhide BW).size))
          have hdl : decide (xn8 ≤ ln) = true := decide_eq_true (unhide LE)
          have hdl2 : (xn8 : Int) ≤ (ln : Int) := by have := unhide LE; omega
          go_wp2_with fail
          go_ret
          exact ⟨ret_bool (by simp), unhide BF⟩
end Go.Proofs.YtfajenejngddeaaGreat

namespace Go.Proofs.YtfajenejngddeaaGreat.fnVersionsFrame
open Go.ChangeShapes Go.WideShapes Go.ChangeAt Go.RowKit
open Go.ChangeMaps (open_string shut_string)
set_option linter.unusedVariables false

theorem own : ownKnob Tryz.prog.godebug = none := by kernel_rfl
theorem laidOut : laidOutB Tryz.prog = true := by kernel_rfl

set_option maxRecDepth 100000 in
theorem lifted (os : Os) (started : os.Started) (H : Type) (enc : TypeId × Value → H) :
    ReturnsInHanded {} Tryz.checked os 3 .any (Rows.fnVersionsSpec.pre6 enc Tryz.prog Tryz.f3 Rows.fnVersionsRow.domain false) (Rows.fnVersionsSpec.post enc Tryz.prog Tryz.f3 false true false false) := by
  refine returnsInHanded_of_change (C := Tryz.checked) own started (by kernel_rfl) Tryz.func3
    (ChangeSpec.witness6 (enc := enc) (C := Tryz.checked) false ⟨#[], #[.slice none 0 0, .slice none 0 0], []⟩ 8 (by kernel_rfl) (by kernel_rfl) (by kernel_rfl) (by kernel_rfl)) ?_
  intro W base args ds gs before hval0 hW _ _
  have hval : ∀ (j : Nat) t v, Tryz.f3.params[j]? = some t → args[j]? = some v → Value.okWide Tryz.prog W .any base t v := hval0
  have hW' := hW
  obtain ⟨p, q, hA0, hV, rfl, _, _⟩ := hW
  have hA : DataW.TrodAll enc Tryz.prog W 0 (fun _ => true) true Tryz.f3.params.toList args.toList ds p := hA0
  rw [Tryz.params3] at hA hval
  obtain ⟨v0, vs0, d0, ds0, p0, q0, hargs, rfl, rfl, h0, r0⟩ := trodAll_cons hA
  obtain ⟨v1, vs1, d1, ds1, p1, q1, rfl, rfl, rfl, h1, r1⟩ := trodAll_cons r0
  obtain ⟨rfl, rfl, rfl⟩ := trodAll_nil r1
  obtain rfl : args = #[v0, v1] := by cases args; simp_all
  obtain ⟨rfl, rfl⟩ := trodVars_none hV
  have k0 := h0
  have lt0 : ∀ x ∈ p0, x.block < W.heap.size := by obtain ⟨m, hm⟩ := k0; exact DataW.trod_lt m _ _ _ hm
  have k1 := h1
  have lt1 : ∀ x ∈ p1, x.block < W.heap.size := by obtain ⟨m, hm⟩ := k1; exact DataW.trod_lt m _ _ _ hm
  obtain ⟨a0, len0, cap0, rfl⟩ := okWide_slice Tryz.underlying22 (hval 0 22 v0 rfl rfl)
  obtain ⟨z0, w0⟩ : ∃ zs, IsRow .u8 W a0 len0 cap0 zs := by
    obtain ⟨fuel, hf⟩ := h0
    rcases open_ints Tryz.underlying22 Tryz.underlying5 (by kernel_rfl) hf with ⟨hcs, _⟩ | ⟨x, l, c, zs, hcs, _, hl, hm, hz, _, hcell, hwz⟩
    · simp [Value.cells] at hcs
      obtain ⟨rfl, rfl, rfl⟩ := hcs
      exact ⟨[], .inl ⟨rfl, rfl, rfl, rfl⟩⟩
    · simp [Value.cells] at hcs
      obtain ⟨rfl, rfl, rfl⟩ := hcs
      exact ⟨zs, .inr ⟨_, rfl, hl, hm, by simpa using hz, hcell, hwz⟩⟩
  obtain ⟨a1, len1, cap1, rfl⟩ := okWide_slice Tryz.underlying22 (hval 1 22 v1 rfl rfl)
  obtain ⟨z1, w1⟩ : ∃ zs, IsRow .u8 W a1 len1 cap1 zs := by
    obtain ⟨fuel, hf⟩ := h1
    rcases open_ints Tryz.underlying22 Tryz.underlying5 (by kernel_rfl) hf with ⟨hcs, _⟩ | ⟨x, l, c, zs, hcs, _, hl, hm, hz, _, hcell, hwz⟩
    · simp [Value.cells] at hcs
      obtain ⟨rfl, rfl, rfl⟩ := hcs
      exact ⟨[], .inl ⟨rfl, rfl, rfl, rfl⟩⟩
    · simp [Value.cells] at hcs
      obtain ⟨rfl, rfl, rfl⟩ := hcs
      exact ⟨zs, .inr ⟨_, rfl, hl, hm, by simpa using hz, hcell, hwz⟩⟩
  clear hA0 hval0
  refine (fnVersions_law a0 len0 cap0 z0 a1 len1 cap1 z1 W w0 w1).mono fun e W' ⟨he, bel⟩ => ?_
  subst he
  exact ⟨_, rfl, _, _, _, [], _, [], hW', trodAll_mk1 (shut_bool Tryz.underlying4 _), (trodAll_cons_mk (Below.trod laidOut (by kernel_rfl) (of_decide_eq_true (by kernel_rfl)) k0 bel lt0) (trodAll_cons_mk (Below.trod laidOut (by kernel_rfl) (of_decide_eq_true (by kernel_rfl)) k1 bel lt1) trodAll_mk0)), rfl, bel.frame _, fun h => by cases h⟩

theorem over : Rows.fnVersionsRow.holds Tryz.pinned (OpenSpec.ofChange Rows.fnVersionsSpec) :=
  OpenClaim.holds_of_wide 3 Tryz.f3 rfl rfl rfl rfl rfl rfl rfl ⟨rfl, rfl, rfl, rfl, rfl⟩ rfl rfl rfl rfl rfl (by kernel_rfl) Tryz.func3 (by kernel_rfl)
    (of_decide_eq_true (by kernel_rfl)) (by unfold Func.isWrapper; first | (rw [if_pos (by decide +kernel)]; kernel_rfl) | (rw [if_neg (by decide +kernel)]; exact ⟨rfl, rfl⟩))
    (fun os started H enc _ => lifted os started H enc)

end Go.Proofs.YtfajenejngddeaaGreat.fnVersionsFrame
namespace Go.Proofs.YtfajenejngddeaaGreat
/-- THE STATEMENT. -/
theorem fnVersions_proved : Rows.FnVersionsSaid := fnVersionsFrame.over
#print axioms fnVersions_proved
end Go.Proofs.YtfajenejngddeaaGreat
