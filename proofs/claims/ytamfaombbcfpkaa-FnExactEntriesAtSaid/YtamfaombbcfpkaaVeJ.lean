/-
  impl.EntriesAt, spec.EntriesAt.
-/
import Derived.Test.YtamfaombbcfpkaaVeI
import Derived.Test.YtamfaombbcfpkaaVrQ
namespace Go.Proofs.Ytamfaombbcfpkaa
open Go.RowKit Go.Maps

def eeC (ds : List VerD) : Int := if ds.length ≤ 4096 then (if okVs ds = true then 0 else 1) else 2
def eeL (ds : List VerD) (t : Int) : List KvD := if ds.length ≤ 4096 ∧ okVs ds = true then entsAt ds t else []
/-- What EntriesAt gives. -/
def EeRes (ds : List VerD) (t : Int) (w : World) (e : Ending) (w' : World) : Prop := ∃ v, e = .returned (.tuple #[v, .int .i64 (eeC ds)]) ∧ KOwns w' w.heap.size v (eeL ds t) ∧ Below w.heap.size w w'
theorem ee_none {ds : List VerD} {t c : Int} {v : Value} {w w' : World} (hc : eeC ds = c) (hl : ¬ (ds.length ≤ 4096 ∧ okVs ds = true)) (ho : KOwns w' w.heap.size v []) (hb : Below w.heap.size w w') : EeRes ds t w (.returned (.tuple #[v, .int .i64 c])) w' := by
  refine ⟨v, by rw [hc], ?_, hb⟩
  unfold eeL
  rw [if_neg hl]
  exact ho
theorem ee_some {ds : List VerD} {t : Int} {v : Value} {w w' : World} (hl : ds.length ≤ 4096) (hok : okVs ds = true) (ho : KOwns w' w.heap.size v (entsAt ds t)) (hb : Below w.heap.size w w') : EeRes ds t w (.returned (.tuple #[v, .int .i64 0])) w' := by
  refine ⟨v, by unfold eeC; rw [if_pos hl, if_pos hok], ?_, hb⟩
  unfold eeL
  rw [if_pos ⟨hl, hok⟩]
  exact ho
theorem eeL_len (ds : List VerD) (t : Int) : (eeL ds t).length ≤ 4096 := by
  unfold eeL
  split
  · rename_i h
    have := entsTo_len ds t ds.length
    unfold entsAt
    omega
  · simp
theorem verAt_key {ds : List VerD} {k : ByteArray} {t : Int} {x : VerD} (h : verAt ds k t = some x) : x.k = k := by
  unfold verAt at h
  split at h
  · rename_i d hd
    split at h
    · cases h
    · injection h with h
      subst h
      unfold lastAt at hd
      have h1 := List.mem_of_getLast? hd
      have h2 := (List.mem_filter.1 h1).1
      exact of_decide_eq_true (List.mem_filter.1 h2).2
  · cases h
theorem seen_ents (ds : List VerD) (t : Int) : seenL (fun k => verAt ds k t) (dkeys ds) = entsAt ds t := by
  unfold entsAt seenL dkeys
  rw [ents_dk ds t _ (Nat.le_refl _)]
  congr 1
  funext k
  show seeK k (verAt ds k t) = kvOf (verAt ds k t)
  cases h : verAt ds k t with
  | none => rfl
  | some x => simp [seeK, kvOf, verAt_key h]
set_option maxRecDepth 100000 in
set_option maxHeartbeats 4000000 in
theorem specEntriesAt_any (a : Option Addr) (n c : Nat) (ds : List VerD) (t : Int) (w : World) (hn : n ≤ 1048576) (hr : VRow w a n ds) :
    Calls Try.prog 5 #[.slice a n c, .int .i64 t] w fun e w' => EeRes ds t w e w' := by
  have LN := hide hr.1
  have R := hide hr
  have HL := hide (show ∀ u : World, w.heap.size ≤ u.heap.size → KOwns (u.alloc (.cells #[] 52)) w.heap.size (.slice (some ⟨u.heap.size, 0, none⟩) 0 0) [] from fun u hu => World.ownsRow_lit _ _ _ hu (by unfold maxLen; simp) rfl)
  clear hr
  by_cases h4 : n ≤ 4096
  · have g4 : ¬ (4096 : Int) < (n : Int) := by omega
    have L4 : ds.length ≤ 4096 := by rw [unhide LN]; exact h4
    have EN := hide (fun (u : World) (hb : Below w.heap.size w u) => l06Entries_any a n c ds t u (by omega) ((unhide R).below hb))
    go_enter Try.func5, Try.ntmps5
    go_wp2_with fail
    refine (l06List_any a n c ds w hn (unhide R)).mono ?_
    rintro e w1 ⟨rfl, hb1⟩
    cases hok : okVs ds with
    | false =>
      have Z := hide (ee_none (t := t) (c := 1) (show eeC ds = 1 by unfold eeC; rw [if_pos L4, if_neg (by rw [hok]; decide)]) (fun h => by rw [hok] at h; exact absurd h.2 (by decide)) (unhide HL w1 hb1.size) (hb1.alloc hb1.size _))
      clear R EN HL
      go_wp2_with fail
      go_ret2
      exact unhide Z
    | true =>
      go_wp2_with fail
      refine (unhide EN w1 hb1).mono ?_
      rintro e w2 ⟨v, rfl, ho, hb2⟩
      have ho' : KOwns w2 w.heap.size v (entsAt ds t) := by
        refine ⟨ho.1, ?_⟩
        rcases ho.2 with h | ⟨g, cap, cur, e, hb, r⟩
        · exact .inl h
        · exact .inr ⟨g, cap, cur, e, Nat.le_trans hb1.size hb, r⟩
      have Z := hide (ee_some L4 hok ho' (hb1.trans (hb2.mono hb1.size)))
      clear R EN HL ho ho'
      go_wp2_with fail
      go_ret2
      exact unhide Z
  · have g4 : (4096 : Int) < (n : Int) := by omega
    have Z := hide (ee_none (t := t) (c := 2) (show eeC ds = 2 by unfold eeC; rw [if_neg (by rw [unhide LN]; exact h4)]) (fun h => h4 (by rw [← unhide LN]; exact h.1)) (unhide HL w (Nat.le_refl _)) ((Below.refl _ _).alloc (Nat.le_refl _) _))
    clear R HL
    go_enter Try.func5, Try.ntmps5
    go_wp2_with fail
    go_ret2
    exact unhide Z
set_option maxRecDepth 100000 in
set_option maxHeartbeats 4000000 in
theorem implEntriesAt_any (a : Option Addr) (n c : Nat) (ds : List VerD) (t : Int) (w : World) (hn : n ≤ 1048576) (hr : VRow w a n ds) :
    Calls Try.prog 7 #[.slice a n c, .int .i64 t] w fun e w' => EeRes ds t w e w' := by
  have LN := hide hr.1
  have R := hide hr
  have HL := hide (show ∀ u : World, KOwns u w.heap.size (.slice none 0 0) [] from fun u => World.ownsRow_nil _ _ _ _)
  clear hr
  by_cases h4 : n ≤ 4096
  · have g4 : ¬ (4096 : Int) < (n : Int) := by omega
    have L4 : ds.length ≤ 4096 := by rw [unhide LN]; exact h4
    go_enter Try.func7, Try.ntmps7
    go_wp2_with fail
    refine (listOK_any a n c ds w hn (unhide R)).mono ?_
    rintro e w1 ⟨rfl, hb1⟩
    cases hok : okVs ds with
    | false =>
      have Z := hide (ee_none (t := t) (c := 1) (show eeC ds = 1 by unfold eeC; rw [if_pos L4, if_neg (by rw [hok]; decide)]) (fun h => by rw [hok] at h; exact absurd h.2 (by decide)) (unhide HL w1) hb1)
      clear R HL
      go_wp2_with fail
      go_ret2
      exact unhide Z
    | true =>
      have HS := hide (show ∀ i (hi : i < ds.length), ds[i].k.size ≤ maxLen from fun i hi => by have := verK_small (okVs_ver hok hi); unfold maxLen; omega)
      have R1 := hide ((unhide R).below hb1)
      have KSZ := hide (show ∀ k ∈ dkeys ds, k.size ≤ maxLen from fun k hk => by
        obtain ⟨i, hi, _, rfl⟩ := (dk_mem ds k _ (Nat.le_refl _)).1 hk
        exact unhide HS i hi)
      go_wp2_with fail
      refine (historyOf_any a n c ds w1 h4 (unhide R1) (unhide HS)).mono ?_
      rintro e w2 ⟨f, rfl, hH, hb2⟩
      have B2 := hb1.trans (hb2.mono hb1.size)
      have KA := hide (keys_any w1.heap.size n (w1.heap.size + 1) f ds w2 hH hok (by omega))
      have HH := hide hH
      clear hH R1 HS hb2
      go_wp2_with fail
      refine (unhide KA).mono ?_
      rintro e w3 ⟨v, rfl, hO, hb3⟩
      have B3 := B2.trans (hb3.mono B2.size)
      have H3 := hide ((unhide HH).below hb3)
      obtain ⟨ak, ck, rfl, hSR⟩ := srow_of_owns hO
      have SR := hide hSR
      clear KA HH hO hSR hb3
      have hkl := dkTo_len ds ds.length
      have hkl2 : (dkeys ds).length ≤ 4096 := by unfold dkeys; omega
      generalize hnk : (dkeys ds).length = nk at *
      have hnk' := hide hnk
      clear hnk
      go_wp2_with fail
      refine (viewAt_any w1.heap.size t w3).mono ?_
      rintro e w4 ⟨rfl, hw4⟩
      have b4 : Below w3.heap.size w3 w4 := by rw [hw4]; exact ((Below.refl _ _).alloc (Nat.le_refl _) _).alloc (by simp) _
      have c1 : w4.cell? ⟨w3.heap.size, 0, none⟩ = some (.map (some w1.heap.size)) := by rw [hw4]; simp [go_sem]
      have c2 : w4.cell? ⟨w3.heap.size + 1, 0, none⟩ = some (.int .i64 t) := by rw [hw4]; simp [go_sem]
      have B4 := hide (B3.trans (b4.mono B3.size))
      have ES := hide (entriesSeen_any ak nk ck (dkeys ds) (some ⟨w3.heap.size, 0, none⟩) (some ⟨w3.heap.size + 1, 0, none⟩) (fun k => verAt ds k t) w4 (by omega) ((unhide SR).below b4) (fun k hk u hu =>
        (view_any w3.heap.size (w3.heap.size + 1) w1.heap.size n (w1.heap.size + 1) f ds k t u (((unhide H3).below b4).below hu) hok L4 (unhide KSZ k hk) ((hu.cell (p := ⟨w3.heap.size, 0, none⟩) (cell_lt c1)).trans c1) ((hu.cell (p := ⟨w3.heap.size + 1, 0, none⟩) (cell_lt c2)).trans c2)).mono (fun e u' h => vw_gives h)))
      clear hw4 c1 c2 SR H3 B2 B3 b4
      go_wp2_with fail
      refine (unhide ES).mono ?_
      rintro e w5 ⟨v, rfl, ho, hb5⟩
      rw [seen_ents] at ho
      have ho' : KOwns w5 w.heap.size v (entsAt ds t) := by
        refine ⟨ho.1, ?_⟩
        rcases ho.2 with h | ⟨g, cap, cur, e, hb, r⟩
        · exact .inl h
        · exact .inr ⟨g, cap, cur, e, Nat.le_trans (unhide B4).size hb, r⟩
      have Z := hide (ee_some L4 hok ho' ((unhide B4).trans (hb5.mono (unhide B4).size)))
      clear ho ho' ES B4 hb5 KSZ HL
      go_wp2_with fail
      go_ret2
      exact unhide Z
  · have g4 : (4096 : Int) < (n : Int) := by omega
    have Z := hide (ee_none (t := t) (c := 2) (show eeC ds = 2 by unfold eeC; rw [if_neg (by rw [unhide LN]; exact h4)]) (fun h => h4 (by rw [← unhide LN]; exact h.1)) (unhide HL w) (Below.refl _ _))
    clear R HL
    go_enter Try.func7, Try.ntmps7
    go_wp2_with fail
    go_ret2
    exact unhide Z
end Go.Proofs.Ytamfaombbcfpkaa
