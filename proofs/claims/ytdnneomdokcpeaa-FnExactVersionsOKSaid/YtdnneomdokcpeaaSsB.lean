/-
  Sessions: the walks of toSessionS, eqSession, eqSessionS.
-/
import Derived.Test.YtdnneomdokcpeaaSsA
namespace Go.Proofs.Ytdnneomdokcpeaa
open Go.RowKit

/-- Sessions whose writes the call owns, behind block G. -/
def SesOwn (w : World) (G : Nat) (rs : List SesR) (ss : List SesD) : Prop := ∀ i (h : i < rs.length) (h' : i < ss.length), rs[i].o = ss[i].o ∧ rs[i].t = ss[i].t ∧ VOwns w (G + 1) (.slice rs[i].ws.a rs[i].ws.n rs[i].ws.c) ss[i].ws
theorem SesOwn.below {w w' : World} {G : Nat} {rs : List SesR} {ss : List SesD} (h : SesOwn w G rs ss) (hb : Below w.heap.size w w') : SesOwn w' G rs ss :=
  fun i h1 h2 => ⟨(h i h1 h2).1, (h i h1 h2).2.1, vowns_below (h i h1 h2).2.2 hb⟩
theorem SesOwn.set {w : World} {G : Nat} {rs : List SesR} {ss : List SesD} (h : SesOwn w G rs ss) (j : Nat) (u : Value) : SesOwn (w.setCell ⟨G, j, none⟩ u) G rs ss :=
  fun i h1 h2 => ⟨(h i h1 h2).1, (h i h1 h2).2.1, rs_set (h i h1 h2).2.2 (by omega) j u⟩
theorem SesOwn.at {w : World} {G : Nat} {rs : List SesR} {ss : List SesD} (h : SesOwn w G rs ss) (hl : rs.length = ss.length) : SsAt w rs ss :=
  ⟨hl, fun i h1 h2 => ⟨(h i h1 h2).1, (h i h1 h2).2.1, vrow_of_owns (h i h1 h2).2.2⟩⟩
theorem SesOwn.snoc {w : World} {G : Nat} {rs : List SesR} {ss : List SesD} (h : SesOwn w G rs ss) (r : SesR) (hk : rs.length < ss.length) (ho : r.o = ss[rs.length].o) (ht : r.t = ss[rs.length].t) (hv : VOwns w (G + 1) (.slice r.ws.a r.ws.n r.ws.c) ss[rs.length].ws) : SesOwn w G (rs ++ [r]) ss := by
  intro i h1 h2
  by_cases e : i < rs.length
  · rw [List.getElem_append_left e]
    exact h i e h2
  · obtain rfl : i = rs.length := by rw [List.length_append] at h1; simp at h1; omega
    rw [List.getElem_append_right (Nat.le_refl _)]
    simp only [Nat.sub_self, List.getElem_cons_zero]
    exact ⟨ho, ht, hv⟩
theorem ses_fill {rs : List SesR} {n k : Nat} (hk : rs.length = k) (hn : k < n) (d : SesR) : (rs ++ List.replicate (n - k) noS).set k d = (rs ++ [d]) ++ List.replicate (n - (k + 1)) noS := by
  subst hk
  obtain ⟨m, hm⟩ : ∃ m, n - rs.length = m + 1 := ⟨n - rs.length - 1, by omega⟩
  rw [hm, show n - (rs.length + 1) = m by omega, List.replicate_succ, List.set_append_right _ _ (Nat.le_refl _), Nat.sub_self, List.set_cons_zero, List.append_assoc, List.singleton_append]
theorem Try.infoSession : (Try.prog.info? 76).map (fun i => (i.zero, i.size, i.bytes)) = some (some (.agg #[.bool false, .int .i64 0, .slice none 0 0]), 3, 40) := by kernel_rfl
set_option maxHeartbeats 2000000 in
theorem toSessionS_any (a : Option Addr) (n c : Nat) (rs : List SesR) (ss : List SesD) (w : World) (hn : n ≤ 1048576) (hr : SRow w a n rs) (hs : SsAt w rs ss) (hl : ∀ i (h : i < rs.length), rs[i].ws.n ≤ 1048576) :
    Calls Try.prog 44 #[.slice a n c] w fun e w' => ∃ rs', e = .returned (.slice (some ⟨w.heap.size, 0, none⟩) n n) ∧ SOwns w' w.heap.size (.slice (some ⟨w.heap.size, 0, none⟩) n n) rs' ∧ SesOwn w' w.heap.size rs' ss ∧ rs'.length = ss.length ∧ Below w.heap.size w w' := by
  obtain ⟨i0, hi, hz0, hz1, hz2⟩ := info_parts Try.infoSession
  have L := hide hr.1
  have R := hide hr
  have SS := hide hs
  have LM := hide hl
  clear hr hs hl
  go_enter Try.func44, Try.ntmps44
  go_wp2_with (at_make; refine wpList_make_full _ rfl _ _ 45 rfl w.heap.size 76 i0 _ 3 Try.underlying45 hi hz0 hz1 _ _ _ _ n rfl rfl rfl rfl (by rw [hz2]; omega) (by unfold maxLen; omega) (Nat.le_refl _) ?_)
  intro w1 hown hgrow
  have hl0 := hide (show SOwns w1 w.heap.size (.slice (some ⟨w.heap.size, 0, none⟩) n n) ([] ++ List.replicate (n - 0) noS) by
    have := sowns_made (ds := rs) (unhide L) hown
    unfold filS at this
    rwa [List.take_zero, unhide L] at this)
  have hbel : Below w.heap.size w w1 := (Below.refl _ _).grown hgrow (Nat.le_refl _) (fun k hk => by cases hk)
  clear hown hgrow
  go_wp2_with fail
  go_loopw [4] (fun i wr => ∃ (k : Nat) (qs : List SesR), k ≤ n ∧ i = .int .i64 k ∧ Hid (qs.length = k) ∧ Hid (SOwns wr w.heap.size (.slice (some ⟨w.heap.size, 0, none⟩) n n) (qs ++ List.replicate (n - k) noS)) ∧ Hid (SesOwn wr w.heap.size qs ss) ∧ Below w.heap.size w wr) (fun i _ => n - (intOf i).toNat)
  case atStart => exact ⟨0, [], by omega, rfl, rfl, hl0, fun i h => absurd h (Nat.not_lt_zero _), hbel⟩
  case round =>
    clear hl0 hbel
    obtain ⟨k, qs, hk, rfl, hq, hla, hso, hb⟩ := hrel
    by_cases hlt : k < n
    · have hk2 : k < rs.length := by rw [unhide L]; exact hlt
      have hk3 : k < ss.length := by rw [← (unhide SS).1]; exact hk2
      have hkq : qs.length < ss.length := by rw [unhide hq]; exact hk3
      obtain ⟨b, off, rfl, d0, d1, d2⟩ := ((unhide R).below hb).2 k hk2
      have hS := ((unhide SS).below hb).2 k hk2 hk3
      have C := hide (toSession_any rs[k] ss[k].ws wr hS.2.2 (unhide LM k hk2))
      have EQ := hide (show rs[k].o = ss[qs.length].o ∧ rs[k].t = ss[qs.length].t ∧ ss[qs.length].ws = ss[k].ws by
        have : ∀ m (hm : m < ss.length), m = k → rs[k].o = ss[m].o ∧ rs[k].t = ss[m].t ∧ ss[m].ws = ss[k].ws := fun m hm e => by subst e; exact ⟨hS.1, hS.2.1, rfl⟩
        exact this _ hkq (unhide hq))
      have hsz := hb.size
      have hgl : w.heap.size < wr.heap.size := ((unhide hla).lt w.heap.size rfl).2
      clear hS
      generalize rs[k] = pd at *
      obtain ⟨po, pt, pa, pn, pc⟩ := pd
      unfold sv at C
      simp only at d0 d1 d2 C EQ
      go_wp2_with fail
      refine (unhide C).mono ?_
      rintro e w2 ⟨g, rfl, hv, hb2⟩
      have FS := hide (ses_fill (unhide hq) hlt ⟨po, pt, ⟨some ⟨g, 0, none⟩, pn, pn⟩⟩)
      have hl2 := sowns_below (unhide hla) hb2
      have hlx : k < (qs ++ List.replicate (n - k) noS).length := by rw [List.length_append, List.length_replicate, unhide hq]; omega
      obtain ⟨e0, e1, e2⟩ := sowns_at hl2 k hlx
      have f0 := sowns_fz hl2 (k * 3)
      have f1 := sowns_fz hl2 (k * 3 + 1)
      have f2 := sowns_fz hl2 (k * 3 + 2)
      have S := hide (show SOwns _ _ _ ((qs ++ [⟨po, pt, ⟨some ⟨g, 0, none⟩, pn, pn⟩⟩]) ++ List.replicate (n - (k + 1)) noS) from unhide FS ▸ sowns_store hl2 k ⟨po, pt, ⟨some ⟨g, 0, none⟩, pn, pn⟩⟩)
      have O2 := hide (((((unhide hso).below hb2).snoc ⟨po, pt, ⟨some ⟨g, 0, none⟩, pn, pn⟩⟩ hkq (unhide EQ).1 (unhide EQ).2.1 (by rw [(unhide EQ).2.2]; exact rs_base hv (by omega))).set (k * 3) (.bool po)).set (k * 3 + 1) (.int .i64 pt) |>.set (k * 3 + 2) (.slice (some ⟨g, 0, none⟩) pn pn))
      have B2 := hide (((hb.trans (hb2.mono hb.size)).setCell (p := ⟨w.heap.size, k * 3, none⟩) (Nat.le_refl _) (.bool po)).setCell (p := ⟨w.heap.size, k * 3 + 1, none⟩) (Nat.le_refl _) (.int .i64 pt) |>.setCell (p := ⟨w.heap.size, k * 3 + 2, none⟩) (Nat.le_refl _) (.slice (some ⟨g, 0, none⟩) pn pn))
      have LQ := hide (show (qs ++ [(⟨po, pt, ⟨some ⟨g, 0, none⟩, pn, pn⟩⟩ : SesR)]).length = k + 1 by rw [List.length_append, unhide hq]; rfl)
      simp only at S
      clear hl2 hb hb2 d0 d1 d2 hla FS hv C hso EQ
      generalize (qs ++ List.replicate (n - k) noS)[k].o = u0 at *
      generalize (qs ++ List.replicate (n - k) noS)[k].t = u1 at *
      generalize (qs ++ List.replicate (n - k) noS)[k].ws = u2 at *
      go_wp2_with fail
      go_roundw
      case rel => exact ⟨k + 1, _, by omega, by go_num, unhide LQ, unhide S, unhide O2, unhide B2⟩
      case measure => simp [intOf]; omega
    · obtain rfl : k = n := by omega
      have F := hide (show SOwns wr w.heap.size (.slice (some ⟨w.heap.size, 0, none⟩) k k) qs by
        have := unhide hla
        rwa [Nat.sub_self, List.replicate_zero, List.append_nil] at this)
      have LL := hide (show qs.length = ss.length by rw [unhide hq, ← (unhide SS).1, unhide L])
      go_wp2_with fail
      go_ret
      exact ⟨qs, rfl, unhide F, unhide hso, unhide LL, hb⟩
set_option maxHeartbeats 1000000 in
theorem eqSession_any (r1 r2 : SesR) (ws : List VerD) (w : World) (ho : r1.o = r2.o) (ht : r1.t = r2.t) (hn : r1.ws.n ≤ 1048576) (h1 : VRow w r1.ws.a r1.ws.n ws) (h2 : VRow w r2.ws.a r2.ws.n ws) :
    Calls Try.prog 72 #[sv r1, sv r2] w fun e w' => e = .returned (.bool true) ∧ Below w.heap.size w w' := by
  obtain ⟨o, t, a, n, c⟩ := r1
  obtain ⟨o', t', a', n', c'⟩ := r2
  simp only at ho ht hn h1 h2
  subst ho ht
  obtain rfl : n = n' := h1.1.symm.trans h2.1
  unfold sv
  simp only
  have b0 : Below w.heap.size w ((w.alloc (.cells #[.bool o, .int .i64 t, .slice a n c] 76)).alloc (.cells #[.bool o, .int .i64 t, .slice a' n c'] 76)) := ((Below.refl _ _).alloc (Nat.le_refl _) _).alloc (by simp) _
  have C := hide (eqVersionS_any a a' n c c' ws _ hn (h1.below b0) (h2.below b0))
  clear h1 h2
  have hoo : (o != o) = false := by cases o <;> rfl
  go_enter Try.func72, Try.ntmps72
  go_wp2_with fail
  generalize (w.alloc (.cells #[.bool o, .int .i64 t, .slice a n c] 76)).alloc (.cells #[.bool o, .int .i64 t, .slice a' n c'] 76) = W at *
  refine (unhide C).mono ?_
  rintro e w1 ⟨rfl, hb⟩
  have bA := b0.trans (hb.mono b0.size)
  clear C b0 hb
  go_wp2_with fail
  go_ret
  exact ⟨rfl, bA⟩
set_option maxHeartbeats 1000000 in
theorem eqSessionS_any (a1 a2 : Option Addr) (n c1 c2 : Nat) (rs1 rs2 : List SesR) (ss : List SesD) (w : World) (hn : n ≤ 1048576) (h1 : SRow w a1 n rs1) (h2 : SRow w a2 n rs2) (s1 : SsAt w rs1 ss) (s2 : SsAt w rs2 ss) (hl : ∀ i (h : i < rs1.length), rs1[i].ws.n ≤ 1048576) :
    Calls Try.prog 51 #[.slice a1 n c1, .slice a2 n c2] w fun e w' => e = .returned (.bool true) ∧ Below w.heap.size w w' := by
  have L1 := hide h1.1
  have L2 := hide h2.1
  have R1 := hide h1
  have R2 := hide h2
  have S1 := hide s1
  have S2 := hide s2
  have LM := hide hl
  clear h1 h2 s1 s2 hl
  go_enter Try.func51, Try.ntmps51
  go_wp2_with fail
  go_loopw [5] (fun i wr => ∃ k : Nat, k ≤ n ∧ i = .int .i64 k ∧ Below w.heap.size w wr) (fun i _ => n - (intOf i).toNat)
  case atStart => exact ⟨0, by omega, rfl, Below.refl _ _⟩
  case round =>
    obtain ⟨k, hk, rfl, hb⟩ := hrel
    by_cases hlt : k < n
    · have k1 : k < rs1.length := by rw [unhide L1]; exact hlt
      have k2 : k < rs2.length := by rw [unhide L2]; exact hlt
      have k3 : k < ss.length := by rw [← (unhide S1).1]; exact k1
      obtain ⟨b, off, rfl, d0, d1, d2⟩ := ((unhide R1).below hb).2 k k1
      obtain ⟨b', off', rfl, y0, y1, y2⟩ := ((unhide R2).below hb).2 k k2
      have C := hide (show ∀ u, Below wr.heap.size wr u → Calls Try.prog 72 #[sv rs1[k], sv rs2[k]] u fun e w' => e = .returned (.bool true) ∧ Below u.heap.size u w' from fun u hu => by
        obtain ⟨p1, p2, p3⟩ := (((unhide S1).below hb).below hu).2 k k1 k3
        obtain ⟨q1, q2, q3⟩ := (((unhide S2).below hb).below hu).2 k k2 k3
        exact eqSession_any rs1[k] rs2[k] ss[k].ws u (p1.trans q1.symm) (p2.trans q2.symm) (unhide LM k k1) p3 q3)
      generalize rs1[k] = pd at *
      generalize rs2[k] = qd at *
      obtain ⟨po, pt, pa, pn, pc⟩ := pd
      obtain ⟨qo, qt, qa, qn, qc⟩ := qd
      unfold sv at C
      simp only at d0 d1 d2 y0 y1 y2 C
      have hsz := hb.size
      go_wp2_with fail
      go_region_with (go_at_call 72; refine (unhide C _ (by first | exact Below.refl _ _ | exact (Below.refl _ _).drew | exact bel_drewN (Below.refl _ _) _)).mono ?_; rintro e w2 ⟨rfl, hb2⟩)
      all_goals
        have bA : Below w.heap.size w w2 := by first | exact hb.drew.trans (hb2.mono hsz) | exact (bel_drewN hb _).trans (hb2.mono hsz) | exact hb.trans (hb2.mono hsz)
        clear hb hb2 d0 d1 d2 y0 y1 y2 C
        go_wp2_with fail
        go_roundw
        case rel => exact ⟨k + 1, by omega, by go_num, bA⟩
        case measure => simp [intOf]; omega
    · obtain rfl : k = n := by omega
      go_wp2_with fail
      go_ret
      exact ⟨rfl, hb⟩
end Go.Proofs.Ytdnneomdokcpeaa
