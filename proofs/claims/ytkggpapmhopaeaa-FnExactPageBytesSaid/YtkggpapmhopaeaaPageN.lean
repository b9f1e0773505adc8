/-
  The specification's l04Entries: a page's entries behind all changes.
-/
import Derived.Test.YtkggpapmhopaeaaPageM
import Derived.Laws.AppendOwnNone
namespace Go.Proofs.Ytkggpapmhopaeaa
open Go.RowKit

/-- Kept from block B on, whatever base. -/
theorem eowns_kept {w w' : World} {B : Nat} {v : Value} {es : List EntD} (h : EOwns w B v es) (hb : Below w.heap.size w w') : EOwns w' B v es :=
  World.ownsRow.kept (row := none) h ⟨hb.os, hb.tape, hb.output, hb.size, fun i hi _ => hb.block i hi⟩ (by cases hv : v.ownBlock <;> simp)
/-- An append whose run is known. -/
theorem wpAppE {P : Program} {ops : Array Oper} {rest : List Oper} {o : Oper} {a : Act} {w : World} {Q : Exit → Act → World → Prop}
    (hg : o.guard = none) (s x : Operand) (t : TypeId) (hop : o.op = Op.call { callee := Callee.builtin Builtin.append, args := #[s, x], argTypes := #[t, t] })
    (vs vx v' : Value) (w' : World) (hs : a.eval s = vs) (hx : a.eval x = vx) (hrun : (Builtin.append_ #[t, t] o.type #[vs, vx]).run P w = .ok v' w') (h : wpList P ops Q rest (a.put o.dst v') w') :
    wpList P ops Q (o :: rest) a w :=
  wpList_plain hg fun _ hK => by
    unfold Oper.wp
    simp [execOp, hop, resolve, invoke, builtin, hs, hx, hrun, Result.andThen]
    exact hK _ _ h
/-- A row of entries of the call's own, cut. -/
theorem eowns_cut {w : World} {B g n c k : Nat} {es : List EntD} (h : EOwns w B (.slice (some ⟨g, 0, none⟩) n c) es) (hk : k ≤ es.length) : EOwns w B (.slice (some ⟨g, 0, none⟩) k c) (es.take k) ∧ k ≤ c := by
  rcases h.2 with ⟨e, _⟩ | ⟨g', cap, cur, e, hb, hh, h1, h2, h3, h4⟩
  · cases e
  · injection e with e1 e2 e3
    injection e1 with e1
    injection e1 with e1
    subst e1 e2 e3
    refine ⟨eowns_back hb hh (by rw [List.length_take]; omega) (by omega) h2 h3 ?_, by omega⟩
    rw [ecs_take, ← h4, List.take_take]
    congr 1
    omega
set_option maxRecDepth 100000 in
/-- append([]Entry{}, list...), nil or not. -/
theorem run_copyE {w : World} {B g c : Nat} {a : Option Addr} {n cb : Nat} {es : List EntD} (ty : TypeId) (hO : EOwns w B (.slice (some ⟨g, 0, none⟩) 0 c) []) (hE : ERow w a n es) (hn : n ≤ 100000) (hcb : a = none → cb = 0) (hB : B ≤ w.heap.size) :
    ∃ g' c' w', (Builtin.append_ #[28, 28] ty #[.slice (some ⟨g, 0, none⟩) 0 c, .slice a n cb]).run Try.prog w = .ok (.slice (some ⟨g', 0, none⟩) n c') w' ∧ EOwns w' B (.slice (some ⟨g', 0, none⟩) n c') es ∧ Below B w w' := by
  obtain ⟨i0, hi0, hz0, hz1, hz2⟩ := info_parts Try.infoEntry
  cases a with
  | none =>
    obtain rfl := hcb rfl
    have h0 : es.length = 0 := by
      rcases Nat.eq_zero_or_pos es.length with h | h
      · exact h
      · obtain ⟨_, _, e, _⟩ := hE.2 0 h; cases e
    obtain rfl : n = 0 := by have := hE.1; omega
    obtain rfl := List.eq_nil_of_length_eq_zero h0
    exact ⟨g, c, w, run_append_owned_none (P := Try.prog) w B 28 ty 58 i0 2 Try.underlying28 hi0 _ _ _ hO, hO, Below.refl _ _⟩
  | some ad =>
    obtain ⟨A, hA, hsrc⟩ : ∃ A : Addr, ad = A ∧ ∀ t u, (ecs es)[t]? = some u → w.cell? (A.add t) = some u := by
      refine ⟨ad, rfl, fun t u hu => ?_⟩
      have hl : t < es.length * 2 := by
        have := (List.getElem?_eq_some_iff.1 hu).1
        rwa [ecs_len] at this
      obtain ⟨b, off, e, _⟩ := hE.2 0 (by omega)
      injection e with e
      subst e
      obtain ⟨A, hA, hs⟩ := drop_src (k := 0) (c := n + 1) hE (by omega)
      rw [if_neg (by omega)] at hA
      injection hA with hA
      simp only [Nat.zero_mul, Nat.add_zero] at hA
      subst hA
      exact unhide hs t u (by simpa using hu)
    subst hA
    obtain ⟨v', w', hr, ho, hg, hv⟩ := run_append_own (P := Try.prog) w B 28 ty 58 i0 (.agg #[.string ByteArray.empty, .string ByteArray.empty]) 2 32 Try.underlying28 hi0 hz0 hz1 hz2 rfl (by decide) _ _ _ hO ad n cb (ecs es) (by rw [ecs_len, hE.1]) hsrc (ecs_one _) (by unfold maxLen; simp; omega) (by simp; omega) hB
    have ho' : EOwns w' B v' es := by
      have := ho
      simp only [List.length_nil, Nat.zero_add, ecs, List.nil_append] at this
      unfold EOwns
      rw [hE.1]
      exact this
    obtain ⟨g', c', rfl, _⟩ := eowns_some ho' (fun h => by have := (hv.1 h).1; cases this)
    rw [hE.1] at ho' hr
    exact ⟨g', c', w', hr, ho', (Below.refl _ _).grown hg hB (fun k hk => (hO.lt k hk).1)⟩
set_option maxRecDepth 100000 in
set_option maxHeartbeats 8000000 in
theorem l04Entries_any (lo hi : ByteArray) (r : Int) (ab : Option Addr) (nb cb : Nat) (es : List EntD) (ac : Option Addr) (nc cc : Nat) (ds : List DelD) (w : World) (hE : ERow w ab nb es) (hD : DRow w ac nc ds) (hnb : nb ≤ 100) (hnc : nc ≤ 100) (hcb : ab = none → cb = 0) :
    Calls Try.prog 37 #[pgv lo hi r ab nb cb ac nc cc] w fun x w' => ∃ g cap, x = .returned (.slice (some ⟨g, 0, none⟩) (entsE es ds).length cap) ∧ EOwns w' w.heap.size (.slice (some ⟨g, 0, none⟩) (entsE es ds).length cap) (entsE es ds) ∧ Below w.heap.size w w' := by
  have b0 : Below w.heap.size w (w.alloc (.cells #[.string lo, .string hi, .int .i64 r, .slice ab nb cb, .slice ac nc cc] 31)) := (Below.refl _ _).alloc (Nat.le_refl _) _
  obtain ⟨W0, hW0⟩ : ∃ W0, W0 = w.alloc (.cells #[.string lo, .string hi, .int .i64 r, .slice ab nb cb, .slice ac nc cc] 31) := ⟨_, rfl⟩
  have z0 : W0.heap.size = w.heap.size + 1 := by rw [hW0]; simp
  have b1 : Below (w.heap.size + 1) W0 (W0.alloc (.cells #[] 58)) := (Below.refl _ _).alloc (by omega) _
  have O0 : EOwns (W0.alloc (.cells #[] 58)) (w.heap.size + 1) (.slice (some ⟨w.heap.size + 1, 0, none⟩) 0 0) [] := by
    have := World.ownsRow_lit (base := w.heap.size + 1) (e := 58) (size := 2) W0 #[] 0 (by omega) (by unfold maxLen; simp) rfl
    rw [z0] at this
    simp at this
    exact this
  rw [← hW0] at b0
  obtain ⟨g1, c1, w1, hrun, hO1, hB1⟩ := run_copyE (cb := cb) 28 O0 (hE.below (b0.trans (b1.mono (by omega)))) (by omega) hcb (by simp [z0])
  have BW := hide (b0.trans ((b1.trans hB1).mono (by omega)))
  have BZ := hide (b1.trans hB1)
  have HO1 := hide hO1
  have LE := hide hE.1
  have LD := hide hD.1
  have RD := hide hD
  have p4 : w1.cell? ⟨w.heap.size, 4, none⟩ = some (.slice ac nc cc) := (hB1.cell (p := ⟨w.heap.size, 4, none⟩) (by simp)).trans ((b1.cell (p := ⟨w.heap.size, 4, none⟩) (by simp)).trans (by rw [hW0]; simp))
  clear hE hD b0 b1 hB1 hO1 O0 z0
  subst hW0
  go_enter Try.func37, Try.ntmps37
  go_wp2_with (at_builtin; refine wpAppE rfl _ _ 28 rfl _ _ _ w1 rfl rfl hrun ?_)
  clear hrun
  go_loopw [3, 4] (fun v i wr => ∃ (q g m cap : Nat), i = .int .i64 (q : Int) ∧ v = .slice (some ⟨g, 0, none⟩) m cap ∧ q ≤ nc ∧ m ≤ 200 ∧ Hid (EOwns wr (w.heap.size + 1) (.slice (some ⟨g, 0, none⟩) m cap) (entsE es (ds.take q))) ∧ Hid (Below (w.heap.size + 1) w1 wr)) (fun _ i _ => nc - (intOf i).toNat)
  case atStart => exact ⟨0, g1, nb, c1, rfl, rfl, Nat.zero_le _, by omega, unhide HO1, Below.refl _ _⟩
  case round =>
    clear HO1
    obtain ⟨q, g, m, cap, rfl, rfl, hq, hm, hO, hB⟩ := hrel
    have p4r := ((unhide hB).cell (p := ⟨w.heap.size, 4, none⟩) (by show w.heap.size < w.heap.size + 1; omega)).trans p4
    have BR := hide ((unhide BW).trans ((unhide hB).mono (by omega)))
    by_cases hlt : q < nc
    · have hqe : q < ds.length := by have := unhide LD; omega
      obtain ⟨b, off, rfl, d0, d1, d2, d3⟩ := ((unhide RD).below (unhide BR)).2 q hqe
      have HE := hide (show entsE es (ds.take (q + 1)) = stepE (entsE es (ds.take q)) ds[q] by rw [takeG_snoc ds q hqe, entsE_snoc])
      have HL := hide (show (entsE es (ds.take (q + 1))).length ≤ 200 by
        have := entsE_len es (ds.take (q + 1))
        rw [List.length_take] at this
        have := unhide LE
        omega)
      generalize ds[q] = d at *
      have bA : Below wr.heap.size wr (wr.alloc (.cells #[.int .i64 d.kind, .string d.k, .string d.v, .int .i64 d.to] 44)) := (Below.refl _ _).alloc (Nat.le_refl _) _
      have hsr : w.heap.size + 1 ≤ wr.heap.size := by have h1 := (unhide hB).size; have h2 := (unhide BZ).size; simp at h2; omega
      have OA := hide (eowns_kept (unhide hO) bA)
      have BA := hide ((unhide hB).trans (bA.mono hsr))
      generalize hes : entsE es (ds.take q) = xs at *
      have HM := hide (erow_of_owns (unhide hO)).1
      by_cases hk : d.kind = 3
      · have hk' : (d.kind == 3) = true := by simp [hk]
        have HK := hide hk
        clear hk
        go_wp2_with fail
        have dk : (wr.alloc (.cells #[.int .i64 d.kind, .string d.k, .string d.v, .int .i64 d.to] 44)).cell? ⟨wr.heap.size, 1, none⟩ = some (.string d.k) := by simp
        clear bA hO hB BR p4r d0 d1 d2 d3
        generalize wr.alloc (.cells #[.int .i64 d.kind, .string d.k, .string d.v, .int .i64 d.to] 44) = wA at *
        generalize wr.heap.size = sd at *
        have PL := hide (pos_le xs d.k)
        go_loopw [6] (fun k wz => ∃ t : Nat, k = .int .i64 (t : Int) ∧ t ≤ pos xs d.k ∧ Hid (∃ z, wz = wA.drewN z)) (fun k _ => m - (intOf k).toNat)
        case atStart => exact ⟨0, rfl, Nat.zero_le _, 0, rfl⟩
        case round =>
          obtain ⟨t, rfl, ht, hz⟩ := hrel
          have dkr : wr.cell? ⟨sd, 1, none⟩ = some (.string d.k) := by obtain ⟨z, rfl⟩ := unhide hz; exact dk
          have hmx : xs.length = m := unhide HM
          have hpl : pos xs d.k ≤ xs.length := unhide PL
          by_cases hlt2 : t < pos xs d.k
          · have htx : t < xs.length := by omega
            have c0 : wr.cell? ⟨g, t * 2, none⟩ = some (.string xs[t].k) := by
              obtain ⟨z, rfl⟩ := unhide hz
              obtain ⟨b', o', e, c0, _⟩ := (erow_of_owns (unhide OA)).2 t htx
              cases e
              rw [Nat.zero_add] at c0
              exact c0
            have hl := less_at htx hlt2
            have htm : t < m := by omega
            generalize xs[t] = xt at *
            clear hmx hpl
            go_wp2_with fail
            go_quiet (fail)
            go_wp2_with fail
            go_roundw
            case rel => exact ⟨t + 1, by go_num, by omega, by obtain ⟨z, rfl⟩ := unhide hz; exact ⟨_, World.drewN_drewN _ _ _⟩⟩
            case measure => simp [intOf]; omega
          · obtain rfl : t = pos xs d.k := by omega
            have OT := hide (eowns_cut (unhide OA) (unhide PL)).1
            have htc : pos xs d.k ≤ cap := (eowns_cut (unhide OA) (unhide PL)).2
            have HS := hide (show stepE xs d = xs.take (pos xs d.k) from stepE_split (unhide HK))
            by_cases htm : pos xs d.k < m
            · have htx : pos xs d.k < xs.length := by omega
              have c0 : wr.cell? ⟨g, pos xs d.k * 2, none⟩ = some (.string xs[pos xs d.k].k) := by
                obtain ⟨z, rfl⟩ := unhide hz
                obtain ⟨b', o', e, c0, _⟩ := (erow_of_owns (unhide OA)).2 _ htx
                cases e
                rw [Nat.zero_add] at c0
                exact c0
              have hl : Op.bytesLess xs[pos xs d.k].k.toList d.k.toList = false := pos_at xs d.k htx
              generalize xs[pos xs d.k] = xt at *
              clear hmx hpl ht hlt2
              generalize pos xs d.k = tp at *
              go_wp2_with fail
              go_quiet (fail)
              go_wp2_with fail
              go_roundw
              case rel => exact ⟨q + 1, g, tp, cap, by go_num, rfl, by omega, by omega, by rw [unhide HE, unhide HS]; obtain ⟨z, rfl⟩ := unhide hz; exact unhide OT, by obtain ⟨z, rfl⟩ := unhide hz; exact bel_drewN (bel_drewN (unhide BA) _) _⟩
              case measure => simp [intOf]; omega
            · have htm2 : pos xs d.k ≤ m := by omega
              have htm3 : m ≤ pos xs d.k := by omega
              clear hmx hpl ht hlt2
              generalize pos xs d.k = tp at *
              have hd1 : decide (tp < m) = false := decide_eq_false (by omega)
              have hd2 : decide ((tp : Int) < (m : Int)) = false := decide_eq_false (by omega)
              go_wp2_with fail
              go_quiet (fail)
              go_wp2_with fail
              go_roundw
              case rel => exact ⟨q + 1, g, tp, cap, by go_num, rfl, by omega, by omega, by rw [unhide HE, unhide HS]; obtain ⟨z, rfl⟩ := unhide hz; exact unhide OT, by obtain ⟨z, rfl⟩ := unhide hz; exact bel_drewN (bel_drewN (unhide BA) _) _⟩
              case measure => simp [intOf]; omega
      · have hk' : (d.kind == 3) = false := by simp [hk]
        have HS := hide (show stepE xs d = putE xs ⟨d.k, d.v⟩ (d.kind == 2) by
          unfold putE stepE
          by_cases h2 : d.kind = 2
          · simp [h2]
          · simp [h2, hk])
        have hcm : m ≤ cap := by
          rcases (unhide hO).2 with ⟨e, _⟩ | ⟨g', cap', cur, e, _, _, h1, _⟩
          · cases e
          · injection e with e1 e2 e3; omega
        have HK := hide hk
        clear hk
        go_wp2_with fail
        clear bA hB BR p4r d0 d1 d2 d3
        refine (l04Put_any g 0 m cap xs ⟨d.k, d.v⟩ (d.kind == 2) _ (erow_of_owns (unhide OA)) (by omega) hcm).mono ?_
        rintro x w5 ⟨g5, cap5, rfl, hO5, hb5⟩
        have HL5 : (putE xs ⟨d.k, d.v⟩ (d.kind == 2)).length ≤ 200 := by rw [← unhide HS, ← unhide HE]; exact unhide HL
        have O6 := hide (show EOwns w5 (w.heap.size + 1) (.slice (some ⟨g5, 0, none⟩) (putE xs ⟨d.k, d.v⟩ (d.kind == 2)).length cap5) (entsE es (ds.take (q + 1))) by
          rw [unhide HE, unhide HS]
          exact ownsRow_base2 hO5 (by simp; omega))
        have B6 := hide ((unhide BA).trans (hb5.mono (by simp; omega)))
        clear hO5 hb5
        generalize (putE xs ⟨d.k, d.v⟩ (d.kind == 2)).length = m5 at *
        go_wp2_with fail
        go_roundw
        case rel => exact ⟨q + 1, g5, m5, cap5, by go_num, rfl, by omega, HL5, unhide O6, unhide B6⟩
        case measure => simp [intOf]; omega
    · obtain rfl : q = nc := by omega
      have TD := hide (show ds.take q = ds from List.take_of_length_le (by rw [unhide LD]; exact Nat.le_refl _))
      have O5 : EOwns wr w.heap.size (.slice (some ⟨g, 0, none⟩) m cap) (entsE es ds) := by
        have := unhide hO
        rw [unhide TD] at this
        exact ownsRow_base2 this (Nat.le_succ _)
      have hm5 : m = (entsE es ds).length := (erow_of_owns O5).1.symm
      rw [hm5] at O5
      have HM5 := hide hm5
      have O6 := hide O5
      clear O5 hm5 hO
      go_wp2_with fail
      go_ret
      exact ⟨g, cap, by first | rfl | (rw [← unhide HM5]; rfl), unhide O6, unhide BR⟩
end Go.Proofs.Ytkggpapmhopaeaa
