/-
  The specification's l04Put: entries with one changed.
-/
import Derived.Test.YtkggpapmhopaeaaPageK
namespace Go.Proofs.Ytkggpapmhopaeaa
open Go.RowKit

/-- Entries with one changed. -/
def putE (es : List EntD) (e : EntD) (gone : Bool) : List EntD := stepE es ⟨if gone then 2 else 1, e.k, e.v, 0⟩
theorem less_at {es : List EntD} {k : ByteArray} {i : Nat} (hi : i < es.length) (hp : i < pos es k) : Op.bytesLess es[i].k.toList k.toList = true := pos_lt es k i hi hp
theorem eapp {w : World} {B : Nat} {v : Value} {xs : List EntD} {e : EntD} (h : w.ownsRow B 58 2 v (xs.length + 1) (ecs xs ++ [.string e.k, .string e.v])) : EOwns w B v (xs ++ [e]) := by
  rw [← show ecs [e] = [.string e.k, .string e.v] from rfl, ← ecs_append] at h
  unfold EOwns
  rw [List.length_append]
  exact h
/-- A row of entries of the call's own that is not nil. -/
theorem eowns_some {w : World} {B : Nat} {v : Value} {es : List EntD} (h : EOwns w B v es) (hv : v ≠ .slice none 0 0) : ∃ g cap, v = .slice (some ⟨g, 0, none⟩) es.length cap ∧ B ≤ g := by
  rcases h.2 with ⟨e, _⟩ | ⟨g, cap, cur, e, hb, _⟩
  · exact absurd e hv
  · exact ⟨g, cap, e, hb⟩
theorem ownsRow_base2 {w : World} {B C e s n : Nat} {v : Value} {vs : List Value} (h : w.ownsRow B e s v n vs) (hC : C ≤ B) : w.ownsRow C e s v n vs := by
  obtain ⟨hl, h⟩ := h
  refine ⟨hl, ?_⟩
  rcases h with h | ⟨g, cap, cur, e, hb, r⟩
  · exact .inl h
  · exact .inr ⟨g, cap, cur, e, Nat.le_trans hC hb, r⟩
/-- The entries from a place on, as a slice expression gives them. -/
theorem drop_src {w : World} {b off n c k : Nat} {es : List EntD} (hE : ERow w (some ⟨b, off, none⟩) n es) (hc : n ≤ c) : ∃ A : Addr, (if c = k then some (⟨b, off, none⟩ : Addr) else some ⟨b, off + k * 2, none⟩) = some A ∧ Hid (∀ t u, (ecs (es.drop k))[t]? = some u → w.cell? (A.add t) = some u) := by
  by_cases h : c = k
  · refine ⟨⟨b, off, none⟩, by simp [h], fun t u hu => ?_⟩
    rw [List.drop_of_length_le (by have := hE.1; omega)] at hu
    simp [ecs] at hu
  · refine ⟨⟨b, off + k * 2, none⟩, by simp [h], fun t u hu => ?_⟩
    rw [Addr.add_lit]
    have hl : t < (es.drop k).length * 2 := by
      have := (List.getElem?_eq_some_iff.1 hu).1
      rwa [ecs_len] at this
    have hq : t / 2 < (es.drop k).length := by omega
    have hk : k + t / 2 < es.length := by rw [List.length_drop] at hq; omega
    obtain ⟨b', off', e, c0, c1⟩ := hE.2 (k + t / 2) hk
    injection e with e
    injection e with e1 e2
    subst e1 e2
    rcases Nat.mod_two_eq_zero_or_one t with h0 | h0
    · obtain ⟨m, rfl⟩ : ∃ m, t = m * 2 := ⟨t / 2, by omega⟩
      have hm : m * 2 / 2 = m := by omega
      simp only [hm] at hq hk c0
      rw [ecs_at0 _ m hq] at hu
      rw [show off + k * 2 + m * 2 = off + (k + m) * 2 by omega, c0, ← hu, List.getElem_drop]
    · obtain ⟨m, rfl⟩ : ∃ m, t = m * 2 + 1 := ⟨t / 2, by omega⟩
      have hm : (m * 2 + 1) / 2 = m := by omega
      simp only [hm] at hq hk c1
      rw [ecs_at1 _ m hq] at hu
      rw [show off + k * 2 + (m * 2 + 1) = off + (k + m) * 2 + 1 by omega, c1, ← hu, List.getElem_drop]
set_option maxRecDepth 100000 in
set_option maxHeartbeats 4000000 in
theorem l04Put_any (b off n c : Nat) (es : List EntD) (e : EntD) (gone : Bool) (w : World) (hE : ERow w (some ⟨b, off, none⟩) n es) (hn : n ≤ 1000) (hc : n ≤ c) :
    Calls Try.prog 64 #[.slice (some ⟨b, off, none⟩) n c, .agg #[.string e.k, .string e.v], .bool gone] w fun x w' => ∃ g cap, x = .returned (.slice (some ⟨g, 0, none⟩) (putE es e gone).length cap) ∧ EOwns w' w.heap.size (.slice (some ⟨g, 0, none⟩) (putE es e gone).length cap) (putE es e gone) ∧ Below w.heap.size w w' := by
  obtain ⟨i0, hi0, hz0, hz1, hz2⟩ := info_parts Try.infoEntry
  have LE := hide hE.1
  have RE := hide hE
  have PL := hide (pos_le es e.k)
  clear hE
  have b1 : Below w.heap.size w ((w.alloc (.cells #[.string e.k, .string e.v] 58)).alloc (.cells #[] 58)) := ((Below.refl _ _).alloc (Nat.le_refl _) _).alloc (by simp) _
  have O0 := hide (show EOwns ((w.alloc (.cells #[.string e.k, .string e.v] 58)).alloc (.cells #[] 58)) (w.heap.size + 1) (.slice (some ⟨w.heap.size + 1, 0, none⟩) 0 0) [] by
    have := World.ownsRow_lit (base := w.heap.size + 1) (e := 58) (size := 2) (w.alloc (.cells #[.string e.k, .string e.v] 58)) #[] 0 (by simp) (by unfold maxLen; simp) rfl
    simp at this
    exact this)
  go_enter Try.func64, Try.ntmps64
  go_wp2_with fail
  go_loopw [7, 8] (fun v i wr => ∃ (j g cap : Nat), i = .int .i64 (j : Int) ∧ v = .slice (some ⟨g, 0, none⟩) j cap ∧ j ≤ pos es e.k ∧ Hid (EOwns wr (w.heap.size + 1) (.slice (some ⟨g, 0, none⟩) j cap) (es.take j)) ∧ Hid (Below (w.heap.size + 1) ((w.alloc (.cells #[.string e.k, .string e.v] 58)).alloc (.cells #[] 58)) wr)) (fun _ i _ => n - (intOf i).toNat)
  case atStart => exact ⟨0, w.heap.size + 1, 0, rfl, rfl, Nat.zero_le _, unhide O0, Below.refl _ _⟩
  case round =>
    clear O0
    obtain ⟨j, g, cap, rfl, rfl, hj, hO, hB⟩ := hrel
    have BW := hide (b1.trans ((unhide hB).mono (by omega)))
    have e0 : wr.cell? ⟨w.heap.size, 0, none⟩ = some (.string e.k) := ((unhide hB).cell (p := ⟨w.heap.size, 0, none⟩) (by simp)).trans (by simp)
    have e1 : wr.cell? ⟨w.heap.size, 1, none⟩ = some (.string e.v) := ((unhide hB).cell (p := ⟨w.heap.size, 1, none⟩) (by simp)).trans (by simp)
    by_cases hlt : j < pos es e.k
    · have hje : j < es.length := by have := unhide PL; omega
      have hjn : j < n := by have := unhide LE; omega
      obtain ⟨b', off', he, d0, d1⟩ := ((unhide RE).below (unhide BW)).2 j hje
      injection he with he
      injection he with he1 he2
      subst he1 he2
      have hl := less_at hje hlt
      have TS := hide (takeG_snoc es j hje)
      have HTL := hide (show (es.take j).length = j by rw [List.length_take]; omega)
      generalize es[j] = em at *
      go_wp2_with fail
      go_quiet (fail)
      have O2 : wr.ownsRow (w.heap.size + 1) 58 2 (.slice (some ⟨g, 0, none⟩) j cap) j (ecs (es.take j)) := by have := unhide hO; unfold EOwns at this; rwa [unhide HTL] at this
      have hsz : w.heap.size + 1 ≤ wr.heap.size := by have := (unhide hB).size; simp at this; omega
      go_wp2_with (at_builtin; refine wpList_append_own _ rfl _ _ 28 rfl (w.heap.size + 1) 58 i0 (.agg #[.string ByteArray.empty, .string ByteArray.empty]) 2 32 Try.underlying28 hi0 hz0 hz1 hz2 rfl (by decide) _ _ _ rfl (World.ownsRow.alloc O2 _) ⟨wr.heap.size, 0, none⟩ 1 1 [.string em.k, .string em.v] rfl rfl (cells_new (vs := [.string em.k, .string em.v])) (by intro u hu; simp at hu; rcases hu with rfl | rfl <;> rfl) (by unfold maxLen; omega) (by omega) (by simp; omega) ?_)
      intro v3 w3 h1 h2 h3
      have O3 : EOwns w3 (w.heap.size + 1) v3 (es.take (j + 1)) := by
        rw [unhide TS]
        refine eapp ?_
        rw [unhide HTL]
        exact h1
      obtain ⟨g3, cap3, rfl, hg3⟩ := eowns_some O3 (fun h => by subst h; simp at h3)
      have hl3 : (es.take (j + 1)).length = j + 1 := by rw [List.length_take]; omega
      rw [hl3] at O3 ⊢
      have O4 := hide O3
      have B4 := hide (((bel_drewN (unhide hB) _).alloc hsz _).grown h2 (by simp; omega) (fun k hk => (O2.lt k hk).1))
      clear h1 h2 h3 O3 O2
      go_wp2_with fail
      go_roundw
      case rel => exact ⟨j + 1, g3, cap3, by go_num, rfl, by omega, unhide O4, unhide B4⟩
      case measure => simp [intOf]; omega
    · obtain rfl : j = pos es e.k := by omega
      have HTL := hide (show (es.take (pos es e.k)).length = pos es e.k by have := unhide PL; rw [List.length_take]; omega)
      have hsz : w.heap.size + 1 ≤ wr.heap.size := by have := (unhide hB).size; simp at this; omega
      have O2 := hide (show wr.ownsRow (w.heap.size + 1) 58 2 (.slice (some ⟨g, 0, none⟩) (pos es e.k) cap) (pos es e.k) (ecs (es.take (pos es e.k))) by have := unhide hO; unfold EOwns at this; rwa [unhide HTL] at this)
      by_cases hpn : pos es e.k < es.length
      · obtain ⟨b', off', he, d0, d1⟩ := ((unhide RE).below (unhide BW)).2 _ hpn
        injection he with he
        injection he with he1 he2
        subst he1 he2
        have hl : Op.bytesLess es[pos es e.k].k.toList e.k.toList = false := pos_at es e.k hpn
        have hjn : pos es e.k < n := by have := unhide LE; omega
        have hbl : b < w.heap.size := by obtain ⟨b2, o2, h2, c2, _⟩ := (unhide RE).2 _ hpn; injection h2 with h2; injection h2 with h2 _; subst h2; exact cell_lt c2
        have FD := hide (show (es[pos es e.k].k.toList == e.k.toList) = found es e.k by unfold found; rw [List.getElem?_eq_getElem hpn])
        generalize hp : pos es e.k = p at *
        go_wp2_with fail
        go_quiet (fail)
        have O2q := hide (show (wr.drewN nq).ownsRow (w.heap.size + 1) 58 2 (.slice (some ⟨g, 0, none⟩) p cap) p (ecs (es.take p)) from unhide O2)
        have B2q := hide (bel_drewN (unhide hB) nq)
        have e0q : (wr.drewN nq).cell? ⟨w.heap.size, 0, none⟩ = some (.string e.k) := e0
        have e1q : (wr.drewN nq).cell? ⟨w.heap.size, 1, none⟩ = some (.string e.v) := e1
        have hszq : w.heap.size + 1 ≤ (wr.drewN nq).heap.size := hsz
        have d0q : (wr.drewN nq).cell? ⟨b, off + p * 2, none⟩ = some (.string es[p].k) := d0
        clear O2 hO hB BW e0 e1 hsz d0 d1
        generalize wr.drewN nq = wq at *
        cases gone with
        | true =>
          have OX := hide (unhide O2q)
          have BY := hide (unhide B2q)
          have BX := hide (b1.trans ((unhide B2q).mono (by omega)))
          clear O2q B2q e1q
          by_cases hf : found es e.k = true
          · have hfe : (es[p].k.toList == e.k.toList) = true := by rw [unhide FD]; exact hf
            have ST := hide (show putE es e true = (es.take p) ++ es.drop (p + 1) by unfold putE stepE; rw [if_neg (by simp), hp, hf]; simp)
            go_wp2_with fail
            go_quiet (fail)
            obtain ⟨A, hA, hsrc⟩ := drop_src (k := (p + 1)) ((unhide RE).below (unhide BX)) hc
            have HN := hide (show (ecs (es.drop (p + 1))).length = (n - (p + 1)) * 2 by rw [ecs_len, List.length_drop, unhide LE])
            have hsX : w.heap.size + 1 ≤ wq.heap.size := by have := (unhide BY).size; simp at this; omega
            go_wp2_with (at_builtin; refine wpList_append_own _ rfl _ _ 28 rfl (w.heap.size + 1) 58 i0 (.agg #[.string ByteArray.empty, .string ByteArray.empty]) 2 32 Try.underlying28 hi0 hz0 hz1 hz2 rfl (by decide) _ _ _ rfl (show (wq.drewN nq).ownsRow (w.heap.size + 1) 58 2 (.slice (some ⟨g, 0, none⟩) p cap) p (ecs (es.take p)) from unhide OX) A (n - (p + 1)) (c - (p + 1)) (ecs (es.drop (p + 1))) rfl (unhide HN) (unhide hsrc) (ecs_one _) (by unfold maxLen; omega) (by omega) hsX ?_)
            intro v5 w5 h1 h2 h3
            have O5 : EOwns w5 w.heap.size v5 (putE es e true) := by
              rw [unhide ST]
              refine ownsRow_base2 ?_ (Nat.le_succ _)
              rw [ecs_append, List.length_append, List.length_drop, unhide LE, unhide HTL]
              exact h1
            obtain ⟨g5, cap5, rfl, _⟩ := eowns_some O5 (fun h => by first | exact h3 h | (subst h; simp at h3))
            have O6 := hide O5
            have B6 := hide (b1.trans (((bel_drewN (unhide BY) nq).grown h2 hsX (fun k hk => (World.ownsRow.lt (show (wq.drewN nq).ownsRow (w.heap.size + 1) 58 2 (.slice (some ⟨g, 0, none⟩) p cap) p (ecs (es.take p)) from unhide OX) k hk).1)).mono (by omega)))
            clear h1 h2 h3 O5
            go_wp2_with fail
            go_ret
            exact ⟨g5, cap5, rfl, unhide O6, unhide B6⟩
          · have hfe : (es[p].k.toList == e.k.toList) = false := by rw [unhide FD]; simpa using hf
            have hf : found es e.k = false := by simpa using hf
            have ST := hide (show putE es e true = (es.take p) ++ es.drop p by unfold putE stepE; rw [if_neg (by simp), hp, hf]; simp)
            go_wp2_with fail
            go_quiet (fail)
            obtain ⟨A, hA, hsrc⟩ := drop_src (k := p) ((unhide RE).below (unhide BX)) hc
            have HN := hide (show (ecs (es.drop p)).length = (n - p) * 2 by rw [ecs_len, List.length_drop, unhide LE])
            have hsX : w.heap.size + 1 ≤ wq.heap.size := by have := (unhide BY).size; simp at this; omega
            go_wp2_with (at_builtin; refine wpList_append_own _ rfl _ _ 28 rfl (w.heap.size + 1) 58 i0 (.agg #[.string ByteArray.empty, .string ByteArray.empty]) 2 32 Try.underlying28 hi0 hz0 hz1 hz2 rfl (by decide) _ _ _ rfl (show (wq.drewN nq).ownsRow (w.heap.size + 1) 58 2 (.slice (some ⟨g, 0, none⟩) p cap) p (ecs (es.take p)) from unhide OX) A (n - p) (c - p) (ecs (es.drop p)) rfl (unhide HN) (unhide hsrc) (ecs_one _) (by unfold maxLen; omega) (by omega) hsX ?_)
            intro v5 w5 h1 h2 h3
            have O5 : EOwns w5 w.heap.size v5 (putE es e true) := by
              rw [unhide ST]
              refine ownsRow_base2 ?_ (Nat.le_succ _)
              rw [ecs_append, List.length_append, List.length_drop, unhide LE, unhide HTL]
              exact h1
            obtain ⟨g5, cap5, rfl, _⟩ := eowns_some O5 (fun h => by first | exact h3 h | (subst h; simp at h3))
            have O6 := hide O5
            have B6 := hide (b1.trans (((bel_drewN (unhide BY) nq).grown h2 hsX (fun k hk => (World.ownsRow.lt (show (wq.drewN nq).ownsRow (w.heap.size + 1) 58 2 (.slice (some ⟨g, 0, none⟩) p cap) p (ecs (es.take p)) from unhide OX) k hk).1)).mono (by omega)))
            clear h1 h2 h3 O5
            go_wp2_with fail
            go_ret
            exact ⟨g5, cap5, rfl, unhide O6, unhide B6⟩
        | false =>
          go_wp2_with (at_builtin; refine wpList_append_own _ rfl _ _ 28 rfl (w.heap.size + 1) 58 i0 (.agg #[.string ByteArray.empty, .string ByteArray.empty]) 2 32 Try.underlying28 hi0 hz0 hz1 hz2 rfl (by decide) _ _ _ rfl (World.ownsRow.alloc (unhide O2q) _) ⟨wq.heap.size, 0, none⟩ 1 1 [.string e.k, .string e.v] rfl rfl (cells_new (vs := [.string e.k, .string e.v])) (by intro u hu; simp at hu; rcases hu with rfl | rfl <;> rfl) (by unfold maxLen; omega) (by omega) (by simp; omega) ?_)
          intro v3 w3 h1 h2 h3
          have O3 : EOwns w3 (w.heap.size + 1) v3 (es.take p ++ [e]) := by
            refine eapp ?_
            rw [unhide HTL]
            exact h1
          obtain ⟨g3, cap3, rfl, hg3⟩ := eowns_some O3 (fun h => by subst h; simp at h3)
          have hl3 : (es.take p ++ [e]).length = p + 1 := by rw [List.length_append, unhide HTL]; rfl
          unfold EOwns at O3
          rw [hl3] at O3 ⊢
          have OX := hide O3
          have bZ : Below (w.heap.size + 1) wq w3 := ((Below.refl _ _).alloc hszq _).grown h2 (by simp; omega) (fun k hk => ((unhide O2q).lt k hk).1)
          have BY := hide ((unhide B2q).trans bZ)
          have BX := hide (b1.trans ((unhide BY).mono (by omega)))
          have e0r := (bZ.cell (p := ⟨w.heap.size, 0, none⟩) (by show w.heap.size < w.heap.size + 1; omega)).trans e0q
          have d0r := (bZ.cell (p := ⟨b, off + p * 2, none⟩) (by show b < w.heap.size + 1; omega)).trans d0q
          clear h1 h2 h3 O3 bZ O2q B2q e0q e1q hl3 d0q
          by_cases hf : found es e.k = true
          · have hfe : (es[p].k.toList == e.k.toList) = true := by rw [unhide FD]; exact hf
            have ST := hide (show putE es e false = (es.take p ++ [e]) ++ es.drop (p + 1) by unfold putE stepE; rw [if_neg (by simp), hp, hf]; simp)
            go_wp2_with fail
            go_quiet (fail)
            obtain ⟨A, hA, hsrc⟩ := drop_src (k := (p + 1)) ((unhide RE).below (unhide BX)) hc
            have HN := hide (show (ecs (es.drop (p + 1))).length = (n - (p + 1)) * 2 by rw [ecs_len, List.length_drop, unhide LE])
            have hsX : w.heap.size + 1 ≤ w3.heap.size := by have := (unhide BY).size; simp at this; omega
            go_wp2_with (at_builtin; refine wpList_append_own _ rfl _ _ 28 rfl (w.heap.size + 1) 58 i0 (.agg #[.string ByteArray.empty, .string ByteArray.empty]) 2 32 Try.underlying28 hi0 hz0 hz1 hz2 rfl (by decide) _ _ _ rfl (show (w3.drewN nq).ownsRow (w.heap.size + 1) 58 2 (.slice (some ⟨g3, 0, none⟩) (p + 1) cap3) (p + 1) (ecs (es.take p ++ [e])) from unhide OX) A (n - (p + 1)) (c - (p + 1)) (ecs (es.drop (p + 1))) rfl (unhide HN) (unhide hsrc) (ecs_one _) (by unfold maxLen; omega) (by omega) hsX ?_)
            intro v5 w5 h1 h2 h3
            have O5 : EOwns w5 w.heap.size v5 (putE es e false) := by
              rw [unhide ST]
              refine ownsRow_base2 ?_ (Nat.le_succ _)
              rw [ecs_append, List.length_append, List.length_drop, unhide LE, List.length_append, unhide HTL]
              exact h1
            obtain ⟨g5, cap5, rfl, _⟩ := eowns_some O5 (fun h => by first | exact h3 h | (subst h; simp at h3))
            have O6 := hide O5
            have B6 := hide (b1.trans (((bel_drewN (unhide BY) nq).grown h2 hsX (fun k hk => (World.ownsRow.lt (show (w3.drewN nq).ownsRow (w.heap.size + 1) 58 2 (.slice (some ⟨g3, 0, none⟩) (p + 1) cap3) (p + 1) (ecs (es.take p ++ [e])) from unhide OX) k hk).1)).mono (by omega)))
            clear h1 h2 h3 O5
            go_wp2_with fail
            go_ret
            exact ⟨g5, cap5, rfl, unhide O6, unhide B6⟩
          · have hfe : (es[p].k.toList == e.k.toList) = false := by rw [unhide FD]; simpa using hf
            have hf : found es e.k = false := by simpa using hf
            have ST := hide (show putE es e false = (es.take p ++ [e]) ++ es.drop p by unfold putE stepE; rw [if_neg (by simp), hp, hf]; simp)
            go_wp2_with fail
            go_quiet (fail)
            obtain ⟨A, hA, hsrc⟩ := drop_src (k := p) ((unhide RE).below (unhide BX)) hc
            have HN := hide (show (ecs (es.drop p)).length = (n - p) * 2 by rw [ecs_len, List.length_drop, unhide LE])
            have hsX : w.heap.size + 1 ≤ w3.heap.size := by have := (unhide BY).size; simp at this; omega
            go_wp2_with (at_builtin; refine wpList_append_own _ rfl _ _ 28 rfl (w.heap.size + 1) 58 i0 (.agg #[.string ByteArray.empty, .string ByteArray.empty]) 2 32 Try.underlying28 hi0 hz0 hz1 hz2 rfl (by decide) _ _ _ rfl (show (w3.drewN nq).ownsRow (w.heap.size + 1) 58 2 (.slice (some ⟨g3, 0, none⟩) (p + 1) cap3) (p + 1) (ecs (es.take p ++ [e])) from unhide OX) A (n - p) (c - p) (ecs (es.drop p)) rfl (unhide HN) (unhide hsrc) (ecs_one _) (by unfold maxLen; omega) (by omega) hsX ?_)
            intro v5 w5 h1 h2 h3
            have O5 : EOwns w5 w.heap.size v5 (putE es e false) := by
              rw [unhide ST]
              refine ownsRow_base2 ?_ (Nat.le_succ _)
              rw [ecs_append, List.length_append, List.length_drop, unhide LE, List.length_append, unhide HTL]
              exact h1
            obtain ⟨g5, cap5, rfl, _⟩ := eowns_some O5 (fun h => by first | exact h3 h | (subst h; simp at h3))
            have O6 := hide O5
            have B6 := hide (b1.trans (((bel_drewN (unhide BY) nq).grown h2 hsX (fun k hk => (World.ownsRow.lt (show (w3.drewN nq).ownsRow (w.heap.size + 1) 58 2 (.slice (some ⟨g3, 0, none⟩) (p + 1) cap3) (p + 1) (ecs (es.take p ++ [e])) from unhide OX) k hk).1)).mono (by omega)))
            clear h1 h2 h3 O5
            go_wp2_with fail
            go_ret
            exact ⟨g5, cap5, rfl, unhide O6, unhide B6⟩
      · have hjn : n ≤ pos es e.k := by have := unhide LE; have := unhide PL; omega
        have hjm : pos es e.k ≤ n := by have := unhide LE; have := unhide PL; omega
        have FN := hide (show found es e.k = false by unfold found; rw [List.getElem?_eq_none (by have := unhide LE; omega)])
        generalize hp : pos es e.k = p at *
        have hd1 : decide (p < n) = false := decide_eq_false (by omega)
        have hd2 : decide ((p : Int) < (n : Int)) = false := decide_eq_false (by omega)
        go_wp2_with fail
        go_quiet (fail)
        have O2q := hide (show (wr.drewN nq).ownsRow (w.heap.size + 1) 58 2 (.slice (some ⟨g, 0, none⟩) p cap) p (ecs (es.take p)) from unhide O2)
        have B2q := hide (bel_drewN (unhide hB) nq)
        have e0q : (wr.drewN nq).cell? ⟨w.heap.size, 0, none⟩ = some (.string e.k) := e0
        have e1q : (wr.drewN nq).cell? ⟨w.heap.size, 1, none⟩ = some (.string e.v) := e1
        have hszq : w.heap.size + 1 ≤ (wr.drewN nq).heap.size := hsz
        clear O2 hO hB BW e0 e1 hsz
        generalize wr.drewN nq = wq at *
        cases gone with
        | true =>
          have OX := hide (unhide O2q)
          have BY := hide (unhide B2q)
          have BX := hide (b1.trans ((unhide B2q).mono (by omega)))
          clear O2q B2q e1q
          have ST := hide (show putE es e true = (es.take p) by unfold putE stepE; rw [if_neg (by simp), hp, unhide FN, List.drop_of_length_le (by have := unhide LE; simp; omega)]; simp)
          go_wp2_with fail
          go_quiet (fail)
          obtain ⟨A, hA, hsrc⟩ := drop_src (k := p) ((unhide RE).below (unhide BX)) hc
          have hsX : w.heap.size + 1 ≤ wq.heap.size := by have := (unhide BY).size; simp at this; omega
          go_wp2_with (at_builtin; refine wpList_append_own _ rfl _ _ 28 rfl (w.heap.size + 1) 58 i0 (.agg #[.string ByteArray.empty, .string ByteArray.empty]) 2 32 Try.underlying28 hi0 hz0 hz1 hz2 rfl (by decide) _ _ _ rfl (show (wq.drewN nq).ownsRow (w.heap.size + 1) 58 2 (.slice (some ⟨g, 0, none⟩) p cap) p (ecs (es.take p)) from unhide OX) A 0 (c - p) [] rfl rfl (fun j u h => by simp at h) (fun u h => by simp at h) (by unfold maxLen; omega) (by omega) hsX ?_)
          intro v5 w5 h1 h2 h3
          have O5 : EOwns w5 w.heap.size v5 (putE es e true) := by
            rw [unhide ST]
            refine ownsRow_base2 ?_ (Nat.le_succ _)
            rw [unhide HTL]
            simpa using h1
          obtain ⟨g5, cap5, rfl, _⟩ := eowns_some O5 (fun h => by first | exact h3 h | (subst h; simp at h3))
          have O6 := hide O5
          have B6 := hide (b1.trans (((bel_drewN (unhide BY) nq).grown h2 hsX (fun k hk => (World.ownsRow.lt (show (wq.drewN nq).ownsRow (w.heap.size + 1) 58 2 (.slice (some ⟨g, 0, none⟩) p cap) p (ecs (es.take p)) from unhide OX) k hk).1)).mono (by omega)))
          clear h1 h2 h3 O5
          go_wp2_with fail
          go_ret
          exact ⟨g5, cap5, rfl, unhide O6, unhide B6⟩
        | false =>
          go_wp2_with (at_builtin; refine wpList_append_own _ rfl _ _ 28 rfl (w.heap.size + 1) 58 i0 (.agg #[.string ByteArray.empty, .string ByteArray.empty]) 2 32 Try.underlying28 hi0 hz0 hz1 hz2 rfl (by decide) _ _ _ rfl (World.ownsRow.alloc (unhide O2q) _) ⟨wq.heap.size, 0, none⟩ 1 1 [.string e.k, .string e.v] rfl rfl (cells_new (vs := [.string e.k, .string e.v])) (by intro u hu; simp at hu; rcases hu with rfl | rfl <;> rfl) (by unfold maxLen; omega) (by omega) (by simp; omega) ?_)
          intro v3 w3 h1 h2 h3
          have O3 : EOwns w3 (w.heap.size + 1) v3 (es.take p ++ [e]) := by
            refine eapp ?_
            rw [unhide HTL]
            exact h1
          obtain ⟨g3, cap3, rfl, hg3⟩ := eowns_some O3 (fun h => by subst h; simp at h3)
          have hl3 : (es.take p ++ [e]).length = p + 1 := by rw [List.length_append, unhide HTL]; rfl
          unfold EOwns at O3
          rw [hl3] at O3 ⊢
          have OX := hide O3
          have bZ : Below (w.heap.size + 1) wq w3 := ((Below.refl _ _).alloc hszq _).grown h2 (by simp; omega) (fun k hk => ((unhide O2q).lt k hk).1)
          have BY := hide ((unhide B2q).trans bZ)
          have BX := hide (b1.trans ((unhide BY).mono (by omega)))
          have e0r := (bZ.cell (p := ⟨w.heap.size, 0, none⟩) (by show w.heap.size < w.heap.size + 1; omega)).trans e0q
          clear h1 h2 h3 O3 bZ O2q B2q e0q e1q hl3
          have ST := hide (show putE es e false = (es.take p ++ [e]) by unfold putE stepE; rw [if_neg (by simp), hp, unhide FN, List.drop_of_length_le (by have := unhide LE; simp; omega)]; simp)
          go_wp2_with fail
          go_quiet (fail)
          obtain ⟨A, hA, hsrc⟩ := drop_src (k := p) ((unhide RE).below (unhide BX)) hc
          have hsX : w.heap.size + 1 ≤ w3.heap.size := by have := (unhide BY).size; simp at this; omega
          go_wp2_with (at_builtin; refine wpList_append_own _ rfl _ _ 28 rfl (w.heap.size + 1) 58 i0 (.agg #[.string ByteArray.empty, .string ByteArray.empty]) 2 32 Try.underlying28 hi0 hz0 hz1 hz2 rfl (by decide) _ _ _ rfl (show (w3.drewN nq).ownsRow (w.heap.size + 1) 58 2 (.slice (some ⟨g3, 0, none⟩) (p + 1) cap3) (p + 1) (ecs (es.take p ++ [e])) from unhide OX) A 0 (c - p) [] rfl rfl (fun j u h => by simp at h) (fun u h => by simp at h) (by unfold maxLen; omega) (by omega) hsX ?_)
          intro v5 w5 h1 h2 h3
          have O5 : EOwns w5 w.heap.size v5 (putE es e false) := by
            rw [unhide ST]
            refine ownsRow_base2 ?_ (Nat.le_succ _)
            rw [List.length_append, unhide HTL]
            simpa using h1
          obtain ⟨g5, cap5, rfl, _⟩ := eowns_some O5 (fun h => by first | exact h3 h | (subst h; simp at h3))
          have O6 := hide O5
          have B6 := hide (b1.trans (((bel_drewN (unhide BY) nq).grown h2 hsX (fun k hk => (World.ownsRow.lt (show (w3.drewN nq).ownsRow (w.heap.size + 1) 58 2 (.slice (some ⟨g3, 0, none⟩) (p + 1) cap3) (p + 1) (ecs (es.take p ++ [e])) from unhide OX) k hk).1)).mono (by omega)))
          clear h1 h2 h3 O5
          go_wp2_with fail
          go_ret
          exact ⟨g5, cap5, rfl, unhide O6, unhide B6⟩
end Go.Proofs.Ytkggpapmhopaeaa
