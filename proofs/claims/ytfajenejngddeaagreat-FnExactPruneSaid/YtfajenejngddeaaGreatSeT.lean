/-
  Lists of Session: the walks of to.., eq.. .
-/
import Derived.Test.YtfajenejngddeaaGreatSeU
import Derived.Test.YtfajenejngddeaaGreatSeA
import Derived.Test.YtfajenejngddeaaGreatWrT
import Derived.Deep.WholeRow
namespace Go.Proofs.YtfajenejngddeaaGreat
open Go.RowKit

set_option maxRecDepth 100000 in
set_option maxHeartbeats 2000000 in
theorem toSesN_any (h : SeH) (w : World) (r0 : RowC w (.slice h.s0.a h.s0.n h.s0.c) h.X.ws.length (vcs h.X.ws)) (hl : h.s0.n ≤ 1048576) :
    Calls Tryz.prog 90 #[seV h] w fun e w' => ∃ g0, e = .returned (seV ⟨h.X, ⟨some ⟨g0, 0, none⟩, h.s0.n, h.s0.n⟩⟩) ∧ w'.ownsRow w.heap.size 39 4 (.slice (some ⟨g0, 0, none⟩) h.s0.n h.s0.n) h.s0.n (vcs h.X.ws) ∧ Below w.heap.size w w' := by
  obtain ⟨X, ⟨a0, n0, c0⟩⟩ := h
  unfold seV
  simp only at hl r0 ⊢
  obtain hL0 : X.ws.length = n0 := by obtain ⟨_, _, e, _⟩ := r0; injection e with _ e _; exact e.symm
  rw [hL0] at r0
  have L0 := hide hL0
  clear hL0
  have R0 := hide r0
  clear r0
  generalize X.o = x0 at *
  generalize X.t = x1 at *
  have b1 : Below w.heap.size w (w.alloc (.cells #[.bool x0, .int .i64 x1, .slice a0 n0 c0] 143)) := (Below.refl _ _).alloc (Nat.le_refl _) _
  have h1 := heap_alloc_last w (.cells #[.bool x0, .int .i64 x1, .slice a0 n0 c0] 143)
  obtain ⟨W1, hW1⟩ : ∃ W1, W1 = w.alloc (.cells #[.bool x0, .int .i64 x1, .slice a0 n0 c0] 143) := ⟨_, rfl⟩
  have z1 : W1.heap.size = w.heap.size + 1 := by rw [hW1]; simp
  have b2 : Below (w.heap.size + 1) W1 (W1.alloc (.cells #[.bool false, .int .i64 0, .slice none 0 0] 93)) := (Below.refl _ _).alloc (by omega) _
  have h2 : (W1.alloc (.cells #[.bool false, .int .i64 0, .slice none 0 0] 93)).heap[w.heap.size + 1]? = some (.cells #[.bool false, .int .i64 0, .slice none 0 0] 93 (0, 0)) := by rw [← z1]; exact heap_alloc_last _ _
  obtain ⟨W2, hW2⟩ : ∃ W2, W2 = W1.alloc (.cells #[.bool false, .int .i64 0, .slice none 0 0] 93) := ⟨_, rfl⟩
  have z2 : W2.heap.size = w.heap.size + 1 + 1 := by rw [hW2]; simp [z1]
  have b3 : Below (w.heap.size + 1 + 1) W2 (W2.alloc (.cells #[.bool x0, .int .i64 x1, .slice none 0 0] 93)) := (Below.refl _ _).alloc (by omega) _
  have h3 : (W2.alloc (.cells #[.bool x0, .int .i64 x1, .slice none 0 0] 93)).heap[w.heap.size + 1 + 1]? = some (.cells #[.bool x0, .int .i64 x1, .slice none 0 0] 93 (0, 0)) := by rw [← z2]; exact heap_alloc_last _ _
  rw [← hW1] at b1 h1
  rw [← hW2] at b2 h2
  have K1 := hide ((b3.block w.heap.size (by omega)).trans ((b2.block w.heap.size (by omega)).trans h1))
  have K2 := hide ((b3.block (w.heap.size + 1) (by omega)).trans h2)
  have K3 := hide h3
  have B : Below w.heap.size w (W2.alloc (.cells #[.bool x0, .int .i64 x1, .slice none 0 0] 93)) := b1.trans ((b2.mono (by omega)).trans (b3.mono (by omega)))
  have z3 : (W2.alloc (.cells #[.bool x0, .int .i64 x1, .slice none 0 0] 93)).heap.size = w.heap.size + 1 + 1 + 1 := by simp [z2]
  clear b1 b2 b3 h1 h2 h3 z1 z2
  subst hW2 hW1
  go_enter Tryz.func90, Tryz.ntmps90
  go_wp2_with fail
  generalize ((w.alloc (.cells #[.bool x0, .int .i64 x1, .slice a0 n0 c0] 143)).alloc (.cells #[.bool false, .int .i64 0, .slice none 0 0] 93)).alloc (.cells #[.bool x0, .int .i64 x1, .slice none 0 0] 93) = u0 at *
  have y0 : w.heap.size + 1 + 1 + 1 ≤ u0.heap.size := by omega
  clear z3
  refine (toVersionS_own a0 n0 c0 _ u0 (by omega) (unhide L0) ((unhide R0).below B)).mono ?_
  rintro e v0 ⟨rfl, hO, hb⟩
  replace K1 := hide ((hb.block w.heap.size (by omega)).trans (unhide K1))
  replace K2 := hide ((hb.block (w.heap.size + 1) (by omega)).trans (unhide K2))
  replace K3 := hide ((hb.block (w.heap.size + 1 + 1) (by omega)).trans (unhide K3))
  replace B := B.trans (hb.mono B.size)
  have O0 := hide (gd_base hO (C := w.heap.size + 1 + 1 + 1) (by omega))
  have zz0 := hb.size
  have gl0 := (hO.lt _ rfl).2
  clear hO hb
  generalize hg0 : u0.heap.size = g0 at *
  have t0 := (heap_at (unhide K3) 2).1
  have t1 := (heap_at (unhide K3) 2).2
  have p0 := (heap_at (unhide K3) 0).1
  have p1 := (heap_at (unhide K3) 1).1
  have p2 := (heap_at (unhide K3) 2).1
  have r0 := (heap_at (unhide K2) 0).1
  have f0 := (heap_at (unhide K2) 0).2
  have r1 := (heap_at (unhide K2) 1).1
  have f1 := (heap_at (unhide K2) 1).2
  have r2 := (heap_at (unhide K2) 2).1
  have f2 := (heap_at (unhide K2) 2).2
  clear K1 K2 K3
  simp only [List.getElem?_toArray, List.getElem?_cons_zero, List.getElem?_cons_succ] at p0 p1 p2 r0 r1 r2
  clear t0 L0 R0 hl
  have NE := hide (show True from trivial)
  clear hg0 zz0 gl0 y0
  go_wp2_with fail
  have q1 : w.heap.size + 1 < w.heap.size + 1 + 1 + 1 := by omega
  have q2 : w.heap.size + 1 + 1 < w.heap.size + 1 + 1 + 1 := by omega
  have q3 : w.heap.size ≤ w.heap.size + 1 := by omega
  have q4 : w.heap.size ≤ w.heap.size + 1 + 1 := by omega
  refine bodyPost_ret (v := .agg #[.bool x0, .int .i64 x1, .slice (some ⟨g0, 0, none⟩) n0 n0]) (by simp [results, Tryz.results90, go_sem, *]) rfl ⟨g0, rfl, ?_, ?_⟩
  · exact gd_base (gd_set (gd_set (gd_set (gd_set (unhide O0) q2 _ _) q1 _ _) q1 _ _) q1 _ _) (by omega)
  · exact ((((B.setCell (p := ⟨w.heap.size + 1 + 1, 2, none⟩) q4 _).setCell (p := ⟨w.heap.size + 1, 0, none⟩) q3 _).setCell (p := ⟨w.heap.size + 1, 1, none⟩) q3 _).setCell (p := ⟨w.heap.size + 1, 2, none⟩) q3 _)
def seNo : El := ⟨[.bool false, .int .i64 0, .slice none 0 0], []⟩
theorem seNo_made (n : Nat) : (madeCells #[.bool false, .int .i64 0, .slice none 0 0] (n * 3)).toList = (List.replicate n seNo).flatMap (·.hd) := by
  apply List.ext_getElem?
  intro j
  rw [show ∀ (k : Nat), (madeCells #[.bool false, .int .i64 0, .slice none 0 0] (n * 3)).toList[k]? = if k < n * 3 then some (#[.bool false, .int .i64 0, .slice none 0 0][k % 3]!) else none from fun k => by
    by_cases hk : k < n * 3 <;> simp [madeCells, hk]]
  induction n generalizing j with
  | zero => simp
  | succ n ih =>
    rw [List.replicate_succ, List.flatMap_cons]
    match j with
    | 0 => simp [seNo]
    | 1 => rw [if_pos (by omega)]; rfl
    | 2 => rw [if_pos (by omega)]; rfl
    | j + 3 =>
      rw [show (seNo.hd ++ (List.replicate n seNo).flatMap (·.hd))[j + 3]? = ((List.replicate n seNo).flatMap (·.hd))[j]? from rfl, ← ih j, Nat.add_mod_right]
      by_cases hj : j < n * 3
      · rw [if_pos hj, if_pos (by omega)]
      · rw [if_neg hj, if_neg (by omega)]
theorem seNo_set {X : List El} {n k : Nat} (hk : X.length = k) (hn : k < n) (d : El) : (X ++ List.replicate (n - k) seNo).set k d = (X ++ [d]) ++ List.replicate (n - (k + 1)) seNo := by
  subst hk
  obtain ⟨m, hm⟩ : ∃ m, n - X.length = m + 1 := ⟨n - X.length - 1, by omega⟩
  rw [hm, show n - (X.length + 1) = m by omega, List.replicate_succ, List.set_append_right _ _ (Nat.le_refl _), Nat.sub_self, List.set_cons_zero, List.append_assoc, List.singleton_append]
theorem seNo_at {X : List El} {n k : Nat} (hk : X.length = k) (hn : k < n) : (X ++ List.replicate (n - k) seNo)[k]? = some seNo := by
  subst hk
  rw [List.getElem?_append_right (Nat.le_refl _), Nat.sub_self, List.getElem?_replicate, if_pos (by omega)]
set_option maxRecDepth 100000 in
set_option maxHeartbeats 2000000 in
theorem toSesNS_any (a : Option Addr) (n c : Nat) (hs : List SeH) (w : World) (hn : n ≤ 1048576) (hr : SeIn w (.slice a n c) n hs) (hl : ∀ h ∈ hs, h.s0.n ≤ 1048576) :
    Calls Tryz.prog 45 #[.slice a n c] w fun e w' => ∃ hs' : List SeH, e = .returned (.slice (some ⟨w.heap.size, 0, none⟩) n n) ∧ NOwn w' w.heap.size 93 3 (.slice (some ⟨w.heap.size, 0, none⟩) n n) n (hs'.map seEl) ∧ hs'.map (·.X) = hs.map (·.X) ∧ Below w.heap.size w w' := by
  obtain ⟨i0, hi, hz0, hz1, hz2⟩ := info_parts Tryz.infoSe
  have L := hide (show hs.length = n by have := hr.len; simpa using this)
  have R := hide hr
  have LM := hide hl
  clear hr hl
  go_enter Tryz.func45, Tryz.ntmps45
  go_wp2_with (at_make; refine wpList_make_full _ rfl _ _ 25 rfl w.heap.size 93 i0 _ 3 Tryz.underlying25 hi hz0 hz1 _ _ _ _ n rfl rfl rfl rfl (by rw [hz2]; omega) (by unfold maxLen; omega) (Nat.le_refl _) ?_)
  intro w1 hown hgrow
  have hl0 := hide (show NOwn w1 w.heap.size 93 3 (.slice (some ⟨w.heap.size, 0, none⟩) n n) n (([] : List SeH).map seEl ++ List.replicate (n - 0) seNo) by
    refine NOwn.flat ?_ (by simp) (fun e he => by simp at he; rw [he.2]; rfl) (fun e he => by simp at he; rw [he.2]; rfl)
    rw [List.map_nil, List.nil_append, Nat.sub_zero, ← seNo_made]
    exact hown)
  have hbel : Below w.heap.size w w1 := (Below.refl _ _).grown hgrow (Nat.le_refl _) (fun k hk => by cases hk)
  clear hown hgrow
  go_wp2_with fail
  go_loopw [4] (fun i wr => ∃ (k : Nat) (qs : List SeH), k ≤ n ∧ i = .int .i64 k ∧ Hid (qs.map (·.X) = (hs.take k).map (·.X)) ∧ Hid (NOwn wr w.heap.size 93 3 (.slice (some ⟨w.heap.size, 0, none⟩) n n) n (qs.map seEl ++ List.replicate (n - k) seNo)) ∧ Below w.heap.size w wr) (fun i _ => n - (intOf i).toNat)
  case atStart => exact ⟨0, [], by omega, rfl, rfl, hl0, hbel⟩
  case round =>
    clear hl0 hbel
    obtain ⟨k, qs, hk, rfl, hX, hO, hb⟩ := hrel
    by_cases hlt : k < n
    · have hk2 : k < hs.length := by rw [unhide L]; exact hlt
      have hql : qs.length = k := by have := congrArg List.length (unhide hX); rw [List.length_map, List.length_map, List.length_take] at this; omega
      have XS := hide (show ∀ p : SeH, p.X = hs[k].X → (qs ++ [p]).map (·.X) = (hs.take (k + 1)).map (·.X) from fun p hp => by rw [rb_take_snoc hs k hk2, List.map_append, List.map_append, unhide hX]; simp [hp])
      have hl := unhide LM _ (List.getElem_mem hk2)
      obtain ⟨b, off, rfl, hbl, d0, d1, d2⟩ := SeIn.cells ((unhide R).below hb) hk2
      have SUBS := SeIn.sub ((unhide R).below hb) hk2
      have HT := hide (toSesN_any hs[k] wr SUBS hl)
      have LEN := hide (show hs[k].X.ws.length = hs[k].s0.n from by
        have SUBS := SUBS
        exact (by have e0 := SUBS; obtain ⟨_, _, e, _⟩ := e0; injection e with _ e _; exact e.symm))
      have HQL := hide hql
      have hsz := hb.size
      unfold seV at HT
      clear hX SUBS hql
      generalize hs[k] = pd at *
      obtain ⟨X, ⟨a0, n0, c0⟩⟩ := pd
      simp only at d0 d1 d2 hl HT XS LEN
      have HH := hide (show ∀ s0, seEl ⟨X, s0⟩ = ⟨[.bool X.o, .int .i64 X.t, .slice s0.a s0.n s0.c], [⟨39, 4, X.ws.length, .slice s0.a s0.n s0.c, vcs X.ws⟩]⟩ from fun s0 => rfl)
      go_wp2_with fail
      refine (unhide HT).mono ?_
      rintro e w2 ⟨g0, rfl, o0, hb2⟩
      have S2 := hide (show NOwn (((w2.setCell ⟨w.heap.size, k * 3, none⟩ (.bool X.o)).setCell ⟨w.heap.size, k * 3 + 1, none⟩ (.int .i64 X.t)).setCell ⟨w.heap.size, k * 3 + 2, none⟩ (.slice (some ⟨g0, 0, none⟩) n0 n0)) w.heap.size 93 3 (.slice (some ⟨w.heap.size, 0, none⟩) n n) n ((qs ++ [(⟨X, ⟨some ⟨g0, 0, none⟩, n0, n0⟩⟩ : SeH)]).map seEl ++ List.replicate (n - (k + 1)) seNo) from by
        have h := NOwn.put (unhide hO) (i := k) (e' := seEl ⟨X, ⟨some ⟨g0, 0, none⟩, n0, n0⟩⟩) (seNo_at (by rw [List.length_map]; exact unhide HQL) hlt) hb2 (Nat.le_refl _) hsz (fun x hx => ?_) (fun a b x y ha hb hne g hg hg2 => ?_) rfl
        · rw [seNo_set (by rw [List.length_map]; exact unhide HQL) hlt] at h
          rw [List.map_append]
          exact h
        · rw [unhide HH] at hx
          simp only [List.mem_cons, List.not_mem_nil, or_false] at hx
          subst hx; have e := unhide LEN; simp only; rw [e]; exact o0
        · rw [unhide HH] at ha hb
          simp only at ha hb
          match a, b, ha, hb, hne with
          | 0, 0, _, _, h => exact absurd rfl h
          | a + 1, _, ha, _, _ => simp at ha
          | 0, b + 1, _, hb, _ => simp at hb)
      have B2 := hide (show Below w.heap.size w (((w2.setCell ⟨w.heap.size, k * 3, none⟩ (.bool X.o)).setCell ⟨w.heap.size, k * 3 + 1, none⟩ (.int .i64 X.t)).setCell ⟨w.heap.size, k * 3 + 2, none⟩ (.slice (some ⟨g0, 0, none⟩) n0 n0)) from ((((hb.trans (hb2.mono hsz)).setCell (p := ⟨w.heap.size, k * 3, none⟩) (Nat.le_refl _) _).setCell (p := ⟨w.heap.size, k * 3 + 1, none⟩) (Nat.le_refl _) _).setCell (p := ⟨w.heap.size, k * 3 + 2, none⟩) (Nat.le_refl _) _))
      have O2 := (unhide hO).below hb2
      have e0 : w2.cell? ⟨w.heap.size, k * 3, none⟩ = some (.bool false) := O2.cell (i := k) (j := 0) (seNo_at (by rw [List.length_map]; exact unhide HQL) hlt) rfl
      have e1 : w2.cell? ⟨w.heap.size, k * 3 + 1, none⟩ = some (.int .i64 0) := O2.cell (i := k) (j := 1) (seNo_at (by rw [List.length_map]; exact unhide HQL) hlt) rfl
      have e2 : w2.cell? ⟨w.heap.size, k * 3 + 2, none⟩ = some (.slice none 0 0) := O2.cell (i := k) (j := 2) (seNo_at (by rw [List.length_map]; exact unhide HQL) hlt) rfl
      have fall := O2.free
      have f0 := fall (k * 3)
      have f1 := fall (k * 3 + 1)
      have f2 := fall (k * 3 + 2)
      clear fall O2 hO hb hb2 HT LEN HH d0 d1 d2 hsz
      generalize X.o = x0 at *
      generalize X.t = x1 at *
      go_wp2_with fail
      go_roundw
      case rel => exact ⟨k + 1, _, by omega, by go_num, unhide XS _ rfl, unhide S2, unhide B2⟩
      case measure => simp [intOf]; omega
    · obtain rfl : k = n := by omega
      have F := hide (show NOwn wr w.heap.size 93 3 (.slice (some ⟨w.heap.size, 0, none⟩) k k) k (qs.map seEl) by
        have := unhide hO
        rwa [Nat.sub_self, List.replicate_zero, List.append_nil] at this)
      have LL := hide (show qs.map (·.X) = hs.map (·.X) by rw [unhide hX, List.take_of_length_le (by rw [unhide L]; exact Nat.le_refl _)])
      go_wp2_with fail
      go_ret
      exact ⟨rfl, qs, unhide F, unhide LL, hb⟩
end Go.Proofs.YtfajenejngddeaaGreat
