/-
  Lists of Page: the walks of to.., eq.. .
-/
import Derived.Test.YtdajoapbdeplhaaPpA
import Derived.Test.YtdajoapbdeplhaaWrT
namespace Go.Proofs.Ytdajoapbdeplhaa
open Go.RowKit
theorem toPage_nest (h : PpH) (w : World) (hP : PpIs w h) (hl : h.s0.n ≤ 1048576 ∧ h.s1.n ≤ 1048576) :
    Calls Try.prog 53 #[ppV h] w fun e w' => ∃ g0 g1, e = .returned (ppV ⟨h.X, ⟨some ⟨g0, 0, none⟩, h.s0.n, h.s0.n⟩, ⟨some ⟨g1, 0, none⟩, h.s1.n, h.s1.n⟩⟩) ∧ w'.ownsRow w.heap.size 79 2 (.slice (some ⟨g0, 0, none⟩) h.s0.n h.s0.n) h.s0.n (ecs h.X.es) ∧ w'.ownsRow w.heap.size 93 4 (.slice (some ⟨g1, 0, none⟩) h.s1.n h.s1.n) h.s1.n (dcs h.X.ds) ∧ g0 ≠ g1 ∧ Below w.heap.size w w' := by
  refine (toPage_any h.X.lo h.X.hi h.X.r h.s0.a h.s0.n h.s0.c h.X.es h.s1.a h.s1.n h.s1.c h.X.ds w hl.1 hl.2 hP).mono ?_
  rintro e w' ⟨g, k, rfl, ⟨o1, o2, hne⟩, hb⟩
  have e1 := hP.1.1
  have e2 := hP.2.1.1
  refine ⟨g, k, rfl, ?_, ?_, hne, hb⟩
  · unfold EOwns at o1
    rwa [e1] at o1
  · unfold DOwns at o2
    rwa [e2] at o2
def ppNo : El := ⟨[.string ByteArray.empty, .string ByteArray.empty, .int .i64 0, .slice none 0 0, .slice none 0 0], []⟩
theorem ppNo_made (n : Nat) : (madeCells #[.string ByteArray.empty, .string ByteArray.empty, .int .i64 0, .slice none 0 0, .slice none 0 0] (n * 5)).toList = (List.replicate n ppNo).flatMap (·.hd) := by
  apply List.ext_getElem?
  intro j
  rw [show ∀ (k : Nat), (madeCells #[.string ByteArray.empty, .string ByteArray.empty, .int .i64 0, .slice none 0 0, .slice none 0 0] (n * 5)).toList[k]? = if k < n * 5 then some (#[.string ByteArray.empty, .string ByteArray.empty, .int .i64 0, .slice none 0 0, .slice none 0 0][k % 5]!) else none from fun k => by
    by_cases hk : k < n * 5 <;> simp [madeCells, hk]]
  induction n generalizing j with
  | zero => simp
  | succ n ih =>
    rw [List.replicate_succ, List.flatMap_cons]
    match j with
    | 0 => simp [ppNo]
    | 1 => rw [if_pos (by omega)]; rfl
    | 2 => rw [if_pos (by omega)]; rfl
    | 3 => rw [if_pos (by omega)]; rfl
    | 4 => rw [if_pos (by omega)]; rfl
    | j + 5 =>
      rw [show (ppNo.hd ++ (List.replicate n ppNo).flatMap (·.hd))[j + 5]? = ((List.replicate n ppNo).flatMap (·.hd))[j]? from rfl, ← ih j, Nat.add_mod_right]
      by_cases hj : j < n * 5
      · rw [if_pos hj, if_pos (by omega)]
      · rw [if_neg hj, if_neg (by omega)]
theorem ppNo_set {X : List El} {n k : Nat} (hk : X.length = k) (hn : k < n) (d : El) : (X ++ List.replicate (n - k) ppNo).set k d = (X ++ [d]) ++ List.replicate (n - (k + 1)) ppNo := by
  subst hk
  obtain ⟨m, hm⟩ : ∃ m, n - X.length = m + 1 := ⟨n - X.length - 1, by omega⟩
  rw [hm, show n - (X.length + 1) = m by omega, List.replicate_succ, List.set_append_right _ _ (Nat.le_refl _), Nat.sub_self, List.set_cons_zero, List.append_assoc, List.singleton_append]
theorem ppNo_at {X : List El} {n k : Nat} (hk : X.length = k) (hn : k < n) : (X ++ List.replicate (n - k) ppNo)[k]? = some ppNo := by
  subst hk
  rw [List.getElem?_append_right (Nat.le_refl _), Nat.sub_self, List.getElem?_replicate, if_pos (by omega)]
set_option maxRecDepth 100000 in
set_option maxHeartbeats 2000000 in
theorem toPageS_any (a : Option Addr) (n c : Nat) (hs : List PpH) (w : World) (hn : n ≤ 1048576) (hr : PpIn w (.slice a n c) n hs) (hP : ∀ h ∈ hs, PpIs w h) (hl : ∀ h ∈ hs, h.s0.n ≤ 1048576 ∧ h.s1.n ≤ 1048576) :
    Calls Try.prog 26 #[.slice a n c] w fun e w' => ∃ hs' : List PpH, e = .returned (.slice (some ⟨w.heap.size, 0, none⟩) n n) ∧ NOwn w' w.heap.size 53 5 (.slice (some ⟨w.heap.size, 0, none⟩) n n) n (hs'.map ppEl) ∧ hs'.map (·.X) = hs.map (·.X) ∧ Below w.heap.size w w' := by
  obtain ⟨i0, hi, hz0, hz1, hz2⟩ := info_parts Try.infoPp
  have L := hide (show hs.length = n by have := hr.len; simpa using this)
  have R := hide hr
  have LM := hide hl
  have HPP := hide hP
  clear hr hl hP
  go_enter Try.func26, Try.ntmps26
  go_wp2_with (at_make; refine wpList_make_full _ rfl _ _ 29 rfl w.heap.size 53 i0 _ 5 Try.underlying29 hi hz0 hz1 _ _ _ _ n rfl rfl rfl rfl (by rw [hz2]; omega) (by unfold maxLen; omega) (Nat.le_refl _) ?_)
  intro w1 hown hgrow
  have hl0 := hide (show NOwn w1 w.heap.size 53 5 (.slice (some ⟨w.heap.size, 0, none⟩) n n) n (([] : List PpH).map ppEl ++ List.replicate (n - 0) ppNo) by
    refine NOwn.flat ?_ (by simp) (fun e he => by simp at he; rw [he.2]; rfl) (fun e he => by simp at he; rw [he.2]; rfl)
    rw [List.map_nil, List.nil_append, Nat.sub_zero, ← ppNo_made]
    exact hown)
  have hbel : Below w.heap.size w w1 := (Below.refl _ _).grown hgrow (Nat.le_refl _) (fun k hk => by cases hk)
  clear hown hgrow
  go_wp2_with fail
  go_loopw [4] (fun i wr => ∃ (k : Nat) (qs : List PpH), k ≤ n ∧ i = .int .i64 k ∧ Hid (qs.map (·.X) = (hs.take k).map (·.X)) ∧ Hid (NOwn wr w.heap.size 53 5 (.slice (some ⟨w.heap.size, 0, none⟩) n n) n (qs.map ppEl ++ List.replicate (n - k) ppNo)) ∧ Below w.heap.size w wr) (fun i _ => n - (intOf i).toNat)
  case atStart => exact ⟨0, [], by omega, rfl, rfl, hl0, hbel⟩
  case round =>
    clear hl0 hbel
    obtain ⟨k, qs, hk, rfl, hX, hO, hb⟩ := hrel
    by_cases hlt : k < n
    · have hk2 : k < hs.length := by rw [unhide L]; exact hlt
      have hql : qs.length = k := by have := congrArg List.length (unhide hX); rw [List.length_map, List.length_map, List.length_take] at this; omega
      have XS := hide (show ∀ p : PpH, p.X = hs[k].X → (qs ++ [p]).map (·.X) = (hs.take (k + 1)).map (·.X) from fun p hp => by rw [rb_take_snoc hs k hk2, List.map_append, List.map_append, unhide hX]; simp [hp])
      have hl := unhide LM _ (List.getElem_mem hk2)
      obtain ⟨b, off, rfl, hbl, d0, d1, d2, d3, d4⟩ := PpIn.cells ((unhide R).below hb) hk2
      have SUBS := PpIn.sub ((unhide R).below hb) hk2
      have HT := hide (toPage_nest hs[k] wr ((unhide HPP _ (List.getElem_mem hk2)).below hb) hl)
      have LEN := hide (show hs[k].X.es.length = hs[k].s0.n ∧ hs[k].X.ds.length = hs[k].s1.n from by
        have SUBS := SUBS
        exact ⟨by obtain ⟨_, _, e, _⟩ := SUBS.1; injection e with _ e _; exact e.symm, by obtain ⟨_, _, e, _⟩ := SUBS.2; injection e with _ e _; exact e.symm⟩)
      have HQL := hide hql
      have hsz := hb.size
      unfold ppV at HT
      clear hX SUBS hql
      generalize hs[k] = pd at *
      obtain ⟨X, ⟨a0, n0, c0⟩, ⟨a1, n1, c1⟩⟩ := pd
      simp only at d0 d1 d2 d3 d4 hl HT XS LEN
      have HH := hide (show ∀ s0 s1, ppEl ⟨X, s0, s1⟩ = ⟨[.string X.lo, .string X.hi, .int .i64 X.r, .slice s0.a s0.n s0.c, .slice s1.a s1.n s1.c], [⟨79, 2, X.es.length, .slice s0.a s0.n s0.c, ecs X.es⟩, ⟨93, 4, X.ds.length, .slice s1.a s1.n s1.c, dcs X.ds⟩]⟩ from fun s0 s1 => rfl)
      go_wp2_with fail
      refine (unhide HT).mono ?_
      rintro e w2 ⟨g0, g1, rfl, o0, o1, hne0, hb2⟩
      have S2 := hide (show NOwn (((((w2.setCell ⟨w.heap.size, k * 5, none⟩ (.string X.lo)).setCell ⟨w.heap.size, k * 5 + 1, none⟩ (.string X.hi)).setCell ⟨w.heap.size, k * 5 + 2, none⟩ (.int .i64 X.r)).setCell ⟨w.heap.size, k * 5 + 3, none⟩ (.slice (some ⟨g0, 0, none⟩) n0 n0)).setCell ⟨w.heap.size, k * 5 + 4, none⟩ (.slice (some ⟨g1, 0, none⟩) n1 n1)) w.heap.size 53 5 (.slice (some ⟨w.heap.size, 0, none⟩) n n) n ((qs ++ [(⟨X, ⟨some ⟨g0, 0, none⟩, n0, n0⟩, ⟨some ⟨g1, 0, none⟩, n1, n1⟩⟩ : PpH)]).map ppEl ++ List.replicate (n - (k + 1)) ppNo) from by
        have h := NOwn.put (unhide hO) (i := k) (e' := ppEl ⟨X, ⟨some ⟨g0, 0, none⟩, n0, n0⟩, ⟨some ⟨g1, 0, none⟩, n1, n1⟩⟩) (ppNo_at (by rw [List.length_map]; exact unhide HQL) hlt) hb2 (Nat.le_refl _) hsz (fun x hx => ?_) (fun a b x y ha hb hne g hg hg2 => ?_) rfl
        · rw [ppNo_set (by rw [List.length_map]; exact unhide HQL) hlt] at h
          rw [List.map_append]
          exact h
        · rw [unhide HH] at hx
          simp only [List.mem_cons, List.not_mem_nil, or_false] at hx
          rcases hx with rfl | rfl
          · have e := (unhide LEN).1; simp only; rw [e]; exact o0
          · have e := (unhide LEN).2; simp only; rw [e]; exact o1
        · rw [unhide HH] at ha hb
          simp only at ha hb
          match a, b, ha, hb, hne with
          | 0, 1, ha, hb, _ => simp at ha hb; subst ha hb; simp [Value.ownBlock] at hg hg2; omega
          | 1, 0, ha, hb, _ => simp at ha hb; subst ha hb; simp [Value.ownBlock] at hg hg2; omega
          | 0, 0, _, _, h => exact absurd rfl h
          | 1, 1, _, _, h => exact absurd rfl h
          | a + 2, _, ha, _, _ => simp at ha
          | 0, b + 2, _, hb, _ => simp at hb
          | 1, b + 2, _, hb, _ => simp at hb)
      have B2 := hide (show Below w.heap.size w (((((w2.setCell ⟨w.heap.size, k * 5, none⟩ (.string X.lo)).setCell ⟨w.heap.size, k * 5 + 1, none⟩ (.string X.hi)).setCell ⟨w.heap.size, k * 5 + 2, none⟩ (.int .i64 X.r)).setCell ⟨w.heap.size, k * 5 + 3, none⟩ (.slice (some ⟨g0, 0, none⟩) n0 n0)).setCell ⟨w.heap.size, k * 5 + 4, none⟩ (.slice (some ⟨g1, 0, none⟩) n1 n1)) from ((((((hb.trans (hb2.mono hsz)).setCell (p := ⟨w.heap.size, k * 5, none⟩) (Nat.le_refl _) _).setCell (p := ⟨w.heap.size, k * 5 + 1, none⟩) (Nat.le_refl _) _).setCell (p := ⟨w.heap.size, k * 5 + 2, none⟩) (Nat.le_refl _) _).setCell (p := ⟨w.heap.size, k * 5 + 3, none⟩) (Nat.le_refl _) _).setCell (p := ⟨w.heap.size, k * 5 + 4, none⟩) (Nat.le_refl _) _))
      have O2 := (unhide hO).below hb2
      have e0 : w2.cell? ⟨w.heap.size, k * 5, none⟩ = some (.string ByteArray.empty) := O2.cell (i := k) (j := 0) (ppNo_at (by rw [List.length_map]; exact unhide HQL) hlt) rfl
      have e1 : w2.cell? ⟨w.heap.size, k * 5 + 1, none⟩ = some (.string ByteArray.empty) := O2.cell (i := k) (j := 1) (ppNo_at (by rw [List.length_map]; exact unhide HQL) hlt) rfl
      have e2 : w2.cell? ⟨w.heap.size, k * 5 + 2, none⟩ = some (.int .i64 0) := O2.cell (i := k) (j := 2) (ppNo_at (by rw [List.length_map]; exact unhide HQL) hlt) rfl
      have e3 : w2.cell? ⟨w.heap.size, k * 5 + 3, none⟩ = some (.slice none 0 0) := O2.cell (i := k) (j := 3) (ppNo_at (by rw [List.length_map]; exact unhide HQL) hlt) rfl
      have e4 : w2.cell? ⟨w.heap.size, k * 5 + 4, none⟩ = some (.slice none 0 0) := O2.cell (i := k) (j := 4) (ppNo_at (by rw [List.length_map]; exact unhide HQL) hlt) rfl
      have fall := O2.free
      have f0 := fall (k * 5)
      have f1 := fall (k * 5 + 1)
      have f2 := fall (k * 5 + 2)
      have f3 := fall (k * 5 + 3)
      have f4 := fall (k * 5 + 4)
      clear fall O2 hO hb hb2 HT LEN HH d0 d1 d2 d3 d4 hsz
      generalize X.lo = x0 at *
      generalize X.hi = x1 at *
      generalize X.r = x2 at *
      go_wp2_with fail
      go_roundw
      case rel => exact ⟨k + 1, _, by omega, by go_num, unhide XS _ rfl, unhide S2, unhide B2⟩
      case measure => simp [intOf]; omega
    · obtain rfl : k = n := by omega
      have F := hide (show NOwn wr w.heap.size 53 5 (.slice (some ⟨w.heap.size, 0, none⟩) k k) k (qs.map ppEl) by
        have := unhide hO
        rwa [Nat.sub_self, List.replicate_zero, List.append_nil] at this)
      have LL := hide (show qs.map (·.X) = hs.map (·.X) by rw [unhide hX, List.take_of_length_le (by rw [unhide L]; exact Nat.le_refl _)])
      go_wp2_with fail
      go_ret
      exact ⟨rfl, qs, unhide F, unhide LL, hb⟩
end Go.Proofs.Ytdajoapbdeplhaa
