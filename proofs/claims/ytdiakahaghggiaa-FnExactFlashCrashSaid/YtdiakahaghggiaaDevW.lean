/-
  The walk of a device's method wait.
-/
import Derived.Test.YtdiakahaghggiaaDevD
import Derived.Deep.RegionLaw
namespace Go.Proofs.Ytdiakahaghggiaa
open Go.RowKit Go.Maps

/-- An append whose run is known, as one step of a region that draws. -/
theorem step_append_eq {P : Program} {ops : Array Oper} {o : Oper} {a : Act} {w : World} {K : Act → World → Prop} {Q : Exit → Act → World → Prop} {E : Prop}
    (hg : o.guard = none) (s x : Operand) (t : TypeId) (hop : o.op = Op.call { callee := Callee.builtin Builtin.append, args := #[s, x], argTypes := #[t, t] })
    (vs vx v' : Value) (w' : World) (hs : a.eval s = vs) (hx : a.eval x = vx) (hrun : (Builtin.append_ #[t, t] o.type #[vs, vx]).run P w = .ok v' w') (hK : K (a.put o.dst v') w') :
    if Region.wanted o (yielded ops a.tmps) = true then Oper.wp P o a w K Q else E := by
  have hw : Region.wanted o (yielded ops a.tmps) = true := by simp [Region.wanted, hg]
  rw [if_pos hw]
  unfold Oper.wp
  simp [execOp, hop, resolve, invoke, builtin, hs, hx, hrun, Result.andThen]
  exact hK
theorem wlit {n : Nat} {s : List Int} {cs : Array Value} (hcs : cs = (s.map (Value.int .u8)).toArray) (hz : cs.size = 16) : (#[.int .i64 (n : Int), cs[0], cs[1], cs[2], cs[3], cs[4], cs[5], cs[6], cs[7], cs[8], cs[9], cs[10], cs[11], cs[12], cs[13], cs[14], cs[15]] : Array Value) = (wcells ⟨n, s⟩).toArray := by
  have := eta16 hz
  have e : (wcells ⟨n, s⟩).toArray = #[.int .i64 (n : Int)] ++ cs := by rw [hcs]; simp [wcells]
  rw [e]
  conv => rhs; rw [← this]
  rfl
theorem ownsRow_drew {w : World} {base e size n : Nat} {v : Value} {xs : List Value} (h : w.ownsRow base e size v n xs) : w.drew.ownsRow base e size v n xs := h
set_option maxRecDepth 100000 in
set_option maxHeartbeats 2000000 in
theorem wait_keep (base p N n : Nat) (S : DS) (s : List Int) (w : World) (hD : Dev w base p N S) (hN : N < maxLen) (hw : S.ws.length ≤ 1000000) (h16 : s.length = 16) (hn : n < 128) :
    Calls Try.prog 62 #[.pointer (some ⟨p, 0, none⟩), .int .i64 (n : Int), secV s] w fun e w' => e = .returned (.tuple #[]) ∧ Dev w' base p (N + 1) { S with rc := max S.rc (n + 1), rf := updS S.rf n s, ws := S.ws ++ [⟨n, s⟩] } ∧ Below base w w' ∧ KeepB w w' := by
  obtain ⟨mh, mr, v, hd⟩ := hD
  obtain ⟨i0, hi, hz0, hz1, hz2⟩ := info_parts Try.infoWS
  obtain ⟨cs, hcs⟩ : ∃ cs, cs = (s.map (Value.int .u8)).toArray := ⟨_, rfl⟩
  have hsv : secV s = .agg cs := by rw [hcs]; rfl
  have hz : cs.size = 16 := by rw [hcs]; simp [h16]
  have hL := wlit (n := n) hcs hz
  have c4 := hd.c4
  have hpl : p < w.heap.size := cell_lt hd.c0
  have hbp := hd.low.1
  have hlen : (wcells ⟨n, s⟩).length = 17 := by simp [wcells, h16]
  -- the append, ahead of the walk
  have ho1 : ((w.alloc (.cells cs 90)).drew.alloc (.cells #[.int .i64 (n : Int), cs[0], cs[1], cs[2], cs[3], cs[4], cs[5], cs[6], cs[7], cs[8], cs[9], cs[10], cs[11], cs[12], cs[13], cs[14], cs[15]] 96)).ownsRow base 96 17 v S.ws.length (allCells S.ws) := (ownsRow_drew (hd.wait.alloc _)).alloc _
  obtain ⟨v', w1, hrun, hown1, hg1, _⟩ := run_append_own (P := Try.prog) ((w.alloc (.cells cs 90)).drew.alloc (.cells #[.int .i64 (n : Int), cs[0], cs[1], cs[2], cs[3], cs[4], cs[5], cs[6], cs[7], cs[8], cs[9], cs[10], cs[11], cs[12], cs[13], cs[14], cs[15]] 96)) base 70 70 96 i0 _ 17 24 Try.underlying70 hi hz0 hz1 hz2 rfl (by decide) v S.ws.length (allCells S.ws) ho1
    ⟨w.heap.size + 1, 0, none⟩ 1 1 (wcells ⟨n, s⟩) (by rw [hlen]) (fun j u hj => by rw [Addr.add_mid, Nat.zero_add, cell_new (by simp), hL]; simpa using hj) (wcells_one _) (by unfold maxLen; omega) (by omega) (by simp; omega)
  rw [← allCells_snoc] at hown1
  obtain ⟨g1, cap1, rfl⟩ : ∃ g cap, v' = .slice (some ⟨g, 0, none⟩) (S.ws.length + 1) cap := by
    rcases hown1.2 with ⟨_, h⟩ | ⟨g, cap, _, h, _⟩
    · omega
    · exact ⟨g, cap, h⟩
  have hvl : ∀ k, v.ownBlock = some k → k < w.heap.size := fun k hk => (hd.wait.lt k hk).2
  have K1 : ∀ k, k < w.heap.size → some k ≠ v.ownBlock → w1.heap[k]? = w.heap[k]? := fun k hk hne => by
    have b : Below w.heap.size w ((w.alloc (.cells cs 90)).drew.alloc (.cells #[.int .i64 (n : Int), cs[0], cs[1], cs[2], cs[3], cs[4], cs[5], cs[6], cs[7], cs[8], cs[9], cs[10], cs[11], cs[12], cs[13], cs[14], cs[15]] 96)) := (bel_drewN (n := 1) ((Below.refl _ _).alloc (Nat.le_refl _) _)).alloc (by simp) _
    rw [hg1.block k (by simp; omega) hne, b.block k hk]
  have S1 : w.heap.size + 2 ≤ w1.heap.size := by have := hg1.size; simp at this; omega
  have T1 : w1.os = w.os ∧ w1.tape = w.tape ∧ w1.output = w.output := ⟨hg1.os, hg1.tape, hg1.output⟩
  have X1 : ∀ j, w1.cell? ⟨w.heap.size, j, none⟩ = cs[j]? := fun j => by
    have e := hg1.block w.heap.size (by simp; omega) (fun e => by have := hvl _ e.symm; omega)
    rw [cell_of e, cell_old (by simp)]
    exact cell_new rfl
  have hpv : some p ≠ v.ownBlock := fun e => (hd.far p e.symm).1 rfl
  have e4 : w1.cell? ⟨p, 4, none⟩ = some v := (cell_of (K1 p hpl hpv)).trans c4
  have f4 : w1.frozen? ⟨p, 4, none⟩ = false := by
    have := hd.free 4
    simp only [World.frozen?, K1 p hpl hpv] at this ⊢
    exact this
  -- behind the first line
  obtain ⟨w2, hw2⟩ : ∃ w2, w2 = w1.setCell ⟨p, 4, none⟩ (.slice (some ⟨g1, 0, none⟩) (S.ws.length + 1) cap1) := ⟨_, rfl⟩
  have D2 : DevAt w2 base p mh mr (.slice (some ⟨g1, 0, none⟩) (S.ws.length + 1) cap1) N { S with ws := S.ws ++ [⟨n, s⟩] } := by
    have ot : ∀ j, j ≠ 4 → w2.cell? ⟨p, j, none⟩ = w.cell? ⟨p, j, none⟩ := fun j hj => by rw [hw2, World.cell?_setCell_other _ _ _ _ (by intro e; injection e; omega)]; exact cell_of (K1 p hpl hpv)
    have bl : ∀ k, k ≠ p → w2.heap[k]? = w1.heap[k]? := fun k hk => by rw [hw2]; exact Below.heap_setCell _ _ _ _ hk
    obtain ⟨cur, hk⟩ := hd.kind
    have hk1 := (K1 p hpl hpv).trans hk
    have hmh : some mh ≠ v.ownBlock := fun e => (hd.far mh e.symm).2.1 rfl
    have hmr : some mr ≠ v.ownBlock := fun e => (hd.far mr e.symm).2.2 rfl
    have far1 : ∀ b, (Value.slice (some ⟨g1, 0, none⟩) (S.ws.length + 1) cap1).ownBlock = some b → b ≠ p ∧ b ≠ mh ∧ b ≠ mr := fun b hb => by
      obtain ⟨_, h2⟩ := hown1
      rcases h2 with ⟨h0, _⟩ | ⟨g, cap, cur1, h0, _, hh, _⟩
      · cases h0
      · injection h0 with h0 _ _
        injection h0 with h0
        injection h0 with h0
        subst h0
        have hb : g1 = b := by simpa [Value.ownBlock] using hb
        subst hb
        refine ⟨fun e => ?_, fun e => ?_, fun e => ?_⟩
        · subst e
          rw [hk1] at hh
          injection hh with hh
          injection hh with _ hh
          exact absurd hh (by decide)
        · subst e
          obtain ⟨D, ⟨es, clock, hm, _⟩, _⟩ := hd.held
          rw [K1 _ hd.held.lt hmh, hm] at hh
          cases hh
        · subst e
          obtain ⟨D, ⟨es, clock, hm, _⟩, _⟩ := hd.read
          rw [K1 _ hd.read.lt hmr, hm] at hh
          cases hh
    refine ⟨(ot 0 (by decide)).trans hd.c0, (ot 1 (by decide)).trans hd.c1, (ot 2 (by decide)).trans hd.c2, (ot 3 (by decide)).trans hd.c3, ?_, ?_, hd.held.block ((bl _ (fun e => hd.apart.1 e.symm)).trans (K1 _ hd.held.lt hmh)), hd.read.block ((bl _ (fun e => hd.apart.2.1 e.symm)).trans (K1 _ hd.read.lt hmr)), ?_, hd.low, hd.apart, far1, hd.hok, hd.rok, ?_⟩
    · rw [hw2]; exact World.cell?_setCell_same _ _ _ e4
    · rw [hw2]; exact setCell_kind hk1
    · obtain ⟨h1, h2⟩ := hown1
      refine ⟨by simpa using h1, ?_⟩
      rcases h2 with ⟨_, h2⟩ | ⟨g, cap, cur1, h0, hb, hh, r⟩
      · omega
      · have hg : g1 = g := by injection h0 with h0 _ _; injection h0 with h0; injection h0
        exact .inr ⟨g, cap, cur1, by rw [h0]; simp, hb, (bl g (far1 g (by rw [← hg]; rfl)).1).trans hh, by simpa using r⟩
    · intro d hd'
      rcases List.mem_append.1 hd' with h | h
      · exact hd.wok d h
      · obtain rfl : d = ⟨n, s⟩ := by simpa using h
        exact ⟨by simp, by simp; omega, h16⟩
  have B2 : Below base w w2 := by
    have hlow := hd.low.1
    refine ⟨by rw [hw2]; exact T1.1, by rw [hw2]; exact T1.2.1, by rw [hw2]; exact T1.2.2, by rw [hw2]; simp [World.setCell]; omega, fun k hk => ?_⟩
    rw [hw2, Below.heap_setCell _ _ _ _ (by simp; omega)]
    exact K1 k (by omega) (fun e => by have := (hd.wait.lt k e.symm).1; omega)
  have HK := hide (show ∀ w3 : World, (∀ k, k ≠ p → k ≠ mr → k < w2.heap.size → w3.heap[k]? = w2.heap[k]?) → KeepB w w3 from fun w3 h3 => KeepB.of_dev hd fun k hk h1 _ h2 hv => (h3 k h1 h2 (by rw [hw2]; simp [World.setCell]; omega)).trans (by rw [hw2, Below.heap_setCell _ _ _ _ h1]; exact K1 k hk (fun e => hv e.symm)))
  have X2 : ∀ j, w2.cell? ⟨w.heap.size, j, none⟩ = cs[j]? := fun j => by rw [hw2, World.cell?_setCell_other _ _ _ _ (by intro e; injection e; omega)]; exact X1 j
  have y0 : w2.cell? ⟨w.heap.size, 0, none⟩ = some cs[0] := (X2 0).trans (Array.getElem?_eq_getElem (by omega))
  have y1 : w2.cell? ⟨w.heap.size, 1, none⟩ = some cs[1] := (X2 1).trans (Array.getElem?_eq_getElem (by omega))
  have y2 : w2.cell? ⟨w.heap.size, 2, none⟩ = some cs[2] := (X2 2).trans (Array.getElem?_eq_getElem (by omega))
  have y3 : w2.cell? ⟨w.heap.size, 3, none⟩ = some cs[3] := (X2 3).trans (Array.getElem?_eq_getElem (by omega))
  have y4 : w2.cell? ⟨w.heap.size, 4, none⟩ = some cs[4] := (X2 4).trans (Array.getElem?_eq_getElem (by omega))
  have y5 : w2.cell? ⟨w.heap.size, 5, none⟩ = some cs[5] := (X2 5).trans (Array.getElem?_eq_getElem (by omega))
  have y6 : w2.cell? ⟨w.heap.size, 6, none⟩ = some cs[6] := (X2 6).trans (Array.getElem?_eq_getElem (by omega))
  have y7 : w2.cell? ⟨w.heap.size, 7, none⟩ = some cs[7] := (X2 7).trans (Array.getElem?_eq_getElem (by omega))
  have y8 : w2.cell? ⟨w.heap.size, 8, none⟩ = some cs[8] := (X2 8).trans (Array.getElem?_eq_getElem (by omega))
  have y9 : w2.cell? ⟨w.heap.size, 9, none⟩ = some cs[9] := (X2 9).trans (Array.getElem?_eq_getElem (by omega))
  have y10 : w2.cell? ⟨w.heap.size, 10, none⟩ = some cs[10] := (X2 10).trans (Array.getElem?_eq_getElem (by omega))
  have y11 : w2.cell? ⟨w.heap.size, 11, none⟩ = some cs[11] := (X2 11).trans (Array.getElem?_eq_getElem (by omega))
  have y12 : w2.cell? ⟨w.heap.size, 12, none⟩ = some cs[12] := (X2 12).trans (Array.getElem?_eq_getElem (by omega))
  have y13 : w2.cell? ⟨w.heap.size, 13, none⟩ = some cs[13] := (X2 13).trans (Array.getElem?_eq_getElem (by omega))
  have y14 : w2.cell? ⟨w.heap.size, 14, none⟩ = some cs[14] := (X2 14).trans (Array.getElem?_eq_getElem (by omega))
  have y15 : w2.cell? ⟨w.heap.size, 15, none⟩ = some cs[15] := (X2 15).trans (Array.getElem?_eq_getElem (by omega))
  have HD2 := hide D2
  have HB2 := hide B2
  have hP := fun (x : World) (hx : SecMap x mr N S.rf) => put_any p 2 mr N n S.rc S.rf s x h16 hx hN hn
  rw [hsv] at hP ⊢
  rw [show (Value.agg cs) = .agg #[cs[0], cs[1], cs[2], cs[3], cs[4], cs[5], cs[6], cs[7], cs[8], cs[9], cs[10], cs[11], cs[12], cs[13], cs[14], cs[15]] by rw [eta16 hz]] at hP
  have HP := hide hP
  clear hd D2 B2 hcs hsv hown1 hg1 X1 X2 K1 S1 T1 ho1 hL hP
  go_enter Try.func62, Try.ntmps62
  go_wp2_with fail
  go_region_law (refine step_append_eq rfl (.tmp 10) (.tmp 14) 70 rfl _ _ _ w1 rfl rfl hrun ?_)
  all_goals
    rw [← hw2]
    clear hrun e4 f4 c4 hw2 hvl hpv hi hz0 hz1 hz2
    go_wp2_with fail
    go_region_with (go_at_call 59; refine (unhide HP w2.drew (unhide HD2).read (unhide HD2).c2 (unhide HD2).c3 ((unhide HD2).free 2) (unhide HD2).apart.2.1).mono ?_; rintro e w3 ⟨rfl, hm3, hc3, hp3⟩)
    all_goals
      have D3 := hide ((unhide HD2).putRead h16 hn hm3 hc3 (show Put2 p 2 mr w2 w3 from ⟨hp3.os, hp3.tape, hp3.output, hp3.size, hp3.block, hp3.cell, hp3.frozen, hp3.kind⟩))
      have K3 := hide (unhide HK w3 hp3.block)
      clear hm3 hc3 hp3
      go_wp2_with fail
      go_end0
      exact ⟨rfl, ⟨mh, mr, _, (unhide D3).1⟩, (unhide HB2).trans (unhide D3).2, unhide K3⟩
theorem wait_any (base p N n : Nat) (S : DS) (s : List Int) (w : World) (hD : Dev w base p N S) (hN : N < maxLen) (hw : S.ws.length ≤ 1000000) (h16 : s.length = 16) (hn : n < 128) :
    Calls Try.prog 62 #[.pointer (some ⟨p, 0, none⟩), .int .i64 (n : Int), secV s] w fun e w' => e = .returned (.tuple #[]) ∧ Dev w' base p (N + 1) { S with rc := max S.rc (n + 1), rf := updS S.rf n s, ws := S.ws ++ [⟨n, s⟩] } ∧ Below base w w' :=
  (wait_keep base p N n S s w hD hN hw h16 hn).mono fun _ _ ⟨h1, h2, h3, _⟩ => ⟨h1, h2, h3⟩
end Go.Proofs.Ytdiakahaghggiaa
