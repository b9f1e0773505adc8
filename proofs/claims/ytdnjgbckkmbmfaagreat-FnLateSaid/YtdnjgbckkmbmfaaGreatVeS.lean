/-
  spec.l06Entries, spec.EntriesAt.
-/
import Derived.Test.YtdnjgbckkmbmfaaGreatVeD
import Derived.Test.YtdnjgbckkmbmfaaGreatVsB
namespace Go.Proofs.YtdnjgbckkmbmfaaGreat
open Go.RowKit Go.Maps

theorem ky_wpApp {P : Program} {ops : Array Oper} {rest : List Oper} {o : Oper} {a : Act} {w : World} {Q : Exit → Act → World → Prop}
  (hg : o.guard = none) (s x : Operand) (t : TypeId) (hop : o.op = Op.call { callee := Callee.builtin Builtin.append, args := #[s, x], argTypes := #[t, t] })
  (vs vx v' : Value) (w' : World) (hs : a.eval s = vs) (hx : a.eval x = vx) (hrun : (Builtin.append_ #[t, t] o.type #[vs, vx]).run P w = .ok v' w') (h : wpList P ops Q rest (a.put o.dst v') w') :
  wpList P ops Q (o :: rest) a w :=
 wpList_plain hg fun _ hK => by
  unfold Oper.wp
  simp [execOp, hop, resolve, invoke, builtin, hs, hx, hrun, Result.andThen]
  exact hK _ _ h
set_option maxRecDepth 100000 in
set_option maxHeartbeats 4000000 in
theorem l06Entries_nn (a : Option Addr) (n c : Nat) (ds : List VerD) (t : Int) (w : World) (hn : n ≤ 1000000) (hr : VRow w a n ds) :
  Calls Tryz.prog 44 #[.slice a n c, .int .i64 t] w fun e w' => ∃ v, e = .returned v ∧ KNn w' w.heap.size v (entsAt ds t) ∧ Below w.heap.size w w' := by
 have LN := hide hr.1
 have R := hide hr
 have H0 := hide (show KNn (w.alloc (.cells #[] 48)) w.heap.size (.slice (some ⟨w.heap.size, 0, none⟩) 0 0) [] from ⟨World.ownsRow_lit _ _ _ (Nat.le_refl _) (by unfold maxLen; simp) rfl, by simp⟩)
 have B0 := hide (show Below w.heap.size w (w.alloc (.cells #[] 48)) from (Below.refl _ _).alloc (Nat.le_refl _) _)
 clear hr
 go_enter Tryz.func44, Tryz.ntmps44
 go_wp2_with fail
 go_loopw [5, 6] (fun o' i wr => ∃ (j : Nat) (o : Value), o' = o ∧ i = .int .i64 (j : Int) ∧ j ≤ n ∧ Hid (KNn wr w.heap.size o (entsTo ds t j)) ∧ Hid (Below w.heap.size w wr)) (fun _ i _ => n - (intOf i).toNat)
 case atStart => exact ⟨0, _, rfl, rfl, Nat.zero_le _, unhide H0, unhide B0⟩
 case round =>
  clear H0 B0
  obtain ⟨j, o, rfl, rfl, hj, hH, hB⟩ := hrel
  have RR := hide ((unhide R).below (unhide hB))
  by_cases hlt : j < n
  ·have hj2 : j < ds.length := by rw [unhide LN]; exact hlt
   have EA := hide (fun h1 h2 => ents_again (t := t) hj2 h1 h2)
   have EN := hide (fun h => ents_new (t := t) hj2 h)
   have hel := entsTo_len ds t j
   have AT := hide (fun (k : ByteArray) (u : World) (hb : Below wr.heap.size wr u) => (l06At_any a n c ds k t u (by omega) ((unhide RR).below hb)))
   obtain ⟨b, off, rfl, d0, _, _, _⟩ := (unhide RR).2 j hj2
   have d0' := d0
   generalize hpk : ds[j].k = pk at *
   by_cases h0 : 0 < j ∧ (ds[j - 1]'(by omega)).k = pk
   ·obtain ⟨h0, hsame⟩ := h0
    obtain ⟨b1, off1, e1, p0, _, _, _⟩ := (unhide RR).2 (j - 1) (by omega)
    injection e1 with e1
    injection e1 with e1 e2
    subst e1 e2
    rw [hsame] at p0
    have Z := hide (unhide EA h0 hsame)
    have hj1 : ((j : Int) - 1).toNat = j - 1 := by omega
    have hj3 : (0 : Int) ≤ (j : Int) - 1 := by omega
    have hj4 : (j : Int) - 1 < (n : Int) := by omega
    have hwj : IntKind.i64.wrap ((j : Int) - 1) = (j : Int) - 1 := by rw [IntKind.wrap_i64]; omega
    have hg0 : (0 : Int) < (j : Int) := by omega
    clear EA EN AT RR R hsame
    go_wp2_with fail
    go_quiet (fail)
    go_wp2_with fail
    go_roundw
    case rel => exact ⟨j + 1, _, rfl, by go_num, by omega, by rw [unhide Z]; exact unhide hH, bel_drewN (unhide hB) _⟩
    case measure => simp [intOf]; omega
   ·have ZN := hide (unhide EN h0)
    clear EA EN
    by_cases hp : 0 < j
    ·obtain ⟨b1, off1, e1, p0, _, _, _⟩ := (unhide RR).2 (j - 1) (by omega)
     injection e1 with e1
     injection e1 with e1 e2
     subst e1 e2
     have hne : ¬ (ds[j - 1]'(by omega)).k = pk := fun e => h0 ⟨hp, e⟩
     generalize (ds[j - 1]'(by omega)).k = qk at *
     have hol : (qk.toList == pk.toList) = false := by simpa using fun e => hne (toList_inj e)
     have hj1 : ((j : Int) - 1).toNat = j - 1 := by omega
     have hj3 : (0 : Int) ≤ (j : Int) - 1 := by omega
     have hj4 : (j : Int) - 1 < (n : Int) := by omega
     have hwj : IntKind.i64.wrap ((j : Int) - 1) = (j : Int) - 1 := by rw [IntKind.wrap_i64]; omega
     have hg0 : (0 : Int) < (j : Int) := by omega
     clear RR R h0
     go_wp2_with fail
     go_quiet (fail)
     go_wp2_with fail
     generalize hWD : wr.drewN _ = WD at *
     refine (unhide AT pk WD (by rw [← hWD]; exact bel_drewN (Below.refl _ _) _)).mono ?_
     intro e w2 hv
     rcases hv with ⟨x, rfl, hva, hb2⟩ | ⟨x, rfl, hva, hb2⟩
     ·have Z := hide (show entsTo ds t (j + 1) = entsTo ds t j by rw [unhide ZN, hva]; simp [kvOf])
      obtain ⟨xk, xt, xv, xg⟩ := x
      unfold vv
      have hb1 : Below wr.heap.size wr w2 := by rw [← hWD] at hb2; exact rb_bel_of_drewN hb2
      have hb3 := hb1.trans (((Below.refl _ _).alloc (Nat.le_refl _) (.cells #[.string xk, .int .i64 xt, .string xv, .bool xg] 43)).mono hb1.size)
      have HN := hide (show KNn _ _ _ _ from ⟨kowns_below (unhide hH).1 hb3, (unhide hH).2⟩)
      have BN := hide ((unhide hB).trans (hb3.mono (unhide hB).size))
      clear hb1 hb2 hb3 hva ZN AT hH
      go_wp2_with fail
      go_roundw
      case rel => exact ⟨j + 1, _, rfl, by go_num, by omega, by rw [unhide Z]; exact unhide HN, unhide BN⟩
      case measure => simp [intOf]; omega
     ·have Z := hide (show entsTo ds t (j + 1) = entsTo ds t j ++ [⟨x.k, x.v⟩] by rw [unhide ZN, hva]; simp [kvOf])
      obtain ⟨xk, xt, xv, xg⟩ := x
      simp only at Z
      unfold vv
      have hb1 : Below wr.heap.size wr w2 := by rw [← hWD] at hb2; exact rb_bel_of_drewN hb2
      have hb3 := hb1.trans (((Below.refl _ _).alloc (Nat.le_refl _) (.cells #[.string xk, .int .i64 xt, .string xv, .bool xg] 43)).mono hb1.size)
      have HN := kowns_below (unhide hH).1 hb3
      have BN := (unhide hB).trans (hb3.mono (unhide hB).size)
      clear hb1 hb2 hb3 hva ZN AT hH
      have KX := heap_alloc_new w2 (.cells #[.string xk, .int .i64 xt, .string xv, .bool xg] 43)
      have x0 : (w2.alloc (.cells #[.string xk, .int .i64 xt, .string xv, .bool xg] 43)).cell? ⟨w2.heap.size, 0, none⟩ = some (.string xk) := (heap_at KX 0).1
      have x2 : (w2.alloc (.cells #[.string xk, .int .i64 xt, .string xv, .bool xg] 43)).cell? ⟨w2.heap.size, 2, none⟩ = some (.string xv) := (heap_at KX 2).1
      clear KX
      go_upto_region 8 with fail
      generalize (w2.alloc (.cells #[.string xk, .int .i64 xt, .string xv, .bool xg] 43)) = W3 at *
      generalize w2.heap.size = bx at *
      obtain ⟨v', w', hr', ho', hg', hn'⟩ := ky_appN (d := ⟨xk, xv⟩) HN (by omega) BN.size
      have BF := hide (((BN.alloc BN.size _)).grown hg' (by have := BN.size; simp; omega) (fun k hk => (HN.lt k hk).1))
      have HF := hide (show KNn w' w.heap.size v' (entsTo ds t (j + 1)) by rw [unhide Z]; exact ⟨ho', hn'⟩)
      clear HN BN Z ho' hg' hn'
      simp only at hr'
      go_wp2_with (at_builtin; refine ky_wpApp rfl (.tmp 44) (.tmp 50) 38 rfl _ _ _ w' rfl rfl hr' ?_)
      go_roundw
      case rel => exact ⟨j + 1, _, rfl, by go_num, by omega, unhide HF, unhide BF⟩
      case measure => simp [intOf]; omega
    ·obtain rfl : j = 0 := by omega
     have d00 : wr.cell? ⟨b, off, none⟩ = some (.string pk) := by simpa using d0
     clear RR R h0 hp
     go_wp2_with fail
     go_quiet (fail)
     go_wp2_with fail
     generalize hWD : wr.drewN _ = WD at *
     refine (unhide AT pk WD (by rw [← hWD]; exact bel_drewN (Below.refl _ _) _)).mono ?_
     intro e w2 hv
     rcases hv with ⟨x, rfl, hva, hb2⟩ | ⟨x, rfl, hva, hb2⟩
     ·have Z := hide (show entsTo ds t (0 + 1) = entsTo ds t 0 by rw [unhide ZN, hva]; simp [kvOf])
      obtain ⟨xk, xt, xv, xg⟩ := x
      unfold vv
      have hb1 : Below wr.heap.size wr w2 := by rw [← hWD] at hb2; exact rb_bel_of_drewN hb2
      have hb3 := hb1.trans (((Below.refl _ _).alloc (Nat.le_refl _) (.cells #[.string xk, .int .i64 xt, .string xv, .bool xg] 43)).mono hb1.size)
      have HN := hide (show KNn _ _ _ _ from ⟨kowns_below (unhide hH).1 hb3, (unhide hH).2⟩)
      have BN := hide ((unhide hB).trans (hb3.mono (unhide hB).size))
      clear hb1 hb2 hb3 hva ZN AT hH
      go_wp2_with fail
      go_roundw
      case rel => exact ⟨0 + 1, _, rfl, by go_num, by omega, by rw [unhide Z]; exact unhide HN, unhide BN⟩
      case measure => simp [intOf]; omega
     ·have Z := hide (show entsTo ds t (0 + 1) = entsTo ds t 0 ++ [⟨x.k, x.v⟩] by rw [unhide ZN, hva]; simp [kvOf])
      obtain ⟨xk, xt, xv, xg⟩ := x
      simp only at Z
      unfold vv
      have hb1 : Below wr.heap.size wr w2 := by rw [← hWD] at hb2; exact rb_bel_of_drewN hb2
      have hb3 := hb1.trans (((Below.refl _ _).alloc (Nat.le_refl _) (.cells #[.string xk, .int .i64 xt, .string xv, .bool xg] 43)).mono hb1.size)
      have HN := kowns_below (unhide hH).1 hb3
      have BN := (unhide hB).trans (hb3.mono (unhide hB).size)
      clear hb1 hb2 hb3 hva ZN AT hH
      have KX := heap_alloc_new w2 (.cells #[.string xk, .int .i64 xt, .string xv, .bool xg] 43)
      have x0 : (w2.alloc (.cells #[.string xk, .int .i64 xt, .string xv, .bool xg] 43)).cell? ⟨w2.heap.size, 0, none⟩ = some (.string xk) := (heap_at KX 0).1
      have x2 : (w2.alloc (.cells #[.string xk, .int .i64 xt, .string xv, .bool xg] 43)).cell? ⟨w2.heap.size, 2, none⟩ = some (.string xv) := (heap_at KX 2).1
      clear KX
      go_upto_region 8 with fail
      generalize (w2.alloc (.cells #[.string xk, .int .i64 xt, .string xv, .bool xg] 43)) = W3 at *
      generalize w2.heap.size = bx at *
      obtain ⟨v', w', hr', ho', hg', hn'⟩ := ky_appN (d := ⟨xk, xv⟩) HN (by omega) BN.size
      have BF := hide (((BN.alloc BN.size _)).grown hg' (by have := BN.size; simp; omega) (fun k hk => (HN.lt k hk).1))
      have HF := hide (show KNn w' w.heap.size v' (entsTo ds t (0 + 1)) by rw [unhide Z]; exact ⟨ho', hn'⟩)
      clear HN BN Z ho' hg' hn'
      simp only at hr'
      go_wp2_with (at_builtin; refine ky_wpApp rfl (.tmp 44) (.tmp 50) 38 rfl _ _ _ w' rfl rfl hr' ?_)
      go_roundw
      case rel => exact ⟨0 + 1, _, rfl, by go_num, by omega, unhide HF, unhide BF⟩
      case measure => simp [intOf]; omega
  ·obtain rfl : j = n := by omega
   have Z := hide (show KNn wr w.heap.size u5 (entsAt ds t) by
    have := unhide hH
    rw [← unhide LN] at this
    exact this)
   go_wp2_with fail
   go_ret
   exact ⟨_, rfl, unhide Z, unhide hB⟩
end Go.Proofs.YtdnjgbckkmbmfaaGreat
