/-
  The walk of the device's write where there is room.
-/
import Derived.Test.YtjhmammoakiknaaStA
import Derived.Test.YtjhmammoakiknaaStC
import Derived.Test.YtjhmammoakiknaaStP
import Derived.Test.YtjhmammoakiknaaCrash
namespace Go.Proofs.Ytjhmammoakiknaa
open Go.RowKit Go.Maps

/-- A copy whose run is known. -/
theorem wpList_copy_eq {P : Program} {ops : Array Oper} {rest : List Oper} {o : Oper} {a : Act} {w : World} {Q : Exit → Act → World → Prop}
    (hg : o.guard = none) (s x : Operand) (t t2 : TypeId) (hop : o.op = Op.call { callee := Callee.builtin Builtin.copy, args := #[s, x], argTypes := #[t, t2] })
    (vs vx v' : Value) (w' : World) (hs : a.eval s = vs) (hx : a.eval x = vx) (hrun : (Builtin.copy_ #[t, t2] o.type #[vs, vx]).run P w = .ok v' w') (hK : wpList P ops Q rest (a.put o.dst v') w') :
    wpList P ops Q (o :: rest) a w := by
  refine wpList_plain hg fun K' hK' => ?_
  unfold Oper.wp
  simp [execOp, hop, resolve, invoke, builtin, hs, hx, hrun, Result.andThen]
  exact hK' _ _ hK
/-- What one round of a write leaves. -/
structure WrSt (w wr : World) (base p N at_ : Nat) (d : List Int) (S : DS) (j q : Nat) (a : Option Addr) (m : Nat) : Prop where
  dev : Dev wr base p (N + j) (wrDS S at_ d j)
  bel : Below base w wr
  keep : KeepB w wr
  row : ∀ w', Below base w w' → KeepB w w' → Row w' a m (d.drop (q - at_))
  place : q = qAt at_ d.length j
  rest : m = at_ + d.length - q
set_option maxRecDepth 100000 in
set_option maxHeartbeats 8000000 in
theorem write_any (base p N at_ n c : Nat) (ad : Option Addr) (d : List Int) (S : DS) (w : World) (hD : Dev w base p N S) (hN : N ≤ 1000000) (hn : n = d.length) (h : at_ + n ≤ 2048) (hw : S.ws.length + touchN at_ n ≤ 4096) (hc : n ≤ c) (hc2 : c ≤ maxLen)
    (hR : ∀ w', Below base w w' → KeepB w w' → Row w' ad n d) :
    Calls Try.prog 50 #[.pointer (some ⟨p, 0, none⟩), .int .i64 (at_ : Int), .slice ad n c] w fun e w' => e = .returned (.int .i64 0) ∧ Dev w' base p (N + 128) (wrDS S at_ d (touchN at_ d.length)) ∧ Below base w w' ∧ KeepB w w' := by
  unfold maxLen at hc2
  have E0 := hide (show ∀ k, WrSt w (w.drewN k) base p N at_ d S 0 at_ ad n from fun k => ⟨by rw [wrDS_zero]; obtain ⟨mh, mr, v, hd⟩ := hD; exact ⟨mh, mr, v, hd.below (bel_drewN (Below.refl _ _) k)⟩, bel_drewN (Below.refl _ _) k, KeepB.of_below (bel_drewN (Below.refl _ _) k), fun w' h1 h2 => by rw [Nat.sub_self, List.drop_zero]; exact hR w' h1 h2, rfl, by omega⟩)
  obtain ⟨mh, mr, v, hd⟩ := hD
  have ROK := hide hd.rok
  have hT := touch_le h
  have hT2 := hT.2
  have hT1 := hT.1
  clear hT hR
  have h0 : ¬ ((at_ : Int) < 0) := by omega
  have wr : IntKind.i64.wrap (2048 - (at_ : Int)) = 2048 - (at_ : Int) := by rw [IntKind.wrap_i64]; omega
  have h2 : ¬ ((2048 : Int) < (at_ : Int)) := by omega
  have h3 : ¬ (2048 - (at_ : Int) < (n : Int)) := by omega
  have c4 := hd.c4
  obtain ⟨a4, k4, hv⟩ : ∃ a c, v = .slice a S.ws.length c := by
    rcases hd.wait.2 with ⟨e, h0⟩ | ⟨g, cap, cur, e, _⟩
    · exact ⟨none, 0, by rw [e, h0]⟩
    · exact ⟨_, _, e⟩
  rw [hv] at c4
  have HT := hide (fun W => touched_any at_ n W (by omega))
  have hm : ¬ ((4096 : Int) < (S.ws.length : Int) + (touchN at_ n : Int)) := by omega
  have wr2 : IntKind.i64.wrap ((S.ws.length : Int) + (touchN at_ n : Int)) = (S.ws.length : Int) + (touchN at_ n : Int) := by rw [IntKind.wrap_i64]; omega
  have HN := hide hn
  clear hd hv hn
  go_enter Try.func50, Try.ntmps50
  go_wp2_with fail
  go_quiet ((go_at_call 69; exact Calls.quiet_of_same (unhide HT _)))
  clear c4 HT hm wr2 wr h0 h2 h3
  generalize hTT : touchN at_ n = T at *
  have HTT := hide hTT
  clear hTT
  go_wp2_with fail
  go_loopw [1, 2] (fun x y wr => ∃ (j q m c' : Nat) (a : Option Addr), x = .int .i64 (q : Int) ∧ y = .slice a m c' ∧ j ≤ T ∧ at_ ≤ q ∧ q ≤ at_ + n ∧ m ≤ c' ∧ c' ≤ maxLen ∧ Hid (WrSt w wr base p N at_ d S j q a m)) (fun x _ _ => at_ + n - (intOf x).toNat)
  case atStart => exact ⟨0, at_, n, c, ad, rfl, rfl, Nat.zero_le _, Nat.le_refl _, by omega, hc, by unfold maxLen; omega, unhide E0 _⟩
  case round =>
    clear E0
    obtain ⟨j, q, m, c', a, rfl, rfl, hj, hq1, hq2, hmc, hc', ST⟩ := hrel
    unfold maxLen at hc'
    by_cases hlt : j < T
    · have hlt' : j < touchN at_ d.length := by rw [← unhide HN, unhide HTT]; exact hlt
      obtain ⟨f1, f2, f3⟩ := qAt_more hlt'
      have fs := qAt_step hlt'
      rw [← (unhide ST).place] at f1 f2 f3 fs
      have hm := (unhide ST).rest
      have hnl := unhide HN
      obtain ⟨nn, hnn⟩ : ∃ nn, nn = at_ / 16 + j := ⟨_, rfl⟩
      obtain ⟨o, ho⟩ : ∃ o, o = q - nn * 16 := ⟨_, rfl⟩
      obtain ⟨k, hk⟩ : ∃ k, k = min (16 - o) m := ⟨_, rfl⟩
      have hn128 : nn < 128 := by have := hT2 j hlt; omega
      have hm0 : 0 < m := by omega
      have hqm : q + m ≤ at_ + n := by omega
      have ho16 : o < 16 := by omega
      have hoI : (o : Int) ≤ 16 := by omega
      have hoN : ¬ (16 = o) := by omega
      have hqo : q = nn * 16 + o := by omega
      have hk0 : 0 < k ∧ k ≤ m ∧ k ≤ 16 - o := by omega
      have hd1 : Int.tdiv (q : Int) 16 = (nn : Int) := by rw [Int.tdiv_eq_ediv_of_nonneg (by omega)]; omega
      have hd2 : Int.tmod (q : Int) 16 = (o : Int) := by rw [Int.tmod_eq_emod_of_nonneg (by omega)]; omega
      have hrow := (unhide ST).row wr (unhide ST).bel (unhide ST).keep
      obtain ⟨ys, hys⟩ : ∃ ys, ys = d.drop (q - at_) := ⟨_, rfl⟩
      have hyl : ys.length = m := by rw [hys]; exact hrow.1
      obtain ⟨b, off, rfl, _⟩ := hrow.2 0 hm0
      obtain ⟨mh', mr', v', dv⟩ := (unhide ST).dev
      obtain ⟨f, hf⟩ : ∃ f, f = (wrDS S at_ d j).rf := ⟨_, rfl⟩
      have hfn : f nn = S.rf nn := by rw [hf, hnn]; exact wrDS_far S at_ d j
      have hf16 : (f nn).length = 16 := by rw [hfn]; exact (unhide ROK).2.1 nn
      have hmap : SecMap wr mr' (N + j) f := by rw [hf]; exact dv.read
      have c3 := dv.c3
      have hpl : p < wr.heap.size := cell_lt dv.c0
      have hblow : base ≤ wr.heap.size := Nat.le_trans dv.low.1 (Nat.le_of_lt hpl)
      obtain ⟨wx, hwx⟩ : ∃ wx, wx = wr.alloc (.cells ((f nn).map (Value.int .u8)).toArray 83) := ⟨_, rfl⟩
      have bx : Below wr.heap.size wr wx := by rw [hwx]; exact (Below.refl _ _).alloc (Nat.le_refl _) _
      have hxb : wx.heap[wr.heap.size]? = some (.cells ((f nn).map (Value.int .u8)).toArray 83 (0, 0)) := by rw [hwx]; exact heap_alloc_last _ _
      obtain ⟨wz, hcp, hzb, hzo⟩ := sec_copy_at (w := wx) (s := ys) (o := o) (k := k) hxb (by rw [hyl]; exact row_grow (by rw [hys]; exact hrow) bx) (by omega) (by rw [hf16, hyl]; exact hk) (16 - o) c'
      rw [hf16, hyl] at hcp
      have bz : Below wr.heap.size wr wz := bx.trans (hzo.below (Nat.le_refl _))
      obtain ⟨s', hs'⟩ : ∃ s', s' = (f nn).take o ++ ys.take k ++ (f nn).drop (o + k) := ⟨_, rfl⟩
      rw [← hs'] at hzb
      have hs16 : s'.length = 16 := by rw [hs']; simp [hf16]; omega
      have HSW : s' = secW (allW (secBytes S.rc S.rf) at_ d) nn := by
        have := sec_write (unhide ROK) at_ q nn d (by omega) (by omega) hq1 (by rw [hnn]; exact f3) f1
        rw [← this, hs', hfn, hys, ← ho]
        have e : min (16 - o) (d.length - (q - at_)) = k := by omega
        rw [e]
      have RG : wz.rangeAt wr.heap.size 0 (s'.map (Value.int .u8)) := fun i u hu => by
        rw [Nat.zero_add]
        simp only [World.cell?, hzb]
        simpa using hu
      have HS := hide (show (Try.prog.info? 83).map (·.size) = some (s'.map (Value.int .u8)).length by rw [sec_info]; simp [hs16])
      have HWT := hide (wait_keep base p (N + j) nn (wrDS S at_ d j) s' wz ⟨mh', mr', v', dv.below bz⟩ (by unfold maxLen; omega) (by rw [wrDS_ws _ _ _ _ (by omega)]; omega) hs16 hn128)
      have FIN := hide (fun (w' : World) (h1 : Dev w' base p (N + j + 1) { wrDS S at_ d j with rc := max (wrDS S at_ d j).rc (nn + 1), rf := updS (wrDS S at_ d j).rf nn s', ws := (wrDS S at_ d j).ws ++ [⟨nn, s'⟩] }) (h2 : Below base wz w') (h3 : KeepB wz w') (aa : Option Addr) (haa : aa = some ⟨b, off + k, none⟩ ∨ m - k = 0) =>
        show WrSt w w' base p N at_ d S (j + 1) (q + k) aa (m - k) from
          ⟨by rw [wrDS_step S at_ d j hlt', ← hnn, ← HSW]; exact h1, (unhide ST).bel.trans ((bz.mono hblow).trans h2), (unhide ST).keep.trans ((KeepB.of_below bz).trans h3), fun w' g1 g2 => by
            have := row_drop (k := k) ((unhide ST).row w' g1 g2)
            rw [List.drop_drop, show q - at_ + k = q + k - at_ by omega] at this
            rcases haa with rfl | h0
            · exact this
            · exact ⟨this.1, fun i hi => by omega⟩, by rw [← fs]; omega, by omega⟩)
      have RGH := hide RG
      clear hs' HSW hzb hzo hxb bx bz hrow hys hyl hf hfn dv RG f1 f2 f3 fs hm hnl hnn ho hk hlt' hqo
      subst hwx
      go_wp2_with (first
        | (at_lookup; refine wpList_lookup_sec _ rfl _ _ rfl mr' (N + j) f nn rfl rfl hmap (by omega) ?_)
        | (refine wpList_box _ rfl _ _ rfl _ ((f nn).map (Value.int .u8)).toArray rfl rfl rfl (by simp [hf16]) (sec_one _) ?_)
        | (refine wpList_load_mid rfl 83 _ rfl wr.heap.size 0 rfl (s'.map (Value.int .u8)) _ (unhide RGH) Try.underlying83 rfl (unhide HS) ?_))
      refine (unhide HWT).mono ?_
      rintro e w5 ⟨rfl, r1, r2, r3⟩
      have R := hide (unhide FIN w5 r1 r2 r3)
      clear r1 r2 r3 FIN HWT hcp RGH HS
      have hkI : (k : Int) ≤ (m : Int) := by omega
      by_cases hck : c' = k
      · go_wp2_with fail
        go_roundw
        case rel => exact ⟨j + 1, q + k, m - k, 0, _, by go_num, rfl, by omega, by omega, by omega, by omega, by unfold maxLen; omega, unhide R _ (.inr (by omega))⟩
        case measure => simp [intOf]; omega
      · go_wp2_with fail
        go_roundw
        case rel => exact ⟨j + 1, q + k, m - k, c' - k, _, by go_num, rfl, by omega, by omega, by omega, by omega, by unfold maxLen; omega, unhide R _ (.inl rfl)⟩
        case measure => simp [intOf]; omega
    · have hjT : j = T := by omega
      have hq : q = at_ + d.length := by rw [(unhide ST).place, hjT, ← unhide HTT, unhide HN]; exact qAt_end _ _
      have hm0 : m = 0 := by have := (unhide ST).rest; omega
      have R := hide (show Dev wr base p (N + 128) (wrDS S at_ d (touchN at_ d.length)) ∧ Below base w wr ∧ KeepB w wr from by
        obtain ⟨mh', mr', v', dv⟩ := (unhide ST).dev
        have e : j = touchN at_ d.length := by rw [hjT, ← unhide HTT, unhide HN]
        rw [← e]
        exact ⟨⟨mh', mr', v', dv.mono (by omega)⟩, (unhide ST).bel, (unhide ST).keep⟩)
      clear ST
      subst hm0
      go_wp2_with fail
      go_ret
      exact ⟨rfl, unhide R⟩
end Go.Proofs.Ytjhmammoakiknaa
