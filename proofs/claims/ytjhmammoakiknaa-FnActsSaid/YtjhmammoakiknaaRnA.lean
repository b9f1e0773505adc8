/-
  The walks of a device's methods trim and do.
-/
import Derived.Test.YtjhmammoakiknaaRnL
import Derived.Test.YtjhmammoakiknaaStX
import Derived.Test.YtjhmammoakiknaaStW
import Derived.Test.YtjhmammoakiknaaCrash
import Derived.Test.YtjhmammoakiknaaFlashOK
import Derived.Test.YtjhmammoakiknaaImplOK
namespace Go.Proofs.Ytjhmammoakiknaa
open Go.RowKit Go.Maps

set_option maxHeartbeats 1000000 in
theorem write_bad (p n c : Nat) (E : Int) (ad : Option Addr) (w : World) (h : fitD E n = false) (_hn : n ≤ 1048576) :
    Calls Try.prog 50 #[.pointer (some ⟨p, 0, none⟩), .int .i64 E, .slice ad n c] w fun e w' => e = .returned (.int .i64 7) ∧ w' = w := by
  have hf := of_decide_eq_false h
  by_cases h0 : E < 0
  · go_enter Try.func50, Try.ntmps50
    go_wp2_with fail
    go_ret
    exact ⟨rfl, rfl⟩
  · by_cases h1 : 2048 < E
    · go_enter Try.func50, Try.ntmps50
      go_wp2_with fail
      go_ret
      exact ⟨rfl, rfl⟩
    · have wr : IntKind.i64.wrap (2048 - E) = 2048 - E := by rw [IntKind.wrap_i64]; omega
      have h3 : 2048 - E < (n : Int) := by omega
      clear hf h
      go_enter Try.func50, Try.ntmps50
      go_wp2_with fail
      go_ret
      exact ⟨rfl, rfl⟩
set_option maxRecDepth 100000 in
set_option maxHeartbeats 2000000 in
/-- There is room, but too many would wait. -/
theorem write_many (base p N at_ n c : Nat) (ad : Option Addr) (S : DS) (w : World) (hD : Dev w base p N S) (h : at_ + n ≤ 2048) (hw : ¬ S.ws.length + touchN at_ n ≤ 4096) (hl : S.ws.length ≤ 4096) :
    Calls Try.prog 50 #[.pointer (some ⟨p, 0, none⟩), .int .i64 (at_ : Int), .slice ad n c] w fun e w' => e = .returned (.int .i64 6) ∧ Below w.heap.size w w' := by
  obtain ⟨mh, mr, v, hd⟩ := hD
  have hT := (touch_le h).1
  have h0 : ¬ ((at_ : Int) < 0) := by omega
  have wr : IntKind.i64.wrap (2048 - (at_ : Int)) = 2048 - (at_ : Int) := by rw [IntKind.wrap_i64]; omega
  have h2 : ¬ ((2048 : Int) < (at_ : Int)) := by omega
  have h3 : ¬ (2048 - (at_ : Int) < (n : Int)) := by omega
  have c4 := hd.c4
  obtain ⟨a4, k4, hv⟩ : ∃ a c, v = .slice a S.ws.length c := by
    rcases hd.wait.2 with ⟨e, h0⟩ | ⟨g, cap, cur, e, _⟩
    · exact ⟨none, 0, by rw [e, h0]⟩
    · exact ⟨_, _, e⟩
  rw [hv] at c4
  have HT := hide (fun W => touched_any at_ n W (by omega))
  have hm : (4096 : Int) < (S.ws.length : Int) + (touchN at_ n : Int) := by omega
  have wr2 : IntKind.i64.wrap ((S.ws.length : Int) + (touchN at_ n : Int)) = (S.ws.length : Int) + (touchN at_ n : Int) := by rw [IntKind.wrap_i64]; omega
  clear hd hv
  go_enter Try.func50, Try.ntmps50
  go_wp2_with fail
  go_quiet ((go_at_call 69; exact Calls.quiet_of_same (unhide HT _)))
  go_wp2_with fail
  go_ret
  exact ⟨rfl, bel_drewN (Below.refl _ _) _⟩
theorem sv_nou : sv nou = .agg #[.int .u8 0, .int .u8 0, .int .u8 0, .int .u8 0, .int .u8 0, .int .u8 0, .int .u8 0, .int .u8 0, .int .u8 0, .int .u8 0, .int .u8 0, .int .u8 0, .int .u8 0, .int .u8 0, .int .u8 0, .int .u8 0] := rfl
/-- The device behind a trim. -/
def trDS (S : DS) (n : Nat) : DS := if n < S.rc then ⟨max S.rc (n + 1), updS S.rf n nou, max S.rc (n + 1), updS S.rf n nou, []⟩ else ⟨S.rc, S.rf, S.rc, S.rf, []⟩
theorem DInv.trim {S : DS} {f : FD} (h : DInv S f) (n : Nat) : DInv (trDS S n) ⟨trimD (readD f.xs f.ws) n, []⟩ := by
  unfold trDS
  by_cases hn : n < S.rc
  · rw [if_pos hn]
    exact DInv.of_held (by rw [← h.read]; exact trim_put h.rok hn) rfl rfl rfl (upd_ok h.rok hn)
  · rw [if_neg hn]
    exact DInv.of_held (by rw [← h.read, trim_out h.rok hn]) rfl rfl rfl h.rok
set_option maxRecDepth 100000 in
set_option maxHeartbeats 2000000 in
theorem trim_any (base p N n : Nat) (S : DS) (w : World) (hD : Dev w base p N S) (hN : N ≤ 1000000000) (hn : n < 128) :
    Calls Try.prog 53 #[.pointer (some ⟨p, 0, none⟩), .int .i64 (n : Int)] w fun e w' => e = .returned (.int .i64 0) ∧ Dev w' base p (N + 2) (trDS S n) ∧ Below base w w' ∧ KeepB w w' := by
  have HS := hide (fun W (h : Dev W base p N S) => sync_keep base p N S W h)
  have HD := hide hD
  have HO := hide (fun W => sectorNumberOK_any (n : Int) W)
  have e1 : decide (0 ≤ (n : Int) ∧ (n : Int) ≤ 127) = true := decide_eq_true ⟨by omega, by omega⟩
  rw [e1] at HO
  clear hD e1
  go_enter Try.func53, Try.ntmps53
  go_wp2_with fail
  refine (unhide HO _).mono ?_
  rintro e w1 ⟨rfl, hw⟩
  subst w1
  go_wp2_with fail
  refine (unhide HS w (unhide HD)).mono ?_
  rintro e w2 ⟨rfl, ⟨mh, mr, v, hd⟩, hb, hkb⟩
  have KB := hide hkb
  clear hkb
  have c0 := hd.c0
  simp only at c0
  have hpl : p < w2.heap.size := cell_lt c0
  by_cases hlt : n < S.rc
  · have HP := put_any p 0 mh N n S.rc S.rf nou w2 rfl hd.held (by unfold maxLen; omega) hn hd.c0 hd.c1 (hd.free 0) hd.apart.1
    rw [sv_nou] at HP
    have HPH := hide HP
    have HD2 := hide hd
    have HB := hide hb
    clear hd hb HP HS HD HO
    go_wp2_with fail
    clear c0
    refine (unhide HPH).mono ?_
    rintro e w3 ⟨rfl, hm, hc, hp⟩
    obtain ⟨d3, b3⟩ := (unhide HD2).putHeld (s := nou) rfl hn hm hc hp
    have HP := put_any p 2 mr (N + 1) n S.rc S.rf nou w3 rfl d3.read (by unfold maxLen; omega) hn d3.c2 d3.c3 (d3.free 2) d3.apart.2.1
    rw [sv_nou] at HP
    have HPH2 := hide HP
    have HD3 := hide d3
    have HB3 := hide ((unhide HB).trans b3)
    have KB3 := hide ((unhide KB).trans (KeepB.of_dev (unhide HD2) fun j hj h1 h2 _ _ => hp.block j h1 h2 hj))
    clear hm hc hp d3 b3 HP HPH HD2
    go_wp2_with fail
    refine (unhide HPH2).mono ?_
    rintro e w4 ⟨rfl, hm, hc, hp⟩
    have R := hide ((unhide HD3).putRead (s := nou) rfl hn hm hc hp)
    have KB4 := hide ((unhide KB3).trans (KeepB.of_dev (unhide HD3) fun j hj h1 _ h2 _ => hp.block j h1 h2 hj))
    clear hm hc hp HPH2
    go_wp2_with fail
    go_ret
    refine ⟨rfl, ⟨mh, mr, v, ?_⟩, (unhide HB3).trans (unhide R).2, unhide KB4⟩
    unfold trDS
    rw [if_pos hlt]
    exact (unhide R).1
  · have Z := hide (show Dev w2 base p (N + 2) (trDS S n) by
      unfold trDS
      rw [if_neg hlt]
      exact ⟨mh, mr, v, hd.mono (by omega)⟩)
    have HB := hide hb
    clear hd hb
    go_wp2_with fail
    go_ret
    exact ⟨rfl, unhide Z, unhide HB, unhide KB⟩
set_option maxHeartbeats 1000000 in
theorem trim_bad (p : Nat) (n : Int) (w : World) (h : ¬ (0 ≤ n ∧ n ≤ 127)) :
    Calls Try.prog 53 #[.pointer (some ⟨p, 0, none⟩), .int .i64 n] w fun e w' => e = .returned (.int .i64 4) ∧ w' = w := by
  have HO := hide (fun W => sectorNumberOK_any n W)
  rw [decide_eq_false h] at HO
  clear h
  go_enter Try.func53, Try.ntmps53
  go_wp2_with fail
  refine (unhide HO _).mono ?_
  rintro e w1 ⟨rfl, hw⟩
  subst w1
  go_wp2_with fail
  go_ret
  exact ⟨rfl, rfl⟩
theorem actD_5 {f : FD} {x : ActD} (h : x.kind ≠ 1) (h2 : x.kind ≠ 2) (h3 : x.kind ≠ 3) (h4 : x.kind ≠ 4) : actD f x = (f, 3) := by unfold actD; rw [if_neg h, if_neg h2, if_neg h3, if_neg h4]
/-- What an act leaves. -/
def DoRes (base p N : Nat) (f : FD) (x : ActD) (w : World) (e : Ending) (w' : World) : Prop := ∃ S', e = .returned (.int .i64 (actD f x).2) ∧ Dev w' base p (N + 5000) S' ∧ DInv S' (actD f x).1 ∧ Below base w w' ∧ KeepB w w'
set_option maxRecDepth 100000 in
set_option maxHeartbeats 2000000 in
theorem do_write (base p N : Nat) (S : DS) (f : FD) (E : Nat) (torn : Int) (ad : Option Addr) (nd cd : Nat) (ak : Option Addr) (nk ck : Nat) (data : List Int) (keep : List Bool) (w : World) (hD : Dev w base p N S) (hI : DInv S f) (hN : N ≤ 1000000) (hbase : base ≤ w.heap.size) (hnd : nd = data.length) (_hnd2 : nd ≤ 1048576) (hcd : nd ≤ cd) (hcd2 : cd ≤ maxLen) (hRd : ∀ w', Below base w w' → Row w' ad nd data) (hfit : E + data.length ≤ 2048) :
    Calls Try.prog 25 #[.pointer (some ⟨p, 0, none⟩), .agg #[.int .i64 1, .int .i64 (E : Int), .int .i64 torn, .slice ad nd cd, .slice ak nk ck]] w fun e w' => DoRes base p N f ⟨1, (E : Int), torn, data, keep⟩ w e w' := by
  have b0 : Below w.heap.size w (w.alloc (.cells #[.int .i64 1, .int .i64 (E : Int), .int .i64 torn, .slice ad nd cd, .slice ak nk ck] 34)) := (Below.refl _ _).alloc (Nat.le_refl _) _
  have B0 := hide (b0.mono hbase)
  have K0 := hide (KeepB.of_below b0)
  have D0 := hide (show Dev (w.alloc (.cells #[.int .i64 1, .int .i64 (E : Int), .int .i64 torn, .slice ad nd cd, .slice ak nk ck] 34)) base p N S from by obtain ⟨mh, mr, v, hd⟩ := hD; exact ⟨mh, mr, v, hd.below b0⟩)
  have HI := hide hI
  have hwl : S.ws.length ≤ 4096 := by rw [hI.wait]; exact hI.ok.2.2.1
  have hz0 : (w.alloc (.cells #[.int .i64 1, .int .i64 (E : Int), .int .i64 torn, .slice ad nd cd, .slice ak nk ck] 34)).heap.size = w.heap.size + 1 := by simp
  clear hD hI b0
  have hf : fitD (E : Int) data.length = true := decide_eq_true ⟨by omega, by omega⟩
  have hwd : (writeD f.xs f.ws E data).length = S.ws.length + touchN E data.length := by unfold writeD; rw [List.length_append, newW_len, (unhide HI).wait]
  have A1 := hide (actD_1 (f := f) (x := ⟨1, (E : Int), torn, data, keep⟩) rfl)
  have HND := hide hnd
  by_cases hm : (writeD f.xs f.ws E data).length ≤ 4096
  · have HE := hide (show actD f ⟨1, (E : Int), torn, data, keep⟩ = (⟨f.xs, writeD f.xs f.ws E data⟩, 0) by rw [unhide A1]; simp only [Int.toNat_natCast]; rw [if_pos hf, if_pos hm])
    have HW := hide (write_any base p N E nd cd ad data S _ (unhide D0) hN hnd (by omega) (by rw [hnd]; omega) hcd hcd2 (fun w' h1 _ => hRd w' ((unhide B0).trans h1)))
    have Z := hide (show ∀ w', Dev w' base p (N + 128) (wrDS S E data (touchN E data.length)) → Below base w w' → KeepB w w' → DoRes base p N f ⟨1, (E : Int), torn, data, keep⟩ w (.returned (.int .i64 0)) w' from fun w' h1 h2 h3 => by
      obtain ⟨a, b, c, d⟩ := h1
      exact ⟨_, by rw [unhide HE], ⟨a, b, c, d.mono (by omega)⟩, by rw [unhide HE]; exact (unhide HI).write E data hfit hm d.rok, h2, h3⟩)
    clear hwd hm hf hnd hRd A1
    go_enter Try.func25, Try.ntmps25
    go_wp2_with fail
    refine (unhide HW).mono ?_
    rintro e w1 ⟨rfl, h1, h2, h3⟩
    have R := hide (unhide Z w1 h1 ((unhide B0).trans h2) ((unhide K0).trans h3))
    clear h1 h2 h3 HW Z
    go_wp2_with fail
    go_ret
    exact unhide R
  · have HE := hide (show actD f ⟨1, (E : Int), torn, data, keep⟩ = (f, 6) by rw [unhide A1]; simp only [Int.toNat_natCast]; rw [if_pos hf, if_neg hm])
    have HW := hide (write_many base p N E nd cd ad S _ (unhide D0) (by omega) (by rw [hnd]; omega) hwl)
    clear hwd hm hf hnd hRd A1
    go_enter Try.func25, Try.ntmps25
    go_wp2_with fail
    refine (unhide HW).mono ?_
    rintro e w1 ⟨rfl, h2⟩
    have R := hide (show DoRes base p N f ⟨1, (E : Int), torn, data, keep⟩ w (.returned (.int .i64 6)) w1 from ⟨S, by rw [unhide HE], (by obtain ⟨a, b, c, d⟩ := unhide D0; exact ⟨a, b, c, (d.below h2).mono (by omega)⟩), by rw [unhide HE]; exact unhide HI, (unhide B0).trans (h2.mono (by omega)), (unhide K0).trans (KeepB.of_below h2)⟩)
    clear h2 HW
    go_wp2_with fail
    go_ret
    exact unhide R
set_option maxRecDepth 100000 in
set_option maxHeartbeats 2000000 in
theorem do_full (base p N : Nat) (S : DS) (f : FD) (at_ torn : Int) (ad : Option Addr) (nd cd : Nat) (ak : Option Addr) (nk ck : Nat) (data : List Int) (keep : List Bool) (w : World) (hD : Dev w base p N S) (hI : DInv S f) (_hN : N ≤ 1000000) (hbase : base ≤ w.heap.size) (hnd : nd = data.length) (hnd2 : nd ≤ 1048576) (hf : fitD at_ data.length = false) :
    Calls Try.prog 25 #[.pointer (some ⟨p, 0, none⟩), .agg #[.int .i64 1, .int .i64 at_, .int .i64 torn, .slice ad nd cd, .slice ak nk ck]] w fun e w' => DoRes base p N f ⟨1, at_, torn, data, keep⟩ w e w' := by
  have b0 : Below w.heap.size w (w.alloc (.cells #[.int .i64 1, .int .i64 at_, .int .i64 torn, .slice ad nd cd, .slice ak nk ck] 34)) := (Below.refl _ _).alloc (Nat.le_refl _) _
  have B0 := hide (b0.mono hbase)
  have K0 := hide (KeepB.of_below b0)
  have D0 := hide (show Dev (w.alloc (.cells #[.int .i64 1, .int .i64 at_, .int .i64 torn, .slice ad nd cd, .slice ak nk ck] 34)) base p N S from by obtain ⟨mh, mr, v, hd⟩ := hD; exact ⟨mh, mr, v, hd.below b0⟩)
  have HI := hide hI
  have hwl : S.ws.length ≤ 4096 := by rw [hI.wait]; exact hI.ok.2.2.1
  have hz0 : (w.alloc (.cells #[.int .i64 1, .int .i64 at_, .int .i64 torn, .slice ad nd cd, .slice ak nk ck] 34)).heap.size = w.heap.size + 1 := by simp
  clear hD hI b0
  have HE := hide (show actD f ⟨1, at_, torn, data, keep⟩ = (f, 7) by rw [actD_1 rfl]; simp only; rw [hf]; rfl)
  have R := hide (show DoRes base p N f ⟨1, at_, torn, data, keep⟩ w (.returned (.int .i64 7)) (w.alloc (.cells #[.int .i64 1, .int .i64 at_, .int .i64 torn, .slice ad nd cd, .slice ak nk ck] 34)) from ⟨S, by rw [unhide HE], (by obtain ⟨a, b, c, d⟩ := unhide D0; exact ⟨a, b, c, d.mono (by omega)⟩), by rw [unhide HE]; exact unhide HI, unhide B0, unhide K0⟩)
  have HW := hide (fun W => write_bad p nd cd at_ ad W (by rw [hnd]; exact hf) hnd2)
  clear hnd hf hnd2 hwl hz0 _hN hbase
  go_enter Try.func25, Try.ntmps25
  go_wp2_with fail
  refine (unhide HW _).mono ?_
  rintro e w1 ⟨rfl, hw⟩
  subst w1
  go_wp2_with fail
  go_ret
  exact unhide R
set_option maxRecDepth 100000 in
set_option maxHeartbeats 2000000 in
theorem do_sync (base p N : Nat) (S : DS) (f : FD) (at_ torn : Int) (ad : Option Addr) (nd cd : Nat) (ak : Option Addr) (nk ck : Nat) (data : List Int) (keep : List Bool) (w : World) (hD : Dev w base p N S) (hI : DInv S f) (_hN : N ≤ 1000000) (hbase : base ≤ w.heap.size) :
    Calls Try.prog 25 #[.pointer (some ⟨p, 0, none⟩), .agg #[.int .i64 2, .int .i64 at_, .int .i64 torn, .slice ad nd cd, .slice ak nk ck]] w fun e w' => DoRes base p N f ⟨2, at_, torn, data, keep⟩ w e w' := by
  have b0 : Below w.heap.size w (w.alloc (.cells #[.int .i64 2, .int .i64 at_, .int .i64 torn, .slice ad nd cd, .slice ak nk ck] 34)) := (Below.refl _ _).alloc (Nat.le_refl _) _
  have B0 := hide (b0.mono hbase)
  have K0 := hide (KeepB.of_below b0)
  have D0 := hide (show Dev (w.alloc (.cells #[.int .i64 2, .int .i64 at_, .int .i64 torn, .slice ad nd cd, .slice ak nk ck] 34)) base p N S from by obtain ⟨mh, mr, v, hd⟩ := hD; exact ⟨mh, mr, v, hd.below b0⟩)
  have HI := hide hI
  have hwl : S.ws.length ≤ 4096 := by rw [hI.wait]; exact hI.ok.2.2.1
  have hz0 : (w.alloc (.cells #[.int .i64 2, .int .i64 at_, .int .i64 torn, .slice ad nd cd, .slice ak nk ck] 34)).heap.size = w.heap.size + 1 := by simp
  clear hD hI b0
  have HE := hide (actD_2 (f := f) (x := ⟨2, at_, torn, data, keep⟩) rfl)
  have HW := hide (sync_keep base p N S _ (unhide D0))
  go_enter Try.func25, Try.ntmps25
  go_wp2_with fail
  refine (unhide HW).mono ?_
  rintro e w1 ⟨rfl, ⟨a, b, c, d⟩, h2, h3⟩
  have R := hide (show DoRes base p N f ⟨2, at_, torn, data, keep⟩ w (.returned (.int .i64 0)) w1 from ⟨_, by rw [unhide HE], ⟨a, b, c, d.mono (by omega)⟩, by rw [unhide HE]; exact (unhide HI).sync, (unhide B0).trans h2, (unhide K0).trans h3⟩)
  clear d h2 h3 HW
  go_wp2_with fail
  go_ret
  exact unhide R
set_option maxRecDepth 100000 in
set_option maxHeartbeats 2000000 in
theorem do_crash (base p N : Nat) (S : DS) (f : FD) (at_ : Int) (t : Nat) (ad : Option Addr) (nd cd : Nat) (ak : Option Addr) (nk ck : Nat) (data : List Int) (keep : List Bool) (w : World) (hD : Dev w base p N S) (hI : DInv S f) (hN : N ≤ 1000000) (hbase : base ≤ w.heap.size) (ht : t ≤ 16) (hnk : nk ≤ 1048576) (hKd : ∀ w', Below base w w' → BRow w' ak nk keep) :
    Calls Try.prog 25 #[.pointer (some ⟨p, 0, none⟩), .agg #[.int .i64 3, .int .i64 at_, .int .i64 (t : Int), .slice ad nd cd, .slice ak nk ck]] w fun e w' => DoRes base p N f ⟨3, at_, (t : Int), data, keep⟩ w e w' := by
  have b0 : Below w.heap.size w (w.alloc (.cells #[.int .i64 3, .int .i64 at_, .int .i64 (t : Int), .slice ad nd cd, .slice ak nk ck] 34)) := (Below.refl _ _).alloc (Nat.le_refl _) _
  have B0 := hide (b0.mono hbase)
  have K0 := hide (KeepB.of_below b0)
  have D0 := hide (show Dev (w.alloc (.cells #[.int .i64 3, .int .i64 at_, .int .i64 (t : Int), .slice ad nd cd, .slice ak nk ck] 34)) base p N S from by obtain ⟨mh, mr, v, hd⟩ := hD; exact ⟨mh, mr, v, hd.below b0⟩)
  have HI := hide hI
  have hwl : S.ws.length ≤ 4096 := by rw [hI.wait]; exact hI.ok.2.2.1
  have hz0 : (w.alloc (.cells #[.int .i64 3, .int .i64 at_, .int .i64 (t : Int), .slice ad nd cd, .slice ak nk ck] 34)).heap.size = w.heap.size + 1 := by simp
  clear hD hI b0
  have HE := hide (show actD f ⟨3, at_, (t : Int), data, keep⟩ = (⟨crashD f.xs f.ws keep t, []⟩, 0) by rw [actD_3 rfl]; simp only; rw [if_pos ⟨by omega, by omega⟩, Int.toNat_natCast])
  have HC := hide (crash_many base p N S ak nk ck keep t _ (unhide D0) (by omega) hwl (hKd _ (unhide B0)) hnk ht)
  clear hKd
  go_enter Try.func25, Try.ntmps25
  go_wp2_with fail
  refine (unhide HC).mono ?_
  rintro e w1 ⟨rfl, ⟨S', ⟨a, b, c, d⟩, hw, hsb, hrc, hrf⟩, h2, h3⟩
  have R := hide (show DoRes base p N f ⟨3, at_, (t : Int), data, keep⟩ w (.returned (.int .i64 0)) w1 from ⟨S', by rw [unhide HE], ⟨a, b, c, d.mono (by omega)⟩, by rw [unhide HE]; exact DInv.of_held (by rw [hsb, (unhide HI).held, (unhide HI).wait]) hrc hrf hw d.hok, (unhide B0).trans h2, (unhide K0).trans h3⟩)
  clear d h2 h3 hw hsb hrc hrf HC
  go_wp2_with fail
  go_ret
  exact unhide R
set_option maxRecDepth 100000 in
set_option maxHeartbeats 2000000 in
theorem do_torn (base p N : Nat) (S : DS) (f : FD) (at_ torn : Int) (ad : Option Addr) (nd cd : Nat) (ak : Option Addr) (nk ck : Nat) (data : List Int) (keep : List Bool) (w : World) (hD : Dev w base p N S) (hI : DInv S f) (_hN : N ≤ 1000000) (hbase : base ≤ w.heap.size) (ht : ¬ (0 ≤ torn ∧ torn ≤ 16)) :
    Calls Try.prog 25 #[.pointer (some ⟨p, 0, none⟩), .agg #[.int .i64 3, .int .i64 at_, .int .i64 torn, .slice ad nd cd, .slice ak nk ck]] w fun e w' => DoRes base p N f ⟨3, at_, torn, data, keep⟩ w e w' := by
  have b0 : Below w.heap.size w (w.alloc (.cells #[.int .i64 3, .int .i64 at_, .int .i64 torn, .slice ad nd cd, .slice ak nk ck] 34)) := (Below.refl _ _).alloc (Nat.le_refl _) _
  have B0 := hide (b0.mono hbase)
  have K0 := hide (KeepB.of_below b0)
  have D0 := hide (show Dev (w.alloc (.cells #[.int .i64 3, .int .i64 at_, .int .i64 torn, .slice ad nd cd, .slice ak nk ck] 34)) base p N S from by obtain ⟨mh, mr, v, hd⟩ := hD; exact ⟨mh, mr, v, hd.below b0⟩)
  have HI := hide hI
  have hwl : S.ws.length ≤ 4096 := by rw [hI.wait]; exact hI.ok.2.2.1
  have hz0 : (w.alloc (.cells #[.int .i64 3, .int .i64 at_, .int .i64 torn, .slice ad nd cd, .slice ak nk ck] 34)).heap.size = w.heap.size + 1 := by simp
  clear hD hI b0
  have HE := hide (show actD f ⟨3, at_, torn, data, keep⟩ = (f, 4) by rw [actD_3 rfl]; simp only; rw [if_neg ht])
  have R := hide (show DoRes base p N f ⟨3, at_, torn, data, keep⟩ w (.returned (.int .i64 4)) (w.alloc (.cells #[.int .i64 3, .int .i64 at_, .int .i64 torn, .slice ad nd cd, .slice ak nk ck] 34)) from ⟨S, by rw [unhide HE], (by obtain ⟨a, b, c, d⟩ := unhide D0; exact ⟨a, b, c, d.mono (by omega)⟩), by rw [unhide HE]; exact unhide HI, unhide B0, unhide K0⟩)
  have HW := hide (fun W => crash_bad p ak nk ck torn W ht)
  clear ht hwl hz0 _hN hbase
  go_enter Try.func25, Try.ntmps25
  go_wp2_with fail
  refine (unhide HW _).mono ?_
  rintro e w1 ⟨rfl, hw⟩
  subst w1
  go_wp2_with fail
  go_ret
  exact unhide R
set_option maxRecDepth 100000 in
set_option maxHeartbeats 2000000 in
theorem do_trim (base p N : Nat) (S : DS) (f : FD) (t : Nat) (torn : Int) (ad : Option Addr) (nd cd : Nat) (ak : Option Addr) (nk ck : Nat) (data : List Int) (keep : List Bool) (w : World) (hD : Dev w base p N S) (hI : DInv S f) (hN : N ≤ 1000000) (hbase : base ≤ w.heap.size) (ht : t < 128) :
    Calls Try.prog 25 #[.pointer (some ⟨p, 0, none⟩), .agg #[.int .i64 4, .int .i64 (t : Int), .int .i64 torn, .slice ad nd cd, .slice ak nk ck]] w fun e w' => DoRes base p N f ⟨4, (t : Int), torn, data, keep⟩ w e w' := by
  have b0 : Below w.heap.size w (w.alloc (.cells #[.int .i64 4, .int .i64 (t : Int), .int .i64 torn, .slice ad nd cd, .slice ak nk ck] 34)) := (Below.refl _ _).alloc (Nat.le_refl _) _
  have B0 := hide (b0.mono hbase)
  have K0 := hide (KeepB.of_below b0)
  have D0 := hide (show Dev (w.alloc (.cells #[.int .i64 4, .int .i64 (t : Int), .int .i64 torn, .slice ad nd cd, .slice ak nk ck] 34)) base p N S from by obtain ⟨mh, mr, v, hd⟩ := hD; exact ⟨mh, mr, v, hd.below b0⟩)
  have HI := hide hI
  have hwl : S.ws.length ≤ 4096 := by rw [hI.wait]; exact hI.ok.2.2.1
  have hz0 : (w.alloc (.cells #[.int .i64 4, .int .i64 (t : Int), .int .i64 torn, .slice ad nd cd, .slice ak nk ck] 34)).heap.size = w.heap.size + 1 := by simp
  clear hD hI b0
  have HE := hide (show actD f ⟨4, (t : Int), torn, data, keep⟩ = (⟨trimD (readD f.xs f.ws) t, []⟩, 0) by rw [actD_4 rfl]; simp only; rw [if_pos ⟨by omega, by omega⟩, Int.toNat_natCast])
  have HC := hide (trim_any base p N t S _ (unhide D0) (by omega) ht)
  go_enter Try.func25, Try.ntmps25
  go_wp2_with fail
  refine (unhide HC).mono ?_
  rintro e w1 ⟨rfl, ⟨a, b, c, d⟩, h2, h3⟩
  have R := hide (show DoRes base p N f ⟨4, (t : Int), torn, data, keep⟩ w (.returned (.int .i64 0)) w1 from ⟨_, by rw [unhide HE], ⟨a, b, c, d.mono (by omega)⟩, by rw [unhide HE]; exact (unhide HI).trim t, (unhide B0).trans h2, (unhide K0).trans h3⟩)
  clear d h2 h3 HC
  go_wp2_with fail
  go_ret
  exact unhide R
set_option maxRecDepth 100000 in
set_option maxHeartbeats 2000000 in
theorem do_out (base p N : Nat) (S : DS) (f : FD) (at_ torn : Int) (ad : Option Addr) (nd cd : Nat) (ak : Option Addr) (nk ck : Nat) (data : List Int) (keep : List Bool) (w : World) (hD : Dev w base p N S) (hI : DInv S f) (_hN : N ≤ 1000000) (hbase : base ≤ w.heap.size) (ht : ¬ (0 ≤ at_ ∧ at_ ≤ 127)) :
    Calls Try.prog 25 #[.pointer (some ⟨p, 0, none⟩), .agg #[.int .i64 4, .int .i64 at_, .int .i64 torn, .slice ad nd cd, .slice ak nk ck]] w fun e w' => DoRes base p N f ⟨4, at_, torn, data, keep⟩ w e w' := by
  have b0 : Below w.heap.size w (w.alloc (.cells #[.int .i64 4, .int .i64 at_, .int .i64 torn, .slice ad nd cd, .slice ak nk ck] 34)) := (Below.refl _ _).alloc (Nat.le_refl _) _
  have B0 := hide (b0.mono hbase)
  have K0 := hide (KeepB.of_below b0)
  have D0 := hide (show Dev (w.alloc (.cells #[.int .i64 4, .int .i64 at_, .int .i64 torn, .slice ad nd cd, .slice ak nk ck] 34)) base p N S from by obtain ⟨mh, mr, v, hd⟩ := hD; exact ⟨mh, mr, v, hd.below b0⟩)
  have HI := hide hI
  have hwl : S.ws.length ≤ 4096 := by rw [hI.wait]; exact hI.ok.2.2.1
  have hz0 : (w.alloc (.cells #[.int .i64 4, .int .i64 at_, .int .i64 torn, .slice ad nd cd, .slice ak nk ck] 34)).heap.size = w.heap.size + 1 := by simp
  clear hD hI b0
  have HE := hide (show actD f ⟨4, at_, torn, data, keep⟩ = (f, 4) by rw [actD_4 rfl]; simp only; rw [if_neg ht])
  have R := hide (show DoRes base p N f ⟨4, at_, torn, data, keep⟩ w (.returned (.int .i64 4)) (w.alloc (.cells #[.int .i64 4, .int .i64 at_, .int .i64 torn, .slice ad nd cd, .slice ak nk ck] 34)) from ⟨S, by rw [unhide HE], (by obtain ⟨a, b, c, d⟩ := unhide D0; exact ⟨a, b, c, d.mono (by omega)⟩), by rw [unhide HE]; exact unhide HI, unhide B0, unhide K0⟩)
  have HW := hide (fun W => trim_bad p at_ W ht)
  clear ht hwl hz0 _hN hbase
  go_enter Try.func25, Try.ntmps25
  go_wp2_with fail
  refine (unhide HW _).mono ?_
  rintro e w1 ⟨rfl, hw⟩
  subst w1
  go_wp2_with fail
  go_ret
  exact unhide R
set_option maxRecDepth 100000 in
set_option maxHeartbeats 2000000 in
theorem do_else (base p N : Nat) (S : DS) (f : FD) (kind at_ torn : Int) (ad : Option Addr) (nd cd : Nat) (ak : Option Addr) (nk ck : Nat) (data : List Int) (keep : List Bool) (w : World) (hD : Dev w base p N S) (hI : DInv S f) (_hN : N ≤ 1000000) (hbase : base ≤ w.heap.size) (k1 : kind ≠ 1) (k2 : kind ≠ 2) (k3 : kind ≠ 3) (k4 : kind ≠ 4) :
    Calls Try.prog 25 #[.pointer (some ⟨p, 0, none⟩), .agg #[.int .i64 kind, .int .i64 at_, .int .i64 torn, .slice ad nd cd, .slice ak nk ck]] w fun e w' => DoRes base p N f ⟨kind, at_, torn, data, keep⟩ w e w' := by
  have b0 : Below w.heap.size w (w.alloc (.cells #[.int .i64 kind, .int .i64 at_, .int .i64 torn, .slice ad nd cd, .slice ak nk ck] 34)) := (Below.refl _ _).alloc (Nat.le_refl _) _
  have B0 := hide (b0.mono hbase)
  have K0 := hide (KeepB.of_below b0)
  have D0 := hide (show Dev (w.alloc (.cells #[.int .i64 kind, .int .i64 at_, .int .i64 torn, .slice ad nd cd, .slice ak nk ck] 34)) base p N S from by obtain ⟨mh, mr, v, hd⟩ := hD; exact ⟨mh, mr, v, hd.below b0⟩)
  have HI := hide hI
  have hwl : S.ws.length ≤ 4096 := by rw [hI.wait]; exact hI.ok.2.2.1
  have hz0 : (w.alloc (.cells #[.int .i64 kind, .int .i64 at_, .int .i64 torn, .slice ad nd cd, .slice ak nk ck] 34)).heap.size = w.heap.size + 1 := by simp
  clear hD hI b0
  have HE := hide (actD_5 (f := f) (x := ⟨kind, at_, torn, data, keep⟩) k1 k2 k3 k4)
  have R := hide (show DoRes base p N f ⟨kind, at_, torn, data, keep⟩ w (.returned (.int .i64 3)) (w.alloc (.cells #[.int .i64 kind, .int .i64 at_, .int .i64 torn, .slice ad nd cd, .slice ak nk ck] 34)) from ⟨S, by rw [unhide HE], (by obtain ⟨a, b, c, d⟩ := unhide D0; exact ⟨a, b, c, d.mono (by omega)⟩), by rw [unhide HE]; exact unhide HI, unhide B0, unhide K0⟩)
  have q1 : (kind == 1) = false := by simpa using k1
  have q2 : (kind == 2) = false := by simpa using k2
  have q3 : (kind == 3) = false := by simpa using k3
  have q4 : (kind == 4) = false := by simpa using k4
  go_enter Try.func25, Try.ntmps25
  go_wp2_with fail
  go_ret
  exact unhide R
theorem do_dev (base p N : Nat) (S : DS) (f : FD) (x : ActD) (ad : Option Addr) (nd cd : Nat) (ak : Option Addr) (nk ck : Nat) (w : World) (hD : Dev w base p N S) (hI : DInv S f) (hN : N ≤ 1000000) (hbase : base ≤ w.heap.size) (hnd : nd = x.data.length) (hnd2 : nd ≤ 1048576) (hcd : nd ≤ cd) (hcd2 : cd ≤ maxLen) (hnk : nk ≤ 1048576)
    (hRd : ∀ w', Below base w w' → Row w' ad nd x.data) (hKd : ∀ w', Below base w w' → BRow w' ak nk x.keep) :
    Calls Try.prog 25 #[.pointer (some ⟨p, 0, none⟩), av x ad nd cd ak nk ck] w fun e w' => DoRes base p N f x w e w' := by
  obtain ⟨kind, at_, torn, data, keep⟩ := x
  by_cases k1 : kind = 1
  · subst k1
    by_cases hf : fitD at_ data.length = true
    · have h := of_decide_eq_true hf
      obtain ⟨E, rfl⟩ : ∃ E : Nat, at_ = (E : Int) := ⟨at_.toNat, by omega⟩
      exact do_write base p N S f E torn ad nd cd ak nk ck data keep w hD hI hN hbase hnd hnd2 hcd hcd2 hRd (by omega)
    · exact do_full base p N S f at_ torn ad nd cd ak nk ck data keep w hD hI hN hbase hnd hnd2 (by simpa using hf)
  · by_cases k2 : kind = 2
    · subst k2
      exact do_sync base p N S f at_ torn ad nd cd ak nk ck data keep w hD hI hN hbase
    · by_cases k3 : kind = 3
      · subst k3
        by_cases ht : 0 ≤ torn ∧ torn ≤ 16
        · obtain ⟨t, rfl⟩ : ∃ t : Nat, torn = (t : Int) := ⟨torn.toNat, by omega⟩
          exact do_crash base p N S f at_ t ad nd cd ak nk ck data keep w hD hI hN hbase (by omega) hnk hKd
        · exact do_torn base p N S f at_ torn ad nd cd ak nk ck data keep w hD hI hN hbase ht
      · by_cases k4 : kind = 4
        · subst k4
          by_cases ht : 0 ≤ at_ ∧ at_ ≤ 127
          · obtain ⟨t, rfl⟩ : ∃ t : Nat, at_ = (t : Int) := ⟨at_.toNat, by omega⟩
            exact do_trim base p N S f t torn ad nd cd ak nk ck data keep w hD hI hN hbase (by omega)
          · exact do_out base p N S f at_ torn ad nd cd ak nk ck data keep w hD hI hN hbase ht
        · exact do_else base p N S f kind at_ torn ad nd cd ak nk ck data keep w hD hI hN hbase k1 k2 k3 k4
end Go.Proofs.Ytjhmammoakiknaa
