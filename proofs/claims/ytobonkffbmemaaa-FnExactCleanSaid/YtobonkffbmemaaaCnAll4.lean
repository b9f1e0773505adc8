/-
  LtA, CnI, CnS, To, FlashT, FlashS, Tail, FlashM, BoolS, CrashM, FlashE, FlashOKLaw, CrashLaw, CnLaw, CleanP in one.
-/
import Derived.Test.YtobonkffbmemaaaCnAll3
import Derived.Test.YtobonkffbmemaaaScE
import Derived.Test.YtobonkffbmemaaaFlIn8
import Derived.Test.YtobonkffbmemaaaReadD
import Derived.Test.YtobonkffbmemaaaDevP
import Derived.Test.YtobonkffbmemaaaDevC
import Derived.Test.YtobonkffbmemaaaImplOK
import Derived.Test.YtobonkffbmemaaaCnL
import Derived.Test.YtobonkffbmemaaaStX
import Derived.Test.YtobonkffbmemaaaFlash0
import Derived.Test.YtobonkffbmemaaaCrashI
import Derived.Test.YtobonkffbmemaaaMark
import Derived.Test.YtobonkffbmemaaaFlashD
import Derived.Test.YtobonkffbmemaaaMarkB
import Derived.Test.YtobonkffbmemaaaBRow
import Derived.Test.YtobonkffbmemaaaCnAll1
import Derived.Test.YtobonkffbmemaaaFlashIn
import Derived.Deep.Grids
import Derived.Test.YtobonkffbmemaaaBytes
import Derived.Deep.RegionWith
import Derived.Deep.DeepCutAuto
import Derived.ProofKit
import Derived.OpenShut
import Derived.ShutString
import Derived.ChangeOld
import Derived.Below
namespace Go.Proofs.Ytobonkffbmemaaa
open Go.RowKit Go.Maps

/-- The images that stand on a device. -/
def laS (xs : List Int) (ws : List WD) : List ImD := if okD xs.length ws = true then (scanB (readD xs ws)).1 else []
/-- What Latest gives. -/
def LaRes (xs : List Int) (ws : List WD) (w : World) (e : Ending) (w' : World) : Prop :=
  ∃ v hs, e = .returned (.tuple #[v, .int .i64 (rdC xs ws)]) ∧ IOwn w' w.heap.size v hs ∧ Lat ImD.id ImD.gone (laS xs ws) (hs.map (·.X)) ∧ Below w.heap.size w w' ∧ hs.length ≤ 2048
theorem laRes_bad {xs : List Int} {ws : List WD} {v : Value} {w w' : World} (h : okD xs.length ws = false) (ho : IOwn w' w.heap.size v []) (hb : Below w.heap.size w w') : LaRes xs ws w (.returned (.tuple #[v, .int .i64 1])) w' := by
  refine ⟨v, [], by unfold rdC; rw [h]; rfl, ho, ?_, hb, Nat.zero_le _⟩
  unfold laS
  rw [h]
  exact Lat.nil _ _
theorem lat_mem {hs R : List ImH} (h : Lat kH gH hs R) {x : ImH} (hx : x ∈ R) : x ∈ hs := by
  obtain ⟨⟨pre, post, rfl, _⟩, _⟩ := (h.all x).1 hx
  simp
theorem ownsRow_down {w : World} {B C e s n : Nat} {v : Value} {vs : List Value} (h : w.ownsRow B e s v n vs) (hC : C ≤ B) : w.ownsRow C e s v n vs := by
  refine ⟨h.1, ?_⟩
  rcases h.2 with h | ⟨g, cap, cur, e, hb, r⟩
  · exact .inl h
  · exact .inr ⟨g, cap, cur, e, Nat.le_trans hC hb, r⟩
/-- The latest of owned images are owned. -/
theorem iown_lat {w1 w2 : World} {B : Nat} {v v2 : Value} {hs R : List ImH} (ho : IOwn w1 B v hs) (hb : Below w1.heap.size w1 w2) (hr2 : GOwns w2 w1.heap.size v2 (R.map hr)) (h : Lat kH gH hs R) (hB : B ≤ w1.heap.size) : IOwn w2 B v2 R := by
  have key : ∀ i (hi : i < R.length), ∃ j, ∃ hj : j < hs.length, hs[j] = R[i] := fun i hi => List.mem_iff_getElem.1 (lat_mem h (List.getElem_mem hi))
  have hup := List.pairwise_iff_getElem.1 h.up
  refine ⟨ownsRow_down hr2 hB, fun i hi => ?_, fun i j hi hj hij => ?_, fun i hi => ?_⟩
  · obtain ⟨j, hj, e⟩ := key i hi
    have := (ho.dat j hj).below hb
    rw [e] at this
    exact this
  · obtain ⟨a, ha, ea⟩ := key i hi
    obtain ⟨b, hb', eb⟩ := key j hj
    rw [← ea, ← eb]
    refine ho.far a b ha hb' (fun e => ?_)
    subst e
    rw [ea] at eb
    rcases Nat.lt_or_gt_of_ne hij with h1 | h1
    · have := hup i j hi hj h1
      simp only [kH] at this
      rw [eb] at this
      omega
    · have := hup j i hj hi h1
      simp only [kH] at this
      rw [eb] at this
      omega
  · obtain ⟨a, ha, ea⟩ := key i hi
    have h1 := (hDat.lt (ho.dat a ha)).2
    rw [ea] at h1
    intro e
    have := (hr2.lt _ e).1
    omega
theorem laRes_some {xs : List Int} {ws : List WD} {v v2 : Value} {w w1 w2 : World} {hs R : List ImH} (hk : okD xs.length ws = true) (ho : IOwn w1 w.heap.size v hs) (he : hs.map (·.X) = (scanB (readD xs ws)).1) (hb1 : Below w.heap.size w w1) (hb : Below w1.heap.size w1 w2) (hr2 : GOwns w2 w1.heap.size v2 (R.map hr)) (h : Lat kH gH hs R) (hl : R.length ≤ 2048) : LaRes xs ws w (.returned (.tuple #[v2, .int .i64 0])) w2 := by
  refine ⟨v2, R, by unfold rdC; rw [hk]; rfl, iown_lat ho hb hr2 h hb1.size, ?_, hb1.trans (hb.mono hb1.size), hl⟩
  unfold laS
  rw [if_pos hk, ← he]
  exact Lat.map (k' := ImD.id) (g' := ImD.gone) (fun x : ImH => x.X) (fun _ => rfl) (fun _ => rfl) h
theorem im_cap {w : World} {B : Nat} {v : Value} {hs : List ImH} (h : IOwn w B v hs) : ∃ a c, v = .slice a hs.length c ∧ hs.length ≤ c ∧ GRow w a hs.length (hs.map hr) := by
  obtain ⟨a, c, rfl⟩ := im_slice h
  refine ⟨a, c, rfl, ?_, im_row h⟩
  rcases h.row.2 with ⟨e, h0⟩ | ⟨g, cap, cur, e, _, _, h1, _⟩
  · injection e with _ e2 _
    omega
  · injection e with _ e2 e3
    rw [List.length_map] at h1
    omega
set_option maxRecDepth 100000 in
set_option maxHeartbeats 2000000 in
theorem implLatest_any (ah : Option Addr) (n c : Nat) (aw : Option Addr) (nw cw : Nat) (xs : List Int) (ws : List WD) (w : World) (hR : Row w ah n xs) (hW : WRow w aw nw ws) (hn : n ≤ 1048576) (hnw : nw ≤ 1048576) (hc : n ≤ c) (hc2 : c ≤ maxLen) (h8 : Bytes8 xs) (h8w : ∀ d ∈ ws, Bytes8 d.xs) :
    Calls Try.prog 71 #[fv ah n c aw nw cw] w fun e w' => LaRes xs ws w e w' := by
  have hxl := hR.1
  have H8 := hide (readD_bytes ws xs h8 h8w)
  clear h8 h8w
  have hwl := hW.1
  have b0 : Below w.heap.size w (w.alloc (.cells #[.slice ah n c, .slice aw nw cw] 28)) := (Below.refl _ _).alloc (Nat.le_refl _) _
  have HW := hide (hW.below b0)
  have HR := hide (row_grow hR b0)
  have B0 := hide b0
  have x0 : (w.alloc (.cells #[.slice ah n c, .slice aw nw cw] 28)).cell? ⟨w.heap.size, 0, none⟩ = some (.slice ah n c) := (cell_new rfl).trans rfl
  have x1 : (w.alloc (.cells #[.slice ah n c, .slice aw nw cw] 28)).cell? ⟨w.heap.size, 1, none⟩ = some (.slice aw nw cw) := (cell_new rfl).trans rfl
  have hz : (w.alloc (.cells #[.slice ah n c, .slice aw nw cw] 28)).heap.size = w.heap.size + 1 := by simp
  clear hR hW b0
  go_enter Try.func71, Try.ntmps71
  go_wp2_with fail
  generalize w.alloc (.cells #[.slice ah n c, .slice aw nw cw] 28) = w0 at *
  refine (implFlashOK_any ah n c aw nw cw ws w0 (by unfold maxLen; omega) (by unfold maxLen; omega) (unhide HW)).mono ?_
  rintro e w1 ⟨rfl, hb1⟩
  have y0 := (hb1.cell (p := ⟨w.heap.size, 0, none⟩) (show w.heap.size < w0.heap.size by omega)).trans x0
  have y1 := (hb1.cell (p := ⟨w.heap.size, 1, none⟩) (show w.heap.size < w0.heap.size by omega)).trans x1
  have hs1 := hb1.size
  have W1 := hide ((unhide HW).below hb1)
  have R1 := hide (row_grow (unhide HR) hb1)
  have B1 := hide ((unhide B0).trans (hb1.mono (by omega)))
  clear HW HR B0 hb1 x0 x1
  by_cases ho : okD n ws = true
  · rw [ho]
    obtain ⟨k1, k2, k3, k4⟩ := okD_parts ho
    have HO := hide (show okD xs.length ws = true by rw [hxl]; exact ho)
    have FW := hide (scan_few (unhide HO))
    obtain ⟨m, hm⟩ : ∃ m, n = m * 16 := ⟨n / 16, by omega⟩
    have hP := deviceOf_any ah m c aw nw cw xs ws w1 (by rw [← hm]; exact unhide R1) (unhide W1) (by omega) hc2 (by omega) (by omega) (fun i hi => k4 _ (List.getElem_mem hi))
    rw [← hm] at hP
    have HP := hide hP
    have HQ := hide (devDS_read (ws := ws) (show xs.length = m * 16 by omega) (by omega) k4)
    clear k1 k2 k3 k4 ho hP hm
    go_wp2_with fail
    refine (unhide HP).mono ?_
    rintro e w2 ⟨rfl, ⟨mh, mr, v, hd⟩, hb2⟩
    have B2 := hide ((unhide B1).trans (hb2.mono (by omega)))
    have hs2 := hb2.size
    have HD := hide hd
    clear hb2 y0 y1 HP hd
    go_wp2_with fail
    refine (bytes_any (w1.heap.size + 1 + 1) 2 mr 5000 (devDS xs m ws).rc (devDS xs m ws).rf w2 (unhide HD).read (unhide HD).rok.2.1 (unhide HD).rok.1 (unhide HD).c2 (unhide HD).c3).mono ?_
    rintro e w3 ⟨rfl, hM, hb3⟩
    rw [unhide HQ] at hM
    have hlen := (mine_row8 hM).2.1
    rw [hlen] at hM ⊢
    have M3 := hide hM
    have B3 := hide ((unhide B2).trans (hb3.mono (by omega)))
    clear hM hb3 HD HQ hlen
    go_wp2_with fail
    refine (scan_any _ (readD xs ws).length (readD xs ws).length (readD xs ws) w3 (mine_row8 (unhide M3)).1 (unhide H8) (by have := (unhide FW).1; omega) (Nat.le_refl _) (by have := (unhide FW).1; unfold maxLen; omega) (fun e => by cases e)).mono ?_
    rintro e w4 ⟨v, hs, rfl, hI, hX, hb4⟩
    have I4 := hide (hI.down (unhide B3).size)
    have X4 := hide hX
    have B4 := hide ((unhide B3).trans (hb4.mono (unhide B3).size))
    obtain ⟨a5, c5, rfl, hc5, hr5⟩ := im_cap hI
    have hl5 : hs.length ≤ 2048 := by have := (unhide FW).2; rw [← unhide X4, List.length_map] at this; exact this
    have R5 := hide hr5
    clear hI hX hb4 M3 B3 hr5
    go_wp2_with fail
    refine (lastOfEach_any a5 hs.length c5 hs w4 (unhide R5) (by omega) hc5).mono ?_
    rintro e w5 ⟨v5, R, rfl, hG, hLt, hb5, hle⟩
    have Z := hide (laRes_some (unhide HO) (unhide I4) (unhide X4) (unhide B4) hb5 hG hLt (by omega))
    clear hG hLt hb5 hle I4 X4 B4 R5
    go_wp2_with fail
    go_ret2
    exact unhide Z
  · have ho : okD n ws = false := by simpa using ho
    rw [ho]
    have HO := hide (show okD xs.length ws = false by rw [hxl]; exact ho)
    clear ho
    go_wp2_with fail
    go_ret2
    exact laRes_bad (unhide HO) (IOwn.nil _ _) (unhide B1)
end Go.Proofs.Ytobonkffbmemaaa

namespace Go.Proofs.Ytobonkffbmemaaa
open Go.RowKit Go.Maps

/-- Images that lie somewhere: their headers in a row, the bytes of each in a row of its own; all of them are right. -/
structure ImgsAt (w : World) (a : Option Addr) (n : Nat) (hs : List ImH) : Prop where
  row : GRow w a n (hs.map hr)
  dat : ∀ i (hi : i < hs.length), Row w (some ⟨hs[i].g, 0, none⟩) hs[i].X.xs.length hs[i].X.xs
  ok : ∀ i (hi : i < hs.length), hs[i].X.ok = true ∧ Bytes8 hs[i].X.xs
theorem ImgsAt.below {w w' : World} {a : Option Addr} {n : Nat} {hs : List ImH} (h : ImgsAt w a n hs) (hb : Below w.heap.size w w') : ImgsAt w' a n hs :=
  ⟨GRow.below h.row hb, fun i hi => row_grow (h.dat i hi) hb, h.ok⟩
/-- Bytes appended to a row of the call's own. -/
theorem cn_app {w : World} {B g so c m : Nat} {v : Value} {xs ys : List Int} (h : Owns w B v xs) (hr : Row w (some ⟨g, so, none⟩) m ys) (hz : xs.length + m ≤ 100000) (hm : 0 < m) (hB : B ≤ w.heap.size) :
    ∃ v' w', (Builtin.append_ #[22, 22] 22 #[v, .slice (some ⟨g, so, none⟩) m c]).run Try.prog w = .ok v' w' ∧ Owns w' B v' (xs ++ ys) ∧ w.grownBy w' v.ownBlock ∧ v' ≠ .slice none 0 0 := by
  obtain ⟨i0, hi0, hz0, hz1, hz2⟩ := info_parts Try.infoU8
  obtain rfl := hr.1
  have hs : ∀ j u, (ys.map (Value.int .u8))[j]? = some u → w.cell? ((⟨g, so, none⟩ : Addr).add j) = some u := fun j u hu => by
    have hj : j < ys.length := by simpa using (List.getElem?_eq_some_iff.1 hu).1
    obtain ⟨b', off', e, hc⟩ := hr.2 j hj
    cases e
    have e2 : (⟨g, so, none⟩ : Addr).add j = ⟨g, so + j, none⟩ := by unfold Addr.add; split <;> simp_all
    rw [e2, hc]
    rw [List.getElem?_map] at hu
    rw [← hu]
    simp [List.getD, hj]
  obtain ⟨v', w', hrun, ho, hg, hv, -⟩ := app_at (P := Try.prog) (w := w) (B := B) 22 22 5 Try.underlying22 hi0 hz0 hz1 hz2 rfl (by decide) h ⟨g, so, none⟩ ys.length c (ys.map (Value.int .u8)) (by simp) hs (all_u8 _) (by unfold maxLen; omega) (by omega) hB (fun _ => by omega)
  refine ⟨v', w', hrun, ?_, hg, hv⟩
  unfold Owns
  rw [List.length_append, List.map_append]
  exact ho
theorem owns_slice {w : World} {B : Nat} {v : Value} {xs : List Int} (h : Owns w B v xs) : ∃ a c, v = .slice a xs.length c ∧ xs.length ≤ c ∧ c ≤ maxLen ∧ Row w a xs.length xs ∧ ∀ x, a = some x → x.block < w.heap.size := by
  obtain ⟨a, c, e, h1, h2, h3, h4⟩ := mine_of_owns h
  exact ⟨a, c, e, h1, h2, h3, fun x hx => (h4 x hx).2.1⟩
theorem DevAt.down {w : World} {base B p mh mr N : Nat} {v : Value} {S : DS} (h : DevAt w base p mh mr v N S) (hb : B ≤ base) : DevAt w B p mh mr v N S :=
  ⟨h.c0, h.c1, h.c2, h.c3, h.c4, h.kind, h.held, h.read, ownsRow_down h.wait hb, ⟨Nat.le_trans hb h.low.1, Nat.le_trans hb h.low.2.1, Nat.le_trans hb h.low.2.2⟩, h.apart, h.far, h.hok, h.rok, h.wok⟩
/-- What deviceWith leaves: a device that holds the images' bytes alone. -/
def DwRes (hs : List ImH) (w : World) (e : Ending) (w' : World) : Prop :=
  ∃ p S, e = .returned (.tuple #[.pointer (some ⟨p, 0, none⟩), .int .i64 0]) ∧ Dev w' w.heap.size p 6000 S ∧ S.ws = [] ∧ secBytes S.hc S.hf = padB (flatI (hs.map (·.X))) ∧ Below w.heap.size w w'
theorem flat_take (hs : List ImH) (k : Nat) (hk : k < hs.length) : flatI ((hs.take (k + 1)).map (·.X)) = flatI ((hs.take k).map (·.X)) ++ hs[k].X.by := by
  rw [List.take_succ_eq_append_getElem hk, List.map_append, flatI]
  simp [flatI]
theorem flat_take_le (hs : List ImH) (k : Nat) : (flatI ((hs.take k).map (·.X))).length ≤ (flatI (hs.map (·.X))).length := by
  have e : flatI (hs.map (·.X)) = flatI ((hs.take k).map (·.X)) ++ flatI ((hs.drop k).map (·.X)) := by
    have := congrArg (fun l : List ImH => flatI (l.map (·.X))) (List.take_append_drop k hs).symm
    simp only [List.map_append, flatI, List.flatMap_append] at this ⊢
    exact this
  rw [e, List.length_append]
  omega
set_option maxRecDepth 100000 in
set_option maxHeartbeats 4000000 in
theorem deviceWith_any (a : Option Addr) (n c : Nat) (hs : List ImH) (w : World) (hI : ImgsAt w a n hs) (hn : n ≤ 100000) (hlen : (flatI (hs.map (·.X))).length ≤ 2048) :
    Calls Try.prog 72 #[.slice a n c] w fun e w' => DwRes hs w e w' := by
  have LN := hide (show hs.length = n by simpa using hI.row.1)
  have II := hide hI
  have HL := hide hlen
  clear hI hlen
  go_enter Try.func72, Try.ntmps72
  go_wp2_with fail
  go_loopw [4, 11] (fun v i wr => ∃ k : Nat, k ≤ n ∧ i = .int .i64 (k : Int) ∧ Hid (Owns wr w.heap.size v (flatI ((hs.take k).map (·.X)))) ∧ Hid (Below w.heap.size w wr)) (fun _ i _ => n - (intOf i).toNat)
  case atStart => exact ⟨0, Nat.zero_le _, rfl, World.ownsRow_nil _ _ _ _, Below.refl _ _⟩
  case round =>
    obtain ⟨k, hk, rfl, hO, hB⟩ := hrel
    by_cases hlt : k < n
    · have hkh : k < hs.length := by rw [unhide LN]; exact hlt
      have hIk := (unhide II).below (unhide hB)
      obtain ⟨b, off, ha, hbl, x0, x1, x2⟩ := lts_cells hIk.row k hkh
      subst ha
      have OK := hide (hIk.ok k hkh)
      have DT := hide (hIk.dat k hkh)
      have hfl := hide (flat_take_le hs (k + 1))
      have FT := hide (flat_take hs k hkh)
      have bl := hide (ImD.by_len hs[k].X)
      clear hIk
      obtain ⟨x, hx⟩ : ∃ x, x = hs[k] := ⟨_, rfl⟩
      rw [← hx] at x0 x1 x2 OK DT FT bl
      clear hx
      go_wp2_with fail
      have b1 : Below wr.heap.size wr (wr.alloc (.cells #[.int .i64 x.X.id, .bool x.X.gone, .slice (some ⟨x.g, 0, none⟩) x.X.xs.length x.c] 59)) := (Below.refl _ _).alloc (Nat.le_refl _) _
      have O1 := hide (owns_below (unhide hO) b1)
      have B1 := hide ((unhide hB).trans (b1.mono (unhide hB).size))
      have D1 := hide (row_grow (unhide DT) b1)
      clear x0 x1 x2 hO hB DT b1
      generalize wr.alloc (.cells #[.int .i64 x.X.id, .bool x.X.gone, .slice (some ⟨x.g, 0, none⟩) x.X.xs.length x.c] 59) = W1 at *
      refine (imageBytes_any0 x.X.id x.X.gone x.g 0 x.c x.X.xs W1 (unhide OK).1 (unhide D1) (unhide OK).2).mono ?_
      rintro e w2 ⟨v2, rfl, hO2, hv2, hb2⟩
      obtain ⟨g2, cap2, rfl, _, _, _, _⟩ := owns_form hO2 hv2
      have hl2 := unhide bl
      obtain ⟨v3, w3, hrun, hO3, hg3, hv3⟩ := cn_app (c := cap2) (owns_below (unhide O1) hb2) (row_of_owns hO2) (by rw [imgL_length]; have h1 := unhide hfl; have h2 := unhide HL; rw [unhide FT, List.length_append, hl2] at h1; omega) (by rw [imgL_length]; omega) (Nat.le_trans (unhide B1).size hb2.size)
      have B2 := (unhide B1).trans (hb2.mono (unhide B1).size)
      have B3 := hide (B2.grown hg3 B2.size (fun q hq => ((owns_below (unhide O1) hb2).lt q hq).1))
      have O3 := hide (show Owns w3 w.heap.size v3 (flatI ((hs.take (k + 1)).map (·.X))) by rw [unhide FT]; exact hO3)
      clear hO2 hv2 hb2 hO3 hg3 O1 B1 D1 B2 OK FT bl hl2 hfl
      go_wp2_with (at_builtin; refine sc_wpApp rfl (.tmp 15) (.tmp 17) 22 rfl _ _ _ w3 rfl rfl hrun ?_)
      go_roundw
      case rel => exact ⟨k + 1, by omega, by go_num, unhide O3, unhide B3⟩
      case measure => simp [intOf]; omega
    · obtain rfl : k = n := by omega
      have O0 := unhide hO
      rw [List.take_of_length_le (by rw [unhide LN]; exact Nat.le_refl _)] at O0
      obtain ⟨ad, cd, rfl, hcd, hcd2, hrd, had⟩ := owns_slice O0
      obtain ⟨d, hd⟩ : ∃ d, d = flatI (hs.map (·.X)) := ⟨_, rfl⟩
      rw [← hd] at hcd hrd ⊢
      have hdl : d.length ≤ 2048 := by rw [hd]; exact unhide HL
      have HD := hide hd
      have HDV := hide (deviceOf_any none 0 0 none 0 0 [] [] wr ⟨rfl, fun i hi => absurd hi (by omega)⟩ ⟨rfl, fun i hi => absurd hi (Nat.not_lt_zero _)⟩ (by omega) (by unfold maxLen; omega) (by omega) (by omega) (fun i hi => absurd hi (Nat.not_lt_zero _)))
      rw [Nat.zero_mul] at HDV
      have RD := hide hrd
      have AD := hide had
      clear O0 hO hd hrd had
      go_wp2_with fail
      refine (unhide HDV).mono ?_
      rintro e w2 ⟨rfl, hD, hb⟩
      have hz0 := (unhide hB).size
      have B2 := hide ((unhide hB).trans (hb.mono hz0))
      have tl := (touch_le (at_ := 0) (n := d.length) (by omega)).1
      have HWR := hide (write_any wr.heap.size (wr.heap.size + 1 + 1) 5000 0 d.length cd ad d (devDS [] 0 []) w2 hD (by omega) rfl (by omega) (by simp [devDS, startDS]; omega) hcd hcd2 (fun w' h1 _ => (row_grow (unhide RD) (hb.trans h1))))
      clear hb hD HDV hB
      generalize wr.heap.size + 1 + 1 = dp at *
      go_wp2_with fail
      refine (unhide HWR).mono ?_
      rintro e w3 ⟨rfl, hD, hb, _⟩
      have B3 := hide ((unhide B2).trans (hb.mono hz0))
      have HD3 := hide hD
      clear hb hD HWR B2
      have HS := hide (show secBytes (wrDS (devDS [] 0 []) 0 d (touchN 0 d.length)).rc (wrDS (devDS [] 0 []) 0 d (touchN 0 d.length)).rf = padB d from by
        have hsk : secOK (devDS [] 0 []).rc (devDS [] 0 []).rf := secFn_ok (xs := []) (m := 0) rfl (by omega)
        have e0 : secBytes (devDS [] 0 []).rc (devDS [] 0 []).rf = [] := rfl
        by_cases h0 : d.length = 0
        · have : d = [] := List.eq_nil_of_length_eq_zero h0
          subst this
          rfl
        · rw [wrDS_bytes _ _ _ hsk (by omega), e0, allW_start])
      generalize wrDS (devDS [] 0 []) 0 d (touchN 0 d.length) = S3 at *
      go_wp2_with fail
      refine (sync_any wr.heap.size dp (5000 + 128) S3 w3 (unhide HD3)).mono ?_
      rintro e w4 ⟨rfl, ⟨mh, mr, v, hd4⟩, hb⟩
      have B4 := (unhide B3).trans (hb.mono hz0)
      have Z := hide (show DwRes hs w (.returned (.tuple #[.pointer (some ⟨dp, 0, none⟩), .int .i64 0])) w4 from
        ⟨dp, _, rfl, ⟨mh, mr, v, (hd4.mono (by omega)).down hz0⟩, rfl, by rw [← unhide HD]; exact unhide HS, B4⟩)
      clear hb hd4 HS HD3 B3 B4 HD RD AD
      go_wp2_with fail
      go_ret2
      exact unhide Z
/-- What both sides' Clean leave. -/
def CnRes (xs : List Int) (ws : List WD) (w : World) (e : Ending) (w' : World) : Prop :=
  ∃ L a cap, Lat ImD.id ImD.gone (laS xs ws) L ∧ e = .returned (.tuple #[fv a (padB (flatI L)).length cap none 0 0, .int .i64 (rdC xs ws)]) ∧ Mine w' w.heap.size (.slice a (padB (flatI L)).length cap) (padB (flatI L)) ∧ Below w.heap.size w w'
theorem cnRes_bad {xs : List Int} {ws : List WD} {w w' : World} (h : okD xs.length ws = false) (hb : Below w.heap.size w w') : CnRes xs ws w (.returned (.tuple #[fv none 0 0 none 0 0, .int .i64 1])) w' :=
  ⟨[], none, 0, by unfold laS; rw [h]; exact Lat.nil _ _, by unfold rdC; rw [h]; rfl, mine_nil _ _, hb⟩
/-- The boxes of Clean: the device, the result. -/
structure CnB (B : Nat) (W : World) (ah : Option Addr) (n c : Nat) (aw : Option Addr) (nw cw : Nat) : Prop where
  f0 : W.cell? ⟨B, 0, none⟩ = some (.slice ah n c)
  f1 : W.cell? ⟨B, 1, none⟩ = some (.slice aw nw cw)
  r0 : W.cell? ⟨B + 1, 0, none⟩ = some (.slice none 0 0)
  r1 : W.cell? ⟨B + 1, 1, none⟩ = some (.slice none 0 0)
  z0 : W.frozen? ⟨B + 1, 0, none⟩ = false
  z1 : W.frozen? ⟨B + 1, 1, none⟩ = false
  size : B + 2 ≤ W.heap.size
theorem CnB.start (w : World) (ah : Option Addr) (n c : Nat) (aw : Option Addr) (nw cw : Nat) :
    CnB w.heap.size ((w.alloc (.cells #[.slice ah n c, .slice aw nw cw] 28)).alloc (.cells #[.slice none 0 0, .slice none 0 0] 28)) ah n c aw nw cw :=
  ⟨(cell_old (by simp)).trans ((cell_new rfl).trans rfl), (cell_old (by simp)).trans ((cell_new rfl).trans rfl), (cell_new (by simp)).trans rfl, (cell_new (by simp)).trans rfl, frozen_new (by simp), frozen_new (by simp), by simp⟩
theorem CnB.step {B k : Nat} {W W2 : World} {ah : Option Addr} {n c : Nat} {aw : Option Addr} {nw cw : Nat} (h : CnB B W ah n c aw nw cw) (hb : Below k W W2) (hk : B + 2 ≤ k) : CnB B W2 ah n c aw nw cw :=
  have hs := h.size
  ⟨(hb.cell (p := ⟨B, 0, none⟩) (by simp; omega)).trans h.f0, (hb.cell (p := ⟨B, 1, none⟩) (by simp; omega)).trans h.f1, (hb.cell (p := ⟨B + 1, 0, none⟩) (by simp; omega)).trans h.r0, (hb.cell (p := ⟨B + 1, 1, none⟩) (by simp; omega)).trans h.r1, (hb.frozen (p := ⟨B + 1, 0, none⟩) (by simp; omega)).trans h.z0, (hb.frozen (p := ⟨B + 1, 1, none⟩) (by simp; omega)).trans h.z1, Nat.le_trans hs hb.size⟩
theorem lat_imgs {xs : List Int} {ws : List WD} {w : World} {B : Nat} {a : Option Addr} {n c : Nat} {hs : List ImH} (hk : okD xs.length ws = true) (h8 : Bytes8 (readD xs ws)) (ho : IOwn w B (.slice a n c) hs) (hr : GRow w a n (hs.map hr)) (hL : Lat ImD.id ImD.gone (laS xs ws) (hs.map (·.X))) : ImgsAt w a n hs := by
  refine ⟨hr, fun i hi => (ho.dat i hi).row, fun i hi => ?_⟩
  have hm : hs[i].X ∈ laS xs ws := lat_in hL (List.mem_map_of_mem (f := fun x : ImH => x.X) (List.getElem_mem hi))
  unfold laS at hm
  rw [if_pos hk] at hm
  exact scanI_ok _ h8 _ _ _ hm
set_option maxRecDepth 100000 in
set_option maxHeartbeats 4000000 in
theorem implClean_any (ah : Option Addr) (n c : Nat) (aw : Option Addr) (nw cw : Nat) (xs : List Int) (ws : List WD) (w : World) (hR : Row w ah n xs) (hW : WRow w aw nw ws) (hn : n ≤ 1048576) (hnw : nw ≤ 1048576) (hc : n ≤ c) (hc2 : c ≤ maxLen) (h8 : Bytes8 xs) (h8w : ∀ d ∈ ws, Bytes8 d.xs) :
    Calls Try.prog 33 #[fv ah n c aw nw cw] w fun e w' => CnRes xs ws w e w' := by
  have H8 := hide (readD_bytes ws xs h8 h8w)
  have b0 : Below w.heap.size w ((w.alloc (.cells #[.slice ah n c, .slice aw nw cw] 28)).alloc (.cells #[.slice none 0 0, .slice none 0 0] 28)) := ((Below.refl _ _).alloc (Nat.le_refl _) _).alloc (by simp) _
  have T := hide (CnB.start w ah n c aw nw cw)
  have B := hide b0
  have HL := hide (fun W (hb : Below w.heap.size w W) => implLatest_any ah n c aw nw cw xs ws W (row_grow hR hb) (hW.below hb) hn hnw hc hc2 h8 h8w)
  have hz : ((w.alloc (.cells #[.slice ah n c, .slice aw nw cw] 28)).alloc (.cells #[.slice none 0 0, .slice none 0 0] 28)).heap.size = w.heap.size + 2 := by simp
  clear hR hW b0 h8 h8w
  go_enter Try.func33, Try.ntmps33
  go_wp2_with fail
  generalize (w.alloc (.cells #[.slice ah n c, .slice aw nw cw] 28)).alloc (.cells #[.slice none 0 0, .slice none 0 0] 28) = w0 at *
  have z0 : w.heap.size + 2 ≤ w0.heap.size := by omega
  clear hz
  refine (unhide HL w0 (unhide B)).mono ?_
  rintro e w1 ⟨v, hs, rfl, hO, hLt, hb, hl⟩
  obtain ⟨a1, c1, rfl, hc1, hr1⟩ := im_cap hO
  replace T := hide ((unhide T).step hb z0)
  replace B := hide ((unhide B).trans (hb.mono (by omega)))
  have z1 : w.heap.size + 2 ≤ w1.heap.size := Nat.le_trans z0 hb.size
  clear hb HL
  have r0 := (unhide T).r0
  have r1 := (unhide T).r1
  have y0 := (unhide T).z0
  have y1 := (unhide T).z1
  by_cases ho : okD xs.length ws = true
  · have hrc : rdC xs ws = 0 := by unfold rdC; rw [ho]; rfl
    have LL := hide (show Lat ImD.id ImD.gone (scanB (readD xs ws)).1 (hs.map (·.X)) by have := hLt; unfold laS at this; rw [if_pos ho] at this; exact this)
    have HLT := hide hLt
    have HRC := hide hrc
    have DW := hide (deviceWith_any a1 hs.length c1 hs w1 (lat_imgs ho (unhide H8) hO hr1 hLt) (by omega) (lat_room ho (unhide LL)))
    rw [hrc]
    clear hO hLt hr1 ho hrc
    go_wp2_with fail
    refine (unhide DW).mono ?_
    rintro e w2 ⟨p, S, rfl, hD, hw, hsb, hb⟩
    replace T := hide ((unhide T).step hb z1)
    replace B := hide ((unhide B).trans (hb.mono (by omega)))
    have z2 : w.heap.size + 2 ≤ w2.heap.size := Nat.le_trans z1 hb.size
    have hlen : S.hc * 16 = (padB (flatI (hs.map (·.X)))).length := by
      obtain ⟨mh, mr, v, hd⟩ := hD
      rw [← hsb]
      exact (secBytes_len _ hd.hok.2.1 _).symm
    have HF := hide (flash0_any w1.heap.size p 6000 S w2 hD hw)
    rw [hsb, hlen] at HF
    clear hD hw hsb hlen hb DW r0 r1 y0 y1
    generalize hzz : padB (flatI (hs.map (·.X))) = zs at *
    have HZ := hide hzz
    clear hzz
    go_wp2_with fail
    refine (unhide HF).mono ?_
    rintro e w3 ⟨g, rfl, hM, hb⟩
    replace T := hide ((unhide T).step hb z2)
    replace B := hide ((unhide B).trans (hb.mono (by omega)))
    have z3 : w.heap.size + 1 < w3.heap.size := by have := hb.size; omega
    have M3 := hide hM
    have r0 := (unhide T).r0
    have r1 := (unhide T).r1
    have y0 := (unhide T).z0
    have y1 := (unhide T).z1
    clear hb hM HF
    go_wp2_with fail
    have R1' := hide (mine_set (mine_set (unhide M3) (show w.heap.size + 1 < w2.heap.size by omega) 0 (.slice (some ⟨g, 0, none⟩) zs.length zs.length)) (show w.heap.size + 1 < w2.heap.size by omega) 1 (.slice none 0 0))
    have R2' := hide (((unhide B).setCell (p := ⟨w.heap.size + 1, 0, none⟩) (by simp) (.slice (some ⟨g, 0, none⟩) zs.length zs.length)).setCell (p := ⟨w.heap.size + 1, 1, none⟩) (by simp) (.slice none 0 0))
    refine bodyPost_ret (v := .tuple #[fv (some ⟨g, 0, none⟩) zs.length zs.length none 0 0, .int .i64 0]) (by simp [results, Try.results33, go_sem, r0, r1]) rfl ⟨_, some ⟨g, 0, none⟩, zs.length, unhide HLT, by rw [unhide HZ, unhide HRC], by rw [unhide HZ]; exact mine_mono (unhide R1') (by omega), unhide R2'⟩
  · have ho : okD xs.length ws = false := by simpa using ho
    have hrc : rdC xs ws = 1 := by unfold rdC; rw [ho]; rfl
    have HO := hide ho
    rw [hrc]
    have BAD := hide (((unhide B).setCell (p := ⟨w.heap.size + 1, 0, none⟩) (by simp) (.slice none 0 0)).setCell (p := ⟨w.heap.size + 1, 1, none⟩) (by simp) (.slice none 0 0))
    clear hO hLt hr1 ho hrc
    go_wp2_with fail
    refine bodyPost_ret (v := .tuple #[fv none 0 0 none 0 0, .int .i64 1]) (by simp [results, Try.results33, go_sem, r0, r1]) rfl (cnRes_bad (unhide HO) (unhide BAD))
end Go.Proofs.Ytobonkffbmemaaa

namespace Go.Proofs.Ytobonkffbmemaaa
open Go.RowKit Go.Maps

theorem pad_none {d : List Int} (h : d.length % 16 = 0) : padB d = d := by
  unfold padB
  have : fillN 0 d.length - d.length = 0 := by unfold fillN; split <;> omega
  rw [this]
  simp
theorem pad_more {d : List Int} (h : ¬ d.length % 16 = 0) : padB (d ++ [0]) = padB d := by
  unfold padB
  rw [List.length_append, List.append_assoc]
  congr 1
  have h1 : fillN 0 (d.length + [(0 : Int)].length) = fillN 0 d.length := by
    simp only [List.length_singleton]
    unfold fillN
    rw [if_neg (by omega), if_neg (by omega)]
    omega
  have h2 : d.length < fillN 0 d.length := by unfold fillN; rw [if_neg (by omega)]; omega
  rw [h1]
  simp only [List.length_singleton]
  rw [show fillN 0 d.length - d.length = (fillN 0 d.length - (d.length + 1)) + 1 by omega, List.replicate_succ]
  rfl
theorem pad_room (d : List Int) : (padB d).length ≤ d.length + 15 := by
  rw [padB_len]
  unfold fillN
  split <;> omega
def lenOfV : Value → Nat | .slice _ n _ => n | _ => 0
set_option maxRecDepth 100000 in
set_option maxHeartbeats 8000000 in
theorem specClean_any (bh oh n c : Nat) (aw : Option Addr) (nw cw : Nat) (xs : List Int) (ws : List WD) (w : World) (hR : Row w (some ⟨bh, oh, none⟩) n xs) (hW : WRow w aw nw ws) (hn : n ≤ 1048576) (hnw : nw ≤ 1048576) (h8 : Bytes8 xs) (h8w : ∀ d ∈ ws, Bytes8 d.xs) :
    Calls Try.prog 32 #[fv (some ⟨bh, oh, none⟩) n c aw nw cw] w fun e w' => CnRes xs ws w e w' := by
  have hxl := hR.1
  have hwl := hW.1
  have H8 := hide (readD_bytes ws xs h8 h8w)
  have b0 : Below w.heap.size w ((w.alloc (.cells #[.slice (some ⟨bh, oh, none⟩) n c, .slice aw nw cw] 28)).alloc (.cells #[.slice none 0 0, .slice none 0 0] 28)) := ((Below.refl _ _).alloc (Nat.le_refl _) _).alloc (by simp) _
  have T := hide (CnB.start w (some ⟨bh, oh, none⟩) n c aw nw cw)
  have B := hide b0
  have HR := hide hR
  have HW := hide hW
  have hz : ((w.alloc (.cells #[.slice (some ⟨bh, oh, none⟩) n c, .slice aw nw cw] 28)).alloc (.cells #[.slice none 0 0, .slice none 0 0] 28)).heap.size = w.heap.size + 2 := by simp
  clear hR hW b0 h8 h8w
  go_enter Try.func32, Try.ntmps32
  go_wp2_with fail
  generalize (w.alloc (.cells #[.slice (some ⟨bh, oh, none⟩) n c, .slice aw nw cw] 28)).alloc (.cells #[.slice none 0 0, .slice none 0 0] 28) = w0 at *
  have z0 : w.heap.size + 2 ≤ w0.heap.size := by omega
  clear hz
  refine (specFlashOK_any (some ⟨bh, oh, none⟩) n c aw nw cw ws w0 (by unfold maxLen; omega) (by unfold maxLen; omega) ((unhide HW).below (unhide B))).mono ?_
  rintro e w1 ⟨rfl, hb⟩
  replace T := hide ((unhide T).step hb z0)
  replace B := hide ((unhide B).trans (hb.mono (by omega)))
  have z1 : w.heap.size + 2 ≤ w1.heap.size := Nat.le_trans z0 hb.size
  clear hb
  by_cases ho : okD n ws = true
  · rw [ho]
    obtain ⟨k1, k2, k3, k4⟩ := okD_parts ho
    have HO := hide (show okD xs.length ws = true by rw [hxl]; exact ho)
    have FW := hide (scan_few (unhide HO))
    have HP := hide (fun c => l02Read_any bh oh n c aw nw cw xs ws w1 (row_grow (unhide HR) (unhide B)) ((unhide HW).below (unhide B)) k2 k1 (by omega) k4)
    clear k1 k2 k3 k4 ho
    have f0 := (unhide T).f0
    have f1 := (unhide T).f1
    go_wp2_with fail
    clear f0 f1
    refine (unhide HP _).mono ?_
    rintro e w2 ⟨g, cap, rfl, hO, hb⟩
    have M3 := hide (mine_row8 (mine_of_owns hO))
    replace T := hide ((unhide T).step hb z1)
    replace B := hide ((unhide B).trans (hb.mono (by omega)))
    have z2 : w.heap.size + 2 ≤ w2.heap.size := Nat.le_trans z1 hb.size
    clear hO hb HP
    go_wp2_with fail
    refine (l03Scan_any _ (readD xs ws).length cap (readD xs ws) w2 (unhide M3).1 (unhide H8) (by have := (unhide FW).1; omega) (unhide M3).2.2.1 (unhide M3).2.2.2).mono ?_
    rintro e w4 ⟨v, hs, rfl, hI, hX, hb⟩
    have I4 := hide (hI.down (unhide B).size)
    have X4 := hide hX
    replace T := hide ((unhide T).step hb z2)
    replace B := hide ((unhide B).trans (hb.mono (by omega)))
    have z4 : w.heap.size + 2 ≤ w4.heap.size := Nat.le_trans z2 hb.size
    obtain ⟨a5, c5, rfl, hc5, hr5⟩ := im_cap hI
    have hl5 : hs.length ≤ 2048 := by have := (unhide FW).2; rw [← unhide X4, List.length_map] at this; exact this
    have R5 := hide hr5
    clear hI hX hb M3 hr5
    go_wp2_with fail
    refine (l03Latest_any a5 hs.length c5 hs w4 (unhide R5) (by omega)).mono ?_
    rintro e w5 ⟨g5, n5, c6, R, rfl, hG, hLt, hb, hle⟩
    obtain ⟨v', hs', e', hI5, hL5, _, hl5'⟩ := laRes_some (unhide HO) (unhide I4) (unhide X4) (unhide B) hb hG.gowns hLt (by omega)
    have ev : v' = .slice (some ⟨g5, 0, none⟩) n5 c6 := by
      injection e' with e'
      injection e' with e'
      simp at e'
      exact e'.1.symm
    subst ev
    obtain ⟨a7, c7, ev, hc7, hr7⟩ := im_cap hI5
    injection ev with ev1 ev2 ev3
    subst ev1 ev2 ev3
    have II := hide (lat_imgs (unhide HO) (unhide H8) hI5 hr7 hL5)
    have LT := hide hL5
    have RM := hide (lat_room (L := hs'.map (·.X)) (unhide HO) (by have := hL5; unfold laS at this; rw [if_pos (unhide HO)] at this; exact this))
    replace T := hide ((unhide T).step hb z4)
    replace B := hide ((unhide B).trans (hb.mono (by omega)))
    have z5 : w.heap.size + 2 ≤ w5.heap.size := Nat.le_trans z4 hb.size
    clear hG hLt hb hle I4 X4 R5 e' hI5 hL5 hr7 hc7 H8 FW
    go_wp2_with fail
    have b6 : Below w5.heap.size w5 (w5.alloc (.cells #[] 5)) := (Below.refl _ _).alloc (Nat.le_refl _) _
    have O6 := hide (show Owns (w5.alloc (.cells #[] 5)) w5.heap.size (.slice (some ⟨w5.heap.size, 0, none⟩) 0 0) [] from World.ownsRow_lit _ _ _ (Nat.le_refl _) (by unfold maxLen; simp) rfl)
    have B6 := hide b6
    clear b6
    go_loopw [7, 8] (fun v i wr => ∃ (k gv cv : Nat) (ys : List Int), k ≤ hs'.length ∧ i = .int .i64 (k : Int) ∧ v = .slice (some ⟨gv, 0, none⟩) ys.length cv ∧ Hid (ys = flatI ((hs'.take k).map (·.X))) ∧ Hid (Owns wr w5.heap.size (.slice (some ⟨gv, 0, none⟩) ys.length cv) ys) ∧ Hid (Below w5.heap.size w5 wr)) (fun _ i _ => hs'.length - (intOf i).toNat)
    case atStart => exact ⟨0, w5.heap.size, 0, [], Nat.zero_le _, rfl, rfl, rfl, unhide O6, unhide B6⟩
    case round =>
      clear O6 B6
      obtain ⟨k, gv, cv, ys, hk, rfl, rfl, hY, hO, hB⟩ := hrel
      by_cases hlt : k < hs'.length
      · have hIk := (unhide II).below (unhide hB)
        obtain ⟨b, off, ha, hbl, x0, x1, x2⟩ := lts_cells hIk.row k hlt
        injection ha with ha
        injection ha with ha1 ha2
        subst ha1 ha2
        have OK := hide (hIk.ok k hlt)
        have DT := hide (hIk.dat k hlt)
        have hfl := hide (flat_take_le hs' (k + 1))
        have FT := hide (flat_take hs' k hlt)
        have bl := hide (ImD.by_len hs'[k].X)
        clear hIk
        obtain ⟨x, hx⟩ : ∃ x, x = hs'[k] := ⟨_, rfl⟩
        rw [← hx] at x0 x1 x2 OK DT FT bl
        clear hx
        rw [Nat.zero_add] at x0 x1 x2
        go_wp2_with fail
        clear x0 x1 x2
        refine (l03Bytes_any0 x.X.id x.X.gone x.g 0 x.c x.X.xs wr (unhide OK).1 (unhide DT) (unhide OK).2).mono ?_
        rintro e w6 ⟨v2, rfl, hO2, hv2, hb2⟩
        obtain ⟨g2, cap2, rfl, _, _, _, _⟩ := owns_form hO2 hv2
        have hl2 := unhide bl
        have hys : ys.length + (x.X.xs.length + 9) ≤ 2048 := by
          have h1 := unhide hfl
          have h2 := unhide RM
          rw [unhide FT, ← unhide hY, List.length_append, hl2] at h1
          omega
        obtain ⟨v3, w7, hrun, hO3, hg3, hv3⟩ := cn_app (c := cap2) (owns_below (unhide hO) hb2) (row_of_owns hO2) (by rw [imgL_length]; omega) (by rw [imgL_length]; omega) (Nat.le_trans (unhide hB).size hb2.size)
        have B2 := (unhide hB).trans (hb2.mono (unhide hB).size)
        have B3 := hide (B2.grown hg3 B2.size (fun q hq => ((owns_below (unhide hO) hb2).lt q hq).1))
        have HY := hide (show ys ++ imgL x.X.id x.X.gone x.X.xs = flatI ((hs'.take (k + 1)).map (·.X)) by rw [unhide FT, ← unhide hY]; rfl)
        obtain ⟨gn, cn, rfl, _, _, _, _⟩ := owns_form hO3 hv3
        have O3 := hide hO3
        generalize ys ++ imgL x.X.id x.X.gone x.X.xs = zs at *
        clear hO2 hv2 hb2 hO3 hg3 hO hB B2 OK FT bl hl2 hfl hY hv3 DT hys
        go_wp2_with (at_builtin; refine sc_wpApp rfl (.tmp 28) (.tmp 33) 22 rfl _ _ _ w7 rfl rfl hrun ?_)
        go_roundw
        case rel => exact ⟨k + 1, gn, cn, zs, by omega, by go_num, rfl, unhide HY, unhide O3, unhide B3⟩
        case measure => simp [intOf]; omega
      · obtain rfl : k = hs'.length := by omega
        have HY := hide (show ys = flatI (hs'.map (·.X)) by have := unhide hY; rw [List.take_of_length_le (Nat.le_refl _)] at this; exact this)
        clear hY
        go_wp2_with fail
        go_loopw [7] (fun v wq => ∃ (gv cv : Nat) (zs : List Int), v = .slice (some ⟨gv, 0, none⟩) zs.length cv ∧ zs.length ≤ 2063 ∧ Hid (padB zs = padB (flatI (hs'.map (·.X)))) ∧ Hid (Owns wq w5.heap.size (.slice (some ⟨gv, 0, none⟩) zs.length cv) zs) ∧ Hid (Below w5.heap.size w5 wq)) (fun v _ => 4096 - lenOfV v)
        case atStart => exact ⟨gv, cv, ys, rfl, by have := unhide RM; rw [← unhide HY] at this; omega, by show padB ys = _; rw [unhide HY], unhide hO, unhide hB⟩
        case round =>
          clear hO hB HY
          obtain ⟨gv, cv, zs, rfl, hzl, hP, hO, hB⟩ := hrel
          have hrem : Int.tmod (zs.length : Int) 16 = ((zs.length % 16 : Nat) : Int) := by rw [Int.tmod_eq_emod_of_nonneg (by omega)]; omega
          by_cases hm : zs.length % 16 = 0
          · have hb : (((zs.length % 16 : Nat) : Int) != 0) = false := by rw [hm]; rfl
            have HPZ := hide (show zs = padB (flatI (hs'.map (·.X))) by rw [← unhide hP, pad_none hm])
            have T8 := (unhide T).step (unhide hB) z5
            have r0 := T8.r0
            have r1 := T8.r1
            have y0 := T8.z0
            have y1 := T8.z1
            have B8 := hide ((unhide B).trans ((unhide hB).mono (by omega)))
            have M8 := hide (mine_of_owns (unhide hO))
            have zq : w.heap.size + 1 < wr.heap.size := by have := (unhide hB).size; omega
            clear T8 hP hO hB hm
            go_wp2_with fail
            have R1' := hide (mine_set (mine_set (unhide M8) (show w.heap.size + 1 < w5.heap.size by omega) 0 (.slice (some ⟨gv, 0, none⟩) zs.length cv)) (show w.heap.size + 1 < w5.heap.size by omega) 1 (.slice none 0 0))
            have R2' := hide (((unhide B8).setCell (p := ⟨w.heap.size + 1, 0, none⟩) (by simp) (.slice (some ⟨gv, 0, none⟩) zs.length cv)).setCell (p := ⟨w.heap.size + 1, 1, none⟩) (by simp) (.slice none 0 0))
            have HRC := hide (show rdC xs ws = 0 by unfold rdC; rw [unhide HO]; rfl)
            refine bodyPost_ret (v := .tuple #[fv (some ⟨gv, 0, none⟩) zs.length cv none 0 0, .int .i64 0]) (by simp [results, Try.results32, go_sem, r0, r1]) rfl ⟨_, some ⟨gv, 0, none⟩, cv, unhide LT, by rw [← unhide HPZ, unhide HRC], by rw [← unhide HPZ]; exact mine_mono (unhide R1') (by omega), unhide R2'⟩
          · have hb : (((zs.length % 16 : Nat) : Int) != 0) = true := by simp; omega
            have hzl2 : zs.length ≤ 2062 := by
              have h1 := pad_room (flatI (hs'.map (·.X)))
              have h2 := unhide RM
              have h3 := congrArg List.length (unhide hP)
              rw [padB_len zs] at h3
              have h4 : zs.length < fillN 0 zs.length := by unfold fillN; rw [if_neg (by omega)]; omega
              omega
            have b9 : Below wr.heap.size wr (wr.alloc (.cells #[.int .u8 0] 5)) := (Below.refl _ _).alloc (Nat.le_refl _) _
            have hr9 : Row (wr.alloc (.cells #[.int .u8 0] 5)) (some ⟨wr.heap.size, 0, none⟩) 1 [0] := by
              refine ⟨rfl, fun i hi => ⟨_, 0, rfl, ?_⟩⟩
              obtain rfl : i = 0 := by omega
              exact (cell_new rfl).trans rfl
            obtain ⟨v3, w7, hrun, hO3, hg3, hv3⟩ := cn_app (c := 1) (owns_below (unhide hO) b9) hr9 (by omega) (by omega) (Nat.le_trans (unhide hB).size b9.size)
            have B2 := (unhide hB).trans (b9.mono (unhide hB).size)
            have B3 := hide (B2.grown hg3 B2.size (fun q hq => ((owns_below (unhide hO) b9).lt q hq).1))
            have HP := hide (show padB (zs ++ [0]) = padB (flatI (hs'.map (·.X))) by rw [pad_more hm]; exact unhide hP)
            obtain ⟨gn, cn, rfl, _, _, _, _⟩ := owns_form hO3 hv3
            have O3 := hide hO3
            have hln : (zs ++ [(0 : Int)]).length = zs.length + 1 := by simp
            have hz9 : (zs ++ [(0 : Int)]).length ≤ 2063 := by omega
            have hz8 : zs.length < (zs ++ [(0 : Int)]).length := by omega
            clear hln hO3 hg3 hO hB B2 hv3 b9 hP hr9
            generalize zs ++ [(0 : Int)] = us at *
            go_wp2_with (at_builtin; refine sc_wpApp rfl (.tmp 39) (.tmp 40) 22 rfl _ _ _ w7 rfl rfl hrun ?_)
            go_roundw
            case rel => exact ⟨gn, cn, us, rfl, hz9, unhide HP, unhide O3, unhide B3⟩
            case measure => simp [lenOfV]; omega
  · have ho : okD n ws = false := by simpa using ho
    rw [ho]
    have HO := hide (show okD xs.length ws = false by rw [hxl]; exact ho)
    have r0 := (unhide T).r0
    have r1 := (unhide T).r1
    have y0 := (unhide T).z0
    have y1 := (unhide T).z1
    have BAD := hide (((unhide B).setCell (p := ⟨w.heap.size + 1, 0, none⟩) (by simp) (.slice none 0 0)).setCell (p := ⟨w.heap.size + 1, 1, none⟩) (by simp) (.slice none 0 0))
    clear ho
    go_wp2_with fail
    refine bodyPost_ret (v := .tuple #[fv none 0 0 none 0 0, .int .i64 1]) (by simp [results, Try.results32, go_sem, r0, r1]) rfl (cnRes_bad (unhide HO) (unhide BAD))
end Go.Proofs.Ytobonkffbmemaaa

namespace Go.Proofs.Ytobonkffbmemaaa
open Go.RowKit

/-- The first k of xs, then noughts. -/
def upTo (xs : List Int) (n k : Nat) : List Int := xs.take k ++ List.replicate (n - k) 0
theorem upTo_zero (xs : List Int) (n : Nat) : (upTo xs n 0).map (Value.int .u8) = List.replicate n (Value.int .u8 0) := by simp [upTo]
theorem upTo_at {xs : List Int} {n k : Nat} (hl : xs.length = n) (hk : k < n) : (upTo xs n k)[k]? = some 0 := by
  have h1 : (xs.take k).length = k := by simp; omega
  simp only [upTo]
  rw [List.getElem?_append_right (show (xs.take k).length ≤ k by omega), h1, Nat.sub_self]
  have h2 : n - k = (n - (k + 1)) + 1 := by omega
  rw [h2, List.replicate_succ]; rfl
theorem upTo_set {xs : List Int} {n k : Nat} {x : Int} (hl : xs.length = n) (hk : k < n) (hx : x = xs.getD k 0) : ((upTo xs n k).map (Value.int .u8)).set k (.int .u8 x) = (upTo xs n (k + 1)).map (Value.int .u8) := by
  have h1 : (xs.take k).length = k := by simp; omega
  have h2 : n - k = (n - (k + 1)) + 1 := by omega
  rw [← List.map_set]
  congr 1
  simp only [upTo]
  rw [List.set_append_right _ _ (show (xs.take k).length ≤ k by omega), h1, Nat.sub_self, h2, List.replicate_succ, List.set_cons_zero, List.take_succ_eq_append_getElem (by omega), List.append_assoc]
  simp [hx, List.getD, hl, hk]
theorem upTo_all {xs : List Int} {n : Nat} (hl : xs.length = n) : upTo xs n n = xs := by simp [upTo, ← hl]
set_option maxHeartbeats 400000 in
theorem toByteS_at (a : Option Addr) (n c : Nat) (xs : List Int) (w : World) (hn : n ≤ 1048576) (h1 : Row w a n xs) :
    Calls Try.prog 63 #[.slice a n c] w fun e w' => e = .returned (.slice (some ⟨w.heap.size, 0, none⟩) n n) ∧ Mine w' w.heap.size (.slice (some ⟨w.heap.size, 0, none⟩) n n) xs ∧ Below w.heap.size w w' := by
  obtain ⟨i0, hi, hz0, hz1, hz2⟩ := info_parts Try.infoU8
  have L1 := hide h1.1
  have H1 := hide h1.2
  clear h1
  go_enter Try.func63, Try.ntmps63
  go_wp2_with (at_make; refine wpList_make_full _ rfl _ _ 22 rfl w.heap.size 5 i0 (.int .u8 0) 1 Try.underlying22 hi hz0 hz1 _ _ _ _ n rfl rfl rfl rfl (by rw [hz2]; omega) (by unfold maxLen; omega) (Nat.le_refl _) ?_)
  intro w1 hown hgrow
  rw [toList_madeCells_one] at hown
  have hbel : Below w.heap.size w w1 := (Below.refl _ _).grown hgrow (Nat.le_refl _) (fun k hk => by cases hk)
  have hown1 : w1.ownsRow w.heap.size 5 1 (.slice (some ⟨w.heap.size, 0, none⟩) n n) n ((upTo xs n 0).map (Value.int .u8)) := by
    rw [upTo_zero]; exact hown
  clear hown hgrow
  go_wp2_with fail
  go_loopw [4] (fun i wr => ∃ k : Nat, k ≤ n ∧ i = .int .i64 k ∧ wr.ownsRow w.heap.size 5 1 (.slice (some ⟨w.heap.size, 0, none⟩) n n) n ((upTo xs n k).map (Value.int .u8)) ∧ Below w.heap.size w wr) (fun i _ => n - (intOf i).toNat)
  case atStart => exact ⟨0, Nat.zero_le _, rfl, hown1, hbel⟩
  case round =>
    clear hown1 hbel
    obtain ⟨k, hk, rfl, ho, hb⟩ := hrel
    by_cases hlt : k < n
    · obtain ⟨b, off, rfl, e1⟩ := unhide H1 k hlt
      have e2 := (hb.cell (p := ⟨b, off + k, none⟩) (cell_lt e1)).trans e1
      have e3 := ho.cellAt k (by omega)
      have e4 := ho.frozenAt k
      obtain ⟨x, hx⟩ : ∃ x, x = xs.getD k 0 := ⟨_, rfl⟩
      rw [← hx] at e2
      rw [List.getElem?_map, upTo_at (unhide L1) hlt] at e3
      have R := hide (ho.stored k (.int .u8 x)).1
      rw [upTo_set (unhide L1) hlt hx] at R
      have R2 := hide (hb.setCell (p := ⟨w.heap.size, k, none⟩) (Nat.le_refl _) (.int .u8 x))
      clear e1 hx ho hb
      go_wp2_with fail
      go_roundw
      case rel => exact ⟨k + 1, by omega, by go_num, unhide R, unhide R2⟩
      case measure => simp [intOf]; omega
    · obtain rfl : k = n := by omega
      rw [upTo_all (unhide L1)] at ho
      have hl := unhide L1
      subst hl
      have M := hide (mine_of_owns ho)
      clear ho
      go_wp2_with fail
      go_ret
      exact ⟨rfl, unhide M, hb⟩
theorem toByteS_any (a : Option Addr) (n c : Nat) (xs : List Int) (w : World) (hn : n ≤ 1048576) (h1 : Row w a n xs) :
    Calls Try.prog 63 #[.slice a n c] w fun e w' => ∃ v, e = .returned v ∧ Mine w' w.heap.size v xs ∧ Below w.heap.size w w' :=
  (toByteS_at a n c xs w hn h1).mono fun _ _ ⟨h1, h2, h3⟩ => ⟨_, h1, h2, h3⟩
end Go.Proofs.Ytobonkffbmemaaa

namespace Go.Proofs.Ytobonkffbmemaaa
open Go.RowKit

theorem szByteS_any (a : Option Addr) (n c : Nat) (left : Int) (w : World) (h0 : 0 ≤ left) (h1 : left ≤ 1048576) (hn : n ≤ maxLen) :
    Calls Try.prog 54 #[.slice a n c, .int .i64 left] w fun e w' => ∃ r : Int, e = .returned (.int .i64 r) ∧ (r = -1 ∨ (0 ≤ r ∧ r ≤ left ∧ (n : Int) ≤ left)) ∧ w' = w := by
  unfold maxLen at hn
  by_cases h : left - n < 0
  · go_enter Try.func54, Try.ntmps54
    go_wp2_with fail
    go_ret
    exact ⟨_, rfl, .inl rfl, rfl⟩
  · have hge : 0 ≤ left - n := by omega
    go_enter Try.func54, Try.ntmps54
    go_wp2_with fail
    go_ret
    exact ⟨_, rfl, .inr ⟨hge, by omega, by omega⟩, rfl⟩

theorem szWrite_any (x : Int) (a : Option Addr) (n c : Nat) (left : Int) (w : World) (h0 : 0 ≤ left) (h1 : left ≤ 1048576) (hn : n ≤ maxLen) :
    Calls Try.prog 91 #[wv x a n c, .int .i64 left] w fun e w' => ∃ r : Int, e = .returned (.int .i64 r) ∧ (r = -1 ∨ (0 ≤ r ∧ r ≤ left ∧ (n : Int) ≤ left)) ∧ Below w.heap.size w w' := by
  go_enter Try.func91, Try.ntmps91
  go_wp2_with fail
  refine (szByteS_any a n c left _ h0 h1 hn).mono ?_
  rintro e w1 ⟨r, rfl, hr, rfl⟩
  rcases hr with rfl | ⟨r0, r1, r2⟩
  · go_wp2_with fail
    go_ret
    exact ⟨-1, rfl, .inl rfl, (Below.refl _ _).alloc (Nat.le_refl _) _⟩
  · go_wp2_with fail
    go_ret
    exact ⟨r, rfl, .inr ⟨r0, r1, r2⟩, (Below.refl _ _).alloc (Nat.le_refl _) _⟩

set_option maxHeartbeats 1000000 in
theorem szWriteS_any (a : Option Addr) (n c : Nat) (ws : List WD) (left : Int) (w : World) (h0 : 0 ≤ left) (h1 : left ≤ 1048576) (hr : WRow w a n ws) (hn : n ≤ maxLen) :
    Calls Try.prog 55 #[.slice a n c, .int .i64 left] w fun e w' => ∃ r : Int, e = .returned (.int .i64 r) ∧ (r = -1 ∨ (0 ≤ r ∧ r ≤ left ∧ (n : Int) ≤ left ∧ ∀ i (hi : i < ws.length), (ws[i].xs.length : Int) ≤ left)) ∧ Below w.heap.size w w' := by
  unfold maxLen at hn
  have L := hide hr.1
  have R := hide hr.2
  clear hr
  by_cases hb : left - n < 0
  · go_enter Try.func55, Try.ntmps55
    go_wp2_with fail
    go_ret
    exact ⟨-1, rfl, .inl rfl, Below.refl _ _⟩
  have hb' : 0 ≤ left - n := by omega
  go_enter Try.func55, Try.ntmps55
  go_wp2_with fail
  go_loopw [1, 5] (fun l i wr => ∃ k : Nat, k ≤ n ∧ i = .int .i64 k ∧ ∃ q : Int, l = .int .i64 q ∧ 0 ≤ q ∧ q ≤ left - n ∧ Hid (∀ i (hi : i < ws.length), i < k → (ws[i].xs.length : Int) ≤ left) ∧ Below w.heap.size w wr) (fun _ i _ => n - (intOf i).toNat)
  case atStart => exact ⟨0, by omega, rfl, _, rfl, by omega, by omega, fun i _ hi => absurd hi (Nat.not_lt_zero _), Below.refl _ _⟩
  case round =>
    obtain ⟨k, hk, rfl, q, rfl, hq0, hq1, hA, hbel⟩ := hrel
    by_cases hlt : k < n
    · have hk2 : k < ws.length := by rw [unhide L]; exact hlt
      obtain ⟨b, off, rfl, c0, a', c', c1, hm, _⟩ := unhide R k hk2
      have hsz := hbel.size
      have hbl : b < w.heap.size := cell_lt c0
      have d0 := (hbel.cell (p := ⟨b, off + k * 2, none⟩) hbl).trans c0
      have d1 := (hbel.cell (p := ⟨b, off + k * 2 + 1, none⟩) hbl).trans c1
      have hS := hide (fun (hx : (ws[k].xs.length : Int) ≤ left) i (hi : i < ws.length) (h : i < k + 1) => show (ws[i].xs.length : Int) ≤ left from if e : i = k then by subst e; exact hx else unhide hA i hi (by omega))
      clear c0 c1 hA
      generalize ws[k] = pd at *
      go_wp2_with fail
      refine (szWrite_any pd.at_ a' pd.xs.length c' q wr hq0 (by omega) hm.1).mono ?_
      rintro e w1 ⟨r, rfl, hr, hb1⟩
      have bA := hbel.trans (hb1.mono hsz)
      clear hbel hb1 d0 d1
      rcases hr with rfl | ⟨r0, r1, r2⟩
      · go_wp2_with fail
        go_ret
        exact ⟨-1, rfl, .inl rfl, bA⟩
      · have hS2 := hide (unhide hS (by omega))
        clear hS
        go_wp2_with fail
        go_roundw
        case rel => exact ⟨k + 1, by omega, by go_num, r, rfl, r0, by omega, unhide hS2, bA⟩
        case measure => simp [intOf]; omega
    · obtain rfl : k = n := by omega
      go_wp2_with fail
      go_ret
      exact ⟨q, rfl, .inr ⟨hq0, by omega, by omega, fun i hi => unhide hA i hi (by rw [← unhide L]; exact hi)⟩, hbel⟩

theorem szFlash_any (ah : Option Addr) (nh ch : Nat) (aw : Option Addr) (nw cw : Nat) (ws : List WD) (left : Int) (w : World) (h0 : 0 ≤ left) (h1 : left ≤ 1048576) (hnh : nh ≤ maxLen) (hr : WRow w aw nw ws) (hn : nw ≤ maxLen) :
    Calls Try.prog 24 #[fv ah nh ch aw nw cw, .int .i64 left] w fun e w' => ∃ r : Int, e = .returned (.int .i64 r) ∧ (r = -1 ∨ (0 ≤ r ∧ r ≤ left ∧ (nh : Int) ≤ left ∧ (nw : Int) ≤ left ∧ ∀ i (hi : i < ws.length), (ws[i].xs.length : Int) ≤ left)) ∧ Below w.heap.size w w' := by
  have R := hide fun o => hr.below ((Below.refl _ _).alloc (Nat.le_refl _) o)
  clear hr
  go_enter Try.func24, Try.ntmps24
  go_wp2_with fail
  refine (szByteS_any ah nh ch left _ h0 h1 hnh).mono ?_
  rintro e w1 ⟨r, rfl, hr, rfl⟩
  rcases hr with rfl | ⟨r0, r1, r2⟩
  · go_wp2_with fail
    go_ret
    exact ⟨-1, rfl, .inl rfl, (Below.refl _ _).alloc (Nat.le_refl _) _⟩
  · go_wp2_with fail
    refine (szWriteS_any aw nw cw ws r _ r0 (by omega) (unhide R _) hn).mono ?_
    rintro e w2 ⟨r', rfl, hr', hb⟩
    have hb2 : Below w.heap.size w w2 := ((Below.refl _ _).alloc (Nat.le_refl _) _).trans (hb.mono (by simp))
    clear hb
    rcases hr' with rfl | ⟨q0, q1, q2, q3⟩
    · go_wp2_with fail
      go_ret
      exact ⟨-1, rfl, .inl rfl, hb2⟩
    · have Q := hide q3
      clear q3
      go_wp2_with fail
      go_ret
      exact ⟨r', rfl, .inr ⟨q0, by omega, r2, by omega, fun i hi => by have := unhide Q i hi; omega⟩, hb2⟩

set_option maxHeartbeats 1000000 in
theorem toWrite_any (d : WD) (a : Option Addr) (c : Nat) (w : World) (hn : d.xs.length ≤ 1048576) (h1 : Row w a d.xs.length d.xs) :
    Calls Try.prog 96 #[wv d.at_ a d.xs.length c] w fun e w' => ∃ a' c', e = .returned (wv d.at_ a' d.xs.length c') ∧ Mine w' w.heap.size (.slice a' d.xs.length c') d.xs ∧ Below w.heap.size w w' := by
  have R := hide fun o1 o2 o3 => row_alloc (o := o3) (row_alloc (o := o2) (row_alloc (o := o1) h1))
  clear h1
  obtain ⟨x, xs⟩ := d
  go_enter Try.func96, Try.ntmps96
  go_wp2_with fail
  refine (toByteS_any a xs.length c xs _ hn (unhide R _ _ _)).mono ?_
  clear R
  rintro e w1 ⟨v, rfl, hm, hb⟩
  obtain ⟨a', c', rfl, m1, m2, m3, m4⟩ := hm
  have hs := hb.size
  simp at hs
  have hM := hide (show Mine w1 w.heap.size (.slice a' xs.length c') xs from ⟨a', c', rfl, m1, m2, m3, fun x hx => ⟨by have := (m4 x hx).1; simp at this; omega, (m4 x hx).2⟩⟩)
  have hN := hide (show ∀ x, a' = some x → w.heap.size + 1 + 1 + 1 ≤ x.block from fun x hx => by have := (m4 x hx).1; simpa using this)
  clear m1 m2 m3 m4
  have d0 : w1.cell? ⟨w.heap.size + 1 + 1, 0, none⟩ = some (.int .i64 x) := (hb.cell (p := ⟨w.heap.size + 1 + 1, 0, none⟩) (by simp)).trans ((cell_new (by simp)).trans rfl)
  have d1 : w1.cell? ⟨w.heap.size + 1 + 1, 1, none⟩ = some (.slice none 0 0) := (hb.cell (p := ⟨w.heap.size + 1 + 1, 1, none⟩) (by simp)).trans ((cell_new (by simp)).trans rfl)
  have f1 : w1.frozen? ⟨w.heap.size + 1 + 1, 1, none⟩ = false := (hb.frozen (p := ⟨w.heap.size + 1 + 1, 1, none⟩) (by simp)).trans (frozen_new (by simp))
  have g0 : w1.cell? ⟨w.heap.size + 1, 0, none⟩ = some (.int .i64 0) := (hb.cell (p := ⟨w.heap.size + 1, 0, none⟩) (by simp)).trans ((cell_old (by simp)).trans ((cell_new (by simp)).trans rfl))
  have g1 : w1.cell? ⟨w.heap.size + 1, 1, none⟩ = some (.slice none 0 0) := (hb.cell (p := ⟨w.heap.size + 1, 1, none⟩) (by simp)).trans ((cell_old (by simp)).trans ((cell_new (by simp)).trans rfl))
  have e0 : w1.frozen? ⟨w.heap.size + 1, 0, none⟩ = false := (hb.frozen (p := ⟨w.heap.size + 1, 0, none⟩) (by simp)).trans ((frozen_old (by simp)).trans (frozen_new (by simp)))
  have e1 : w1.frozen? ⟨w.heap.size + 1, 1, none⟩ = false := (hb.frozen (p := ⟨w.heap.size + 1, 1, none⟩) (by simp)).trans ((frozen_old (by simp)).trans (frozen_new (by simp)))
  have BB := hide ((((((Below.refl w.heap.size w).alloc (Nat.le_refl _) _).alloc (by simp) _).alloc (by simp; omega) _).trans (hb.mono (by simp; omega))))
  clear hb
  go_wp2_with fail
  have B3 := hide ((((unhide BB).setCell (p := ⟨w.heap.size + 1 + 1, 1, none⟩) (by simp; omega) (.slice a' xs.length c')).setCell (p := ⟨w.heap.size + 1, 0, none⟩) (by simp) (.int .i64 x)).setCell (p := ⟨w.heap.size + 1, 1, none⟩) (by simp) (.slice a' xs.length c'))
  have hlt : w.heap.size + 1 < w1.heap.size := by omega
  refine bodyPost_ret (v := wv x a' xs.length c') (by simp [results, Try.results96, go_sem, g0, g1]) rfl ⟨a', c', rfl, ?_, unhide B3⟩
  obtain ⟨a1, c1, e, m1, m2, m3, m4⟩ := unhide hM
  injection e with e1 _ e3
  subst e1 e3
  refine ⟨a', c', rfl, m1, m2, m3.of_cells fun y hy p hp => ?_, fun y hy => ⟨(m4 y hy).1, by simpa using (m4 y hy).2.1, fun j => by simpa using (m4 y hy).2.2 j⟩⟩
  have := unhide hN y hy
  rw [World.cell?_setCell_other _ _ _ _ (by intro e; rw [← e] at hp; simp at hp; omega), World.cell?_setCell_other _ _ _ _ (by intro e; rw [← e] at hp; simp at hp; omega), World.cell?_setCell_other _ _ _ _ (by intro e; rw [← e] at hp; simp at hp; omega)]
end Go.Proofs.Ytobonkffbmemaaa

namespace Go.Proofs.Ytobonkffbmemaaa
open Go.RowKit

theorem wown_made {w : World} {base g n : Nat} (h : w.ownsRow base 119 2 (.slice (some ⟨g, 0, none⟩) n n) n (madeCells #[.int .i64 0, .slice none 0 0] (n * 2)).toList) : WOwn w g n (fun _ => ⟨0, []⟩) (fun _ => none) (fun _ => 0) := by
  have e : ∀ j, j < n * 2 → (madeCells #[.int .i64 0, .slice none 0 0] (n * 2)).toList[j]? = some ((#[.int .i64 0, .slice none 0 0] : Array Value)[j % 2]!) := fun j hj => by simp [madeCells, hj]
  refine ⟨(h.lt g rfl).2, fun j => h.frozenAt j, fun i hi => ?_, fun i hi => ?_, fun i hi => ⟨by unfold maxLen; simp, by simp⟩, fun i hi => ⟨rfl, fun j hj => absurd hj (Nat.not_lt_zero _)⟩, fun i hi x hx => (by cases hx), fun i j _ _ _ x y hx => (by cases hx)⟩
  · rw [h.cellAt _ (by omega), e _ (by omega), show i * 2 % 2 = 0 by omega]; rfl
  · rw [h.cellAt _ (by omega), e _ (by omega), show (i * 2 + 1) % 2 = 1 by omega]; rfl

set_option maxHeartbeats 2000000 in
theorem toWriteS_any (a : Option Addr) (n c : Nat) (ws : List WD) (w : World) (hn : n ≤ 1048576) (hx : ∀ i (hi : i < ws.length), ws[i].xs.length ≤ 1048576) (hr : WRow w a n ws) :
    Calls Try.prog 64 #[.slice a n c] w fun e w' => ∃ g W A C, e = .returned (.slice (some ⟨g, 0, none⟩) n n) ∧ w.heap.size ≤ g ∧ WOwn w' g n W A C ∧ (∀ i (hi : i < ws.length), W i = ws[i]) ∧ (∀ i x, A i = some x → w.heap.size ≤ x.block) ∧ Below w.heap.size w w' := by
  obtain ⟨i0, hi, hz0, hz1, hz2⟩ := info_parts Try.infoWrite
  have L := hide hr.1
  have R := hide hr.2
  have X := hide hx
  clear hr hx
  go_enter Try.func64, Try.ntmps64
  go_wp2_with (at_make; refine wpList_make_full _ rfl _ _ 26 rfl w.heap.size 119 i0 _ 2 Try.underlying26 hi hz0 hz1 _ _ _ _ n rfl rfl rfl rfl (by rw [hz2]; omega) (by unfold maxLen; omega) (Nat.le_refl _) ?_)
  intro w1 hown hgrow
  have hl0 := wown_made hown
  have hbel : Below w.heap.size w w1 := (Below.refl _ _).grown hgrow (Nat.le_refl _) (fun k hk => by cases hk)
  clear hown hgrow
  go_wp2_with fail
  go_loopw [4] (fun i wr => ∃ k : Nat, k ≤ n ∧ i = .int .i64 k ∧ (∃ W A C, Hid (WOwn wr w.heap.size n W A C) ∧ Hid (∀ i (hi : i < ws.length), i < k → W i = ws[i]) ∧ Hid (∀ i x, A i = some x → w.heap.size ≤ x.block)) ∧ Below w.heap.size w wr) (fun i _ => n - (intOf i).toNat)
  case atStart => exact ⟨0, by omega, rfl, ⟨_, _, _, hl0, fun i _ hi => absurd hi (Nat.not_lt_zero _), fun i x hx => by cases hx⟩, hbel⟩
  case round =>
    clear hl0 hbel
    obtain ⟨k, hk, rfl, ⟨W, A, C, hO, hW, hA⟩, hb⟩ := hrel
    by_cases hlt : k < n
    · have hk2 : k < ws.length := by rw [unhide L]; exact hlt
      obtain ⟨b, off, rfl, c0, a', c', c1, _, r1⟩ := unhide R k hk2
      have hX := unhide X k hk2
      have hbl : b < w.heap.size := cell_lt c0
      have d0 := (hb.cell (p := ⟨b, off + k * 2, none⟩) hbl).trans c0
      have d1 := (hb.cell (p := ⟨b, off + k * 2 + 1, none⟩) hbl).trans c1
      have r2 := hide (row_grow r1 hb)
      have hW2 := hide (fun i (hi : i < ws.length) (h : i < k + 1) => show updW W k ws[k] i = ws[i] from if e : i = k then by subst e; simp [updW] else by simp [updW, e]; exact unhide hW i hi (by omega))
      clear c0 c1 r1 hW
      generalize ws[k] = pd at *
      go_wp2_with fail
      refine (toWrite_any pd a' c' wr hX (unhide r2)).mono ?_
      rintro e w2 ⟨a2, c2, rfl, hm, hb2⟩
      have O2 := (unhide hO).below hb2
      have S := hide (O2.lay (d := pd) (a := a2) (c := c2) hlt (B := wr.heap.size) (unhide hO).lt (fun i hi x hx => ((unhide hO).own i hi x hx).2.1) hm)
      have A2 := hide (show ∀ i x, updA A k a2 i = some x → w.heap.size ≤ x.block from fun i x hx => by
        unfold updA at hx
        by_cases e : i = k
        · rw [if_pos e] at hx
          obtain ⟨a3, c3, e3, _, _, _, h4⟩ := hm
          injection e3 with e3
          have h5 := (h4 x (e3 ▸ hx)).1
          have h6 := hb.size
          omega
        · rw [if_neg e] at hx; exact unhide hA i x hx)
      have e0 := O2.at_ k hlt
      have e1 := O2.data k hlt
      have f0 := O2.free (k * 2)
      have f1 := O2.free (k * 2 + 1)
      have B2 := hide (((hb.trans (hb2.mono hb.size)).setCell (p := ⟨w.heap.size, k * 2, none⟩) (Nat.le_refl _) (.int .i64 pd.at_)).setCell (p := ⟨w.heap.size, k * 2 + 1, none⟩) (Nat.le_refl _) (.slice a2 pd.xs.length c2))
      clear O2 hb hb2 d0 d1 hO hA r2 hm
      go_wp2_with fail
      go_roundw
      case rel => exact ⟨k + 1, by omega, by go_num, ⟨_, _, _, unhide S, unhide hW2, unhide A2⟩, unhide B2⟩
      case measure => simp [intOf]; omega
    · obtain rfl : k = n := by omega
      go_wp2_with fail
      go_ret
      exact ⟨_, W, A, C, rfl, Nat.le_refl _, unhide hO, fun i hi => unhide hW i hi (by rw [← unhide L]; exact hi), unhide hA, hb⟩

/-- A device in memory of the call's own, from block 'lo' on. -/
def FMine (w : World) (lo : Nat) (ah : Option Addr) (nh ch g nw : Nat) (xs : List Int) (ws : List WD) : Prop :=
  (∃ b, ah = some ⟨b, 0, none⟩) ∧ xs.length = nh ∧ ws.length = nw ∧ Mine w lo (.slice ah nh ch) xs ∧ lo ≤ g ∧ ∃ W A C, WOwn w g nw W A C ∧ (∀ i (hi : i < ws.length), W i = ws[i]) ∧ (∀ i x, A i = some x → lo ≤ x.block) ∧ ∀ x, ah = some x → x.block ≠ g ∧ ∀ i y, A i = some y → x.block ≠ y.block
theorem mine_below {w w' : World} {B : Nat} {v : Value} {xs : List Int} (h : Mine w B v xs) (hb : Below w.heap.size w w') : Mine w' B v xs := by
  obtain ⟨a, c, e, h1, h2, h3, h4⟩ := h
  exact ⟨a, c, e, h1, h2, row_grow h3 hb, fun x hx => ⟨(h4 x hx).1, Nat.lt_of_lt_of_le (h4 x hx).2.1 hb.size, fun j => (hb.frozen (p := ⟨x.block, j, none⟩) (h4 x hx).2.1).trans ((h4 x hx).2.2 j)⟩⟩
theorem FMine.below {w w' : World} {lo : Nat} {ah : Option Addr} {nh ch g nw : Nat} {xs : List Int} {ws : List WD} (h : FMine w lo ah nh ch g nw xs ws) (hb : Below w.heap.size w w') : FMine w' lo ah nh ch g nw xs ws := by
  obtain ⟨h0, h1, h2, h3, h4, W, A, C, h5, h6, h7, h8⟩ := h
  exact ⟨h0, h1, h2, mine_below h3 hb, h4, W, A, C, h5.below hb, h6, h7, h8⟩
theorem Kept.mine {S : Nat → Prop} {w w' : World} {B : Nat} {v : Value} {xs : List Int} (hk : Kept S w w') (h : Mine w B v xs) (hS : ∀ k, B ≤ k → S k) : Mine w' B v xs := by
  obtain ⟨a, c, e, h1, h2, h3, h4⟩ := h
  exact ⟨a, c, e, h1, h2, hk.row h3 (fun x hx => hS _ (h4 x hx).1), fun x hx => ⟨(h4 x hx).1, Nat.lt_of_lt_of_le (h4 x hx).2.1 hk.1, fun j => (hk.frozen (p := ⟨x.block, j, none⟩) (hS _ (h4 x hx).1) (h4 x hx).2.1).trans ((h4 x hx).2.2 j)⟩⟩
theorem FMine.kept {S : Nat → Prop} {w w' : World} {lo : Nat} {ah : Option Addr} {nh ch g nw : Nat} {xs : List Int} {ws : List WD} (h : FMine w lo ah nh ch g nw xs ws) (hk : Kept S w w') (hS : ∀ k, lo ≤ k → S k) : FMine w' lo ah nh ch g nw xs ws := by
  obtain ⟨h0, h1, h2, h3, h4, W, A, C, h5, h6, h7, h8⟩ := h
  exact ⟨h0, h1, h2, hk.mine h3 hS, h4, W, A, C, h5.kept hk (hS _ h4) (fun i _ x hx => hS _ (h7 i x hx)), h6, h7, h8⟩
theorem FMine.mono {w : World} {lo lo' : Nat} {ah : Option Addr} {nh ch g nw : Nat} {xs : List Int} {ws : List WD} (h : FMine w lo ah nh ch g nw xs ws) (hl : lo' ≤ lo) : FMine w lo' ah nh ch g nw xs ws := by
  obtain ⟨h0, h1, h2, h3, h4, W, A, C, h5, h6, h7, h8⟩ := h
  exact ⟨h0, h1, h2, mine_mono h3 hl, Nat.le_trans hl h4, W, A, C, h5, h6, fun i x hx => Nat.le_trans hl (h7 i x hx), h8⟩
theorem FMine.row {w : World} {lo : Nat} {ah : Option Addr} {nh ch g nw : Nat} {xs : List Int} {ws : List WD} (h : FMine w lo ah nh ch g nw xs ws) : Row w ah nh xs := by
  obtain ⟨_, h1, _, ⟨a, c, e, _, _, h3, _⟩, _⟩ := h
  injection e with e1 e2
  subst e1
  rw [← h1]; exact h3
theorem FMine.wrow {w : World} {lo : Nat} {ah : Option Addr} {nh ch g nw : Nat} {xs : List Int} {ws : List WD} (h : FMine w lo ah nh ch g nw xs ws) : WRow w (some ⟨g, 0, none⟩) nw ws := by
  obtain ⟨_, _, h2, _, _, W, A, C, h5, h6, _⟩ := h
  exact h5.wrow h2 h6

set_option maxHeartbeats 1000000 in
theorem toFlash_any (ah : Option Addr) (nh ch : Nat) (aw : Option Addr) (nw cw : Nat) (xs : List Int) (ws : List WD) (w : World) (hnh : nh ≤ 1048576) (hn : nw ≤ 1048576) (hx : ∀ i (hi : i < ws.length), ws[i].xs.length ≤ 1048576) (hh : Row w ah nh xs) (hr : WRow w aw nw ws) :
    Calls Try.prog 27 #[fv ah nh ch aw nw cw] w fun e w' => ∃ ah' ch' g, e = .returned (fv ah' nh ch' (some ⟨g, 0, none⟩) nw nw) ∧ FMine w' w.heap.size ah' nh ch' g nw xs ws ∧ Below w.heap.size w w' := by
  have hb0 : ∀ o1 o2 o3, Below w.heap.size w (((w.alloc o1).alloc o2).alloc o3) := fun o1 o2 o3 => (((Below.refl w.heap.size w).alloc (Nat.le_refl _) _).alloc (by simp) _).alloc (by simp; omega) _
  have R1 := hide fun o1 o2 o3 => row_grow hh (hb0 o1 o2 o3)
  have R2 := hide hr
  have hxl := hide hh.1
  have hwl := hide hr.1
  have X := hide hx
  clear hh hr hx
  go_enter Try.func27, Try.ntmps27
  go_wp2_with fail
  refine (toByteS_at ah nh ch xs _ hnh (unhide R1 _ _ _)).mono ?_
  clear R1
  rintro e w1 ⟨rfl, hm, hb⟩
  obtain ⟨a1, c1, ea, m1, m2, m3, m4⟩ := hm
  have ha1 : ∃ b, a1 = some ⟨b, 0, none⟩ := by injection ea with e1; exact ⟨_, e1.symm⟩
  have hA1 := hide ha1
  clear ha1
  rw [ea]
  clear ea
  rw [unhide hxl] at m1 m3 ⊢
  have hs := hb.size
  simp at hs
  have M := hide (show Mine w1 (w.heap.size + 1 + 1 + 1) (.slice a1 nh c1) xs from ⟨a1, c1, by rw [unhide hxl], by rw [unhide hxl]; exact m1, m2, by rw [unhide hxl]; exact m3, fun x hx => ⟨by have := (m4 x hx).1; simpa using this, (m4 x hx).2⟩⟩)
  clear m1 m2 m3 m4
  have d1 : w1.cell? ⟨w.heap.size, 1, none⟩ = some (.slice aw nw cw) := (hb.cell (p := ⟨w.heap.size, 1, none⟩) (by simp; omega)).trans ((cell_old (by simp; omega)).trans ((cell_old (by simp)).trans ((cell_new rfl).trans rfl)))
  have o0 : w1.cell? ⟨w.heap.size + 1 + 1, 0, none⟩ = some (.slice none 0 0) := (hb.cell (p := ⟨w.heap.size + 1 + 1, 0, none⟩) (by simp)).trans ((cell_new (by simp)).trans rfl)
  have o1 : w1.cell? ⟨w.heap.size + 1 + 1, 1, none⟩ = some (.slice none 0 0) := (hb.cell (p := ⟨w.heap.size + 1 + 1, 1, none⟩) (by simp)).trans ((cell_new (by simp)).trans rfl)
  have g0 : w1.cell? ⟨w.heap.size + 1, 0, none⟩ = some (.slice none 0 0) := (hb.cell (p := ⟨w.heap.size + 1, 0, none⟩) (by simp)).trans ((cell_old (by simp)).trans ((cell_new (by simp)).trans rfl))
  have g1 : w1.cell? ⟨w.heap.size + 1, 1, none⟩ = some (.slice none 0 0) := (hb.cell (p := ⟨w.heap.size + 1, 1, none⟩) (by simp)).trans ((cell_old (by simp)).trans ((cell_new (by simp)).trans rfl))
  have fo : ∀ j, w1.frozen? ⟨w.heap.size + 1 + 1, j, none⟩ = false := fun j => (hb.frozen (p := ⟨w.heap.size + 1 + 1, j, none⟩) (by simp)).trans (frozen_new (by simp))
  have fg : ∀ j, w1.frozen? ⟨w.heap.size + 1, j, none⟩ = false := fun j => (hb.frozen (p := ⟨w.heap.size + 1, j, none⟩) (by simp)).trans ((frozen_old (by simp)).trans (frozen_new (by simp)))
  have BB := (hb0 (.cells #[.slice ah nh ch, .slice aw nw cw] 51) (.cells #[.slice none 0 0, .slice none 0 0] 28) (.cells #[.slice none 0 0, .slice none 0 0] 28)).trans (hb.mono (by simp; omega))
  clear hb hb0
  -- behind the first store
  obtain ⟨wx, hwx⟩ : ∃ wx, wx = w1.setCell ⟨w.heap.size + 1 + 1, 0, none⟩ (.slice a1 nh c1) := ⟨_, rfl⟩
  have x0 : wx.cell? ⟨w.heap.size + 1 + 1, 0, none⟩ = some (.slice a1 nh c1) := by rw [hwx]; exact World.cell?_setCell_same _ _ _ o0
  have ot : ∀ p : Addr, p ≠ ⟨w.heap.size + 1 + 1, 0, none⟩ → wx.cell? p = w1.cell? p := fun p hp => by rw [hwx]; exact World.cell?_setCell_other _ _ _ _ (fun e => hp e.symm)
  have x1 := (ot ⟨w.heap.size + 1 + 1, 1, none⟩ (by simp)).trans o1
  have y1 := (ot ⟨w.heap.size, 1, none⟩ (by simp)).trans d1
  have z0 := (ot ⟨w.heap.size + 1, 0, none⟩ (by simp)).trans g0
  have z1 := (ot ⟨w.heap.size + 1, 1, none⟩ (by simp)).trans g1
  have ff : ∀ p, wx.frozen? p = w1.frozen? p := fun p => by rw [hwx]; simp
  have BX := hide (show Below w.heap.size w wx by rw [hwx]; exact BB.setCell (p := ⟨w.heap.size + 1 + 1, 0, none⟩) (by simp; omega) _)
  have hsx : w.heap.size + 1 + 1 + 1 ≤ wx.heap.size := by rw [hwx]; simpa using hs
  have MX := hide (show Mine wx (w.heap.size + 1 + 1 + 1) (.slice a1 nh c1) xs from by
    obtain ⟨a, c, e, m1, m2, m3, m4⟩ := unhide M
    refine ⟨a, c, e, m1, m2, m3.of_cells fun y hy p hp => ot p (fun e => by have := (m4 y hy).1; rw [← hp, e] at this; simp at this; omega), fun y hy => ⟨(m4 y hy).1, by rw [hwx]; simpa using (m4 y hy).2.1, fun j => (ff _).trans ((m4 y hy).2.2 j)⟩⟩)
  have RX := hide ((unhide R2).below (unhide BX))
  have fo0 := fo 0
  clear M R2 BB ot hs g0 g1
  go_wp2_with fail
  rw [← hwx]
  clear hwx o0 o1 fo0 d1
  refine (toWriteS_any aw nw cw ws wx hn (unhide X) (unhide RX)).mono ?_
  rintro e w2 ⟨g, W, A, C, rfl, hg, hO, hW, hA, hb⟩
  have hlt1 : w.heap.size + 1 + 1 < wx.heap.size := by omega
  have p0 := (hb.cell (p := ⟨w.heap.size + 1 + 1, 0, none⟩) hlt1).trans x0
  have p1 := (hb.cell (p := ⟨w.heap.size + 1 + 1, 1, none⟩) hlt1).trans x1
  have q0 := (hb.cell (p := ⟨w.heap.size + 1, 0, none⟩) (show w.heap.size + 1 < wx.heap.size by omega)).trans z0
  have q1 := (hb.cell (p := ⟨w.heap.size + 1, 1, none⟩) (show w.heap.size + 1 < wx.heap.size by omega)).trans z1
  have f1 : w2.frozen? ⟨w.heap.size + 1 + 1, 1, none⟩ = false := (hb.frozen (p := ⟨w.heap.size + 1 + 1, 1, none⟩) hlt1).trans ((ff _).trans (fo 1))
  have k0 : w2.frozen? ⟨w.heap.size + 1, 0, none⟩ = false := (hb.frozen (p := ⟨w.heap.size + 1, 0, none⟩) (show w.heap.size + 1 < wx.heap.size by omega)).trans ((ff _).trans (fg 0))
  have k1 : w2.frozen? ⟨w.heap.size + 1, 1, none⟩ = false := (hb.frozen (p := ⟨w.heap.size + 1, 1, none⟩) (show w.heap.size + 1 < wx.heap.size by omega)).trans ((ff _).trans (fg 1))
  have F2 := hide (show FMine w2 (w.heap.size + 1 + 1 + 1) a1 nh c1 g nw xs ws from ⟨unhide hA1, unhide hxl, unhide hwl, mine_below (unhide MX) hb, by omega, W, A, C, hO, hW, fun i x hx => by have := hA i x hx; omega, fun x hx => by
    obtain ⟨a, c, e, _, _, _, m4⟩ := unhide MX
    injection e with e1
    have := (m4 x (e1 ▸ hx)).2.1
    exact ⟨by omega, fun i y hy => by have := hA i y hy; omega⟩⟩)
  have B2 := hide ((unhide BX).trans (hb.mono (by omega)))
  have hs2 : w.heap.size + 1 < w2.heap.size := by have := hb.size; omega
  clear x0 x1 z0 z1 ff MX BX RX hO hW hA hb fo fg
  go_wp2_with fail
  have B3 := hide ((((unhide B2).setCell (p := ⟨w.heap.size + 1 + 1, 1, none⟩) (by simp; omega) (.slice (some ⟨g, 0, none⟩) nw nw)).setCell (p := ⟨w.heap.size + 1, 0, none⟩) (by simp) (.slice a1 nh c1)).setCell (p := ⟨w.heap.size + 1, 1, none⟩) (by simp) (.slice (some ⟨g, 0, none⟩) nw nw))
  refine bodyPost_ret (v := fv a1 nh c1 (some ⟨g, 0, none⟩) nw nw) (by simp [results, Try.results27, go_sem, q0, q1]) rfl ⟨a1, c1, g, rfl, ?_, unhide B3⟩
  exact ((unhide F2).kept (S := fun k => w.heap.size + 1 + 1 + 1 ≤ k) (((Kept.set (by simp) _ _ _).trans (Kept.set (by simp; omega) _ _ _)).trans (Kept.set (by simp; omega) _ _ _)) (fun _ h => h)).mono (by omega)
end Go.Proofs.Ytobonkffbmemaaa

namespace Go.Proofs.Ytobonkffbmemaaa
end Go.Proofs.Ytobonkffbmemaaa

namespace Go.Proofs.Ytobonkffbmemaaa
open Go.RowKit

theorem WOwn.setAt {w : World} {g n k : Nat} {W : Nat → WD} {A : Nat → Option Addr} {C : Nat → Nat} (h : WOwn w g n W A C) (hk : k < n) (x : Int) : WOwn (w.setCell ⟨g, k * 2, none⟩ (.int .i64 x)) g n (updW W k ⟨x, (W k).xs⟩) A C := by
  have ne : ∀ p q : Nat, p ≠ q → (⟨g, p, none⟩ : Addr) ≠ ⟨g, q, none⟩ := fun p q hpq e => hpq (by injection e)
  have nb : ∀ p : Addr, p.block ≠ g → (w.setCell ⟨g, k * 2, none⟩ (.int .i64 x)).cell? p = w.cell? p := fun p hp => World.cell?_setCell_other _ _ _ _ (by intro e; rw [← e] at hp; exact hp rfl)
  have hx : ∀ i, (updW W k ⟨x, (W k).xs⟩ i).xs = (W i).xs := fun i => by
    unfold updW
    split
    · rename_i e; rw [e]
    · rfl
  refine ⟨by simpa using h.lt, fun j => by simpa using h.free j, fun i hi => ?_, fun i hi => ?_, fun i hi => ?_, fun i hi => ?_, fun i hi y hy => ⟨(h.own i hi y hy).1, by simpa using (h.own i hi y hy).2.1, fun j => by simpa using (h.own i hi y hy).2.2 j⟩, h.apart⟩
  · unfold updW
    by_cases e : i = k
    · subst e
      rw [if_pos rfl]
      exact World.cell?_setCell_same _ _ _ (h.at_ i hi)
    · rw [if_neg e, World.cell?_setCell_other _ _ _ _ (ne _ _ (by omega))]
      exact h.at_ i hi
  · rw [hx, World.cell?_setCell_other _ _ _ _ (ne _ _ (by omega))]
    exact h.data i hi
  · rw [hx]; exact h.len i hi
  · rw [hx]; exact (h.row i hi).of_cells fun y hy p hp => nb p (by rw [hp]; exact (h.own i hi y hy).1)
theorem WOwn.marked {w w' : World} {g n k : Nat} {W : Nat → WD} {A : Nat → Option Addr} {C : Nat → Nat} {ys : List Int} (h : WOwn w g n W A C) (hk : k < n) (ht : Touch (A k) w w') (hr : Row w' (A k) (W k).xs.length ys) : WOwn w' g n (updW W k ⟨(W k).at_, ys⟩) A C := by
  have hl := hr.1
  have hs := ht.size
  have kept : ∀ b, (∀ x, A k = some x → b ≠ x.block) → w'.heap[b]? = w.heap[b]? := fun b hb => by
    rcases ht with rfl | ⟨x, hx, ho⟩
    · rfl
    · exact ho.block b (hb x hx)
  have fz : ∀ a, w'.frozen? a = w.frozen? a := fun a => by
    rcases ht with rfl | ⟨x, hx, ho⟩
    · rfl
    · exact ho.frozen a
  have hg : w'.heap[g]? = w.heap[g]? := kept g (fun x hx e => (h.own k hk x hx).1 e.symm)
  have cg : ∀ j, w'.cell? ⟨g, j, none⟩ = w.cell? ⟨g, j, none⟩ := fun j => World.cell?_of_block (w := w) (a := ⟨g, j, none⟩) hg
  refine ⟨by rw [hs]; exact h.lt, fun j => (fz _).trans (h.free j), fun i hi => ?_, fun i hi => ?_, fun i hi => ?_, fun i hi => ?_, fun i hi x hx => ⟨(h.own i hi x hx).1, by rw [hs]; exact (h.own i hi x hx).2.1, fun j => (fz _).trans ((h.own i hi x hx).2.2 j)⟩, h.apart⟩
  · rw [cg]
    unfold updW
    by_cases e : i = k
    · subst e; rw [if_pos rfl]; exact h.at_ i hi
    · rw [if_neg e]; exact h.at_ i hi
  · rw [cg]
    unfold updW
    by_cases e : i = k
    · subst e; rw [if_pos rfl, hl]; exact h.data i hi
    · rw [if_neg e]; exact h.data i hi
  · unfold updW
    by_cases e : i = k
    · subst e; rw [if_pos rfl, hl]; exact h.len i hi
    · rw [if_neg e]; exact h.len i hi
  · unfold updW
    by_cases e : i = k
    · subst e; rw [if_pos rfl, hl]; exact hr
    · rw [if_neg e]
      exact (h.row i hi).of_cells fun x hx p hp => World.cell?_of_block (w := w) (kept p.block (fun y hy => by rw [hp]; exact h.apart i k hi hk e x y hx hy))
/-- The blocks of S hold what they held, and nothing else of the world has changed. -/
structure Band (S : Nat → Prop) (w w' : World) : Prop where
  os : w'.os = w.os
  tape : w'.tape = w.tape
  output : w'.output = w.output
  kept : Kept S w w'
theorem Band.refl (S : Nat → Prop) (w : World) : Band S w w := ⟨rfl, rfl, rfl, Kept.refl _ _⟩
theorem Band.trans {S : Nat → Prop} {w1 w2 w3 : World} (h : Band S w1 w2) (k : Band S w2 w3) : Band S w1 w3 := ⟨k.os.trans h.os, k.tape.trans h.tape, k.output.trans h.output, h.kept.trans k.kept⟩
theorem Band.set {S : Nat → Prop} {b : Nat} (h : ¬ S b) (w : World) (o : Nat) (v : Value) : Band S w (w.setCell ⟨b, o, none⟩ v) := ⟨rfl, rfl, rfl, Kept.set h _ _ _⟩
theorem Band.touch {S : Nat → Prop} {a : Option Addr} {w w' : World} (ht : Touch a w w') (h : ∀ x, a = some x → ¬ S x.block) : Band S w w' := by
  rcases ht with rfl | ⟨x, hx, ho⟩
  · exact Band.refl _ _
  · exact ⟨ho.os, ho.tape, ho.output, by rw [ho.size]; exact Nat.le_refl _, fun k hk _ => ho.block k (fun e => h x hx (e ▸ hk))⟩
theorem Band.grow {S : Nat → Prop} {w w' : World} (h : Below w.heap.size w w') : Band S w w' := ⟨h.os, h.tape, h.output, Kept.grow h⟩
theorem Band.below {S : Nat → Prop} {w w' : World} {B : Nat} (h : Band S w w') (hB : B ≤ w.heap.size) (hS : ∀ k, k < B → S k) : Below B w w' := ⟨h.os, h.tape, h.output, h.kept.1, fun k hk => h.kept.2 k (hS k hk) (by omega)⟩
theorem Band.mono {S T : Nat → Prop} {w w' : World} (h : Band S w w') (hS : ∀ k, T k → S k) : Band T w w' := ⟨h.os, h.tape, h.output, h.kept.mono hS⟩

set_option maxHeartbeats 2000000 in
theorem markWriteS_any (S : Nat → Prop) (g n c k0 : Nat) (W : Nat → WD) (A : Nat → Option Addr) (C : Nat → Nat) (w : World) (hn : n ≤ 1048576) (hk0 : k0 ≤ 10000000) (h : WOwn w g n W A C) (hl : ∀ i, i < n → (W i).xs.length ≤ 1048576) (hg : ¬ S g) (hA : ∀ i, i < n → ∀ x, A i = some x → ¬ S x.block) :
    Calls Try.prog 51 #[.slice (some ⟨g, 0, none⟩) n c, .int .i64 (k0 : Int)] w fun e w' => ∃ k : Nat, e = .returned (.int .i64 (k : Int)) ∧ Band S w w' ∧ k ≤ 2000000000000 := by
  have H := hide h
  have HL := hide hl
  have HA := hide hA
  clear h hl hA
  go_enter Try.func51, Try.ntmps51
  go_wp2_with fail
  go_loopw [1, 5] (fun q i wr => ∃ (k m : Nat) (V : Nat → WD), k ≤ n ∧ i = .int .i64 k ∧ q = .int .i64 (m : Int) ∧ m ≤ 10000000 + k * 1048577 ∧ Hid (WOwn wr g n V A C) ∧ Hid (∀ i, i < n → (V i).xs.length ≤ 1048576) ∧ Band S w wr) (fun _ i _ => n - (intOf i).toNat)
  case atStart => exact ⟨0, k0, W, Nat.zero_le _, rfl, rfl, by omega, unhide H, unhide HL, Band.refl _ _⟩
  case round =>
    clear H HL
    obtain ⟨k, m, V, hk, rfl, rfl, hm, hO, hL, hB⟩ := hrel
    by_cases hlt : k < n
    · have e0 := (unhide hO).at_ k hlt
      have f0 := (unhide hO).free (k * 2)
      have O1 := hide ((unhide hO).setAt hlt (m : Int))
      have B1 := hide (hB.trans (Band.set hg wr (k * 2) (.int .i64 (m : Int))))
      have hl1 : (V k).xs.length ≤ 1048576 := unhide hL k hlt
      have e1 := (unhide hO).data k hlt
      have hx : ∀ i, (updW V k ⟨(m : Int), (V k).xs⟩ i).xs = (V i).xs := fun i => by
        unfold updW
        split
        · rename_i e; rw [e]
        · rfl
      have R1 := (unhide O1).row k hlt
      have F1 := fun x hx' => ((unhide O1).own k hlt x hx').2.2
      rw [hx] at R1
      have HR := hide R1
      have HF := hide F1
      have L1 := hide (show ∀ i, i < n → (updW V k ⟨(m : Int), (V k).xs⟩ i).xs.length ≤ 1048576 from fun i hi => by rw [hx]; exact unhide hL i hi)
      clear hO hB hL R1 F1
      go_wp2_with fail
      refine (markByteS_any (A k) (V k).xs.length (C k) (V k).xs ((m : Int) + 1) _ (by omega) (by omega) (by omega) (unhide HR) (unhide HF)).mono ?_
      rintro e w2 ⟨rfl, r2, t2⟩
      have O2 := hide ((unhide O1).marked hlt t2 (by rw [hx]; exact r2))
      have B2 := hide ((unhide B1).trans (Band.touch t2 (unhide HA k hlt)))
      have hml := marks_length ((m : Int) + 1) (V k).xs.length
      have L2 := hide (show ∀ i, i < n → (updW (updW V k ⟨(m : Int), (V k).xs⟩) k ⟨(updW V k ⟨(m : Int), (V k).xs⟩ k).at_, marks ((m : Int) + 1) (V k).xs.length⟩ i).xs.length ≤ 1048576 from fun i hi => by
        by_cases e : i = k
        · simp only [updW, e, if_true]; rw [hml]; exact hl1
        · simp only [updW, e, if_false]; exact (by have := unhide L1 i hi; rw [hx] at this; exact this))
      clear O1 B1 L1 r2 t2 HR HF hx hml e0 e1 f0
      go_wp2_with fail
      go_roundw
      case rel => exact ⟨k + 1, m + 1 + (V k).xs.length, _, by omega, by go_num, by go_num, by omega, unhide O2, unhide L2, unhide B2⟩
      case measure => simp [intOf]; omega
    · obtain rfl : k = n := by omega
      go_wp2_with fail
      go_ret
      exact ⟨m, rfl, hB, by omega⟩

/-- A device in memory of the call's own, from block 'lo' on, ahead of block 'hi'. -/
def FIn (w : World) (lo hi : Nat) (ah : Option Addr) (nh ch g nw : Nat) (xs : List Int) (ws : List WD) : Prop :=
  (∃ b, ah = some ⟨b, 0, none⟩) ∧ xs.length = nh ∧ ws.length = nw ∧ Mine w lo (.slice ah nh ch) xs ∧ (∀ x, ah = some x → x.block < hi) ∧ lo ≤ g ∧ g < hi ∧ ∃ W A C, WOwn w g nw W A C ∧ (∀ i (hi : i < ws.length), W i = ws[i]) ∧ (∀ i x, A i = some x → lo ≤ x.block) ∧ (∀ i, i < nw → ∀ x, A i = some x → x.block < hi) ∧ ∀ x, ah = some x → x.block ≠ g ∧ ∀ i y, A i = some y → x.block ≠ y.block
theorem FIn.below {w w' : World} {lo hi : Nat} {ah : Option Addr} {nh ch g nw : Nat} {xs : List Int} {ws : List WD} (h : FIn w lo hi ah nh ch g nw xs ws) (hb : Below w.heap.size w w') : FIn w' lo hi ah nh ch g nw xs ws := by
  obtain ⟨h0, h1, h2, h3, h3', h4, h4', W, A, C, h5, h6, h7, h7', h8⟩ := h
  exact ⟨h0, h1, h2, mine_below h3 hb, h3', h4, h4', W, A, C, h5.below hb, h6, h7, h7', h8⟩
theorem FIn.mine {w : World} {lo hi : Nat} {ah : Option Addr} {nh ch g nw : Nat} {xs : List Int} {ws : List WD} (h : FIn w lo hi ah nh ch g nw xs ws) : FMine w lo ah nh ch g nw xs ws := by
  obtain ⟨h0, h1, h2, h3, h3', h4, h4', W, A, C, h5, h6, h7, h7', h8⟩ := h
  exact ⟨h0, h1, h2, h3, h4, W, A, C, h5, h6, h7, h8⟩
theorem FMine.fin {w : World} {lo : Nat} {ah : Option Addr} {nh ch g nw : Nat} {xs : List Int} {ws : List WD} (h : FMine w lo ah nh ch g nw xs ws) : FIn w lo w.heap.size ah nh ch g nw xs ws := by
  obtain ⟨h0, h1, h2, h3, h4, W, A, C, h5, h6, h7, h8⟩ := h
  refine ⟨h0, h1, h2, h3, fun x hx => ?_, h4, h5.lt, W, A, C, h5, h6, h7, fun i hi x hx => (h5.own i hi x hx).2.1, h8⟩
  obtain ⟨a, c, e, _, _, _, m4⟩ := h3
  injection e with e1
  exact (m4 x (e1 ▸ hx)).2.1
set_option maxRecDepth 100000 in
set_option maxHeartbeats 2000000 in
theorem markFlash_any (lo hi : Nat) (ah : Option Addr) (nh ch g nw cw : Nat) (xs : List Int) (ws : List WD) (w : World) (hnh : nh ≤ 1048576) (hn : nw ≤ 1048576) (hx : ∀ i (hi : i < ws.length), ws[i].xs.length ≤ 1048576) (h : FIn w lo hi ah nh ch g nw xs ws) (hhi : hi ≤ w.heap.size) :
    Calls Try.prog 21 #[fv ah nh ch (some ⟨g, 0, none⟩) nw cw, .int .i64 1] w fun e w' => ∃ k : Nat, e = .returned (.int .i64 (k : Int)) ∧ Band (fun b => b < lo ∨ hi ≤ b) w w' ∧ k ≤ 2000000000000 := by
  obtain ⟨_, rfl, h2, ⟨a1, c1, e1, m1, m2, m3, m4⟩, h3, h4, h4', W, A, C, h5, h6, h7, h7', h8⟩ := h
  obtain ⟨rfl, rfl⟩ : ah = a1 ∧ ch = c1 := by injection e1 with e1 _ e3; exact ⟨e1, e3⟩
  clear e1
  have hb0 : ∀ o, Below w.heap.size w (w.alloc o) := fun o => (Below.refl _ _).alloc (Nat.le_refl _) _
  have HR := hide fun o => row_grow m3 (hb0 o)
  have HF := hide fun (o : Obj) (x : Addr) (hx : ah = some x) (j : Nat) => ((hb0 o).frozen (p := ⟨x.block, j, none⟩) (m4 x hx).2.1).trans ((m4 x hx).2.2 j)
  have HO := hide h5
  have H3 := hide (fun x hx => And.intro (m4 x hx).1 (h3 x hx))
  have H7 := hide (fun i hi x hx => And.intro (h7 i x hx) (h7' i hi x hx))
  have H8 := hide h8
  have HL := hide (show ∀ i, i < nw → (W i).xs.length ≤ 1048576 from fun i hi => by rw [h6 i (by omega)]; exact hx i (by omega))
  have H0 := hide hb0
  clear m1 m2 m3 m4 h3 h5 h6 h7 h7' h8 hx h2 hb0
  have hR1 := fun o => markByteS_any ah xs.length ch xs 1 (w.alloc o) (by omega) (by omega) (by omega) (unhide HR o) (unhide HF o)
  have HC := hide hR1
  clear hR1
  go_enter Try.func21, Try.ntmps21
  go_wp2_with fail
  refine (unhide HC _).mono ?_
  rintro e w1 ⟨rfl, r1, t1⟩
  have hsz := t1.size
  simp at hsz
  have B1 := hide ((Band.grow (S := fun b => b < lo ∨ hi ≤ b) (unhide H0 (.cells #[.slice ah xs.length ch, .slice (some ⟨g, 0, none⟩) nw cw] 28))).trans (Band.touch t1 (fun x hx => by have := unhide H3 x hx; omega)))
  have hbl : ∀ b, (∀ x, ah = some x → b ≠ x.block) → b < w.heap.size → w1.heap[b]? = w.heap[b]? := fun b hb hl => by
    rw [← Below.heap_alloc w (.cells #[.slice ah xs.length ch, .slice (some ⟨g, 0, none⟩) nw cw] 28) b hl]
    rcases t1 with rfl | ⟨x, hx, ho⟩
    · rfl
    · exact ho.block b (hb x hx)
  have O1 := hide ((unhide HO).kept (S := fun b => b < w.heap.size ∧ ∀ x, ah = some x → b ≠ x.block) ⟨by omega, fun b hb hl => hbl b hb.2 hl⟩ ⟨(unhide HO).lt, fun x hx e => (unhide H8 x hx).1 e.symm⟩ (fun i hi x hx => ⟨((unhide HO).own i hi x hx).2.1, fun y hy e => (unhide H8 y hy).2 i x hx e.symm⟩))
  have p1 : w1.cell? ⟨w.heap.size, 1, none⟩ = some (.slice (some ⟨g, 0, none⟩) nw cw) := by
    rcases t1 with rfl | ⟨x, hx, ho⟩
    · exact (cell_new rfl).trans rfl
    · have := (unhide H3 x hx).2
      exact (ho.cell (p := ⟨w.heap.size, 1, none⟩) (by simp; omega)).trans ((cell_new rfl).trans rfl)
  have hcast : (1 : Int) + (xs.length : Int) = ((1 + xs.length : Nat) : Int) := by omega
  rw [hcast]
  clear HC r1 t1 HR HF hcast hbl
  go_wp2_with fail
  refine (markWriteS_any (fun b => b < lo ∨ hi ≤ b) g nw cw (1 + xs.length) W A C w1 hn (by omega) (unhide O1) (unhide HL) (by omega) (fun i hi' x hx => by have := unhide H7 i hi' x hx; omega)).mono ?_
  rintro e w2 ⟨k, rfl, hb2, hkb⟩
  have B2 := hide ((unhide B1).trans hb2)
  clear hb2 p1
  go_wp2_with fail
  go_ret
  exact ⟨k, rfl, unhide B2, hkb⟩
end Go.Proofs.Ytobonkffbmemaaa

namespace Go.Proofs.Ytobonkffbmemaaa
open Go.RowKit

theorem Try.infoBool : (Try.prog.info? 4).map (fun i => (i.zero, i.size, i.bytes)) = some (some (.bool false), 1, 1) := by kernel_rfl
def upToB (xs : List Bool) (n k : Nat) : List Bool := xs.take k ++ List.replicate (n - k) false
theorem upToB_zero (xs : List Bool) (n : Nat) : (upToB xs n 0).map Value.bool = List.replicate n (Value.bool false) := by simp [upToB]
theorem upToB_at {xs : List Bool} {n k : Nat} (hl : xs.length = n) (hk : k < n) : (upToB xs n k)[k]? = some false := by
  have h1 : (xs.take k).length = k := by simp; omega
  simp only [upToB]
  rw [List.getElem?_append_right (show (xs.take k).length ≤ k by omega), h1, Nat.sub_self]
  have h2 : n - k = (n - (k + 1)) + 1 := by omega
  rw [h2, List.replicate_succ]; rfl
theorem upToB_set {xs : List Bool} {n k : Nat} {x : Bool} (hl : xs.length = n) (hk : k < n) (hx : x = xs.getD k false) : ((upToB xs n k).map Value.bool).set k (.bool x) = (upToB xs n (k + 1)).map Value.bool := by
  have h1 : (xs.take k).length = k := by simp; omega
  have h2 : n - k = (n - (k + 1)) + 1 := by omega
  rw [← List.map_set]
  congr 1
  simp only [upToB]
  rw [List.set_append_right _ _ (show (xs.take k).length ≤ k by omega), h1, Nat.sub_self, h2, List.replicate_succ, List.set_cons_zero, List.take_succ_eq_append_getElem (by omega), List.append_assoc]
  simp [hx, List.getD, hl, hk]
theorem upToB_all {xs : List Bool} {n : Nat} (hl : xs.length = n) : upToB xs n n = xs := by simp [upToB, ← hl]
/-- A slice of bools of the call's own: one block, none of it frozen. -/
def BMine (w : World) (g n : Nat) (bs : List Bool) : Prop := BRow w (some ⟨g, 0, none⟩) n bs ∧ ∀ j, w.frozen? ⟨g, j, none⟩ = false
theorem BMine.grow {w w' : World} {g n : Nat} {bs : List Bool} (h : BMine w g n bs) (hg : g < w.heap.size) (hb : Below w.heap.size w w') : BMine w' g n bs :=
  ⟨h.1.grow hb, fun j => (hb.frozen (p := ⟨g, j, none⟩) hg).trans (h.2 j)⟩
set_option maxHeartbeats 400000 in
theorem toBoolS_any (a : Option Addr) (n c : Nat) (bs : List Bool) (w : World) (hn : n ≤ 1048576) (h1 : BRow w a n bs) :
    Calls Try.prog 88 #[.slice a n c] w fun e w' => e = .returned (.slice (some ⟨w.heap.size, 0, none⟩) n n) ∧ BMine w' w.heap.size n bs ∧ w.heap.size < w'.heap.size ∧ Below w.heap.size w w' := by
  obtain ⟨i0, hi, hz0, hz1, hz2⟩ := info_parts Try.infoBool
  have L1 := hide h1.1
  have H1 := hide h1.2
  clear h1
  go_enter Try.func88, Try.ntmps88
  go_wp2_with (at_make; refine wpList_make_full _ rfl _ _ 32 rfl w.heap.size 4 i0 (.bool false) 1 Try.underlying32 hi hz0 hz1 _ _ _ _ n rfl rfl rfl rfl (by rw [hz2]; omega) (by unfold maxLen; omega) (Nat.le_refl _) ?_)
  intro w1 hown hgrow
  rw [toList_madeCells_one] at hown
  have hbel : Below w.heap.size w w1 := (Below.refl _ _).grown hgrow (Nat.le_refl _) (fun k hk => by cases hk)
  have hown1 : w1.ownsRow w.heap.size 4 1 (.slice (some ⟨w.heap.size, 0, none⟩) n n) n ((upToB bs n 0).map Value.bool) := by
    rw [upToB_zero]; exact hown
  clear hown hgrow
  go_wp2_with fail
  go_loopw [4] (fun i wr => ∃ k : Nat, k ≤ n ∧ i = .int .i64 k ∧ wr.ownsRow w.heap.size 4 1 (.slice (some ⟨w.heap.size, 0, none⟩) n n) n ((upToB bs n k).map Value.bool) ∧ Below w.heap.size w wr) (fun i _ => n - (intOf i).toNat)
  case atStart => exact ⟨0, Nat.zero_le _, rfl, hown1, hbel⟩
  case round =>
    clear hown1 hbel
    obtain ⟨k, hk, rfl, ho, hb⟩ := hrel
    by_cases hlt : k < n
    · obtain ⟨b, off, rfl, e1⟩ := unhide H1 k hlt
      have e2 := (hb.cell (p := ⟨b, off + k, none⟩) (cell_lt e1)).trans e1
      have e3 := ho.cellAt k (by omega)
      have e4 := ho.frozenAt k
      obtain ⟨x, hx⟩ : ∃ x, x = bs.getD k false := ⟨_, rfl⟩
      rw [← hx] at e2
      rw [List.getElem?_map, upToB_at (unhide L1) hlt] at e3
      have R := hide (ho.stored k (.bool x)).1
      rw [upToB_set (unhide L1) hlt hx] at R
      have R2 := hide (hb.setCell (p := ⟨w.heap.size, k, none⟩) (Nat.le_refl _) (.bool x))
      clear e1 hx ho hb
      go_wp2_with fail
      go_roundw
      case rel => exact ⟨k + 1, by omega, by go_num, unhide R, unhide R2⟩
      case measure => simp [intOf]; omega
    · obtain rfl : k = n := by omega
      rw [upToB_all (unhide L1)] at ho
      have M := hide (show BMine wr w.heap.size k bs ∧ w.heap.size < wr.heap.size from
        ⟨⟨⟨unhide L1, fun i hi => ⟨_, 0, rfl, by
          have := ho.cellAt i (by omega)
          rw [Nat.zero_add, this, List.getElem?_map]
          simp [List.getD, unhide L1, hi]⟩⟩, fun j => ho.frozenAt j⟩, (ho.lt _ rfl).2⟩)
      clear ho
      go_wp2_with fail
      go_ret
      exact ⟨rfl, (unhide M).1, (unhide M).2, hb⟩
theorem Try.eqlb (x : Bool) (w : World) : (binOp .neq 4 (.bool x) (.bool x)).run Try.prog w = .ok (.bool false) w := by cases x <;> kernel_rfl
set_option maxHeartbeats 400000 in
theorem eqBoolS_same (a1 a2 : Option Addr) (n c1 c2 : Nat) (bs : List Bool) (w : World) (hn : n ≤ maxLen) (h1 : BRow w a1 n bs) (h2 : BRow w a2 n bs) :
    Calls Try.prog 90 #[.slice a1 n c1, .slice a2 n c2] w fun e w' => e = .returned (.bool true) ∧ Below w.heap.size w w' := by
  unfold maxLen at hn
  have H1 := hide h1.2
  have H2 := hide h2.2
  clear h1 h2
  go_enter Try.func90, Try.ntmps90
  go_wp2_with fail
  go_loopw [5] (fun i wr => ∃ k : Nat, k ≤ n ∧ i = .int .i64 k ∧ ∃ d, wr = w.drewN d) (fun i _ => n - (intOf i).toNat)
  case atStart => exact ⟨0, Nat.zero_le _, rfl, 0, rfl⟩
  case round =>
    obtain ⟨k, hk, rfl, d, rfl⟩ := hrel
    by_cases hlt : k < n
    · obtain ⟨b1, o1, rfl, e1⟩ := unhide H1 k hlt
      obtain ⟨b2, o2, rfl, e2⟩ := unhide H2 k hlt
      generalize bs.getD k false = x at *
      go_wp2_with fail
      go_quiet (fail)
      go_wp2_with fail
      go_roundw
      case rel => exact ⟨k + 1, by omega, by go_num, _, rfl⟩
      case measure => simp [intOf]; omega
    · obtain rfl : k = n := by omega
      go_wp2_with fail
      go_ret
      exact ⟨rfl, bel_drewN (Below.refl _ _) _⟩
set_option maxHeartbeats 400000 in
theorem markBoolS_any (S : Nat → Prop) (g n c k0 : Nat) (bs : List Bool) (w : World) (hn : n ≤ 1048576) (hk0 : k0 ≤ 2000000000000) (h : BMine w g n bs) (hg : ¬ S g) :
    Calls Try.prog 50 #[.slice (some ⟨g, 0, none⟩) n c, .int .i64 (k0 : Int)] w fun e w' => ∃ k : Nat, e = .returned (.int .i64 (k : Int)) ∧ Band S w w' := by
  have H1 := hide (show ∀ i, i < n → ∃ v, w.cell? ⟨g, i, none⟩ = some (.bool v) from fun i hi => by
    obtain ⟨b, off, e, hc⟩ := h.1.2 i hi
    cases e
    rw [Nat.zero_add] at hc
    exact ⟨_, hc⟩)
  have H2 := hide h.2
  clear h
  go_enter Try.func50, Try.ntmps50
  go_wp2_with fail
  go_loopw [1, 5] (fun q i wr => ∃ k : Nat, k ≤ n ∧ i = .int .i64 k ∧ q = .int .i64 ((k0 + k : Nat) : Int) ∧ Hid (∀ i, i < n → ∃ v, wr.cell? ⟨g, i, none⟩ = some (.bool v)) ∧ Hid (∀ j, wr.frozen? ⟨g, j, none⟩ = false) ∧ Band S w wr) (fun _ i _ => n - (intOf i).toNat)
  case atStart => exact ⟨0, Nat.zero_le _, rfl, rfl, unhide H1, unhide H2, Band.refl _ _⟩
  case round =>
    obtain ⟨k, hk, rfl, rfl, g1, g2, hb⟩ := hrel
    by_cases hlt : k < n
    · obtain ⟨v, e1⟩ := unhide g1 k hlt
      have e2 := unhide g2 k
      have R := hide (fun (x : Bool) => show (∀ i, i < n → ∃ v, (wr.setCell ⟨g, k, none⟩ (.bool x)).cell? ⟨g, i, none⟩ = some (.bool v)) ∧ (∀ j, (wr.setCell ⟨g, k, none⟩ (.bool x)).frozen? ⟨g, j, none⟩ = false) ∧ Band S w (wr.setCell ⟨g, k, none⟩ (.bool x)) from
        ⟨fun i hi => by
          by_cases e : i = k
          · subst e; exact ⟨x, World.cell?_setCell_same _ _ _ e1⟩
          · obtain ⟨v', h'⟩ := unhide g1 i hi
            exact ⟨v', (World.cell?_setCell_other _ _ _ _ (by intro h; simp only [Addr.mk.injEq] at h; omega)).trans h'⟩,
         fun j => by rw [World.frozen?_setCell]; exact unhide g2 j, hb.trans (Band.set hg _ _ _)⟩)
      clear g1 g2
      go_wp2_with fail
      all_goals
        go_roundw
        case rel => exact ⟨k + 1, by omega, by go_num, by go_num, (unhide R _).1, (unhide R _).2.1, (unhide R _).2.2⟩
        case measure => simp [intOf]; omega
    · obtain rfl : k = n := by omega
      go_wp2_with fail
      go_ret
      exact ⟨_, rfl, hb⟩
end Go.Proofs.Ytobonkffbmemaaa

namespace Go.Proofs.Ytobonkffbmemaaa
open Go.RowKit Go.ChangeShapes Go.WideShapes

theorem markWriteS_nil (k0 : Int) (w : World) : Calls Try.prog 51 #[.slice none 0 0, .int .i64 k0] w fun e w' => e = .returned (.int .i64 k0) ∧ w' = w := by
  go_enter Try.func51, Try.ntmps51
  go_wp2_with fail
  refine wp_loop_rounds 1 ?_
  rw [rounds_succ]
  go_wp2_with fail
  go_ret
  exact ⟨rfl, rfl⟩
theorem heldWriteS_nil (k0 : Int) (w : World) : Calls Try.prog 53 #[.slice none 0 0, .int .i64 k0] w fun e w' => e = .returned (.int .i64 k0) ∧ w' = w := by
  go_enter Try.func53, Try.ntmps53
  go_wp2_with fail
  refine wp_loop_rounds 1 ?_
  rw [rounds_succ]
  go_wp2_with fail
  go_ret
  exact ⟨rfl, rfl⟩
set_option maxHeartbeats 1000000 in
theorem markFlash0_any (S : Nat → Prop) (a : Option Addr) (n c : Nat) (k0 : Nat) (xs : List Int) (w : World) (hn : n ≤ 1048576) (hk : k0 ≤ 4000000) (h1 : Row w a n xs) (h2 : ∀ x, a = some x → x.block < w.heap.size ∧ ∀ j, w.frozen? ⟨x.block, j, none⟩ = false) (hS : ∀ x, a = some x → ¬ S x.block) :
    Calls Try.prog 21 #[fv a n c none 0 0, .int .i64 (k0 : Int)] w fun e w' => e = .returned (.int .i64 ((k0 + n : Nat) : Int)) ∧ Row w' a n (marks (k0 : Int) n) ∧ Band S w w' := by
  have hb0 : ∀ o, Below w.heap.size w (w.alloc o) := fun o => (Below.refl _ _).alloc (Nat.le_refl _) _
  have HC := hide (fun o => markByteS_any a n c xs (k0 : Int) (w.alloc o) (by omega) (by omega) (by omega) (row_grow h1 (hb0 o)) (fun x hx j => ((hb0 o).frozen (p := ⟨x.block, j, none⟩) (h2 x hx).1).trans ((h2 x hx).2 j)))
  have H0 := hide hb0
  have H2 := hide (show ∀ x, a = some x → x.block ≠ w.heap.size from fun x hx => by have := (h2 x hx).1; omega)
  clear h1 h2 hb0
  go_enter Try.func21, Try.ntmps21
  go_wp2_with fail
  refine (unhide HC _).mono ?_
  rintro e w1 ⟨rfl, r1, t1⟩
  have p1 : w1.cell? ⟨w.heap.size, 1, none⟩ = some (.slice none 0 0) := by
    rcases t1 with rfl | ⟨x, hx, ho⟩
    · exact (cell_new rfl).trans rfl
    · exact (ho.cell (p := ⟨w.heap.size, 1, none⟩) (fun e => unhide H2 x hx e.symm)).trans ((cell_new rfl).trans rfl)
  have B1 := hide ((Band.grow (S := S) (unhide H0 (.cells #[.slice a n c, .slice none 0 0] 28))).trans (Band.touch t1 hS))
  have R1 := hide r1
  have HM := hide (fun w => markWriteS_nil ((k0 : Int) + (n : Int)) w)
  clear HC H0 r1 t1
  go_wp2_with fail
  refine (unhide HM _).mono ?_
  rintro e w2 ⟨rfl, rfl⟩
  go_wp2_with fail
  go_ret
  exact ⟨ret_int (by omega), unhide R1, unhide B1⟩
set_option maxHeartbeats 1000000 in
theorem heldFlash0_any (a : Option Addr) (n c : Nat) (k0 : Nat) (w : World) (hn : n ≤ 1048576) (hk : k0 ≤ 4000000) (h1 : Row w a n (marks (k0 : Int) n)) :
    Calls Try.prog 23 #[fv a n c none 0 0, .int .i64 (k0 : Int)] w fun e w' => e = .returned (.int .i64 ((k0 + n : Nat) : Int)) ∧ Below w.heap.size w w' := by
  have hb0 : ∀ o, Below w.heap.size w (w.alloc o) := fun o => (Below.refl _ _).alloc (Nat.le_refl _) _
  have HC := hide (fun o => heldByteS_any a n c (k0 : Int) (w.alloc o) (by omega) (by omega) (by omega) (row_grow h1 (hb0 o)))
  have H0 := hide hb0
  clear h1 hb0
  go_enter Try.func23, Try.ntmps23
  go_wp2_with fail
  refine (unhide HC _).mono ?_
  rintro e w1 ⟨rfl, rfl⟩
  have HM := hide (fun w => heldWriteS_nil ((k0 : Int) + (n : Int)) w)
  clear HC
  go_wp2_with fail
  refine (unhide HM _).mono ?_
  rintro e w2 ⟨rfl, rfl⟩
  go_wp2_with fail
  go_ret
  exact ⟨ret_int (by omega), unhide H0 _⟩
/-- Flags that came in. -/
def IsBools (w : World) (a : Option Addr) (n : Nat) (bs : List Bool) : Prop := BRow w a n bs ∧ n ≤ maxLen
theorem open_bools {H : Type} {enc : TypeId × Value → H} {w : World} {base : Nat} {held : Bool} {a : Option Addr} {len cap : Nat} {fuel : Nat} {x : DataW H × List MemPlace}
    (h : DataW.trod enc Try.prog w base (fun _ => true) held fuel 32 [.slice a len cap] = some x) : ∃ bs, IsBools w a len bs := by
  rcases Deep.open_bools Try.underlying32 Try.underlying4 (by kernel_rfl) h with ⟨hcs, _⟩ | ⟨y, l, c, B, hcs, _, hl, hm, _, hcell⟩
  · simp at hcs
    obtain ⟨rfl, rfl, rfl⟩ := hcs
    exact ⟨[], ⟨rfl, fun i hi => absurd hi (Nat.not_lt_zero _)⟩, by unfold maxLen; omega⟩
  · simp at hcs
    obtain ⟨rfl, rfl, rfl⟩ := hcs
    refine ⟨(List.range len).map B, ⟨by simp, fun i hi => ?_⟩, by omega⟩
    obtain ⟨b, off, spot⟩ := y
    have hs : spot = none := by simpa [Addr.add] using World.cell?_spot (hcell 0 (by omega))
    subst hs
    have e : (⟨b, off, none⟩ : Addr).add i = ⟨b, off + i, none⟩ := by unfold Addr.add; split <;> simp_all
    have := hcell i (by omega)
    rw [e] at this
    exact ⟨b, off, rfl, by rw [this]; simp [List.getD, hi]⟩
end Go.Proofs.Ytobonkffbmemaaa

namespace Go.Proofs.Ytobonkffbmemaaa
open Go.RowKit

theorem eqBytes_same (a1 a2 : Option Addr) (n c1 c2 : Nat) (xs : List Int) (w : World) (hn : n ≤ maxLen) (h1 : Row w a1 n xs) (h2 : Row w a2 n xs) :
    Calls Try.prog 46 #[.slice a1 n c1, .slice a2 n c2] w fun e w' => e = .returned (.bool true) ∧ Below w.heap.size w w' := by
  refine (eqByteS_any a1 a2 n n c1 c2 xs xs w hn hn h1 h2).mono ?_
  rintro e w' ⟨rfl, k, rfl⟩
  exact ⟨ret_bool (by simp), bel_drewN (Below.refl _ _) _⟩
set_option maxHeartbeats 1000000 in
theorem eqWrite_any (x : Int) (a1 a2 : Option Addr) (n c1 c2 : Nat) (xs : List Int) (w : World) (hn : n ≤ maxLen) (h1 : Row w a1 n xs) (h2 : Row w a2 n xs) :
    Calls Try.prog 89 #[wv x a1 n c1, wv x a2 n c2] w fun e w' => e = .returned (.bool true) ∧ Below w.heap.size w w' := by
  have hb0 : ∀ o1 o2, Below w.heap.size w ((w.alloc o1).alloc o2) := fun o1 o2 => ((Below.refl w.heap.size w).alloc (Nat.le_refl _) _).alloc (by simp) _
  have R1 := hide fun o1 o2 => row_grow h1 (hb0 o1 o2)
  have R2 := hide fun o1 o2 => row_grow h2 (hb0 o1 o2)
  clear h1 h2
  go_enter Try.func89, Try.ntmps89
  go_wp2_with fail
  refine (eqBytes_same a1 a2 n c1 c2 xs _ hn (unhide R1 _ _) (unhide R2 _ _)).mono ?_
  rintro e w1 ⟨rfl, hb⟩
  have B := hide ((hb0 _ _).trans (hb.mono (by simp; omega)))
  clear hb
  go_wp2_with fail
  go_ret
  exact ⟨rfl, unhide B⟩
set_option maxHeartbeats 1000000 in
theorem eqWriteS_any (a1 a2 : Option Addr) (n c1 c2 : Nat) (ws : List WD) (w : World) (hn : n ≤ maxLen) (h1 : WRow w a1 n ws) (h2 : WRow w a2 n ws) :
    Calls Try.prog 47 #[.slice a1 n c1, .slice a2 n c2] w fun e w' => e = .returned (.bool true) ∧ Below w.heap.size w w' := by
  have L := hide h1.1
  have R1 := hide h1
  have R2 := hide h2
  clear h1 h2
  unfold maxLen at hn
  go_enter Try.func47, Try.ntmps47
  go_wp2_with fail
  go_loopw [5] (fun i wr => ∃ k : Nat, k ≤ n ∧ i = .int .i64 k ∧ Below w.heap.size w wr) (fun i _ => n - (intOf i).toNat)
  case atStart => exact ⟨0, by omega, rfl, Below.refl _ _⟩
  case round =>
    obtain ⟨k, hk, rfl, hb⟩ := hrel
    by_cases hlt : k < n
    · have hk2 : k < ws.length := by rw [unhide L]; exact hlt
      obtain ⟨b, off, rfl, d0, a', c', d1, hm, r1⟩ := ((unhide R1).below hb).2 k hk2
      obtain ⟨b', off', rfl, y0, a'', c'', y1, _, r2⟩ := ((unhide R2).below hb).2 k hk2
      have H1 := hide r1
      have H2 := hide r2
      clear r1 r2
      generalize ws[k] = pd at *
      have hsz := hb.size
      go_wp2_with fail
      go_region_with (go_at_call 89; (first | refine (eqWrite_any pd.at_ a' a'' pd.xs.length c' c'' pd.xs wr.drew hm.1 (unhide H1) (unhide H2)).mono ?_ | refine (eqWrite_any pd.at_ a' a'' pd.xs.length c' c'' pd.xs wr hm.1 (unhide H1) (unhide H2)).mono ?_); rintro e w2 ⟨rfl, hb2⟩)
      all_goals
        have bA : Below w.heap.size w w2 := by first | exact hb.drew.trans (hb2.mono hsz) | exact (bel_drewN hb _).trans (hb2.mono hsz) | exact hb.trans (hb2.mono hsz)
        clear hb hb2 d0 d1 y0 y1
        go_wp2_with fail
        go_roundw
        case rel => exact ⟨k + 1, by omega, by go_num, bA⟩
        case measure => simp [intOf]; omega
    · obtain rfl : k = n := by omega
      go_wp2_with fail
      go_ret
      exact ⟨rfl, hb⟩
set_option maxHeartbeats 1000000 in
theorem eqFlash_any (a1 a2 : Option Addr) (nh c1 c2 : Nat) (b1 b2 : Option Addr) (nw d1 d2 : Nat) (xs : List Int) (ws : List WD) (w : World) (hnh : nh ≤ maxLen) (hn : nw ≤ maxLen) (h1 : Row w a1 nh xs) (h2 : Row w a2 nh xs) (h3 : WRow w b1 nw ws) (h4 : WRow w b2 nw ws) :
    Calls Try.prog 17 #[fv a1 nh c1 b1 nw d1, fv a2 nh c2 b2 nw d2] w fun e w' => e = .returned (.bool true) ∧ Below w.heap.size w w' := by
  have hb0 : ∀ o1 o2, Below w.heap.size w ((w.alloc o1).alloc o2) := fun o1 o2 => ((Below.refl w.heap.size w).alloc (Nat.le_refl _) _).alloc (by simp) _
  have R1 := hide fun o1 o2 => row_grow h1 (hb0 o1 o2)
  have R2 := hide fun o1 o2 => row_grow h2 (hb0 o1 o2)
  have R3 := hide h3
  have R4 := hide h4
  clear h1 h2 h3 h4
  go_enter Try.func17, Try.ntmps17
  go_wp2_with fail
  refine (eqBytes_same a1 a2 nh c1 c2 xs _ hnh (unhide R1 _ _) (unhide R2 _ _)).mono ?_
  rintro e w1 ⟨rfl, hb⟩
  have B := hide ((hb0 (.cells #[.slice a1 nh c1, .slice b1 nw d1] 28) (.cells #[.slice a2 nh c2, .slice b2 nw d2] 28)).trans (hb.mono (by simp; omega)))
  have p1 : w1.cell? ⟨w.heap.size, 1, none⟩ = some (.slice b1 nw d1) := (hb.cell (p := ⟨w.heap.size, 1, none⟩) (by simp; omega)).trans ((cell_old (by simp)).trans ((cell_new rfl).trans rfl))
  have p2 : w1.cell? ⟨w.heap.size + 1, 1, none⟩ = some (.slice b2 nw d2) := (hb.cell (p := ⟨w.heap.size + 1, 1, none⟩) (by simp)).trans ((cell_new (by simp)).trans rfl)
  have hsz := (unhide B).size
  clear hb
  go_wp2_with fail
  refine (eqWriteS_any b1 b2 nw d1 d2 ws w1 hn ((unhide R3).below (unhide B)) ((unhide R4).below (unhide B))).mono ?_
  rintro e w2 ⟨rfl, hb2⟩
  have B2 := hide ((unhide B).trans (hb2.mono hsz))
  clear hb2 p1 p2
  go_wp2_with fail
  go_ret
  exact ⟨rfl, unhide B2⟩
end Go.Proofs.Ytobonkffbmemaaa

namespace Go.Proofs.Ytobonkffbmemaaa
open Go.RowKit

/-- The law's argument as it lies in its own block, and behind it. -/
structure Args (w wr : World) (ah : Option Addr) (nh ch : Nat) (aw : Option Addr) (nw cw : Nat) (xs : List Int) (ws : List WD) : Prop where
  bel : Below w.heap.size w wr
  size : w.heap.size + 1 ≤ wr.heap.size
  c0 : wr.cell? ⟨w.heap.size, 0, none⟩ = some (.slice ah nh ch)
  c1 : wr.cell? ⟨w.heap.size, 1, none⟩ = some (.slice aw nw cw)
  row : Row wr ah nh xs
  wrow : WRow wr aw nw ws
theorem Args.start {w : World} {ah : Option Addr} {nh ch : Nat} {aw : Option Addr} {nw cw : Nat} {xs : List Int} {ws : List WD} (hr : Row w ah nh xs) (hw : WRow w aw nw ws) (t : TypeId) :
    Args w (w.alloc (.cells #[.slice ah nh ch, .slice aw nw cw] t)) ah nh ch aw nw cw xs ws :=
  have b : Below w.heap.size w (w.alloc (.cells #[.slice ah nh ch, .slice aw nw cw] t)) := (Below.refl _ _).alloc (Nat.le_refl _) _
  ⟨b, by simp, (cell_new rfl).trans rfl, (cell_new rfl).trans rfl, row_grow hr b, hw.below b⟩
theorem Args.step {w wr w2 : World} {ah : Option Addr} {nh ch : Nat} {aw : Option Addr} {nw cw : Nat} {xs : List Int} {ws : List WD} (h : Args w wr ah nh ch aw nw cw xs ws) (hb : Below wr.heap.size wr w2) : Args w w2 ah nh ch aw nw cw xs ws :=
  have hs := h.size
  ⟨h.bel.trans (hb.mono h.bel.size), Nat.le_trans h.size hb.size, (hb.cell (p := ⟨w.heap.size, 0, none⟩) (by simp; omega)).trans h.c0, (hb.cell (p := ⟨w.heap.size, 1, none⟩) (by simp; omega)).trans h.c1, row_grow h.row hb, h.wrow.below hb⟩

end Go.Proofs.Ytobonkffbmemaaa

namespace Go.Proofs.Ytobonkffbmemaaa
open Go.RowKit

theorem Args.band' {S : Nat → Prop} {w wr w2 : World} {ah : Option Addr} {nh ch : Nat} {aw : Option Addr} {nw cw : Nat} {xs : List Int} {ws : List WD} (hr : Row w ah nh xs) (hw : WRow w aw nw ws) (h : Args w wr ah nh ch aw nw cw xs ws) (hb : Band S wr w2) (hS : ∀ k, k < w.heap.size + 1 → S k) : Args w w2 ah nh ch aw nw cw xs ws :=
  have hs := h.size
  have b : Below w.heap.size w w2 := h.bel.trans (hb.below (by omega) (fun k hk => hS k (by omega)))
  ⟨b, Nat.le_trans h.size hb.kept.1, (hb.kept.cell (p := ⟨w.heap.size, 0, none⟩) (hS _ (by simp)) (by simp; omega)).trans h.c0, (hb.kept.cell (p := ⟨w.heap.size, 1, none⟩) (hS _ (by simp)) (by simp; omega)).trans h.c1, row_grow hr b, hw.below b⟩
theorem mine_row'' {w : World} {B n cap : Nat} {a : Option Addr} {xs : List Int} (h : Mine w B (.slice a n cap) xs) : Row w a n xs ∧ n = xs.length ∧ n ≤ cap ∧ cap ≤ maxLen ∧ ∀ x, a = some x → B ≤ x.block ∧ x.block < w.heap.size ∧ ∀ j, w.frozen? ⟨x.block, j, none⟩ = false := by
  obtain ⟨a', c', e, h1, h2, h3, h4⟩ := h
  injection e with e1 e2 e3
  subst e1 e2 e3
  exact ⟨h3, rfl, h1, h2, h4⟩
theorem wrow_nil (w : World) : WRow w none 0 [] := ⟨rfl, fun _ hi => absurd hi (Nat.not_lt_zero _)⟩
/-- The box of a device that is a local. -/
def Bx (w : World) (b : Nat) (a : Option Addr) (n c : Nat) (a' : Option Addr) (n' c' : Nat) : Prop := w.cell? ⟨b, 0, none⟩ = some (.slice a n c) ∧ w.cell? ⟨b, 1, none⟩ = some (.slice a' n' c')
theorem Bx.new (w : World) (a : Option Addr) (n c : Nat) (a' : Option Addr) (n' c' : Nat) (t : TypeId) : Bx (w.alloc (.cells #[.slice a n c, .slice a' n' c'] t)) w.heap.size a n c a' n' c' := ⟨(cell_new rfl).trans rfl, (cell_new rfl).trans rfl⟩
theorem Bx.step {w w2 : World} {b : Nat} {a : Option Addr} {n c : Nat} {a' : Option Addr} {n' c' : Nat} (h : Bx w b a n c a' n' c') (hb : Below w.heap.size w w2) : Bx w2 b a n c a' n' c' :=
  ⟨(hb.cell (p := ⟨b, 0, none⟩) (cell_lt h.1)).trans h.1, (hb.cell (p := ⟨b, 1, none⟩) (cell_lt h.2)).trans h.2⟩
theorem Bx.band {S : Nat → Prop} {w w2 : World} {b : Nat} {a : Option Addr} {n c : Nat} {a' : Option Addr} {n' c' : Nat} (h : Bx w b a n c a' n' c') (hb : Band S w w2) (hS : S b) : Bx w2 b a n c a' n' c' :=
  ⟨(hb.kept.cell (p := ⟨b, 0, none⟩) hS (cell_lt h.1)).trans h.1, (hb.kept.cell (p := ⟨b, 1, none⟩) hS (cell_lt h.2)).trans h.2⟩
/-- Memory of the call's own, between two blocks. -/
def Ow (w : World) (lo hi : Nat) (a : Option Addr) : Prop := ∀ x, a = some x → lo ≤ x.block ∧ x.block < hi ∧ x.block < w.heap.size ∧ ∀ j, w.frozen? ⟨x.block, j, none⟩ = false
theorem Ow.step {w w2 : World} {lo hi : Nat} {a : Option Addr} (h : Ow w lo hi a) (hb : Below w.heap.size w w2) : Ow w2 lo hi a :=
  fun x hx => ⟨(h x hx).1, (h x hx).2.1, Nat.lt_of_lt_of_le (h x hx).2.2.1 hb.size, fun j => (hb.frozen (p := ⟨x.block, j, none⟩) (h x hx).2.2.1).trans ((h x hx).2.2.2 j)⟩
theorem Ow.band {S : Nat → Prop} {w w2 : World} {lo hi : Nat} {a : Option Addr} (h : Ow w lo hi a) (hb : Band S w w2) (hS : ∀ k, lo ≤ k → k < hi → S k) : Ow w2 lo hi a :=
  fun x hx => ⟨(h x hx).1, (h x hx).2.1, Nat.lt_of_lt_of_le (h x hx).2.2.1 hb.kept.1, fun j => (hb.kept.frozen (p := ⟨x.block, j, none⟩) (hS _ (h x hx).1 (h x hx).2.1) (h x hx).2.2.1).trans ((h x hx).2.2.2 j)⟩
theorem Band.row {S : Nat → Prop} {w w2 : World} {lo hi : Nat} {a : Option Addr} {n : Nat} {xs : List Int} (hb : Band S w w2) (h : Row w a n xs) (ho : Ow w lo hi a) (hS : ∀ k, lo ≤ k → k < hi → S k) : Row w2 a n xs :=
  hb.kept.row h (fun x hx => hS _ (ho x hx).1 (ho x hx).2.1)
def BIn (w : World) (g n : Nat) (bs : List Bool) : Prop := BMine w g n bs ∧ g < w.heap.size
theorem BIn.step {w w2 : World} {g n : Nat} {bs : List Bool} (h : BIn w g n bs) (hb : Below w.heap.size w w2) : BIn w2 g n bs := ⟨h.1.grow h.2 hb, Nat.lt_of_lt_of_le h.2 hb.size⟩
theorem BIn.band {S : Nat → Prop} {w w2 : World} {g n : Nat} {bs : List Bool} (h : BIn w g n bs) (hb : Band S w w2) (hS : S g) : BIn w2 g n bs :=
  ⟨⟨h.1.1.kept hb.kept (fun x hx => by cases hx; exact hS), fun j => (hb.kept.frozen (p := ⟨g, j, none⟩) hS h.2).trans (h.1.2 j)⟩, Nat.lt_of_lt_of_le h.2 hb.kept.1⟩
theorem Mine.ow {w : World} {B n cap : Nat} {a : Option Addr} {xs : List Int} (h : Mine w B (.slice a n cap) xs) : Row w a n xs ∧ Ow w B w.heap.size a := by
  obtain ⟨r, _, _, _, o⟩ := mine_row'' h
  exact ⟨r, fun x hx => ⟨(o x hx).1, (o x hx).2.1, (o x hx).2.1, (o x hx).2.2⟩⟩
end Go.Proofs.Ytobonkffbmemaaa

namespace Go.Proofs.Ytobonkffbmemaaa
open Go.RowKit

theorem cn_len {xs : List Int} {ws : List WD} {L : List ImD} (h : Lat ImD.id ImD.gone (laS xs ws) L) : (padB (flatI L)).length ≤ 2048 := by
  rw [padB_len]
  have h2 : (flatI L).length ≤ 2048 := by
    unfold laS at h
    split at h
    · rename_i hk; exact lat_room hk h
    · have : L = [] := h.one (Lat.nil _ _)
      rw [this]
      exact Nat.zero_le _
  unfold fillN
  split <;> omega
set_option maxRecDepth 100000 in
set_option maxHeartbeats 100000000 in
theorem clean_law (ah : Option Addr) (nh ch : Nat) (aw : Option Addr) (nw cw : Nat) (xs : List Int) (ws : List WD) (w : World) (h0 : IsFlash8 w ah nh aw nw xs ws) :
    Calls Try.prog 6 #[fv ah nh ch aw nw cw] w fun e w' => e = .returned (.bool true) ∧ Below w.heap.size w w' := by
  obtain ⟨⟨hR, hnh, hW, hnw⟩, h8, h8w⟩ := h0
  have E8 := hide h8
  have E8W := hide h8w
  have HR := hide hR
  have HW := hide hW
  have B := hide ((Below.refl w.heap.size w).alloc (Nat.le_refl _) (.cells #[.slice ah nh ch, .slice aw nw cw] 51))
  have XF := hide (Bx.new w ah nh ch aw nw cw 51)
  have z0 : (w.alloc (.cells #[.slice ah nh ch, .slice aw nw cw] 51)).heap.size = w.heap.size + 1 := by simp
  clear hR hW h8 h8w
  go_enter Try.func6, Try.ntmps6
  go_wp2_with fail
  generalize w.alloc (.cells #[.slice ah nh ch, .slice aw nw cw] 51) = W0 at *
  have zz : w.heap.size + 1 ≤ W0.heap.size := by omega
  clear z0
  refine (szFlash_any ah nh ch aw nw cw ws 1048576 _ (by omega) (by omega) hnh ((unhide HW).below (unhide B)) hnw).mono ?_
  rintro e w1 ⟨r, rfl, hr, hb⟩
  replace B := hide ((unhide B).trans (hb.mono (by omega)))
  replace XF := hide ((unhide XF).step hb)
  have zz_w1 : W0.heap.size ≤ w1.heap.size := hb.size
  clear hb
  rcases hr with rfl | ⟨r0, r1, n1, n2, n3⟩
  · go_wp2_with fail
    go_ret
    exact ⟨rfl, unhide B⟩
  have N3 := hide (show ∀ i (hi : i < ws.length), ws[i].xs.length ≤ 1048576 from fun i hi => by have := n3 i hi; omega)
  clear n3
  have hnh2 : nh ≤ 1048576 := by omega
  have hnw2 : nw ≤ 1048576 := by omega
  have p0 := (unhide XF).1
  have p1 := (unhide XF).2
  go_wp2_with fail
  clear p0 p1
  refine (toFlash_any ah nh ch aw nw cw xs ws w1 hnh2 hnw2 (unhide N3) (row_grow (unhide HR) (unhide B)) ((unhide HW).below (unhide B))).mono ?_
  rintro e w2 ⟨ah_s, ch_s, g_s, rfl, hF, hb⟩
  replace B := hide ((unhide B).trans (hb.mono (by omega)))
  replace XF := hide ((unhide XF).step hb)
  have zz_w2 : w1.heap.size ≤ w2.heap.size := hb.size
  clear hb
  obtain ⟨b_s, rfl⟩ := hF.1
  have FS := hide hF
  clear hF
  go_wp2_with fail
  refine (specClean_any b_s 0 nh ch_s _ nw nw xs ws w2 (unhide FS).row (unhide FS).wrow hnh2 hnw2 (unhide E8) (unhide E8W)).mono ?_
  rintro e w3 ⟨L, a_w, c_w, hL, rfl, hM, hb⟩
  have CON := hide (show ∀ W e W', CnRes xs ws W e W' → ∃ a c, e = .returned (.tuple #[fv a (padB (flatI L)).length c none 0 0, .int .i64 (rdC xs ws)]) ∧ (Row W' a (padB (flatI L)).length (padB (flatI L)) ∧ Ow W' W.heap.size W'.heap.size a) ∧ Below W.heap.size W W' from fun W e W' h => by
    obtain ⟨L', a, c, hL', e, m, b⟩ := h
    obtain rfl := hL'.one hL
    exact ⟨a, c, e, m.ow, b⟩)
  have hRl := cn_len hL
  obtain ⟨z3, o3⟩ := hM.ow
  have Z_w := hide z3
  have O_w := hide o3
  clear hM z3 o3 hL FS
  have hq : (rdC xs ws != rdC xs ws) = false := by simp
  generalize rdC xs ws = C at *
  generalize padB (flatI L) = R at *
  have hRm : R.length ≤ maxLen := by unfold maxLen; omega
  have hR1 : R.length ≤ 1048576 := by omega
  replace B := hide ((unhide B).trans (hb.mono (by omega)))
  replace XF := hide ((unhide XF).step hb)
  have zz_w3 : w2.heap.size ≤ w3.heap.size := hb.size
  clear hb
  have hb : Below w3.heap.size w3 (w3.alloc (.cells #[.slice a_w R.length c_w, .slice none 0 0] 28)) := (Below.refl _ _).alloc (Nat.le_refl _) _
  have X_w := hide (Bx.new w3 a_w R.length c_w none 0 0 28)
  have hz : (w3.alloc (.cells #[.slice a_w R.length c_w, .slice none 0 0] 28)).heap.size = w3.heap.size + 1 := by simp
  replace B := hide ((unhide B).trans (hb.mono (by omega)))
  replace XF := hide ((unhide XF).step hb)
  replace Z_w := hide (row_grow (unhide Z_w) hb)
  replace O_w := hide ((unhide O_w).step hb)
  clear hb
  have p0 := (unhide XF).1
  have p1 := (unhide XF).2
  go_wp2_with fail
  clear p0 p1
  generalize w3.alloc (.cells #[.slice a_w R.length c_w, .slice none 0 0] 28) = w4 at *
  have zz_w4 : w3.heap.size < w4.heap.size := by omega
  clear hz
  refine (toFlash_any ah nh ch aw nw cw xs ws w4 hnh2 hnw2 (unhide N3) (row_grow (unhide HR) (unhide B)) ((unhide HW).below (unhide B))).mono ?_
  rintro e w6 ⟨ah6, ch6, g6, rfl, hF6, hb⟩
  replace B := hide ((unhide B).trans (hb.mono (by omega)))
  replace XF := hide ((unhide XF).step hb)
  replace Z_w := hide (row_grow (unhide Z_w) hb)
  replace O_w := hide ((unhide O_w).step hb)
  replace X_w := hide ((unhide X_w).step hb)
  have zz_w6 : w4.heap.size ≤ w6.heap.size := hb.size
  clear hb
  have FX := hide hF6.fin
  have M6 := hide (mine_row'' hF6.2.2.2.1)
  clear hF6
  have hb : Below w6.heap.size w6 (w6.alloc (.cells #[.slice ah6 nh ch6, .slice (some ⟨g6, 0, none⟩) nw nw] 28)) := (Below.refl _ _).alloc (Nat.le_refl _) _
  have XX := hide (Bx.new w6 ah6 nh ch6 (some ⟨g6, 0, none⟩) nw nw 28)
  have hz : (w6.alloc (.cells #[.slice ah6 nh ch6, .slice (some ⟨g6, 0, none⟩) nw nw] 28)).heap.size = w6.heap.size + 1 := by simp
  replace B := hide ((unhide B).trans (hb.mono (by omega)))
  replace XF := hide ((unhide XF).step hb)
  replace Z_w := hide (row_grow (unhide Z_w) hb)
  replace O_w := hide ((unhide O_w).step hb)
  replace X_w := hide ((unhide X_w).step hb)
  replace FX := hide ((unhide FX).below hb)
  clear hb
  have x0 := (unhide XX).1
  have x1 := (unhide XX).2
  go_wp2_with fail
  clear x0 x1
  generalize w6.alloc (.cells #[.slice ah6 nh ch6, .slice (some ⟨g6, 0, none⟩) nw nw] 28) = w7 at *
  have zz_w7 : w6.heap.size < w7.heap.size := by omega
  clear hz
  have HI2 := hide (fun (a : Option Addr) (c g : Nat) (x : World) (h1 : Row x a nh xs) (h2 : WRow x (some ⟨g, 0, none⟩) nw ws) (h3 : nh ≤ c) (h4 : c ≤ maxLen) => implClean_any a nh c (some ⟨g, 0, none⟩) nw nw xs ws x h1 h2 hnh2 hnw2 h3 h4 (unhide E8) (unhide E8W))
  refine (unhide HI2 ah6 ch6 g6 w7 (unhide FX).mine.row (unhide FX).mine.wrow (unhide M6).2.2.1 (unhide M6).2.2.2.1).mono ?_
  intro e w8 hcon
  obtain ⟨a_g, c_g, rfl, ⟨z10, o10⟩, hb⟩ := unhide CON _ _ _ hcon
  clear hcon
  replace B := hide ((unhide B).trans (hb.mono (by omega)))
  replace XF := hide ((unhide XF).step hb)
  replace Z_w := hide (row_grow (unhide Z_w) hb)
  replace O_w := hide ((unhide O_w).step hb)
  replace X_w := hide ((unhide X_w).step hb)
  replace FX := hide ((unhide FX).below hb)
  replace XX := hide ((unhide XX).step hb)
  have zz_w8 : w7.heap.size ≤ w8.heap.size := hb.size
  clear hb
  have Z_g := hide z10
  have O_g := hide o10
  clear z10 o10
  clear M6
  have hb : Below w8.heap.size w8 (w8.alloc (.cells #[.slice a_g R.length c_g, .slice none 0 0] 28)) := (Below.refl _ _).alloc (Nat.le_refl _) _
  have X_g := hide (Bx.new w8 a_g R.length c_g none 0 0 28)
  have hz : (w8.alloc (.cells #[.slice a_g R.length c_g, .slice none 0 0] 28)).heap.size = w8.heap.size + 1 := by simp
  replace B := hide ((unhide B).trans (hb.mono (by omega)))
  replace XF := hide ((unhide XF).step hb)
  replace Z_w := hide (row_grow (unhide Z_w) hb)
  replace O_w := hide ((unhide O_w).step hb)
  replace X_w := hide ((unhide X_w).step hb)
  replace FX := hide ((unhide FX).below hb)
  replace XX := hide ((unhide XX).step hb)
  replace Z_g := hide (row_grow (unhide Z_g) hb)
  replace O_g := hide ((unhide O_g).step hb)
  clear hb
  have u0 := (unhide X_w).1
  have u1 := (unhide X_w).2
  have v0 := (unhide X_g).1
  have v1 := (unhide X_g).2
  go_wp2_with fail
  clear u0 u1 v0 v1
  generalize w8.alloc (.cells #[.slice a_g R.length c_g, .slice none 0 0] 28) = w9 at *
  have zz_w9 : w8.heap.size < w9.heap.size := by omega
  clear hz
  refine (eqFlash_any a_g a_w R.length c_g c_w none none 0 0 0 R [] w9 hRm (by unfold maxLen; omega) (unhide Z_g) (unhide Z_w) (wrow_nil _) (wrow_nil _)).mono ?_
  rintro e w10 ⟨rfl, hb⟩
  replace B := hide ((unhide B).trans (hb.mono (by omega)))
  replace XF := hide ((unhide XF).step hb)
  replace Z_w := hide (row_grow (unhide Z_w) hb)
  replace O_w := hide ((unhide O_w).step hb)
  replace X_w := hide ((unhide X_w).step hb)
  replace FX := hide ((unhide FX).below hb)
  replace XX := hide ((unhide XX).step hb)
  replace Z_g := hide (row_grow (unhide Z_g) hb)
  replace O_g := hide ((unhide O_g).step hb)
  replace X_g := hide ((unhide X_g).step hb)
  have zz_w10 : w9.heap.size ≤ w10.heap.size := hb.size
  clear hb
  go_upto_region 10 with fail
  go_cut [45] (fun v wc => v = .bool false ∧ Below w10.heap.size w10 wc)
  case first =>
    have x0 := (unhide XX).1
    have x1 := (unhide XX).2
    have RWx := hide (row_grow (unhide HR) (unhide B))
    have WWx := hide ((unhide HW).below (unhide B))
    have p0 := (unhide XF).1
    have p1 := (unhide XF).2
    go_region_with (first
      | (go_at_call 27
         (first | refine (toFlash_any ah nh ch aw nw cw xs ws w10.drew hnh2 hnw2 (unhide N3) (unhide RWx) (unhide WWx)).mono ?_ | refine (toFlash_any ah nh ch aw nw cw xs ws w10 hnh2 hnw2 (unhide N3) (unhide RWx) (unhide WWx)).mono ?_)
         rintro e wa ⟨aha, cha, ga, rfl, hFa, hba⟩
         replace hba : Below w10.heap.size w10 wa := ⟨hba.os, hba.tape, hba.output, hba.size, hba.block⟩
         have y0 := ((unhide XX).step hba).1
         have y1 := ((unhide XX).step hba).2)
      | (go_at_call 17
         refine (eqFlash_any ah6 aha nh ch6 cha _ _ nw nw nw xs ws wa hnh hnw (row_grow (unhide FX).mine.row hba) hFa.row ((unhide FX).mine.wrow.below hba) hFa.wrow).mono ?_
         rintro e wb ⟨rfl, hbb⟩))
    all_goals
      have hbc : Below w10.heap.size w10 wb := hba.trans (hbb.mono hba.size)
      clear hba hbb hFa
      go_wp2_with fail
      go_meet
      case rel => exact ⟨rfl, hbc⟩
  case rest =>
    obtain ⟨rfl, hb⟩ := hcut
    obtain ⟨w13, hwr⟩ : ∃ x : World, x = wc := ⟨_, rfl⟩
    rw [← hwr] at hb ⊢
    clear hwr
    replace B := hide ((unhide B).trans (hb.mono (by omega)))
    replace XF := hide ((unhide XF).step hb)
    replace Z_w := hide (row_grow (unhide Z_w) hb)
    replace O_w := hide ((unhide O_w).step hb)
    replace X_w := hide ((unhide X_w).step hb)
    replace FX := hide ((unhide FX).below hb)
    replace XX := hide ((unhide XX).step hb)
    replace Z_g := hide (row_grow (unhide Z_g) hb)
    replace O_g := hide ((unhide O_g).step hb)
    replace X_g := hide ((unhide X_g).step hb)
    have zz_w13 : w10.heap.size ≤ w13.heap.size := hb.size
    clear hb
    have x0 := (unhide XX).1
    have x1 := (unhide XX).2
    go_wp2_with fail
    clear x0 x1
    refine (markFlash_any w4.heap.size w6.heap.size ah6 nh ch6 g6 nw nw xs ws w13 hnh2 hnw2 (unhide N3) (unhide FX) (by omega)).mono ?_
    rintro e w15 ⟨k15, rfl, hB, hk15⟩
    clear FX
    replace B := hide ((unhide B).trans (hB.below (by omega) (fun k hk => by omega)))
    replace XF := hide ((unhide XF).band hB (by omega))
    replace Z_w := hide (hB.row (unhide Z_w) (unhide O_w) (fun k h1 h2 => by omega))
    replace O_w := hide ((unhide O_w).band hB (fun k h1 h2 => by omega))
    replace X_w := hide ((unhide X_w).band hB (by omega))
    replace XX := hide ((unhide XX).band hB (by omega))
    replace Z_g := hide (hB.row (unhide Z_g) (unhide O_g) (fun k h1 h2 => by omega))
    replace O_g := hide ((unhide O_g).band hB (fun k h1 h2 => by omega))
    replace X_g := hide ((unhide X_g).band hB (by omega))
    have zz_w15 : w13.heap.size ≤ w15.heap.size := hB.kept.1
    clear hB
    clear XX
    have u0 := (unhide X_w).1
    have u1 := (unhide X_w).2
    have v0 := (unhide X_g).1
    have v1 := (unhide X_g).2
    go_wp2_with fail
    clear u0 u1 v0 v1
    refine (eqFlash_any a_g a_w R.length c_g c_w none none 0 0 0 R [] w15 hRm (by unfold maxLen; omega) (unhide Z_g) (unhide Z_w) (wrow_nil _) (wrow_nil _)).mono ?_
    rintro e w17 ⟨rfl, hb⟩
    replace B := hide ((unhide B).trans (hb.mono (by omega)))
    replace XF := hide ((unhide XF).step hb)
    replace Z_w := hide (row_grow (unhide Z_w) hb)
    replace O_w := hide ((unhide O_w).step hb)
    replace X_w := hide ((unhide X_w).step hb)
    replace Z_g := hide (row_grow (unhide Z_g) hb)
    replace O_g := hide ((unhide O_g).step hb)
    replace X_g := hide ((unhide X_g).step hb)
    have zz_w17 : w15.heap.size ≤ w17.heap.size := hb.size
    clear hb
    have v0 := (unhide X_g).1
    have v1 := (unhide X_g).2
    go_wp2_with fail
    clear v0 v1
    refine (markFlash0_any (fun b => b < w7.heap.size ∨ w8.heap.size ≤ b) a_g R.length c_g 1 R w17 hR1 (by omega) (unhide Z_g) (fun x hx => ⟨(unhide O_g x hx).2.2.1, (unhide O_g x hx).2.2.2⟩) (fun x hx => by have := unhide O_g x hx; omega)).mono ?_
    rintro e w18 ⟨rfl, r18, hB⟩
    replace B := hide ((unhide B).trans (hB.below (by omega) (fun k hk => by omega)))
    replace XF := hide ((unhide XF).band hB (by omega))
    replace Z_w := hide (hB.row (unhide Z_w) (unhide O_w) (fun k h1 h2 => by omega))
    replace O_w := hide ((unhide O_w).band hB (fun k h1 h2 => by omega))
    replace X_w := hide ((unhide X_w).band hB (by omega))
    replace X_g := hide ((unhide X_g).band hB (by omega))
    have zz_w18 : w17.heap.size ≤ w18.heap.size := hB.kept.1
    clear hB
    replace Z_g := hide r18
    clear r18 O_g
    have v0 := (unhide X_g).1
    have v1 := (unhide X_g).2
    go_wp2_with fail
    clear v0 v1
    refine (heldFlash0_any a_g R.length c_g 1 w18 hR1 (by omega) (unhide Z_g)).mono ?_
    rintro e w19 ⟨rfl, hb⟩
    replace B := hide ((unhide B).trans (hb.mono (by omega)))
    replace XF := hide ((unhide XF).step hb)
    replace Z_w := hide (row_grow (unhide Z_w) hb)
    replace O_w := hide ((unhide O_w).step hb)
    replace X_w := hide ((unhide X_w).step hb)
    replace Z_g := hide (row_grow (unhide Z_g) hb)
    replace X_g := hide ((unhide X_g).step hb)
    have zz_w19 : w18.heap.size ≤ w19.heap.size := hb.size
    clear hb
    have p0 := (unhide XF).1
    have p1 := (unhide XF).2
    go_wp2_with fail
    clear p0 p1
    refine (toFlash_any ah nh ch aw nw cw xs ws w19 hnh2 hnw2 (unhide N3) (row_grow (unhide HR) (unhide B)) ((unhide HW).below (unhide B))).mono ?_
    rintro e w20 ⟨ah_t, ch_t, g_t, rfl, hF, hb⟩
    replace B := hide ((unhide B).trans (hb.mono (by omega)))
    replace XF := hide ((unhide XF).step hb)
    replace Z_w := hide (row_grow (unhide Z_w) hb)
    replace O_w := hide ((unhide O_w).step hb)
    replace X_w := hide ((unhide X_w).step hb)
    replace Z_g := hide (row_grow (unhide Z_g) hb)
    replace X_g := hide ((unhide X_g).step hb)
    have zz_w20 : w19.heap.size ≤ w20.heap.size := hb.size
    clear hb
    have FT := hide hF
    have MT := hide (mine_row'' hF.2.2.2.1)
    clear hF
    go_wp2_with fail
    refine (unhide HI2 ah_t ch_t g_t w20 (unhide FT).row (unhide FT).wrow (unhide MT).2.2.1 (unhide MT).2.2.2.1).mono ?_
    intro e w21 hcon
    obtain ⟨a_h, c_h, rfl, ⟨z10, o10⟩, hb⟩ := unhide CON _ _ _ hcon
    clear hcon
    replace B := hide ((unhide B).trans (hb.mono (by omega)))
    replace XF := hide ((unhide XF).step hb)
    replace Z_w := hide (row_grow (unhide Z_w) hb)
    replace O_w := hide ((unhide O_w).step hb)
    replace X_w := hide ((unhide X_w).step hb)
    replace Z_g := hide (row_grow (unhide Z_g) hb)
    replace X_g := hide ((unhide X_g).step hb)
    have zz_w21 : w20.heap.size ≤ w21.heap.size := hb.size
    clear hb
    have Z_h := hide z10
    have O_h := hide o10
    clear z10 o10
    clear FT MT
    have hb : Below w21.heap.size w21 (w21.alloc (.cells #[.slice a_h R.length c_h, .slice none 0 0] 28)) := (Below.refl _ _).alloc (Nat.le_refl _) _
    have X_h := hide (Bx.new w21 a_h R.length c_h none 0 0 28)
    have hz : (w21.alloc (.cells #[.slice a_h R.length c_h, .slice none 0 0] 28)).heap.size = w21.heap.size + 1 := by simp
    replace B := hide ((unhide B).trans (hb.mono (by omega)))
    replace XF := hide ((unhide XF).step hb)
    replace Z_w := hide (row_grow (unhide Z_w) hb)
    replace O_w := hide ((unhide O_w).step hb)
    replace X_w := hide ((unhide X_w).step hb)
    replace Z_g := hide (row_grow (unhide Z_g) hb)
    replace X_g := hide ((unhide X_g).step hb)
    replace Z_h := hide (row_grow (unhide Z_h) hb)
    replace O_h := hide ((unhide O_h).step hb)
    clear hb
    have u0 := (unhide X_w).1
    have u1 := (unhide X_w).2
    have v0 := (unhide X_h).1
    have v1 := (unhide X_h).2
    go_wp2_with fail
    clear u0 u1 v0 v1
    generalize w21.alloc (.cells #[.slice a_h R.length c_h, .slice none 0 0] 28) = w22 at *
    have zz_w22 : w21.heap.size < w22.heap.size := by omega
    clear hz
    refine (eqFlash_any a_h a_w R.length c_h c_w none none 0 0 0 R [] w22 hRm (by unfold maxLen; omega) (unhide Z_h) (unhide Z_w) (wrow_nil _) (wrow_nil _)).mono ?_
    rintro e w23 ⟨rfl, hb⟩
    replace B := hide ((unhide B).trans (hb.mono (by omega)))
    replace XF := hide ((unhide XF).step hb)
    replace Z_w := hide (row_grow (unhide Z_w) hb)
    replace O_w := hide ((unhide O_w).step hb)
    replace X_w := hide ((unhide X_w).step hb)
    replace Z_g := hide (row_grow (unhide Z_g) hb)
    replace X_g := hide ((unhide X_g).step hb)
    replace Z_h := hide (row_grow (unhide Z_h) hb)
    replace O_h := hide ((unhide O_h).step hb)
    replace X_h := hide ((unhide X_h).step hb)
    have zz_w23 : w22.heap.size ≤ w23.heap.size := hb.size
    clear hb
    have v0 := (unhide X_g).1
    have v1 := (unhide X_g).2
    go_wp2_with fail
    clear v0 v1
    refine (heldFlash0_any a_g R.length c_g 1 w23 hR1 (by omega) (unhide Z_g)).mono ?_
    rintro e w24 ⟨rfl, hb⟩
    replace B := hide ((unhide B).trans (hb.mono (by omega)))
    clear hb
    go_wp2_with fail
    go_ret
    exact ⟨rfl, unhide B⟩
end Go.Proofs.Ytobonkffbmemaaa

namespace Go.Proofs.Ytobonkffbmemaaa.fnExactCleanFrame
open Go.ChangeShapes Go.WideShapes Go.ChangeAt Go.RowKit
open Go.ChangeMaps (open_string shut_string)
set_option linter.unusedVariables false

theorem own : ownKnob Try.prog.godebug = none := by kernel_rfl
theorem laidOut : laidOutB Try.prog = true := by kernel_rfl

set_option maxRecDepth 100000 in
theorem lifted (os : Os) (started : os.Started) (H : Type) (enc : TypeId × Value → H) :
    ReturnsInHanded {} Try.checked os 6 .any (Rows.fnExactCleanSpec.pre6 enc Try.prog Try.f6 Rows.fnExactCleanRow.domain false) (Rows.fnExactCleanSpec.post enc Try.prog Try.f6 false true false false) := by
  refine returnsInHanded_of_change (C := Try.checked) own started (by kernel_rfl) Try.func6
    (ChangeSpec.witness6 (enc := enc) (C := Try.checked) false ⟨#[], #[.agg #[.slice none 0 0, .slice none 0 0]], []⟩ 8 (by kernel_rfl) (by kernel_rfl) (by kernel_rfl) (by kernel_rfl)) ?_
  intro W base args ds gs before hval0 hW _ _
  have hval : ∀ (j : Nat) t v, Try.f6.params[j]? = some t → args[j]? = some v → Value.okWide Try.prog W .any base t v := hval0
  have hW' := hW
  obtain ⟨p, q, hA0, hV, rfl, _, _⟩ := hW
  have hA : DataW.TrodAll enc Try.prog W 0 (fun _ => true) true Try.f6.params.toList args.toList ds p := hA0
  rw [Try.params6] at hA hval
  obtain ⟨v0, vs0, d0, ds0, p0, q0, hargs, rfl, rfl, h0, r0⟩ := trodAll_cons hA
  obtain ⟨rfl, rfl, rfl⟩ := trodAll_nil r0
  obtain rfl : args = #[v0] := by cases args; simp_all
  obtain ⟨rfl, rfl⟩ := trodVars_none hV
  have k0 := h0
  have lt0 : ∀ x ∈ p0, x.block < W.heap.size := by obtain ⟨m, hm⟩ := k0; exact DataW.trod_lt m _ _ _ hm
  obtain ⟨ah0, nh0, ch0, aw0, nw0, cw0, xs0, ws0, rfl, w0⟩ := open_flash8 (hval 0 51 v0 rfl rfl) h0
  clear hA0 hval0
  refine (clean_law ah0 nh0 ch0 aw0 nw0 cw0 xs0 ws0 W w0).mono fun e W' ⟨he, bel⟩ => ?_
  subst he
  exact ⟨_, rfl, _, _, _, [], _, [], hW', trodAll_mk1 (shut_bool Try.underlying4 _), (trodAll_cons_mk (Below.trod laidOut (by kernel_rfl) (of_decide_eq_true (by kernel_rfl)) k0 bel lt0) trodAll_mk0), rfl, bel.frame _, fun h => by cases h⟩

theorem over : Rows.fnExactCleanRow.holds Try.pinned (OpenSpec.ofChange Rows.fnExactCleanSpec) :=
  OpenClaim.holds_of_wide 6 Try.f6 rfl rfl rfl rfl rfl rfl rfl ⟨rfl, rfl, rfl, rfl, rfl⟩ rfl rfl rfl rfl rfl (by kernel_rfl) Try.func6 (by kernel_rfl)
    (of_decide_eq_true (by kernel_rfl)) (by unfold Func.isWrapper; first | (rw [if_pos (by decide +kernel)]; kernel_rfl) | (rw [if_neg (by decide +kernel)]; exact ⟨rfl, rfl⟩))
    (fun os started H enc _ => lifted os started H enc)

end Go.Proofs.Ytobonkffbmemaaa.fnExactCleanFrame
namespace Go.Proofs.Ytobonkffbmemaaa
/-- THE STATEMENT. -/
theorem fnExactClean_proved : Rows.FnExactCleanSaid := fnExactCleanFrame.over
#print axioms fnExactClean_proved
end Go.Proofs.Ytobonkffbmemaaa
