/-
  LtA, CnI, StW, StI, ImgI3, FiF, WriteC, WriteS, StS, To, FlashT, FlashS, Tail, FlashM, BoolS, CrashM, FlashE, FlashOKLaw, CrashLaw, ImgT in one.
-/
import Derived.Test.YtocdbijmpecdgaaFiAll3
import Derived.Test.YtocdbijmpecdgaaScE
import Derived.Test.YtocdbijmpecdgaaFlIn8
import Derived.Test.YtocdbijmpecdgaaReadD
import Derived.Test.YtocdbijmpecdgaaFiAll1
import Derived.Test.YtocdbijmpecdgaaCnL
import Derived.Test.YtocdbijmpecdgaaStL
import Derived.Test.YtocdbijmpecdgaaStT
import Derived.Deep.RegionWith
import Derived.Laws.AppendOwnNone
import Derived.Test.YtocdbijmpecdgaaFiL
import Derived.Test.YtocdbijmpecdgaaFiE
import Derived.Test.YtocdbijmpecdgaaWriteL
import Derived.Test.YtocdbijmpecdgaaDevW
import Derived.Deep.RegionLaw
import Derived.Deep.DeepCutAuto
import Derived.Deep.WholeRow
import Derived.Test.YtocdbijmpecdgaaFlashOK
import Derived.Test.YtocdbijmpecdgaaMark
import Derived.Test.YtocdbijmpecdgaaFlashD
import Derived.Test.YtocdbijmpecdgaaMarkB
import Derived.Test.YtocdbijmpecdgaaBRow
import Derived.Test.YtocdbijmpecdgaaHeldB
import Derived.Test.YtocdbijmpecdgaaFlashIn
import Derived.Deep.Grids
import Derived.Test.YtocdbijmpecdgaaBytes
import Derived.Test.YtocdbijmpecdgaaImgL
namespace Go.Proofs.Ytocdbijmpecdgaa
open Go.RowKit Go.Maps

/-- The images that stand on a device. -/
def laS (xs : List Int) (ws : List WD) : List ImD := if okD xs.length ws = true then (scanB (readD xs ws)).1 else []
/-- What Latest gives. -/
def LaRes (xs : List Int) (ws : List WD) (w : World) (e : Ending) (w' : World) : Prop :=
  ∃ v hs, e = .returned (.tuple #[v, .int .i64 (rdC xs ws)]) ∧ IOwn w' w.heap.size v hs ∧ Lat ImD.id ImD.gone (laS xs ws) (hs.map (·.X)) ∧ Below w.heap.size w w' ∧ hs.length ≤ 2048
theorem laRes_bad {xs : List Int} {ws : List WD} {v : Value} {w w' : World} (h : okD xs.length ws = false) (ho : IOwn w' w.heap.size v []) (hb : Below w.heap.size w w') : LaRes xs ws w (.returned (.tuple #[v, .int .i64 1])) w' := by
  refine ⟨v, [], by unfold rdC; rw [h]; rfl, ho, ?_, hb, Nat.zero_le _⟩
  unfold laS
  rw [h]
  exact Lat.nil _ _
theorem lat_mem {hs R : List ImH} (h : Lat kH gH hs R) {x : ImH} (hx : x ∈ R) : x ∈ hs := by
  obtain ⟨⟨pre, post, rfl, _⟩, _⟩ := (h.all x).1 hx
  simp
theorem ownsRow_down {w : World} {B C e s n : Nat} {v : Value} {vs : List Value} (h : w.ownsRow B e s v n vs) (hC : C ≤ B) : w.ownsRow C e s v n vs := by
  refine ⟨h.1, ?_⟩
  rcases h.2 with h | ⟨g, cap, cur, e, hb, r⟩
  · exact .inl h
  · exact .inr ⟨g, cap, cur, e, Nat.le_trans hC hb, r⟩
/-- The latest of owned images are owned. -/
theorem iown_lat {w1 w2 : World} {B : Nat} {v v2 : Value} {hs R : List ImH} (ho : IOwn w1 B v hs) (hb : Below w1.heap.size w1 w2) (hr2 : GOwns w2 w1.heap.size v2 (R.map hr)) (h : Lat kH gH hs R) (hB : B ≤ w1.heap.size) : IOwn w2 B v2 R := by
  have key : ∀ i (hi : i < R.length), ∃ j, ∃ hj : j < hs.length, hs[j] = R[i] := fun i hi => List.mem_iff_getElem.1 (lat_mem h (List.getElem_mem hi))
  have hup := List.pairwise_iff_getElem.1 h.up
  refine ⟨ownsRow_down hr2 hB, fun i hi => ?_, fun i j hi hj hij => ?_, fun i hi => ?_⟩
  · obtain ⟨j, hj, e⟩ := key i hi
    have := (ho.dat j hj).below hb
    rw [e] at this
    exact this
  · obtain ⟨a, ha, ea⟩ := key i hi
    obtain ⟨b, hb', eb⟩ := key j hj
    rw [← ea, ← eb]
    refine ho.far a b ha hb' (fun e => ?_)
    subst e
    rw [ea] at eb
    rcases Nat.lt_or_gt_of_ne hij with h1 | h1
    · have := hup i j hi hj h1
      simp only [kH] at this
      rw [eb] at this
      omega
    · have := hup j i hj hi h1
      simp only [kH] at this
      rw [eb] at this
      omega
  · obtain ⟨a, ha, ea⟩ := key i hi
    have h1 := (hDat.lt (ho.dat a ha)).2
    rw [ea] at h1
    intro e
    have := (hr2.lt _ e).1
    omega
theorem laRes_some {xs : List Int} {ws : List WD} {v v2 : Value} {w w1 w2 : World} {hs R : List ImH} (hk : okD xs.length ws = true) (ho : IOwn w1 w.heap.size v hs) (he : hs.map (·.X) = (scanB (readD xs ws)).1) (hb1 : Below w.heap.size w w1) (hb : Below w1.heap.size w1 w2) (hr2 : GOwns w2 w1.heap.size v2 (R.map hr)) (h : Lat kH gH hs R) (hl : R.length ≤ 2048) : LaRes xs ws w (.returned (.tuple #[v2, .int .i64 0])) w2 := by
  refine ⟨v2, R, by unfold rdC; rw [hk]; rfl, iown_lat ho hb hr2 h hb1.size, ?_, hb1.trans (hb.mono hb1.size), hl⟩
  unfold laS
  rw [if_pos hk, ← he]
  exact Lat.map (k' := ImD.id) (g' := ImD.gone) (fun x : ImH => x.X) (fun _ => rfl) (fun _ => rfl) h
theorem im_cap {w : World} {B : Nat} {v : Value} {hs : List ImH} (h : IOwn w B v hs) : ∃ a c, v = .slice a hs.length c ∧ hs.length ≤ c ∧ GRow w a hs.length (hs.map hr) := by
  obtain ⟨a, c, rfl⟩ := im_slice h
  refine ⟨a, c, rfl, ?_, im_row h⟩
  rcases h.row.2 with ⟨e, h0⟩ | ⟨g, cap, cur, e, _, _, h1, _⟩
  · injection e with _ e2 _
    omega
  · injection e with _ e2 e3
    rw [List.length_map] at h1
    omega
set_option maxRecDepth 100000 in
set_option maxHeartbeats 2000000 in
theorem implLatest_any (ah : Option Addr) (n c : Nat) (aw : Option Addr) (nw cw : Nat) (xs : List Int) (ws : List WD) (w : World) (hR : Row w ah n xs) (hW : WRow w aw nw ws) (hn : n ≤ 1048576) (hnw : nw ≤ 1048576) (hc : n ≤ c) (hc2 : c ≤ maxLen) (h8 : Bytes8 xs) (h8w : ∀ d ∈ ws, Bytes8 d.xs) :
    Calls Try.prog 19 #[fv ah n c aw nw cw] w fun e w' => LaRes xs ws w e w' := by
  have hxl := hR.1
  have H8 := hide (readD_bytes ws xs h8 h8w)
  clear h8 h8w
  have hwl := hW.1
  have b0 : Below w.heap.size w (w.alloc (.cells #[.slice ah n c, .slice aw nw cw] 28)) := (Below.refl _ _).alloc (Nat.le_refl _) _
  have HW := hide (hW.below b0)
  have HR := hide (row_grow hR b0)
  have B0 := hide b0
  have x0 : (w.alloc (.cells #[.slice ah n c, .slice aw nw cw] 28)).cell? ⟨w.heap.size, 0, none⟩ = some (.slice ah n c) := (cell_new rfl).trans rfl
  have x1 : (w.alloc (.cells #[.slice ah n c, .slice aw nw cw] 28)).cell? ⟨w.heap.size, 1, none⟩ = some (.slice aw nw cw) := (cell_new rfl).trans rfl
  have hz : (w.alloc (.cells #[.slice ah n c, .slice aw nw cw] 28)).heap.size = w.heap.size + 1 := by simp
  clear hR hW b0
  go_enter Try.func19, Try.ntmps19
  go_wp2_with fail
  generalize w.alloc (.cells #[.slice ah n c, .slice aw nw cw] 28) = w0 at *
  refine (implFlashOK_any ah n c aw nw cw ws w0 (by unfold maxLen; omega) (by unfold maxLen; omega) (unhide HW)).mono ?_
  rintro e w1 ⟨rfl, hb1⟩
  have y0 := (hb1.cell (p := ⟨w.heap.size, 0, none⟩) (show w.heap.size < w0.heap.size by omega)).trans x0
  have y1 := (hb1.cell (p := ⟨w.heap.size, 1, none⟩) (show w.heap.size < w0.heap.size by omega)).trans x1
  have hs1 := hb1.size
  have W1 := hide ((unhide HW).below hb1)
  have R1 := hide (row_grow (unhide HR) hb1)
  have B1 := hide ((unhide B0).trans (hb1.mono (by omega)))
  clear HW HR B0 hb1 x0 x1
  by_cases ho : okD n ws = true
  · rw [ho]
    obtain ⟨k1, k2, k3, k4⟩ := okD_parts ho
    have HO := hide (show okD xs.length ws = true by rw [hxl]; exact ho)
    have FW := hide (scan_few (unhide HO))
    obtain ⟨m, hm⟩ : ∃ m, n = m * 16 := ⟨n / 16, by omega⟩
    have hP := deviceOf_any ah m c aw nw cw xs ws w1 (by rw [← hm]; exact unhide R1) (unhide W1) (by omega) hc2 (by omega) (by omega) (fun i hi => k4 _ (List.getElem_mem hi))
    rw [← hm] at hP
    have HP := hide hP
    have HQ := hide (devDS_read (ws := ws) (show xs.length = m * 16 by omega) (by omega) k4)
    clear k1 k2 k3 k4 ho hP hm
    go_wp2_with fail
    refine (unhide HP).mono ?_
    rintro e w2 ⟨rfl, ⟨mh, mr, v, hd⟩, hb2⟩
    have B2 := hide ((unhide B1).trans (hb2.mono (by omega)))
    have hs2 := hb2.size
    have HD := hide hd
    clear hb2 y0 y1 HP hd
    go_wp2_with fail
    refine (bytes_any (w1.heap.size + 1 + 1) 2 mr 5000 (devDS xs m ws).rc (devDS xs m ws).rf w2 (unhide HD).read (unhide HD).rok.2.1 (unhide HD).rok.1 (unhide HD).c2 (unhide HD).c3).mono ?_
    rintro e w3 ⟨rfl, hM, hb3⟩
    rw [unhide HQ] at hM
    have hlen := (mine_row8 hM).2.1
    rw [hlen] at hM ⊢
    have M3 := hide hM
    have B3 := hide ((unhide B2).trans (hb3.mono (by omega)))
    clear hM hb3 HD HQ hlen
    go_wp2_with fail
    refine (scan_any _ (readD xs ws).length (readD xs ws).length (readD xs ws) w3 (mine_row8 (unhide M3)).1 (unhide H8) (by have := (unhide FW).1; omega) (Nat.le_refl _) (by have := (unhide FW).1; unfold maxLen; omega) (fun e => by cases e)).mono ?_
    rintro e w4 ⟨v, hs, rfl, hI, hX, hb4⟩
    have I4 := hide (hI.down (unhide B3).size)
    have X4 := hide hX
    have B4 := hide ((unhide B3).trans (hb4.mono (unhide B3).size))
    obtain ⟨a5, c5, rfl, hc5, hr5⟩ := im_cap hI
    have hl5 : hs.length ≤ 2048 := by have := (unhide FW).2; rw [← unhide X4, List.length_map] at this; exact this
    have R5 := hide hr5
    clear hI hX hb4 M3 B3 hr5
    go_wp2_with fail
    refine (lastOfEach_any a5 hs.length c5 hs w4 (unhide R5) (by omega) hc5).mono ?_
    rintro e w5 ⟨v5, R, rfl, hG, hLt, hb5, hle⟩
    have Z := hide (laRes_some (unhide HO) (unhide I4) (unhide X4) (unhide B4) hb5 hG hLt (by omega))
    clear hG hLt hb5 hle I4 X4 B4 R5
    go_wp2_with fail
    go_ret2
    exact unhide Z
  · have ho : okD n ws = false := by simpa using ho
    rw [ho]
    have HO := hide (show okD xs.length ws = false by rw [hxl]; exact ho)
    clear ho
    go_wp2_with fail
    go_ret2
    exact laRes_bad (unhide HO) (IOwn.nil _ _) (unhide B1)
set_option maxRecDepth 100000 in
set_option maxHeartbeats 2000000 in
theorem specLatest_any (b off n c : Nat) (aw : Option Addr) (nw cw : Nat) (xs : List Int) (ws : List WD) (w : World) (hR : Row w (some ⟨b, off, none⟩) n xs) (hW : WRow w aw nw ws) (hn : n ≤ 1048576) (hnw : nw ≤ 1048576) (h8 : Bytes8 xs) (h8w : ∀ d ∈ ws, Bytes8 d.xs) :
    Calls Try.prog 20 #[fv (some ⟨b, off, none⟩) n c aw nw cw] w fun e w' => LaRes xs ws w e w' := by
  have hxl := hR.1
  have H8 := hide (readD_bytes ws xs h8 h8w)
  clear h8 h8w
  have hwl := hW.1
  have b0 : Below w.heap.size w (w.alloc (.cells #[.slice (some ⟨b, off, none⟩) n c, .slice aw nw cw] 28)) := (Below.refl _ _).alloc (Nat.le_refl _) _
  have HW := hide (hW.below b0)
  have HR := hide (row_grow hR b0)
  have B0 := hide b0
  have x0 : (w.alloc (.cells #[.slice (some ⟨b, off, none⟩) n c, .slice aw nw cw] 28)).cell? ⟨w.heap.size, 0, none⟩ = some (.slice (some ⟨b, off, none⟩) n c) := (cell_new rfl).trans rfl
  have x1 : (w.alloc (.cells #[.slice (some ⟨b, off, none⟩) n c, .slice aw nw cw] 28)).cell? ⟨w.heap.size, 1, none⟩ = some (.slice aw nw cw) := (cell_new rfl).trans rfl
  have hz : (w.alloc (.cells #[.slice (some ⟨b, off, none⟩) n c, .slice aw nw cw] 28)).heap.size = w.heap.size + 1 := by simp
  clear hR hW b0
  go_enter Try.func20, Try.ntmps20
  go_wp2_with fail
  generalize w.alloc (.cells #[.slice (some ⟨b, off, none⟩) n c, .slice aw nw cw] 28) = w0 at *
  refine (specFlashOK_any (some ⟨b, off, none⟩) n c aw nw cw ws w0 (by unfold maxLen; omega) (by unfold maxLen; omega) (unhide HW)).mono ?_
  rintro e w1 ⟨rfl, hb1⟩
  have y0 := (hb1.cell (p := ⟨w.heap.size, 0, none⟩) (show w.heap.size < w0.heap.size by omega)).trans x0
  have y1 := (hb1.cell (p := ⟨w.heap.size, 1, none⟩) (show w.heap.size < w0.heap.size by omega)).trans x1
  have hs1 := hb1.size
  have W1 := hide ((unhide HW).below hb1)
  have R1 := hide (row_grow (unhide HR) hb1)
  have B1 := hide ((unhide B0).trans (hb1.mono (by omega)))
  clear HW HR B0 hb1 x0 x1
  by_cases ho : okD n ws = true
  · rw [ho]
    obtain ⟨k1, k2, k3, k4⟩ := okD_parts ho
    have HO := hide (show okD xs.length ws = true by rw [hxl]; exact ho)
    have FW := hide (scan_few (unhide HO))
    have HP := hide (fun c => l02Read_any b off n c aw nw cw xs ws w1 (unhide R1) (unhide W1) k2 k1 (by omega) k4)
    clear k1 k2 k3 k4 ho
    go_wp2_with fail
    refine (unhide HP _).mono ?_
    rintro e w2 ⟨g, cap, rfl, hO, hb2⟩
    have M3 := hide (mine_row8 (mine_of_owns hO))
    have B3 := hide ((unhide B1).trans (hb2.mono (by omega)))
    clear hO hb2 y0 y1 HP
    go_wp2_with fail
    refine (l03Scan_any _ (readD xs ws).length cap (readD xs ws) w2 (unhide M3).1 (unhide H8) (by have := (unhide FW).1; omega) (unhide M3).2.2.1 (unhide M3).2.2.2).mono ?_
    rintro e w4 ⟨v, hs, rfl, hI, hX, hb4⟩
    have I4 := hide (hI.down (unhide B3).size)
    have X4 := hide hX
    have B4 := hide ((unhide B3).trans (hb4.mono (unhide B3).size))
    obtain ⟨a5, c5, rfl, hc5, hr5⟩ := im_cap hI
    have hl5 : hs.length ≤ 2048 := by have := (unhide FW).2; rw [← unhide X4, List.length_map] at this; exact this
    have R5 := hide hr5
    clear hI hX hb4 M3 B3 hr5
    go_wp2_with fail
    refine (l03Latest_any a5 hs.length c5 hs w4 (unhide R5) (by omega)).mono ?_
    rintro e w5 ⟨g5, n5, c6, R, rfl, hG, hLt, hb5, hle⟩
    have Z := hide (laRes_some (unhide HO) (unhide I4) (unhide X4) (unhide B4) hb5 hG.gowns hLt (by omega))
    clear hG hLt hb5 hle I4 X4 B4 R5
    go_wp2_with fail
    go_ret2
    exact unhide Z
  · have ho : okD n ws = false := by simpa using ho
    rw [ho]
    have HO := hide (show okD xs.length ws = false by rw [hxl]; exact ho)
    clear ho
    go_wp2_with fail
    go_ret2
    exact laRes_bad (unhide HO) (IOwn.lit (by omega)) ((unhide B1).alloc (by omega) _)
end Go.Proofs.Ytocdbijmpecdgaa

namespace Go.Proofs.Ytocdbijmpecdgaa
open Go.RowKit Go.Maps

/-- Images that lie somewhere: their headers in a row, the bytes of each in a row of its own; all of them are right. -/
structure ImgsAt (w : World) (a : Option Addr) (n : Nat) (hs : List ImH) : Prop where
  row : GRow w a n (hs.map hr)
  dat : ∀ i (hi : i < hs.length), Row w (some ⟨hs[i].g, 0, none⟩) hs[i].X.xs.length hs[i].X.xs
  ok : ∀ i (hi : i < hs.length), hs[i].X.ok = true ∧ Bytes8 hs[i].X.xs
theorem ImgsAt.below {w w' : World} {a : Option Addr} {n : Nat} {hs : List ImH} (h : ImgsAt w a n hs) (hb : Below w.heap.size w w') : ImgsAt w' a n hs :=
  ⟨GRow.below h.row hb, fun i hi => row_grow (h.dat i hi) hb, h.ok⟩
/-- Bytes appended to a row of the call's own. -/
theorem cn_app {w : World} {B g so c m : Nat} {v : Value} {xs ys : List Int} (h : Owns w B v xs) (hr : Row w (some ⟨g, so, none⟩) m ys) (hz : xs.length + m ≤ 100000) (hm : 0 < m) (hB : B ≤ w.heap.size) :
    ∃ v' w', (Builtin.append_ #[22, 22] 22 #[v, .slice (some ⟨g, so, none⟩) m c]).run Try.prog w = .ok v' w' ∧ Owns w' B v' (xs ++ ys) ∧ w.grownBy w' v.ownBlock ∧ v' ≠ .slice none 0 0 := by
  obtain ⟨i0, hi0, hz0, hz1, hz2⟩ := info_parts Try.infoU8
  obtain rfl := hr.1
  have hs : ∀ j u, (ys.map (Value.int .u8))[j]? = some u → w.cell? ((⟨g, so, none⟩ : Addr).add j) = some u := fun j u hu => by
    have hj : j < ys.length := by simpa using (List.getElem?_eq_some_iff.1 hu).1
    obtain ⟨b', off', e, hc⟩ := hr.2 j hj
    cases e
    have e2 : (⟨g, so, none⟩ : Addr).add j = ⟨g, so + j, none⟩ := by unfold Addr.add; split <;> simp_all
    rw [e2, hc]
    rw [List.getElem?_map] at hu
    rw [← hu]
    simp [List.getD, hj]
  obtain ⟨v', w', hrun, ho, hg, hv, -⟩ := app_at (P := Try.prog) (w := w) (B := B) 22 22 5 Try.underlying22 hi0 hz0 hz1 hz2 rfl (by decide) h ⟨g, so, none⟩ ys.length c (ys.map (Value.int .u8)) (by simp) hs (all_u8 _) (by unfold maxLen; omega) (by omega) hB (fun _ => by omega)
  refine ⟨v', w', hrun, ?_, hg, hv⟩
  unfold Owns
  rw [List.length_append, List.map_append]
  exact ho
theorem owns_slice {w : World} {B : Nat} {v : Value} {xs : List Int} (h : Owns w B v xs) : ∃ a c, v = .slice a xs.length c ∧ xs.length ≤ c ∧ c ≤ maxLen ∧ Row w a xs.length xs ∧ ∀ x, a = some x → x.block < w.heap.size := by
  obtain ⟨a, c, e, h1, h2, h3, h4⟩ := mine_of_owns h
  exact ⟨a, c, e, h1, h2, h3, fun x hx => (h4 x hx).2.1⟩
theorem DevAt.down {w : World} {base B p mh mr N : Nat} {v : Value} {S : DS} (h : DevAt w base p mh mr v N S) (hb : B ≤ base) : DevAt w B p mh mr v N S :=
  ⟨h.c0, h.c1, h.c2, h.c3, h.c4, h.kind, h.held, h.read, ownsRow_down h.wait hb, ⟨Nat.le_trans hb h.low.1, Nat.le_trans hb h.low.2.1, Nat.le_trans hb h.low.2.2⟩, h.apart, h.far, h.hok, h.rok, h.wok⟩
/-- What deviceWith leaves: a device that holds the images' bytes alone. -/
def DwRes (hs : List ImH) (w : World) (e : Ending) (w' : World) : Prop :=
  ∃ p S, e = .returned (.tuple #[.pointer (some ⟨p, 0, none⟩), .int .i64 0]) ∧ Dev w' w.heap.size p 6000 S ∧ S.ws = [] ∧ secBytes S.hc S.hf = padB (flatI (hs.map (·.X))) ∧ Below w.heap.size w w'
theorem flat_take (hs : List ImH) (k : Nat) (hk : k < hs.length) : flatI ((hs.take (k + 1)).map (·.X)) = flatI ((hs.take k).map (·.X)) ++ hs[k].X.by := by
  rw [List.take_succ_eq_append_getElem hk, List.map_append, flatI]
  simp [flatI]
theorem flat_take_le (hs : List ImH) (k : Nat) : (flatI ((hs.take k).map (·.X))).length ≤ (flatI (hs.map (·.X))).length := by
  have e : flatI (hs.map (·.X)) = flatI ((hs.take k).map (·.X)) ++ flatI ((hs.drop k).map (·.X)) := by
    have := congrArg (fun l : List ImH => flatI (l.map (·.X))) (List.take_append_drop k hs).symm
    simp only [List.map_append, flatI, List.flatMap_append] at this ⊢
    exact this
  rw [e, List.length_append]
  omega
set_option maxRecDepth 100000 in
set_option maxHeartbeats 4000000 in
theorem deviceWith_any (a : Option Addr) (n c : Nat) (hs : List ImH) (w : World) (hI : ImgsAt w a n hs) (hn : n ≤ 100000) (hlen : (flatI (hs.map (·.X))).length ≤ 2048) :
    Calls Try.prog 64 #[.slice a n c] w fun e w' => DwRes hs w e w' := by
  have LN := hide (show hs.length = n by simpa using hI.row.1)
  have II := hide hI
  have HL := hide hlen
  clear hI hlen
  go_enter Try.func64, Try.ntmps64
  go_wp2_with fail
  go_loopw [4, 11] (fun v i wr => ∃ k : Nat, k ≤ n ∧ i = .int .i64 (k : Int) ∧ Hid (Owns wr w.heap.size v (flatI ((hs.take k).map (·.X)))) ∧ Hid (Below w.heap.size w wr)) (fun _ i _ => n - (intOf i).toNat)
  case atStart => exact ⟨0, Nat.zero_le _, rfl, World.ownsRow_nil _ _ _ _, Below.refl _ _⟩
  case round =>
    obtain ⟨k, hk, rfl, hO, hB⟩ := hrel
    by_cases hlt : k < n
    · have hkh : k < hs.length := by rw [unhide LN]; exact hlt
      have hIk := (unhide II).below (unhide hB)
      obtain ⟨b, off, ha, hbl, x0, x1, x2⟩ := lts_cells hIk.row k hkh
      subst ha
      have OK := hide (hIk.ok k hkh)
      have DT := hide (hIk.dat k hkh)
      have hfl := hide (flat_take_le hs (k + 1))
      have FT := hide (flat_take hs k hkh)
      have bl := hide (ImD.by_len hs[k].X)
      clear hIk
      obtain ⟨x, hx⟩ : ∃ x, x = hs[k] := ⟨_, rfl⟩
      rw [← hx] at x0 x1 x2 OK DT FT bl
      clear hx
      go_wp2_with fail
      have b1 : Below wr.heap.size wr (wr.alloc (.cells #[.int .i64 x.X.id, .bool x.X.gone, .slice (some ⟨x.g, 0, none⟩) x.X.xs.length x.c] 45)) := (Below.refl _ _).alloc (Nat.le_refl _) _
      have O1 := hide (owns_below (unhide hO) b1)
      have B1 := hide ((unhide hB).trans (b1.mono (unhide hB).size))
      have D1 := hide (row_grow (unhide DT) b1)
      clear x0 x1 x2 hO hB DT b1
      generalize wr.alloc (.cells #[.int .i64 x.X.id, .bool x.X.gone, .slice (some ⟨x.g, 0, none⟩) x.X.xs.length x.c] 45) = W1 at *
      refine (imageBytes_any0 x.X.id x.X.gone x.g 0 x.c x.X.xs W1 (unhide OK).1 (unhide D1) (unhide OK).2).mono ?_
      rintro e w2 ⟨v2, rfl, hO2, hv2, hb2⟩
      obtain ⟨g2, cap2, rfl, _, _, _, _⟩ := owns_form hO2 hv2
      have hl2 := unhide bl
      obtain ⟨v3, w3, hrun, hO3, hg3, hv3⟩ := cn_app (c := cap2) (owns_below (unhide O1) hb2) (row_of_owns hO2) (by rw [imgL_length]; have h1 := unhide hfl; have h2 := unhide HL; rw [unhide FT, List.length_append, hl2] at h1; omega) (by rw [imgL_length]; omega) (Nat.le_trans (unhide B1).size hb2.size)
      have B2 := (unhide B1).trans (hb2.mono (unhide B1).size)
      have B3 := hide (B2.grown hg3 B2.size (fun q hq => ((owns_below (unhide O1) hb2).lt q hq).1))
      have O3 := hide (show Owns w3 w.heap.size v3 (flatI ((hs.take (k + 1)).map (·.X))) by rw [unhide FT]; exact hO3)
      clear hO2 hv2 hb2 hO3 hg3 O1 B1 D1 B2 OK FT bl hl2 hfl
      go_wp2_with (at_builtin; refine sc_wpApp rfl (.tmp 15) (.tmp 17) 22 rfl _ _ _ w3 rfl rfl hrun ?_)
      go_roundw
      case rel => exact ⟨k + 1, by omega, by go_num, unhide O3, unhide B3⟩
      case measure => simp [intOf]; omega
    · obtain rfl : k = n := by omega
      have O0 := unhide hO
      rw [List.take_of_length_le (by rw [unhide LN]; exact Nat.le_refl _)] at O0
      obtain ⟨ad, cd, rfl, hcd, hcd2, hrd, had⟩ := owns_slice O0
      obtain ⟨d, hd⟩ : ∃ d, d = flatI (hs.map (·.X)) := ⟨_, rfl⟩
      rw [← hd] at hcd hrd ⊢
      have hdl : d.length ≤ 2048 := by rw [hd]; exact unhide HL
      have HD := hide hd
      have HDV := hide (deviceOf_any none 0 0 none 0 0 [] [] wr ⟨rfl, fun i hi => absurd hi (by omega)⟩ ⟨rfl, fun i hi => absurd hi (Nat.not_lt_zero _)⟩ (by omega) (by unfold maxLen; omega) (by omega) (by omega) (fun i hi => absurd hi (Nat.not_lt_zero _)))
      rw [Nat.zero_mul] at HDV
      have RD := hide hrd
      have AD := hide had
      clear O0 hO hd hrd had
      go_wp2_with fail
      refine (unhide HDV).mono ?_
      rintro e w2 ⟨rfl, hD, hb⟩
      have hz0 := (unhide hB).size
      have B2 := hide ((unhide hB).trans (hb.mono hz0))
      have tl := (touch_le (at_ := 0) (n := d.length) (by omega)).1
      have HWR := hide (write_any wr.heap.size (wr.heap.size + 1 + 1) 5000 0 d.length cd ad d (devDS [] 0 []) w2 hD (by omega) rfl (by omega) (by simp [devDS, startDS]; omega) hcd hcd2 (fun w' h1 _ => (row_grow (unhide RD) (hb.trans h1))))
      clear hb hD HDV hB
      generalize wr.heap.size + 1 + 1 = dp at *
      go_wp2_with fail
      refine (unhide HWR).mono ?_
      rintro e w3 ⟨rfl, hD, hb, _⟩
      have B3 := hide ((unhide B2).trans (hb.mono hz0))
      have HD3 := hide hD
      clear hb hD HWR B2
      have HS := hide (show secBytes (wrDS (devDS [] 0 []) 0 d (touchN 0 d.length)).rc (wrDS (devDS [] 0 []) 0 d (touchN 0 d.length)).rf = padB d from by
        have hsk : secOK (devDS [] 0 []).rc (devDS [] 0 []).rf := secFn_ok (xs := []) (m := 0) rfl (by omega)
        have e0 : secBytes (devDS [] 0 []).rc (devDS [] 0 []).rf = [] := rfl
        by_cases h0 : d.length = 0
        · have : d = [] := List.eq_nil_of_length_eq_zero h0
          subst this
          rfl
        · rw [wrDS_bytes _ _ _ hsk (by omega), e0, allW_start])
      generalize wrDS (devDS [] 0 []) 0 d (touchN 0 d.length) = S3 at *
      go_wp2_with fail
      refine (sync_any wr.heap.size dp (5000 + 128) S3 w3 (unhide HD3)).mono ?_
      rintro e w4 ⟨rfl, ⟨mh, mr, v, hd4⟩, hb⟩
      have B4 := (unhide B3).trans (hb.mono hz0)
      have Z := hide (show DwRes hs w (.returned (.tuple #[.pointer (some ⟨dp, 0, none⟩), .int .i64 0])) w4 from
        ⟨dp, _, rfl, ⟨mh, mr, v, (hd4.mono (by omega)).down hz0⟩, rfl, by rw [← unhide HD]; exact unhide HS, B4⟩)
      clear hb hd4 HS HD3 B3 B4 HD RD AD
      go_wp2_with fail
      go_ret2
      exact unhide Z
/-- What both sides' Clean leave. -/
def CnRes (xs : List Int) (ws : List WD) (w : World) (e : Ending) (w' : World) : Prop :=
  ∃ L a cap, Lat ImD.id ImD.gone (laS xs ws) L ∧ e = .returned (.tuple #[fv a (padB (flatI L)).length cap none 0 0, .int .i64 (rdC xs ws)]) ∧ Mine w' w.heap.size (.slice a (padB (flatI L)).length cap) (padB (flatI L)) ∧ Below w.heap.size w w'
theorem cnRes_bad {xs : List Int} {ws : List WD} {w w' : World} (h : okD xs.length ws = false) (hb : Below w.heap.size w w') : CnRes xs ws w (.returned (.tuple #[fv none 0 0 none 0 0, .int .i64 1])) w' :=
  ⟨[], none, 0, by unfold laS; rw [h]; exact Lat.nil _ _, by unfold rdC; rw [h]; rfl, mine_nil _ _, hb⟩
/-- The boxes of Clean: the device, the result. -/
structure CnB (B : Nat) (W : World) (ah : Option Addr) (n c : Nat) (aw : Option Addr) (nw cw : Nat) : Prop where
  f0 : W.cell? ⟨B, 0, none⟩ = some (.slice ah n c)
  f1 : W.cell? ⟨B, 1, none⟩ = some (.slice aw nw cw)
  r0 : W.cell? ⟨B + 1, 0, none⟩ = some (.slice none 0 0)
  r1 : W.cell? ⟨B + 1, 1, none⟩ = some (.slice none 0 0)
  z0 : W.frozen? ⟨B + 1, 0, none⟩ = false
  z1 : W.frozen? ⟨B + 1, 1, none⟩ = false
  size : B + 2 ≤ W.heap.size
theorem CnB.start (w : World) (ah : Option Addr) (n c : Nat) (aw : Option Addr) (nw cw : Nat) :
    CnB w.heap.size ((w.alloc (.cells #[.slice ah n c, .slice aw nw cw] 28)).alloc (.cells #[.slice none 0 0, .slice none 0 0] 28)) ah n c aw nw cw :=
  ⟨(cell_old (by simp)).trans ((cell_new rfl).trans rfl), (cell_old (by simp)).trans ((cell_new rfl).trans rfl), (cell_new (by simp)).trans rfl, (cell_new (by simp)).trans rfl, frozen_new (by simp), frozen_new (by simp), by simp⟩
theorem CnB.step {B k : Nat} {W W2 : World} {ah : Option Addr} {n c : Nat} {aw : Option Addr} {nw cw : Nat} (h : CnB B W ah n c aw nw cw) (hb : Below k W W2) (hk : B + 2 ≤ k) : CnB B W2 ah n c aw nw cw :=
  have hs := h.size
  ⟨(hb.cell (p := ⟨B, 0, none⟩) (by simp; omega)).trans h.f0, (hb.cell (p := ⟨B, 1, none⟩) (by simp; omega)).trans h.f1, (hb.cell (p := ⟨B + 1, 0, none⟩) (by simp; omega)).trans h.r0, (hb.cell (p := ⟨B + 1, 1, none⟩) (by simp; omega)).trans h.r1, (hb.frozen (p := ⟨B + 1, 0, none⟩) (by simp; omega)).trans h.z0, (hb.frozen (p := ⟨B + 1, 1, none⟩) (by simp; omega)).trans h.z1, Nat.le_trans hs hb.size⟩
theorem lat_imgs {xs : List Int} {ws : List WD} {w : World} {B : Nat} {a : Option Addr} {n c : Nat} {hs : List ImH} (hk : okD xs.length ws = true) (h8 : Bytes8 (readD xs ws)) (ho : IOwn w B (.slice a n c) hs) (hr : GRow w a n (hs.map hr)) (hL : Lat ImD.id ImD.gone (laS xs ws) (hs.map (·.X))) : ImgsAt w a n hs := by
  refine ⟨hr, fun i hi => (ho.dat i hi).row, fun i hi => ?_⟩
  have hm : hs[i].X ∈ laS xs ws := lat_in hL (List.mem_map_of_mem (f := fun x : ImH => x.X) (List.getElem_mem hi))
  unfold laS at hm
  rw [if_pos hk] at hm
  exact scanI_ok _ h8 _ _ _ hm
set_option maxRecDepth 100000 in
set_option maxHeartbeats 4000000 in
theorem implClean_any (ah : Option Addr) (n c : Nat) (aw : Option Addr) (nw cw : Nat) (xs : List Int) (ws : List WD) (w : World) (hR : Row w ah n xs) (hW : WRow w aw nw ws) (hn : n ≤ 1048576) (hnw : nw ≤ 1048576) (hc : n ≤ c) (hc2 : c ≤ maxLen) (h8 : Bytes8 xs) (h8w : ∀ d ∈ ws, Bytes8 d.xs) :
    Calls Try.prog 21 #[fv ah n c aw nw cw] w fun e w' => CnRes xs ws w e w' := by
  have H8 := hide (readD_bytes ws xs h8 h8w)
  have b0 : Below w.heap.size w ((w.alloc (.cells #[.slice ah n c, .slice aw nw cw] 28)).alloc (.cells #[.slice none 0 0, .slice none 0 0] 28)) := ((Below.refl _ _).alloc (Nat.le_refl _) _).alloc (by simp) _
  have T := hide (CnB.start w ah n c aw nw cw)
  have B := hide b0
  have HL := hide (fun W (hb : Below w.heap.size w W) => implLatest_any ah n c aw nw cw xs ws W (row_grow hR hb) (hW.below hb) hn hnw hc hc2 h8 h8w)
  have hz : ((w.alloc (.cells #[.slice ah n c, .slice aw nw cw] 28)).alloc (.cells #[.slice none 0 0, .slice none 0 0] 28)).heap.size = w.heap.size + 2 := by simp
  clear hR hW b0 h8 h8w
  go_enter Try.func21, Try.ntmps21
  go_wp2_with fail
  generalize (w.alloc (.cells #[.slice ah n c, .slice aw nw cw] 28)).alloc (.cells #[.slice none 0 0, .slice none 0 0] 28) = w0 at *
  have z0 : w.heap.size + 2 ≤ w0.heap.size := by omega
  clear hz
  refine (unhide HL w0 (unhide B)).mono ?_
  rintro e w1 ⟨v, hs, rfl, hO, hLt, hb, hl⟩
  obtain ⟨a1, c1, rfl, hc1, hr1⟩ := im_cap hO
  replace T := hide ((unhide T).step hb z0)
  replace B := hide ((unhide B).trans (hb.mono (by omega)))
  have z1 : w.heap.size + 2 ≤ w1.heap.size := Nat.le_trans z0 hb.size
  clear hb HL
  have r0 := (unhide T).r0
  have r1 := (unhide T).r1
  have y0 := (unhide T).z0
  have y1 := (unhide T).z1
  by_cases ho : okD xs.length ws = true
  · have hrc : rdC xs ws = 0 := by unfold rdC; rw [ho]; rfl
    have LL := hide (show Lat ImD.id ImD.gone (scanB (readD xs ws)).1 (hs.map (·.X)) by have := hLt; unfold laS at this; rw [if_pos ho] at this; exact this)
    have HLT := hide hLt
    have HRC := hide hrc
    have DW := hide (deviceWith_any a1 hs.length c1 hs w1 (lat_imgs ho (unhide H8) hO hr1 hLt) (by omega) (lat_room ho (unhide LL)))
    rw [hrc]
    clear hO hLt hr1 ho hrc
    go_wp2_with fail
    refine (unhide DW).mono ?_
    rintro e w2 ⟨p, S, rfl, hD, hw, hsb, hb⟩
    replace T := hide ((unhide T).step hb z1)
    replace B := hide ((unhide B).trans (hb.mono (by omega)))
    have z2 : w.heap.size + 2 ≤ w2.heap.size := Nat.le_trans z1 hb.size
    have hlen : S.hc * 16 = (padB (flatI (hs.map (·.X)))).length := by
      obtain ⟨mh, mr, v, hd⟩ := hD
      rw [← hsb]
      exact (secBytes_len _ hd.hok.2.1 _).symm
    have HF := hide (flash0_any w1.heap.size p 6000 S w2 hD hw)
    rw [hsb, hlen] at HF
    clear hD hw hsb hlen hb DW r0 r1 y0 y1
    generalize hzz : padB (flatI (hs.map (·.X))) = zs at *
    have HZ := hide hzz
    clear hzz
    go_wp2_with fail
    refine (unhide HF).mono ?_
    rintro e w3 ⟨g, rfl, hM, hb⟩
    replace T := hide ((unhide T).step hb z2)
    replace B := hide ((unhide B).trans (hb.mono (by omega)))
    have z3 : w.heap.size + 1 < w3.heap.size := by have := hb.size; omega
    have M3 := hide hM
    have r0 := (unhide T).r0
    have r1 := (unhide T).r1
    have y0 := (unhide T).z0
    have y1 := (unhide T).z1
    clear hb hM HF
    go_wp2_with fail
    have R1' := hide (mine_set (mine_set (unhide M3) (show w.heap.size + 1 < w2.heap.size by omega) 0 (.slice (some ⟨g, 0, none⟩) zs.length zs.length)) (show w.heap.size + 1 < w2.heap.size by omega) 1 (.slice none 0 0))
    have R2' := hide (((unhide B).setCell (p := ⟨w.heap.size + 1, 0, none⟩) (by simp) (.slice (some ⟨g, 0, none⟩) zs.length zs.length)).setCell (p := ⟨w.heap.size + 1, 1, none⟩) (by simp) (.slice none 0 0))
    refine bodyPost_ret (v := .tuple #[fv (some ⟨g, 0, none⟩) zs.length zs.length none 0 0, .int .i64 0]) (by simp [results, Try.results21, go_sem, r0, r1]) rfl ⟨_, some ⟨g, 0, none⟩, zs.length, unhide HLT, by rw [unhide HZ, unhide HRC], by rw [unhide HZ]; exact mine_mono (unhide R1') (by omega), unhide R2'⟩
  · have ho : okD xs.length ws = false := by simpa using ho
    have hrc : rdC xs ws = 1 := by unfold rdC; rw [ho]; rfl
    have HO := hide ho
    rw [hrc]
    have BAD := hide (((unhide B).setCell (p := ⟨w.heap.size + 1, 0, none⟩) (by simp) (.slice none 0 0)).setCell (p := ⟨w.heap.size + 1, 1, none⟩) (by simp) (.slice none 0 0))
    clear hO hLt hr1 ho hrc
    go_wp2_with fail
    refine bodyPost_ret (v := .tuple #[fv none 0 0 none 0 0, .int .i64 1]) (by simp [results, Try.results21, go_sem, r0, r1]) rfl (cnRes_bad (unhide HO) (unhide BAD))
end Go.Proofs.Ytocdbijmpecdgaa

namespace Go.Proofs.Ytocdbijmpecdgaa
open Go.RowKit Go.Maps

set_option maxHeartbeats 2000000 in
theorem write_full (p at_ n c : Nat) (ad : Option Addr) (w : World) (h : ¬ at_ + n ≤ 2048) (ha : at_ ≤ 1000000) :
    Calls Try.prog 57 #[.pointer (some ⟨p, 0, none⟩), .int .i64 (at_ : Int), .slice ad n c] w fun e w' => e = .returned (.int .i64 7) ∧ w' = w := by
  have h0 : ¬ ((at_ : Int) < 0) := by omega
  have wr : IntKind.i64.wrap (2048 - (at_ : Int)) = 2048 - (at_ : Int) := by rw [IntKind.wrap_i64]; omega
  by_cases h1 : 2048 < at_
  · have h2 : (2048 : Int) < (at_ : Int) := by omega
    go_enter Try.func57, Try.ntmps57
    go_wp2_with fail
    go_ret
    exact ⟨rfl, rfl⟩
  · have h2 : ¬ ((2048 : Int) < (at_ : Int)) := by omega
    have h3 : 2048 - (at_ : Int) < (n : Int) := by omega
    go_enter Try.func57, Try.ntmps57
    go_wp2_with fail
    go_ret
    exact ⟨rfl, rfl⟩
end Go.Proofs.Ytocdbijmpecdgaa

namespace Go.Proofs.Ytocdbijmpecdgaa
open Go.RowKit Go.Maps

/-- Bytes of the call's own stay where rows of bytes stay. -/
theorem owns_keep {w : World} {B g cap : Nat} {xs : List Int} (h : Owns w B (.slice (some ⟨g, 0, none⟩) xs.length cap) xs) {w' : World} (hk : KeepB w w') : Row w' (some ⟨g, 0, none⟩) xs.length xs := by
  have hr := row_of_owns h
  rcases h.2 with ⟨e, _⟩ | ⟨g', cap', cur, e, _, hh, _⟩
  · cases e
  · injection e with e _ _
    injection e with e
    injection e with e
    subst e
    exact hr.of_cells fun x hx p hp => by
      cases hx
      exact World.cell?_of_block (w := w) (by rw [hp]; exact hk _ _ _ hh)
set_option maxRecDepth 100000 in
set_option maxHeartbeats 4000000 in
theorem implStore_gen (ah : Option Addr) (n c : Nat) (aw : Option Addr) (nw cw : Nat) (xs : List Int) (ws : List WD) (id : Int) (gone : Bool) (ai : Option Addr) (ci : Nat) (ds : List Int) (w : World) (hR : Row w ah n xs) (hW : WRow w aw nw ws) (hn : n ≤ 1048576) (hnw : nw ≤ 1048576) (hc : n ≤ c) (hc2 : c ≤ maxLen) (h8 : Bytes8 xs) (h8w : ∀ d ∈ ws, Bytes8 d.xs) (hd : ds.length ≤ 1048576)
    (hIB : imOK id gone ds.length = true → ∀ W, Below w.heap.size w W → Calls Try.prog 58 #[iv id gone ai ds.length ci] W fun e w' => ∃ v, e = .returned v ∧ Owns w' W.heap.size v (imgL id gone ds) ∧ v ≠ .slice none 0 0 ∧ Below W.heap.size W w') :
    Calls Try.prog 16 #[fv ah n c aw nw cw, iv id gone ai ds.length ci] w fun e w' => StRes xs ws id gone ds w e w' := by
  have hxl := hR.1
  have hwl := hW.1
  have H8 := hide (readD_bytes ws xs h8 h8w)
  have b0 : Below w.heap.size w (((w.alloc (.cells #[.slice ah n c, .slice aw nw cw] 28)).alloc (.cells #[.int .i64 id, .bool gone, .slice ai ds.length ci] 45)).alloc (.cells #[.slice none 0 0, .slice none 0 0] 28)) := (((Below.refl _ _).alloc (Nat.le_refl _) _).alloc (by simp) _).alloc (by simp; omega) _
  have T := hide (StB.start w ah n c aw nw cw id gone ai ds.length ci)
  have HW := hide hW
  have HR := hide hR
  have HI := hide hIB
  have B := hide b0
  have hz : (((w.alloc (.cells #[.slice ah n c, .slice aw nw cw] 28)).alloc (.cells #[.int .i64 id, .bool gone, .slice ai ds.length ci] 45)).alloc (.cells #[.slice none 0 0, .slice none 0 0] 28)).heap.size = w.heap.size + 3 := by simp
  clear hR hW hIB b0 h8 h8w
  go_enter Try.func16, Try.ntmps16
  go_wp2_with fail
  generalize ((w.alloc (.cells #[.slice ah n c, .slice aw nw cw] 28)).alloc (.cells #[.int .i64 id, .bool gone, .slice ai ds.length ci] 45)).alloc (.cells #[.slice none 0 0, .slice none 0 0] 28) = w0 at *
  have z0 : w.heap.size + 3 ≤ w0.heap.size := by omega
  clear hz
  refine (implFlashOK_any ah n c aw nw cw ws w0 (by unfold maxLen; omega) (by unfold maxLen; omega) ((unhide HW).below (unhide B))).mono ?_
  rintro e w1 ⟨rfl, hb⟩
  replace T := hide ((unhide T).step hb z0)
  replace B := hide ((unhide B).trans (hb.mono (by omega)))
  have z1 : w.heap.size + 3 ≤ w1.heap.size := Nat.le_trans z0 hb.size
  clear hb
  have BAD := hide (fun (W : World) (h : Below w.heap.size w W) => ((h.setCell (p := ⟨w.heap.size + 1 + 1, 0, none⟩) (by simp; omega) (.slice none 0 0)).setCell (p := ⟨w.heap.size + 1 + 1, 1, none⟩) (by simp; omega) (.slice none 0 0)))
  by_cases ho : okD n ws = true
  · rw [ho]
    have i0 := (unhide T).i0
    have i1 := (unhide T).i1
    have i2 := (unhide T).i2
    go_wp2_with fail
    clear i0 i1 i2
    refine (imageOK_any id gone ai ds.length ci w1 (by unfold maxLen; omega)).mono ?_
    rintro e w2 ⟨rfl, hb⟩
    replace T := hide ((unhide T).step hb z1)
    replace B := hide ((unhide B).trans (hb.mono (by omega)))
    have z2 : w.heap.size + 3 ≤ w2.heap.size := Nat.le_trans z1 hb.size
    clear hb
    have HO := hide (show okD xs.length ws = true by rw [hxl]; exact ho)
    by_cases hi : imOK id gone ds.length = true
    · rw [hi]
      have SOK := hide (show stOK xs ws id gone ds = true by unfold stOK; rw [unhide HO, hi]; rfl)
      have IOK := hide hi
      obtain ⟨k1, k2, k3, k4⟩ := okD_parts ho
      have FW := hide (scan_few (unhide HO))
      have hE := stE_le (unhide HO)
      obtain ⟨m, hm⟩ : ∃ m, n = m * 16 := ⟨n / 16, by omega⟩
      have hP := deviceOf_any ah m c aw nw cw xs ws w2 (by rw [← hm]; exact row_grow (unhide HR) (unhide B)) ((unhide HW).below (unhide B)) (by omega) hc2 (by omega) (by omega) (fun i hi => k4 _ (List.getElem_mem hi))
      rw [← hm] at hP
      have HP := hide hP
      have HQ := hide (devDS_read (ws := ws) (show xs.length = m * 16 by omega) (by omega) k4)
      have hdl : ds.length ≤ 1000 := by have := of_decide_eq_true hi; exact this.2.2.1
      clear k1 k2 k3 k4 ho hi hP hm
      have f0 := (unhide T).f0
      have f1 := (unhide T).f1
      go_wp2_with fail
      clear f0 f1
      refine (unhide HP).mono ?_
      rintro e w3 ⟨rfl, hD, hb⟩
      replace T := hide ((unhide T).step hb z2)
      replace B := hide ((unhide B).trans (hb.mono (by omega)))
      have z3 : w2.heap.size ≤ w3.heap.size := hb.size
      have HD := hide hD
      clear hb hD HP HW HR
      generalize w2.heap.size + 1 + 1 = dp at *
      generalize w2.heap.size = base at *
      go_wp2_with fail
      refine (sync_any base dp 5000 (devDS xs m ws) w3 (unhide HD)).mono ?_
      rintro e w4 ⟨rfl, hD, hb⟩
      replace T := hide ((unhide T).step hb z2)
      replace B := hide ((unhide B).trans (hb.mono (by omega)))
      replace z3 := Nat.le_trans z3 hb.size
      clear hb HD
      generalize (devDS xs m ws).rc = rc at *
      generalize (devDS xs m ws).rf = rf at *
      obtain ⟨mh, mr, v, hd⟩ := hD
      have HD := hide hd
      clear hd
      go_wp2_with fail
      refine (bytes_any dp 2 mr 5000 rc rf w4 (unhide HD).read (unhide HD).rok.2.1 (unhide HD).rok.1 (unhide HD).c2 (unhide HD).c3).mono ?_
      rintro e w5 ⟨rfl, hM, hb⟩
      rw [unhide HQ] at hM
      have hlen := (mine_row8 hM).2.1
      rw [hlen] at hM ⊢
      have M3 := hide hM
      replace HD := hide ((unhide HD).below hb)
      replace T := hide ((unhide T).step (hb.mono z3) z2)
      replace B := hide ((unhide B).trans (hb.mono (by omega)))
      replace z3 := Nat.le_trans z3 hb.size
      clear hM hb hlen
      go_wp2_with fail
      refine (scan_any _ (readD xs ws).length (readD xs ws).length (readD xs ws) w5 (mine_row8 (unhide M3)).1 (unhide H8) (by have := (unhide FW).1; omega) (Nat.le_refl _) (by have := (unhide FW).1; unfold maxLen; omega) (fun e => by cases e)).mono ?_
      rintro e w6 ⟨vl, hs, rfl, _, _, hb⟩
      replace HD := hide ((unhide HD).below hb)
      replace T := hide ((unhide T).step (hb.mono z3) z2)
      replace B := hide ((unhide B).trans (hb.mono (by omega)))
      replace z3 := Nat.le_trans z3 hb.size
      clear hb M3
      rw [show (scanB (readD xs ws)).2 = stE xs ws from rfl]
      generalize hst : stE xs ws = E at *
      have HST := hide hst
      clear hst
      have i0 := (unhide T).i0
      have i1 := (unhide T).i1
      have i2 := (unhide T).i2
      go_wp2_with fail
      clear i0 i1 i2
      refine (unhide HI (unhide IOK) w6 (unhide B)).mono ?_
      rintro e w7 ⟨v7, rfl, hO7, hv7, hb⟩
      obtain ⟨g7, cap7, rfl, hg7, hg7l, hc7, hc7m⟩ := owns_form hO7 hv7
      have O7 := hide hO7
      replace HD := hide ((unhide HD).below hb)
      replace T := hide ((unhide T).step (hb.mono z3) z2)
      replace B := hide ((unhide B).trans (hb.mono (by omega)))
      replace z3 := Nat.le_trans z3 hb.size
      have HLL := hide (imgL_length id gone ds)
      clear hb hO7 hv7 IOK HI
      obtain ⟨L, hL⟩ : ∃ L, L = imgL id gone ds := ⟨_, rfl⟩
      rw [← hL] at O7 HLL hc7 ⊢
      have HL := hide hL
      clear hL
      by_cases hfit : E + (ds.length + 9) ≤ 2048
      · have SF := hide (st_fit (unhide SOK) (by rw [unhide HST]; exact hfit))
        have SN := hide (stNew_len (id := id) (gone := gone) (unhide HO) (by rw [unhide HST]; exact hfit))
        have tl := (touch_le (at_ := E) (n := L.length) (by have := unhide HLL; omega)).1
        have HWR := hide (write_any base dp 5000 E L.length cap7 (some ⟨g7, 0, none⟩) L ⟨rc, rf, rc, rf, []⟩ w7 ⟨mh, mr, v, unhide HD⟩ (by omega) rfl (by have := unhide HLL; omega) (by simp; omega) hc7 hc7m (fun w' _ h2 => owns_keep (unhide O7) h2))
        have RK := hide (unhide HD).rok
        go_wp2_with fail
        refine (unhide HWR).mono ?_
        rintro e w8 ⟨rfl, hD, hb, _⟩
        replace T := hide ((unhide T).step hb z2)
        replace B := hide ((unhide B).trans (hb.mono (by omega)))
        replace z3 := Nat.le_trans z3 hb.size
        have HD8 := hide hD
        have HN := hide (show secBytes (wrDS ⟨rc, rf, rc, rf, []⟩ E L (touchN E L.length)).rc (wrDS ⟨rc, rf, rc, rf, []⟩ E L (touchN E L.length)).rf = stNew xs ws id gone ds by
          rw [wrDS_read _ _ _ (unhide RK) (by have := unhide HLL; omega)]
          unfold stNew
          rw [unhide HST, ← unhide HL, ← unhide HQ])
        clear hb hD HWR O7 HL HD HQ RK
        generalize wrDS ⟨rc, rf, rc, rf, []⟩ E L (touchN E L.length) = S8 at *
        go_wp2_with fail
        refine (sync_any base dp (5000 + 128) S8 w8 (unhide HD8)).mono ?_
        rintro e w9 ⟨rfl, hD, hb⟩
        replace T := hide ((unhide T).step hb z2)
        replace B := hide ((unhide B).trans (hb.mono (by omega)))
        replace z3 := Nat.le_trans z3 hb.size
        have HF := hide (flash0_any base dp (5000 + 128) _ w9 hD rfl)
        have hlen : S8.rc * 16 = (stNew xs ws id gone ds).length := by
          obtain ⟨mh, mr, v, hd⟩ := hD
          rw [← unhide HN]
          exact (secBytes_len _ hd.rok.2.1 _).symm
        simp only [] at HF
        rw [unhide HN, hlen] at HF
        have hbig := (unhide SN).2
        clear hb hD HD8 hlen HN
        generalize hzz : stNew xs ws id gone ds = zs at *
        have HZ := hide hzz
        clear hzz
        go_wp2_with fail
        refine (unhide HF).mono ?_
        rintro e w10 ⟨g, rfl, hM, hb⟩
        replace T := hide ((unhide T).step (hb.mono z3) z2)
        replace B := hide ((unhide B).trans (hb.mono (by omega)))
        have z10 : w.heap.size + 1 + 1 < w10.heap.size := by have := hb.size; omega
        have M10 := hide hM
        have r0 := (unhide T).r0
        have r1 := (unhide T).r1
        have y0 := (unhide T).z0
        have y1 := (unhide T).z1
        clear hb hM HF
        go_wp2_with fail
        have R1' := hide (mine_set (mine_set (unhide M10) (show w.heap.size + 1 + 1 < w9.heap.size by omega) 0 (.slice (some ⟨g, 0, none⟩) zs.length zs.length)) (show w.heap.size + 1 + 1 < w9.heap.size by omega) 1 (.slice none 0 0))
        have R2' := hide (((unhide B).setCell (p := ⟨w.heap.size + 1 + 1, 0, none⟩) (by simp; omega) (.slice (some ⟨g, 0, none⟩) zs.length zs.length)).setCell (p := ⟨w.heap.size + 1 + 1, 1, none⟩) (by simp; omega) (.slice none 0 0))
        refine bodyPost_ret (v := .tuple #[fv (some ⟨g, 0, none⟩) zs.length zs.length none 0 0, .int .i64 0]) (by simp [results, Try.results16, go_sem, r0, r1]) rfl ⟨some ⟨g, 0, none⟩, zs.length, by rw [(unhide SF).1, (unhide SF).2], by rw [(unhide SF).2]; exact mine_mono (unhide R1') (by omega), unhide R2'⟩
      · have SF := hide (st_full (unhide SOK) (by rw [unhide HST]; exact hfit))
        have HWR := hide (write_full dp E L.length cap7 (some ⟨g7, 0, none⟩) w7 (by have := unhide HLL; omega) (by omega))
        have r0 := (unhide T).r0
        have r1 := (unhide T).r1
        have y0 := (unhide T).z0
        have y1 := (unhide T).z1
        clear O7 HL HD HQ
        go_wp2_with fail
        refine (unhide HWR).mono ?_
        rintro e w8 ⟨rfl, hw⟩
        subst w8
        clear HWR
        go_wp2_with fail
        refine bodyPost_ret (v := .tuple #[fv none 0 0 none 0 0, .int .i64 7]) (by simp [results, Try.results16, go_sem, r0, r1]) rfl (stRes_none (unhide SF) (unhide BAD _ (unhide B)))
    · have hi : imOK id gone ds.length = false := by simpa using hi
      rw [hi]
      have SF := hide (st_bad (show stOK xs ws id gone ds = false by unfold stOK; rw [hi, Bool.and_false]))
      have r0 := (unhide T).r0
      have r1 := (unhide T).r1
      have y0 := (unhide T).z0
      have y1 := (unhide T).z1
      clear hi ho
      go_wp2_with fail
      refine bodyPost_ret (v := .tuple #[fv none 0 0 none 0 0, .int .i64 1]) (by simp [results, Try.results16, go_sem, r0, r1]) rfl (stRes_none (unhide SF) (unhide BAD _ (unhide B)))
  · have ho : okD n ws = false := by simpa using ho
    rw [ho]
    have SF := hide (st_bad (show stOK xs ws id gone ds = false by unfold stOK; rw [hxl, ho, Bool.false_and]))
    have r0 := (unhide T).r0
    have r1 := (unhide T).r1
    have y0 := (unhide T).z0
    have y1 := (unhide T).z1
    clear ho
    go_wp2_with fail
    refine bodyPost_ret (v := .tuple #[fv none 0 0 none 0 0, .int .i64 1]) (by simp [results, Try.results16, go_sem, r0, r1]) rfl (stRes_none (unhide SF) (unhide BAD _ (unhide B)))
theorem implStore_any (ah : Option Addr) (n c : Nat) (aw : Option Addr) (nw cw : Nat) (xs : List Int) (ws : List WD) (id : Int) (gone : Bool) (b off ci : Nat) (ds : List Int) (w : World) (hR : Row w ah n xs) (hW : WRow w aw nw ws) (hn : n ≤ 1048576) (hnw : nw ≤ 1048576) (hc : n ≤ c) (hc2 : c ≤ maxLen) (h8 : Bytes8 xs) (h8w : ∀ d ∈ ws, Bytes8 d.xs) (hI : Row w (some ⟨b, off, none⟩) ds.length ds) (hd : ds.length ≤ 1048576) (hci : ds.length ≤ ci) (h8d : Bytes8 ds) :
    Calls Try.prog 16 #[fv ah n c aw nw cw, iv id gone (some ⟨b, off, none⟩) ds.length ci] w fun e w' => StRes xs ws id gone ds w e w' :=
  implStore_gen ah n c aw nw cw xs ws id gone (some ⟨b, off, none⟩) ci ds w hR hW hn hnw hc hc2 h8 h8w hd (fun h W hb => imageBytes_any id gone b off ci ds W hci h (row_grow hI hb) h8d)
end Go.Proofs.Ytocdbijmpecdgaa

namespace Go.Proofs.Ytocdbijmpecdgaa
open Go.RowKit

set_option maxRecDepth 100000 in
set_option maxHeartbeats 40000000 in
theorem imageBytes_nil (id : Int) (w : World) (h : imOK id true 0 = true) :
    Calls Try.prog 58 #[iv id true none 0 0] w fun e w' => ∃ v, e = .returned v ∧ Owns w' w.heap.size v (imgL id true []) ∧ v ≠ .slice none 0 0 ∧ Below w.heap.size w w' := by
  obtain ⟨i0, hi, hz0, hz1, hz2⟩ := info_parts Try.infoU8
  obtain ⟨g0, g1, g2, g3⟩ := of_decide_eq_true h
  clear g3
  clear h
  have hb0 : Below w.heap.size w (w.alloc (.cells #[.int .i64 id, .bool true, .slice none 0 0] 45)) := (Below.refl _ _).alloc (Nat.le_refl _) _
  have x0 : (w.alloc (.cells #[.int .i64 id, .bool true, .slice none 0 0] 45)).cell? ⟨w.heap.size, 0, none⟩ = some (.int .i64 id) := (cell_new1 rfl).trans rfl
  have x2 : (w.alloc (.cells #[.int .i64 id, .bool true, .slice none 0 0] 45)).cell? ⟨w.heap.size, 2, none⟩ = some (.slice none 0 0) := (cell_new1 rfl).trans rfl
  have hsz : (w.alloc (.cells #[.int .i64 id, .bool true, .slice none 0 0] 45)).heap.size = w.heap.size + 1 := by simp
  go_enter Try.func58, Try.ntmps58
  go_wp2_with fail
  generalize w.alloc (.cells #[.int .i64 id, .bool true, .slice none 0 0] 45) = w0 at *
  have O0 := hide (owns_one (w := w0) (B := w0.heap.size) 2 (Nat.le_refl _))
  have B1 := hide ((Below.refl w0.heap.size w0).alloc (Nat.le_refl _) (.cells #[.int .u8 2] 5))
  have HS := hide hsz
  have hlt : w.heap.size < w0.heap.size := by omega
  have gid : id ≤ 65535 := by omega
  have gl1 : [(2 : Int)].length ≤ 10000000 := by simp
  have gl2 : ([(2 : Int)] ++ [id / 256, id % 256]).length ≤ 10000000 := by simp
  have hle : ∀ o, w0.heap.size ≤ (w0.alloc o).heap.size := fun o => by simp
  have HA := hide (appendTwo_any w0.heap.size (.slice (some ⟨w0.heap.size, 0, none⟩) 1 1) [2] id (w0.alloc (.cells #[.int .u8 2] 5)).drew (hle _) gl1 g0 gid (unhide O0))
  clear hsz O0
  go_region_with (first
    | (revert hb1; intro hb1; go_at_call 103; refine (appendTwo_any w0.heap.size v1 ([2] ++ [id / 256, id % 256]) 0 w1 hb1.size gl2 (by omega) (by omega) ho1).mono ?_; rintro e w2 ⟨v2, rfl, ho2, hb2⟩)
    | (go_at_call 103; refine (unhide HA).mono ?_; rintro e w1 ⟨v1, rfl, ho1, hb1⟩; replace hb1 : Below w0.heap.size w0 w1 := (unhide B1).trans ⟨hb1.os, hb1.tape, hb1.output, hb1.size, hb1.block⟩; have y2 := (hb1.cell (p := ⟨w.heap.size, 2, none⟩) hlt).trans x2))
  all_goals
    have hb3 : Below w0.heap.size w0 w2 := hb1.trans hb2
    have HB := hide (hb0.trans (hb3.mono (by omega)))
    have z2 := (hb3.cell (p := ⟨w.heap.size, 2, none⟩) hlt).trans x2
    have hs2 := hb3.size
    clear hb3 hb2 hb1 ho1 y2 x0 x2 HA B1 hle gl1 gl2 hb0
    have e4 : [(2 : Int)] ++ [id / 256, id % 256] ++ [(0 : Int) / 256, (0 : Int) % 256] = imgH id true [] := rfl
    rw [e4] at ho2
    clear e4
    have hv2 : v2 ≠ .slice none 0 0 := fun e => by subst e; have := congrArg List.length (owns_nonnil ho2); simp [imgH] at this
    have O3 := ho2
    obtain ⟨g, cap, rfl, hr3⟩ := owns_row ho2 hv2
    have HB3 := HB
    have HH := hide (imgH_bytes (id := id) (gone := true) (xs := []) (fun i hi => absurd hi (Nat.not_lt_zero _)) g0 gid (by simp))
    have hl3 : (imgH id true []).length ≤ 2000 := by rw [imgH_length]; simp
    have HI := hide (show imgL id true [] = imgH id true [] ++ four (crcV (imgH id true [])) from rfl)
    have hcv := crcV_lt (unhide HH)
    clear ho2 HB hv2
    generalize imgH id true [] = ys at *
    go_wp2_with (first | (at_builtin; refine wpList_append_own_none rfl _ _ 22 rfl w0.heap.size 5 i0 1 Try.underlying22 hi _ ys.length _ rfl O3 rfl ?_) | (go_at_call 65; refine (crcOf_any (some ⟨g, 0, none⟩) ys.length cap ys w2 (by omega) hr3 (unhide HH)).mono ?_; rintro e w4 ⟨rfl, rfl⟩) | (at_builtin; refine wpList_append_own _ rfl _ _ 22 rfl w0.heap.size 5 i0 (.int .u8 0) 1 1 Try.underlying22 hi hz0 hz1 hz2 rfl (by decide) _ ys.length _ rfl (World.ownsRow.alloc O3 _) ⟨w4.heap.size, 0, none⟩ 4 4 [.int .u8 ((crcV ys : Int) / 16777216), .int .u8 ((crcV ys : Int) / 65536 % 256), .int .u8 ((crcV ys : Int) / 256 % 256), .int .u8 ((crcV ys : Int) % 256)] rfl rfl cells_new (four_u8 _ _ _ _) (by unfold maxLen; omega) (by omega) (by simp; omega) ?_))
    intro v5 w5 hown5 hgrow5 hnil5
    have O5 := hide (owns_down (owns_app4 hown5) (show w.heap.size ≤ w0.heap.size by omega))
    have B5 := hide (below_app (unhide HB3) (by omega) (owns_down O3 (show w.heap.size ≤ w0.heap.size by omega)) hgrow5)
    have N5 := hide (show v5 ≠ .slice none 0 0 from hnil5)
    clear hown5 hgrow5 hnil5 O3 HB3 hr3
    go_wp2_with fail
    go_ret
    exact ⟨_, rfl, by rw [unhide HI]; exact unhide O5, unhide N5, unhide B5⟩
end Go.Proofs.Ytocdbijmpecdgaa

namespace Go.Proofs.Ytocdbijmpecdgaa
open Go.RowKit Go.Maps

set_option maxRecDepth 100000 in
set_option maxHeartbeats 2000000 in
/-- What is read of a device with nothing at all. -/
theorem l02Read_nil (w : World) :
    Calls Try.prog 62 #[fv none 0 0 none 0 0] w fun e w' => ∃ g cap, e = .returned (.slice (some ⟨g, 0, none⟩) 0 cap) ∧ Owns w' w.heap.size (.slice (some ⟨g, 0, none⟩) 0 cap) [] ∧ Below w.heap.size w w' := by
  obtain ⟨i0, hi, hz0, hz1, hz2⟩ := info_parts Try.infoU8
  have b0 : Below w.heap.size w ((w.alloc (.cells #[.slice none 0 0, .slice none 0 0] 28)).alloc (.cells #[] 5)) := ((Below.refl _ _).alloc (Nat.le_refl _) _).alloc (by simp) _
  have hO : Owns ((w.alloc (.cells #[.slice none 0 0, .slice none 0 0] 28)).alloc (.cells #[] 5)) w.heap.size (.slice (some ⟨w.heap.size + 1, 0, none⟩) 0 0) [] := by
    have := World.ownsRow_lit (base := w.heap.size) (e := 5) (size := 1) (w.alloc (.cells #[.slice none 0 0, .slice none 0 0] 28)) #[] 0 (by simp) (by unfold maxLen; simp) rfl
    unfold Owns
    simpa using this
  have c1 : ((w.alloc (.cells #[.slice none 0 0, .slice none 0 0] 28)).alloc (.cells #[] 5)).cell? ⟨w.heap.size, 1, none⟩ = some (.slice none 0 0) := (cell_old (by simp)).trans ((cell_new rfl).trans rfl)
  go_enter Try.func62, Try.ntmps62
  go_wp2_with (at_builtin; refine wpList_append_own_none rfl _ _ 22 rfl w.heap.size 5 i0 1 Try.underlying22 hi _ 0 _ rfl hO rfl ?_)
  refine wp_loop_rounds 1 ?_
  rw [rounds_succ]
  go_wp2_with fail
  go_ret
  exact ⟨_, _, rfl, hO, b0⟩
set_option maxRecDepth 100000 in
set_option maxHeartbeats 2000000 in
theorem specLatest_nil (w : World) : Calls Try.prog 20 #[fv none 0 0 none 0 0] w fun e w' => LaRes [] [] w e w' := by
  have b0 : Below w.heap.size w (w.alloc (.cells #[.slice none 0 0, .slice none 0 0] 28)) := (Below.refl _ _).alloc (Nat.le_refl _) _
  have B0 := hide b0
  have x0 : (w.alloc (.cells #[.slice none 0 0, .slice none 0 0] 28)).cell? ⟨w.heap.size, 0, none⟩ = some (.slice none 0 0) := (cell_new rfl).trans rfl
  have x1 : (w.alloc (.cells #[.slice none 0 0, .slice none 0 0] 28)).cell? ⟨w.heap.size, 1, none⟩ = some (.slice none 0 0) := (cell_new rfl).trans rfl
  have hz : (w.alloc (.cells #[.slice none 0 0, .slice none 0 0] 28)).heap.size = w.heap.size + 1 := by simp
  clear b0
  go_enter Try.func20, Try.ntmps20
  go_wp2_with fail
  generalize w.alloc (.cells #[.slice none 0 0, .slice none 0 0] 28) = w0 at *
  refine (specFlashOK_any none 0 0 none 0 0 [] w0 (by unfold maxLen; omega) (by unfold maxLen; omega) ⟨rfl, fun _ hi => absurd hi (Nat.not_lt_zero _)⟩).mono ?_
  rintro e w1 ⟨rfl, hb1⟩
  have y0 := (hb1.cell (p := ⟨w.heap.size, 0, none⟩) (show w.heap.size < w0.heap.size by omega)).trans x0
  have y1 := (hb1.cell (p := ⟨w.heap.size, 1, none⟩) (show w.heap.size < w0.heap.size by omega)).trans x1
  have hs1 := hb1.size
  have B1 := hide ((unhide B0).trans (hb1.mono (by omega)))
  clear B0 hb1 x0 x1
  have ho : okD 0 [] = true := rfl
  rw [ho]
  have HO := hide (show okD ([] : List Int).length [] = true from rfl)
  clear ho
  go_wp2_with fail
  refine (l02Read_nil w1).mono ?_
  rintro e w2 ⟨g, cap, rfl, hO, hb2⟩
  have M3 := hide (mine_row8 (mine_of_owns hO))
  have B3 := hide ((unhide B1).trans (hb2.mono (by omega)))
  clear hO hb2 y0 y1
  go_wp2_with fail
  refine (l03Scan_any _ 0 cap [] w2 (unhide M3).1 (fun i hi => absurd hi (Nat.not_lt_zero _)) (by omega) (unhide M3).2.2.1 (unhide M3).2.2.2).mono ?_
  rintro e w4 ⟨v, hs, rfl, hI, hX, hb4⟩
  have I4 := hide (hI.down (unhide B3).size)
  have X4 := hide hX
  have B4 := hide ((unhide B3).trans (hb4.mono (unhide B3).size))
  obtain ⟨a5, c5, rfl, hc5, hr5⟩ := im_cap hI
  have hl5 : hs.length ≤ 2048 := by have := (scan_few (xs := []) (ws := []) rfl).2; have h2 := unhide X4; rw [show readD ([] : List Int) [] = [] from rfl] at this; rw [← h2, List.length_map] at this; exact this
  have R5 := hide hr5
  clear hI hX hb4 M3 B3 hr5
  go_wp2_with fail
  refine (l03Latest_any a5 hs.length c5 hs w4 (unhide R5) (by omega)).mono ?_
  rintro e w5 ⟨g5, n5, c6, R, rfl, hG, hLt, hb5, hle⟩
  have Z := hide (laRes_some (xs := []) (ws := []) (unhide HO) (unhide I4) (unhide X4) (unhide B4) hb5 hG.gowns hLt (by omega))
  clear hG hLt hb5 hle I4 X4 B4 R5
  go_wp2_with fail
  go_ret2
  exact unhide Z
set_option maxHeartbeats 1000000 in
theorem implImageBytes_gen (id : Int) (gone : Bool) (ai : Option Addr) (c : Nat) (xs : List Int) (w : World) (hn : xs.length ≤ 1048576) (h : imOK id gone xs.length = true)
    (hIB : ∀ W, Below w.heap.size w W → Calls Try.prog 58 #[iv id gone ai xs.length c] W fun e w' => ∃ v, e = .returned v ∧ Owns w' W.heap.size v (imgL id gone xs) ∧ v ≠ .slice none 0 0 ∧ Below W.heap.size W w') :
    Calls Try.prog 17 #[iv id gone ai xs.length c] w fun e w' => ∃ g cap, e = .returned (.tuple #[.slice (some ⟨g, 0, none⟩) (imgL id gone xs).length cap, .int .i64 0]) ∧ Owns w' w.heap.size (.slice (some ⟨g, 0, none⟩) (imgL id gone xs).length cap) (imgL id gone xs) ∧ Below w.heap.size w w' := by
  have HO := hide (fun w => imageOK_any id gone ai xs.length c w (by unfold maxLen; omega))
  have B0 := hide (fun o => (Below.refl w.heap.size w).alloc (Nat.le_refl _) o)
  have HC := hide hIB
  rw [h] at HO
  clear h hIB
  go_enter Try.func17, Try.ntmps17
  go_wp2_with fail
  refine (unhide HO _).mono ?_
  rintro e w1 ⟨rfl, hb1⟩
  have B1 : Below w.heap.size w w1 := (unhide B0 _).trans (hb1.mono (by simp))
  have y0 : w1.cell? ⟨w.heap.size, 0, none⟩ = some (.int .i64 id) := (hb1.cell (p := ⟨w.heap.size, 0, none⟩) (by simp)).trans ((cell_new1 rfl).trans rfl)
  have y1 : w1.cell? ⟨w.heap.size, 1, none⟩ = some (.bool gone) := (hb1.cell (p := ⟨w.heap.size, 1, none⟩) (by simp)).trans ((cell_new1 rfl).trans rfl)
  have y2 : w1.cell? ⟨w.heap.size, 2, none⟩ = some (.slice ai xs.length c) := (hb1.cell (p := ⟨w.heap.size, 2, none⟩) (by simp)).trans ((cell_new1 rfl).trans rfl)
  have hs1 := B1.size
  clear hb1 HO
  go_wp2_with fail
  refine (unhide HC _ B1).mono ?_
  rintro e w2 ⟨v, rfl, ho, hv, hb2⟩
  obtain ⟨g, cap, rfl, _⟩ := owns_row ho hv
  have M2 := hide (owns_down ho hs1)
  have B2 := hide (B1.trans (hb2.mono hs1))
  clear ho hv hb2 HC
  go_wp2_with fail
  go_ret2
  exact ⟨_, _, rfl, unhide M2, unhide B2⟩
/-- The bytes of a drawn image. -/
theorem drawn_bytes {w : World} {h : ImG} (hd : gDat w 0 h) (hok : gOK h) : imOK h.X.id h.X.gone h.X.xs.length = true → ∀ W, Below w.heap.size w W → Calls Try.prog 58 #[iv h.X.id h.X.gone h.a h.X.xs.length h.c] W fun e w' => ∃ v, e = .returned v ∧ Owns w' W.heap.size v (imgL h.X.id h.X.gone h.X.xs) ∧ v ≠ .slice none 0 0 ∧ Below W.heap.size W w' := by
  intro hi W hb
  rcases hd with ⟨g, h1, _, h3, h4⟩ | ⟨h1, h2, h3, h4⟩
  · rw [h1] at h4 ⊢
    exact imageBytes_any0 _ _ g 0 _ _ W hi (row_grow h4 hb) hok.2.1
  · rw [h3, h4] at hi
    rw [h1, h2, h3, h4]
    exact imageBytes_nil _ W hi
theorem readD_new (xs y : List Int) (E : Nat) (h16 : xs.length % 16 = 0) (h2 : xs.length ≤ 2048) (hy : 0 < y.length) (hf : E + y.length ≤ 2048) : readD xs (newW xs E y) = allW xs E y := by
  obtain ⟨m, hm⟩ : ∃ m, xs.length = m * 16 := ⟨xs.length / 16, by omega⟩
  have hok0 : secOK m (secFn xs m) := secFn_ok hm (by omega)
  have hok : secOK (startDS xs m).rc (startDS xs m).rf := hok0
  have e : secBytes (startDS xs m).rc (startDS xs m).rf = xs := secBytes_secFn hm
  have h1 := wrDS_read (startDS xs m) E y hok hf
  have h2 := wrDS_bytes (startDS xs m) E y hok hy
  rw [e] at h1 h2
  rw [← h1, h2]
theorem pad16 (d : List Int) : (padB d).length % 16 = 0 := by
  rw [padB_len]
  unfold fillN
  split <;> omega
/-- One image stored behind others that have room with it. -/
theorem store_step (L : List ImD) (x : ImD) (hL : ∀ y ∈ L, y.ok = true) (hx : x.ok = true) (hroom : (flatI (L ++ [x])).length ≤ 2048) :
    stC (padB (flatI L)) [] x.id x.gone x.xs = 0 ∧ stH (padB (flatI L)) [] x.id x.gone x.xs = padB (flatI (L ++ [x])) := by
  have hr : (flatI L).length + (x.xs.length + 9) ≤ 2048 := by rw [flatI_snoc, List.length_append, ImD.by_len] at hroom; exact hroom
  have hpl : (padB (flatI L)).length ≤ 2048 := by
    rw [padB_len]
    unfold fillN
    split <;> omega
  have hE : stE (padB (flatI L)) [] = (flatI L).length := by
    unfold stE
    rw [show readD (padB (flatI L)) [] = padB (flatI L) from rfl, scan_pad L hL]
  have hok : stOK (padB (flatI L)) [] x.id x.gone x.xs = true := by
    unfold stOK okD
    rw [show imOK x.id x.gone x.xs.length = true from hx]
    have := pad16 (flatI L)
    simp [hpl, this]
  obtain ⟨h1, h2⟩ := st_fit hok (by rw [hE]; exact hr)
  refine ⟨h1, ?_⟩
  rw [h2]
  unfold stNew
  rw [hE, show readD (padB (flatI L)) [] = padB (flatI L) from rfl]
  have hyl : (imgL x.id x.gone x.xs).length = x.xs.length + 9 := imgL_length _ _ _
  rw [readD_new _ _ _ (pad16 _) hpl (by omega) (by omega), allW_pad _ _ (by omega), flatI_snoc]
  rfl
end Go.Proofs.Ytocdbijmpecdgaa

namespace Go.Proofs.Ytocdbijmpecdgaa
open Go.RowKit

/-- Bytes that lie ahead of block B, or in a block of bytes. -/
def Far (w : World) (B : Nat) (a : Option Addr) : Prop := ∀ x, a = some x → x.block < w.heap.size ∧ (x.block < B ∨ ∃ cur fr, w.heap[x.block]? = some (.cells cur 5 fr))
theorem Far.grow {w w' : World} {B : Nat} {a : Option Addr} (h : Far w B a) (hb : Below w.heap.size w w') : Far w' B a := fun x hx => by
  obtain ⟨h0, h1⟩ := h x hx
  refine ⟨Nat.lt_of_lt_of_le h0 hb.size, ?_⟩
  rcases h1 with h1 | ⟨cur, fr, h1⟩
  · exact .inl h1
  · exact .inr ⟨cur, fr, (hb.block _ h0).trans h1⟩
/-- The cells of sectors with their numbers. -/
def WCs (w : World) (B : Nat) (cs : List Value) (ws : List WD) : Prop :=
  cs.length = ws.length * 2 ∧ ∀ i (hi : i < ws.length), cs[i * 2]? = some (.int .i64 ws[i].at_) ∧ ∃ a' c', cs[i * 2 + 1]? = some (.slice a' ws[i].xs.length c') ∧ (ws[i].xs.length ≤ maxLen ∧ ws[i].xs.length ≤ c') ∧ Row w a' ws[i].xs.length ws[i].xs ∧ (0 < ws[i].xs.length → Far w B a')
theorem WCs.grow {w w' : World} {B : Nat} {cs : List Value} {ws : List WD} (h : WCs w B cs ws) (hb : Below w.heap.size w w') : WCs w' B cs ws :=
  ⟨h.1, fun i hi => by
    obtain ⟨h0, a', c', h1, h2, h3, h4⟩ := h.2 i hi
    exact ⟨h0, a', c', h1, h2, row_grow h3 hb, fun hp => (h4 hp).grow hb⟩⟩
theorem WCs.snoc {w : World} {B : Nat} {cs : List Value} {ws : List WD} (h : WCs w B cs ws) (d : WD) (a : Option Addr) (c : Nat) (h1 : d.xs.length ≤ maxLen) (h2 : d.xs.length ≤ c) (h3 : Row w a d.xs.length d.xs) (h4 : 0 < d.xs.length → Far w B a) : WCs w B (cs ++ [.int .i64 d.at_, .slice a d.xs.length c]) (ws ++ [d]) := by
  refine ⟨by simp [h.1]; omega, fun i hi => ?_⟩
  simp only [List.length_append, List.length_cons, List.length_nil] at hi
  by_cases e : i < ws.length
  · obtain ⟨g0, a', c', g1, g2, g3⟩ := h.2 i e
    rw [List.getElem_append_left e]
    refine ⟨by rw [List.getElem?_append_left (by rw [h.1]; omega)]; exact g0, a', c', by rw [List.getElem?_append_left (by rw [h.1]; omega)]; exact g1, g2, g3⟩
  · obtain rfl : i = ws.length := by omega
    rw [List.getElem_append_right (Nat.le_refl _)]
    refine ⟨?_, a, c, ?_, ⟨by simpa using h1, by simpa using h2⟩, by simpa using h3, by simpa using h4⟩
    · rw [List.getElem?_append_right (by rw [h.1]; omega), h.1]; simp
    · rw [List.getElem?_append_right (by rw [h.1]; omega), h.1, show ws.length * 2 + 1 - ws.length * 2 = 1 by omega]; simp
theorem WCs.one {w : World} {B : Nat} {cs : List Value} {ws : List WD} (h : WCs w B cs ws) : ∀ u ∈ cs, u.oneCell' = true := by
  intro u hu
  obtain ⟨j, hj, rfl⟩ := List.getElem_of_mem hu
  have hl := h.1
  have hi : j / 2 < ws.length := by omega
  obtain ⟨h0, a', c', h1, _⟩ := h.2 (j / 2) hi
  by_cases e : j % 2 = 0
  · rw [show j / 2 * 2 = j by omega, List.getElem?_eq_getElem hj] at h0
    injection h0 with h0
    rw [h0]; rfl
  · rw [show j / 2 * 2 + 1 = j by omega, List.getElem?_eq_getElem hj] at h1
    injection h1 with h1
    rw [h1]; rfl
/-- A row that reads so has such cells. -/
theorem WRow.cells {w : World} {b off n : Nat} {ws : List WD} (h : WRow w (some ⟨b, off, none⟩) n ws) : ∃ cs, WCs w w.heap.size cs ws ∧ ∀ j u, cs[j]? = some u → w.cell? ((⟨b, off, none⟩ : Addr).add j) = some u := by
  have key : ∀ k, k ≤ ws.length → ∃ cs, WCs w w.heap.size cs (ws.take k) ∧ ∀ j u, cs[j]? = some u → w.cell? ⟨b, off + j, none⟩ = some u := by
    intro k
    induction k with
    | zero => intro _; exact ⟨[], ⟨rfl, fun i hi => by simp at hi⟩, fun j u hu => by simp at hu⟩
    | succ k ih =>
      intro hk
      obtain ⟨cs, h1, h2⟩ := ih (by omega)
      obtain ⟨b', off', e, c0, a', c', c1, hm, hr⟩ := h.2 k (by omega)
      injection e with e
      injection e with e1 e2
      subst e1 e2
      have hl : cs.length = k * 2 := by rw [h1.1, List.length_take, Nat.min_eq_left (by omega)]
      refine ⟨cs ++ [.int .i64 ws[k].at_, .slice a' ws[k].xs.length c'], by rw [List.take_succ_eq_append_getElem (by omega)]; exact h1.snoc _ _ _ hm.1 hm.2 hr (fun hp x hx => by obtain ⟨b1, o1, e1, hc1⟩ := hr.2 0 hp; rw [hx] at e1; cases e1; exact ⟨cell_lt hc1, .inl (cell_lt hc1)⟩), fun j u hu => ?_⟩
      by_cases hj : j < cs.length
      · rw [List.getElem?_append_left hj] at hu; exact h2 j u hu
      · rw [List.getElem?_append_right (by omega), hl] at hu
        have hjl : j - k * 2 < 2 := by have := (List.getElem?_eq_some_iff.1 hu).1; simpa using this
        by_cases e : j = k * 2
        · subst e
          rw [Nat.sub_self] at hu
          simp at hu
          rw [← hu]; exact c0
        · obtain rfl : j = k * 2 + 1 := by omega
          rw [show k * 2 + 1 - k * 2 = 1 by omega] at hu
          simp at hu
          rw [← hu, ← Nat.add_assoc]; exact c1
  obtain ⟨cs, h1, h2⟩ := key ws.length (Nat.le_refl _)
  rw [List.take_length] at h1
  refine ⟨cs, h1, fun j u hu => ?_⟩
  have e : (⟨b, off, none⟩ : Addr).add j = ⟨b, off + j, none⟩ := by unfold Addr.add; split <;> simp_all
  rw [e]; exact h2 j u hu
/-- Such a row of the call's own reads so. -/
theorem wrow_owns {w : World} {base n B : Nat} {v : Value} {cs : List Value} {ws : List WD} (h : w.ownsRow base 129 2 v n cs) (hc : WCs w B cs ws) (hn : ws.length = n) : ∃ a c, v = .slice a n c ∧ WRow w a n ws := by
  rcases h.2 with ⟨rfl, h0⟩ | ⟨g, cap, cur, rfl, _⟩
  · exact ⟨none, 0, by rw [h0], hn, fun i hi => absurd hi (by omega)⟩
  · refine ⟨_, cap, rfl, hn, fun i hi => ?_⟩
    obtain ⟨h0, a', c', h1, h2, h3, _⟩ := hc.2 i hi
    have e0 := h.cellAt (i * 2) (by omega)
    have e1 := h.cellAt (i * 2 + 1) (by omega)
    exact ⟨g, 0, rfl, by rw [Nat.zero_add, e0, h0], a', c', by rw [Nat.zero_add, e1, h1], h2, h3⟩
theorem nil_wrow {w : World} {n : Nat} {ws : List WD} (h : WRow w none n ws) : ws = [] := by
  cases ws with
  | nil => rfl
  | cons d r =>
    obtain ⟨b, off, e, _⟩ := h.2 0 (by simp)
    cases e
/-- What waits is copied into a new row. -/
theorem copy_waiting {w u : World} {aw : Option Addr} {nw cw g0 : Nat} {ws : List WD} (ty : TypeId) (hW : WRow w aw nw ws) (haw : aw = none → nw = 0 ∧ cw = 0) (hnw : nw ≤ 1048576) (hb0 : Below w.heap.size w u) (hO : u.ownsRow w.heap.size 129 2 (.slice (some ⟨g0, 0, none⟩) 0 0) 0 []) :
    ∃ g cap w3 cs, (Builtin.append_ #[26, 26] ty #[.slice (some ⟨g0, 0, none⟩) 0 0, .slice aw nw cw]).run Try.prog u = .ok (.slice (some ⟨g, 0, none⟩) ws.length cap) w3 ∧ w3.ownsRow w.heap.size 129 2 (.slice (some ⟨g, 0, none⟩) ws.length cap) ws.length cs ∧ WCs w3 w.heap.size cs ws ∧ Below w.heap.size w w3 ∧ u.heap.size ≤ w3.heap.size ∧ (∀ k, k < u.heap.size → k ≠ g0 → w3.heap[k]? = u.heap[k]?) := by
  obtain ⟨i0, hi, hz0, hz1, hz2⟩ := info_parts Try.infoWrite
  cases aw with
  | none =>
    obtain ⟨rfl, rfl⟩ := haw rfl
    obtain rfl := nil_wrow hW
    have hrun := run_append_owned_none (P := Try.prog) (w := u) w.heap.size 26 ty 129 i0 2 Try.underlying26 hi _ 0 [] hO
    exact ⟨g0, 0, u, [], hrun, hO, ⟨rfl, fun i hi => by simp at hi⟩, hb0, Nat.le_refl _, fun _ _ _ => rfl⟩
  | some x =>
    obtain ⟨cs, hcs, hcell⟩ : ∃ cs, WCs w w.heap.size cs ws ∧ ∀ j u, cs[j]? = some u → w.cell? (x.add j) = some u := by
      by_cases h0 : 0 < ws.length
      · obtain ⟨b, off, e, _⟩ := hW.2 0 h0
        injection e with e
        subst e
        exact hW.cells
      · obtain rfl : ws = [] := List.eq_nil_of_length_eq_zero (by omega)
        exact ⟨[], ⟨rfl, fun i hi => by simp at hi⟩, fun j u hu => by simp at hu⟩
    have hwl := hW.1
    obtain ⟨v, w3, hrun, hown, hg, hnil⟩ := run_append_own (P := Try.prog) u w.heap.size 26 ty 129 i0 _ 2 32 Try.underlying26 hi hz0 hz1 hz2 rfl (by decide) _ 0 [] hO x nw cw cs (by rw [hcs.1, hwl]) (fun j u hu => cell_later hb0 (hcell j u hu)) hcs.one (by unfold maxLen; omega) (by omega) hb0.size
    have hown' : w3.ownsRow w.heap.size 129 2 v ws.length cs := by rw [hwl]; simpa using hown
    obtain ⟨g, cap, rfl⟩ : ∃ g cap, v = .slice (some ⟨g, 0, none⟩) ws.length cap := by
      rcases hown'.2 with ⟨e, _⟩ | ⟨g, cap, _, e, _⟩
      · have := (hnil.1 e).1
        cases this
      · exact ⟨g, cap, e⟩
    have hbw : Below w.heap.size w w3 := hb0.grown hg hb0.size (fun k hk => (hO.lt k hk).1)
    exact ⟨g, cap, w3, cs, hrun, hown', hcs.grow hbw, hbw, hg.size, fun k hk hne => hg.block k hk (by simp [Value.ownBlock]; exact hne)⟩
/-- All blocks but the row's own are as they were: the bytes too. -/
theorem WCs.kept {w w' : World} {B : Nat} {v : Value} {n : Nat} {cs cs' : List Value} {ws : List WD} (h : WCs w B cs' ws) (ho : w.ownsRow B 129 2 v n cs) (hs : w.heap.size ≤ w'.heap.size) (hk : ∀ k, k < w.heap.size → some k ≠ v.ownBlock → w'.heap[k]? = w.heap[k]?) : WCs w' B cs' ws := by
  have key : ∀ b, b < w.heap.size → (b < B ∨ ∃ cur fr, w.heap[b]? = some (.cells cur 5 fr)) → w'.heap[b]? = w.heap[b]? := fun b hb hf => hk b hb (fun e => by
    have hl := ho.lt b e.symm
    rcases hf with hf | ⟨cur, fr, hf⟩
    · omega
    · rcases ho.2 with ⟨e0, _⟩ | ⟨g, cap, cur0, e0, _, hh, _⟩
      · subst e0; cases e
      · subst e0
        have hg : b = g := by simpa [Value.ownBlock] using e
        subst hg
        rw [hf] at hh
        injection hh with hh
        injection hh with _ hh
        exact absurd hh (by decide))
  refine ⟨h.1, fun i hi => ?_⟩
  obtain ⟨h0, a', c', h1, h2, h3, h4⟩ := h.2 i hi
  refine ⟨h0, a', c', h1, h2, ?_, fun hp x hx => ?_⟩
  · by_cases hp : 0 < ws[i].xs.length
    · exact h3.of_cells fun x hx p hpb => World.cell?_of_block (w := w) (by rw [hpb]; exact key _ (h4 hp x hx).1 (h4 hp x hx).2)
    · exact ⟨h3.1, fun j hj => absurd hj (by omega)⟩
  · obtain ⟨f0, f1⟩ := h4 hp x hx
    refine ⟨Nat.lt_of_lt_of_le f0 hs, ?_⟩
    have e := key _ f0 f1
    rcases f1 with f1 | ⟨cur, fr, f1⟩
    · exact .inl f1
    · exact .inr ⟨cur, fr, e.trans f1⟩
theorem WCs.but {w w' : World} {B bad : Nat} {cs' : List Value} {ws : List WD} (h : WCs w B cs' ws) (hbad : B ≤ bad) (hkind : ∃ cur t fr, w.heap[bad]? = some (.cells cur t fr) ∧ t ≠ 5) (hs : w.heap.size ≤ w'.heap.size) (hk : ∀ k, k < w.heap.size → k ≠ bad → w'.heap[k]? = w.heap[k]?) : WCs w' B cs' ws := by
  have key : ∀ b, b < w.heap.size → (b < B ∨ ∃ cur fr, w.heap[b]? = some (.cells cur 5 fr)) → w'.heap[b]? = w.heap[b]? := fun b hb hf => hk b hb (fun e => by
    subst e
    rcases hf with hf | ⟨cur, fr, hf⟩
    · omega
    · obtain ⟨cur0, t, fr0, hh, hne⟩ := hkind
      rw [hf] at hh
      injection hh with hh
      injection hh with _ hh
      exact hne hh.symm)
  refine ⟨h.1, fun i hi => ?_⟩
  obtain ⟨h0, a', c', h1, h2, h3, h4⟩ := h.2 i hi
  refine ⟨h0, a', c', h1, h2, ?_, fun hp x hx => ?_⟩
  · by_cases hp : 0 < ws[i].xs.length
    · exact h3.of_cells fun x hx p hpb => World.cell?_of_block (w := w) (by rw [hpb]; exact key _ (h4 hp x hx).1 (h4 hp x hx).2)
    · exact ⟨h3.1, fun j hj => absurd hj (by omega)⟩
  · obtain ⟨f0, f1⟩ := h4 hp x hx
    refine ⟨Nat.lt_of_lt_of_le f0 hs, ?_⟩
    have e := key _ f0 f1
    rcases f1 with f1 | ⟨cur, fr, f1⟩
    · exact .inl f1
    · exact .inr ⟨cur, fr, e.trans f1⟩
/-- One sector more waits: its bytes are copied, and it is appended. -/
theorem write_one {w : World} {base : Nat} {v : Value} {cs : List Value} {ws : List WD} (hO : w.ownsRow base 129 2 v ws.length cs) (hC : WCs w base cs ws) (hbase : base ≤ w.heap.size) (hws : ws.length ≤ 100000) (g so sc n : Nat) (s : List Int) (hs : s.length = 16) (hr : Row w (some ⟨g, so, none⟩) 16 s) :
    ∃ g4 cap4 w4 v5 w5 cs', (Builtin.append_ #[22, 22] 22 #[.slice (some ⟨w.heap.size, 0, none⟩) 0 0, .slice (some ⟨g, so, none⟩) 16 sc]).run Try.prog (w.drew.alloc (.cells #[] 5)) = .ok (.slice (some ⟨g4, 0, none⟩) 16 cap4) w4 ∧
      (Builtin.append_ #[26, 26] 26 #[v, .slice (some ⟨w4.heap.size, 0, none⟩) 1 1]).run Try.prog (w4.alloc (.cells #[.int .i64 (n : Int), .slice (some ⟨g4, 0, none⟩) 16 cap4] 129)) = .ok v5 w5 ∧
      w5.ownsRow base 129 2 v5 (ws.length + 1) cs' ∧ v5 ≠ .slice none 0 0 ∧ WCs w5 base cs' (ws ++ [⟨(n : Int), s⟩]) ∧ Below base w w5 ∧ (∀ k, k < w.heap.size → some k ≠ v.ownBlock → w5.heap[k]? = w.heap[k]?) ∧ Below w.heap.size w w4 := by
  obtain ⟨i0, hi, hz0, hz1, hz2⟩ := info_parts Try.infoU8
  obtain ⟨j0, hj, kz0, kz1, kz2⟩ := info_parts Try.infoWrite
  have hsd : w.drew.heap.size = w.heap.size := rfl
  have hb0 : Below w.heap.size w (w.drew.alloc (.cells #[] 5)) := (bel_drewN (n := 1) (Below.refl _ _)).alloc (Nat.le_refl _) _
  have hL : (w.drew.alloc (.cells #[] 5)).ownsRow w.heap.size 5 1 (.slice (some ⟨w.heap.size, 0, none⟩) 0 0) 0 [] :=
    World.ownsRow_lit (base := w.heap.size) (e := 5) (size := 1) w.drew #[] 0 (Nat.le_refl _) (by unfold maxLen; simp) rfl
  have hr' : Row w (some ⟨g, so, none⟩) s.length s := by rw [hs]; exact hr
  obtain ⟨v4, w4, hrun4, hown4, hg4, hnil4⟩ := run_append_own (P := Try.prog) (w.drew.alloc (.cells #[] 5)) w.heap.size 22 22 5 i0 _ 1 1 Try.underlying22 hi hz0 hz1 hz2 rfl (by decide) _ 0 [] hL ⟨g, so, none⟩ 16 sc (s.map (Value.int .u8)) (by simp [hs]) (row_cells (row_grow hr' hb0)) (all_u8 _) (by unfold maxLen; omega) (by omega) (by simp [hsd])
  have O4 : Owns w4 w.heap.size v4 s := by
    unfold Owns
    rw [hs]
    simpa using hown4
  obtain ⟨g4, cap4, rfl, hgB, hgl, hc1, hc2⟩ := owns_form O4 (fun e => by have := (hnil4.1 e).1; cases this)
  rw [hs] at hrun4 hc1 O4
  have B4 : Below w.heap.size w w4 := hb0.grown hg4 (by simp [hsd]) (fun k hk => by cases hk; exact Nat.le_refl _)
  have hkind4 : ∃ cur fr, w4.heap[g4]? = some (.cells cur 5 fr) := by
    rcases O4.2 with ⟨e, _⟩ | ⟨g', cap', cur, e, _, hh, _⟩
    · cases e
    · injection e with e1 _ _
      injection e1 with e1
      injection e1 with e1
      subst e1
      exact ⟨cur, _, hh⟩
  have O5 : (w4.alloc (.cells #[.int .i64 (n : Int), .slice (some ⟨g4, 0, none⟩) 16 cap4] 129)).ownsRow base 129 2 v ws.length cs := by
    have : w4.ownsRow base 129 2 v ws.length cs := World.ownsRow.kept (row := none) hO ⟨B4.os, B4.tape, B4.output, B4.size, fun i hi _ => B4.block i hi⟩ (by cases hv : v.ownBlock <;> simp)
    exact this.alloc _
  obtain ⟨v5, w5, hrun5, hown5, hg5, hnil5⟩ := run_append_own (P := Try.prog) (w4.alloc (.cells #[.int .i64 (n : Int), .slice (some ⟨g4, 0, none⟩) 16 cap4] 129)) base 26 26 129 j0 _ 2 32 Try.underlying26 hj kz0 kz1 kz2 rfl (by decide) v ws.length cs O5 ⟨w4.heap.size, 0, none⟩ 1 1 [.int .i64 (n : Int), .slice (some ⟨g4, 0, none⟩) 16 cap4] rfl cells_new (by intro u hu; simp at hu; rcases hu with rfl | rfl <;> rfl) (by unfold maxLen; omega) (by omega) (by have := B4.size; simp; omega)
  have hvl : ∀ k, v.ownBlock = some k → base ≤ k ∧ k < w.heap.size := fun k hk => hO.lt k hk
  have K5 : ∀ k, k < w4.heap.size → some k ≠ v.ownBlock → w5.heap[k]? = w4.heap[k]? := fun k hk hne => by rw [hg5.block k (by simp; omega) hne, Below.heap_alloc _ _ _ hk]
  have s45 : w4.heap.size ≤ w5.heap.size := by have := hg5.size; simp at this; omega
  have C4 : WCs w4 base (cs ++ [.int .i64 (n : Int), .slice (some ⟨g4, 0, none⟩) 16 cap4]) (ws ++ [⟨(n : Int), s⟩]) := by
    have := (hC.grow B4).snoc ⟨(n : Int), s⟩ (some ⟨g4, 0, none⟩) cap4 (by simp only; rw [hs]; unfold maxLen; omega) (by simp only; rw [hs]; exact hc1) (row_of_owns (by rw [hs]; exact O4)) (fun _ x hx => by cases hx; exact ⟨hgl, .inr hkind4⟩)
    simpa [hs] using this
  have O4' : w4.ownsRow base 129 2 v ws.length cs := World.ownsRow.kept (row := none) hO ⟨B4.os, B4.tape, B4.output, B4.size, fun i hi _ => B4.block i hi⟩ (by cases hv : v.ownBlock <;> simp)
  refine ⟨g4, cap4, w4, v5, w5, _, hrun4, hrun5, hown5, fun e => ?_, C4.kept O4' s45 K5, ?_, fun k hk hne => ?_, B4⟩
  · have := (hnil5.1 e).2
    cases this
  · exact ⟨hg5.os.trans B4.os, hg5.tape.trans B4.tape, hg5.output.trans B4.output, Nat.le_trans B4.size s45, fun k hk => by
      rw [K5 k (Nat.lt_of_lt_of_le hk (Nat.le_trans hbase B4.size)) (fun e => by have := (hvl k e.symm).1; omega), B4.block k (by omega)]⟩
  · rw [K5 k (Nat.lt_of_lt_of_le hk B4.size) hne, B4.block k hk]
theorem row_off {w : World} {g n : Nat} {xs : List Int} (h : Row w (some ⟨g, 0, none⟩) n xs) (k m : Nat) (hk : k + m ≤ n) : Row w (some ⟨g, k, none⟩) m ((xs.drop k).take m) := by
  have hl := h.1
  refine ⟨by simp; omega, fun i hi => ⟨g, k, rfl, ?_⟩⟩
  obtain ⟨b, off, e, hc⟩ := h.2 (k + i) (by omega)
  cases e
  rw [Nat.zero_add] at hc
  rw [hc]
  simp [List.getD, hi]
theorem box_int {w : World} {ob j : Nat} {a a' : Option Addr} {n c n' c' : Nat} {t : TypeId} {fr : Nat × Nat} {k : IntKind} {x : Int} (hk : w.heap[ob]? = some (.cells #[.slice a n c, .slice a' n' c'] t fr)) (h : w.cell? ⟨ob, j, none⟩ = some (.int k x)) : False := by
  simp only [World.cell?, hk] at h
  match j, h with
  | 0, h => simp at h
  | 1, h => simp at h
  | j + 2, h => simp at h
/-- What is written into a box of two slices changes no row of sectors. -/
theorem WRow.box {w : World} {ob : Nat} {a a' : Option Addr} {n c n' c' : Nat} {t : TypeId} {fr : Nat × Nat} {aw : Option Addr} {nw : Nat} {ws : List WD} (h : WRow w aw nw ws) (hk : w.heap[ob]? = some (.cells #[.slice a n c, .slice a' n' c'] t fr)) (u v : Value) : WRow ((w.setCell ⟨ob, 0, none⟩ u).setCell ⟨ob, 1, none⟩ v) aw nw ws := by
  have bl : ∀ b j, b ≠ ob → ((w.setCell ⟨ob, 0, none⟩ u).setCell ⟨ob, 1, none⟩ v).cell? ⟨b, j, none⟩ = w.cell? ⟨b, j, none⟩ := fun b j hb => World.cell?_of_block (w := w) (a := ⟨b, j, none⟩) (by rw [Below.heap_setCell _ _ _ _ hb, Below.heap_setCell _ _ _ _ hb])
  refine ⟨h.1, fun i hi => ?_⟩
  obtain ⟨b, off, e, c0, a2, c2, c1, hm, hr⟩ := h.2 i hi
  have hb : b ≠ ob := fun e => by subst e; exact box_int hk c0
  refine ⟨b, off, e, (bl b _ hb).trans c0, a2, c2, (bl b _ hb).trans c1, hm, hr.1, fun j hj => ?_⟩
  obtain ⟨b3, o3, e3, c3⟩ := hr.2 j hj
  have hb3 : b3 ≠ ob := fun e => by subst e; exact box_int hk c3
  exact ⟨b3, o3, e3, (bl b3 _ hb3).trans c3⟩
end Go.Proofs.Ytocdbijmpecdgaa

namespace Go.Proofs.Ytocdbijmpecdgaa
open Go.RowKit

set_option maxRecDepth 100000 in
set_option maxHeartbeats 4000000 in
theorem l02Write_none (b off n c : Nat) (aw : Option Addr) (nw cw : Nat) (at_ : Nat) (ad : Option Addr) (cd : Nat) (w : World) :
    Calls Try.prog 82 #[fv (some ⟨b, off, none⟩) n c aw nw cw, .int .i64 (at_ : Int), .slice ad 0 cd] w fun e w' => e = .returned (fv (some ⟨b, off, none⟩) n c aw nw cw) ∧ Below w.heap.size w w' := by
  go_enter Try.func82, Try.ntmps82
  go_wp2_with fail
  refine bodyPost_ret (v := fv (some ⟨b, off, none⟩) n c aw nw cw) (by simp [results, Try.results82, go_sem]) rfl ⟨rfl, ?_⟩
  exact ((Below.refl _ _).alloc (Nat.le_refl _) _).alloc (by simp) _
theorem row_of_owns_len {w : World} {B g cap m n : Nat} {xs : List Int} (h : Owns w B (.slice (some ⟨g, 0, none⟩) n cap) xs) (hl : xs.length = m) : Row w (some ⟨g, 0, none⟩) m xs := by
  have hn : n = xs.length := by
    rcases h.2 with ⟨e, _⟩ | ⟨g', cap', cur, e, _⟩
    · cases e
    · injection e
  subst hn
  rw [← hl]
  exact row_of_owns h
/-- A device that is a local, while sectors are appended to what waits. -/
structure WOut (w2 wc : World) (ob g cap : Nat) (ah : Option Addr) (n c : Nat) (cs : List Value) (ws : List WD) : Prop where
  bel : Below w2.heap.size w2 wc
  c0 : wc.cell? ⟨ob, 0, none⟩ = some (.slice ah n c)
  c1 : wc.cell? ⟨ob, 1, none⟩ = some (.slice (some ⟨g, 0, none⟩) ws.length cap)
  kind : ∃ cur, wc.heap[ob]? = some (.cells cur 28 (0, 0))
  low : w2.heap.size ≤ ob
  own : wc.ownsRow w2.heap.size 129 2 (.slice (some ⟨g, 0, none⟩) ws.length cap) ws.length cs
  cells : WCs wc w2.heap.size cs ws
theorem ownsW_kept {w w' : World} {base n : Nat} {v : Value} {cs : List Value} (h : w.ownsRow base 129 2 v n cs) (hk : ∀ k, v.ownBlock = some k → w'.heap[k]? = w.heap[k]?) : w'.ownsRow base 129 2 v n cs := by
  obtain ⟨h1, h2⟩ := h
  refine ⟨h1, ?_⟩
  rcases h2 with h2 | ⟨g, cap, cur, rfl, hg, hh, r⟩
  · exact .inl h2
  · exact .inr ⟨g, cap, cur, rfl, hg, (hk g rfl).trans hh, r⟩
theorem ownsW_kind {w : World} {base n g cap : Nat} {cs : List Value} (h : w.ownsRow base 129 2 (.slice (some ⟨g, 0, none⟩) n cap) n cs) : ∃ cur, w.heap[g]? = some (.cells cur 129 (0, 0)) := by
  rcases h.2 with ⟨e, _⟩ | ⟨g', cap', cur, e, _, hh, _⟩
  · cases e
  · injection e with e1 _ _
    injection e1 with e1
    injection e1 with e1
    subst e1
    exact ⟨cur, hh⟩
theorem WOut.new {w2 w3 : World} {g cap : Nat} {ah : Option Addr} {n c : Nat} {cs : List Value} {ws : List WD} (hb : Below w2.heap.size w2 w3) (ho : w3.ownsRow w2.heap.size 129 2 (.slice (some ⟨g, 0, none⟩) ws.length cap) ws.length cs) (hc : WCs w3 w2.heap.size cs ws) :
    WOut w2 (w3.alloc (.cells #[.slice ah n c, .slice (some ⟨g, 0, none⟩) ws.length cap] 28)) w3.heap.size g cap ah n c cs ws :=
  have b : Below w3.heap.size w3 (w3.alloc (.cells #[.slice ah n c, .slice (some ⟨g, 0, none⟩) ws.length cap] 28)) := (Below.refl _ _).alloc (Nat.le_refl _) _
  ⟨hb.trans (b.mono hb.size), (cell_new rfl).trans rfl, (cell_new rfl).trans rfl, ⟨_, heap_alloc_last _ _⟩, hb.size, ho.alloc _, hc.grow b⟩
/-- The row that waits is laid into the box. -/
theorem WOut.lay {w2 w3 : World} {ob g cap : Nat} {ah : Option Addr} {n c : Nat} {cs : List Value} {ws : List WD} {v0 v1 : Value} (hb : Below w2.heap.size w2 w3) (hl : w2.heap.size ≤ ob) (hk : ∃ cur, w3.heap[ob]? = some (.cells cur 28 (0, 0))) (h0 : w3.cell? ⟨ob, 0, none⟩ = some v0) (h1 : w3.cell? ⟨ob, 1, none⟩ = some v1)
    (ho : w3.ownsRow w2.heap.size 129 2 (.slice (some ⟨g, 0, none⟩) ws.length cap) ws.length cs) (hc : WCs w3 w2.heap.size cs ws) :
    WOut w2 ((w3.setCell ⟨ob, 0, none⟩ (.slice ah n c)).setCell ⟨ob, 1, none⟩ (.slice (some ⟨g, 0, none⟩) ws.length cap)) ob g cap ah n c cs ws := by
  obtain ⟨cur, hk⟩ := hk
  obtain ⟨curg, hkg⟩ := ownsW_kind ho
  have hne : g ≠ ob := fun e => by
    rw [e, hk] at hkg
    injection hkg with hkg
    injection hkg with _ hkg
    exact absurd hkg (by decide)
  have bl : ∀ k, k ≠ ob → ((w3.setCell ⟨ob, 0, none⟩ (.slice ah n c)).setCell ⟨ob, 1, none⟩ (.slice (some ⟨g, 0, none⟩) ws.length cap)).heap[k]? = w3.heap[k]? := fun k hk => by rw [Below.heap_setCell _ _ _ _ hk, Below.heap_setCell _ _ _ _ hk]
  obtain ⟨cur1, hk1⟩ := setCell_kind (o := 0) (v := .slice ah n c) hk
  refine ⟨(hb.setCell (p := ⟨ob, 0, none⟩) hl _).setCell (p := ⟨ob, 1, none⟩) hl _, (World.cell?_setCell_other _ _ _ _ (by intro e; injection e; omega)).trans (World.cell?_setCell_same _ _ _ h0), World.cell?_setCell_same _ _ _ ((World.cell?_setCell_other _ _ _ _ (by intro e; injection e; omega)).trans h1), setCell_kind hk1, hl, ownsW_kept ho (fun k hk => bl k (fun e => hne ((show g = k by simpa [Value.ownBlock] using hk).trans e))), hc.but hl ⟨cur, _, _, hk, by decide⟩ (by simp [World.setCell]) (fun k _ hk => bl k hk)⟩
/-- One sector more waits in the box. -/
theorem WOut.more {w2 wr w5 : World} {ob g cap g5 cap5 : Nat} {ah : Option Addr} {n c : Nat} {cs cs' : List Value} {ws : List WD} {d : WD} (h : WOut w2 wr ob g cap ah n c cs ws)
    (ho : w5.ownsRow w2.heap.size 129 2 (.slice (some ⟨g5, 0, none⟩) (ws ++ [d]).length cap5) (ws ++ [d]).length cs') (hc : WCs w5 w2.heap.size cs' (ws ++ [d])) (hb : Below w2.heap.size wr w5) (hk : ∀ k, k < wr.heap.size → k ≠ g → w5.heap[k]? = wr.heap[k]?) :
    (w5.cell? ⟨ob, 1, none⟩ = some (.slice (some ⟨g, 0, none⟩) ws.length cap) ∧ w5.frozen? ⟨ob, 1, none⟩ = false ∧ ob < wr.heap.size) ∧ WOut w2 (w5.setCell ⟨ob, 1, none⟩ (.slice (some ⟨g5, 0, none⟩) (ws ++ [d]).length cap5)) ob g5 cap5 ah n c cs' (ws ++ [d]) := by
  have hobl : ob < wr.heap.size := cell_lt h.c0
  obtain ⟨cur, hkd⟩ := h.kind
  obtain ⟨curg, hkg⟩ := ownsW_kind h.own
  have hne : ob ≠ g := fun e => by
    rw [e, hkg] at hkd
    injection hkd with hkd
    injection hkd with _ hkd
    exact absurd hkd (by decide)
  have e5 := hk ob hobl hne
  have hk5 := e5.trans hkd
  obtain ⟨cur5, hkg5⟩ := ownsW_kind ho
  have hne5 : g5 ≠ ob := fun e => by
    rw [e, hk5] at hkg5
    injection hkg5 with hkg5
    injection hkg5 with _ hkg5
    exact absurd hkg5 (by decide)
  have c1 : w5.cell? ⟨ob, 1, none⟩ = some (.slice (some ⟨g, 0, none⟩) ws.length cap) := (World.cell?_of_block (w := wr) (a := ⟨ob, 1, none⟩) e5).trans h.c1
  have c0 : w5.cell? ⟨ob, 0, none⟩ = some (.slice ah n c) := (World.cell?_of_block (w := wr) (a := ⟨ob, 0, none⟩) e5).trans h.c0
  refine ⟨⟨c1, by simp [World.frozen?, hk5], hobl⟩, ⟨(h.bel.trans hb).setCell (p := ⟨ob, 1, none⟩) h.low _, (World.cell?_setCell_other _ _ _ _ (by intro e; injection e; omega)).trans c0, World.cell?_setCell_same _ _ _ c1, setCell_kind hk5, h.low, ownsW_kept ho (fun k hk => Below.heap_setCell _ _ _ _ (fun e => hne5 ((show g5 = k by simpa [Value.ownBlock] using hk).trans e))), hc.but h.low ⟨cur, _, _, hk5, by decide⟩ (by simp [World.setCell]) (fun k _ hk => Below.heap_setCell _ _ _ _ hk)⟩⟩
theorem newW_snoc (b : List Int) (at_ : Nat) (d : List Int) (k : Nat) (h : k < touchN at_ d.length) : (newW b at_ d).take (k + 1) = (newW b at_ d).take k ++ [⟨((at_ / 16 + k : Nat) : Int), secW (allW b at_ d) (at_ / 16 + k)⟩] := by
  rw [List.take_succ_eq_append_getElem (by rw [newW_len]; exact h)]
  simp [newW]
set_option maxRecDepth 100000 in
set_option maxHeartbeats 4000000 in
theorem l02Write_some (b off n c : Nat) (aw : Option Addr) (nw cw : Nat) (at_ : Nat) (bd od cd : Nat) (ds : List Int) (xs : List Int) (ws : List WD) (w : World) (hR : Row w (some ⟨b, off, none⟩) n xs) (hW : WRow w aw nw ws) (hn : n ≤ 2048) (h16 : n % 16 = 0) (hnw : nw ≤ 4096) (hall : ∀ d ∈ ws, okW d = true) (hds : Row w (some ⟨bd, od, none⟩) ds.length ds) (hd0 : 0 < ds.length) (hfit : at_ + ds.length ≤ 2048) (haw : aw = none → nw = 0 ∧ cw = 0) :
    Calls Try.prog 82 #[fv (some ⟨b, off, none⟩) n c aw nw cw, .int .i64 (at_ : Int), .slice (some ⟨bd, od, none⟩) ds.length cd] w fun e w' => ∃ g cw', e = .returned (fv (some ⟨b, off, none⟩) n c (some ⟨g, 0, none⟩) (writeD xs ws at_ ds).length cw') ∧ WRow w' (some ⟨g, 0, none⟩) (writeD xs ws at_ ds).length (writeD xs ws at_ ds) ∧ Below w.heap.size w w' := by
  obtain ⟨i0, hi, hz0, hz1, hz2⟩ := info_parts Try.infoU8
  have hxl := hR.1
  have hb0 : ∀ o1 o2, Below w.heap.size w ((w.alloc o1).alloc o2) := fun o1 o2 => ((Below.refl _ _).alloc (Nat.le_refl _) _).alloc (by simp) _
  have HL := hide (fun o1 o2 c => l02Read_any b off n c aw nw cw xs ws ((w.alloc o1).alloc o2) (row_grow hR (hb0 o1 o2)) (hW.below (hb0 o1 o2)) hn h16 (by omega) hall)
  have HB := hide (readD_bounds xs ws (by rw [hxl]; exact h16) (by rw [hxl]; exact hn) hall)
  have HR := hide hR
  have HW := hide hW
  have HD := hide hds
  have HA := hide hall
  clear hR hW hall hds
  have HAW := hide haw
  clear haw
  have q0 : ((ds.length : Int) == 0) = false := by rw [beq_eq_false_iff_ne]; omega
  go_enter Try.func82, Try.ntmps82
  go_wp2_with fail
  refine (unhide HL _ _ _).mono ?_
  rintro e w1 ⟨g, cap, rfl, hO, hb1⟩
  have hz : ∀ o1 o2, ((w.alloc o1).alloc o2).heap.size = w.heap.size + 1 + 1 := fun o1 o2 => by simp
  have B1 := hide ((hb0 (.cells #[.slice (some ⟨b, off, none⟩) n c, .slice aw nw cw] 28) (.cells #[.slice none 0 0, .slice none 0 0] 28)).trans (hb1.mono (by rw [hz]; omega)))
  have hs1 := hb1.size
  rw [hz] at hs1 hb1 hO
  have y0 : w1.cell? ⟨w.heap.size, 0, none⟩ = some (.slice (some ⟨b, off, none⟩) n c) := (hb1.cell (p := ⟨w.heap.size, 0, none⟩) (by simp; omega)).trans ((cell_old (by simp)).trans ((cell_new rfl).trans rfl))
  have y1 : w1.cell? ⟨w.heap.size, 1, none⟩ = some (.slice aw nw cw) := (hb1.cell (p := ⟨w.heap.size, 1, none⟩) (by simp; omega)).trans ((cell_old (by simp)).trans ((cell_new rfl).trans rfl))
  have r0 : w1.cell? ⟨w.heap.size + 1, 0, none⟩ = some (.slice none 0 0) := (hb1.cell (p := ⟨w.heap.size + 1, 0, none⟩) (by simp)).trans ((cell_new (by simp)).trans rfl)
  have r1 : w1.cell? ⟨w.heap.size + 1, 1, none⟩ = some (.slice none 0 0) := (hb1.cell (p := ⟨w.heap.size + 1, 1, none⟩) (by simp)).trans ((cell_new (by simp)).trans rfl)
  have rf := hide (fun j => show w1.frozen? ⟨w.heap.size + 1, j, none⟩ = false from (hb1.frozen (p := ⟨w.heap.size + 1, j, none⟩) (by simp)).trans (frozen_new (by simp)))
  have RB := hide (show w1.heap[w.heap.size + 1]? = some (.cells #[.slice none 0 0, .slice none 0 0] 28 (0, 0)) from by
    rw [hb1.block (w.heap.size + 1) (by omega)]
    have e : w.heap.size + 1 = (w.alloc (.cells #[.slice (some ⟨b, off, none⟩) n c, .slice aw nw cw] 28)).heap.size := by simp
    rw [e]; exact heap_alloc_last _ _)
  have OO := hide hO
  have hbB := unhide HB
  have HWD := hide (show writeD xs ws at_ ds = ws ++ newW (readD xs ws) at_ ds from rfl)
  clear hb1 hO HL hz hb0 HB
  generalize readD xs ws = B at *
  obtain ⟨hB16, hB2048⟩ := hbB
  have hfl := fillN_le hB2048 hfit
  have hge := fillN_ge B.length (at_ + ds.length)
  go_wp2_with fail
  go_loopw [7] (fun o wr => ∃ (j g cap : Nat) (ys : List Int), B.length + j ≤ fillN B.length (at_ + ds.length) ∧ o = .slice (some ⟨g, 0, none⟩) ys.length cap ∧ Hid (ys.length = B.length + j) ∧ Hid (ys = B ++ List.replicate j 0) ∧ Hid (Owns wr (w.heap.size + 1 + 1) (.slice (some ⟨g, 0, none⟩) ys.length cap) ys) ∧ Below (w.heap.size + 1 + 1) w1 wr) (fun o _ => 4096 - (match o with | .slice _ l _ => l | _ => 0))
  case atStart => exact ⟨0, g, cap, B, by omega, rfl, by show B.length = _; simp, by show B = _; simp, unhide OO, Below.refl _ _⟩
  case round =>
    clear OO
    obtain ⟨j, g, cap, ys, hj, rfl, hyl, hy, hO, hb⟩ := hrel
    have hyb : B.length ≤ ys.length ∧ ys.length ≤ 2048 := by have := unhide hyl; omega
    have hsz : w.heap.size + 1 + 1 ≤ wr.heap.size := Nat.le_trans hs1 hb.size
    by_cases hlt : B.length + j < fillN B.length (at_ + ds.length)
    · have hc : ((ys.length : Int) < (at_ : Int) + (ds.length : Int)) ∨ ¬ ys.length % 16 = 0 := by
        have h1 := unhide hyl
        rcases fillN_more hB16 (show B.length ≤ B.length + j by omega) hlt with h | h
        · exact .inl (by omega)
        · exact .inr (by rw [h1]; exact h)
      have HS := hide (show ys ++ [0] = B ++ List.replicate (j + 1) 0 by rw [unhide hy, List.replicate_succ', List.append_assoc])
      have HSL := hide (show (ys ++ [(0 : Int)]).length = B.length + (j + 1) by rw [List.length_append, unhide hyl]; rfl)
      have q1 : ((at_ : Int) + (ds.length : Int) ≤ (ys.length : Int)) → ((ys.length : Int) % 16 != 0) = true := fun h => by
        have hh : ¬ ys.length % 16 = 0 := by omega
        rw [bne_iff_ne]; omega
      have Q1 := hide q1
      clear q1 hc
      by_cases hl1 : (ys.length : Int) < (at_ : Int) + (ds.length : Int)
      all_goals
        first | (have q2 := unhide Q1 (by omega)) | skip
        have hlen : ys.length ≤ 2048 := hyb.2
        clear Q1
        go_wp2_with (at_builtin; refine wpList_append_own _ rfl _ _ 22 rfl (w.heap.size + 1 + 1) 5 i0 (.int .u8 0) 1 1 Try.underlying22 hi hz0 hz1 hz2 rfl (by decide) _ _ _ rfl ((unhide hO).alloc _) ⟨wr.heap.size, 0, none⟩ 1 1 [.int .u8 0] rfl rfl (cell_one_new _ _ _) (one_u8 _) (by unfold maxLen; omega) (by omega) (by simp; omega) ?_)
        intro v2 w2 hown2 hgrow2 hnil2
        have O2 := owns_app hown2
        obtain ⟨g2, cap2, rfl, _⟩ := owns_form O2 (fun e => by subst e; have := hnil2; simp at this)
        have O3 := hide O2
        have B2 := hide (below_app hb hsz (unhide hO) hgrow2)
        clear hown2 hgrow2 hnil2 O2 hO hb
        generalize ys ++ [(0 : Int)] = zs at *
        go_wp2_with fail
        go_roundw
        case rel => exact ⟨j + 1, g2, cap2, zs, by omega, rfl, unhide HSL, unhide HS, unhide O3, unhide B2⟩
        case measure => have := unhide HSL; have := unhide hyl; simp; omega
    · have hje : B.length + j = fillN B.length (at_ + ds.length) := by omega
      have HE := hide (show ys = B ++ List.replicate (fillN B.length (at_ + ds.length) - B.length) 0 by rw [unhide hy]; congr 2; omega)
      have hyl2 : ys.length = fillN B.length (at_ + ds.length) := by rw [unhide hyl]; exact hje
      have hl1 : ¬ (ys.length : Int) < (at_ : Int) + (ds.length : Int) := by omega
      have q2 : ((ys.length : Int) % 16 != 0) = false := by
        have := fillN_16 (n := at_ + ds.length) hB16
        rw [bne_eq_false_iff_eq]; omega
      have HYL := hide hyl2
      clear hyl hy hlt hje hyl2
      have hcap := owns_cap (unhide hO)
      have hac : at_ < cap := by omega
      have hbw : Below w.heap.size w wr := (unhide B1).trans (hb.mono (by omega))
      obtain ⟨w2, hcp, hO2, ho2⟩ := owns_copy (unhide hO) (row_grow (unhide HD) hbw) (o := at_) (show at_ + ds.length ≤ ys.length by omega) (ys.length - at_) (cap - at_) ds.length cd (show Nat.min ds.length (ys.length - at_) = ds.length from Nat.min_eq_left (by omega))
      rw [show putB ys at_ ds = allW B at_ ds by rw [unhide HE]; rfl] at hO2
      have hgB : w.heap.size + 1 + 1 ≤ g := ((unhide hO).lt g rfl).1
      have B2 : Below (w.heap.size + 1 + 1) w1 w2 := hb.trans (ho2.below hgB)
      have OO2 := hide hO2
      have hgt : ¬ cap = at_ := by omega
      clear hO ho2 hO2 hb hbw
      go_upto_region 7 with fail
      clear hcp
      have hbw2 : Below w.heap.size w w2 := (unhide B1).trans (B2.mono (by omega))
      have y0 := (B2.cell (p := ⟨w.heap.size, 0, none⟩) (by simp; omega)).trans y0
      have y1 := (B2.cell (p := ⟨w.heap.size, 1, none⟩) (by simp; omega)).trans y1
      have hs2 : w.heap.size + 1 + 1 ≤ w2.heap.size := Nat.le_trans hs1 B2.size
      have CW := hide (fun (u : World) (g0 : Nat) (hb0 : Below w2.heap.size w2 u) (hO : u.ownsRow w2.heap.size 129 2 (.slice (some ⟨g0, 0, none⟩) 0 0) 0 []) => copy_waiting 26 ((unhide HW).below hbw2) (unhide HAW) (show nw ≤ 1048576 by omega) hb0 hO)
      have hlt2 : w.heap.size < w2.heap.size := by omega
      go_cut [8] (fun o wc => ∃ (ob g3 cap3 : Nat) (cs : List Value), o = .pointer (some ⟨ob, 0, none⟩) ∧ WOut w2 wc ob g3 cap3 (some ⟨b, off, none⟩) n c cs ws)
      case first =>
        have hzE : (w2.alloc (.cells #[] 129)).heap.size = w2.heap.size + 1 := by simp
        have hzO : (w2.alloc (.cells #[.slice none 0 0, .slice none 0 0] 28)).heap.size = w2.heap.size + 1 := by simp
        have bE := (Below.refl w2.heap.size w2).alloc (Nat.le_refl _) (.cells #[] 129)
        have bO := (Below.refl w2.heap.size w2).alloc (Nat.le_refl _) (.cells #[.slice none 0 0, .slice none 0 0] 28)
        have oE : (w2.alloc (.cells #[] 129)).ownsRow w2.heap.size 129 2 (.slice (some ⟨w2.heap.size, 0, none⟩) 0 0) 0 [] := World.ownsRow_lit (base := w2.heap.size) (e := 129) (size := 2) w2 #[] 0 (Nat.le_refl _) (by unfold maxLen; simp) rfl
        have oOE : ((w2.alloc (.cells #[.slice none 0 0, .slice none 0 0] 28)).alloc (.cells #[] 129)).ownsRow w2.heap.size 129 2 (.slice (some ⟨w2.heap.size + 1, 0, none⟩) 0 0) 0 [] := by
          have := World.ownsRow_lit (base := w2.heap.size) (e := 129) (size := 2) (w2.alloc (.cells #[.slice none 0 0, .slice none 0 0] 28)) #[] 0 (by simp) (by unfold maxLen; simp) rfl
          rwa [hzO] at this
        have CA := hide (unhide CW (w2.alloc (.cells #[] 129)).drew w2.heap.size (bel_drewN (n := 1) bE) oE)
        have box : ∀ (u w3 : World) (ob : Nat), u.heap[ob]? = some (.cells #[.slice none 0 0, .slice none 0 0] 28 (0, 0)) → w3.heap[ob]? = u.heap[ob]? → (w3.cell? ⟨ob, 0, none⟩ = some (.slice none 0 0) ∧ w3.cell? ⟨ob, 1, none⟩ = some (.slice none 0 0) ∧ w3.frozen? ⟨ob, 0, none⟩ = false ∧ w3.frozen? ⟨ob, 1, none⟩ = false ∧ ∃ cur, w3.heap[ob]? = some (.cells cur 28 (0, 0))) := fun u w3 ob h1 h2 => by
          have h3 := h2.trans h1
          refine ⟨?_, ?_, ?_, ?_, _, h3⟩ <;> simp [World.cell?, World.frozen?, h3]
        have CB := hide (show ∃ g3 cap3 w3 cs3, _ ∧ _ ∧ _ ∧ _ ∧ _ from by
          obtain ⟨g3, cap3, w3, cs3, hrun3, hO3, hC3, hb3, hz3, hk3⟩ := unhide CW ((w2.alloc (.cells #[] 129)).alloc (.cells #[.slice none 0 0, .slice none 0 0] 28)).drew w2.heap.size (bel_drewN (n := 1) (bE.alloc (by simp) _)) (oE.alloc _)
          exact ⟨g3, cap3, w3, cs3, hrun3, hO3, hC3, hb3, box ((w2.alloc (.cells #[] 129)).alloc (.cells #[.slice none 0 0, .slice none 0 0] 28)).drew w3 (w2.heap.size + 1) (by rw [← hzE]; exact heap_alloc_last _ _) (hk3 _ (by show w2.heap.size + 1 < ((w2.alloc _).alloc _).heap.size; simp) (by omega))⟩)
        have CC := hide (show ∃ g3 cap3 w3 cs3, _ ∧ _ ∧ _ ∧ _ ∧ _ from by
          obtain ⟨g3, cap3, w3, cs3, hrun3, hO3, hC3, hb3, hz3, hk3⟩ := unhide CW ((w2.alloc (.cells #[.slice none 0 0, .slice none 0 0] 28)).alloc (.cells #[] 129)).drew (w2.heap.size + 1) (bel_drewN (n := 1) (bO.alloc (by simp) _)) oOE
          exact ⟨g3, cap3, w3, cs3, hrun3, hO3, hC3, hb3, box ((w2.alloc (.cells #[.slice none 0 0, .slice none 0 0] 28)).alloc (.cells #[] 129)).drew w3 w2.heap.size (by show ((w2.alloc _).alloc _).heap[w2.heap.size]? = _; rw [Below.heap_alloc _ _ _ (by simp)]; exact heap_alloc_last _ _) (hk3 _ (by show w2.heap.size < ((w2.alloc _).alloc _).heap.size; simp; omega) (by omega))⟩)
        clear bE bO oE oOE hzE hzO CW box
        go_region_law (first
          | (obtain ⟨g3, cap3, w3, cs3, hrun3, hO3, hC3, hb3, hz3, hk3⟩ := unhide CA; have z0 := (hb3.cell (p := ⟨w.heap.size, 0, none⟩) hlt2).trans y0; have hl3 := Nat.lt_of_lt_of_le hlt2 hb3.size; refine step_append_eq rfl (.tmp 39) (.tmp 41) 26 rfl (.slice (some ⟨w2.heap.size, 0, none⟩) 0 0) (.slice aw nw cw) (.slice (some ⟨g3, 0, none⟩) ws.length cap3) w3 rfl rfl hrun3 ?_)
          | (obtain ⟨g3, cap3, w3, cs3, hrun3, hO3, hC3, hb3, q0, q1, f0, f1, hkd⟩ := unhide CB; have z0 := (hb3.cell (p := ⟨w.heap.size, 0, none⟩) hlt2).trans y0; have hl3 := Nat.lt_of_lt_of_le hlt2 hb3.size; refine step_append_eq rfl (.tmp 39) (.tmp 41) 26 rfl (.slice (some ⟨w2.heap.size, 0, none⟩) 0 0) (.slice aw nw cw) (.slice (some ⟨g3, 0, none⟩) ws.length cap3) w3 rfl rfl hrun3 ?_)
          | (obtain ⟨g3, cap3, w3, cs3, hrun3, hO3, hC3, hb3, q0, q1, f0, f1, hkd⟩ := unhide CC; have z0 := (hb3.cell (p := ⟨w.heap.size, 0, none⟩) hlt2).trans y0; have hl3 := Nat.lt_of_lt_of_le hlt2 hb3.size; refine step_append_eq rfl (.tmp 39) (.tmp 41) 26 rfl (.slice (some ⟨w2.heap.size + 1, 0, none⟩) 0 0) (.slice aw nw cw) (.slice (some ⟨g3, 0, none⟩) ws.length cap3) w3 rfl rfl hrun3 ?_))
        all_goals
          go_wp2_with fail
          go_meet
          case rel => first | exact ⟨w3.heap.size, g3, cap3, cs3, rfl, WOut.new hb3 hO3 hC3⟩ | exact ⟨w2.heap.size + 1, g3, cap3, cs3, rfl, WOut.lay hb3 (by omega) hkd q0 q1 hO3 hC3⟩ | exact ⟨w2.heap.size, g3, cap3, cs3, rfl, WOut.lay hb3 (Nat.le_refl _) hkd q0 q1 hO3 hC3⟩
      case rest =>
        obtain ⟨ob, g3, cap3, cs3, rfl, hW3⟩ := hcut
        have HO3 := hide hW3
        clear hW3 CW
        have HNL := hide (newW_len B at_ ds)
        have htl := touch_le hfit
        have ALL := hide (row_of_owns_len (unhide OO2) (allW_len B at_ ds))
        go_wp2_with fail
        go_loopw [9] (fun i wr => ∃ (k g3 cap3 : Nat) (cs : List Value), k ≤ touchN at_ ds.length ∧ i = .int .i64 ((at_ / 16 + k : Nat) : Int) ∧ Hid (WOut w2 wr ob g3 cap3 (some ⟨b, off, none⟩) n c cs (ws ++ (newW B at_ ds).take k))) (fun i _ => 4096 - (intOf i).toNat)
        case atStart => exact ⟨0, g3, cap3, cs3, Nat.zero_le _, by simp, by rw [List.take_zero, List.append_nil]; exact unhide HO3⟩
        case round =>
          clear HO3
          obtain ⟨k, g3, cap3, cs3, hk, rfl, hW⟩ := hrel
          have hk127 := htl.2 k
          by_cases hlt : k < touchN at_ ds.length
          · have h127 := hk127 hlt
            have hcond : ((at_ / 16 + k : Nat) : Int) * 16 < (at_ : Int) + (ds.length : Int) := by have := (touch_more (at_ := at_) hd0).2 hlt; omega
            have hin := sec_in B at_ ds hB16 k hlt hd0
            rw [allW_len, ← unhide HYL] at hin
            have SN := hide (newW_snoc B at_ ds k hlt)
            have hlen : (ws ++ (newW B at_ ds).take k).length ≤ 100000 := by have := (unhide HW).1; rw [List.length_append, List.length_take, unhide HNL]; omega
            have hs16 : (secW (allW B at_ ds) (at_ / 16 + k)).length = 16 := by unfold secW; rw [List.length_take, List.length_drop, allW_len, ← unhide HYL]; omega
            have hrow : Row wr (some ⟨g, (at_ / 16 + k) * 16, none⟩) 16 (secW (allW B at_ ds) (at_ / 16 + k)) := row_off (row_grow (unhide ALL) (unhide hW).bel) _ _ (by rw [← unhide HYL]; omega)
            obtain ⟨g4, cap4, w4, v5, w5, cs5, hr1, hr2, ho5, hv5, hc5, hb5, hk5, hb4⟩ := write_one (unhide hW).own (unhide hW).cells (unhide hW).bel.size hlen g ((at_ / 16 + k) * 16) (cap - (at_ / 16 + k) * 16) (at_ / 16 + k) _ hs16 hrow
            obtain ⟨g5, cap5, rfl⟩ : ∃ g5 cap5, v5 = .slice (some ⟨g5, 0, none⟩) ((ws ++ (newW B at_ ds).take k).length + 1) cap5 := by
              rcases ho5.2 with ⟨e, _⟩ | ⟨g, cap, _, e, _⟩
              · exact absurd e hv5
              · exact ⟨g, cap, e⟩
            have WM := WOut.more (unhide hW) (d := ⟨((at_ / 16 + k : Nat) : Int), secW (allW B at_ ds) (at_ / 16 + k)⟩) (g5 := g5) (cap5 := cap5) (cs' := cs5) (by rw [List.length_append]; exact ho5) hc5 hb5 (fun j hj hne => hk5 j hj (by simp [Value.ownBlock]; exact hne))
            obtain ⟨⟨c15, f15, hobl⟩, hW5⟩ := WM
            rw [List.append_assoc, ← unhide SN] at hW5
            have HLL := hide (show (ws ++ (newW B at_ ds).take (k + 1)).length = (ws ++ (newW B at_ ds).take k).length + 1 by rw [unhide SN, ← List.append_assoc, List.length_append]; rfl)
            have c1r := (unhide hW).c1
            have c14 := (hb4.cell (p := ⟨ob, 1, none⟩) hobl).trans c1r
            have hob4 := Nat.lt_of_lt_of_le hobl hb4.size
            rw [unhide HLL] at hW5
            have HW5 := hide hW5
            have hr1' : (Builtin.append_ #[22, 22] 22 #[.slice (some ⟨wr.heap.size, 0, none⟩) 0 0, .slice (some ⟨g, (at_ / 16 + k) * 16, none⟩) 16 (cap - (at_ / 16 + k) * 16)]).run Try.prog (wr.alloc (.cells #[] 5)).drew = .ok (.slice (some ⟨g4, 0, none⟩) 16 cap4) w4 := hr1
            clear hr1 hW hW5 ho5 hv5 hc5 hb5 hk5 hb4 hrow hs16 SN hk127
            generalize (ws ++ (newW B at_ ds).take k).length = L at *
            obtain ⟨s, hs⟩ : ∃ s, s = at_ / 16 + k := ⟨_, rfl⟩
            rw [← hs] at hr1' hr2 hcond h127 hin ⊢
            have HS := hide hs
            have hsc : s * 16 < cap := by omega
            have hsc2 : (s + 1) * 16 ≤ cap := by omega
            have hle1 : (s : Int) * 16 ≤ ((s : Int) + 1) * 16 := by omega
            clear hs
            have hwa : IntKind.i64.wrap ((s : Int) * 16) = (s : Int) * 16 := by rw [IntKind.wrap_i64]; omega
            have hwb : IntKind.i64.wrap ((s : Int) + 1) = (s : Int) + 1 := by rw [IntKind.wrap_i64]; omega
            have hwc : IntKind.i64.wrap (((s : Int) + 1) * 16) = ((s : Int) + 1) * 16 := by rw [IntKind.wrap_i64]; omega
            have hta : ((s : Int) * 16).toNat = s * 16 := by omega
            have htb : (((s : Int) + 1) * 16).toNat = (s + 1) * 16 := by omega
            have hia : (0 : Int) ≤ (s : Int) * 16 := by omega
            have hib : (0 : Int) ≤ ((s : Int) + 1) * 16 := by omega
            have hic : ((s : Int) + 1) * 16 ≤ (cap : Int) := by omega
            have hid : (s : Int) ≤ (s : Int) + 1 := by omega
            have hne : ¬ cap = s * 16 := by omega
            have h16e : (s + 1) * 16 - s * 16 = 16 := by omega
            go_wp2_with fail
            go_region_law (first
              | refine step_append_eq rfl (.tmp 58) (.tmp 65) 22 rfl (.slice (some ⟨wr.heap.size, 0, none⟩) 0 0) (.slice (some ⟨g, s * 16, none⟩) 16 (cap - s * 16)) (.slice (some ⟨g4, 0, none⟩) 16 cap4) w4 rfl rfl hr1' ?_
              | refine step_append_eq rfl (.tmp 56) (.tmp 68) 26 rfl (.slice (some ⟨g3, 0, none⟩) L cap3) (.slice (some ⟨w4.heap.size, 0, none⟩) 1 1) (.slice (some ⟨g5, 0, none⟩) (L + 1) cap5) w5 rfl rfl hr2 ?_)
            all_goals
              have R := hide (show WOut w2 (w5.setCell ⟨ob, 1, none⟩ (.slice (some ⟨g5, 0, none⟩) (L + 1) cap5)) ob g5 cap5 (some ⟨b, off, none⟩) n c cs5 (ws ++ (newW B at_ ds).take (k + 1)) from unhide HW5)
              clear HW5 hr1' hr2
              go_wp2_with fail
              go_roundw
              case rel => exact ⟨k + 1, g5, cap5, cs5, by omega, by rw [unhide HS]; go_num, unhide R⟩
              case measure => simp [intOf]; omega
          · obtain rfl : k = touchN at_ ds.length := by omega
            have hcond : ¬ ((at_ / 16 + touchN at_ ds.length : Nat) : Int) * 16 < (at_ : Int) + (ds.length : Int) := by
              have := touch_more (at_ := at_) (i := touchN at_ ds.length) hd0
              omega
            have hW2 := unhide hW
            rw [List.take_of_length_le (by rw [unhide HNL]; exact Nat.le_refl _), ← unhide HWD] at hW2
            obtain ⟨a6, c6, e6, hr6⟩ := wrow_owns hW2.own hW2.cells rfl
            have c0 := hW2.c0
            have c1 := hW2.c1
            have B6 := hbw2.trans (hW2.bel.mono (by omega))
            have bb : Below (w.heap.size + 1 + 1) w1 wr := B2.trans (hW2.bel.mono (by omega))
            have r0 := (bb.cell (p := ⟨w.heap.size + 1, 0, none⟩) (by simp)).trans r0
            have r1 := (bb.cell (p := ⟨w.heap.size + 1, 1, none⟩) (by simp)).trans r1
            have f0 := (bb.frozen (p := ⟨w.heap.size + 1, 0, none⟩) (by simp)).trans (unhide rf 0)
            have f1 := (bb.frozen (p := ⟨w.heap.size + 1, 1, none⟩) (by simp)).trans (unhide rf 1)
            injection e6 with e61 _ e63
            subst e61 e63
            have HR6 := hide hr6
            have RB6 := hide ((bb.block (w.heap.size + 1) (by omega)).trans (unhide RB))
            have hls := hW2.low
            clear hW2 hW hr6 bb
            generalize hzs : writeD xs ws at_ ds = zs at *
            have HZ2 := hide hzs
            clear hzs
            go_wp2_with fail
            refine bodyPost_ret (v := fv (some ⟨b, off, none⟩) n c (some ⟨g3, 0, none⟩) zs.length cap3) (by simp [results, Try.results82, go_sem, r0, r1]) rfl ⟨g3, ⟨cap3, by rw [unhide HZ2]⟩, ?_, (B6.setCell (p := ⟨w.heap.size + 1, 0, none⟩) (by simp) _).setCell (p := ⟨w.heap.size + 1, 1, none⟩) (by simp) _⟩
            rw [unhide HZ2]
            exact (unhide HR6).box (unhide RB6) _ _
end Go.Proofs.Ytocdbijmpecdgaa

namespace Go.Proofs.Ytocdbijmpecdgaa
open Go.RowKit Go.Maps

/-- Bytes have room on a device. -/
def fitB (E : Int) (n : Nat) : Bool := decide (0 ≤ E ∧ E + (n : Int) ≤ 2048)
set_option maxHeartbeats 1000000 in
theorem l02Fits_any (E : Int) (n : Nat) (w : World) (hn : n ≤ 1048576) :
    Calls Try.prog 81 #[.int .i64 E, .int .i64 (n : Int)] w fun e w' => e = .returned (.bool (fitB E n)) ∧ w' = w := by
  by_cases h0 : 0 ≤ E
  · by_cases h1 : (n : Int) ≤ 2048
    · have wr : IntKind.i64.wrap (2048 - (n : Int)) = 2048 - (n : Int) := by rw [IntKind.wrap_i64]; omega
      have HE := hide (show fitB E n = decide (E ≤ 2048 - (n : Int)) from decide_eq_decide.2 ⟨fun h => by omega, fun h => ⟨h0, by omega⟩⟩)
      go_enter Try.func81, Try.ntmps81
      go_wp2_with fail
      refine (l02Size_any _).mono ?_
      rintro e w1 ⟨rfl, hw⟩
      subst w1
      go_wp2_with fail
      refine (l02Size_any _).mono ?_
      rintro e w1 ⟨rfl, hw⟩
      subst w1
      go_wp2_with fail
      go_ret
      rw [unhide HE]
      exact ⟨by simp, rfl⟩
    · have HE := hide (show fitB E n = false from decide_eq_false (by omega))
      go_enter Try.func81, Try.ntmps81
      go_wp2_with fail
      refine (l02Size_any _).mono ?_
      rintro e w1 ⟨rfl, hw⟩
      subst w1
      go_wp2_with fail
      go_ret
      rw [unhide HE]
      exact ⟨rfl, rfl⟩
  · have HE := hide (show fitB E n = false from decide_eq_false (by omega))
    go_enter Try.func81, Try.ntmps81
    go_wp2_with fail
    go_ret
    rw [unhide HE]
    exact ⟨rfl, rfl⟩
theorem readD_app (xs : List Int) (ws vs : List WD) : readD xs (ws ++ vs) = readD (readD xs ws) vs := by simp [readD]
set_option maxRecDepth 100000 in
set_option maxHeartbeats 4000000 in
theorem specStore_any (bh oh n c : Nat) (aw : Option Addr) (nw cw : Nat) (xs : List Int) (ws : List WD) (id : Int) (gone : Bool) (b off ci : Nat) (ds : List Int) (w : World) (hR : Row w (some ⟨bh, oh, none⟩) n xs) (hW : WRow w aw nw ws) (hn : n ≤ 1048576) (hnw : nw ≤ 1048576) (haw : aw = none → nw = 0 ∧ cw = 0) (h8 : Bytes8 xs) (h8w : ∀ d ∈ ws, Bytes8 d.xs) (hI : Row w (some ⟨b, off, none⟩) ds.length ds) (hd : ds.length ≤ 1048576) (hci : ds.length ≤ ci) (h8d : Bytes8 ds) :
    Calls Try.prog 37 #[fv (some ⟨bh, oh, none⟩) n c aw nw cw, iv id gone (some ⟨b, off, none⟩) ds.length ci] w fun e w' => StRes xs ws id gone ds w e w' := by
  have hxl := hR.1
  have hwl := hW.1
  have H8 := hide (readD_bytes ws xs h8 h8w)
  have D8 := hide h8d
  have b0 : Below w.heap.size w (((w.alloc (.cells #[.slice (some ⟨bh, oh, none⟩) n c, .slice aw nw cw] 28)).alloc (.cells #[.int .i64 id, .bool gone, .slice (some ⟨b, off, none⟩) ds.length ci] 45)).alloc (.cells #[.slice none 0 0, .slice none 0 0] 28)) := (((Below.refl _ _).alloc (Nat.le_refl _) _).alloc (by simp) _).alloc (by simp; omega) _
  have T := hide (StB.start w (some ⟨bh, oh, none⟩) n c aw nw cw id gone (some ⟨b, off, none⟩) ds.length ci)
  have HW := hide hW
  have HR := hide hR
  have HI := hide hI
  have HAW := hide haw
  have B := hide b0
  have hz : (((w.alloc (.cells #[.slice (some ⟨bh, oh, none⟩) n c, .slice aw nw cw] 28)).alloc (.cells #[.int .i64 id, .bool gone, .slice (some ⟨b, off, none⟩) ds.length ci] 45)).alloc (.cells #[.slice none 0 0, .slice none 0 0] 28)).heap.size = w.heap.size + 3 := by simp
  clear hR hW hI b0 h8 h8w h8d haw
  go_enter Try.func37, Try.ntmps37
  go_wp2_with fail
  generalize ((w.alloc (.cells #[.slice (some ⟨bh, oh, none⟩) n c, .slice aw nw cw] 28)).alloc (.cells #[.int .i64 id, .bool gone, .slice (some ⟨b, off, none⟩) ds.length ci] 45)).alloc (.cells #[.slice none 0 0, .slice none 0 0] 28) = w0 at *
  have z0 : w.heap.size + 3 ≤ w0.heap.size := by omega
  clear hz
  refine (specFlashOK_any (some ⟨bh, oh, none⟩) n c aw nw cw ws w0 (by unfold maxLen; omega) (by unfold maxLen; omega) ((unhide HW).below (unhide B))).mono ?_
  rintro e w1 ⟨rfl, hb⟩
  replace T := hide ((unhide T).step hb z0)
  replace B := hide ((unhide B).trans (hb.mono (by omega)))
  have z1 : w.heap.size + 3 ≤ w1.heap.size := Nat.le_trans z0 hb.size
  clear hb
  have BAD := hide (fun (W : World) (h : Below w.heap.size w W) => ((h.setCell (p := ⟨w.heap.size + 1 + 1, 0, none⟩) (by simp; omega) (.slice none 0 0)).setCell (p := ⟨w.heap.size + 1 + 1, 1, none⟩) (by simp; omega) (.slice none 0 0)))
  by_cases ho : okD n ws = true
  · rw [ho]
    have i0 := (unhide T).i0
    have i1 := (unhide T).i1
    have i2 := (unhide T).i2
    go_wp2_with fail
    clear i0 i1 i2
    refine (l03Image_any id gone (some ⟨b, off, none⟩) ds.length ci w1 (by unfold maxLen; omega)).mono ?_
    rintro e w2 ⟨rfl, hb⟩
    replace T := hide ((unhide T).step hb z1)
    replace B := hide ((unhide B).trans (hb.mono (by omega)))
    have z2 : w.heap.size + 3 ≤ w2.heap.size := Nat.le_trans z1 hb.size
    clear hb
    have HO := hide (show okD xs.length ws = true by rw [hxl]; exact ho)
    by_cases hi : imOK id gone ds.length = true
    · rw [hi]
      have SOK := hide (show stOK xs ws id gone ds = true by unfold stOK; rw [unhide HO, hi]; rfl)
      have IOK := hide hi
      obtain ⟨k1, k2, k3, k4⟩ := okD_parts ho
      have K4 := hide k4
      have FW := hide (scan_few (unhide HO))
      have hE := stE_le (unhide HO)
      have hdl : ds.length ≤ 1000 := by have := of_decide_eq_true hi; exact this.2.2.1
      have hnw4 : nw ≤ 4096 := by omega
      have h16 : n % 16 = 0 := k1
      have HP := hide (l02Read_any bh oh n c aw nw cw xs ws w2 (row_grow (unhide HR) (unhide B)) ((unhide HW).below (unhide B)) k2 k1 (by omega) k4)
      have H16 := hide h16
      clear k1 k3 k4 ho hi h16
      have f0 := (unhide T).f0
      have f1 := (unhide T).f1
      go_wp2_with fail
      clear f0 f1
      refine (unhide HP).mono ?_
      rintro e w3 ⟨g3, cap3, rfl, hO, hb⟩
      have M3 := hide (mine_row8 (mine_of_owns hO))
      replace T := hide ((unhide T).step hb z2)
      replace B := hide ((unhide B).trans (hb.mono (by omega)))
      have z3 : w.heap.size + 3 ≤ w3.heap.size := Nat.le_trans z2 hb.size
      clear hb hO HP
      go_wp2_with fail
      refine (l03Scan_any _ (readD xs ws).length cap3 (readD xs ws) w3 (unhide M3).1 (unhide H8) (by have := (unhide FW).1; omega) (unhide M3).2.2.1 (unhide M3).2.2.2).mono ?_
      rintro e w6 ⟨vl, hs, rfl, _, _, hb⟩
      replace T := hide ((unhide T).step hb z3)
      replace B := hide ((unhide B).trans (hb.mono (by omega)))
      have z6 : w.heap.size + 3 ≤ w6.heap.size := Nat.le_trans z3 hb.size
      clear hb M3
      rw [show (scanB (readD xs ws)).2 = stE xs ws from rfl]
      generalize hst : stE xs ws = E at *
      have HST := hide hst
      clear hst
      have i0 := (unhide T).i0
      have i1 := (unhide T).i1
      have i2 := (unhide T).i2
      go_wp2_with fail
      clear i0 i1 i2
      refine (l03Bytes_any id gone b off ci ds w6 hci (unhide IOK) (row_grow (unhide HI) (unhide B)) (unhide D8)).mono ?_
      rintro e w7 ⟨v7, rfl, hO7, hv7, hb⟩
      obtain ⟨g7, cap7, rfl, hg7, hg7l, hc7, hc7m⟩ := owns_form hO7 hv7
      have O7 := hide (row_of_owns hO7)
      replace T := hide ((unhide T).step hb z6)
      replace B := hide ((unhide B).trans (hb.mono (by omega)))
      have z7 : w.heap.size + 3 ≤ w7.heap.size := Nat.le_trans z6 hb.size
      have HLL := hide (imgL_length id gone ds)
      clear hb hO7 hv7 IOK HI D8
      obtain ⟨L, hL⟩ : ∃ L, L = imgL id gone ds := ⟨_, rfl⟩
      rw [← hL] at O7 HLL hc7 ⊢
      have HL := hide hL
      clear hL
      have HFT := hide (fun W => l02Fits_any (E : Int) L.length W (by have := unhide HLL; omega))
      by_cases hfit : E + (ds.length + 9) ≤ 2048
      · have SF := hide (st_fit (unhide SOK) (by rw [unhide HST]; exact hfit))
        have SN := hide (stNew_len (id := id) (gone := gone) (unhide HO) (by rw [unhide HST]; exact hfit))
        have ft : fitB (E : Int) L.length = true := decide_eq_true ⟨by omega, by have := unhide HLL; omega⟩
        rw [ft] at HFT
        clear ft
        have tl := (touch_le (at_ := E) (n := L.length) (by have := unhide HLL; omega)).1
        have HWR := hide (l02Write_some bh oh n c aw nw cw E g7 0 cap7 L xs ws w7 (row_grow (unhide HR) (unhide B)) ((unhide HW).below (unhide B)) k2 (unhide H16) hnw4 (unhide K4) (unhide O7) (by have := unhide HLL; omega) (by have := unhide HLL; omega) (unhide HAW))
        go_wp2_with fail
        refine (unhide HFT _).mono ?_
        rintro e w8 ⟨rfl, hw⟩
        subst w8
        have f0 := (unhide T).f0
        have f1 := (unhide T).f1
        go_wp2_with fail
        clear f0 f1
        refine (unhide HWR).mono ?_
        rintro e w9 ⟨g9, cw9, rfl, hW9, hb⟩
        replace T := hide ((unhide T).step hb z7)
        replace B := hide ((unhide B).trans (hb.mono (by omega)))
        have z9 : w.heap.size + 3 ≤ w9.heap.size := Nat.le_trans z7 hb.size
        have hwlen : (writeD xs ws E L).length ≤ 5000 := by
          unfold writeD
          rw [List.length_append, newW_len]
          omega
        have hall : ∀ d ∈ writeD xs ws E L, okW d = true := fun d hd => by
          unfold writeD at hd
          rcases List.mem_append.1 hd with h | h
          · exact unhide K4 d h
          · exact newW_ok _ _ _ (readD_bounds xs ws (by rw [hxl]; exact unhide H16) (by omega) (unhide K4)).1 (by have := unhide HLL; omega) d h
        have HP := hide (l02Read_any bh oh n c (some ⟨g9, 0, none⟩) (writeD xs ws E L).length cw9 xs (writeD xs ws E L) w9 (row_grow (unhide HR) (unhide B)) hW9 k2 (unhide H16) hwlen hall)
        rw [show readD xs (writeD xs ws E L) = stNew xs ws id gone ds by
          unfold writeD stNew
          rw [readD_app, unhide HST, ← unhide HL]] at HP
        have hbig := (unhide SN).2
        clear hb hW9 hwlen hall HWR HFT O7 HL
        generalize hzz : stNew xs ws id gone ds = zs at *
        generalize (writeD xs ws E L).length = lw at *
        have HZ := hide hzz
        clear hzz
        go_wp2_with fail
        refine (unhide HP).mono ?_
        rintro e w10 ⟨g, cap, rfl, hO, hb⟩
        replace T := hide ((unhide T).step hb z9)
        replace B := hide ((unhide B).trans (hb.mono (by omega)))
        have z10 : w.heap.size + 1 + 1 < w10.heap.size := by have := hb.size; omega
        have M10 := hide (mine_of_owns hO)
        have r0 := (unhide T).r0
        have r1 := (unhide T).r1
        have y0 := (unhide T).z0
        have y1 := (unhide T).z1
        clear hb hO HP
        go_wp2_with fail
        have R1' := hide (mine_set (mine_set (unhide M10) (show w.heap.size + 1 + 1 < w9.heap.size by omega) 0 (.slice (some ⟨g, 0, none⟩) zs.length cap)) (show w.heap.size + 1 + 1 < w9.heap.size by omega) 1 (.slice none 0 0))
        have R2' := hide (((unhide B).setCell (p := ⟨w.heap.size + 1 + 1, 0, none⟩) (by simp; omega) (.slice (some ⟨g, 0, none⟩) zs.length cap)).setCell (p := ⟨w.heap.size + 1 + 1, 1, none⟩) (by simp; omega) (.slice none 0 0))
        refine bodyPost_ret (v := .tuple #[fv (some ⟨g, 0, none⟩) zs.length cap none 0 0, .int .i64 0]) (by simp [results, Try.results37, go_sem, r0, r1]) rfl ⟨some ⟨g, 0, none⟩, cap, by rw [(unhide SF).1, (unhide SF).2], by rw [(unhide SF).2]; exact mine_mono (unhide R1') (by omega), unhide R2'⟩
      · have SF := hide (st_full (unhide SOK) (by rw [unhide HST]; exact hfit))
        have ft : fitB (E : Int) L.length = false := decide_eq_false (fun h => by have := unhide HLL; omega)
        rw [ft] at HFT
        clear ft
        have r0 := (unhide T).r0
        have r1 := (unhide T).r1
        have y0 := (unhide T).z0
        have y1 := (unhide T).z1
        clear O7 HL
        go_wp2_with fail
        refine (unhide HFT _).mono ?_
        rintro e w8 ⟨rfl, hw⟩
        subst w8
        go_wp2_with fail
        refine bodyPost_ret (v := .tuple #[fv none 0 0 none 0 0, .int .i64 7]) (by simp [results, Try.results37, go_sem, r0, r1]) rfl (stRes_none (unhide SF) (unhide BAD _ (unhide B)))
    · have hi : imOK id gone ds.length = false := by simpa using hi
      rw [hi]
      have SF := hide (st_bad (show stOK xs ws id gone ds = false by unfold stOK; rw [hi, Bool.and_false]))
      have r0 := (unhide T).r0
      have r1 := (unhide T).r1
      have y0 := (unhide T).z0
      have y1 := (unhide T).z1
      clear hi ho
      go_wp2_with fail
      refine bodyPost_ret (v := .tuple #[fv none 0 0 none 0 0, .int .i64 1]) (by simp [results, Try.results37, go_sem, r0, r1]) rfl (stRes_none (unhide SF) (unhide BAD _ (unhide B)))
  · have ho : okD n ws = false := by simpa using ho
    rw [ho]
    have SF := hide (st_bad (show stOK xs ws id gone ds = false by unfold stOK; rw [hxl, ho, Bool.false_and]))
    have r0 := (unhide T).r0
    have r1 := (unhide T).r1
    have y0 := (unhide T).z0
    have y1 := (unhide T).z1
    clear ho
    go_wp2_with fail
    refine bodyPost_ret (v := .tuple #[fv none 0 0 none 0 0, .int .i64 1]) (by simp [results, Try.results37, go_sem, r0, r1]) rfl (stRes_none (unhide SF) (unhide BAD _ (unhide B)))
end Go.Proofs.Ytocdbijmpecdgaa

namespace Go.Proofs.Ytocdbijmpecdgaa
open Go.RowKit

/-- The first k of xs, then noughts. -/
def upTo (xs : List Int) (n k : Nat) : List Int := xs.take k ++ List.replicate (n - k) 0
theorem upTo_zero (xs : List Int) (n : Nat) : (upTo xs n 0).map (Value.int .u8) = List.replicate n (Value.int .u8 0) := by simp [upTo]
theorem upTo_at {xs : List Int} {n k : Nat} (hl : xs.length = n) (hk : k < n) : (upTo xs n k)[k]? = some 0 := by
  have h1 : (xs.take k).length = k := by simp; omega
  simp only [upTo]
  rw [List.getElem?_append_right (show (xs.take k).length ≤ k by omega), h1, Nat.sub_self]
  have h2 : n - k = (n - (k + 1)) + 1 := by omega
  rw [h2, List.replicate_succ]; rfl
theorem upTo_set {xs : List Int} {n k : Nat} {x : Int} (hl : xs.length = n) (hk : k < n) (hx : x = xs.getD k 0) : ((upTo xs n k).map (Value.int .u8)).set k (.int .u8 x) = (upTo xs n (k + 1)).map (Value.int .u8) := by
  have h1 : (xs.take k).length = k := by simp; omega
  have h2 : n - k = (n - (k + 1)) + 1 := by omega
  rw [← List.map_set]
  congr 1
  simp only [upTo]
  rw [List.set_append_right _ _ (show (xs.take k).length ≤ k by omega), h1, Nat.sub_self, h2, List.replicate_succ, List.set_cons_zero, List.take_succ_eq_append_getElem (by omega), List.append_assoc]
  simp [hx, List.getD, hl, hk]
theorem upTo_all {xs : List Int} {n : Nat} (hl : xs.length = n) : upTo xs n n = xs := by simp [upTo, ← hl]
set_option maxHeartbeats 400000 in
theorem toByteS_at (a : Option Addr) (n c : Nat) (xs : List Int) (w : World) (hn : n ≤ 1048576) (h1 : Row w a n xs) :
    Calls Try.prog 83 #[.slice a n c] w fun e w' => e = .returned (.slice (some ⟨w.heap.size, 0, none⟩) n n) ∧ Mine w' w.heap.size (.slice (some ⟨w.heap.size, 0, none⟩) n n) xs ∧ Below w.heap.size w w' := by
  obtain ⟨i0, hi, hz0, hz1, hz2⟩ := info_parts Try.infoU8
  have L1 := hide h1.1
  have H1 := hide h1.2
  clear h1
  go_enter Try.func83, Try.ntmps83
  go_wp2_with (at_make; refine wpList_make_full _ rfl _ _ 22 rfl w.heap.size 5 i0 (.int .u8 0) 1 Try.underlying22 hi hz0 hz1 _ _ _ _ n rfl rfl rfl rfl (by rw [hz2]; omega) (by unfold maxLen; omega) (Nat.le_refl _) ?_)
  intro w1 hown hgrow
  rw [toList_madeCells_one] at hown
  have hbel : Below w.heap.size w w1 := (Below.refl _ _).grown hgrow (Nat.le_refl _) (fun k hk => by cases hk)
  have hown1 : w1.ownsRow w.heap.size 5 1 (.slice (some ⟨w.heap.size, 0, none⟩) n n) n ((upTo xs n 0).map (Value.int .u8)) := by
    rw [upTo_zero]; exact hown
  clear hown hgrow
  go_wp2_with fail
  go_loopw [4] (fun i wr => ∃ k : Nat, k ≤ n ∧ i = .int .i64 k ∧ wr.ownsRow w.heap.size 5 1 (.slice (some ⟨w.heap.size, 0, none⟩) n n) n ((upTo xs n k).map (Value.int .u8)) ∧ Below w.heap.size w wr) (fun i _ => n - (intOf i).toNat)
  case atStart => exact ⟨0, Nat.zero_le _, rfl, hown1, hbel⟩
  case round =>
    clear hown1 hbel
    obtain ⟨k, hk, rfl, ho, hb⟩ := hrel
    by_cases hlt : k < n
    · obtain ⟨b, off, rfl, e1⟩ := unhide H1 k hlt
      have e2 := (hb.cell (p := ⟨b, off + k, none⟩) (cell_lt e1)).trans e1
      have e3 := ho.cellAt k (by omega)
      have e4 := ho.frozenAt k
      obtain ⟨x, hx⟩ : ∃ x, x = xs.getD k 0 := ⟨_, rfl⟩
      rw [← hx] at e2
      rw [List.getElem?_map, upTo_at (unhide L1) hlt] at e3
      have R := hide (ho.stored k (.int .u8 x)).1
      rw [upTo_set (unhide L1) hlt hx] at R
      have R2 := hide (hb.setCell (p := ⟨w.heap.size, k, none⟩) (Nat.le_refl _) (.int .u8 x))
      clear e1 hx ho hb
      go_wp2_with fail
      go_roundw
      case rel => exact ⟨k + 1, by omega, by go_num, unhide R, unhide R2⟩
      case measure => simp [intOf]; omega
    · obtain rfl : k = n := by omega
      rw [upTo_all (unhide L1)] at ho
      have hl := unhide L1
      subst hl
      have M := hide (mine_of_owns ho)
      clear ho
      go_wp2_with fail
      go_ret
      exact ⟨rfl, unhide M, hb⟩
theorem toByteS_any (a : Option Addr) (n c : Nat) (xs : List Int) (w : World) (hn : n ≤ 1048576) (h1 : Row w a n xs) :
    Calls Try.prog 83 #[.slice a n c] w fun e w' => ∃ v, e = .returned v ∧ Mine w' w.heap.size v xs ∧ Below w.heap.size w w' :=
  (toByteS_at a n c xs w hn h1).mono fun _ _ ⟨h1, h2, h3⟩ => ⟨_, h1, h2, h3⟩
end Go.Proofs.Ytocdbijmpecdgaa

namespace Go.Proofs.Ytocdbijmpecdgaa
open Go.RowKit

theorem szByteS_any (a : Option Addr) (n c : Nat) (left : Int) (w : World) (h0 : 0 ≤ left) (h1 : left ≤ 1048576) (hn : n ≤ maxLen) :
    Calls Try.prog 77 #[.slice a n c, .int .i64 left] w fun e w' => ∃ r : Int, e = .returned (.int .i64 r) ∧ (r = -1 ∨ (0 ≤ r ∧ r ≤ left ∧ (n : Int) ≤ left)) ∧ w' = w := by
  unfold maxLen at hn
  by_cases h : left - n < 0
  · go_enter Try.func77, Try.ntmps77
    go_wp2_with fail
    go_ret
    exact ⟨_, rfl, .inl rfl, rfl⟩
  · have hge : 0 ≤ left - n := by omega
    go_enter Try.func77, Try.ntmps77
    go_wp2_with fail
    go_ret
    exact ⟨_, rfl, .inr ⟨hge, by omega, by omega⟩, rfl⟩

theorem szWrite_any (x : Int) (a : Option Addr) (n c : Nat) (left : Int) (w : World) (h0 : 0 ≤ left) (h1 : left ≤ 1048576) (hn : n ≤ maxLen) :
    Calls Try.prog 114 #[wv x a n c, .int .i64 left] w fun e w' => ∃ r : Int, e = .returned (.int .i64 r) ∧ (r = -1 ∨ (0 ≤ r ∧ r ≤ left ∧ (n : Int) ≤ left)) ∧ Below w.heap.size w w' := by
  go_enter Try.func114, Try.ntmps114
  go_wp2_with fail
  refine (szByteS_any a n c left _ h0 h1 hn).mono ?_
  rintro e w1 ⟨r, rfl, hr, rfl⟩
  rcases hr with rfl | ⟨r0, r1, r2⟩
  · go_wp2_with fail
    go_ret
    exact ⟨-1, rfl, .inl rfl, (Below.refl _ _).alloc (Nat.le_refl _) _⟩
  · go_wp2_with fail
    go_ret
    exact ⟨r, rfl, .inr ⟨r0, r1, r2⟩, (Below.refl _ _).alloc (Nat.le_refl _) _⟩

set_option maxHeartbeats 1000000 in
theorem szWriteS_any (a : Option Addr) (n c : Nat) (ws : List WD) (left : Int) (w : World) (h0 : 0 ≤ left) (h1 : left ≤ 1048576) (hr : WRow w a n ws) (hn : n ≤ maxLen) :
    Calls Try.prog 78 #[.slice a n c, .int .i64 left] w fun e w' => ∃ r : Int, e = .returned (.int .i64 r) ∧ (r = -1 ∨ (0 ≤ r ∧ r ≤ left ∧ (n : Int) ≤ left ∧ ∀ i (hi : i < ws.length), (ws[i].xs.length : Int) ≤ left)) ∧ Below w.heap.size w w' := by
  unfold maxLen at hn
  have L := hide hr.1
  have R := hide hr.2
  clear hr
  by_cases hb : left - n < 0
  · go_enter Try.func78, Try.ntmps78
    go_wp2_with fail
    go_ret
    exact ⟨-1, rfl, .inl rfl, Below.refl _ _⟩
  have hb' : 0 ≤ left - n := by omega
  go_enter Try.func78, Try.ntmps78
  go_wp2_with fail
  go_loopw [1, 5] (fun l i wr => ∃ k : Nat, k ≤ n ∧ i = .int .i64 k ∧ ∃ q : Int, l = .int .i64 q ∧ 0 ≤ q ∧ q ≤ left - n ∧ Hid (∀ i (hi : i < ws.length), i < k → (ws[i].xs.length : Int) ≤ left) ∧ Below w.heap.size w wr) (fun _ i _ => n - (intOf i).toNat)
  case atStart => exact ⟨0, by omega, rfl, _, rfl, by omega, by omega, fun i _ hi => absurd hi (Nat.not_lt_zero _), Below.refl _ _⟩
  case round =>
    obtain ⟨k, hk, rfl, q, rfl, hq0, hq1, hA, hbel⟩ := hrel
    by_cases hlt : k < n
    · have hk2 : k < ws.length := by rw [unhide L]; exact hlt
      obtain ⟨b, off, rfl, c0, a', c', c1, hm, _⟩ := unhide R k hk2
      have hsz := hbel.size
      have hbl : b < w.heap.size := cell_lt c0
      have d0 := (hbel.cell (p := ⟨b, off + k * 2, none⟩) hbl).trans c0
      have d1 := (hbel.cell (p := ⟨b, off + k * 2 + 1, none⟩) hbl).trans c1
      have hS := hide (fun (hx : (ws[k].xs.length : Int) ≤ left) i (hi : i < ws.length) (h : i < k + 1) => show (ws[i].xs.length : Int) ≤ left from if e : i = k then by subst e; exact hx else unhide hA i hi (by omega))
      clear c0 c1 hA
      generalize ws[k] = pd at *
      go_wp2_with fail
      refine (szWrite_any pd.at_ a' pd.xs.length c' q wr hq0 (by omega) hm.1).mono ?_
      rintro e w1 ⟨r, rfl, hr, hb1⟩
      have bA := hbel.trans (hb1.mono hsz)
      clear hbel hb1 d0 d1
      rcases hr with rfl | ⟨r0, r1, r2⟩
      · go_wp2_with fail
        go_ret
        exact ⟨-1, rfl, .inl rfl, bA⟩
      · have hS2 := hide (unhide hS (by omega))
        clear hS
        go_wp2_with fail
        go_roundw
        case rel => exact ⟨k + 1, by omega, by go_num, r, rfl, r0, by omega, unhide hS2, bA⟩
        case measure => simp [intOf]; omega
    · obtain rfl : k = n := by omega
      go_wp2_with fail
      go_ret
      exact ⟨q, rfl, .inr ⟨hq0, by omega, by omega, fun i hi => unhide hA i hi (by rw [← unhide L]; exact hi)⟩, hbel⟩

theorem szFlash_any (ah : Option Addr) (nh ch : Nat) (aw : Option Addr) (nw cw : Nat) (ws : List WD) (left : Int) (w : World) (h0 : 0 ≤ left) (h1 : left ≤ 1048576) (hnh : nh ≤ maxLen) (hr : WRow w aw nw ws) (hn : nw ≤ maxLen) :
    Calls Try.prog 35 #[fv ah nh ch aw nw cw, .int .i64 left] w fun e w' => ∃ r : Int, e = .returned (.int .i64 r) ∧ (r = -1 ∨ (0 ≤ r ∧ r ≤ left ∧ (nh : Int) ≤ left ∧ (nw : Int) ≤ left ∧ ∀ i (hi : i < ws.length), (ws[i].xs.length : Int) ≤ left)) ∧ Below w.heap.size w w' := by
  have R := hide fun o => hr.below ((Below.refl _ _).alloc (Nat.le_refl _) o)
  clear hr
  go_enter Try.func35, Try.ntmps35
  go_wp2_with fail
  refine (szByteS_any ah nh ch left _ h0 h1 hnh).mono ?_
  rintro e w1 ⟨r, rfl, hr, rfl⟩
  rcases hr with rfl | ⟨r0, r1, r2⟩
  · go_wp2_with fail
    go_ret
    exact ⟨-1, rfl, .inl rfl, (Below.refl _ _).alloc (Nat.le_refl _) _⟩
  · go_wp2_with fail
    refine (szWriteS_any aw nw cw ws r _ r0 (by omega) (unhide R _) hn).mono ?_
    rintro e w2 ⟨r', rfl, hr', hb⟩
    have hb2 : Below w.heap.size w w2 := ((Below.refl _ _).alloc (Nat.le_refl _) _).trans (hb.mono (by simp))
    clear hb
    rcases hr' with rfl | ⟨q0, q1, q2, q3⟩
    · go_wp2_with fail
      go_ret
      exact ⟨-1, rfl, .inl rfl, hb2⟩
    · have Q := hide q3
      clear q3
      go_wp2_with fail
      go_ret
      exact ⟨r', rfl, .inr ⟨q0, by omega, r2, by omega, fun i hi => by have := unhide Q i hi; omega⟩, hb2⟩

set_option maxHeartbeats 1000000 in
theorem toWrite_any (d : WD) (a : Option Addr) (c : Nat) (w : World) (hn : d.xs.length ≤ 1048576) (h1 : Row w a d.xs.length d.xs) :
    Calls Try.prog 115 #[wv d.at_ a d.xs.length c] w fun e w' => ∃ a' c', e = .returned (wv d.at_ a' d.xs.length c') ∧ Mine w' w.heap.size (.slice a' d.xs.length c') d.xs ∧ Below w.heap.size w w' := by
  have R := hide fun o1 o2 o3 => row_alloc (o := o3) (row_alloc (o := o2) (row_alloc (o := o1) h1))
  clear h1
  obtain ⟨x, xs⟩ := d
  go_enter Try.func115, Try.ntmps115
  go_wp2_with fail
  refine (toByteS_any a xs.length c xs _ hn (unhide R _ _ _)).mono ?_
  clear R
  rintro e w1 ⟨v, rfl, hm, hb⟩
  obtain ⟨a', c', rfl, m1, m2, m3, m4⟩ := hm
  have hs := hb.size
  simp at hs
  have hM := hide (show Mine w1 w.heap.size (.slice a' xs.length c') xs from ⟨a', c', rfl, m1, m2, m3, fun x hx => ⟨by have := (m4 x hx).1; simp at this; omega, (m4 x hx).2⟩⟩)
  have hN := hide (show ∀ x, a' = some x → w.heap.size + 1 + 1 + 1 ≤ x.block from fun x hx => by have := (m4 x hx).1; simpa using this)
  clear m1 m2 m3 m4
  have d0 : w1.cell? ⟨w.heap.size + 1 + 1, 0, none⟩ = some (.int .i64 x) := (hb.cell (p := ⟨w.heap.size + 1 + 1, 0, none⟩) (by simp)).trans ((cell_new (by simp)).trans rfl)
  have d1 : w1.cell? ⟨w.heap.size + 1 + 1, 1, none⟩ = some (.slice none 0 0) := (hb.cell (p := ⟨w.heap.size + 1 + 1, 1, none⟩) (by simp)).trans ((cell_new (by simp)).trans rfl)
  have f1 : w1.frozen? ⟨w.heap.size + 1 + 1, 1, none⟩ = false := (hb.frozen (p := ⟨w.heap.size + 1 + 1, 1, none⟩) (by simp)).trans (frozen_new (by simp))
  have g0 : w1.cell? ⟨w.heap.size + 1, 0, none⟩ = some (.int .i64 0) := (hb.cell (p := ⟨w.heap.size + 1, 0, none⟩) (by simp)).trans ((cell_old (by simp)).trans ((cell_new (by simp)).trans rfl))
  have g1 : w1.cell? ⟨w.heap.size + 1, 1, none⟩ = some (.slice none 0 0) := (hb.cell (p := ⟨w.heap.size + 1, 1, none⟩) (by simp)).trans ((cell_old (by simp)).trans ((cell_new (by simp)).trans rfl))
  have e0 : w1.frozen? ⟨w.heap.size + 1, 0, none⟩ = false := (hb.frozen (p := ⟨w.heap.size + 1, 0, none⟩) (by simp)).trans ((frozen_old (by simp)).trans (frozen_new (by simp)))
  have e1 : w1.frozen? ⟨w.heap.size + 1, 1, none⟩ = false := (hb.frozen (p := ⟨w.heap.size + 1, 1, none⟩) (by simp)).trans ((frozen_old (by simp)).trans (frozen_new (by simp)))
  have BB := hide ((((((Below.refl w.heap.size w).alloc (Nat.le_refl _) _).alloc (by simp) _).alloc (by simp; omega) _).trans (hb.mono (by simp; omega))))
  clear hb
  go_wp2_with fail
  have B3 := hide ((((unhide BB).setCell (p := ⟨w.heap.size + 1 + 1, 1, none⟩) (by simp; omega) (.slice a' xs.length c')).setCell (p := ⟨w.heap.size + 1, 0, none⟩) (by simp) (.int .i64 x)).setCell (p := ⟨w.heap.size + 1, 1, none⟩) (by simp) (.slice a' xs.length c'))
  have hlt : w.heap.size + 1 < w1.heap.size := by omega
  refine bodyPost_ret (v := wv x a' xs.length c') (by simp [results, Try.results115, go_sem, g0, g1]) rfl ⟨a', c', rfl, ?_, unhide B3⟩
  obtain ⟨a1, c1, e, m1, m2, m3, m4⟩ := unhide hM
  injection e with e1 _ e3
  subst e1 e3
  refine ⟨a', c', rfl, m1, m2, m3.of_cells fun y hy p hp => ?_, fun y hy => ⟨(m4 y hy).1, by simpa using (m4 y hy).2.1, fun j => by simpa using (m4 y hy).2.2 j⟩⟩
  have := unhide hN y hy
  rw [World.cell?_setCell_other _ _ _ _ (by intro e; rw [← e] at hp; simp at hp; omega), World.cell?_setCell_other _ _ _ _ (by intro e; rw [← e] at hp; simp at hp; omega), World.cell?_setCell_other _ _ _ _ (by intro e; rw [← e] at hp; simp at hp; omega)]
end Go.Proofs.Ytocdbijmpecdgaa

namespace Go.Proofs.Ytocdbijmpecdgaa
open Go.RowKit

theorem wown_made {w : World} {base g n : Nat} (h : w.ownsRow base 129 2 (.slice (some ⟨g, 0, none⟩) n n) n (madeCells #[.int .i64 0, .slice none 0 0] (n * 2)).toList) : WOwn w g n (fun _ => ⟨0, []⟩) (fun _ => none) (fun _ => 0) := by
  have e : ∀ j, j < n * 2 → (madeCells #[.int .i64 0, .slice none 0 0] (n * 2)).toList[j]? = some ((#[.int .i64 0, .slice none 0 0] : Array Value)[j % 2]!) := fun j hj => by simp [madeCells, hj]
  refine ⟨(h.lt g rfl).2, fun j => h.frozenAt j, fun i hi => ?_, fun i hi => ?_, fun i hi => ⟨by unfold maxLen; simp, by simp⟩, fun i hi => ⟨rfl, fun j hj => absurd hj (Nat.not_lt_zero _)⟩, fun i hi x hx => (by cases hx), fun i j _ _ _ x y hx => (by cases hx)⟩
  · rw [h.cellAt _ (by omega), e _ (by omega), show i * 2 % 2 = 0 by omega]; rfl
  · rw [h.cellAt _ (by omega), e _ (by omega), show (i * 2 + 1) % 2 = 1 by omega]; rfl

set_option maxHeartbeats 2000000 in
theorem toWriteS_any (a : Option Addr) (n c : Nat) (ws : List WD) (w : World) (hn : n ≤ 1048576) (hx : ∀ i (hi : i < ws.length), ws[i].xs.length ≤ 1048576) (hr : WRow w a n ws) :
    Calls Try.prog 84 #[.slice a n c] w fun e w' => ∃ g W A C, e = .returned (.slice (some ⟨g, 0, none⟩) n n) ∧ w.heap.size ≤ g ∧ WOwn w' g n W A C ∧ (∀ i (hi : i < ws.length), W i = ws[i]) ∧ (∀ i x, A i = some x → w.heap.size ≤ x.block) ∧ Below w.heap.size w w' := by
  obtain ⟨i0, hi, hz0, hz1, hz2⟩ := info_parts Try.infoWrite
  have L := hide hr.1
  have R := hide hr.2
  have X := hide hx
  clear hr hx
  go_enter Try.func84, Try.ntmps84
  go_wp2_with (at_make; refine wpList_make_full _ rfl _ _ 26 rfl w.heap.size 129 i0 _ 2 Try.underlying26 hi hz0 hz1 _ _ _ _ n rfl rfl rfl rfl (by rw [hz2]; omega) (by unfold maxLen; omega) (Nat.le_refl _) ?_)
  intro w1 hown hgrow
  have hl0 := wown_made hown
  have hbel : Below w.heap.size w w1 := (Below.refl _ _).grown hgrow (Nat.le_refl _) (fun k hk => by cases hk)
  clear hown hgrow
  go_wp2_with fail
  go_loopw [4] (fun i wr => ∃ k : Nat, k ≤ n ∧ i = .int .i64 k ∧ (∃ W A C, Hid (WOwn wr w.heap.size n W A C) ∧ Hid (∀ i (hi : i < ws.length), i < k → W i = ws[i]) ∧ Hid (∀ i x, A i = some x → w.heap.size ≤ x.block)) ∧ Below w.heap.size w wr) (fun i _ => n - (intOf i).toNat)
  case atStart => exact ⟨0, by omega, rfl, ⟨_, _, _, hl0, fun i _ hi => absurd hi (Nat.not_lt_zero _), fun i x hx => by cases hx⟩, hbel⟩
  case round =>
    clear hl0 hbel
    obtain ⟨k, hk, rfl, ⟨W, A, C, hO, hW, hA⟩, hb⟩ := hrel
    by_cases hlt : k < n
    · have hk2 : k < ws.length := by rw [unhide L]; exact hlt
      obtain ⟨b, off, rfl, c0, a', c', c1, _, r1⟩ := unhide R k hk2
      have hX := unhide X k hk2
      have hbl : b < w.heap.size := cell_lt c0
      have d0 := (hb.cell (p := ⟨b, off + k * 2, none⟩) hbl).trans c0
      have d1 := (hb.cell (p := ⟨b, off + k * 2 + 1, none⟩) hbl).trans c1
      have r2 := hide (row_grow r1 hb)
      have hW2 := hide (fun i (hi : i < ws.length) (h : i < k + 1) => show updW W k ws[k] i = ws[i] from if e : i = k then by subst e; simp [updW] else by simp [updW, e]; exact unhide hW i hi (by omega))
      clear c0 c1 r1 hW
      generalize ws[k] = pd at *
      go_wp2_with fail
      refine (toWrite_any pd a' c' wr hX (unhide r2)).mono ?_
      rintro e w2 ⟨a2, c2, rfl, hm, hb2⟩
      have O2 := (unhide hO).below hb2
      have S := hide (O2.lay (d := pd) (a := a2) (c := c2) hlt (B := wr.heap.size) (unhide hO).lt (fun i hi x hx => ((unhide hO).own i hi x hx).2.1) hm)
      have A2 := hide (show ∀ i x, updA A k a2 i = some x → w.heap.size ≤ x.block from fun i x hx => by
        unfold updA at hx
        by_cases e : i = k
        · rw [if_pos e] at hx
          obtain ⟨a3, c3, e3, _, _, _, h4⟩ := hm
          injection e3 with e3
          have h5 := (h4 x (e3 ▸ hx)).1
          have h6 := hb.size
          omega
        · rw [if_neg e] at hx; exact unhide hA i x hx)
      have e0 := O2.at_ k hlt
      have e1 := O2.data k hlt
      have f0 := O2.free (k * 2)
      have f1 := O2.free (k * 2 + 1)
      have B2 := hide (((hb.trans (hb2.mono hb.size)).setCell (p := ⟨w.heap.size, k * 2, none⟩) (Nat.le_refl _) (.int .i64 pd.at_)).setCell (p := ⟨w.heap.size, k * 2 + 1, none⟩) (Nat.le_refl _) (.slice a2 pd.xs.length c2))
      clear O2 hb hb2 d0 d1 hO hA r2 hm
      go_wp2_with fail
      go_roundw
      case rel => exact ⟨k + 1, by omega, by go_num, ⟨_, _, _, unhide S, unhide hW2, unhide A2⟩, unhide B2⟩
      case measure => simp [intOf]; omega
    · obtain rfl : k = n := by omega
      go_wp2_with fail
      go_ret
      exact ⟨_, W, A, C, rfl, Nat.le_refl _, unhide hO, fun i hi => unhide hW i hi (by rw [← unhide L]; exact hi), unhide hA, hb⟩

/-- A device in memory of the call's own, from block 'lo' on. -/
def FMine (w : World) (lo : Nat) (ah : Option Addr) (nh ch g nw : Nat) (xs : List Int) (ws : List WD) : Prop :=
  (∃ b, ah = some ⟨b, 0, none⟩) ∧ xs.length = nh ∧ ws.length = nw ∧ Mine w lo (.slice ah nh ch) xs ∧ lo ≤ g ∧ ∃ W A C, WOwn w g nw W A C ∧ (∀ i (hi : i < ws.length), W i = ws[i]) ∧ (∀ i x, A i = some x → lo ≤ x.block) ∧ ∀ x, ah = some x → x.block ≠ g ∧ ∀ i y, A i = some y → x.block ≠ y.block
theorem mine_below {w w' : World} {B : Nat} {v : Value} {xs : List Int} (h : Mine w B v xs) (hb : Below w.heap.size w w') : Mine w' B v xs := by
  obtain ⟨a, c, e, h1, h2, h3, h4⟩ := h
  exact ⟨a, c, e, h1, h2, row_grow h3 hb, fun x hx => ⟨(h4 x hx).1, Nat.lt_of_lt_of_le (h4 x hx).2.1 hb.size, fun j => (hb.frozen (p := ⟨x.block, j, none⟩) (h4 x hx).2.1).trans ((h4 x hx).2.2 j)⟩⟩
theorem FMine.below {w w' : World} {lo : Nat} {ah : Option Addr} {nh ch g nw : Nat} {xs : List Int} {ws : List WD} (h : FMine w lo ah nh ch g nw xs ws) (hb : Below w.heap.size w w') : FMine w' lo ah nh ch g nw xs ws := by
  obtain ⟨h0, h1, h2, h3, h4, W, A, C, h5, h6, h7, h8⟩ := h
  exact ⟨h0, h1, h2, mine_below h3 hb, h4, W, A, C, h5.below hb, h6, h7, h8⟩
theorem Kept.mine {S : Nat → Prop} {w w' : World} {B : Nat} {v : Value} {xs : List Int} (hk : Kept S w w') (h : Mine w B v xs) (hS : ∀ k, B ≤ k → S k) : Mine w' B v xs := by
  obtain ⟨a, c, e, h1, h2, h3, h4⟩ := h
  exact ⟨a, c, e, h1, h2, hk.row h3 (fun x hx => hS _ (h4 x hx).1), fun x hx => ⟨(h4 x hx).1, Nat.lt_of_lt_of_le (h4 x hx).2.1 hk.1, fun j => (hk.frozen (p := ⟨x.block, j, none⟩) (hS _ (h4 x hx).1) (h4 x hx).2.1).trans ((h4 x hx).2.2 j)⟩⟩
theorem FMine.kept {S : Nat → Prop} {w w' : World} {lo : Nat} {ah : Option Addr} {nh ch g nw : Nat} {xs : List Int} {ws : List WD} (h : FMine w lo ah nh ch g nw xs ws) (hk : Kept S w w') (hS : ∀ k, lo ≤ k → S k) : FMine w' lo ah nh ch g nw xs ws := by
  obtain ⟨h0, h1, h2, h3, h4, W, A, C, h5, h6, h7, h8⟩ := h
  exact ⟨h0, h1, h2, hk.mine h3 hS, h4, W, A, C, h5.kept hk (hS _ h4) (fun i _ x hx => hS _ (h7 i x hx)), h6, h7, h8⟩
theorem FMine.mono {w : World} {lo lo' : Nat} {ah : Option Addr} {nh ch g nw : Nat} {xs : List Int} {ws : List WD} (h : FMine w lo ah nh ch g nw xs ws) (hl : lo' ≤ lo) : FMine w lo' ah nh ch g nw xs ws := by
  obtain ⟨h0, h1, h2, h3, h4, W, A, C, h5, h6, h7, h8⟩ := h
  exact ⟨h0, h1, h2, mine_mono h3 hl, Nat.le_trans hl h4, W, A, C, h5, h6, fun i x hx => Nat.le_trans hl (h7 i x hx), h8⟩
theorem FMine.row {w : World} {lo : Nat} {ah : Option Addr} {nh ch g nw : Nat} {xs : List Int} {ws : List WD} (h : FMine w lo ah nh ch g nw xs ws) : Row w ah nh xs := by
  obtain ⟨_, h1, _, ⟨a, c, e, _, _, h3, _⟩, _⟩ := h
  injection e with e1 e2
  subst e1
  rw [← h1]; exact h3
theorem FMine.wrow {w : World} {lo : Nat} {ah : Option Addr} {nh ch g nw : Nat} {xs : List Int} {ws : List WD} (h : FMine w lo ah nh ch g nw xs ws) : WRow w (some ⟨g, 0, none⟩) nw ws := by
  obtain ⟨_, _, h2, _, _, W, A, C, h5, h6, _⟩ := h
  exact h5.wrow h2 h6

set_option maxHeartbeats 1000000 in
theorem toFlash_any (ah : Option Addr) (nh ch : Nat) (aw : Option Addr) (nw cw : Nat) (xs : List Int) (ws : List WD) (w : World) (hnh : nh ≤ 1048576) (hn : nw ≤ 1048576) (hx : ∀ i (hi : i < ws.length), ws[i].xs.length ≤ 1048576) (hh : Row w ah nh xs) (hr : WRow w aw nw ws) :
    Calls Try.prog 38 #[fv ah nh ch aw nw cw] w fun e w' => ∃ ah' ch' g, e = .returned (fv ah' nh ch' (some ⟨g, 0, none⟩) nw nw) ∧ FMine w' w.heap.size ah' nh ch' g nw xs ws ∧ Below w.heap.size w w' := by
  have hb0 : ∀ o1 o2 o3, Below w.heap.size w (((w.alloc o1).alloc o2).alloc o3) := fun o1 o2 o3 => (((Below.refl w.heap.size w).alloc (Nat.le_refl _) _).alloc (by simp) _).alloc (by simp; omega) _
  have R1 := hide fun o1 o2 o3 => row_grow hh (hb0 o1 o2 o3)
  have R2 := hide hr
  have hxl := hide hh.1
  have hwl := hide hr.1
  have X := hide hx
  clear hh hr hx
  go_enter Try.func38, Try.ntmps38
  go_wp2_with fail
  refine (toByteS_at ah nh ch xs _ hnh (unhide R1 _ _ _)).mono ?_
  clear R1
  rintro e w1 ⟨rfl, hm, hb⟩
  obtain ⟨a1, c1, ea, m1, m2, m3, m4⟩ := hm
  have ha1 : ∃ b, a1 = some ⟨b, 0, none⟩ := by injection ea with e1; exact ⟨_, e1.symm⟩
  have hA1 := hide ha1
  clear ha1
  rw [ea]
  clear ea
  rw [unhide hxl] at m1 m3 ⊢
  have hs := hb.size
  simp at hs
  have M := hide (show Mine w1 (w.heap.size + 1 + 1 + 1) (.slice a1 nh c1) xs from ⟨a1, c1, by rw [unhide hxl], by rw [unhide hxl]; exact m1, m2, by rw [unhide hxl]; exact m3, fun x hx => ⟨by have := (m4 x hx).1; simpa using this, (m4 x hx).2⟩⟩)
  clear m1 m2 m3 m4
  have d1 : w1.cell? ⟨w.heap.size, 1, none⟩ = some (.slice aw nw cw) := (hb.cell (p := ⟨w.heap.size, 1, none⟩) (by simp; omega)).trans ((cell_old (by simp; omega)).trans ((cell_old (by simp)).trans ((cell_new rfl).trans rfl)))
  have o0 : w1.cell? ⟨w.heap.size + 1 + 1, 0, none⟩ = some (.slice none 0 0) := (hb.cell (p := ⟨w.heap.size + 1 + 1, 0, none⟩) (by simp)).trans ((cell_new (by simp)).trans rfl)
  have o1 : w1.cell? ⟨w.heap.size + 1 + 1, 1, none⟩ = some (.slice none 0 0) := (hb.cell (p := ⟨w.heap.size + 1 + 1, 1, none⟩) (by simp)).trans ((cell_new (by simp)).trans rfl)
  have g0 : w1.cell? ⟨w.heap.size + 1, 0, none⟩ = some (.slice none 0 0) := (hb.cell (p := ⟨w.heap.size + 1, 0, none⟩) (by simp)).trans ((cell_old (by simp)).trans ((cell_new (by simp)).trans rfl))
  have g1 : w1.cell? ⟨w.heap.size + 1, 1, none⟩ = some (.slice none 0 0) := (hb.cell (p := ⟨w.heap.size + 1, 1, none⟩) (by simp)).trans ((cell_old (by simp)).trans ((cell_new (by simp)).trans rfl))
  have fo : ∀ j, w1.frozen? ⟨w.heap.size + 1 + 1, j, none⟩ = false := fun j => (hb.frozen (p := ⟨w.heap.size + 1 + 1, j, none⟩) (by simp)).trans (frozen_new (by simp))
  have fg : ∀ j, w1.frozen? ⟨w.heap.size + 1, j, none⟩ = false := fun j => (hb.frozen (p := ⟨w.heap.size + 1, j, none⟩) (by simp)).trans ((frozen_old (by simp)).trans (frozen_new (by simp)))
  have BB := (hb0 (.cells #[.slice ah nh ch, .slice aw nw cw] 66) (.cells #[.slice none 0 0, .slice none 0 0] 28) (.cells #[.slice none 0 0, .slice none 0 0] 28)).trans (hb.mono (by simp; omega))
  clear hb hb0
  -- behind the first store
  obtain ⟨wx, hwx⟩ : ∃ wx, wx = w1.setCell ⟨w.heap.size + 1 + 1, 0, none⟩ (.slice a1 nh c1) := ⟨_, rfl⟩
  have x0 : wx.cell? ⟨w.heap.size + 1 + 1, 0, none⟩ = some (.slice a1 nh c1) := by rw [hwx]; exact World.cell?_setCell_same _ _ _ o0
  have ot : ∀ p : Addr, p ≠ ⟨w.heap.size + 1 + 1, 0, none⟩ → wx.cell? p = w1.cell? p := fun p hp => by rw [hwx]; exact World.cell?_setCell_other _ _ _ _ (fun e => hp e.symm)
  have x1 := (ot ⟨w.heap.size + 1 + 1, 1, none⟩ (by simp)).trans o1
  have y1 := (ot ⟨w.heap.size, 1, none⟩ (by simp)).trans d1
  have z0 := (ot ⟨w.heap.size + 1, 0, none⟩ (by simp)).trans g0
  have z1 := (ot ⟨w.heap.size + 1, 1, none⟩ (by simp)).trans g1
  have ff : ∀ p, wx.frozen? p = w1.frozen? p := fun p => by rw [hwx]; simp
  have BX := hide (show Below w.heap.size w wx by rw [hwx]; exact BB.setCell (p := ⟨w.heap.size + 1 + 1, 0, none⟩) (by simp; omega) _)
  have hsx : w.heap.size + 1 + 1 + 1 ≤ wx.heap.size := by rw [hwx]; simpa using hs
  have MX := hide (show Mine wx (w.heap.size + 1 + 1 + 1) (.slice a1 nh c1) xs from by
    obtain ⟨a, c, e, m1, m2, m3, m4⟩ := unhide M
    refine ⟨a, c, e, m1, m2, m3.of_cells fun y hy p hp => ot p (fun e => by have := (m4 y hy).1; rw [← hp, e] at this; simp at this; omega), fun y hy => ⟨(m4 y hy).1, by rw [hwx]; simpa using (m4 y hy).2.1, fun j => (ff _).trans ((m4 y hy).2.2 j)⟩⟩)
  have RX := hide ((unhide R2).below (unhide BX))
  have fo0 := fo 0
  clear M R2 BB ot hs g0 g1
  go_wp2_with fail
  rw [← hwx]
  clear hwx o0 o1 fo0 d1
  refine (toWriteS_any aw nw cw ws wx hn (unhide X) (unhide RX)).mono ?_
  rintro e w2 ⟨g, W, A, C, rfl, hg, hO, hW, hA, hb⟩
  have hlt1 : w.heap.size + 1 + 1 < wx.heap.size := by omega
  have p0 := (hb.cell (p := ⟨w.heap.size + 1 + 1, 0, none⟩) hlt1).trans x0
  have p1 := (hb.cell (p := ⟨w.heap.size + 1 + 1, 1, none⟩) hlt1).trans x1
  have q0 := (hb.cell (p := ⟨w.heap.size + 1, 0, none⟩) (show w.heap.size + 1 < wx.heap.size by omega)).trans z0
  have q1 := (hb.cell (p := ⟨w.heap.size + 1, 1, none⟩) (show w.heap.size + 1 < wx.heap.size by omega)).trans z1
  have f1 : w2.frozen? ⟨w.heap.size + 1 + 1, 1, none⟩ = false := (hb.frozen (p := ⟨w.heap.size + 1 + 1, 1, none⟩) hlt1).trans ((ff _).trans (fo 1))
  have k0 : w2.frozen? ⟨w.heap.size + 1, 0, none⟩ = false := (hb.frozen (p := ⟨w.heap.size + 1, 0, none⟩) (show w.heap.size + 1 < wx.heap.size by omega)).trans ((ff _).trans (fg 0))
  have k1 : w2.frozen? ⟨w.heap.size + 1, 1, none⟩ = false := (hb.frozen (p := ⟨w.heap.size + 1, 1, none⟩) (show w.heap.size + 1 < wx.heap.size by omega)).trans ((ff _).trans (fg 1))
  have F2 := hide (show FMine w2 (w.heap.size + 1 + 1 + 1) a1 nh c1 g nw xs ws from ⟨unhide hA1, unhide hxl, unhide hwl, mine_below (unhide MX) hb, by omega, W, A, C, hO, hW, fun i x hx => by have := hA i x hx; omega, fun x hx => by
    obtain ⟨a, c, e, _, _, _, m4⟩ := unhide MX
    injection e with e1
    have := (m4 x (e1 ▸ hx)).2.1
    exact ⟨by omega, fun i y hy => by have := hA i y hy; omega⟩⟩)
  have B2 := hide ((unhide BX).trans (hb.mono (by omega)))
  have hs2 : w.heap.size + 1 < w2.heap.size := by have := hb.size; omega
  clear x0 x1 z0 z1 ff MX BX RX hO hW hA hb fo fg
  go_wp2_with fail
  have B3 := hide ((((unhide B2).setCell (p := ⟨w.heap.size + 1 + 1, 1, none⟩) (by simp; omega) (.slice (some ⟨g, 0, none⟩) nw nw)).setCell (p := ⟨w.heap.size + 1, 0, none⟩) (by simp) (.slice a1 nh c1)).setCell (p := ⟨w.heap.size + 1, 1, none⟩) (by simp) (.slice (some ⟨g, 0, none⟩) nw nw))
  refine bodyPost_ret (v := fv a1 nh c1 (some ⟨g, 0, none⟩) nw nw) (by simp [results, Try.results38, go_sem, q0, q1]) rfl ⟨a1, c1, g, rfl, ?_, unhide B3⟩
  exact ((unhide F2).kept (S := fun k => w.heap.size + 1 + 1 + 1 ≤ k) (((Kept.set (by simp) _ _ _).trans (Kept.set (by simp; omega) _ _ _)).trans (Kept.set (by simp; omega) _ _ _)) (fun _ h => h)).mono (by omega)
end Go.Proofs.Ytocdbijmpecdgaa

namespace Go.Proofs.Ytocdbijmpecdgaa
end Go.Proofs.Ytocdbijmpecdgaa

namespace Go.Proofs.Ytocdbijmpecdgaa
open Go.RowKit

theorem WOwn.setAt {w : World} {g n k : Nat} {W : Nat → WD} {A : Nat → Option Addr} {C : Nat → Nat} (h : WOwn w g n W A C) (hk : k < n) (x : Int) : WOwn (w.setCell ⟨g, k * 2, none⟩ (.int .i64 x)) g n (updW W k ⟨x, (W k).xs⟩) A C := by
  have ne : ∀ p q : Nat, p ≠ q → (⟨g, p, none⟩ : Addr) ≠ ⟨g, q, none⟩ := fun p q hpq e => hpq (by injection e)
  have nb : ∀ p : Addr, p.block ≠ g → (w.setCell ⟨g, k * 2, none⟩ (.int .i64 x)).cell? p = w.cell? p := fun p hp => World.cell?_setCell_other _ _ _ _ (by intro e; rw [← e] at hp; exact hp rfl)
  have hx : ∀ i, (updW W k ⟨x, (W k).xs⟩ i).xs = (W i).xs := fun i => by
    unfold updW
    split
    · rename_i e; rw [e]
    · rfl
  refine ⟨by simpa using h.lt, fun j => by simpa using h.free j, fun i hi => ?_, fun i hi => ?_, fun i hi => ?_, fun i hi => ?_, fun i hi y hy => ⟨(h.own i hi y hy).1, by simpa using (h.own i hi y hy).2.1, fun j => by simpa using (h.own i hi y hy).2.2 j⟩, h.apart⟩
  · unfold updW
    by_cases e : i = k
    · subst e
      rw [if_pos rfl]
      exact World.cell?_setCell_same _ _ _ (h.at_ i hi)
    · rw [if_neg e, World.cell?_setCell_other _ _ _ _ (ne _ _ (by omega))]
      exact h.at_ i hi
  · rw [hx, World.cell?_setCell_other _ _ _ _ (ne _ _ (by omega))]
    exact h.data i hi
  · rw [hx]; exact h.len i hi
  · rw [hx]; exact (h.row i hi).of_cells fun y hy p hp => nb p (by rw [hp]; exact (h.own i hi y hy).1)
theorem WOwn.marked {w w' : World} {g n k : Nat} {W : Nat → WD} {A : Nat → Option Addr} {C : Nat → Nat} {ys : List Int} (h : WOwn w g n W A C) (hk : k < n) (ht : Touch (A k) w w') (hr : Row w' (A k) (W k).xs.length ys) : WOwn w' g n (updW W k ⟨(W k).at_, ys⟩) A C := by
  have hl := hr.1
  have hs := ht.size
  have kept : ∀ b, (∀ x, A k = some x → b ≠ x.block) → w'.heap[b]? = w.heap[b]? := fun b hb => by
    rcases ht with rfl | ⟨x, hx, ho⟩
    · rfl
    · exact ho.block b (hb x hx)
  have fz : ∀ a, w'.frozen? a = w.frozen? a := fun a => by
    rcases ht with rfl | ⟨x, hx, ho⟩
    · rfl
    · exact ho.frozen a
  have hg : w'.heap[g]? = w.heap[g]? := kept g (fun x hx e => (h.own k hk x hx).1 e.symm)
  have cg : ∀ j, w'.cell? ⟨g, j, none⟩ = w.cell? ⟨g, j, none⟩ := fun j => World.cell?_of_block (w := w) (a := ⟨g, j, none⟩) hg
  refine ⟨by rw [hs]; exact h.lt, fun j => (fz _).trans (h.free j), fun i hi => ?_, fun i hi => ?_, fun i hi => ?_, fun i hi => ?_, fun i hi x hx => ⟨(h.own i hi x hx).1, by rw [hs]; exact (h.own i hi x hx).2.1, fun j => (fz _).trans ((h.own i hi x hx).2.2 j)⟩, h.apart⟩
  · rw [cg]
    unfold updW
    by_cases e : i = k
    · subst e; rw [if_pos rfl]; exact h.at_ i hi
    · rw [if_neg e]; exact h.at_ i hi
  · rw [cg]
    unfold updW
    by_cases e : i = k
    · subst e; rw [if_pos rfl, hl]; exact h.data i hi
    · rw [if_neg e]; exact h.data i hi
  · unfold updW
    by_cases e : i = k
    · subst e; rw [if_pos rfl, hl]; exact h.len i hi
    · rw [if_neg e]; exact h.len i hi
  · unfold updW
    by_cases e : i = k
    · subst e; rw [if_pos rfl, hl]; exact hr
    · rw [if_neg e]
      exact (h.row i hi).of_cells fun x hx p hp => World.cell?_of_block (w := w) (kept p.block (fun y hy => by rw [hp]; exact h.apart i k hi hk e x y hx hy))
/-- The blocks of S hold what they held, and nothing else of the world has changed. -/
structure Band (S : Nat → Prop) (w w' : World) : Prop where
  os : w'.os = w.os
  tape : w'.tape = w.tape
  output : w'.output = w.output
  kept : Kept S w w'
theorem Band.refl (S : Nat → Prop) (w : World) : Band S w w := ⟨rfl, rfl, rfl, Kept.refl _ _⟩
theorem Band.trans {S : Nat → Prop} {w1 w2 w3 : World} (h : Band S w1 w2) (k : Band S w2 w3) : Band S w1 w3 := ⟨k.os.trans h.os, k.tape.trans h.tape, k.output.trans h.output, h.kept.trans k.kept⟩
theorem Band.set {S : Nat → Prop} {b : Nat} (h : ¬ S b) (w : World) (o : Nat) (v : Value) : Band S w (w.setCell ⟨b, o, none⟩ v) := ⟨rfl, rfl, rfl, Kept.set h _ _ _⟩
theorem Band.touch {S : Nat → Prop} {a : Option Addr} {w w' : World} (ht : Touch a w w') (h : ∀ x, a = some x → ¬ S x.block) : Band S w w' := by
  rcases ht with rfl | ⟨x, hx, ho⟩
  · exact Band.refl _ _
  · exact ⟨ho.os, ho.tape, ho.output, by rw [ho.size]; exact Nat.le_refl _, fun k hk _ => ho.block k (fun e => h x hx (e ▸ hk))⟩
theorem Band.grow {S : Nat → Prop} {w w' : World} (h : Below w.heap.size w w') : Band S w w' := ⟨h.os, h.tape, h.output, Kept.grow h⟩
theorem Band.below {S : Nat → Prop} {w w' : World} {B : Nat} (h : Band S w w') (hB : B ≤ w.heap.size) (hS : ∀ k, k < B → S k) : Below B w w' := ⟨h.os, h.tape, h.output, h.kept.1, fun k hk => h.kept.2 k (hS k hk) (by omega)⟩
theorem Band.mono {S T : Nat → Prop} {w w' : World} (h : Band S w w') (hS : ∀ k, T k → S k) : Band T w w' := ⟨h.os, h.tape, h.output, h.kept.mono hS⟩

set_option maxHeartbeats 2000000 in
theorem markWriteS_any (S : Nat → Prop) (g n c k0 : Nat) (W : Nat → WD) (A : Nat → Option Addr) (C : Nat → Nat) (w : World) (hn : n ≤ 1048576) (hk0 : k0 ≤ 10000000) (h : WOwn w g n W A C) (hl : ∀ i, i < n → (W i).xs.length ≤ 1048576) (hg : ¬ S g) (hA : ∀ i, i < n → ∀ x, A i = some x → ¬ S x.block) :
    Calls Try.prog 74 #[.slice (some ⟨g, 0, none⟩) n c, .int .i64 (k0 : Int)] w fun e w' => ∃ k : Nat, e = .returned (.int .i64 (k : Int)) ∧ Band S w w' ∧ k ≤ 2000000000000 := by
  have H := hide h
  have HL := hide hl
  have HA := hide hA
  clear h hl hA
  go_enter Try.func74, Try.ntmps74
  go_wp2_with fail
  go_loopw [1, 5] (fun q i wr => ∃ (k m : Nat) (V : Nat → WD), k ≤ n ∧ i = .int .i64 k ∧ q = .int .i64 (m : Int) ∧ m ≤ 10000000 + k * 1048577 ∧ Hid (WOwn wr g n V A C) ∧ Hid (∀ i, i < n → (V i).xs.length ≤ 1048576) ∧ Band S w wr) (fun _ i _ => n - (intOf i).toNat)
  case atStart => exact ⟨0, k0, W, Nat.zero_le _, rfl, rfl, by omega, unhide H, unhide HL, Band.refl _ _⟩
  case round =>
    clear H HL
    obtain ⟨k, m, V, hk, rfl, rfl, hm, hO, hL, hB⟩ := hrel
    by_cases hlt : k < n
    · have e0 := (unhide hO).at_ k hlt
      have f0 := (unhide hO).free (k * 2)
      have O1 := hide ((unhide hO).setAt hlt (m : Int))
      have B1 := hide (hB.trans (Band.set hg wr (k * 2) (.int .i64 (m : Int))))
      have hl1 : (V k).xs.length ≤ 1048576 := unhide hL k hlt
      have e1 := (unhide hO).data k hlt
      have hx : ∀ i, (updW V k ⟨(m : Int), (V k).xs⟩ i).xs = (V i).xs := fun i => by
        unfold updW
        split
        · rename_i e; rw [e]
        · rfl
      have R1 := (unhide O1).row k hlt
      have F1 := fun x hx' => ((unhide O1).own k hlt x hx').2.2
      rw [hx] at R1
      have HR := hide R1
      have HF := hide F1
      have L1 := hide (show ∀ i, i < n → (updW V k ⟨(m : Int), (V k).xs⟩ i).xs.length ≤ 1048576 from fun i hi => by rw [hx]; exact unhide hL i hi)
      clear hO hB hL R1 F1
      go_wp2_with fail
      refine (markByteS_any (A k) (V k).xs.length (C k) (V k).xs ((m : Int) + 1) _ (by omega) (by omega) (by omega) (unhide HR) (unhide HF)).mono ?_
      rintro e w2 ⟨rfl, r2, t2⟩
      have O2 := hide ((unhide O1).marked hlt t2 (by rw [hx]; exact r2))
      have B2 := hide ((unhide B1).trans (Band.touch t2 (unhide HA k hlt)))
      have hml := marks_length ((m : Int) + 1) (V k).xs.length
      have L2 := hide (show ∀ i, i < n → (updW (updW V k ⟨(m : Int), (V k).xs⟩) k ⟨(updW V k ⟨(m : Int), (V k).xs⟩ k).at_, marks ((m : Int) + 1) (V k).xs.length⟩ i).xs.length ≤ 1048576 from fun i hi => by
        by_cases e : i = k
        · simp only [updW, e, if_true]; rw [hml]; exact hl1
        · simp only [updW, e, if_false]; exact (by have := unhide L1 i hi; rw [hx] at this; exact this))
      clear O1 B1 L1 r2 t2 HR HF hx hml e0 e1 f0
      go_wp2_with fail
      go_roundw
      case rel => exact ⟨k + 1, m + 1 + (V k).xs.length, _, by omega, by go_num, by go_num, by omega, unhide O2, unhide L2, unhide B2⟩
      case measure => simp [intOf]; omega
    · obtain rfl : k = n := by omega
      go_wp2_with fail
      go_ret
      exact ⟨m, rfl, hB, by omega⟩

/-- A device in memory of the call's own, from block 'lo' on, ahead of block 'hi'. -/
def FIn (w : World) (lo hi : Nat) (ah : Option Addr) (nh ch g nw : Nat) (xs : List Int) (ws : List WD) : Prop :=
  (∃ b, ah = some ⟨b, 0, none⟩) ∧ xs.length = nh ∧ ws.length = nw ∧ Mine w lo (.slice ah nh ch) xs ∧ (∀ x, ah = some x → x.block < hi) ∧ lo ≤ g ∧ g < hi ∧ ∃ W A C, WOwn w g nw W A C ∧ (∀ i (hi : i < ws.length), W i = ws[i]) ∧ (∀ i x, A i = some x → lo ≤ x.block) ∧ (∀ i, i < nw → ∀ x, A i = some x → x.block < hi) ∧ ∀ x, ah = some x → x.block ≠ g ∧ ∀ i y, A i = some y → x.block ≠ y.block
theorem FIn.below {w w' : World} {lo hi : Nat} {ah : Option Addr} {nh ch g nw : Nat} {xs : List Int} {ws : List WD} (h : FIn w lo hi ah nh ch g nw xs ws) (hb : Below w.heap.size w w') : FIn w' lo hi ah nh ch g nw xs ws := by
  obtain ⟨h0, h1, h2, h3, h3', h4, h4', W, A, C, h5, h6, h7, h7', h8⟩ := h
  exact ⟨h0, h1, h2, mine_below h3 hb, h3', h4, h4', W, A, C, h5.below hb, h6, h7, h7', h8⟩
theorem FIn.mine {w : World} {lo hi : Nat} {ah : Option Addr} {nh ch g nw : Nat} {xs : List Int} {ws : List WD} (h : FIn w lo hi ah nh ch g nw xs ws) : FMine w lo ah nh ch g nw xs ws := by
  obtain ⟨h0, h1, h2, h3, h3', h4, h4', W, A, C, h5, h6, h7, h7', h8⟩ := h
  exact ⟨h0, h1, h2, h3, h4, W, A, C, h5, h6, h7, h8⟩
theorem FMine.fin {w : World} {lo : Nat} {ah : Option Addr} {nh ch g nw : Nat} {xs : List Int} {ws : List WD} (h : FMine w lo ah nh ch g nw xs ws) : FIn w lo w.heap.size ah nh ch g nw xs ws := by
  obtain ⟨h0, h1, h2, h3, h4, W, A, C, h5, h6, h7, h8⟩ := h
  refine ⟨h0, h1, h2, h3, fun x hx => ?_, h4, h5.lt, W, A, C, h5, h6, h7, fun i hi x hx => (h5.own i hi x hx).2.1, h8⟩
  obtain ⟨a, c, e, _, _, _, m4⟩ := h3
  injection e with e1
  exact (m4 x (e1 ▸ hx)).2.1
set_option maxRecDepth 100000 in
set_option maxHeartbeats 2000000 in
theorem markFlash_any (lo hi : Nat) (ah : Option Addr) (nh ch g nw cw : Nat) (xs : List Int) (ws : List WD) (w : World) (hnh : nh ≤ 1048576) (hn : nw ≤ 1048576) (hx : ∀ i (hi : i < ws.length), ws[i].xs.length ≤ 1048576) (h : FIn w lo hi ah nh ch g nw xs ws) (hhi : hi ≤ w.heap.size) :
    Calls Try.prog 32 #[fv ah nh ch (some ⟨g, 0, none⟩) nw cw, .int .i64 1] w fun e w' => ∃ k : Nat, e = .returned (.int .i64 (k : Int)) ∧ Band (fun b => b < lo ∨ hi ≤ b) w w' ∧ k ≤ 2000000000000 := by
  obtain ⟨_, rfl, h2, ⟨a1, c1, e1, m1, m2, m3, m4⟩, h3, h4, h4', W, A, C, h5, h6, h7, h7', h8⟩ := h
  obtain ⟨rfl, rfl⟩ : ah = a1 ∧ ch = c1 := by injection e1 with e1 _ e3; exact ⟨e1, e3⟩
  clear e1
  have hb0 : ∀ o, Below w.heap.size w (w.alloc o) := fun o => (Below.refl _ _).alloc (Nat.le_refl _) _
  have HR := hide fun o => row_grow m3 (hb0 o)
  have HF := hide fun (o : Obj) (x : Addr) (hx : ah = some x) (j : Nat) => ((hb0 o).frozen (p := ⟨x.block, j, none⟩) (m4 x hx).2.1).trans ((m4 x hx).2.2 j)
  have HO := hide h5
  have H3 := hide (fun x hx => And.intro (m4 x hx).1 (h3 x hx))
  have H7 := hide (fun i hi x hx => And.intro (h7 i x hx) (h7' i hi x hx))
  have H8 := hide h8
  have HL := hide (show ∀ i, i < nw → (W i).xs.length ≤ 1048576 from fun i hi => by rw [h6 i (by omega)]; exact hx i (by omega))
  have H0 := hide hb0
  clear m1 m2 m3 m4 h3 h5 h6 h7 h7' h8 hx h2 hb0
  have hR1 := fun o => markByteS_any ah xs.length ch xs 1 (w.alloc o) (by omega) (by omega) (by omega) (unhide HR o) (unhide HF o)
  have HC := hide hR1
  clear hR1
  go_enter Try.func32, Try.ntmps32
  go_wp2_with fail
  refine (unhide HC _).mono ?_
  rintro e w1 ⟨rfl, r1, t1⟩
  have hsz := t1.size
  simp at hsz
  have B1 := hide ((Band.grow (S := fun b => b < lo ∨ hi ≤ b) (unhide H0 (.cells #[.slice ah xs.length ch, .slice (some ⟨g, 0, none⟩) nw cw] 28))).trans (Band.touch t1 (fun x hx => by have := unhide H3 x hx; omega)))
  have hbl : ∀ b, (∀ x, ah = some x → b ≠ x.block) → b < w.heap.size → w1.heap[b]? = w.heap[b]? := fun b hb hl => by
    rw [← Below.heap_alloc w (.cells #[.slice ah xs.length ch, .slice (some ⟨g, 0, none⟩) nw cw] 28) b hl]
    rcases t1 with rfl | ⟨x, hx, ho⟩
    · rfl
    · exact ho.block b (hb x hx)
  have O1 := hide ((unhide HO).kept (S := fun b => b < w.heap.size ∧ ∀ x, ah = some x → b ≠ x.block) ⟨by omega, fun b hb hl => hbl b hb.2 hl⟩ ⟨(unhide HO).lt, fun x hx e => (unhide H8 x hx).1 e.symm⟩ (fun i hi x hx => ⟨((unhide HO).own i hi x hx).2.1, fun y hy e => (unhide H8 y hy).2 i x hx e.symm⟩))
  have p1 : w1.cell? ⟨w.heap.size, 1, none⟩ = some (.slice (some ⟨g, 0, none⟩) nw cw) := by
    rcases t1 with rfl | ⟨x, hx, ho⟩
    · exact (cell_new rfl).trans rfl
    · have := (unhide H3 x hx).2
      exact (ho.cell (p := ⟨w.heap.size, 1, none⟩) (by simp; omega)).trans ((cell_new rfl).trans rfl)
  have hcast : (1 : Int) + (xs.length : Int) = ((1 + xs.length : Nat) : Int) := by omega
  rw [hcast]
  clear HC r1 t1 HR HF hcast hbl
  go_wp2_with fail
  refine (markWriteS_any (fun b => b < lo ∨ hi ≤ b) g nw cw (1 + xs.length) W A C w1 hn (by omega) (unhide O1) (unhide HL) (by omega) (fun i hi' x hx => by have := unhide H7 i hi' x hx; omega)).mono ?_
  rintro e w2 ⟨k, rfl, hb2, hkb⟩
  have B2 := hide ((unhide B1).trans hb2)
  clear hb2 p1
  go_wp2_with fail
  go_ret
  exact ⟨k, rfl, unhide B2, hkb⟩
end Go.Proofs.Ytocdbijmpecdgaa

namespace Go.Proofs.Ytocdbijmpecdgaa
open Go.RowKit

theorem Try.infoBool : (Try.prog.info? 4).map (fun i => (i.zero, i.size, i.bytes)) = some (some (.bool false), 1, 1) := by kernel_rfl
def upToB (xs : List Bool) (n k : Nat) : List Bool := xs.take k ++ List.replicate (n - k) false
theorem upToB_zero (xs : List Bool) (n : Nat) : (upToB xs n 0).map Value.bool = List.replicate n (Value.bool false) := by simp [upToB]
theorem upToB_at {xs : List Bool} {n k : Nat} (hl : xs.length = n) (hk : k < n) : (upToB xs n k)[k]? = some false := by
  have h1 : (xs.take k).length = k := by simp; omega
  simp only [upToB]
  rw [List.getElem?_append_right (show (xs.take k).length ≤ k by omega), h1, Nat.sub_self]
  have h2 : n - k = (n - (k + 1)) + 1 := by omega
  rw [h2, List.replicate_succ]; rfl
theorem upToB_set {xs : List Bool} {n k : Nat} {x : Bool} (hl : xs.length = n) (hk : k < n) (hx : x = xs.getD k false) : ((upToB xs n k).map Value.bool).set k (.bool x) = (upToB xs n (k + 1)).map Value.bool := by
  have h1 : (xs.take k).length = k := by simp; omega
  have h2 : n - k = (n - (k + 1)) + 1 := by omega
  rw [← List.map_set]
  congr 1
  simp only [upToB]
  rw [List.set_append_right _ _ (show (xs.take k).length ≤ k by omega), h1, Nat.sub_self, h2, List.replicate_succ, List.set_cons_zero, List.take_succ_eq_append_getElem (by omega), List.append_assoc]
  simp [hx, List.getD, hl, hk]
theorem upToB_all {xs : List Bool} {n : Nat} (hl : xs.length = n) : upToB xs n n = xs := by simp [upToB, ← hl]
/-- A slice of bools of the call's own: one block, none of it frozen. -/
def BMine (w : World) (g n : Nat) (bs : List Bool) : Prop := BRow w (some ⟨g, 0, none⟩) n bs ∧ ∀ j, w.frozen? ⟨g, j, none⟩ = false
theorem BMine.grow {w w' : World} {g n : Nat} {bs : List Bool} (h : BMine w g n bs) (hg : g < w.heap.size) (hb : Below w.heap.size w w') : BMine w' g n bs :=
  ⟨h.1.grow hb, fun j => (hb.frozen (p := ⟨g, j, none⟩) hg).trans (h.2 j)⟩
set_option maxHeartbeats 400000 in
theorem toBoolS_any (a : Option Addr) (n c : Nat) (bs : List Bool) (w : World) (hn : n ≤ 1048576) (h1 : BRow w a n bs) :
    Calls Try.prog 111 #[.slice a n c] w fun e w' => e = .returned (.slice (some ⟨w.heap.size, 0, none⟩) n n) ∧ BMine w' w.heap.size n bs ∧ w.heap.size < w'.heap.size ∧ Below w.heap.size w w' := by
  obtain ⟨i0, hi, hz0, hz1, hz2⟩ := info_parts Try.infoBool
  have L1 := hide h1.1
  have H1 := hide h1.2
  clear h1
  go_enter Try.func111, Try.ntmps111
  go_wp2_with (at_make; refine wpList_make_full _ rfl _ _ 32 rfl w.heap.size 4 i0 (.bool false) 1 Try.underlying32 hi hz0 hz1 _ _ _ _ n rfl rfl rfl rfl (by rw [hz2]; omega) (by unfold maxLen; omega) (Nat.le_refl _) ?_)
  intro w1 hown hgrow
  rw [toList_madeCells_one] at hown
  have hbel : Below w.heap.size w w1 := (Below.refl _ _).grown hgrow (Nat.le_refl _) (fun k hk => by cases hk)
  have hown1 : w1.ownsRow w.heap.size 4 1 (.slice (some ⟨w.heap.size, 0, none⟩) n n) n ((upToB bs n 0).map Value.bool) := by
    rw [upToB_zero]; exact hown
  clear hown hgrow
  go_wp2_with fail
  go_loopw [4] (fun i wr => ∃ k : Nat, k ≤ n ∧ i = .int .i64 k ∧ wr.ownsRow w.heap.size 4 1 (.slice (some ⟨w.heap.size, 0, none⟩) n n) n ((upToB bs n k).map Value.bool) ∧ Below w.heap.size w wr) (fun i _ => n - (intOf i).toNat)
  case atStart => exact ⟨0, Nat.zero_le _, rfl, hown1, hbel⟩
  case round =>
    clear hown1 hbel
    obtain ⟨k, hk, rfl, ho, hb⟩ := hrel
    by_cases hlt : k < n
    · obtain ⟨b, off, rfl, e1⟩ := unhide H1 k hlt
      have e2 := (hb.cell (p := ⟨b, off + k, none⟩) (cell_lt e1)).trans e1
      have e3 := ho.cellAt k (by omega)
      have e4 := ho.frozenAt k
      obtain ⟨x, hx⟩ : ∃ x, x = bs.getD k false := ⟨_, rfl⟩
      rw [← hx] at e2
      rw [List.getElem?_map, upToB_at (unhide L1) hlt] at e3
      have R := hide (ho.stored k (.bool x)).1
      rw [upToB_set (unhide L1) hlt hx] at R
      have R2 := hide (hb.setCell (p := ⟨w.heap.size, k, none⟩) (Nat.le_refl _) (.bool x))
      clear e1 hx ho hb
      go_wp2_with fail
      go_roundw
      case rel => exact ⟨k + 1, by omega, by go_num, unhide R, unhide R2⟩
      case measure => simp [intOf]; omega
    · obtain rfl : k = n := by omega
      rw [upToB_all (unhide L1)] at ho
      have M := hide (show BMine wr w.heap.size k bs ∧ w.heap.size < wr.heap.size from
        ⟨⟨⟨unhide L1, fun i hi => ⟨_, 0, rfl, by
          have := ho.cellAt i (by omega)
          rw [Nat.zero_add, this, List.getElem?_map]
          simp [List.getD, unhide L1, hi]⟩⟩, fun j => ho.frozenAt j⟩, (ho.lt _ rfl).2⟩)
      clear ho
      go_wp2_with fail
      go_ret
      exact ⟨rfl, (unhide M).1, (unhide M).2, hb⟩
theorem Try.eqlb (x : Bool) (w : World) : (binOp .neq 4 (.bool x) (.bool x)).run Try.prog w = .ok (.bool false) w := by cases x <;> kernel_rfl
set_option maxHeartbeats 400000 in
theorem eqBoolS_same (a1 a2 : Option Addr) (n c1 c2 : Nat) (bs : List Bool) (w : World) (hn : n ≤ maxLen) (h1 : BRow w a1 n bs) (h2 : BRow w a2 n bs) :
    Calls Try.prog 113 #[.slice a1 n c1, .slice a2 n c2] w fun e w' => e = .returned (.bool true) ∧ Below w.heap.size w w' := by
  unfold maxLen at hn
  have H1 := hide h1.2
  have H2 := hide h2.2
  clear h1 h2
  go_enter Try.func113, Try.ntmps113
  go_wp2_with fail
  go_loopw [5] (fun i wr => ∃ k : Nat, k ≤ n ∧ i = .int .i64 k ∧ ∃ d, wr = w.drewN d) (fun i _ => n - (intOf i).toNat)
  case atStart => exact ⟨0, Nat.zero_le _, rfl, 0, rfl⟩
  case round =>
    obtain ⟨k, hk, rfl, d, rfl⟩ := hrel
    by_cases hlt : k < n
    · obtain ⟨b1, o1, rfl, e1⟩ := unhide H1 k hlt
      obtain ⟨b2, o2, rfl, e2⟩ := unhide H2 k hlt
      generalize bs.getD k false = x at *
      go_wp2_with fail
      go_quiet (fail)
      go_wp2_with fail
      go_roundw
      case rel => exact ⟨k + 1, by omega, by go_num, _, rfl⟩
      case measure => simp [intOf]; omega
    · obtain rfl : k = n := by omega
      go_wp2_with fail
      go_ret
      exact ⟨rfl, bel_drewN (Below.refl _ _) _⟩
set_option maxHeartbeats 400000 in
theorem markBoolS_any (S : Nat → Prop) (g n c k0 : Nat) (bs : List Bool) (w : World) (hn : n ≤ 1048576) (hk0 : k0 ≤ 2000000000000) (h : BMine w g n bs) (hg : ¬ S g) :
    Calls Try.prog 73 #[.slice (some ⟨g, 0, none⟩) n c, .int .i64 (k0 : Int)] w fun e w' => ∃ k : Nat, e = .returned (.int .i64 (k : Int)) ∧ Band S w w' := by
  have H1 := hide (show ∀ i, i < n → ∃ v, w.cell? ⟨g, i, none⟩ = some (.bool v) from fun i hi => by
    obtain ⟨b, off, e, hc⟩ := h.1.2 i hi
    cases e
    rw [Nat.zero_add] at hc
    exact ⟨_, hc⟩)
  have H2 := hide h.2
  clear h
  go_enter Try.func73, Try.ntmps73
  go_wp2_with fail
  go_loopw [1, 5] (fun q i wr => ∃ k : Nat, k ≤ n ∧ i = .int .i64 k ∧ q = .int .i64 ((k0 + k : Nat) : Int) ∧ Hid (∀ i, i < n → ∃ v, wr.cell? ⟨g, i, none⟩ = some (.bool v)) ∧ Hid (∀ j, wr.frozen? ⟨g, j, none⟩ = false) ∧ Band S w wr) (fun _ i _ => n - (intOf i).toNat)
  case atStart => exact ⟨0, Nat.zero_le _, rfl, rfl, unhide H1, unhide H2, Band.refl _ _⟩
  case round =>
    obtain ⟨k, hk, rfl, rfl, g1, g2, hb⟩ := hrel
    by_cases hlt : k < n
    · obtain ⟨v, e1⟩ := unhide g1 k hlt
      have e2 := unhide g2 k
      have R := hide (fun (x : Bool) => show (∀ i, i < n → ∃ v, (wr.setCell ⟨g, k, none⟩ (.bool x)).cell? ⟨g, i, none⟩ = some (.bool v)) ∧ (∀ j, (wr.setCell ⟨g, k, none⟩ (.bool x)).frozen? ⟨g, j, none⟩ = false) ∧ Band S w (wr.setCell ⟨g, k, none⟩ (.bool x)) from
        ⟨fun i hi => by
          by_cases e : i = k
          · subst e; exact ⟨x, World.cell?_setCell_same _ _ _ e1⟩
          · obtain ⟨v', h'⟩ := unhide g1 i hi
            exact ⟨v', (World.cell?_setCell_other _ _ _ _ (by intro h; simp only [Addr.mk.injEq] at h; omega)).trans h'⟩,
         fun j => by rw [World.frozen?_setCell]; exact unhide g2 j, hb.trans (Band.set hg _ _ _)⟩)
      clear g1 g2
      go_wp2_with fail
      all_goals
        go_roundw
        case rel => exact ⟨k + 1, by omega, by go_num, by go_num, (unhide R _).1, (unhide R _).2.1, (unhide R _).2.2⟩
        case measure => simp [intOf]; omega
    · obtain rfl : k = n := by omega
      go_wp2_with fail
      go_ret
      exact ⟨_, rfl, hb⟩
end Go.Proofs.Ytocdbijmpecdgaa

namespace Go.Proofs.Ytocdbijmpecdgaa
open Go.RowKit Go.ChangeShapes Go.WideShapes

theorem markWriteS_nil (k0 : Int) (w : World) : Calls Try.prog 74 #[.slice none 0 0, .int .i64 k0] w fun e w' => e = .returned (.int .i64 k0) ∧ w' = w := by
  go_enter Try.func74, Try.ntmps74
  go_wp2_with fail
  refine wp_loop_rounds 1 ?_
  rw [rounds_succ]
  go_wp2_with fail
  go_ret
  exact ⟨rfl, rfl⟩
theorem heldWriteS_nil (k0 : Int) (w : World) : Calls Try.prog 76 #[.slice none 0 0, .int .i64 k0] w fun e w' => e = .returned (.int .i64 k0) ∧ w' = w := by
  go_enter Try.func76, Try.ntmps76
  go_wp2_with fail
  refine wp_loop_rounds 1 ?_
  rw [rounds_succ]
  go_wp2_with fail
  go_ret
  exact ⟨rfl, rfl⟩
set_option maxHeartbeats 1000000 in
theorem markFlash0_any (S : Nat → Prop) (a : Option Addr) (n c : Nat) (k0 : Nat) (xs : List Int) (w : World) (hn : n ≤ 1048576) (hk : k0 ≤ 4000000) (h1 : Row w a n xs) (h2 : ∀ x, a = some x → x.block < w.heap.size ∧ ∀ j, w.frozen? ⟨x.block, j, none⟩ = false) (hS : ∀ x, a = some x → ¬ S x.block) :
    Calls Try.prog 32 #[fv a n c none 0 0, .int .i64 (k0 : Int)] w fun e w' => e = .returned (.int .i64 ((k0 + n : Nat) : Int)) ∧ Row w' a n (marks (k0 : Int) n) ∧ Band S w w' := by
  have hb0 : ∀ o, Below w.heap.size w (w.alloc o) := fun o => (Below.refl _ _).alloc (Nat.le_refl _) _
  have HC := hide (fun o => markByteS_any a n c xs (k0 : Int) (w.alloc o) (by omega) (by omega) (by omega) (row_grow h1 (hb0 o)) (fun x hx j => ((hb0 o).frozen (p := ⟨x.block, j, none⟩) (h2 x hx).1).trans ((h2 x hx).2 j)))
  have H0 := hide hb0
  have H2 := hide (show ∀ x, a = some x → x.block ≠ w.heap.size from fun x hx => by have := (h2 x hx).1; omega)
  clear h1 h2 hb0
  go_enter Try.func32, Try.ntmps32
  go_wp2_with fail
  refine (unhide HC _).mono ?_
  rintro e w1 ⟨rfl, r1, t1⟩
  have p1 : w1.cell? ⟨w.heap.size, 1, none⟩ = some (.slice none 0 0) := by
    rcases t1 with rfl | ⟨x, hx, ho⟩
    · exact (cell_new rfl).trans rfl
    · exact (ho.cell (p := ⟨w.heap.size, 1, none⟩) (fun e => unhide H2 x hx e.symm)).trans ((cell_new rfl).trans rfl)
  have B1 := hide ((Band.grow (S := S) (unhide H0 (.cells #[.slice a n c, .slice none 0 0] 28))).trans (Band.touch t1 hS))
  have R1 := hide r1
  have HM := hide (fun w => markWriteS_nil ((k0 : Int) + (n : Int)) w)
  clear HC H0 r1 t1
  go_wp2_with fail
  refine (unhide HM _).mono ?_
  rintro e w2 ⟨rfl, rfl⟩
  go_wp2_with fail
  go_ret
  exact ⟨ret_int (by omega), unhide R1, unhide B1⟩
set_option maxHeartbeats 1000000 in
theorem heldFlash0_any (a : Option Addr) (n c : Nat) (k0 : Nat) (w : World) (hn : n ≤ 1048576) (hk : k0 ≤ 4000000) (h1 : Row w a n (marks (k0 : Int) n)) :
    Calls Try.prog 34 #[fv a n c none 0 0, .int .i64 (k0 : Int)] w fun e w' => e = .returned (.int .i64 ((k0 + n : Nat) : Int)) ∧ Below w.heap.size w w' := by
  have hb0 : ∀ o, Below w.heap.size w (w.alloc o) := fun o => (Below.refl _ _).alloc (Nat.le_refl _) _
  have HC := hide (fun o => heldByteS_any a n c (k0 : Int) (w.alloc o) (by omega) (by omega) (by omega) (row_grow h1 (hb0 o)))
  have H0 := hide hb0
  clear h1 hb0
  go_enter Try.func34, Try.ntmps34
  go_wp2_with fail
  refine (unhide HC _).mono ?_
  rintro e w1 ⟨rfl, rfl⟩
  have HM := hide (fun w => heldWriteS_nil ((k0 : Int) + (n : Int)) w)
  clear HC
  go_wp2_with fail
  refine (unhide HM _).mono ?_
  rintro e w2 ⟨rfl, rfl⟩
  go_wp2_with fail
  go_ret
  exact ⟨ret_int (by omega), unhide H0 _⟩
/-- Flags that came in. -/
def IsBools (w : World) (a : Option Addr) (n : Nat) (bs : List Bool) : Prop := BRow w a n bs ∧ n ≤ maxLen
theorem open_bools {H : Type} {enc : TypeId × Value → H} {w : World} {base : Nat} {held : Bool} {a : Option Addr} {len cap : Nat} {fuel : Nat} {x : DataW H × List MemPlace}
    (h : DataW.trod enc Try.prog w base (fun _ => true) held fuel 32 [.slice a len cap] = some x) : ∃ bs, IsBools w a len bs := by
  rcases Deep.open_bools Try.underlying32 Try.underlying4 (by kernel_rfl) h with ⟨hcs, _⟩ | ⟨y, l, c, B, hcs, _, hl, hm, _, hcell⟩
  · simp at hcs
    obtain ⟨rfl, rfl, rfl⟩ := hcs
    exact ⟨[], ⟨rfl, fun i hi => absurd hi (Nat.not_lt_zero _)⟩, by unfold maxLen; omega⟩
  · simp at hcs
    obtain ⟨rfl, rfl, rfl⟩ := hcs
    refine ⟨(List.range len).map B, ⟨by simp, fun i hi => ?_⟩, by omega⟩
    obtain ⟨b, off, spot⟩ := y
    have hs : spot = none := by simpa [Addr.add] using World.cell?_spot (hcell 0 (by omega))
    subst hs
    have e : (⟨b, off, none⟩ : Addr).add i = ⟨b, off + i, none⟩ := by unfold Addr.add; split <;> simp_all
    have := hcell i (by omega)
    rw [e] at this
    exact ⟨b, off, rfl, by rw [this]; simp [List.getD, hi]⟩
end Go.Proofs.Ytocdbijmpecdgaa

namespace Go.Proofs.Ytocdbijmpecdgaa
open Go.RowKit

theorem eqBytes_same (a1 a2 : Option Addr) (n c1 c2 : Nat) (xs : List Int) (w : World) (hn : n ≤ maxLen) (h1 : Row w a1 n xs) (h2 : Row w a2 n xs) :
    Calls Try.prog 69 #[.slice a1 n c1, .slice a2 n c2] w fun e w' => e = .returned (.bool true) ∧ Below w.heap.size w w' := by
  refine (eqByteS_any a1 a2 n n c1 c2 xs xs w hn hn h1 h2).mono ?_
  rintro e w' ⟨rfl, k, rfl⟩
  exact ⟨ret_bool (by simp), bel_drewN (Below.refl _ _) _⟩
set_option maxHeartbeats 1000000 in
theorem eqWrite_any (x : Int) (a1 a2 : Option Addr) (n c1 c2 : Nat) (xs : List Int) (w : World) (hn : n ≤ maxLen) (h1 : Row w a1 n xs) (h2 : Row w a2 n xs) :
    Calls Try.prog 112 #[wv x a1 n c1, wv x a2 n c2] w fun e w' => e = .returned (.bool true) ∧ Below w.heap.size w w' := by
  have hb0 : ∀ o1 o2, Below w.heap.size w ((w.alloc o1).alloc o2) := fun o1 o2 => ((Below.refl w.heap.size w).alloc (Nat.le_refl _) _).alloc (by simp) _
  have R1 := hide fun o1 o2 => row_grow h1 (hb0 o1 o2)
  have R2 := hide fun o1 o2 => row_grow h2 (hb0 o1 o2)
  clear h1 h2
  go_enter Try.func112, Try.ntmps112
  go_wp2_with fail
  refine (eqBytes_same a1 a2 n c1 c2 xs _ hn (unhide R1 _ _) (unhide R2 _ _)).mono ?_
  rintro e w1 ⟨rfl, hb⟩
  have B := hide ((hb0 _ _).trans (hb.mono (by simp; omega)))
  clear hb
  go_wp2_with fail
  go_ret
  exact ⟨rfl, unhide B⟩
set_option maxHeartbeats 1000000 in
theorem eqWriteS_any (a1 a2 : Option Addr) (n c1 c2 : Nat) (ws : List WD) (w : World) (hn : n ≤ maxLen) (h1 : WRow w a1 n ws) (h2 : WRow w a2 n ws) :
    Calls Try.prog 70 #[.slice a1 n c1, .slice a2 n c2] w fun e w' => e = .returned (.bool true) ∧ Below w.heap.size w w' := by
  have L := hide h1.1
  have R1 := hide h1
  have R2 := hide h2
  clear h1 h2
  unfold maxLen at hn
  go_enter Try.func70, Try.ntmps70
  go_wp2_with fail
  go_loopw [5] (fun i wr => ∃ k : Nat, k ≤ n ∧ i = .int .i64 k ∧ Below w.heap.size w wr) (fun i _ => n - (intOf i).toNat)
  case atStart => exact ⟨0, by omega, rfl, Below.refl _ _⟩
  case round =>
    obtain ⟨k, hk, rfl, hb⟩ := hrel
    by_cases hlt : k < n
    · have hk2 : k < ws.length := by rw [unhide L]; exact hlt
      obtain ⟨b, off, rfl, d0, a', c', d1, hm, r1⟩ := ((unhide R1).below hb).2 k hk2
      obtain ⟨b', off', rfl, y0, a'', c'', y1, _, r2⟩ := ((unhide R2).below hb).2 k hk2
      have H1 := hide r1
      have H2 := hide r2
      clear r1 r2
      generalize ws[k] = pd at *
      have hsz := hb.size
      go_wp2_with fail
      go_region_with (go_at_call 112; (first | refine (eqWrite_any pd.at_ a' a'' pd.xs.length c' c'' pd.xs wr.drew hm.1 (unhide H1) (unhide H2)).mono ?_ | refine (eqWrite_any pd.at_ a' a'' pd.xs.length c' c'' pd.xs wr hm.1 (unhide H1) (unhide H2)).mono ?_); rintro e w2 ⟨rfl, hb2⟩)
      all_goals
        have bA : Below w.heap.size w w2 := by first | exact hb.drew.trans (hb2.mono hsz) | exact (bel_drewN hb _).trans (hb2.mono hsz) | exact hb.trans (hb2.mono hsz)
        clear hb hb2 d0 d1 y0 y1
        go_wp2_with fail
        go_roundw
        case rel => exact ⟨k + 1, by omega, by go_num, bA⟩
        case measure => simp [intOf]; omega
    · obtain rfl : k = n := by omega
      go_wp2_with fail
      go_ret
      exact ⟨rfl, hb⟩
set_option maxHeartbeats 1000000 in
theorem eqFlash_any (a1 a2 : Option Addr) (nh c1 c2 : Nat) (b1 b2 : Option Addr) (nw d1 d2 : Nat) (xs : List Int) (ws : List WD) (w : World) (hnh : nh ≤ maxLen) (hn : nw ≤ maxLen) (h1 : Row w a1 nh xs) (h2 : Row w a2 nh xs) (h3 : WRow w b1 nw ws) (h4 : WRow w b2 nw ws) :
    Calls Try.prog 28 #[fv a1 nh c1 b1 nw d1, fv a2 nh c2 b2 nw d2] w fun e w' => e = .returned (.bool true) ∧ Below w.heap.size w w' := by
  have hb0 : ∀ o1 o2, Below w.heap.size w ((w.alloc o1).alloc o2) := fun o1 o2 => ((Below.refl w.heap.size w).alloc (Nat.le_refl _) _).alloc (by simp) _
  have R1 := hide fun o1 o2 => row_grow h1 (hb0 o1 o2)
  have R2 := hide fun o1 o2 => row_grow h2 (hb0 o1 o2)
  have R3 := hide h3
  have R4 := hide h4
  clear h1 h2 h3 h4
  go_enter Try.func28, Try.ntmps28
  go_wp2_with fail
  refine (eqBytes_same a1 a2 nh c1 c2 xs _ hnh (unhide R1 _ _) (unhide R2 _ _)).mono ?_
  rintro e w1 ⟨rfl, hb⟩
  have B := hide ((hb0 (.cells #[.slice a1 nh c1, .slice b1 nw d1] 28) (.cells #[.slice a2 nh c2, .slice b2 nw d2] 28)).trans (hb.mono (by simp; omega)))
  have p1 : w1.cell? ⟨w.heap.size, 1, none⟩ = some (.slice b1 nw d1) := (hb.cell (p := ⟨w.heap.size, 1, none⟩) (by simp; omega)).trans ((cell_old (by simp)).trans ((cell_new rfl).trans rfl))
  have p2 : w1.cell? ⟨w.heap.size + 1, 1, none⟩ = some (.slice b2 nw d2) := (hb.cell (p := ⟨w.heap.size + 1, 1, none⟩) (by simp)).trans ((cell_new (by simp)).trans rfl)
  have hsz := (unhide B).size
  clear hb
  go_wp2_with fail
  refine (eqWriteS_any b1 b2 nw d1 d2 ws w1 hn ((unhide R3).below (unhide B)) ((unhide R4).below (unhide B))).mono ?_
  rintro e w2 ⟨rfl, hb2⟩
  have B2 := hide ((unhide B).trans (hb2.mono hsz))
  clear hb2 p1 p2
  go_wp2_with fail
  go_ret
  exact ⟨rfl, unhide B2⟩
end Go.Proofs.Ytocdbijmpecdgaa

namespace Go.Proofs.Ytocdbijmpecdgaa
open Go.RowKit

/-- The law's argument as it lies in its own block, and behind it. -/
structure Args (w wr : World) (ah : Option Addr) (nh ch : Nat) (aw : Option Addr) (nw cw : Nat) (xs : List Int) (ws : List WD) : Prop where
  bel : Below w.heap.size w wr
  size : w.heap.size + 1 ≤ wr.heap.size
  c0 : wr.cell? ⟨w.heap.size, 0, none⟩ = some (.slice ah nh ch)
  c1 : wr.cell? ⟨w.heap.size, 1, none⟩ = some (.slice aw nw cw)
  row : Row wr ah nh xs
  wrow : WRow wr aw nw ws
theorem Args.start {w : World} {ah : Option Addr} {nh ch : Nat} {aw : Option Addr} {nw cw : Nat} {xs : List Int} {ws : List WD} (hr : Row w ah nh xs) (hw : WRow w aw nw ws) (t : TypeId) :
    Args w (w.alloc (.cells #[.slice ah nh ch, .slice aw nw cw] t)) ah nh ch aw nw cw xs ws :=
  have b : Below w.heap.size w (w.alloc (.cells #[.slice ah nh ch, .slice aw nw cw] t)) := (Below.refl _ _).alloc (Nat.le_refl _) _
  ⟨b, by simp, (cell_new rfl).trans rfl, (cell_new rfl).trans rfl, row_grow hr b, hw.below b⟩
theorem Args.step {w wr w2 : World} {ah : Option Addr} {nh ch : Nat} {aw : Option Addr} {nw cw : Nat} {xs : List Int} {ws : List WD} (h : Args w wr ah nh ch aw nw cw xs ws) (hb : Below wr.heap.size wr w2) : Args w w2 ah nh ch aw nw cw xs ws :=
  have hs := h.size
  ⟨h.bel.trans (hb.mono h.bel.size), Nat.le_trans h.size hb.size, (hb.cell (p := ⟨w.heap.size, 0, none⟩) (by simp; omega)).trans h.c0, (hb.cell (p := ⟨w.heap.size, 1, none⟩) (by simp; omega)).trans h.c1, row_grow h.row hb, h.wrow.below hb⟩

end Go.Proofs.Ytocdbijmpecdgaa

namespace Go.Proofs.Ytocdbijmpecdgaa
open Go.RowKit

theorem Args.band' {S : Nat → Prop} {w wr w2 : World} {ah : Option Addr} {nh ch : Nat} {aw : Option Addr} {nw cw : Nat} {xs : List Int} {ws : List WD} (hr : Row w ah nh xs) (hw : WRow w aw nw ws) (h : Args w wr ah nh ch aw nw cw xs ws) (hb : Band S wr w2) (hS : ∀ k, k < w.heap.size + 1 → S k) : Args w w2 ah nh ch aw nw cw xs ws :=
  have hs := h.size
  have b : Below w.heap.size w w2 := h.bel.trans (hb.below (by omega) (fun k hk => hS k (by omega)))
  ⟨b, Nat.le_trans h.size hb.kept.1, (hb.kept.cell (p := ⟨w.heap.size, 0, none⟩) (hS _ (by simp)) (by simp; omega)).trans h.c0, (hb.kept.cell (p := ⟨w.heap.size, 1, none⟩) (hS _ (by simp)) (by simp; omega)).trans h.c1, row_grow hr b, hw.below b⟩
theorem mine_row'' {w : World} {B n cap : Nat} {a : Option Addr} {xs : List Int} (h : Mine w B (.slice a n cap) xs) : Row w a n xs ∧ n = xs.length ∧ n ≤ cap ∧ cap ≤ maxLen ∧ ∀ x, a = some x → B ≤ x.block ∧ x.block < w.heap.size ∧ ∀ j, w.frozen? ⟨x.block, j, none⟩ = false := by
  obtain ⟨a', c', e, h1, h2, h3, h4⟩ := h
  injection e with e1 e2 e3
  subst e1 e2 e3
  exact ⟨h3, rfl, h1, h2, h4⟩
theorem wrow_nil (w : World) : WRow w none 0 [] := ⟨rfl, fun _ hi => absurd hi (Nat.not_lt_zero _)⟩
/-- The box of a device that is a local. -/
def Bx (w : World) (b : Nat) (a : Option Addr) (n c : Nat) (a' : Option Addr) (n' c' : Nat) : Prop := w.cell? ⟨b, 0, none⟩ = some (.slice a n c) ∧ w.cell? ⟨b, 1, none⟩ = some (.slice a' n' c')
theorem Bx.new (w : World) (a : Option Addr) (n c : Nat) (a' : Option Addr) (n' c' : Nat) (t : TypeId) : Bx (w.alloc (.cells #[.slice a n c, .slice a' n' c'] t)) w.heap.size a n c a' n' c' := ⟨(cell_new rfl).trans rfl, (cell_new rfl).trans rfl⟩
theorem Bx.step {w w2 : World} {b : Nat} {a : Option Addr} {n c : Nat} {a' : Option Addr} {n' c' : Nat} (h : Bx w b a n c a' n' c') (hb : Below w.heap.size w w2) : Bx w2 b a n c a' n' c' :=
  ⟨(hb.cell (p := ⟨b, 0, none⟩) (cell_lt h.1)).trans h.1, (hb.cell (p := ⟨b, 1, none⟩) (cell_lt h.2)).trans h.2⟩
theorem Bx.band {S : Nat → Prop} {w w2 : World} {b : Nat} {a : Option Addr} {n c : Nat} {a' : Option Addr} {n' c' : Nat} (h : Bx w b a n c a' n' c') (hb : Band S w w2) (hS : S b) : Bx w2 b a n c a' n' c' :=
  ⟨(hb.kept.cell (p := ⟨b, 0, none⟩) hS (cell_lt h.1)).trans h.1, (hb.kept.cell (p := ⟨b, 1, none⟩) hS (cell_lt h.2)).trans h.2⟩
/-- Memory of the call's own, between two blocks. -/
def Ow (w : World) (lo hi : Nat) (a : Option Addr) : Prop := ∀ x, a = some x → lo ≤ x.block ∧ x.block < hi ∧ x.block < w.heap.size ∧ ∀ j, w.frozen? ⟨x.block, j, none⟩ = false
theorem Ow.step {w w2 : World} {lo hi : Nat} {a : Option Addr} (h : Ow w lo hi a) (hb : Below w.heap.size w w2) : Ow w2 lo hi a :=
  fun x hx => ⟨(h x hx).1, (h x hx).2.1, Nat.lt_of_lt_of_le (h x hx).2.2.1 hb.size, fun j => (hb.frozen (p := ⟨x.block, j, none⟩) (h x hx).2.2.1).trans ((h x hx).2.2.2 j)⟩
theorem Ow.band {S : Nat → Prop} {w w2 : World} {lo hi : Nat} {a : Option Addr} (h : Ow w lo hi a) (hb : Band S w w2) (hS : ∀ k, lo ≤ k → k < hi → S k) : Ow w2 lo hi a :=
  fun x hx => ⟨(h x hx).1, (h x hx).2.1, Nat.lt_of_lt_of_le (h x hx).2.2.1 hb.kept.1, fun j => (hb.kept.frozen (p := ⟨x.block, j, none⟩) (hS _ (h x hx).1 (h x hx).2.1) (h x hx).2.2.1).trans ((h x hx).2.2.2 j)⟩
theorem Band.row {S : Nat → Prop} {w w2 : World} {lo hi : Nat} {a : Option Addr} {n : Nat} {xs : List Int} (hb : Band S w w2) (h : Row w a n xs) (ho : Ow w lo hi a) (hS : ∀ k, lo ≤ k → k < hi → S k) : Row w2 a n xs :=
  hb.kept.row h (fun x hx => hS _ (ho x hx).1 (ho x hx).2.1)
def BIn (w : World) (g n : Nat) (bs : List Bool) : Prop := BMine w g n bs ∧ g < w.heap.size
theorem BIn.step {w w2 : World} {g n : Nat} {bs : List Bool} (h : BIn w g n bs) (hb : Below w.heap.size w w2) : BIn w2 g n bs := ⟨h.1.grow h.2 hb, Nat.lt_of_lt_of_le h.2 hb.size⟩
theorem BIn.band {S : Nat → Prop} {w w2 : World} {g n : Nat} {bs : List Bool} (h : BIn w g n bs) (hb : Band S w w2) (hS : S g) : BIn w2 g n bs :=
  ⟨⟨h.1.1.kept hb.kept (fun x hx => by cases hx; exact hS), fun j => (hb.kept.frozen (p := ⟨g, j, none⟩) hS h.2).trans (h.1.2 j)⟩, Nat.lt_of_lt_of_le h.2 hb.kept.1⟩
theorem Mine.ow {w : World} {B n cap : Nat} {a : Option Addr} {xs : List Int} (h : Mine w B (.slice a n cap) xs) : Row w a n xs ∧ Ow w B w.heap.size a := by
  obtain ⟨r, _, _, _, o⟩ := mine_row'' h
  exact ⟨r, fun x hx => ⟨(o x hx).1, (o x hx).2.1, (o x hx).2.1, (o x hx).2.2⟩⟩
end Go.Proofs.Ytocdbijmpecdgaa

namespace Go.Proofs.Ytocdbijmpecdgaa
open Go.RowKit Go.ChangeShapes Go.WideShapes

theorem szImage_any (id : Int) (gone : Bool) (a : Option Addr) (n c : Nat) (left : Int) (w : World) (h0 : 0 ≤ left) (h1 : left ≤ 1048576) (hn : n ≤ maxLen) :
    Calls Try.prog 36 #[iv id gone a n c, .int .i64 left] w fun e w' => ∃ r : Int, e = .returned (.int .i64 r) ∧ (r = -1 ∨ (0 ≤ r ∧ r ≤ left ∧ (n : Int) ≤ left)) ∧ Below w.heap.size w w' := by
  go_enter Try.func36, Try.ntmps36
  go_wp2_with fail
  refine (szByteS_any a n c left _ h0 h1 hn).mono ?_
  rintro e w1 ⟨r, rfl, hr, rfl⟩
  rcases hr with rfl | ⟨r0, r1, r2⟩
  · go_wp2_with fail
    go_ret
    exact ⟨-1, rfl, .inl rfl, (Below.refl _ _).alloc (Nat.le_refl _) _⟩
  · go_wp2_with fail
    go_ret
    exact ⟨r, rfl, .inr ⟨r0, r1, r2⟩, (Below.refl _ _).alloc (Nat.le_refl _) _⟩
set_option maxHeartbeats 1000000 in
theorem toImage_any (id : Int) (gone : Bool) (a : Option Addr) (c : Nat) (xs : List Int) (w : World) (hn : xs.length ≤ 1048576) (h1 : Row w a xs.length xs) :
    Calls Try.prog 39 #[iv id gone a xs.length c] w fun e w' => ∃ g c', e = .returned (iv id gone (some ⟨g, 0, none⟩) xs.length c') ∧ Mine w' w.heap.size (.slice (some ⟨g, 0, none⟩) xs.length c') xs ∧ w.heap.size ≤ g ∧ g < w'.heap.size ∧ Below w.heap.size w w' := by
  have R := hide fun o1 o2 o3 => row_alloc (o := o3) (row_alloc (o := o2) (row_alloc (o := o1) h1))
  clear h1
  go_enter Try.func39, Try.ntmps39
  go_wp2_with fail
  refine (toByteS_at a xs.length c xs _ hn (unhide R _ _ _)).mono ?_
  clear R
  rintro e w1 ⟨rfl, hm, hb⟩
  obtain ⟨g, hg⟩ : ∃ g, g = w.heap.size + 1 + 1 + 1 := ⟨_, rfl⟩
  have hsz3 : ∀ o1 o2 o3, (((w.alloc o1).alloc o2).alloc o3).heap.size = g := fun o1 o2 o3 => by rw [hg]; simp
  rw [hsz3] at hm hb ⊢
  obtain ⟨a', c', e0, m1, m2, m3, m4⟩ := hm
  injection e0 with e1 _ e3
  subst e1 e3
  have hM := hide (show Mine w1 w.heap.size (.slice (some ⟨g, 0, none⟩) xs.length xs.length) xs from ⟨_, _, rfl, m1, m2, m3, fun x hx => ⟨by have := (m4 x hx).1; omega, (m4 x hx).2⟩⟩)
  have hgl := (m4 _ rfl).2.1
  simp only at hgl
  have B0 : ∀ o1 o2 o3, Below w.heap.size w (((w.alloc o1).alloc o2).alloc o3) := fun o1 o2 o3 => (((Below.refl w.heap.size w).alloc (Nat.le_refl _) _).alloc (by simp) _).alloc (by simp; omega) _
  have d0 : w1.cell? ⟨w.heap.size + 1 + 1, 0, none⟩ = some (.int .i64 id) := (hb.cell (p := ⟨w.heap.size + 1 + 1, 0, none⟩) (by simp; omega)).trans ((cell_new (by simp)).trans rfl)
  have d1 : w1.cell? ⟨w.heap.size + 1 + 1, 1, none⟩ = some (.bool gone) := (hb.cell (p := ⟨w.heap.size + 1 + 1, 1, none⟩) (by simp; omega)).trans ((cell_new (by simp)).trans rfl)
  have d2 : w1.cell? ⟨w.heap.size + 1 + 1, 2, none⟩ = some (.slice none 0 0) := (hb.cell (p := ⟨w.heap.size + 1 + 1, 2, none⟩) (by simp; omega)).trans ((cell_new (by simp)).trans rfl)
  have f2 : w1.frozen? ⟨w.heap.size + 1 + 1, 2, none⟩ = false := (hb.frozen (p := ⟨w.heap.size + 1 + 1, 2, none⟩) (by simp; omega)).trans (frozen_new (by simp))
  have g0 : w1.cell? ⟨w.heap.size + 1, 0, none⟩ = some (.int .i64 0) := (hb.cell (p := ⟨w.heap.size + 1, 0, none⟩) (by simp; omega)).trans ((cell_old (by simp)).trans ((cell_new (by simp)).trans rfl))
  have g1 : w1.cell? ⟨w.heap.size + 1, 1, none⟩ = some (.bool false) := (hb.cell (p := ⟨w.heap.size + 1, 1, none⟩) (by simp; omega)).trans ((cell_old (by simp)).trans ((cell_new (by simp)).trans rfl))
  have g2 : w1.cell? ⟨w.heap.size + 1, 2, none⟩ = some (.slice none 0 0) := (hb.cell (p := ⟨w.heap.size + 1, 2, none⟩) (by simp; omega)).trans ((cell_old (by simp)).trans ((cell_new (by simp)).trans rfl))
  have e0 : w1.frozen? ⟨w.heap.size + 1, 0, none⟩ = false := (hb.frozen (p := ⟨w.heap.size + 1, 0, none⟩) (by simp; omega)).trans ((frozen_old (by simp)).trans (frozen_new (by simp)))
  have e1 : w1.frozen? ⟨w.heap.size + 1, 1, none⟩ = false := (hb.frozen (p := ⟨w.heap.size + 1, 1, none⟩) (by simp; omega)).trans ((frozen_old (by simp)).trans (frozen_new (by simp)))
  have e2 : w1.frozen? ⟨w.heap.size + 1, 2, none⟩ = false := (hb.frozen (p := ⟨w.heap.size + 1, 2, none⟩) (by simp; omega)).trans ((frozen_old (by simp)).trans (frozen_new (by simp)))
  have BB := hide ((B0 _ _ _).trans (hb.mono (by omega)))
  have hgg : w.heap.size + 1 + 1 < g := by omega
  clear hb m1 m2 m3 m4 hsz3 B0 hg
  go_wp2_with fail
  have B3 := hide (((((unhide BB).setCell (p := ⟨w.heap.size + 1 + 1, 2, none⟩) (by simp; omega) (.slice (some ⟨g, 0, none⟩) xs.length xs.length)).setCell (p := ⟨w.heap.size + 1, 0, none⟩) (by simp) (.int .i64 id)).setCell (p := ⟨w.heap.size + 1, 1, none⟩) (by simp) (.bool gone)).setCell (p := ⟨w.heap.size + 1, 2, none⟩) (by simp) (.slice (some ⟨g, 0, none⟩) xs.length xs.length))
  have hlt : w.heap.size + 1 < w1.heap.size := by omega
  refine bodyPost_ret (v := iv id gone (some ⟨g, 0, none⟩) xs.length xs.length) (by simp [results, Try.results39, go_sem, g0, g1, g2]) rfl ⟨g, xs.length, rfl, ?_, by omega, by simp [World.setCell]; omega, unhide B3⟩
  obtain ⟨a1, c1, e, m1, m2, m3, m4⟩ := unhide hM
  injection e with e1 _ e3
  subst e1 e3
  refine ⟨_, _, rfl, m1, m2, m3.of_cells fun y hy p hp => ?_, fun y hy => ⟨(m4 y hy).1, by simpa using (m4 y hy).2.1, fun j => by simpa using (m4 y hy).2.2 j⟩⟩
  cases hy
  simp only at hp
  rw [World.cell?_setCell_other _ _ _ _ (by intro e; rw [← e] at hp; simp at hp; omega), World.cell?_setCell_other _ _ _ _ (by intro e; rw [← e] at hp; simp at hp; omega), World.cell?_setCell_other _ _ _ _ (by intro e; rw [← e] at hp; simp at hp; omega), World.cell?_setCell_other _ _ _ _ (by intro e; rw [← e] at hp; simp at hp; omega)]
set_option maxHeartbeats 1000000 in
theorem eqImage_any (id : Int) (gone : Bool) (a1 a2 : Option Addr) (n c1 c2 : Nat) (xs : List Int) (w : World) (hn : n ≤ maxLen) (h1 : Row w a1 n xs) (h2 : Row w a2 n xs) :
    Calls Try.prog 40 #[iv id gone a1 n c1, iv id gone a2 n c2] w fun e w' => e = .returned (.bool true) ∧ Below w.heap.size w w' := by
  have hb0 : ∀ o1 o2, Below w.heap.size w ((w.alloc o1).alloc o2) := fun o1 o2 => ((Below.refl w.heap.size w).alloc (Nat.le_refl _) _).alloc (by simp) _
  have R1 := hide fun o1 o2 => row_grow h1 (hb0 o1 o2)
  have R2 := hide fun o1 o2 => row_grow h2 (hb0 o1 o2)
  have hg : (gone != gone) = false := by cases gone <;> rfl
  clear h1 h2
  go_enter Try.func40, Try.ntmps40
  go_wp2_with fail
  refine (eqBytes_same a1 a2 n c1 c2 xs _ hn (unhide R1 _ _) (unhide R2 _ _)).mono ?_
  rintro e w1 ⟨rfl, hb⟩
  have B := hide ((hb0 _ _).trans (hb.mono (by simp; omega)))
  clear hb
  go_wp2_with fail
  go_ret
  exact ⟨rfl, unhide B⟩
/-- The image's bytes are marked: nothing is written but their block. -/
theorem markImage_any (S : Nat → Prop) (id : Int) (gone : Bool) (a : Option Addr) (n c : Nat) (xs : List Int) (w : World) (hn : n ≤ 1048576) (h1 : Row w a n xs) (h2 : ∀ x, a = some x → x.block < w.heap.size ∧ ∀ j, w.frozen? ⟨x.block, j, none⟩ = false) (hS : ∀ x, a = some x → ¬ S x.block) :
    Calls Try.prog 41 #[iv id gone a n c, .int .i64 1] w fun e w' => ∃ k : Nat, e = .returned (.int .i64 (k : Int)) ∧ Band S w w' := by
  have hb0 : ∀ o, Below w.heap.size w (w.alloc o) := fun o => (Below.refl _ _).alloc (Nat.le_refl _) _
  have HC := hide (fun o => markByteS_any a n c xs 1 (w.alloc o) (by omega) (by omega) (by omega) (row_grow h1 (hb0 o)) (fun x hx j => ((hb0 o).frozen (p := ⟨x.block, j, none⟩) (h2 x hx).1).trans ((h2 x hx).2 j)))
  have H0 := hide hb0
  clear h1 h2 hb0
  go_enter Try.func41, Try.ntmps41
  go_wp2_with fail
  refine (unhide HC _).mono ?_
  rintro e w1 ⟨rfl, r1, t1⟩
  have hcast : (1 : Int) + (n : Int) = ((1 + n : Nat) : Int) := by omega
  rw [hcast]
  have B1 := hide ((Band.grow (S := S) (unhide H0 (.cells #[.int .i64 id, .bool gone, .slice a n c] 45))).trans (Band.touch t1 hS))
  clear HC H0 r1 t1 hcast
  go_wp2_with fail
  go_ret
  exact ⟨_, rfl, unhide B1⟩
/-- A slice of bytes that came in: its bytes are bytes. -/
theorem open_bytes8 {H : Type} {enc : TypeId × Value → H} {w : World} {base : Nat} {spare : Nat → Bool} {held : Bool} {v : Value} {fuel : Nat} {x : DataW H × List MemPlace}
    (h : DataW.trod enc Try.prog w base spare held fuel 22 [v] = some x) : ∃ a c xs, v = .slice a xs.length c ∧ Row w a xs.length xs ∧ xs.length ≤ maxLen ∧ Bytes8 xs := by
  rcases open_ints Try.underlying22 Try.underlying5 (by kernel_rfl) h with ⟨hcs, _⟩ | ⟨y, l, c, zs, hcs, _, hl, hm, hz, _, hcell, hwz⟩
  · simp at hcs
    subst hcs
    exact ⟨none, 0, [], rfl, ⟨rfl, fun i hi => absurd hi (Nat.not_lt_zero _)⟩, by unfold maxLen; simp, fun i hi => absurd hi (Nat.not_lt_zero _)⟩
  · simp at hcs
    subst hcs
    have hlz : l ≤ zs.length := by rw [hz]; split <;> omega
    have hR : IsRow .u8 w (some y) l zs.length zs := .inr ⟨y, rfl, hlz, by rw [hz]; split <;> omega, rfl, hcell, hwz⟩
    have hr := (row_of_isRow hR).1
    have hlen : (zs.take l).length = l := hr.1
    refine ⟨some y, c, zs.take l, by rw [hlen], by rw [hlen]; exact hr, by rw [hlen]; exact (row_of_isRow hR).2.1, fun i hi => bytes_of_isRow hR i (by rw [hlen] at hi; exact hi)⟩
/-- An image that came in. -/
def IsImage (w : World) (a : Option Addr) (xs : List Int) : Prop := Row w a xs.length xs ∧ xs.length ≤ maxLen ∧ Bytes8 xs
set_option maxRecDepth 100000 in
theorem open_image {H : Type} {enc : TypeId × Value → H} {w : World} {base : Nat} {spare : Nat → Bool} {held : Bool} {v : Value} {r : Reach} {b0 : Nat} {d : DataW H} {p : List MemPlace}
    (hv : Value.okWide Try.prog w r b0 67 v) (h : DataW.Trod enc Try.prog w base spare held 67 v d p) : ∃ id gone a c xs, v = iv id gone a xs.length c ∧ IsImage w a xs := by
  obtain ⟨v0, v1, v2, y0, y1, y2, n, rfl, _, _, h0, h1, h2⟩ := Go.Joins.open_agg3 Try.underlying67 (by kernel_rfl) (by kernel_rfl) hv h
  obtain ⟨id, e0, _, _⟩ := DataW.trod_int Try.underlying3 h0
  obtain ⟨gone, e1, _⟩ := DataW.trod_bool Try.underlying4 h1
  obtain ⟨a, c, xs, rfl, hr, hl, h8⟩ := open_bytes8 h2
  simp at e0 e1
  subst e0 e1
  exact ⟨id, gone, a, c, xs, rfl, hr, hl, h8⟩
end Go.Proofs.Ytocdbijmpecdgaa
