/-
  SzV, SeU, SeT, VvT, VvB, MkT, VrM, SeD, SeM, VrH, FnM, FnH, SeN, VzM, PrK, FlashRdS, FlashE, FlashOKLaw, FlashReadLaw, ReLaw, ReQ, ReP in one.
-/
import Derived.Test.YtcflepnckjappaaGreatVvA
import Derived.Test.YtcflepnckjappaaGreatPageL
import Derived.Test.YtcflepnckjappaaGreatReAll2
import Derived.Test.YtcflepnckjappaaGreatVrT
import Derived.Test.YtcflepnckjappaaGreatWrT
import Derived.Deep.WholeRow
import Derived.Test.YtcflepnckjappaaGreatReAll3
import Derived.Test.YtcflepnckjappaaGreatReAll7
import Derived.Test.YtcflepnckjappaaGreatOwn
import Derived.Laws.BytesArg
import Derived.Test.YtcflepnckjappaaGreatVrC
import Derived.Deep.RegionWith
import Derived.Test.YtcflepnckjappaaGreatRowR
import Derived.Test.YtcflepnckjappaaGreatFnC
import Derived.Test.YtcflepnckjappaaGreatKdA
import Derived.Test.YtcflepnckjappaaGreatReAll11
import Derived.Test.YtcflepnckjappaaGreatReAll6
import Derived.Test.YtcflepnckjappaaGreatBytes
import Derived.Test.YtcflepnckjappaaGreatHeldB
import Derived.Deep.Cut
import Derived.Test.YtcflepnckjappaaGreatRows
import Derived.ProofKit
import Derived.JoinedOf
import Derived.OpenShut
import Derived.ShutString
import Derived.ChangeOld
import Derived.Below
namespace Go.Proofs.YtcflepnckjappaaGreat
open Go.RowKit

/-- How many records Versions hold. -/
def vsN (d : VsD) : Nat := d.list.length + d.fen.length + d.ses.length + (d.ses.map (fun s => s.ws.length)).sum
end Go.Proofs.YtcflepnckjappaaGreat

namespace Go.Proofs.YtcflepnckjappaaGreat
open Go.RowKit

end Go.Proofs.YtcflepnckjappaaGreat

namespace Go.Proofs.YtcflepnckjappaaGreat
open Go.RowKit

end Go.Proofs.YtcflepnckjappaaGreat

namespace Go.Proofs.YtcflepnckjappaaGreat
open Go.RowKit

/-- Versions that came in, read with the places of the sessions' rows. -/
structure VzR (w : World) (l f s : Sl) (hs : List SeH) (d : VsD) : Prop where
  v : VRow w l.a l.n d.list
  f : FRow w f.a f.n d.fen
  s : SeIn w (.slice s.a s.n s.c) s.n hs
  ss : hs.map (·.X) = d.ses
theorem VzR.below {w w' : World} {l f s : Sl} {hs : List SeH} {d : VsD} (h : VzR w l f s hs d) (hb : Below w.heap.size w w') : VzR w' l f s hs d := ⟨h.v.below hb, h.f.below hb, h.s.below hb, h.ss⟩
theorem sum_mem {ss : List SesD} {x : SesD} (h : x ∈ ss) : x.ws.length ≤ (ss.map (fun s => s.ws.length)).sum := by
  induction ss with
  | nil => cases h
  | cons y r ih =>
    rw [List.map_cons, List.sum_cons]
    rcases List.mem_cons.1 h with rfl | h
    · omega
    · have := ih h
      omega
/-- They are few. -/
structure VzF (l f s : Sl) (hs : List SeH) : Prop where
  l : l.n ≤ 1048576
  f : f.n ≤ 1048576
  s : s.n ≤ 1048576
  w : ∀ h ∈ hs, h.s0.n ≤ 1048576
theorem VzR.few {w : World} {l f s : Sl} {hs : List SeH} {d : VsD} (h : VzR w l f s hs d) (hd : vsN d ≤ 1048576) : VzF l f s hs := by
  have e1 := h.v.1
  have e2 := h.f.1
  have e3 : hs.length = s.n := by have := h.s.len; simpa using this
  have e4 : hs.length = d.ses.length := by rw [← h.ss, List.length_map]
  unfold vsN at hd
  refine ⟨by omega, by omega, by omega, fun x hx => ?_⟩
  obtain ⟨k, hk, rfl⟩ := List.getElem_of_mem hx
  have e5 := rowC_lenV (SeIn.sub h.s hk)
  have e6 := sum_mem (ss := d.ses) (x := hs[k].X) (by rw [← h.ss]; exact List.mem_map_of_mem hx)
  omega
theorem vzr_of {w : World} {l f s : Sl} {hs : List SeH} {d : VsD} (h : VzIn w l f s hs d) : VzR w l f s hs d := ⟨h.vr, h.fr, h.sr, h.ss⟩
theorem vsfew_of {w : World} {l f s : Sl} {hs : List SeH} {d : VsD} (h : VzIn w l f s hs d) (hd : vsN d ≤ 1048576) : VsFew l f s (hs.map seR) := by
  have e := (vzr_of h).few hd
  exact ⟨e.l, e.f, e.s, fun i hi => by rw [List.getElem_map]; exact e.w _ (List.getElem_mem _)⟩
end Go.Proofs.YtcflepnckjappaaGreat

namespace Go.Proofs.YtcflepnckjappaaGreat
open Go.RowKit

set_option maxRecDepth 100000 in
set_option maxHeartbeats 1000000 in
theorem eqVersions_any (next : Int) (l1 f1 s1 l2 f2 s2 : Sl) (rs1 rs2 : List SesR) (d : VsD) (w : World) (h1 : VsAt w l1 f1 s1 rs1 d) (h2 : VsAt w l2 f2 s2 rs2 d) (hf : VsFew l1 f1 s1 rs1) :
    Calls Tryz.prog 29 #[vsv next l1 f1 s1, vsv next l2 f2 s2] w fun e w' => e = .returned (.bool true) ∧ Below w.heap.size w w' := by
  obtain ⟨la, ln, lc⟩ := l1
  obtain ⟨fa, fn, fc⟩ := f1
  obtain ⟨sa, sn, sc⟩ := s1
  obtain ⟨la', ln', lc'⟩ := l2
  obtain ⟨fa', fn', fc'⟩ := f2
  obtain ⟨sa', sn', sc'⟩ := s2
  obtain rfl : ln = ln' := h1.v.1.symm.trans h2.v.1
  obtain rfl : fn = fn' := h1.f.1.symm.trans h2.f.1
  obtain rfl : sn = sn' := by have e1 := h1.s.1; have e2 := h2.s.1; have e3 := h1.ss.1; have e4 := h2.ss.1; show sn = sn'; simp only at e1 e2; omega
  have H1 := hide h1
  have H2 := hide h2
  have HF := hide hf
  clear h1 h2 hf
  unfold vsv
  simp only
  have b0 : Below w.heap.size w ((w.alloc (.cells #[.int .i64 next, .slice la ln lc, .slice fa fn fc, .slice sa sn sc] 29)).alloc (.cells #[.int .i64 next, .slice la' ln lc', .slice fa' fn fc', .slice sa' sn sc'] 29)) := ((Below.refl _ _).alloc (Nat.le_refl _) _).alloc (by simp) _
  have k1 : ((w.alloc (.cells #[.int .i64 next, .slice la ln lc, .slice fa fn fc, .slice sa sn sc] 29)).alloc (.cells #[.int .i64 next, .slice la' ln lc', .slice fa' fn fc', .slice sa' sn sc'] 29)).heap[w.heap.size]? = some (.cells #[.int .i64 next, .slice la ln lc, .slice fa fn fc, .slice sa sn sc] 29 (0, 0)) :=
    (((Below.refl (w.heap.size + 1) (w.alloc (.cells #[.int .i64 next, .slice la ln lc, .slice fa fn fc, .slice sa sn sc] 29))).alloc (by simp) _).block w.heap.size (by omega)).trans (heap_alloc_new _ _)
  have k2 : ((w.alloc (.cells #[.int .i64 next, .slice la ln lc, .slice fa fn fc, .slice sa sn sc] 29)).alloc (.cells #[.int .i64 next, .slice la' ln lc', .slice fa' fn fc', .slice sa' sn sc'] 29)).heap[w.heap.size + 1]? = some (.cells #[.int .i64 next, .slice la' ln lc', .slice fa' fn fc', .slice sa' sn sc'] 29 (0, 0)) := by
    have := heap_alloc_new (w.alloc (.cells #[.int .i64 next, .slice la ln lc, .slice fa fn fc, .slice sa sn sc] 29)) (.cells #[.int .i64 next, .slice la' ln lc', .slice fa' fn fc', .slice sa' sn sc'] 29)
    simpa using this
  have K1 := hide k1
  have K2 := hide k2
  clear k1 k2
  go_enter Tryz.func29, Tryz.ntmps29
  go_wp2_with fail
  generalize (w.alloc (.cells #[.int .i64 next, .slice la ln lc, .slice fa fn fc, .slice sa sn sc] 29)).alloc (.cells #[.int .i64 next, .slice la' ln lc', .slice fa' fn fc', .slice sa' sn sc'] 29) = W at *
  refine (eqVersionS_any la la' ln lc lc' d.list W (unhide HF).l ((unhide H1).below b0).v ((unhide H2).below b0).v).mono ?_
  rintro e w1 ⟨rfl, hb⟩
  replace K1 := hide ((hb.block w.heap.size (Array.getElem?_eq_some_iff.1 (unhide K1)).1).trans (unhide K1))
  replace K2 := hide ((hb.block (w.heap.size + 1) (Array.getElem?_eq_some_iff.1 (unhide K2)).1).trans (unhide K2))
  replace b0 := b0.trans (hb.mono b0.size)
  clear hb
  have c1 : w1.cell? ⟨w.heap.size, 2, none⟩ = some (.slice fa fn fc) := (heap_at (unhide K1) 2).1
  have c2 : w1.cell? ⟨w.heap.size + 1, 2, none⟩ = some (.slice fa' fn fc') := (heap_at (unhide K2) 2).1
  go_wp2_with fail
  refine (eqFenceS_any fa fa' fn fc fc' d.fen w1 (unhide HF).f ((unhide H1).below b0).f ((unhide H2).below b0).f).mono ?_
  rintro e w2 ⟨rfl, hb⟩
  replace K1 := hide ((hb.block w.heap.size (Array.getElem?_eq_some_iff.1 (unhide K1)).1).trans (unhide K1))
  replace K2 := hide ((hb.block (w.heap.size + 1) (Array.getElem?_eq_some_iff.1 (unhide K2)).1).trans (unhide K2))
  replace b0 := b0.trans (hb.mono b0.size)
  clear hb c1 c2
  have c1 : w2.cell? ⟨w.heap.size, 3, none⟩ = some (.slice sa sn sc) := (heap_at (unhide K1) 3).1
  have c2 : w2.cell? ⟨w.heap.size + 1, 3, none⟩ = some (.slice sa' sn sc') := (heap_at (unhide K2) 3).1
  go_wp2_with fail
  refine (eqSessionS_any sa sa' sn sc sc' rs1 rs2 d.ses w2 (unhide HF).s ((unhide H1).below b0).s ((unhide H2).below b0).s ((unhide H1).below b0).ss ((unhide H2).below b0).ss (unhide HF).w).mono ?_
  rintro e w3 ⟨rfl, hb⟩
  replace b0 := b0.trans (hb.mono b0.size)
  clear hb c1 c2 K1 K2
  go_wp2_with fail
  go_ret
  exact ⟨rfl, b0⟩
end Go.Proofs.YtcflepnckjappaaGreat

namespace Go.Proofs.YtcflepnckjappaaGreat
open Go.RowKit

/-- The digits of a number ahead of a text, an m ahead of both. -/
def mt (j : Nat) (s : ByteArray) : ByteArray := if _h : j = 0 then strOfNums [109] ++ s else mt (j / 10) (strOfNums [(48 + (j : Int) % 10)] ++ s)
termination_by j
decreasing_by omega
theorem mt_zero (s : ByteArray) : mt 0 s = strOfNums [109] ++ s := by rw [mt, dif_pos rfl]
theorem mt_step {j : Nat} (s : ByteArray) (h : ¬ j = 0) : mt j s = mt (j / 10) (strOfNums [(48 + (j : Int) % 10)] ++ s) := by rw [mt, dif_neg h]
theorem digits_small {j r K : Nat} (h0 : 0 < j) (h : j * 10 ^ r ≤ K) (hK : K ≤ 9999999) : r ≤ 6 := by
  by_cases hr : r ≤ 6
  · exact hr
  · have h1 : 10 ^ 7 ≤ 10 ^ r := Nat.pow_le_pow_right (by omega) (by omega)
    have h2 : 1 * 10 ^ r ≤ j * 10 ^ r := Nat.mul_le_mul_right _ h0
    omega
theorem digits_step {j r K : Nat} (h : j * 10 ^ r ≤ K) : j / 10 * 10 ^ (r + 1) ≤ K := by
  have : j / 10 * 10 ≤ j := Nat.div_mul_le_self j 10
  have h2 : j / 10 * 10 * 10 ^ r ≤ j * 10 ^ r := Nat.mul_le_mul_right _ this
  rw [Nat.pow_succ, Nat.mul_comm (10 ^ r) 10, ← Nat.mul_assoc]
  omega
theorem conv_one {w : World} {x : Int} : (convert 22 9 (.slice (some ⟨w.heap.size, 0, none⟩) 1 1)).run Tryz.prog (w.alloc (.cells #[.int .u8 x] 5)) = .ok (.string (strOfNums [x])) (w.alloc (.cells #[.int .u8 x] 5)) :=
  run_convert_bytes_arg _ 22 5 Tryz.underlying22 Tryz.underlying5 w.heap.size 0 1 1 [x] rfl (fun i hi => by
      have : i = 0 := by simp at hi; omega
      subst this
      simp) 9 Tryz.underlying9

theorem str_size (l : List Int) : (strOfNums l).size = l.length := by
  have h := congrArg List.length (strOfNums_data l)
  simpa using h
set_option maxHeartbeats 1000000 in
theorem markText_any (K : Nat) (w : World) (h0 : 0 < K) (hK : K ≤ 9999999) :
    Calls Tryz.prog 113 #[.int .i64 K] w fun e w' => e = .returned (.string (mt K ByteArray.empty)) ∧ Below w.heap.size w w' := by
  go_enter Tryz.func113, Tryz.ntmps113
  go_wp2_with fail
  go_loopw [0, 3] (fun i o wr => ∃ (j : Nat) (s : ByteArray), j ≤ K ∧ i = .int .i64 j ∧ o = .string s ∧ s.size ≤ 8 ∧ Hid (j * 10 ^ s.size ≤ K) ∧ Hid (mt j s = mt K ByteArray.empty) ∧ Below w.heap.size w wr) (fun i _ _ => (intOf i).toNat)
  case atStart => exact ⟨K, ByteArray.empty, Nat.le_refl _, rfl, rfl, by simp, by show K * 10 ^ 0 ≤ K; omega, rfl, Below.refl _ _⟩
  case round =>
    obtain ⟨j, s, hj, rfl, rfl, hs, hd, hm, hb⟩ := hrel
    by_cases hp : 0 < j
    · have hsz := hb.size
      have h6 := digits_small hp (unhide hd) hK
      have D := hide (digits_step (unhide hd))
      have M := hide ((mt_step s (by omega)).symm.trans (unhide hm))
      have hc := fun x => conv_one (w := wr) (x := x)
      have hz1 : (strOfNums [(48 + (j : Int) % 10)]).size = 1 := str_size _
      have hz2 : (strOfNums [(48 + (j : Int) % 10)] ++ s).size = s.size + 1 := by rw [ByteArray.size_append, hz1]; omega
      go_wp2_with fail
      go_roundw
      case rel => exact ⟨j / 10, _, by omega, by go_num, rfl, by omega, by rw [hz2]; exact unhide D, unhide M, hb.alloc hsz _⟩
      case measure => simp [intOf]; omega
    · obtain rfl : j = 0 := by omega
      have M := hide ((mt_zero s).symm.trans (unhide hm))
      go_wp2_with fail
      go_ret
      exact ⟨by rw [← unhide M]; rfl, hb⟩

theorem markText_at (K : Nat) (x : Int) (w : World) (hx : x = K) (h0 : 0 < K) (hK : K ≤ 9999999) :
    Calls Tryz.prog 113 #[.int .i64 x] w fun e w' => e = .returned (.string (mt K ByteArray.empty)) ∧ Below w.heap.size w w' := by
  subst hx; exact markText_any K w h0 hK

end Go.Proofs.YtcflepnckjappaaGreat

namespace Go.Proofs.YtcflepnckjappaaGreat
open Go.RowKit

def markV (k0 i : Nat) : VerD := ⟨mt (k0 + 4 * i) ByteArray.empty, ((k0 + 4 * i + 1 : Nat) : Int), mt (k0 + 4 * i + 2) ByteArray.empty, decide ((k0 + 4 * i + 3) % 3 = 0)⟩
def markVs (k0 n : Nat) : List VerD := (List.range n).map (markV k0)
theorem markVs_len (k0 n : Nat) : (markVs k0 n).length = n := by simp [markVs]
set_option maxRecDepth 100000 in
set_option maxHeartbeats 4000000 in
theorem markVersionS_some (B g n c k0 : Nat) (ds : List VerD) (w : World) (hp : 0 < k0) (hn : 4 * n + k0 ≤ 9999990) (h1 : VOwns w B (.slice (some ⟨g, 0, none⟩) n c) ds) :
    Calls Tryz.prog 103 #[.slice (some ⟨g, 0, none⟩) n c, .int .i64 k0] w fun e w' => e = .returned (.int .i64 (k0 + 4 * n)) ∧ VOwns w' B (.slice (some ⟨g, 0, none⟩) n c) (markVs k0 n) ∧ w.grownBy w' (some g) := by
  have L := hide (vrow_of_owns h1).1
  have H := hide h1
  clear h1
  go_enter Tryz.func103, Tryz.ntmps103
  go_wp2_with fail
  go_loopw [1, 5] (fun q i wr => ∃ k : Nat, k ≤ n ∧ i = .int .i64 k ∧ q = .int .i64 (k0 + 4 * k) ∧ Hid (VOwns wr B (.slice (some ⟨g, 0, none⟩) n c) (markVs k0 k ++ ds.drop k)) ∧ Hid (w.grownBy wr (some g))) (fun _ i _ => n - (intOf i).toNat)
  case atStart => exact ⟨0, Nat.zero_le _, rfl, by simp, unhide H, rb_grownBy_below (Below.refl _ _)⟩
  case round =>
    clear H
    obtain ⟨k, hk, rfl, rfl, hB, hw⟩ := hrel
    by_cases hlt : k < n
    · have hke : k < ds.length := by have := unhide L; omega
      have hlx : k < (markVs k0 k ++ ds.drop k).length := by rw [List.length_append, markVs_len, List.length_drop]; omega
      have SM := hide (show (markVs k0 k ++ ds.drop k).set k (markV k0 k) = markVs k0 (k + 1) ++ ds.drop (k + 1) from rb_set_mark (markV k0) ds k hke)
      have HXN := hide (vrow_of_owns (unhide hB)).1
      have O0 := hide (show wr.ownsRow B 51 4 (.slice (some ⟨g, 0, none⟩) n c) n (vcs (markVs k0 k ++ ds.drop k)) by have := unhide hB; unfold VOwns at this; rwa [unhide HXN] at this)
      generalize markVs k0 k ++ ds.drop k = xs at *
      have G0 := hw
      clear hB hw
      go_wp2_with fail
      refine (markText_at (k0 + 4 * k) _ wr (by omega) (by omega) (by omega)).mono ?_
      rintro e w10 ⟨rfl, hb0⟩
      replace O0 := hide (rb_ownsRow_below (unhide O0) hb0)
      replace G0 := hide (rb_grown_trans (unhide G0) (rb_grownBy_below hb0))
      clear hb0
      generalize hm0 : mt (k0 + 4 * k) ByteArray.empty = t0 at *
      obtain ⟨u0, e0⟩ := rb_ownsRow_some (unhide O0) (j := k * 4) (by omega)
      have f0 := (unhide O0).frozenAt (k * 4)
      obtain ⟨o0, g0⟩ := World.ownsRow.stored (unhide O0) (k * 4) (.string t0)
      have O1 := hide o0
      have G1 := hide (rb_grown_trans (unhide G0) g0)
      clear o0 g0 O0 G0
      obtain ⟨u1, e1⟩ := rb_ownsRow_some (unhide O1) (j := k * 4 + 1) (by omega)
      have f1 := (unhide O1).frozenAt (k * 4 + 1)
      obtain ⟨o1, g1⟩ := World.ownsRow.stored (unhide O1) (k * 4 + 1) (.int .i64 (k0 + 4 * k + 1))
      have O2 := hide o1
      have G2 := hide (rb_grown_trans (unhide G1) g1)
      clear o1 g1 O1 G1
      go_wp2_with fail
      generalize w10.setCell ⟨g, k * 4, none⟩ (.string t0) = w100 at *
      generalize w100.setCell ⟨g, k * 4 + 1, none⟩ (.int .i64 (k0 + 4 * k + 1)) = w101 at *
      clear e0 f0
      clear e1 f1
      refine (markText_at (k0 + 4 * k + 2) _ w101 (by omega) (by omega) (by omega)).mono ?_
      rintro e w12 ⟨rfl, hb2⟩
      replace O2 := hide (rb_ownsRow_below (unhide O2) hb2)
      replace G2 := hide (rb_grown_trans (unhide G2) (rb_grownBy_below hb2))
      clear hb2
      generalize hm2 : mt (k0 + 4 * k + 2) ByteArray.empty = t2 at *
      obtain ⟨u2, e2⟩ := rb_ownsRow_some (unhide O2) (j := k * 4 + 2) (by omega)
      have f2 := (unhide O2).frozenAt (k * 4 + 2)
      obtain ⟨o2, g2⟩ := World.ownsRow.stored (unhide O2) (k * 4 + 2) (.string t2)
      have O3 := hide o2
      have G3 := hide (rb_grown_trans (unhide G2) g2)
      clear o2 g2 O2 G2
      obtain ⟨u3, e3⟩ := rb_ownsRow_some (unhide O3) (j := k * 4 + 3) (by omega)
      have f3 := (unhide O3).frozenAt (k * 4 + 3)
      obtain ⟨o3, g3⟩ := World.ownsRow.stored (unhide O3) (k * 4 + 3) (.bool (decide (((k0 : Int) + 4 * k + 1 + 1 + 1) % 3 = 0)))
      have O4 := hide o3
      have G4 := hide (rb_grown_trans (unhide G3) g3)
      clear o3 g3 O3 G3
      have O9 := hide (show VOwns ((w12.setCell ⟨g, k * 4 + 2, none⟩ (.string t2)).setCell ⟨g, k * 4 + 3, none⟩ (.bool (decide (((k0 : Int) + 4 * k + 1 + 1 + 1) % 3 = 0)))) B (.slice (some ⟨g, 0, none⟩) n c) (markVs k0 (k + 1) ++ ds.drop (k + 1)) by
        rw [← unhide SM]
        unfold VOwns
        rw [vcs_set, List.length_set, unhide HXN]
        have := unhide O4
        have he1 : ((k0 + 4 * k + 1 : Nat) : Int) = (k0 : Int) + 4 * k + 1 := by omega
        have he3 : decide ((k0 + 4 * k + 3) % 3 = 0) = decide (((k0 : Int) + 4 * k + 1 + 1 + 1) % 3 = 0) := by rw [decide_eq_decide]; omega
        unfold markV
        simp only [hm0, he1, hm2, he3]
        exact this)
      clear O4
      go_wp2_with fail
      all_goals
        go_roundw
        case rel => exact ⟨k + 1, by omega, by go_num, by go_num, unhide O9, unhide G4⟩
        case measure => simp [intOf]; omega
    · obtain rfl : k = n := by omega
      have P := hide (show VOwns wr B (.slice (some ⟨g, 0, none⟩) k c) (markVs k0 k) by
        have := unhide hB
        rw [List.drop_of_length_le (by rw [unhide L]; exact Nat.le_refl _), List.append_nil] at this
        exact this)
      go_wp2_with fail
      go_ret
      exact ⟨rfl, unhide P, unhide hw⟩
theorem markVersionS_none (a : Option Addr) (c : Nat) (k0 : Int) (w : World) :
    Calls Tryz.prog 103 #[.slice a 0 c, .int .i64 k0] w fun e w' => e = .returned (.int .i64 k0) ∧ w' = w := by
  go_enter Tryz.func103, Tryz.ntmps103
  go_wp2_with fail
  refine wp_loop_rounds 1 ?_
  rw [rounds_succ]
  go_wp2_with fail
  go_ret
  exact ⟨rfl, rfl⟩
theorem markVersionS_any (B : Nat) (a : Option Addr) (n c k0 : Nat) (ds : List VerD) (w : World) (hp : 0 < k0) (hn : 4 * n + k0 ≤ 9999990) (h1 : VOwns w B (.slice a n c) ds) :
    Calls Tryz.prog 103 #[.slice a n c, .int .i64 k0] w fun e w' => e = .returned (.int .i64 ((k0 + 4 * n : Nat) : Int)) ∧ VOwns w' B (.slice a n c) (markVs k0 n) ∧ w.grownBy w' (Value.slice a n c).ownBlock := by
  rcases h1.2 with ⟨e, hl⟩ | ⟨g, cap, cur, e, _⟩
  · injection e with e1 e2 e3
    subst e1 e2 e3
    refine (markVersionS_none none 0 k0 w).mono ?_
    rintro e w' ⟨rfl, rfl⟩
    exact ⟨by simp, World.ownsRow_nil _ _ _ _, rb_grownBy_below (Below.refl _ _)⟩
  · injection e with e1 e2 e3
    subst e1 e2 e3
    refine (markVersionS_some B g _ _ k0 ds w hp hn h1).mono ?_
    rintro e w' ⟨rfl, h2, h3⟩
    exact ⟨by simp, h2, h3⟩
end Go.Proofs.YtcflepnckjappaaGreat

namespace Go.Proofs.YtcflepnckjappaaGreat
open Go.RowKit

abbrev verMk (k n : Nat) : List VerD := markVs k n
theorem verMk_len (k n : Nat) : (verMk k n).length = n := markVs_len k n
theorem markVersionS_own (B : Nat) (a : Option Addr) (n c k0 : Nat) (d : List VerD) (w : World) (hn : 0 < k0 ∧ 4 * n + k0 ≤ 9999990) (hd : d.length = n) (h1 : w.ownsRow B 51 4 (.slice a n c) n (vcs d)) :
    Calls Tryz.prog 103 #[.slice a n c, .int .i64 (k0 : Int)] w fun e w' => e = .returned (.int .i64 ((k0 + 4 * n : Nat) : Int)) ∧ w'.ownsRow B 51 4 (.slice a n c) n (vcs (verMk k0 n)) ∧ WrB (fun i => (Value.slice a n c).ownBlock = some i) w w' := by
  subst hd
  refine (markVersionS_any B a _ c k0 d w hn.1 hn.2 h1).mono ?_
  rintro e w' ⟨rfl, h2, h3⟩
  refine ⟨rfl, ?_, WrB.of_grown h3⟩
  have h := h2
  unfold VOwns at h
  rwa [markVs_len] at h
end Go.Proofs.YtcflepnckjappaaGreat

namespace Go.Proofs.YtcflepnckjappaaGreat
open Go.RowKit

def seMkX (k : Nat) (X : SesD) : SesD := ⟨decide (((k : Int)) % 3 = 0), (k : Int) + 1, verMk (k + 2) (X.ws.length)⟩
def seMk (k : Nat) (h : SeH) : SeH := ⟨seMkX k h.X, h.s0⟩
def seCnt (h : SeH) : Nat := 2 + 4 * h.X.ws.length
theorem seown_n {w : World} {B t s n m : Nat} {a : Option Addr} {c : Nat} {cs : List Value} (h : w.ownsRow B t s (.slice a n c) m cs) : n = m := by
  rcases h.2 with ⟨e, rfl⟩ | ⟨g, cap, cur, e, _⟩
  · injection e
  · injection e
set_option maxRecDepth 100000 in
set_option maxHeartbeats 4000000 in
theorem markSessionS_some (B g n c k0 : Nat) (hs : List SeH) (w : World) (_hp : 0 < k0) (hk0 : kG seCnt k0 hs ≤ 9999990) (h1 : NOwn w B 212 3 (.slice (some ⟨g, 0, none⟩) n c) n (hs.map seEl)) :
    Calls Tryz.prog 105 #[.slice (some ⟨g, 0, none⟩) n c, .int .i64 (k0 : Int)] w fun e w' => e = .returned (.int .i64 ((kG seCnt k0 hs : Nat) : Int)) ∧ NOwn w' B 212 3 (.slice (some ⟨g, 0, none⟩) n c) n ((mkG seCnt seMk k0 hs).map seEl) ∧ WrB (NBl (.slice (some ⟨g, 0, none⟩) n c) (hs.map seEl)) w w' := by
  have L := hide (show hs.length = n by have := h1.len; simpa using this)
  have H := hide h1
  have KT := hide (fun j => Nat.le_trans (kG_take seCnt k0 hs j) hk0)
  have KM := hide (fun j => kG_mono seCnt k0 (hs.take j))
  have hnb : n ≤ maxLen := by
    rcases h1.row.2 with ⟨e, _⟩ | ⟨_, cap, _, e, _, _, h1, h2, _⟩
    · cases e
    · omega
  unfold maxLen at hnb
  clear h1
  go_enter Tryz.func105, Tryz.ntmps105
  go_wp2_with fail
  go_loopw [1, 5] (fun q i wr => ∃ j : Nat, j ≤ n ∧ i = .int .i64 j ∧ q = .int .i64 ((kG seCnt k0 (hs.take j) : Nat) : Int) ∧ Hid (NOwn wr B 212 3 (.slice (some ⟨g, 0, none⟩) n c) n ((haG seCnt seMk k0 hs j).map seEl)) ∧ Hid (WrB (NBl (.slice (some ⟨g, 0, none⟩) n c) (hs.map seEl)) w wr)) (fun _ i _ => n - (intOf i).toNat)
  case atStart => exact ⟨0, Nat.zero_le _, rfl, by simp [kG], unhide H, WrB.same _ _⟩
  case round =>
    clear H
    obtain ⟨j, hj, rfl, rfl, hI, hw⟩ := hrel
    by_cases hlt : j < n
    · have hjl : j < hs.length := by rw [unhide L]; exact hlt
      have hkb := unhide KT (j + 1)
      rw [rb_take_snoc hs j hjl, kG_snoc] at hkb
      have hkm := unhide KM j
      have HKK := hide (show kG seCnt k0 (hs.take (j + 1)) = kG seCnt k0 (hs.take j) + seCnt hs[j] by rw [rb_take_snoc hs j hjl, kG_snoc])
      have hjh : j < ((haG seCnt seMk k0 hs j).map seEl).length := by rw [List.length_map, haG_len _ _ _ _ _ (by omega)]; exact hjl
      have EJ := hide (show ((haG seCnt seMk k0 hs j).map seEl)[j]? = some (seEl hs[j]) by rw [List.getElem?_map, haG_at seCnt seMk hjl]; rfl)
      have FIN := hide (show (haG seCnt seMk k0 hs (j + 1)).map seEl = ((haG seCnt seMk k0 hs j).map seEl).set j (seEl (seMk (kG seCnt k0 (hs.take j)) hs[j])) by rw [haG_step seCnt seMk hjl, List.map_set])
      have BL := hide (show ∀ i a y, (seEl hs[j]).sb[a]? = some y → y.v.ownBlock = some i → NBl (.slice (some ⟨g, 0, none⟩) n c) (hs.map seEl) i from fun i a y hy hi => .inr ⟨j, a, y, by unfold sbAt; rw [seEl_at hjl]; exact hy, hi⟩)
      obtain ⟨EE, hEE⟩ : ∃ E, E = seEl (seMk (kG seCnt k0 (hs.take j)) hs[j]) := ⟨_, rfl⟩
      obtain ⟨CC, hCC⟩ : ∃ C, C = seCnt hs[j] := ⟨_, rfl⟩
      rw [← hEE] at FIN
      rw [← hCC] at hkb HKK
      generalize hES : (haG seCnt seMk k0 hs j).map seEl = es at *
      clear hES
      generalize kG seCnt k0 (hs.take j) = K at *
      generalize hs[j] = pd at *
      obtain ⟨X, ⟨a0, n0, c0⟩⟩ := pd
      unfold seEl seMk seMkX at hEE
      unfold seCnt at hCC
      have EJ' := hide (show es[j]? = some ⟨[.bool X.o, .int .i64 X.t, .slice a0 n0 c0], [⟨51, 4, X.ws.length, .slice a0 n0 c0, vcs X.ws⟩]⟩ from unhide EJ)
      have BL' := hide (show ∀ (i a : Nat) (y : Sb), ([⟨51, 4, X.ws.length, .slice a0 n0 c0, vcs X.ws⟩] : List Sb)[a]? = some y → y.v.ownBlock = some i → NBl (.slice (some ⟨g, 0, none⟩) n c) (hs.map seEl) i from unhide BL)
      clear EJ BL
      have EJ := EJ'
      have BL := BL'
      clear EJ' BL'
      simp only at hEE hCC
      obtain ⟨bk, hbk⟩ : ∃ b, b = decide ((K : Int) % 3 = 0) := ⟨_, rfl⟩
      have bq : ((K : Int) % 3 == 0) = bk := by rw [hbk]; rfl
      rw [← hbk] at hEE
      clear hbk
      obtain rfl : n0 = X.ws.length := seown_n ((unhide hI).dat j 0 _ (by unfold sbAt; rw [unhide EJ]; rfl))
      have O0 := hide (show NOwn wr B 212 3 (.slice (some ⟨g, 0, none⟩) n c) n (es.set j ⟨[.bool X.o, .int .i64 X.t, .slice a0 (X.ws.length) c0], [⟨51, 4, X.ws.length, .slice a0 (X.ws.length) c0, vcs X.ws⟩]⟩) from by
        obtain ⟨hl, he⟩ := List.getElem?_eq_some_iff.1 (unhide EJ)
        rw [← he, List.set_getElem_self]
        exact unhide hI)
      generalize hn0 : X.ws.length = n0 at *
      have HN0 := hide hn0
      clear hn0
      generalize X.ws = D0 at *
      generalize X.o = x0 at *
      generalize X.t = x1 at *
      have HEE := hide hEE
      have HCC := hide hCC
      rw [hCC] at hkb
      clear hEE hCC
      have G0 := hw
      clear hI hw EJ
      have e0 : wr.cell? ⟨g, j * 3, none⟩ = some (.bool x0) := (unhide O0).cell (i := j) (j := 0) (List.getElem?_set_self hjh) rfl
      have f0 := (unhide O0).free (j * 3)
      have P0 := (unhide O0).setHd (i := j) (j := 0) (List.getElem?_set_self hjh) (by decide) (.bool bk)
      rw [List.set_set] at P0
      have O1 := hide (show NOwn (wr.setCell ⟨g, j * 3, none⟩ (.bool bk)) B 212 3 (.slice (some ⟨g, 0, none⟩) n c) n (es.set j ⟨[.bool bk, .int .i64 x1, .slice a0 n0 c0], [⟨51, 4, n0, .slice a0 n0 c0, vcs D0⟩]⟩) from P0.1)
      replace G0 := hide ((unhide G0).seq (show WrB _ wr (wr.setCell ⟨g, j * 3, none⟩ (.bool bk)) from P0.2.weak (fun i hi => .inl (by rw [hi]; rfl))))
      clear P0 O0
      have e1 : (wr.setCell ⟨g, j * 3, none⟩ (.bool bk)).cell? ⟨g, j * 3 + 1, none⟩ = some (.int .i64 x1) := (unhide O1).cell (i := j) (j := 1) (List.getElem?_set_self hjh) rfl
      have f1 := (unhide O1).free (j * 3 + 1)
      have P1 := (unhide O1).setHd (i := j) (j := 1) (List.getElem?_set_self hjh) (by decide) (.int .i64 ((K : Int) + 1))
      rw [List.set_set] at P1
      have O2 := hide (show NOwn ((wr.setCell ⟨g, j * 3, none⟩ (.bool bk)).setCell ⟨g, j * 3 + 1, none⟩ (.int .i64 ((K : Int) + 1))) B 212 3 (.slice (some ⟨g, 0, none⟩) n c) n (es.set j ⟨[.bool bk, .int .i64 ((K : Int) + 1), .slice a0 n0 c0], [⟨51, 4, n0, .slice a0 n0 c0, vcs D0⟩]⟩) from P1.1)
      replace G0 := hide ((unhide G0).seq (show WrB _ (wr.setCell ⟨g, j * 3, none⟩ (.bool bk)) ((wr.setCell ⟨g, j * 3, none⟩ (.bool bk)).setCell ⟨g, j * 3 + 1, none⟩ (.int .i64 ((K : Int) + 1))) from P1.2.weak (fun i hi => .inl (by rw [hi]; rfl))))
      clear P1 O1
      have HM := hide (show NOwn ((wr.setCell ⟨g, j * 3, none⟩ (.bool bk)).setCell ⟨g, j * 3 + 1, none⟩ (.int .i64 ((K : Int) + 1))) B 212 3 (.slice (some ⟨g, 0, none⟩) n c) n (es.set j ⟨[.bool bk, .int .i64 ((K : Int) + 1), .slice a0 n0 c0], [⟨51, 4, n0, .slice a0 n0 c0, vcs D0⟩]⟩) from unhide O2)
      clear O2
      have y0 : ((wr.setCell ⟨g, j * 3, none⟩ (.bool bk)).setCell ⟨g, j * 3 + 1, none⟩ (.int .i64 ((K : Int) + 1))).cell? ⟨g, j * 3 + 2, none⟩ = some (.slice a0 n0 c0) := (unhide HM).cell (i := j) (j := 2) (List.getElem?_set_self hjh) rfl
      have C0 := hide (markVersionS_own B a0 n0 c0 (K + 2) D0 ((wr.setCell ⟨g, j * 3, none⟩ (.bool bk)).setCell ⟨g, j * 3 + 1, none⟩ (.int .i64 ((K : Int) + 1))) (by omega) (unhide HN0) ((unhide HM).dat j 0 _ (by unfold sbAt; rw [List.getElem?_set_self hjh]; rfl)))
      rw [show ((K + 2 : Nat) : Int) = (K : Int) + 1 + 1 by omega] at C0
      go_wp2_with fail
      generalize ((wr.setCell ⟨g, j * 3, none⟩ (.bool bk)).setCell ⟨g, j * 3 + 1, none⟩ (.int .i64 ((K : Int) + 1))) = u1 at *
      clear e0 f0
      clear e1 f1
      clear y0
      refine (unhide C0).mono ?_
      rintro e v0 ⟨rfl, ho, hw2⟩
      have Q := (unhide HM).setSb (i := j) (a := 0) (List.getElem?_set_self hjh) rfl (x' := ⟨51, 4, n0, .slice a0 n0 c0, vcs (verMk (K + 2) n0)⟩) rfl ho hw2
      rw [List.set_set] at Q
      replace HM := hide (show NOwn v0 B 212 3 (.slice (some ⟨g, 0, none⟩) n c) n (es.set j ⟨[.bool bk, .int .i64 ((K : Int) + 1), .slice a0 n0 c0], [⟨51, 4, n0, .slice a0 n0 c0, vcs (verMk (K + 2) n0)⟩]⟩) from Q)
      replace G0 := hide ((unhide G0).seq (hw2.weak (fun i hi => unhide BL i 0 _ rfl hi)))
      clear Q ho hw2 C0
      have R := hide (show NOwn v0 B 212 3 (.slice (some ⟨g, 0, none⟩) n c) n ((haG seCnt seMk k0 hs (j + 1)).map seEl) from by
        rw [unhide FIN, unhide HEE]
        have h := unhide HM
        simp only [verMk_len]
        exact h)
      have KE := hide (show ((K + 2 + 4 * n0 : Nat) : Int) = ((kG seCnt k0 (hs.take (j + 1)) : Nat) : Int) by rw [unhide HKK, unhide HCC];  omega)
      clear HM FIN BL HKK HEE HCC
      go_wp2_with fail
      go_roundw
      case rel => exact ⟨j + 1, by omega, by go_num, by rw [← unhide KE]; go_num, unhide R, unhide G0⟩
      case measure => simp [intOf]; omega
    · obtain rfl : j = n := by omega
      have Z := hide (show NOwn wr B 212 3 (.slice (some ⟨g, 0, none⟩) j c) j ((mkG seCnt seMk k0 hs).map seEl) by
        have h := unhide hI
        rwa [← unhide L, haG_all, unhide L] at h)
      have ZK := hide (show kG seCnt k0 (hs.take j) = kG seCnt k0 hs by rw [List.take_of_length_le (by rw [unhide L]; exact Nat.le_refl _)])
      go_wp2_with fail
      go_ret
      exact ⟨ret_int (by rw [unhide ZK]), unhide Z, unhide hw⟩
theorem markSessionS_nil (k0 : Int) (w : World) : Calls Tryz.prog 105 #[.slice none 0 0, .int .i64 k0] w fun e w' => e = .returned (.int .i64 k0) ∧ w' = w := by
  go_enter Tryz.func105, Tryz.ntmps105
  go_wp2_with fail
  refine wp_loop_rounds 1 ?_
  rw [rounds_succ]
  go_wp2_with fail
  go_ret
  exact ⟨rfl, rfl⟩
theorem markSessionS_any (B : Nat) (a : Option Addr) (n c k0 : Nat) (hs : List SeH) (w : World) (_hp : 0 < k0) (hk0 : kG seCnt k0 hs ≤ 9999990) (h1 : NOwn w B 212 3 (.slice a n c) n (hs.map seEl)) :
    Calls Tryz.prog 105 #[.slice a n c, .int .i64 (k0 : Int)] w fun e w' => e = .returned (.int .i64 ((kG seCnt k0 hs : Nat) : Int)) ∧ NOwn w' B 212 3 (.slice a n c) n ((mkG seCnt seMk k0 hs).map seEl) ∧ WrB (NBl (.slice a n c) (hs.map seEl)) w w' := by
  rcases h1.row.2 with ⟨e, hl⟩ | ⟨g, cap, cur, e, _⟩
  · injection e with e1 e2 e3
    subst e1 e2 e3
    obtain rfl : hs = [] := by have := h1.len; simpa using this
    refine (markSessionS_nil k0 w).mono ?_
    rintro e w' ⟨rfl, rfl⟩
    exact ⟨rfl, h1, WrB.same _ _⟩
  · injection e with e1 e2 e3
    subst e1
    exact markSessionS_some B g n c k0 hs w _hp hk0 h1
end Go.Proofs.YtcflepnckjappaaGreat

namespace Go.Proofs.YtcflepnckjappaaGreat
open Go.RowKit

set_option maxRecDepth 100000 in
set_option maxHeartbeats 4000000 in
theorem heldVersionS_any (a : Option Addr) (n c k0 : Nat) (w : World) (hp : 0 < k0) (hn : 4 * n + k0 ≤ 9999990) (h1 : VRow w a n (markVs k0 n)) :
    Calls Tryz.prog 106 #[.slice a n c, .int .i64 k0] w fun e w' => e = .returned (.int .i64 ((k0 + 4 * n : Nat) : Int)) ∧ Below w.heap.size w w' := by
  have H := hide h1
  clear h1
  go_enter Tryz.func106, Tryz.ntmps106
  go_wp2_with fail
  go_loopw [1, 5] (fun q i wr => ∃ k : Nat, k ≤ n ∧ i = .int .i64 k ∧ q = .int .i64 (k0 + 4 * k) ∧ Below w.heap.size w wr) (fun _ i _ => n - (intOf i).toNat)
  case atStart => exact ⟨0, Nat.zero_le _, rfl, by simp, Below.refl _ _⟩
  case round =>
    obtain ⟨k, hk, rfl, rfl, hb⟩ := hrel
    by_cases hlt : k < n
    · have hk2 : k < (markVs k0 n).length := by rw [markVs_len]; exact hlt
      have em : (markVs k0 n)[k] = markV k0 k := by simp [markVs]
      obtain ⟨b, off, rfl, d0, d1, d2, d3⟩ := ((unhide H).below hb).2 k hk2
      rw [em] at d0 d1 d2 d3
      unfold markV at d0 d1 d2 d3
      simp only at d0 d1 d2 d3
      have hsz := hb.size
      have hbw : b < wr.heap.size := cell_lt d0
      have e1 : ((k0 + 4 * k + 1 : Nat) : Int) = (k0 : Int) + 4 * k + 1 := by omega
      have e3 : decide ((k0 + 4 * k + 3) % 3 = 0) = decide (((k0 : Int) + 4 * k + 1 + 1 + 1) % 3 = 0) := by rw [decide_eq_decide]; omega
      rw [e1] at d1
      rw [e3] at d3
      have D1 := hide (show ∀ w', Below wr.heap.size wr w' → w'.cell? ⟨b, off + k * 4 + 1, none⟩ = some (.int .i64 ((k0 : Int) + 4 * k + 1)) ∧ w'.cell? ⟨b, off + k * 4 + 2, none⟩ = some (.string (mt (k0 + 4 * k + 2) ByteArray.empty)) ∧ w'.cell? ⟨b, off + k * 4 + 3, none⟩ = some (.bool (decide (((k0 : Int) + 4 * k + 1 + 1 + 1) % 3 = 0))) ∧ w'.cell? ⟨b, off + k * 4, none⟩ = some (.string (mt (k0 + 4 * k) ByteArray.empty)) ∧ b < w'.heap.size from fun w' hb' => ⟨(hb'.cell (p := ⟨b, off + k * 4 + 1, none⟩) hbw).trans d1, (hb'.cell (p := ⟨b, off + k * 4 + 2, none⟩) hbw).trans d2, (hb'.cell (p := ⟨b, off + k * 4 + 3, none⟩) hbw).trans d3, (hb'.cell (p := ⟨b, off + k * 4, none⟩) hbw).trans d0, by have := hb'.size; omega⟩)
      clear em d1 d2 d3 e1 e3
      go_wp2_with fail
      go_region_with (go_at_call 113; refine (markText_at (k0 + 4 * k) _ _ (by omega) (by omega) (by omega)).mono ?_; rintro e w2 ⟨rfl, hb2⟩; replace hb2 : Below wr.heap.size wr w2 := (by first | exact hb2 | exact rb_bel_of_drew hb2 | exact rb_bel_of_drewN hb2); obtain ⟨x1, x2, x3, x0, hbx⟩ := unhide D1 w2 hb2)
      all_goals
        have bA : Below w.heap.size w w2 := hb.trans (hb2.mono hsz)
        have hs2 := bA.size
        have D2 := hide (show ∀ w', Below w2.heap.size w2 w' → w'.cell? ⟨b, off + k * 4 + 2, none⟩ = some (.string (mt (k0 + 4 * k + 2) ByteArray.empty)) ∧ w'.cell? ⟨b, off + k * 4 + 3, none⟩ = some (.bool (decide (((k0 : Int) + 4 * k + 1 + 1 + 1) % 3 = 0))) from fun w' hb' => ⟨(hb'.cell (p := ⟨b, off + k * 4 + 2, none⟩) hbx).trans x2, (hb'.cell (p := ⟨b, off + k * 4 + 3, none⟩) hbx).trans x3⟩)
        clear hb hb2 d0 x0 x3 D1
        generalize mt (k0 + 4 * k) ByteArray.empty = t0 at *
        go_wp2_with fail
        go_region_with (go_at_call 113; refine (markText_at (k0 + 4 * k + 2) _ _ (by omega) (by omega) (by omega)).mono ?_; rintro e w3 ⟨rfl, hb3⟩; replace hb3 : Below w2.heap.size w2 w3 := (by first | exact hb3 | exact rb_bel_of_drew hb3 | exact rb_bel_of_drewN hb3); obtain ⟨y2, y3⟩ := unhide D2 w3 hb3)
        all_goals
          have bB : Below w.heap.size w w3 := bA.trans (hb3.mono hs2)
          clear bA hb3 D2 x1 x2
          generalize mt (k0 + 4 * k + 2) ByteArray.empty = t1 at *
          by_cases h3 : ((k0 : Int) + 4 * k + 1 + 1 + 1) % 3 = 0
          · rw [decide_eq_true h3] at y3
            go_wp2_with fail
            go_roundw
            case rel => exact ⟨k + 1, by omega, by go_num, by go_num, bB⟩
            case measure => simp [intOf]; omega
          · rw [decide_eq_false h3] at y3
            go_wp2_with fail
            go_roundw
            case rel => exact ⟨k + 1, by omega, by go_num, by go_num, bB⟩
            case measure => simp [intOf]; omega
    · obtain rfl : k = n := by omega
      go_wp2_with fail
      go_ret
      exact ⟨by simp, hb⟩
end Go.Proofs.YtcflepnckjappaaGreat

namespace Go.Proofs.YtcflepnckjappaaGreat
open Go.RowKit

def markF (k0 i : Nat) : FenD := ⟨mt (k0 + 3 * i) ByteArray.empty, mt (k0 + 3 * i + 1) ByteArray.empty, ((k0 + 3 * i + 2 : Nat) : Int)⟩
def markFs (k0 n : Nat) : List FenD := (List.range n).map (markF k0)
theorem markFs_len (k0 n : Nat) : (markFs k0 n).length = n := by simp [markFs]
set_option maxRecDepth 100000 in
set_option maxHeartbeats 4000000 in
theorem markFenceS_some (B g n c k0 : Nat) (ds : List FenD) (w : World) (hp : 0 < k0) (hn : 3 * n + k0 ≤ 9999990) (h1 : FOwns w B (.slice (some ⟨g, 0, none⟩) n c) ds) :
    Calls Tryz.prog 104 #[.slice (some ⟨g, 0, none⟩) n c, .int .i64 k0] w fun e w' => e = .returned (.int .i64 (k0 + 3 * n)) ∧ FOwns w' B (.slice (some ⟨g, 0, none⟩) n c) (markFs k0 n) ∧ w.grownBy w' (some g) := by
  have L := hide (frow_of_owns h1).1
  have H := hide h1
  clear h1
  go_enter Tryz.func104, Tryz.ntmps104
  go_wp2_with fail
  go_loopw [1, 5] (fun q i wr => ∃ k : Nat, k ≤ n ∧ i = .int .i64 k ∧ q = .int .i64 (k0 + 3 * k) ∧ Hid (FOwns wr B (.slice (some ⟨g, 0, none⟩) n c) (markFs k0 k ++ ds.drop k)) ∧ Hid (w.grownBy wr (some g))) (fun _ i _ => n - (intOf i).toNat)
  case atStart => exact ⟨0, Nat.zero_le _, rfl, by simp, unhide H, rb_grownBy_below (Below.refl _ _)⟩
  case round =>
    clear H
    obtain ⟨k, hk, rfl, rfl, hB, hw⟩ := hrel
    by_cases hlt : k < n
    · have hke : k < ds.length := by have := unhide L; omega
      have hlx : k < (markFs k0 k ++ ds.drop k).length := by rw [List.length_append, markFs_len, List.length_drop]; omega
      have SM := hide (show (markFs k0 k ++ ds.drop k).set k (markF k0 k) = markFs k0 (k + 1) ++ ds.drop (k + 1) from rb_set_mark (markF k0) ds k hke)
      have HXN := hide (frow_of_owns (unhide hB)).1
      have O0 := hide (show wr.ownsRow B 232 3 (.slice (some ⟨g, 0, none⟩) n c) n (fcs (markFs k0 k ++ ds.drop k)) by have := unhide hB; unfold FOwns at this; rwa [unhide HXN] at this)
      generalize markFs k0 k ++ ds.drop k = xs at *
      have G0 := hw
      clear hB hw
      go_wp2_with fail
      refine (markText_at (k0 + 3 * k) _ wr (by omega) (by omega) (by omega)).mono ?_
      rintro e w10 ⟨rfl, hb0⟩
      replace O0 := hide (rb_ownsRow_below (unhide O0) hb0)
      replace G0 := hide (rb_grown_trans (unhide G0) (rb_grownBy_below hb0))
      clear hb0
      generalize hm0 : mt (k0 + 3 * k) ByteArray.empty = t0 at *
      obtain ⟨u0, e0⟩ := rb_ownsRow_some (unhide O0) (j := k * 3) (by omega)
      have f0 := (unhide O0).frozenAt (k * 3)
      obtain ⟨o0, g0⟩ := World.ownsRow.stored (unhide O0) (k * 3) (.string t0)
      have O1 := hide o0
      have G1 := hide (rb_grown_trans (unhide G0) g0)
      clear o0 g0 O0 G0
      go_wp2_with fail
      generalize w10.setCell ⟨g, k * 3, none⟩ (.string t0) = w100 at *
      clear e0 f0
      refine (markText_at (k0 + 3 * k + 1) _ w100 (by omega) (by omega) (by omega)).mono ?_
      rintro e w11 ⟨rfl, hb1⟩
      replace O1 := hide (rb_ownsRow_below (unhide O1) hb1)
      replace G1 := hide (rb_grown_trans (unhide G1) (rb_grownBy_below hb1))
      clear hb1
      generalize hm1 : mt (k0 + 3 * k + 1) ByteArray.empty = t1 at *
      obtain ⟨u1, e1⟩ := rb_ownsRow_some (unhide O1) (j := k * 3 + 1) (by omega)
      have f1 := (unhide O1).frozenAt (k * 3 + 1)
      obtain ⟨o1, g1⟩ := World.ownsRow.stored (unhide O1) (k * 3 + 1) (.string t1)
      have O2 := hide o1
      have G2 := hide (rb_grown_trans (unhide G1) g1)
      clear o1 g1 O1 G1
      obtain ⟨u2, e2⟩ := rb_ownsRow_some (unhide O2) (j := k * 3 + 2) (by omega)
      have f2 := (unhide O2).frozenAt (k * 3 + 2)
      obtain ⟨o2, g2⟩ := World.ownsRow.stored (unhide O2) (k * 3 + 2) (.int .i64 (k0 + 3 * k + 1 + 1))
      have O3 := hide o2
      have G3 := hide (rb_grown_trans (unhide G2) g2)
      clear o2 g2 O2 G2
      have O9 := hide (show FOwns ((w11.setCell ⟨g, k * 3 + 1, none⟩ (.string t1)).setCell ⟨g, k * 3 + 2, none⟩ (.int .i64 (k0 + 3 * k + 1 + 1))) B (.slice (some ⟨g, 0, none⟩) n c) (markFs k0 (k + 1) ++ ds.drop (k + 1)) by
        rw [← unhide SM]
        unfold FOwns
        rw [fcs_set, List.length_set, unhide HXN]
        have := unhide O3
        have he2 : ((k0 + 3 * k + 2 : Nat) : Int) = (k0 : Int) + 3 * k + 1 + 1 := by omega
        unfold markF
        simp only [hm0, hm1, he2]
        exact this)
      clear O3
      go_wp2_with fail
      all_goals
        go_roundw
        case rel => exact ⟨k + 1, by omega, by go_num, by go_num, unhide O9, unhide G3⟩
        case measure => simp [intOf]; omega
    · obtain rfl : k = n := by omega
      have P := hide (show FOwns wr B (.slice (some ⟨g, 0, none⟩) k c) (markFs k0 k) by
        have := unhide hB
        rw [List.drop_of_length_le (by rw [unhide L]; exact Nat.le_refl _), List.append_nil] at this
        exact this)
      go_wp2_with fail
      go_ret
      exact ⟨rfl, unhide P, unhide hw⟩
theorem markFenceS_none (a : Option Addr) (c : Nat) (k0 : Int) (w : World) :
    Calls Tryz.prog 104 #[.slice a 0 c, .int .i64 k0] w fun e w' => e = .returned (.int .i64 k0) ∧ w' = w := by
  go_enter Tryz.func104, Tryz.ntmps104
  go_wp2_with fail
  refine wp_loop_rounds 1 ?_
  rw [rounds_succ]
  go_wp2_with fail
  go_ret
  exact ⟨rfl, rfl⟩
theorem markFenceS_any (B : Nat) (a : Option Addr) (n c k0 : Nat) (ds : List FenD) (w : World) (hp : 0 < k0) (hn : 3 * n + k0 ≤ 9999990) (h1 : FOwns w B (.slice a n c) ds) :
    Calls Tryz.prog 104 #[.slice a n c, .int .i64 k0] w fun e w' => e = .returned (.int .i64 ((k0 + 3 * n : Nat) : Int)) ∧ FOwns w' B (.slice a n c) (markFs k0 n) ∧ w.grownBy w' (Value.slice a n c).ownBlock := by
  rcases h1.2 with ⟨e, hl⟩ | ⟨g, cap, cur, e, _⟩
  · injection e with e1 e2 e3
    subst e1 e2 e3
    refine (markFenceS_none none 0 k0 w).mono ?_
    rintro e w' ⟨rfl, rfl⟩
    exact ⟨by simp, World.ownsRow_nil _ _ _ _, rb_grownBy_below (Below.refl _ _)⟩
  · injection e with e1 e2 e3
    subst e1 e2 e3
    refine (markFenceS_some B g _ _ k0 ds w hp hn h1).mono ?_
    rintro e w' ⟨rfl, h2, h3⟩
    exact ⟨by simp, h2, h3⟩
end Go.Proofs.YtcflepnckjappaaGreat

namespace Go.Proofs.YtcflepnckjappaaGreat
open Go.RowKit

set_option maxRecDepth 100000 in
set_option maxHeartbeats 4000000 in
theorem heldFenceS_any (a : Option Addr) (n c k0 : Nat) (w : World) (hp : 0 < k0) (hn : 3 * n + k0 ≤ 9999990) (h1 : FRow w a n (markFs k0 n)) :
    Calls Tryz.prog 107 #[.slice a n c, .int .i64 k0] w fun e w' => e = .returned (.int .i64 ((k0 + 3 * n : Nat) : Int)) ∧ Below w.heap.size w w' := by
  have H := hide h1
  clear h1
  go_enter Tryz.func107, Tryz.ntmps107
  go_wp2_with fail
  go_loopw [1, 5] (fun q i wr => ∃ k : Nat, k ≤ n ∧ i = .int .i64 k ∧ q = .int .i64 (k0 + 3 * k) ∧ Below w.heap.size w wr) (fun _ i _ => n - (intOf i).toNat)
  case atStart => exact ⟨0, Nat.zero_le _, rfl, by simp, Below.refl _ _⟩
  case round =>
    obtain ⟨k, hk, rfl, rfl, hb⟩ := hrel
    by_cases hlt : k < n
    · have hk2 : k < (markFs k0 n).length := by rw [markFs_len]; exact hlt
      have em : (markFs k0 n)[k] = markF k0 k := by simp [markFs]
      obtain ⟨b, off, rfl, d0, d1, d2⟩ := ((unhide H).below hb).2 k hk2
      rw [em] at d0 d1 d2
      unfold markF at d0 d1 d2
      simp only at d0 d1 d2
      have hsz := hb.size
      have hbw : b < wr.heap.size := cell_lt d0
      have e2 : ((k0 + 3 * k + 2 : Nat) : Int) = (k0 : Int) + 3 * k + 1 + 1 := by omega
      rw [e2] at d2
      have D1 := hide (show ∀ w', Below wr.heap.size wr w' → w'.cell? ⟨b, off + k * 3 + 1, none⟩ = some (.string (mt (k0 + 3 * k + 1) ByteArray.empty)) ∧ w'.cell? ⟨b, off + k * 3 + 2, none⟩ = some (.int .i64 ((k0 : Int) + 3 * k + 1 + 1)) ∧ w'.cell? ⟨b, off + k * 3, none⟩ = some (.string (mt (k0 + 3 * k) ByteArray.empty)) ∧ b < w'.heap.size from fun w' hb' => ⟨(hb'.cell (p := ⟨b, off + k * 3 + 1, none⟩) hbw).trans d1, (hb'.cell (p := ⟨b, off + k * 3 + 2, none⟩) hbw).trans d2, (hb'.cell (p := ⟨b, off + k * 3, none⟩) hbw).trans d0, by have := hb'.size; omega⟩)
      clear em d1 d2 e2
      go_wp2_with fail
      go_region_with (go_at_call 113; refine (markText_at (k0 + 3 * k) _ _ (by omega) (by omega) (by omega)).mono ?_; rintro e w2 ⟨rfl, hb2⟩; replace hb2 : Below wr.heap.size wr w2 := (by first | exact hb2 | exact rb_bel_of_drew hb2 | exact rb_bel_of_drewN hb2); obtain ⟨x1, x2, x0, hbx⟩ := unhide D1 w2 hb2)
      all_goals
        have bA : Below w.heap.size w w2 := hb.trans (hb2.mono hsz)
        have hs2 := bA.size
        have D2 := hide (show ∀ w', Below w2.heap.size w2 w' → w'.cell? ⟨b, off + k * 3 + 1, none⟩ = some (.string (mt (k0 + 3 * k + 1) ByteArray.empty)) ∧ w'.cell? ⟨b, off + k * 3 + 2, none⟩ = some (.int .i64 ((k0 : Int) + 3 * k + 1 + 1)) from fun w' hb' => ⟨(hb'.cell (p := ⟨b, off + k * 3 + 1, none⟩) hbx).trans x1, (hb'.cell (p := ⟨b, off + k * 3 + 2, none⟩) hbx).trans x2⟩)
        clear hb hb2 d0 x0 x2 D1
        generalize mt (k0 + 3 * k) ByteArray.empty = t0 at *
        go_wp2_with fail
        go_region_with (go_at_call 113; refine (markText_at (k0 + 3 * k + 1) _ _ (by omega) (by omega) (by omega)).mono ?_; rintro e w3 ⟨rfl, hb3⟩; replace hb3 : Below w2.heap.size w2 w3 := (by first | exact hb3 | exact rb_bel_of_drew hb3 | exact rb_bel_of_drewN hb3); obtain ⟨y1, y2⟩ := unhide D2 w3 hb3)
        all_goals
          have bB : Below w.heap.size w w3 := bA.trans (hb3.mono hs2)
          clear bA hb3 D2 x1
          generalize mt (k0 + 3 * k + 1) ByteArray.empty = t1 at *
          go_wp2_with fail
          go_roundw
          case rel => exact ⟨k + 1, by omega, by go_num, by go_num, bB⟩
          case measure => simp [intOf]; omega
    · obtain rfl : k = n := by omega
      go_wp2_with fail
      go_ret
      exact ⟨by simp, hb⟩
end Go.Proofs.YtcflepnckjappaaGreat

namespace Go.Proofs.YtcflepnckjappaaGreat
open Go.RowKit

abbrev seMh (k : Nat) (hs : List SeH) : List SeH := mkG seCnt seMk k hs
set_option maxRecDepth 100000 in
set_option maxHeartbeats 8000000 in
theorem heldSessionS_any (a : Option Addr) (n c k0 : Nat) (hs : List SeH) (w : World) (hp : 0 < k0) (hk0 : kG seCnt k0 hs ≤ 9999990) (h1 : SeIn w (.slice a n c) n (seMh k0 hs)) :
    Calls Tryz.prog 108 #[.slice a n c, .int .i64 (k0 : Int)] w fun e w' => e = .returned (.int .i64 ((kG seCnt k0 hs : Nat) : Int)) ∧ Below w.heap.size w w' := by
  have L := hide (show hs.length = n by have := h1.len; rw [List.length_map, mkG_len] at this; exact this)
  have H := hide h1
  have KT := hide (fun j => Nat.le_trans (kG_take seCnt k0 hs j) hk0)
  have KM := hide (fun j => kG_mono seCnt k0 (hs.take j))
  have hlen : n ≤ 9999990 := by
    have h := gd_sum_le (fun _ : SeH => 1) seCnt 0 hs (fun x _ => by show 1 ≤ seCnt x + 0; unfold seCnt; omega)
    have h2 : ∀ l : List SeH, (l.map (fun _ : SeH => 1)).sum = l.length := fun l => by
      induction l with
      | nil => rfl
      | cons x r ih => rw [List.map_cons, List.sum_cons, ih, List.length_cons, Nat.add_comm]
    have h4 := h2 hs
    have h3 := kG_sum seCnt k0 hs
    have := unhide L
    omega
  clear h1 hk0
  go_enter Tryz.func108, Tryz.ntmps108
  go_wp2_with fail
  go_loopw [1, 5] (fun q i wr => ∃ j : Nat, j ≤ n ∧ i = .int .i64 j ∧ q = .int .i64 ((kG seCnt k0 (hs.take j) : Nat) : Int) ∧ Below w.heap.size w wr) (fun _ i _ => n - (intOf i).toNat)
  case atStart => exact ⟨0, Nat.zero_le _, rfl, rfl, Below.refl _ _⟩
  case round =>
    obtain ⟨j, hj, rfl, rfl, hb⟩ := hrel
    by_cases hlt : j < n
    · have hjl : j < hs.length := by rw [unhide L]; exact hlt
      have hkb := unhide KT (j + 1)
      have hkm := unhide KM j
      have KS := hide (show kG seCnt k0 (hs.take (j + 1)) = kG seCnt k0 (hs.take j) + (2 + 4 * hs[j].X.ws.length) by rw [List.take_succ_eq_append_getElem hjl, kG_snoc]; rfl)
      rw [unhide KS] at hkb
      have hml : j < (seMh k0 hs).length := by rw [mkG_len]; exact hjl
      have em : (seMh k0 hs)[j] = seMk (kG seCnt k0 (hs.take j)) hs[j] := by
        have h := mkG_at seCnt seMk k0 hs j hjl
        rw [List.getElem?_eq_getElem hml] at h
        injection h
      have I := (unhide H).below hb
      obtain ⟨b, off, hab, hbl, c0, c1, c2⟩ := SeIn.cells I hml
      have r1 := SeIn.row I hml
      rw [em] at c0 c1 c2 r1
      have e1 : hs[j].s0.n = hs[j].X.ws.length := by
        have h := r1.1
        simp only [seMk, seMkX] at h
        rw [verMk_len] at h
        exact h.symm
      simp only [seMk, seMkX] at c0 c1 c2 r1
      rw [← e1] at r1 hkb KS
      generalize kG seCnt k0 (hs.take j) = K at *
      generalize hs[j] = x at *
      obtain ⟨X, ⟨sa, sn, sc⟩⟩ := x
      simp only at c2 r1 hkb KS e1
      subst hab
      have RV := hide r1
      have hsz := hb.size
      have HV := hide (heldVersionS_any sa sn sc (K + 2) wr (by omega) (by omega) r1)
      rw [show (((K + 2 : Nat) : Int)) = (K : Int) + 1 + 1 by omega] at HV
      clear em I r1 hml hjl e1
      by_cases h3 : (K : Int) % 3 = 0
      · rw [decide_eq_true h3] at c0
        go_wp2_with fail
        refine (unhide HV).mono ?_
        rintro e w4 ⟨rfl, hb4⟩
        have bE : Below w.heap.size w w4 := hb.trans (hb4.mono hsz)
        have hn2 : ¬ (((K + 2 + 4 * sn : Nat) : Int) < 0) := by omega
        clear hb4 HV c0 c1 c2
        go_wp2_with fail
        go_roundw
        case rel => exact ⟨j + 1, by omega, by go_num, by rw [unhide KS]; congr 2; omega, bE⟩
        case measure => simp [intOf]; omega
      · rw [decide_eq_false h3] at c0
        go_wp2_with fail
        refine (unhide HV).mono ?_
        rintro e w4 ⟨rfl, hb4⟩
        have bE : Below w.heap.size w w4 := hb.trans (hb4.mono hsz)
        have hn2 : ¬ (((K + 2 + 4 * sn : Nat) : Int) < 0) := by omega
        clear hb4 HV c0 c1 c2
        go_wp2_with fail
        go_roundw
        case rel => exact ⟨j + 1, by omega, by go_num, by rw [unhide KS]; congr 2; omega, bE⟩
        case measure => simp [intOf]; omega
    · obtain rfl : j = n := by omega
      have hE : hs.take j = hs := List.take_of_length_le (by rw [unhide L]; exact Nat.le_refl _)
      rw [hE]
      go_wp2_with fail
      go_ret
      exact ⟨rfl, hb⟩
end Go.Proofs.YtcflepnckjappaaGreat

namespace Go.Proofs.YtcflepnckjappaaGreat
open Go.RowKit

/-- The blocks of Versions. -/
def VzBl (l f s : Sl) (hs : List SeH) (i : Nat) : Prop := (Value.slice l.a l.n l.c).ownBlock = some i ∨ (Value.slice f.a f.n f.c).ownBlock = some i ∨ NBl (.slice s.a s.n s.c) (hs.map seEl) i
theorem VzOwn.lt {w : World} {B : Nat} {l f s : Sl} {hs : List SeH} {d : VsD} (h : VzOwn w B l f s hs d) (i : Nat) (hi : VzBl l f s hs i) : B ≤ i ∧ i < w.heap.size := by
  rcases hi with hi | hi | hi
  · exact h.vo.lt i hi
  · exact h.fo.lt i hi
  · exact h.so.lt i hi
/-- A row of another kind is no part of the sessions. -/
theorem nbl_so {w : World} {B C n m s t : Nat} {v u : Value} {cs : List Value} {hs : List SeH} (h : NOwn w B 212 3 v n (hs.map seEl)) (ho : w.ownsRow C t s u m cs) (h1 : t ≠ 212) (h2 : t ≠ 51) {i : Nat} (hi : u.ownBlock = some i) : ¬ NBl v (hs.map seEl) i := fun hb => by
  obtain ⟨cur, hc⟩ := own_kind ho hi
  obtain ⟨cur', T, hc', hT⟩ := nbl_se h hb
  rw [hc] at hc'
  injection hc' with hc'
  injection hc' with _ hc' _
  rcases hT with e | e
  · exact h1 (hc'.trans e)
  · exact h2 (hc'.trans e)
theorem nbl_sm {v : Value} {k : Nat} {hs : List SeH} {i : Nat} : NBl v ((seMh k hs).map seEl) i ↔ NBl v (hs.map seEl) i := by
  constructor
  · rintro (h | ⟨j, a, x, hx, hi⟩)
    · exact .inl h
    · right
      unfold sbAt at hx
      rw [List.getElem?_map] at hx
      by_cases hj : j < hs.length
      · rw [mkG_at seCnt seMk k hs j hj] at hx
        match a, hx with
        | 0, hx => injection hx with hx; subst hx; exact ⟨j, 0, _, (show sbAt (hs.map seEl) j 0 = some ⟨51, 4, hs[j].X.ws.length, .slice hs[j].s0.a hs[j].s0.n hs[j].s0.c, vcs hs[j].X.ws⟩ by unfold sbAt; rw [seEl_at hj]; rfl), hi⟩
        | a + 1, hx => cases hx
      · rw [List.getElem?_eq_none (by rw [mkG_len]; omega)] at hx
        cases hx
  · rintro (h | ⟨j, a, x, hx, hi⟩)
    · exact .inl h
    · right
      unfold sbAt at hx
      rw [List.getElem?_map] at hx
      by_cases hj : j < hs.length
      · rw [List.getElem?_eq_getElem hj] at hx
        match a, hx with
        | 0, hx =>
          injection hx with hx
          subst hx
          exact ⟨j, 0, ⟨51, 4, (seMk (kG seCnt k (hs.take j)) hs[j]).X.ws.length, .slice hs[j].s0.a hs[j].s0.n hs[j].s0.c, vcs (seMk (kG seCnt k (hs.take j)) hs[j]).X.ws⟩, (by unfold sbAt; rw [List.getElem?_map, mkG_at seCnt seMk k hs j hj]; rfl), hi⟩
        | a + 1, hx => cases hx
      · rw [List.getElem?_eq_none (by omega)] at hx
        cases hx
/-- How far the marks go. -/
def vzK (k : Nat) (ln fn : Nat) (hs : List SeH) : Nat := kG seCnt (k + 4 * ln + 3 * fn) hs
/-- Versions with marks. -/
def vzMd (k : Nat) (ln fn : Nat) (hs : List SeH) (next : Int) : VsD := ⟨next, markVs k ln, markFs (k + 4 * ln) fn, (seMh (k + 4 * ln + 3 * fn) hs).map (·.X)⟩
set_option maxRecDepth 100000 in
set_option maxHeartbeats 4000000 in
theorem markVersions_any (B k0 : Nat) (next : Int) (l f s : Sl) (hs : List SeH) (d : VsD) (w : World) (hp : 0 < k0) (hk : vzK k0 l.n f.n hs ≤ 9999990) (hO : VzOwn w B l f s hs d) :
    Calls Tryz.prog 32 #[.agg (vzC next l f s), .int .i64 (k0 : Int)] w fun e w' => e = .returned (.int .i64 ((vzK k0 l.n f.n hs : Nat) : Int)) ∧ VzOwn w' B l f s (seMh (k0 + 4 * l.n + 3 * f.n) hs) (vzMd k0 l.n f.n hs d.next) ∧ WrB (VzBl l f s hs) w w' := by
  obtain ⟨la, ln, lc⟩ := l
  obtain ⟨fa, fn, fc⟩ := f
  obtain ⟨sa, sn, sc⟩ := s
  unfold vzC
  simp only at hk ⊢
  obtain ⟨W, hW⟩ : ∃ W, W = w.alloc (.cells #[.int .i64 next, .slice la ln lc, .slice fa fn fc, .slice sa sn sc] 29) := ⟨_, rfl⟩
  have b0 : Below w.heap.size w W := by rw [hW]; exact (Below.refl _ _).alloc (Nat.le_refl _) _
  have kW : W.heap[w.heap.size]? = some (.cells #[.int .i64 next, .slice la ln lc, .slice fa fn fc, .slice sa sn sc] 29 (0, 0)) := by rw [hW]; exact heap_alloc_new _ _
  have O := hO.below b0
  have hln : ln = d.list.length := owns_n hO.vo
  have hfn : fn = d.fen.length := owns_n hO.fo
  have hsn : sn = hs.length := owns_n hO.so.row
  have km := kG_mono seCnt (k0 + 4 * ln + 3 * fn) hs
  unfold vzK at hk
  have APT := hide (show ∀ i, VzBl ⟨la, ln, lc⟩ ⟨fa, fn, fc⟩ ⟨sa, sn, sc⟩ hs i → i < w.heap.size from fun i hi => (hO.lt i hi).2)
  have zW : w.heap.size < W.heap.size := blk_lt kW
  have C1 := hide (markVersionS_any B la ln lc k0 d.list W hp (by omega) O.vo)
  have OO := hide O
  have KW := hide kW
  have WB := hide (show WrB (VzBl ⟨la, ln, lc⟩ ⟨fa, fn, fc⟩ ⟨sa, sn, sc⟩ hs) w W from WrB.of_below b0)
  have c1 := (heap_at kW 1).1
  rw [hW] at c1
  have HSN := hide hsn
  clear hO b0 kW O hln hfn hsn
  go_enter Tryz.func32, Tryz.ntmps32
  go_wp2_with fail
  rw [← hW]
  clear hW c1
  refine (unhide C1).mono ?_
  rintro e w1 ⟨rfl, ho1, hg1⟩
  have W1 := WrB.of_grown hg1
  have F1 := hide (rr_owns_wr (unhide OO).fo W1 (fun i hi => own_other (unhide OO).fo (unhide OO).vo (by decide) hi))
  have S1 := hide (NOwn.keep (unhide OO).so W1 (fun i hi e => (unhide OO).far i e hi))
  have V1 := hide (show VOwns w1 B (.slice la ln lc) (markVs k0 ln) from ho1)
  have K1 := hide ((W1.block w.heap.size zW (fun e => by have := unhide APT _ (.inl e); omega)).trans (unhide KW))
  have WB1 := hide ((unhide WB).seq (W1.weak (fun i e => .inl e)))
  have FAR := hide (unhide OO).far
  clear C1 ho1 hg1 W1 OO KW WB
  have c2 := (heap_at (unhide K1) 2).1
  obtain ⟨k1, hk1⟩ : ∃ k1, k1 = k0 + 4 * ln := ⟨_, rfl⟩
  rw [← hk1] at hk km ⊢
  have C2 := hide (markFenceS_any B fa fn fc k1 d.fen w1 (by omega) (by omega) (unhide F1))
  have HK1 := hide hk1
  have hk1p : 0 < k1 := by omega
  clear hk1
  go_wp2_with fail
  refine (unhide C2).mono ?_
  rintro e w2 ⟨rfl, ho2, hg2⟩
  have W2 := WrB.of_grown hg2
  have V2 := hide (rr_owns_wr (unhide V1) W2 (fun i hi => own_other (unhide V1) (unhide F1) (by decide) hi))
  have S2 := hide (NOwn.keep (unhide S1) W2 (fun i hi e => nbl_so (unhide S1) (unhide F1) (by decide) (by decide) e hi))
  have F2 := hide (show FOwns w2 B (.slice fa fn fc) (markFs k1 fn) from ho2)
  have K2 := hide ((W2.block w.heap.size (by have := (blk_lt (unhide K1)); omega) (fun e => by have := unhide APT _ (.inr (.inl e)); omega)).trans (unhide K1))
  have WB2 := hide ((unhide WB1).seq (W2.weak (fun i e => .inr (.inl e))))
  clear C2 ho2 hg2 W2 V1 F1 S1 K1 WB1 c2
  have c3 := (heap_at (unhide K2) 3).1
  obtain ⟨k2, hk2⟩ : ∃ k2, k2 = k1 + 3 * fn := ⟨_, rfl⟩
  rw [← hk2] at hk km ⊢
  have hk2p : 0 < k2 := by omega
  have HK2 := hide hk2
  have S2' := unhide S2
  unfold SeOwn at S2'
  rw [← unhide HSN] at S2'
  have C3 := hide (markSessionS_any B sa sn sc k2 hs w2 hk2p hk S2')
  have S2h := hide S2'
  clear hk2 S2' S2
  go_wp2_with fail
  refine (unhide C3).mono ?_
  rintro e w3 ⟨rfl, ho3, hw3⟩
  have V3 := hide (rr_owns_wr (unhide V2) hw3 (fun i hi hn => unhide FAR i hi hn))
  have F3 := hide (rr_owns_wr (unhide F2) hw3 (fun i hi hn => nbl_so (unhide S2h) (unhide F2) (by decide) (by decide) hi hn))
  have WB3 := hide ((unhide WB2).seq (hw3.weak (fun i e => .inr (.inr e))))
  have E := hide (show kG seCnt k2 hs = vzK k0 ln fn hs by unfold vzK; rw [unhide HK2, unhide HK1])
  have RES := hide (show VzOwn w3 B ⟨la, ln, lc⟩ ⟨fa, fn, fc⟩ ⟨sa, sn, sc⟩ (seMh k2 hs) (vzMd k0 ln fn hs d.next) from ⟨unhide V3, by
      show FOwns w3 B (.slice fa fn fc) (markFs (k0 + 4 * ln) fn)
      rw [← unhide HK1]
      exact unhide F3, by
      show NOwn w3 B 212 3 (.slice sa sn sc) (seMh k2 hs).length ((seMh k2 hs).map seEl)
      rw [mkG_len, ← unhide HSN]
      exact ho3, by
      show (seMh k2 hs).map (·.X) = (seMh (k0 + 4 * ln + 3 * fn) hs).map (·.X)
      rw [unhide HK2, unhide HK1], fun i hi hn => unhide FAR i hi (nbl_sm.1 hn)⟩)
  clear C3 ho3 hw3 V2 F2 S2h K2 WB2 c3
  go_wp2_with fail
  go_ret
  exact ⟨ret_int (by rw [unhide E]), by have h := unhide RES; rw [unhide HK2, unhide HK1] at h; exact h, unhide WB3⟩
set_option maxRecDepth 100000 in
set_option maxHeartbeats 4000000 in
theorem heldVersions_any (k0 : Nat) (next : Int) (l f s : Sl) (hs : List SeH) (w : World) (hp : 0 < k0) (hk : vzK k0 l.n f.n hs ≤ 9999990) (hv : VRow w l.a l.n (markVs k0 l.n)) (hf : FRow w f.a f.n (markFs (k0 + 4 * l.n) f.n)) (hs1 : SeIn w (.slice s.a s.n s.c) s.n (seMh (k0 + 4 * l.n + 3 * f.n) hs)) :
    Calls Tryz.prog 33 #[.agg (vzC next l f s), .int .i64 (k0 : Int)] w fun e w' => e = .returned (.int .i64 ((vzK k0 l.n f.n hs : Nat) : Int)) ∧ Below w.heap.size w w' := by
  obtain ⟨la, ln, lc⟩ := l
  obtain ⟨fa, fn, fc⟩ := f
  obtain ⟨sa, sn, sc⟩ := s
  unfold vzC
  simp only at hk hv hf hs1 ⊢
  obtain ⟨W, hW⟩ : ∃ W, W = w.alloc (.cells #[.int .i64 next, .slice la ln lc, .slice fa fn fc, .slice sa sn sc] 29) := ⟨_, rfl⟩
  have b0 : Below w.heap.size w W := by rw [hW]; exact (Below.refl _ _).alloc (Nat.le_refl _) _
  have kW : W.heap[w.heap.size]? = some (.cells #[.int .i64 next, .slice la ln lc, .slice fa fn fc, .slice sa sn sc] 29 (0, 0)) := by rw [hW]; exact heap_alloc_new _ _
  have km := kG_mono seCnt (k0 + 4 * ln + 3 * fn) hs
  unfold vzK at hk
  have C1 := hide (heldVersionS_any la ln lc k0 W hp (by omega) (hv.below b0))
  have HF := hide (hf.below b0)
  have HS := hide (hs1.below b0)
  have KW := hide kW
  have B0 := hide b0
  have c1 := (heap_at kW 1).1
  rw [hW] at c1
  clear hv hf hs1 b0 kW
  go_enter Tryz.func33, Tryz.ntmps33
  go_wp2_with fail
  rw [← hW]
  clear hW c1
  refine (unhide C1).mono ?_
  rintro e w1 ⟨rfl, hb1⟩
  have K1 := hide ((hb1.block w.heap.size (blk_lt (unhide KW))).trans (unhide KW))
  have B1 := hide ((unhide B0).trans (hb1.mono (unhide B0).size))
  have F1 := hide ((unhide HF).below hb1)
  have S1 := hide ((unhide HS).below hb1)
  obtain ⟨k1, hk1⟩ : ∃ k1, k1 = k0 + 4 * ln := ⟨_, rfl⟩
  rw [← hk1] at hk km F1 S1 ⊢
  have C2 := hide (heldFenceS_any fa fn fc k1 w1 (by omega) (by omega) (unhide F1))
  have HK1 := hide hk1
  have n1 : ¬ ((k1 : Int) < 0) := by omega
  have c2 := (heap_at (unhide K1) 2).1
  have hk1p : 0 < k1 := by omega
  clear C1 hb1 HF HS KW B0 hk1
  go_wp2_with fail
  refine (unhide C2).mono ?_
  rintro e w2 ⟨rfl, hb2⟩
  have K2 := hide ((hb2.block w.heap.size (blk_lt (unhide K1))).trans (unhide K1))
  have B2 := hide ((unhide B1).trans (hb2.mono (unhide B1).size))
  have S2 := hide ((unhide S1).below hb2)
  obtain ⟨k2, hk2⟩ : ∃ k2, k2 = k1 + 3 * fn := ⟨_, rfl⟩
  rw [← hk2] at hk km S2 ⊢
  have C3 := hide (heldSessionS_any sa sn sc k2 hs w2 (by omega) hk (unhide S2))
  have HK2 := hide hk2
  have n2 : ¬ ((k2 : Int) < 0) := by omega
  have c3 := (heap_at (unhide K2) 3).1
  clear C2 hb2 F1 S1 K1 B1 hk2 c2 n1
  go_wp2_with fail
  refine (unhide C3).mono ?_
  rintro e w3 ⟨rfl, hb3⟩
  have B3 := hide ((unhide B2).trans (hb3.mono (unhide B2).size))
  have E := hide (show kG seCnt k2 hs = vzK k0 ln fn hs by unfold vzK; rw [unhide HK2, unhide HK1])
  have n3 : ¬ (((kG seCnt k2 hs : Nat) : Int) < 0) := by omega
  clear C3 hb3 S2 K2 B2 c3 n2
  go_wp2_with fail
  go_ret
  exact ⟨ret_int (by rw [unhide E]), unhide B3⟩
end Go.Proofs.YtcflepnckjappaaGreat

namespace Go.Proofs.YtcflepnckjappaaGreat
open Go.RowKit

theorem VzOwn.off {P : Nat → Prop} {w w' : World} {B : Nat} {l f s : Sl} {hs : List SeH} {d : VsD} (h : VzOwn w B l f s hs d) (hw : WrB P w w') (hp : ∀ i, VzBl l f s hs i → ¬ P i) : VzOwn w' B l f s hs d :=
  h.apart hw (fun i hi => hp i (.inl hi)) (fun i hi => hp i (.inr (.inl hi))) (fun i hi => hp i (.inr (.inr hi)))
theorem eqVersZ (next : Int) (l1 f1 s1 : Sl) (hs1 : List SeH) (l2 f2 s2 : Sl) (hs2 : List SeH) (d : VsD) (w : World) (h1 : VzIn w l1 f1 s1 hs1 d) (h2 : VzIn w l2 f2 s2 hs2 d) (hd : vsN d ≤ 1048576) :
    Calls Tryz.prog 29 #[.agg (vzC next l1 f1 s1), .agg (vzC next l2 f2 s2)] w fun e w' => e = .returned (.bool true) ∧ Below w.heap.size w w' :=
  eqVersions_any next l1 f1 s1 l2 f2 s2 _ _ d w (vs_of_vz h1) (vs_of_vz h2) (vsfew_of h1 hd)
theorem sum_cnt (hs : List SeH) : (hs.map seCnt).sum = 2 * hs.length + 4 * ((hs.map (·.X)).map (fun s => s.ws.length)).sum := by
  induction hs with
  | nil => rfl
  | cons x r ih =>
    simp only [List.map_cons, List.sum_cons, List.length_cons]
    rw [ih]
    unfold seCnt
    omega
theorem vzK_le {w : World} {l f s : Sl} {hs : List SeH} {d : VsD} (h : VzIn w l f s hs d) (hd : vsN d ≤ 1048576) : vzK 1 l.n f.n hs ≤ 9999990 := by
  unfold vzK
  rw [kG_sum, sum_cnt, h.ss]
  have e1 := h.vr.1
  have e2 := h.fr.1
  have e3 := h.len
  unfold vsN at hd
  omega
theorem heldVersZ {w : World} {B : Nat} {l f s : Sl} {hs : List SeH} {nx : Int} (next : Int) (h : VzOwn w B l f s (seMh (1 + 4 * l.n + 3 * f.n) hs) (vzMd 1 l.n f.n hs nx)) (hk : vzK 1 l.n f.n hs ≤ 9999990) :
    Calls Tryz.prog 33 #[.agg (vzC next l f s), .int .i64 1] w fun e w' => e = .returned (.int .i64 ((vzK 1 l.n f.n hs : Nat) : Int)) ∧ Below w.heap.size w w' :=
  heldVersions_any 1 next l f s hs w (by omega) hk h.reads.vr h.reads.fr h.reads.sr
end Go.Proofs.YtcflepnckjappaaGreat

namespace Go.Proofs.YtcflepnckjappaaGreat
open Go.RowKit Go.Maps

end Go.Proofs.YtcflepnckjappaaGreat

namespace Go.Proofs.YtcflepnckjappaaGreat
open Go.RowKit

theorem eqBytes_same (a1 a2 : Option Addr) (n c1 c2 : Nat) (xs : List Int) (w : World) (hn : n ≤ maxLen) (h1 : Row w a1 n xs) (h2 : Row w a2 n xs) :
    Calls Tryz.prog 99 #[.slice a1 n c1, .slice a2 n c2] w fun e w' => e = .returned (.bool true) ∧ Below w.heap.size w w' := by
  refine (eqByteS_any a1 a2 n n c1 c2 xs xs w hn hn h1 h2).mono ?_
  rintro e w' ⟨rfl, k, rfl⟩
  exact ⟨ret_bool (by simp), bel_drewN (Below.refl _ _) _⟩
set_option maxHeartbeats 1000000 in
theorem eqWrite_any (x : Int) (a1 a2 : Option Addr) (n c1 c2 : Nat) (xs : List Int) (w : World) (hn : n ≤ maxLen) (h1 : Row w a1 n xs) (h2 : Row w a2 n xs) :
    Calls Tryz.prog 188 #[wv x a1 n c1, wv x a2 n c2] w fun e w' => e = .returned (.bool true) ∧ Below w.heap.size w w' := by
  have hb0 : ∀ o1 o2, Below w.heap.size w ((w.alloc o1).alloc o2) := fun o1 o2 => ((Below.refl w.heap.size w).alloc (Nat.le_refl _) _).alloc (by simp) _
  have R1 := hide fun o1 o2 => row_grow h1 (hb0 o1 o2)
  have R2 := hide fun o1 o2 => row_grow h2 (hb0 o1 o2)
  clear h1 h2
  go_enter Tryz.func188, Tryz.ntmps188
  go_wp2_with fail
  refine (eqBytes_same a1 a2 n c1 c2 xs _ hn (unhide R1 _ _) (unhide R2 _ _)).mono ?_
  rintro e w1 ⟨rfl, hb⟩
  have B := hide ((hb0 _ _).trans (hb.mono (by simp; omega)))
  clear hb
  go_wp2_with fail
  go_ret
  exact ⟨rfl, unhide B⟩
set_option maxHeartbeats 1000000 in
theorem eqWriteS_any (a1 a2 : Option Addr) (n c1 c2 : Nat) (ws : List WD) (w : World) (hn : n ≤ maxLen) (h1 : WRow w a1 n ws) (h2 : WRow w a2 n ws) :
    Calls Tryz.prog 100 #[.slice a1 n c1, .slice a2 n c2] w fun e w' => e = .returned (.bool true) ∧ Below w.heap.size w w' := by
  have L := hide h1.1
  have R1 := hide h1
  have R2 := hide h2
  clear h1 h2
  unfold maxLen at hn
  go_enter Tryz.func100, Tryz.ntmps100
  go_wp2_with fail
  go_loopw [5] (fun i wr => ∃ k : Nat, k ≤ n ∧ i = .int .i64 k ∧ Below w.heap.size w wr) (fun i _ => n - (intOf i).toNat)
  case atStart => exact ⟨0, by omega, rfl, Below.refl _ _⟩
  case round =>
    obtain ⟨k, hk, rfl, hb⟩ := hrel
    by_cases hlt : k < n
    · have hk2 : k < ws.length := by rw [unhide L]; exact hlt
      obtain ⟨b, off, rfl, d0, a', c', d1, hm, r1⟩ := ((unhide R1).below hb).2 k hk2
      obtain ⟨b', off', rfl, y0, a'', c'', y1, _, r2⟩ := ((unhide R2).below hb).2 k hk2
      have H1 := hide r1
      have H2 := hide r2
      clear r1 r2
      generalize ws[k] = pd at *
      have hsz := hb.size
      go_wp2_with fail
      go_region_with (go_at_call 188; (first | refine (eqWrite_any pd.at_ a' a'' pd.xs.length c' c'' pd.xs wr.drew hm.1 (unhide H1) (unhide H2)).mono ?_ | refine (eqWrite_any pd.at_ a' a'' pd.xs.length c' c'' pd.xs wr hm.1 (unhide H1) (unhide H2)).mono ?_); rintro e w2 ⟨rfl, hb2⟩)
      all_goals
        have bA : Below w.heap.size w w2 := by first | exact hb.drew.trans (hb2.mono hsz) | exact (bel_drewN hb _).trans (hb2.mono hsz) | exact hb.trans (hb2.mono hsz)
        clear hb hb2 d0 d1 y0 y1
        go_wp2_with fail
        go_roundw
        case rel => exact ⟨k + 1, by omega, by go_num, bA⟩
        case measure => simp [intOf]; omega
    · obtain rfl : k = n := by omega
      go_wp2_with fail
      go_ret
      exact ⟨rfl, hb⟩
set_option maxHeartbeats 1000000 in
theorem eqFlash_any (a1 a2 : Option Addr) (nh c1 c2 : Nat) (b1 b2 : Option Addr) (nw d1 d2 : Nat) (xs : List Int) (ws : List WD) (w : World) (hnh : nh ≤ maxLen) (hn : nw ≤ maxLen) (h1 : Row w a1 nh xs) (h2 : Row w a2 nh xs) (h3 : WRow w b1 nw ws) (h4 : WRow w b2 nw ws) :
    Calls Tryz.prog 30 #[fv a1 nh c1 b1 nw d1, fv a2 nh c2 b2 nw d2] w fun e w' => e = .returned (.bool true) ∧ Below w.heap.size w w' := by
  have hb0 : ∀ o1 o2, Below w.heap.size w ((w.alloc o1).alloc o2) := fun o1 o2 => ((Below.refl w.heap.size w).alloc (Nat.le_refl _) _).alloc (by simp) _
  have R1 := hide fun o1 o2 => row_grow h1 (hb0 o1 o2)
  have R2 := hide fun o1 o2 => row_grow h2 (hb0 o1 o2)
  have R3 := hide h3
  have R4 := hide h4
  clear h1 h2 h3 h4
  go_enter Tryz.func30, Tryz.ntmps30
  go_wp2_with fail
  refine (eqBytes_same a1 a2 nh c1 c2 xs _ hnh (unhide R1 _ _) (unhide R2 _ _)).mono ?_
  rintro e w1 ⟨rfl, hb⟩
  have B := hide ((hb0 (.cells #[.slice a1 nh c1, .slice b1 nw d1] 32) (.cells #[.slice a2 nh c2, .slice b2 nw d2] 32)).trans (hb.mono (by simp; omega)))
  have p1 : w1.cell? ⟨w.heap.size, 1, none⟩ = some (.slice b1 nw d1) := (hb.cell (p := ⟨w.heap.size, 1, none⟩) (by simp; omega)).trans ((cell_old (by simp)).trans ((cell_new rfl).trans rfl))
  have p2 : w1.cell? ⟨w.heap.size + 1, 1, none⟩ = some (.slice b2 nw d2) := (hb.cell (p := ⟨w.heap.size + 1, 1, none⟩) (by simp)).trans ((cell_new (by simp)).trans rfl)
  have hsz := (unhide B).size
  clear hb
  go_wp2_with fail
  refine (eqWriteS_any b1 b2 nw d1 d2 ws w1 hn ((unhide R3).below (unhide B)) ((unhide R4).below (unhide B))).mono ?_
  rintro e w2 ⟨rfl, hb2⟩
  have B2 := hide ((unhide B).trans (hb2.mono hsz))
  clear hb2 p1 p2
  go_wp2_with fail
  go_ret
  exact ⟨rfl, unhide B2⟩
end Go.Proofs.YtcflepnckjappaaGreat

namespace Go.Proofs.YtcflepnckjappaaGreat
open Go.RowKit

/-- The law's argument as it lies in its own block, and behind it. -/
structure Args (w wr : World) (ah : Option Addr) (nh ch : Nat) (aw : Option Addr) (nw cw : Nat) (xs : List Int) (ws : List WD) : Prop where
  bel : Below w.heap.size w wr
  size : w.heap.size + 1 ≤ wr.heap.size
  c0 : wr.cell? ⟨w.heap.size, 0, none⟩ = some (.slice ah nh ch)
  c1 : wr.cell? ⟨w.heap.size, 1, none⟩ = some (.slice aw nw cw)
  row : Row wr ah nh xs
  wrow : WRow wr aw nw ws
theorem Args.start {w : World} {ah : Option Addr} {nh ch : Nat} {aw : Option Addr} {nw cw : Nat} {xs : List Int} {ws : List WD} (hr : Row w ah nh xs) (hw : WRow w aw nw ws) (t : TypeId) :
    Args w (w.alloc (.cells #[.slice ah nh ch, .slice aw nw cw] t)) ah nh ch aw nw cw xs ws :=
  have b : Below w.heap.size w (w.alloc (.cells #[.slice ah nh ch, .slice aw nw cw] t)) := (Below.refl _ _).alloc (Nat.le_refl _) _
  ⟨b, by simp, (cell_new rfl).trans rfl, (cell_new rfl).trans rfl, row_grow hr b, hw.below b⟩
theorem Args.step {w wr w2 : World} {ah : Option Addr} {nh ch : Nat} {aw : Option Addr} {nw cw : Nat} {xs : List Int} {ws : List WD} (h : Args w wr ah nh ch aw nw cw xs ws) (hb : Below wr.heap.size wr w2) : Args w w2 ah nh ch aw nw cw xs ws :=
  have hs := h.size
  ⟨h.bel.trans (hb.mono h.bel.size), Nat.le_trans h.size hb.size, (hb.cell (p := ⟨w.heap.size, 0, none⟩) (by simp; omega)).trans h.c0, (hb.cell (p := ⟨w.heap.size, 1, none⟩) (by simp; omega)).trans h.c1, row_grow h.row hb, h.wrow.below hb⟩

end Go.Proofs.YtcflepnckjappaaGreat

namespace Go.Proofs.YtcflepnckjappaaGreat
open Go.RowKit

theorem Args.band {S : Nat → Prop} {w wr w2 : World} {ah : Option Addr} {nh ch : Nat} {aw : Option Addr} {nw cw : Nat} {xs : List Int} {ws : List WD} (hr : Row w ah nh xs) (hw : WRow w aw nw ws) (h : Args w wr ah nh ch aw nw cw xs ws) (hb : Band S wr w2) (hS : ∀ k, k < w.heap.size + 1 → S k) : Args w w2 ah nh ch aw nw cw xs ws :=
  have hs := h.size
  have b : Below w.heap.size w w2 := h.bel.trans (hb.below (by omega) (fun k hk => hS k (by omega)))
  ⟨b, Nat.le_trans h.size hb.kept.1, (hb.kept.cell (p := ⟨w.heap.size, 0, none⟩) (hS _ (by simp)) (by simp; omega)).trans h.c0, (hb.kept.cell (p := ⟨w.heap.size, 1, none⟩) (hS _ (by simp)) (by simp; omega)).trans h.c1, row_grow hr b, hw.below b⟩
theorem mine_row {w : World} {B n cap : Nat} {a : Option Addr} {xs : List Int} (h : Mine w B (.slice a n cap) xs) : Row w a n xs ∧ n = xs.length ∧ n ≤ cap ∧ cap ≤ maxLen ∧ ∀ x, a = some x → B ≤ x.block ∧ x.block < w.heap.size ∧ ∀ j, w.frozen? ⟨x.block, j, none⟩ = false := by
  obtain ⟨a', c', e, h1, h2, h3, h4⟩ := h
  injection e with e1 e2 e3
  subst e1 e2 e3
  exact ⟨h3, rfl, h1, h2, h4⟩

end Go.Proofs.YtcflepnckjappaaGreat

namespace Go.Proofs.YtcflepnckjappaaGreat
open Go.RowKit

/-- What Recover answers, as plain data. -/
def rvV (xs : List Int) (ws : List WD) : VsD := if okD xs.length ws = true then reD (rvL xs ws) else noVs
def rvN (xs : List Int) (ws : List WD) : Int := if okD xs.length ws = true then ((rvL xs ws).length : Int) else 0
def rvC (xs : List Int) (ws : List WD) : Int := if okD xs.length ws = true then 0 else 1
theorem rv_con {xs : List Int} {ws : List WD} : ∀ W e W', RvRes xs ws W e W' → ∃ l f s hs, e = .returned (.tuple #[.agg (vzC (rvV xs ws).next l f s), .int .i64 (rvN xs ws), .int .i64 (rvC xs ws)]) ∧ VzOwn W' W.heap.size l f s hs (rvV xs ws) ∧ Below W.heap.size W W' := fun W e W' h => by
  unfold RvRes at h
  unfold rvV rvN rvC
  by_cases ho : okD xs.length ws = true
  · simp only [if_pos ho] at h ⊢
    exact h
  · simp only [if_neg ho] at h ⊢
    exact ⟨⟨none, 0, 0⟩, ⟨none, 0, 0⟩, ⟨none, 0, 0⟩, [], h.1, vz_none _ _, h.2⟩
theorem rv_few (xs : List Int) (ws : List WD) : vsN (rvV xs ws) ≤ 1048576 := by
  unfold rvV
  by_cases ho : okD xs.length ws = true
  · rw [if_pos ho]
    have := (rv_size xs ws ho).1
    unfold vsN reD
    simp only [List.length_nil, List.length_replicate, List.map_replicate, clS]
    simp
    omega
  · rw [if_neg ho]
    exact Nat.zero_le _
theorem wrb_of_band {S : Nat → Prop} {w w' : World} (h : Band S w w') : WrB (fun i => ¬ S i) w w' := ⟨h.os, h.tape, h.output, h.kept.1, fun k hk hp => h.kept.2 k (Classical.not_not.1 hp) hk⟩
theorem band_of_wrb {S P : Nat → Prop} {w w' : World} (h : WrB P w w') (hS : ∀ i, P i → ¬ S i) : Band S w w' := ⟨h.os, h.tape, h.output, h.size, fun k hk hl => h.block k hl (fun hp => hS k hp hk)⟩
set_option maxRecDepth 100000 in
set_option maxHeartbeats 16000000 in
theorem lawRecover_any (ah : Option Addr) (nh ch : Nat) (aw : Option Addr) (nw cw : Nat) (xs : List Int) (ws : List WD) (w : World) (h0 : IsFlash8 w ah nh aw nw xs ws) :
    Calls Tryz.prog 6 #[fv ah nh ch aw nw cw] w fun e w' => e = .returned (.bool true) ∧ Below w.heap.size w w' := by
  obtain ⟨⟨hR, hnh, hW, hnw⟩, h8, h8w⟩ := h0
  have E8 := hide h8
  have E8W := hide h8w
  clear h8 h8w
  have CON := hide (rv_con (xs := xs) (ws := ws))
  have HV := rv_few xs ws
  have HI := hide (fun (k1 : nh ≤ 1048576) (k2 : nw ≤ 1048576) (a : Option Addr) (c : Nat) (b : Option Addr) (x : World) (h1 : Row x a nh xs) (h2 : WRow x b nw ws) (h3 : nh ≤ c) (h4 : c ≤ maxLen) => implRecover_any a nh c b nw nw xs ws x h1 h2 (by omega) (by omega) h3 h4 (unhide E8) (unhide E8W))
  have HSP := hide (fun (k1 : nh ≤ 1048576) (k2 : nw ≤ 1048576) (b : Nat) (c : Nat) (g : Option Addr) (x : World) (h1 : Row x (some ⟨b, 0, none⟩) nh xs) (h2 : WRow x g nw ws) => specRecover_any b 0 nh c g nw nw xs ws x h1 h2 (by omega) (by omega) (unhide E8) (unhide E8W))
  generalize rvV xs ws = R at CON HV
  generalize rvN xs ws = RC at CON
  generalize rvC xs ws = C at CON
  obtain ⟨RN, hRN⟩ : ∃ x, x = R.next := ⟨_, rfl⟩
  rw [← hRN] at CON
  clear hRN
  have hCC : (C != C) = false := by simp
  have hCR : (RC != RC) = false := by simp
  have A := hide (Args.start (ch := ch) (cw := cw) hR hW 83)
  have HR := hide hR
  have HW := hide hW
  clear hR hW E8 E8W
  go_enter Tryz.func6, Tryz.ntmps6
  go_wp2_with fail
  refine (szFlash_any ah nh ch aw nw cw ws 1048576 _ (by omega) (by omega) hnh (unhide A).wrow hnw).mono ?_
  rintro e w_z ⟨r, rfl, hr, hb⟩
  replace A := hide ((unhide A).step hb)
  clear hb
  rcases hr with rfl | ⟨r0, r1, n1, n2, n3⟩
  · go_wp2_with fail
    go_ret
    exact ⟨rfl, (unhide A).bel⟩
  have N3 := hide (show ∀ i (hi : i < ws.length), ws[i].xs.length ≤ 1048576 from fun i hi => by have := n3 i hi; omega)
  clear n3
  have zA := (unhide A).size
  have p0 := (unhide A).c0
  have p1 := (unhide A).c1
  go_wp2_with fail
  clear p0 p1
  refine (toFlash_any ah nh ch aw nw cw xs ws w_z (by omega) (by omega) (unhide N3) (unhide A).row (unhide A).wrow).mono ?_
  rintro e w_t ⟨ah_t, ch_t, g_t, rfl, hF, hb⟩
  replace A := hide ((unhide A).step hb)
  have zz_w_t := hb.size
  clear hb
  obtain ⟨b_t, rfl⟩ := hF.1
  have F_t := hide hF
  clear hF
  go_wp2_with fail
  refine ((unhide HSP) (by omega) (by omega) b_t ch_t _ w_t (unhide F_t).row (unhide F_t).wrow).mono ?_
  clear F_t
  intro e w_w hcon
  obtain ⟨l_w, f_w, s_w, hs_w, rfl, oo, hb⟩ := unhide CON _ _ _ hcon
  clear hcon
  obtain ⟨la_w, ln_w, lc_w⟩ := l_w
  obtain ⟨fa_w, fn_w, fc_w⟩ := f_w
  obtain ⟨sa_w, sn_w, sc_w⟩ := s_w
  simp only [vzC]
  replace A := hide ((unhide A).step hb)
  have zz_w_w := hb.size
  clear hb
  have O_w := hide oo
  have M_w := fun i h => (unhide O_w).lt i h
  clear oo
  have hb : Below w_w.heap.size w_w (w_w.alloc (.cells #[.int .i64 RN, .slice la_w ln_w lc_w, .slice fa_w fn_w fc_w, .slice sa_w sn_w sc_w] 29)) := (Below.refl _ _).alloc (Nat.le_refl _) _
  have K_w := hide (heap_alloc_new w_w (.cells #[.int .i64 RN, .slice la_w ln_w lc_w, .slice fa_w fn_w fc_w, .slice sa_w sn_w sc_w] 29))
  have sz_w : (w_w.alloc (.cells #[.int .i64 RN, .slice la_w ln_w lc_w, .slice fa_w fn_w fc_w, .slice sa_w sn_w sc_w] 29)).heap.size = w_w.heap.size + 1 := by simp
  replace A := hide ((unhide A).step hb)
  replace O_w := hide ((unhide O_w).below hb)
  have zz_b_w := hb.size
  clear hb
  go_upto_region 6 with fail
  generalize w_w.alloc (.cells #[.int .i64 RN, .slice la_w ln_w lc_w, .slice fa_w fn_w fc_w, .slice sa_w sn_w sc_w] 29) = b_w at *
  have p0 := (unhide A).c0
  have p1 := (unhide A).c1
  go_wp2_with fail
  clear p0 p1
  refine (toFlash_any ah nh ch aw nw cw xs ws b_w (by omega) (by omega) (unhide N3) (unhide A).row (unhide A).wrow).mono ?_
  rintro e w_x ⟨ah_x, ch_x, g_x, rfl, hF, hb⟩
  replace A := hide ((unhide A).step hb)
  replace O_w := hide ((unhide O_w).below hb)
  replace K_w := hide ((hb.block _ (by omega)).trans (unhide K_w))
  have zz_w_x := hb.size
  clear hb
  have F_x := hide hF.fin
  have Q_x := hide (mine_row hF.2.2.2.1)
  clear hF
  have hb : Below w_x.heap.size w_x (w_x.alloc (.cells #[.slice ah_x nh ch_x, .slice (some ⟨g_x, 0, none⟩) nw nw] 32)) := (Below.refl _ _).alloc (Nat.le_refl _) _
  have K_x := hide (heap_alloc_new w_x (.cells #[.slice ah_x nh ch_x, .slice (some ⟨g_x, 0, none⟩) nw nw] 32))
  have sz_x : (w_x.alloc (.cells #[.slice ah_x nh ch_x, .slice (some ⟨g_x, 0, none⟩) nw nw] 32)).heap.size = w_x.heap.size + 1 := by simp
  replace A := hide ((unhide A).step hb)
  replace O_w := hide ((unhide O_w).below hb)
  replace K_w := hide ((hb.block _ (by omega)).trans (unhide K_w))
  replace F_x := hide ((unhide F_x).below hb)
  have zz_b_x := hb.size
  clear hb
  go_upto_region 7 with fail
  generalize w_x.alloc (.cells #[.slice ah_x nh ch_x, .slice (some ⟨g_x, 0, none⟩) nw nw] 32) = b_x at *
  have p0_x := (heap_at (unhide K_x) 0).1
  have p1_x := (heap_at (unhide K_x) 1).1
  go_wp2_with fail
  clear p0_x p1_x
  refine ((unhide HI) (by omega) (by omega) ah_x ch_x _ b_x (unhide F_x).mine.row (unhide F_x).mine.wrow (unhide Q_x).2.2.1 (unhide Q_x).2.2.2.1).mono ?_
  clear Q_x
  intro e w_g hcon
  obtain ⟨l_g, f_g, s_g, hs_g, rfl, oo, hb⟩ := unhide CON _ _ _ hcon
  clear hcon
  obtain ⟨la_g, ln_g, lc_g⟩ := l_g
  obtain ⟨fa_g, fn_g, fc_g⟩ := f_g
  obtain ⟨sa_g, sn_g, sc_g⟩ := s_g
  simp only [vzC]
  replace A := hide ((unhide A).step hb)
  replace O_w := hide ((unhide O_w).below hb)
  replace K_w := hide ((hb.block _ (by omega)).trans (unhide K_w))
  replace F_x := hide ((unhide F_x).below hb)
  replace K_x := hide ((hb.block _ (by omega)).trans (unhide K_x))
  have zz_w_g := hb.size
  clear hb
  have O_g := hide oo
  have M_g := fun i h => (unhide O_g).lt i h
  clear oo
  have hb : Below w_g.heap.size w_g (w_g.alloc (.cells #[.int .i64 RN, .slice la_g ln_g lc_g, .slice fa_g fn_g fc_g, .slice sa_g sn_g sc_g] 29)) := (Below.refl _ _).alloc (Nat.le_refl _) _
  have K_g := hide (heap_alloc_new w_g (.cells #[.int .i64 RN, .slice la_g ln_g lc_g, .slice fa_g fn_g fc_g, .slice sa_g sn_g sc_g] 29))
  have sz_g : (w_g.alloc (.cells #[.int .i64 RN, .slice la_g ln_g lc_g, .slice fa_g fn_g fc_g, .slice sa_g sn_g sc_g] 29)).heap.size = w_g.heap.size + 1 := by simp
  replace A := hide ((unhide A).step hb)
  replace O_w := hide ((unhide O_w).below hb)
  replace K_w := hide ((hb.block _ (by omega)).trans (unhide K_w))
  replace F_x := hide ((unhide F_x).below hb)
  replace K_x := hide ((hb.block _ (by omega)).trans (unhide K_x))
  replace O_g := hide ((unhide O_g).below hb)
  have zz_b_g := hb.size
  clear hb
  go_upto_region 8 with fail
  generalize w_g.alloc (.cells #[.int .i64 RN, .slice la_g ln_g lc_g, .slice fa_g fn_g fc_g, .slice sa_g sn_g sc_g] 29) = b_g at *
  have p0_g := (heap_at (unhide K_g) 0).1
  have p1_g := (heap_at (unhide K_g) 1).1
  have p2_g := (heap_at (unhide K_g) 2).1
  have p3_g := (heap_at (unhide K_g) 3).1
  have p0_w := (heap_at (unhide K_w) 0).1
  have p1_w := (heap_at (unhide K_w) 1).1
  have p2_w := (heap_at (unhide K_w) 2).1
  have p3_w := (heap_at (unhide K_w) 3).1
  go_wp2_with fail
  refine (eqVersZ RN ⟨la_g, ln_g, lc_g⟩ ⟨fa_g, fn_g, fc_g⟩ ⟨sa_g, sn_g, sc_g⟩ hs_g ⟨la_w, ln_w, lc_w⟩ ⟨fa_w, fn_w, fc_w⟩ ⟨sa_w, sn_w, sc_w⟩ hs_w R b_g (unhide O_g).reads (unhide O_w).reads HV).mono ?_
  rintro e e1 ⟨rfl, hb⟩
  clear p0_g p1_g p2_g p3_g
  clear p0_w p1_w p2_w p3_w
  replace A := hide ((unhide A).step hb)
  replace O_w := hide ((unhide O_w).below hb)
  replace K_w := hide ((hb.block _ (by omega)).trans (unhide K_w))
  replace F_x := hide ((unhide F_x).below hb)
  replace K_x := hide ((hb.block _ (by omega)).trans (unhide K_x))
  replace O_g := hide ((unhide O_g).below hb)
  replace K_g := hide ((hb.block _ (by omega)).trans (unhide K_g))
  have zz_e1 := hb.size
  clear hb
  go_upto_region 10 with fail
  go_cut [55] (fun v wc => v = .bool false ∧ Below e1.heap.size e1 wc)
  case first =>
    have p0 := (unhide A).c0
    have p1 := (unhide A).c1
    have p0_x := (heap_at (unhide K_x) 0).1
    have p1_x := (heap_at (unhide K_x) 1).1
    have YP := hide (show ∀ w7, Below e1.heap.size e1 w7 → w7.heap[w_x.heap.size]? = some (.cells #[.slice ah_x nh ch_x, .slice (some ⟨g_x, 0, none⟩) nw nw] 32 (0, 0)) from fun w7 hb => (hb.block _ (by omega)).trans (unhide K_x))
    go_region_with (first
      | (go_at_call 28
         (first | refine (toFlash_any ah nh ch aw nw cw xs ws e1.drew (by omega) (by omega) (unhide N3) (unhide A).row (unhide A).wrow).mono ?_ | refine (toFlash_any ah nh ch aw nw cw xs ws e1 (by omega) (by omega) (unhide N3) (unhide A).row (unhide A).wrow).mono ?_)
         rintro e w8 ⟨ah8, ch8, g8, rfl, hF8, hb8⟩
         replace hb8 : Below e1.heap.size e1 w8 := ⟨hb8.os, hb8.tape, hb8.output, hb8.size, hb8.block⟩
         have k8 := unhide YP w8 hb8
         have y0 := (heap_at k8 0).1
         have y1 := (heap_at k8 1).1
         clear k8)
      | (go_at_call 30
         refine (eqFlash_any ah_x ah8 nh ch_x ch8 _ _ nw nw nw xs ws w8 hnh hnw (row_grow (unhide F_x).mine.row hb8) hF8.row ((unhide F_x).mine.wrow.below hb8) hF8.wrow).mono ?_
         rintro e w9 ⟨rfl, hb9⟩
         have b78 := hb8.trans (hb9.mono hb8.size)
         clear hb9))
    all_goals
      clear hb8 hF8 y0 y1
      go_wp2_with fail
      go_meet
      case rel => exact ⟨rfl, b78⟩
  case rest =>
    obtain ⟨rfl, hb⟩ := hcut
    replace A := hide ((unhide A).step hb)
    replace O_w := hide ((unhide O_w).below hb)
    replace K_w := hide ((hb.block _ (by omega)).trans (unhide K_w))
    replace F_x := hide ((unhide F_x).below hb)
    replace K_x := hide ((hb.block _ (by omega)).trans (unhide K_x))
    replace O_g := hide ((unhide O_g).below hb)
    replace K_g := hide ((hb.block _ (by omega)).trans (unhide K_g))
    have zz_wc := hb.size
    clear hb
    have p0_x := (heap_at (unhide K_x) 0).1
    have p1_x := (heap_at (unhide K_x) 1).1
    go_wp2_with fail
    clear p0_x p1_x
    refine (markFlash_any b_w.heap.size w_x.heap.size ah_x nh ch_x g_x nw nw xs ws wc (by omega) (by omega) (unhide N3) (unhide F_x) (by omega)).mono ?_
    rintro e wn ⟨k10, rfl, hB, _⟩
    have zB := hB.kept.1
    replace A := hide (Args.band (unhide HR) (unhide HW) (unhide A) hB (fun k hk => by omega))
    have hw := wrb_of_band hB
    clear hB
    replace O_w := hide ((unhide O_w).off hw (fun i hi hp => by have h1 := M_w i hi; exact hp (by first | exact .inl (by omega) | exact .inr (by omega))))
    replace K_w := hide ((hw.block _ (by omega) (fun hp => hp (by first | exact .inl (by omega) | exact .inr (by omega)))).trans (unhide K_w))
    replace K_x := hide ((hw.block _ (by omega) (fun hp => hp (by first | exact .inl (by omega) | exact .inr (by omega)))).trans (unhide K_x))
    replace O_g := hide ((unhide O_g).off hw (fun i hi hp => by have h1 := M_g i hi; exact hp (by first | exact .inl (by omega) | exact .inr (by omega))))
    replace K_g := hide ((hw.block _ (by omega) (fun hp => hp (by first | exact .inl (by omega) | exact .inr (by omega)))).trans (unhide K_g))
    have zz_wn := hw.size
    clear hw
    clear F_x
    have p0_g := (heap_at (unhide K_g) 0).1
    have p1_g := (heap_at (unhide K_g) 1).1
    have p2_g := (heap_at (unhide K_g) 2).1
    have p3_g := (heap_at (unhide K_g) 3).1
    have p0_w := (heap_at (unhide K_w) 0).1
    have p1_w := (heap_at (unhide K_w) 1).1
    have p2_w := (heap_at (unhide K_w) 2).1
    have p3_w := (heap_at (unhide K_w) 3).1
    go_wp2_with fail
    refine (eqVersZ RN ⟨la_g, ln_g, lc_g⟩ ⟨fa_g, fn_g, fc_g⟩ ⟨sa_g, sn_g, sc_g⟩ hs_g ⟨la_w, ln_w, lc_w⟩ ⟨fa_w, fn_w, fc_w⟩ ⟨sa_w, sn_w, sc_w⟩ hs_w R wn (unhide O_g).reads (unhide O_w).reads HV).mono ?_
    rintro e e2 ⟨rfl, hb⟩
    clear p0_g p1_g p2_g p3_g
    clear p0_w p1_w p2_w p3_w
    replace A := hide ((unhide A).step hb)
    replace O_w := hide ((unhide O_w).below hb)
    replace K_w := hide ((hb.block _ (by omega)).trans (unhide K_w))
    replace K_x := hide ((hb.block _ (by omega)).trans (unhide K_x))
    replace O_g := hide ((unhide O_g).below hb)
    replace K_g := hide ((hb.block _ (by omega)).trans (unhide K_g))
    have zz_e2 := hb.size
    clear hb
    have hkg := vzK_le (unhide O_g).reads HV
    simp only at hkg
    have p0_g := (heap_at (unhide K_g) 0).1
    have p1_g := (heap_at (unhide K_g) 1).1
    have p2_g := (heap_at (unhide K_g) 2).1
    have p3_g := (heap_at (unhide K_g) 3).1
    go_wp2_with fail
    refine (markVersions_any _ 1 RN ⟨la_g, ln_g, lc_g⟩ ⟨fa_g, fn_g, fc_g⟩ ⟨sa_g, sn_g, sc_g⟩ hs_g R e2 (by omega) hkg (unhide O_g)).mono ?_
    rintro e wm ⟨rfl, oo, hw⟩
    have G2 := hide oo
    clear oo
    clear p0_g p1_g p2_g p3_g
    replace A := hide (Args.band (S := fun b => b < b_x.heap.size) (unhide HR) (unhide HW) (unhide A) (band_of_wrb hw (fun i hp => by have := M_g i hp; omega)) (fun k hk => by omega))
    replace O_w := hide ((unhide O_w).off hw (fun i hi hp => by have h1 := M_w i hi; have h2 := M_g i hp; omega))
    replace K_w := hide ((hw.block _ (by omega) (fun hp => by have h2 := M_g _ hp; omega)).trans (unhide K_w))
    replace K_x := hide ((hw.block _ (by omega) (fun hp => by have h2 := M_g _ hp; omega)).trans (unhide K_x))
    replace K_g := hide ((hw.block _ (by omega) (fun hp => by have h2 := M_g _ hp; omega)).trans (unhide K_g))
    have zz_wm := hw.size
    clear hw
    clear O_g M_g
    have O_g := G2
    have M_g := fun i h => (unhide O_g).lt i h
    clear G2
    simp only
    have hm0 : ¬ (((vzK 1 ln_g fn_g hs_g : Nat) : Int) < 0) := by omega
    have hmm : (((vzK 1 ln_g fn_g hs_g : Nat) : Int) != ((vzK 1 ln_g fn_g hs_g : Nat) : Int)) = false := by simp
    have p0_g := (heap_at (unhide K_g) 0).1
    have p1_g := (heap_at (unhide K_g) 1).1
    have p2_g := (heap_at (unhide K_g) 2).1
    have p3_g := (heap_at (unhide K_g) 3).1
    go_wp2_with fail
    refine (heldVersZ RN (unhide O_g) hkg).mono ?_
    rintro e e3 ⟨rfl, hb⟩
    simp only
    clear p0_g p1_g p2_g p3_g
    replace A := hide ((unhide A).step hb)
    replace O_w := hide ((unhide O_w).below hb)
    replace K_w := hide ((hb.block _ (by omega)).trans (unhide K_w))
    replace K_x := hide ((hb.block _ (by omega)).trans (unhide K_x))
    replace K_g := hide ((hb.block _ (by omega)).trans (unhide K_g))
    replace O_g := hide ((unhide O_g).below hb)
    have zz_e3 := hb.size
    clear hb
    have p0 := (unhide A).c0
    have p1 := (unhide A).c1
    go_wp2_with fail
    clear p0 p1
    refine (toFlash_any ah nh ch aw nw cw xs ws e3 (by omega) (by omega) (unhide N3) (unhide A).row (unhide A).wrow).mono ?_
    rintro e w_y ⟨ah_y, ch_y, g_y, rfl, hF, hb⟩
    replace A := hide ((unhide A).step hb)
    replace O_w := hide ((unhide O_w).below hb)
    replace K_w := hide ((hb.block _ (by omega)).trans (unhide K_w))
    replace K_x := hide ((hb.block _ (by omega)).trans (unhide K_x))
    replace K_g := hide ((hb.block _ (by omega)).trans (unhide K_g))
    replace O_g := hide ((unhide O_g).below hb)
    have zz_w_y := hb.size
    clear hb
    have F_y := hide hF
    have Q_y := hide (mine_row hF.2.2.2.1)
    clear hF
    go_wp2_with fail
    refine ((unhide HI) (by omega) (by omega) ah_y ch_y _ w_y (unhide F_y).row (unhide F_y).wrow (unhide Q_y).2.2.1 (unhide Q_y).2.2.2.1).mono ?_
    clear F_y Q_y
    intro e w_h hcon
    obtain ⟨l_h, f_h, s_h, hs_h, rfl, oo, hb⟩ := unhide CON _ _ _ hcon
    clear hcon
    obtain ⟨la_h, ln_h, lc_h⟩ := l_h
    obtain ⟨fa_h, fn_h, fc_h⟩ := f_h
    obtain ⟨sa_h, sn_h, sc_h⟩ := s_h
    simp only [vzC]
    replace A := hide ((unhide A).step hb)
    replace O_w := hide ((unhide O_w).below hb)
    replace K_w := hide ((hb.block _ (by omega)).trans (unhide K_w))
    replace K_x := hide ((hb.block _ (by omega)).trans (unhide K_x))
    replace K_g := hide ((hb.block _ (by omega)).trans (unhide K_g))
    replace O_g := hide ((unhide O_g).below hb)
    have zz_w_h := hb.size
    clear hb
    have O_h := hide oo
    have M_h := fun i h => (unhide O_h).lt i h
    clear oo
    have hb : Below w_h.heap.size w_h (w_h.alloc (.cells #[.int .i64 RN, .slice la_h ln_h lc_h, .slice fa_h fn_h fc_h, .slice sa_h sn_h sc_h] 29)) := (Below.refl _ _).alloc (Nat.le_refl _) _
    have K_h := hide (heap_alloc_new w_h (.cells #[.int .i64 RN, .slice la_h ln_h lc_h, .slice fa_h fn_h fc_h, .slice sa_h sn_h sc_h] 29))
    have sz_h : (w_h.alloc (.cells #[.int .i64 RN, .slice la_h ln_h lc_h, .slice fa_h fn_h fc_h, .slice sa_h sn_h sc_h] 29)).heap.size = w_h.heap.size + 1 := by simp
    replace A := hide ((unhide A).step hb)
    replace O_w := hide ((unhide O_w).below hb)
    replace K_w := hide ((hb.block _ (by omega)).trans (unhide K_w))
    replace K_x := hide ((hb.block _ (by omega)).trans (unhide K_x))
    replace K_g := hide ((hb.block _ (by omega)).trans (unhide K_g))
    replace O_g := hide ((unhide O_g).below hb)
    replace O_h := hide ((unhide O_h).below hb)
    have zz_b_h := hb.size
    clear hb
    go_upto_region 25 with fail
    generalize w_h.alloc (.cells #[.int .i64 RN, .slice la_h ln_h lc_h, .slice fa_h fn_h fc_h, .slice sa_h sn_h sc_h] 29) = b_h at *
    have p0_h := (heap_at (unhide K_h) 0).1
    have p1_h := (heap_at (unhide K_h) 1).1
    have p2_h := (heap_at (unhide K_h) 2).1
    have p3_h := (heap_at (unhide K_h) 3).1
    have p0_w := (heap_at (unhide K_w) 0).1
    have p1_w := (heap_at (unhide K_w) 1).1
    have p2_w := (heap_at (unhide K_w) 2).1
    have p3_w := (heap_at (unhide K_w) 3).1
    go_wp2_with fail
    refine (eqVersZ RN ⟨la_h, ln_h, lc_h⟩ ⟨fa_h, fn_h, fc_h⟩ ⟨sa_h, sn_h, sc_h⟩ hs_h ⟨la_w, ln_w, lc_w⟩ ⟨fa_w, fn_w, fc_w⟩ ⟨sa_w, sn_w, sc_w⟩ hs_w R b_h (unhide O_h).reads (unhide O_w).reads HV).mono ?_
    rintro e e4 ⟨rfl, hb⟩
    clear p0_h p1_h p2_h p3_h
    clear p0_w p1_w p2_w p3_w
    replace A := hide ((unhide A).step hb)
    replace O_w := hide ((unhide O_w).below hb)
    replace K_w := hide ((hb.block _ (by omega)).trans (unhide K_w))
    replace K_x := hide ((hb.block _ (by omega)).trans (unhide K_x))
    replace K_g := hide ((hb.block _ (by omega)).trans (unhide K_g))
    replace O_g := hide ((unhide O_g).below hb)
    replace O_h := hide ((unhide O_h).below hb)
    replace K_h := hide ((hb.block _ (by omega)).trans (unhide K_h))
    have zz_e4 := hb.size
    clear hb
    have p0_g := (heap_at (unhide K_g) 0).1
    have p1_g := (heap_at (unhide K_g) 1).1
    have p2_g := (heap_at (unhide K_g) 2).1
    have p3_g := (heap_at (unhide K_g) 3).1
    go_wp2_with fail
    refine (heldVersZ RN (unhide O_g) hkg).mono ?_
    rintro e e5 ⟨rfl, hb⟩
    simp only
    clear p0_g p1_g p2_g p3_g
    replace A := hide ((unhide A).step hb)
    replace O_w := hide ((unhide O_w).below hb)
    replace K_w := hide ((hb.block _ (by omega)).trans (unhide K_w))
    replace K_x := hide ((hb.block _ (by omega)).trans (unhide K_x))
    replace K_g := hide ((hb.block _ (by omega)).trans (unhide K_g))
    replace O_g := hide ((unhide O_g).below hb)
    replace O_h := hide ((unhide O_h).below hb)
    replace K_h := hide ((hb.block _ (by omega)).trans (unhide K_h))
    have zz_e5 := hb.size
    clear hb
    go_wp2_with fail
    go_ret
    exact ⟨rfl, (unhide A).bel⟩
end Go.Proofs.YtcflepnckjappaaGreat

namespace Go.Proofs.YtcflepnckjappaaGreat

theorem jf_and {a b : Bool} (ha : a = true) (hb : b = true) : (a && b) = true := by rw [ha, hb]; rfl
set_option maxRecDepth 100000 in
set_option maxHeartbeats 16000000 in
theorem jf_recover : joinedFacts Tryz.prog 6 Tryz.f6 Rows.fnExactRecoverSpec Rows.fnExactRecoverRow = true := by
  unfold joinedFacts
  iterate 31 (refine jf_and ?_ ?_)
  all_goals (as_aux_lemma => kernel_rfl)
end Go.Proofs.YtcflepnckjappaaGreat

namespace Go.Proofs.YtcflepnckjappaaGreat.fnExactRecoverFrame
open Go.ChangeShapes Go.WideShapes Go.ChangeAt Go.RowKit
open Go.ChangeMaps (open_string shut_string)
set_option linter.unusedVariables false

theorem own : ownKnob Tryz.prog.godebug = none := by kernel_rfl
theorem laidOut : laidOutB Tryz.prog = true := by kernel_rfl

set_option maxRecDepth 100000 in
theorem lifted (os : Os) (started : os.Started) (H : Type) (enc : TypeId × Value → H) :
    ReturnsInHanded {} Tryz.checked os 6 .any (Rows.fnExactRecoverSpec.pre6 enc Tryz.prog Tryz.f6 Rows.fnExactRecoverRow.domain false) (Rows.fnExactRecoverSpec.post enc Tryz.prog Tryz.f6 false true false false) := by
  refine returnsInHanded_of_change (C := Tryz.checked) own started (by kernel_rfl) Tryz.func6
    (ChangeSpec.witness6 (enc := enc) (C := Tryz.checked) false ⟨#[], #[.agg #[.slice none 0 0, .slice none 0 0]], []⟩ 8 (by kernel_rfl) (by kernel_rfl) (by kernel_rfl) (by kernel_rfl)) ?_
  intro W base args ds gs before hval0 hW _ _
  have hval : ∀ (j : Nat) t v, Tryz.f6.params[j]? = some t → args[j]? = some v → Value.okWide Tryz.prog W .any base t v := hval0
  have hW' := hW
  obtain ⟨p, q, hA0, hV, rfl, _, _⟩ := hW
  have hA : DataW.TrodAll enc Tryz.prog W 0 (fun _ => true) true Tryz.f6.params.toList args.toList ds p := hA0
  rw [Tryz.params6] at hA hval
  obtain ⟨v0, vs0, d0, ds0, p0, q0, hargs, rfl, rfl, h0, r0⟩ := trodAll_cons hA
  obtain ⟨rfl, rfl, rfl⟩ := trodAll_nil r0
  obtain rfl : args = #[v0] := by cases args; simp_all
  obtain ⟨rfl, rfl⟩ := trodVars_none hV
  have k0 := h0
  have lt0 : ∀ x ∈ p0, x.block < W.heap.size := by obtain ⟨m, hm⟩ := k0; exact DataW.trod_lt m _ _ _ hm
  obtain ⟨ah0, nh0, ch0, aw0, nw0, cw0, xs0, ws0, rfl, w0⟩ := open_flash8 (hval 0 83 v0 rfl rfl) h0
  clear hA0 hval0
  refine (lawRecover_any ah0 nh0 ch0 aw0 nw0 cw0 xs0 ws0 W w0).mono fun e W' ⟨he, bel⟩ => ?_
  subst he
  exact ⟨_, rfl, _, _, _, [], _, [], hW', trodAll_mk1 (shut_bool Tryz.underlying4 _), (trodAll_cons_mk (Below.trod laidOut (by kernel_rfl) (of_decide_eq_true (by kernel_rfl)) k0 bel lt0) trodAll_mk0), rfl, bel.frame _, fun h => by cases h⟩

theorem over : Rows.fnExactRecoverRow.holds Tryz.pinned (OpenSpec.ofChange Rows.fnExactRecoverSpec) :=
  OpenClaim.holds_of_wide 6 Tryz.f6 rfl rfl rfl rfl rfl rfl rfl ⟨rfl, rfl, rfl, rfl, rfl⟩ rfl rfl rfl rfl rfl (by kernel_rfl) Tryz.func6 jf_recover
    (of_decide_eq_true (by kernel_rfl)) (by unfold Func.isWrapper; first | (rw [if_pos (by decide +kernel)]; kernel_rfl) | (rw [if_neg (by decide +kernel)]; exact ⟨rfl, rfl⟩))
    (fun os started H enc _ => lifted os started H enc)

end Go.Proofs.YtcflepnckjappaaGreat.fnExactRecoverFrame
namespace Go.Proofs.YtcflepnckjappaaGreat
/-- THE STATEMENT. -/
theorem fnExactRecover_proved : Rows.FnExactRecoverSaid := fnExactRecoverFrame.over
#print axioms fnExactRecover_proved
end Go.Proofs.YtcflepnckjappaaGreat
