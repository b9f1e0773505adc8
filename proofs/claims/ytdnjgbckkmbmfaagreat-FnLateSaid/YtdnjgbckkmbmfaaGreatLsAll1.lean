/-
  VvA, VrO, VrP, VrQ, VrW, VoA, PageC, PageD, PageE, PageF, PageG, PageH, PageI, PageJ, PageK, PageM, XaC, TxL, AppL, VpA in one.
-/
import Derived.Test.YtdnjgbckkmbmfaaGreatSsB
import Derived.Test.YtdnjgbckkmbmfaaGreatFnT
import Derived.Test.YtdnjgbckkmbmfaaGreatFnE
import Derived.Lib.Bytealg
import Derived.Deep.RegionWith
import Derived.Deep.RegionHeld3
import Derived.Deep.Cut
import Derived.Test.YtdnjgbckkmbmfaaGreatTakes
import Derived.Test.YtdnjgbckkmbmfaaGreatPageB
import Derived.Laws.CopyRow
import Derived.Laws.Externs
import Derived.Laws.IdiomCopy
import Derived.Lib.Overlaps
import Derived.Lib.AppendZerosOnto
import Derived.Deep.RegionLaw
import Derived.Lib.SliceRun
import Derived.Deep.DeepCutAuto
import Derived.Test.YtdnjgbckkmbmfaaGreatVeL
set_option maxRecDepth 100000
namespace Go.Proofs.YtdnjgbckkmbmfaaGreat
open Go.RowKit

structure VsD where
 next : Int
 list : List VerD
 fen : List FenD
 ses : List SesD
abbrev vsv (next : Int) (l f s : Sl) : Value := .agg #[.int .i64 next, .slice l.a l.n l.c, .slice f.a f.n f.c, .slice s.a s.n s.c]
structure VsAt (w : World) (l f s : Sl) (rs : List SesR) (d : VsD) : Prop where
 v : VRow w l.a l.n d.list
 f : FRow w f.a f.n d.fen
 s : SRow w s.a s.n rs
 ss : SsAt w rs d.ses
theorem VsAt.below {w w' : World} {l f s : Sl} {rs : List SesR} {d : VsD} (h : VsAt w l f s rs d) (hb : Below w.heap.size w w') : VsAt w' l f s rs d := ⟨h.v.below hb, h.f.below hb, h.s.below hb, h.ss.below hb⟩
structure VsFew (l f s : Sl) (rs : List SesR) : Prop where
 l : l.n ≤ 1048576
 f : f.n ≤ 1048576
 s : s.n ≤ 1048576
 w : ∀ i (h : i < rs.length), rs[i].ws.n ≤ 1048576
end Go.Proofs.YtdnjgbckkmbmfaaGreat

namespace Go.Proofs.YtdnjgbckkmbmfaaGreat
open Go.RowKit

def vrCmpT (a b : ByteArray) : Int := if Op.bytesLess a.toList b.toList then -1 else if Op.bytesLess b.toList a.toList then 1 else 0
theorem vrCmpB_eq : ∀ a b : List UInt8, Lib.compareBytes a b = if Op.bytesLess a b then -1 else if Op.bytesLess b a then 1 else 0
 | [], [] => by simp [Lib.compareBytes, Op.bytesLess]
 | [], _ :: _ => by simp [Lib.compareBytes, Op.bytesLess]
 | _ :: _, [] => by simp [Lib.compareBytes, Op.bytesLess]
 | a :: r, b :: s => by
  have ih := vrCmpB_eq r s
  have e1 : Op.bytesLess (a :: r) (b :: s) = (decide (a < b) || (a == b && Op.bytesLess r s)) := rfl
  have e2 : Op.bytesLess (b :: s) (a :: r) = (decide (b < a) || (b == a && Op.bytesLess s r)) := rfl
  rw [e1, e2]
  unfold Lib.compareBytes
  by_cases h1 : a < b
  ·simp [h1]
  ·by_cases h2 : b < a
   ·have ne : ¬ a = b := fun e => by subst e; exact absurd h2 (UInt8.lt_irrefl _)
    simp [h1, h2, ne]
   ·have e : a = b := UInt8.le_antisymm (UInt8.not_lt.1 h2) (UInt8.not_lt.1 h1)
    subst e
    simp [h1, ih]
theorem vrCmpT_eq (a b : ByteArray) : Extern.BytealgCompare.cmp a b = vrCmpT a b := by
 rw [Lib.cmp_eq, vrCmpB_eq, vrCmpT, ByteArray.toList_eq, ByteArray.toList_eq]
theorem vr_run_cmps (a b : ByteArray) (w : World) : (callFunc 148 #[.string a, .string b]).run Tryz.prog w = .ok (.value (.int .i64 (Extern.BytealgCompare.cmp a b))) w := by kernel_rfl
theorem vr_bytealgCmp_any (a b : ByteArray) (w : World) : Calls Tryz.prog 135 #[.string a, .string b] w fun e w' => e = .returned (.int .i64 (vrCmpT a b)) ∧ w' = w := by
 have hr := vr_run_cmps a b
 rw [vrCmpT_eq] at hr
 go_enter Tryz.func135, Tryz.ntmps135
 go_wp2_with fail
 go_ret
 exact ⟨rfl, rfl⟩
theorem vr_stringsCmp_any (a b : ByteArray) (w : World) : Calls Tryz.prog 115 #[.string a, .string b] w fun e w' => e = .returned (.int .i64 (vrCmpT a b)) ∧ w' = w := by
 go_enter Tryz.func115, Tryz.ntmps115
 go_wp2_with fail
 refine (vr_bytealgCmp_any a b _).mono ?_
 rintro e w1 ⟨rfl, rfl⟩
 go_wp2_with fail
 go_ret
 exact ⟨rfl, rfl⟩
def vrCmpI (x y : Int) : Int := if x < y then -1 else if y < x then 1 else 0
theorem vr_isNaNi_any (x : Int) (w : World) : Calls Tryz.prog 136 #[.int .i64 x] w fun e w' => e = .returned (.bool false) ∧ w' = w := by
 go_enter Tryz.func136, Tryz.ntmps136
 go_wp2
 all_goals go_ret
 all_goals exact ⟨ret_bool (by simp), rfl⟩
set_option maxHeartbeats 400000 in
theorem vr_cmpInt_any (x y : Int) (w : World) : Calls Tryz.prog 116 #[.int .i64 x, .int .i64 y] w fun e w' => e = .returned (.int .i64 (vrCmpI x y)) ∧ w' = w := by
 rcases (show x < y ∨ x = y ∨ y < x from by omega) with h | h | h
 ·have H := hide (show vrCmpI x y = -1 by simp [vrCmpI, h])
  go_enter Tryz.func116, Tryz.ntmps116
  go_wp2_with (go_at_call 136; refine (vr_isNaNi_any _ _).mono ?_; rintro e w' ⟨rfl, rfl⟩)
  all_goals go_ret
  all_goals exact ⟨ret_int (unhide H).symm, rfl⟩
 ·subst h
  have H := hide (show vrCmpI x x = 0 by simp [vrCmpI])
  go_enter Tryz.func116, Tryz.ntmps116
  go_wp2_with (go_at_call 136; refine (vr_isNaNi_any _ _).mono ?_; rintro e w' ⟨rfl, rfl⟩)
  all_goals go_ret
  all_goals exact ⟨ret_int (unhide H).symm, rfl⟩
 ·have H := hide (show vrCmpI x y = 1 by simp [vrCmpI, h]; omega)
  go_enter Tryz.func116, Tryz.ntmps116
  go_wp2_with (go_at_call 136; refine (vr_isNaNi_any _ _).mono ?_; rintro e w' ⟨rfl, rfl⟩)
  all_goals go_ret
  all_goals exact ⟨ret_int (unhide H).symm, rfl⟩
set_option maxHeartbeats 1000000 in
theorem cmpOr_any (g : Nat) (x y : Int) (w : World) (h0 : w.cell? ⟨g, 0, none⟩ = some (.int .i64 x)) (h1 : w.cell? ⟨g, 1, none⟩ = some (.int .i64 y)) :
  Calls Tryz.prog 114 #[.slice (some ⟨g, 0, none⟩) 2 2] w fun e w' => e = .returned (.int .i64 (if x = 0 then y else x)) ∧ w' = w := by
 by_cases hx : x = 0
 ·subst hx
  rw [if_pos rfl]
  by_cases hy : y = 0
  ·subst hy
   go_enter Tryz.func114, Tryz.ntmps114
   go_wp2_with fail
   refine wp_loop_rounds 3 ?_
   rw [rounds_succ]
   go_wp2_with fail
   rw [rounds_succ]
   go_wp2_with fail
   rw [rounds_succ]
   go_wp2_with fail
   go_ret
   exact ⟨rfl, rfl⟩
  ·go_enter Tryz.func114, Tryz.ntmps114
   go_wp2_with fail
   refine wp_loop_rounds 2 ?_
   rw [rounds_succ]
   go_wp2_with fail
   rw [rounds_succ]
   go_wp2_with fail
   go_ret
   exact ⟨rfl, rfl⟩
 ·rw [if_neg hx]
  go_enter Tryz.func114, Tryz.ntmps114
  go_wp2_with fail
  refine wp_loop_rounds 1 ?_
  rw [rounds_succ]
  go_wp2_with fail
  go_ret
  exact ⟨rfl, rfl⟩
def vrCmp (a b : VerD) : Int := if vrCmpT a.k b.k = 0 then vrCmpI a.t b.t else vrCmpT a.k b.k
theorem vrCmp_lt (a b : VerD) : decide (vrCmp a b ≥ 0) = !ltV a b := by
 unfold vrCmp ltV vrCmpT vrCmpI
 by_cases h1 : ltK a.k b.k = true
 ·have h1' : Op.bytesLess a.k.toList b.k.toList = true := h1
  simp [h1, h1']
 ·have h1' : Op.bytesLess a.k.toList b.k.toList = false := by simpa [ltK] using h1
  have h1f : ltK a.k b.k = false := by simpa using h1
  by_cases h2 : ltK b.k a.k = true
  ·have h2' : Op.bytesLess b.k.toList a.k.toList = true := h2
   have hne : ¬ a.k = b.k := fun e => by rw [e, ltK_irr] at h2; cases h2
   simp [h1f, h1', h2', hne]
  ·have h2' : Op.bytesLess b.k.toList a.k.toList = false := by simpa [ltK] using h2
   have e : a.k = b.k := ltK_eq h1f (by simpa using h2)
   rw [h1f, h1', h2', decide_eq_true e]
   by_cases h3 : a.t < b.t
   ·simp [h3]
   ·by_cases h4 : b.t < a.t
    ·simp [h3, h4]
    ·simp [h3, h4]
set_option maxHeartbeats 4000000 in
theorem compareVersions_any (a b : VerD) (w : World) :
  Calls Tryz.prog 83 #[vv a, vv b] w fun e w' => e = .returned (.int .i64 (vrCmp a b)) ∧ Below w.heap.size w w' := by
 obtain ⟨k, t, v, g⟩ := a
 obtain ⟨k', t', v', g'⟩ := b
 unfold vv
 have E := hide (show (if vrCmpT k k' = 0 then vrCmpI t t' else vrCmpT k k') = vrCmp ⟨k, t, v, g⟩ ⟨k', t', v', g'⟩ from rfl)
 generalize vrCmp ⟨k, t, v, g⟩ ⟨k', t', v', g'⟩ = R at *
 have S1 := hide (vr_stringsCmp_any k k')
 have S2 := hide (vr_cmpInt_any t t')
 generalize vrCmpT k k' = x at *
 generalize vrCmpI t t' = y at *
 have S3 := hide (fun (g : Nat) (w : World) (h0 : w.cell? ⟨g, 0, none⟩ = some (.int .i64 x)) (h1 : w.cell? ⟨g, 1, none⟩ = some (.int .i64 y)) => show Calls Tryz.prog 114 #[.slice (some ⟨g, 0, none⟩) 2 2] w fun e w' => e = .returned (.int .i64 R) ∧ w' = w by rw [← unhide E]; exact cmpOr_any g x y w h0 h1)
 clear E
 have B0 : Below w.heap.size w ((w.alloc (.cells #[.string k, .int .i64 t, .string v, .bool g] 43)).alloc (.cells #[.string k', .int .i64 t', .string v', .bool g'] 43)) := ((Below.refl _ _).alloc (Nat.le_refl _) _).alloc (by simp) _
 have c0 : ((w.alloc (.cells #[.string k, .int .i64 t, .string v, .bool g] 43)).alloc (.cells #[.string k', .int .i64 t', .string v', .bool g'] 43)).cell? ⟨w.heap.size, 0, none⟩ = some (.string k) := by simp
 have c1 : ((w.alloc (.cells #[.string k, .int .i64 t, .string v, .bool g] 43)).alloc (.cells #[.string k', .int .i64 t', .string v', .bool g'] 43)).cell? ⟨w.heap.size, 1, none⟩ = some (.int .i64 t) := by simp
 have c2 : ((w.alloc (.cells #[.string k, .int .i64 t, .string v, .bool g] 43)).alloc (.cells #[.string k', .int .i64 t', .string v', .bool g'] 43)).cell? ⟨w.heap.size + 1, 0, none⟩ = some (.string k') := by simp
 have c3 : ((w.alloc (.cells #[.string k, .int .i64 t, .string v, .bool g] 43)).alloc (.cells #[.string k', .int .i64 t', .string v', .bool g'] 43)).cell? ⟨w.heap.size + 1, 1, none⟩ = some (.int .i64 t') := by simp
 go_enter Tryz.func83, Tryz.ntmps83
 go_upto_region 1 with fail
 generalize (w.alloc (.cells #[.string k, .int .i64 t, .string v, .bool g] 43)).alloc (.cells #[.string k', .int .i64 t', .string v', .bool g'] 43) = W at *
 generalize w.heap.size + 1 = b1 at *
 generalize hb0 : w.heap.size = b0 at *
 have SK := hide (show ∀ u, Below W.heap.size W u → (fun u => Below W.heap.size W u ∧ u.cell? ⟨b0, 0, none⟩ = some (.string k) ∧ u.cell? ⟨b0, 1, none⟩ = some (.int .i64 t) ∧ u.cell? ⟨b1, 0, none⟩ = some (.string k') ∧ u.cell? ⟨b1, 1, none⟩ = some (.int .i64 t')) u from fun u hb =>
  ⟨hb, (hb.cell (p := ⟨b0, 0, none⟩) (cell_lt c0)).trans c0, (hb.cell (p := ⟨b0, 1, none⟩) (cell_lt c1)).trans c1, (hb.cell (p := ⟨b1, 0, none⟩) (cell_lt c2)).trans c2, (hb.cell (p := ⟨b1, 1, none⟩) (cell_lt c3)).trans c3⟩)
 have G0 : Below W.heap.size W W.drew := (Below.refl _ _).drew
 go_region_held3 (fun u => Below W.heap.size W u ∧ u.cell? ⟨b0, 0, none⟩ = some (.string k) ∧ u.cell? ⟨b0, 1, none⟩ = some (.int .i64 t) ∧ u.cell? ⟨b1, 0, none⟩ = some (.string k') ∧ u.cell? ⟨b1, 1, none⟩ = some (.int .i64 t')) (exact unhide SK _ (by first | assumption | exact ((Below.refl _ _).alloc (Nat.le_refl _) _).drew | exact (Below.refl _ _).alloc (Nat.le_refl _) _)) (first
  | (go_at_call 115; refine (unhide S1 _).mono ?_; rintro e w' ⟨rfl, rfl⟩)
  | (go_at_call 116; refine (unhide S2 _).mono ?_; rintro e w' ⟨rfl, rfl⟩)
  | (go_at_call 114; refine (unhide S3 _ _ (by refine rb_cell_new ?_ ?_; simp; rfl) (by refine rb_cell_new ?_ ?_; simp; rfl)).mono ?_; rintro e w' ⟨rfl, rfl⟩))
 all_goals
  have hsz := B0.size
  go_wp2_with fail
  go_ret
  subst hb0
  exact ⟨rfl, by first | exact (B0.alloc hsz _).drew | exact B0.alloc hsz _ | exact bel_drewN (B0.alloc hsz _) _⟩
end Go.Proofs.YtdnjgbckkmbmfaaGreat

namespace Go.Proofs.YtdnjgbckkmbmfaaGreat
open Go.RowKit

set_option maxHeartbeats 1000000 in
theorem versionOK_any (d : VerD) (w : World) : Calls Tryz.prog 82 #[vv d] w fun e w' => e = .returned (.bool (verK d)) ∧ Below w.heap.size w w' := by
 obtain ⟨k, t, v, g⟩ := d
 unfold vv
 have B0 := hide (show Below w.heap.size w (w.alloc (.cells #[.string k, .int .i64 t, .string v, .bool g] 43)) from (Below.refl _ _).alloc (Nat.le_refl _) _)
 have E := hide (show ∀ a b c : Bool, keyK k = a → valK v = b → idK t = c → (a && b && c && (!g || v.toList.isEmpty)) = verK ⟨k, t, v, g⟩ from fun a b c ha hb hc => by subst ha hb hc; rfl)
 have S1 := hide (keyOK_any k)
 have S2 := hide (valueOK_any v)
 have S3 := hide (idOK_any t)
 generalize hka : keyK k = ka at *
 generalize hva : valK v = va at *
 generalize hia : idK t = ia at *
 replace E := hide (unhide E ka va ia rfl rfl rfl)
 generalize verK ⟨k, t, v, g⟩ = R at *
 by_cases h : (g && !v.toList.isEmpty) = true
 ·obtain ⟨h1, h2⟩ := Bool.and_eq_true_iff.1 h
  have h2' : v.toList.isEmpty = false := by simpa using h2
  subst h1
  replace E := hide (show false = R by rw [← unhide E, h2']; simp)
  go_enter Tryz.func82, Tryz.ntmps82
  go_wp2_with fail
  go_ret
  exact ⟨ret_bool (unhide E), unhide B0⟩
 ·replace E := hide (show (ka && va && ia) = R by
   rw [← unhide E]
   cases g <;> cases hv : v.toList.isEmpty <;> simp_all)
  have hg : g = false ∨ (g = true ∧ v.toList.isEmpty = true) := by
   cases g <;> cases hv : v.toList.isEmpty <;> simp_all
  clear h
  cases ka
  ·replace E := hide (show false = R by rw [← unhide E]; simp)
   rcases hg with rfl | ⟨rfl, hv⟩
   all_goals
    go_enter Tryz.func82, Tryz.ntmps82
    go_wp2_with (go_at_call 102; refine (unhide S1 _).mono ?_; rintro e w1 ⟨rfl, rfl⟩)
    go_ret
    exact ⟨ret_bool (unhide E), unhide B0⟩
  ·cases va
   ·replace E := hide (show false = R by rw [← unhide E]; simp)
    rcases hg with rfl | ⟨rfl, hv⟩
    all_goals
     go_enter Tryz.func82, Tryz.ntmps82
     go_wp2_with (first | (go_at_call 102; refine (unhide S1 _).mono ?_; rintro e w1 ⟨rfl, rfl⟩) | (go_at_call 103; refine (unhide S2 _).mono ?_; rintro e w1 ⟨rfl, rfl⟩))
     go_ret
     exact ⟨ret_bool (unhide E), unhide B0⟩
   ·replace E := hide (show ia = R by rw [← unhide E]; simp)
    rcases hg with rfl | ⟨rfl, hv⟩
    all_goals
     go_enter Tryz.func82, Tryz.ntmps82
     go_wp2_with (first | (go_at_call 102; refine (unhide S1 _).mono ?_; rintro e w1 ⟨rfl, rfl⟩) | (go_at_call 103; refine (unhide S2 _).mono ?_; rintro e w1 ⟨rfl, rfl⟩) | (go_at_call 113; refine (unhide S3 _).mono ?_; rintro e w1 ⟨rfl, rfl⟩))
     go_ret
     exact ⟨ret_bool (unhide E), unhide B0⟩
end Go.Proofs.YtdnjgbckkmbmfaaGreat

namespace Go.Proofs.YtdnjgbckkmbmfaaGreat
open Go.RowKit

theorem vr_step {ds : List VerD} {k : Nat} {b : Bool} (hk : k < ds.length) (hok : ∀ i, i < k → okAtV ds i = true) (h : okAtV ds k = b) : if b = true then ∀ i, i < k + 1 → okAtV ds i = true else okVs ds = false := by
 cases b
 ·exact okVs_false hk h
 ·intro i hi
  by_cases e : i < k
  ·exact hok i e
  ·rw [show i = k by omega]; exact h
set_option maxHeartbeats 8000000 in
theorem listOK_any (a : Option Addr) (n c : Nat) (ds : List VerD) (w : World) (hn : n ≤ 1048576) (hr : VRow w a n ds) :
  Calls Tryz.prog 39 #[.slice a n c] w fun e w' => e = .returned (.bool (okVs ds)) ∧ Below w.heap.size w w' := by
 have L := hide hr.1
 have R := hide hr
 clear hr
 go_enter Tryz.func39, Tryz.ntmps39
 go_wp2_with fail
 go_loopw [7] (fun i wr => ∃ k : Nat, k ≤ n ∧ i = .int .i64 k ∧ Hid (∀ i, i < k → okAtV ds i = true) ∧ Below w.heap.size w wr) (fun i _ => n - (intOf i).toNat)
 case atStart => exact ⟨0, by omega, rfl, (fun i hi => absurd hi (Nat.not_lt_zero _)), Below.refl _ _⟩
 case round =>
  obtain ⟨k, hk, rfl, hok, hb⟩ := hrel
  by_cases hlt : k < n
  ·have hk2 : k < ds.length := by rw [unhide L]; exact hlt
   obtain ⟨b, off, rfl, d0, d1, d2, d3⟩ := ((unhide R).below hb).2 k hk2
   have hsz := hb.size
   have ST := hide (fun b => vr_step (b := b) hk2 (unhide hok))
   have SV := hide (versionOK_any ds[k])
   have SC := hide (fun j (hj : j < ds.length) => compareVersions_any ds[j] ds[k])
   have E0 := hide (show k = 0 → okAtV ds k = verK ds[k] from fun e => by subst e; exact okAtV_zero hk2)
   have E1 := hide (show ∀ (h : 0 < k), okAtV ds k = (verK ds[k] && ltV (ds[k - 1]'(by omega)) ds[k]) from fun h => by
    obtain ⟨j, rfl⟩ : ∃ j, k = j + 1 := ⟨k - 1, by omega⟩
    exact okAtV_succ hk2)
   have CL := hide (fun j (hj : j < ds.length) => vrCmp_lt ds[j] ds[k])
   have B1 := hide (hb.alloc hsz (.cells #[.string ds[k].k, .int .i64 ds[k].t, .string ds[k].v, .bool ds[k].g] 43))
   generalize ds[k] = pd at *
   obtain ⟨pk, pt, pv, pg⟩ := pd
   simp only at d0 d1 d2 d3 B1
   unfold vv at SV SC
   simp only at SV SC
   clear hok
   go_upto_region 4 with fail
   clear d0 d1 d2 d3
   have c0 : (wr.alloc (.cells #[.string pk, .int .i64 pt, .string pv, .bool pg] 43)).cell? ⟨wr.heap.size, 0, none⟩ = some (.string pk) := by simp
   have c1 : (wr.alloc (.cells #[.string pk, .int .i64 pt, .string pv, .bool pg] 43)).cell? ⟨wr.heap.size, 1, none⟩ = some (.int .i64 pt) := by simp
   have c2 : (wr.alloc (.cells #[.string pk, .int .i64 pt, .string pv, .bool pg] 43)).cell? ⟨wr.heap.size, 2, none⟩ = some (.string pv) := by simp
   have c3 : (wr.alloc (.cells #[.string pk, .int .i64 pt, .string pv, .bool pg] 43)).cell? ⟨wr.heap.size, 3, none⟩ = some (.bool pg) := by simp
   generalize wr.alloc (.cells #[.string pk, .int .i64 pt, .string pv, .bool pg] 43) = W at *
   generalize wr.heap.size = bx at *
   clear hb hsz
   have hsz := (unhide B1).size
   have SK := hide (show ∀ u, Below W.heap.size W u → (fun u => Below W.heap.size W u ∧ u.cell? ⟨bx, 0, none⟩ = some (.string pk) ∧ u.cell? ⟨bx, 1, none⟩ = some (.int .i64 pt) ∧ u.cell? ⟨bx, 2, none⟩ = some (.string pv) ∧ u.cell? ⟨bx, 3, none⟩ = some (.bool pg)) u from fun u hb =>
    ⟨hb, (hb.cell (p := ⟨bx, 0, none⟩) (cell_lt c0)).trans c0, (hb.cell (p := ⟨bx, 1, none⟩) (cell_lt c1)).trans c1, (hb.cell (p := ⟨bx, 2, none⟩) (cell_lt c2)).trans c2, (hb.cell (p := ⟨bx, 3, none⟩) (cell_lt c3)).trans c3⟩)
   have SV' := hide (fun (u : World) (hb : Below W.heap.size W u) => (unhide SV u).mono fun e u' h => show e = .returned (.bool (verK ⟨pk, pt, pv, pg⟩)) ∧ Below W.heap.size W u' from ⟨h.1, hb.trans (h.2.mono hb.size)⟩)
   have BE := hide (show ∀ u, Below W.heap.size W u → Below w.heap.size w u from fun u hb => (unhide B1).trans (hb.mono hsz))
   clear SV
   have G0 : Below W.heap.size W W.drew := (Below.refl _ _).drew
   generalize hvk : verK ⟨pk, pt, pv, pg⟩ = vk at *
   cases vk
   ·have Z := hide (show okVs ds = false by
     have := unhide ST false (by
      by_cases h0 : k = 0
      ·exact unhide E0 h0
      ·rw [unhide E1 (by omega)]; rfl)
     simpa using this)
    refine wp_region_held_drew (S := (fun u => Below W.heap.size W u ∧ u.cell? ⟨bx, 0, none⟩ = some (.string pk) ∧ u.cell? ⟨bx, 1, none⟩ = some (.int .i64 pt) ∧ u.cell? ⟨bx, 2, none⟩ = some (.string pv) ∧ u.cell? ⟨bx, 3, none⟩ = some (.bool pg))) (by kernel_rfl) (unhide SK _ G0) (fun hHeld => ?_)
    refine tk 0 12 rfl rfl hHeld ?_
    simp only [Act.put, lA, lB, lC]
    refine rd [1] (.cons rfl (fun K hK => ?_) .nil)
    go_simp
    refine (unhide SV' _ G0).mono ?_
    rintro e w2 ⟨rfl, b2⟩
    refine hK.out _ _ (unhide SK _ b2) (fun hHeld => ?_)
    clear hK K
    refine tk 2 14 rfl rfl hHeld ?_
    simp only [Act.put, lA, lB, lC]
    refine tk 3 15 rfl rfl hHeld ?_
    simp only [Act.put, lA, lB, lC]
    refine anyH_skip 4 16 rfl rfl (by kernel_rfl) (by kernel_rfl) (by kernel_rfl) (fun _ _ _ h => h) (by rfl) hHeld ?_
    simp only [Act.put, lA, lB, lC]
    refine anyH_skip 5 17 rfl rfl (by kernel_rfl) (by kernel_rfl) (by kernel_rfl) (fun _ _ _ h => h) (by rfl) hHeld ?_
    simp only [Act.put, lA, lB, lC]
    refine anyH_skip 6 18 rfl rfl (by kernel_rfl) (by kernel_rfl) (by kernel_rfl) (fun _ _ _ h => h) (by rfl) hHeld ?_
    simp only [Act.put, lA, lB, lC]
    refine anyH_skip 7 19 rfl rfl (by kernel_rfl) (by kernel_rfl) (by kernel_rfl) (fun _ _ _ h => h) (by rfl) hHeld ?_
    simp only [Act.put, lA, lB, lC]
    refine anyH_skip 8 20 rfl rfl (by kernel_rfl) (by kernel_rfl) (by kernel_rfl) (fun _ _ _ h => h) (by rfl) hHeld ?_
    simp only [Act.put, lA, lB, lC]
    refine anyH_skip 9 21 rfl rfl (by kernel_rfl) (by kernel_rfl) (by kernel_rfl) (fun _ _ _ h => h) (by rfl) hHeld ?_
    simp only [Act.put, lA, lB, lC]
    refine anyH_skip 10 22 rfl rfl (by kernel_rfl) (by kernel_rfl) (by kernel_rfl) (fun _ _ _ h => h) (by rfl) hHeld ?_
    simp only [Act.put, lA, lB, lC]
    refine anyH_skip 11 23 rfl rfl (by kernel_rfl) (by kernel_rfl) (by kernel_rfl) (fun _ _ _ h => h) (by rfl) hHeld ?_
    simp only [Act.put, lA, lB, lC]
    refine anyH_skip 12 24 rfl rfl (by kernel_rfl) (by kernel_rfl) (by kernel_rfl) (fun _ _ _ h => h) (by rfl) hHeld ?_
    simp only [Act.put, lA, lB, lC]
    refine anyH_skip 13 25 rfl rfl (by kernel_rfl) (by kernel_rfl) (by kernel_rfl) (fun _ _ _ h => h) (by rfl) hHeld ?_
    simp only [Act.put, lA, lB, lC]
    refine anyH_skip 14 26 rfl rfl (by kernel_rfl) (by kernel_rfl) (by kernel_rfl) (fun _ _ _ h => h) (by rfl) hHeld ?_
    simp only [Act.put, lA, lB, lC]
    refine anyH_skip 15 27 rfl rfl (by kernel_rfl) (by kernel_rfl) (by kernel_rfl) (fun _ _ _ h => h) (by rfl) hHeld ?_
    simp only [Act.put, lA, lB, lC]
    refine tk 16 28 rfl rfl hHeld ?_
    simp only [Act.put, lA, lB, lC]
    refine wpAnyH_done (by kernel_rfl) ?_ _
    all_goals
     have BF := unhide BE _ b2
     go_wp2_with fail
     go_ret
     exact ⟨ret_bool (unhide Z).symm, BF⟩
   ·by_cases hk0 : k = 0
    ·have Z := hide (show ∀ i, i < k + 1 → okAtV ds i = true by
      have := unhide ST true (unhide E0 hk0)
      simpa using this)
     have hg : decide ((0 : Int) < (k : Int)) = false := decide_eq_false (by omega)
     have hg1 : decide (0 < k) = false := decide_eq_false (by omega)
     refine wp_region_held_drew (S := (fun u => Below W.heap.size W u ∧ u.cell? ⟨bx, 0, none⟩ = some (.string pk) ∧ u.cell? ⟨bx, 1, none⟩ = some (.int .i64 pt) ∧ u.cell? ⟨bx, 2, none⟩ = some (.string pv) ∧ u.cell? ⟨bx, 3, none⟩ = some (.bool pg))) (by kernel_rfl) (unhide SK _ G0) (fun hHeld => ?_)
     refine tk 0 12 rfl rfl hHeld ?_
     simp only [Act.put, lA, lB, lC]
     refine rd [1] (.cons rfl (fun K hK => ?_) .nil)
     go_simp
     refine (unhide SV' _ G0).mono ?_
     rintro e w2 ⟨rfl, b2⟩
     refine hK.out _ _ (unhide SK _ b2) (fun hHeld => ?_)
     clear hK K
     refine tk 2 14 rfl rfl hHeld ?_
     simp only [Act.put, lA, lB, lC]
     refine tk 3 15 rfl rfl hHeld ?_
     simp only [Act.put, lA, lB, lC]
     refine tk 4 16 rfl rfl hHeld ?_
     simp only [Act.put, lA, lB, lC]
     refine tk 5 17 rfl rfl hHeld ?_
     simp only [Act.put, lA, lB, lC]
     refine tk 6 18 rfl rfl hHeld ?_
     simp only [Act.put, lA, lB, lC]
     refine anyH_skip 7 19 rfl rfl (by kernel_rfl) (by kernel_rfl) (by kernel_rfl) (fun _ _ _ h => h) (by rfl) hHeld ?_
     simp only [Act.put, lA, lB, lC]
     refine anyH_skip 8 20 rfl rfl (by kernel_rfl) (by kernel_rfl) (by kernel_rfl) (fun _ _ _ h => h) (by rfl) hHeld ?_
     simp only [Act.put, lA, lB, lC]
     refine anyH_skip 9 21 rfl rfl (by kernel_rfl) (by kernel_rfl) (by kernel_rfl) (fun _ _ _ h => h) (by rfl) hHeld ?_
     simp only [Act.put, lA, lB, lC]
     refine anyH_skip 10 22 rfl rfl (by kernel_rfl) (by kernel_rfl) (by kernel_rfl) (fun _ _ _ h => h) (by rfl) hHeld ?_
     simp only [Act.put, lA, lB, lC]
     refine anyH_skip 11 23 rfl rfl (by kernel_rfl) (by kernel_rfl) (by kernel_rfl) (fun _ _ _ h => h) (by rfl) hHeld ?_
     simp only [Act.put, lA, lB, lC]
     refine anyH_skip 12 24 rfl rfl (by kernel_rfl) (by kernel_rfl) (by kernel_rfl) (fun _ _ _ h => h) (by rfl) hHeld ?_
     simp only [Act.put, lA, lB, lC]
     refine anyH_skip 13 25 rfl rfl (by kernel_rfl) (by kernel_rfl) (by kernel_rfl) (fun _ _ _ h => h) (by rfl) hHeld ?_
     simp only [Act.put, lA, lB, lC]
     refine anyH_skip 14 26 rfl rfl (by kernel_rfl) (by kernel_rfl) (by kernel_rfl) (fun _ _ _ h => h) (by rfl) hHeld ?_
     simp only [Act.put, lA, lB, lC]
     refine tk 15 27 rfl rfl hHeld ?_
     simp only [Act.put, lA, lB, lC]
     refine tk 16 28 rfl rfl hHeld ?_
     simp only [Act.put, lA, lB, lC]
     refine wpAnyH_done (by kernel_rfl) ?_ _
     all_goals
      have BF := unhide BE _ b2
      go_wp2_with fail
      go_roundw
      case rel => exact ⟨k + 1, by omega, by go_num, unhide Z, BF⟩
      case measure => simp [intOf]; omega
    ·have hj : k - 1 < ds.length := by omega
     have hkp : 0 < k := by omega
     obtain ⟨b', off', e', q0, q1, q2, q3⟩ := ((unhide R).below (unhide B1)).2 (k - 1) hj
     cases e'
     have SC' := hide (fun (u : World) (hb : Below W.heap.size W u) => (unhide SC (k - 1) hj u).mono fun e u' h => show e = .returned (.int .i64 (vrCmp ds[k - 1] ⟨pk, pt, pv, pg⟩)) ∧ Below W.heap.size W u' from ⟨h.1, hb.trans (h.2.mono hb.size)⟩)
     have CL' := hide (unhide CL (k - 1) hj)
     have E1' := hide (unhide E1 hkp)
     clear SC CL E1 E0
     generalize ds[k - 1] = qd at *
     obtain ⟨qk, qt, qv, qg⟩ := qd
     simp only at q0 q1 q2 q3 SC'
     generalize vrCmp ⟨qk, qt, qv, qg⟩ ⟨pk, pt, pv, pg⟩ = cm at *
     generalize ltV ⟨qk, qt, qv, qg⟩ ⟨pk, pt, pv, pg⟩ = lv at *
     have SK2 := hide (show ∀ u, Below W.heap.size W u → (fun u => Below W.heap.size W u ∧ u.cell? ⟨bx, 0, none⟩ = some (.string pk) ∧ u.cell? ⟨bx, 1, none⟩ = some (.int .i64 pt) ∧ u.cell? ⟨bx, 2, none⟩ = some (.string pv) ∧ u.cell? ⟨bx, 3, none⟩ = some (.bool pg) ∧ u.cell? ⟨b, off + (k - 1) * 4, none⟩ = some (.string qk) ∧ u.cell? ⟨b, off + (k - 1) * 4 + 1, none⟩ = some (.int .i64 qt) ∧ u.cell? ⟨b, off + (k - 1) * 4 + 2, none⟩ = some (.string qv) ∧ u.cell? ⟨b, off + (k - 1) * 4 + 3, none⟩ = some (.bool qg)) u from fun u hb => by
      obtain ⟨x0, x1, x2, x3, x4⟩ := unhide SK u hb
      exact ⟨x0, x1, x2, x3, x4, (hb.cell (p := ⟨b, off + (k - 1) * 4, none⟩) (cell_lt q0)).trans q0, (hb.cell (p := ⟨b, off + (k - 1) * 4 + 1, none⟩) (cell_lt q1)).trans q1, (hb.cell (p := ⟨b, off + (k - 1) * 4 + 2, none⟩) (cell_lt q2)).trans q2, (hb.cell (p := ⟨b, off + (k - 1) * 4 + 3, none⟩) (cell_lt q3)).trans q3⟩)
     have hi1 : ((k : Int) - 1).toNat = k - 1 := by omega
     have hd1 : decide (0 < k) = true := decide_eq_true hkp
     have hd2 : decide ((0 : Int) < (k : Int)) = true := decide_eq_true (by omega)
     have hi2 : (0 : Int) ≤ (k : Int) - 1 := by omega
     have hi4 : (1 : Int) ≤ (k : Int) := by omega
     have hwr : IntKind.i64.wrap ((k : Int) - 1) = (k : Int) - 1 := by rw [IntKind.wrap_i64]; omega
     have hi3 : (k : Int) - 1 < (n : Int) := by omega
     cases lv
     ·have Z := hide (show okVs ds = false by
       have := unhide ST false (by rw [unhide E1']; rfl)
       simpa using this)
      have hcm : 0 ≤ cm := by
       have := unhide CL'
       simpa using this
      clear CL' E1'
      refine wp_region_held_drew (S := (fun u => Below W.heap.size W u ∧ u.cell? ⟨bx, 0, none⟩ = some (.string pk) ∧ u.cell? ⟨bx, 1, none⟩ = some (.int .i64 pt) ∧ u.cell? ⟨bx, 2, none⟩ = some (.string pv) ∧ u.cell? ⟨bx, 3, none⟩ = some (.bool pg) ∧ u.cell? ⟨b, off + (k - 1) * 4, none⟩ = some (.string qk) ∧ u.cell? ⟨b, off + (k - 1) * 4 + 1, none⟩ = some (.int .i64 qt) ∧ u.cell? ⟨b, off + (k - 1) * 4 + 2, none⟩ = some (.string qv) ∧ u.cell? ⟨b, off + (k - 1) * 4 + 3, none⟩ = some (.bool qg))) (by kernel_rfl) (unhide SK2 _ G0) (fun hHeld => ?_)
      refine tk 0 12 rfl rfl hHeld ?_
      simp only [Act.put, lA, lB, lC]
      refine rd [1] (.cons rfl (fun K hK => ?_) .nil)
      go_simp
      refine (unhide SV' _ G0).mono ?_
      rintro e w2 ⟨rfl, b2⟩
      refine hK.out _ _ (unhide SK2 _ b2) (fun hHeld => ?_)
      clear hK K
      refine tk 2 14 rfl rfl hHeld ?_
      simp only [Act.put, lA, lB, lC]
      refine tk 3 15 rfl rfl hHeld ?_
      simp only [Act.put, lA, lB, lC]
      refine tk 4 16 rfl rfl hHeld ?_
      simp only [Act.put, lA, lB, lC]
      refine tk 5 17 rfl rfl hHeld ?_
      simp only [Act.put, lA, lB, lC]
      refine tk 6 18 rfl rfl hHeld ?_
      simp only [Act.put, lA, lB, lC]
      refine tk 7 19 rfl rfl hHeld ?_
      simp only [Act.put, lA, lB, lC]
      refine tk 8 20 rfl rfl hHeld ?_
      simp only [Act.put, lA, lB, lC]
      refine tk 9 21 rfl rfl hHeld ?_
      simp only [Act.put, lA, lB, lC]
      refine tk 10 22 rfl rfl hHeld ?_
      simp only [Act.put, lA, lB, lC]
      refine tk 11 23 rfl rfl hHeld ?_
      simp only [Act.put, lA, lB, lC]
      refine tk 12 24 rfl rfl hHeld ?_
      simp only [Act.put, lA, lB, lC]
      refine rd [13] (.cons rfl (fun K hK => ?_) .nil)
      go_simp
      refine (unhide SC' _ b2).mono ?_
      rintro e w3 ⟨rfl, b3⟩
      refine hK.out _ _ (unhide SK2 _ b3) (fun hHeld => ?_)
      clear hK K
      refine tk 14 26 rfl rfl hHeld ?_
      simp only [Act.put, lA, lB, lC]
      refine tk 15 27 rfl rfl hHeld ?_
      simp only [Act.put, lA, lB, lC]
      refine tk 16 28 rfl rfl hHeld ?_
      simp only [Act.put, lA, lB, lC]
      refine wpAnyH_done (by kernel_rfl) ?_ _
      all_goals
       have BF := unhide BE _ b3
       go_wp2_with fail
       go_ret
       exact ⟨ret_bool (unhide Z).symm, BF⟩
     ·have Z := hide (show ∀ i, i < k + 1 → okAtV ds i = true by
       have := unhide ST true (by rw [unhide E1']; rfl)
       simpa using this)
      have hcm : cm < 0 := by
       have := unhide CL'
       simpa using this
      clear CL' E1'
      refine wp_region_held_drew (S := (fun u => Below W.heap.size W u ∧ u.cell? ⟨bx, 0, none⟩ = some (.string pk) ∧ u.cell? ⟨bx, 1, none⟩ = some (.int .i64 pt) ∧ u.cell? ⟨bx, 2, none⟩ = some (.string pv) ∧ u.cell? ⟨bx, 3, none⟩ = some (.bool pg) ∧ u.cell? ⟨b, off + (k - 1) * 4, none⟩ = some (.string qk) ∧ u.cell? ⟨b, off + (k - 1) * 4 + 1, none⟩ = some (.int .i64 qt) ∧ u.cell? ⟨b, off + (k - 1) * 4 + 2, none⟩ = some (.string qv) ∧ u.cell? ⟨b, off + (k - 1) * 4 + 3, none⟩ = some (.bool qg))) (by kernel_rfl) (unhide SK2 _ G0) (fun hHeld => ?_)
      refine tk 0 12 rfl rfl hHeld ?_
      simp only [Act.put, lA, lB, lC]
      refine rd [1] (.cons rfl (fun K hK => ?_) .nil)
      go_simp
      refine (unhide SV' _ G0).mono ?_
      rintro e w2 ⟨rfl, b2⟩
      refine hK.out _ _ (unhide SK2 _ b2) (fun hHeld => ?_)
      clear hK K
      refine tk 2 14 rfl rfl hHeld ?_
      simp only [Act.put, lA, lB, lC]
      refine tk 3 15 rfl rfl hHeld ?_
      simp only [Act.put, lA, lB, lC]
      refine tk 4 16 rfl rfl hHeld ?_
      simp only [Act.put, lA, lB, lC]
      refine tk 5 17 rfl rfl hHeld ?_
      simp only [Act.put, lA, lB, lC]
      refine tk 6 18 rfl rfl hHeld ?_
      simp only [Act.put, lA, lB, lC]
      refine tk 7 19 rfl rfl hHeld ?_
      simp only [Act.put, lA, lB, lC]
      refine tk 8 20 rfl rfl hHeld ?_
      simp only [Act.put, lA, lB, lC]
      refine tk 9 21 rfl rfl hHeld ?_
      simp only [Act.put, lA, lB, lC]
      refine tk 10 22 rfl rfl hHeld ?_
      simp only [Act.put, lA, lB, lC]
      refine tk 11 23 rfl rfl hHeld ?_
      simp only [Act.put, lA, lB, lC]
      refine tk 12 24 rfl rfl hHeld ?_
      simp only [Act.put, lA, lB, lC]
      refine rd [13] (.cons rfl (fun K hK => ?_) .nil)
      go_simp
      refine (unhide SC' _ b2).mono ?_
      rintro e w3 ⟨rfl, b3⟩
      refine hK.out _ _ (unhide SK2 _ b3) (fun hHeld => ?_)
      clear hK K
      refine tk 14 26 rfl rfl hHeld ?_
      simp only [Act.put, lA, lB, lC]
      refine tk 15 27 rfl rfl hHeld ?_
      simp only [Act.put, lA, lB, lC]
      refine tk 16 28 rfl rfl hHeld ?_
      simp only [Act.put, lA, lB, lC]
      refine wpAnyH_done (by kernel_rfl) ?_ _
      all_goals
       have BF := unhide BE _ b3
       go_wp2_with fail
       go_roundw
       case rel => exact ⟨k + 1, by omega, by go_num, unhide Z, BF⟩
       case measure => simp [intOf]; omega
  ·obtain rfl : k = n := by omega
   have Z := hide (show okVs ds = true from okVs_true fun i hi => unhide hok i (by have := unhide L; omega))
   go_wp2_with fail
   go_ret
   exact ⟨ret_bool (unhide Z).symm, hb⟩
end Go.Proofs.YtdnjgbckkmbmfaaGreat

namespace Go.Proofs.YtdnjgbckkmbmfaaGreat
open Go.RowKit

set_option maxHeartbeats 1000000 in
theorem writesOther_any (bx : Nat) (d : VerD) (t : Int) (w : World) (h : w.cell? ⟨bx, 0, none⟩ = some (.int .i64 t)) :
  Calls Tryz.prog 117 #[vv d, .pointer (some ⟨bx, 0, none⟩)] w fun e w' => e = .returned (.bool (!decide (d.t = t))) ∧ Below w.heap.size w w' := by
 have B0 := hide (show Below w.heap.size w (w.alloc (.cells #[.string d.k, .int .i64 d.t, .string d.v, .bool d.g] 43)) from (Below.refl _ _).alloc (Nat.le_refl _) _)
 have h' := (unhide B0).cell (p := ⟨bx, 0, none⟩) (cell_lt h) |>.trans h
 obtain ⟨k, s, v, g⟩ := d
 unfold vv
 simp only at B0 h'
 go_enter Tryz.func117, Tryz.ntmps117
 go_wp2_with fail
 first | (go_quiet (fail); go_wp2_with fail) | skip
 go_ret
 exact ⟨ret_bool (by by_cases e : s = t <;> simp [bne, e]), by first | exact unhide B0 | exact bel_drewN (unhide B0) _ | exact (unhide B0).drew⟩
theorem find_step {ds : List VerD} {t : Int} {k : Nat} (hk : k < ds.length) (hp : ∀ i (h : i < ds.length), i < k → ds[i].t = t) (ht : ds[k].t = t) : ∀ i (h : i < ds.length), i < k + 1 → ds[i].t = t := fun i h hi => by
 by_cases e : i < k
 ·exact hp i h e
 ·obtain rfl : i = k := by omega
  exact ht
set_option maxHeartbeats 4000000 in
theorem indexOther_any (bx : Nat) (a : Option Addr) (n c : Nat) (ds : List VerD) (t : Int) (w : World) (hn : n ≤ 1048576) (hr : VRow w a n ds) (h : w.cell? ⟨bx, 0, none⟩ = some (.int .i64 t)) :
  Calls Tryz.prog 84 #[.slice a n c, .func (.func 117) #[] #[.pointer (some ⟨bx, 0, none⟩)]] w fun e w' => ∃ r : Int, e = .returned (.int .i64 r) ∧ decide (0 ≤ r) = !oneT ds t ∧ Below w.heap.size w w' := by
 have L := hide hr.1
 have R := hide hr
 have HB := hide h
 clear hr h
 go_enter Tryz.func84, Tryz.ntmps84
 go_wp2_with fail
 go_loopw [8] (fun i wr => ∃ k : Nat, k ≤ n ∧ i = .int .i64 k ∧ Hid (∀ i (h : i < ds.length), i < k → ds[i].t = t) ∧ Below w.heap.size w wr) (fun i _ => n - (intOf i).toNat)
 case atStart => exact ⟨0, by omega, rfl, (fun i _ hi => absurd hi (Nat.not_lt_zero _)), Below.refl _ _⟩
 case round =>
  obtain ⟨k, hk, rfl, hok, hb⟩ := hrel
  by_cases hlt : k < n
  ·have hk2 : k < ds.length := by rw [unhide L]; exact hlt
   obtain ⟨b, off, rfl, d0, d1, d2, d3⟩ := ((unhide R).below hb).2 k hk2
   have hsz := hb.size
   have hbx : wr.cell? ⟨bx, 0, none⟩ = some (.int .i64 t) := (hb.cell (p := ⟨bx, 0, none⟩) (cell_lt (unhide HB))).trans (unhide HB)
   have C := hide (fun (u : World) (hu : u.cell? ⟨bx, 0, none⟩ = some (.int .i64 t)) => writesOther_any bx ds[k] t u hu)
   have F := hide (fun (h : ds[k].t ≠ t) => oneT_false hk2 h)
   have G := hide (find_step hk2 (unhide hok))
   generalize ds[k] = pd at *
   obtain ⟨pk, pt, pv, pg⟩ := pd
   unfold vv at C
   simp only at d0 d1 d2 d3 C F G
   clear hok
   by_cases ht : pt = t
   ·subst ht
    have E : (!decide (pt = pt)) = false := by simp
    rw [E] at C
    clear F E
    go_wp2_with fail
    refine (unhide C wr hbx).mono ?_
    rintro e w1 ⟨rfl, hb1⟩
    all_goals
     have bA : Below w.heap.size w w1 := by first | exact hb.trans (hb1.mono hsz) | exact hb.drew.trans (hb1.mono hsz) | exact (bel_drewN hb _).trans (hb1.mono hsz)
     clear hb hb1 d0 d1 d2 d3 hbx C
     go_wp2_with fail
     go_roundw
     case rel => exact ⟨k + 1, by omega, by go_num, (by first | exact unhide G rfl | exact unhide G trivial), bA⟩
     case measure => simp [intOf]; omega
   ·have E : (!decide (pt = t)) = true := by simp [ht]
    rw [E] at C
    have Z := hide (unhide F ht)
    clear F E G
    go_wp2_with fail
    refine (unhide C wr hbx).mono ?_
    rintro e w1 ⟨rfl, hb1⟩
    all_goals
     have bA : Below w.heap.size w w1 := by first | exact hb.trans (hb1.mono hsz) | exact hb.drew.trans (hb1.mono hsz) | exact (bel_drewN hb _).trans (hb1.mono hsz)
     clear hb hb1 d0 d1 d2 d3 hbx C
     go_wp2_with fail
     go_ret
     exact ⟨k, rfl, by rw [unhide Z]; simp, bA⟩
  ·obtain rfl : k = n := by omega
   have Z := hide (show oneT ds t = true from oneT_true fun i hi => unhide hok i hi (by have := unhide L; omega))
   go_wp2_with fail
   go_ret
   exact ⟨-1, rfl, by rw [unhide Z]; simp, hb⟩
set_option maxHeartbeats 1000000 in
theorem containsOther_any (bx : Nat) (a : Option Addr) (n c : Nat) (ds : List VerD) (t : Int) (w : World) (hn : n ≤ 1048576) (hr : VRow w a n ds) (h : w.cell? ⟨bx, 0, none⟩ = some (.int .i64 t)) :
  Calls Tryz.prog 40 #[.slice a n c, .func (.func 117) #[] #[.pointer (some ⟨bx, 0, none⟩)]] w fun e w' => e = .returned (.bool (!oneT ds t)) ∧ Below w.heap.size w w' := by
 have C := hide (indexOther_any bx a n c ds t w hn hr h)
 clear hr h
 go_enter Tryz.func40, Tryz.ntmps40
 go_wp2_with fail
 refine (unhide C).mono ?_
 rintro e w1 ⟨r, rfl, hr, hb⟩
 have R := hide hr
 clear hr C
 go_wp2_with fail
 go_ret
 exact ⟨ret_bool (by rw [← unhide R]), hb⟩
set_option maxHeartbeats 4000000 in
theorem writesOK_any (a : Option Addr) (n c : Nat) (ds : List VerD) (t : Int) (w : World) (hn : n ≤ 1048576) (hr : VRow w a n ds) :
  Calls Tryz.prog 85 #[.slice a n c, .int .i64 t] w fun e w' => e = .returned (.bool (wrV ds t)) ∧ Below w.heap.size w w' := by
 have hmf : ∀ (fn : Fn) (first cap : Array Value) (w : World), (Instr.makeFunc fn first cap).run Tryz.prog w = .ok (.func fn first cap) w := fun _ _ _ _ => rfl
 have b0 : Below w.heap.size w (w.alloc (.cells #[.int .i64 t] 3)) := (Below.refl _ _).alloc (Nat.le_refl _) _
 have hs0 := b0.size
 have c0 : (w.alloc (.cells #[.int .i64 t] 3)).cell? ⟨w.heap.size, 0, none⟩ = some (.int .i64 t) := by simp
 have RR := hide (hr.below b0)
 have L := hide hr.1
 clear hr
 by_cases h8 : n ≤ 8
 ·have E := hide (show wrV ds t = (okVs ds && oneT ds t) by unfold wrV; rw [decide_eq_true (by rw [unhide L]; exact h8)]; simp)
  have h8' : ¬ (8 : Int) < (n : Int) := by omega
  go_enter Tryz.func85, Tryz.ntmps85
  go_wp2_with fail
  generalize w.alloc (.cells #[.int .i64 t] 3) = W at *
  refine (listOK_any a n c ds W hn (unhide RR)).mono ?_
  rintro e w1 ⟨rfl, hb1⟩
  have hbb := b0.trans (hb1.mono hs0)
  have c1 : w1.cell? ⟨w.heap.size, 0, none⟩ = some (.int .i64 t) := (hb1.cell (p := ⟨w.heap.size, 0, none⟩) (cell_lt c0)).trans c0
  have C := hide (containsOther_any w.heap.size a n c ds t w1 hn ((unhide RR).below hb1) c1)
  have hsz := hbb.size
  clear RR hb1 c0 b0 hs0 c1
  generalize okVs ds = A at *
  generalize oneT ds t = O at *
  cases A
  ·have E := hide (show wrV ds t = false by rw [unhide E]; rfl)
   go_wp2_with fail
   go_ret
   exact ⟨ret_bool (unhide E).symm, hbb⟩
  ·have E := hide (show O = wrV ds t by rw [unhide E]; rfl)
   go_wp2_with fail
   refine (unhide C).mono ?_
   rintro e w2 ⟨rfl, hb2⟩
   have hbc := hbb.trans (hb2.mono hsz)
   go_wp2_with fail
   go_ret
   exact ⟨ret_bool (by rw [← unhide E]), hbc⟩
 ·have E := hide (show wrV ds t = false by unfold wrV; rw [decide_eq_false (by rw [unhide L]; exact h8)]; rfl)
  have h8' : (8 : Int) < (n : Int) := by omega
  go_enter Tryz.func85, Tryz.ntmps85
  go_wp2_with fail
  go_ret
  exact ⟨ret_bool (unhide E).symm, b0⟩
end Go.Proofs.YtdnjgbckkmbmfaaGreat

namespace Go.Proofs.YtdnjgbckkmbmfaaGreat
open Go.RowKit

def lateK (ds : List VerD) (t : Int) : Bool := ds.all fun d => decide (d.t < t)
theorem lateK_false {ds : List VerD} {i : Nat} {t : Int} (h : i < ds.length) (hf : ¬ ds[i].t < t) : lateK ds t = false := by
 rw [lateK, List.all_eq_false]
 exact ⟨ds[i], List.getElem_mem h, by simpa using hf⟩
theorem lateK_true {ds : List VerD} {t : Int} (h : ∀ i (hi : i < ds.length), ds[i].t < t) : lateK ds t = true := List.all_eq_true.2 fun d hd => by
 obtain ⟨i, hi, rfl⟩ := List.getElem_of_mem hd
 exact decide_eq_true (h i hi)
def fenK (next : Int) (f : FenD) : Bool := decide (f.f.size ≤ 40) && (decide (f.u.size ≤ 41) && (decide (1 ≤ f.t) && decide (f.t < next)))
def sesK (next : Int) (s : SesD) : Bool := if s.o = true then decide (1 ≤ s.t) && (decide (s.t < next) && wrV s.ws s.t) else decide (s.t = 0) && decide (s.ws.length = 0)
def topK (d : VsD) : Bool := decide (1 ≤ d.next ∧ d.next ≤ 1000 ∧ d.list.length ≤ 4096 ∧ d.fen.length ≤ 4096 ∧ d.ses.length = 4)
def okVsD (d : VsD) : Bool := topK d && (okVs d.list && (lateK d.list d.next && (d.fen.all (fenK d.next) && d.ses.all (sesK d.next))))
theorem all_false {α : Type} {p : α → Bool} {l : List α} {i : Nat} (h : i < l.length) (hf : p l[i] = false) : l.all p = false := by
 rw [List.all_eq_false]
 exact ⟨l[i], List.getElem_mem h, by rw [hf]; decide⟩
theorem all_true {α : Type} {p : α → Bool} {l : List α} (h : ∀ i (hi : i < l.length), p l[i] = true) : l.all p = true := List.all_eq_true.2 fun d hd => by
 obtain ⟨i, hi, rfl⟩ := List.getElem_of_mem hd
 exact h i hi
set_option maxHeartbeats 1000000 in
theorem late_any (bx : Nat) (d : VerD) (t : Int) (w : World) (h : w.cell? ⟨bx, 0, none⟩ = some (.int .i64 t)) :
  Calls Tryz.prog 38 #[vv d, .pointer (some ⟨bx, 0, none⟩)] w fun e w' => e = .returned (.bool (decide (t ≤ d.t))) ∧ Below w.heap.size w w' := by
 have B0 := hide (show Below w.heap.size w (w.alloc (.cells #[.string d.k, .int .i64 d.t, .string d.v, .bool d.g] 43)) from (Below.refl _ _).alloc (Nat.le_refl _) _)
 have h' := (unhide B0).cell (p := ⟨bx, 0, none⟩) (cell_lt h) |>.trans h
 obtain ⟨k, s, v, g⟩ := d
 unfold vv
 simp only at B0 h'
 go_enter Tryz.func38, Tryz.ntmps38
 go_wp2_with fail
 first | (go_quiet (fail); go_wp2_with fail) | skip
 go_ret
 exact ⟨rfl, by first | exact unhide B0 | exact bel_drewN (unhide B0) _ | exact (unhide B0).drew⟩
theorem late_step {ds : List VerD} {t : Int} {k : Nat} (hk : k < ds.length) (hp : ∀ i (h : i < ds.length), i < k → ds[i].t < t) (ht : ds[k].t < t) : ∀ i (h : i < ds.length), i < k + 1 → ds[i].t < t := fun i h hi => by
 by_cases e : i < k
 ·exact hp i h e
 ·obtain rfl : i = k := by omega
  exact ht
set_option maxHeartbeats 4000000 in
theorem indexLate_any (bx : Nat) (a : Option Addr) (n c : Nat) (ds : List VerD) (t : Int) (w : World) (hn : n ≤ 1048576) (hr : VRow w a n ds) (h : w.cell? ⟨bx, 0, none⟩ = some (.int .i64 t)) :
  Calls Tryz.prog 84 #[.slice a n c, .func (.func 38) #[] #[.pointer (some ⟨bx, 0, none⟩)]] w fun e w' => ∃ r : Int, e = .returned (.int .i64 r) ∧ decide (0 ≤ r) = !lateK ds t ∧ Below w.heap.size w w' := by
 have L := hide hr.1
 have R := hide hr
 have HB := hide h
 clear hr h
 go_enter Tryz.func84, Tryz.ntmps84
 go_wp2_with fail
 go_loopw [8] (fun i wr => ∃ k : Nat, k ≤ n ∧ i = .int .i64 k ∧ Hid (∀ i (h : i < ds.length), i < k → ds[i].t < t) ∧ Below w.heap.size w wr) (fun i _ => n - (intOf i).toNat)
 case atStart => exact ⟨0, by omega, rfl, (fun i _ hi => absurd hi (Nat.not_lt_zero _)), Below.refl _ _⟩
 case round =>
  obtain ⟨k, hk, rfl, hok, hb⟩ := hrel
  by_cases hlt : k < n
  ·have hk2 : k < ds.length := by rw [unhide L]; exact hlt
   obtain ⟨b, off, rfl, d0, d1, d2, d3⟩ := ((unhide R).below hb).2 k hk2
   have hsz := hb.size
   have hbx : wr.cell? ⟨bx, 0, none⟩ = some (.int .i64 t) := (hb.cell (p := ⟨bx, 0, none⟩) (cell_lt (unhide HB))).trans (unhide HB)
   have C := hide (fun (u : World) (hu : u.cell? ⟨bx, 0, none⟩ = some (.int .i64 t)) => late_any bx ds[k] t u hu)
   have F := hide (fun (h : ¬ ds[k].t < t) => lateK_false hk2 h)
   have G := hide (late_step hk2 (unhide hok))
   generalize ds[k] = pd at *
   obtain ⟨pk, pt, pv, pg⟩ := pd
   unfold vv at C
   simp only at d0 d1 d2 d3 C F G
   clear hok
   by_cases ht : pt < t
   ·have E : decide (t ≤ pt) = false := decide_eq_false (by omega)
    rw [E] at C
    have G' := hide (unhide G ht)
    clear F E G
    go_wp2_with fail
    refine (unhide C wr hbx).mono ?_
    rintro e w1 ⟨rfl, hb1⟩
    all_goals
     have bA : Below w.heap.size w w1 := by first | exact hb.trans (hb1.mono hsz) | exact hb.drew.trans (hb1.mono hsz) | exact (bel_drewN hb _).trans (hb1.mono hsz)
     clear hb hb1 d0 d1 d2 d3 hbx C
     go_wp2_with fail
     go_roundw
     case rel => exact ⟨k + 1, by omega, by go_num, unhide G', bA⟩
     case measure => simp [intOf]; omega
   ·have E : decide (t ≤ pt) = true := decide_eq_true (by omega)
    rw [E] at C
    have Z := hide (unhide F ht)
    clear F E G
    go_wp2_with fail
    refine (unhide C wr hbx).mono ?_
    rintro e w1 ⟨rfl, hb1⟩
    all_goals
     have bA : Below w.heap.size w w1 := by first | exact hb.trans (hb1.mono hsz) | exact hb.drew.trans (hb1.mono hsz) | exact (bel_drewN hb _).trans (hb1.mono hsz)
     clear hb hb1 d0 d1 d2 d3 hbx C
     go_wp2_with fail
     go_ret
     exact ⟨k, rfl, by rw [unhide Z]; simp, bA⟩
  ·obtain rfl : k = n := by omega
   have Z := hide (show lateK ds t = true from lateK_true fun i hi => unhide hok i hi (by have := unhide L; omega))
   go_wp2_with fail
   go_ret
   exact ⟨-1, rfl, by rw [unhide Z]; simp, hb⟩
set_option maxHeartbeats 1000000 in
theorem containsLate_any (bx : Nat) (a : Option Addr) (n c : Nat) (ds : List VerD) (t : Int) (w : World) (hn : n ≤ 1048576) (hr : VRow w a n ds) (h : w.cell? ⟨bx, 0, none⟩ = some (.int .i64 t)) :
  Calls Tryz.prog 40 #[.slice a n c, .func (.func 38) #[] #[.pointer (some ⟨bx, 0, none⟩)]] w fun e w' => e = .returned (.bool (!lateK ds t)) ∧ Below w.heap.size w w' := by
 have C := hide (indexLate_any bx a n c ds t w hn hr h)
 clear hr h
 go_enter Tryz.func40, Tryz.ntmps40
 go_wp2_with fail
 refine (unhide C).mono ?_
 rintro e w1 ⟨r, rfl, hr, hb⟩
 have R := hide hr
 clear hr C
 go_wp2_with fail
 go_ret
 exact ⟨ret_bool (by rw [← unhide R]), hb⟩
set_option maxHeartbeats 1000000 in
theorem fenceOK_any (d : FenD) (next : Int) (w : World) : Calls Tryz.prog 41 #[fv d, .int .i64 next] w fun e w' => e = .returned (.bool (fenK next d)) ∧ Below w.heap.size w w' := by
 obtain ⟨f, u, t⟩ := d
 unfold fv
 have B0 := hide (show Below w.heap.size w (w.alloc (.cells #[.string f, .string u, .int .i64 t] 85)) from (Below.refl _ _).alloc (Nat.le_refl _) _)
 have E := hide (show fenK next ⟨f, u, t⟩ = (decide (f.size ≤ 40) && (decide (u.size ≤ 41) && (decide (1 ≤ t) && decide (t < next)))) from rfl)
 generalize fenK next ⟨f, u, t⟩ = R at *
 by_cases h1 : f.size ≤ 40
 ·have g1 : (f.size : Int) ≤ 40 := by omega
  by_cases h2 : u.size ≤ 41
  ·have g2 : (u.size : Int) ≤ 41 := by omega
   by_cases h3 : 1 ≤ t
   ·have F := hide (show decide (t < next) = R by rw [unhide E]; simp [h1, h2, h3])
    clear E
    go_enter Tryz.func41, Tryz.ntmps41
    go_wp2_with fail
    go_ret
    exact ⟨ret_bool (unhide F), unhide B0⟩
   ·have F := hide (show false = R by rw [unhide E]; simp [h3])
    have g3 : ¬ (1 : Int) ≤ t := h3
    clear E
    go_enter Tryz.func41, Tryz.ntmps41
    go_wp2_with fail
    go_ret
    exact ⟨ret_bool (unhide F), unhide B0⟩
  ·have g2 : ¬ (u.size : Int) ≤ 41 := by omega
   have F := hide (show false = R by rw [unhide E]; simp [h2])
   clear E
   go_enter Tryz.func41, Tryz.ntmps41
   go_wp2_with fail
   go_ret
   exact ⟨ret_bool (unhide F), unhide B0⟩
 ·have g1 : ¬ (f.size : Int) ≤ 40 := by omega
  have F := hide (show false = R by rw [unhide E]; simp [h1])
  clear E
  go_enter Tryz.func41, Tryz.ntmps41
  go_wp2_with fail
  go_ret
  exact ⟨ret_bool (unhide F), unhide B0⟩
set_option maxHeartbeats 1000000 in
theorem sessionOK_any (r : SesR) (d : SesD) (next : Int) (w : World) (ho : r.o = d.o) (ht : r.t = d.t) (hv : VRow w r.ws.a r.ws.n d.ws) (hn : r.ws.n ≤ 1048576) : Calls Tryz.prog 42 #[sv r, .int .i64 next] w fun e w' => e = .returned (.bool (sesK next d)) ∧ Below w.heap.size w w' := by
 obtain ⟨o, t, ws⟩ := d
 obtain ⟨o', t', a, n, c⟩ := r
 simp only at ho ht hv hn
 subst ho ht
 unfold sv
 simp only
 have b0 : Below w.heap.size w (w.alloc (.cells #[.bool o', .int .i64 t', .slice a n c] 55)) := (Below.refl _ _).alloc (Nat.le_refl _) _
 have LN := hide hv.1
 have C := hide (writesOK_any a n c ws t' _ hn (hv.below b0))
 clear hv
 cases o'
 ·by_cases h1 : t' = 0
  ·have F := hide (show decide ((n : Int) = 0) = sesK next ⟨false, t', ws⟩ by
    unfold sesK
    rw [if_neg (by simp)]
    simp only
    rw [decide_eq_true h1, unhide LN, Bool.true_and, decide_eq_decide]
    omega)
   generalize sesK next ⟨false, t', ws⟩ = R at *
   subst h1
   clear C
   go_enter Tryz.func42, Tryz.ntmps42
   go_wp2_with fail
   go_ret
   exact ⟨ret_bool (by rw [← unhide F]; first | rfl | simp), b0⟩
  ·have F := hide (show false = sesK next ⟨false, t', ws⟩ by
    unfold sesK
    rw [if_neg (by simp)]
    simp only
    rw [decide_eq_false h1]; rfl)
   generalize sesK next ⟨false, t', ws⟩ = R at *
   clear C
   go_enter Tryz.func42, Tryz.ntmps42
   go_wp2_with fail
   go_ret
   exact ⟨ret_bool (unhide F), b0⟩
 ·have E := hide (show sesK next ⟨true, t', ws⟩ = (decide (1 ≤ t') && (decide (t' < next) && wrV ws t')) by unfold sesK; rw [if_pos rfl])
  generalize sesK next ⟨true, t', ws⟩ = R at *
  by_cases h1 : 1 ≤ t'
  ·by_cases h2 : t' < next
   ·have F := hide (show wrV ws t' = R by rw [unhide E, decide_eq_true h1, decide_eq_true h2]; rfl)
    clear E
    go_enter Tryz.func42, Tryz.ntmps42
    go_wp2_with fail
    refine (unhide C).mono ?_
    rintro e w1 ⟨rfl, hb⟩
    have bA := b0.trans (hb.mono b0.size)
    rw [unhide F]
    clear C b0 hb F
    go_wp2_with fail
    go_ret
    exact ⟨rfl, bA⟩
   ·have F := hide (show false = R by rw [unhide E, decide_eq_false h2]; simp)
    clear E C
    go_enter Tryz.func42, Tryz.ntmps42
    go_wp2_with fail
    go_ret
    exact ⟨ret_bool (unhide F), b0⟩
  ·have F := hide (show false = R by rw [unhide E, decide_eq_false h1]; rfl)
   clear E C
   go_enter Tryz.func42, Tryz.ntmps42
   go_wp2_with fail
   go_ret
   exact ⟨ret_bool (unhide F), b0⟩
end Go.Proofs.YtdnjgbckkmbmfaaGreat

namespace Go.Proofs.YtdnjgbckkmbmfaaGreat
open Go.RowKit

theorem tup_ib {a b : Int} {c d : Bool} (h : a = b) (g : c = d) : Ending.returned (.tuple #[.int .i64 a, .bool c]) = .returned (.tuple #[.int .i64 b, .bool d]) := by rw [h, g]
end Go.Proofs.YtdnjgbckkmbmfaaGreat

namespace Go.Proofs.YtdnjgbckkmbmfaaGreat
open Go.RowKit

theorem Tryz.infoEntry : (Tryz.prog.info? 48).map (fun i => (i.zero, i.size, i.bytes)) = some (some (.agg #[.string ByteArray.empty, .string ByteArray.empty]), 2, 32) := by kernel_rfl
theorem stepCopyE {P : Program} {ops : Array Oper} {o : Oper} {a : Act} {w : World} {K : Act → World → Prop} {Q : Exit → Act → World → Prop} {E : Prop}
  (hg : o.guard = none) (s x : Operand) (t : TypeId) (hop : o.op = Op.call { callee := Callee.builtin Builtin.copy, args := #[s, x], argTypes := #[t, t] })
  (vs vx v' : Value) (w' : World) (hs : a.eval s = vs) (hx : a.eval x = vx) (hrun : (Builtin.copy_ #[t, t] o.type #[vs, vx]).run P w = .ok v' w') (hK : K (a.put o.dst v') w') :
  if Region.wanted o (yielded ops a.tmps) = true then Oper.wp P o a w K Q else E := by
 have hw : Region.wanted o (yielded ops a.tmps) = true := by simp [Region.wanted, hg]
 rw [if_pos hw]
 unfold Oper.wp
 simp [execOp, hop, resolve, invoke, builtin, hs, hx, hrun, Result.andThen]
 exact hK
theorem grown_setRow (w : World) (g : Nat) (cs : Array Value) : w.grownBy (w.setRow g cs) (some g) :=
 ⟨rfl, rfl, rfl, by simp, fun k _ hk => setRow_other w g k cs (fun e => hk (by rw [e]))⟩
theorem grown_trans {w w1 w2 : World} {r : Option Nat} (h : w.grownBy w1 r) (k : w1.grownBy w2 r) : w.grownBy w2 r :=
 ⟨k.os.trans h.os, k.tape.trans h.tape, k.output.trans h.output, Nat.le_trans h.size k.size, fun i hi hne => (k.block i (Nat.lt_of_lt_of_le hi h.size) hne).trans (h.block i hi hne)⟩
theorem grown_new {w w1 : World} {r : Option Nat} (h : Below w.heap.size w w1) : w.grownBy w1 r := ⟨h.os, h.tape, h.output, h.size, fun k hk _ => h.block k hk⟩
end Go.Proofs.YtdnjgbckkmbmfaaGreat

namespace Go.Proofs.YtdnjgbckkmbmfaaGreat
open Go.RowKit

end Go.Proofs.YtdnjgbckkmbmfaaGreat

namespace Go.Proofs.YtdnjgbckkmbmfaaGreat
open Go.RowKit

end Go.Proofs.YtdnjgbckkmbmfaaGreat

namespace Go.Proofs.YtdnjgbckkmbmfaaGreat
open Go.RowKit

end Go.Proofs.YtdnjgbckkmbmfaaGreat

namespace Go.Proofs.YtdnjgbckkmbmfaaGreat
open Go.RowKit

end Go.Proofs.YtdnjgbckkmbmfaaGreat

namespace Go.Proofs.YtdnjgbckkmbmfaaGreat
open Go.RowKit

end Go.Proofs.YtdnjgbckkmbmfaaGreat

namespace Go.Proofs.YtdnjgbckkmbmfaaGreat
open Go.RowKit

end Go.Proofs.YtdnjgbckkmbmfaaGreat

namespace Go.Proofs.YtdnjgbckkmbmfaaGreat
open Go.RowKit

theorem l01In_any (n a b : Int) (w : World) : Calls Tryz.prog 75 #[.int .i64 n, .int .i64 a, .int .i64 b] w fun e w' => e = .returned (.bool (decide (a ≤ n) && decide (n ≤ b))) ∧ w' = w := by
 by_cases h : a ≤ n
 ·have E := hide (show decide (n ≤ b) = (decide (a ≤ n) && decide (n ≤ b)) by rw [decide_eq_true h]; rfl)
  go_enter Tryz.func75, Tryz.ntmps75
  go_wp2_with fail
  go_ret
  exact ⟨ret_bool (unhide E), rfl⟩
 ·have E := hide (show false = (decide (a ≤ n) && decide (n ≤ b)) by rw [decide_eq_false h]; rfl)
  go_enter Tryz.func75, Tryz.ntmps75
  go_wp2_with fail
  go_ret
  exact ⟨ret_bool (unhide E), rfl⟩
theorem l04Key_any (k : ByteArray) (w : World) : Calls Tryz.prog 76 #[.string k] w fun e w' => e = .returned (.bool (keyK k)) ∧ w' = w := by
 by_cases h : 0 < k.size
 ·have E := hide (show decide ((k.size : Int) ≤ 40) = keyK k by unfold keyK; rw [decide_eq_decide]; omega)
  go_enter Tryz.func76, Tryz.ntmps76
  go_wp2_with fail
  go_ret
  exact ⟨ret_bool (unhide E), rfl⟩
 ·have E := hide (show false = keyK k by unfold keyK; rw [decide_eq_false]; omega)
  go_enter Tryz.func76, Tryz.ntmps76
  go_wp2_with fail
  go_ret
  exact ⟨ret_bool (unhide E), rfl⟩
def underK (k hi : ByteArray) : Bool := hi.toList.isEmpty || ltK k hi
theorem l04Under_any (k hi : ByteArray) (w : World) : Calls Tryz.prog 111 #[.string k, .string hi] w fun e w' => e = .returned (.bool (underK k hi)) ∧ w' = w := by
 by_cases h : hi.toList.isEmpty = true
 ·have E := hide (show true = underK k hi by unfold underK; rw [h]; rfl)
  go_enter Tryz.func111, Tryz.ntmps111
  go_wp2_with fail
  go_ret
  exact ⟨ret_bool (unhide E), rfl⟩
 ·have h' : hi.toList.isEmpty = false := by simpa using h
  have E := hide (show Op.bytesLess k.toList hi.toList = underK k hi by unfold underK ltK; rw [h']; rfl)
  go_enter Tryz.func111, Tryz.ntmps111
  go_wp2_with fail
  go_ret
  exact ⟨ret_bool (unhide E), rfl⟩
end Go.Proofs.YtdnjgbckkmbmfaaGreat

namespace Go.Proofs.YtdnjgbckkmbmfaaGreat
open Go.RowKit

def putE (es : List EntD) (e : EntD) (gone : Bool) : List EntD := stepE es ⟨if gone then 2 else 1, e.k, e.v, 0⟩
theorem less_at {es : List EntD} {k : ByteArray} {i : Nat} (hi : i < es.length) (hp : i < pos es k) : Op.bytesLess es[i].k.toList k.toList = true := pos_lt es k i hi hp
theorem eapp {w : World} {B : Nat} {v : Value} {xs : List EntD} {e : EntD} (h : w.ownsRow B 48 2 v (xs.length + 1) (ecs xs ++ [.string e.k, .string e.v])) : EOwns w B v (xs ++ [e]) := by
 rw [← show ecs [e] = [.string e.k, .string e.v] from rfl, ← ecs_append] at h
 unfold EOwns
 rw [List.length_append]
 exact h
theorem eowns_some {w : World} {B : Nat} {v : Value} {es : List EntD} (h : EOwns w B v es) (hv : v ≠ .slice none 0 0) : ∃ g cap, v = .slice (some ⟨g, 0, none⟩) es.length cap ∧ B ≤ g := by
 rcases h.2 with ⟨e, _⟩ | ⟨g, cap, cur, e, hb, _⟩
 ·exact absurd e hv
 ·exact ⟨g, cap, e, hb⟩
theorem ownsRow_base2 {w : World} {B C e s n : Nat} {v : Value} {vs : List Value} (h : w.ownsRow B e s v n vs) (hC : C ≤ B) : w.ownsRow C e s v n vs := by
 obtain ⟨hl, h⟩ := h
 refine ⟨hl, ?_⟩
 rcases h with h | ⟨g, cap, cur, e, hb, r⟩
 ·exact .inl h
 ·exact .inr ⟨g, cap, cur, e, Nat.le_trans hC hb, r⟩
theorem drop_src {w : World} {b off n c k : Nat} {es : List EntD} (hE : ERow w (some ⟨b, off, none⟩) n es) (hc : n ≤ c) : ∃ A : Addr, (if c = k then some (⟨b, off, none⟩ : Addr) else some ⟨b, off + k * 2, none⟩) = some A ∧ Hid (∀ t u, (ecs (es.drop k))[t]? = some u → w.cell? (A.add t) = some u) := by
 by_cases h : c = k
 ·refine ⟨⟨b, off, none⟩, by simp [h], fun t u hu => ?_⟩
  rw [List.drop_of_length_le (by have := hE.1; omega)] at hu
  simp [ecs] at hu
 ·refine ⟨⟨b, off + k * 2, none⟩, by simp [h], fun t u hu => ?_⟩
  rw [Addr.add_lit]
  have hl : t < (es.drop k).length * 2 := by
   have := (List.getElem?_eq_some_iff.1 hu).1
   rwa [ecs_len] at this
  have hq : t / 2 < (es.drop k).length := by omega
  have hk : k + t / 2 < es.length := by rw [List.length_drop] at hq; omega
  obtain ⟨b', off', e, c0, c1⟩ := hE.2 (k + t / 2) hk
  injection e with e
  injection e with e1 e2
  subst e1 e2
  rcases Nat.mod_two_eq_zero_or_one t with h0 | h0
  ·obtain ⟨m, rfl⟩ : ∃ m, t = m * 2 := ⟨t / 2, by omega⟩
   have hm : m * 2 / 2 = m := by omega
   simp only [hm] at hq hk c0
   rw [ecs_at0 _ m hq] at hu
   rw [show off + k * 2 + m * 2 = off + (k + m) * 2 by omega, c0, ← hu, List.getElem_drop]
  ·obtain ⟨m, rfl⟩ : ∃ m, t = m * 2 + 1 := ⟨t / 2, by omega⟩
   have hm : (m * 2 + 1) / 2 = m := by omega
   simp only [hm] at hq hk c1
   rw [ecs_at1 _ m hq] at hu
   rw [show off + k * 2 + (m * 2 + 1) = off + (k + m) * 2 + 1 by omega, c1, ← hu, List.getElem_drop]
set_option maxHeartbeats 4000000 in
theorem l04Put_any (b off n c : Nat) (es : List EntD) (e : EntD) (gone : Bool) (w : World) (hE : ERow w (some ⟨b, off, none⟩) n es) (hn : n ≤ 1000) (hc : n ≤ c) :
  Calls Tryz.prog 110 #[.slice (some ⟨b, off, none⟩) n c, .agg #[.string e.k, .string e.v], .bool gone] w fun x w' => ∃ g cap, x = .returned (.slice (some ⟨g, 0, none⟩) (putE es e gone).length cap) ∧ EOwns w' w.heap.size (.slice (some ⟨g, 0, none⟩) (putE es e gone).length cap) (putE es e gone) ∧ Below w.heap.size w w' := by
 obtain ⟨i0, hi0, hz0, hz1, hz2⟩ := info_parts Tryz.infoEntry
 have LE := hide hE.1
 have RE := hide hE
 have PL := hide (pos_le es e.k)
 clear hE
 have b1 : Below w.heap.size w ((w.alloc (.cells #[.string e.k, .string e.v] 48)).alloc (.cells #[] 48)) := ((Below.refl _ _).alloc (Nat.le_refl _) _).alloc (by simp) _
 have O0 := hide (show EOwns ((w.alloc (.cells #[.string e.k, .string e.v] 48)).alloc (.cells #[] 48)) (w.heap.size + 1) (.slice (some ⟨w.heap.size + 1, 0, none⟩) 0 0) [] by
  have := World.ownsRow_lit (base := w.heap.size + 1) (e := 48) (size := 2) (w.alloc (.cells #[.string e.k, .string e.v] 48)) #[] 0 (by simp) (by unfold maxLen; simp) rfl
  simp at this
  exact this)
 go_enter Tryz.func110, Tryz.ntmps110
 go_wp2_with fail
 go_loopw [7, 8] (fun v i wr => ∃ (j g cap : Nat), i = .int .i64 (j : Int) ∧ v = .slice (some ⟨g, 0, none⟩) j cap ∧ j ≤ pos es e.k ∧ Hid (EOwns wr (w.heap.size + 1) (.slice (some ⟨g, 0, none⟩) j cap) (es.take j)) ∧ Hid (Below (w.heap.size + 1) ((w.alloc (.cells #[.string e.k, .string e.v] 48)).alloc (.cells #[] 48)) wr)) (fun _ i _ => n - (intOf i).toNat)
 case atStart => exact ⟨0, w.heap.size + 1, 0, rfl, rfl, Nat.zero_le _, unhide O0, Below.refl _ _⟩
 case round =>
  clear O0
  obtain ⟨j, g, cap, rfl, rfl, hj, hO, hB⟩ := hrel
  have BW := hide (b1.trans ((unhide hB).mono (by omega)))
  have e0 : wr.cell? ⟨w.heap.size, 0, none⟩ = some (.string e.k) := ((unhide hB).cell (p := ⟨w.heap.size, 0, none⟩) (by simp)).trans (by simp)
  have e1 : wr.cell? ⟨w.heap.size, 1, none⟩ = some (.string e.v) := ((unhide hB).cell (p := ⟨w.heap.size, 1, none⟩) (by simp)).trans (by simp)
  by_cases hlt : j < pos es e.k
  ·have hje : j < es.length := by have := unhide PL; omega
   have hjn : j < n := by have := unhide LE; omega
   obtain ⟨b', off', he, d0, d1⟩ := ((unhide RE).below (unhide BW)).2 j hje
   injection he with he
   injection he with he1 he2
   subst he1 he2
   have hl := less_at hje hlt
   have TS := hide (takeG_snoc es j hje)
   have HTL := hide (show (es.take j).length = j by rw [List.length_take]; omega)
   generalize es[j] = em at *
   go_wp2_with fail
   go_quiet (fail)
   have O2 : wr.ownsRow (w.heap.size + 1) 48 2 (.slice (some ⟨g, 0, none⟩) j cap) j (ecs (es.take j)) := by have := unhide hO; unfold EOwns at this; rwa [unhide HTL] at this
   have hsz : w.heap.size + 1 ≤ wr.heap.size := by have := (unhide hB).size; simp at this; omega
   go_wp2_with (at_builtin; refine wpList_append_own _ rfl _ _ 38 rfl (w.heap.size + 1) 48 i0 (.agg #[.string ByteArray.empty, .string ByteArray.empty]) 2 32 Tryz.underlying38 hi0 hz0 hz1 hz2 rfl (by decide) _ _ _ rfl (World.ownsRow.alloc O2 _) ⟨wr.heap.size, 0, none⟩ 1 1 [.string em.k, .string em.v] rfl rfl (cells_new (vs := [.string em.k, .string em.v])) (by intro u hu; simp at hu; rcases hu with rfl | rfl <;> rfl) (by unfold maxLen; omega) (by omega) (by simp; omega) ?_)
   intro v3 w3 h1 h2 h3
   have O3 : EOwns w3 (w.heap.size + 1) v3 (es.take (j + 1)) := by
    rw [unhide TS]
    refine eapp ?_
    rw [unhide HTL]
    exact h1
   obtain ⟨g3, cap3, rfl, hg3⟩ := eowns_some O3 (fun h => by subst h; simp at h3)
   have hl3 : (es.take (j + 1)).length = j + 1 := by rw [List.length_take]; omega
   rw [hl3] at O3 ⊢
   have O4 := hide O3
   have B4 := hide (((bel_drewN (unhide hB) _).alloc hsz _).grown h2 (by simp; omega) (fun k hk => (O2.lt k hk).1))
   clear h1 h2 h3 O3 O2
   go_wp2_with fail
   go_roundw
   case rel => exact ⟨j + 1, g3, cap3, by go_num, rfl, by omega, unhide O4, unhide B4⟩
   case measure => simp [intOf]; omega
  ·obtain rfl : j = pos es e.k := by omega
   have HTL := hide (show (es.take (pos es e.k)).length = pos es e.k by have := unhide PL; rw [List.length_take]; omega)
   have hsz : w.heap.size + 1 ≤ wr.heap.size := by have := (unhide hB).size; simp at this; omega
   have O2 := hide (show wr.ownsRow (w.heap.size + 1) 48 2 (.slice (some ⟨g, 0, none⟩) (pos es e.k) cap) (pos es e.k) (ecs (es.take (pos es e.k))) by have := unhide hO; unfold EOwns at this; rwa [unhide HTL] at this)
   by_cases hpn : pos es e.k < es.length
   ·obtain ⟨b', off', he, d0, d1⟩ := ((unhide RE).below (unhide BW)).2 _ hpn
    injection he with he
    injection he with he1 he2
    subst he1 he2
    have hl : Op.bytesLess es[pos es e.k].k.toList e.k.toList = false := pos_at es e.k hpn
    have hjn : pos es e.k < n := by have := unhide LE; omega
    have hbl : b < w.heap.size := by obtain ⟨b2, o2, h2, c2, _⟩ := (unhide RE).2 _ hpn; injection h2 with h2; injection h2 with h2 _; subst h2; exact cell_lt c2
    have FD := hide (show (es[pos es e.k].k.toList == e.k.toList) = found es e.k by unfold found; rw [List.getElem?_eq_getElem hpn])
    generalize hp : pos es e.k = p at *
    go_wp2_with fail
    go_quiet (fail)
    have O2q := hide (show (wr.drewN nq).ownsRow (w.heap.size + 1) 48 2 (.slice (some ⟨g, 0, none⟩) p cap) p (ecs (es.take p)) from unhide O2)
    have B2q := hide (bel_drewN (unhide hB) nq)
    have e0q : (wr.drewN nq).cell? ⟨w.heap.size, 0, none⟩ = some (.string e.k) := e0
    have e1q : (wr.drewN nq).cell? ⟨w.heap.size, 1, none⟩ = some (.string e.v) := e1
    have hszq : w.heap.size + 1 ≤ (wr.drewN nq).heap.size := hsz
    have d0q : (wr.drewN nq).cell? ⟨b, off + p * 2, none⟩ = some (.string es[p].k) := d0
    clear O2 hO hB BW e0 e1 hsz d0 d1
    generalize wr.drewN nq = wq at *
    cases gone with
    | true =>
     have OX := hide (unhide O2q)
     have BY := hide (unhide B2q)
     have BX := hide (b1.trans ((unhide B2q).mono (by omega)))
     clear O2q B2q e1q
     by_cases hf : found es e.k = true
     ·have hfe : (es[p].k.toList == e.k.toList) = true := by rw [unhide FD]; exact hf
      have ST := hide (show putE es e true = (es.take p) ++ es.drop (p + 1) by unfold putE stepE; rw [if_neg (by simp), hp, hf]; simp)
      go_wp2_with fail
      go_quiet (fail)
      obtain ⟨A, hA, hsrc⟩ := drop_src (k := (p + 1)) ((unhide RE).below (unhide BX)) hc
      have HN := hide (show (ecs (es.drop (p + 1))).length = (n - (p + 1)) * 2 by rw [ecs_len, List.length_drop, unhide LE])
      have hsX : w.heap.size + 1 ≤ wq.heap.size := by have := (unhide BY).size; simp at this; omega
      go_wp2_with (at_builtin; refine wpList_append_own _ rfl _ _ 38 rfl (w.heap.size + 1) 48 i0 (.agg #[.string ByteArray.empty, .string ByteArray.empty]) 2 32 Tryz.underlying38 hi0 hz0 hz1 hz2 rfl (by decide) _ _ _ rfl (show (wq.drewN nq).ownsRow (w.heap.size + 1) 48 2 (.slice (some ⟨g, 0, none⟩) p cap) p (ecs (es.take p)) from unhide OX) A (n - (p + 1)) (c - (p + 1)) (ecs (es.drop (p + 1))) rfl (unhide HN) (unhide hsrc) (ecs_one _) (by unfold maxLen; omega) (by omega) hsX ?_)
      intro v5 w5 h1 h2 h3
      have O5 : EOwns w5 w.heap.size v5 (putE es e true) := by
       rw [unhide ST]
       refine ownsRow_base2 ?_ (Nat.le_succ _)
       rw [ecs_append, List.length_append, List.length_drop, unhide LE, unhide HTL]
       exact h1
      obtain ⟨g5, cap5, rfl, _⟩ := eowns_some O5 (fun h => by first | exact h3 h | (subst h; simp at h3))
      have O6 := hide O5
      have B6 := hide (b1.trans (((bel_drewN (unhide BY) nq).grown h2 hsX (fun k hk => (World.ownsRow.lt (show (wq.drewN nq).ownsRow (w.heap.size + 1) 48 2 (.slice (some ⟨g, 0, none⟩) p cap) p (ecs (es.take p)) from unhide OX) k hk).1)).mono (by omega)))
      clear h1 h2 h3 O5
      go_wp2_with fail
      go_ret
      exact ⟨g5, cap5, rfl, unhide O6, unhide B6⟩
     ·have hfe : (es[p].k.toList == e.k.toList) = false := by rw [unhide FD]; simpa using hf
      have hf : found es e.k = false := by simpa using hf
      have ST := hide (show putE es e true = (es.take p) ++ es.drop p by unfold putE stepE; rw [if_neg (by simp), hp, hf]; simp)
      go_wp2_with fail
      go_quiet (fail)
      obtain ⟨A, hA, hsrc⟩ := drop_src (k := p) ((unhide RE).below (unhide BX)) hc
      have HN := hide (show (ecs (es.drop p)).length = (n - p) * 2 by rw [ecs_len, List.length_drop, unhide LE])
      have hsX : w.heap.size + 1 ≤ wq.heap.size := by have := (unhide BY).size; simp at this; omega
      go_wp2_with (at_builtin; refine wpList_append_own _ rfl _ _ 38 rfl (w.heap.size + 1) 48 i0 (.agg #[.string ByteArray.empty, .string ByteArray.empty]) 2 32 Tryz.underlying38 hi0 hz0 hz1 hz2 rfl (by decide) _ _ _ rfl (show (wq.drewN nq).ownsRow (w.heap.size + 1) 48 2 (.slice (some ⟨g, 0, none⟩) p cap) p (ecs (es.take p)) from unhide OX) A (n - p) (c - p) (ecs (es.drop p)) rfl (unhide HN) (unhide hsrc) (ecs_one _) (by unfold maxLen; omega) (by omega) hsX ?_)
      intro v5 w5 h1 h2 h3
      have O5 : EOwns w5 w.heap.size v5 (putE es e true) := by
       rw [unhide ST]
       refine ownsRow_base2 ?_ (Nat.le_succ _)
       rw [ecs_append, List.length_append, List.length_drop, unhide LE, unhide HTL]
       exact h1
      obtain ⟨g5, cap5, rfl, _⟩ := eowns_some O5 (fun h => by first | exact h3 h | (subst h; simp at h3))
      have O6 := hide O5
      have B6 := hide (b1.trans (((bel_drewN (unhide BY) nq).grown h2 hsX (fun k hk => (World.ownsRow.lt (show (wq.drewN nq).ownsRow (w.heap.size + 1) 48 2 (.slice (some ⟨g, 0, none⟩) p cap) p (ecs (es.take p)) from unhide OX) k hk).1)).mono (by omega)))
      clear h1 h2 h3 O5
      go_wp2_with fail
      go_ret
      exact ⟨g5, cap5, rfl, unhide O6, unhide B6⟩
    | false =>
     go_wp2_with (at_builtin; refine wpList_append_own _ rfl _ _ 38 rfl (w.heap.size + 1) 48 i0 (.agg #[.string ByteArray.empty, .string ByteArray.empty]) 2 32 Tryz.underlying38 hi0 hz0 hz1 hz2 rfl (by decide) _ _ _ rfl (World.ownsRow.alloc (unhide O2q) _) ⟨wq.heap.size, 0, none⟩ 1 1 [.string e.k, .string e.v] rfl rfl (cells_new (vs := [.string e.k, .string e.v])) (by intro u hu; simp at hu; rcases hu with rfl | rfl <;> rfl) (by unfold maxLen; omega) (by omega) (by simp; omega) ?_)
     intro v3 w3 h1 h2 h3
     have O3 : EOwns w3 (w.heap.size + 1) v3 (es.take p ++ [e]) := by
      refine eapp ?_
      rw [unhide HTL]
      exact h1
     obtain ⟨g3, cap3, rfl, hg3⟩ := eowns_some O3 (fun h => by subst h; simp at h3)
     have hl3 : (es.take p ++ [e]).length = p + 1 := by rw [List.length_append, unhide HTL]; rfl
     unfold EOwns at O3
     rw [hl3] at O3 ⊢
     have OX := hide O3
     have bZ : Below (w.heap.size + 1) wq w3 := ((Below.refl _ _).alloc hszq _).grown h2 (by simp; omega) (fun k hk => ((unhide O2q).lt k hk).1)
     have BY := hide ((unhide B2q).trans bZ)
     have BX := hide (b1.trans ((unhide BY).mono (by omega)))
     have e0r := (bZ.cell (p := ⟨w.heap.size, 0, none⟩) (by show w.heap.size < w.heap.size + 1; omega)).trans e0q
     have d0r := (bZ.cell (p := ⟨b, off + p * 2, none⟩) (by show b < w.heap.size + 1; omega)).trans d0q
     clear h1 h2 h3 O3 bZ O2q B2q e0q e1q hl3 d0q
     by_cases hf : found es e.k = true
     ·have hfe : (es[p].k.toList == e.k.toList) = true := by rw [unhide FD]; exact hf
      have ST := hide (show putE es e false = (es.take p ++ [e]) ++ es.drop (p + 1) by unfold putE stepE; rw [if_neg (by simp), hp, hf]; simp)
      go_wp2_with fail
      go_quiet (fail)
      obtain ⟨A, hA, hsrc⟩ := drop_src (k := (p + 1)) ((unhide RE).below (unhide BX)) hc
      have HN := hide (show (ecs (es.drop (p + 1))).length = (n - (p + 1)) * 2 by rw [ecs_len, List.length_drop, unhide LE])
      have hsX : w.heap.size + 1 ≤ w3.heap.size := by have := (unhide BY).size; simp at this; omega
      go_wp2_with (at_builtin; refine wpList_append_own _ rfl _ _ 38 rfl (w.heap.size + 1) 48 i0 (.agg #[.string ByteArray.empty, .string ByteArray.empty]) 2 32 Tryz.underlying38 hi0 hz0 hz1 hz2 rfl (by decide) _ _ _ rfl (show (w3.drewN nq).ownsRow (w.heap.size + 1) 48 2 (.slice (some ⟨g3, 0, none⟩) (p + 1) cap3) (p + 1) (ecs (es.take p ++ [e])) from unhide OX) A (n - (p + 1)) (c - (p + 1)) (ecs (es.drop (p + 1))) rfl (unhide HN) (unhide hsrc) (ecs_one _) (by unfold maxLen; omega) (by omega) hsX ?_)
      intro v5 w5 h1 h2 h3
      have O5 : EOwns w5 w.heap.size v5 (putE es e false) := by
       rw [unhide ST]
       refine ownsRow_base2 ?_ (Nat.le_succ _)
       rw [ecs_append, List.length_append, List.length_drop, unhide LE, List.length_append, unhide HTL]
       exact h1
      obtain ⟨g5, cap5, rfl, _⟩ := eowns_some O5 (fun h => by first | exact h3 h | (subst h; simp at h3))
      have O6 := hide O5
      have B6 := hide (b1.trans (((bel_drewN (unhide BY) nq).grown h2 hsX (fun k hk => (World.ownsRow.lt (show (w3.drewN nq).ownsRow (w.heap.size + 1) 48 2 (.slice (some ⟨g3, 0, none⟩) (p + 1) cap3) (p + 1) (ecs (es.take p ++ [e])) from unhide OX) k hk).1)).mono (by omega)))
      clear h1 h2 h3 O5
      go_wp2_with fail
      go_ret
      exact ⟨g5, cap5, rfl, unhide O6, unhide B6⟩
     ·have hfe : (es[p].k.toList == e.k.toList) = false := by rw [unhide FD]; simpa using hf
      have hf : found es e.k = false := by simpa using hf
      have ST := hide (show putE es e false = (es.take p ++ [e]) ++ es.drop p by unfold putE stepE; rw [if_neg (by simp), hp, hf]; simp)
      go_wp2_with fail
      go_quiet (fail)
      obtain ⟨A, hA, hsrc⟩ := drop_src (k := p) ((unhide RE).below (unhide BX)) hc
      have HN := hide (show (ecs (es.drop p)).length = (n - p) * 2 by rw [ecs_len, List.length_drop, unhide LE])
      have hsX : w.heap.size + 1 ≤ w3.heap.size := by have := (unhide BY).size; simp at this; omega
      go_wp2_with (at_builtin; refine wpList_append_own _ rfl _ _ 38 rfl (w.heap.size + 1) 48 i0 (.agg #[.string ByteArray.empty, .string ByteArray.empty]) 2 32 Tryz.underlying38 hi0 hz0 hz1 hz2 rfl (by decide) _ _ _ rfl (show (w3.drewN nq).ownsRow (w.heap.size + 1) 48 2 (.slice (some ⟨g3, 0, none⟩) (p + 1) cap3) (p + 1) (ecs (es.take p ++ [e])) from unhide OX) A (n - p) (c - p) (ecs (es.drop p)) rfl (unhide HN) (unhide hsrc) (ecs_one _) (by unfold maxLen; omega) (by omega) hsX ?_)
      intro v5 w5 h1 h2 h3
      have O5 : EOwns w5 w.heap.size v5 (putE es e false) := by
       rw [unhide ST]
       refine ownsRow_base2 ?_ (Nat.le_succ _)
       rw [ecs_append, List.length_append, List.length_drop, unhide LE, List.length_append, unhide HTL]
       exact h1
      obtain ⟨g5, cap5, rfl, _⟩ := eowns_some O5 (fun h => by first | exact h3 h | (subst h; simp at h3))
      have O6 := hide O5
      have B6 := hide (b1.trans (((bel_drewN (unhide BY) nq).grown h2 hsX (fun k hk => (World.ownsRow.lt (show (w3.drewN nq).ownsRow (w.heap.size + 1) 48 2 (.slice (some ⟨g3, 0, none⟩) (p + 1) cap3) (p + 1) (ecs (es.take p ++ [e])) from unhide OX) k hk).1)).mono (by omega)))
      clear h1 h2 h3 O5
      go_wp2_with fail
      go_ret
      exact ⟨g5, cap5, rfl, unhide O6, unhide B6⟩
   ·have hjn : n ≤ pos es e.k := by have := unhide LE; have := unhide PL; omega
    have hjm : pos es e.k ≤ n := by have := unhide LE; have := unhide PL; omega
    have FN := hide (show found es e.k = false by unfold found; rw [List.getElem?_eq_none (by have := unhide LE; omega)])
    generalize hp : pos es e.k = p at *
    have hd1 : decide (p < n) = false := decide_eq_false (by omega)
    have hd2 : decide ((p : Int) < (n : Int)) = false := decide_eq_false (by omega)
    go_wp2_with fail
    go_quiet (fail)
    have O2q := hide (show (wr.drewN nq).ownsRow (w.heap.size + 1) 48 2 (.slice (some ⟨g, 0, none⟩) p cap) p (ecs (es.take p)) from unhide O2)
    have B2q := hide (bel_drewN (unhide hB) nq)
    have e0q : (wr.drewN nq).cell? ⟨w.heap.size, 0, none⟩ = some (.string e.k) := e0
    have e1q : (wr.drewN nq).cell? ⟨w.heap.size, 1, none⟩ = some (.string e.v) := e1
    have hszq : w.heap.size + 1 ≤ (wr.drewN nq).heap.size := hsz
    clear O2 hO hB BW e0 e1 hsz
    generalize wr.drewN nq = wq at *
    cases gone with
    | true =>
     have OX := hide (unhide O2q)
     have BY := hide (unhide B2q)
     have BX := hide (b1.trans ((unhide B2q).mono (by omega)))
     clear O2q B2q e1q
     have ST := hide (show putE es e true = (es.take p) by unfold putE stepE; rw [if_neg (by simp), hp, unhide FN, List.drop_of_length_le (by have := unhide LE; simp; omega)]; simp)
     go_wp2_with fail
     go_quiet (fail)
     obtain ⟨A, hA, hsrc⟩ := drop_src (k := p) ((unhide RE).below (unhide BX)) hc
     have hsX : w.heap.size + 1 ≤ wq.heap.size := by have := (unhide BY).size; simp at this; omega
     go_wp2_with (at_builtin; refine wpList_append_own _ rfl _ _ 38 rfl (w.heap.size + 1) 48 i0 (.agg #[.string ByteArray.empty, .string ByteArray.empty]) 2 32 Tryz.underlying38 hi0 hz0 hz1 hz2 rfl (by decide) _ _ _ rfl (show (wq.drewN nq).ownsRow (w.heap.size + 1) 48 2 (.slice (some ⟨g, 0, none⟩) p cap) p (ecs (es.take p)) from unhide OX) A 0 (c - p) [] rfl rfl (fun j u h => by simp at h) (fun u h => by simp at h) (by unfold maxLen; omega) (by omega) hsX ?_)
     intro v5 w5 h1 h2 h3
     have O5 : EOwns w5 w.heap.size v5 (putE es e true) := by
      rw [unhide ST]
      refine ownsRow_base2 ?_ (Nat.le_succ _)
      rw [unhide HTL]
      simpa using h1
     obtain ⟨g5, cap5, rfl, _⟩ := eowns_some O5 (fun h => by first | exact h3 h | (subst h; simp at h3))
     have O6 := hide O5
     have B6 := hide (b1.trans (((bel_drewN (unhide BY) nq).grown h2 hsX (fun k hk => (World.ownsRow.lt (show (wq.drewN nq).ownsRow (w.heap.size + 1) 48 2 (.slice (some ⟨g, 0, none⟩) p cap) p (ecs (es.take p)) from unhide OX) k hk).1)).mono (by omega)))
     clear h1 h2 h3 O5
     go_wp2_with fail
     go_ret
     exact ⟨g5, cap5, rfl, unhide O6, unhide B6⟩
    | false =>
     go_wp2_with (at_builtin; refine wpList_append_own _ rfl _ _ 38 rfl (w.heap.size + 1) 48 i0 (.agg #[.string ByteArray.empty, .string ByteArray.empty]) 2 32 Tryz.underlying38 hi0 hz0 hz1 hz2 rfl (by decide) _ _ _ rfl (World.ownsRow.alloc (unhide O2q) _) ⟨wq.heap.size, 0, none⟩ 1 1 [.string e.k, .string e.v] rfl rfl (cells_new (vs := [.string e.k, .string e.v])) (by intro u hu; simp at hu; rcases hu with rfl | rfl <;> rfl) (by unfold maxLen; omega) (by omega) (by simp; omega) ?_)
     intro v3 w3 h1 h2 h3
     have O3 : EOwns w3 (w.heap.size + 1) v3 (es.take p ++ [e]) := by
      refine eapp ?_
      rw [unhide HTL]
      exact h1
     obtain ⟨g3, cap3, rfl, hg3⟩ := eowns_some O3 (fun h => by subst h; simp at h3)
     have hl3 : (es.take p ++ [e]).length = p + 1 := by rw [List.length_append, unhide HTL]; rfl
     unfold EOwns at O3
     rw [hl3] at O3 ⊢
     have OX := hide O3
     have bZ : Below (w.heap.size + 1) wq w3 := ((Below.refl _ _).alloc hszq _).grown h2 (by simp; omega) (fun k hk => ((unhide O2q).lt k hk).1)
     have BY := hide ((unhide B2q).trans bZ)
     have BX := hide (b1.trans ((unhide BY).mono (by omega)))
     have e0r := (bZ.cell (p := ⟨w.heap.size, 0, none⟩) (by show w.heap.size < w.heap.size + 1; omega)).trans e0q
     clear h1 h2 h3 O3 bZ O2q B2q e0q e1q hl3
     have ST := hide (show putE es e false = (es.take p ++ [e]) by unfold putE stepE; rw [if_neg (by simp), hp, unhide FN, List.drop_of_length_le (by have := unhide LE; simp; omega)]; simp)
     go_wp2_with fail
     go_quiet (fail)
     obtain ⟨A, hA, hsrc⟩ := drop_src (k := p) ((unhide RE).below (unhide BX)) hc
     have hsX : w.heap.size + 1 ≤ w3.heap.size := by have := (unhide BY).size; simp at this; omega
     go_wp2_with (at_builtin; refine wpList_append_own _ rfl _ _ 38 rfl (w.heap.size + 1) 48 i0 (.agg #[.string ByteArray.empty, .string ByteArray.empty]) 2 32 Tryz.underlying38 hi0 hz0 hz1 hz2 rfl (by decide) _ _ _ rfl (show (w3.drewN nq).ownsRow (w.heap.size + 1) 48 2 (.slice (some ⟨g3, 0, none⟩) (p + 1) cap3) (p + 1) (ecs (es.take p ++ [e])) from unhide OX) A 0 (c - p) [] rfl rfl (fun j u h => by simp at h) (fun u h => by simp at h) (by unfold maxLen; omega) (by omega) hsX ?_)
     intro v5 w5 h1 h2 h3
     have O5 : EOwns w5 w.heap.size v5 (putE es e false) := by
      rw [unhide ST]
      refine ownsRow_base2 ?_ (Nat.le_succ _)
      rw [List.length_append, unhide HTL]
      simpa using h1
     obtain ⟨g5, cap5, rfl, _⟩ := eowns_some O5 (fun h => by first | exact h3 h | (subst h; simp at h3))
     have O6 := hide O5
     have B6 := hide (b1.trans (((bel_drewN (unhide BY) nq).grown h2 hsX (fun k hk => (World.ownsRow.lt (show (w3.drewN nq).ownsRow (w.heap.size + 1) 48 2 (.slice (some ⟨g3, 0, none⟩) (p + 1) cap3) (p + 1) (ecs (es.take p ++ [e])) from unhide OX) k hk).1)).mono (by omega)))
     clear h1 h2 h3 O5
     go_wp2_with fail
     go_ret
     exact ⟨g5, cap5, rfl, unhide O6, unhide B6⟩
end Go.Proofs.YtdnjgbckkmbmfaaGreat

namespace Go.Proofs.YtdnjgbckkmbmfaaGreat
open Go.RowKit

structure TxD where
 kind : Int
 ses : Int
 key : ByteArray
 «to» : ByteArray
 val : ByteArray
def xv (d : TxD) : Value := .agg #[.int .i64 d.kind, .int .i64 d.ses, .string d.key, .string d.to, .string d.val]
def XRow (w : World) (a : Option Addr) (n : Nat) (ds : List TxD) : Prop :=
 ds.length = n ∧ ∀ i (hi : i < ds.length), ∃ b off, a = some ⟨b, off, none⟩ ∧ w.cell? ⟨b, off + i * 5, none⟩ = some (.int .i64 ds[i].kind) ∧ w.cell? ⟨b, off + i * 5 + 1, none⟩ = some (.int .i64 ds[i].ses) ∧ w.cell? ⟨b, off + i * 5 + 2, none⟩ = some (.string ds[i].key) ∧ w.cell? ⟨b, off + i * 5 + 3, none⟩ = some (.string ds[i].to) ∧ w.cell? ⟨b, off + i * 5 + 4, none⟩ = some (.string ds[i].val)
theorem XRow.below {w w' : World} {a : Option Addr} {n : Nat} {ds : List TxD} (h : XRow w a n ds) (hb : Below w.heap.size w w') : XRow w' a n ds := by
 refine ⟨h.1, fun i hi => ?_⟩
 obtain ⟨b, off, e, c0, c1, c2, c3, c4⟩ := h.2 i hi
 have hbl : b < w.heap.size := cell_lt c0
 exact ⟨b, off, e, (hb.cell (p := ⟨b, off + i * 5, none⟩) hbl).trans c0, (hb.cell (p := ⟨b, off + i * 5 + 1, none⟩) hbl).trans c1, (hb.cell (p := ⟨b, off + i * 5 + 2, none⟩) hbl).trans c2, (hb.cell (p := ⟨b, off + i * 5 + 3, none⟩) hbl).trans c3, (hb.cell (p := ⟨b, off + i * 5 + 4, none⟩) hbl).trans c4⟩
def xcs : List TxD → List Value
 | [] => []
 | d :: r => .int .i64 d.kind :: .int .i64 d.ses :: .string d.key :: .string d.to :: .string d.val :: xcs r
theorem xcs_len : ∀ ds : List TxD, (xcs ds).length = ds.length * 5
 | [] => rfl
 | d :: r => by simp only [xcs, List.length_cons, xcs_len r]; omega
theorem xcs_append : ∀ a b : List TxD, xcs (a ++ b) = xcs a ++ xcs b
 | [], _ => rfl
 | d :: r, b => by simp only [List.cons_append, xcs, xcs_append r b]
theorem xcs_at : ∀ (ds : List TxD) (i : Nat) (hi : i < ds.length), (xcs ds)[i * 5]? = some (.int .i64 ds[i].kind) ∧ (xcs ds)[i * 5 + 1]? = some (.int .i64 ds[i].ses) ∧ (xcs ds)[i * 5 + 2]? = some (.string ds[i].key) ∧ (xcs ds)[i * 5 + 3]? = some (.string ds[i].to) ∧ (xcs ds)[i * 5 + 4]? = some (.string ds[i].val)
 | [], _, hi => by simp at hi
 | d :: r, 0, _ => ⟨rfl, rfl, rfl, rfl, rfl⟩
 | d :: r, i + 1, hi => by
  have h := xcs_at r i (by simpa using hi)
  rw [show (i + 1) * 5 = i * 5 + 1 + 1 + 1 + 1 + 1 by omega, show i * 5 + 1 + 1 + 1 + 1 + 1 + 2 = i * 5 + 2 + 1 + 1 + 1 + 1 + 1 by omega, show i * 5 + 1 + 1 + 1 + 1 + 1 + 3 = i * 5 + 3 + 1 + 1 + 1 + 1 + 1 by omega, show i * 5 + 1 + 1 + 1 + 1 + 1 + 4 = i * 5 + 4 + 1 + 1 + 1 + 1 + 1 by omega]
  simp only [xcs, List.getElem?_cons_succ, List.getElem_cons_succ]
  exact h
abbrev XOwns (w : World) (B : Nat) (v : Value) (ds : List TxD) : Prop := w.ownsRow B 37 5 v ds.length (xcs ds)
theorem xrow_of_owns {w : World} {B n c : Nat} {a : Option Addr} {ds : List TxD} (h : XOwns w B (.slice a n c) ds) : XRow w a n ds := by
 have h' := h
 obtain ⟨hl, h⟩ := h
 rcases h with ⟨e, hn⟩ | ⟨g, cap, cur, e, hb, hh, hc, hm, hs, ht⟩
 ·injection e with e1 e2 e3
  subst e1 e2 e3
  exact ⟨hn, fun i hi => absurd hi (by omega)⟩
 ·injection e with e1 e2 e3
  subst e1 e2 e3
  refine ⟨rfl, fun i hi => ⟨g, 0, rfl, ?_, ?_, ?_, ?_, ?_⟩⟩
  ·rw [Nat.zero_add, h'.cellAt (i * 5) (by omega), (xcs_at ds i hi).1]
  ·rw [Nat.zero_add, h'.cellAt (i * 5 + 1) (by omega), (xcs_at ds i hi).2.1]
  ·rw [Nat.zero_add, h'.cellAt (i * 5 + 2) (by omega), (xcs_at ds i hi).2.2.1]
  ·rw [Nat.zero_add, h'.cellAt (i * 5 + 3) (by omega), (xcs_at ds i hi).2.2.2.1]
  ·rw [Nat.zero_add, h'.cellAt (i * 5 + 4) (by omega), (xcs_at ds i hi).2.2.2.2]
end Go.Proofs.YtdnjgbckkmbmfaaGreat

namespace Go.Proofs.YtdnjgbckkmbmfaaGreat
open Go.RowKit

structure RepD where
 code : Int
 time : Int
 val : ByteArray
 list : List EntD
def posV : List VerD → VerD → Nat
 | [], _ => 0
 | d :: r, x => if ltV d x then posV r x + 1 else 0
theorem posV_le : ∀ (ds : List VerD) (x : VerD), posV ds x ≤ ds.length
 | [], _ => Nat.le_refl _
 | d :: r, x => by
  unfold posV
  have := posV_le r x
  split <;> simp <;> omega
theorem posV_lt : ∀ (ds : List VerD) (x : VerD) (i : Nat) (hi : i < ds.length), i < posV ds x → ltV ds[i] x = true
 | [], _, _, hi, _ => by simp at hi
 | d :: r, x, i, hi, h => by
  unfold posV at h
  split at h
  ·rename_i hl
   cases i with
   | zero => exact hl
   | succ i => exact posV_lt r x i (by simpa using hi) (by omega)
  ·omega
theorem posV_at : ∀ (ds : List VerD) (x : VerD) (h : posV ds x < ds.length), ltV ds[posV ds x] x = false
 | [], _, h => by simp [posV] at h
 | d :: r, x, h => by
  by_cases hl : ltV d x = true
  ·have e : posV (d :: r) x = posV r x + 1 := by rw [posV, if_pos hl]
   have h' : posV r x < r.length := by rw [e] at h; simpa using h
   have := posV_at r x h'
   simp only [e, List.getElem_cons_succ]
   exact this
  ·have e : posV (d :: r) x = 0 := by rw [posV, if_neg hl]
   simp only [e, List.getElem_cons_zero]
   simpa using hl
theorem posV_step {ds : List VerD} {x : VerD} {i : Nat} (hi : i < ds.length) (h : i ≤ posV ds x) (hl : ltV ds[i] x = true) : i + 1 ≤ posV ds x := by
 rcases Nat.lt_or_ge i (posV ds x) with h1 | h1
 ·omega
 ·obtain rfl : i = posV ds x := by omega
  rw [posV_at ds x hi] at hl
  cases hl
theorem posV_end {ds : List VerD} {x : VerD} {i : Nat} (hi : i < ds.length) (h : i ≤ posV ds x) (hl : ltV ds[i] x = false) : i = posV ds x := by
 rcases Nat.lt_or_ge i (posV ds x) with h1 | h1
 ·rw [posV_lt ds x i hi h1] at hl
  cases hl
 ·omega
def sameV (a b : VerD) : Bool := decide (a.k = b.k) && decide (a.t = b.t)
def hitV (ds : List VerD) (x : VerD) : Bool := match ds[posV ds x]? with
 | some d => sameV d x
 | none => false
def insV (ds : List VerD) (x : VerD) : List VerD := ds.take (posV ds x) ++ x :: ds.drop (posV ds x + (if hitV ds x = true then 1 else 0))
theorem insV_len (ds : List VerD) (x : VerD) : (insV ds x).length ≤ ds.length + 1 := by
 unfold insV
 have := posV_le ds x
 simp only [List.length_append, List.length_take, List.length_cons, List.length_drop]
 omega
def kvE (d : KvD) : EntD := ⟨d.k, d.v⟩
theorem kcs_ecs : ∀ ds : List KvD, kcs ds = ecs (ds.map kvE)
 | [] => rfl
 | d :: r => by simp only [kcs, List.map_cons, ecs, kcs_ecs r, kvE]
def seenV (d : VsD) (s : SesD) : List EntD := s.ws.foldl (fun es x => putE es ⟨x.k, x.v⟩ x.g) ((entsAt d.list s.t).map kvE)
def getR (es : List EntD) (k : ByteArray) (t : Int) : RepD := es.foldl (fun r e => if e.k = k then ⟨0, t, e.v, []⟩ else r) ⟨5, t, ⟨#[]⟩, []⟩
def conV (d : VsD) (x : VerD) : Bool := d.list.any (fun y => decide (y.k = x.k) && decide (x.t < y.t)) || d.fen.any (fun f => decide (x.t < f.t) && inK f.f f.u x.k)
def repV (c t : Int) : RepD := ⟨c, t, ⟨#[]⟩, []⟩
def clS : SesD := ⟨false, 0, []⟩
def fenV (d : VsD) (f : FenD) (r : RepD) : VsD × RepD := if d.fen.length = 4096 then (d, repV 7 r.time) else (⟨d.next, d.list, d.fen ++ [f], d.ses⟩, r)
def fitA (a : TxD) : Bool := if a.kind = 2 ∨ a.kind = 4 ∨ a.kind = 5 then keyK a.key && valK a.val else if a.kind = 3 then decide (a.key.size ≤ 40) && decide (a.to.size ≤ 40) else true
def wrA (a : TxD) (t : Int) : VerD := if a.kind = 5 then ⟨a.key, t, ⟨#[]⟩, true⟩ else ⟨a.key, t, a.val, false⟩
def nulK (k : ByteArray) : ByteArray := k ++ ⟨#[0]⟩
def inV (d : VsD) (a : TxD) (i : Nat) (s : SesD) : VsD × RepD :=
 if a.kind = 2 then fenV d ⟨a.key, nulK a.key, s.t⟩ (getR (seenV d s) a.key s.t)
 else if a.kind = 3 then fenV d ⟨a.key, a.to, s.t⟩ ⟨0, s.t, ⟨#[]⟩, (seenV d s).filter (fun e => inK a.key a.to e.k)⟩
 else if a.kind = 4 ∨ a.kind = 5 then
  if 8 < (insV s.ws (wrA a s.t)).length then (d, repV 7 s.t) else (⟨d.next, d.list, d.fen, d.ses.set i ⟨s.o, s.t, insV s.ws (wrA a s.t)⟩⟩, repV 0 s.t)
 else if a.kind = 6 then
  if s.ws.any (conV d) = true then (⟨d.next, d.list, d.fen, d.ses.set i clS⟩, repV 9 s.t) else (⟨d.next, s.ws.foldl insV d.list, d.fen, d.ses.set i clS⟩, repV 0 s.t)
 else (⟨d.next, d.list, d.fen, d.ses.set i clS⟩, repV 0 s.t)
def sesV (d : VsD) (a : TxD) (i : Nat) (s : SesD) : VsD × RepD :=
 if a.kind = 1 then
  if s.o = true then (d, repV 8 0) else if d.next = 1000 then (d, repV 7 0) else (⟨d.next + 1, d.list, d.fen, d.ses.set i ⟨true, d.next, []⟩⟩, repV 0 d.next)
 else if s.o = false then (d, repV 10 0)
 else if fitA a = false then (d, repV 11 s.t)
 else inV d a i s
def stepV (d : VsD) (a : TxD) : VsD × RepD :=
 if ¬ (1 ≤ a.kind ∧ a.kind ≤ 7) then (d, repV 3 0)
 else if ¬ (0 ≤ a.ses ∧ a.ses ≤ 3) then (d, repV 4 0)
 else sesV d a a.ses.toNat (d.ses.getD a.ses.toNat clS)
def newV : VsD := ⟨1, [], [], List.replicate 4 clS⟩
def runV (acts : List TxD) : VsD × List RepD := acts.foldl (fun p a => ((stepV p.1 a).1, p.2 ++ [(stepV p.1 a).2])) (newV, [])
theorem runV_snoc (acts : List TxD) (a : TxD) : runV (acts ++ [a]) = ((stepV (runV acts).1 a).1, (runV acts).2 ++ [(stepV (runV acts).1 a).2]) := by
 unfold runV
 rw [List.foldl_append]
 rfl
theorem foldV_len : ∀ (acts : List TxD) (p : VsD × List RepD), (acts.foldl (fun p a => ((stepV p.1 a).1, p.2 ++ [(stepV p.1 a).2])) p).2.length = p.2.length + acts.length
 | [], p => rfl
 | a :: r, p => by rw [List.foldl_cons, foldV_len r]; simp only [List.length_append, List.length_cons, List.length_nil]; omega
theorem runV_len (acts : List TxD) : (runV acts).2.length = acts.length := by unfold runV; rw [foldV_len]; simp
end Go.Proofs.YtdnjgbckkmbmfaaGreat

namespace Go.Proofs.YtdnjgbckkmbmfaaGreat
open Go.RowKit

theorem app_at {P : Program} {w : World} {B : Nat} (t ty e : TypeId) {i : TypeInfo} {z : Value} {size bytes : Nat} (ht : P.underlying t = some (.slice e)) (hi : P.info? e = some i) (hz : i.zero = some z)
  (hsize : i.size = size) (hby : i.bytes = bytes) (hzs : z.cells.size = size) (hsz : 0 < size)
  {v : Value} {n : Nat} {xs : List Value} (hown : w.ownsRow B e size v n xs)
  (a : Addr) (m c : Nat) (news : List Value) (hl : news.length = m * size) (hnews : ∀ j u, news[j]? = some u → w.cell? (a.add j) = some u) (h1 : ∀ u ∈ news, u.oneCell' = true)
  (h63 : n + m ≤ maxLen) (hbytes : (n + m) * bytes ≤ 140737488355328) (hbase : B ≤ w.heap.size) (hm : v = .slice none 0 0 → 0 < m) :
  ∃ v' w', (Builtin.append_ #[t, t] ty #[v, .slice (some a) m c]).run P w = .ok v' w' ∧ w'.ownsRow B e size v' (n + m) (xs ++ news) ∧ w.grownBy w' v.ownBlock ∧ v' ≠ .slice none 0 0 ∧ (v'.ownBlock = v.ownBlock ∨ v'.ownBlock = some w.heap.size) := by
 obtain ⟨v', w', hr, ho', hg, hnil⟩ := run_append_own (P := P) (w := w) B t ty e i z size bytes ht hi hz hsize hby hzs hsz v n xs hown a m c news hl hnews h1 h63 hbytes hbase
 refine ⟨v', w', hr, ho', hg, fun e => by have h1 := hnil.1 e; have := hm h1.1; omega, ?_⟩
 subst hsize
 subst hby
 unfold maxLen at h63
 have hbm : m * i.bytes ≤ (n + m) * i.bytes := Nat.mul_le_mul_right _ (by omega)
 rcases hown.2 with ⟨rfl, h0⟩ | ⟨g', cap', cur, rfl, hbg, hgg, hnc, hcm, hcs, htake⟩
 ·have h := run_append_nil (P := P) (w := w) t ty e i z ht hi hz a m c news hl hnews (hm rfl) (by omega) (by omega)
  rw [hr] at h
  injection h with h _
  subst h
  exact .inr rfl
 ·by_cases hroom : n + m ≤ cap'
  ·have hk : n * i.size + m * i.size ≤ cap' * i.size := by rw [← Nat.add_mul]; exact Nat.mul_le_mul_right _ hroom
   have h := run_append_room (P := P) (w := w) t ty e i ht hi g' n cap' cur hgg a m c news hl hnews h1 hroom (by rw [hcs, hl]; exact hk)
   rw [hr] at h
   injection h with h _
   subst h
   exact .inl rfl
  ·have h := run_append_grow (P := P) (w := w) t ty e i z ht hi hz ⟨g', 0, none⟩ n cap' xs hown.1 (fun j u hu => by
     have hj : j < n * i.size := by rw [← hown.1]; exact (List.getElem?_eq_some_iff.1 hu).1
     have e2 : (⟨g', 0, none⟩ : Addr).add j = ⟨g', j, none⟩ := by unfold Addr.add; split <;> simp_all
     rw [e2, hown.cellAt j hj, hu]) a m c news hl hnews (by omega) (by omega) (growslice_fits (by omega) hbytes)
   rw [hr] at h
   injection h with h _
   subst h
   exact .inr rfl
end Go.Proofs.YtdnjgbckkmbmfaaGreat

namespace Go.Proofs.YtdnjgbckkmbmfaaGreat
open Go.RowKit

theorem app_src {P : Program} {w : World} {B : Nat} (t ty e : TypeId) {i : TypeInfo} {z : Value} {size bytes : Nat} (ht : P.underlying t = some (.slice e)) (hi : P.info? e = some i) (hz : i.zero = some z)
  (hsize : i.size = size) (hby : i.bytes = bytes) (hzs : z.cells.size = size) (hsz : 0 < size)
  {v : Value} {n : Nat} {xs : List Value} (hown : w.ownsRow B e size v n xs) (hv : v ≠ .slice none 0 0)
  (a : Option Addr) (m c : Nat) (news : List Value) (hl : news.length = m * size) (hnews : ∀ A, a = some A → ∀ j u, news[j]? = some u → w.cell? (A.add j) = some u) (hc : a = none → m = 0 ∧ c = 0) (h1 : ∀ u ∈ news, u.oneCell' = true)
  (h63 : n + m ≤ maxLen) (hbytes : (n + m) * bytes ≤ 140737488355328) (hbase : B ≤ w.heap.size) :
  ∃ v' w', (Builtin.append_ #[t, t] ty #[v, .slice a m c]).run P w = .ok v' w' ∧ w'.ownsRow B e size v' (n + m) (xs ++ news) ∧ w.grownBy w' v.ownBlock ∧ v' ≠ .slice none 0 0 ∧ (v'.ownBlock = v.ownBlock ∨ v'.ownBlock = some w.heap.size) := by
 cases a with
 | none =>
  obtain ⟨rfl, rfl⟩ := hc rfl
  obtain rfl : news = [] := List.eq_nil_of_length_eq_zero (by rw [hl]; simp)
  rw [List.append_nil, Nat.add_zero]
  subst hsize
  exact ⟨v, w, run_append_owned_none (P := P) w B t ty e i i.size ht hi _ _ _ hown, hown, ⟨rfl, rfl, rfl, Nat.le_refl _, fun _ _ _ => rfl⟩, hv, .inl rfl⟩
 | some A => exact app_at t ty e ht hi hz hsize hby hzs hsz hown A m c news hl (hnews A rfl) h1 h63 hbytes hbase (fun h => absurd h hv)
theorem vrow_src {w : World} {A : Addr} {n : Nat} {ds : List VerD} (h : VRow w (some A) n ds) : ∀ t u, (vcs ds)[t]? = some u → w.cell? (A.add t) = some u := by
 intro t u hu
 have hl : t < ds.length * 4 := by
  have := (List.getElem?_eq_some_iff.1 hu).1
  rwa [vcs_len] at this
 obtain ⟨m, r, hr, rfl⟩ : ∃ m r, r < 4 ∧ t = m * 4 + r := ⟨t / 4, t % 4, Nat.mod_lt _ (by omega), by omega⟩
 have hm : m < ds.length := by omega
 obtain ⟨b, off, e, c0, c1, c2, c3⟩ := h.2 m hm
 injection e with e
 subst e
 rw [Addr.add_lit]
 obtain ⟨a0, a1, a2, a3⟩ := vcs_at ds m hm
 match r, hr with
 | 0, _ => rw [Nat.add_zero] at hu ⊢; rw [a0] at hu; rw [c0, ← hu]
 | 1, _ => rw [a1] at hu; rw [← Nat.add_assoc, c1, ← hu]
 | 2, _ => rw [a2] at hu; rw [← Nat.add_assoc, c2, ← hu]
 | 3, _ => rw [a3] at hu; rw [← Nat.add_assoc, c3, ← hu]
theorem frow_src {w : World} {A : Addr} {n : Nat} {ds : List FenD} (h : FRow w (some A) n ds) : ∀ t u, (fcs ds)[t]? = some u → w.cell? (A.add t) = some u := by
 intro t u hu
 have hl : t < ds.length * 3 := by
  have := (List.getElem?_eq_some_iff.1 hu).1
  rwa [fcs_len] at this
 obtain ⟨m, r, hr, rfl⟩ : ∃ m r, r < 3 ∧ t = m * 3 + r := ⟨t / 3, t % 3, Nat.mod_lt _ (by omega), by omega⟩
 have hm : m < ds.length := by omega
 obtain ⟨b, off, e, c0, c1, c2⟩ := h.2 m hm
 injection e with e
 subst e
 rw [Addr.add_lit]
 obtain ⟨a0, a1, a2⟩ := fcs_at ds m hm
 match r, hr with
 | 0, _ => rw [Nat.add_zero] at hu ⊢; rw [a0] at hu; rw [c0, ← hu]
 | 1, _ => rw [a1] at hu; rw [← Nat.add_assoc, c1, ← hu]
 | 2, _ => rw [a2] at hu; rw [← Nat.add_assoc, c2, ← hu]
theorem vrow_none {w : World} {n : Nat} {ds : List VerD} (h : VRow w none n ds) : n = 0 ∧ ds = [] := by
 have h0 : ds.length = 0 := by
  rcases Nat.eq_zero_or_pos ds.length with h' | h'
  ·exact h'
  ·obtain ⟨_, _, e, _⟩ := h.2 0 h'; cases e
 exact ⟨by have := h.1; omega, List.eq_nil_of_length_eq_zero h0⟩
theorem frow_none {w : World} {n : Nat} {ds : List FenD} (h : FRow w none n ds) : n = 0 ∧ ds = [] := by
 have h0 : ds.length = 0 := by
  rcases Nat.eq_zero_or_pos ds.length with h' | h'
  ·exact h'
  ·obtain ⟨_, _, e, _⟩ := h.2 0 h'; cases e
 exact ⟨by have := h.1; omega, List.eq_nil_of_length_eq_zero h0⟩
theorem owns_form {w : World} {B e s n : Nat} {v : Value} {cs : List Value} (h : w.ownsRow B e s v n cs) (hv : v ≠ .slice none 0 0) : ∃ g c, v = .slice (some ⟨g, 0, none⟩) n c ∧ B ≤ g ∧ g < w.heap.size ∧ n ≤ c := by
 rcases h.2 with ⟨e, _⟩ | ⟨g, cap, cur, e, hb, hh, hc, _⟩
 ·exact absurd e hv
 ·exact ⟨g, cap, e, hb, (Array.getElem?_eq_some_iff.1 hh).1, hc⟩
theorem v_appS {w : World} {B : Nat} {v : Value} {ds es : List VerD} {a : Option Addr} {m c : Nat} (ty : TypeId) (ho : VOwns w B v ds) (hv : v ≠ .slice none 0 0) (hr : VRow w a m es) (hc : a = none → c = 0) (hz : ds.length + m ≤ 2000000) (hB : B ≤ w.heap.size) :
  ∃ g k w', (Builtin.append_ #[25, 25] ty #[v, .slice a m c]).run Tryz.prog w = .ok (.slice (some ⟨g, 0, none⟩) (ds.length + m) k) w' ∧ VOwns w' B (.slice (some ⟨g, 0, none⟩) (ds.length + m) k) (ds ++ es) ∧ w.grownBy w' v.ownBlock ∧ (some g = v.ownBlock ∨ g = w.heap.size) := by
 obtain ⟨i0, hi0, hz0, hz1, hz2⟩ := info_parts Tryz.infoVersion
 obtain ⟨v', w', hrun, ho', hg, hnil, loc⟩ := app_src (P := Tryz.prog) (w := w) (B := B) 25 ty 43 Tryz.underlying25 hi0 hz0 hz1 hz2 rfl (by decide) ho hv a m c (vcs es) (by rw [vcs_len, hr.1]) (fun A hA => by subst hA; exact vrow_src hr) (fun h => by subst h; exact ⟨(vrow_none hr).1, hc rfl⟩) (vcs_one _) (by unfold maxLen; omega) (by omega) hB
 obtain ⟨g, k, rfl, _⟩ := owns_form ho' hnil
 refine ⟨g, k, w', hrun, ?_, hg, ?_⟩
 ·unfold VOwns
  rw [List.length_append, vcs_append, hr.1]
  exact ho'
 ·rcases loc with h | h
  ·exact .inl h
  ·injection h with h
   exact .inr h
theorem f_appS {w : World} {B : Nat} {v : Value} {ds es : List FenD} {a : Option Addr} {m c : Nat} (ty : TypeId) (ho : FOwns w B v ds) (hv : v ≠ .slice none 0 0) (hr : FRow w a m es) (hc : a = none → c = 0) (hz : ds.length + m ≤ 2000000) (hB : B ≤ w.heap.size) :
  ∃ g k w', (Builtin.append_ #[26, 26] ty #[v, .slice a m c]).run Tryz.prog w = .ok (.slice (some ⟨g, 0, none⟩) (ds.length + m) k) w' ∧ FOwns w' B (.slice (some ⟨g, 0, none⟩) (ds.length + m) k) (ds ++ es) ∧ w.grownBy w' v.ownBlock ∧ (some g = v.ownBlock ∨ g = w.heap.size) := by
 obtain ⟨i0, hi0, hz0, hz1, hz2⟩ := info_parts Tryz.infoFence
 obtain ⟨v', w', hrun, ho', hg, hnil, loc⟩ := app_src (P := Tryz.prog) (w := w) (B := B) 26 ty 85 Tryz.underlying26 hi0 hz0 hz1 hz2 rfl (by decide) ho hv a m c (fcs es) (by rw [fcs_len, hr.1]) (fun A hA => by subst hA; exact frow_src hr) (fun h => by subst h; exact ⟨(frow_none hr).1, hc rfl⟩) (fcs_one _) (by unfold maxLen; omega) (by omega) hB
 obtain ⟨g, k, rfl, _⟩ := owns_form ho' hnil
 refine ⟨g, k, w', hrun, ?_, hg, ?_⟩
 ·unfold FOwns
  rw [List.length_append, fcs_append, hr.1]
  exact ho'
 ·rcases loc with h | h
  ·exact .inl h
  ·injection h with h
   exact .inr h
theorem vrow_one (w : World) (d : VerD) : VRow (w.alloc (.cells #[.string d.k, .int .i64 d.t, .string d.v, .bool d.g] 43)) (some ⟨w.heap.size, 0, none⟩) 1 [d] := by
 refine ⟨rfl, fun i hi => ⟨w.heap.size, 0, rfl, ?_⟩⟩
 obtain rfl : i = 0 := by simpa using hi
 simp
theorem frow_one (w : World) (d : FenD) : FRow (w.alloc (.cells #[.string d.f, .string d.u, .int .i64 d.t] 85)) (some ⟨w.heap.size, 0, none⟩) 1 [d] := by
 refine ⟨rfl, fun i hi => ⟨w.heap.size, 0, rfl, ?_⟩⟩
 obtain rfl : i = 0 := by simpa using hi
 simp
theorem vdrop_src {w : World} {b off n c k : Nat} {ds : List VerD} (hE : VRow w (some ⟨b, off, none⟩) n ds) (hc : n ≤ c) (hk : k ≤ n) : ∃ A : Addr, (if c = k then some (⟨b, off, none⟩ : Addr) else some ⟨b, off + k * 4, none⟩) = some A ∧ VRow w (some A) (n - k) (ds.drop k) := by
 by_cases h : c = k
 ·exact ⟨⟨b, off, none⟩, by simp [h], ⟨by rw [List.length_drop, hE.1], fun i hi => by rw [List.length_drop] at hi; have := hE.1; omega⟩⟩
 ·refine ⟨⟨b, off + k * 4, none⟩, by simp [h], ⟨by rw [List.length_drop, hE.1], fun i hi => ?_⟩⟩
  rw [List.length_drop] at hi
  obtain ⟨b', off', e, q⟩ := hE.2 (k + i) (by omega)
  injection e with e
  injection e with e1 e2
  subst e1 e2
  refine ⟨_, _, rfl, ?_⟩
  rw [List.getElem_drop, show off + k * 4 + i * 4 = off + (k + i) * 4 by omega]
  exact q
end Go.Proofs.YtdnjgbckkmbmfaaGreat
