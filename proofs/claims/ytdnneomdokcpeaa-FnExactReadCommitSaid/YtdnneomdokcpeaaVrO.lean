/-
  The program's tests of versions: one, how two stand, a list.
-/
import Derived.Test.YtdnneomdokcpeaaVrL
import Derived.Test.YtdnneomdokcpeaaPageA
import Derived.Lib.Bytealg
import Derived.Deep.RegionWith
import Derived.Deep.RegionHeld3
import Derived.Deep.Cut
namespace Go.Proofs.Ytdnneomdokcpeaa
open Go.RowKit

def vrCmpT (a b : ByteArray) : Int := if Op.bytesLess a.toList b.toList then -1 else if Op.bytesLess b.toList a.toList then 1 else 0
theorem vrCmpB_eq : ∀ a b : List UInt8, Lib.compareBytes a b = if Op.bytesLess a b then -1 else if Op.bytesLess b a then 1 else 0
  | [], [] => by simp [Lib.compareBytes, Op.bytesLess]
  | [], _ :: _ => by simp [Lib.compareBytes, Op.bytesLess]
  | _ :: _, [] => by simp [Lib.compareBytes, Op.bytesLess]
  | a :: r, b :: s => by
    have ih := vrCmpB_eq r s
    have e1 : Op.bytesLess (a :: r) (b :: s) = (decide (a < b) || (a == b && Op.bytesLess r s)) := rfl
    have e2 : Op.bytesLess (b :: s) (a :: r) = (decide (b < a) || (b == a && Op.bytesLess s r)) := rfl
    rw [e1, e2]
    unfold Lib.compareBytes
    by_cases h1 : a < b
    · simp [h1]
    · by_cases h2 : b < a
      · have ne : ¬ a = b := fun e => by subst e; exact absurd h2 (UInt8.lt_irrefl _)
        simp [h1, h2, ne]
      · have e : a = b := UInt8.le_antisymm (UInt8.not_lt.1 h2) (UInt8.not_lt.1 h1)
        subst e
        simp [h1, ih]
theorem vrCmpT_eq (a b : ByteArray) : Extern.BytealgCompare.cmp a b = vrCmpT a b := by
  rw [Lib.cmp_eq, vrCmpB_eq, vrCmpT, ByteArray.toList_eq, ByteArray.toList_eq]
theorem vr_run_cmps (a b : ByteArray) (w : World) : (callFunc 84 #[.string a, .string b]).run Try.prog w = .ok (.value (.int .i64 (Extern.BytealgCompare.cmp a b))) w := by kernel_rfl
theorem vr_bytealgCmp_any (a b : ByteArray) (w : World) : Calls Try.prog 82 #[.string a, .string b] w fun e w' => e = .returned (.int .i64 (vrCmpT a b)) ∧ w' = w := by
  have hr := vr_run_cmps a b
  rw [vrCmpT_eq] at hr
  go_enter Try.func82, Try.ntmps82
  go_wp2_with fail
  go_ret
  exact ⟨rfl, rfl⟩
theorem vr_stringsCmp_any (a b : ByteArray) (w : World) : Calls Try.prog 80 #[.string a, .string b] w fun e w' => e = .returned (.int .i64 (vrCmpT a b)) ∧ w' = w := by
  go_enter Try.func80, Try.ntmps80
  go_wp2_with fail
  refine (vr_bytealgCmp_any a b _).mono ?_
  rintro e w1 ⟨rfl, rfl⟩
  go_wp2_with fail
  go_ret
  exact ⟨rfl, rfl⟩
def vrCmpI (x y : Int) : Int := if x < y then -1 else if y < x then 1 else 0
theorem vr_isNaNi_any (x : Int) (w : World) : Calls Try.prog 83 #[.int .i64 x] w fun e w' => e = .returned (.bool false) ∧ w' = w := by
  go_enter Try.func83, Try.ntmps83
  go_wp2
  all_goals go_ret
  all_goals exact ⟨ret_bool (by simp), rfl⟩
set_option maxHeartbeats 400000 in
theorem vr_cmpInt_any (x y : Int) (w : World) : Calls Try.prog 81 #[.int .i64 x, .int .i64 y] w fun e w' => e = .returned (.int .i64 (vrCmpI x y)) ∧ w' = w := by
  rcases (show x < y ∨ x = y ∨ y < x from by omega) with h | h | h
  · have H := hide (show vrCmpI x y = -1 by simp [vrCmpI, h])
    go_enter Try.func81, Try.ntmps81
    go_wp2_with (go_at_call 83; refine (vr_isNaNi_any _ _).mono ?_; rintro e w' ⟨rfl, rfl⟩)
    all_goals go_ret
    all_goals exact ⟨ret_int (unhide H).symm, rfl⟩
  · subst h
    have H := hide (show vrCmpI x x = 0 by simp [vrCmpI])
    go_enter Try.func81, Try.ntmps81
    go_wp2_with (go_at_call 83; refine (vr_isNaNi_any _ _).mono ?_; rintro e w' ⟨rfl, rfl⟩)
    all_goals go_ret
    all_goals exact ⟨ret_int (unhide H).symm, rfl⟩
  · have H := hide (show vrCmpI x y = 1 by simp [vrCmpI, h]; omega)
    go_enter Try.func81, Try.ntmps81
    go_wp2_with (go_at_call 83; refine (vr_isNaNi_any _ _).mono ?_; rintro e w' ⟨rfl, rfl⟩)
    all_goals go_ret
    all_goals exact ⟨ret_int (unhide H).symm, rfl⟩
set_option maxHeartbeats 1000000 in
theorem cmpOr_any (g : Nat) (x y : Int) (w : World) (h0 : w.cell? ⟨g, 0, none⟩ = some (.int .i64 x)) (h1 : w.cell? ⟨g, 1, none⟩ = some (.int .i64 y)) :
    Calls Try.prog 79 #[.slice (some ⟨g, 0, none⟩) 2 2] w fun e w' => e = .returned (.int .i64 (if x = 0 then y else x)) ∧ w' = w := by
  by_cases hx : x = 0
  · subst hx
    rw [if_pos rfl]
    by_cases hy : y = 0
    · subst hy
      go_enter Try.func79, Try.ntmps79
      go_wp2_with fail
      refine wp_loop_rounds 3 ?_
      rw [rounds_succ]
      go_wp2_with fail
      rw [rounds_succ]
      go_wp2_with fail
      rw [rounds_succ]
      go_wp2_with fail
      go_ret
      exact ⟨rfl, rfl⟩
    · go_enter Try.func79, Try.ntmps79
      go_wp2_with fail
      refine wp_loop_rounds 2 ?_
      rw [rounds_succ]
      go_wp2_with fail
      rw [rounds_succ]
      go_wp2_with fail
      go_ret
      exact ⟨rfl, rfl⟩
  · rw [if_neg hx]
    go_enter Try.func79, Try.ntmps79
    go_wp2_with fail
    refine wp_loop_rounds 1 ?_
    rw [rounds_succ]
    go_wp2_with fail
    go_ret
    exact ⟨rfl, rfl⟩
/-- How two versions stand. -/
def vrCmp (a b : VerD) : Int := if vrCmpT a.k b.k = 0 then vrCmpI a.t b.t else vrCmpT a.k b.k
theorem vrCmp_lt (a b : VerD) : decide (vrCmp a b ≥ 0) = !ltV a b := by
  unfold vrCmp ltV vrCmpT vrCmpI
  by_cases h1 : ltK a.k b.k = true
  · have h1' : Op.bytesLess a.k.toList b.k.toList = true := h1
    simp [h1, h1']
  · have h1' : Op.bytesLess a.k.toList b.k.toList = false := by simpa [ltK] using h1
    have h1f : ltK a.k b.k = false := by simpa using h1
    by_cases h2 : ltK b.k a.k = true
    · have h2' : Op.bytesLess b.k.toList a.k.toList = true := h2
      have hne : ¬ a.k = b.k := fun e => by rw [e, ltK_irr] at h2; cases h2
      simp [h1f, h1', h2', hne]
    · have h2' : Op.bytesLess b.k.toList a.k.toList = false := by simpa [ltK] using h2
      have e : a.k = b.k := ltK_eq h1f (by simpa using h2)
      rw [h1f, h1', h2', decide_eq_true e]
      by_cases h3 : a.t < b.t
      · simp [h3]
      · by_cases h4 : b.t < a.t
        · simp [h3, h4]
        · simp [h3, h4]
set_option maxRecDepth 100000 in
set_option maxHeartbeats 4000000 in
theorem compareVersions_any (a b : VerD) (w : World) :
    Calls Try.prog 69 #[vv a, vv b] w fun e w' => e = .returned (.int .i64 (vrCmp a b)) ∧ Below w.heap.size w w' := by
  obtain ⟨k, t, v, g⟩ := a
  obtain ⟨k', t', v', g'⟩ := b
  unfold vv
  have E := hide (show (if vrCmpT k k' = 0 then vrCmpI t t' else vrCmpT k k') = vrCmp ⟨k, t, v, g⟩ ⟨k', t', v', g'⟩ from rfl)
  generalize vrCmp ⟨k, t, v, g⟩ ⟨k', t', v', g'⟩ = R at *
  have S1 := hide (vr_stringsCmp_any k k')
  have S2 := hide (vr_cmpInt_any t t')
  generalize vrCmpT k k' = x at *
  generalize vrCmpI t t' = y at *
  have S3 := hide (fun (g : Nat) (w : World) (h0 : w.cell? ⟨g, 0, none⟩ = some (.int .i64 x)) (h1 : w.cell? ⟨g, 1, none⟩ = some (.int .i64 y)) => show Calls Try.prog 79 #[.slice (some ⟨g, 0, none⟩) 2 2] w fun e w' => e = .returned (.int .i64 R) ∧ w' = w by rw [← unhide E]; exact cmpOr_any g x y w h0 h1)
  clear E
  have B0 : Below w.heap.size w ((w.alloc (.cells #[.string k, .int .i64 t, .string v, .bool g] 52)).alloc (.cells #[.string k', .int .i64 t', .string v', .bool g'] 52)) := ((Below.refl _ _).alloc (Nat.le_refl _) _).alloc (by simp) _
  have c0 : ((w.alloc (.cells #[.string k, .int .i64 t, .string v, .bool g] 52)).alloc (.cells #[.string k', .int .i64 t', .string v', .bool g'] 52)).cell? ⟨w.heap.size, 0, none⟩ = some (.string k) := by simp
  have c1 : ((w.alloc (.cells #[.string k, .int .i64 t, .string v, .bool g] 52)).alloc (.cells #[.string k', .int .i64 t', .string v', .bool g'] 52)).cell? ⟨w.heap.size, 1, none⟩ = some (.int .i64 t) := by simp
  have c2 : ((w.alloc (.cells #[.string k, .int .i64 t, .string v, .bool g] 52)).alloc (.cells #[.string k', .int .i64 t', .string v', .bool g'] 52)).cell? ⟨w.heap.size + 1, 0, none⟩ = some (.string k') := by simp
  have c3 : ((w.alloc (.cells #[.string k, .int .i64 t, .string v, .bool g] 52)).alloc (.cells #[.string k', .int .i64 t', .string v', .bool g'] 52)).cell? ⟨w.heap.size + 1, 1, none⟩ = some (.int .i64 t') := by simp
  go_enter Try.func69, Try.ntmps69
  go_upto_region 1 with fail
  generalize (w.alloc (.cells #[.string k, .int .i64 t, .string v, .bool g] 52)).alloc (.cells #[.string k', .int .i64 t', .string v', .bool g'] 52) = W at *
  generalize w.heap.size + 1 = b1 at *
  generalize hb0 : w.heap.size = b0 at *
  have SK := hide (show ∀ u, Below W.heap.size W u → (fun u => Below W.heap.size W u ∧ u.cell? ⟨b0, 0, none⟩ = some (.string k) ∧ u.cell? ⟨b0, 1, none⟩ = some (.int .i64 t) ∧ u.cell? ⟨b1, 0, none⟩ = some (.string k') ∧ u.cell? ⟨b1, 1, none⟩ = some (.int .i64 t')) u from fun u hb =>
    ⟨hb, (hb.cell (p := ⟨b0, 0, none⟩) (cell_lt c0)).trans c0, (hb.cell (p := ⟨b0, 1, none⟩) (cell_lt c1)).trans c1, (hb.cell (p := ⟨b1, 0, none⟩) (cell_lt c2)).trans c2, (hb.cell (p := ⟨b1, 1, none⟩) (cell_lt c3)).trans c3⟩)
  have G0 : Below W.heap.size W W.drew := (Below.refl _ _).drew
  go_region_held3 (fun u => Below W.heap.size W u ∧ u.cell? ⟨b0, 0, none⟩ = some (.string k) ∧ u.cell? ⟨b0, 1, none⟩ = some (.int .i64 t) ∧ u.cell? ⟨b1, 0, none⟩ = some (.string k') ∧ u.cell? ⟨b1, 1, none⟩ = some (.int .i64 t')) (exact unhide SK _ (by first | assumption | exact ((Below.refl _ _).alloc (Nat.le_refl _) _).drew | exact (Below.refl _ _).alloc (Nat.le_refl _) _)) (first
    | (go_at_call 80; refine (unhide S1 _).mono ?_; rintro e w' ⟨rfl, rfl⟩)
    | (go_at_call 81; refine (unhide S2 _).mono ?_; rintro e w' ⟨rfl, rfl⟩)
    | (go_at_call 79; refine (unhide S3 _ _ (by refine rb_cell_new ?_ ?_; simp; rfl) (by refine rb_cell_new ?_ ?_; simp; rfl)).mono ?_; rintro e w' ⟨rfl, rfl⟩))
  all_goals
    have hsz := B0.size
    go_wp2_with fail
    go_ret
    subst hb0
    exact ⟨rfl, by first | exact (B0.alloc hsz _).drew | exact B0.alloc hsz _ | exact bel_drewN (B0.alloc hsz _) _⟩
end Go.Proofs.Ytdnneomdokcpeaa
