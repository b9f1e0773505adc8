/-
  Sessions: plain data, and the walks of szSession, szSessionS, toSession, toSessionS, eqSession, eqSessionS.
-/
import Derived.Test.YtdnneomdokcpeaaSnC
import Derived.Test.YtdnneomdokcpeaaVrT
import Derived.Test.YtdnneomdokcpeaaVrE
import Derived.Test.YtdnneomdokcpeaaWrT
import Derived.Deep.Cut
namespace Go.Proofs.Ytdnneomdokcpeaa
open Go.RowKit

structure SesD where
  o : Bool
  t : Int
  ws : List VerD
/-- What stands in the cells of sessions are these. -/
def SsAt (w : World) (rs : List SesR) (ss : List SesD) : Prop := rs.length = ss.length ∧ ∀ i (h : i < rs.length) (h' : i < ss.length), rs[i].o = ss[i].o ∧ rs[i].t = ss[i].t ∧ VRow w rs[i].ws.a rs[i].ws.n ss[i].ws
theorem SsAt.below {w w' : World} {rs : List SesR} {ss : List SesD} (h : SsAt w rs ss) (hb : Below w.heap.size w w') : SsAt w' rs ss :=
  ⟨h.1, fun i h1 h2 => ⟨(h.2 i h1 h2).1, (h.2 i h1 h2).2.1, (h.2 i h1 h2).2.2.below hb⟩⟩
/-- Texts that came in. -/
def LimV (ds : List VerD) : Prop := ∀ i (hi : i < ds.length), ds[i].k.size ≤ maxLen ∧ ds[i].v.size ≤ maxLen
def LimS (rs : List SesR) (ss : List SesD) : Prop := ∀ i (h : i < rs.length) (h' : i < ss.length), rs[i].ws.n ≤ maxLen ∧ LimV ss[i].ws
set_option maxHeartbeats 1000000 in
theorem szSession_any (r : SesR) (ws : List VerD) (left : Int) (w : World) (h0 : 0 ≤ left) (h1 : left ≤ 1048576) (hv : VRow w r.ws.a r.ws.n ws) (hn : r.ws.n ≤ maxLen) (hl : LimV ws) :
    Calls Try.prog 63 #[sv r, .int .i64 left] w fun e w' => ∃ q : Int, e = .returned (.int .i64 q) ∧ (q = -1 ∨ (0 ≤ q ∧ q ≤ left ∧ (r.ws.n : Int) ≤ left)) ∧ Below w.heap.size w w' := by
  obtain ⟨o, t, a, n, c⟩ := r
  unfold sv
  simp only at hv hn ⊢
  have b0 : Below w.heap.size w (w.alloc (.cells #[.bool o, .int .i64 t, .slice a n c] 105)) := (Below.refl _ _).alloc (Nat.le_refl _) _
  have C := hide (szVersionS_any a n c ws left _ h0 h1 (hv.below b0) hn hl)
  clear hv hl
  go_enter Try.func63, Try.ntmps63
  go_wp2_with fail
  generalize w.alloc (.cells #[.bool o, .int .i64 t, .slice a n c] 105) = W at *
  refine (unhide C).mono ?_
  rintro e w1 ⟨q, rfl, hq, hb⟩
  have bA := b0.trans (hb.mono b0.size)
  clear C b0 hb
  rcases hq with rfl | ⟨q0, q1, q2⟩
  · go_wp2_with fail
    go_ret
    exact ⟨-1, rfl, .inl rfl, bA⟩
  · go_wp2_with fail
    go_ret
    exact ⟨q, rfl, .inr ⟨q0, q1, q2⟩, bA⟩
set_option maxHeartbeats 1000000 in
theorem szSessionS_any (a : Option Addr) (n c : Nat) (rs : List SesR) (ss : List SesD) (left : Int) (w : World) (h0 : 0 ≤ left) (h1 : left ≤ 1048576) (hr : SRow w a n rs) (hs : SsAt w rs ss) (hn : n ≤ maxLen) (hl : LimS rs ss) :
    Calls Try.prog 41 #[.slice a n c, .int .i64 left] w fun e w' => ∃ q : Int, e = .returned (.int .i64 q) ∧ (q = -1 ∨ (0 ≤ q ∧ q ≤ left ∧ (n : Int) ≤ left ∧ ∀ i (h : i < rs.length), rs[i].ws.n ≤ 1048576)) ∧ Below w.heap.size w w' := by
  unfold maxLen at hn
  have L := hide hr.1
  have R := hide hr
  have T := hide hl
  have SS := hide hs
  clear hr hs hl
  by_cases hb : left - n < 0
  · go_enter Try.func41, Try.ntmps41
    go_wp2_with fail
    go_ret
    exact ⟨-1, rfl, .inl rfl, Below.refl _ _⟩
  have hb' : 0 ≤ left - n := by omega
  go_enter Try.func41, Try.ntmps41
  go_wp2_with fail
  go_loopw [1, 5] (fun l i wr => ∃ k : Nat, k ≤ n ∧ i = .int .i64 k ∧ ∃ q : Int, l = .int .i64 q ∧ 0 ≤ q ∧ q ≤ left - n ∧ Below w.heap.size w wr ∧ Hid (∀ i (h : i < rs.length), i < k → rs[i].ws.n ≤ 1048576)) (fun _ i _ => n - (intOf i).toNat)
  case atStart => exact ⟨0, by omega, rfl, _, rfl, by omega, by omega, Below.refl _ _, fun i h hi => absurd hi (Nat.not_lt_zero _)⟩
  case round =>
    obtain ⟨k, hk, rfl, q, rfl, hq0, hq1, hbel, hA⟩ := hrel
    by_cases hlt : k < n
    · have hk2 : k < rs.length := by rw [unhide L]; exact hlt
      have hk3 : k < ss.length := by rw [← (unhide SS).1]; exact hk2
      obtain ⟨b, off, rfl, d0, d1, d2⟩ := ((unhide R).below hbel).2 k hk2
      have hsz := hbel.size
      have C := hide (szSession_any rs[k] ss[k].ws q wr hq0 (by omega) (((unhide SS).below hbel).2 k hk2 hk3).2.2 (unhide T k hk2 hk3).1 (unhide T k hk2 hk3).2)
      have ST := hide (show rs[k].ws.n ≤ 1048576 → ∀ i (h : i < rs.length), i < k + 1 → rs[i].ws.n ≤ 1048576 from fun e i h hi => by
        by_cases e' : i < k
        · exact unhide hA i h e'
        · obtain rfl : i = k := by omega
          exact e)
      generalize rs[k] = pd at *
      clear hA
      obtain ⟨po, pt, pa, pn, pc⟩ := pd
      unfold sv at C
      simp only at d0 d1 d2 C ST
      go_wp2_with fail
      refine (unhide C).mono ?_
      rintro e w1 ⟨r, rfl, hr, hb1⟩
      have bA := hbel.trans (hb1.mono hsz)
      clear hbel hb1 d0 d1 d2 C
      rcases hr with rfl | ⟨r0, r1, r2⟩
      · go_wp2_with fail
        go_ret
        exact ⟨-1, rfl, .inl rfl, bA⟩
      · have Z := hide (unhide ST (by omega))
        go_wp2_with fail
        go_roundw
        case rel => exact ⟨k + 1, by omega, by go_num, r, rfl, r0, by omega, bA, unhide Z⟩
        case measure => simp [intOf]; omega
    · obtain rfl : k = n := by omega
      have Z := hide (show ∀ i (h : i < rs.length), rs[i].ws.n ≤ 1048576 from fun i h => unhide hA i h (by have := unhide L; omega))
      go_wp2_with fail
      go_ret
      exact ⟨q, rfl, .inr ⟨hq0, by omega, by omega, unhide Z⟩, hbel⟩
theorem rs_base {w : World} {B C e s n : Nat} {v : Value} {vs : List Value} (h : w.ownsRow B e s v n vs) (hc : C ≤ B) : w.ownsRow C e s v n vs := by
  obtain ⟨h1, h2⟩ := h
  refine ⟨h1, ?_⟩
  rcases h2 with h2 | ⟨g, cap, cur, e, hb, r⟩
  · exact .inl h2
  · exact .inr ⟨g, cap, cur, e, Nat.le_trans hc hb, r⟩
theorem rs_set {w : World} {B e s n : Nat} {v : Value} {vs : List Value} {q : Nat} (h : w.ownsRow B e s v n vs) (hq : q < B) (j : Nat) (u : Value) : (w.setCell ⟨q, j, none⟩ u).ownsRow B e s v n vs :=
  ownsRow_heap h (fun g hg => Below.heap_setCell _ _ _ _ (by have := (h.lt g hg).1; show g ≠ q; omega))
set_option maxRecDepth 100000 in
set_option maxHeartbeats 1000000 in
theorem toSession_any (r : SesR) (ws : List VerD) (w : World) (hv : VRow w r.ws.a r.ws.n ws) (hn : r.ws.n ≤ 1048576) :
    Calls Try.prog 67 #[sv r] w fun e w' => ∃ g, e = .returned (sv ⟨r.o, r.t, ⟨some ⟨g, 0, none⟩, r.ws.n, r.ws.n⟩⟩) ∧ VOwns w' w.heap.size (.slice (some ⟨g, 0, none⟩) r.ws.n r.ws.n) ws ∧ Below w.heap.size w w' := by
  obtain ⟨o, t, a, n, c⟩ := r
  unfold sv
  simp only at hv hn ⊢
  have b1 : Below w.heap.size w (w.alloc (.cells #[.bool o, .int .i64 t, .slice a n c] 105)) := (Below.refl _ _).alloc (Nat.le_refl _) _
  have h1 := heap_alloc_new w (.cells #[.bool o, .int .i64 t, .slice a n c] 105)
  obtain ⟨W1, hW1⟩ : ∃ W1, W1 = w.alloc (.cells #[.bool o, .int .i64 t, .slice a n c] 105) := ⟨_, rfl⟩
  have z1 : W1.heap.size = w.heap.size + 1 := by rw [hW1]; simp
  have b2 : Below (w.heap.size + 1) W1 (W1.alloc (.cells #[.bool false, .int .i64 0, .slice none 0 0] 76)) := (Below.refl _ _).alloc (by omega) _
  have h2 : (W1.alloc (.cells #[.bool false, .int .i64 0, .slice none 0 0] 76)).heap[w.heap.size + 1]? = some (.cells #[.bool false, .int .i64 0, .slice none 0 0] 76 (0, 0)) := by rw [← z1]; exact heap_alloc_new _ _
  obtain ⟨W2, hW2⟩ : ∃ W2, W2 = W1.alloc (.cells #[.bool false, .int .i64 0, .slice none 0 0] 76) := ⟨_, rfl⟩
  have z2 : W2.heap.size = w.heap.size + 1 + 1 := by rw [hW2]; simp [z1]
  have b3 : Below (w.heap.size + 1 + 1) W2 (W2.alloc (.cells #[.bool o, .int .i64 t, .slice none 0 0] 76)) := (Below.refl _ _).alloc (by omega) _
  have h3 : (W2.alloc (.cells #[.bool o, .int .i64 t, .slice none 0 0] 76)).heap[w.heap.size + 1 + 1]? = some (.cells #[.bool o, .int .i64 t, .slice none 0 0] 76 (0, 0)) := by rw [← z2]; exact heap_alloc_new _ _
  rw [← hW1] at b1 h1
  rw [← hW2] at b2 h2
  have k1 := hide ((b3.block w.heap.size (by omega)).trans ((b2.block w.heap.size (by omega)).trans h1))
  have k2 := hide ((b3.block (w.heap.size + 1) (by omega)).trans h2)
  have k3 := hide h3
  have b0 : Below w.heap.size w (W2.alloc (.cells #[.bool o, .int .i64 t, .slice none 0 0] 76)) := b1.trans ((b2.mono (by omega)).trans (b3.mono (by omega)))
  have R := hide (hv.below b0)
  have z3 : (W2.alloc (.cells #[.bool o, .int .i64 t, .slice none 0 0] 76)).heap.size = w.heap.size + 1 + 1 + 1 := by simp [z2]
  clear b1 b2 b3 h1 h2 h3 hv z1 z2
  subst hW2 hW1
  go_enter Try.func67, Try.ntmps67
  go_wp2_with fail
  generalize ((w.alloc (.cells #[.bool o, .int .i64 t, .slice a n c] 105)).alloc (.cells #[.bool false, .int .i64 0, .slice none 0 0] 76)).alloc (.cells #[.bool o, .int .i64 t, .slice none 0 0] 76) = W3 at *
  refine (toVersionS_any a n c ws W3 hn (unhide R)).mono ?_
  rintro e w1 ⟨g, rfl, hO, hb1⟩
  have l2 := (hb1.block (w.heap.size + 1) (by omega)).trans (unhide k2)
  have l3 := (hb1.block (w.heap.size + 1 + 1) (by omega)).trans (unhide k3)
  have B3 := hide (b0.trans (hb1.mono b0.size))
  have O3 := hide (rs_base hO (C := w.heap.size + 1 + 1 + 1) (by omega))
  have t0 : w1.cell? ⟨w.heap.size + 1 + 1, 0, none⟩ = some (.bool o) := (heap_at l3 0).1
  have t1 : w1.cell? ⟨w.heap.size + 1 + 1, 1, none⟩ = some (.int .i64 t) := (heap_at l3 1).1
  have t2 : w1.cell? ⟨w.heap.size + 1 + 1, 2, none⟩ = some (.slice none 0 0) := (heap_at l3 2).1
  have tf := (heap_at l3 2).2
  have u0 : w1.cell? ⟨w.heap.size + 1, 0, none⟩ = some (.bool false) := (heap_at l2 0).1
  have u1 : w1.cell? ⟨w.heap.size + 1, 1, none⟩ = some (.int .i64 0) := (heap_at l2 1).1
  have u2 : w1.cell? ⟨w.heap.size + 1, 2, none⟩ = some (.slice none 0 0) := (heap_at l2 2).1
  have v0 := (heap_at l2 0).2
  have v1 := (heap_at l2 1).2
  have v2 := (heap_at l2 2).2
  clear hb1 hO b0 k1 k2 k3 R l2 l3
  go_wp2_with fail
  have q1 : w.heap.size + 1 < w.heap.size + 1 + 1 + 1 := by omega
  have q2 : w.heap.size + 1 + 1 < w.heap.size + 1 + 1 + 1 := by omega
  have q3 : w.heap.size ≤ w.heap.size + 1 := by omega
  have q4 : w.heap.size ≤ w.heap.size + 1 + 1 := by omega
  refine bodyPost_ret (v := .agg #[.bool o, .int .i64 t, .slice (some ⟨g, 0, none⟩) n n]) (by simp [results, Try.results67, go_sem, *]) rfl ⟨g, rfl, ?_, ?_⟩
  · exact rs_base (rs_set (rs_set (rs_set (rs_set (unhide O3) q2 _ _) q1 _ _) q1 _ _) q1 _ _) (by omega)
  · exact ((((unhide B3).setCell (p := ⟨w.heap.size + 1 + 1, 2, none⟩) q4 _).setCell (p := ⟨w.heap.size + 1, 0, none⟩) q3 _).setCell (p := ⟨w.heap.size + 1, 1, none⟩) q3 _).setCell (p := ⟨w.heap.size + 1, 2, none⟩) q3 _
end Go.Proofs.Ytdnneomdokcpeaa
