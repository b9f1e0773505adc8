/-
  The walk of the law of VersionAt.
-/
import Derived.Test.YtdnneomdokcpeaaVaB
import Derived.Test.YtdnneomdokcpeaaVaT
import Derived.Test.YtdnneomdokcpeaaVrE
import Derived.Test.YtdnneomdokcpeaaRowR
namespace Go.Proofs.Ytdnneomdokcpeaa
open Go.RowKit

/-- A block with what lies there. -/
def AtB (w : World) (b : Nat) (o : Obj) : Prop := w.heap[b]? = some o
theorem AtB.below {w w' : World} {b : Nat} {o : Obj} (h : AtB w b o) (hb : Below w.heap.size w w') : AtB w' b o := (hb.block b (Array.getElem?_eq_some_iff.1 h).1).trans h
set_option maxRecDepth 100000 in
set_option maxHeartbeats 32000000 in
theorem lawVersionAt_any (a : Option Addr) (n c : Nat) (ds : List VerD) (k : ByteArray) (t : Int) (w : World) (hr : VRow w a n ds) (hn : n ≤ maxLen) (ht : ∀ i (hi : i < ds.length), ds[i].k.size ≤ maxLen ∧ ds[i].v.size ≤ maxLen) (_ : k.size ≤ maxLen) (_ : (Lit.int .i64 t).wf = true) :
    Calls Try.prog 6 #[.slice a n c, .string k, .int .i64 t] w fun e w' => e = .returned (.bool true) ∧ Below w.heap.size w w' := by
  have P := hide hr
  have SZ := hide (szVersionS_any a n c ds 1048576 w (by omega) (by omega) hr hn ht)
  clear hr ht
  by_cases hlong : 1048576 < k.size
  · have hi : (1048576 : Int) < (k.size : Int) := by omega
    go_enter Try.func6, Try.ntmps6
    go_wp2_with fail
    go_ret
    exact ⟨rfl, Below.refl _ _⟩
  have hi : ¬ ((1048576 : Int) < (k.size : Int)) := by omega
  go_enter Try.func6, Try.ntmps6
  go_wp2_with fail
  refine (unhide SZ).mono ?_
  rintro e w1 ⟨q, rfl, hq, B⟩
  have zz_w1 := B.size
  clear SZ
  rcases hq with rfl | ⟨q0, q1, hnn⟩
  · go_wp2_with fail
    go_ret
    exact ⟨rfl, B⟩
  have hn1 : n ≤ 1048576 := by omega
  clear hn
  obtain ⟨V, hV⟩ : ∃ x, x = vaV ds k t := ⟨_, rfl⟩
  obtain ⟨C, hC⟩ : ∃ x, x = vaC ds k t := ⟨_, rfl⟩
  have EQ := hide (eqVersion_any V)
  have CON := hide (show ∀ W e W', VaRes ds k t W e W' → e = .returned (.tuple #[vv V, .int .i64 C]) ∧ Below W.heap.size W W' from fun W e W' h => by rw [hV, hC]; exact h)
  have hq : (C != C) = false := by simp
  clear hV hC
  obtain ⟨vk, vt, vs, vg⟩ := V
  unfold vv at EQ CON
  simp only at EQ CON
  go_wp2_with fail
  refine (toVersionS_any a n c ds w1 hn1 ((unhide P).below B)).mono ?_
  rintro e w_t ⟨g_t, rfl, oo, hb⟩
  replace B := B.trans (hb.mono B.size)
  have zz_w_t := hb.size
  clear hb
  have O_t := hide oo
  have I_t := fun i (h : (Value.slice (some ⟨g_t, 0, none⟩) n n).ownBlock = some i) => (unhide O_t).lt i h
  clear oo
  go_wp2_with fail
  refine (specVersionAt_any (some ⟨g_t, 0, none⟩) n n ds k t w_t hn1 (vrow_of_owns (unhide O_t))).mono ?_
  intro e w_w hcon
  obtain ⟨rfl, hb⟩ := unhide CON _ _ _ hcon
  clear hcon
  replace O_t := hide (rb_ownsRow_below (unhide O_t) hb)
  replace B := B.trans (hb.mono B.size)
  have zz_w_w := hb.size
  clear hb
  clear O_t I_t
  have hb : Below w_w.heap.size w_w (w_w.alloc (.cells #[.string vk, .int .i64 vt, .string vs, .bool vg] 52)) := (Below.refl _ _).alloc (Nat.le_refl _) _
  have kk : AtB (w_w.alloc (.cells #[.string vk, .int .i64 vt, .string vs, .bool vg] 52)) w_w.heap.size _ := heap_alloc_new w_w (.cells #[.string vk, .int .i64 vt, .string vs, .bool vg] 52)
  go_wp2_with fail
  generalize w_w.alloc (.cells #[.string vk, .int .i64 vt, .string vs, .bool vg] 52) = u_w at *
  have K_w := hide kk
  clear kk
  replace B := B.trans (hb.mono B.size)
  have zz_u_w := hb.size
  clear hb
  refine (toVersionS_any a n c ds u_w hn1 ((unhide P).below B)).mono ?_
  rintro e w_x ⟨g_x, rfl, oo, hb⟩
  replace K_w := hide ((unhide K_w).below hb)
  replace B := B.trans (hb.mono B.size)
  have zz_w_x := hb.size
  clear hb
  have O_x := hide oo
  have I_x := fun i (h : (Value.slice (some ⟨g_x, 0, none⟩) n n).ownBlock = some i) => (unhide O_x).lt i h
  clear oo
  go_wp2_with fail
  refine (implVersionAt_any (some ⟨g_x, 0, none⟩) n n ds k t w_x hn1 (vrow_of_owns (unhide O_x))).mono ?_
  intro e w_g hcon
  obtain ⟨rfl, hb⟩ := unhide CON _ _ _ hcon
  clear hcon
  replace K_w := hide ((unhide K_w).below hb)
  replace O_x := hide (rb_ownsRow_below (unhide O_x) hb)
  replace B := B.trans (hb.mono B.size)
  have zz_w_g := hb.size
  clear hb
  have hb : Below w_g.heap.size w_g (w_g.alloc (.cells #[.string vk, .int .i64 vt, .string vs, .bool vg] 52)) := (Below.refl _ _).alloc (Nat.le_refl _) _
  have K_g := hide (show AtB (w_g.alloc (.cells #[.string vk, .int .i64 vt, .string vs, .bool vg] 52)) w_g.heap.size _ from heap_alloc_new w_g (.cells #[.string vk, .int .i64 vt, .string vs, .bool vg] 52))
  replace K_w := hide ((unhide K_w).below hb)
  have yw0 : (w_g.alloc (.cells #[.string vk, .int .i64 vt, .string vs, .bool vg] 52)).cell? ⟨w_w.heap.size, 0, none⟩ = some (.string vk) := (heap_at (unhide K_w) 0).1
  have yw1 : (w_g.alloc (.cells #[.string vk, .int .i64 vt, .string vs, .bool vg] 52)).cell? ⟨w_w.heap.size, 1, none⟩ = some (.int .i64 vt) := (heap_at (unhide K_w) 1).1
  have yw2 : (w_g.alloc (.cells #[.string vk, .int .i64 vt, .string vs, .bool vg] 52)).cell? ⟨w_w.heap.size, 2, none⟩ = some (.string vs) := (heap_at (unhide K_w) 2).1
  have yw3 : (w_g.alloc (.cells #[.string vk, .int .i64 vt, .string vs, .bool vg] 52)).cell? ⟨w_w.heap.size, 3, none⟩ = some (.bool vg) := (heap_at (unhide K_w) 3).1
  go_wp2_with fail
  generalize w_g.alloc (.cells #[.string vk, .int .i64 vt, .string vs, .bool vg] 52) = u_g at *
  replace O_x := hide (rb_ownsRow_below (unhide O_x) hb)
  replace B := B.trans (hb.mono B.size)
  have zz_u_g := hb.size
  clear hb
  refine (unhide EQ _).mono ?_
  rintro e e0 ⟨rfl, hb⟩
  replace O_x := hide (rb_ownsRow_below (unhide O_x) hb)
  replace B := B.trans (hb.mono B.size)
  have zz_e0 := hb.size
  clear hb
  go_wp2_with fail
  refine (toVersionS_any a n c ds e0 hn1 ((unhide P).below B)).mono ?_
  rintro e w_s ⟨g_s, rfl, oo, hb⟩
  replace O_x := hide (rb_ownsRow_below (unhide O_x) hb)
  replace B := B.trans (hb.mono B.size)
  have zz_w_s := hb.size
  clear hb
  have O_s := hide oo
  have I_s := fun i (h : (Value.slice (some ⟨g_s, 0, none⟩) n n).ownBlock = some i) => (unhide O_s).lt i h
  clear oo
  go_wp2_with fail
  refine (eqVersionS_any (some ⟨g_x, 0, none⟩) (some ⟨g_s, 0, none⟩) n n n ds w_s hn1 (vrow_of_owns (unhide O_x)) (vrow_of_owns (unhide O_s))).mono ?_
  rintro e e1 ⟨rfl, hb⟩
  replace O_x := hide (rb_ownsRow_below (unhide O_x) hb)
  replace O_s := hide (rb_ownsRow_below (unhide O_s) hb)
  replace B := B.trans (hb.mono B.size)
  have zz_e1 := hb.size
  clear hb
  go_wp2_with fail
  go_ret
  exact ⟨rfl, B⟩
end Go.Proofs.Ytdnneomdokcpeaa
