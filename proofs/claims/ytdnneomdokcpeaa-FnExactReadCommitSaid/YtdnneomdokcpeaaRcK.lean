/-
  impl.ReadCommit.
-/
import Derived.Test.YtdnneomdokcpeaaRcJ
namespace Go.Proofs.Ytdnneomdokcpeaa
open Go.RowKit

set_option maxRecDepth 100000 in
set_option maxHeartbeats 4000000 in
theorem implReadCommit_any (a : Option Addr) (n c : Nat) (xs : List Int) (t : Int) (w : World) (hr : Row w a n xs) (hb : By xs) (hnc : n ≤ c) (hn : n ≤ 1048576) (ha : ∀ x, a = some x → x.block < w.heap.size) :
    Calls Try.prog 18 #[.slice a n c, .int .i64 t] w fun e w' => RcRes t xs w e w' := by
  have L := hide hr.1
  have R := hide hr
  have BY := hide hb
  clear hr hb
  by_cases h4 : n ≤ 65536
  · have g4 : ¬ (65536 : Int) < (n : Int) := by omega
    have l4 : xs.length ≤ 65536 := by rw [unhide L]; exact h4
    have SI := hide (idOK_any t)
    cases hid : idK t with
    | false =>
      rw [hid] at SI
      have Z := hide (rc_no (w := w) (w' := w) (v := .slice none 0 0) (by decide) (rc_range l4 hid) (World.ownsRow_nil _ _ _ _) (Below.refl _ _))
      go_enter Try.func18, Try.ntmps18
      go_wp2_with (go_at_call 37; refine (unhide SI _).mono ?_; rintro e w1 ⟨rfl, hww⟩; subst w1)
      go_ret2
      exact unhide Z
    | true =>
      rw [hid] at SI
      have b0 : Below w.heap.size w (w.alloc (.cells #[.slice a n c, .bool false] 69)) := (Below.refl _ _).alloc (Nat.le_refl _) _
      have k0 := heap_alloc_new w (.cells #[.slice a n c, .bool false] 69)
      have RW : Row (w.alloc (.cells #[.slice a n c, .bool false] 69)) a n xs := (unhide R).below b0 ha
      have zs : (w.alloc (.cells #[.slice a n c, .bool false] 69)).heap.size = w.heap.size + 1 := by simp
      have RD := hide (show RdAt (w.alloc (.cells #[.slice a n c, .bool false] 69)) w.heap.size (w.heap.size + 1) (xs, false) from
        ⟨a, n, c, k0, RW, hnc, fun x hx => ⟨by have := ha x hx; omega, by have := ha x hx; omega⟩, h4, by omega⟩)
      go_enter Try.func18, Try.ntmps18
      go_wp2_with (go_at_call 37; refine (unhide SI _).mono ?_; rintro e w1 ⟨rfl, hww⟩; subst w1)
      generalize w.alloc (.cells #[.slice a n c, .bool false] 69) = W at *
      refine (rWrites_any w.heap.size (w.heap.size + 1) (xs, false) t W (unhide RD) (unhide BY) (by omega) l4).mono ?_
      rintro e w2 ⟨v, rfl, ho, hl, hw⟩
      have B2 : Below w.heap.size w w2 := b0.trans (hw.below (fun i e => by omega) b0.size)
      obtain ⟨av, cv, rfl⟩ := vowns_slice ho
      have R2 := hide ((unhide R).below B2 ha)
      have ho' : VOwns w2 W.heap.size (.slice av (rcL t xs).length cv) (rcL t xs) := ho
      have hl' : (rcL t xs).length ≤ 65536 := hl
      have HO := hide ho'
      have VR := hide (vrow_of_owns ho')
      have EL := hide (show (rAll t (xs, false)).length = (rcL t xs).length from rfl)
      rw [unhide EL]
      clear ho ho' hl hw RD k0 RW b0
      have hs2 := B2.size
      have EOK := hide (show rcOK t xs = (wrV (rcL t xs) t && decide (cbAll (rcL t xs) = xs)) from rfl)
      have ZN := hide (fun (u : World) (hu : Below w.heap.size w u) (h3 : rcOK t xs = false) => rc_no (w := w) (w' := u) (v := .slice none 0 0) (by decide) (rc_form l4 hid h3) (World.ownsRow_nil _ _ _ _) hu)
      have ZY := hide (fun (u : World) (v : Value) (ho : VOwns u w.heap.size v (rcL t xs)) (hu : Below w.heap.size w u) (h3 : rcOK t xs = true) => rc_yes (rc_ok l4 hid h3) ho hu)
      have SM := hide (fun (h : wrV (rcL t xs) t = true) => show (rcL t xs).length ≤ 8 ∧ ∀ i (hi : i < (rcL t xs).length), (rcL t xs)[i].k.size ≤ 255 ∧ (rcL t xs)[i].v.size ≤ 255 from ⟨(wrV_ok h).1, fun i hi => by have := verK_small (okVs_ver (wrV_ok h).2.1 hi); omega⟩)
      generalize rcL t xs = Ls at *
      go_wp2_with fail
      refine (writesOK_any av Ls.length cv Ls t w2 (by omega) (unhide VR)).mono ?_
      rintro e w3 ⟨rfl, hb3⟩
      have B3 := B2.trans (hb3.mono hs2)
      have hs3 := B3.size
      replace VR := hide ((unhide VR).below hb3)
      replace HO := hide (vowns_below (unhide HO) hb3)
      clear hb3
      cases hwr : wrV Ls t with
      | false =>
        have Z := hide (unhide ZN w3 B3 (by rw [unhide EOK, hwr]; rfl))
        go_wp2_with fail
        go_ret2
        exact unhide Z
      | true =>
        obtain ⟨hl8, hsm⟩ := unhide SM hwr
        have BYC := hide (by_all hsm)
        have CB := hide (commitBytes_any av Ls.length cv Ls w3 (by omega) (unhide VR) hsm)
        clear hsm
        go_wp2_with fail
        refine (unhide CB).mono ?_
        rintro e w4 ⟨vb, rfl, ob, hb4⟩
        have B4 := B3.trans (hb4.mono hs3)
        replace HO := hide (vowns_below (unhide HO) hb4)
        obtain ⟨ab, cb, rfl, _, _, rb, _⟩ := mine_of_owns ob
        have RB := hide rb
        have R4 := hide ((unhide R).below B4 ha)
        clear ob hb4 rb CB
        go_wp2_with fail
        refine (bytesEqual_any ab a (cbAll Ls).length cb n c (cbAll Ls) xs w4 (unhide RB) (unhide R4) (unhide BYC) (unhide BY)).mono ?_
        rintro e w5 ⟨rfl, rfl⟩
        by_cases he : cbAll Ls = xs
        · have Z := hide (unhide ZY w5 _ (vowns_dn (unhide HO) (by omega)) B4 (by rw [unhide EOK, hwr, decide_eq_true he]; rfl))
          rw [decide_eq_true he]
          clear he
          go_wp2_with fail
          go_ret2
          exact unhide Z
        · have Z := hide (unhide ZN w5 B4 (by rw [unhide EOK, hwr, decide_eq_false he]; rfl))
          rw [decide_eq_false he]
          clear he
          go_wp2_with fail
          go_ret2
          exact unhide Z
  · have g4 : (65536 : Int) < (n : Int) := by omega
    have Z := hide (rc_no (w := w) (w' := w) (v := .slice none 0 0) (by decide) (rc_long (t := t) (by rw [unhide L]; exact h4)) (World.ownsRow_nil _ _ _ _) (Below.refl _ _))
    go_enter Try.func18, Try.ntmps18
    go_wp2_with fail
    go_ret2
    exact unhide Z
end Go.Proofs.Ytdnneomdokcpeaa
