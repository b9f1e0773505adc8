/-
  impl.CommitBytes.
-/
import Derived.Test.YtdnneomdokcpeaaCbI
namespace Go.Proofs.Ytdnneomdokcpeaa
open Go.RowKit

/-- What CommitBytes answers. -/
def cbL (ds : List VerD) : List Int := if ds.length ≤ 4096 ∧ comV ds = true then cbAll ds else []
def cbC (ds : List VerD) : Int := if ds.length ≤ 4096 then (if comV ds = true then 0 else 1) else 2
def CbRes (ds : List VerD) (w : World) (e : Ending) (w' : World) : Prop := ∃ v, e = .returned (.tuple #[v, .int .i64 (cbC ds)]) ∧ Owns w' w.heap.size v (cbL ds) ∧ Below w.heap.size w w'
theorem cb_long {ds : List VerD} {w w' : World} {v : Value} (h : ¬ ds.length ≤ 4096) (ho : Owns w' w.heap.size v []) (hb : Below w.heap.size w w') : CbRes ds w (.returned (.tuple #[v, .int .i64 2])) w' :=
  ⟨v, by rw [cbC, if_neg h], by rw [cbL, if_neg (fun x => h x.1)]; exact ho, hb⟩
theorem cb_bad {ds : List VerD} {w w' : World} {v : Value} (h : ds.length ≤ 4096) (hc : comV ds = false) (ho : Owns w' w.heap.size v []) (hb : Below w.heap.size w w') : CbRes ds w (.returned (.tuple #[v, .int .i64 1])) w' :=
  ⟨v, by rw [cbC, if_pos h, if_neg (by rw [hc]; decide)], by rw [cbL, if_neg (fun x => by rw [hc] at x; exact absurd x.2 (by decide))]; exact ho, hb⟩
theorem cb_good {ds : List VerD} {w w' : World} {v : Value} (h : ds.length ≤ 4096) (hc : comV ds = true) (ho : Owns w' w.heap.size v (cbAll ds)) (hb : Below w.heap.size w w') : CbRes ds w (.returned (.tuple #[v, .int .i64 0])) w' :=
  ⟨v, by rw [cbC, if_pos h, if_pos hc], by rw [cbL, if_pos ⟨h, hc⟩]; exact ho, hb⟩
theorem wrV_ok {ds : List VerD} {t : Int} (h : wrV ds t = true) : ds.length ≤ 8 ∧ okVs ds = true ∧ oneT ds t = true := by
  unfold wrV at h
  simp only [Bool.and_eq_true, decide_eq_true_eq] at h
  exact h
theorem comV_small {ds : List VerD} (h : comV ds = true) : ds.length ≤ 8 ∧ ∀ i (hi : i < ds.length), ds[i].k.size ≤ 255 ∧ ds[i].v.size ≤ 255 := by
  unfold comV at h
  simp only [Bool.or_eq_true, decide_eq_true_eq] at h
  rcases h with h | h
  · exact ⟨by omega, fun i hi => by omega⟩
  · obtain ⟨h1, h2, _⟩ := wrV_ok h
    exact ⟨h1, fun i hi => by have := verK_small (okVs_ver h2 hi); omega⟩
set_option maxRecDepth 100000 in
set_option maxHeartbeats 4000000 in
theorem implCommitBytes_any (a : Option Addr) (n c : Nat) (ds : List VerD) (w : World) (hn : n ≤ 1048576) (hr : VRow w a n ds) :
    Calls Try.prog 10 #[.slice a n c] w fun e w' => CbRes ds w e w' := by
  have L := hide hr.1
  have R := hide hr
  by_cases h4 : n ≤ 4096
  · have g4 : ¬ (4096 : Int) < (n : Int) := by omega
    have l4 : ds.length ≤ 4096 := by rw [unhide L]; exact h4
    by_cases h0 : n = 0
    · have hc : comV ds = true := by unfold comV; rw [decide_eq_true (by rw [unhide L]; exact h0)]; rfl
      have C := hide (commitBytes_any a n c ds w h4 hr (comV_small hc).2)
      have g0 : ¬ (0 : Int) < (n : Int) := by omega
      subst h0
      clear hr g0 g4 h4
      go_enter Try.func10, Try.ntmps10
      go_wp2_with fail
      refine (unhide C).mono ?_
      rintro e w1 ⟨v, rfl, ho, hb⟩
      have Z := hide (cb_good l4 hc ho hb)
      clear ho hb C
      go_wp2_with fail
      go_ret2
      exact unhide Z
    · obtain ⟨b, off, rfl, d0, d1, d2, d3⟩ := hr.2 0 (by have := unhide L; omega)
      have e0 : w.cell? ⟨b, off + 1, none⟩ = some (.int .i64 (ds[0]'(by have := unhide L; omega)).t) := by simpa using d1
      have E := hide (show comV ds = wrV ds (ds[0]'(by have := unhide L; omega)).t by
        unfold comV
        rw [decide_eq_false (by have := unhide L; omega), List.getD_eq_getElem?_getD, List.getElem?_eq_getElem (by have := unhide L; omega)]
        rfl)
      have C := hide (fun (u : World) (h : Below w.heap.size w u) (hc : comV ds = true) => commitBytes_any (some ⟨b, off, none⟩) n c ds u h4 ((unhide R).below h) (comV_small hc).2)
      have W := hide (writesOK_any (some ⟨b, off, none⟩) n c ds (ds[0]'(by have := unhide L; omega)).t w hn hr)
      generalize (ds[0]'(by have := unhide L; omega)).t = t at *
      have g0 : (0 : Int) < (n : Int) := by omega
      clear hr d0 d1 d2 d3
      go_enter Try.func10, Try.ntmps10
      go_wp2_with fail
      refine (unhide W).mono ?_
      rintro e w1 ⟨rfl, hb⟩
      have hsz := hb.size
      generalize hw : wrV ds t = x at *
      clear W e0
      cases x
      · have Z := hide (cb_bad (w := w) (w' := w1) (v := .slice none 0 0) l4 (unhide E) (cb_nil _ _) hb)
        go_wp2_with fail
        go_ret2
        exact unhide Z
      · have C' := hide (unhide C w1 hb (unhide E))
        clear C
        go_wp2_with fail
        refine (unhide C').mono ?_
        rintro e w2 ⟨v, rfl, ho, hb2⟩
        have Z := hide (cb_good (w := w) l4 (unhide E) (cb_dn ho hsz) (hb.trans (hb2.mono hsz)))
        clear ho hb hb2 C'
        go_wp2_with fail
        go_ret2
        exact unhide Z
  · have g4 : (4096 : Int) < (n : Int) := by omega
    have Z := hide (cb_long (w := w) (w' := w) (v := .slice none 0 0) (by rw [unhide L]; exact h4) (cb_nil _ _) (Below.refl _ _))
    clear hr
    go_enter Try.func10, Try.ntmps10
    go_wp2_with fail
    go_ret2
    exact unhide Z
end Go.Proofs.Ytdnneomdokcpeaa
