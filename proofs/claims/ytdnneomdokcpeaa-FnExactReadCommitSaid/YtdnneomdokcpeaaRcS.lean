/-
  The specification's reader of writes; spec.ReadCommit.
-/
import Derived.Test.YtdnneomdokcpeaaRcK
import Derived.Test.YtdnneomdokcpeaaRpT
import Derived.Test.YtdnneomdokcpeaaVsC
namespace Go.Proofs.Ytdnneomdokcpeaa
open Go.RowKit

/-- The reader's place. -/
def posOf (w : World) (rb : Nat) : Nat := match w.cell? ⟨rb, 1, none⟩ with
  | some (.int _ p) => p.toNat
  | _ => 0
theorem pos_of {w : World} {rb D : Nat} {a : Option Addr} {n c : Nat} {xs : List Int} {s : Ss} (h : SdAt w rb D a n c xs s) : posOf w rb = s.1 := by
  unfold posOf
  rw [h.cells.2.1]
  simp
theorem rc_lit0 {w : World} {B : Nat} (h : B ≤ w.heap.size) : VOwns (w.alloc (.cells #[] 52)) B (.slice (some ⟨w.heap.size, 0, none⟩) 0 0) [] :=
  World.ownsRow_lit _ _ _ h (by unfold maxLen; simp) rfl
/-- What is kept along the reading: the list, the reader, all that was there. -/
structure SvSt (w wr : World) (D : Nat) (a : Option Addr) (n c : Nat) (xs : List Int) (v : Value) (L : List VerD) (s : Ss) : Prop where
  own : VOwns wr D v L
  rd : SdAt wr w.heap.size D a n c xs s
  bel : Below w.heap.size w wr
  dd : D = w.heap.size + 1
theorem SvSt.read {w wr w1 : World} {D : Nat} {a : Option Addr} {n c : Nat} {xs : List Int} {v : Value} {L : List VerD} {s s' : Ss} (h : SvSt w wr D a n c xs v L s) (hr : SdAt w1 w.heap.size D a n c xs s') (hw : Wr (fun i => i = w.heap.size) wr w1) : SvSt w w1 D a n c xs v L s' :=
  have hd := h.dd
  ⟨owns_wr h.own hw (fun i hi e => by have := (h.own.lt i hi).1; omega), hr, h.bel.trans (hw.below (fun i e => by omega) h.bel.size), hd⟩
theorem SvSt.below {w wr w1 : World} {D : Nat} {a : Option Addr} {n c : Nat} {xs : List Int} {v : Value} {L : List VerD} {s : Ss} (h : SvSt w wr D a n c xs v L s) (hb : Below wr.heap.size wr w1) : SvSt w w1 D a n c xs v L s :=
  ⟨vowns_below h.own hb, h.rd.below hb, h.bel.trans (hb.mono h.bel.size), h.dd⟩
theorem SvSt.fin {w wr w' : World} {D : Nat} {a : Option Addr} {n c : Nat} {xs : List Int} {v v' : Value} {L L' : List VerD} {s : Ss} {o : Obj} (h : SvSt w wr D a n c xs v L s) (ho : VOwns w' D v' L') (hg : (wr.alloc o).grownBy w' v.ownBlock) : SvSt w w' D a n c xs v' L' s := by
  have hd := h.dd
  have b : Below wr.heap.size wr (wr.alloc o) := (Below.refl _ _).alloc (Nat.le_refl _) _
  have hw1 : Wr (fun i => v.ownBlock = some i) (wr.alloc o) w' := Wr.of_grown hg (fun i e => e)
  exact ⟨ho, (h.rd.below b).wr hw1 (fun i e => by have := (h.own.lt i e).1; omega), (h.bel.trans (b.mono h.bel.size)).trans (hw1.below (fun i e => by have := (h.own.lt i e).1; omega) (Nat.le_trans h.bel.size b.size)), hd⟩
/-- What l07Read answers. -/
def SrRes (t : Int) (xs : List Int) (w : World) (e : Ending) (w' : World) : Prop :=
  ∃ v, e = .returned (.tuple #[v, .bool ((sAll t xs (0, false)).2 && comV (sAll t xs (0, false)).1)]) ∧ (((sAll t xs (0, false)).2 && comV (sAll t xs (0, false)).1) = true → VOwns w' w.heap.size v (sAll t xs (0, false)).1) ∧ Below w.heap.size w w'
theorem sr_no {t : Int} {xs : List Int} {w w' : World} {v : Value} (h : false = ((sAll t xs (0, false)).2 && comV (sAll t xs (0, false)).1)) (hb : Below w.heap.size w w') : SrRes t xs w (.returned (.tuple #[v, .bool false])) w' :=
  ⟨v, by rw [← h], fun e => (by rw [← h] at e; cases e), hb⟩
theorem sr_yes {t : Int} {xs : List Int} {w w' : World} {v : Value} {b : Bool} (h : b = ((sAll t xs (0, false)).2 && comV (sAll t xs (0, false)).1)) (ho : VOwns w' w.heap.size v (sAll t xs (0, false)).1) (hb : Below w.heap.size w w') : SrRes t xs w (.returned (.tuple #[v, .bool b])) w' :=
  ⟨v, by rw [← h], fun _ => ho, hb⟩
set_option maxRecDepth 100000 in
set_option maxHeartbeats 4000000 in
theorem l07Read_any (a : Option Addr) (n c : Nat) (xs : List Int) (t : Int) (w : World) (hr : Row w a n xs) (hb : By xs) (hnc : n ≤ c) (hn : n ≤ 65536) (ha : ∀ x, a = some x → x.block < w.heap.size) :
    Calls Try.prog 36 #[.slice a n c, .int .i64 t] w fun e w' => SrRes t xs w e w' := by
  have LX := hide hr.1
  have BY := hide hb
  have b0 : Below w.heap.size w (w.alloc (.cells #[.slice a n c, .int .i64 0, .bool false] 97)) := (Below.refl _ _).alloc (Nat.le_refl _) _
  have zs : (w.alloc (.cells #[.slice a n c, .int .i64 0, .bool false] 97)).heap.size = w.heap.size + 1 := by simp
  have RD : SdAt (w.alloc (.cells #[.slice a n c, .int .i64 0, .bool false] 97)) w.heap.size (w.heap.size + 1) a n c xs (0, false) :=
    ⟨heap_alloc_new _ _, hr.below b0 ha, hnc, fun x hx => ⟨by have := ha x hx; omega, by have := ha x hx; omega⟩, hn, Nat.zero_le _, by omega⟩
  have b1 : Below (w.alloc (.cells #[.slice a n c, .int .i64 0, .bool false] 97)).heap.size (w.alloc (.cells #[.slice a n c, .int .i64 0, .bool false] 97)) ((w.alloc (.cells #[.slice a n c, .int .i64 0, .bool false] 97)).alloc (.cells #[] 52)) := (Below.refl _ _).alloc (Nat.le_refl _) _
  have ST := hide (show SvSt w ((w.alloc (.cells #[.slice a n c, .int .i64 0, .bool false] 97)).alloc (.cells #[] 52)) (w.heap.size + 1) a n c xs (.slice (some ⟨w.heap.size + 1, 0, none⟩) 0 0) [] (0, false) from
    ⟨by have := rc_lit0 (w := w.alloc (.cells #[.slice a n c, .int .i64 0, .bool false] 97)) (B := w.heap.size + 1) (by omega); rw [zs] at this; exact this, RD.below b1, b0.trans (b1.mono b0.size), rfl⟩)
  clear hr hb b0 zs RD b1 ha
  go_enter Try.func36, Try.ntmps36
  go_wp2_with fail
  generalize (w.alloc (.cells #[.slice a n c, .int .i64 0, .bool false] 97)).alloc (.cells #[] 52) = W at *
  go_loopw [7] (fun v wr => ∃ (s : Ss) (L : List VerD), Hid (SvSt w wr (w.heap.size + 1) a n c xs v L s) ∧ Hid (sAll t xs (0, false) = (L ++ (sAll t xs s).1, (sAll t xs s).2)) ∧ L.length ≤ s.1) (fun _ wr => n - posOf wr w.heap.size)
  case atStart => exact ⟨(0, false), [], unhide ST, rfl, Nat.le_refl _⟩
  case round =>
    clear ST
    obtain ⟨s, L, hS, hE, hL⟩ := hrel
    obtain ⟨c0, c1, c2, _, _⟩ := (unhide hS).rd.cells
    have hpos := (unhide hS).rd.pos
    have hrest := pos_of (unhide hS).rd
    by_cases h0 : s.1 < xs.length ∧ s.2 = false
    · have hk0 : (s.1 : Int) < (n : Int) := by have := unhide LX; omega
      have hmore := sVer_more t h0.1 h0.2
      have H0 := hide h0
      have hbf := h0.2
      rw [hbf] at c2
      have EV := hide (show sVer t xs s = (⟨(sLine xs (sOne xs s).2).1, t, (sLine xs (sLine xs (sOne xs s).2).2).1, decide ((sOne xs s).1 = 2)⟩, (sLine xs (sLine xs (sOne xs s).2).2).2) from rfl)
      have HRS := hide hrest
      have KB := hide (fun (h : kindK (sOne xs s).1 = false) => sAll_bad t h0 h)
      have KG := hide (fun (h : kindK (sOne xs s).1 = true) => sAll_cons t h0 h)
      clear h0 hrest hbf
      go_wp2_with fail
      refine (sone_any w.heap.size (w.heap.size + 1) a n c xs s wr (unhide hS).rd (unhide BY)).mono ?_
      rintro e w2 ⟨rfl, hr2, hw2⟩
      replace hS := hide ((unhide hS).read hr2 hw2)
      clear hr2 hw2 c0 c1 c2
      generalize (sOne xs s).1 = x1 at *
      generalize (sOne xs s).2 = s1 at *
      go_wp2_with fail
      refine (sline_any w.heap.size (w.heap.size + 1) a n c xs s1 w2 (unhide hS).rd (unhide BY)).mono ?_
      rintro e w3 ⟨rfl, hr3, hw3⟩
      replace hS := hide ((unhide hS).read hr3 hw3)
      clear hr3 hw3
      generalize (sLine xs s1).1 = tk at *
      generalize (sLine xs s1).2 = s2 at *
      go_wp2_with fail
      refine (sline_any w.heap.size (w.heap.size + 1) a n c xs s2 w3 (unhide hS).rd (unhide BY)).mono ?_
      rintro e w4 ⟨rfl, hr4, hw4⟩
      replace hS := hide ((unhide hS).read hr4 hw4)
      clear hr4 hw4
      generalize (sLine xs s2).1 = tv at *
      generalize (sLine xs s2).2 = s3 at *
      have eb : (x1 == 2) = decide (x1 = 2) := rfl
      have b5 : Below w4.heap.size w4 (w4.alloc (.cells #[.string tk, .int .i64 t, .string tv, .bool (decide (x1 = 2))] 52)) := (Below.refl _ _).alloc (Nat.le_refl _) _
      have k5 := heap_alloc_new w4 (.cells #[.string tk, .int .i64 t, .string tv, .bool (decide (x1 = 2))] 52)
      replace hS := hide ((unhide hS).below b5)
      clear b5
      have SI := hide (vs_l01In x1 1 2)
      have EK := hide (show (decide (1 ≤ x1) && decide (x1 ≤ 2)) = kindK x1 from rfl)
      rw [unhide EK] at SI
      go_wp2_with fail
      first | rw [eb] | skip
      generalize w4.alloc (.cells #[.string tk, .int .i64 t, .string tv, .bool (decide (x1 = 2))] 52) = w5 at *
      generalize w4.heap.size = bx at *
      refine (unhide SI w5).mono ?_
      rintro e w6 ⟨rfl, hww⟩
      subst w6
      generalize hkk : kindK x1 = kk at *
      cases kk
      · have Z := hide (show false = ((sAll t xs (0, false)).2 && comV (sAll t xs (0, false)).1) by rw [unhide hE, unhide KB rfl]; rfl)
        have BL := (unhide hS).bel
        go_wp2_with fail
        go_ret2
        exact sr_no (unhide Z) BL
      · have ELL := hide (show sAll t xs (0, false) = ((L ++ [⟨tk, t, tv, decide (x1 = 2)⟩]) ++ (sAll t xs s3).1, (sAll t xs s3).2) by
          rw [unhide hE, unhide KG rfl, unhide EV]; simp)
        have hl3 : s.1 < s3.1 := by rw [unhide EV] at hmore; exact hmore
        clear KG KB hmore EV hE
        have n0 : w5.cell? ⟨bx, 0, none⟩ = some (.string tk) := (heap_at k5 0).1
        have n1 : w5.cell? ⟨bx, 1, none⟩ = some (.int .i64 t) := (heap_at k5 1).1
        have n2 : w5.cell? ⟨bx, 2, none⟩ = some (.string tv) := (heap_at k5 2).1
        have n3 : w5.cell? ⟨bx, 3, none⟩ = some (.bool (decide (x1 = 2))) := (heap_at k5 3).1
        clear k5
        obtain ⟨v8, w8, hr8, o8, g8⟩ := rc_app (d := ⟨tk, t, tv, decide (x1 = 2)⟩) (unhide hS).own (by omega) (show w.heap.size + 1 ≤ w5.heap.size from heap_lt1 (unhide hS).rd.k)
        have FIN := hide ((unhide hS).fin o8 g8)
        clear g8 o8
        simp only at hr8
        go_wp2_with (at_builtin; refine rc_wpApp rfl (.tmp 42) (.tmp 44) 27 rfl _ _ v8 w8 rfl rfl hr8 ?_)
        have HRE := hide (pos_of (unhide FIN).rd)
        clear n0 n1 n2 n3 hr8
        go_roundw
        case rel => exact ⟨s3, _, unhide FIN, unhide ELL, by simp; omega⟩
        case measure => (rw [unhide HRE]; have := unhide HRS; have := (unhide FIN).rd.pos; omega)
    · have EE := hide (show sAll t xs (0, false) = (L, !s.2) by rw [unhide hE, sAll_end t h0]; simp)
      have VR := hide (unhide hS).own
      have BL := hide (unhide hS).bel
      have hdd : w.heap.size ≤ w.heap.size + 1 := by omega
      by_cases hlt : s.1 < xs.length
      · have hk0 : (s.1 : Int) < (n : Int) := by have := unhide LX; omega
        have hs2 : s.2 = true := by
          cases hq : s.2 with
          | true => rfl
          | false => exact absurd ⟨hlt, hq⟩ h0
        rw [hs2] at c2
        have Z := hide (show false = ((sAll t xs (0, false)).2 && comV (sAll t xs (0, false)).1) by rw [unhide EE, hs2]; rfl)
        clear h0 hs2 hlt hrest
        go_wp2_with fail
        go_ret2
        exact sr_no (unhide Z) (unhide BL)
      · have hk0 : ¬ (s.1 : Int) < (n : Int) := by have := unhide LX; omega
        cases hq : s.2 with
        | true =>
          rw [hq] at c2
          have Z := hide (show false = ((sAll t xs (0, false)).2 && comV (sAll t xs (0, false)).1) by rw [unhide EE, hq]; rfl)
          clear h0 hq hlt hrest
          go_wp2_with fail
          go_ret2
          exact sr_no (unhide Z) (unhide BL)
        | false =>
          rw [hq] at c2
          have Z := hide (show comV L = ((sAll t xs (0, false)).2 && comV (sAll t xs (0, false)).1) by rw [unhide EE, hq]; rfl)
          have EL := hide (show (sAll t xs (0, false)).1 = L by rw [unhide EE])
          obtain ⟨av, cv, rfl⟩ := vowns_slice (unhide VR)
          have CW := hide (l07Writes_any av L.length cv L wr (by omega) (vrow_of_owns (unhide VR)))
          have hs3 := (unhide BL).size
          clear h0 hq hlt hrest
          go_wp2_with fail
          refine (unhide CW).mono ?_
          rintro e w9 ⟨rfl, hb9⟩
          have O9 := hide (vowns_dn (vowns_below (unhide VR) hb9) hdd)
          have B9 := hide ((unhide BL).trans (hb9.mono hs3))
          clear hb9 CW VR
          go_wp2_with fail
          go_ret2
          exact sr_yes (unhide Z) (by rw [unhide EL]; exact unhide O9) (unhide B9)
set_option maxRecDepth 100000 in
set_option maxHeartbeats 4000000 in
theorem specReadCommit_any (a : Option Addr) (n c : Nat) (xs : List Int) (t : Int) (w : World) (hr : Row w a n xs) (hb : By xs) (hnc : n ≤ c) (hn : n ≤ 1048576) (ha : ∀ x, a = some x → x.block < w.heap.size) :
    Calls Try.prog 16 #[.slice a n c, .int .i64 t] w fun e w' => RcRes t xs w e w' := by
  have L := hide hr.1
  obtain ⟨rs1, rs2⟩ := rc_same t hb
  have RS1 := hide rs1
  have RS2 := hide rs2
  clear rs1 rs2
  by_cases h4 : n ≤ 65536
  · have g4 : ¬ (65536 : Int) < (n : Int) := by omega
    have l4 : xs.length ≤ 65536 := by rw [unhide L]; exact h4
    have SI := hide (show ∀ w, Calls Try.prog 35 #[.int .i64 t, .int .i64 0, .int .i64 1000] w fun e w' => e = .returned (.bool (idK t)) ∧ w' = w from fun w => by
      have := vs_l01In t 0 1000 w
      rw [show (decide (0 ≤ t) && decide (t ≤ 1000)) = idK t by unfold idK; rw [Bool.decide_and]] at this
      exact this)
    have RD := hide (l07Read_any a n c xs t w hr hb hnc h4 ha)
    clear hr hb
    cases hid : idK t with
    | false =>
      rw [hid] at SI
      have Z := hide (rc_no (w := w) (by decide) (rc_range l4 hid) (rc_lit0 (w := w) (Nat.le_refl _)) ((Below.refl _ _).alloc (Nat.le_refl _) _))
      go_enter Try.func16, Try.ntmps16
      go_wp2_with (go_at_call 35; refine (unhide SI _).mono ?_; rintro e w1 ⟨rfl, hww⟩; subst w1)
      go_ret2
      exact unhide Z
    | true =>
      rw [hid] at SI
      have ZN := hide (fun (u : World) (hu : Below w.heap.size w u) (h3 : rcOK t xs = false) => rc_no (w := w) (by decide) (rc_form l4 hid h3) (rc_lit0 (w := u) hu.size) (hu.alloc hu.size _))
      have ZY := hide (fun (u : World) (v : Value) (ho : VOwns u w.heap.size v (rcL t xs)) (hu : Below w.heap.size w u) (h3 : rcOK t xs = true) => rc_yes (rc_ok l4 hid h3) ho hu)
      go_enter Try.func16, Try.ntmps16
      go_wp2_with (go_at_call 35; refine (unhide SI _).mono ?_; rintro e w1 ⟨rfl, hww⟩; subst w1)
      refine (unhide RD).mono ?_
      rintro e w2 ⟨v, rfl, ho, hbel⟩
      rw [unhide RS1] at ho ⊢
      have HO := hide ho
      clear ho RD
      cases hbb : rcOK t xs
      · have Z := hide (unhide ZN w2 hbel hbb)
        clear hbb
        go_wp2_with fail
        go_ret2
        exact unhide Z
      · have Z := hide (unhide ZY w2 v (by rw [← unhide RS2 hbb]; exact unhide HO hbb) hbel hbb)
        clear hbb
        go_wp2_with fail
        go_ret2
        exact unhide Z
  · have g4 : (65536 : Int) < (n : Int) := by omega
    have Z := hide (rc_no (w := w) (by decide) (rc_long (t := t) (by rw [unhide L]; exact h4)) (rc_lit0 (w := w) (Nat.le_refl _)) ((Below.refl _ _).alloc (Nat.le_refl _) _))
    clear hr hb
    go_enter Try.func16, Try.ntmps16
    go_wp2_with fail
    go_ret2
    exact unhide Z
end Go.Proofs.Ytdnneomdokcpeaa
