/-
  A tree's mapping table: the walks of tableOf, impl.TreeOK.
-/
import Derived.Test.YtbhkmmdcdfjbkaaMtD
import Derived.Test.YtbhkmmdcdfjbkaaJxG
import Derived.Test.YtbhkmmdcdfjbkaaTrH
namespace Go.Proofs.Ytbhkmmdcdfjbkaa
open Go.RowKit

theorem TbOwn.table {w : World} {B mb : Nat} {qs : List (Option (Nat × PpH))} {idx : List RefD} {vp vi : Value} (h : TbOwn w B mb qs idx vp vi) (hr : ∀ b x, some (b, x) ∈ qs → ERow w x.s0.a x.s0.n x.X.es ∧ DRow w x.s1.a x.s1.n x.X.ds) : ∃ ap cp ai ci, MtAt w mb qs idx ap cp ai ci := by
  obtain ⟨ap, cp, hp⟩ : ∃ a c, vp = .slice a qs.length c := by
    rcases h.row.2 with ⟨e, h0⟩ | ⟨g, cap, cur, e, _⟩
    · exact ⟨none, 0, by rw [e, h0]⟩
    · exact ⟨_, _, e⟩
  obtain ⟨ai, ci, hi⟩ : ∃ a c, vi = .slice a idx.length c := by
    rcases h.ix.2 with ⟨e, h0⟩ | ⟨g, cap, cur, e, _⟩
    · exact ⟨none, 0, by rw [e, h0]⟩
    · exact ⟨_, _, e⟩
  subst hp hi
  exact ⟨ap, cp, ai, ci, h.box, rowC_of_owns h.row, fun b x hx => ⟨(h.pgs b x hx).2, hr b x hx⟩, jrow_of_owns h.ix⟩
theorem TbOwn.down {w : World} {B C mb : Nat} {qs : List (Option (Nat × PpH))} {idx : List RefD} {vp vi : Value} (h : TbOwn w B mb qs idx vp vi) (hc : C ≤ B) : TbOwn w C mb qs idx vp vi :=
  ⟨h.box, Nat.le_trans hc h.bx, gd_base h.row hc, fun b x hx => ⟨Nat.le_trans hc (h.pgs b x hx).1, (h.pgs b x hx).2⟩, gd_base h.ix hc⟩
/-- A page at its place is right. -/
def pgOK (p : PageD) (g : Bool) : Bool := if g then noP p else okP p
/-- A tree as it lies. -/
structure TrIn (w : World) (ap : Option Addr) (np cp : Nat) (ag : Option Addr) (ng cg : Nat) (ai : Option Addr) (ni : Nat) (hs : List PpH) (gs : List Bool) (idx : List RefD) : Prop where
  pgs : PpIn w (.slice ap np cp) np hs
  gone : RowC w (.slice ag ng cg) ng (gs.map Value.bool)
  glen : gs.length = ng
  ix : JRow w ai ni idx
theorem TrIn.below {w w' : World} {ap : Option Addr} {np cp : Nat} {ag : Option Addr} {ng cg : Nat} {ai : Option Addr} {ni : Nat} {hs : List PpH} {gs : List Bool} {idx : List RefD} (h : TrIn w ap np cp ag ng cg ai ni hs gs idx) (hb : Below w.heap.size w w') : TrIn w' ap np cp ag ng cg ai ni hs gs idx :=
  ⟨h.pgs.below hb, h.gone.below hb, h.glen, h.ix.below hb⟩
theorem TrIn.plen {w : World} {ap : Option Addr} {np cp : Nat} {ag : Option Addr} {ng cg : Nat} {ai : Option Addr} {ni : Nat} {hs : List PpH} {gs : List Bool} {idx : List RefD} (h : TrIn w ap np cp ag ng cg ai ni hs gs idx) : hs.length = np := by have := h.pgs.len; simpa using this
def trd (hs : List PpH) (gs : List Bool) (idx : List RefD) : TreD := ⟨hs.map (·.X), gs, idx⟩
/-- What a table is made of. -/
structure TbSt (B : Nat) (wr : World) (mb : Nat) (qs : List (Option (Nat × PpH))) (idx : List RefD) (vp vi : Value) (hs : List PpH) (gs : List Bool) (k : Nat) : Prop where
  own : TbOwn wr B mb qs idx vp vi
  len : qs.length = k
  here : qsP qs = (trd hs gs idx).here.take k
  mem : ∀ b x, some (b, x) ∈ qs → x ∈ hs ∧ okP x.X = true
  ok : ∀ i (_ : i < k) (h1 : i < hs.length) (h2 : i < gs.length), pgOK hs[i].X gs[i] = true
def TbRes (w w' : World) (hs : List PpH) (gs : List Bool) (idx : List RefD) (e : Ending) : Prop :=
  ∃ v, e = Ending.returned (.tuple #[v, .bool (okT (trd hs gs idx))]) ∧ Below w.heap.size w w' ∧ (okT (trd hs gs idx) = true → ∃ mb qs vp vi, v = .pointer (some ⟨mb, 0, none⟩) ∧ TbOwn w' w.heap.size mb qs idx vp vi ∧ qsP qs = (trd hs gs idx).here ∧ ∀ b x, some (b, x) ∈ qs → x ∈ hs ∧ okP x.X = true)
theorem TbRes.bad {w w' : World} {hs : List PpH} {gs : List Bool} {idx : List RefD} {v : Value} (h : okT (trd hs gs idx) = false) (hb : Below w.heap.size w w') : TbRes w w' hs gs idx (Ending.returned (.tuple #[v, .bool false])) :=
  ⟨v, by rw [h], hb, fun e => by rw [h] at e; cases e⟩
theorem here_at {hs : List PpH} {gs : List Bool} {idx : List RefD} {k : Nat} (h1 : k < hs.length) (h2 : k < gs.length) : (trd hs gs idx).here.take (k + 1) = (trd hs gs idx).here.take k ++ [if gs[k] then none else some hs[k].X] := by
  have hl : k < (trd hs gs idx).here.length := by simp [trd, TreD.here]; omega
  rw [List.take_succ_eq_append_getElem hl]
  congr 2
  simp [trd, TreD.here]
theorem TbSt.push {B mb k : Nat} {wr u w' : World} {qs : List (Option (Nat × PpH))} {q : Option (Nat × PpH)} {idx : List RefD} {vp vi v' : Value} {hs : List PpH} {gs : List Bool} {o : Obj} (h : TbSt B wr mb qs idx vp vi hs gs k) (hu : Below wr.heap.size wr u) (hB : B ≤ wr.heap.size) (h1 : k < hs.length) (h2 : k < gs.length) (hq : (q.map fun x => x.2.X) = if gs[k] then none else some hs[k].X) (hm : ∀ b x, q = some (b, x) → PgBox u B b x ∧ x ∈ hs ∧ okP x.X = true) (hok : pgOK hs[k].X gs[k] = true) (hg : (u.alloc o).grownBy w' vp.ownBlock) (ho : POwns w' B v' (qs ++ [q])) :
    TbSt B (w'.setCell ⟨mb, 0, none⟩ v') mb (qs ++ [q]) idx v' vi hs gs (k + 1) ∧ Below B wr (w'.setCell ⟨mb, 0, none⟩ v') ∧ w'.heap[mb]? = some (.cells #[vp, vi] 68 (0, 0)) := by
  obtain ⟨p1, p2, p3⟩ := (h.own.below hu).push (fun b x e => (hm b x e).1) hg ho (Nat.le_trans hB hu.size)
  refine ⟨⟨p1, ?_, ?_, ?_, ?_⟩, (hu.mono hB).trans p2, p3⟩
  · rw [List.length_append, h.len]; rfl
  · rw [here_at h1 h2, ← hq, ← h.here]
    unfold qsP
    rw [List.map_append]
    rfl
  · intro b x hx
    rcases List.mem_append.1 hx with hx | hx
    · exact h.mem b x hx
    · exact (hm b x (List.mem_singleton.1 hx).symm).2
  · intro i hi i1 i2
    by_cases e : i < k
    · exact h.ok i e i1 i2
    · obtain rfl : i = k := by omega
      exact hok
theorem powns_slice {w : World} {B n : Nat} {v : Value} {qs : List (Option (Nat × PpH))} (h : POwns w B v qs) (hn : qs.length = n) : ∃ a c, v = .slice a n c := by
  subst hn
  rcases h.2 with ⟨e, h0⟩ | ⟨g, cap, cur, e, _⟩
  · exact ⟨none, 0, by rw [e, h0]⟩
  · exact ⟨_, _, e⟩
theorem okT_size {hs : List PpH} {gs : List Bool} {idx : List RefD} (h : ¬ (1 ≤ hs.length ∧ hs.length ≤ 30 ∧ gs.length = hs.length ∧ idx.length ≤ hs.length)) : okT (trd hs gs idx) = false := by
  unfold okT trd
  simp only [List.length_map]
  rw [decide_eq_false (fun e => h ⟨e.1, e.2.1, e.2.2.1, e.2.2.2.2⟩)]
  rfl
theorem okT_page {hs : List PpH} {gs : List Bool} {idx : List RefD} {k : Nat} (h1 : k < hs.length) (h2 : k < gs.length) (h : pgOK hs[k].X gs[k] = false) : okT (trd hs gs idx) = false := by
  have : okPg (trd hs gs idx) = false := by
    unfold okPg trd
    rw [List.all_eq_false]
    refine ⟨false, ?_, by decide⟩
    rw [← h]
    refine List.mem_iff_getElem.2 ⟨k, by simp; omega, ?_⟩
    simp [pgOK]
  unfold okT
  rw [this]
  simp
theorem okT_rest {hs : List PpH} {gs : List Bool} {idx : List RefD} (h : 1 ≤ hs.length ∧ hs.length ≤ 30 ∧ gs.length = hs.length ∧ idx.length ≤ hs.length) (hp : ∀ i (h1 : i < hs.length) (h2 : i < gs.length), pgOK hs[i].X gs[i] = true) : okT (trd hs gs idx) = (goT (trd hs gs idx).here (manyT (trd hs gs idx).here) 0 ⟨#[]⟩ && (zeroIdx idx && okIdx (trd hs gs idx).here idx)) := by
  have hpg : okPg (trd hs gs idx) = true := by
    unfold okPg trd
    rw [List.all_eq_true]
    intro b hb
    obtain ⟨i, hi, e⟩ := List.mem_iff_getElem.1 hb
    rw [← e]
    have hi2 : i < min hs.length gs.length := by simpa using hi
    have := hp i (by omega) (by omega)
    simpa [pgOK] using this
  unfold okT
  rw [hpg]
  show ((((decide (1 ≤ (hs.map (·.X)).length ∧ (hs.map (·.X)).length ≤ 30 ∧ gs.length = (hs.map (·.X)).length ∧ 1 ≤ idx.length ∧ idx.length ≤ (hs.map (·.X)).length) && true) && okIdx (trd hs gs idx).here idx) && zeroIdx idx) && goT (trd hs gs idx).here (manyT (trd hs gs idx).here) 0 ⟨#[]⟩) = _
  rw [List.length_map]
  by_cases h0 : 1 ≤ idx.length
  · rw [decide_eq_true ⟨h.1, h.2.1, h.2.2.1, h0, h.2.2.2⟩]
    cases okIdx (trd hs gs idx).here idx <;> cases zeroIdx idx <;> cases goT (trd hs gs idx).here (manyT (trd hs gs idx).here) 0 ⟨#[]⟩ <;> rfl
  · have hz : zeroIdx idx = false := by
      obtain rfl := List.eq_nil_of_length_eq_zero (show idx.length = 0 by omega)
      rfl
    rw [hz]
    simp
set_option maxRecDepth 100000 in
set_option maxHeartbeats 4000000 in
theorem tableOf_any (ap : Option Addr) (np cp : Nat) (ag : Option Addr) (ng cg : Nat) (ai : Option Addr) (ni ci : Nat) (hs : List PpH) (gs : List Bool) (idx : List RefD) (w : World) (hT : TrIn w ap np cp ag ng cg ai ni hs gs idx) (hci : ai = none → ci = 0) :
    Calls Try.prog 13 #[.agg #[.slice ap np cp, .slice ag ng cg, .slice ai ni ci]] w fun e w' => TbRes w w' hs gs idx e := by
  have b0 : ∀ o, Below w.heap.size w (w.alloc o) := fun o => (Below.refl _ _).alloc (Nat.le_refl _) _
  have lp := hT.plen
  have lg := hT.glen
  have li := hT.ix.1
  by_cases h1 : np < 1
  · have Z := hide (okT_size (hs := hs) (gs := gs) (idx := idx) fun e => by omega)
    have h1 : (np : Int) < 1 := by omega
    clear hT
    go_enter Try.func13, Try.ntmps13
    go_wp2_with fail
    go_ret2
    exact TbRes.bad (unhide Z) (b0 _)
  by_cases h2 : 30 < np
  · have Z := hide (okT_size (hs := hs) (gs := gs) (idx := idx) fun e => by omega)
    have h1 : ¬ (np : Int) < 1 := by omega
    have h2 : (30 : Int) < (np : Int) := by omega
    clear hT
    go_enter Try.func13, Try.ntmps13
    go_wp2_with fail
    go_ret2
    exact TbRes.bad (unhide Z) (b0 _)
  by_cases h3 : ng ≠ np
  · have Z := hide (okT_size (hs := hs) (gs := gs) (idx := idx) fun e => by omega)
    have h1 : ¬ (np : Int) < 1 := by omega
    have h2 : ¬ (30 : Int) < (np : Int) := by omega
    have h3 : ((ng : Int) != (np : Int)) = true := by simp; omega
    clear hT
    go_enter Try.func13, Try.ntmps13
    go_wp2_with fail
    go_ret2
    exact TbRes.bad (unhide Z) (b0 _)
  by_cases h4 : np < ni
  · have Z := hide (okT_size (hs := hs) (gs := gs) (idx := idx) fun e => by omega)
    have h1 : ¬ (np : Int) < 1 := by omega
    have h2 : ¬ (30 : Int) < (np : Int) := by omega
    have h3 : ((ng : Int) != (np : Int)) = false := by simp; omega
    have h4 : (np : Int) < (ni : Int) := by omega
    clear hT
    go_enter Try.func13, Try.ntmps13
    go_wp2_with fail
    go_ret2
    exact TbRes.bad (unhide Z) (b0 _)
  have E := hide (okT_rest (hs := hs) (gs := gs) (idx := idx) ⟨by omega, by omega, by omega, by omega⟩)
  have j1 : ¬ (np : Int) < 1 := by omega
  have j2 : ¬ (30 : Int) < (np : Int) := by omega
  have j3 : ((ng : Int) != (np : Int)) = false := by simp; omega
  have j4 : ¬ (np : Int) < (ni : Int) := by omega
  have T := hide hT
  clear hT
  have OC := hide (fun (W : World) (ob : Nat) (hb : Below w.heap.size w W) (hc : W.cell? ⟨ob, 0, none⟩ = some (.slice ai ni ci)) => concatJ1 ob ai ni ci idx W hc ((unhide T).below hb).ix hci (by omega))
  go_enter Try.func13, Try.ntmps13
  go_wp2_with fail
  refine (unhide OC _ _ (((b0 _)).alloc (by simp) _) (by simp)).mono ?_
  rintro e w1 ⟨vi, rfl, hO, hb1⟩
  obtain ⟨a3, k3, hv⟩ : ∃ a c, vi = .slice a ni c := by
    rcases hO.2 with ⟨e, h0⟩ | ⟨g, cap, cur, e, _⟩
    · exact ⟨none, 0, by rw [e, ← li, h0]⟩
    · exact ⟨_, _, by rw [e, li]⟩
  subst hv
  have bW : Below w.heap.size w w1 := ((b0 _).alloc (by simp) _).trans (hb1.mono (by simp; omega))
  have q0 : w1.cell? ⟨w.heap.size, 0, none⟩ = some (.slice ap np cp) := (hb1.cell (p := ⟨w.heap.size, 0, none⟩) (by simp <;> omega)).trans (by simp)
  have q1 : w1.cell? ⟨w.heap.size, 1, none⟩ = some (.slice ag ng cg) := (hb1.cell (p := ⟨w.heap.size, 1, none⟩) (by simp <;> omega)).trans (by simp)
  have sz1 : w.heap.size + 2 ≤ w1.heap.size := by have := hb1.size; simp at this; omega
  have hO1 : JOwns w1 (w.heap.size + 1) (.slice a3 ni k3) idx := gd_base hO (by simp <;> omega)
  have S0 := hide (show TbSt (w.heap.size + 1) (w1.alloc (.cells #[.slice none 0 0, .slice a3 ni k3] 68)) w1.heap.size [] idx (.slice none 0 0) (.slice a3 ni k3) hs gs 0 from
    ⟨⟨heap_alloc_new _ _, by omega, World.ownsRow_nil _ _ _ _, (fun _ _ h => by cases h), rb_ownsRow_below hO1 ((Below.refl _ _).alloc (Nat.le_refl _) _)⟩, rfl, rfl, (fun _ _ h => by cases h), fun i h => absurd h (Nat.not_lt_zero _)⟩)
  have K0 := hide (show Below (w.heap.size + 1) w1 (w1.alloc (.cells #[.slice none 0 0, .slice a3 ni k3] 68)) from (Below.refl _ _).alloc (by omega) _)
  clear hO hO1 hb1 OC
  have hwlt : w.heap.size < w1.heap.size := by omega
  have SZ := hide (show ∀ u, Below (w.heap.size + 1) w1 u → w.heap.size + 1 ≤ u.heap.size from fun u h => by have := h.size; omega)
  go_wp2_with fail
  generalize w1.heap.size = mb at *
  go_loopw [40] (fun i wr => ∃ (k : Nat) (qs : List (Option (Nat × PpH))) (vp : Value), k ≤ np ∧ i = .int .i64 k ∧ Hid (TbSt (w.heap.size + 1) wr mb qs idx vp (.slice a3 ni k3) hs gs k) ∧ Below (w.heap.size + 1) w1 wr) (fun i _ => np - (intOf i).toNat)
  case atStart => exact ⟨0, [], .slice none 0 0, Nat.zero_le _, rfl, S0, unhide K0⟩
  case round =>
    obtain ⟨k, qs, vp, hk, rfl, hS, hK⟩ := hrel
    have bR : Below w.heap.size w wr := bW.trans (hK.mono (by omega))
    by_cases hlt : k < np
    case neg =>
      obtain rfl : k = np := by omega
      have hS2 := unhide hS
      have hlen : (trd hs gs idx).here.length = k := by simp [trd, TreD.here]; omega
      have hh : qsP qs = (trd hs gs idx).here := by rw [hS2.here, List.take_of_length_le (by omega)]
      have E2 := unhide E fun i h1 h2 => hS2.ok i (by omega) h1 h2
      rw [← hh] at E2
      have hrow : ∀ u, Below wr.heap.size wr u → ∀ b x, some (b, x) ∈ qs → ERow u x.s0.a x.s0.n x.X.es ∧ DRow u x.s1.a x.s1.n x.X.ds := fun u hu b x hx => by
        obtain ⟨j, hj, e⟩ := List.getElem_of_mem (hS2.mem b x hx).1
        have h := PpIn.sub ((unhide T).below (bR.trans (hu.mono bR.size))).pgs hj
        rw [e] at h
        exact ⟨erow_C h.1, drow_C h.2⟩
      obtain ⟨ap2, cp2, ai2, ci2, M⟩ := hS2.own.table (hrow wr (Below.refl _ _))
      have HL := hide (linked_any mb qs idx ap2 cp2 ai2 ci2 wr M (by rw [hS2.len]; omega) (fun b x hx => (hS2.mem b x hx).2))
      have HI := hide (fun u hu => indexed_any mb qs idx ap2 cp2 ai2 ci2 u (M.below hu) (by omega))
      have RES := hide (show ∀ (u : World) (hu : Below wr.heap.size wr u) (g : Bool), g = okT (trd hs gs idx) → TbRes w u hs gs idx (Ending.returned (.tuple #[.pointer (some ⟨mb, 0, none⟩), .bool g])) from fun u hu g hg =>
        ⟨_, by rw [hg], bR.trans (hu.mono bR.size), fun _ => ⟨mb, qs, vp, _, rfl, (hS2.own.below hu).down (by omega), hh, hS2.mem⟩⟩)
      clear hS hS2 M hrow hh hlen E
      generalize goT (qsP qs) (manyT (qsP qs)) 0 ⟨#[]⟩ = G1 at *
      generalize (zeroIdx idx && okIdx (qsP qs) idx) = G2 at *
      have E3 := hide E2
      clear E2
      go_wp2_with fail
      refine (unhide HL).mono ?_
      rintro e w2 ⟨rfl, hb2⟩
      cases G1
      · go_wp2_with fail
        go_ret2
        exact unhide RES _ hb2 _ (by rw [unhide E3]; rfl)
      · go_wp2_with fail
        refine (unhide HI w2 hb2).mono ?_
        rintro e w3 ⟨rfl, hb3⟩
        go_wp2_with fail
        go_ret2
        exact unhide RES _ (hb2.trans (hb3.mono hb2.size)) _ (by rw [unhide E3]; rfl)
    have hk1 : k < hs.length := by omega
    have hk2 : k < gs.length := by omega
    have hBs : w.heap.size + 1 ≤ wr.heap.size := unhide SZ _ hK
    obtain ⟨b, off, hap, hbl, d0, d1, d2, d3, d4⟩ := PpIn.cells ((unhide T).below bR).pgs hk1
    subst hap
    obtain ⟨b', off', hag, g0⟩ := RowC.at ((unhide T).below bR).gone (j := k) (u := .bool gs[k]) (by rw [List.getElem?_map, List.getElem?_eq_getElem hk2]; rfl)
    subst hag
    have t0 := (hK.cell (p := ⟨w.heap.size, 0, none⟩) (Nat.lt_succ_self _)).trans q0
    have t1 := (hK.cell (p := ⟨w.heap.size, 1, none⟩) (Nat.lt_succ_self _)).trans q1
    have SUB := PpIn.sub ((unhide T).below bR).pgs hk1
    have hE := erow_C SUB.1
    have hD := drow_C SUB.2
    have BX := hide (show Below wr.heap.size wr (wr.alloc (.cells #[.string hs[k].X.lo, .string hs[k].X.hi, .int .i64 hs[k].X.r, .slice hs[k].s0.a hs[k].s0.n hs[k].s0.c, .slice hs[k].s1.a hs[k].s1.n hs[k].s1.c] 51)) from (Below.refl _ _).alloc (Nat.le_refl _) _)
    have BH := hide (show (wr.alloc (.cells #[.string hs[k].X.lo, .string hs[k].X.hi, .int .i64 hs[k].X.r, .slice hs[k].s0.a hs[k].s0.n hs[k].s0.c, .slice hs[k].s1.a hs[k].s1.n hs[k].s1.c] 51)).heap[wr.heap.size]? = _ from heap_alloc_new _ _)
    have HP := hide (implPageOK_any hs[k].X.lo hs[k].X.hi hs[k].X.r hs[k].s0.a hs[k].s0.n hs[k].s0.c hs[k].X.es hs[k].s1.a hs[k].s1.n hs[k].s1.c hs[k].X.ds _ (hE.below (unhide BX)) (hD.below (unhide BX)))
    have HN := hide (hasNothing_any hs[k].X.lo hs[k].X.hi hs[k].X.r hs[k].s0.a hs[k].s0.n hs[k].s0.c hs[k].s1.a hs[k].s1.n hs[k].s1.c (wr.alloc (.cells #[.string hs[k].X.lo, .string hs[k].X.hi, .int .i64 hs[k].X.r, .slice hs[k].s0.a hs[k].s0.n hs[k].s0.c, .slice hs[k].s1.a hs[k].s1.n hs[k].s1.c] 51)))
    have NE := hide (show emptyP hs[k].X.lo hs[k].X.hi hs[k].X.r hs[k].s0.n hs[k].s1.n = noP hs[k].X by
      unfold emptyP noP
      rw [rowC_len SUB.1, rowC_len SUB.2])
    have BAD := hide (fun e => okT_page (idx := idx) hk1 hk2 e)
    have MEM := hide (List.getElem_mem hk1)
    obtain ⟨aP, cP, hvp⟩ := powns_slice (unhide hS).own.row (unhide hS).len
    subst hvp
    clear SUB hE hD
    cases hgk : gs[k] with
    | false =>
      rw [hgk] at g0
      cases hok : okP hs[k].X with
      | true =>
        have HP2 := hide (show _ from unhide HP)
        rw [show okPage hs[k].X.lo hs[k].X.hi hs[k].X.r hs[k].X.es hs[k].X.ds = true from hok] at HP2
        unfold pgv at HP2
        have PBX := hide (fun (u : World) (hu : Below (wr.alloc (.cells #[.string hs[k].X.lo, .string hs[k].X.hi, .int .i64 hs[k].X.r, .slice hs[k].s0.a hs[k].s0.n hs[k].s0.c, .slice hs[k].s1.a hs[k].s1.n hs[k].s1.c] 51)).heap.size (wr.alloc (.cells #[.string hs[k].X.lo, .string hs[k].X.hi, .int .i64 hs[k].X.r, .slice hs[k].s0.a hs[k].s0.n hs[k].s0.c, .slice hs[k].s1.a hs[k].s1.n hs[k].s1.c] 51)) u) => show PgBox u (w.heap.size + 1) wr.heap.size hs[k] from ⟨hBs, (Below.block hu wr.heap.size (by simp)).trans (unhide BH)⟩)
        have hq : ((some (wr.heap.size, hs[k]) : Option (Nat × PpH)).map fun x => x.2.X) = if gs[k] then none else some hs[k].X := by rw [hgk]; rfl
        have hpk : pgOK hs[k].X gs[k] = true := by rw [hgk]; exact hok
        clear HP HN NE BAD BH
        generalize hpd : hs[k] = pd at *
        obtain ⟨X, ⟨a0, n0, c0⟩, ⟨a1, n1, c1⟩⟩ := pd
        simp only at d0 d1 d2 d3 d4 HP2 BX PBX hok hq hpk MEM
        have u1 := ((unhide BX).cell (p := ⟨w.heap.size, 1, none⟩) hBs).trans t1
        have ug := ((unhide BX).cell (p := ⟨b', off' + k, none⟩) (cell_lt g0)).trans g0
        go_wp2_with fail
        refine (unhide HP2).mono ?_
        rintro e w2 ⟨rfl, hb2⟩
        have hu : Below wr.heap.size wr w2 := (unhide BX).trans (hb2.mono (unhide BX).size)
        have PBY := hide (unhide PBX w2 hb2)
        clear HP2 PBX d0 d1 d2 d3 d4 g0 t0 t1 u1 ug
        obtain ⟨v2, w3, hr, ho, hg⟩ := p_app (q := some (wr.heap.size, ⟨X, ⟨a0, n0, c0⟩, ⟨a1, n1, c1⟩⟩)) ((unhide hS).own.below hu).row (by rw [(unhide hS).len]; omega) (Nat.le_trans hBs hu.size)
        obtain ⟨aV, cV, hV⟩ := powns_slice (n := k + 1) ho (by rw [List.length_append, (unhide hS).len]; rfl)
        subst hV
        obtain ⟨pA, pB, pC⟩ := (unhide hS).push hu hBs hk1 hk2 (by rw [hpd]; exact hq) (fun b x e => by injection e with e; injection e with e1 e2; subst e1 e2; exact ⟨unhide PBY, unhide MEM, hok⟩) (by rw [hpd]; exact hpk) hg ho
        have PA := hide pA
        have PB := hide (hK.trans pB)
        have f0 := (heap_at pC 0).2
        have f1 := (heap_at pC 0).1
        have m0 := (heap_at ((unhide hS).own.below hu).box 0).1
        unfold ptrQ at hr
        simp only [Option.map_some] at hr
        clear pA pB pC ho hg hS hK
        go_wp2_with (at_builtin; refine wpAppE rfl _ _ 66 rfl _ _ (.slice aV (k + 1) cV) w3 rfl rfl hr ?_)
        go_roundw
        case rel => exact ⟨k + 1, _, _, by omega, by go_num, PA, unhide PB⟩
        case measure => simp [intOf]; omega
      | false =>
        have Z := hide (unhide BAD (by rw [hgk]; exact hok))
        have HP2 := hide (show _ from unhide HP)
        rw [show okPage hs[k].X.lo hs[k].X.hi hs[k].X.r hs[k].X.es hs[k].X.ds = false from hok] at HP2
        unfold pgv at HP2
        have t0' : ∀ u, Below (wr.alloc (.cells #[.string hs[k].X.lo, .string hs[k].X.hi, .int .i64 hs[k].X.r, .slice hs[k].s0.a hs[k].s0.n hs[k].s0.c, .slice hs[k].s1.a hs[k].s1.n hs[k].s1.c] 51)).heap.size (wr.alloc (.cells #[.string hs[k].X.lo, .string hs[k].X.hi, .int .i64 hs[k].X.r, .slice hs[k].s0.a hs[k].s0.n hs[k].s0.c, .slice hs[k].s1.a hs[k].s1.n hs[k].s1.c] 51)) u → Below wr.heap.size wr u := fun u hu => (unhide BX).trans (hu.mono (unhide BX).size)
        have TT := hide t0'
        clear HP HN NE BAD BH t0' hS
        generalize hpd : hs[k] = pd at *
        obtain ⟨X, ⟨a0, n0, c0⟩, ⟨a1, n1, c1⟩⟩ := pd
        simp only at d0 d1 d2 d3 d4 HP2 BX TT
        have u1 := ((unhide BX).cell (p := ⟨w.heap.size, 1, none⟩) hBs).trans t1
        have ug := ((unhide BX).cell (p := ⟨b', off' + k, none⟩) (cell_lt g0)).trans g0
        go_wp2_with fail
        refine (unhide HP2).mono ?_
        rintro e w2 ⟨rfl, hb2⟩
        have hu := unhide TT w2 hb2
        have t1' := (hu.cell (p := ⟨w.heap.size, 1, none⟩) hBs).trans t1
        have g0' := (hu.cell (p := ⟨b', off' + k, none⟩) (cell_lt g0)).trans g0
        clear t0 t1 g0 u1 ug d0 d1 d2 d3 d4 HP2 TT
        go_wp2_with fail
        go_ret2
        exact TbRes.bad (unhide Z) (bR.trans (hu.mono bR.size))
    | true =>
      rw [hgk] at g0
      rw [unhide NE] at HN
      cases hok : noP hs[k].X with
      | true =>
        rw [hok] at HN
        have hq : ((none : Option (Nat × PpH)).map fun x => x.2.X) = if gs[k] then none else some hs[k].X := by rw [hgk]; rfl
        have hpk : pgOK hs[k].X gs[k] = true := by rw [hgk]; exact hok
        clear HP NE BAD BH
        generalize hpd : hs[k] = pd at *
        obtain ⟨X, ⟨a0, n0, c0⟩, ⟨a1, n1, c1⟩⟩ := pd
        simp only at d0 d1 d2 d3 d4 HN BX hok hq hpk MEM
        have u1 := ((unhide BX).cell (p := ⟨w.heap.size, 1, none⟩) hBs).trans t1
        have ug := ((unhide BX).cell (p := ⟨b', off' + k, none⟩) (cell_lt g0)).trans g0
        go_wp2_with fail
        refine (unhide HN).mono ?_
        rintro e w2 ⟨rfl, hb2⟩
        have hu : Below wr.heap.size wr w2 := (unhide BX).trans (hb2.mono (unhide BX).size)
        clear HN d0 d1 d2 d3 d4 g0 t0 t1 u1 ug
        obtain ⟨v2, w3, hr, ho, hg⟩ := p_app (q := none) ((unhide hS).own.below hu).row (by rw [(unhide hS).len]; omega) (Nat.le_trans hBs hu.size)
        obtain ⟨aV, cV, hV⟩ := powns_slice (n := k + 1) ho (by rw [List.length_append, (unhide hS).len]; rfl)
        subst hV
        obtain ⟨pA, pB, pC⟩ := (unhide hS).push hu hBs hk1 hk2 (by rw [hpd]; exact hq) (fun b x e => by cases e) (by rw [hpd]; exact hpk) hg ho
        have PA := hide pA
        have PB := hide (hK.trans pB)
        have f0 := (heap_at pC 0).2
        have f1 := (heap_at pC 0).1
        have m0 := (heap_at ((unhide hS).own.below hu).box 0).1
        unfold ptrQ at hr
        simp only [Option.map_none] at hr
        clear pA pB pC ho hg hS hK
        go_wp2_with (at_builtin; refine wpAppE rfl _ _ 66 rfl _ _ (.slice aV (k + 1) cV) w3 rfl rfl hr ?_)
        go_roundw
        case rel => exact ⟨k + 1, _, _, by omega, by go_num, PA, unhide PB⟩
        case measure => simp [intOf]; omega
      | false =>
        have Z := hide (unhide BAD (by rw [hgk]; exact hok))
        rw [hok] at HN
        clear HP NE BAD BH hS
        generalize hpd : hs[k] = pd at *
        obtain ⟨X, ⟨a0, n0, c0⟩, ⟨a1, n1, c1⟩⟩ := pd
        simp only at d0 d1 d2 d3 d4 HN BX
        have u1 := ((unhide BX).cell (p := ⟨w.heap.size, 1, none⟩) hBs).trans t1
        have ug := ((unhide BX).cell (p := ⟨b', off' + k, none⟩) (cell_lt g0)).trans g0
        go_wp2_with fail
        refine (unhide HN).mono ?_
        rintro e w2 ⟨rfl, hb2⟩
        have hu : Below wr.heap.size wr w2 := (unhide BX).trans (hb2.mono (unhide BX).size)
        clear t0 t1 g0 u1 ug d0 d1 d2 d3 d4 HN
        go_wp2_with fail
        go_ret2
        exact TbRes.bad (unhide Z) (bR.trans (hu.mono bR.size))
end Go.Proofs.Ytbhkmmdcdfjbkaa
