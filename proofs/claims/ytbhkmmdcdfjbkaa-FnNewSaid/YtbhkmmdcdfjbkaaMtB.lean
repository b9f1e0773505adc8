/-
  A mapping table: the walk of linked.
-/
import Derived.Test.YtbhkmmdcdfjbkaaMtA
import Derived.Test.YtbhkmmdcdfjbkaaPageK
namespace Go.Proofs.Ytbhkmmdcdfjbkaa
open Go.RowKit

/-- Pages that begin at a text or behind it. -/
def geP (low : ByteArray) (q : Option PageD) : Bool := match q with
  | some p => !ltK p.lo low
  | none => false
theorem geP_some (low : ByteArray) (p : PageD) : geP low (some p) = !ltK p.lo low := rfl
def cntGe (ps : List (Option PageD)) (low : ByteArray) : Nat := ps.countP (geP low)
theorem countP_less {α : Type} {P Q : α → Bool} : ∀ {l : List α}, (∀ x ∈ l, P x = true → Q x = true) → (∃ x ∈ l, Q x = true ∧ P x = false) → l.countP P + 1 ≤ l.countP Q
  | [], _, ⟨x, hx, _⟩ => by cases hx
  | y :: l, h, ⟨x, hx, h1, h2⟩ => by
    rw [List.countP_cons, List.countP_cons]
    have hm : l.countP P ≤ l.countP Q := List.countP_mono_left fun z hz => h z (List.mem_cons_of_mem _ hz)
    rcases List.mem_cons.1 hx with rfl | hx
    · rw [h1, h2]
      simp
      omega
    · have ih := countP_less (P := P) (Q := Q) (l := l) (fun z hz => h z (List.mem_cons_of_mem _ hz)) ⟨x, hx, h1, h2⟩
      have hle : (if P y = true then 1 else 0) ≤ (if Q y = true then 1 else 0) := by
        cases hp : P y with
        | false => simp
        | true => rw [h y (List.mem_cons_self ..) hp]; simp
      omega
theorem cntGe_many (ps : List (Option PageD)) (low : ByteArray) : cntGe ps low ≤ manyT ps := by
  unfold cntGe manyT
  exact List.countP_mono_left fun q _ hq => by cases q with
    | none => cases hq
    | some p => rfl
theorem getP_mem {ps : List (Option PageD)} {x : Int} {p : PageD} (h : getP ps x = some p) : some p ∈ ps := by
  unfold getP at h
  split at h
  · cases hq : ps[x.toNat]? with
    | none => rw [hq] at h; cases h
    | some q =>
      rw [hq] at h
      have : q = some p := h
      rw [← this]
      exact List.mem_of_getElem? hq
  · cases h
theorem cntGe_here {ps : List (Option PageD)} {p : PageD} (h : some p ∈ ps) : 1 ≤ cntGe ps p.lo := by
  unfold cntGe
  exact List.countP_pos_iff.2 ⟨_, h, by rw [geP_some, ltK_irr]; rfl⟩
theorem cntGe_next {ps : List (Option PageD)} {p : PageD} {low : ByteArray} (h : some p ∈ ps) (hl : ltK p.lo low = true) : cntGe ps low + 1 ≤ cntGe ps p.lo := by
  unfold cntGe
  refine countP_less (fun q _ hq => ?_) ⟨_, h, by rw [geP_some, ltK_irr]; rfl, by rw [geP_some, hl]; rfl⟩
  cases q with
  | none => cases hq
  | some r =>
    rw [geP_some, Bool.not_eq_true'] at hq
    rw [geP_some, Bool.not_eq_true']
    cases h1 : ltK r.lo p.lo
    · rfl
    · have := ltK_trans h1 hl
      rw [hq] at this
      cases this
/-- Where a walk along the pages stands. -/
structure LkSt (ps : List (Option PageD)) (low : ByteArray) (id : Int) (c : Nat) : Prop where
  go : goT ps (manyT ps) 0 ⟨#[]⟩ = goT ps (manyT ps - c) id low
  le : c ≤ manyT ps
  here : id ≠ -1 → 0 ≤ id ∧ id ≤ 1000 ∧ c + cntGe ps low ≤ manyT ps
  last : id = -1 → low.toList.isEmpty = true
theorem LkSt.start (ps : List (Option PageD)) : LkSt ps ⟨#[]⟩ 0 0 := ⟨rfl, Nat.zero_le _, fun _ => ⟨by omega, by omega, by have := cntGe_many ps ⟨#[]⟩; omega⟩, fun h => by omega⟩
theorem LkSt.none {ps : List (Option PageD)} {low : ByteArray} {id : Int} {c : Nat} (h : LkSt ps low id c) (hi : id ≠ -1) (hp : getP ps id = none) : goT ps (manyT ps) 0 ⟨#[]⟩ = false := by
  rw [h.go]
  have h0 := (h.here hi).1
  cases manyT ps - c with
  | zero => unfold goT; rw [decide_eq_false (by omega)]; rfl
  | succ m => unfold goT; rw [hp]
theorem LkSt.parts {ps : List (Option PageD)} {low : ByteArray} {id : Int} {c : Nat} (h : LkSt ps low id c) (hi : id ≠ -1) {p : PageD} (hp : getP ps id = some p) (hl : p.lo ≠ low) : goT ps (manyT ps) 0 ⟨#[]⟩ = false := by
  rw [h.go]
  have h0 := (h.here hi).1
  cases manyT ps - c with
  | zero => unfold goT; rw [decide_eq_false (by omega)]; rfl
  | succ m => unfold goT; rw [hp]; simp only; rw [decide_eq_false hl]; rfl
theorem LkSt.next {ps : List (Option PageD)} {low : ByteArray} {id : Int} {c : Nat} (h : LkSt ps low id c) (hi : id ≠ -1) {p : PageD} (hp : getP ps id = some p) (hl : p.lo = low) (hok : okP p = true) : LkSt ps (hiP p) (riP p) (c + 1) ∧ c + 1 ≤ manyT ps := by
  have hm := getP_mem hp
  obtain ⟨h0, _, h1⟩ := h.here hi
  have hg := cntGe_here hm
  rw [hl] at hg
  obtain ⟨b1, b2⟩ := okP_bd hok
  have hc : c + 1 ≤ manyT ps := by omega
  refine ⟨⟨?_, hc, fun hr => ?_, fun hr => ?_⟩, hc⟩
  · rw [h.go]
    obtain ⟨m, hm2⟩ : ∃ m, manyT ps - c = m + 1 := ⟨manyT ps - c - 1, by omega⟩
    rw [hm2, show manyT ps - (c + 1) = m by omega]
    conv => lhs; unfold goT
    rw [hp]
    simp only
    rw [decide_eq_true hl, Bool.true_and]
  · cases he : (hiP p).toList.isEmpty with
    | true => exact absurd (b1 he) hr
    | false =>
      obtain ⟨b3, b4, b5⟩ := b2 he
      have := cntGe_next hm b3
      rw [hl] at this
      exact ⟨b4, b5, by omega⟩
  · cases he : (hiP p).toList.isEmpty with
    | true => rfl
    | false => have := (b2 he).2.1; omega
theorem LkSt.done {ps : List (Option PageD)} {low : ByteArray} {c : Nat} (h : LkSt ps low (-1) c) : goT ps (manyT ps) 0 ⟨#[]⟩ = decide (c = manyT ps) := by
  rw [h.go]
  have hl := h.last rfl
  have hle := h.le
  by_cases e : c = manyT ps
  · rw [decide_eq_true e, e, Nat.sub_self]
    unfold goT
    rw [hl]
    rfl
  · rw [decide_eq_false e]
    obtain ⟨m, hm⟩ : ∃ m, manyT ps - c = m + 1 := ⟨manyT ps - c - 1, by omega⟩
    rw [hm]
    unfold goT
    rw [getP_neg (by omega)]
set_option maxHeartbeats 2000000 in
theorem linked_any (mb : Nat) (qs : List (Option (Nat × PpH))) (idx : List RefD) (ap : Option Addr) (cp : Nat) (ai : Option Addr) (ci : Nat) (w : World) (h : MtAt w mb qs idx ap cp ai ci) (hn : qs.length ≤ 1000) (hok : ∀ b x, some (b, x) ∈ qs → okP x.X = true) :
    Calls Try.prog 32 #[.pointer (some ⟨mb, 0, none⟩)] w fun e w' => e = .returned (.bool (goT (qsP qs) (manyT (qsP qs)) 0 ⟨#[]⟩)) ∧ Below w.heap.size w w' := by
  have M := hide h
  have OK := hide hok
  have hml : manyT (qsP qs) ≤ 1000 := by have h1 := manyT_le (qsP qs); rw [qsP, List.length_map] at h1; exact Nat.le_trans h1 hn
  clear h hok
  obtain ⟨G, hG⟩ : ∃ G, G = goT (qsP qs) (manyT (qsP qs)) 0 ⟨#[]⟩ := ⟨_, rfl⟩
  rw [← hG]
  have HG := hide hG
  clear hG
  go_enter Try.func32, Try.ntmps32
  go_wp2_with fail
  go_loopw [3, 4, 5] (fun lv iv cv wr => ∃ (low : ByteArray) (id : Int) (c : Nat), lv = .string low ∧ iv = .int .i64 id ∧ cv = .int .i64 (c : Int) ∧ Hid (LkSt (qsP qs) low id c) ∧ Below w.heap.size w wr) (fun _ _ cv _ => 2000 - (intOf cv).toNat)
  case atStart => exact ⟨⟨#[]⟩, 0, 0, rfl, rfl, rfl, LkSt.start _, Below.refl _ _⟩
  case round =>
    obtain ⟨low, id, c, rfl, rfl, rfl, hS, hb⟩ := hrel
    have hcl := (unhide hS).le
    by_cases hi : id = -1
    · have HC := hide (countHere_any mb qs idx ap cp ai ci wr ((unhide M).below hb) hn)
      have E := hide (show ((c : Int) == ((manyT (qsP qs) : Nat) : Int)) = G by
        rw [unhide HG, (by have := unhide hS; rw [hi] at this; exact this : LkSt (qsP qs) low (-1) c).done, Bool.eq_iff_iff]
        simp
        omega)
      subst hi
      clear hS
      generalize manyT (qsP qs) = MM at *
      go_wp2_with fail
      refine (unhide HC).mono ?_
      rintro e w2 ⟨rfl, hw2⟩
      subst w2
      clear HC
      go_wp2_with fail
      go_ret
      exact ⟨ret_bool (unhide E), hb⟩
    · have hib : (id != -1) = true := by simpa using hi
      have HH := hide (has_any mb qs idx ap cp ai ci id wr ((unhide M).below hb))
      obtain ⟨h0, h1, _⟩ := (unhide hS).here hi
      obtain ⟨k, rfl⟩ : ∃ k : Nat, id = (k : Int) := ⟨id.toNat, by omega⟩
      cases hg : getP (qsP qs) (k : Int) with
      | none =>
        have E := hide (show false = G by rw [unhide HG]; exact ((unhide hS).none hi hg).symm)
        rw [hg] at HH
        simp only [Option.isSome_none] at HH
        clear hS hg
        go_wp2_with fail
        refine (unhide HH).mono ?_
        rintro e w2 ⟨rfl, hw2⟩
        subst w2
        clear HH
        go_wp2_with fail
        go_ret
        exact ⟨ret_bool (unhide E), hb⟩
      | some p =>
        rw [hg] at HH
        simp only [Option.isSome_some] at HH
        obtain ⟨pb, x, hq, hX⟩ : ∃ pb x, qs[k]? = some (some (pb, x)) ∧ x.X = p := by
          rw [getP_nat, qsP, List.getElem?_map] at hg
          cases hk : qs[k]? with
          | none => rw [hk] at hg; cases hg
          | some q =>
            rw [hk] at hg
            cases q with
            | none => cases hg
            | some y => exact ⟨y.1, y.2, rfl, by injection hg⟩
        have hmem : some (pb, x) ∈ qs := List.mem_of_getElem? hq
        obtain ⟨PB, hE, hD⟩ := ((unhide M).below hb).pgs pb x hmem
        have hokp := unhide OK pb x hmem
        have c0 := (heap_at ((unhide M).below hb).box 0).1
        obtain ⟨b, off, hap, hc⟩ := ((unhide M).below hb).row.at (j := k) (u := .pointer (some ⟨pb, 0, none⟩)) (by rw [List.getElem?_map, hq]; rfl)
        subst hap
        have hkl : k < qs.length := (List.getElem?_eq_some_iff.1 hq).1
        have q0 := (heap_at PB 0).1
        have q1 := (heap_at PB 1).1
        have q2 := (heap_at PB 2).1
        have q3 := (heap_at PB 3).1
        have q4 := (heap_at PB 4).1
        have HB := hide (implBounds_any x.X.lo x.X.hi x.X.r x.s0.a x.s0.n x.s0.c x.X.es x.s1.a x.s1.n x.s1.c x.X.ds wr hE hD)
        rw [if_pos hokp] at HB
        subst hX
        by_cases hlo : x.X.lo = low
        · have NX := hide ((unhide hS).next hi hg hlo hokp)
          have hle2 := (unhide NX).2
          subst hlo
          clear hS hg hokp hE hD PB hq hmem
          obtain ⟨X, s0, s1⟩ := x
          simp only at q0 q1 q2 q3 q4 HB NX
          go_wp2_with fail
          refine (unhide HH).mono ?_
          rintro e w2 ⟨rfl, hw2⟩
          subst w2
          clear HH
          go_wp2_with fail
          refine (unhide HB).mono ?_
          rintro e w2 ⟨rfl, hb2⟩
          have bA : Below w.heap.size w w2 := hb.trans (hb2.mono hb.size)
          clear HB q0 q1 q2 q3 q4 c0 hc hb hb2
          go_wp2_with fail
          go_roundw
          case rel => exact ⟨_, _, c + 1, rfl, rfl, by go_num, (unhide NX).1, bA⟩
          case measure => simp [intOf]; omega
        · have E := hide (show false = G by rw [unhide HG]; exact ((unhide hS).parts hi hg hlo).symm)
          have hne : (x.X.lo.toList == low.toList) = false := by
            cases hq2 : (x.X.lo.toList == low.toList) with
            | false => rfl
            | true => exact absurd (toList_inj (by simpa using hq2)) hlo
          clear hS hg hokp hE hD PB hq hmem HB
          obtain ⟨X, s0, s1⟩ := x
          simp only at q0 q1 q2 q3 q4 hne hlo
          go_wp2_with fail
          refine (unhide HH).mono ?_
          rintro e w2 ⟨rfl, hw2⟩
          subst w2
          clear HH
          go_wp2_with fail
          go_ret
          exact ⟨ret_bool (unhide E), hb⟩
end Go.Proofs.Ytbhkmmdcdfjbkaa
