/-
  TrN, PageP, PageQ, TrT, MtG, TgL, PageR, PageS, FdL, PgB, TsL, MkT, PgM, PgH, PgK, PageT, PageU, PgCc, PageV, PageW, FdM, YtC, TpA in one.
-/
import Derived.Test.YtbhkmmdcdfjbkaaTrS
import Derived.Test.YtbhkmmdcdfjbkaaPageO
import Derived.Deep.DeepCutAuto
import Derived.Deep.RegionWith
import Derived.Test.YtbhkmmdcdfjbkaaMtE
import Derived.Test.YtbhkmmdcdfjbkaaOwn
import Derived.Laws.BytesArg
import Derived.Test.YtbhkmmdcdfjbkaaPgP
import Derived.Test.YtbhkmmdcdfjbkaaWrT
import Derived.Test.YtbhkmmdcdfjbkaaPgG
import Derived.Test.YtbhkmmdcdfjbkaaRowB
namespace Go.Proofs.Ytbhkmmdcdfjbkaa
open Go.RowKit

theorem count2 {α : Type} {P : α → Bool} : ∀ {l : List α} {i j : Nat} {x y : α}, l[i]? = some x → l[j]? = some y → i < j → P x = true → P y = true → 2 ≤ l.countP P
  | [], i, _, _, _, h, _, _, _, _ => by simp at h
  | z :: l, 0, j + 1, x, y, hx, hy, _, px, py => by
    simp only [List.getElem?_cons_zero, Option.some.injEq] at hx
    subst hx
    rw [List.countP_cons, if_pos px]
    have : 1 ≤ l.countP P := List.countP_pos_iff.2 ⟨y, List.mem_of_getElem? (by simpa using hy), py⟩
    omega
  | z :: l, i + 1, j + 1, x, y, hx, hy, hij, px, py => by
    have := count2 (P := P) (l := l) (i := i) (j := j) (by simpa using hx) (by simpa using hy) (by omega) px py
    rw [List.countP_cons]
    omega
/-- Pages that begin at a text or behind it, but ahead of another one. -/
def btP (low hi : ByteArray) (q : Option PageD) : Bool := geP low q && !geP hi q
theorem count_bt (low hi : ByteArray) (h : ltK low hi = true) : ∀ ps : List (Option PageD), cntGe ps low = ps.countP (btP low hi) + cntGe ps hi
  | [] => rfl
  | q :: ps => by
    have ih := count_bt low hi h ps
    unfold cntGe at *
    rw [List.countP_cons, List.countP_cons, List.countP_cons, ih]
    have key : (if geP low q = true then 1 else 0) = (if btP low hi q = true then 1 else 0) + (if geP hi q = true then 1 else 0) := by
      unfold btP
      cases h2 : geP hi q with
      | false => cases geP low q <;> rfl
      | true =>
        have : geP low q = true := by
          cases q with
          | none => cases h2
          | some r =>
            rw [geP_some, Bool.not_eq_true'] at h2 ⊢
            cases h3 : ltK r.lo low
            · rfl
            · have := ltK_trans h3 h
              rw [h2] at this
              cases this
        rw [this]
        rfl
    omega
theorem goT_count {ps : List (Option PageD)} (hok : ∀ p, some p ∈ ps → okP p = true) : ∀ (m : Nat) (id : Int) (low : ByteArray), goT ps m id low = true → m ≤ cntGe ps low
  | 0, _, _, _ => Nat.zero_le _
  | m + 1, id, low, h => by
    cases hg : getP ps id with
    | none => rw [goT_none hg] at h; cases h
    | some p =>
      by_cases hl : p.lo = low
      · rw [goT_next hg hl] at h
        have hm := getP_mem hg
        subst hl
        cases m with
        | zero => exact cntGe_here hm
        | succ m =>
          have ih := goT_count hok (m + 1) _ _ h
          cases hn : getP ps (riP p) with
          | none => rw [goT_none hn] at h; cases h
          | some p2 =>
            obtain ⟨b1, b2⟩ := okP_bd (hok p hm)
            cases he : (hiP p).toList.isEmpty with
            | true => rw [b1 he, getP_neg (by omega)] at hn; cases hn
            | false =>
              have := cntGe_next hm (b2 he).1
              omega
      · rw [goT_other hg hl] at h; cases h
/-- What stands to the right of a page. -/
def NextP (ps : List (Option PageD)) (p : PageD) : Prop := (riP p = -1 ∧ (hiP p).toList.isEmpty = true) ∨ (ltK p.lo (hiP p) = true ∧ ∃ p2, getP ps (riP p) = some p2 ∧ p2.lo = hiP p)
theorem getP_at {ps : List (Option PageD)} {x : Int} {p : PageD} (h : getP ps x = some p) : ∃ k : Nat, x = (k : Int) ∧ ps[k]? = some (some p) := by
  by_cases h0 : x < 0
  · rw [getP_neg h0] at h; cases h
  · obtain ⟨k, rfl⟩ : ∃ k : Nat, x = (k : Int) := ⟨x.toNat, by omega⟩
    refine ⟨k, rfl, ?_⟩
    rw [getP_nat] at h
    cases hq : ps[k]? with
    | none => rw [hq] at h; cases h
    | some q => rw [hq] at h; rw [show q = some p from h]
theorem one_at {ps : List (Option PageD)} {P : Option PageD → Bool} {x y : Int} {p q : PageD} (h1 : ps.countP P ≤ 1) (hp : getP ps x = some p) (hq : getP ps y = some q) (pp : P (some p) = true) (pq : P (some q) = true) : q = p := by
  obtain ⟨i, rfl, hi⟩ := getP_at hp
  obtain ⟨j, rfl, hj⟩ := getP_at hq
  rcases Nat.lt_trichotomy i j with h | h | h
  · have := count2 hi hj h pp pq; omega
  · subst h
    rw [hi] at hj
    injection hj with hj
    injection hj with hj
    exact hj.symm
  · have := count2 hj hi h pq pp; omega
theorem goT_cover {ps : List (Option PageD)} (hok : ∀ p, some p ∈ ps → okP p = true) : ∀ (m : Nat) (id : Int) (low : ByteArray), goT ps m id low = true → cntGe ps low ≤ m → ∀ (y : Int) (q : PageD), getP ps y = some q → ltK q.lo low = false → NextP ps q
  | 0, _, low, _, hc, y, q, hq, hl => by
    exfalso
    have : 1 ≤ cntGe ps low := List.countP_pos_iff.2 ⟨_, getP_mem hq, by rw [geP_some, hl]; rfl⟩
    omega
  | m + 1, id, low, h, hc, y, q, hq, hl => by
    cases hg : getP ps id with
    | none => rw [goT_none hg] at h; cases h
    | some p =>
      by_cases hlo : p.lo = low
      · rw [goT_next hg hlo] at h
        have hm := getP_mem hg
        subst hlo
        obtain ⟨b1, b2⟩ := okP_bd (hok p hm)
        cases m with
        | zero =>
          have hone : q = p := one_at (P := geP p.lo) hc hg hq (by rw [geP_some, ltK_irr]; rfl) (by rw [geP_some, hl]; rfl)
          subst hone
          unfold goT at h
          rw [Bool.and_eq_true] at h
          exact .inl ⟨b1 h.2, h.2⟩
        | succ m =>
          cases hn : getP ps (riP p) with
          | none => rw [goT_none hn] at h; cases h
          | some p2 =>
            cases he : (hiP p).toList.isEmpty with
            | true => rw [b1 he, getP_neg (by omega)] at hn; cases hn
            | false =>
              have hlt := (b2 he).1
              have h2 : p2.lo = hiP p := by
                by_cases e : p2.lo = hiP p
                · exact e
                · rw [goT_other hn e] at h; cases h
              have hcb := count_bt p.lo (hiP p) hlt ps
              have hge := goT_count hok _ _ _ h
              have hpos : 1 ≤ ps.countP (btP p.lo (hiP p)) := List.countP_pos_iff.2 ⟨_, hm, by unfold btP; rw [geP_some, geP_some, ltK_irr, hlt]; rfl⟩
              cases hqh : ltK q.lo (hiP p) with
              | false => exact goT_cover hok (m + 1) _ _ h (by omega) y q hq hqh
              | true =>
                have hone : q = p := one_at (P := btP p.lo (hiP p)) (by omega) hg hq (by unfold btP; rw [geP_some, geP_some, ltK_irr, hlt]; rfl) (by unfold btP; rw [geP_some, geP_some, hl, hqh]; rfl)
                subst hone
                exact .inr ⟨hlt, p2, hn, h2⟩
      · rw [goT_other hg hlo] at h; cases h
theorem ltK_none (a : ByteArray) : ltK a ⟨#[]⟩ = false := by
  unfold ltK
  rw [show (⟨#[]⟩ : ByteArray).toList = [] by rw [ByteArray.toList_eq]]
  cases a.toList <;> rfl
theorem next_of {ps : List (Option PageD)} (hok : ∀ p, some p ∈ ps → okP p = true) (hg : goT ps (manyT ps) 0 ⟨#[]⟩ = true) {y : Int} {q : PageD} (h : getP ps y = some q) : NextP ps q :=
  goT_cover hok (manyT ps) 0 ⟨#[]⟩ hg (cntGe_many ps _) y q h (ltK_none _)
end Go.Proofs.Ytbhkmmdcdfjbkaa

namespace Go.Proofs.Ytbhkmmdcdfjbkaa
open Go.RowKit

end Go.Proofs.Ytbhkmmdcdfjbkaa

namespace Go.Proofs.Ytbhkmmdcdfjbkaa
open Go.RowKit

end Go.Proofs.Ytbhkmmdcdfjbkaa

namespace Go.Proofs.Ytbhkmmdcdfjbkaa
open Go.RowKit

theorem manyT_pos {ps : List (Option PageD)} {x : Int} {p : PageD} (h : getP ps x = some p) : 0 < manyT ps := by
  unfold manyT
  exact List.countP_pos_iff.2 ⟨_, getP_mem h, rfl⟩
end Go.Proofs.Ytbhkmmdcdfjbkaa

namespace Go.Proofs.Ytbhkmmdcdfjbkaa
open Go.RowKit

/-- A Ref as an entry. -/
def refE (x : RefD) : EntD := ⟨x.low, ByteArray.empty⟩
def RiseR (ds : List RefD) : Prop := Rise (ds.map refE)
theorem RiseR.le {ds : List RefD} (h : RiseR ds) {k : ByteArray} {i j : Nat} (hj : j < ds.length) (hij : i ≤ j) (hl : ltK ds[j].low k = true) : ltK (ds[i]'(by omega)).low k = true := by
  have := Rise.le (es := ds.map refE) h (k := k) (i := i) (j := j) (by simpa using hj) hij (by simpa [refE] using hl)
  simpa [refE] using this
theorem RiseR.ge {ds : List RefD} (h : RiseR ds) {k : ByteArray} {i j : Nat} (hj : j < ds.length) (hij : i ≤ j) (hi : ltK (ds[i]'(by omega)).low k = false) : ltK ds[j].low k = false := by
  have := Rise.ge (es := ds.map refE) h (k := k) (i := i) (j := j) (by simpa using hj) hij (by simpa [refE] using hi)
  simpa [refE] using this
theorem pos_leR (ds : List RefD) (k : ByteArray) : pos (ds.map refE) k ≤ ds.length := by have := pos_le (ds.map refE) k; simpa using this
theorem pos_uniR (ds : List RefD) (k : ByteArray) (p : Nat) (hp : p ≤ ds.length) (h1 : ∀ i (hi : i < ds.length), i < p → ltK ds[i].low k = true) (h2 : ∀ hi : p < ds.length, ltK (ds[p]'hi).low k = false) : p = pos (ds.map refE) k :=
  pos_uni (ds.map refE) k p (by simpa using hp) (fun i hi hlt => by have := h1 i (by simpa using hi) hlt; simpa [refE] using this) (fun hi => by have := h2 (by simpa using hi); simpa [refE] using this)
theorem lowOf_any (k : ByteArray) (v : Int) (w : World) : Calls Try.prog 77 #[.agg #[.string k, .int .i64 v]] w fun e w' => e = .returned (.string k) ∧ Below w.heap.size w w' := by
  go_enter Try.func77, Try.ntmps77
  go_wp2_with fail
  go_ret
  exact ⟨rfl, (Below.refl _ _).alloc (Nat.le_refl _) _⟩
set_option maxRecDepth 100000 in
set_option maxHeartbeats 4000000 in
theorem searchR_any (a : Option Addr) (n c : Nat) (es : List RefD) (k : ByteArray) (w : World) (hR : JRow w a n es) (hS : RiseR es) (hn : n ≤ 100000) :
    Calls Try.prog 76 #[.slice a n c, .string k, .func (.func 77) #[] #[]] w fun e w' => e = .returned (.tuple #[.int .i64 (pos (es.map refE) k : Nat), .bool (found (es.map refE) k)]) ∧ Below w.heap.size w w' := by
  have R := hide hR
  have S := hide hS
  have L := hR.1
  clear hR hS
  have PL := hide (pos_leR es k)
  go_enter Try.func76, Try.ntmps76
  go_wp2_with fail
  go_loopw [8, 9] (fun x y wr => ∃ (f t : Nat), x = .int .i64 (f : Int) ∧ y = .int .i64 (t : Int) ∧ f ≤ t ∧ t ≤ n ∧ Hid (∀ i (hi : i < es.length), i < f → ltK es[i].low k = true) ∧ Hid (∀ i (hi : i < es.length), t ≤ i → ltK es[i].low k = false) ∧ Below w.heap.size w wr) (fun x y _ => (intOf y).toNat - (intOf x).toNat)
  case atStart => exact ⟨0, n, rfl, rfl, Nat.zero_le _, Nat.le_refl _, fun i _ h => absurd h (Nat.not_lt_zero _), fun i hi h => absurd hi (by omega), Below.refl _ _⟩
  case round =>
    obtain ⟨f, t, rfl, rfl, hft, htn, hlo, hup, hb⟩ := hrel
    by_cases hlt : f < t
    · have R1 := hide ((unhide R).below hb)
      have hdiv : ((t : Int) - (f : Int)) / 2 = (((t - f) / 2 : Nat) : Int) := by omega
      obtain ⟨m, hmm⟩ : ∃ m, m = f + (t - f) / 2 := ⟨_, rfl⟩
      have hmi : (f : Int) + (((t - f) / 2 : Nat) : Int) = (m : Int) := by omega
      have hm' : m < es.length := by omega
      obtain ⟨b, off, rfl, c0, c1⟩ := (unhide R1).2 m hm'
      have hm1 : f ≤ m := by omega
      have hm2 : m < t := by omega
      have hmw : IntKind.i64.wrap (m : Int) = (m : Int) := by rw [IntKind.wrap_i64]; omega
      have HM := hide hmm
      clear hmm hmi hmw
      by_cases hl : Op.bytesLess es[m].low.toList k.toList = true
      · have LO := hide (show ∀ i (hi : i < es.length), i < m + 1 → ltK es[i].low k = true from fun i hi hlt => (unhide S).le hm' (by omega) hl)
        generalize es[m] = em at *
        rw [unhide HM] at c0 c1
        go_wp2_with fail
        refine (lowOf_any em.low em.id _).mono ?_
        rintro e w1 ⟨rfl, hb1⟩
        have B1 := hb.trans (hb1.mono hb.size)
        clear hb hb1
        go_wp2_with fail
        go_roundw
        case rel => exact ⟨m + 1, t, by rw [unhide HM]; go_num, rfl, by omega, htn, unhide LO, unhide hup, B1⟩
        case measure => have := unhide HM; simp [intOf]; omega
      · have hl' : Op.bytesLess es[m].low.toList k.toList = false := by simpa using hl
        have UP := hide (show ∀ i (hi : i < es.length), m ≤ i → ltK es[i].low k = false from fun i hi hle => (unhide S).ge hi hle hl')
        generalize es[m] = em at *
        rw [unhide HM] at c0 c1
        go_wp2_with fail
        refine (lowOf_any em.low em.id _).mono ?_
        rintro e w1 ⟨rfl, hb1⟩
        have B1 := hb.trans (hb1.mono hb.size)
        clear hb hb1
        go_wp2_with fail
        go_roundw
        case rel => exact ⟨f, m, rfl, by rw [unhide HM]; go_num, by omega, by omega, unhide hlo, unhide UP, B1⟩
        case measure => have := unhide HM; simp [intOf]; omega
    · obtain rfl : f = t := by omega
      have HP := hide (pos_uniR es k f (by omega) (unhide hlo) (fun hi => unhide hup f hi (Nat.le_refl _)))
      have FD := hide (show found (es.map refE) k = match (es.map refE)[f]? with
        | some e => e.k.toList == k.toList
        | none => false by rw [unhide HP]; rfl)
      by_cases hi : f < es.length
      · have R1 := hide ((unhide R).below hb)
        obtain ⟨b, off, rfl, c0, c1⟩ := (unhide R1).2 f hi
        have FD2 := hide (show (es[f].low.toList == k.toList) = found (es.map refE) k by rw [unhide FD, List.getElem?_map, List.getElem?_eq_getElem hi]; rfl)
        clear FD
        generalize es[f] = em at *
        have hfn : f < n := by omega
        go_wp2_with fail
        refine (lowOf_any em.low em.id _).mono ?_
        rintro e w1 ⟨rfl, hb1⟩
        have B1 := hb.trans (hb1.mono hb.size)
        clear hb hb1
        go_wp2_with fail
        go_ret2
        exact ⟨tup_ib (by rw [← unhide HP]) (unhide FD2), B1⟩
      · have FD2 := hide (show false = found (es.map refE) k by rw [unhide FD, List.getElem?_map, List.getElem?_eq_none (by omega)]; rfl)
        clear FD
        have hfn : ¬ f < n := by omega
        go_wp2_with fail
        go_ret2
        exact ⟨tup_ib (by rw [← unhide HP]) (unhide FD2), hb⟩
set_option maxHeartbeats 1000000 in
theorem searchRef_any (a : Option Addr) (n c : Nat) (es : List RefD) (k : ByteArray) (w : World) (hR : JRow w a n es) (hS : RiseR es) (hn : n ≤ 100000) :
    Calls Try.prog 56 #[.slice a n c, .string k] w fun e w' => e = .returned (.tuple #[.int .i64 (pos (es.map refE) k : Nat), .bool (found (es.map refE) k)]) ∧ Below w.heap.size w w' := by
  have R := hide hR
  have S := hide hS
  clear hR hS
  go_enter Try.func56, Try.ntmps56
  go_wp2_with fail
  refine (searchR_any a n c es k w (unhide R) (unhide S) hn).mono ?_
  rintro e w1 ⟨rfl, hb1⟩
  go_wp2_with fail
  go_ret2
  exact ⟨rfl, hb1⟩
end Go.Proofs.Ytbhkmmdcdfjbkaa

namespace Go.Proofs.Ytbhkmmdcdfjbkaa
open Go.RowKit

/-- What a right tree is. -/
structure GoodT (ps : List (Option PageD)) (idx : List RefD) : Prop where
  len : 1 ≤ ps.length ∧ ps.length ≤ 30
  ok : ∀ p, some p ∈ ps → okP p = true
  go : goT ps (manyT ps) 0 ⟨#[]⟩ = true
  ix : okIdx ps idx = true
  zero : ∃ h : 0 < idx.length, idx[0].low = ⟨#[]⟩ ∧ idx[0].id = 0
  il : idx.length ≤ ps.length
theorem GoodT.ref {ps : List (Option PageD)} {idx : List RefD} (h : okIdx ps idx = true) {i : Nat} (hi : i < idx.length) : ∃ p, getP ps idx[i].id = some p ∧ p.lo = idx[i].low := by
  have h1 : okRef ps idx i = true := (List.all_eq_true.1 h) i (List.mem_range.2 hi)
  cases hg : getP ps idx[i].id with
  | none => rw [okRef_none hi hg] at h1; cases h1
  | some p =>
    by_cases e : p.lo = idx[i].low
    · exact ⟨p, rfl, e⟩
    · rw [okRef_other hi hg e] at h1; cases h1
theorem good_of {t : TreD} (h : okT t = true) : GoodT t.here t.idx := by
  unfold okT at h
  simp only [Bool.and_eq_true] at h
  obtain ⟨⟨⟨⟨hs, hp⟩, hi⟩, hz⟩, hg⟩ := h
  obtain ⟨h1, h2, h3, h4, h5⟩ := of_decide_eq_true hs
  have hl : t.here.length = t.ps.length := by unfold TreD.here; rw [List.length_zipWith]; omega
  have h0 : 0 < t.idx.length := by omega
  have hok : ∀ p, some p ∈ t.here → okP p = true := fun p hm => by
    obtain ⟨i, hi, e⟩ := List.mem_iff_getElem.1 hm
    unfold TreD.here at e hi
    rw [List.getElem_zipWith] at e
    unfold okPg at hp
    rw [List.all_eq_true] at hp
    have hw : i < (List.zipWith (fun p g => if g then noP p else okP p) t.ps t.gone).length := by rw [List.length_zipWith] at hi ⊢; exact hi
    have := hp _ (List.getElem_mem hw)
    rw [List.getElem_zipWith] at this
    split at e
    · cases e
    · rename_i hgn
      rw [if_neg hgn] at this
      injection e with e
      rw [← e]
      exact this
  have hgo : goT t.here (manyT t.here) 0 ⟨#[]⟩ = true := hg
  refine ⟨⟨by omega, by omega⟩, hok, hgo, hi, ⟨h0, ?_⟩, by omega⟩
  have hid : t.idx[0].id = 0 := by
    rw [List.getElem?_eq_getElem h0] at hz
    exact of_decide_eq_true hz
  refine ⟨?_, hid⟩
  obtain ⟨p, hgp, hlo⟩ := GoodT.ref hi h0
  rw [hid] at hgp
  have hm := manyT_pos hgp
  obtain ⟨m, hm2⟩ : ∃ m, manyT t.here = m + 1 := ⟨manyT t.here - 1, by omega⟩
  rw [hm2] at hgo
  rw [← hlo]
  by_cases e : p.lo = ⟨#[]⟩
  · exact e
  · rw [goT_other hgp e] at hgo; cases hgo
theorem GoodT.rise {ps : List (Option PageD)} {idx : List RefD} (h : okIdx ps idx = true) : RiseR idx := by
  unfold RiseR Rise
  rw [List.pairwise_iff_getElem]
  have key : ∀ (j : Nat) (hj : j < idx.length) (i : Nat) (hij : i < j), ltK (idx[i]'(by omega)).low idx[j].low = true := fun j => by
    induction j with
    | zero => intro _ i hij; omega
    | succ j ih =>
      intro hj i hij
      have h1 : okRef ps idx (j + 1) = true := (List.all_eq_true.1 h) (j + 1) (List.mem_range.2 hj)
      have h2 : ltK (idx[j]'(by omega)).low idx[j + 1].low = true := by
        cases e : ltK (idx[j]'(by omega)).low idx[j + 1].low with
        | true => rfl
        | false => rw [okRef_turn hj (by omega) (by simpa using e)] at h1; cases h1
      by_cases e : i = j
      · subst e; exact h2
      · exact ltK_trans (ih (by omega) i (by omega)) h2
  intro i j hi hj hij
  simp only [List.getElem_map, refE]
  exact key j (by simpa using hj) i hij
/-- The place of the last Ref that is not above a text. -/
def plR (idx : List RefD) (k : ByteArray) : Nat := if found (idx.map refE) k then pos (idx.map refE) k else pos (idx.map refE) k - 1
theorem pl_facts {idx : List RefD} {k : ByteArray} (hr : RiseR idx) (hz : ∃ h : 0 < idx.length, idx[0].low = ⟨#[]⟩ ∧ idx[0].id = 0) : ∃ h : plR idx k < idx.length, ltK k (idx[plR idx k]).low = false ∧ (∀ i (hi : i < idx.length), plR idx k < i → ltK k idx[i].low = true) ∧ (found (idx.map refE) k = false → 0 < pos (idx.map refE) k) := by
  obtain ⟨h0, hl0, _⟩ := hz
  have hpl := pos_leR idx k
  cases hf : found (idx.map refE) k with
  | true =>
    obtain ⟨hi, he⟩ := found_in hf
    have hi' : pos (idx.map refE) k < idx.length := by simpa using hi
    have he' : idx[pos (idx.map refE) k].low = k := by simpa [refE] using he
    have e : plR idx k = pos (idx.map refE) k := by unfold plR; rw [hf]; rfl
    have key : ∀ (P : Nat) (hP : P < idx.length), idx[P].low = k → ltK k idx[P].low = false ∧ ∀ i (hi : i < idx.length), P < i → ltK k idx[i].low = true := fun P hP e2 => by
      refine ⟨by rw [e2]; exact ltK_irr k, fun i hi hlt => ?_⟩
      have := Rise.lt (es := idx.map refE) hr (i := P) (j := i) (by simpa using hi) hlt
      simp only [List.getElem_map, refE] at this
      rw [e2] at this
      exact this
    rw [e]
    exact ⟨hi', (key _ hi' he').1, (key _ hi' he').2, fun h => by cases h⟩
  | false =>
    have hpos : 0 < pos (idx.map refE) k := by
      rcases Nat.eq_zero_or_pos (pos (idx.map refE) k) with hz | hz
      · have hi : pos (idx.map refE) k < (idx.map refE).length := by rw [hz]; simpa using h0
        have := found_not hf hi
        simp only [hz, List.getElem_map, refE] at this
        rw [hl0, ltK_none] at this
        cases this
      · exact hz
    have e : plR idx k = pos (idx.map refE) k - 1 := by unfold plR; rw [hf]; rfl
    rw [e]
    have hlt := pos_lt (idx.map refE) k (pos (idx.map refE) k - 1) (by simp; omega) (by omega)
    simp only [List.getElem_map, refE] at hlt
    refine ⟨by omega, ltK_asymm hlt, fun i hi hgt => ?_, fun _ => hpos⟩
    have hp : pos (idx.map refE) k < (idx.map refE).length := by simp; omega
    have h1 := found_not hf hp
    simp only [List.getElem_map, refE] at h1
    by_cases e2 : i = pos (idx.map refE) k
    · subst e2; exact h1
    · have := Rise.lt (es := idx.map refE) hr (i := pos (idx.map refE) k) (j := i) (by simpa using hi) (by omega)
      simp only [List.getElem_map, refE] at this
      exact ltK_trans h1 this
theorem pl_uni {idx : List RefD} {k : ByteArray} (hr : RiseR idx) (hz : ∃ h : 0 < idx.length, idx[0].low = ⟨#[]⟩ ∧ idx[0].id = 0) {p : Nat} (hp : p < idx.length) (h1 : ltK k idx[p].low = false) (h2 : ∀ i (hi : i < idx.length), p < i → ltK k idx[i].low = true) : p = plR idx k := by
  obtain ⟨hq, g1, g2, _⟩ := pl_facts (k := k) hr hz
  rcases Nat.lt_trichotomy p (plR idx k) with h | h | h
  · rw [h2 _ hq h] at g1; cases g1
  · exact h
  · rw [g2 _ hp h] at h1; cases h1
/-- From a page on to the right, up to the page that a text stands in. -/
def downF (ps : List (Option PageD)) (key : ByteArray) : Nat → Int → Nat → Int × Nat
  | 0, id, h => (id, h)
  | m + 1, id, h => match getP ps id with
    | none => (id, h)
    | some p => if underK key (hiP p) then (id, h) else downF ps key m (riP p) (h + 1)
/-- The page of a text, and how often one goes to the right. -/
def downT (ps : List (Option PageD)) (idx : List RefD) (key : ByteArray) : Int × Nat := match idx[plR idx key]? with
  | some x => downF ps key 40 x.id 0
  | none => (0, 0)
/-- Where a walk to the right stands. -/
structure DnSt (ps : List (Option PageD)) (key : ByteArray) (D : Int × Nat) (id : Int) (h : Nat) : Prop where
  here : ∃ p, getP ps id = some p ∧ ltK key p.lo = false ∧ h + cntGe ps p.lo ≤ manyT ps
  eq : D = downF ps key (40 - h) id h
theorem DnSt.few {ps : List (Option PageD)} {key : ByteArray} {D : Int × Nat} {id : Int} {h : Nat} (s : DnSt ps key D id h) (hl : ps.length ≤ 30) : h < 30 := by
  obtain ⟨p, hg, _, hc⟩ := s.here
  have := cntGe_here (getP_mem hg)
  have := manyT_le ps
  omega
theorem DnSt.start {ps : List (Option PageD)} {idx : List RefD} {key : ByteArray} (g : GoodT ps idx) (hp : plR idx key < idx.length) : DnSt ps key (downT ps idx key) idx[plR idx key].id 0 := by
  obtain ⟨p, hg, hl⟩ := GoodT.ref g.ix hp
  obtain ⟨_, h1, _⟩ := pl_facts (k := key) (GoodT.rise g.ix) g.zero
  refine ⟨⟨p, hg, by rw [hl]; exact h1, by have := cntGe_many ps p.lo; omega⟩, ?_⟩
  unfold downT
  rw [List.getElem?_eq_getElem hp]
theorem DnSt.stop {ps : List (Option PageD)} {key : ByteArray} {D : Int × Nat} {id : Int} {h : Nat} (s : DnSt ps key D id h) (hl : ps.length ≤ 30) {p : PageD} (hg : getP ps id = some p) (hu : underK key (hiP p) = true) : D = (id, h) := by
  have := s.few hl
  rw [s.eq]
  obtain ⟨m, hm⟩ : ∃ m, 40 - h = m + 1 := ⟨40 - h - 1, by omega⟩
  rw [hm, downF, hg]
  simp only
  rw [if_pos hu]
theorem under_no {key hi : ByteArray} (h : underK key hi = false) : hi.toList.isEmpty = false ∧ ltK key hi = false := by
  unfold underK at h
  rwa [Bool.or_eq_false_iff] at h
theorem DnSt.next {ps : List (Option PageD)} {idx : List RefD} {key : ByteArray} {D : Int × Nat} {id : Int} {h : Nat} (s : DnSt ps key D id h) (g : GoodT ps idx) {p : PageD} (hg : getP ps id = some p) (hu : underK key (hiP p) = false) : DnSt ps key D (riP p) (h + 1) := by
  have hf := s.few g.len.2
  obtain ⟨h1, h2⟩ := under_no hu
  obtain ⟨p', hg', hl, hc⟩ := s.here
  rw [hg] at hg'
  injection hg' with hg'
  subst hg'
  rcases next_of g.ok g.go hg with ⟨_, he⟩ | ⟨hlt, p2, hg2, e2⟩
  · rw [h1] at he; cases he
  · refine ⟨⟨p2, hg2, by rw [e2]; exact h2, ?_⟩, ?_⟩
    · have := cntGe_next (getP_mem hg) hlt
      rw [e2]
      omega
    · rw [s.eq]
      obtain ⟨m, hm⟩ : ∃ m, 40 - h = m + 1 := ⟨40 - h - 1, by omega⟩
      rw [hm, show 40 - (h + 1) = m by omega, downF, hg]
      simp only
      rw [if_neg (by rw [hu]; decide)]
/-- Of a right tree the way down ends in a page that holds the text. -/
def DownTo (ps : List (Option PageD)) (idx : List RefD) (key : ByteArray) (p : PageD) : Prop := getP ps (downT ps idx key).1 = some p ∧ ltK key p.lo = false ∧ underK key (hiP p) = true ∧ (downT ps idx key).2 < 30
theorem DnSt.goal {ps : List (Option PageD)} {idx : List RefD} {key : ByteArray} {id : Int} {h : Nat} (s : DnSt ps key (downT ps idx key) id h) (hl : ps.length ≤ 30) {p : PageD} (hg : getP ps id = some p) (hu : underK key (hiP p) = true) : DownTo ps idx key p := by
  have e := s.stop hl hg hu
  have hf := s.few hl
  obtain ⟨p', hg', hlo, _⟩ := s.here
  rw [hg] at hg'
  injection hg' with hg'
  subst hg'
  unfold DownTo
  rw [e]
  exact ⟨hg, hlo, hu, hf⟩
theorem DnSt.reach {ps : List (Option PageD)} {idx : List RefD} {key : ByteArray} (g : GoodT ps idx) : ∀ (n : Nat) (id : Int) (h : Nat), n + h = 40 → DnSt ps key (downT ps idx key) id h → ∃ p, DownTo ps idx key p
  | 0, _, h, e, s => by have := s.few g.len.2; omega
  | n + 1, id, h, e, s => by
    obtain ⟨p, hg, _, _⟩ := s.here
    cases hu : underK key (hiP p) with
    | true => exact ⟨p, s.goal g.len.2 hg hu⟩
    | false => exact DnSt.reach g n _ (h + 1) (by omega) (s.next g hg hu)
theorem GoodT.down {ps : List (Option PageD)} {idx : List RefD} (g : GoodT ps idx) (key : ByteArray) : ∃ p, DownTo ps idx key p := by
  obtain ⟨hp, _⟩ := pl_facts (k := key) (GoodT.rise g.ix) g.zero
  exact DnSt.reach g 40 _ 0 rfl (DnSt.start g hp)
/-- In the way of the program: it goes on where there is a page to the right and the text is not below its bound. -/
theorem under_way {p : PageD} {key : ByteArray} (h : okP p = true) : (!decide (riP p = -1) && !ltK key (hiP p)) = !underK key (hiP p) := by
  obtain ⟨b1, b2⟩ := okP_bd h
  unfold underK
  cases he : (hiP p).toList.isEmpty with
  | true => rw [b1 he]; rfl
  | false => have := (b2 he).2.1; rw [decide_eq_false (by omega)]; simp
end Go.Proofs.Ytbhkmmdcdfjbkaa

namespace Go.Proofs.Ytbhkmmdcdfjbkaa
open Go.RowKit

/-- The value of a key. -/
def lookE (es : List EntD) (k : ByteArray) : Option ByteArray := (es.find? (fun e => e.k.toList == k.toList)).map (·.v)
theorem look_none {es : List EntD} {k : ByteArray} (h : ∀ i (hi : i < es.length), (es[i].k.toList == k.toList) = false) : lookE es k = none := by
  unfold lookE
  rw [List.find?_eq_none.2]
  · rfl
  · intro e he
    obtain ⟨i, hi, rfl⟩ := List.mem_iff_getElem.1 he
    rw [h i hi]; decide
theorem look_some {es : List EntD} {k : ByteArray} {i : Nat} (hi : i < es.length) (h0 : ∀ j (hj : j < es.length), j < i → (es[j].k.toList == k.toList) = false) (h : (es[i].k.toList == k.toList) = true) : lookE es k = some es[i].v := by
  unfold lookE
  have : es.find? (fun e => e.k.toList == k.toList) = some es[i] := by
    rw [List.find?_eq_some_iff_getElem]
    exact ⟨h, i, hi, rfl, fun j hj => by rw [h0 j (by omega) hj]; rfl⟩
  rw [this]
  rfl
theorem ok_len {lo hi : ByteArray} {r : Int} {es : List EntD} {ds : List DelD} (h : okPage lo hi r es ds = true) : es.length ≤ 32 ∧ ds.length ≤ 12 ∧ (entsE es ds).length ≤ 32 := by
  unfold okPage at h
  simp at h
  omega
end Go.Proofs.Ytbhkmmdcdfjbkaa

namespace Go.Proofs.Ytbhkmmdcdfjbkaa
open Go.RowKit

theorem look_rise {es : List EntD} {k : ByteArray} (h : Rise es) : (found es k = true → ∀ hp : pos es k < es.length, lookE es k = some (es[pos es k]'hp).v) ∧ (found es k = false → lookE es k = none) := by
  have below : ∀ j (hj : j < es.length), j < pos es k → (es[j].k.toList == k.toList) = false := fun j hj hjp => by
    have hlt := pos_lt es k j hj hjp
    cases hq : (es[j].k.toList == k.toList)
    · rfl
    · have e : es[j].k = k := toList_inj (by simpa using hq)
      rw [e, ltK_irr] at hlt
      cases hlt
  refine ⟨fun hf hp => ?_, fun hf => ?_⟩
  · obtain ⟨hp', hk⟩ := found_in hf
    exact look_some hp below (by rw [hk]; simp)
  · refine look_none fun i hi => ?_
    rcases Nat.lt_or_ge i (pos es k) with h' | h'
    · exact below i hi h'
    · have hp : pos es k < es.length := by omega
      have h0 := found_not hf hp
      have : ltK k es[i].k = true := by
        rcases Nat.eq_or_lt_of_le h' with e | e
        · subst e; exact h0
        · exact ltK_trans h0 (h.lt hi e)
      cases hq : (es[i].k.toList == k.toList)
      · rfl
      · have e : es[i].k = k := toList_inj (by simpa using hq)
        rw [e, ltK_irr] at this
        cases this
end Go.Proofs.Ytbhkmmdcdfjbkaa

namespace Go.Proofs.Ytbhkmmdcdfjbkaa
open Go.RowKit

theorem nek {k : ByteArray} {e : EntD} (h : e.k ≠ k) : (e.k.toList == k.toList) = false := by
  cases hq : (e.k.toList == k.toList) with
  | false => rfl
  | true => exact absurd (toList_inj (by simpa using hq)) h
theorem find_no {A : List EntD} {k : ByteArray} (h : ∀ e ∈ A, e.k ≠ k) : A.find? (fun e => e.k.toList == k.toList) = none :=
  List.find?_eq_none.2 (fun e he => by rw [nek (h e he)]; decide)
theorem look_app {A B : List EntD} {k : ByteArray} (h : ∀ e ∈ A, e.k ≠ k) : lookE (A ++ B) k = lookE B k := by
  unfold lookE
  rw [List.find?_append, find_no h]
  rfl
theorem look_app_r {A B : List EntD} {k : ByteArray} (h : ∀ e ∈ B, e.k ≠ k) : lookE (A ++ B) k = lookE A k := by
  unfold lookE
  rw [List.find?_append, find_no h]
  simp
theorem look_here {B : List EntD} {k v : ByteArray} : lookE (⟨k, v⟩ :: B) k = some v := by
  unfold lookE
  rw [List.find?_cons_of_pos (by simp)]
  rfl
theorem look_skip {B : List EntD} {e : EntD} {k : ByteArray} (h : e.k ≠ k) : lookE (e :: B) k = lookE B k := by
  unfold lookE
  rw [List.find?_cons_of_neg (by rw [nek h]; decide)]
theorem look_no {A : List EntD} {k : ByteArray} (h : ∀ e ∈ A, e.k ≠ k) : lookE A k = none := by
  have := look_app (B := []) h
  rw [List.append_nil] at this
  exact this
theorem look_mid {A B : List EntD} {e : EntD} {k : ByteArray} (h : e.k ≠ k) : lookE (A ++ e :: B) k = lookE (A ++ B) k := by
  unfold lookE
  rw [List.find?_append, List.find?_append, List.find?_cons_of_neg (by rw [nek h]; decide)]
theorem ltK_ne {a b : ByteArray} (h : ltK a b = true) : a ≠ b := fun e => by rw [e, ltK_irr] at h; cases h
theorem take_lt {es : List EntD} {k : ByteArray} : ∀ e ∈ es.take (pos es k), ltK e.k k = true := by
  intro e he
  obtain ⟨i, hi, rfl⟩ := List.mem_iff_getElem.1 he
  rw [List.getElem_take]
  rw [List.length_take] at hi
  exact pos_lt es k i (by omega) (by omega)
theorem drop_ge {es : List EntD} (h : Rise es) {k : ByteArray} : ∀ e ∈ es.drop (pos es k), ltK e.k k = false := by
  intro e he
  obtain ⟨i, hi, rfl⟩ := List.mem_iff_getElem.1 he
  rw [List.getElem_drop]
  rw [List.length_drop] at hi
  exact h.ge (i := pos es k) (by omega) (by omega) (pos_at es k (by omega))
theorem drop_gt {es : List EntD} (h : Rise es) {k : ByteArray} (hf : found es k = true) : ∀ e ∈ es.drop (pos es k + 1), ltK k e.k = true := by
  intro e he
  obtain ⟨hp, hk⟩ := found_in hf
  obtain ⟨i, hi, rfl⟩ := List.mem_iff_getElem.1 he
  rw [List.getElem_drop]
  rw [List.length_drop] at hi
  have := h.lt (i := pos es k) (j := pos es k + 1 + i) (by omega) (by omega)
  rw [hk] at this
  exact this
/-- The value of the change's own key. -/
theorem look_step {es : List EntD} (h : Rise es) (d : DelD) : (d.kind = 1 → lookE (stepE es d) d.k = some d.v) ∧ (d.kind = 2 → lookE (stepE es d) d.k = none) := by
  have ht : ∀ e ∈ es.take (pos es d.k), e.k ≠ d.k := fun e he => ltK_ne (take_lt e he)
  constructor
  · intro hk
    cases hf : found es d.k with
    | false =>
      rw [stepE_put_new hk hf, look_app ht, look_here]
    | true =>
      obtain ⟨hp, _⟩ := found_in hf
      rw [stepE_put_old hk hf, List.set_eq_take_append_cons_drop, if_pos hp, look_app ht, look_here]
  · intro hk
    cases hf : found es d.k with
    | false => rw [stepE_drop_new hk hf]; exact (look_rise h).2 hf
    | true =>
      rw [stepE_drop_old hk hf, look_app ht]
      exact look_no fun e he => (ltK_ne (drop_gt h hf e he)).symm
/-- The value of another key. -/
theorem look_other {es : List EntD} (hR : Rise es) (d : DelD) (hk : d.kind = 1 ∨ d.kind = 2 ∨ d.kind = 3) {o : ByteArray} (ho : o ≠ d.k) (h3 : d.kind = 3 → ltK o d.k = true) : lookE (stepE es d) o = lookE es o := by
  have e0 : es = es.take (pos es d.k) ++ es.drop (pos es d.k) := (List.take_append_drop _ _).symm
  rcases hk with hk | hk | hk
  · cases hf : found es d.k with
    | false =>
      rw [stepE_put_new hk hf, look_mid (e := ⟨d.k, d.v⟩) (fun h => ho h.symm), ← e0]
    | true =>
      obtain ⟨hp, hx⟩ := found_in hf
      rw [stepE_put_old hk hf, List.set_eq_take_append_cons_drop, if_pos hp, look_mid (e := ⟨d.k, d.v⟩) (fun h => ho h.symm)]
      have e1 : es = es.take (pos es d.k) ++ es[pos es d.k] :: es.drop (pos es d.k + 1) := by
        rw [← List.drop_eq_getElem_cons hp]; exact e0
      have := look_mid (A := es.take (pos es d.k)) (B := es.drop (pos es d.k + 1)) (e := es[pos es d.k]) (k := o) (by rw [hx]; exact fun h => ho h.symm)
      rw [← e1] at this
      exact this.symm
  · cases hf : found es d.k with
    | false => rw [stepE_drop_new hk hf]
    | true =>
      obtain ⟨hp, hx⟩ := found_in hf
      rw [stepE_drop_old hk hf]
      have e1 : es = es.take (pos es d.k) ++ es[pos es d.k] :: es.drop (pos es d.k + 1) := by
        rw [← List.drop_eq_getElem_cons hp]; exact e0
      have := look_mid (A := es.take (pos es d.k)) (B := es.drop (pos es d.k + 1)) (e := es[pos es d.k]) (k := o) (by rw [hx]; exact fun h => ho h.symm)
      rw [← e1] at this
      exact this.symm
  · rw [stepE_split hk]
    have := look_app_r (A := es.take (pos es d.k)) (B := es.drop (pos es d.k)) (k := o) (fun e he h => by
      have g := drop_ge hR e he
      rw [h, h3 hk] at g
      cases g)
    rw [← e0] at this
    exact this.symm
end Go.Proofs.Ytbhkmmdcdfjbkaa

namespace Go.Proofs.Ytbhkmmdcdfjbkaa
open Go.RowKit

theorem ok_parts {lo hi : ByteArray} {r : Int} {es : List EntD} {ds : List DelD} (h : okPage lo hi r es ds = true) : okBounds lo hi r = true ∧ es.length ≤ 32 ∧ ds.length ≤ 12 ∧ okBase lo hi es = true ∧ okChain lo hi ds = true ∧ (entsE es ds).length ≤ 32 := by
  unfold okPage at h
  simp only [Bool.and_eq_true, decide_eq_true_eq] at h
  exact ⟨h.1.1.1.1.1, h.1.1.1.1.2, h.1.1.1.2, h.1.1.2, h.1.2, h.2⟩
theorem ok_rise {lo hi : ByteArray} {r : Int} {es : List EntD} {ds : List DelD} (h : okPage lo hi r es ds = true) : Rise (entsE es ds) := by
  refine entsE_rise (rise_of_ok (lo := lo) (hi := hi) fun i hi' => ?_) ds
  have := (ok_parts h).2.2.2.1
  unfold okBase at this
  rw [List.all_eq_true] at this
  exact this i (by simpa using hi')
def BaseOK (lo hi : ByteArray) (es : List EntD) : Prop := Rise es ∧ ∀ e ∈ es, okEnt lo hi e = true
theorem okBase_of {lo hi : ByteArray} {es : List EntD} (h : BaseOK lo hi es) : okBase lo hi es = true := by
  refine okBase_true fun i hi' => ?_
  cases i with
  | zero => rw [okAtE_first hi']; exact h.2 _ (List.getElem_mem _)
  | succ i => rw [okAtE_next hi', h.2 _ (List.getElem_mem _), h.1.lt hi' (Nat.lt_succ_self i)]; rfl
theorem isE_key {k : ByteArray} (h : keyK k = true) : k.toList.isEmpty = false := by
  unfold keyK at h
  simp only [decide_eq_true_eq] at h
  cases hl : k.toList with
  | nil =>
    have e0 : k = ByteArray.empty := toList_inj (by rw [hl]; first | (simp; done) | decide +kernel)
    rw [e0] at h
    exact absurd h.1 (by decide)
  | cons x xs => rfl
theorem stepE_mem {es : List EntD} {d : DelD} {x : EntD} (h : x ∈ stepE es d) (h3 : d.kind ≠ 3) : x ∈ es ∨ (d.kind ≠ 2 ∧ x = ⟨d.k, d.v⟩) := by
  unfold stepE at h
  rw [if_neg h3] at h
  rcases List.mem_append.1 h with h | h
  · rcases List.mem_append.1 h with h | h
    · exact .inl (List.mem_of_mem_take h)
    · by_cases h2 : d.kind = 2
      · rw [if_pos h2] at h
        cases h
      · rw [if_neg h2] at h
        exact .inr ⟨h2, by simpa using h⟩
  · exact .inl (List.mem_of_mem_drop h)
theorem con_step {lo H : ByteArray} {R : Int} {es : List EntD} {d : DelD} (h1 : okBounds lo H R = true) (h2 : BaseOK lo H es) (h3 : okDel lo H d = true) :
    okBounds lo (if d.kind = 3 then d.k else H) (if d.kind = 3 then d.to else R) = true ∧ BaseOK lo (if d.kind = 3 then d.k else H) (stepE es d) := by
  unfold okDel at h3
  simp only [Bool.and_eq_true, Bool.or_eq_true, decide_eq_true_eq] at h3
  obtain ⟨⟨k1, k2⟩, k3⟩ := h3
  by_cases hk : d.kind = 3
  · rw [if_pos hk, if_pos hk]
    have k4 : ltK lo d.k = true ∧ idK d.to = true := by
      rcases k3 with (k3 | k3) | k3
      · omega
      · omega
      · exact ⟨k3.1.2, k3.2⟩
    refine ⟨?_, stepE_rise h2.1 d, fun x hx => ?_⟩
    · unfold okBounds at h1 ⊢
      simp only [Bool.and_eq_true, decide_eq_true_eq] at h1 ⊢
      have hs : d.k.size ≤ 40 := by unfold keyK at k1; simp at k1; omega
      refine ⟨⟨h1.1.1, hs⟩, ?_⟩
      rw [if_neg (show ¬ d.k.toList.isEmpty = true by rw [isE_key k1]; decide), k4.1, k4.2]
      rfl
    · unfold stepE at hx
      rw [if_pos hk] at hx
      have a := h2.2 x (List.mem_of_mem_take hx)
      have b := take_lt x hx
      unfold okEnt inK at a ⊢
      simp only [Bool.and_eq_true] at a ⊢
      exact ⟨a.1, a.2.1, by rw [b]; simp⟩
  · rw [if_neg hk, if_neg hk]
    refine ⟨h1, stepE_rise h2.1 d, fun x hx => ?_⟩
    rcases stepE_mem hx hk with hx | ⟨hn2, rfl⟩
    · exact h2.2 x hx
    · have kv : valK d.v = true := by
        rcases k3 with (k3 | k3) | k3
        · exact k3.1.2
        · exact absurd k3.1.1 hn2
        · exact absurd k3.1.1.1 hk
      unfold okEnt
      simp only [Bool.and_eq_true]
      exact ⟨⟨k1, kv⟩, k2⟩
theorem con_inv {lo hi : ByteArray} {r : Int} {es : List EntD} {ds : List DelD} (h1 : okBounds lo hi r = true) (h2 : BaseOK lo hi es) (h3 : okChain lo hi ds = true) : ∀ n, n ≤ ds.length → okBounds lo (highE hi (ds.take n)) (rightE r (ds.take n)) = true ∧ BaseOK lo (highE hi (ds.take n)) (entsE es (ds.take n))
  | 0, _ => by rw [List.take_zero]; exact ⟨h1, h2⟩
  | n + 1, hn => by
    obtain ⟨a, b⟩ := con_inv h1 h2 h3 n (by omega)
    have c : okDel lo (highE hi (ds.take n)) ds[n] = true := by
      unfold okChain at h3
      rw [List.all_eq_true] at h3
      have := h3 n (by simp; omega)
      rw [okAtD_at (by omega)] at this
      exact this
    rw [← List.take_append_getElem (show n < ds.length by omega), highE_snoc, rightE_snoc, entsE_snoc]
    exact con_step a b c
theorem baseOK_of {lo hi : ByteArray} {es : List EntD} (h : okBase lo hi es = true) : BaseOK lo hi es := by
  unfold okBase at h
  rw [List.all_eq_true] at h
  have h' : ∀ i, i < es.length → okAtE lo hi es i = true := fun i hi' => h i (by simpa using hi')
  refine ⟨rise_of_ok h', fun e he => ?_⟩
  obtain ⟨i, hi', rfl⟩ := List.mem_iff_getElem.1 he
  have := h' i hi'
  unfold okAtE at this
  rw [List.getElem?_eq_getElem hi'] at this
  simp only [Bool.and_eq_true] at this
  exact this.1
/-- A page put together is right. -/
theorem conPage_ok {lo hi : ByteArray} {r : Int} {es : List EntD} {ds : List DelD} (h : okPage lo hi r es ds = true) : okPage lo (highE hi ds) (rightE r ds) (entsE es ds) [] = true := by
  obtain ⟨p1, p2, p3, p4, p5, p6⟩ := ok_parts h
  obtain ⟨a, b⟩ := con_inv p1 (baseOK_of p4) p5 ds.length (Nat.le_refl _)
  rw [List.take_length] at a b
  unfold okPage
  simp only [Bool.and_eq_true, decide_eq_true_eq]
  exact ⟨⟨⟨⟨⟨a, p6⟩, by simp⟩, okBase_of b⟩, okChain_true fun i hi' => by simp at hi'⟩, p6⟩
end Go.Proofs.Ytbhkmmdcdfjbkaa

namespace Go.Proofs.Ytbhkmmdcdfjbkaa
open Go.RowKit

/-- No other page begins within a page's bounds. -/
def OneP (ps : List (Option PageD)) (q : PageD) : Prop := ((hiP q).toList.isEmpty = true ∧ cntGe ps q.lo ≤ 1) ∨ (ltK q.lo (hiP q) = true ∧ ps.countP (btP q.lo (hiP q)) ≤ 1)
theorem goT_one {ps : List (Option PageD)} (hok : ∀ p, some p ∈ ps → okP p = true) : ∀ (m : Nat) (id : Int) (low : ByteArray), goT ps m id low = true → cntGe ps low ≤ m → ∀ (y : Int) (q : PageD), getP ps y = some q → ltK q.lo low = false → OneP ps q
  | 0, _, low, _, hc, y, q, hq, hl => by
    exfalso
    have : 1 ≤ cntGe ps low := List.countP_pos_iff.2 ⟨_, getP_mem hq, by rw [geP_some, hl]; rfl⟩
    omega
  | m + 1, id, low, h, hc, y, q, hq, hl => by
    cases hg : getP ps id with
    | none => rw [goT_none hg] at h; cases h
    | some p =>
      by_cases hlo : p.lo = low
      · rw [goT_next hg hlo] at h
        have hm := getP_mem hg
        subst hlo
        obtain ⟨b1, b2⟩ := okP_bd (hok p hm)
        cases m with
        | zero =>
          have hone : q = p := one_at (P := geP p.lo) hc hg hq (by rw [geP_some, ltK_irr]; rfl) (by rw [geP_some, hl]; rfl)
          subst hone
          unfold goT at h
          rw [Bool.and_eq_true] at h
          exact .inl ⟨h.2, hc⟩
        | succ m =>
          cases hn : getP ps (riP p) with
          | none => rw [goT_none hn] at h; cases h
          | some p2 =>
            cases he : (hiP p).toList.isEmpty with
            | true => rw [b1 he, getP_neg (by omega)] at hn; cases hn
            | false =>
              have hlt := (b2 he).1
              have hcb := count_bt p.lo (hiP p) hlt ps
              have hge := goT_count hok _ _ _ h
              have hpos : 1 ≤ ps.countP (btP p.lo (hiP p)) := List.countP_pos_iff.2 ⟨_, hm, by unfold btP; rw [geP_some, geP_some, ltK_irr, hlt]; rfl⟩
              cases hqh : ltK q.lo (hiP p) with
              | false => exact goT_one hok (m + 1) _ _ h (by omega) y q hq hqh
              | true =>
                have hone : q = p := one_at (P := btP p.lo (hiP p)) (by omega) hg hq (by unfold btP; rw [geP_some, geP_some, ltK_irr, hlt]; rfl) (by unfold btP; rw [geP_some, geP_some, hl, hqh]; rfl)
                subst hone
                exact .inr ⟨hlt, by omega⟩
      · rw [goT_other hg hlo] at h; cases h
theorem GoodT.one {ps : List (Option PageD)} {idx : List RefD} (g : GoodT ps idx) {y : Int} {q : PageD} (h : getP ps y = some q) : OneP ps q :=
  goT_one g.ok (manyT ps) 0 ⟨#[]⟩ g.go (cntGe_many ps _) y q h (ltK_none _)
theorem one_id {ps : List (Option PageD)} {P : Option PageD → Bool} {x y : Int} {p q : PageD} (h1 : ps.countP P ≤ 1) (hp : getP ps x = some p) (hq : getP ps y = some q) (pp : P (some p) = true) (pq : P (some q) = true) : x = y := by
  obtain ⟨i, rfl, hi⟩ := getP_at hp
  obtain ⟨j, rfl, hj⟩ := getP_at hq
  rcases Nat.lt_trichotomy i j with h | h | h
  · have := count2 hi hj h pp pq; omega
  · rw [h]
  · have := count2 hj hi h pq pp; omega
/-- A text stands within a page's bounds. -/
def InP (p : PageD) (k : ByteArray) : Prop := ltK k p.lo = false ∧ underK k (hiP p) = true
theorem ltK_le {a b c : ByteArray} (h1 : ltK a b = false) (h2 : ltK b c = false) : ltK a c = false := by
  cases h : ltK a c
  · rfl
  · cases h3 : ltK c b with
    | true => have := ltK_trans h h3; rw [h1] at this; cases this
    | false => have := ltK_eq h2 h3; subst this; rw [h1] at h; cases h
theorem ltK_of_le {a b c : ByteArray} (h1 : ltK b a = false) (h2 : ltK b c = true) : ltK a c = true := by
  cases h3 : ltK a b with
  | true => exact ltK_trans h3 h2
  | false => have := ltK_eq h3 h1; subst this; exact h2
theorem GoodT.uni {ps : List (Option PageD)} {idx : List RefD} (g : GoodT ps idx) {k : ByteArray} {x y : Int} {p q : PageD} (hp : getP ps x = some p) (hq : getP ps y = some q) (ip : InP p k) (iq : InP q k) : x = y := by
  have key : ∀ {x y : Int} {p q : PageD}, getP ps x = some p → getP ps y = some q → InP p k → InP q k → ltK q.lo p.lo = false → x = y := fun {x y p q} hp hq ip iq hle => by
    -- p begins not behind q: q begins within p
    rcases g.one hp with ⟨he, h1⟩ | ⟨hlt, h1⟩
    · exact one_id (P := geP p.lo) h1 hp hq (by rw [geP_some, ltK_irr]; rfl) (by rw [geP_some, hle]; rfl)
    · have hql : ltK q.lo (hiP p) = true := by
        have hu := ip.2
        unfold underK at hu
        cases he : (hiP p).toList.isEmpty with
        | true =>
          have : hiP p = ⟨#[]⟩ := toList_inj (by rw [List.isEmpty_iff] at he; rw [he, ByteArray.toList_eq])
          rw [this, ltK_none] at hlt
          cases hlt
        | false =>
          rw [he, Bool.false_or] at hu
          exact ltK_of_le iq.1 hu
      exact one_id (P := btP p.lo (hiP p)) h1 hp hq (by unfold btP; rw [geP_some, geP_some, ltK_irr, hlt]; rfl) (by unfold btP; rw [geP_some, geP_some, hle, hql]; rfl)
  cases h : ltK q.lo p.lo with
  | false => exact key hp hq ip iq h
  | true => exact (key hq hp iq ip (ltK_asymm h)).symm
/-- The entries of a page. -/
abbrev enP (p : PageD) : List EntD := entsE p.es p.ds
theorem enP_in {p : PageD} (h : okP p = true) : ∀ e ∈ enP p, okEnt p.lo (hiP p) e = true := fun e he => by
  obtain ⟨p1, _, _, p4, p5, _⟩ := ok_parts h
  have := (con_inv p1 (baseOK_of p4) p5 p.ds.length (Nat.le_refl _)).2
  rw [List.take_length] at this
  exact this.2 e he
theorem enP_len {p : PageD} (h : okP p = true) : (enP p).length ≤ 32 := (ok_parts h).2.2.2.2.2
/-- The entries from a page on. -/
def scanF (ps : List (Option PageD)) : Nat → Int → List EntD
  | 0, _ => []
  | m + 1, id => match getP ps id with
    | some p => enP p ++ scanF ps m (riP p)
    | none => []
theorem scanF_some {ps : List (Option PageD)} {m : Nat} {id : Int} {p : PageD} (h : getP ps id = some p) : scanF ps (m + 1) id = enP p ++ scanF ps m (riP p) := by rw [scanF, h]
theorem scanF_none {ps : List (Option PageD)} {m : Nat} {id : Int} (h : getP ps id = none) : scanF ps m id = [] := by
  cases m with
  | zero => rfl
  | succ m => rw [scanF, h]
/-- All entries of a tree. -/
def treeE (ps : List (Option PageD)) : List EntD := scanF ps 40 0
theorem scan_fuel {ps : List (Option PageD)} {idx : List RefD} (g : GoodT ps idx) : ∀ (m n : Nat) (id : Int) (p : PageD), getP ps id = some p → cntGe ps p.lo ≤ m → cntGe ps p.lo ≤ n → scanF ps m id = scanF ps n id
  | 0, _, _, _, hg, hm, _ => by have := cntGe_here (getP_mem hg); omega
  | _ + 1, 0, _, _, hg, _, hn => by have := cntGe_here (getP_mem hg); omega
  | m + 1, n + 1, id, p, hg, hm, hn => by
    rw [scanF_some hg, scanF_some hg]
    rcases next_of g.ok g.go hg with ⟨hr, _⟩ | ⟨hlt, p2, hg2, e2⟩
    · rw [scanF_none (by rw [hr]; exact getP_neg (by omega)), scanF_none (by rw [hr]; exact getP_neg (by omega))]
    · have := cntGe_next (getP_mem hg) hlt
      rw [scan_fuel g m n (riP p) p2 hg2 (by rw [e2]; omega) (by rw [e2]; omega)]
theorem filter_out {p : PageD} (h : okP p = true) {a b : ByteArray} (hu : underK a (hiP p) = false) : (enP p).filter (fun e => inK a b e.k) = [] := by
  rw [List.filter_eq_nil_iff]
  intro e he
  have h1 := enP_in h e he
  obtain ⟨h2, h3⟩ := under_no hu
  unfold okEnt at h1
  simp only [Bool.and_eq_true] at h1
  have h4 := h1.2
  unfold inK at h4
  rw [h2, Bool.false_or, Bool.and_eq_true] at h4
  have : ltK e.k a = true := by
    cases h5 : ltK e.k a with
    | true => rfl
    | false => have := ltK_le h5 h3; rw [h4.2] at this; cases this
  unfold inK
  rw [this]
  simp
theorem scan_skip {ps : List (Option PageD)} {idx : List RefD} (g : GoodT ps idx) {a b : ByteArray} {x : Int} {q : PageD} (hx : getP ps x = some q) (iq : InP q a) : ∀ (n : Nat) (id : Int) (p : PageD), getP ps id = some p → ltK a p.lo = false → cntGe ps p.lo ≤ n → (scanF ps n id).filter (fun e => inK a b e.k) = (scanF ps 40 x).filter (fun e => inK a b e.k)
  | 0, _, _, hg, _, hn => by have := cntGe_here (getP_mem hg); omega
  | n + 1, id, p, hg, hl, hn => by
    have hok := g.ok p (getP_mem hg)
    cases hu : underK a (hiP p) with
    | true =>
      obtain rfl := g.uni hg hx ⟨hl, hu⟩ iq
      have h1 := cntGe_many ps p.lo
      have h2 := manyT_le ps
      have h3 := g.len.2
      rw [scan_fuel g (n + 1) 40 id p hg hn (by omega)]
    | false =>
      rw [scanF_some hg, List.filter_append, filter_out hok hu, List.nil_append]
      rcases next_of g.ok g.go hg with ⟨_, he⟩ | ⟨hlt, p2, hg2, e2⟩
      · rw [(under_no hu).1] at he; cases he
      · have := cntGe_next (getP_mem hg) hlt
        exact scan_skip g hx iq n (riP p) p2 hg2 (by rw [e2]; exact (under_no hu).2) (by rw [e2]; omega)
/-- Between two texts: from the page of the first on. -/
theorem scan_from {ps : List (Option PageD)} {idx : List RefD} (g : GoodT ps idx) (a b : ByteArray) : (treeE ps).filter (fun e => inK a b e.k) = (scanF ps 40 (downT ps idx a).1).filter (fun e => inK a b e.k) := by
  obtain ⟨q, hq, h1, h2, _⟩ := g.down a
  obtain ⟨h0, hl, hid⟩ := g.zero
  obtain ⟨p, hg, hlo⟩ := GoodT.ref g.ix h0
  rw [hid] at hg
  have h3 := cntGe_many ps p.lo
  have h4 := manyT_le ps
  have h5 := g.len.2
  exact scan_skip g hq ⟨h1, h2⟩ 40 0 p hg (by rw [hlo, hl]; exact ltK_none _) (by omega)
/-- Where a scan stands. -/
structure ScSt (ps : List (Option PageD)) (f : EntD → Bool) (all acc : List EntD) (id : Int) (c : Nat) : Prop where
  here : id = -1 ∨ ∃ p, getP ps id = some p ∧ c + cntGe ps p.lo ≤ manyT ps
  eq : all = acc ++ (scanF ps (40 - c) id).filter f
  len : acc.length ≤ 32 * c
  le : c ≤ 30
theorem ScSt.start {ps : List (Option PageD)} {f : EntD → Bool} {id : Int} {p : PageD} (h : getP ps id = some p) : ScSt ps f ((scanF ps 40 id).filter f) [] id 0 :=
  ⟨.inr ⟨p, h, by have := cntGe_many ps p.lo; omega⟩, rfl, by simp, by omega⟩
theorem ScSt.next {ps : List (Option PageD)} {idx : List RefD} {f : EntD → Bool} {all acc : List EntD} {id : Int} {c : Nat} (s : ScSt ps f all acc id c) (g : GoodT ps idx) {p : PageD} (hg : getP ps id = some p) : ScSt ps f all (acc ++ (enP p).filter f) (riP p) (c + 1) ∧ c < 30 := by
  have hc : c + cntGe ps p.lo ≤ manyT ps := by
    rcases s.here with h | ⟨p', h, hc⟩
    · rw [h, getP_neg (by omega)] at hg; cases hg
    · rw [hg] at h; injection h with h; rw [h]; exact hc
  have h1 := cntGe_here (getP_mem hg)
  have h2 := manyT_le ps
  have h3 := g.len.2
  have hlt : c < 30 := by omega
  have hlen := enP_len (g.ok p (getP_mem hg))
  refine ⟨⟨?_, ?_, ?_, by omega⟩, hlt⟩
  · rcases next_of g.ok g.go hg with ⟨hr, _⟩ | ⟨hl, p2, hg2, e2⟩
    · exact .inl hr
    · have := cntGe_next (getP_mem hg) hl
      exact .inr ⟨p2, hg2, by rw [e2]; omega⟩
  · obtain ⟨m, hm⟩ : ∃ m, 40 - c = m + 1 := ⟨40 - c - 1, by omega⟩
    rw [s.eq, hm, scanF_some hg, List.filter_append, show 40 - (c + 1) = m by omega, List.append_assoc]
  · have := s.len
    have hf := List.length_filter_le f (enP p)
    rw [List.length_append]
    omega
theorem ScSt.done {ps : List (Option PageD)} {f : EntD → Bool} {all acc : List EntD} {c : Nat} (s : ScSt ps f all acc (-1) c) : all = acc := by
  rw [s.eq, scanF_none (getP_neg (by omega))]
  simp
theorem ScSt.room {ps : List (Option PageD)} {f : EntD → Bool} {all acc : List EntD} {id : Int} {c : Nat} (s : ScSt ps f all acc id c) : acc.length ≤ 960 := by
  have := s.len
  have := s.le
  omega
theorem ScSt.neg {ps : List (Option PageD)} {f : EntD → Bool} {all acc : List EntD} {id : Int} {c : Nat} (s : ScSt ps f all acc id c) (h : id < 0) : id = -1 := by
  rcases s.here with h1 | ⟨p, h1, _⟩
  · exact h1
  · rw [getP_neg h] at h1; cases h1
theorem ScSt.pos {ps : List (Option PageD)} {f : EntD → Bool} {all acc : List EntD} {id : Int} {c : Nat} (s : ScSt ps f all acc id c) (h : id ≠ -1) : ∃ p, getP ps id = some p := by
  rcases s.here with h1 | ⟨p, h1, _⟩
  · exact absurd h1 h
  · exact ⟨p, h1⟩
/-- The entries of a tree between two texts. -/
def rangeE (ps : List (Option PageD)) (a b : ByteArray) : List EntD := (treeE ps).filter (fun e => inK a b e.k)
end Go.Proofs.Ytbhkmmdcdfjbkaa

namespace Go.Proofs.Ytbhkmmdcdfjbkaa
open Go.RowKit

/-- The digits of a number ahead of a text, an m ahead of both. -/
def mt (j : Nat) (s : ByteArray) : ByteArray := if _h : j = 0 then strOfNums [109] ++ s else mt (j / 10) (strOfNums [(48 + (j : Int) % 10)] ++ s)
termination_by j
decreasing_by omega

end Go.Proofs.Ytbhkmmdcdfjbkaa

namespace Go.Proofs.Ytbhkmmdcdfjbkaa
open Go.RowKit

theorem grownBy_below {w w' : World} {r : Option Nat} (h : Below w.heap.size w w') : w.grownBy w' r := ⟨h.os, h.tape, h.output, h.size, fun i hi _ => h.block i hi⟩
theorem ownsRow_below {w w' : World} {B e s n : Nat} {v : Value} {vs : List Value} (h : w.ownsRow B e s v n vs) (hb : Below w.heap.size w w') : w'.ownsRow B e s v n vs :=
  World.ownsRow.kept (row := none) h (grownBy_below hb) (by cases hv : v.ownBlock <;> simp)
end Go.Proofs.Ytbhkmmdcdfjbkaa

namespace Go.Proofs.Ytbhkmmdcdfjbkaa
open Go.RowKit

end Go.Proofs.Ytbhkmmdcdfjbkaa

namespace Go.Proofs.Ytbhkmmdcdfjbkaa
open Go.RowKit

/-- The blocks of a page's two lists. -/
def PgBlk (a : Option Addr) (n c : Nat) (a2 : Option Addr) (n2 c2 : Nat) (i : Nat) : Prop := (Value.slice a n c).ownBlock = some i ∨ (Value.slice a2 n2 c2).ownBlock = some i
/-- A page whose two lists are the call's own, from block B on, and apart. -/
def PgOwn (w : World) (B : Nat) (a : Option Addr) (n c : Nat) (a2 : Option Addr) (n2 c2 : Nat) (es : List EntD) (ds : List DelD) : Prop :=
  EOwns w B (.slice a n c) es ∧ DOwns w B (.slice a2 n2 c2) ds ∧ ∀ i, (Value.slice a n c).ownBlock = some i → ¬ (Value.slice a2 n2 c2).ownBlock = some i
theorem PgOwn.len {w : World} {B : Nat} {a : Option Addr} {n c : Nat} {a2 : Option Addr} {n2 c2 : Nat} {es : List EntD} {ds : List DelD} (h : PgOwn w B a n c a2 n2 c2 es ds) : n = es.length ∧ n2 = ds.length := ⟨(erow_of_owns h.1).1.symm, (drow_of_owns h.2.1).1.symm⟩
theorem PgOwn.wr {w w' : World} {P : Nat → Prop} {B : Nat} {a : Option Addr} {n c : Nat} {a2 : Option Addr} {n2 c2 : Nat} {es : List EntD} {ds : List DelD} (h : PgOwn w B a n c a2 n2 c2 es ds) (hw : Wr P w w') (hp : ∀ i, PgBlk a n c a2 n2 c2 i → ¬ P i) : PgOwn w' B a n c a2 n2 c2 es ds :=
  ⟨ownsRow_heap h.1 (fun g hg => hw.block g (h.1.lt g hg).2 (hp g (.inl hg))), ownsRow_heap h.2.1 (fun g hg => hw.block g (h.2.1.lt g hg).2 (hp g (.inr hg))), h.2.2⟩
theorem PgOwn.below {w w' : World} {B : Nat} {a : Option Addr} {n c : Nat} {a2 : Option Addr} {n2 c2 : Nat} {es : List EntD} {ds : List DelD} (h : PgOwn w B a n c a2 n2 c2 es ds) (hb : Below w.heap.size w w') : PgOwn w' B a n c a2 n2 c2 es ds :=
  h.wr (P := fun _ => False) (Wr.of_below hb) (fun _ _ h => h)
theorem PgOwn.base {w : World} {B C : Nat} {a : Option Addr} {n c : Nat} {a2 : Option Addr} {n2 c2 : Nat} {es : List EntD} {ds : List DelD} (h : PgOwn w B a n c a2 n2 c2 es ds) (hC : C ≤ B) : PgOwn w C a n c a2 n2 c2 es ds :=
  ⟨ownsRow_base h.1 hC, ownsRow_base h.2.1 hC, h.2.2⟩
end Go.Proofs.Ytbhkmmdcdfjbkaa

namespace Go.Proofs.Ytbhkmmdcdfjbkaa
open Go.RowKit

/-- A page put together. -/
def conP (lo hi : ByteArray) (r : Int) (es : List EntD) (ds : List DelD) : PageD := if okPage lo hi r es ds = true then ⟨lo, highE hi ds, rightE r ds, entsE es ds, []⟩ else ⟨ByteArray.empty, ByteArray.empty, 0, [], []⟩
def conC (lo hi : ByteArray) (r : Int) (es : List EntD) (ds : List DelD) : Int := if okPage lo hi r es ds = true then 0 else 1
/-- The answer of Consolidate. -/
def ConRes (lo hi : ByteArray) (r : Int) (es : List EntD) (ds : List DelD) (w : World) (e : Ending) (w' : World) : Prop :=
  ∃ a n c, e = .returned (.tuple #[pgv (conP lo hi r es ds).lo (conP lo hi r es ds).hi (conP lo hi r es ds).r a n c none 0 0, .int .i64 (conC lo hi r es ds)]) ∧ EOwns w' w.heap.size (.slice a n c) (conP lo hi r es ds).es ∧ Below w.heap.size w w'
/-- Five cells of a block stored anew. -/
abbrev set5 (w : World) (b : Nat) (v0 v1 v2 v3 v4 : Value) : World := ((((w.setCell ⟨b, 0, none⟩ v0).setCell ⟨b, 1, none⟩ v1).setCell ⟨b, 2, none⟩ v2).setCell ⟨b, 3, none⟩ v3).setCell ⟨b, 4, none⟩ v4
theorem set5_below {w w1 : World} {B b : Nat} (h : Below B w w1) (hb : B ≤ b) (v0 v1 v2 v3 v4 : Value) : Below B w (set5 w1 b v0 v1 v2 v3 v4) :=
  ((((h.setCell (p := ⟨b, 0, none⟩) hb _).setCell (p := ⟨b, 1, none⟩) hb _).setCell (p := ⟨b, 2, none⟩) hb _).setCell (p := ⟨b, 3, none⟩) hb _).setCell (p := ⟨b, 4, none⟩) hb _
theorem set5_owns {w : World} {B b e s n : Nat} {v : Value} {vs : List Value} (h : w.ownsRow B e s v n vs) (hb : b < B) (v0 v1 v2 v3 v4 : Value) : (set5 w b v0 v1 v2 v3 v4).ownsRow B e s v n vs :=
  ownsRow_set (ownsRow_set (ownsRow_set (ownsRow_set (ownsRow_set h hb _ _) hb _ _) hb _ _) hb _ _) hb _ _
theorem fz_cells {w : World} {b : Nat} {cs : Array Value} {t : TypeId} (h : w.heap[b]? = some (.cells cs t (0, 0))) : w.frozen? ⟨b, 0, none⟩ = false ∧ w.frozen? ⟨b, 1, none⟩ = false ∧ w.frozen? ⟨b, 2, none⟩ = false ∧ w.frozen? ⟨b, 3, none⟩ = false ∧ w.frozen? ⟨b, 4, none⟩ = false :=
  ⟨heap_frozen h 0, heap_frozen h 1, heap_frozen h 2, heap_frozen h 3, heap_frozen h 4⟩
theorem pg_cells5 {w : World} {b : Nat} {v0 v1 v2 v3 v4 : Value} {t : TypeId} (h : w.heap[b]? = some (.cells #[v0, v1, v2, v3, v4] t (0, 0))) : w.cell? ⟨b, 0, none⟩ = some v0 ∧ w.cell? ⟨b, 1, none⟩ = some v1 ∧ w.cell? ⟨b, 2, none⟩ = some v2 ∧ w.cell? ⟨b, 3, none⟩ = some v3 ∧ w.cell? ⟨b, 4, none⟩ = some v4 :=
  ⟨heap_cell h 0, heap_cell h 1, heap_cell h 2, heap_cell h 3, heap_cell h 4⟩
set_option maxRecDepth 100000 in
set_option maxHeartbeats 4000000 in
theorem page_any (sb : Nat) (lo hi : ByteArray) (r : Int) (a : Option Addr) (n c : Nat) (w : World) (h : SetAt w sb lo hi r (.slice a n c)) :
    Calls Try.prog 57 #[.pointer (some ⟨sb, 0, none⟩)] w fun e w' => e = .returned (pgv lo hi r a n c none 0 0) ∧ Below w.heap.size w w' := by
  have b0 : Below w.heap.size w (w.alloc (.cells #[.string ⟨#[]⟩, .string ⟨#[]⟩, .int .i64 0, .slice none 0 0, .slice none 0 0] 51)) := (Below.refl _ _).alloc (Nat.le_refl _) _
  have h' := h.below b0 h.lt
  have c0 := h'.c0
  have c1 := h'.c1
  have c2 := h'.c2
  have c3 := h'.c3
  obtain ⟨y0, y1, y2, y3, y4⟩ := pg_cells5 (heap_new (w := w) rfl #[.string ⟨#[]⟩, .string ⟨#[]⟩, .int .i64 0, .slice none 0 0, .slice none 0 0] 51)
  obtain ⟨f0, f1, f2, f3, f4⟩ := fz_cells (heap_new (w := w) rfl #[.string ⟨#[]⟩, .string ⟨#[]⟩, .int .i64 0, .slice none 0 0, .slice none 0 0] 51)
  clear h h'
  go_enter Try.func57, Try.ntmps57
  go_wp2_with fail
  generalize w.alloc (.cells #[.string ⟨#[]⟩, .string ⟨#[]⟩, .int .i64 0, .slice none 0 0, .slice none 0 0] 51) = W0 at *
  go_region
  all_goals
    go_wp2_with fail
    have B5 := (set5_below b0 (Nat.le_refl _) (.string lo) (.string hi) (.int .i64 r) (.slice a n c) (.slice none 0 0)).drew
    refine bodyPost_ret (v := pgv lo hi r a n c none 0 0) (by simp [results, Try.results57, go_sem, *]) rfl ?_
    exact ⟨rfl, B5⟩
/-- Two blocks at a call's head: a page and room for an answer. -/
theorem two_new (w : World) (v0 v1 v2 v3 v4 : Value) : ∃ W, W = (w.alloc (.cells #[v0, v1, v2, v3, v4] 51)).alloc (.cells #[.string ⟨#[]⟩, .string ⟨#[]⟩, .int .i64 0, .slice none 0 0, .slice none 0 0] 51) ∧ W.heap[w.heap.size]? = some (.cells #[v0, v1, v2, v3, v4] 51 (0, 0)) ∧
    W.heap[w.heap.size + 1]? = some (.cells #[.string ⟨#[]⟩, .string ⟨#[]⟩, .int .i64 0, .slice none 0 0, .slice none 0 0] 51 (0, 0)) ∧ W.heap.size = w.heap.size + 1 + 1 ∧ Below w.heap.size w W := by
  have z1 : (w.alloc (.cells #[v0, v1, v2, v3, v4] 51)).heap.size = w.heap.size + 1 := by simp
  have b2 : Below (w.heap.size + 1) (w.alloc (.cells #[v0, v1, v2, v3, v4] 51)) ((w.alloc (.cells #[v0, v1, v2, v3, v4] 51)).alloc (.cells #[.string ⟨#[]⟩, .string ⟨#[]⟩, .int .i64 0, .slice none 0 0, .slice none 0 0] 51)) := (Below.refl _ _).alloc (by omega) _
  exact ⟨_, rfl, (b2.block w.heap.size (by omega)).trans (heap_new rfl _ _), heap_new z1 _ _, by simp, ((Below.refl _ _).alloc (Nat.le_refl _) _).alloc (by simp) _⟩
set_option maxRecDepth 100000 in
set_option maxHeartbeats 4000000 in
theorem l04Consolidate_any (lo hi : ByteArray) (r : Int) (ab : Option Addr) (nb cb : Nat) (es : List EntD) (ac : Option Addr) (nc cc : Nat) (ds : List DelD) (w : World) (hE : ERow w ab nb es) (hD : DRow w ac nc ds) (hnb : nb ≤ 100) (hnc : nc ≤ 100) (hcb : ab = none → cb = 0) :
    Calls Try.prog 24 #[pgv lo hi r ab nb cb ac nc cc] w fun e w' => ∃ a n c, e = .returned (pgv lo (highE hi ds) (rightE r ds) a n c none 0 0) ∧ EOwns w' w.heap.size (.slice a n c) (entsE es ds) ∧ Below w.heap.size w w' := by
  obtain ⟨W, hW, k1, k2, z, b0⟩ := two_new w (.string lo) (.string hi) (.int .i64 r) (.slice ab nb cb) (.slice ac nc cc)
  have RE := hide (hE.below b0)
  have RD := hide (hD.below b0)
  have K1 := hide k1
  have K2 := hide k2
  clear hE hD k1 k2
  go_enter Try.func24, Try.ntmps24
  go_wp2_with fail
  rw [← hW]
  clear hW
  refine (l04Bounds_any lo hi r (.slice ab nb cb) ac nc cc ds W (unhide RD) (by omega)).mono ?_
  rintro e w1 ⟨rfl, hb1⟩
  have K1' := hide ((hb1.block w.heap.size (by omega)).trans (unhide K1))
  have K2' := hide ((hb1.block (w.heap.size + 1) (by omega)).trans (unhide K2))
  have B1 := b0.trans (hb1.mono b0.size)
  have z1 : w.heap.size + 1 + 1 ≤ w1.heap.size := by have := hb1.size; omega
  have RE1 := hide ((unhide RE).below hb1)
  have RD1 := hide ((unhide RD).below hb1)
  clear hb1 b0 RE RD K1 K2 z
  obtain ⟨p0, p1, p2, p3, p4⟩ := pg_cells5 (unhide K1')
  generalize hhi : highE hi ds = hi1 at *
  generalize hrr : rightE r ds = r1 at *
  have CE := hide (show ∀ w', w' = w1 ∨ w' = w1.drew ∨ (∃ q, w' = w1.drewN q) → Calls Try.prog 48 #[pgv lo hi r ab nb cb ac nc cc] w' fun x w2 => ∃ g cap, x = .returned (.slice (some ⟨g, 0, none⟩) (entsE es ds).length cap) ∧ EOwns w2 w1.heap.size (.slice (some ⟨g, 0, none⟩) (entsE es ds).length cap) (entsE es ds) ∧ Below w1.heap.size w1 w2 from fun w' h' => by
    rcases h' with rfl | rfl | ⟨q, rfl⟩
    · exact l04Entries_any lo hi r ab nb cb es ac nc cc ds _ (unhide RE1) (unhide RD1) hnb hnc hcb
    · refine (l04Entries_any lo hi r ab nb cb es ac nc cc ds w1.drew (unhide RE1) (unhide RD1) hnb hnc hcb).mono ?_
      rintro x w2 ⟨g, cap, e, o, b⟩
      exact ⟨g, cap, e, o, bel_of_drew b⟩
    · refine (l04Entries_any lo hi r ab nb cb es ac nc cc ds (w1.drewN q) (unhide RE1) (unhide RD1) hnb hnc hcb).mono ?_
      rintro x w2 ⟨g, cap, e, o, b⟩
      exact ⟨g, cap, e, o, bel_of_drewN b⟩)
  have YP := hide (show ∀ w2, Below w1.heap.size w1 w2 → w2.heap[w.heap.size]? = _ ∧ w2.heap[w.heap.size + 1]? = _ ∧ Below w.heap.size w w2 from fun w2 hb => ⟨(hb.block w.heap.size (by omega)).trans (unhide K1'), (hb.block (w.heap.size + 1) (by omega)).trans (unhide K2'), B1.trans (hb.mono B1.size)⟩)
  go_wp2_with fail
  go_region_with (go_at_call 48; refine (unhide CE _ (by first | exact .inl rfl | exact .inr (.inl rfl) | exact .inr (.inr ⟨_, rfl⟩))).mono ?_; rintro e w2 ⟨g, cap, rfl, hO, hb2⟩; obtain ⟨q1, q2, B2⟩ := unhide YP w2 hb2; obtain ⟨s0, s1, s2, s3, s4⟩ := pg_cells5 q1; obtain ⟨t0, t1, t2, t3, t4⟩ := pg_cells5 q2; obtain ⟨f0, f1, f2, f3, f4⟩ := fz_cells q2; have O2 := hide hO; clear hO hb2 q1 q2)
  all_goals
    go_wp2_with fail
    have hlt : w.heap.size + 1 < w1.heap.size := by omega
    refine bodyPost_ret (v := pgv lo hi1 r1 (some ⟨g, 0, none⟩) (entsE es ds).length cap none 0 0) (by simp [results, Try.results24, go_sem, *]) rfl ⟨_, _, _, by rw [hhi, hrr], ?_, set5_below B2 (Nat.le_succ _) _ _ _ _ _⟩
    exact ownsRow_base (set5_owns (unhide O2) hlt _ _ _ _ _) (by omega)
end Go.Proofs.Ytbhkmmdcdfjbkaa

namespace Go.Proofs.Ytbhkmmdcdfjbkaa
open Go.RowKit

theorem con_ok {lo hi : ByteArray} {r : Int} {es : List EntD} {ds : List DelD} (h : okPage lo hi r es ds = true) : conP lo hi r es ds = ⟨lo, highE hi ds, rightE r ds, entsE es ds, []⟩ ∧ conC lo hi r es ds = 0 := by unfold conP conC; rw [if_pos h, if_pos h]; exact ⟨rfl, rfl⟩
theorem con_bad {lo hi : ByteArray} {r : Int} {es : List EntD} {ds : List DelD} (h : okPage lo hi r es ds = false) : conP lo hi r es ds = ⟨ByteArray.empty, ByteArray.empty, 0, [], []⟩ ∧ conC lo hi r es ds = 1 := by unfold conP conC; rw [if_neg (by rw [h]; decide), if_neg (by rw [h]; decide)]; exact ⟨rfl, rfl⟩
theorem conRes_bad {lo hi : ByteArray} {r : Int} {es : List EntD} {ds : List DelD} {w w' : World} (h : okPage lo hi r es ds = false) (hb : Below w.heap.size w w') : ConRes lo hi r es ds w (.returned (.tuple #[pgv ByteArray.empty ByteArray.empty 0 none 0 0 none 0 0, .int .i64 1])) w' := by
  unfold ConRes
  rw [(con_bad h).1, (con_bad h).2]
  exact ⟨none, 0, 0, rfl, World.ownsRow_nil _ _ _ _, hb⟩
theorem conRes_ok {lo hi : ByteArray} {r : Int} {es : List EntD} {ds : List DelD} {w w' : World} {a : Option Addr} {n c : Nat} (h : okPage lo hi r es ds = true) (ho : EOwns w' w.heap.size (.slice a n c) (entsE es ds)) (hb : Below w.heap.size w w') : ConRes lo hi r es ds w (.returned (.tuple #[pgv lo (highE hi ds) (rightE r ds) a n c none 0 0, .int .i64 0])) w' := by
  unfold ConRes
  rw [(con_ok h).1, (con_ok h).2]
  exact ⟨a, n, c, rfl, ho, hb⟩
set_option maxRecDepth 100000 in
set_option maxHeartbeats 4000000 in
theorem implConsolidate_any (lo hi : ByteArray) (r : Int) (ab : Option Addr) (nb cb : Nat) (es : List EntD) (ac : Option Addr) (nc cc : Nat) (ds : List DelD) (w : World) (hE : ERow w ab nb es) (hD : DRow w ac nc ds) :
    Calls Try.prog 35 #[pgv lo hi r ab nb cb ac nc cc] w fun e w' => ConRes lo hi r es ds w e w' := by
  obtain ⟨W, hW, k1, k2, z, b0⟩ := two_new w (.string lo) (.string hi) (.int .i64 r) (.slice ab nb cb) (.slice ac nc cc)
  have RE := hide (hE.below b0)
  have RD := hide (hD.below b0)
  have K2 := hide k2
  clear hE hD k1 k2
  go_enter Try.func35, Try.ntmps35
  go_wp2_with fail
  rw [← hW]
  clear hW
  refine (settle_any lo hi r ab nb cb es ac nc cc ds W (unhide RE) (unhide RD)).mono ?_
  rintro e w1 ⟨v, b, rfl, ⟨hb, hs⟩, hb1⟩
  have K2' := hide ((hb1.block (w.heap.size + 1) (by omega)).trans (unhide K2))
  have B1 := b0.trans (hb1.mono b0.size)
  have z1 : w.heap.size + 1 + 1 ≤ w1.heap.size := by have := hb1.size; omega
  clear hb1 b0 RE RD K2
  cases b with
  | false =>
    have HOK := hide hb.symm
    clear hb hs
    obtain ⟨t0, t1, t2, t3, t4⟩ := pg_cells5 (unhide K2')
    obtain ⟨f0, f1, f2, f3, f4⟩ := fz_cells (unhide K2')
    go_wp2_with fail
    refine bodyPost_ret (v := .tuple #[pgv ByteArray.empty ByteArray.empty 0 none 0 0 none 0 0, .int .i64 1]) (by simp [results, Try.results35, go_sem, *] <;> rfl) rfl ?_
    exact conRes_bad (unhide HOK) (by first | exact set5_below B1 (Nat.le_succ _) _ _ _ _ _ | exact B1)
  | true =>
    obtain ⟨sb, a', n', c', rfl, hsb, hS⟩ := hs rfl
    have HOK := hide hb.symm
    have HS := hide hS
    clear hb hs hS
    go_wp2_with fail
    refine (page_any sb lo (highE hi ds) (rightE r ds) a' n' c' w1 (unhide HS).at_).mono ?_
    rintro e w2 ⟨rfl, hb2⟩
    have B2 := B1.trans (hb2.mono B1.size)
    have S2 := hide ((unhide HS).step hb2)
    obtain ⟨t0, t1, t2, t3, t4⟩ := pg_cells5 ((hb2.block (w.heap.size + 1) (by omega)).trans (unhide K2'))
    obtain ⟨f0, f1, f2, f3, f4⟩ := fz_cells ((hb2.block (w.heap.size + 1) (by omega)).trans (unhide K2'))
    clear hb2 K2' HS
    have HR := hide (fun w' (ho : EOwns w' w.heap.size (.slice a' n' c') (entsE es ds)) hb => conRes_ok (w := w) (unhide HOK) ho hb)
    have O2 := hide (unhide S2).own
    have hlt : w.heap.size + 1 < sb + 1 := by omega
    generalize highE hi ds = hi1 at *
    generalize rightE r ds = r1 at *
    go_wp2_with fail
    refine bodyPost_ret (v := .tuple #[pgv lo hi1 r1 a' n' c' none 0 0, .int .i64 0]) (by simp [results, Try.results35, go_sem, *]) rfl ?_
    exact unhide HR _ (ownsRow_base (set5_owns (unhide O2) hlt _ _ _ _ _) (by omega)) (set5_below B2 (Nat.le_succ _) _ _ _ _ _)
end Go.Proofs.Ytbhkmmdcdfjbkaa

namespace Go.Proofs.Ytbhkmmdcdfjbkaa
open Go.RowKit

set_option maxRecDepth 100000 in
set_option maxHeartbeats 4000000 in
theorem concatE1 (ob : Nat) (a : Option Addr) (n c : Nat) (es : List EntD) (w : World) (hc : w.cell? ⟨ob, 0, none⟩ = some (.slice a n c)) (hR : ERow w a n es) (hcn : a = none → c = 0) (hn : n ≤ 1100000) :
    Calls Try.prog 44 #[.slice (some ⟨ob, 0, none⟩) 1 1] w fun e w' => ∃ v, e = .returned v ∧ EOwns w' w.heap.size v es ∧ Below w.heap.size w w' := by
  have R := hide hR
  have hob := cell_lt hc
  clear hR
  go_enter Try.func44, Try.ntmps44
  go_wp2_with fail
  refine wp_loop_rounds 2 ?_
  rw [rounds_succ]
  go_wp2_with fail
  rw [rounds_succ]
  go_wp2_with fail
  refine (growE n w (by omega)).mono ?_
  rintro e w1 ⟨v1, rfl, hO, _, hb⟩
  obtain ⟨v2, w2, hr, hO2, hg2, _⟩ := run_appE (c := c) 23 hO ((unhide R).below hb) (by simp) (by omega) hcn hb.size
  have hc1 := (hb.cell (p := ⟨ob, 0, none⟩) hob).trans hc
  have B2 := hide (hb.trans ((Below.refl w.heap.size w1).grown hg2 hb.size (fun k hk => (hO.lt k hk).1)))
  have O2 := hide (show EOwns w2 w.heap.size v2 es from hO2)
  clear hO hO2 hg2 hb R
  go_wp2_with fail
  refine wp_loop_rounds 2 ?_
  rw [rounds_succ]
  go_wp2_with (at_builtin; refine wpAppE rfl _ _ 23 rfl _ _ v2 w2 rfl rfl hr ?_)
  rw [rounds_succ]
  go_wp2_with fail
  go_ret
  exact ⟨v2, rfl, unhide O2, unhide B2⟩
set_option maxRecDepth 100000 in
set_option maxHeartbeats 4000000 in
theorem concatD2 (ob : Nat) (a : Option Addr) (n c : Nat) (ds : List DelD) (b : Nat) (d : DelD) (w : World) (hc : w.cell? ⟨ob, 0, none⟩ = some (.slice a n c)) (hc2 : w.cell? ⟨ob, 1, none⟩ = some (.slice (some ⟨b, 0, none⟩) 1 1)) (hR : DRow w a n ds) (hD : DRow w (some ⟨b, 0, none⟩) 1 [d]) (hcn : a = none → c = 0) (hn : n ≤ 1100000) :
    Calls Try.prog 45 #[.slice (some ⟨ob, 0, none⟩) 2 2] w fun e w' => ∃ v, e = .returned v ∧ DOwns w' w.heap.size v (ds ++ [d]) ∧ Below w.heap.size w w' := by
  have R := hide hR
  have R2 := hide hD
  have LD := hide hR.1
  have hob := cell_lt hc
  clear hR hD
  go_enter Try.func45, Try.ntmps45
  go_wp2_with fail
  refine wp_loop_rounds 3 ?_
  rw [rounds_succ]
  go_wp2_with fail
  rw [rounds_succ]
  go_wp2_with fail
  rw [rounds_succ]
  go_wp2_with fail
  refine (growD (n + 1) w (by omega)).mono ?_
  rintro e w1 ⟨v1, rfl, hO, _, hb⟩
  obtain ⟨v2, w2, hr, hO2, hg2, _⟩ := run_appD (c := c) 49 hO ((unhide R).below hb) (by simp) (by omega) hcn hb.size
  have hc1 := (hb.cell (p := ⟨ob, 0, none⟩) hob).trans hc
  have b2 : Below w.heap.size w w2 := hb.trans ((Below.refl w.heap.size w1).grown hg2 hb.size (fun k hk => (hO.lt k hk).1))
  have hc3 := (b2.cell (p := ⟨ob, 1, none⟩) hob).trans hc2
  obtain ⟨v3, w3, hr3, hO3, hg3, _⟩ := run_appD (c := 1) 49 hO2 ((unhide R2).below b2) (by have := unhide LD; simp; omega) (by omega) (fun h => by cases h) b2.size
  have B3 := hide (b2.trans ((Below.refl w.heap.size w2).grown hg3 b2.size (fun k hk => (hO2.lt k hk).1)))
  have O3 := hide (show DOwns w3 w.heap.size v3 (ds ++ [d]) from hO3)
  clear hO hO2 hg2 hb R R2 hO3 hg3 b2
  go_wp2_with fail
  refine wp_loop_rounds 3 ?_
  rw [rounds_succ]
  go_wp2_with (at_builtin; refine wpAppE rfl _ _ 49 rfl _ _ v2 w2 rfl rfl hr ?_)
  rw [rounds_succ]
  go_wp2_with (at_builtin; refine wpAppE rfl _ _ 49 rfl _ _ v3 w3 rfl rfl hr3 ?_)
  rw [rounds_succ]
  go_wp2_with fail
  go_ret
  exact ⟨v3, rfl, unhide O3, unhide B3⟩
end Go.Proofs.Ytbhkmmdcdfjbkaa

namespace Go.Proofs.Ytbhkmmdcdfjbkaa
open Go.RowKit

theorem nil_lit {w : World} (e s : Nat) : (w.alloc (.cells #[] e)).ownsRow w.heap.size e s (.slice (some ⟨w.heap.size, 0, none⟩) 0 0) 0 [] := by
  have := World.ownsRow_lit (base := w.heap.size) (e := e) (size := s) w #[] 0 (Nat.le_refl _) (by unfold maxLen; simp) (by simp)
  simpa using this
set_option maxRecDepth 100000 in
set_option maxHeartbeats 4000000 in
theorem l04Own_any (lo hi : ByteArray) (r : Int) (ab : Option Addr) (nb cb : Nat) (es : List EntD) (ac : Option Addr) (nc cc : Nat) (ds : List DelD) (w : World) (hE : ERow w ab nb es) (hD : DRow w ac nc ds) (hnb : nb ≤ 1100000) (hnc : nc ≤ 1100000) (hcb : ab = none → cb = 0) (hcc : ac = none → cc = 0) :
    Calls Try.prog 47 #[pgv lo hi r ab nb cb ac nc cc] w fun e w' => ∃ a n c a2 n2 c2, e = .returned (pgv lo hi r a n c a2 n2 c2) ∧ PgOwn w' w.heap.size a n c a2 n2 c2 es ds ∧ Below w.heap.size w w' := by
  obtain ⟨W, hW, k1, k2, z, b0⟩ := two_new w (.string lo) (.string hi) (.int .i64 r) (.slice ab nb cb) (.slice ac nc cc)
  have bA : Below W.heap.size W (W.alloc (.cells #[] 37)) := (Below.refl _ _).alloc (Nat.le_refl _) _
  have OA := nil_lit (w := W) 37 2
  have zA : (W.alloc (.cells #[] 37)).heap.size = W.heap.size + 1 := by simp
  have KA1 := (bA.block w.heap.size (by omega)).trans k1
  have KA2 := (bA.block (w.heap.size + 1) (by omega)).trans k2
  obtain ⟨v1, w1, hr1, hO1, hg1, hv1⟩ := run_appE (c := cb) 23 (show EOwns _ _ _ [] from OA) ((hE.below b0).below bA) (by simp) (by omega) hcb (by omega)
  have b1 : Below W.heap.size W w1 := bA.trans ((Below.refl _ _).grown hg1 (by omega) (fun k hk => (World.ownsRow.lt OA k hk).1))
  have zW1 : W.heap.size ≤ w1.heap.size := b1.size
  obtain ⟨a1, n1, c1, rfl⟩ : ∃ a n c, v1 = .slice a n c := by
    rcases hO1.2 with ⟨e, _⟩ | ⟨g, cap, cur, e, _⟩
    · exact ⟨_, _, _, e⟩
    · exact ⟨_, _, _, e⟩
  have K1 := (b1.block w.heap.size (by omega)).trans k1
  have K2 := (b1.block (w.heap.size + 1) (by omega)).trans k2
  have B1 := b0.trans (b1.mono b0.size)
  clear bA OA zA KA2 hg1 b1 k2
  have c13 : w1.cell? ⟨w.heap.size, 3, none⟩ = some (.slice ab nb cb) := heap_cell K1 3
  have f13 := heap_frozen K1 3
  have zs : (w1.setCell ⟨w.heap.size, 3, none⟩ (.slice a1 n1 c1)).heap.size = w1.heap.size := by simp [World.setCell]
  have K1s := heap_set K1 3 (.slice a1 n1 c1)
  have K2s := (Below.heap_setCell w1 ⟨w.heap.size, 3, none⟩ (.slice a1 n1 c1) (w.heap.size + 1) (by simp)).trans K2
  have O1s := ownsRow_set (show w1.ownsRow _ _ _ _ _ _ from hO1) (sb := w.heap.size) (by omega) 3 (.slice a1 n1 c1)
  have Bs := B1.setCell (p := ⟨w.heap.size, 3, none⟩) (Nat.le_refl _) (.slice a1 n1 c1)
  obtain ⟨ws, hws⟩ : ∃ ws, ws = w1.setCell ⟨w.heap.size, 3, none⟩ (.slice a1 n1 c1) := ⟨_, rfl⟩
  rw [← hws] at zs K1s K2s O1s Bs
  have bC : Below ws.heap.size ws (ws.alloc (.cells #[] 86)) := (Below.refl _ _).alloc (Nat.le_refl _) _
  have OC := nil_lit (w := ws) 86 4
  have zC : (ws.alloc (.cells #[] 86)).heap.size = ws.heap.size + 1 := by simp
  obtain ⟨v3, w3, hr3, hO3, hg3, hv3⟩ := run_appD (c := cc) 49 (show DOwns _ _ _ [] from OC) ((hD.below Bs).below bC) (by simp) (by omega) hcc (by omega)
  have b3 : Below ws.heap.size ws w3 := bC.trans ((Below.refl _ _).grown hg3 (by omega) (fun k hk => (World.ownsRow.lt OC k hk).1))
  obtain ⟨a3, n3, c3, rfl⟩ : ∃ a n c, v3 = .slice a n c := by
    rcases hO3.2 with ⟨e, _⟩ | ⟨g, cap, cur, e, _⟩
    · exact ⟨_, _, _, e⟩
    · exact ⟨_, _, _, e⟩
  have K1c := (bC.block w.heap.size (by omega)).trans K1s
  have K1t := (b3.block w.heap.size (by omega)).trans K1s
  have K2t := (b3.block (w.heap.size + 1) (by omega)).trans K2s
  have O1t := ownsRow_below O1s b3
  have B3 := Bs.trans (b3.mono Bs.size)
  have zz3 := b3.size
  have AP : ∀ i, (Value.slice a1 n1 c1).ownBlock = some i → ¬ (Value.slice a3 n3 c3).ownBlock = some i := fun i h1 h2 => by
    have := (O1s.lt i h1).2
    have := (hO3.lt i h2).1
    omega
  have K1u := heap_set K1t 4 (.slice a3 n3 c3)
  have K2u := (Below.heap_setCell w3 ⟨w.heap.size, 4, none⟩ (.slice a3 n3 c3) (w.heap.size + 1) (by simp)).trans K2t
  have O1u := ownsRow_set O1t (sb := w.heap.size) (by omega) 4 (.slice a3 n3 c3)
  have O3u := ownsRow_set (show w3.ownsRow _ _ _ _ _ _ from hO3) (sb := w.heap.size) (by omega) 4 (.slice a3 n3 c3)
  have Bu := B3.setCell (p := ⟨w.heap.size, 4, none⟩) (Nat.le_refl _) (.slice a3 n3 c3)
  have d3 : (ws.alloc (.cells #[] 86)).cell? ⟨w.heap.size, 4, none⟩ = some (.slice ac nc cc) := heap_cell K1c 4
  have c34 : w3.cell? ⟨w.heap.size, 4, none⟩ = some (.slice ac nc cc) := heap_cell K1t 4
  have f34 := heap_frozen K1t 4
  have cA3 : (W.alloc (.cells #[] 37)).cell? ⟨w.heap.size, 3, none⟩ = some (.slice ab nb cb) := heap_cell KA1 3
  obtain ⟨wu, hwu⟩ : ∃ wu, wu = w3.setCell ⟨w.heap.size, 4, none⟩ (.slice a3 n3 c3) := ⟨_, rfl⟩
  rw [← hwu] at K1u K2u O1u O3u Bu
  have u0 : wu.cell? ⟨w.heap.size, 0, none⟩ = some (.string lo) := heap_cell K1u 0
  have u1 : wu.cell? ⟨w.heap.size, 1, none⟩ = some (.string hi) := heap_cell K1u 1
  have u2 : wu.cell? ⟨w.heap.size, 2, none⟩ = some (.int .i64 r) := heap_cell K1u 2
  have u3 : wu.cell? ⟨w.heap.size, 3, none⟩ = some (.slice a1 n1 c1) := heap_cell K1u 3
  have u4 : wu.cell? ⟨w.heap.size, 4, none⟩ = some (.slice a3 n3 c3) := heap_cell K1u 4
  obtain ⟨t0, t1, t2, t3, t4⟩ := pg_cells5 K2u
  obtain ⟨f0, f1, f2, f3, f4⟩ := fz_cells K2u
  have hb1 : w.heap.size + 1 < W.heap.size := by omega
  have hb3 : w.heap.size + 1 < ws.heap.size := by omega
  have FE := hide (set5_owns O1u hb1 (.string lo) (.string hi) (.int .i64 r) (.slice a1 n1 c1) (.slice a3 n3 c3))
  have FD := hide (set5_owns O3u hb3 (.string lo) (.string hi) (.int .i64 r) (.slice a1 n1 c1) (.slice a3 n3 c3))
  have FB := hide (set5_below Bu (Nat.le_succ _) (.string lo) (.string hi) (.int .i64 r) (.slice a1 n1 c1) (.slice a3 n3 c3))
  have HR1 := hide hr1
  have HR3 := hide hr3
  have HWS := hide hws
  have HWU := hide hwu
  have HW := hide hW
  have HAP := hide AP
  have hle1 : w.heap.size ≤ W.heap.size := by omega
  have hle2 : w.heap.size ≤ ws.heap.size := by omega
  clear K1u K2u O1u O3u Bu K1t K2t O1t B3 hO3 hg3 b3 K1c bC OC zC O1s Bs K1s K2s K1 K2 hO1 KA1 B1 k1 b0 hE hD hr1 hr3 hws hwu hW AP hv1 hv3 zz3 zW1 hb1 hb3 z zs
  go_enter Try.func47, Try.ntmps47
  go_upto_region 1 with fail
  rw [← unhide HW]
  go_upto_region 2 with (at_builtin; refine wpAppE rfl _ _ 23 rfl _ _ _ w1 rfl rfl (unhide HR1) ?_)
  rw [← unhide HWS]
  clear cA3 c13 f13
  go_upto_region 3 with (at_builtin; refine wpAppE rfl _ _ 49 rfl _ _ _ w3 rfl rfl (unhide HR3) ?_)
  rw [← unhide HWU]
  clear d3 c34 f34
  go_wp2_with fail
  refine bodyPost_ret (v := pgv lo hi r a1 n1 c1 a3 n3 c3) (by simp [results, Try.results47, go_sem, *]) rfl ?_
  exact ⟨_, _, _, _, _, _, rfl, ⟨ownsRow_base (unhide FE) hle1, ownsRow_base (unhide FD) hle2, unhide HAP⟩, unhide FB⟩
end Go.Proofs.Ytbhkmmdcdfjbkaa

namespace Go.Proofs.Ytbhkmmdcdfjbkaa
open Go.RowKit

/-- A change as a value. -/
abbrev dv (d : DelD) : Value := .agg #[.int .i64 d.kind, .string d.k, .string d.v, .int .i64 d.to]
/-- The code of Extend. -/
def extC (lo hi : ByteArray) (r : Int) (es : List EntD) (ds : List DelD) (d : DelD) : Int :=
  if okPage lo hi r es ds = false then 1 else if okDel lo (highE hi ds) d = false then 4 else if ds.length = 12 then 7 else if 32 < (entsE es (ds ++ [d])).length then 6 else 0
/-- The page of Extend. -/
def extP (lo hi : ByteArray) (r : Int) (es : List EntD) (ds : List DelD) (d : DelD) : PageD := if extC lo hi r es ds d = 0 then ⟨lo, hi, r, es, ds ++ [d]⟩ else ⟨ByteArray.empty, ByteArray.empty, 0, [], []⟩
/-- The answer of Extend. -/
def ExtRes (lo hi : ByteArray) (r : Int) (es : List EntD) (ds : List DelD) (d : DelD) (w : World) (e : Ending) (w' : World) : Prop :=
  ∃ a n c a2 n2 c2, e = .returned (.tuple #[pgv (extP lo hi r es ds d).lo (extP lo hi r es ds d).hi (extP lo hi r es ds d).r a n c a2 n2 c2, .int .i64 (extC lo hi r es ds d)]) ∧ PgOwn w' w.heap.size a n c a2 n2 c2 (extP lo hi r es ds d).es (extP lo hi r es ds d).ds ∧ Below w.heap.size w w'
theorem own_apart {w : World} {B C : Nat} {v v2 : Value} {es : List EntD} {ds : List DelD} (h1 : EOwns w B v es) (h2 : DOwns w C v2 ds) : ∀ i, v.ownBlock = some i → ¬ v2.ownBlock = some i := by
  intro i e1 e2
  rcases h1.2 with ⟨rfl, _⟩ | ⟨g, cap, cur, rfl, _, hh, _⟩
  · cases e1
  rcases h2.2 with ⟨rfl, _⟩ | ⟨g2, cap2, cur2, rfl, _, hh2, _⟩
  · cases e2
  simp only [Value.ownBlock, Option.some.injEq] at e1 e2
  subst e1 e2
  rw [hh] at hh2
  injection hh2 with hh2
  injection hh2 with _ hh2
  exact absurd hh2 (by decide)
theorem pgown_nil (w : World) (B : Nat) : PgOwn w B none 0 0 none 0 0 [] [] := ⟨World.ownsRow_nil _ _ _ _, World.ownsRow_nil _ _ _ _, fun i h => by cases h⟩
theorem ext_bad {lo hi : ByteArray} {r : Int} {es : List EntD} {ds : List DelD} {d : DelD} {w w' : World} {k : Int} (h : extC lo hi r es ds d = k) (hk : k ≠ 0) (hb : Below w.heap.size w w') : ExtRes lo hi r es ds d w (.returned (.tuple #[pgv ByteArray.empty ByteArray.empty 0 none 0 0 none 0 0, .int .i64 k])) w' := by
  have e : extP lo hi r es ds d = ⟨ByteArray.empty, ByteArray.empty, 0, [], []⟩ := by unfold extP; rw [if_neg (by rw [h]; exact hk)]
  unfold ExtRes
  rw [e, h]
  exact ⟨none, 0, 0, none, 0, 0, rfl, pgown_nil _ _, hb⟩
theorem ext_good {lo hi : ByteArray} {r : Int} {es : List EntD} {ds : List DelD} {d : DelD} {w w' : World} {a : Option Addr} {n c : Nat} {a2 : Option Addr} {n2 c2 : Nat} (h : extC lo hi r es ds d = 0) (ho : EOwns w' w.heap.size (.slice a n c) es) (ho2 : DOwns w' w.heap.size (.slice a2 n2 c2) (ds ++ [d])) (hb : Below w.heap.size w w') : ExtRes lo hi r es ds d w (.returned (.tuple #[pgv lo hi r a n c a2 n2 c2, .int .i64 0])) w' := by
  have e : extP lo hi r es ds d = ⟨lo, hi, r, es, ds ++ [d]⟩ := by unfold extP; rw [if_pos h]
  unfold ExtRes
  rw [e, h]
  exact ⟨a, n, c, a2, n2, c2, rfl, ⟨ho, ho2, own_apart ho ho2⟩, hb⟩
theorem ext1 {lo hi : ByteArray} {r : Int} {es : List EntD} {ds : List DelD} {d : DelD} (h : okPage lo hi r es ds = false) : extC lo hi r es ds d = 1 := by unfold extC; rw [if_pos h]
theorem ext4 {lo hi : ByteArray} {r : Int} {es : List EntD} {ds : List DelD} {d : DelD} (h : okPage lo hi r es ds = true) (h1 : okDel lo (highE hi ds) d = false) : extC lo hi r es ds d = 4 := by unfold extC; rw [if_neg (by rw [h]; decide), if_pos h1]
theorem ext7 {lo hi : ByteArray} {r : Int} {es : List EntD} {ds : List DelD} {d : DelD} (h : okPage lo hi r es ds = true) (h1 : okDel lo (highE hi ds) d = true) (h2 : ds.length = 12) : extC lo hi r es ds d = 7 := by unfold extC; rw [if_neg (by rw [h]; decide), if_neg (by rw [h1]; decide), if_pos h2]
theorem ext6 {lo hi : ByteArray} {r : Int} {es : List EntD} {ds : List DelD} {d : DelD} (h : okPage lo hi r es ds = true) (h1 : okDel lo (highE hi ds) d = true) (h2 : ¬ ds.length = 12) (h3 : 32 < (entsE es (ds ++ [d])).length) : extC lo hi r es ds d = 6 := by unfold extC; rw [if_neg (by rw [h]; decide), if_neg (by rw [h1]; decide), if_neg h2, if_pos h3]
theorem ext0 {lo hi : ByteArray} {r : Int} {es : List EntD} {ds : List DelD} {d : DelD} (h : okPage lo hi r es ds = true) (h1 : okDel lo (highE hi ds) d = true) (h2 : ¬ ds.length = 12) (h3 : ¬ 32 < (entsE es (ds ++ [d])).length) : extC lo hi r es ds d = 0 := by unfold extC; rw [if_neg (by rw [h]; decide), if_neg (by rw [h1]; decide), if_neg h2, if_neg h3]
/-- Three blocks at a call's head: a page, a change and room for an answer. -/
theorem three_new (w : World) (v0 v1 v2 v3 v4 : Value) (d : DelD) : ∃ W, W = ((w.alloc (.cells #[v0, v1, v2, v3, v4] 51)).alloc (.cells #[.int .i64 d.kind, .string d.k, .string d.v, .int .i64 d.to] 86)).alloc (.cells #[.string ⟨#[]⟩, .string ⟨#[]⟩, .int .i64 0, .slice none 0 0, .slice none 0 0] 51) ∧ W.heap[w.heap.size]? = some (.cells #[v0, v1, v2, v3, v4] 51 (0, 0)) ∧
    W.heap[w.heap.size + 1]? = some (.cells #[.int .i64 d.kind, .string d.k, .string d.v, .int .i64 d.to] 86 (0, 0)) ∧ W.heap[w.heap.size + 1 + 1]? = some (.cells #[.string ⟨#[]⟩, .string ⟨#[]⟩, .int .i64 0, .slice none 0 0, .slice none 0 0] 51 (0, 0)) ∧ W.heap.size = w.heap.size + 1 + 1 + 1 ∧ Below w.heap.size w W := by
  obtain ⟨W1, h1⟩ : ∃ W1, W1 = w.alloc (.cells #[v0, v1, v2, v3, v4] 51) := ⟨_, rfl⟩
  have z1 : W1.heap.size = w.heap.size + 1 := by rw [h1]; simp
  have k1 : W1.heap[w.heap.size]? = some (.cells #[v0, v1, v2, v3, v4] 51 (0, 0)) := by rw [h1]; exact heap_new rfl _ _
  have b1 : Below w.heap.size w W1 := by rw [h1]; exact (Below.refl _ _).alloc (Nat.le_refl _) _
  obtain ⟨W2, h2⟩ : ∃ W2, W2 = W1.alloc (.cells #[.int .i64 d.kind, .string d.k, .string d.v, .int .i64 d.to] 86) := ⟨_, rfl⟩
  have z2 : W2.heap.size = w.heap.size + 1 + 1 := by rw [h2]; simp [z1]
  have k2 : W2.heap[w.heap.size + 1]? = some (.cells #[.int .i64 d.kind, .string d.k, .string d.v, .int .i64 d.to] 86 (0, 0)) := by rw [h2]; exact heap_new z1 _ _
  have b2 : Below W1.heap.size W1 W2 := by rw [h2]; exact (Below.refl _ _).alloc (Nat.le_refl _) _
  obtain ⟨W3, h3⟩ : ∃ W3, W3 = W2.alloc (.cells #[.string ⟨#[]⟩, .string ⟨#[]⟩, .int .i64 0, .slice none 0 0, .slice none 0 0] 51) := ⟨_, rfl⟩
  have b3 : Below W2.heap.size W2 W3 := by rw [h3]; exact (Below.refl _ _).alloc (Nat.le_refl _) _
  refine ⟨W3, by rw [h3, h2, h1], (b3.block _ (by omega)).trans ((b2.block _ (by omega)).trans k1), (b3.block _ (by omega)).trans k2, by rw [h3]; exact heap_new z2 _ _, by rw [h3]; simp [z2], ?_⟩
  exact b1.trans ((b2.mono (by omega)).trans (b3.mono (by omega)))
theorem d_cells {w : World} {b : Nat} {d : DelD} {t : TypeId} (h : w.heap[b]? = some (.cells #[.int .i64 d.kind, .string d.k, .string d.v, .int .i64 d.to] t (0, 0))) : w.cell? ⟨b, 0, none⟩ = some (.int .i64 d.kind) ∧ w.cell? ⟨b, 1, none⟩ = some (.string d.k) ∧ w.cell? ⟨b, 2, none⟩ = some (.string d.v) ∧ w.cell? ⟨b, 3, none⟩ = some (.int .i64 d.to) :=
  ⟨heap_cell h 0, heap_cell h 1, heap_cell h 2, heap_cell h 3⟩
theorem drow_one {w : World} {b : Nat} {d : DelD} {t : TypeId} (h : w.heap[b]? = some (.cells #[.int .i64 d.kind, .string d.k, .string d.v, .int .i64 d.to] t (0, 0))) : DRow w (some ⟨b, 0, none⟩) 1 [d] := by
  obtain ⟨h0, h1, h2, h3⟩ := d_cells h
  refine ⟨rfl, fun i hi => ⟨b, 0, rfl, ?_⟩⟩
  obtain rfl : i = 0 := by simp at hi; omega
  exact ⟨h0, h1, h2, h3⟩
end Go.Proofs.Ytbhkmmdcdfjbkaa

namespace Go.Proofs.Ytbhkmmdcdfjbkaa
open Go.RowKit

theorem ext_facts {lo hi : ByteArray} {r : Int} {es : List EntD} {ds : List DelD} {d : DelD} (h : extC lo hi r es ds d = 0) : okPage lo hi r es ds = true ∧ okDel lo (highE hi ds) d = true ∧ okPage lo hi r es (ds ++ [d]) = true := by
  unfold extC at h
  split at h
  · cases h
  · rename_i h1
    split at h
    · cases h
    · rename_i h2
      split at h
      · cases h
      · rename_i h3
        split at h
        · cases h
        · rename_i h4
          have k1 : okPage lo hi r es ds = true := by simpa using h1
          have k2 : okDel lo (highE hi ds) d = true := by simpa using h2
          obtain ⟨p1, p2, p3, p4, p5, p6⟩ := ok_parts k1
          refine ⟨k1, k2, ?_⟩
          unfold okPage
          simp only [Bool.and_eq_true, decide_eq_true_eq]
          refine ⟨⟨⟨⟨⟨p1, p2⟩, by simp; omega⟩, p4⟩, ?_⟩, by omega⟩
          refine okChain_true fun i hi' => ?_
          rw [okAtD_at hi']
          rw [List.length_append] at hi'
          by_cases hl : i < ds.length
          · rw [List.getElem_append_left hl, List.take_append_of_le_length (by omega)]
            unfold okChain at p5
            rw [List.all_eq_true] at p5
            have := p5 i (by simpa using hl)
            rw [okAtD_at hl] at this
            exact this
          · obtain rfl : i = ds.length := by simp at hi'; omega
            rw [List.take_append_of_le_length (Nat.le_refl _), List.take_length]
            simpa using k2
end Go.Proofs.Ytbhkmmdcdfjbkaa

namespace Go.Proofs.Ytbhkmmdcdfjbkaa
open Go.RowKit

structure AcT where
  kind : Int
  id : Int
  key : ByteArray
  val : ByteArray
/-- A slice of records as it reads. -/
def YRow (w : World) (a : Option Addr) (n : Nat) (ds : List AcT) : Prop :=
  ds.length = n ∧ ∀ i (hi : i < ds.length), ∃ b off, a = some ⟨b, off, none⟩ ∧ w.cell? ⟨b, off + i * 4, none⟩ = some (.int .i64 ds[i].kind) ∧ w.cell? ⟨b, off + i * 4 + 1, none⟩ = some (.int .i64 ds[i].id) ∧ w.cell? ⟨b, off + i * 4 + 2, none⟩ = some (.string ds[i].key) ∧ w.cell? ⟨b, off + i * 4 + 3, none⟩ = some (.string ds[i].val)
theorem YRow.below {w w' : World} {a : Option Addr} {n : Nat} {ds : List AcT} (h : YRow w a n ds) (hb : Below w.heap.size w w') : YRow w' a n ds := by
  refine ⟨h.1, fun i hi => ?_⟩
  obtain ⟨b, off, e, c0, c1, c2, c3⟩ := h.2 i hi
  have hbl : b < w.heap.size := cell_lt c0
  exact ⟨b, off, e, (hb.cell (p := ⟨b, off + i * 4, none⟩) hbl).trans c0, (hb.cell (p := ⟨b, off + i * 4 + 1, none⟩) hbl).trans c1, (hb.cell (p := ⟨b, off + i * 4 + 2, none⟩) hbl).trans c2, (hb.cell (p := ⟨b, off + i * 4 + 3, none⟩) hbl).trans c3⟩
/-- The cells of records. -/
def ycs : List AcT → List Value
  | [] => []
  | d :: r => .int .i64 d.kind :: .int .i64 d.id :: .string d.key :: .string d.val :: ycs r
theorem ycs_append : ∀ a b : List AcT, ycs (a ++ b) = ycs a ++ ycs b
  | [], _ => rfl
  | d :: r, b => by simp only [List.cons_append, ycs, ycs_append r b]
theorem ycs_at : ∀ (ds : List AcT) (i : Nat) (hi : i < ds.length), (ycs ds)[i * 4]? = some (.int .i64 ds[i].kind) ∧ (ycs ds)[i * 4 + 1]? = some (.int .i64 ds[i].id) ∧ (ycs ds)[i * 4 + 2]? = some (.string ds[i].key) ∧ (ycs ds)[i * 4 + 3]? = some (.string ds[i].val)
  | [], _, hi => by simp at hi
  | d :: r, 0, _ => ⟨rfl, rfl, rfl, rfl⟩
  | d :: r, i + 1, hi => by
    have h := ycs_at r i (by simpa using hi)
    rw [show (i + 1) * 4 = i * 4 + 1 + 1 + 1 + 1 by omega, show i * 4 + 1 + 1 + 1 + 1 + 2 = i * 4 + 2 + 1 + 1 + 1 + 1 by omega, show i * 4 + 1 + 1 + 1 + 1 + 3 = i * 4 + 3 + 1 + 1 + 1 + 1 by omega]
    simp only [ycs, List.getElem?_cons_succ, List.getElem_cons_succ]
    exact h
/-- A slice of records that the call owns from block B on. -/
abbrev YOwns (w : World) (B : Nat) (v : Value) (ds : List AcT) : Prop := w.ownsRow B 35 4 v ds.length (ycs ds)
theorem yrow_of_owns {w : World} {B n c : Nat} {a : Option Addr} {ds : List AcT} (h : YOwns w B (.slice a n c) ds) : YRow w a n ds := by
  have h' := h
  obtain ⟨hl, h⟩ := h
  rcases h with ⟨e, hn⟩ | ⟨g, cap, cur, e, hb, hh, hc, hm, hs, ht⟩
  · injection e with e1 e2 e3
    subst e1 e2 e3
    exact ⟨hn, fun i hi => absurd hi (by omega)⟩
  · injection e with e1 e2 e3
    subst e1 e2 e3
    refine ⟨rfl, fun i hi => ⟨g, 0, rfl, ?_, ?_, ?_, ?_⟩⟩
    · rw [Nat.zero_add, h'.cellAt (i * 4) (by omega), (ycs_at ds i hi).1]
    · rw [Nat.zero_add, h'.cellAt (i * 4 + 1) (by omega), (ycs_at ds i hi).2.1]
    · rw [Nat.zero_add, h'.cellAt (i * 4 + 2) (by omega), (ycs_at ds i hi).2.2.1]
    · rw [Nat.zero_add, h'.cellAt (i * 4 + 3) (by omega), (ycs_at ds i hi).2.2.2]
end Go.Proofs.Ytbhkmmdcdfjbkaa

namespace Go.Proofs.Ytbhkmmdcdfjbkaa
open Go.RowKit

theorem getP_set {ps : List (Option PageD)} {k : Nat} (hk : k < ps.length) (q : Option PageD) (x : Int) : getP (ps.set k q) x = if x = (k : Int) then q else getP ps x := by
  by_cases h0 : x < 0
  · rw [getP_neg h0, getP_neg h0, if_neg (by omega)]
  obtain ⟨j, rfl⟩ : ∃ j : Nat, x = (j : Int) := ⟨x.toNat, by omega⟩
  rw [getP_nat, getP_nat]
  by_cases e : j = k
  · subst e
    rw [if_pos rfl, List.getElem?_set_self hk]
    rfl
  · rw [if_neg (by omega), List.getElem?_set_ne (fun h => e h.symm)]
theorem getP_snoc (ps : List (Option PageD)) (q : Option PageD) (x : Int) : getP (ps ++ [q]) x = if x = (ps.length : Int) then q else getP ps x := by
  by_cases h0 : x < 0
  · rw [getP_neg h0, getP_neg h0, if_neg (by omega)]
  obtain ⟨j, rfl⟩ : ∃ j : Nat, x = (j : Int) := ⟨x.toNat, by omega⟩
  rw [getP_nat, getP_nat]
  by_cases e : j = ps.length
  · subst e
    rw [if_pos rfl, List.getElem?_append_right (Nat.le_refl _), Nat.sub_self]
    rfl
  · rw [if_neg (by omega)]
    by_cases h : j < ps.length
    · rw [List.getElem?_append_left h]
    · rw [List.getElem?_append_right (by omega), List.getElem?_eq_none (show [q].length ≤ j - ps.length by simp; omega), List.getElem?_eq_none (by omega)]
theorem mem_getP {ps : List (Option PageD)} {p : PageD} (h : some p ∈ ps) : ∃ k : Nat, getP ps (k : Int) = some p := by
  obtain ⟨k, hk, e⟩ := List.getElem_of_mem h
  exact ⟨k, by rw [getP_nat, List.getElem?_eq_getElem hk, e]; rfl⟩
theorem getP_lt {ps : List (Option PageD)} {x : Int} {p : PageD} (h : getP ps x = some p) : ∃ k : Nat, x = (k : Int) ∧ k < ps.length := by
  obtain ⟨k, rfl, hk⟩ := getP_at h
  exact ⟨k, rfl, (List.getElem?_eq_some_iff.1 hk).1⟩
structure Tre (ps : List (Option PageD)) (idx : List RefD) : Prop where
  len : 1 ≤ ps.length ∧ ps.length ≤ 30
  ok : ∀ x p, getP ps x = some p → okP p = true
  zero : ∃ p, getP ps 0 = some p ∧ p.lo = ⟨#[]⟩
  next : ∀ x p, getP ps x = some p → NextP ps p
  sep : ∀ x y p q, getP ps x = some p → getP ps y = some q → InP p q.lo → x = y
  rise : RiseR idx
  refs : ∀ r ∈ idx, ∃ p, getP ps r.id = some p ∧ p.lo = r.low
  first : ∃ h : 0 < idx.length, idx[0].low = ⟨#[]⟩ ∧ idx[0].id = 0
theorem count_one {α : Type} {P : α → Bool} : ∀ {l : List α}, (∀ (i j : Nat) (x y : α), l[i]? = some x → l[j]? = some y → P x = true → P y = true → i = j) → l.countP P ≤ 1
  | [], _ => by simp
  | z :: l, h => by
    rw [List.countP_cons]
    cases hz : P z with
    | true =>
      have : l.countP P = 0 := by
        rw [List.countP_eq_zero]
        intro a ha hp
        obtain ⟨j, hj, e⟩ := List.getElem_of_mem ha
        have := h 0 (j + 1) z a rfl (by rw [List.getElem?_cons_succ, List.getElem?_eq_getElem hj, e]) hz hp
        omega
      rw [if_pos rfl]
      omega
    | false =>
      have := count_one (P := P) (l := l) fun i j x y hx hy px py => by
        have := h (i + 1) (j + 1) x y (by simpa using hx) (by simpa using hy) px py
        omega
      simp
      omega
theorem at_getP {ps : List (Option PageD)} {i : Nat} {q : PageD} (h : ps[i]? = some (some q)) : getP ps (i : Int) = some q := by rw [getP_nat, h]; rfl
theorem Tre.go_from {ps : List (Option PageD)} {idx : List RefD} (t : Tre ps idx) : ∀ (m : Nat) (id : Int) (p : PageD), getP ps id = some p → cntGe ps p.lo = m → goT ps m id p.lo = true
  | 0, _, p, hg, hm => by have := cntGe_here (getP_mem hg); omega
  | m + 1, id, p, hg, hm => by
    rw [goT_next hg rfl]
    rcases t.next id p hg with ⟨hr, he⟩ | ⟨hlt, p2, hg2, e2⟩
    · have h1 : cntGe ps p.lo ≤ 1 := by
        refine count_one fun i j x y hx hy px py => ?_
        cases x with
        | none => cases px
        | some x =>
          cases y with
          | none => cases py
          | some y =>
            rw [geP_some, Bool.not_eq_true'] at px py
            have a := t.sep id i p x hg (at_getP hx) ⟨px, by unfold underK; rw [he]; rfl⟩
            have b := t.sep id j p y hg (at_getP hy) ⟨py, by unfold underK; rw [he]; rfl⟩
            omega
      obtain rfl : m = 0 := by omega
      unfold goT
      rw [hr, he]
      rfl
    · have hcb := count_bt p.lo (hiP p) hlt ps
      have hpos : 1 ≤ ps.countP (btP p.lo (hiP p)) := List.countP_pos_iff.2 ⟨_, getP_mem hg, by unfold btP; rw [geP_some, geP_some, ltK_irr, hlt]; rfl⟩
      have h1 : ps.countP (btP p.lo (hiP p)) ≤ 1 := by
        refine count_one fun i j x y hx hy px py => ?_
        cases x with
        | none => cases px
        | some x =>
          cases y with
          | none => cases py
          | some y =>
            unfold btP at px py
            rw [geP_some, geP_some, Bool.and_eq_true, Bool.not_eq_true', Bool.not_not] at px py
            have a := t.sep id i p x hg (at_getP hx) ⟨px.1, by unfold underK; rw [px.2]; simp⟩
            have b := t.sep id j p y hg (at_getP hy) ⟨py.1, by unfold underK; rw [py.2]; simp⟩
            omega
      rw [← e2]
      exact Tre.go_from t m _ p2 hg2 (by rw [e2]; omega)
theorem cntGe_all (ps : List (Option PageD)) : cntGe ps ⟨#[]⟩ = manyT ps := by
  unfold cntGe manyT
  refine List.countP_congr fun q _ => ?_
  cases q with
  | none => simp [geP]
  | some p => rw [geP_some, ltK_none]; simp
theorem refs_count {ps : List (Option PageD)} : ∀ (idx : List RefD), RiseR idx → (∀ r ∈ idx, ∃ p, getP ps r.id = some p ∧ p.lo = r.low) → ∀ h : 0 < idx.length, idx.length ≤ cntGe ps idx[0].low
  | [], _, _, h => absurd h (by simp)
  | [r], _, hr, _ => by
    obtain ⟨p, hg, hl⟩ := hr r (List.mem_cons_self ..)
    have := cntGe_here (getP_mem hg)
    rw [hl] at this
    exact this
  | r :: s :: rest, hR, hr, _ => by
    have hR2 : RiseR (s :: rest) := (List.pairwise_cons.1 hR).2
    have ih := refs_count (s :: rest) hR2 (fun x hx => hr x (List.mem_cons_of_mem _ hx)) (by simp)
    obtain ⟨p, hg, hl⟩ := hr r (List.mem_cons_self ..)
    have hlt : ltK p.lo s.low = true := by
      rw [hl]
      exact (List.pairwise_cons.1 hR).1 (refE s) (List.mem_cons_self ..)
    have := cntGe_next (getP_mem hg) hlt
    rw [hl] at this
    simp only [List.getElem_cons_zero, List.length_cons] at ih ⊢
    omega
theorem Tre.good {ps : List (Option PageD)} {idx : List RefD} (t : Tre ps idx) : GoodT ps idx := by
  have hgo : goT ps (manyT ps) 0 ⟨#[]⟩ = true := by
    obtain ⟨p, hg, hl⟩ := t.zero
    have := t.go_from (manyT ps) 0 p hg (by rw [hl]; exact cntGe_all ps)
    rw [hl] at this
    exact this
  refine ⟨t.len, fun p hp => ?_, hgo, okIdx_true fun i hi => ?_, t.first, ?_⟩
  · obtain ⟨k, hk⟩ := mem_getP hp
    exact t.ok _ p hk
  · obtain ⟨p, hg, hl⟩ := t.refs _ (List.getElem_mem hi)
    refine okRef_here hi hg hl fun h0 => ?_
    have := Rise.lt (es := idx.map refE) t.rise (i := i - 1) (j := i) (by simpa using hi) (by omega)
    simpa [refE] using this
  · obtain ⟨h0, _⟩ := t.first
    have h1 := refs_count idx t.rise t.refs h0
    have h2 := cntGe_many ps idx[0].low
    have h3 := manyT_le ps
    omega
/-- A page in another's place, with the same bounds. -/
theorem Tre.put {ps : List (Option PageD)} {idx : List RefD} (t : Tre ps idx) {k : Nat} {p p' : PageD} (hg : getP ps (k : Int) = some p) (hok : okP p' = true) (h1 : p'.lo = p.lo) (h2 : hiP p' = hiP p) (h3 : riP p' = riP p) : Tre (ps.set k (some p')) idx := by
  obtain ⟨k', e, hk⟩ := getP_lt hg
  obtain rfl : k = k' := by omega
  have old : ∀ x q, getP (ps.set k (some p')) x = some q → ∃ q0, getP ps x = some q0 ∧ q.lo = q0.lo ∧ hiP q = hiP q0 ∧ riP q = riP q0 ∧ okP q = true := fun x q h => by
    rw [getP_set hk] at h
    split at h
    · rename_i e
      injection h with h
      subst h e
      exact ⟨p, hg, h1, h2, h3, hok⟩
    · exact ⟨q, h, rfl, rfl, rfl, t.ok x q h⟩
  have new : ∀ x q0, getP ps x = some q0 → ∃ q, getP (ps.set k (some p')) x = some q ∧ q.lo = q0.lo := fun x q0 h => by
    rw [getP_set hk]
    split
    · rename_i e
      rw [e, hg] at h
      injection h with h
      subst h
      exact ⟨p', rfl, h1⟩
    · exact ⟨q0, h, rfl⟩
  refine ⟨by rw [List.length_set]; exact t.len, fun x q h => ?_, ?_, fun x q h => ?_, fun x y q r hq hr hi => ?_, t.rise, fun r hr => ?_, t.first⟩
  · obtain ⟨_, _, _, _, _, ho⟩ := old x q h; exact ho
  · obtain ⟨q0, h, hl⟩ := t.zero
    obtain ⟨q, hq, hl2⟩ := new 0 q0 h
    exact ⟨q, hq, hl2.trans hl⟩
  · obtain ⟨q0, h0, a1, a2, a3, _⟩ := old x q h
    rcases t.next x q0 h0 with ⟨b1, b2⟩ | ⟨b1, r, b2, b3⟩
    · exact .inl ⟨a3.trans b1, by rw [a2]; exact b2⟩
    · obtain ⟨r', hr, hl⟩ := new _ r b2
      exact .inr ⟨by rw [a1, a2]; exact b1, r', by rw [a3]; exact hr, by rw [hl, a2]; exact b3⟩
  · obtain ⟨q0, h0, a1, a2, _⟩ := old x q hq
    obtain ⟨r0, g0, c1, _⟩ := old y r hr
    exact t.sep x y q0 r0 h0 g0 ⟨by rw [← a1, ← c1]; exact hi.1, by rw [← a2, ← c1]; exact hi.2⟩
  · obtain ⟨q0, h0, hl⟩ := t.refs r hr
    obtain ⟨q, hq, hl2⟩ := new _ q0 h0
    exact ⟨q, hq, hl2.trans hl⟩
/-- A page put together. -/
def conPg (p : PageD) : PageD := ⟨p.lo, hiP p, riP p, enP p, []⟩
theorem conPg_ok {p : PageD} (h : okP p = true) : okP (conPg p) = true := conPage_ok h
/-- A page with one more change. -/
def addD (p : PageD) (d : DelD) : PageD := ⟨p.lo, p.hi, p.r, p.es, p.ds ++ [d]⟩
theorem addD_hi {p : PageD} {d : DelD} : hiP (addD p d) = if d.kind = 3 then d.k else hiP p := highE_snoc _ _ _
theorem addD_ri {p : PageD} {d : DelD} : riP (addD p d) = if d.kind = 3 then d.to else riP p := rightE_snoc _ _ _
theorem addD_en {p : PageD} {d : DelD} : enP (addD p d) = stepE (enP p) d := entsE_snoc _ _ _
theorem addD_ok {p : PageD} {d : DelD} (h : okP p = true) (hd : okDel p.lo (hiP p) d = true) (hc : p.ds.length < 12) (hl : (enP (addD p d)).length ≤ 32) : extC p.lo p.hi p.r p.es p.ds d = 0 ∧ okP (addD p d) = true := by
  have e : extC p.lo p.hi p.r p.es p.ds d = 0 := by
    unfold extC
    rw [if_neg (by rw [show okPage p.lo p.hi p.r p.es p.ds = true from h]; decide), if_neg (by rw [hd]; decide), if_neg (by omega), if_neg (by have : (enP (addD p d)).length = (entsE p.es (p.ds ++ [d])).length := rfl; omega)]
  exact ⟨e, (ext_facts e).2.2⟩
theorem addD_full {p : PageD} {d : DelD} (h : okP p = true) (hd : okDel p.lo (hiP p) d = true) (hc : p.ds.length < 12) (hl : 32 < (enP (addD p d)).length) : extC p.lo p.hi p.r p.es p.ds d = 6 := by
  unfold extC
  rw [if_neg (by rw [show okPage p.lo p.hi p.r p.es p.ds = true from h]; decide), if_neg (by rw [hd]; decide), if_neg (by omega), if_pos (by have : (enP (addD p d)).length = (entsE p.es (p.ds ++ [d])).length := rfl; omega)]
/-- What a step leaves: the pages, the index, the number that is told, a code. -/
structure StR where
  ps : List (Option PageD)
  idx : List RefD
  told : Int
  code : Int
/-- The change of a put or a drop. -/
def chgD (a : AcT) : DelD := if a.kind = 1 then ⟨1, a.key, a.val, 0⟩ else ⟨2, a.key, ⟨#[]⟩, 0⟩
/-- The page that a change goes to, put together where its chain is full. -/
def roomP (p : PageD) : PageD := if p.ds.length = 12 then conPg p else p
def chgT (ps : List (Option PageD)) (idx : List RefD) (a : AcT) : StR :=
  if keyK a.key = false ∨ valK a.val = false then ⟨ps, idx, 0, 11⟩
  else match getP ps (downT ps idx a.key).1 with
    | none => ⟨ps, idx, 0, 11⟩
    | some p => if 32 < (enP (addD (roomP p) (chgD a))).length then ⟨ps, idx, 0, 7⟩ else ⟨ps.set (downT ps idx a.key).1.toNat (some (addD (roomP p) (chgD a))), idx, (downT ps idx a.key).1, 0⟩
theorem roomP_ok {p : PageD} (h : okP p = true) : okP (roomP p) = true ∧ (roomP p).lo = p.lo ∧ hiP (roomP p) = hiP p ∧ riP (roomP p) = riP p ∧ enP (roomP p) = enP p ∧ (roomP p).ds.length < 12 := by
  unfold roomP
  split
  · exact ⟨conPg_ok h, rfl, rfl, rfl, rfl, by show 0 < 12; omega⟩
  · have := (ok_parts h).2.2.1
    exact ⟨h, rfl, rfl, rfl, rfl, by omega⟩
theorem isE_none : (⟨#[]⟩ : ByteArray).toList.isEmpty = true := by rw [ByteArray.toList_eq]; rfl
theorem chgD_ok {p : PageD} {a : AcT} (hk : keyK a.key = true) (hv : valK a.val = true) (h1 : ltK a.key p.lo = false) (h2 : underK a.key (hiP p) = true) : okDel p.lo (hiP p) (chgD a) = true := by
  have hin : inK p.lo (hiP p) a.key = true := by unfold inK; rw [h1]; exact h2
  unfold chgD
  split
  · unfold okDel
    simp only
    rw [hk, hin, hv]
    rfl
  · unfold okDel
    simp only
    rw [hk, hin, isE_none]
    rfl
theorem chgD_kind (a : AcT) : (chgD a).kind ≠ 3 := by
  unfold chgD
  split
  · show (1 : Int) ≠ 3; omega
  · show (2 : Int) ≠ 3; omega
theorem chgT_tre {ps : List (Option PageD)} {idx : List RefD} (t : Tre ps idx) (a : AcT) : Tre (chgT ps idx a).ps (chgT ps idx a).idx := by
  unfold chgT
  split
  · exact t
  · rename_i hkv
    obtain ⟨p, hg, h1, h2, _⟩ := t.good.down a.key
    rw [hg]
    simp only
    split
    · exact t
    · rename_i hl
      obtain ⟨k, hk⟩ : ∃ k : Nat, (downT ps idx a.key).1 = (k : Int) := by
        obtain ⟨k, e, _⟩ := getP_lt hg
        exact ⟨k, e⟩
      rw [hk] at hg ⊢
      rw [Int.toNat_natCast]
      have hokp := t.ok _ p hg
      obtain ⟨r1, r2, r3, r4, _, r6⟩ := roomP_ok hokp
      have hd : okDel (roomP p).lo (hiP (roomP p)) (chgD a) = true := by
        rw [r2, r3]
        exact chgD_ok (by cases h : keyK a.key <;> simp_all) (by cases h : valK a.val <;> simp_all) h1 h2
      refine t.put hg (addD_ok r1 hd r6 (by omega)).2 r2 ?_ ?_
      · rw [addD_hi, if_neg (chgD_kind a)]; exact r3
      · rw [addD_ri, if_neg (chgD_kind a)]; exact r4
def conT (ps : List (Option PageD)) (idx : List RefD) (id : Nat) (p : PageD) : StR := ⟨ps.set id (some (conPg p)), idx, (p.ds.length : Int), 0⟩
theorem conT_tre {ps : List (Option PageD)} {idx : List RefD} (t : Tre ps idx) {id : Nat} {p : PageD} (h : getP ps (id : Int) = some p) : Tre (conT ps idx id p).ps (conT ps idx id p).idx :=
  t.put h (conPg_ok (t.ok _ p h)) rfl rfl rfl
end Go.Proofs.Ytbhkmmdcdfjbkaa
