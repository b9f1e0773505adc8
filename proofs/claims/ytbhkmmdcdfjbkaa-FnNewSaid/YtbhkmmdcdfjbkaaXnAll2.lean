/-
  TpB, MtH, PpT, PpE, JxE, Takes, GdO, TrV, PpD, PpM, JxM, TmA, TqA, PageX, TqB, TsI, TqC in one.
-/
import Derived.Test.YtbhkmmdcdfjbkaaXnAll1
import Derived.WalkMore
import Derived.ScopeJumps
import Derived.Test.YtbhkmmdcdfjbkaaPpA
import Derived.Test.YtbhkmmdcdfjbkaaWrT
import Derived.Test.YtbhkmmdcdfjbkaaJxC
import Derived.Deep.RegionWith
import Derived.Test.YtbhkmmdcdfjbkaaRowB
import Derived.Deep.RegionHeld3
import Derived.Test.YtbhkmmdcdfjbkaaGdA
import Derived.Test.YtbhkmmdcdfjbkaaMtE
import Derived.Test.YtbhkmmdcdfjbkaaJxT
import Derived.Test.YtbhkmmdcdfjbkaaRowR
import Derived.Test.YtbhkmmdcdfjbkaaMtD
namespace Go.Proofs.Ytbhkmmdcdfjbkaa
open Go.RowKit

theorem ok_con {p : PageD} (h : okP p = true) : okBounds p.lo (hiP p) (riP p) = true ∧ BaseOK p.lo (hiP p) (enP p) := by
  obtain ⟨p1, _, _, p4, p5, _⟩ := ok_parts h
  have := con_inv p1 (baseOK_of p4) p5 p.ds.length (Nat.le_refl _)
  rwa [List.take_length] at this
theorem ok_mk {lo hi : ByteArray} {r : Int} {es : List EntD} (h1 : okBounds lo hi r = true) (h2 : BaseOK lo hi es) (h3 : es.length ≤ 32) : okP ⟨lo, hi, r, es, []⟩ = true := by
  unfold okP okPage
  simp only [Bool.and_eq_true, decide_eq_true_eq]
  exact ⟨⟨⟨⟨⟨h1, h3⟩, by simp⟩, okBase_of h2⟩, okChain_true fun i hi' => by simp at hi'⟩, h3⟩
theorem bounds_parts {lo hi : ByteArray} {r : Int} (h : okBounds lo hi r = true) : lo.size ≤ 40 ∧ hi.size ≤ 40 ∧ ((hi.toList.isEmpty = true ∧ r = -1) ∨ (hi.toList.isEmpty = false ∧ ltK lo hi = true ∧ idK r = true)) := by
  unfold okBounds at h
  simp only [Bool.and_eq_true, decide_eq_true_eq] at h
  refine ⟨h.1.1, h.1.2, ?_⟩
  cases he : hi.toList.isEmpty with
  | true => rw [he, if_pos rfl] at h; exact .inl ⟨rfl, of_decide_eq_true h.2⟩
  | false => rw [he, if_neg (by decide), Bool.and_eq_true] at h; exact .inr ⟨rfl, h.2.1, h.2.2⟩
theorem bounds_mk {lo hi : ByteArray} {r : Int} (h1 : lo.size ≤ 40) (h2 : hi.size ≤ 40) (h3 : (hi.toList.isEmpty = true ∧ r = -1) ∨ (hi.toList.isEmpty = false ∧ ltK lo hi = true ∧ idK r = true)) : okBounds lo hi r = true := by
  unfold okBounds
  simp only [Bool.and_eq_true, decide_eq_true_eq]
  refine ⟨⟨h1, h2⟩, ?_⟩
  rcases h3 with ⟨he, hr⟩ | ⟨he, hl, hr⟩
  · rw [he, if_pos rfl, decide_eq_true hr]
  · rw [he, if_neg (by decide), hl, hr]; rfl
theorem okEnt_parts {lo hi : ByteArray} {e : EntD} (h : okEnt lo hi e = true) : keyK e.k = true ∧ valK e.v = true ∧ ltK e.k lo = false ∧ underK e.k hi = true := by
  unfold okEnt inK at h
  simp only [Bool.and_eq_true, Bool.not_eq_true'] at h
  exact ⟨h.1.1, h.1.2, h.2.1, h.2.2⟩
theorem okEnt_mk {lo hi : ByteArray} {e : EntD} (h1 : keyK e.k = true) (h2 : valK e.v = true) (h3 : ltK e.k lo = false) (h4 : underK e.k hi = true) : okEnt lo hi e = true := by
  unfold okEnt inK
  rw [h1, h2, h3]
  exact h4
theorem pos_self {es : List EntD} (h : Rise es) {j : Nat} (hj : j < es.length) : pos es es[j].k = j :=
  (pos_uni es es[j].k j (by omega) (fun i hi hij => h.lt hj hij) (fun _ => ltK_irr _)).symm
/-- The key in the middle of a page. -/
def midK (p : PageD) : ByteArray := match (enP p)[(enP p).length / 2]? with
  | some e => e.k
  | none => ⟨#[]⟩
theorem midK_eq {p : PageD} (h : 2 ≤ (enP p).length) : midK p = ((enP p)[(enP p).length / 2]'(by omega)).k := by
  unfold midK
  rw [List.getElem?_eq_getElem (show (enP p).length / 2 < (enP p).length by omega)]
def spD (k : ByteArray) (n : Nat) : DelD := ⟨3, k, ⟨#[]⟩, (n : Int)⟩
/-- The page to the right of one that is split. -/
def newPg (p : PageD) : PageD := ⟨midK p, hiP p, riP p, (enP p).drop ((enP p).length / 2), []⟩
theorem mid_facts {p : PageD} (h : okP p = true) (h2 : 2 ≤ (enP p).length) : keyK (midK p) = true ∧ ltK p.lo (midK p) = true ∧ underK (midK p) (hiP p) = true ∧ ltK (midK p) p.lo = false ∧ stepE (enP p) (spD (midK p) 0) = (enP p).take ((enP p).length / 2) := by
  obtain ⟨_, hr, hb⟩ := ok_con h
  have hj : (enP p).length / 2 < (enP p).length := by omega
  obtain ⟨a1, _, a3, a4⟩ := okEnt_parts (hb _ (List.getElem_mem hj))
  obtain ⟨_, _, c3, _⟩ := okEnt_parts (hb _ (List.getElem_mem (show 0 < (enP p).length by omega)))
  have hlt := hr.lt hj (show 0 < (enP p).length / 2 by omega)
  rw [midK_eq h2]
  refine ⟨a1, ltK_of_le c3 hlt, a4, a3, ?_⟩
  rw [stepE_split rfl]
  show (enP p).take (pos (enP p) ((enP p)[(enP p).length / 2]).k) = _
  rw [pos_self hr hj]
theorem spD_ok {p : PageD} (h : okP p = true) (h2 : 2 ≤ (enP p).length) {n : Nat} (hn : n ≤ 1000) : okDel p.lo (hiP p) (spD (midK p) n) = true := by
  obtain ⟨a1, a2, a3, a4, _⟩ := mid_facts h h2
  have hin : inK p.lo (hiP p) (midK p) = true := by unfold inK; rw [a4]; exact a3
  have hid : idK (n : Int) = true := by unfold idK; exact decide_eq_true ⟨by omega, by omega⟩
  unfold okDel spD
  simp only
  rw [a1, hin, a2, isE_none, hid]
  rfl
theorem spl_en {p : PageD} (h : okP p = true) (h2 : 2 ≤ (enP p).length) (n : Nat) : enP (addD p (spD (midK p) n)) = (enP p).take ((enP p).length / 2) := by
  rw [addD_en, ← (mid_facts h h2).2.2.2.2]
  rfl
theorem spl_ok {p : PageD} (h : okP p = true) (h2 : 2 ≤ (enP p).length) {n : Nat} (hn : n ≤ 1000) (hc : p.ds.length ≠ 12) : extC p.lo p.hi p.r p.es p.ds (spD (midK p) n) = 0 ∧ okP (addD p (spD (midK p) n)) = true := by
  have hc2 := (ok_parts h).2.2.1
  have hl := enP_len h
  refine addD_ok h (spD_ok h h2 hn) (by omega) ?_
  rw [spl_en h h2, List.length_take]
  omega
theorem newPg_ok {p : PageD} (h : okP p = true) (h2 : 2 ≤ (enP p).length) : okP (newPg p) = true := by
  obtain ⟨hbo, hr, hb⟩ := ok_con h
  obtain ⟨a1, a2, a3, a4, _⟩ := mid_facts h h2
  obtain ⟨b1, b2, b3⟩ := bounds_parts hbo
  have hj : (enP p).length / 2 < (enP p).length := by omega
  have hl := enP_len h
  refine ok_mk (bounds_mk ?_ b2 ?_) ⟨?_, fun e he => ?_⟩ (by rw [List.length_drop]; omega)
  · unfold keyK at a1; simp at a1; omega
  · rcases b3 with b3 | ⟨c1, _, c3⟩
    · exact .inl b3
    · refine .inr ⟨c1, ?_, c3⟩
      unfold underK at a3
      rw [c1] at a3
      exact a3
  · exact List.Pairwise.drop hr
  · obtain ⟨e1, e2, _, e4⟩ := okEnt_parts (hb e (List.mem_of_mem_drop he))
    refine okEnt_mk e1 e2 ?_ e4
    rw [midK_eq h2]
    obtain ⟨i, hi, ei⟩ := List.getElem_of_mem he
    rw [List.getElem_drop] at ei
    rw [← ei]
    rw [List.length_drop] at hi
    rcases Nat.eq_zero_or_pos i with e0 | e0
    · subst e0; exact ltK_irr _
    · exact ltK_asymm (hr.lt (show (enP p).length / 2 + i < (enP p).length by omega) (by omega))
def splT (ps : List (Option PageD)) (idx : List RefD) (id : Nat) (p : PageD) : StR :=
  if (enP p).length < 2 then ⟨ps, idx, 0, 5⟩
  else if p.ds.length = 12 ∨ ps.length = 30 then ⟨ps, idx, 0, 7⟩
  else ⟨ps.set id (some (addD p (spD (midK p) ps.length))) ++ [some (newPg p)], idx, (ps.length : Int), 0⟩
theorem splT_tre {ps : List (Option PageD)} {idx : List RefD} (t : Tre ps idx) {id : Nat} {p : PageD} (hg : getP ps (id : Int) = some p) : Tre (splT ps idx id p).ps (splT ps idx id p).idx := by
  unfold splT
  split
  · exact t
  · rename_i h2
    split
    · exact t
    · rename_i hc
      have h2 : 2 ≤ (enP p).length := by omega
      have hlen := t.len
      obtain ⟨k', e, hk⟩ := getP_lt hg
      obtain rfl : id = k' := by omega
      have hokp := t.ok _ p hg
      obtain ⟨a1, a2, a3, a4, _⟩ := mid_facts hokp h2
      have hsp := spl_ok hokp h2 (n := ps.length) (by omega) (fun e => hc (.inl e))
      have hnw := newPg_ok hokp h2
      obtain ⟨p', hp'⟩ : ∃ p', p' = addD p (spD (midK p) ps.length) := ⟨_, rfl⟩
      obtain ⟨q, hq⟩ : ∃ q, q = newPg p := ⟨_, rfl⟩
      have l1 : p'.lo = p.lo := by rw [hp']; rfl
      have l2 : hiP p' = midK p := by rw [hp', addD_hi]; rfl
      have l3 : riP p' = (ps.length : Int) := by rw [hp', addD_ri]; rfl
      have m1 : q.lo = midK p := by rw [hq]; rfl
      have m2 : hiP q = hiP p := by rw [hq]; rfl
      have m3 : riP q = riP p := by rw [hq]; rfl
      rw [← hp'] at hsp
      rw [← hq] at hnw
      show Tre (ps.set id (some (addD p (spD (midK p) ps.length))) ++ [some (newPg p)]) idx
      rw [← hp', ← hq]
      clear hp' hq
      have gp : ∀ x, getP (ps.set id (some p') ++ [some q]) x = if x = (ps.length : Int) then some q else if x = (id : Int) then some p' else getP ps x := fun x => by
        rw [getP_snoc, List.length_set, getP_set hk]
      have new : ∀ x r0, getP ps x = some r0 → ∃ r, getP (ps.set id (some p') ++ [some q]) x = some r ∧ r.lo = r0.lo := fun x r0 h => by
        obtain ⟨j, rfl, hj⟩ := getP_lt h
        rw [gp, if_neg (by omega)]
        split
        · rename_i e
          rw [e, hg] at h
          injection h with h
          subst h
          exact ⟨p', rfl, l1⟩
        · exact ⟨r0, h, rfl⟩
      have inp : ∀ v, ltK v (midK p) = false → underK v (hiP p) = true → InP p v := fun v h3 h4 => ⟨ltK_le h3 a4, h4⟩
      have inl' : ∀ v, ltK v p.lo = false → ltK v (midK p) = true → InP p v := fun v h3 h4 => by
        refine ⟨h3, ?_⟩
        unfold underK at a3 ⊢
        cases he : (hiP p).toList.isEmpty with
        | true => rfl
        | false =>
          rw [he] at a3
          rw [ltK_trans h4 a3]
          rfl
      have und : ∀ v, underK v (hiP p') = true → ltK v (midK p) = true := fun v h => by
        rw [l2] at h
        unfold underK at h
        rw [isE_key a1] at h
        exact h
      refine ⟨?_, fun x r h => ?_, ?_, fun x r h => ?_, fun x y u v hu hv hi => ?_, t.rise, fun r hr => ?_, t.first⟩
      · rw [List.length_append, List.length_set]
        simp only [List.length_cons, List.length_nil]
        exact ⟨by omega, by omega⟩
      · rw [gp] at h
        split at h
        · injection h with h; subst h; exact hnw
        · split at h
          · injection h with h; subst h; exact hsp.2
          · exact t.ok x r h
      · obtain ⟨r0, h0, hl⟩ := t.zero
        obtain ⟨r, hr, hl2⟩ := new 0 r0 h0
        exact ⟨r, hr, hl2.trans hl⟩
      · rw [gp] at h
        split at h
        · injection h with h
          subst h
          rcases t.next _ p hg with ⟨b1, b2⟩ | ⟨b1, r2, b2, b3⟩
          · exact .inl ⟨m3.trans b1, by rw [m2]; exact b2⟩
          · obtain ⟨r', hr', hl⟩ := new _ r2 b2
            refine .inr ⟨?_, r', by rw [m3]; exact hr', by rw [hl, m2]; exact b3⟩
            rw [m1, m2]
            unfold underK at a3
            cases he : (hiP p).toList.isEmpty with
            | true =>
              have : hiP p = ⟨#[]⟩ := toList_inj (by rw [List.isEmpty_iff] at he; rw [he, ByteArray.toList_eq])
              rw [this, ltK_none] at b1
              cases b1
            | false => rw [he] at a3; exact a3
        · split at h
          · injection h with h
            subst h
            exact .inr ⟨by rw [l1, l2]; exact a2, q, by rw [l3, gp, if_pos rfl], by rw [l2]; exact m1⟩
          · rcases t.next x r h with ⟨b1, b2⟩ | ⟨b1, r2, b2, b3⟩
            · exact .inl ⟨b1, b2⟩
            · obtain ⟨r', hr', hl⟩ := new _ r2 b2
              exact .inr ⟨b1, r', hr', by rw [hl]; exact b3⟩
      · rw [gp] at hu hv
        by_cases xn : x = (ps.length : Int)
        · rw [if_pos xn] at hu
          injection hu with hu
          subst hu
          by_cases yn : y = (ps.length : Int)
          · omega
          · rw [if_neg yn] at hv
            have h3 := hi.1
            have h4 := hi.2
            rw [m1] at h3
            rw [m2] at h4
            by_cases yi : y = (id : Int)
            · rw [if_pos yi] at hv
              injection hv with hv
              subst hv
              rw [l1, a2] at h3
              cases h3
            · rw [if_neg yi] at hv
              exact absurd (t.sep _ _ p v hg hv (inp _ h3 h4)).symm yi
        · rw [if_neg xn] at hu
          by_cases xi : x = (id : Int)
          · rw [if_pos xi] at hu
            injection hu with hu
            subst hu
            have h3 := hi.1
            have h4 := und _ hi.2
            rw [l1] at h3
            by_cases yn : y = (ps.length : Int)
            · rw [if_pos yn] at hv
              injection hv with hv
              subst hv
              rw [m1, ltK_irr] at h4
              cases h4
            · rw [if_neg yn] at hv
              by_cases yi : y = (id : Int)
              · omega
              · rw [if_neg yi] at hv
                have := t.sep _ _ p v hg hv (inl' _ h3 h4)
                omega
          · rw [if_neg xi] at hu
            by_cases yn : y = (ps.length : Int)
            · rw [if_pos yn] at hv
              injection hv with hv
              subst hv
              rw [m1] at hi
              have := t.good.uni hu hg hi ⟨a4, a3⟩
              exact absurd this xi
            · rw [if_neg yn] at hv
              by_cases yi : y = (id : Int)
              · rw [if_pos yi] at hv
                injection hv with hv
                subst hv
                rw [l1] at hi
                have := t.sep _ _ u p hu hg hi
                omega
              · rw [if_neg yi] at hv
                exact t.sep _ _ u v hu hv hi
      · obtain ⟨r0, h0, hl⟩ := t.refs r hr
        obtain ⟨r', hr', hl2⟩ := new _ r0 h0
        exact ⟨r', hr', hl2.trans hl⟩
def posT (ps : List (Option PageD)) (idx : List RefD) (id : Nat) (p : PageD) : StR :=
  if found (idx.map refE) p.lo = true then ⟨ps, idx, 0, 8⟩
  else ⟨ps, idx.take (pos (idx.map refE) p.lo) ++ ⟨p.lo, (id : Int)⟩ :: idx.drop (pos (idx.map refE) p.lo), (pos (idx.map refE) p.lo : Int), 0⟩
theorem posT_tre {ps : List (Option PageD)} {idx : List RefD} (t : Tre ps idx) {id : Nat} {p : PageD} (hg : getP ps (id : Int) = some p) : Tre (posT ps idx id p).ps (posT ps idx id p).idx := by
  unfold posT
  split
  · exact t
  · rename_i hf
    have hf : found (idx.map refE) p.lo = false := by simpa using hf
    obtain ⟨h0, hl0, hid0⟩ := t.first
    obtain ⟨_, _, _, hp⟩ := pl_facts (k := p.lo) t.rise t.first
    have hp := hp hf
    have hpl := pos_leR idx p.lo
    refine ⟨t.len, t.ok, t.zero, t.next, t.sep, ?_, fun r hr => ?_, ?_⟩
    · have h := stepE_rise (es := idx.map refE) t.rise ⟨1, p.lo, ByteArray.empty, 0⟩
      rw [stepE_put_new rfl hf] at h
      show Rise ((idx.take _ ++ ⟨p.lo, (id : Int)⟩ :: idx.drop _).map refE)
      rw [List.map_append, List.map_cons, List.map_take, List.map_drop]
      exact h
    · have hr : r ∈ idx.take (pos (idx.map refE) p.lo) ++ ⟨p.lo, (id : Int)⟩ :: idx.drop (pos (idx.map refE) p.lo) := hr
      rcases List.mem_append.1 hr with hr | hr
      · exact t.refs r (List.mem_of_mem_take hr)
      · rcases List.mem_cons.1 hr with rfl | hr
        · exact ⟨p, hg, rfl⟩
        · exact t.refs r (List.mem_of_mem_drop hr)
    · show ∃ h : 0 < (idx.take (pos (idx.map refE) p.lo) ++ ⟨p.lo, (id : Int)⟩ :: idx.drop (pos (idx.map refE) p.lo)).length, _
      have hlt : 0 < (idx.take (pos (idx.map refE) p.lo)).length := by rw [List.length_take]; omega
      refine ⟨by rw [List.length_append]; omega, ?_⟩
      show ((idx.take (pos (idx.map refE) p.lo) ++ ⟨p.lo, (id : Int)⟩ :: idx.drop (pos (idx.map refE) p.lo))[0]'(by rw [List.length_append]; omega)).low = _ ∧ ((idx.take (pos (idx.map refE) p.lo) ++ ⟨p.lo, (id : Int)⟩ :: idx.drop (pos (idx.map refE) p.lo))[0]'(by rw [List.length_append]; omega)).id = _
      rw [List.getElem_append_left hlt, List.getElem_take]
      exact ⟨hl0, hid0⟩
theorem ltK_of_ge {a b c : ByteArray} (h1 : ltK a b = true) (h2 : ltK c b = false) : ltK a c = true := by
  cases h : ltK a c with
  | true => rfl
  | false => have := ltK_le (a := a) (b := c) (c := b) h h2; rw [h1] at this; cases this
/-- Two pages made one. -/
def merPg (p q : PageD) : PageD := ⟨p.lo, hiP q, riP q, enP p ++ enP q, []⟩
theorem merPg_ok {p q : PageD} (hp : okP p = true) (hq : okP q = true) (hlt : ltK p.lo (hiP p) = true) (hl : q.lo = hiP p) (hlen : (enP p).length + (enP q).length ≤ 32) : okP (merPg p q) = true := by
  obtain ⟨b1, r1, e1⟩ := ok_con hp
  obtain ⟨b2, r2, e2⟩ := ok_con hq
  obtain ⟨s1, _, _⟩ := bounds_parts b1
  obtain ⟨_, s2, s3⟩ := bounds_parts b2
  have hne : (hiP p).toList.isEmpty = false := by
    cases he : (hiP p).toList.isEmpty with
    | false => rfl
    | true =>
      have : hiP p = ⟨#[]⟩ := toList_inj (by rw [List.isEmpty_iff] at he; rw [he, ByteArray.toList_eq])
      rw [this, ltK_none] at hlt
      cases hlt
  have up : ∀ e ∈ enP p, ltK e.k (hiP p) = true := fun e he => by
    obtain ⟨_, _, _, h4⟩ := okEnt_parts (e1 e he)
    unfold underK at h4
    rw [hne] at h4
    exact h4
  have dn : ∀ e ∈ enP q, ltK e.k (hiP p) = false := fun e he => by
    obtain ⟨_, _, h3, _⟩ := okEnt_parts (e2 e he)
    rw [hl] at h3
    exact h3
  refine ok_mk (bounds_mk s1 s2 ?_) ⟨?_, fun e he => ?_⟩ (by rw [List.length_append]; exact hlen)
  · rcases s3 with s3 | ⟨c1, c2, c3⟩
    · exact .inl s3
    · exact .inr ⟨c1, by rw [hl] at c2; exact ltK_trans hlt c2, c3⟩
  · refine List.pairwise_append.2 ⟨r1, r2, fun x hx y hy => ltK_of_ge (up x hx) (dn y hy)⟩
  · rcases List.mem_append.1 he with he | he
    · obtain ⟨k1, k2, k3, _⟩ := okEnt_parts (e1 e he)
      refine okEnt_mk k1 k2 k3 ?_
      unfold underK
      rcases s3 with ⟨c1, _⟩ | ⟨c1, c2, _⟩
      · rw [c1]; rfl
      · rw [hl] at c2
        rw [ltK_trans (up e he) c2]
        simp
    · obtain ⟨k1, k2, _, k4⟩ := okEnt_parts (e2 e he)
      exact okEnt_mk k1 k2 (ltK_le (dn e he) (ltK_asymm hlt)) k4
def merT (ps : List (Option PageD)) (idx : List RefD) (id : Nat) (p : PageD) : StR :=
  if riP p < 0 then ⟨ps, idx, 0, 5⟩
  else match getP ps (riP p) with
    | none => ⟨ps, idx, 0, 5⟩
    | some q => if 32 < (enP p).length + (enP q).length then ⟨ps, idx, 0, 7⟩
      else ⟨(ps.set id (some (merPg p q))).set (riP p).toNat none, idx.filter (fun r => !decide (r.id = riP p)), riP p, 0⟩
theorem merT_tre {ps : List (Option PageD)} {idx : List RefD} (t : Tre ps idx) {id : Nat} {p : PageD} (hg : getP ps (id : Int) = some p) : Tre (merT ps idx id p).ps (merT ps idx id p).idx := by
  unfold merT
  split
  · exact t
  · rename_i hneg
    rcases t.next _ p hg with ⟨b1, _⟩ | ⟨hlt, q, hq, hl⟩
    · omega
    rw [hq]
    simp only
    split
    · exact t
    · rename_i hlen
      obtain ⟨k', e, hk⟩ := getP_lt hg
      obtain rfl : id = k' := by omega
      obtain ⟨j, hj, hjl⟩ := getP_lt hq
      have hokp := t.ok _ p hg
      have hokq := t.ok _ q hq
      have hok := merPg_ok hokp hokq hlt hl (by omega)
      obtain ⟨m, hm⟩ : ∃ m, m = merPg p q := ⟨_, rfl⟩
      have l1 : m.lo = p.lo := by rw [hm]; rfl
      have l2 : hiP m = hiP q := by rw [hm]; rfl
      have l3 : riP m = riP q := by rw [hm]; rfl
      rw [← hm] at hok
      show Tre ((ps.set id (some (merPg p q))).set (riP p).toNat none) (idx.filter _)
      rw [← hm]
      clear hm
      rw [hj, Int.toNat_natCast]
      rw [hj] at hq
      have hne : j ≠ id := fun e => by
        subst e
        rw [hg] at hq
        injection hq with hq
        subst hq
        rw [← hl, ltK_irr] at hlt
        cases hlt
      have gp : ∀ x, getP ((ps.set id (some m)).set j none) x = if x = (j : Int) then none else if x = (id : Int) then some m else getP ps x := fun x => by
        rw [getP_set (by rw [List.length_set]; exact hjl), getP_set hk]
      have new : ∀ x r0, x ≠ (j : Int) → getP ps x = some r0 → ∃ r, getP ((ps.set id (some m)).set j none) x = some r ∧ r.lo = r0.lo := fun x r0 hx h => by
        rw [gp, if_neg hx]
        split
        · rename_i e
          rw [e, hg] at h
          injection h with h
          subst h
          exact ⟨m, rfl, l1⟩
        · exact ⟨r0, h, rfl⟩
      -- no page but p has q to its right
      have only : ∀ x r, getP ps x = some r → riP r = (j : Int) → x = (id : Int) := fun x r hr hrj => by
        rcases t.next x r hr with ⟨c1, _⟩ | ⟨c1, r2, c2, c3⟩
        · omega
        · rw [hrj, hq] at c2
          injection c2 with c2
          subst c2
          -- both end where q begins
          rw [hl] at c3
          have hh : hiP r = hiP p := c3.symm
          cases hx : ltK r.lo p.lo with
          | false =>
            refine (t.sep _ _ p r hg hr ⟨hx, ?_⟩).symm
            unfold underK; rw [← hh, c1]; simp
          | true =>
            refine t.sep _ _ r p hr hg ⟨ltK_asymm hx, ?_⟩
            unfold underK; rw [hh, hlt]; simp
      have und : ∀ v, underK v (hiP p) = true → underK v (hiP q) = true := fun v h => by
        rcases t.next _ q hq with ⟨_, c2⟩ | ⟨c1, _⟩
        · unfold underK; rw [c2]; rfl
        · unfold underK at h ⊢
          rw [hl] at c1
          cases he : (hiP p).toList.isEmpty with
          | true =>
            have : hiP p = ⟨#[]⟩ := toList_inj (by rw [List.isEmpty_iff] at he; rw [he, ByteArray.toList_eq])
            rw [this, ltK_none] at hlt
            cases hlt
          | false =>
            rw [he] at h
            rw [ltK_trans h c1]
            simp
      refine ⟨?_, fun x r h => ?_, ?_, fun x r h => ?_, fun x y u v hu hv hi => ?_, ?_, fun r hr => ?_, ?_⟩
      · rw [List.length_set, List.length_set]; exact t.len
      · rw [gp] at h
        split at h
        · cases h
        · split at h
          · injection h with h; subst h; exact hok
          · exact t.ok x r h
      · obtain ⟨r0, h0, hl0⟩ := t.zero
        obtain ⟨r, hr, hl2⟩ := new 0 r0 (fun e => by
          rw [e, hq] at h0
          injection h0 with h0
          subst h0
          rw [← hl, hl0, ltK_none] at hlt
          cases hlt) h0
        exact ⟨r, hr, hl2.trans hl0⟩
      · rw [gp] at h
        split at h
        · cases h
        · rename_i hxj
          split at h
          · injection h with h
            subst h
            rcases t.next _ q hq with ⟨c1, c2⟩ | ⟨c1, r2, c2, c3⟩
            · exact .inl ⟨l3.trans c1, by rw [l2]; exact c2⟩
            · have hr2 : riP q ≠ (j : Int) := fun e => by
                have := only _ q hq e
                omega
              obtain ⟨r', hr', hlr⟩ := new _ r2 hr2 c2
              refine .inr ⟨?_, r', by rw [l3]; exact hr', by rw [hlr, l2]; exact c3⟩
              rw [l1, l2]
              rw [hl] at c1
              exact ltK_trans hlt c1
          · rename_i hxi
            rcases t.next x r h with ⟨c1, c2⟩ | ⟨c1, r2, c2, c3⟩
            · exact .inl ⟨c1, c2⟩
            · obtain ⟨r', hr', hlr⟩ := new _ r2 (fun e => hxi (only x r h e)) c2
              exact .inr ⟨c1, r', hr', by rw [hlr]; exact c3⟩
      · rw [gp] at hu hv
        split at hu
        · cases hu
        · split at hv
          · cases hv
          · rename_i hxj hyj
            by_cases xi : x = (id : Int)
            · rw [if_pos xi] at hu
              injection hu with hu
              subst hu
              by_cases yi : y = (id : Int)
              · omega
              · rw [if_neg yi] at hv
                have h3 := hi.1
                have h4 := hi.2
                rw [l1] at h3
                rw [l2] at h4
                -- v begins within p or within q
                cases hc : ltK v.lo (hiP p) with
                | true =>
                  have := t.sep _ _ p v hg hv ⟨h3, by unfold underK; rw [hc]; simp⟩
                  omega
                | false =>
                  have := t.sep _ _ q v hq hv ⟨by rw [hl]; exact hc, h4⟩
                  omega
            · rw [if_neg xi] at hu
              by_cases yi : y = (id : Int)
              · rw [if_pos yi] at hv
                injection hv with hv
                subst hv
                rw [l1] at hi
                have := t.sep _ _ u p hu hg hi
                omega
              · rw [if_neg yi] at hv
                exact t.sep _ _ u v hu hv hi
      · show Rise ((idx.filter _).map refE)
        have : (idx.map refE).Pairwise (fun a b => ltK a.k b.k = true) := t.rise
        rw [List.pairwise_map] at this
        unfold Rise
        rw [List.pairwise_map]
        exact this.filter _
      · have hr : r ∈ idx.filter (fun r => !decide (r.id = (j : Int))) := hr
        obtain ⟨hr1, hr2⟩ := List.mem_filter.1 hr
        obtain ⟨r0, h0, hl0⟩ := t.refs r hr1
        obtain ⟨r', hr', hl2⟩ := new _ r0 (fun e => by rw [e] at hr2; simp at hr2) h0
        exact ⟨r', hr', hl2.trans hl0⟩
      · obtain ⟨h0, hl0, hid0⟩ := t.first
        obtain ⟨r, rest, hir⟩ : ∃ r rest, idx = r :: rest := by
          cases idx with
          | nil => simp at h0
          | cons r rest => exact ⟨r, rest, rfl⟩
        have hr0 : r.id = 0 ∧ r.low = ⟨#[]⟩ := by subst hir; exact ⟨hid0, hl0⟩
        have hf : (!decide (r.id = (j : Int))) = true := by
          rw [hr0.1]
          have : j ≠ 0 := fun e => by
            obtain ⟨r0, h0, hlz⟩ := t.zero
            have e2 : (j : Int) = 0 := by omega
            rw [e2, h0] at hq
            injection hq with hq
            subst hq
            rw [← hl, hlz, ltK_none] at hlt
            cases hlt
          simp
          omega
        have he : idx.filter (fun r => !decide (r.id = (j : Int))) = r :: rest.filter (fun r => !decide (r.id = (j : Int))) := by
          rw [hir, List.filter_cons_of_pos (p := fun r : RefD => !decide (r.id = (j : Int))) hf]
        show ∃ h : 0 < (idx.filter (fun r => !decide (r.id = (j : Int)))).length, _
        refine ⟨by rw [he]; simp, ?_⟩
        show ((idx.filter (fun r => !decide (r.id = (j : Int))))[0]'(by rw [he]; simp)).low = _ ∧ ((idx.filter (fun r => !decide (r.id = (j : Int))))[0]'(by rw [he]; simp)).id = _
        simp only [he, List.getElem_cons_zero]
        exact ⟨hr0.2, hr0.1⟩
/-- A step at a page that is here. -/
def atT (ps : List (Option PageD)) (idx : List RefD) (id : Int) (f : Nat → PageD → StR) : StR :=
  if id < 0 ∨ (ps.length : Int) ≤ id then ⟨ps, idx, 0, 4⟩
  else match getP ps id with
    | none => ⟨ps, idx, 0, 12⟩
    | some p => f id.toNat p
/-- A step of a tree. -/
def stepT (ps : List (Option PageD)) (idx : List RefD) (a : AcT) : StR :=
  if a.kind = 1 ∨ a.kind = 2 then chgT ps idx a
  else if a.kind = 3 then atT ps idx a.id (conT ps idx)
  else if a.kind = 4 then atT ps idx a.id (splT ps idx)
  else if a.kind = 5 then atT ps idx a.id (posT ps idx)
  else if a.kind = 6 then atT ps idx a.id (merT ps idx)
  else ⟨ps, idx, 0, 3⟩
theorem atT_tre {ps : List (Option PageD)} {idx : List RefD} (t : Tre ps idx) (id : Int) {f : Nat → PageD → StR} (hf : ∀ k p, getP ps ((k : Nat) : Int) = some p → Tre (f k p).ps (f k p).idx) : Tre (atT ps idx id f).ps (atT ps idx id f).idx := by
  unfold atT
  split
  · exact t
  · cases hg : getP ps id with
    | none => exact t
    | some p =>
      obtain ⟨k, rfl, _⟩ := getP_lt hg
      exact hf k p hg
theorem stepT_tre {ps : List (Option PageD)} {idx : List RefD} (t : Tre ps idx) (a : AcT) : Tre (stepT ps idx a).ps (stepT ps idx a).idx := by
  unfold stepT
  split
  · exact chgT_tre t a
  · split
    · exact atT_tre t _ fun k p h => conT_tre t h
    · split
      · exact atT_tre t _ fun k p h => splT_tre t h
      · split
        · exact atT_tre t _ fun k p h => posT_tre t h
        · split
          · exact atT_tre t _ fun k p h => merT_tre t h
          · exact t
/-- A new tree. -/
def newT : List (Option PageD) := [some ⟨⟨#[]⟩, ⟨#[]⟩, -1, [], []⟩]
theorem newT_tre : Tre newT [⟨⟨#[]⟩, 0⟩] := by
  have g0 : ∀ x, getP newT x = if x = 0 then some ⟨⟨#[]⟩, ⟨#[]⟩, -1, [], []⟩ else none := fun x => by
    by_cases h0 : x < 0
    · rw [getP_neg h0, if_neg (by omega)]
    obtain ⟨j, rfl⟩ : ∃ j : Nat, x = (j : Int) := ⟨x.toNat, by omega⟩
    rw [getP_nat]
    match j with
    | 0 => rfl
    | j + 1 => rw [if_neg (by omega)]; rfl
  refine ⟨⟨by decide, by decide⟩, fun x p h => ?_, ⟨_, by rw [g0, if_pos rfl], rfl⟩, fun x p h => ?_, fun x y p q hp hq _ => ?_, List.pairwise_singleton _ _, fun r hr => ?_, ⟨by simp, rfl, rfl⟩⟩
  · rw [g0] at h
    split at h
    · injection h with h; subst h; decide +kernel
    · cases h
  · rw [g0] at h
    split at h
    · injection h with h; subst h; exact .inl ⟨rfl, by decide +kernel⟩
    · cases h
  · rw [g0] at hp hq
    split at hp
    · split at hq
      · omega
      · cases hq
    · cases hp
  · rw [List.mem_singleton.1 hr]
    exact ⟨_, by rw [g0, if_pos rfl], rfl⟩
end Go.Proofs.Ytbhkmmdcdfjbkaa

namespace Go.Proofs.Ytbhkmmdcdfjbkaa
open Go.RowKit

theorem tb_at {qs : List (Option (Nat × PpH))} {id : Int} {p : PageD} (hg : getP (qsP qs) id = some p) : ∃ k : Nat, id = (k : Int) ∧ True ∧ ∃ pb x, qs[k]? = some (some (pb, x)) ∧ x.X = p := by
  obtain ⟨k, rfl, hk⟩ := getP_at hg
  refine ⟨k, rfl, trivial, ?_⟩
  rw [qsP, List.getElem?_map] at hk
  cases hq : qs[k]? with
  | none => rw [hq] at hk; cases hk
  | some q =>
    rw [hq] at hk
    cases q with
    | none => cases hk
    | some y => exact ⟨y.1, y.2, rfl, by injection hk with hk; injection hk⟩
set_option maxRecDepth 100000 in
set_option maxHeartbeats 4000000 in
theorem down_any (mb : Nat) (qs : List (Option (Nat × PpH))) (idx : List RefD) (ap : Option Addr) (cp : Nat) (ai : Option Addr) (ci : Nat) (key : ByteArray) (w : World) (hM : MtAt w mb qs idx ap cp ai ci) (hG : GoodT (qsP qs) idx) :
    Calls Try.prog 34 #[.pointer (some ⟨mb, 0, none⟩), .string key] w fun e w' => e = .returned (.tuple #[.int .i64 (downT (qsP qs) idx key).1, .int .i64 (((downT (qsP qs) idx key).2 : Nat) : Int)]) ∧ Below w.heap.size w w' := by
  have M := hide hM
  have G := hide hG
  have il : idx.length ≤ 30 := Nat.le_trans hG.il hG.len.2
  obtain ⟨hp, _, _, hz⟩ := pl_facts (k := key) (GoodT.rise hG.ix) hG.zero
  have S0 := hide (DnSt.start (key := key) hG hp)
  have c1 := (heap_at hM.box 1).1
  have HS := hide (searchRef_any ai idx.length ci idx key w hM.ix (GoodT.rise hG.ix) (by omega))
  obtain ⟨b1, off1, hai, e1, e2⟩ := hM.ix.2 (plR idx key) hp
  subst hai
  obtain ⟨D, hD⟩ : ∃ D, D = downT (qsP qs) idx key := ⟨_, rfl⟩
  rw [← hD] at S0 ⊢
  clear hD
  have PV := hide (show plR idx key = if found (idx.map refE) key then pos (idx.map refE) key else pos (idx.map refE) key - 1 from rfl)
  generalize hpl : plR idx key = P at *
  have hPw : (P : Int) < 9223372036854775807 := by omega
  clear hM hG hpl
  generalize hie : idx[P] = rf at *
  obtain ⟨low0, id0⟩ := rf
  simp only at e1 e2 S0
  clear hie
  obtain ⟨L, hL⟩ : ∃ L, L = idx.length := ⟨_, rfl⟩
  rw [← hL] at c1 HS hp il
  have HL := hide hL
  clear hL
  have e2' : ∀ u, Below w.heap.size w u → u.cell? ⟨b1, off1 + P * 2 + 1, none⟩ = some (.int .i64 id0) := fun u hu => (hu.cell (cell_lt e2)).trans e2
  have c1' : ∀ u, Below w.heap.size w u → u.cell? ⟨mb, 1, none⟩ = some (.slice (some ⟨b1, off1, none⟩) L ci) := fun u hu => (hu.cell (cell_lt c1)).trans c1
  go_enter Try.func34, Try.ntmps34
  go_wp2_with fail
  refine wp_scope_jumps 0 (fun a' w' => ∃ (id : Int) (h : Nat), ∃ u2 u3 u4 u5 u6 u7 u10 u11 u12 u13 u14 u15 u16 u17 u18 u19 u20 u21 u22 u23 u24 u25 u26 u27 u28 u29 u30 u31 u32 u33 u34 u35 u36 u37 u38 u39 u40 u41 u42 u43 u44 u45 u46 u47 u48 u49 u50 u51 u52 u53 u54 u55 u56 u57 u58 u59 : Value, a' = { tmps := #[.pointer (some ⟨mb, 0, none⟩), .string key, u2, u3, u4, u5, u6, u7, .int .i64 id, .int .i64 (h : Int), u10, u11, u12, u13, u14, u15, u16, u17, u18, u19, u20, u21, u22, u23, u24, u25, u26, u27, u28, u29, u30, u31, u32, u33, u34, u35, u36, u37, u38, u39, u40, u41, u42, u43, u44, u45, u46, u47, u48, u49, u50, u51, u52, u53, u54, u55, u56, u57, u58, u59], defers := [] } ∧ Hid (DnSt (qsP qs) key D id h) ∧ Below w.heap.size w w') (fun a' _ => 100 - (intOf (a'.tmps.getD 9 undef)).toNat) rfl ?_ ?_
  · cases hf : found (idx.map refE) key with
    | true =>
      have HS2 := hide (show _ from unhide HS)
      rw [hf] at HS2
      have PV2 := unhide PV
      rw [hf, if_pos rfl] at PV2
      rw [← PV2] at HS2
      clear PV2 hz hf PV HS
      go_wp2_with fail
      refine (unhide HS2).mono ?_
      rintro e w1 ⟨rfl, hb⟩
      have d1 := c1' w1 hb
      have d2 := e2' w1 hb
      clear c1 c1' e2' e1 e2 HS2
      have S := S0
      clear S0
      go_wp2_with fail
      clear d1 d2
      go_step3
      obtain ⟨p, hg, _, _⟩ := (unhide S).here
      obtain ⟨k, hidk, hq, pb, x, hqk, hX⟩ := tb_at hg
      subst hidk
      have hmem : some (pb, x) ∈ qs := List.mem_of_getElem? hqk
      obtain ⟨PB, hE, hD⟩ := ((unhide M).below hb).pgs pb x hmem
      have hokp : okP x.X = true := by rw [hX]; exact (unhide G).ok _ (getP_mem hg)
      have c0 := (heap_at ((unhide M).below hb).box 0).1
      obtain ⟨b, off, hap, hc⟩ := ((unhide M).below hb).row.at (j := k) (u := .pointer (some ⟨pb, 0, none⟩)) (by rw [List.getElem?_map, hqk]; rfl)
      subst hap
      have hkl : k < qs.length := (List.getElem?_eq_some_iff.1 hqk).1
      have q0 := (heap_at PB 0).1
      have q1 := (heap_at PB 1).1
      have q2 := (heap_at PB 2).1
      have q3 := (heap_at PB 3).1
      have q4 := (heap_at PB 4).1
      have HB := hide (implBounds_any x.X.lo x.X.hi x.X.r x.s0.a x.s0.n x.s0.c x.X.es x.s1.a x.s1.n x.s1.c x.X.ds w1 hE hD)
      rw [if_pos hokp] at HB
      unfold pgv at HB
      have UW := hide (under_way (key := key) hokp)
      have hfew := (unhide S).few (unhide G).len.2
      rw [← hX] at hg
      have STOP := hide (fun hu => (unhide S).stop (unhide G).len.2 hg hu)
      have NEXT := hide (fun hu => (unhide S).next (unhide G) hg hu)
      clear S hg hokp hE hD PB hqk hmem hX hq
      obtain ⟨X, ⟨a0, n0, k0⟩, ⟨a1, n1, k1⟩⟩ := x
      simp only at q0 q1 q2 q3 q4 HB UW STOP NEXT
      change Hid ((!decide (rightE X.r X.ds = -1) && !ltK key (highE X.hi X.ds)) = _) at UW
      change Hid (_ → DnSt _ _ _ (rightE X.r X.ds) _) at NEXT
      change Hid (underK key (highE X.hi X.ds) = true → _) at STOP
      change Hid ((!decide (rightE X.r X.ds = -1) && !ltK key (highE X.hi X.ds)) = !underK key (highE X.hi X.ds)) at UW
      change Hid (underK key (highE X.hi X.ds) = false → DnSt _ _ _ (rightE X.r X.ds) _) at NEXT
      generalize highE X.hi X.ds = H at *
      generalize rightE X.r X.ds = R at *
      go_wp2_with fail
      refine (unhide HB).mono ?_
      rintro e w2 ⟨rfl, hb2⟩
      have bA : Below w.heap.size w w2 := hb.trans (hb2.mono hb.size)
      clear HB q0 q1 q2 q3 q4 c0 hc hb hb2
      by_cases hR : R = -1
      · have E := hide (unhide STOP (by have := unhide UW; rw [decide_eq_true hR] at this; simpa using this.symm))
        subst hR
        go_wp2_with fail
        simp only [Exit.jump]
        go_ret2
        exact ⟨by rw [unhide E]; rfl, bA⟩
      · have hRb : (R != -1) = true := by simpa using hR
        cases hl : ltK key H with
        | true =>
          have E := hide (unhide STOP (by have := unhide UW; rw [hl] at this; simpa using this.symm))
          have hl2 : Op.bytesLess key.toList H.toList = true := hl
          go_wp2_with fail
          simp only [Exit.jump]
          go_ret2
          exact ⟨by rw [unhide E]; rfl, bA⟩
        | false =>
          have NX := hide (unhide NEXT (by have := unhide UW; rw [hl, decide_eq_false hR] at this; simpa using this.symm))
          have hl2 : Op.bytesLess key.toList H.toList = false := hl
          go_wp2_with fail
          go_step3
          exact ⟨rfl, R, 1, _, _, _, _, _, _, _, _, _, _, _, _, _, _, _, _, _, _, _, _, _, _, _, _, _, _, _, _, _, _, _, _, _, _, _, _, _, _, _, _, _, _, _, _, _, _, _, _, _, _, _, _, _, _, _, _, by go_num, NX, bA⟩
    | false =>
      have hz2 := hz hf
      have HS2 := hide (show _ from unhide HS)
      rw [hf] at HS2
      have PV2 := unhide PV
      rw [hf, if_neg (by decide)] at PV2
      rw [show pos (idx.map refE) key = P + 1 by omega] at HS2
      clear PV2 hz hf PV HS hz2
      go_wp2_with fail
      refine (unhide HS2).mono ?_
      rintro e w1 ⟨rfl, hb⟩
      have d1 := c1' w1 hb
      have d2 := e2' w1 hb
      clear c1 c1' e2' e1 e2 HS2
      have S := S0
      clear S0
      go_wp2_with fail
      clear d1 d2
      go_step3
      obtain ⟨p, hg, _, _⟩ := (unhide S).here
      obtain ⟨k, hidk, hq, pb, x, hqk, hX⟩ := tb_at hg
      subst hidk
      have hmem : some (pb, x) ∈ qs := List.mem_of_getElem? hqk
      obtain ⟨PB, hE, hD⟩ := ((unhide M).below hb).pgs pb x hmem
      have hokp : okP x.X = true := by rw [hX]; exact (unhide G).ok _ (getP_mem hg)
      have c0 := (heap_at ((unhide M).below hb).box 0).1
      obtain ⟨b, off, hap, hc⟩ := ((unhide M).below hb).row.at (j := k) (u := .pointer (some ⟨pb, 0, none⟩)) (by rw [List.getElem?_map, hqk]; rfl)
      subst hap
      have hkl : k < qs.length := (List.getElem?_eq_some_iff.1 hqk).1
      have q0 := (heap_at PB 0).1
      have q1 := (heap_at PB 1).1
      have q2 := (heap_at PB 2).1
      have q3 := (heap_at PB 3).1
      have q4 := (heap_at PB 4).1
      have HB := hide (implBounds_any x.X.lo x.X.hi x.X.r x.s0.a x.s0.n x.s0.c x.X.es x.s1.a x.s1.n x.s1.c x.X.ds w1 hE hD)
      rw [if_pos hokp] at HB
      unfold pgv at HB
      have UW := hide (under_way (key := key) hokp)
      have hfew := (unhide S).few (unhide G).len.2
      rw [← hX] at hg
      have STOP := hide (fun hu => (unhide S).stop (unhide G).len.2 hg hu)
      have NEXT := hide (fun hu => (unhide S).next (unhide G) hg hu)
      clear S hg hokp hE hD PB hqk hmem hX hq
      obtain ⟨X, ⟨a0, n0, k0⟩, ⟨a1, n1, k1⟩⟩ := x
      simp only at q0 q1 q2 q3 q4 HB UW STOP NEXT
      change Hid ((!decide (rightE X.r X.ds = -1) && !ltK key (highE X.hi X.ds)) = _) at UW
      change Hid (_ → DnSt _ _ _ (rightE X.r X.ds) _) at NEXT
      change Hid (underK key (highE X.hi X.ds) = true → _) at STOP
      change Hid ((!decide (rightE X.r X.ds = -1) && !ltK key (highE X.hi X.ds)) = !underK key (highE X.hi X.ds)) at UW
      change Hid (underK key (highE X.hi X.ds) = false → DnSt _ _ _ (rightE X.r X.ds) _) at NEXT
      generalize highE X.hi X.ds = H at *
      generalize rightE X.r X.ds = R at *
      go_wp2_with fail
      refine (unhide HB).mono ?_
      rintro e w2 ⟨rfl, hb2⟩
      have bA : Below w.heap.size w w2 := hb.trans (hb2.mono hb.size)
      clear HB q0 q1 q2 q3 q4 c0 hc hb hb2
      by_cases hR : R = -1
      · have E := hide (unhide STOP (by have := unhide UW; rw [decide_eq_true hR] at this; simpa using this.symm))
        subst hR
        go_wp2_with fail
        simp only [Exit.jump]
        go_ret2
        exact ⟨by rw [unhide E]; rfl, bA⟩
      · have hRb : (R != -1) = true := by simpa using hR
        cases hl : ltK key H with
        | true =>
          have E := hide (unhide STOP (by have := unhide UW; rw [hl] at this; simpa using this.symm))
          have hl2 : Op.bytesLess key.toList H.toList = true := hl
          go_wp2_with fail
          simp only [Exit.jump]
          go_ret2
          exact ⟨by rw [unhide E]; rfl, bA⟩
        | false =>
          have NX := hide (unhide NEXT (by have := unhide UW; rw [hl, decide_eq_false hR] at this; simpa using this.symm))
          have hl2 : Op.bytesLess key.toList H.toList = false := hl
          go_wp2_with fail
          go_step3
          exact ⟨rfl, R, 1, _, _, _, _, _, _, _, _, _, _, _, _, _, _, _, _, _, _, _, _, _, _, _, _, _, _, _, _, _, _, _, _, _, _, _, _, _, _, _, _, _, _, _, _, _, _, _, _, _, _, _, _, _, _, _, _, by go_num, NX, bA⟩
  · rintro a' wr ⟨id, h, u2, u3, u4, u5, u6, u7, u10, u11, u12, u13, u14, u15, u16, u17, u18, u19, u20, u21, u22, u23, u24, u25, u26, u27, u28, u29, u30, u31, u32, u33, u34, u35, u36, u37, u38, u39, u40, u41, u42, u43, u44, u45, u46, u47, u48, u49, u50, u51, u52, u53, u54, u55, u56, u57, u58, u59, rfl, S, hb⟩
    clear S0 e1 e2 c1 c1' e2' HS
    obtain ⟨p, hg, _, _⟩ := (unhide S).here
    obtain ⟨k, hidk, hq, pb, x, hqk, hX⟩ := tb_at hg
    subst hidk
    have hmem : some (pb, x) ∈ qs := List.mem_of_getElem? hqk
    obtain ⟨PB, hE, hD⟩ := ((unhide M).below hb).pgs pb x hmem
    have hokp : okP x.X = true := by rw [hX]; exact (unhide G).ok _ (getP_mem hg)
    have c0 := (heap_at ((unhide M).below hb).box 0).1
    obtain ⟨b, off, hap, hc⟩ := ((unhide M).below hb).row.at (j := k) (u := .pointer (some ⟨pb, 0, none⟩)) (by rw [List.getElem?_map, hqk]; rfl)
    subst hap
    have hkl : k < qs.length := (List.getElem?_eq_some_iff.1 hqk).1
    have q0 := (heap_at PB 0).1
    have q1 := (heap_at PB 1).1
    have q2 := (heap_at PB 2).1
    have q3 := (heap_at PB 3).1
    have q4 := (heap_at PB 4).1
    have HB := hide (implBounds_any x.X.lo x.X.hi x.X.r x.s0.a x.s0.n x.s0.c x.X.es x.s1.a x.s1.n x.s1.c x.X.ds wr hE hD)
    rw [if_pos hokp] at HB
    unfold pgv at HB
    have UW := hide (under_way (key := key) hokp)
    have hfew := (unhide S).few (unhide G).len.2
    rw [← hX] at hg
    have STOP := hide (fun hu => (unhide S).stop (unhide G).len.2 hg hu)
    have NEXT := hide (fun hu => (unhide S).next (unhide G) hg hu)
    clear S hg hokp hE hD PB hqk hmem hX hq
    obtain ⟨X, ⟨a0, n0, k0⟩, ⟨a1, n1, k1⟩⟩ := x
    simp only at q0 q1 q2 q3 q4 HB UW STOP NEXT
    change Hid ((!decide (rightE X.r X.ds = -1) && !ltK key (highE X.hi X.ds)) = _) at UW
    change Hid (_ → DnSt _ _ _ (rightE X.r X.ds) _) at NEXT
    change Hid (underK key (highE X.hi X.ds) = true → _) at STOP
    change Hid ((!decide (rightE X.r X.ds = -1) && !ltK key (highE X.hi X.ds)) = !underK key (highE X.hi X.ds)) at UW
    change Hid (underK key (highE X.hi X.ds) = false → DnSt _ _ _ (rightE X.r X.ds) _) at NEXT
    generalize highE X.hi X.ds = H at *
    generalize rightE X.r X.ds = R at *
    go_wp2_with fail
    refine (unhide HB).mono ?_
    rintro e w2 ⟨rfl, hb2⟩
    have bA : Below w.heap.size w w2 := hb.trans (hb2.mono hb.size)
    clear HB q0 q1 q2 q3 q4 c0 hc hb hb2
    by_cases hR : R = -1
    · have E := hide (unhide STOP (by have := unhide UW; rw [decide_eq_true hR] at this; simpa using this.symm))
      subst hR
      go_wp2_with fail
      simp only [Exit.jump]
      go_ret2
      exact ⟨by rw [unhide E]; rfl, bA⟩
    · have hRb : (R != -1) = true := by simpa using hR
      cases hl : ltK key H with
      | true =>
        have E := hide (unhide STOP (by have := unhide UW; rw [hl] at this; simpa using this.symm))
        have hl2 : Op.bytesLess key.toList H.toList = true := hl
        go_wp2_with fail
        simp only [Exit.jump]
        go_ret2
        exact ⟨by rw [unhide E]; rfl, bA⟩
      | false =>
        have NX := hide (unhide NEXT (by have := unhide UW; rw [hl, decide_eq_false hR] at this; simpa using this.symm))
        have hl2 : Op.bytesLess key.toList H.toList = false := hl
        go_wp2_with fail
        go_step3
        exact ⟨rfl, ⟨R, h + 1, _, _, _, _, _, _, _, _, _, _, _, _, _, _, _, _, _, _, _, _, _, _, _, _, _, _, _, _, _, _, _, _, _, _, _, _, _, _, _, _, _, _, _, _, _, _, _, _, _, _, _, _, _, _, _, _, by go_num, NX, bA⟩, by simp [intOf]; omega⟩
end Go.Proofs.Ytbhkmmdcdfjbkaa

namespace Go.Proofs.Ytbhkmmdcdfjbkaa
open Go.RowKit
end Go.Proofs.Ytbhkmmdcdfjbkaa

namespace Go.Proofs.Ytbhkmmdcdfjbkaa
open Go.RowKit
end Go.Proofs.Ytbhkmmdcdfjbkaa

namespace Go.Proofs.Ytbhkmmdcdfjbkaa
open Go.RowKit

end Go.Proofs.Ytbhkmmdcdfjbkaa

namespace Go.Proofs.Ytbhkmmdcdfjbkaa
open Go.RowKit

theorem anyH_take {P : Program} {ops : Array Oper} {Q : Exit → Act → World → Prop} {md : Region.Mode} {S : World → Prop} (i d : Nat) {oi : Oper} {v : Value} {fuel : Nat} {listed : Array Bool} {a : Act} {w : World} (hi : ops[i]? = some oi) (hd : oi.dst = some d)
    (hs : Region.noSelect ops = true) (hf : Region.free md ops listed i = true) (hr : (Region.ready md ops listed).contains i = true)
    (hQ : ∀ c a w, Q (.panic c) (a.put (some d) v) w → Q (.panic c) a w) (hw : Region.wanted oi (yielded ops a.tmps) = true) (hy : ∀ w, S w → (execOp a.eval oi).run P w = .ok (.value v) w) (hS : S w)
    (h : wpAnyH P md ops Q S fuel (listed.setIfInBounds i true) (a.put (some d) v) w) : wpAnyH P md ops Q S (fuel + 1) listed a w := by
  rw [← hd] at h hQ
  exact wpAnyH_take hi hs hf hr hQ (.inl ⟨hw, hy⟩) hS h
end Go.Proofs.Ytbhkmmdcdfjbkaa

namespace Go.Proofs.Ytbhkmmdcdfjbkaa
open Go.RowKit

end Go.Proofs.Ytbhkmmdcdfjbkaa

namespace Go.Proofs.Ytbhkmmdcdfjbkaa
open Go.RowKit

theorem tv_wrb (w : World) (q j : Nat) (u : Value) : WrB (· = q) w (w.setCell ⟨q, j, none⟩ u) := ⟨rfl, rfl, rfl, by simp [World.setCell], fun k _ hk => Below.heap_setCell _ _ _ _ hk⟩
theorem NOwn.setLow {w : World} {B T S n q : Nat} {v : Value} {es : List El} (h : NOwn w B T S v n es) (hq : q < B) (j : Nat) (u : Value) : NOwn (w.setCell ⟨q, j, none⟩ u) B T S v n es :=
  h.wr (tv_wrb w q j u) fun i hi e => by have := (h.lt i hi).1; omega
/-- A tree that the call owns. -/
structure TrOwn (w : World) (B np ng : Nat) (vp vg vi : Value) (hs : List PpH) (gs : List Bool) (idx : List RefD) : Prop where
  pg : NOwn w B 51 5 vp np (hs.map ppEl)
  go : w.ownsRow B 4 1 vg ng (gs.map Value.bool)
  ix : JOwns w B vi idx
theorem TrOwn.set {w : World} {B np ng q : Nat} {vp vg vi : Value} {hs : List PpH} {gs : List Bool} {idx : List RefD} (h : TrOwn w B np ng vp vg vi hs gs idx) (hq : q < B) (j : Nat) (u : Value) : TrOwn (w.setCell ⟨q, j, none⟩ u) B np ng vp vg vi hs gs idx :=
  ⟨h.pg.setLow hq j u, gd_set h.go hq j u, gd_set h.ix hq j u⟩
theorem TrOwn.dn {w : World} {B C np ng : Nat} {vp vg vi : Value} {hs : List PpH} {gs : List Bool} {idx : List RefD} (h : TrOwn w B np ng vp vg vi hs gs idx) (hc : C ≤ B) : TrOwn w C np ng vp vg vi hs gs idx :=
  ⟨h.pg.down hc, gd_base h.go hc, gd_base h.ix hc⟩
theorem TrOwn.below {w w' : World} {B np ng : Nat} {vp vg vi : Value} {hs : List PpH} {gs : List Bool} {idx : List RefD} (h : TrOwn w B np ng vp vg vi hs gs idx) (hb : Below w.heap.size w w') : TrOwn w' B np ng vp vg vi hs gs idx :=
  ⟨h.pg.below hb, rb_ownsRow_below h.go hb, rb_ownsRow_below h.ix hb⟩
theorem TrOwn.reads {w : World} {B np ng ni cp cg ci : Nat} {ap ag ai : Option Addr} {hs : List PpH} {gs : List Bool} {idx : List RefD} (h : TrOwn w B np ng (.slice ap np cp) (.slice ag ng cg) (.slice ai ni ci) hs gs idx) : TrIn w ap np cp ag ng cg ai ni hs gs idx :=
  ⟨h.pg.reads, rowC_of_owns h.go, by have := h.go.1; simpa using this, jrow_of_owns h.ix⟩
end Go.Proofs.Ytbhkmmdcdfjbkaa

namespace Go.Proofs.Ytbhkmmdcdfjbkaa
open Go.RowKit

end Go.Proofs.Ytbhkmmdcdfjbkaa

namespace Go.Proofs.Ytbhkmmdcdfjbkaa
open Go.RowKit

end Go.Proofs.Ytbhkmmdcdfjbkaa

namespace Go.Proofs.Ytbhkmmdcdfjbkaa
open Go.RowKit

end Go.Proofs.Ytbhkmmdcdfjbkaa

namespace Go.Proofs.Ytbhkmmdcdfjbkaa
open Go.RowKit

theorem sbAt_pp {hs : List PpH} {k a : Nat} {x : Sb} (h : sbAt (hs.map ppEl) k a = some x) : x.t = 37 ∨ x.t = 86 := by
  unfold sbAt at h
  rw [List.getElem?_map] at h
  cases hk : hs[k]? with
  | none => rw [hk] at h; cases h
  | some p =>
    rw [hk] at h
    match a, h with
    | 0, h => injection h with h; subst h; exact .inl rfl
    | 1, h => injection h with h; subst h; exact .inr rfl
    | a + 2, h => cases h
theorem nbl_kind {w : World} {B n i : Nat} {v : Value} {hs : List PpH} (h : NOwn w B 51 5 v n (hs.map ppEl)) (hi : NBl v (hs.map ppEl) i) : ∃ cur T, w.heap[i]? = some (.cells cur T (0, 0)) ∧ (T = 51 ∨ T = 37 ∨ T = 86) := by
  rcases hi with hi | ⟨k, a, x, hx, hi⟩
  · obtain ⟨cur, hc⟩ := own_kind h.row hi
    exact ⟨cur, _, hc, .inl rfl⟩
  · obtain ⟨cur, hc⟩ := own_kind (h.dat k a x hx) hi
    exact ⟨cur, _, hc, .inr (sbAt_pp hx)⟩
/-- A row of another kind is no part of the pages. -/
theorem nbl_other {w : World} {B C n m s t : Nat} {v u : Value} {cs : List Value} {hs : List PpH} (h : NOwn w B 51 5 v n (hs.map ppEl)) (ho : w.ownsRow C t s u m cs) (h1 : t ≠ 51) (h2 : t ≠ 37) (h3 : t ≠ 86) {i : Nat} (hi : u.ownBlock = some i) : ¬ NBl v (hs.map ppEl) i := fun hb => by
  obtain ⟨cur, hc⟩ := own_kind ho hi
  obtain ⟨cur', T, hc', hT⟩ := nbl_kind h hb
  rw [hc] at hc'
  injection hc' with hc'
  injection hc' with _ hc' _
  rcases hT with e | e | e
  · exact h1 (hc'.trans e)
  · exact h2 (hc'.trans e)
  · exact h3 (hc'.trans e)
theorem own_other {w : World} {B C n m s s' t t' : Nat} {v u : Value} {cs cs' : List Value} (h : w.ownsRow B t s v n cs) (h' : w.ownsRow C t' s' u m cs') (ht : t ≠ t') {i : Nat} (hi : v.ownBlock = some i) : ¬ u.ownBlock = some i := fun hb => by
  obtain ⟨cur, hc⟩ := own_kind h hi
  obtain ⟨cur', hc'⟩ := own_kind h' hb
  rw [hc] at hc'
  injection hc' with hc'
  injection hc' with _ hc' _
  exact ht hc'
theorem NOwn.keep {w w' : World} {B T S n : Nat} {v : Value} {es : List El} (h : NOwn w B T S v n es) {P : Nat → Prop} (hw : WrB P w w') (hp : ∀ i, NBl v es i → ¬ P i) : NOwn w' B T S v n es :=
  ⟨rr_owns_wr h.row hw (fun i hi => hp i (.inl hi)), h.len, h.wid, fun k a x hx => rr_owns_wr (h.dat k a x hx) hw (fun i hi => hp i (.inr ⟨k, a, x, hx, hi⟩)), h.far, h.off⟩
end Go.Proofs.Ytbhkmmdcdfjbkaa

namespace Go.Proofs.Ytbhkmmdcdfjbkaa
open Go.RowKit

/-- A row lies below, or in a block of its own kind. -/
def RowK (w : World) (B : Nat) (a : Option Addr) (t : TypeId) : Prop := ∀ ad, a = some ad → ad.block < w.heap.size ∧ (ad.block < B ∨ ∃ cur, w.heap[ad.block]? = some (.cells cur t (0, 0)))
/-- A page's rows. -/
structure PgRows (w : World) (B : Nat) (x : PpH) : Prop where
  es : ERow w x.s0.a x.s0.n x.X.es
  ds : DRow w x.s1.a x.s1.n x.X.ds
  ke : RowK w B x.s0.a 37
  kd : RowK w B x.s1.a 86
  ce : x.s0.a = none → x.s0.c = 0
  cd : x.s1.a = none → x.s1.c = 0
/-- Blocks that may be written: none below, none of entries or changes. -/
def NoRow (w : World) (B : Nat) (P : Nat → Prop) : Prop := ∀ i, P i → i < w.heap.size → B ≤ i ∧ ∃ cur t, w.heap[i]? = some (.cells cur t (0, 0)) ∧ t ≠ 37 ∧ t ≠ 86
theorem RowK.wr {w w' : World} {B : Nat} {a : Option Addr} {t : TypeId} {P : Nat → Prop} (h : RowK w B a t) (hw : WrB P w w') (hP : NoRow w B P) (ht : t = 37 ∨ t = 86) : RowK w' B a t ∧ ∀ ad, a = some ad → w'.heap[ad.block]? = w.heap[ad.block]? := by
  have keep : ∀ ad, a = some ad → w'.heap[ad.block]? = w.heap[ad.block]? := fun ad e => by
    obtain ⟨h1, h2⟩ := h ad e
    refine hw.block _ h1 fun hp => ?_
    obtain ⟨hB, cur, t', hc, n1, n2⟩ := hP _ hp h1
    rcases h2 with h2 | ⟨cur', hc'⟩
    · omega
    · rw [hc] at hc'
      injection hc' with hc'
      injection hc' with _ hc' _
      rcases ht with e | e
      · exact n1 (hc'.trans e)
      · exact n2 (hc'.trans e)
  refine ⟨fun ad e => ?_, keep⟩
  obtain ⟨h1, h2⟩ := h ad e
  refine ⟨Nat.lt_of_lt_of_le h1 hw.size, ?_⟩
  rcases h2 with h2 | ⟨cur, hc⟩
  · exact .inl h2
  · exact .inr ⟨cur, (keep ad e).trans hc⟩
theorem ERow.kept {w w' : World} {a : Option Addr} {n : Nat} {es : List EntD} (h : ERow w a n es) (hk : ∀ ad, a = some ad → w'.heap[ad.block]? = w.heap[ad.block]?) : ERow w' a n es := by
  refine ⟨h.1, fun i hi => ?_⟩
  obtain ⟨b, off, e, c0, c1⟩ := h.2 i hi
  have hb := hk _ e
  exact ⟨b, off, e, (World.cell?_of_block (a := ⟨b, off + i * 2, none⟩) hb).trans c0, (World.cell?_of_block (a := ⟨b, off + i * 2 + 1, none⟩) hb).trans c1⟩
theorem DRow.kept {w w' : World} {a : Option Addr} {n : Nat} {ds : List DelD} (h : DRow w a n ds) (hk : ∀ ad, a = some ad → w'.heap[ad.block]? = w.heap[ad.block]?) : DRow w' a n ds := by
  refine ⟨h.1, fun i hi => ?_⟩
  obtain ⟨b, off, e, c0, c1, c2, c3⟩ := h.2 i hi
  have hb := hk _ e
  exact ⟨b, off, e, (World.cell?_of_block (a := ⟨b, off + i * 4, none⟩) hb).trans c0, (World.cell?_of_block (a := ⟨b, off + i * 4 + 1, none⟩) hb).trans c1, (World.cell?_of_block (a := ⟨b, off + i * 4 + 2, none⟩) hb).trans c2, (World.cell?_of_block (a := ⟨b, off + i * 4 + 3, none⟩) hb).trans c3⟩
theorem PgRows.wr {w w' : World} {B : Nat} {x : PpH} {P : Nat → Prop} (h : PgRows w B x) (hw : WrB P w w') (hP : NoRow w B P) : PgRows w' B x := by
  obtain ⟨k1, l1⟩ := h.ke.wr hw hP (.inl rfl)
  obtain ⟨k2, l2⟩ := h.kd.wr hw hP (.inr rfl)
  exact ⟨h.es.kept l1, h.ds.kept l2, k1, k2, h.ce, h.cd⟩
theorem NoRow.none (w : World) (B : Nat) : NoRow w B (fun _ => False) := fun _ h => h.elim
theorem wrb_none {w w' : World} (hb : Below w.heap.size w w') : WrB (fun _ => False) w w' := WrB.of_below hb
theorem PgRows.below {w w' : World} {B : Nat} {x : PpH} (h : PgRows w B x) (hb : Below w.heap.size w w') : PgRows w' B x := h.wr (wrb_none hb) (NoRow.none w B)
theorem rowK_own {w : World} {B C t s n m c : Nat} {a : Option Addr} {cs : List Value} (h : w.ownsRow C t s (.slice a n c) m cs) : RowK w B a t ∧ (a = none → c = 0) := by
  refine ⟨fun ad e => ?_, fun e => ?_⟩
  · subst e
    have h1 := (h.lt ad.block rfl).2
    obtain ⟨cur, hc⟩ := own_kind h rfl
    exact ⟨h1, .inr ⟨cur, hc⟩⟩
  · rcases h.2 with ⟨e2, _⟩ | ⟨g, cap, cur, e2, _⟩
    · injection e2
    · rw [e] at e2; injection e2 with e2; cases e2
/-- The blocks of a table that are written. -/
def TbW (mb : Nat) (vp vi : Value) (i : Nat) : Prop := i = mb ∨ vp.ownBlock = some i ∨ vi.ownBlock = some i
/-- A table whose pages' rows lie where they stay. -/
structure TbF (w : World) (B mb : Nat) (qs : List (Option (Nat × PpH))) (idx : List RefD) (vp vi : Value) : Prop where
  own : TbOwn w B mb qs idx vp vi
  rows : ∀ b x, some (b, x) ∈ qs → PgRows w B x
theorem TbF.below {w w' : World} {B mb : Nat} {qs : List (Option (Nat × PpH))} {idx : List RefD} {vp vi : Value} (h : TbF w B mb qs idx vp vi) (hb : Below w.heap.size w w') : TbF w' B mb qs idx vp vi :=
  ⟨h.own.below hb, fun b x hx => (h.rows b x hx).below hb⟩
theorem TbOwn.noRow {w : World} {B mb : Nat} {qs : List (Option (Nat × PpH))} {idx : List RefD} {vp vi : Value} (h : TbOwn w B mb qs idx vp vi) : NoRow w B (TbW mb vp vi) := fun i hi hlt => by
  rcases hi with rfl | hi | hi
  · exact ⟨h.bx, _, _, h.box, by decide, by decide⟩
  · obtain ⟨cur, hc⟩ := own_kind h.row hi
    exact ⟨(h.row.lt i hi).1, cur, _, hc, by decide, by decide⟩
  · obtain ⟨cur, hc⟩ := own_kind h.ix hi
    exact ⟨(h.ix.lt i hi).1, cur, _, hc, by decide, by decide⟩
theorem TbF.table {w : World} {B mb : Nat} {qs : List (Option (Nat × PpH))} {idx : List RefD} {vp vi : Value} (h : TbF w B mb qs idx vp vi) : ∃ ap cp ai ci, vp = .slice ap qs.length cp ∧ vi = .slice ai idx.length ci ∧ MtAt w mb qs idx ap cp ai ci := by
  obtain ⟨ap, cp, ai, ci, m⟩ := h.own.table (fun b x hx => ⟨(h.rows b x hx).es, (h.rows b x hx).ds⟩)
  have e := m.box
  rw [h.own.box] at e
  injection e with e
  injection e with e _ _
  have e1 : #[vp, vi][0]? = #[Value.slice ap qs.length cp, Value.slice ai idx.length ci][0]? := by rw [e]
  have e2 : #[vp, vi][1]? = #[Value.slice ap qs.length cp, Value.slice ai idx.length ci][1]? := by rw [e]
  exact ⟨ap, cp, ai, ci, by simpa using e1, by simpa using e2, m⟩
theorem qsP_set (qs : List (Option (Nat × PpH))) (k : Nat) (q : Option (Nat × PpH)) : qsP (qs.set k q) = (qsP qs).set k (q.map fun x => x.2.X) := by unfold qsP; rw [List.map_set]
theorem qsP_snoc (qs : List (Option (Nat × PpH))) (q : Option (Nat × PpH)) : qsP (qs ++ [q]) = qsP qs ++ [q.map fun x => x.2.X] := by unfold qsP; rw [List.map_append]; rfl
theorem qsP_len (qs : List (Option (Nat × PpH))) : (qsP qs).length = qs.length := List.length_map _
/-- Blocks that are pages' boxes are not written. -/
theorem TbOwn.box_keep {w w' : World} {B mb : Nat} {qs : List (Option (Nat × PpH))} {idx : List RefD} {vp vi : Value} (h : TbOwn w B mb qs idx vp vi) (hw : WrB (fun i => vp.ownBlock = some i) w w') {i : Nat} {cs : Array Value} {t : TypeId} (hi : w.heap[i]? = some (.cells cs t (0, 0))) (ht : t ≠ 70) : w'.heap[i]? = some (.cells cs t (0, 0)) := by
  refine (hw.block i (Array.getElem?_eq_some_iff.1 hi).1 fun e => ?_).trans hi
  obtain ⟨cur, hc⟩ := own_kind h.row e
  rw [hi] at hc
  injection hc with hc
  injection hc with _ hc _
  exact ht hc
theorem TbF.setP {w : World} {B mb : Nat} {qs : List (Option (Nat × PpH))} {idx : List RefD} {vp vi : Value} (h : TbF w B mb qs idx vp vi) {id : Nat} (hid : id < qs.length) (q : Option (Nat × PpH)) (hq : ∀ b x, q = some (b, x) → PgBox w B b x ∧ PgRows w B x) :
    ∃ gp c, vp = .slice (some ⟨gp, 0, none⟩) qs.length c ∧ w.cell? ⟨gp, id, none⟩ = some (ptrQ qs[id]) ∧ w.frozen? ⟨gp, id, none⟩ = false ∧ TbF (w.setCell ⟨gp, id, none⟩ (ptrQ q)) B mb (qs.set id q) idx vp vi ∧ WrB (TbW mb vp vi) w (w.setCell ⟨gp, id, none⟩ (ptrQ q)) ∧ gp ≠ mb := by
  rcases h.own.row.2 with ⟨_, h0⟩ | ⟨gp, cap, cur, e, hb, hh, _⟩
  · exfalso; omega
  subst e
  have hrow := h.own.row
  obtain ⟨hs, hg⟩ := World.ownsRow.stored hrow id (ptrQ q)
  have hw := WrB.of_grown hg
  have hw2 : WrB (fun i => (Value.slice (some ⟨gp, 0, none⟩) qs.length cap).ownBlock = some i) w (w.setCell ⟨gp, id, none⟩ (ptrQ q)) := hw.weak (fun i hi => hi)
  have nmb : gp ≠ mb := fun e2 => by
    rw [e2, h.own.box] at hh
    injection hh with hh
    injection hh with _ hh _
    exact absurd hh (by decide)
  have hc : w.cell? ⟨gp, id, none⟩ = some (ptrQ qs[id]) := by
    rw [hrow.cellAt id (by omega), List.getElem?_map, List.getElem?_eq_getElem hid]
    rfl
  have hWB : WrB (TbW mb (Value.slice (some ⟨gp, 0, none⟩) qs.length cap) vi) w (w.setCell ⟨gp, id, none⟩ (ptrQ q)) := hw2.weak (fun i hi => .inr (.inl hi))
  have hnr := h.own.noRow
  refine ⟨gp, cap, rfl, hc, (heap_at hh id).2, ⟨⟨?_, h.own.bx, ?_, fun b x hx => ?_, ?_⟩, fun b x hx => ?_⟩, hWB, nmb⟩
  · exact h.own.box_keep hw2 h.own.box (by decide)
  · unfold POwns
    rw [List.length_set, List.map_set]
    exact hs
  · have hp : PgBox w B b x := by
      rcases List.mem_or_eq_of_mem_set hx with hx | hx
      · exact h.own.pgs b x hx
      · exact (hq b x hx.symm).1
    exact ⟨hp.1, h.own.box_keep hw2 hp.2 (by decide)⟩
  · exact rr_owns_wr h.own.ix hw2 (fun i hi => own_other h.own.ix h.own.row (by decide) hi)
  · rcases List.mem_or_eq_of_mem_set hx with hx | hx
    · exact (h.rows b x hx).wr hWB hnr
    · exact (hq b x hx.symm).2.wr hWB hnr
/-- What a step leaves. -/
def TbRs (B mb : Nat) (vp vi : Value) (r : StR) (w : World) (e : Ending) (w' : World) : Prop :=
  ∃ qs' vp' vi', e = .returned (.tuple #[.int .i64 r.told, .int .i64 r.code]) ∧ TbF w' B mb qs' r.idx vp' vi' ∧ qsP qs' = r.ps ∧ WrB (TbW mb vp vi) w w'
/-- A new page from one put together. -/
theorem con_rows {w : World} {B C : Nat} {a : Option Addr} {n c : Nat} {X : PageD} (ho : EOwns w C (.slice a n c) X.es) (hd : X.ds = []) : PgRows w B ⟨X, ⟨a, n, c⟩, ⟨none, 0, 0⟩⟩ := by
  obtain ⟨k, hc⟩ := rowK_own (B := B) ho
  refine ⟨erow_of_owns ho, ?_, k, (fun ad e => by cases e), hc, fun _ => rfl⟩
  show DRow w none 0 X.ds
  rw [hd]
  exact ⟨rfl, fun i hi => absurd hi (Nat.not_lt_zero _)⟩
theorem conPg_eq {p : PageD} (h : okP p = true) : conP p.lo p.hi p.r p.es p.ds = conPg p := (con_ok h).1
set_option maxRecDepth 100000 in
set_option maxHeartbeats 4000000 in
theorem consolidate_any (B mb : Nat) (qs : List (Option (Nat × PpH))) (idx : List RefD) (vp vi : Value) (id : Nat) (p : PageD) (w : World) (hF : TbF w B mb qs idx vp vi) (hB : B ≤ w.heap.size) (hg : getP (qsP qs) (id : Int) = some p) (hok : okP p = true) :
    Calls Try.prog 41 #[.pointer (some ⟨mb, 0, none⟩), .int .i64 (id : Int)] w fun e w' => TbRs B mb vp vi (conT (qsP qs) idx id p) w e w' := by
  obtain ⟨k, hidk, _, pb, x, hqk, hX⟩ := tb_at hg
  obtain rfl : id = k := by omega
  subst hX
  clear hidk
  have hmem : some (pb, x) ∈ qs := List.mem_of_getElem? hqk
  have hlt : id < qs.length := (List.getElem?_eq_some_iff.1 hqk).1
  have hqe : qs[id] = some (pb, x) := (List.getElem?_eq_some_iff.1 hqk).2
  obtain ⟨ap, cp, ai, ci, hvp, hvi, M⟩ := hF.table
  have R := hF.rows pb x hmem
  have PB := (M.pgs pb x hmem).1
  have c0 := (heap_at M.box 0).1
  obtain ⟨b, off, hap, hc⟩ := M.row.at (j := id) (u := .pointer (some ⟨pb, 0, none⟩)) (by rw [List.getElem?_map, hqk]; rfl)
  have q0 := (heap_at PB 0).1
  have q1 := (heap_at PB 1).1
  have q2 := (heap_at PB 2).1
  have q3 := (heap_at PB 3).1
  have q4 := (heap_at PB 4).1
  have HC := hide (implConsolidate_any x.X.lo x.X.hi x.X.r x.s0.a x.s0.n x.s0.c x.X.es x.s1.a x.s1.n x.s1.c x.X.ds w R.es R.ds)
  have hds : x.s1.n = x.X.ds.length := R.ds.1.symm
  have hds12 : x.X.ds.length ≤ 12 := (ok_parts hok).2.2.1
  unfold ConRes at HC
  rw [show conP x.X.lo x.X.hi x.X.r x.X.es x.X.ds = conPg x.X from conPg_eq hok, show conC x.X.lo x.X.hi x.X.r x.X.es x.X.ds = 0 from (con_ok hok).2] at HC
  unfold pgv at HC
  obtain ⟨C, hC⟩ : ∃ C, C = conPg x.X := ⟨_, rfl⟩
  have CT := hide (show conT (qsP qs) idx id x.X = ⟨(qsP qs).set id (some C), idx, (x.X.ds.length : Int), 0⟩ by rw [hC]; rfl)
  have CD := hide (show C.ds = [] by rw [hC]; rfl)
  rw [← hC] at HC
  rw [unhide CT]
  clear CT hC
  obtain ⟨Clo, Chi, Cr, Ces, Cds⟩ := C
  have HCD := hide (show Cds = [] from unhide CD)
  clear CD
  simp only at HC
  have QE := hide hqe
  clear hqe
  have F := hide hF
  subst hap
  obtain ⟨gp, c', hvp2, -⟩ := hF.setP hlt none (fun b x e => by cases e)
  rw [hvp] at hvp2
  injection hvp2 with e1 _ _
  injection e1 with e1
  injection e1 with e1 e2 _
  subst e1 e2
  rw [Nat.zero_add] at hc
  clear R M PB hmem hF
  obtain ⟨X, ⟨a0, n0, k0⟩, ⟨a1, n1, k1⟩⟩ := x
  simp only at q0 q1 q2 q3 q4 HC hds hds12
  subst hds
  go_enter Try.func41, Try.ntmps41
  go_wp2_with fail
  refine (unhide HC).mono ?_
  rintro e w2 ⟨aE, nE, kE, rfl, hOE, hb2⟩
  have F2 := (unhide F).below hb2
  have bx := (Below.refl w2.heap.size w2).alloc (Nat.le_refl _) (.cells #[.string Clo, .string Chi, .int .i64 Cr, .slice aE nE kE, .slice none 0 0] 51)
  have F3 := F2.below bx
  have PBX : PgBox (w2.alloc (.cells #[.string Clo, .string Chi, .int .i64 Cr, .slice aE nE kE, .slice none 0 0] 51)) B w2.heap.size ⟨⟨Clo, Chi, Cr, Ces, Cds⟩, ⟨aE, nE, kE⟩, ⟨none, 0, 0⟩⟩ := ⟨Nat.le_trans hB hb2.size, heap_alloc_new w2 _⟩
  have PR := (con_rows (B := B) (X := ⟨Clo, Chi, Cr, Ces, Cds⟩) hOE (unhide HCD)).below bx
  obtain ⟨gp, c', hvp3, hcell, hfz, F4, W4, _⟩ := F3.setP hlt (some (w2.heap.size, ⟨⟨Clo, Chi, Cr, Ces, Cds⟩, ⟨aE, nE, kE⟩, ⟨none, 0, 0⟩⟩)) (fun b x e => by injection e with e; injection e with e1 e2; subst e1 e2; exact ⟨PBX, PR⟩)
  rw [hvp] at hvp3
  injection hvp3 with e1 _ _
  injection e1 with e1
  injection e1 with e1 _ _
  subst e1
  have m0 := (heap_at F3.own.box 0).1
  rw [hvp] at m0
  rw [unhide QE] at hcell
  unfold ptrQ at hcell F4 W4
  simp only [Option.map_some] at hcell F4 W4
  have RES := hide (show TbRs B mb vp vi ⟨(qsP qs).set id (some ⟨Clo, Chi, Cr, Ces, Cds⟩), idx, (X.ds.length : Int), 0⟩ w (.returned (.tuple #[.int .i64 (X.ds.length : Int), .int .i64 0])) _ from ⟨_, vp, vi, rfl, F4, (by rw [qsP_set]; rfl), (WrB.of_below (hb2.trans (bx.mono hb2.size))).seq W4⟩)
  clear HC q0 q1 q2 q3 q4 c0 hc F2 F3 PBX PR F4 W4 bx hb2 hOE F
  go_wp2_with fail
  go_ret2
  exact unhide RES
end Go.Proofs.Ytbhkmmdcdfjbkaa

namespace Go.Proofs.Ytbhkmmdcdfjbkaa
open Go.RowKit

set_option maxRecDepth 100000 in
set_option maxHeartbeats 8000000 in
theorem implExtend_any (lo hi : ByteArray) (r : Int) (ab : Option Addr) (nb cb : Nat) (es : List EntD) (ac : Option Addr) (nc cc : Nat) (ds : List DelD) (d : DelD) (w : World) (hE : ERow w ab nb es) (hD : DRow w ac nc ds) (hcb : ab = none → cb = 0) (hcc : ac = none → cc = 0) :
    Calls Try.prog 65 #[pgv lo hi r ab nb cb ac nc cc, dv d] w fun e w' => ExtRes lo hi r es ds d w e w' := by
  obtain ⟨W, hW, k1, k2, k3, z, B⟩ := three_new w (.string lo) (.string hi) (.int .i64 r) (.slice ab nb cb) (.slice ac nc cc) d
  have RE := hide hE
  have RD := hide hD
  have LE := hide hE.1
  have LD := hide hD.1
  have K1 := hide k1
  have K2 := hide k2
  have K3 := hide k3
  clear hE hD k1 k2 k3
  go_enter Try.func65, Try.ntmps65
  go_wp2_with fail
  rw [← hW]
  clear hW
  refine (settle_any lo hi r ab nb cb es ac nc cc ds W ((unhide RE).below B) ((unhide RD).below B)).mono ?_
  rintro e w1 ⟨v, b, rfl, ⟨hb', hs⟩, hb⟩
  replace K1 := hide ((hb.block w.heap.size (by omega)).trans (unhide K1))
  replace K2 := hide ((hb.block (w.heap.size + 1) (by omega)).trans (unhide K2))
  replace K3 := hide ((hb.block (w.heap.size + 1 + 1) (by omega)).trans (unhide K3))
  replace B := B.trans (hb.mono (by omega))
  have z1 : w.heap.size + 1 + 1 + 1 ≤ w1.heap.size := by have := hb.size; omega
  clear hb
  cases b with
  | false =>
    have HOK := hide hb'.symm
    clear hb' hs
    obtain ⟨t0, t1, t2, t3, t4⟩ := pg_cells5 (unhide K3)
    obtain ⟨f0, f1, f2, f3, f4⟩ := fz_cells (unhide K3)
    have EX := hide (ext1 (d := d) (unhide HOK))
    go_wp2_with fail
    refine bodyPost_ret (v := .tuple #[pgv ByteArray.empty ByteArray.empty 0 none 0 0 none 0 0, .int .i64 1]) (by simp [results, Try.results65, go_sem, *] <;> rfl) rfl ?_
    exact ext_bad (unhide EX) (by decide) (by first | exact set5_below B (by omega) _ _ _ _ _ | exact B)
  | true =>
    obtain ⟨sb, a', n', c', rfl, hsb, hS⟩ := hs rfl
    have HOK := hide hb'.symm
    have HS := hide hS
    have hl := ok_len (unhide HOK)
    have hb3 : nb ≤ 32 := by have := unhide LE; omega
    have hc' : nc ≤ 12 := by have := unhide LD; omega
    have hn' : n' ≤ 100 := by have := (unhide HS).len; omega
    have hsb3 : w.heap.size + 1 + 1 + 1 ≤ sb := by omega
    clear hb' hs hS hl z
    obtain ⟨q0, q1, q2, q3⟩ := d_cells (unhide K2)
    go_wp2_with fail
    refine (changeOf_any d w1).mono ?_
    rintro e w2 ⟨cv, rfl, hcv, hb⟩
    replace K1 := hide ((hb.block w.heap.size (by omega)).trans (unhide K1))
    replace K2 := hide ((hb.block (w.heap.size + 1) (by omega)).trans (unhide K2))
    replace K3 := hide ((hb.block (w.heap.size + 1 + 1) (by omega)).trans (unhide K3))
    replace B := B.trans (hb.mono (by omega))
    replace HS := hide ((unhide HS).step hb)
    have z2 : w.heap.size + 1 + 1 + 1 ≤ w2.heap.size := by have := hb.size; omega
    clear hb q0 q1 q2 q3
    by_cases hc : okC d = true
    · obtain rfl := hcv hc
      have HC := hide hc
      rw [hc]
      clear hcv
      go_wp2_with fail
      refine (takes_any sb lo (highE hi ds) (rightE r ds) _ d w2 (unhide HS).at_ hc).mono ?_
      rintro e w3 ⟨rfl, hb⟩
      clear hc
      replace K1 := hide ((hb.block w.heap.size (by omega)).trans (unhide K1))
      replace K2 := hide ((hb.block (w.heap.size + 1) (by omega)).trans (unhide K2))
      replace K3 := hide ((hb.block (w.heap.size + 1 + 1) (by omega)).trans (unhide K3))
      replace B := B.trans (hb.mono (by omega))
      replace HS := hide ((unhide HS).step hb)
      have z3 : w.heap.size + 1 + 1 + 1 ≤ w3.heap.size := by have := hb.size; omega
      clear hb
      by_cases ht : takesC lo (highE hi ds) d = true
      · have HDL := hide (show okDel lo (highE hi ds) d = true by rw [okDel_eq, unhide HC, ht]; rfl)
        rw [ht]
        clear ht
        obtain ⟨p0, p1, p2, p3, p4⟩ := pg_cells5 (unhide K1)
        by_cases h12 : nc = 12
        · have hn12 : ds.length = 12 := by rw [unhide LD]; exact h12
          have h12' : ((nc : Int) == 12) = true := by simp [h12]
          have H12 := hide hn12
          clear h12 hn12
          obtain ⟨t0, t1, t2, t3, t4⟩ := pg_cells5 (unhide K3)
          obtain ⟨f0, f1, f2, f3, f4⟩ := fz_cells (unhide K3)
          have EX := hide (ext7 (unhide HOK) (unhide HDL) (unhide H12))
          go_wp2_with fail
          refine bodyPost_ret (v := .tuple #[pgv ByteArray.empty ByteArray.empty 0 none 0 0 none 0 0, .int .i64 7]) (by simp [results, Try.results65, go_sem, *] <;> rfl) rfl ?_
          exact ext_bad (unhide EX) (by decide) (by first | exact set5_below B (by omega) _ _ _ _ _ | exact B)
        · have hn12 : ¬ ds.length = 12 := by rw [unhide LD]; exact h12
          have h12' : ((nc : Int) == 12) = false := by simp; omega
          have H12 := hide hn12
          clear h12 hn12
          go_wp2_with fail
          refine (do_any sb lo (highE hi ds) (rightE r ds) a' n' c' (entsE es ds) d w3 (unhide HS) hn' (unhide HC)).mono ?_
          rintro e w4 ⟨rfl, ⟨a4, n4, c4, hS4⟩, hb⟩
          clear p0 p1 p2 p3 p4
          replace K1 := hide ((hb.block w.heap.size (by omega)).trans (unhide K1))
          replace K2 := hide ((hb.block (w.heap.size + 1) (by omega)).trans (unhide K2))
          replace K3 := hide ((hb.block (w.heap.size + 1 + 1) (by omega)).trans (unhide K3))
          replace B := B.trans (hb.mono (by omega))
          have z4 : w.heap.size + 1 + 1 + 1 ≤ w4.heap.size := by have := hb.size; omega
          have x3 := hS4.at_.c3
          have HM := hide (show n4 = (entsE es (ds ++ [d])).length by rw [entsE_snoc]; exact hS4.len)
          clear hb HS hS4
          by_cases h32 : 32 < n4
          · have h32i : (32 : Int) < (n4 : Int) := by omega
            have H32 := hide (show 32 < (entsE es (ds ++ [d])).length by rw [← unhide HM]; exact h32)
            clear h32
            obtain ⟨t0, t1, t2, t3, t4⟩ := pg_cells5 (unhide K3)
            obtain ⟨f0, f1, f2, f3, f4⟩ := fz_cells (unhide K3)
            have EX := hide (ext6 (unhide HOK) (unhide HDL) (unhide H12) (unhide H32))
            go_wp2_with fail
            refine bodyPost_ret (v := .tuple #[pgv ByteArray.empty ByteArray.empty 0 none 0 0 none 0 0, .int .i64 6]) (by simp [results, Try.results65, go_sem, *] <;> rfl) rfl ?_
            exact ext_bad (unhide EX) (by decide) (by first | exact set5_below B (by omega) _ _ _ _ _ | exact B)
          · have h32i : ¬ (32 : Int) < (n4 : Int) := by omega
            have EX := hide (ext0 (unhide HOK) (unhide HDL) (unhide H12) (show ¬ 32 < (entsE es (ds ++ [d])).length by rw [← unhide HM]; exact h32))
            clear h32
            obtain ⟨p0, p1, p2, p3, p4⟩ := pg_cells5 (unhide K1)
            go_upto_region 12 with fail
            -- Concat of the entries
            have bo : Below w4.heap.size w4 (w4.alloc (.cells #[.slice ab nb cb] 23)) := (Below.refl _ _).alloc (Nat.le_refl _) _
            have KO : (w4.alloc (.cells #[.slice ab nb cb] 23)).cell? ⟨w4.heap.size, 0, none⟩ = some (.slice ab nb cb) := heap_cell (heap_alloc_new w4 _) 0
            have zo : (w4.alloc (.cells #[.slice ab nb cb] 23)).heap.size = w4.heap.size + 1 := by simp
            have Bo := B.trans (bo.mono B.size)
            have CE := hide (concatE1 w4.heap.size ab nb cb es _ KO ((unhide RE).below Bo) hcb (by omega))
            have K1o := hide ((bo.block w.heap.size (by omega)).trans (unhide K1))
            have K2o := hide ((bo.block (w.heap.size + 1) (by omega)).trans (unhide K2))
            have K3o := hide ((bo.block (w.heap.size + 1 + 1) (by omega)).trans (unhide K3))
            clear bo KO
            have ZO := hide zo
            clear zo
            go_wp2_with fail
            refine (unhide CE).mono ?_
            rintro e w5 ⟨v5, rfl, hO5, hb⟩
            have zo := unhide ZO
            have K15 := (hb.block w.heap.size (by omega)).trans (unhide K1o)
            have K25 := (hb.block (w.heap.size + 1) (by omega)).trans (unhide K2o)
            have K35 := (hb.block (w.heap.size + 1 + 1) (by omega)).trans (unhide K3o)
            have B5 := Bo.trans (hb.mono Bo.size)
            have z5 := hb.size
            obtain ⟨a5, n5, c5, rfl⟩ : ∃ a n c, v5 = .slice a n c := by
              rcases hO5.2 with ⟨e, _⟩ | ⟨g, cap, cur, e, _⟩
              · exact ⟨_, _, _, e⟩
              · exact ⟨_, _, _, e⟩
            have c53 : w5.cell? ⟨w.heap.size, 3, none⟩ = some (.slice ab nb cb) := heap_cell K15 3
            have f53 := heap_frozen K15 3
            have K16 := hide (heap_set K15 3 (.slice a5 n5 c5))
            have K26 := hide ((Below.heap_setCell w5 ⟨w.heap.size, 3, none⟩ (.slice a5 n5 c5) (w.heap.size + 1) (by simp)).trans K25)
            have K36 := hide ((Below.heap_setCell w5 ⟨w.heap.size, 3, none⟩ (.slice a5 n5 c5) (w.heap.size + 1 + 1) (by show w.heap.size + 1 + 1 ≠ w.heap.size; omega)).trans K35)
            have O6 := hide (ownsRow_set (show w5.ownsRow _ _ _ _ _ _ from hO5) (sb := w.heap.size) (by omega) 3 (.slice a5 n5 c5))
            have B6 := B5.setCell (p := ⟨w.heap.size, 3, none⟩) (Nat.le_refl _) (.slice a5 n5 c5)
            have z6 : (w5.setCell ⟨w.heap.size, 3, none⟩ (.slice a5 n5 c5)).heap.size = w5.heap.size := by simp [World.setCell]
            have L5 : w4.heap.size ≤ (w4.alloc (.cells #[.slice ab nb cb] 23)).heap.size := by omega
            replace O6 := hide (ownsRow_base (unhide O6) L5)
            obtain ⟨w6, hw6⟩ : ∃ w6, w6 = w5.setCell ⟨w.heap.size, 3, none⟩ (.slice a5 n5 c5) := ⟨_, rfl⟩
            rw [← hw6] at K16 K26 K36 O6 B6 z6
            have HW6 := hide hw6
            have zz6 : w.heap.size + 1 + 1 + 1 ≤ w6.heap.size := by omega
            have zz46 : w4.heap.size ≤ w6.heap.size := by omega
            clear hb hO5 K15 K25 K35 B5 hw6 z6 zo z5 L5 K1o K2o K3o Bo CE p0 p1 p2 p3 p4 x3 ZO
            go_upto_region 13 with fail
            rw [← unhide HW6]
            clear c53 f53
            -- Concat of the changes
            obtain ⟨p0, p1, p2, p3, p4⟩ := (show w6.cell? ⟨w.heap.size, 0, none⟩ = some (.string lo) ∧ w6.cell? ⟨w.heap.size, 1, none⟩ = some (.string hi) ∧ w6.cell? ⟨w.heap.size, 2, none⟩ = some (.int .i64 r) ∧ w6.cell? ⟨w.heap.size, 3, none⟩ = some (.slice a5 n5 c5) ∧ w6.cell? ⟨w.heap.size, 4, none⟩ = some (.slice ac nc cc) from ⟨heap_cell (unhide K16) 0, heap_cell (unhide K16) 1, heap_cell (unhide K16) 2, heap_cell (unhide K16) 3, heap_cell (unhide K16) 4⟩)
            obtain ⟨q0, q1, q2, q3⟩ := d_cells (unhide K26)
            have bd : Below w6.heap.size w6 (w6.alloc (.cells #[.int .i64 d.kind, .string d.k, .string d.v, .int .i64 d.to] 86)) := (Below.refl _ _).alloc (Nat.le_refl _) _
            have KD := drow_one (heap_alloc_new w6 (.cells #[.int .i64 d.kind, .string d.k, .string d.v, .int .i64 d.to] 86))
            have zd : (w6.alloc (.cells #[.int .i64 d.kind, .string d.k, .string d.v, .int .i64 d.to] 86)).heap.size = w6.heap.size + 1 := by simp
            obtain ⟨w7, hw7⟩ : ∃ w7, w7 = w6.alloc (.cells #[.int .i64 d.kind, .string d.k, .string d.v, .int .i64 d.to] 86) := ⟨_, rfl⟩
            rw [← hw7] at bd KD zd
            have bp : Below w7.heap.size w7 (w7.alloc (.cells #[.slice ac nc cc, .slice (some ⟨w6.heap.size, 0, none⟩) 1 1] 49)) := (Below.refl _ _).alloc (Nat.le_refl _) _
            have KP := heap_new zd #[.slice ac nc cc, .slice (some ⟨w6.heap.size, 0, none⟩) 1 1] 49
            have B8 := (B6.trans (bd.mono B6.size)).trans (bp.mono (by omega))
            have zp : (w7.alloc (.cells #[.slice ac nc cc, .slice (some ⟨w6.heap.size, 0, none⟩) 1 1] 49)).heap.size = w6.heap.size + 1 + 1 := by simp [zd]
            have b68 : Below w6.heap.size w6 (w7.alloc (.cells #[.slice ac nc cc, .slice (some ⟨w6.heap.size, 0, none⟩) 1 1] 49)) := bd.trans (bp.mono (by omega))
            have CD := hide (concatD2 (w6.heap.size + 1) ac nc cc ds w6.heap.size d _ (heap_cell KP 0) (heap_cell KP 1) ((unhide RD).below B8) (KD.below bp) hcc (by omega))
            have K18 := hide ((b68.block w.heap.size (by omega)).trans (unhide K16))
            have K38 := hide ((b68.block (w.heap.size + 1 + 1) (by omega)).trans (unhide K36))
            have O8 := hide (ownsRow_below (unhide O6) b68)
            have HZP := hide zp
            have HW7 := hide hw7
            rw [hw7] at *
            clear bd KD zd bp KP b68 zp hw7
            go_wp2_with fail
            refine (unhide CD).mono ?_
            rintro e w9 ⟨v9, rfl, hO9, hb⟩
            have zp := unhide HZP
            have K19 := (hb.block w.heap.size (by omega)).trans (unhide K18)
            have K39 := (hb.block (w.heap.size + 1 + 1) (by omega)).trans (unhide K38)
            have O9 := ownsRow_below (unhide O8) hb
            have B9 := B8.trans (hb.mono B8.size)
            have z9 := hb.size
            obtain ⟨a9, n9, c9, rfl⟩ : ∃ a n c, v9 = .slice a n c := by
              rcases hO9.2 with ⟨e, _⟩ | ⟨g, cap, cur, e, _⟩
              · exact ⟨_, _, _, e⟩
              · exact ⟨_, _, _, e⟩
            have c94 : w9.cell? ⟨w.heap.size, 4, none⟩ = some (.slice ac nc cc) := heap_cell K19 4
            have f94 := heap_frozen K19 4
            have K1u := heap_set K19 4 (.slice a9 n9 c9)
            have K3u := (Below.heap_setCell w9 ⟨w.heap.size, 4, none⟩ (.slice a9 n9 c9) (w.heap.size + 1 + 1) (by show w.heap.size + 1 + 1 ≠ w.heap.size; omega)).trans K39
            have OEu := ownsRow_set O9 (sb := w.heap.size) (by omega) 4 (.slice a9 n9 c9)
            have ODu := ownsRow_set (ownsRow_base (show w9.ownsRow _ _ _ _ _ _ from hO9) (C := w4.heap.size) (by omega)) (sb := w.heap.size) (by omega) 4 (.slice a9 n9 c9)
            have Bu := B9.setCell (p := ⟨w.heap.size, 4, none⟩) (Nat.le_refl _) (.slice a9 n9 c9)
            obtain ⟨wu, hwu⟩ : ∃ wu, wu = w9.setCell ⟨w.heap.size, 4, none⟩ (.slice a9 n9 c9) := ⟨_, rfl⟩
            rw [← hwu] at K1u K3u OEu ODu Bu
            have u0 : wu.cell? ⟨w.heap.size, 0, none⟩ = some (.string lo) := heap_cell K1u 0
            have u1 : wu.cell? ⟨w.heap.size, 1, none⟩ = some (.string hi) := heap_cell K1u 1
            have u2 : wu.cell? ⟨w.heap.size, 2, none⟩ = some (.int .i64 r) := heap_cell K1u 2
            have u3 : wu.cell? ⟨w.heap.size, 3, none⟩ = some (.slice a5 n5 c5) := heap_cell K1u 3
            have u4 : wu.cell? ⟨w.heap.size, 4, none⟩ = some (.slice a9 n9 c9) := heap_cell K1u 4
            obtain ⟨t0, t1, t2, t3, t4⟩ := pg_cells5 K3u
            obtain ⟨f0, f1, f2, f3, f4⟩ := fz_cells K3u
            have hlt4 : w.heap.size + 1 + 1 < w4.heap.size := by omega
            have hle4 : w.heap.size ≤ w4.heap.size := by omega
            have hle5 : w.heap.size ≤ w.heap.size + 1 + 1 := by omega
            have FE := hide (ownsRow_base (set5_owns OEu hlt4 (.string lo) (.string hi) (.int .i64 r) (.slice a5 n5 c5) (.slice a9 n9 c9)) hle4)
            have FD := hide (ownsRow_base (set5_owns ODu hlt4 (.string lo) (.string hi) (.int .i64 r) (.slice a5 n5 c5) (.slice a9 n9 c9)) hle4)
            have FB := hide (set5_below Bu hle5 (.string lo) (.string hi) (.int .i64 r) (.slice a5 n5 c5) (.slice a9 n9 c9))
            have HWU := hide hwu
            clear hb hO9 K19 K39 O9 B9 K1u K3u OEu ODu Bu hwu zp z9 CD K18 K38 O8 HZP HW7 p0 p1 p2 p3 p4 q0 q1 q2 q3
            go_upto_region 14 with fail
            rw [← unhide HWU]
            clear c94 f94
            go_wp2_with fail
            refine bodyPost_ret (v := .tuple #[pgv lo hi r a5 n5 c5 a9 n9 c9, .int .i64 0]) (by simp [results, Try.results65, go_sem, *]) rfl ?_
            exact ext_good (unhide EX) (unhide FE) (unhide FD) (unhide FB)
      · have ht : takesC lo (highE hi ds) d = false := by simpa using ht
        have HDL := hide (show okDel lo (highE hi ds) d = false by rw [okDel_eq, unhide HC, ht]; rfl)
        rw [ht]
        clear ht
        obtain ⟨t0, t1, t2, t3, t4⟩ := pg_cells5 (unhide K3)
        obtain ⟨f0, f1, f2, f3, f4⟩ := fz_cells (unhide K3)
        have EX := hide (ext4 (unhide HOK) (unhide HDL))
        go_wp2_with fail
        refine bodyPost_ret (v := .tuple #[pgv ByteArray.empty ByteArray.empty 0 none 0 0 none 0 0, .int .i64 4]) (by simp [results, Try.results65, go_sem, *] <;> rfl) rfl ?_
        exact ext_bad (unhide EX) (by decide) (by first | exact set5_below B (by omega) _ _ _ _ _ | exact B)
    · have hc : okC d = false := by simpa using hc
      have HDL := hide (show okDel lo (highE hi ds) d = false by rw [okDel_eq, hc]; rfl)
      rw [hc]
      clear hcv hc
      obtain ⟨t0, t1, t2, t3, t4⟩ := pg_cells5 (unhide K3)
      obtain ⟨f0, f1, f2, f3, f4⟩ := fz_cells (unhide K3)
      have EX := hide (ext4 (unhide HOK) (unhide HDL))
      go_wp2_with fail
      refine bodyPost_ret (v := .tuple #[pgv ByteArray.empty ByteArray.empty 0 none 0 0 none 0 0, .int .i64 4]) (by simp [results, Try.results65, go_sem, *] <;> rfl) rfl ?_
      exact ext_bad (unhide EX) (by decide) (by first | exact set5_below B (by omega) _ _ _ _ _ | exact B)
end Go.Proofs.Ytbhkmmdcdfjbkaa

namespace Go.Proofs.Ytbhkmmdcdfjbkaa
open Go.RowKit

theorem blk_lt {w : World} {b : Nat} {o : Obj} (h : w.heap[b]? = some o) : b < w.heap.size := (Array.getElem?_eq_some_iff.1 h).1
theorem TbF.page {w : World} {B mb : Nat} {qs : List (Option (Nat × PpH))} {idx : List RefD} {vp vi : Value} (h : TbF w B mb qs idx vp vi) {id : Nat} {p : PageD} (hg : getP (qsP qs) (id : Int) = some p) :
    ∃ (pb : Nat) (x : PpH) (gp c : Nat) (hid : id < qs.length), x.X = p ∧ qs[id] = some (pb, x) ∧ vp = .slice (some ⟨gp, 0, none⟩) qs.length c ∧ w.cell? ⟨gp, id, none⟩ = some (.pointer (some ⟨pb, 0, none⟩)) ∧ w.heap[pb]? = some (.cells #[.string x.X.lo, .string x.X.hi, .int .i64 x.X.r, .slice x.s0.a x.s0.n x.s0.c, .slice x.s1.a x.s1.n x.s1.c] 51 (0, 0)) ∧ PgRows w B x := by
  obtain ⟨k, hidk, _, pb, x, hqk, hX⟩ := tb_at hg
  obtain rfl : id = k := by omega
  obtain ⟨hlt, hqe⟩ := List.getElem?_eq_some_iff.1 hqk
  have hmem : some (pb, x) ∈ qs := List.mem_of_getElem? hqk
  obtain ⟨gp, c, hvp, hc, _⟩ := h.setP hlt none (fun b x e => by cases e)
  refine ⟨pb, x, gp, c, hlt, hX, hqe, hvp, ?_, (h.own.pgs pb x hmem).2, h.rows pb x hmem⟩
  rw [hc, hqe]
  rfl
theorem set5_heap {w : World} {b : Nat} {u0 u1 u2 u3 u4 : Value} {t : TypeId} (h : w.heap[b]? = some (.cells #[u0, u1, u2, u3, u4] t (0, 0))) (v0 v1 v2 v3 v4 : Value) : (set5 w b v0 v1 v2 v3 v4).heap[b]? = some (.cells #[v0, v1, v2, v3, v4] t (0, 0)) := by
  have h0 : (w.setCell ⟨b, 0, none⟩ v0).heap[b]? = some (.cells #[v0, u1, u2, u3, u4] t (0, 0)) := by have := heap_set h 0 v0; simpa using this
  have h1 : ((w.setCell ⟨b, 0, none⟩ v0).setCell ⟨b, 1, none⟩ v1).heap[b]? = some (.cells #[v0, v1, u2, u3, u4] t (0, 0)) := by have := heap_set h0 1 v1; simpa using this
  have h2 : (((w.setCell ⟨b, 0, none⟩ v0).setCell ⟨b, 1, none⟩ v1).setCell ⟨b, 2, none⟩ v2).heap[b]? = some (.cells #[v0, v1, v2, u3, u4] t (0, 0)) := by have := heap_set h1 2 v2; simpa using this
  have h3 : ((((w.setCell ⟨b, 0, none⟩ v0).setCell ⟨b, 1, none⟩ v1).setCell ⟨b, 2, none⟩ v2).setCell ⟨b, 3, none⟩ v3).heap[b]? = some (.cells #[v0, v1, v2, v3, u4] t (0, 0)) := by have := heap_set h2 3 v3; simpa using this
  have := heap_set h3 4 v4
  simpa using this
theorem set5_wr (w : World) (b : Nat) (v0 v1 v2 v3 v4 : Value) : WrB (fun i => i = b) w (set5 w b v0 v1 v2 v3 v4) := by
  have s : ∀ (u : World) (j : Nat) (v : Value), WrB (fun i => i = b) u (u.setCell ⟨b, j, none⟩ v) := fun u j v => ⟨rfl, rfl, rfl, by simp [World.setCell], fun k _ hk => Below.heap_setCell _ _ _ _ hk⟩
  exact ((((s w 0 v0).seq (s _ 1 v1)).seq (s _ 2 v2)).seq (s _ 3 v3)).seq (s _ 4 v4)
theorem PgRows.wr_box {w w' : World} {B b : Nat} {x : PpH} {cs : Array Value} {t : TypeId} (h : PgRows w B x) (hw : WrB (fun i => i = b) w w') (hB : B ≤ b) (hb : w.heap[b]? = some (.cells cs t (0, 0))) (h1 : t ≠ 37) (h2 : t ≠ 86) : PgRows w' B x :=
  h.wr hw (fun i e _ => by subst e; exact ⟨hB, cs, t, hb, h1, h2⟩)
theorem ext_rows {w : World} {B C : Nat} {a a2 : Option Addr} {n c n2 c2 : Nat} {X : PageD} (h : PgOwn w C a n c a2 n2 c2 X.es X.ds) : PgRows w B ⟨X, ⟨a, n, c⟩, ⟨a2, n2, c2⟩⟩ := by
  obtain ⟨k1, c1⟩ := rowK_own (B := B) h.1
  obtain ⟨k2, c2⟩ := rowK_own (B := B) h.2.1
  exact ⟨erow_of_owns h.1, drow_of_owns h.2.1, k1, k2, c1, c2⟩
set_option maxRecDepth 100000 in
set_option maxHeartbeats 8000000 in
theorem change_any (B mb : Nat) (qs : List (Option (Nat × PpH))) (idx : List RefD) (vp vi : Value) (a : AcT) (w : World) (hF : TbF w B mb qs idx vp vi) (hB : B ≤ w.heap.size) (hT : Tre (qsP qs) idx) :
    Calls Try.prog 62 #[.pointer (some ⟨mb, 0, none⟩), .agg #[.int .i64 a.kind, .int .i64 a.id, .string a.key, .string a.val], .agg #[.int .i64 (chgD a).kind, .string (chgD a).k, .string (chgD a).v, .int .i64 (chgD a).to]] w fun e w' => TbRs B mb vp vi (chgT (qsP qs) idx a) w e w' := by
  have NOP := hide (show ∀ u, Below w.heap.size w u → ∀ r : StR, r.ps = qsP qs → r.idx = idx → TbRs B mb vp vi r w (.returned (.tuple #[.int .i64 r.told, .int .i64 r.code])) u from fun u hu r h1 h2 => ⟨qs, vp, vi, rfl, by rw [h2]; exact hF.below hu, h1.symm, WrB.of_below hu⟩)
  have KE := hide (fun u => keyOK_any a.key u)
  have VE := hide (fun u => valueOK_any a.val u)
  obtain ⟨d, hd⟩ : ∃ d, d = chgD a := ⟨_, rfl⟩
  rw [← hd]
  have b0 : Below w.heap.size w ((w.alloc (.cells #[.int .i64 a.kind, .int .i64 a.id, .string a.key, .string a.val] 35)).alloc (.cells #[.int .i64 d.kind, .string d.k, .string d.v, .int .i64 d.to] 86)) := ((Below.refl _ _).alloc (Nat.le_refl _) _).alloc (by simp) _
  cases hky : keyK a.key with
  | false =>
    have E := hide (show chgT (qsP qs) idx a = ⟨qsP qs, idx, 0, 11⟩ by unfold chgT; rw [if_pos (.inl hky)])
    rw [unhide E]
    rw [hky] at KE
    clear hF hT hd
    go_enter Try.func62, Try.ntmps62
    go_wp2_with fail
    refine (unhide KE _).mono ?_
    rintro e w2 ⟨rfl, hw2⟩
    subst w2
    go_wp2_with fail
    go_ret2
    exact unhide NOP _ b0 ⟨qsP qs, idx, 0, 11⟩ rfl rfl
  | true =>
  cases hvl : valK a.val with
  | false =>
    have E := hide (show chgT (qsP qs) idx a = ⟨qsP qs, idx, 0, 11⟩ by unfold chgT; rw [if_pos (.inr hvl)])
    rw [unhide E]
    rw [hky] at KE
    rw [hvl] at VE
    clear hF hT hd
    go_enter Try.func62, Try.ntmps62
    go_wp2_with fail
    refine (unhide KE _).mono ?_
    rintro e w2 ⟨rfl, hw2⟩
    subst w2
    go_wp2_with fail
    refine (unhide VE _).mono ?_
    rintro e w2 ⟨rfl, hw2⟩
    subst w2
    go_wp2_with fail
    go_ret2
    exact unhide NOP _ b0 ⟨qsP qs, idx, 0, 11⟩ rfl rfl
  | true =>
  rw [hky] at KE
  rw [hvl] at VE
  have hG := hT.good
  obtain ⟨p, hdn⟩ := hG.down a.key
  obtain ⟨k, hk, hkl⟩ := getP_lt hdn.1
  have hgp : getP (qsP qs) (k : Int) = some p := by rw [← hk]; exact hdn.1
  have hokp := hT.ok _ p hgp
  obtain ⟨r1, r2, r3, r4, r5, r6⟩ := roomP_ok hokp
  have hod : okDel (roomP p).lo (hiP (roomP p)) d = true := by rw [hd, r2, r3]; exact chgD_ok hky hvl hdn.2.1 hdn.2.2.1
  have CT := hide (show chgT (qsP qs) idx a = if 32 < (enP (addD (roomP p) d)).length then ⟨qsP qs, idx, 0, 7⟩ else ⟨(qsP qs).set k (some (addD (roomP p) d)), idx, (k : Int), 0⟩ by
    unfold chgT
    rw [if_neg (by rw [hky, hvl]; simp), hdn.1, hk, ← hd]
    rfl)
  have XC := hide (show (32 < (enP (addD (roomP p) d)).length → extC (roomP p).lo (roomP p).hi (roomP p).r (roomP p).es (roomP p).ds d = 6) ∧ (¬ 32 < (enP (addD (roomP p) d)).length → extC (roomP p).lo (roomP p).hi (roomP p).r (roomP p).es (roomP p).ds d = 0) from ⟨fun h => addD_full r1 hod r6 h, fun h => (addD_ok r1 hod r6 (by omega)).1⟩)
  have hkq : k < qs.length := by rw [qsP_len] at hkl; exact hkl
  have hds12 : p.ds.length ≤ 12 := (ok_parts hokp).2.2.1
  have OKP := hide hokp
  obtain ⟨ap, cp, ai, ci, hvp, hvi, hM⟩ := hF.table
  have F := hide hF
  have HD := hide (fun (u : World) (hu : Below w.heap.size w u) => down_any mb qs idx ap cp ai ci a.key u (hM.below hu) hG)
  rw [hk] at HD
  generalize hDN : (downT (qsP qs) idx a.key).2 = DN at *
  have K1 := hide (((Below.refl (w.alloc (.cells #[.int .i64 a.kind, .int .i64 a.id, .string a.key, .string a.val] 35)).heap.size (w.alloc (.cells #[.int .i64 a.kind, .int .i64 a.id, .string a.key, .string a.val] 35))).alloc (Nat.le_refl _) (.cells #[.int .i64 d.kind, .string d.k, .string d.v, .int .i64 d.to] 86)).block w.heap.size (by simp) |>.trans (heap_alloc_new w (.cells #[.int .i64 a.kind, .int .i64 a.id, .string a.key, .string a.val] 35)))
  have K2 := hide (show ((w.alloc (.cells #[.int .i64 a.kind, .int .i64 a.id, .string a.key, .string a.val] 35)).alloc (.cells #[.int .i64 d.kind, .string d.k, .string d.v, .int .i64 d.to] 86)).heap[w.heap.size + 1]? = some (.cells #[.int .i64 d.kind, .string d.k, .string d.v, .int .i64 d.to] 86 (0, 0)) by have h := heap_alloc_new (w.alloc (.cells #[.int .i64 a.kind, .int .i64 a.id, .string a.key, .string a.val] 35)) (.cells #[.int .i64 d.kind, .string d.k, .string d.v, .int .i64 d.to] 86); simpa using h)
  have z0 : w.heap.size + 1 < ((w.alloc (.cells #[.int .i64 a.kind, .int .i64 a.id, .string a.key, .string a.val] 35)).alloc (.cells #[.int .i64 d.kind, .string d.k, .string d.v, .int .i64 d.to] 86)).heap.size := by simp
  clear hF hT hG hdn hM hky hvl hd r1 r2 r3 r4 r5 r6 hod hk hDN hkl hvi
  obtain ⟨a_kind, a_id, a_key, a_val⟩ := a
  simp only at *
  go_enter Try.func62, Try.ntmps62
  go_wp2_with fail
  generalize hWW : (w.alloc (.cells #[.int .i64 a_kind, .int .i64 a_id, .string a_key, .string a_val] 35)).alloc (.cells #[.int .i64 d.kind, .string d.k, .string d.v, .int .i64 d.to] 86) = W at *
  clear hWW
  have t2 := (heap_at (unhide K1) 2).1
  have t3 := (heap_at (unhide K1) 3).1
  refine (unhide KE _).mono ?_
  rintro e w1 ⟨rfl, hw1⟩
  subst w1
  go_wp2_with fail
  refine (unhide VE _).mono ?_
  rintro e w1 ⟨rfl, hw1⟩
  subst w1
  go_wp2_with fail
  refine (unhide HD W b0).mono ?_
  rintro e w2 ⟨rfl, hb2⟩
  have B2 := b0.trans (hb2.mono b0.size)
  have F2 := hide ((unhide F).below B2)
  replace K2 := hide ((hb2.block (w.heap.size + 1) z0).trans (unhide K2))
  have z2 : w.heap.size + 1 < w2.heap.size := Nat.lt_of_lt_of_le z0 hb2.size
  clear hb2 b0 z0 K1 HD F t2 t3 KE VE
  obtain ⟨pb, x, gp, c, hkq2, hX, hqe, hvp2, hc, hPB, hR⟩ := (unhide F2).page hgp
  rw [hvp] at hvp2
  injection hvp2 with e1 el ec
  clear el
  subst hX e1 ec
  have c0 := (heap_at (unhide F2).own.box 0).1
  rw [hvp] at c0
  have q0 := (heap_at hPB 0).1
  have q1 := (heap_at hPB 1).1
  have q2 := (heap_at hPB 2).1
  have q3 := (heap_at hPB 3).1
  have q4 := (heap_at hPB 4).1
  have RR := hide hR
  have hds : x.s1.n = x.X.ds.length := hR.ds.1.symm
  have QE := hide hqe
  have HVP := hide hvp
  clear hPB hR hgp hqe hvp hokp
  obtain ⟨X, ⟨a0, n0, k0⟩, ⟨a1, n1, k1⟩⟩ := x
  simp only at q0 q1 q2 q3 q4 hds hds12 OKP CT XC
  have HDS := hide hds
  have hn12 : n1 ≤ 12 := by omega
  clear hds hds12
  have bx := (Below.refl w2.heap.size w2).alloc (Nat.le_refl _) (.cells #[.string X.lo, .string X.hi, .int .i64 X.r, .slice a0 n0 k0, .slice a1 n1 k1] 51)
  have KX := hide (heap_alloc_new w2 (.cells #[.string X.lo, .string X.hi, .int .i64 X.r, .slice a0 n0 k0, .slice a1 n1 k1] 51))
  have R3 := hide ((unhide RR).below bx)
  replace K2 := hide ((bx.block (w.heap.size + 1) z2).trans (unhide K2))
  have BW := hide bx
  have zx : w2.heap.size < (w2.alloc (.cells #[.string X.lo, .string X.hi, .int .i64 X.r, .slice a0 n0 k0, .slice a1 n1 k1] 51)).heap.size := by simp
  have hBx : B ≤ w2.heap.size := Nat.le_trans hB B2.size
  have hneq : w.heap.size + 1 ≠ w2.heap.size := by omega
  have F2B := hide (show ∀ u, Below w2.heap.size w2 u → TbF u B mb qs idx vp vi ∧ Below w.heap.size w u from fun u hu => ⟨(unhide F2).below hu, B2.trans (hu.mono B2.size)⟩)
  clear bx RR F2 B2
  by_cases h12 : n1 = 12
  · have PX := hide (show roomP X = conPg X by unfold roomP; rw [if_pos (by rw [← unhide HDS]; exact h12)])
    rw [unhide PX] at XC
    have HC := hide (implConsolidate_any X.lo X.hi X.r a0 n0 k0 X.es a1 n1 k1 X.ds _ (unhide R3).es (unhide R3).ds)
    unfold ConRes at HC
    rw [show conP X.lo X.hi X.r X.es X.ds = conPg X from conPg_eq (unhide OKP), show conC X.lo X.hi X.r X.es X.ds = 0 from (con_ok (unhide OKP)).2] at HC
    unfold pgv at HC
    obtain ⟨C, hC⟩ : ∃ C, C = conPg X := ⟨_, rfl⟩
    have HCD := hide (show C.ds = [] by rw [hC]; rfl)
    rw [← hC] at HC PX XC
    clear hC R3
    obtain ⟨Clo, Chi, Cr, Ces, Cds⟩ := C
    obtain rfl : Cds = [] := unhide HCD
    clear HCD
    simp only at HC XC
    subst h12
    go_wp2_with fail
    generalize w2.alloc (.cells #[.string X.lo, .string X.hi, .int .i64 X.r, .slice a0 n0 k0, .slice a1 12 k1] 51) = W3 at *
    refine (unhide HC).mono ?_
    rintro e w4 ⟨aE, nE, kE, rfl, hOE, hb4⟩
    have hxb : w2.heap.size ≤ w2.heap.size := Nat.le_refl _
    have KX4 := (hb4.block w2.heap.size (blk_lt (unhide KX))).trans (unhide KX)
    have W5 := set5_wr w4 w2.heap.size (.string Clo) (.string Chi) (.int .i64 Cr) (.slice aE nE kE) (.slice none 0 0)
    have B4 := (unhide BW).trans (hb4.mono (unhide BW).size)
    replace BW := hide (B4.trans (WrB.below W5 (fun i e => by rw [e]; exact Nat.le_refl _) B4.size))
    replace K2 := hide ((W5.block (w.heap.size + 1) (Nat.lt_of_lt_of_le (blk_lt (unhide K2)) hb4.size) hneq).trans ((hb4.block (w.heap.size + 1) (blk_lt (unhide K2))).trans (unhide K2)))
    have R3 := hide ((con_rows (B := B) (X := ⟨Clo, Chi, Cr, Ces, []⟩) hOE rfl).wr_box W5 hBx KX4 (by decide) (by decide))
    replace KX := hide (set5_heap KX4 (.string Clo) (.string Chi) (.int .i64 Cr) (.slice aE nE kE) (.slice none 0 0))
    obtain ⟨y0, y1, y2, y3, y4⟩ := pg_cells5 KX4
    obtain ⟨f0, f1, f2, f3, f4⟩ := fz_cells KX4
    have hBxb : B ≤ w2.heap.size := hBx
    clear HC hOE hb4 KX4 B4 W5 zx q0 q1 q2 q3 q4 c0 hc
    change Hid (((((((w4.setCell ⟨w2.heap.size, 0, none⟩ (.string Clo)).setCell ⟨w2.heap.size, 1, none⟩ (.string Chi)).setCell ⟨w2.heap.size, 2, none⟩ (.int .i64 Cr)).setCell ⟨w2.heap.size, 3, none⟩ (.slice aE nE kE)).setCell ⟨w2.heap.size, 4, none⟩ (.slice none 0 0))).heap[w2.heap.size]? = _) at KX
    change Hid (((((((w4.setCell ⟨w2.heap.size, 0, none⟩ (.string Clo)).setCell ⟨w2.heap.size, 1, none⟩ (.string Chi)).setCell ⟨w2.heap.size, 2, none⟩ (.int .i64 Cr)).setCell ⟨w2.heap.size, 3, none⟩ (.slice aE nE kE)).setCell ⟨w2.heap.size, 4, none⟩ (.slice none 0 0))).heap[w.heap.size + 1]? = _) at K2
    change Hid (Below _ _ ((((((w4.setCell ⟨w2.heap.size, 0, none⟩ (.string Clo)).setCell ⟨w2.heap.size, 1, none⟩ (.string Chi)).setCell ⟨w2.heap.size, 2, none⟩ (.int .i64 Cr)).setCell ⟨w2.heap.size, 3, none⟩ (.slice aE nE kE)).setCell ⟨w2.heap.size, 4, none⟩ (.slice none 0 0)))) at BW
    change Hid (PgRows ((((((w4.setCell ⟨w2.heap.size, 0, none⟩ (.string Clo)).setCell ⟨w2.heap.size, 1, none⟩ (.string Chi)).setCell ⟨w2.heap.size, 2, none⟩ (.int .i64 Cr)).setCell ⟨w2.heap.size, 3, none⟩ (.slice aE nE kE)).setCell ⟨w2.heap.size, 4, none⟩ (.slice none 0 0))) _ _) at R3
    generalize hxe : w2.heap.size = xb at *
    have hxs : xb ≤ w2.heap.size := Nat.le_of_eq hxe.symm
    clear hxe
    have HX := hide (implExtend_any Clo Chi Cr aE nE kE Ces none 0 0 [] d ((((((w4.setCell ⟨xb, 0, none⟩ (.string Clo)).setCell ⟨xb, 1, none⟩ (.string Chi)).setCell ⟨xb, 2, none⟩ (.int .i64 Cr)).setCell ⟨xb, 3, none⟩ (.slice aE nE kE)).setCell ⟨xb, 4, none⟩ (.slice none 0 0))) (unhide R3).es (unhide R3).ds (unhide R3).ce (unhide R3).cd)
    unfold ExtRes pgv at HX
    have d0 := (heap_at (unhide K2) 0).1
    have d1 := (heap_at (unhide K2) 1).1
    have d2 := (heap_at (unhide K2) 2).1
    have d3 := (heap_at (unhide K2) 3).1
    obtain ⟨x0, x1, x2, x3, x4⟩ := pg_cells5 (unhide KX)
    have EP := hide (show extC Clo Chi Cr Ces [] d = 0 → extP Clo Chi Cr Ces [] d = addD ⟨Clo, Chi, Cr, Ces, []⟩ d from fun h => by unfold extP; rw [if_pos h]; rfl)
    generalize extP Clo Chi Cr Ces [] d = Y at *
    generalize extC Clo Chi Cr Ces [] d = cc at *
    clear R3
    obtain ⟨dk, dkey, dval, dto⟩ := d
    simp only at d0 d1 d2 d3
    unfold dv at HX
    go_wp2_with fail
    refine (unhide HX).mono ?_
    rintro e w6 ⟨aY, nY, kY, aZ, nZ, kZ, rfl, hOY, hb6⟩
    have KX6 := (hb6.block xb (blk_lt (unhide KX))).trans (unhide KX)
    have B6 := hide ((unhide BW).trans (hb6.mono (Nat.le_trans hxs (unhide BW).size)))
    have W7 := set5_wr w6 xb (.string Y.lo) (.string Y.hi) (.int .i64 Y.r) (.slice aY nY kY) (.slice aZ nZ kZ)
    have KX7 := hide (set5_heap KX6 (.string Y.lo) (.string Y.hi) (.int .i64 Y.r) (.slice aY nY kY) (.slice aZ nZ kZ))
    have R7 := hide ((ext_rows (B := B) (X := Y) hOY).wr_box W7 hBxb KX6 (by decide) (by decide))
    have B7 := hide ((unhide B6).trans (WrB.below W7 (fun i e => by rw [e]; exact hxb) (Nat.le_trans hxs (unhide B6).size)))
    obtain ⟨y0, y1, y2, y3, y4⟩ := pg_cells5 KX6
    obtain ⟨f0, f1, f2, f3, f4⟩ := fz_cells KX6
    clear HX hOY hb6 KX6 W7 d0 d1 d2 d3 x0 x1 x2 x3 x4 B6 KX K2 BW
    rw [unhide PX] at CT
    by_cases hful : 32 < (enP (addD ⟨Clo, Chi, Cr, Ces, []⟩ ⟨dk, dkey, dval, dto⟩)).length
    · have hcc : cc = 6 := (unhide XC).1 hful
      have RES := hide (show TbRs B mb vp vi (chgT (qsP qs) idx ⟨a_kind, a_id, a_key, a_val⟩) w (.returned (.tuple #[.int .i64 0, .int .i64 7])) (set5 w6 xb (.string Y.lo) (.string Y.hi) (.int .i64 Y.r) (.slice aY nY kY) (.slice aZ nZ kZ)) by
        rw [unhide CT, if_pos hful]
        exact unhide NOP _ (unhide F2B _ (unhide B7)).2 ⟨qsP qs, idx, 0, 7⟩ rfl rfl)
      clear CT XC F2B B7 NOP EP
      subst hcc
      go_wp2_with fail
      go_ret2
      exact unhide RES
    · have hcc : cc = 0 := (unhide XC).2 hful
      have hY := unhide EP hcc
      obtain ⟨F7, B7w⟩ := unhide F2B _ (unhide B7)
      obtain ⟨gp7, c7, hvp7, hcell, hfz, F8, W8, hne8⟩ := F7.setP hkq (some (xb, ⟨Y, ⟨aY, nY, kY⟩, ⟨aZ, nZ, kZ⟩⟩)) (fun b x e => by injection e with e; injection e with e1 e2; subst e1 e2; exact ⟨⟨hBxb, unhide KX7⟩, unhide R7⟩)
      have m0 := (heap_at F7.own.box 0).1
      rw [hvp7] at m0
      unfold ptrQ at F8 W8
      rw [unhide QE] at hcell
      unfold ptrQ at hcell
      simp only [Option.map_some] at hcell F8 W8
      have RES := hide (show TbRs B mb vp vi (chgT (qsP qs) idx ⟨a_kind, a_id, a_key, a_val⟩) w (.returned (.tuple #[.int .i64 (k : Int), .int .i64 0])) ((set5 w6 xb (.string Y.lo) (.string Y.hi) (.int .i64 Y.r) (.slice aY nY kY) (.slice aZ nZ kZ)).setCell ⟨gp7, k, none⟩ (.pointer (some ⟨xb, 0, none⟩))) by
        rw [unhide CT, if_neg hful, ← hY]
        exact ⟨_, vp, vi, rfl, F8, (by rw [qsP_set]; rfl), (WrB.of_below B7w).seq W8⟩)
      clear CT XC F2B B7 NOP EP hful hY F7 B7w F8 W8 R7 KX7 QE HVP
      subst hcc
      go_wp2_with fail
      go_ret2
      exact unhide RES
  · have PX := hide (show roomP X = X by unfold roomP; rw [if_neg (by rw [← unhide HDS]; exact h12)])
    have h12b : ((n1 : Int) == 12) = false := by rw [beq_eq_false_iff_ne]; omega
    have hxb : w2.heap.size ≤ w2.heap.size := Nat.le_refl _
    have hBxb : B ≤ w2.heap.size := hBx
    rw [unhide PX] at XC
    clear OKP hBx hneq zx
    obtain ⟨Xlo, Xhi, Xr, Xes, Xds⟩ := X
    simp only at *
    have hxs : w2.heap.size ≤ w2.heap.size := Nat.le_refl _
    have HX := hide (implExtend_any Xlo Xhi Xr a0 n0 k0 Xes a1 n1 k1 Xds d (w2.alloc (.cells #[.string Xlo, .string Xhi, .int .i64 Xr, .slice a0 n0 k0, .slice a1 n1 k1] 51)) (unhide R3).es (unhide R3).ds (unhide R3).ce (unhide R3).cd)
    unfold ExtRes pgv at HX
    have d0 := (heap_at (unhide K2) 0).1
    have d1 := (heap_at (unhide K2) 1).1
    have d2 := (heap_at (unhide K2) 2).1
    have d3 := (heap_at (unhide K2) 3).1
    obtain ⟨x0, x1, x2, x3, x4⟩ := pg_cells5 (unhide KX)
    have EP := hide (show extC Xlo Xhi Xr Xes Xds d = 0 → extP Xlo Xhi Xr Xes Xds d = addD ⟨Xlo, Xhi, Xr, Xes, Xds⟩ d from fun h => by unfold extP; rw [if_pos h]; rfl)
    generalize extP Xlo Xhi Xr Xes Xds d = Y at *
    generalize extC Xlo Xhi Xr Xes Xds d = cc at *
    clear R3
    obtain ⟨dk, dkey, dval, dto⟩ := d
    simp only at d0 d1 d2 d3
    unfold dv at HX
    go_wp2_with fail
    refine (unhide HX).mono ?_
    rintro e w6 ⟨aY, nY, kY, aZ, nZ, kZ, rfl, hOY, hb6⟩
    have KX6 := (hb6.block w2.heap.size (blk_lt (unhide KX))).trans (unhide KX)
    have B6 := hide ((unhide BW).trans (hb6.mono (Nat.le_trans hxs (unhide BW).size)))
    have W7 := set5_wr w6 w2.heap.size (.string Y.lo) (.string Y.hi) (.int .i64 Y.r) (.slice aY nY kY) (.slice aZ nZ kZ)
    have KX7 := hide (set5_heap KX6 (.string Y.lo) (.string Y.hi) (.int .i64 Y.r) (.slice aY nY kY) (.slice aZ nZ kZ))
    have R7 := hide ((ext_rows (B := B) (X := Y) hOY).wr_box W7 hBxb KX6 (by decide) (by decide))
    have B7 := hide ((unhide B6).trans (WrB.below W7 (fun i e => by rw [e]; exact hxb) (Nat.le_trans hxs (unhide B6).size)))
    obtain ⟨y0, y1, y2, y3, y4⟩ := pg_cells5 KX6
    obtain ⟨f0, f1, f2, f3, f4⟩ := fz_cells KX6
    clear HX hOY hb6 KX6 W7 d0 d1 d2 d3 x0 x1 x2 x3 x4 B6 KX K2 BW
    rw [unhide PX] at CT
    by_cases hful : 32 < (enP (addD ⟨Xlo, Xhi, Xr, Xes, Xds⟩ ⟨dk, dkey, dval, dto⟩)).length
    · have hcc : cc = 6 := (unhide XC).1 hful
      have RES := hide (show TbRs B mb vp vi (chgT (qsP qs) idx ⟨a_kind, a_id, a_key, a_val⟩) w (.returned (.tuple #[.int .i64 0, .int .i64 7])) (set5 w6 w2.heap.size (.string Y.lo) (.string Y.hi) (.int .i64 Y.r) (.slice aY nY kY) (.slice aZ nZ kZ)) by
        rw [unhide CT, if_pos hful]
        exact unhide NOP _ (unhide F2B _ (unhide B7)).2 ⟨qsP qs, idx, 0, 7⟩ rfl rfl)
      clear CT XC F2B B7 NOP EP
      subst hcc
      go_wp2_with fail
      go_ret2
      exact unhide RES
    · have hcc : cc = 0 := (unhide XC).2 hful
      have hY := unhide EP hcc
      obtain ⟨F7, B7w⟩ := unhide F2B _ (unhide B7)
      obtain ⟨gp7, c7, hvp7, hcell, hfz, F8, W8, hne8⟩ := F7.setP hkq (some (w2.heap.size, ⟨Y, ⟨aY, nY, kY⟩, ⟨aZ, nZ, kZ⟩⟩)) (fun b x e => by injection e with e; injection e with e1 e2; subst e1 e2; exact ⟨⟨hBxb, unhide KX7⟩, unhide R7⟩)
      have m0 := (heap_at F7.own.box 0).1
      rw [hvp7] at m0
      unfold ptrQ at F8 W8
      rw [unhide QE] at hcell
      unfold ptrQ at hcell
      simp only [Option.map_some] at hcell F8 W8
      have RES := hide (show TbRs B mb vp vi (chgT (qsP qs) idx ⟨a_kind, a_id, a_key, a_val⟩) w (.returned (.tuple #[.int .i64 (k : Int), .int .i64 0])) ((set5 w6 w2.heap.size (.string Y.lo) (.string Y.hi) (.int .i64 Y.r) (.slice aY nY kY) (.slice aZ nZ kZ)).setCell ⟨gp7, k, none⟩ (.pointer (some ⟨w2.heap.size, 0, none⟩))) by
        rw [unhide CT, if_neg hful, ← hY]
        exact ⟨_, vp, vi, rfl, F8, (by rw [qsP_set]; rfl), (WrB.of_below B7w).seq W8⟩)
      clear CT XC F2B B7 NOP EP hful hY F7 B7w F8 W8 R7 KX7 QE HVP
      subst hcc
      go_wp2_with fail
      go_ret2
      exact unhide RES
end Go.Proofs.Ytbhkmmdcdfjbkaa

namespace Go.Proofs.Ytbhkmmdcdfjbkaa
open Go.RowKit

/-- One entry appended to a row of the call's own, and where the new row lies. -/
theorem e_app {w : World} {B : Nat} {v : Value} {es : List EntD} {d : EntD} (ho : EOwns w B v es) (hz : es.length ≤ 1000000) (hB : B ≤ w.heap.size) :
    ∃ v' w', (Builtin.append_ #[23, 23] 23 #[v, .slice (some ⟨w.heap.size, 0, none⟩) 1 1]).run Try.prog (w.alloc (.cells #[.string d.k, .string d.v] 37)) = .ok v' w' ∧ EOwns w' B v' (es ++ [d]) ∧ (w.alloc (.cells #[.string d.k, .string d.v] 37)).grownBy w' v.ownBlock ∧ (v'.ownBlock = v.ownBlock ∨ ∃ g, v'.ownBlock = some g ∧ (w.alloc (.cells #[.string d.k, .string d.v] 37)).heap.size ≤ g) := by
  obtain ⟨i0, hi0, hz0, hz1, hz2⟩ := info_parts Try.infoEntry
  obtain ⟨W, hW⟩ : ∃ W, W = w.alloc (.cells #[.string d.k, .string d.v] 37) := ⟨_, rfl⟩
  have bA : Below w.heap.size w W := by rw [hW]; exact (Below.refl _ _).alloc (Nat.le_refl _) _
  have zW : W.heap.size = w.heap.size + 1 := by rw [hW]; simp
  have hcells : ∀ j u, (ecs [d])[j]? = some u → W.cell? ((⟨w.heap.size, 0, none⟩ : Addr).add j) = some u := fun j u hu => by
    have hj : j < 2 := by simpa [ecs] using (List.getElem?_eq_some_iff.1 hu).1
    have e2 : (⟨w.heap.size, 0, none⟩ : Addr).add j = ⟨w.heap.size, j, none⟩ := by unfold Addr.add; split <;> simp_all
    rw [e2, hW]
    refine rb_cell_new rfl ?_
    match j, hj with
    | 0, _ => simpa [ecs] using hu
    | 1, _ => simpa [ecs] using hu
  have hoa : EOwns W B v es := rb_ownsRow_below ho bA
  rw [← hW]
  obtain ⟨v', w', hrun, ho', hg, _, hl⟩ := app_at (P := Try.prog) (w := W) (B := B) 23 23 37 Try.underlying23 hi0 hz0 hz1 hz2 rfl (by decide) hoa ⟨w.heap.size, 0, none⟩ 1 1 (ecs [d]) (by simp [ecs]) hcells (ecs_one _) (by unfold maxLen; omega) (by omega) (by omega) (fun _ => by omega)
  refine ⟨v', w', hrun, ?_, hg, ?_⟩
  · unfold EOwns
    rw [ecs_append, List.length_append]
    exact ho'
  · rcases hl with h | h
    · exact .inl h
    · exact .inr ⟨_, h, Nat.le_refl _⟩
/-- A list of entries that grows beside what stood there. -/
structure BwIn (u0 wr : World) (B : Nat) (v0 v : Value) (xs : List EntD) : Prop where
  own : EOwns wr B v xs
  kept : u0.grownBy wr v0.ownBlock
  loc : v.ownBlock = v0.ownBlock ∨ ∃ g, v.ownBlock = some g ∧ u0.heap.size ≤ g
theorem BwIn.below {u0 wr u : World} {B : Nat} {v0 v : Value} {xs : List EntD} (h : BwIn u0 wr B v0 v xs) (hb : Below wr.heap.size wr u) : BwIn u0 u B v0 v xs :=
  ⟨rb_ownsRow_below h.own hb, rb_grown_trans h.kept (rb_grownBy_below hb), h.loc⟩
theorem BwIn.start {u0 : World} {B : Nat} {v : Value} {xs : List EntD} (h : EOwns u0 B v xs) : BwIn u0 u0 B v v xs := ⟨h, rb_grownBy_below (Below.refl _ _), .inl rfl⟩
theorem BwIn.app {u0 wr w' : World} {B : Nat} {v0 v v' : Value} {xs : List EntD} {d : EntD} (h : BwIn u0 wr B v0 v xs) (ho : EOwns w' B v' (xs ++ [d])) (hg : wr.grownBy w' v.ownBlock) (hl : v'.ownBlock = v.ownBlock ∨ ∃ g, v'.ownBlock = some g ∧ wr.heap.size ≤ g) : BwIn u0 w' B v0 v' (xs ++ [d]) := by
  refine ⟨ho, ⟨hg.os.trans h.kept.os, hg.tape.trans h.kept.tape, hg.output.trans h.kept.output, Nat.le_trans h.kept.size hg.size, fun k hk hne => ?_⟩, ?_⟩
  · refine (hg.block k (Nat.lt_of_lt_of_le hk h.kept.size) fun e => ?_).trans (h.kept.block k hk hne)
    rcases h.loc with hl | ⟨g, hl, hge⟩
    · exact hne (e.trans hl)
    · rw [hl] at e
      injection e with e
      omega
  · rcases hl with hl | ⟨g, hl, hge⟩
    · rw [hl]; exact h.loc
    · exact .inr ⟨g, hl, Nat.le_trans h.kept.size hge⟩
theorem erow_kept {u wr : World} {r : Option Nat} {a : Option Addr} {n : Nat} {es : List EntD} (h : ERow u a n es) (hg : u.grownBy wr r) (hne : ∀ ad, a = some ad → r ≠ some ad.block) : ERow wr a n es := by
  refine ⟨h.1, fun i hi => ?_⟩
  obtain ⟨b, off, e, c0, c1⟩ := h.2 i hi
  have hb : wr.heap[b]? = u.heap[b]? := hg.block b (cell_lt c0) (fun e2 => hne _ e e2.symm)
  exact ⟨b, off, e, (World.cell?_of_block (a := ⟨b, off + i * 2, none⟩) hb).trans c0, (World.cell?_of_block (a := ⟨b, off + i * 2 + 1, none⟩) hb).trans c1⟩
theorem filt_yes {l : List EntD} {f : EntD → Bool} {j : Nat} (h : j < l.length) (hf : f l[j] = true) : (l.take (j + 1)).filter f = (l.take j).filter f ++ [l[j]] := by
  rw [rb_take_snoc l j h, List.filter_append, List.filter_cons_of_pos hf, List.filter_nil]
theorem filt_no {l : List EntD} {f : EntD → Bool} {j : Nat} (h : j < l.length) (hf : f l[j] = false) : (l.take (j + 1)).filter f = (l.take j).filter f := by
  rw [rb_take_snoc l j h, List.filter_append, List.filter_cons_of_neg (by rw [hf]; decide), List.filter_nil, List.append_nil]
/-- How many pages stand from a page on. -/
def szId (ps : List (Option PageD)) (id : Int) : Nat := match getP ps id with
  | some p => cntGe ps p.lo
  | none => 0
theorem szId_next {ps : List (Option PageD)} {idx : List RefD} (g : GoodT ps idx) {id : Int} {p : PageD} (h : getP ps id = some p) : szId ps (riP p) < szId ps id := by
  unfold szId
  rw [h]
  have h1 := cntGe_here (getP_mem h)
  rcases next_of g.ok g.go h with ⟨hr, _⟩ | ⟨hlt, p2, hg2, e2⟩
  · rw [hr, getP_neg (by omega)]
    simp only
    omega
  · rw [hg2]
    simp only
    have := cntGe_next (getP_mem h) hlt
    rw [e2]
    omega
theorem eowns_slice {w : World} {B : Nat} {v : Value} {es : List EntD} (h : EOwns w B v es) : ∃ a c, v = .slice a es.length c ∧ (a = none → c = 0) := by
  rcases h.2 with ⟨e, h0⟩ | ⟨g, cap, cur, e, _⟩
  · exact ⟨none, 0, by rw [e, h0], fun _ => rfl⟩
  · exact ⟨_, _, e, fun h => by cases h⟩
set_option maxRecDepth 100000 in
set_option maxHeartbeats 8000000 in
theorem between_any (mb : Nat) (qs : List (Option (Nat × PpH))) (idx : List RefD) (ap : Option Addr) (cp : Nat) (ai : Option Addr) (ci : Nat) (fr tu : ByteArray) (w : World) (hM : MtAt w mb qs idx ap cp ai ci) (hG : GoodT (qsP qs) idx) :
    Calls Try.prog 14 #[.pointer (some ⟨mb, 0, none⟩), .string fr, .string tu] w fun e w' => ∃ v, e = .returned v ∧ EOwns w' w.heap.size v (rangeE (qsP qs) fr tu) ∧ Below w.heap.size w w' := by
  have M := hide hM
  have G := hide hG
  have HD := hide (down_any mb qs idx ap cp ai ci fr w hM hG)
  obtain ⟨p0, hg0, _⟩ := hG.down fr
  have S0 := hide (ScSt.start (f := fun e => inK fr tu e.k) hg0)
  have RA := hide (show (scanF (qsP qs) 40 (downT (qsP qs) idx fr).1).filter (fun e => inK fr tu e.k) = rangeE (qsP qs) fr tu from (scan_from hG fr tu).symm)
  rw [unhide RA] at S0
  clear hM hG hg0 RA
  generalize rangeE (qsP qs) fr tu = ALL at *
  generalize downT (qsP qs) idx fr = DN at *
  have F := hide (show ∃ f : EntD → Bool, f = fun e => inK fr tu e.k from ⟨_, rfl⟩)
  go_enter Try.func14, Try.ntmps14
  go_wp2_with fail
  refine (unhide HD).mono ?_
  rintro e w1 ⟨rfl, hb1⟩
  clear HD
  go_wp2_with fail
  go_loopw [7, 8] (fun lv iv wr => ∃ (id : Int) (c : Nat) (acc : List EntD) (a : Option Addr) (n k : Nat), lv = .slice a n k ∧ iv = .int .i64 id ∧ Hid (EOwns wr w.heap.size (.slice a n k) acc) ∧ Hid (ScSt (qsP qs) (fun e => inK fr tu e.k) ALL acc id c) ∧ Below w.heap.size w wr) (fun _ iv _ => szId (qsP qs) (intOf iv))
  case atStart => exact ⟨DN.1, 0, [], none, 0, 0, rfl, rfl, World.ownsRow_nil _ _ _ _, S0, hb1⟩
  case round =>
    clear hb1 S0
    obtain ⟨id, c, acc, aL, nL, kL, rfl, rfl, hO, hS, hb⟩ := hrel
    by_cases hid : id = -1
    · have E := hide (show EOwns wr w.heap.size (.slice aL nL kL) ALL by
        have h := unhide hS
        rw [hid] at h
        rw [h.done]
        exact unhide hO)
      subst hid
      clear hS hO
      go_wp2_with fail
      go_ret
      exact ⟨_, rfl, unhide E, hb⟩
    have hib : (id != -1) = true := by simpa using hid
    obtain ⟨p, hg⟩ := (unhide hS).pos hid
    obtain ⟨q, hidk, _, pb, x, hqk, hX⟩ := tb_at hg
    subst hidk
    have hmem : some (pb, x) ∈ qs := List.mem_of_getElem? hqk
    have MW := (unhide M).below hb
    obtain ⟨PB, hE, hD⟩ := MW.pgs pb x hmem
    have hokp : okP x.X = true := by rw [hX]; exact (unhide G).ok _ (getP_mem hg)
    have c0 := (heap_at MW.box 0).1
    obtain ⟨b, off, hap, hc⟩ := MW.row.at (j := q) (u := .pointer (some ⟨pb, 0, none⟩)) (by rw [List.getElem?_map, hqk]; rfl)
    subst hap
    have hkl : q < qs.length := (List.getElem?_eq_some_iff.1 hqk).1
    have q0 := (heap_at PB 0).1
    have q1 := (heap_at PB 1).1
    have q2 := (heap_at PB 2).1
    have q3 := (heap_at PB 3).1
    have q4 := (heap_at PB 4).1
    have HC := hide (implConsolidate_any x.X.lo x.X.hi x.X.r x.s0.a x.s0.n x.s0.c x.X.es x.s1.a x.s1.n x.s1.c x.X.ds wr hE hD)
    unfold ConRes at HC
    rw [(con_ok hokp).1, (con_ok hokp).2] at HC
    unfold pgv at HC
    rw [← hX] at hg
    have NX := hide ((unhide hS).next (unhide G) hg)
    have MS := hide (szId_next (unhide G) hg)
    have ROOM := hide (unhide hS).room
    have PL := hide (enP_len hokp)
    clear hS hg hE hD PB hqk hmem hX MW hokp
    obtain ⟨X, ⟨a0, n0, k0⟩, ⟨a1, n1, k1⟩⟩ := x
    simp only at q0 q1 q2 q3 q4 HC
    change Hid (ScSt _ _ _ (acc ++ (entsE X.es X.ds).filter _) (rightE X.r X.ds) _ ∧ _) at NX
    change Hid (szId _ (rightE X.r X.ds) < _) at MS
    change Hid ((entsE X.es X.ds).length ≤ 32) at PL
    generalize entsE X.es X.ds = ES at *
    generalize rightE X.r X.ds = R at *
    generalize highE X.hi X.ds = HH at *
    go_wp2_with fail
    refine (unhide HC).mono ?_
    rintro e w2 ⟨aE, nE, kE, rfl, hOE, hb2⟩
    have OL := hide (rb_ownsRow_below (unhide hO) hb2)
    have LB := hide (unhide hO)
    have BB := hb.trans (hb2.mono hb.size)
    clear HC q0 q1 q2 q3 q4 c0 hc hO
    obtain rfl : nE = ES.length := by
      obtain ⟨aE2, kE2, hvE, _⟩ := eowns_slice hOE
      injection hvE
    have bx := (Below.refl w2.heap.size w2).alloc (Nat.le_refl _) (.cells #[.string X.lo, .string HH, .int .i64 R, .slice aE ES.length kE, .slice none 0 0] 51)
    have U0 := hide (show BwIn (w2.alloc (.cells #[.string X.lo, .string HH, .int .i64 R, .slice aE ES.length kE, .slice none 0 0] 51)) (w2.alloc (.cells #[.string X.lo, .string HH, .int .i64 R, .slice aE ES.length kE, .slice none 0 0] 51)) w.heap.size (.slice aL nL kL) (.slice aL nL kL) (acc ++ (ES.take 0).filter (fun e => inK fr tu e.k)) by
      rw [List.take_zero, List.filter_nil, List.append_nil]
      exact BwIn.start (rb_ownsRow_below (unhide OL) bx))
    have ER := hide (erow_of_owns (rb_ownsRow_below hOE bx))
    have PX := hide (heap_alloc_new w2 (.cells #[.string X.lo, .string HH, .int .i64 R, .slice aE ES.length kE, .slice none 0 0] 51))
    have APE := hide (show ∀ ad, aE = some ad → (Value.slice aL nL kL).ownBlock ≠ some ad.block from fun ad e h => by
      have h1 := ((unhide LB).lt _ h).2
      have h2 := (hOE.lt ad.block (by rw [e]; rfl)).1
      omega)
    have APX := hide (show (Value.slice aL nL kL).ownBlock ≠ some w2.heap.size from fun h => by
      have h1 := ((unhide OL).lt _ h).2
      omega)
    have LG := hide (show ∀ g, (Value.slice aL nL kL).ownBlock = some g → w.heap.size ≤ g from fun g h => ((unhide LB).lt g h).1)
    have BU := hide (BB.trans (bx.mono BB.size))
    have hES : ES.length ≤ 32 := unhide PL
    clear hOE OL LB hb2 BB bx
    go_wp2_with fail
    generalize w2.alloc (.cells #[.string X.lo, .string HH, .int .i64 R, .slice aE ES.length kE, .slice none 0 0] 51) = W at *
    generalize w2.heap.size = xb at *
    generalize hEL : ES.length = EL at *
    have HEL := hide hEL
    clear hEL
    go_loopw [7, 38] (fun lv iv wr => ∃ (j : Nat) (a : Option Addr) (n k : Nat), j ≤ EL ∧ lv = .slice a n k ∧ iv = .int .i64 (j : Int) ∧ Hid (BwIn W wr w.heap.size (.slice aL nL kL) (.slice a n k) (acc ++ (ES.take j).filter (fun e => inK fr tu e.k)))) (fun _ iv _ => EL - (intOf iv).toNat)
    case atStart => exact ⟨0, aL, nL, kL, Nat.zero_le _, rfl, rfl, U0⟩
    case round =>
      obtain ⟨j, aJ, nJ, kJ, hj, rfl, rfl, hI⟩ := hrel
      by_cases hlt : j < EL
      case neg =>
        obtain rfl : j = EL := by omega
        have hI2 := unhide hI
        rw [List.take_of_length_le (by rw [unhide HEL]; exact Nat.le_refl _)] at hI2
        have K := hide hI2.own
        have KB := hide (show Below w.heap.size w wr by
          first
          | exact (unhide BU).trans (Wr.below (P := fun i => (Value.slice aL nL kL).ownBlock = some i) (Wr.of_grown hI2.kept (fun i hi => hi)) (fun i hi => unhide LG i hi) (unhide BU).size)
          | skip)
        have xc := (World.cell?_of_block (a := ⟨xb, 2, none⟩) (hI2.kept.block xb (Array.getElem?_eq_some_iff.1 (unhide PX)).1 (fun e => unhide APX e.symm))).trans (heap_at (unhide PX) 2).1
        clear hI hI2 U0 ER PX APE APX LG
        go_wp2_with fail
        go_roundw
        case rel => exact ⟨R, c + 1, _, aJ, nJ, kJ, rfl, rfl, K, (unhide NX).1, unhide KB⟩
        case measure => simp only [intOf]; exact unhide MS
      have hjE : j < ES.length := by rw [unhide HEL]; exact hlt
      obtain ⟨bE, oE, haE, d0, d1⟩ := (erow_kept (unhide ER) (unhide hI).kept (unhide APE)).2 j hjE
      subst haE
      have HW := hide (fun u => within_any ES[j].k fr tu u)
      have FY := hide (fun h => filt_yes (f := fun e => inK fr tu e.k) hjE h)
      have FN := hide (fun h => filt_no (f := fun e => inK fr tu e.k) hjE h)
      generalize hej : ES[j] = ej at *
      obtain ⟨ek, ev⟩ := ej
      simp only at d0 d1 HW FY FN
      have bx := (Below.refl wr.heap.size wr).alloc (Nat.le_refl _) (.cells #[.string ek, .string ev] 37)
      have I1 := hide ((unhide hI).below bx)
      have hB1 : w.heap.size ≤ wr.heap.size := Nat.le_trans (unhide BU).size (unhide hI).kept.size
      cases hin : inK fr tu ek with
      | false =>
        rw [hin] at HW
        have I2 := hide (show BwIn W (wr.alloc (.cells #[.string ek, .string ev] 37)) w.heap.size (.slice aL nL kL) (.slice aJ nJ kJ) (acc ++ (ES.take (j + 1)).filter (fun e => inK fr tu e.k)) by
          rw [unhide FN hin]
          exact unhide I1)
        clear hI I1 bx hej
        go_wp2_with fail
        refine (unhide HW _).mono ?_
        rintro e w3 ⟨rfl, hw3⟩
        subst w3
        go_wp2_with fail
        go_roundw
        case rel => exact ⟨j + 1, aJ, nJ, kJ, by omega, rfl, by go_num, I2⟩
        case measure => simp [intOf]; omega
      | true =>
        rw [hin] at HW
        have b1 : (wr.alloc (.cells #[.string ek, .string ev] 37)).cell? ⟨wr.heap.size, 0, none⟩ = some (.string ek) := by simp
        have b2 : (wr.alloc (.cells #[.string ek, .string ev] 37)).cell? ⟨wr.heap.size, 1, none⟩ = some (.string ev) := by simp
        have hacc : (acc ++ (ES.take j).filter (fun e : EntD => inK fr tu e.k)).length ≤ 1000000 := by
          have h1 := List.length_filter_le (fun e : EntD => inK fr tu e.k) (ES.take j)
          have h2 := unhide ROOM
          rw [List.length_append]
          rw [List.length_take] at h1
          omega
        have hB2 := Nat.le_trans hB1 bx.size
        obtain ⟨v2, w4, hr, ho, hgr, hlo⟩ := e_app (d := ⟨ek, ev⟩) (unhide I1).own hacc hB2
        have bx2 := (Below.refl (wr.alloc (.cells #[.string ek, .string ev] 37)).heap.size (wr.alloc (.cells #[.string ek, .string ev] 37))).alloc (Nat.le_refl _) (.cells #[.string ek, .string ev] 37)
        have I3 := hide (show BwIn W w4 w.heap.size (.slice aL nL kL) v2 (acc ++ (ES.take (j + 1)).filter (fun e => inK fr tu e.k)) by
          rw [unhide FY hin, ← List.append_assoc]
          exact ((unhide I1).below bx2).app ho hgr hlo)
        simp only at hr
        obtain ⟨aV, cV, hV, _⟩ := eowns_slice ho
        generalize (acc ++ (ES.take j).filter (fun e : EntD => inK fr tu e.k) ++ [(⟨ek, ev⟩ : EntD)]).length = nV at *
        subst hV
        clear hI I1 bx bx2 hej ho hgr hlo hacc
        go_wp2_with fail
        refine (unhide HW _).mono ?_
        rintro e w3 ⟨rfl, hw3⟩
        subst w3
        clear HW d0 d1
        generalize wr.alloc (.cells #[.string ek, .string ev] 37) = W5 at *
        generalize wr.heap.size = eb at *
        go_wp2_with (at_builtin; refine wpAppE rfl _ _ 23 rfl _ _ (.slice aV nV cV) w4 rfl rfl hr ?_)
        go_roundw
        case rel => exact ⟨j + 1, aV, nV, cV, by omega, rfl, by go_num, I3⟩
        case measure => simp [intOf]; omega
end Go.Proofs.Ytbhkmmdcdfjbkaa

namespace Go.Proofs.Ytbhkmmdcdfjbkaa
open Go.RowKit

theorem erow_drop {w : World} {g n j : Nat} {es : List EntD} (h : ERow w (some ⟨g, 0, none⟩) n es) (_hj : j ≤ n) : ERow w (some ⟨g, j * 2, none⟩) (n - j) (es.drop j) := by
  refine ⟨by rw [List.length_drop, h.1], fun i hi => ?_⟩
  rw [List.length_drop] at hi
  obtain ⟨b, off, e, c0, c1⟩ := h.2 (j + i) (by omega)
  injection e with e
  injection e with e1 e2 _
  subst e1 e2
  refine ⟨g, j * 2, rfl, ?_, ?_⟩
  · rw [List.getElem_drop, show j * 2 + i * 2 = 0 + (j + i) * 2 by omega]; exact c0
  · rw [List.getElem_drop, show j * 2 + i * 2 + 1 = 0 + (j + i) * 2 + 1 by omega]; exact c1
theorem TbF.push {w w' : World} {B mb : Nat} {qs : List (Option (Nat × PpH))} {q : Option (Nat × PpH)} {idx : List RefD} {vp vi v' : Value} {o : Obj} (h : TbF w B mb qs idx vp vi) (hq : ∀ b x, q = some (b, x) → PgBox w B b x ∧ PgRows w B x) (hg : (w.alloc o).grownBy w' vp.ownBlock) (ho : POwns w' B v' (qs ++ [q])) (hB : B ≤ w.heap.size) :
    TbF (w'.setCell ⟨mb, 0, none⟩ v') B mb (qs ++ [q]) idx v' vi ∧ WrB (TbW mb vp vi) w (w'.setCell ⟨mb, 0, none⟩ v') ∧ w'.heap[mb]? = some (.cells #[vp, vi] 68 (0, 0)) := by
  obtain ⟨h1, _, h3⟩ := h.own.push (fun b x e => (hq b x e).1) hg ho hB
  have hW : WrB (TbW mb vp vi) w (w'.setCell ⟨mb, 0, none⟩ v') := by
    have a := WrB.of_below (P := TbW mb vp vi) ((Below.refl w.heap.size w).alloc (Nat.le_refl _) o)
    have b := (WrB.of_grown hg).weak (Q := TbW mb vp vi) (fun i hi => .inr (.inl hi))
    have c : WrB (TbW mb vp vi) w' (w'.setCell ⟨mb, 0, none⟩ v') := ⟨rfl, rfl, rfl, by simp [World.setCell], fun k _ hk => Below.heap_setCell _ _ _ _ (fun e => hk (.inl e))⟩
    exact (a.seq b).seq c
  refine ⟨⟨h1, fun b x hx => ?_⟩, hW, h3⟩
  rcases List.mem_append.1 hx with hx | hx
  · exact (h.rows b x hx).wr hW h.own.noRow
  · exact (hq b x (List.mem_singleton.1 hx).symm).2.wr hW h.own.noRow
set_option maxRecDepth 100000 in
set_option maxHeartbeats 8000000 in
theorem split_any (B mb : Nat) (qs : List (Option (Nat × PpH))) (idx : List RefD) (vp vi : Value) (id : Nat) (p : PageD) (w : World) (hF : TbF w B mb qs idx vp vi) (hB : B ≤ w.heap.size) (hT : Tre (qsP qs) idx) (hg : getP (qsP qs) (id : Int) = some p) :
    Calls Try.prog 42 #[.pointer (some ⟨mb, 0, none⟩), .int .i64 (id : Int)] w fun e w' => TbRs B mb vp vi (splT (qsP qs) idx id p) w e w' := by
  have NOP := hide (show ∀ u, Below w.heap.size w u → ∀ r : StR, r.ps = qsP qs → r.idx = idx → TbRs B mb vp vi r w (.returned (.tuple #[.int .i64 r.told, .int .i64 r.code])) u from fun u hu r h1 h2 => ⟨qs, vp, vi, rfl, by rw [h2]; exact hF.below hu, h1.symm, WrB.of_below hu⟩)
  have hok := hT.ok _ p hg
  have hq30 : qs.length ≤ 30 := by have := hT.len.2; rw [qsP_len] at this; exact this
  obtain ⟨pb, x, gp, c, hid, hX, hqe, hvp, hc, hPB, hR⟩ := hF.page hg
  subst hX
  have c0 := (heap_at hF.own.box 0).1
  rw [hvp] at c0
  have q0 := (heap_at hPB 0).1
  have q1 := (heap_at hPB 1).1
  have q2 := (heap_at hPB 2).1
  have q3 := (heap_at hPB 3).1
  have q4 := (heap_at hPB 4).1
  have HC := hide (implConsolidate_any x.X.lo x.X.hi x.X.r x.s0.a x.s0.n x.s0.c x.X.es x.s1.a x.s1.n x.s1.c x.X.ds w hR.es hR.ds)
  unfold ConRes at HC
  rw [show conP x.X.lo x.X.hi x.X.r x.X.es x.X.ds = conPg x.X from conPg_eq hok, show conC x.X.lo x.X.hi x.X.r x.X.es x.X.ds = 0 from (con_ok hok).2] at HC
  unfold pgv at HC
  have RR := hide hR
  have hds : x.s1.n = x.X.ds.length := hR.ds.1.symm
  have h12 : x.X.ds.length ≤ 12 := (ok_parts hok).2.2.1
  have hen := enP_len hok
  have QE := hide hqe
  have HVP := hide hvp
  have OK := hide hok
  have F := hide hF
  have SP := hide (show splT (qsP qs) idx id x.X = if (enP x.X).length < 2 then ⟨qsP qs, idx, 0, 5⟩ else if x.X.ds.length = 12 ∨ qs.length = 30 then ⟨qsP qs, idx, 0, 7⟩ else ⟨(qsP qs).set id (some (addD x.X (spD (midK x.X) qs.length))) ++ [some (newPg x.X)], idx, (qs.length : Int), 0⟩ by unfold splT; rw [qsP_len])
  have KB := hide ((heap_at hF.own.box 0).1)
  obtain ⟨C, hC⟩ : ∃ C, C = conPg x.X := ⟨_, rfl⟩
  have CE := hide (show C.es = enP x.X ∧ C.hi = hiP x.X ∧ C.r = riP x.X by rw [hC]; exact ⟨rfl, rfl, rfl⟩)
  rw [← hC] at HC
  clear hC hF hT hg hqe hvp hR hPB hok
  obtain ⟨Clo, Chi, Cr, Ces, Cds⟩ := C
  simp only at HC CE
  obtain ⟨X, ⟨a0, n0, k0⟩, ⟨a1, n1, k1⟩⟩ := x
  simp only at q0 q1 q2 q3 q4 HC hds h12 hen CE SP
  have HDS := hide hds
  have hn12 : n1 ≤ 12 := by omega
  clear hds h12
  rw [← (unhide CE).1] at hen
  go_enter Try.func42, Try.ntmps42
  go_wp2_with fail
  refine (unhide HC).mono ?_
  rintro e w2 ⟨aE, nE, kE, rfl, hOE, hb2⟩
  obtain rfl : nE = Ces.length := by
    obtain ⟨aE2, kE2, hvE, _⟩ := eowns_slice hOE
    injection hvE
  clear HC
  have HL := hide (show Ces.length = (enP X).length by rw [(unhide CE).1])
  by_cases hl2 : Ces.length < 2
  · have bx := hb2.alloc hb2.size (.cells #[.string Clo, .string Chi, .int .i64 Cr, .slice aE Ces.length kE, .slice none 0 0] 51)
    have RES := hide (show TbRs B mb vp vi (splT (qsP qs) idx id X) w (.returned (.tuple #[.int .i64 0, .int .i64 5])) (w2.alloc (.cells #[.string Clo, .string Chi, .int .i64 Cr, .slice aE Ces.length kE, .slice none 0 0] 51)) by
      rw [unhide SP, if_pos (by rw [← unhide HL]; exact hl2)]
      exact unhide NOP _ bx ⟨qsP qs, idx, 0, 5⟩ rfl rfl)
    clear SP NOP hOE hb2 c0 hc q0 q1 q2 q3 q4
    go_wp2_with fail
    go_ret2
    exact unhide RES
  have hl2' : 2 ≤ Ces.length := by omega
  rcases hOE.2 with ⟨e, h0⟩ | ⟨g, cap, cur, e, hgb, hgh, _⟩
  · exfalso; omega
  injection e with e _ ek
  subst e ek
  have SP2 := hide (show splT (qsP qs) idx id X = if n1 = 12 ∨ qs.length = 30 then ⟨qsP qs, idx, 0, 7⟩ else ⟨(qsP qs).set id (some (addD X (spD (midK X) qs.length))) ++ [some (newPg X)], idx, (qs.length : Int), 0⟩ by
    rw [unhide SP, if_neg (by rw [← unhide HL]; omega), ← unhide HDS])
  clear SP
  have ER := hide (erow_of_owns hOE)
  have OE := hide hOE
  clear hOE
  have ELN := hide (show Ces.length = Ces.length from rfl)
  obtain ⟨L, hL⟩ : ∃ L, L = Ces.length := ⟨_, rfl⟩
  have HLL := hide hL
  rw [← hL] at hl2 hl2' hen ER OE ⊢
  clear ELN hL
  have bx3 := hb2.alloc hb2.size (.cells #[.string Clo, .string Chi, .int .i64 Cr, .slice (some ⟨g, 0, none⟩) L kE, .slice none 0 0] 51)
  have mc0 := (bx3.cell (p := ⟨mb, 0, none⟩) (cell_lt c0)).trans c0
  have mhc := (bx3.cell (p := ⟨gp, id, none⟩) (cell_lt hc)).trans hc
  have m0 := (bx3.cell (p := ⟨pb, 0, none⟩) (cell_lt q0)).trans q0
  have m1 := (bx3.cell (p := ⟨pb, 1, none⟩) (cell_lt q1)).trans q1
  have m2 := (bx3.cell (p := ⟨pb, 2, none⟩) (cell_lt q2)).trans q2
  have m3 := (bx3.cell (p := ⟨pb, 3, none⟩) (cell_lt q3)).trans q3
  have m4 := (bx3.cell (p := ⟨pb, 4, none⟩) (cell_lt q4)).trans q4
  by_cases hc12 : n1 = 12
  · have bx := hb2.alloc hb2.size (.cells #[.string Clo, .string Chi, .int .i64 Cr, .slice (some ⟨g, 0, none⟩) L kE, .slice none 0 0] 51)
    have RES := hide (show TbRs B mb vp vi (splT (qsP qs) idx id X) w (.returned (.tuple #[.int .i64 0, .int .i64 7])) (w2.alloc (.cells #[.string Clo, .string Chi, .int .i64 Cr, .slice (some ⟨g, 0, none⟩) L kE, .slice none 0 0] 51)) by
      rw [unhide SP2, if_pos (.inl hc12)]
      exact unhide NOP _ bx ⟨qsP qs, idx, 0, 7⟩ rfl rfl)
    clear SP2 NOP hb2 c0 hc q0 q1 q2 q3 q4
    subst hc12
    go_wp2_with fail
    go_ret2
    exact unhide RES
  have hc12b : ((n1 : Int) == 12) = false := by rw [beq_eq_false_iff_ne]; omega
  by_cases hc30 : qs.length = 30
  · have bx := hb2.alloc hb2.size (.cells #[.string Clo, .string Chi, .int .i64 Cr, .slice (some ⟨g, 0, none⟩) L kE, .slice none 0 0] 51)
    have RES := hide (show TbRs B mb vp vi (splT (qsP qs) idx id X) w (.returned (.tuple #[.int .i64 0, .int .i64 7])) (w2.alloc (.cells #[.string Clo, .string Chi, .int .i64 Cr, .slice (some ⟨g, 0, none⟩) L kE, .slice none 0 0] 51)) by
      rw [unhide SP2, if_pos (.inr hc30)]
      exact unhide NOP _ bx ⟨qsP qs, idx, 0, 7⟩ rfl rfl)
    clear SP2 NOP hb2 c0 hc q0 q1 q2 q3 q4
    have hc30b : ((qs.length : Int) == 30) = true := by rw [hc30]; rfl
    clear hc30
    go_wp2_with fail
    go_ret2
    exact unhide RES
  have hc30b : ((qs.length : Int) == 30) = false := by rw [beq_eq_false_iff_ne]; omega
  obtain ⟨hh, hhe⟩ : ∃ hh, hh = L / 2 := ⟨_, rfl⟩
  have hdiv : (L : Int) / 2 = (hh : Int) := by omega
  have hhL : hh < L := by omega
  have hhL' : hh ≤ L := by omega
  have HHE := hide (show hh = (enP X).length / 2 by rw [hhe, unhide HLL, unhide HL])
  clear hhe
  have hjC : hh < Ces.length := by rw [← unhide HLL]; exact hhL
  obtain ⟨bE, oE, eE, e0, _⟩ := (unhide ER).2 hh hjC
  injection eE with eE
  injection eE with e1 e2 _
  subst e1 e2
  rw [Nat.zero_add] at e0
  have KKE := hide (show midK X = Ces[hh].k by
    have h2 : 2 ≤ (enP X).length := by rw [← unhide HL, ← unhide HLL]; exact hl2'
    rw [midK_eq h2]
    have e1 := (unhide CE).1
    subst e1
    congr 1
    congr 1
    exact (unhide HHE).symm)
  generalize Ces[hh].k = KK at *
  -- worlds
  have SP3 := hide (show splT (qsP qs) idx id X = ⟨(qsP qs).set id (some (addD X (spD KK qs.length))) ++ [some ⟨KK, Chi, Cr, Ces.drop hh, []⟩], idx, (qs.length : Int), 0⟩ by
    rw [unhide SP2, if_neg (fun h => h.elim hc12 hc30), unhide KKE]
    obtain ⟨e1, e2, e3⟩ := unhide CE
    unfold newPg
    rw [unhide KKE, e1, e2, e3, ← unhide HHE])
  clear SP2
  have e0' : ∀ o, (w2.alloc o).cell? ⟨g, hh * 2, none⟩ = some (.string KK) := fun o => (((Below.refl w2.heap.size w2).alloc (Nat.le_refl _) o).cell (p := ⟨g, hh * 2, none⟩) (cell_lt e0)).trans e0
  have bx4 := hb2.alloc hb2.size (.cells #[.string KK, .string Chi, .int .i64 Cr, .slice (some ⟨g, hh * 2, none⟩) (L - hh) (kE - hh), .slice none 0 0] 51)
  have K4 := hide (heap_alloc_new w2 (.cells #[.string KK, .string Chi, .int .i64 Cr, .slice (some ⟨g, hh * 2, none⟩) (L - hh) (kE - hh), .slice none 0 0] 51))
  have x4 : (w2.alloc (.cells #[.string KK, .string Chi, .int .i64 Cr, .slice (some ⟨g, hh * 2, none⟩) (L - hh) (kE - hh), .slice none 0 0] 51)).cell? ⟨w2.heap.size, 0, none⟩ = some (.string KK) := (heap_at (unhide K4) 0).1
  have R4 := hide ((unhide RR).below bx4)
  have mc4 := (bx4.cell (p := ⟨mb, 0, none⟩) (cell_lt c0)).trans c0
  have mhc4 := (bx4.cell (p := ⟨gp, id, none⟩) (cell_lt hc)).trans hc
  have m40 := (bx4.cell (p := ⟨pb, 0, none⟩) (cell_lt q0)).trans q0
  have m41 := (bx4.cell (p := ⟨pb, 1, none⟩) (cell_lt q1)).trans q1
  have m42 := (bx4.cell (p := ⟨pb, 2, none⟩) (cell_lt q2)).trans q2
  have m43 := (bx4.cell (p := ⟨pb, 3, none⟩) (cell_lt q3)).trans q3
  have m44 := (bx4.cell (p := ⟨pb, 4, none⟩) (cell_lt q4)).trans q4
  have OE4 := hide (rb_ownsRow_below (unhide OE) ((Below.refl w2.heap.size w2).alloc (Nat.le_refl _) (.cells #[.string KK, .string Chi, .int .i64 Cr, .slice (some ⟨g, hh * 2, none⟩) (L - hh) (kE - hh), .slice none 0 0] 51)))
  have BW4 := hide bx4
  have z4 : w2.heap.size < (w2.alloc (.cells #[.string KK, .string Chi, .int .i64 Cr, .slice (some ⟨g, hh * 2, none⟩) (L - hh) (kE - hh), .slice none 0 0] 51)).heap.size := by simp
  have zw2 := hb2.size
  clear c0 hc q0 q1 q2 q3 q4 bx3 KB
  go_upto_region 9 with fail
  generalize (w2.alloc (.cells #[.string KK, .string Chi, .int .i64 Cr, .slice (some ⟨g, hh * 2, none⟩) (L - hh) (kE - hh), .slice none 0 0] 51)) = V at *
  generalize w2.heap.size = xb at *
  have TW := hide (show ∀ i, TbW mb vp vi i → i < w.heap.size from fun i hi => by
    rcases hi with rfl | hi | hi
    · exact blk_lt (unhide F).own.box
    · exact ((unhide F).own.row.lt i hi).2
    · exact ((unhide F).own.ix.lt i hi).2)
  have s1 : V.cell? ⟨mb, 0, none⟩ = some (.slice (some ⟨gp, 0, none⟩) qs.length c) := mc4
  have y0 : V.cell? ⟨pb, 0, none⟩ = some (.string X.lo) := m40
  have y1 : V.cell? ⟨pb, 1, none⟩ = some (.string X.hi) := m41
  have y2 : V.cell? ⟨pb, 2, none⟩ = some (.int .i64 X.r) := m42
  have y3 : V.cell? ⟨pb, 3, none⟩ = some (.slice a0 n0 k0) := m43
  have y4 : V.cell? ⟨pb, 4, none⟩ = some (.slice a1 n1 k1) := m44
  clear mc4 m40 m41 m42 m43 m44 mc0 mhc m0 m1 m2 m3 m4 e0 e0'
  have HX := hide (fun (u : World) (hu : Below V.heap.size V u) => implExtend_any X.lo X.hi X.r a0 n0 k0 X.es a1 n1 k1 X.ds ⟨3, KK, ⟨#[]⟩, (qs.length : Int)⟩ u ((unhide R4).below hu).es ((unhide R4).below hu).ds ((unhide R4).below hu).ce ((unhide R4).below hu).cd)
  unfold ExtRes pgv dv at HX
  have h2n : 2 ≤ (enP X).length := by rw [← unhide HL, ← unhide HLL]; exact hl2'
  have XC := (spl_ok (unhide OK) h2n (n := qs.length) (by omega) (by rw [← unhide HDS]; exact hc12)).1
  rw [unhide KKE] at XC
  change extC X.lo X.hi X.r X.es X.ds ⟨3, KK, ⟨#[]⟩, (qs.length : Int)⟩ = 0 at XC
  have XP := hide (show extP X.lo X.hi X.r X.es X.ds ⟨3, KK, ⟨#[]⟩, (qs.length : Int)⟩ = addD X (spD KK qs.length) by unfold extP; rw [if_pos XC]; rfl)
  rw [XC] at HX
  rw [unhide XP] at HX
  clear XC XP h2n
  generalize addD X (spD KK qs.length) = Y at *
  simp only at HX
  have SK := hide (show ∀ u, Below V.heap.size V u → (u.cell? ⟨mb, 0, none⟩ = some (.slice (some ⟨gp, 0, none⟩) qs.length c) ∧ u.cell? ⟨gp, id, none⟩ = some (.pointer (some ⟨pb, 0, none⟩)) ∧ u.cell? ⟨pb, 0, none⟩ = some (.string X.lo) ∧ u.cell? ⟨pb, 1, none⟩ = some (.string X.hi) ∧ u.cell? ⟨pb, 2, none⟩ = some (.int .i64 X.r) ∧ u.cell? ⟨pb, 3, none⟩ = some (.slice a0 n0 k0) ∧ u.cell? ⟨pb, 4, none⟩ = some (.slice a1 n1 k1) ∧ u.cell? ⟨xb, 0, none⟩ = some (.string KK)) from fun u hb => ⟨(hb.cell (p := ⟨mb, 0, none⟩) (cell_lt s1)).trans s1, (hb.cell (p := ⟨gp, id, none⟩) (cell_lt mhc4)).trans mhc4, (hb.cell (p := ⟨pb, 0, none⟩) (cell_lt y0)).trans y0, (hb.cell (p := ⟨pb, 1, none⟩) (cell_lt y1)).trans y1, (hb.cell (p := ⟨pb, 2, none⟩) (cell_lt y2)).trans y2, (hb.cell (p := ⟨pb, 3, none⟩) (cell_lt y3)).trans y3, (hb.cell (p := ⟨pb, 4, none⟩) (cell_lt y4)).trans y4, (hb.cell (p := ⟨xb, 0, none⟩) (cell_lt x4)).trans x4⟩)
  refine wp_region_held_drew (S := (fun u => (u.cell? ⟨mb, 0, none⟩ = some (.slice (some ⟨gp, 0, none⟩) qs.length c) ∧ u.cell? ⟨gp, id, none⟩ = some (.pointer (some ⟨pb, 0, none⟩)) ∧ u.cell? ⟨pb, 0, none⟩ = some (.string X.lo) ∧ u.cell? ⟨pb, 1, none⟩ = some (.string X.hi) ∧ u.cell? ⟨pb, 2, none⟩ = some (.int .i64 X.r) ∧ u.cell? ⟨pb, 3, none⟩ = some (.slice a0 n0 k0) ∧ u.cell? ⟨pb, 4, none⟩ = some (.slice a1 n1 k1) ∧ u.cell? ⟨xb, 0, none⟩ = some (.string KK)))) (by kernel_rfl) (⟨s1, mhc4, y0, y1, y2, y3, y4, x4⟩) (fun hHeld => ?_)
  refine anyH_take 0 68 (v := ?v1) rfl rfl (by kernel_rfl) (by kernel_rfl) (by kernel_rfl) (fun _ _ _ h => h) (by rfl) ?h1 hHeld ?r1
  case h1 => (intro w hSw; (try dsimp only at hSw); go_simp; try (with_reducible rfl))
  simp only [Act.put, List.setIfInBounds_toArray, List.set_cons_zero, List.set_cons_succ]
  refine anyH_take 1 69 (v := ?v2) rfl rfl (by kernel_rfl) (by kernel_rfl) (by kernel_rfl) (fun _ _ _ h => h) (by rfl) ?h2 hHeld ?r2
  case h2 => (intro w hSw; (try dsimp only at hSw); go_simp; try (with_reducible rfl))
  simp only [Act.put, List.setIfInBounds_toArray, List.set_cons_zero, List.set_cons_succ]
  refine anyH_take 2 70 (v := ?v3) rfl rfl (by kernel_rfl) (by kernel_rfl) (by kernel_rfl) (fun _ _ _ h => h) (by rfl) ?h3 hHeld ?r3
  case h3 => (intro w hSw; (try dsimp only at hSw); go_simp; try (with_reducible rfl))
  simp only [Act.put, List.setIfInBounds_toArray, List.set_cons_zero, List.set_cons_succ]
  refine anyH_take 3 71 (v := ?v4) rfl rfl (by kernel_rfl) (by kernel_rfl) (by kernel_rfl) (fun _ _ _ h => h) (by rfl) ?h4 hHeld ?r4
  case h4 => (intro w hSw; (try dsimp only at hSw); go_simp; try (with_reducible rfl))
  simp only [Act.put, List.setIfInBounds_toArray, List.set_cons_zero, List.set_cons_succ]
  refine anyH_take 4 72 (v := ?v5) rfl rfl (by kernel_rfl) (by kernel_rfl) (by kernel_rfl) (fun _ _ _ h => h) (by rfl) ?h5 hHeld ?r5
  case h5 => (intro w hSw; (try dsimp only at hSw); go_simp; try (with_reducible rfl))
  simp only [Act.put, List.setIfInBounds_toArray, List.set_cons_zero, List.set_cons_succ]
  refine anyH_take 5 73 (v := ?v6) rfl rfl (by kernel_rfl) (by kernel_rfl) (by kernel_rfl) (fun _ _ _ h => h) (by rfl) ?h6 hHeld ?r6
  case h6 => (intro w hSw; (try dsimp only at hSw); go_simp; try (with_reducible rfl))
  simp only [Act.put, List.setIfInBounds_toArray, List.set_cons_zero, List.set_cons_succ]
  refine anyH_take 6 74 (v := ?v7) rfl rfl (by kernel_rfl) (by kernel_rfl) (by kernel_rfl) (fun _ _ _ h => h) (by rfl) ?h7 hHeld ?r7
  case h7 => (intro w hSw; (try dsimp only at hSw); go_simp; try (with_reducible rfl))
  simp only [Act.put, List.setIfInBounds_toArray, List.set_cons_zero, List.set_cons_succ]
  refine anyH_take 7 75 (v := ?v8) rfl rfl (by kernel_rfl) (by kernel_rfl) (by kernel_rfl) (fun _ _ _ h => h) (by rfl) ?h8 hHeld ?r8
  case h8 => (intro w hSw; (try dsimp only at hSw); go_simp; try (with_reducible rfl))
  simp only [Act.put, List.setIfInBounds_toArray, List.set_cons_zero, List.set_cons_succ]
  refine anyH_take 8 76 (v := ?v9) rfl rfl (by kernel_rfl) (by kernel_rfl) (by kernel_rfl) (fun _ _ _ h => h) (by rfl) ?h9 hHeld ?r9
  case h9 => (intro w hSw; (try dsimp only at hSw); go_simp; try (with_reducible rfl))
  simp only [Act.put, List.setIfInBounds_toArray, List.set_cons_zero, List.set_cons_succ]
  refine anyH_take 9 77 (v := ?v10) rfl rfl (by kernel_rfl) (by kernel_rfl) (by kernel_rfl) (fun _ _ _ h => h) (by rfl) ?h10 hHeld ?r10
  case h10 => (intro w hSw; (try dsimp only at hSw); go_simp; try (with_reducible rfl))
  simp only [Act.put, List.setIfInBounds_toArray, List.set_cons_zero, List.set_cons_succ]
  refine anyH_take 10 78 (v := ?v11) rfl rfl (by kernel_rfl) (by kernel_rfl) (by kernel_rfl) (fun _ _ _ h => h) (by rfl) ?h11 hHeld ?r11
  case h11 => (intro w hSw; (try dsimp only at hSw); go_simp; try (with_reducible rfl))
  simp only [Act.put, List.setIfInBounds_toArray, List.set_cons_zero, List.set_cons_succ]
  refine anyH_take 11 79 (v := ?v12) rfl rfl (by kernel_rfl) (by kernel_rfl) (by kernel_rfl) (fun _ _ _ h => h) (by rfl) ?h12 hHeld ?r12
  case h12 => (intro w hSw; (try dsimp only at hSw); go_simp; try (with_reducible rfl))
  simp only [Act.put, List.setIfInBounds_toArray, List.set_cons_zero, List.set_cons_succ]
  refine anyH_take 12 80 (v := ?v13) rfl rfl (by kernel_rfl) (by kernel_rfl) (by kernel_rfl) (fun _ _ _ h => h) (by rfl) ?h13 hHeld ?r13
  case h13 => (intro w hSw; (try dsimp only at hSw); go_simp; try (with_reducible rfl))
  simp only [Act.put, List.setIfInBounds_toArray, List.set_cons_zero, List.set_cons_succ]
  refine wpAnyH_ready (rs := [13, 17]) (by kernel_rfl) (by simp) ?_
  refine AllReadyH.cons rfl (fun K hK => ?_) (AllReadyH.cons rfl (fun K hK => ?_) AllReadyH.nil)
  · go_simp
    refine (unhide HX _ ((Below.refl V.heap.size V).drew)).mono ?_
    rintro e w6 ⟨aY, nY, kY, aZ, nZ, kZ, rfl, oY, b6⟩
    refine hK.out _ _ (unhide SK _ (((Below.refl V.heap.size V).drew).trans b6)) (fun hHeld => ?_)
    clear hK K
    refine anyH_take 14 67 (v := ?v14) rfl rfl (by kernel_rfl) (by kernel_rfl) (by kernel_rfl) (fun _ _ _ h => h) (by rfl) ?h14 hHeld ?r14
    case h14 => (intro w hSw; (try dsimp only at hSw); go_simp; try (with_reducible rfl))
    simp only [Act.put, List.setIfInBounds_toArray, List.set_cons_zero, List.set_cons_succ]
    refine anyH_take 15 82 (v := ?v15) rfl rfl (by kernel_rfl) (by kernel_rfl) (by kernel_rfl) (fun _ _ _ h => h) (by rfl) ?h15 hHeld ?r15
    case h15 => (intro w hSw; (try dsimp only at hSw); go_simp; try (with_reducible rfl))
    simp only [Act.put, List.setIfInBounds_toArray, List.set_cons_zero, List.set_cons_succ]
    refine anyH_take 16 83 (v := ?v16) rfl rfl (by kernel_rfl) (by kernel_rfl) (by kernel_rfl) (fun _ _ _ h => h) (by rfl) ?h16 hHeld ?r16
    case h16 => (intro w hSw; (try dsimp only at hSw); go_simp; try (with_reducible rfl))
    simp only [Act.put, List.setIfInBounds_toArray, List.set_cons_zero, List.set_cons_succ]
    refine wpAnyH_ready (rs := [17]) (by kernel_rfl) (by simp) ?_
    refine AllReadyH.cons rfl (fun K hK => ?_) AllReadyH.nil
    go_simp
    refine hK.out _ _ (unhide SK _ ((((Below.refl V.heap.size V).drew).trans b6).alloc (by have := b6.size; simpa using this) _)) (fun hHeld => ?_)
    clear hK K
    refine wpAnyH_ready (rs := [18]) (by kernel_rfl) (by simp) ?_
    refine AllReadyH.cons rfl (fun K hK => ?_) AllReadyH.nil
    go_simp
    refine hK.out _ _ (unhide SK _ ((((Below.refl V.heap.size V).drew).trans b6).alloc (by have := b6.size; simpa using this) _)) (fun hHeld => ?_)
    clear hK K
    refine anyH_take 19 10 (v := ?v17) rfl rfl (by kernel_rfl) (by kernel_rfl) (by kernel_rfl) (fun _ _ _ h => h) (by rfl) ?h17 hHeld ?r17
    case h17 => (intro w hSw; (try dsimp only at hSw); go_simp; try (with_reducible rfl))
    simp only [Act.put, List.setIfInBounds_toArray, List.set_cons_zero, List.set_cons_succ]
    refine wpAnyH_done (by kernel_rfl) ?_ _
    have bX : Below V.heap.size V (w6.alloc (.cells #[.string Y.lo, .string Y.hi, .int .i64 Y.r, .slice aY nY kY, .slice aZ nZ kZ] 51)) := (((Below.refl V.heap.size V).drew).trans b6).alloc (by have := b6.size; simpa using this) _
    have kX : (w6.alloc (.cells #[.string Y.lo, .string Y.hi, .int .i64 Y.r, .slice aY nY kY, .slice aZ nZ kZ] 51)).heap[w6.heap.size]? = some (.cells #[.string Y.lo, .string Y.hi, .int .i64 Y.r, .slice aY nY kY, .slice aZ nZ kZ] 51 (0, 0)) := heap_alloc_new _ _
    have rX : PgRows (w6.alloc (.cells #[.string Y.lo, .string Y.hi, .int .i64 Y.r, .slice aY nY kY, .slice aZ nZ kZ] 51)) B ⟨Y, ⟨aY, nY, kY⟩, ⟨aZ, nZ, kZ⟩⟩ := (ext_rows (B := B) (X := Y) oY).below ((Below.refl _ _).alloc (Nat.le_refl _) _)
    have zX : V.heap.size ≤ w6.heap.size := by have := b6.size; simpa using this
    clear oY b6
    generalize (w6.alloc (.cells #[.string Y.lo, .string Y.hi, .int .i64 Y.r, .slice aY nY kY, .slice aZ nZ kZ] 51)) = X0 at *
    generalize w6.heap.size = ob at *
    clear HX SK
    have F7 := (unhide F).below ((unhide BW4).trans (bX.mono (unhide BW4).size))
    have hob : B ≤ ob := Nat.le_trans hB (Nat.le_trans (unhide BW4).size zX)
    obtain ⟨gp7, c7, hvp7, hcell, hfz, F8, W8, _⟩ := F7.setP hid (some (ob, ⟨Y, ⟨aY, nY, kY⟩, ⟨aZ, nZ, kZ⟩⟩)) (fun b x e => by injection e with e; injection e with e1 e2; subst e1 e2; exact ⟨⟨hob, kX⟩, rX⟩)
    have e7 := hvp7
    rw [unhide HVP] at e7
    injection e7 with e71 _ e73
    injection e71 with e71
    injection e71 with e71 _ _
    subst e71 e73
    have t0 := (heap_at F7.own.box 0).1
    rw [hvp7] at t0
    have kb : X0.heap[xb]? = _ := (bX.block xb z4).trans (unhide K4)
    have kb8 := (W8.block xb (blk_lt kb) (fun h => by have := unhide TW _ h; omega)).trans kb
    have rN : PgRows V B ⟨⟨KK, Chi, Cr, Ces.drop hh, []⟩, ⟨some ⟨g, hh * 2, none⟩, L - hh, kE - hh⟩, ⟨none, 0, 0⟩⟩ := ⟨erow_drop (erow_of_owns (unhide OE4)) hhL', ⟨rfl, fun i hi => absurd hi (Nat.not_lt_zero _)⟩, (fun ad e => by injection e with e; subst e; exact (rowK_own (B := B) (unhide OE4)).1 ⟨g, 0, none⟩ rfl), (fun ad e => by cases e), (fun h => by cases h), fun _ => rfl⟩
    have rN8 := ((rN.below bX).wr W8 F7.own.noRow)
    have hB8 : B ≤ (X0.setCell ⟨gp, id, none⟩ (ptrQ (some (ob, ⟨Y, ⟨aY, nY, kY⟩, ⟨aZ, nZ, kZ⟩⟩)))).heap.size := Nat.le_trans (Nat.le_trans hB (Nat.le_trans (unhide BW4).size bX.size)) W8.size
    obtain ⟨v9, w9, hr9, ho9, hg9⟩ := p_app (q := some (xb, (⟨⟨KK, Chi, Cr, Ces.drop hh, []⟩, ⟨some ⟨g, hh * 2, none⟩, L - hh, kE - hh⟩, ⟨none, 0, 0⟩⟩ : PpH))) F8.own.row (by rw [List.length_set]; omega) hB8
    obtain ⟨F9, W9, kM⟩ := F8.push (fun b x e => by injection e with e; injection e with e1 e2; subst e1 e2; exact ⟨⟨Nat.le_trans hB zw2, kb8⟩, rN8⟩) hg9 ho9 hB8
    obtain ⟨aV, cV, hV⟩ := powns_slice (n := qs.length + 1) ho9 (by rw [List.length_append, List.length_set]; rfl)
    subst hV
    have t8 := (heap_at F8.own.box 0).1
    rw [hvp7] at t8 hr9
    have t9 := (heap_at kM 0).1
    have t9f := (heap_at kM 0).2
    rw [unhide QE] at hcell
    have RES := hide (show TbRs B mb vp vi (splT (qsP qs) idx id X) w (.returned (.tuple #[.int .i64 (qs.length : Int), .int .i64 0])) (w9.setCell ⟨mb, 0, none⟩ (.slice aV (qs.length + 1) cV)) by
      rw [unhide SP3]
      refine ⟨_, _, vi, rfl, F9, ?_, ((WrB.of_below ((unhide BW4).trans (bX.mono (unhide BW4).size))).seq W8).seq W9⟩
      rw [qsP_snoc, qsP_set]
      rfl)
    unfold ptrQ at hcell hr9 t8
    simp only [Option.map_some] at hcell hr9 t8
    clear hvp7 F9 W9 kM hg9 ho9 hB8 rN8 rN kb8 kb F8 W8 F7 SP3 hob bX kX rX zX
    go_upto_region 11 with fail
    generalize X0.setCell ⟨gp, id, none⟩ (.pointer (some ⟨ob, 0, none⟩)) = U8 at *
    go_wp2_with (at_builtin; refine wpAppE rfl _ _ 66 rfl _ _ (.slice aV (qs.length + 1) cV) w9 rfl rfl hr9 ?_)
    go_ret2
    exact unhide RES
  · go_simp
    refine hK.out _ _ (unhide SK _ ((Below.refl V.heap.size V).drew.alloc (Nat.le_refl _) _)) (fun hHeld => ?_)
    clear hK K
    refine wpAnyH_ready (rs := [13]) (by kernel_rfl) (by simp) ?_
    refine AllReadyH.cons rfl (fun K hK => ?_) AllReadyH.nil
    go_simp
    refine (unhide HX _ ((Below.refl V.heap.size V).drew.alloc (Nat.le_refl _) _)).mono ?_
    rintro e w6 ⟨aY, nY, kY, aZ, nZ, kZ, rfl, oY, b6⟩
    refine hK.out _ _ (unhide SK _ (((Below.refl V.heap.size V).drew.alloc (Nat.le_refl _) _).trans (b6.mono (by simp)))) (fun hHeld => ?_)
    clear hK K
    refine anyH_take 14 67 (v := ?v18) rfl rfl (by kernel_rfl) (by kernel_rfl) (by kernel_rfl) (fun _ _ _ h => h) (by rfl) ?h18 hHeld ?r18
    case h18 => (intro w hSw; (try dsimp only at hSw); go_simp; try (with_reducible rfl))
    simp only [Act.put, List.setIfInBounds_toArray, List.set_cons_zero, List.set_cons_succ]
    refine anyH_take 15 82 (v := ?v19) rfl rfl (by kernel_rfl) (by kernel_rfl) (by kernel_rfl) (fun _ _ _ h => h) (by rfl) ?h19 hHeld ?r19
    case h19 => (intro w hSw; (try dsimp only at hSw); go_simp; try (with_reducible rfl))
    simp only [Act.put, List.setIfInBounds_toArray, List.set_cons_zero, List.set_cons_succ]
    refine anyH_take 16 83 (v := ?v20) rfl rfl (by kernel_rfl) (by kernel_rfl) (by kernel_rfl) (fun _ _ _ h => h) (by rfl) ?h20 hHeld ?r20
    case h20 => (intro w hSw; (try dsimp only at hSw); go_simp; try (with_reducible rfl))
    simp only [Act.put, List.setIfInBounds_toArray, List.set_cons_zero, List.set_cons_succ]
    refine wpAnyH_ready (rs := [18]) (by kernel_rfl) (by simp) ?_
    refine AllReadyH.cons rfl (fun K hK => ?_) AllReadyH.nil
    have k8 := (b6.block V.heap.size (by simp)).trans (heap_alloc_new V.drew (.cells #[.string ⟨#[]⟩, .string ⟨#[]⟩, .int .i64 0, .slice none 0 0, .slice none 0 0] 51))
    obtain ⟨o0, o1, o2, o3, o4⟩ := pg_cells5 k8
    obtain ⟨p0, p1, p2, p3, p4⟩ := fz_cells k8
    go_simp
    refine hK.out _ _ (unhide SK _ (((((((((Below.refl V.heap.size V).drew.alloc (Nat.le_refl _) _).trans (b6.mono (by simp)))).setCell (p := ⟨V.heap.size, 0, none⟩) (Nat.le_refl _) _).setCell (p := ⟨V.heap.size, 1, none⟩) (Nat.le_refl _) _).setCell (p := ⟨V.heap.size, 2, none⟩) (Nat.le_refl _) _).setCell (p := ⟨V.heap.size, 3, none⟩) (Nat.le_refl _) _).setCell (p := ⟨V.heap.size, 4, none⟩) (Nat.le_refl _) _)) (fun hHeld => ?_)
    clear hK K
    refine anyH_take 19 10 (v := ?v21) rfl rfl (by kernel_rfl) (by kernel_rfl) (by kernel_rfl) (fun _ _ _ h => h) (by rfl) ?h21 hHeld ?r21
    case h21 => (intro w hSw; (try dsimp only at hSw); go_simp; try (with_reducible rfl))
    simp only [Act.put, List.setIfInBounds_toArray, List.set_cons_zero, List.set_cons_succ]
    refine wpAnyH_done (by kernel_rfl) ?_ _
    have bX : Below V.heap.size V (((((w6.setCell ⟨V.heap.size, 0, none⟩ (.string Y.lo)).setCell ⟨V.heap.size, 1, none⟩ (.string Y.hi)).setCell ⟨V.heap.size, 2, none⟩ (.int .i64 Y.r)).setCell ⟨V.heap.size, 3, none⟩ (.slice aY nY kY)).setCell ⟨V.heap.size, 4, none⟩ (.slice aZ nZ kZ)) := ((((((((Below.refl V.heap.size V).drew.alloc (Nat.le_refl _) _).trans (b6.mono (by simp)))).setCell (p := ⟨V.heap.size, 0, none⟩) (Nat.le_refl _) _).setCell (p := ⟨V.heap.size, 1, none⟩) (Nat.le_refl _) _).setCell (p := ⟨V.heap.size, 2, none⟩) (Nat.le_refl _) _).setCell (p := ⟨V.heap.size, 3, none⟩) (Nat.le_refl _) _).setCell (p := ⟨V.heap.size, 4, none⟩) (Nat.le_refl _) _
    have kX : (((((w6.setCell ⟨V.heap.size, 0, none⟩ (.string Y.lo)).setCell ⟨V.heap.size, 1, none⟩ (.string Y.hi)).setCell ⟨V.heap.size, 2, none⟩ (.int .i64 Y.r)).setCell ⟨V.heap.size, 3, none⟩ (.slice aY nY kY)).setCell ⟨V.heap.size, 4, none⟩ (.slice aZ nZ kZ)).heap[V.heap.size]? = some (.cells #[.string Y.lo, .string Y.hi, .int .i64 Y.r, .slice aY nY kY, .slice aZ nZ kZ] 51 (0, 0)) := set5_heap k8 _ _ _ _ _
    have rX : PgRows (((((w6.setCell ⟨V.heap.size, 0, none⟩ (.string Y.lo)).setCell ⟨V.heap.size, 1, none⟩ (.string Y.hi)).setCell ⟨V.heap.size, 2, none⟩ (.int .i64 Y.r)).setCell ⟨V.heap.size, 3, none⟩ (.slice aY nY kY)).setCell ⟨V.heap.size, 4, none⟩ (.slice aZ nZ kZ)) B ⟨Y, ⟨aY, nY, kY⟩, ⟨aZ, nZ, kZ⟩⟩ := (ext_rows (B := B) (X := Y) oY).wr_box (set5_wr w6 V.heap.size (.string Y.lo) (.string Y.hi) (.int .i64 Y.r) (.slice aY nY kY) (.slice aZ nZ kZ)) (Nat.le_trans hB (unhide BW4).size) k8 (by decide) (by decide)
    have zX : V.heap.size ≤ V.heap.size := Nat.le_refl _
    clear o0 o1 o2 o3 o4 p0 p1 p2 p3 p4 k8
    clear oY b6
    generalize (((((w6.setCell ⟨V.heap.size, 0, none⟩ (.string Y.lo)).setCell ⟨V.heap.size, 1, none⟩ (.string Y.hi)).setCell ⟨V.heap.size, 2, none⟩ (.int .i64 Y.r)).setCell ⟨V.heap.size, 3, none⟩ (.slice aY nY kY)).setCell ⟨V.heap.size, 4, none⟩ (.slice aZ nZ kZ)) = X0 at *
    obtain ⟨ob, hob⟩ : ∃ ob, ob = V.heap.size := ⟨_, rfl⟩
    rw [← hob] at kX ⊢
    have zX := Nat.le_of_eq hob.symm
    clear hob
    clear HX SK
    have F7 := (unhide F).below ((unhide BW4).trans (bX.mono (unhide BW4).size))
    have hob : B ≤ ob := Nat.le_trans hB (Nat.le_trans (unhide BW4).size zX)
    obtain ⟨gp7, c7, hvp7, hcell, hfz, F8, W8, _⟩ := F7.setP hid (some (ob, ⟨Y, ⟨aY, nY, kY⟩, ⟨aZ, nZ, kZ⟩⟩)) (fun b x e => by injection e with e; injection e with e1 e2; subst e1 e2; exact ⟨⟨hob, kX⟩, rX⟩)
    have e7 := hvp7
    rw [unhide HVP] at e7
    injection e7 with e71 _ e73
    injection e71 with e71
    injection e71 with e71 _ _
    subst e71 e73
    have t0 := (heap_at F7.own.box 0).1
    rw [hvp7] at t0
    have kb : X0.heap[xb]? = _ := (bX.block xb z4).trans (unhide K4)
    have kb8 := (W8.block xb (blk_lt kb) (fun h => by have := unhide TW _ h; omega)).trans kb
    have rN : PgRows V B ⟨⟨KK, Chi, Cr, Ces.drop hh, []⟩, ⟨some ⟨g, hh * 2, none⟩, L - hh, kE - hh⟩, ⟨none, 0, 0⟩⟩ := ⟨erow_drop (erow_of_owns (unhide OE4)) hhL', ⟨rfl, fun i hi => absurd hi (Nat.not_lt_zero _)⟩, (fun ad e => by injection e with e; subst e; exact (rowK_own (B := B) (unhide OE4)).1 ⟨g, 0, none⟩ rfl), (fun ad e => by cases e), (fun h => by cases h), fun _ => rfl⟩
    have rN8 := ((rN.below bX).wr W8 F7.own.noRow)
    have hB8 : B ≤ (X0.setCell ⟨gp, id, none⟩ (ptrQ (some (ob, ⟨Y, ⟨aY, nY, kY⟩, ⟨aZ, nZ, kZ⟩⟩)))).heap.size := Nat.le_trans (Nat.le_trans hB (Nat.le_trans (unhide BW4).size bX.size)) W8.size
    obtain ⟨v9, w9, hr9, ho9, hg9⟩ := p_app (q := some (xb, (⟨⟨KK, Chi, Cr, Ces.drop hh, []⟩, ⟨some ⟨g, hh * 2, none⟩, L - hh, kE - hh⟩, ⟨none, 0, 0⟩⟩ : PpH))) F8.own.row (by rw [List.length_set]; omega) hB8
    obtain ⟨F9, W9, kM⟩ := F8.push (fun b x e => by injection e with e; injection e with e1 e2; subst e1 e2; exact ⟨⟨Nat.le_trans hB zw2, kb8⟩, rN8⟩) hg9 ho9 hB8
    obtain ⟨aV, cV, hV⟩ := powns_slice (n := qs.length + 1) ho9 (by rw [List.length_append, List.length_set]; rfl)
    subst hV
    have t8 := (heap_at F8.own.box 0).1
    rw [hvp7] at t8 hr9
    have t9 := (heap_at kM 0).1
    have t9f := (heap_at kM 0).2
    rw [unhide QE] at hcell
    have RES := hide (show TbRs B mb vp vi (splT (qsP qs) idx id X) w (.returned (.tuple #[.int .i64 (qs.length : Int), .int .i64 0])) (w9.setCell ⟨mb, 0, none⟩ (.slice aV (qs.length + 1) cV)) by
      rw [unhide SP3]
      refine ⟨_, _, vi, rfl, F9, ?_, ((WrB.of_below ((unhide BW4).trans (bX.mono (unhide BW4).size))).seq W8).seq W9⟩
      rw [qsP_snoc, qsP_set]
      rfl)
    unfold ptrQ at hcell hr9 t8
    simp only [Option.map_some] at hcell hr9 t8
    clear hvp7 F9 W9 kM hg9 ho9 hB8 rN8 rN kb8 kb F8 W8 F7 SP3 hob bX kX rX zX
    go_upto_region 11 with fail
    generalize X0.setCell ⟨gp, id, none⟩ (.pointer (some ⟨ob, 0, none⟩)) = U8 at *
    go_wp2_with (at_builtin; refine wpAppE rfl _ _ 66 rfl _ _ (.slice aV (qs.length + 1) cV) w9 rfl rfl hr9 ?_)
    go_ret2
    exact unhide RES
end Go.Proofs.Ytbhkmmdcdfjbkaa
