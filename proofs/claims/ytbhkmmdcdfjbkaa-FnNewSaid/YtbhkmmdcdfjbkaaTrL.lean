/-
  Trees as plain data: pages, what is gone, the index; when a tree is right.
-/
import Derived.Test.YtbhkmmdcdfjbkaaPageL
import Derived.Test.YtbhkmmdcdfjbkaaJxC
namespace Go.Proofs.Ytbhkmmdcdfjbkaa
open Go.RowKit

abbrev okP (p : PageD) : Bool := okPage p.lo p.hi p.r p.es p.ds
abbrev hiP (p : PageD) : ByteArray := highE p.hi p.ds
abbrev riP (p : PageD) : Int := rightE p.r p.ds
/-- Bounds of a right page behind its changes. -/
theorem okP_bd {p : PageD} (h : okP p = true) : ((hiP p).toList.isEmpty = true → riP p = -1) ∧ ((hiP p).toList.isEmpty = false → ltK p.lo (hiP p) = true ∧ 0 ≤ riP p ∧ riP p ≤ 1000) := by
  obtain ⟨lo, hi, r, es, ds⟩ := p
  unfold okP okPage at h
  simp only [Bool.and_eq_true] at h
  obtain ⟨⟨⟨⟨⟨hb, _⟩, _⟩, _⟩, hc⟩, _⟩ := h
  have key : ∀ k, k ≤ ds.length → ((highE hi (ds.take k)).toList.isEmpty = true → rightE r (ds.take k) = -1) ∧ ((highE hi (ds.take k)).toList.isEmpty = false → ltK lo (highE hi (ds.take k)) = true ∧ 0 ≤ rightE r (ds.take k) ∧ rightE r (ds.take k) ≤ 1000) := fun k => by
    induction k with
    | zero =>
      intro _
      unfold okBounds at hb
      simp only [Bool.and_eq_true] at hb
      have hb := hb.2
      show (hi.toList.isEmpty = true → r = -1) ∧ (hi.toList.isEmpty = false → ltK lo hi = true ∧ 0 ≤ r ∧ r ≤ 1000)
      cases he : hi.toList.isEmpty with
      | true => rw [he, if_pos rfl] at hb; exact ⟨fun _ => of_decide_eq_true hb, (fun h => by cases h)⟩
      | false =>
        rw [he, if_neg (by decide), Bool.and_eq_true] at hb
        have h2 := of_decide_eq_true hb.2
        exact ⟨(fun h => by cases h), fun _ => ⟨hb.1, h2.1, h2.2⟩⟩
    | succ k ih =>
      intro hk
      have ih := ih (by omega)
      have hd : okDel lo (highE hi (ds.take k)) ds[k] = true := by
        unfold okChain at hc
        rw [List.all_eq_true] at hc
        have h := hc k (List.mem_range.2 (by omega))
        unfold okAtD at h
        rw [List.getElem?_eq_getElem (by omega)] at h
        exact h
      have e : ds.take (k + 1) = ds.take k ++ [ds[k]] := List.take_succ_eq_append_getElem (by omega)
      have eh : highE hi (ds.take (k + 1)) = if ds[k].kind = 3 then ds[k].k else highE hi (ds.take k) := by rw [e]; unfold highE; rw [List.foldl_append]; rfl
      have er : rightE r (ds.take (k + 1)) = if ds[k].kind = 3 then ds[k].to else rightE r (ds.take k) := by rw [e]; unfold rightE; rw [List.foldl_append]; rfl
      rw [eh, er]
      by_cases h3 : ds[k].kind = 3
      · rw [if_pos h3, if_pos h3]
        unfold okDel at hd
        rw [h3] at hd
        simp only [Bool.and_eq_true, Bool.or_eq_true] at hd
        obtain ⟨⟨hk1, _⟩, hd⟩ := hd
        have hk1 := of_decide_eq_true hk1
        rcases hd with (hd | hd) | hd
        · exact absurd (of_decide_eq_true hd.1.1) (by decide)
        · exact absurd (of_decide_eq_true hd.1.1) (by decide)
        · have h2 := of_decide_eq_true hd.2
          refine ⟨fun h => ?_, fun _ => ⟨hd.1.2, h2.1, h2.2⟩⟩
          rw [List.isEmpty_iff, ByteArray.toList_eq] at h
          have : ds[k].k.size = 0 := by
            show ds[k].k.data.size = 0
            rw [← Array.length_toList, h]
            rfl
          omega
      · rw [if_neg h3, if_neg h3]
        exact ih
  have := key ds.length (Nat.le_refl _)
  rwa [List.take_length] at this
/-- The page of a number that is not gone. -/
def getP (ps : List (Option PageD)) (at_ : Int) : Option PageD := if 0 ≤ at_ then (ps[at_.toNat]?).join else none
/-- From a page on, by what stands to the right: so many pages, bound to bound, and then none. -/
def goT (ps : List (Option PageD)) : Nat → Int → ByteArray → Bool
  | 0, at_, low => decide (at_ < 0) && low.toList.isEmpty
  | m + 1, at_, low => match getP ps at_ with
    | some p => decide (p.lo = low) && goT ps m (riP p) (hiP p)
    | none => false
/-- How many pages are here. -/
def manyT (ps : List (Option PageD)) : Nat := ps.countP (·.isSome)
/-- The Ref at a place may stand there. -/
def okRef (ps : List (Option PageD)) (idx : List RefD) (i : Nat) : Bool := match idx[i]? with
  | some x => (match getP ps x.id with
    | some p => decide (p.lo = x.low)
    | none => false) && (i == 0 || match idx[i - 1]? with
    | some y => ltK y.low x.low
    | none => false)
  | none => false
def okIdx (ps : List (Option PageD)) (idx : List RefD) : Bool := (List.range idx.length).all (okRef ps idx)
/-- A page that is gone has nothing. -/
def noP (p : PageD) : Bool := p.lo.toList.isEmpty && p.hi.toList.isEmpty && decide (p.r = -1) && decide (p.es.length = 0) && decide (p.ds.length = 0)
structure TreD where
  ps : List PageD
  gone : List Bool
  idx : List RefD
/-- The pages, with none for those that are gone. -/
def TreD.here (t : TreD) : List (Option PageD) := List.zipWith (fun p g => if g then none else some p) t.ps t.gone
def okPg (t : TreD) : Bool := (List.zipWith (fun p g => if g then noP p else okP p) t.ps t.gone).all id
/-- A tree is right. -/
def okT (t : TreD) : Bool :=
  decide (1 ≤ t.ps.length ∧ t.ps.length ≤ 30 ∧ t.gone.length = t.ps.length ∧ 1 ≤ t.idx.length ∧ t.idx.length ≤ t.ps.length) && okPg t && okIdx t.here t.idx && (match t.idx[0]? with
    | some x => decide (x.id = 0)
    | none => false) && goT t.here (manyT t.here) 0 ByteArray.empty
end Go.Proofs.Ytbhkmmdcdfjbkaa
