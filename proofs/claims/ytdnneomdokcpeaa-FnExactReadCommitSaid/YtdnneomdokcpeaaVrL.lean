/-
  Versions as plain data: when one is right, when a list of them rises, when a list is a commit's writes; a commit's bytes.
-/
import Derived.Test.YtdnneomdokcpeaaVrC
import Derived.Test.YtdnneomdokcpeaaPageL
namespace Go.Proofs.Ytdnneomdokcpeaa
open Go.RowKit

def verK (d : VerD) : Bool := keyK d.k && valK d.v && idK d.t && (!d.g || d.v.toList.isEmpty)
/-- By key, then by time. -/
def ltV (a b : VerD) : Bool := ltK a.k b.k || (decide (a.k = b.k) && decide (a.t < b.t))
/-- The version at a place may stand there. -/
def okAtV (ds : List VerD) (i : Nat) : Bool := match ds[i]? with
  | some d => verK d && (i == 0 || match ds[i - 1]? with
    | some p => ltV p d
    | none => false)
  | none => false
def okVs (ds : List VerD) : Bool := (List.range ds.length).all (okAtV ds)
theorem okAtV_zero {ds : List VerD} (h : 0 < ds.length) : okAtV ds 0 = verK ds[0] := by
  unfold okAtV
  rw [List.getElem?_eq_getElem h]
  simp
theorem okAtV_succ {ds : List VerD} {i : Nat} (h : i + 1 < ds.length) : okAtV ds (i + 1) = (verK ds[i + 1] && ltV ds[i] ds[i + 1]) := by
  unfold okAtV
  rw [List.getElem?_eq_getElem h]
  simp only [Nat.add_sub_cancel]
  rw [List.getElem?_eq_getElem (by omega)]
  simp
theorem okVs_false {ds : List VerD} {i : Nat} (h : i < ds.length) (hf : okAtV ds i = false) : okVs ds = false := by
  rw [okVs, List.all_eq_false]
  exact ⟨i, List.mem_range.2 h, by rw [hf]; decide⟩
theorem okVs_true {ds : List VerD} (h : ∀ i, i < ds.length → okAtV ds i = true) : okVs ds = true := List.all_eq_true.2 fun i hi => h i (List.mem_range.1 hi)
theorem okVs_at {ds : List VerD} (h : okVs ds = true) {i : Nat} (hi : i < ds.length) : okAtV ds i = true := List.all_eq_true.1 h i (List.mem_range.2 hi)
theorem okVs_ver {ds : List VerD} (h : okVs ds = true) {i : Nat} (hi : i < ds.length) : verK ds[i] = true := by
  have := okVs_at h hi
  unfold okAtV at this
  rw [List.getElem?_eq_getElem hi] at this
  simp only [Bool.and_eq_true] at this
  exact this.1
/-- All of a time. -/
def oneT (ds : List VerD) (t : Int) : Bool := ds.all fun d => decide (d.t = t)
/-- They may be the writes of a session of a time. -/
def wrV (ds : List VerD) (t : Int) : Bool := decide (ds.length ≤ 8) && (okVs ds && oneT ds t)
/-- They may be a commit's writes. -/
def comV (ds : List VerD) : Bool := decide (ds.length = 0) || wrV ds (ds.getD 0 noV).t
theorem ltV_other {a b : VerD} (h : ltV a b = true) (ht : a.t = b.t) : a.k ≠ b.k := by
  intro e
  unfold ltV at h
  rw [e, ltK_irr] at h
  simp [ht] at h
theorem oneT_false {ds : List VerD} {i : Nat} {t : Int} (h : i < ds.length) (hf : ds[i].t ≠ t) : oneT ds t = false := by
  rw [oneT, List.all_eq_false]
  exact ⟨ds[i], List.getElem_mem h, by simpa using hf⟩
theorem oneT_true {ds : List VerD} {t : Int} (h : ∀ i (hi : i < ds.length), ds[i].t = t) : oneT ds t = true := List.all_eq_true.2 fun d hd => by
  obtain ⟨i, hi, rfl⟩ := List.getElem_of_mem hd
  exact decide_eq_true (h i hi)
theorem oneT_at {ds : List VerD} {t : Int} (h : oneT ds t = true) {i : Nat} (hi : i < ds.length) : ds[i].t = t := of_decide_eq_true (List.all_eq_true.1 h _ (List.getElem_mem hi))
/-- A right version's texts are short. -/
theorem verK_small {d : VerD} (h : verK d = true) : d.k.size ≤ 40 ∧ d.v.size ≤ 100 ∧ 0 ≤ d.t ∧ d.t ≤ 1000 := by
  unfold verK keyK valK idK at h
  simp only [Bool.and_eq_true, decide_eq_true_eq] at h
  omega
/-- A text's bytes, with its length ahead. -/
def cbText (t : ByteArray) : List Int := t.data.toList.map fun b => (b.toNat : Int)
def cbLine (t : ByteArray) : List Int := (t.size : Int) :: cbText t
theorem cbText_length (t : ByteArray) : (cbText t).length = t.size := by rw [cbText, List.length_map, Array.length_toList]; rfl
theorem cbLine_length (t : ByteArray) : (cbLine t).length = t.size + 1 := by rw [cbLine, List.length_cons, cbText_length]
def cbMark (g : Bool) : Int := if g then 2 else 1
/-- A write's bytes. -/
def cbOne (d : VerD) : List Int := cbMark d.g :: (cbLine d.k ++ cbLine d.v)
def cbAll (ds : List VerD) : List Int := ds.flatMap cbOne
theorem cbAll_snoc (ds : List VerD) (d : VerD) : cbAll (ds ++ [d]) = cbAll ds ++ cbOne d := by simp [cbAll]
theorem cbOne_length (d : VerD) : (cbOne d).length = d.k.size + d.v.size + 3 := by simp [cbOne, cbLine_length]; omega
theorem cbAll_le : ∀ ds : List VerD, (∀ i (hi : i < ds.length), ds[i].k.size ≤ 255 ∧ ds[i].v.size ≤ 255) → (cbAll ds).length ≤ 513 * ds.length
  | [], _ => by simp [cbAll]
  | e :: r, h => by
    have h0 := h 0 (by simp)
    have h1 := cbAll_le r (fun i hi => h (i + 1) (by simp; omega))
    have h2 := cbOne_length e
    simp only [cbAll, List.flatMap_cons, List.length_append, List.length_cons, List.getElem_cons_zero] at *
    omega
end Go.Proofs.Ytdnneomdokcpeaa
