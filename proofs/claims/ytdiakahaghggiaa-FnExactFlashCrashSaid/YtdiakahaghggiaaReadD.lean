/-
  What is read of a device, as plain lists: the sectors of the map and the bytes are one.
-/
import Derived.Test.YtdiakahaghggiaaDevO
import Derived.Test.YtdiakahaghggiaaSpecRead
namespace Go.Proofs.Ytdiakahaghggiaa

theorem secBytes_secFn {xs : List Int} {m : Nat} (h : xs.length = m * 16) : secBytes m (secFn xs m) = xs := by
  have h16 : ∀ i, (secFn xs m i).length = 16 := fun i => by
    unfold secFn
    split
    · exact secAt_len h (by assumption)
    · rfl
  apply List.ext_getElem?
  intro j
  by_cases hj : j < m * 16
  · rw [secBytes_get _ h16 m j hj]
    have h1 : j / 16 < m := by omega
    unfold secFn
    rw [if_pos h1]
    unfold secAt
    rw [List.getElem?_take, if_pos (by omega), List.getElem?_drop]
    congr 1
    omega
  · rw [List.getElem?_eq_none (by rw [secBytes_len _ h16]; omega), List.getElem?_eq_none (by omega)]
theorem fold_read (ws : List WD) : ∀ S : DS, secOK S.rc S.rf → (∀ d ∈ ws, okW d = true) → secBytes (ws.foldl stepDS S).rc (ws.foldl stepDS S).rf = readD (secBytes S.rc S.rf) ws := by
  induction ws with
  | nil => intro S _ _; rfl
  | cons d r ih =>
    intro S hS hall
    obtain ⟨n, s, rfl, hn, hs⟩ := okW_shape (hall d (by simp))
    obtain ⟨h1, h2, h3⟩ := hS
    have hk : secOK (stepDS S ⟨(n : Int), s⟩).rc (stepDS S ⟨(n : Int), s⟩).rf := by
      refine ⟨?_, fun i => ?_, fun i hi => ?_⟩
      · simp only [stepDS, Int.toNat_natCast]; omega
      · simp only [stepDS, updS, Int.toNat_natCast]
        split
        · exact hs
        · exact h2 i
      · simp only [stepDS, updS, Int.toNat_natCast] at hi ⊢
        rw [if_neg (by omega)]
        exact h3 i (by omega)
    rw [List.foldl_cons, ih _ hk (fun d hd => hall d (by simp [hd]))]
    have e := secBytes_put16 S.rc S.rf h2 h3 ⟨(n : Int), s⟩ hs
    show readD (secBytes (max S.rc (((n : Int)).toNat + 1)) (updS S.rf ((n : Int)).toNat s)) r = readD (putD (secBytes S.rc S.rf) ⟨(n : Int), s⟩ 16) r
    rw [← e]
theorem devDS_read {xs : List Int} {m : Nat} {ws : List WD} (h : xs.length = m * 16) (hm : m ≤ 128) (hall : ∀ d ∈ ws, okW d = true) : secBytes (devDS xs m ws).rc (devDS xs m ws).rf = readD xs ws := by
  unfold devDS
  rw [fold_read ws (startDS xs m) (secFn_ok h hm) hall]
  show readD (secBytes m (secFn xs m)) ws = _
  rw [secBytes_secFn h]
/-- What FlashRead answers: bytes and a code. -/
def rdB (xs : List Int) (ws : List WD) : List Int := if okD xs.length ws = true then readD xs ws else []
def rdC (xs : List Int) (ws : List WD) : Int := if okD xs.length ws = true then 0 else 1
theorem okD_parts {nh : Nat} {ws : List WD} (h : okD nh ws = true) : nh % 16 = 0 ∧ nh ≤ 2048 ∧ ws.length ≤ 4096 ∧ ∀ d ∈ ws, okW d = true := by
  unfold okD at h
  rw [Bool.and_eq_true] at h
  have h1 := of_decide_eq_true h.1
  exact ⟨h1.1, h1.2.1, h1.2.2, List.all_eq_true.1 h.2⟩
end Go.Proofs.Ytdiakahaghggiaa
