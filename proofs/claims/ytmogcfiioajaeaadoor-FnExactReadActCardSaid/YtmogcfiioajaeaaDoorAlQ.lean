/-
  spec.l08Tx: an act of a session, told by words.
-/
import Derived.Test.YtmogcfiioajaeaaDoorAlS
namespace Go.Proofs.YtmogcfiioajaeaaDoor
open Go.RowKit

def kindsB : List ByteArray := [⟨#[]⟩, ⟨#[98, 101, 103, 105, 110]⟩, ⟨#[103, 101, 116]⟩, ⟨#[115, 99, 97, 110]⟩, ⟨#[112, 117, 116]⟩, ⟨#[100, 114, 111, 112]⟩, ⟨#[99, 111, 109, 109, 105, 116]⟩, ⟨#[97, 98, 111, 114, 116]⟩]
def leastK (k : Nat) : Nat := [0, 0, 1, 0, 2, 1, 0, 0].getD k 0
def mostK (k : Nat) : Nat := [0, 0, 1, 2, 2, 1, 0, 0].getD k 0
/-- The act of a session that words tell: by what the number is, the kind, the other words. -/
def txR (o : Option Int) (k : Nat) (r : List ByteArray) : Option AlD := match o with
  | none => none
  | some v => if leastK k ≤ r.length ∧ r.length ≤ mostK k then some ⟨1, 0, (k : Int), v, r.getD 0 ⟨#[]⟩, if k = 4 then ⟨#[]⟩ else r.getD 1 ⟨#[]⟩, if k = 4 then r.getD 1 ⟨#[]⟩ else ⟨#[]⟩, []⟩ else none
def txW (ws : List ByteArray) : Option AlD := match ws with
  | w0 :: w1 :: rest => if placeB w0 kindsB 0 < 1 then none else txR (numV w1.data.toList) (placeB w0 kindsB 0).toNat rest
  | _ => none
def noAl : AlD := ⟨0, 0, 0, 0, ⟨#[]⟩, ⟨#[]⟩, ⟨#[]⟩, []⟩
theorem placeB_bd (k : ByteArray) : ∀ (L : List ByteArray) (i : Nat), placeB k L i = -1 ∨ ((i : Int) ≤ placeB k L i ∧ placeB k L i < (i : Int) + L.length)
  | [], _ => .inl rfl
  | x :: r, i => by
    unfold placeB
    split
    · right
      rw [List.length_cons]
      omega
    · rcases placeB_bd k r (i + 1) with h | h
      · exact .inl h
      · right
        rw [List.length_cons]
        omega
theorem tx_kind {L : List ByteArray} {x : ByteArray} {h : 0 < L.length} (e : L[0] = x) (hk : placeB x kindsB 0 < 1) : txW L = none := by
  match L, h, e with
  | [_], _, _ => rfl
  | w0 :: w1 :: r, _, e =>
    simp only [List.getElem_cons_zero] at e
    subst e
    exact if_pos hk
theorem tx_short {L : List ByteArray} (h : L.length < 2) : txW L = none := by
  match L, h with
  | [], _ => rfl
  | [_], _ => rfl
  | _ :: _ :: _, h => simp at h; omega
theorem tx_both {L : List ByteArray} {x y : ByteArray} {o : Option Int} {k : Nat} {h0 : 0 < L.length} {h1 : 1 < L.length} (e0 : L[0] = x) (e1 : L[1] = y) (ho : o = numV y.data.toList) (hk : placeB x kindsB 0 = (k : Int)) (hk1 : ¬ (k : Int) < 1) : txW L = txR o k (L.drop 2) := by
  match L, h0, h1, e0, e1 with
  | w0 :: w1 :: r, _, _, e0, e1 =>
    simp only [List.getElem_cons_zero, List.getElem_cons_succ] at e0 e1
    subst e0 e1 ho
    show (if placeB w0 kindsB 0 < 1 then none else txR (numV w1.data.toList) (placeB w0 kindsB 0).toNat r) = _
    rw [hk, if_neg hk1, Int.toNat_natCast]
    rfl
theorem alIn_any (n lo hi : Int) (w : World) : Calls Tryd.prog 18 #[.int .i64 n, .int .i64 lo, .int .i64 hi] w fun e w' => e = .returned (.bool (decide (lo ≤ n) && decide (n ≤ hi))) ∧ w' = w := by
  go_enter Tryd.func18, Tryd.ntmps18
  by_cases h : lo ≤ n
  · rw [decide_eq_true h, Bool.true_and]
    go_wp2_with fail
    go_ret
    exact ⟨rfl, rfl⟩
  · rw [decide_eq_false h, Bool.false_and]
    go_wp2_with fail
    go_ret
    exact ⟨rfl, rfl⟩
theorem most_2 : ∀ k : Nat, mostK k ≤ 2
  | 0 => by decide
  | 1 => by decide
  | 2 => by decide
  | 3 => by decide
  | 4 => by decide
  | 5 => by decide
  | 6 => by decide
  | 7 => by decide
  | k + 8 => Nat.zero_le _
theorem run_storeS {w : World} {b j : Nat} {u : Value} (c : w.cell? ⟨b, j, none⟩ = some u) (f : w.frozen? ⟨b, j, none⟩ = false) (x : ByteArray) : (Instr.storeAt 9 (.pointer (some ⟨b, j, none⟩)) (.string x)).run Tryd.prog w = .ok () (w.setCell ⟨b, j, none⟩ (.string x)) := by
  go_simp
theorem least_at : ∀ k, k < 8 → (#[.int .i64 0, .int .i64 0, .int .i64 1, .int .i64 0, .int .i64 2, .int .i64 1, .int .i64 0, .int .i64 0] : Array Value)[k]? = some (.int .i64 (leastK k : Nat))
  | 0, _ => rfl
  | 1, _ => rfl
  | 2, _ => rfl
  | 3, _ => rfl
  | 4, _ => rfl
  | 5, _ => rfl
  | 6, _ => rfl
  | 7, _ => rfl
  | k + 8, h => absurd h (by omega)
theorem most_at : ∀ k, k < 8 → (#[.int .i64 0, .int .i64 0, .int .i64 1, .int .i64 2, .int .i64 2, .int .i64 1, .int .i64 0, .int .i64 0] : Array Value)[k]? = some (.int .i64 (mostK k : Nat))
  | 0, _ => rfl
  | 1, _ => rfl
  | 2, _ => rfl
  | 3, _ => rfl
  | 4, _ => rfl
  | 5, _ => rfl
  | 6, _ => rfl
  | 7, _ => rfl
  | k + 8, h => absurd h (by omega)
set_option maxRecDepth 100000 in
set_option maxHeartbeats 16000000 in
theorem l08Tx_any (a : Option Addr) (n c : Nat) (L : List ByteArray) (w : World) (hr : StrRow w a n L) (hn : n ≤ 70000) (hc : n ≤ c) (h1 : 1 ≤ n) (hsz : ∀ x ∈ L, x.size ≤ 65536) :
    Calls Tryd.prog 17 #[.slice a n c] w fun e w' => e = .returned (.tuple #[.agg (alC ((txW L).getD noAl) (.slice none 0 0)), .bool (txW L).isSome]) ∧ Below w.heap.size w w' := by
  have LN := hide hr.1
  have hl : 0 < L.length := by rw [hr.1]; exact h1
  obtain ⟨b, off, ha, d0⟩ := hr.2 0 hl
  subst ha
  have R := hide hr
  clear hr
  obtain ⟨W, hW⟩ : ∃ W, W = w.alloc (.cells #[.int .i64 0, .int .i64 0, .int .i64 0, .int .i64 0, .string ⟨#[]⟩, .string ⟨#[]⟩, .string ⟨#[]⟩, .slice none 0 0] 26) := ⟨_, rfl⟩
  have bW : Below w.heap.size w W := by rw [hW]; exact (Below.refl _ _).alloc (Nat.le_refl _) _
  have kW : W.heap[w.heap.size]? = some (.cells #[.int .i64 0, .int .i64 0, .int .i64 0, .int .i64 0, .string ⟨#[]⟩, .string ⟨#[]⟩, .string ⟨#[]⟩, .slice none 0 0] 26 (0, 0)) := by rw [hW]; exact heap_alloc_new _ _
  have bV : Below w.heap.size w (W.alloc (.cells #[.string ⟨#[]⟩, .string ⟨#[98, 101, 103, 105, 110]⟩, .string ⟨#[103, 101, 116]⟩, .string ⟨#[115, 99, 97, 110]⟩, .string ⟨#[112, 117, 116]⟩, .string ⟨#[100, 114, 111, 112]⟩, .string ⟨#[99, 111, 109, 109, 105, 116]⟩, .string ⟨#[97, 98, 111, 114, 116]⟩] 9)) := bW.trans (((Below.refl _ _).alloc (Nat.le_refl _) _).mono bW.size)
  have P := hide (l08Place_any (some ⟨W.heap.size, 0, none⟩) 8 8 kindsB L[0] (W.alloc (.cells #[.string ⟨#[]⟩, .string ⟨#[98, 101, 103, 105, 110]⟩, .string ⟨#[103, 101, 116]⟩, .string ⟨#[115, 99, 97, 110]⟩, .string ⟨#[112, 117, 116]⟩, .string ⟨#[100, 114, 111, 112]⟩, .string ⟨#[99, 111, 109, 109, 105, 116]⟩, .string ⟨#[97, 98, 111, 114, 116]⟩] 9)) (strrow_own (made_texts W kindsB (by decide))) (by decide))
  have d0' : (W.alloc (.cells #[.string ⟨#[]⟩, .string ⟨#[98, 101, 103, 105, 110]⟩, .string ⟨#[103, 101, 116]⟩, .string ⟨#[115, 99, 97, 110]⟩, .string ⟨#[112, 117, 116]⟩, .string ⟨#[100, 114, 111, 112]⟩, .string ⟨#[99, 111, 109, 109, 105, 116]⟩, .string ⟨#[97, 98, 111, 114, 116]⟩] 9)).cell? ⟨b, off + 0, none⟩ = some (.string L[0]) := (bV.cell (p := ⟨b, off + 0, none⟩) (cell_lt d0)).trans d0
  have d0'' : W.cell? ⟨b, off + 0, none⟩ = some (.string L[0]) := (bW.cell (p := ⟨b, off + 0, none⟩) (cell_lt d0)).trans d0
  have hi0 : (0 : Int) < (n : Int) := by omega
  rw [Nat.add_zero] at d0' d0''
  have BV := hide bV
  have KW := hide ((((Below.refl W.heap.size W).alloc (Nat.le_refl _) (.cells #[.string ⟨#[]⟩, .string ⟨#[98, 101, 103, 105, 110]⟩, .string ⟨#[103, 101, 116]⟩, .string ⟨#[115, 99, 97, 110]⟩, .string ⟨#[112, 117, 116]⟩, .string ⟨#[100, 114, 111, 112]⟩, .string ⟨#[99, 111, 109, 109, 105, 116]⟩, .string ⟨#[97, 98, 111, 114, 116]⟩] 9)).block w.heap.size ((Array.getElem?_eq_some_iff.1 kW).1)).trans kW)
  generalize hL0 : L[0] = l0 at *
  clear bV bW kW d0
  go_enter Tryd.func17, Tryd.ntmps17
  go_upto_region 1 with fail
  rw [← hW]
  clear hW
  go_wp2_with fail
  refine (unhide P).mono ?_
  rintro e w1 ⟨rfl, rfl⟩
  clear P d0' d0''
  have D1 := hide (show ∀ h : 1 < L.length, ∃ x, x = L[1] from fun h => ⟨_, rfl⟩)
  generalize W.alloc (.cells #[.string ⟨#[]⟩, .string ⟨#[98, 101, 103, 105, 110]⟩, .string ⟨#[103, 101, 116]⟩, .string ⟨#[115, 99, 97, 110]⟩, .string ⟨#[112, 117, 116]⟩, .string ⟨#[100, 114, 111, 112]⟩, .string ⟨#[99, 111, 109, 109, 105, 116]⟩, .string ⟨#[97, 98, 111, 114, 116]⟩] 9) = w1 at *
  have HL0 := hide hL0
  clear hL0 D1
  by_cases hk1 : placeB l0 kindsB 0 < 1
  · have RN := show txW L = none from tx_kind (unhide HL0) hk1
    have run := run_storeAl (unhide KW) noAl none 0 0
    have kk := hide (sv8_heap (unhide KW) (.int .i64 0) (.int .i64 0) (.int .i64 0) (.int .i64 0) (.string ⟨#[]⟩) (.string ⟨#[]⟩) (.string ⟨#[]⟩) (.slice none 0 0))
    have RES := hide (And.intro RN (sv8_below (unhide BV) (Nat.le_refl w.heap.size) (.int .i64 0) (.int .i64 0) (.int .i64 0) (.int .i64 0) (.string ⟨#[]⟩) (.string ⟨#[]⟩) (.string ⟨#[]⟩) (.slice none 0 0)))
    unfold sv8d noAl at run
    simp only at run
    clear RN BV KW HL0 R LN
    go_wp2_with (refine al_wpStore rfl (.tmp 2) (.tmp 23) 26 rfl _ _ _ (by simp [Act.eval]) (by simp [Act.eval]) run ?_)
    generalize sv8 _ w.heap.size (.int .i64 0) (.int .i64 0) (.int .i64 0) (.int .i64 0) (.string ⟨#[]⟩) (.string ⟨#[]⟩) (.string ⟨#[]⟩) (.slice none 0 0) = u at *
    have y0 := (heap_at (unhide kk) 0).1
    have y1 := (heap_at (unhide kk) 1).1
    have y2 := (heap_at (unhide kk) 2).1
    have y3 := (heap_at (unhide kk) 3).1
    have y4 := (heap_at (unhide kk) 4).1
    have y5 := (heap_at (unhide kk) 5).1
    have y6 := (heap_at (unhide kk) 6).1
    have y7 := (heap_at (unhide kk) 7).1
    clear run kk
    go_wp2_with fail
    refine bodyPost_ret (v := .tuple #[.agg #[.int .i64 0, .int .i64 0, .int .i64 0, .int .i64 0, .string ⟨#[]⟩, .string ⟨#[]⟩, .string ⟨#[]⟩, .slice none 0 0], .bool false]) (by simp [results, Tryd.results17, go_sem, y0, y1, y2, y3, y4, y5, y6, y7]) rfl ?_
    exact ⟨by rw [(unhide RES).1]; rfl, (unhide RES).2⟩
  obtain ⟨k, hk⟩ : ∃ k : Nat, placeB l0 kindsB 0 = (k : Int) := ⟨(placeB l0 kindsB 0).toNat, by omega⟩
  have hk8 : k < 8 := by
    have := placeB_bd l0 kindsB 0
    have h8 : kindsB.length = 8 := rfl
    omega
  rw [hk] at hk1 ⊢
  by_cases hn2 : (n : Int) < 2
  · have RN := show txW L = none from tx_short (by rw [unhide LN]; omega)
    have run := run_storeAl (unhide KW) noAl none 0 0
    have kk := hide (sv8_heap (unhide KW) (.int .i64 0) (.int .i64 0) (.int .i64 0) (.int .i64 0) (.string ⟨#[]⟩) (.string ⟨#[]⟩) (.string ⟨#[]⟩) (.slice none 0 0))
    have RES := hide (And.intro RN (sv8_below (unhide BV) (Nat.le_refl w.heap.size) (.int .i64 0) (.int .i64 0) (.int .i64 0) (.int .i64 0) (.string ⟨#[]⟩) (.string ⟨#[]⟩) (.string ⟨#[]⟩) (.slice none 0 0)))
    unfold sv8d noAl at run
    simp only at run
    clear RN BV KW HL0 R LN
    go_wp2_with (refine al_wpStore rfl (.tmp 2) (.tmp 23) 26 rfl _ _ _ (by simp [Act.eval]) (by simp [Act.eval]) run ?_)
    generalize sv8 _ w.heap.size (.int .i64 0) (.int .i64 0) (.int .i64 0) (.int .i64 0) (.string ⟨#[]⟩) (.string ⟨#[]⟩) (.string ⟨#[]⟩) (.slice none 0 0) = u at *
    have y0 := (heap_at (unhide kk) 0).1
    have y1 := (heap_at (unhide kk) 1).1
    have y2 := (heap_at (unhide kk) 2).1
    have y3 := (heap_at (unhide kk) 3).1
    have y4 := (heap_at (unhide kk) 4).1
    have y5 := (heap_at (unhide kk) 5).1
    have y6 := (heap_at (unhide kk) 6).1
    have y7 := (heap_at (unhide kk) 7).1
    clear run kk
    go_wp2_with fail
    refine bodyPost_ret (v := .tuple #[.agg #[.int .i64 0, .int .i64 0, .int .i64 0, .int .i64 0, .string ⟨#[]⟩, .string ⟨#[]⟩, .string ⟨#[]⟩, .slice none 0 0], .bool false]) (by simp [results, Tryd.results17, go_sem, y0, y1, y2, y3, y4, y5, y6, y7]) rfl ?_
    exact ⟨by rw [(unhide RES).1]; rfl, (unhide RES).2⟩
  have hl1 : 1 < L.length := by rw [unhide LN]; omega
  have g3 : (1 : Int) < (n : Int) := by omega
  have g4 : (2 : Int) ≤ (n : Int) := by omega
  obtain ⟨b1, off1, e1, d1⟩ := (unhide R).2 1 hl1
  injection e1 with e1
  injection e1 with e1 e2 _
  subst e1 e2
  have d1' : w1.cell? ⟨b, off + 1, none⟩ = some (.string L[1]) := ((unhide BV).cell (p := ⟨b, off + 1, none⟩) (cell_lt d1)).trans d1
  have N1 := hide (l00Number_any L[1] w1 (hsz _ (List.getElem_mem hl1)))
  generalize hL1 : L[1] = l1 at *
  have HL1 := hide hL1
  obtain ⟨o, ho⟩ : ∃ o, o = numV l1.data.toList := ⟨_, rfl⟩
  rw [← ho] at N1
  obtain ⟨nv, ob, hN, hob⟩ : ∃ (nv : Int) (ob : Bool), numR o = .tuple #[.int .i64 nv, .bool ob] ∧ ((ob = false ∧ o = none) ∨ (ob = true ∧ o = some nv)) := by
    cases o with
    | none => exact ⟨0, false, rfl, .inl ⟨rfl, rfl⟩⟩
    | some v => exact ⟨v, true, rfl, .inr ⟨rfl, rfl⟩⟩
  rw [hN] at N1
  have OB := hide hob
  have HO := hide ho
  clear hL1 d1 hN hob ho
  go_upto_region 4 with fail
  go_wp2_with fail
  refine (unhide N1).mono ?_
  rintro e w2 ⟨rfl, rfl⟩
  clear N1 d1'
  go_upto_region 6 with fail
  obtain ⟨w3, hw3⟩ : ∃ w3, w3 = w2.alloc (.cells #[.int .i64 (k : Int), .int .i64 nv, .string ⟨#[]⟩, .string ⟨#[]⟩, .string ⟨#[]⟩] 23) := ⟨_, rfl⟩
  rw [← hw3]
  have b3 : Below w2.heap.size w2 w3 := by rw [hw3]; exact (Below.refl _ _).alloc (Nat.le_refl _) _
  have kA : w3.heap[w2.heap.size]? = some (.cells #[.int .i64 (k : Int), .int .i64 nv, .string ⟨#[]⟩, .string ⟨#[]⟩, .string ⟨#[]⟩] 23 (0, 0)) := by rw [hw3]; exact heap_alloc_new _ _
  have hA : w.heap.size < w2.heap.size := al_lt (unhide KW)
  have kW3 := (b3.block w.heap.size hA).trans (unhide KW)
  have B3 := hide ((unhide BV).trans (b3.mono (Nat.le_of_lt hA)))
  clear hw3 BV KW
  generalize w2.heap.size = A at *
  have e4 : (w3.alloc (.cells #[.int .i64 0, .int .i64 0, .int .i64 1, .int .i64 0, .int .i64 2, .int .i64 1, .int .i64 0, .int .i64 0] 3)).cell? ⟨w3.heap.size, k, none⟩ = some (.int .i64 (leastK k : Nat)) := by rw [(heap_at (heap_alloc_new _ _) k).1]; exact least_at k hk8
  have hs4 : (w3.alloc (.cells #[.int .i64 0, .int .i64 0, .int .i64 1, .int .i64 0, .int .i64 2, .int .i64 1, .int .i64 0, .int .i64 0] 3)).heap.size = w3.heap.size + 1 := by simp
  have e5 : ((w3.alloc (.cells #[.int .i64 0, .int .i64 0, .int .i64 1, .int .i64 0, .int .i64 2, .int .i64 1, .int .i64 0, .int .i64 0] 3)).alloc (.cells #[.int .i64 0, .int .i64 0, .int .i64 1, .int .i64 2, .int .i64 2, .int .i64 1, .int .i64 0, .int .i64 0] 3)).cell? ⟨w3.heap.size + 1, k, none⟩ = some (.int .i64 (mostK k : Nat)) := by rw [← hs4, (heap_at (heap_alloc_new _ _) k).1]; exact most_at k hk8
  have g5 : (k : Int) < 8 := by omega
  have g6 : (n : Int) ≤ (c : Int) := by omega
  have b5 : Below w3.heap.size w3 ((w3.alloc (.cells #[.int .i64 0, .int .i64 0, .int .i64 1, .int .i64 0, .int .i64 2, .int .i64 1, .int .i64 0, .int .i64 0] 3)).alloc (.cells #[.int .i64 0, .int .i64 0, .int .i64 1, .int .i64 2, .int .i64 2, .int .i64 1, .int .i64 0, .int .i64 0] 3)) := ((Below.refl _ _).alloc (Nat.le_refl _) _).trans (((Below.refl _ _).alloc (Nat.le_refl _) _).mono (by rw [hs4]; omega))
  have KA5 := hide ((b5.block A (al_lt kA)).trans kA)
  have KW5 := hide ((b5.block w.heap.size (al_lt kW3)).trans kW3)
  have B5 := hide ((unhide B3).trans (b5.mono (unhide B3).size))
  clear B3 kA kW3 b5 hs4
  go_upto_region 9 with fail
  generalize ((w3.alloc (.cells #[.int .i64 0, .int .i64 0, .int .i64 1, .int .i64 0, .int .i64 2, .int .i64 1, .int .i64 0, .int .i64 0] 3)).alloc (.cells #[.int .i64 0, .int .i64 0, .int .i64 1, .int .i64 2, .int .i64 2, .int .i64 1, .int .i64 0, .int .i64 0] 3)) = w5 at *
  clear e4 e5
  generalize hra : (if c = 2 then some (⟨b, off, none⟩ : Addr) else some ⟨b, off + 2, none⟩) = ra
  have RA := hide hra
  clear hra
  have hrl : (L.drop 2).length = n - 2 := by rw [List.length_drop, unhide LN]
  have TX := hide (tx_both (unhide HL0) (unhide HL1) (unhide HO) hk (by omega))
  have IN := hide (alIn_any ((n - 2 : Nat) : Int) (leastK k : Nat) (mostK k : Nat) w5)
  have e9 : (((n - 2 : Nat)) : Int) = ((n - 2 : Nat) : Int) := rfl
  rcases unhide OB with ⟨rfl, ho⟩ | ⟨rfl, ho⟩
  · have RN := show txW L = none from by rw [unhide TX, ho]; rfl
    have run := run_storeAl (unhide KW5) noAl none 0 0
    have kk := hide (sv8_heap (unhide KW5) (.int .i64 0) (.int .i64 0) (.int .i64 0) (.int .i64 0) (.string ⟨#[]⟩) (.string ⟨#[]⟩) (.string ⟨#[]⟩) (.slice none 0 0))
    have RES := hide (And.intro RN (sv8_below (unhide B5) (Nat.le_refl w.heap.size) (.int .i64 0) (.int .i64 0) (.int .i64 0) (.int .i64 0) (.string ⟨#[]⟩) (.string ⟨#[]⟩) (.string ⟨#[]⟩) (.slice none 0 0)))
    unfold sv8d noAl at run
    simp only at run
    clear RN RA TX KA5 B5 KW5 R LN HL0 HL1 OB HO
    go_wp2_with (refine al_wpStore rfl (.tmp 2) (.tmp 54) 26 rfl _ _ _ (by simp [Act.eval]) (by simp [Act.eval]) run ?_)
    generalize sv8 _ w.heap.size (.int .i64 0) (.int .i64 0) (.int .i64 0) (.int .i64 0) (.string ⟨#[]⟩) (.string ⟨#[]⟩) (.string ⟨#[]⟩) (.slice none 0 0) = u at *
    have y0 := (heap_at (unhide kk) 0).1
    have y1 := (heap_at (unhide kk) 1).1
    have y2 := (heap_at (unhide kk) 2).1
    have y3 := (heap_at (unhide kk) 3).1
    have y4 := (heap_at (unhide kk) 4).1
    have y5 := (heap_at (unhide kk) 5).1
    have y6 := (heap_at (unhide kk) 6).1
    have y7 := (heap_at (unhide kk) 7).1
    clear run kk
    go_wp2_with fail
    refine bodyPost_ret (v := .tuple #[.agg #[.int .i64 0, .int .i64 0, .int .i64 0, .int .i64 0, .string ⟨#[]⟩, .string ⟨#[]⟩, .string ⟨#[]⟩, .slice none 0 0], .bool false]) (by simp [results, Tryd.results17, go_sem, y0, y1, y2, y3, y4, y5, y6, y7]) rfl ?_
    exact ⟨by rw [(unhide RES).1]; rfl, (unhide RES).2⟩
  by_cases hin : leastK k ≤ n - 2 ∧ n - 2 ≤ mostK k
  · have hI : (decide (((leastK k : Nat) : Int) ≤ ((n - 2 : Nat) : Int)) && decide (((n - 2 : Nat) : Int) ≤ ((mostK k : Nat) : Int))) = true := by
      rw [decide_eq_true (by omega : ((leastK k : Nat) : Int) ≤ ((n - 2 : Nat) : Int)), decide_eq_true (by omega : ((n - 2 : Nat) : Int) ≤ ((mostK k : Nat) : Int))]
      rfl
    rw [hI] at IN
    have RS := hide (show txW L = some ⟨1, 0, (k : Int), nv, (L.drop 2).getD 0 ⟨#[]⟩, if k = 4 then ⟨#[]⟩ else (L.drop 2).getD 1 ⟨#[]⟩, if k = 4 then (L.drop 2).getD 1 ⟨#[]⟩ else ⟨#[]⟩, []⟩ from by rw [unhide TX, ho]; exact if_pos (by rw [hrl]; exact hin))
    have hm2 := most_2 k
    clear hI TX
    generalize hr : n - 2 = r at *
    by_cases hr0 : r = 0
    · have RX := show txW L = some ⟨1, 0, (k : Int), nv, ⟨#[]⟩, ⟨#[]⟩, ⟨#[]⟩, []⟩ from by
        rw [unhide RS, List.eq_nil_of_length_eq_zero (hrl.trans hr0)]
        simp
      have RX2 := hide RX
      subst hr0
      have IN2 := hide (show Calls Tryd.prog 18 #[.int .i64 0, .int .i64 (leastK k : Nat), .int .i64 (mostK k : Nat)] w5 fun e w' => e = .returned (.bool true) ∧ w' = w5 from unhide IN)
      clear IN hin hrl hr hm2
      have t0 := (heap_at (unhide KA5) 0).1
      have t1 := (heap_at (unhide KA5) 1).1
      have t2 := (heap_at (unhide KA5) 2).1
      have t3 := (heap_at (unhide KA5) 3).1
      have t4 := (heap_at (unhide KA5) 4).1
      have run := run_storeAl (unhide KW5) ⟨1, 0, (k : Int), nv, ⟨#[]⟩, ⟨#[]⟩, ⟨#[]⟩, []⟩ none 0 0
      unfold sv8d at run
      simp only at run
      have kk := hide (sv8_heap (unhide KW5) (.int .i64 1) (.int .i64 0) (.int .i64 (k : Int)) (.int .i64 nv) (.string ⟨#[]⟩) (.string ⟨#[]⟩) (.string ⟨#[]⟩) (.slice none 0 0))
      have RES := hide (And.intro RX (sv8_below (unhide B5) (Nat.le_refl w.heap.size) (.int .i64 1) (.int .i64 0) (.int .i64 (k : Int)) (.int .i64 nv) (.string ⟨#[]⟩) (.string ⟨#[]⟩) (.string ⟨#[]⟩) (.slice none 0 0)))
      clear RX RX2 RS RA KA5 B5 KW5 R LN HL0 HL1 OB HO
      go_wp2_with (first | (go_at_call 18; refine (unhide IN2).mono ?_; rintro e w9 ⟨rfl, rfl⟩) | (refine al_wpStore rfl (.tmp 2) (.tmp 76) 26 rfl _ _ _ (by simp [Act.eval]) (by simp [Act.eval]) run ?_))
      generalize sv8 _ w.heap.size (.int .i64 1) (.int .i64 0) (.int .i64 (k : Int)) (.int .i64 nv) (.string ⟨#[]⟩) (.string ⟨#[]⟩) (.string ⟨#[]⟩) (.slice none 0 0) = u at *
      have y0 := (heap_at (unhide kk) 0).1
      have y1 := (heap_at (unhide kk) 1).1
      have y2 := (heap_at (unhide kk) 2).1
      have y3 := (heap_at (unhide kk) 3).1
      have y4 := (heap_at (unhide kk) 4).1
      have y5 := (heap_at (unhide kk) 5).1
      have y6 := (heap_at (unhide kk) 6).1
      have y7 := (heap_at (unhide kk) 7).1
      clear run kk
      go_wp2_with fail
      refine bodyPost_ret (v := .tuple #[.agg #[.int .i64 1, .int .i64 0, .int .i64 (k : Int), .int .i64 nv, .string ⟨#[]⟩, .string ⟨#[]⟩, .string ⟨#[]⟩, .slice none 0 0], .bool true]) (by simp [results, Tryd.results17, go_sem, y0, y1, y2, y3, y4, y5, y6, y7]) rfl ?_
      exact ⟨by rw [(unhide RES).1]; rfl, (unhide RES).2⟩
    have hc2 : ¬ c = 2 := by omega
    have hra := unhide RA
    rw [if_neg hc2] at hra
    subst hra
    have hl2 : 2 < L.length := by rw [unhide LN]; omega
    obtain ⟨b2, off2, q1, d2⟩ := (unhide R).2 2 hl2
    injection q1 with q1
    injection q1 with q1 q2 _
    subst q1 q2
    have d2' : w5.cell? ⟨b, off + 2, none⟩ = some (.string L[2]) := ((unhide B5).cell (p := ⟨b, off + 2, none⟩) (cell_lt d2)).trans d2
    have hbA : b ≠ A := by have := cell_lt d2; simp only at this; omega
    have u2 := (heap_at (unhide KA5) 2).1
    have f2 := (heap_at (unhide KA5) 2).2
    have runS1 := run_storeS u2 f2 L[2]
    have kA6 : (w5.setCell ⟨A, 2, none⟩ (.string L[2])).heap[A]? = some (.cells #[.int .i64 (k : Int), .int .i64 nv, .string L[2], .string ⟨#[]⟩, .string ⟨#[]⟩] 23 (0, 0)) := by simpa using heap_set (unhide KA5) 2 (.string L[2])
    have kW6 := (Below.heap_setCell w5 ⟨A, 2, none⟩ (.string L[2]) w.heap.size (by simp only; omega)).trans (unhide KW5)
    have b6 := al_set (unhide B5) (Nat.le_of_lt hA) 2 (.string L[2])
    have HD := hide (show (L.drop 2).getD 0 ⟨#[]⟩ = L[2] by rw [List.getD_eq_getElem?_getD, List.getElem?_drop, List.getElem?_eq_getElem hl2]; rfl)
    obtain ⟨w6, hw6⟩ : ∃ w6, w6 = w5.setCell ⟨A, 2, none⟩ (.string L[2]) := ⟨_, rfl⟩
    rw [← hw6] at runS1 kA6 kW6 b6
    generalize hx : L[2] = x at *
    clear u2 f2 d2 hx hw6
    have KA6 := hide kA6
    have KW6 := hide kW6
    have B6 := hide b6
    clear kA6 kW6 b6 KA5 KW5
    by_cases hr1 : r = 1
    · have RX := show txW L = some ⟨1, 0, (k : Int), nv, x, ⟨#[]⟩, ⟨#[]⟩, []⟩ from by
        have h1 : (L.drop 2).getD 1 ⟨#[]⟩ = ⟨#[]⟩ := by rw [List.getD_eq_getElem?_getD, List.getElem?_eq_none (by omega)]; rfl
        rw [unhide RS, unhide HD, h1]
        simp
      subst hr1
      have IN2 := hide (show Calls Tryd.prog 18 #[.int .i64 1, .int .i64 (leastK k : Nat), .int .i64 (mostK k : Nat)] w5 fun e w' => e = .returned (.bool true) ∧ w' = w5 from unhide IN)
      clear IN hin hrl hr hm2 hr0
      have t0 := (heap_at (unhide KA6) 0).1
      have t1 := (heap_at (unhide KA6) 1).1
      have t2 := (heap_at (unhide KA6) 2).1
      have t3 := (heap_at (unhide KA6) 3).1
      have t4 := (heap_at (unhide KA6) 4).1
      have run := run_storeAl (unhide KW6) ⟨1, 0, (k : Int), nv, x, ⟨#[]⟩, ⟨#[]⟩, []⟩ none 0 0
      unfold sv8d at run
      simp only at run
      have kk := hide (sv8_heap (unhide KW6) (.int .i64 1) (.int .i64 0) (.int .i64 (k : Int)) (.int .i64 nv) (.string x) (.string ⟨#[]⟩) (.string ⟨#[]⟩) (.slice none 0 0))
      have RES := hide (And.intro RX (sv8_below (unhide B6) (Nat.le_refl w.heap.size) (.int .i64 1) (.int .i64 0) (.int .i64 (k : Int)) (.int .i64 nv) (.string x) (.string ⟨#[]⟩) (.string ⟨#[]⟩) (.slice none 0 0)))
      clear RX RS RA HD KA6 B6 KW6 R LN HL0 HL1 OB HO B5 hbA
      go_wp2_with (first | (go_at_call 18; refine (unhide IN2).mono ?_; rintro e w9 ⟨rfl, rfl⟩) | (refine al_wpStore rfl (.tmp 61) (.tmp 60) 9 rfl _ _ _ (by simp [Act.eval]) (by simp [Act.eval]) runS1 ?_) | (refine al_wpStore rfl (.tmp 2) (.tmp 76) 26 rfl _ _ _ (by simp [Act.eval]) (by simp [Act.eval]) run ?_))
      generalize sv8 _ w.heap.size (.int .i64 1) (.int .i64 0) (.int .i64 (k : Int)) (.int .i64 nv) (.string x) (.string ⟨#[]⟩) (.string ⟨#[]⟩) (.slice none 0 0) = u at *
      have y0 := (heap_at (unhide kk) 0).1
      have y1 := (heap_at (unhide kk) 1).1
      have y2 := (heap_at (unhide kk) 2).1
      have y3 := (heap_at (unhide kk) 3).1
      have y4 := (heap_at (unhide kk) 4).1
      have y5 := (heap_at (unhide kk) 5).1
      have y6 := (heap_at (unhide kk) 6).1
      have y7 := (heap_at (unhide kk) 7).1
      clear run kk
      go_wp2_with fail
      refine bodyPost_ret (v := .tuple #[.agg #[.int .i64 1, .int .i64 0, .int .i64 (k : Int), .int .i64 nv, .string x, .string ⟨#[]⟩, .string ⟨#[]⟩, .slice none 0 0], .bool true]) (by simp [results, Tryd.results17, go_sem, y0, y1, y2, y3, y4, y5, y6, y7]) rfl ?_
      exact ⟨by rw [(unhide RES).1]; rfl, (unhide RES).2⟩
    have hl3 : 3 < L.length := by rw [unhide LN]; omega
    obtain ⟨b3, off3, q1, d3⟩ := (unhide R).2 3 hl3
    injection q1 with q1
    injection q1 with q1 q2 _
    subst q1 q2
    have d3' : w6.cell? ⟨b, off + 2 + 1, none⟩ = some (.string L[3]) := ((unhide B6).cell (p := ⟨b, off + 2 + 1, none⟩) (cell_lt d3)).trans d3
    have hr2 : r = 2 := by omega
    have HD3 := hide (show (L.drop 2).getD 1 ⟨#[]⟩ = L[3] by rw [List.getD_eq_getElem?_getD, List.getElem?_drop, List.getElem?_eq_getElem hl3]; rfl)
    generalize hx : L[3] = y at *
    clear d3 hx
    by_cases h4 : k = 4
    · have hk4 : ((k : Int) == 4) = true := by rw [h4]; rfl
      have u2 := (heap_at (unhide KA6) 4).1
      have f2 := (heap_at (unhide KA6) 4).2
      have runS2 := run_storeS u2 f2 y
      have kA7 := hide (show (w6.setCell ⟨A, 4, none⟩ (.string y)).heap[A]? = some (.cells #[.int .i64 (k : Int), .int .i64 nv, .string x, .string ⟨#[]⟩, .string y] 23 (0, 0)) by simpa using heap_set (unhide KA6) 4 (.string y))
      have kW7 := hide ((Below.heap_setCell w6 ⟨A, 4, none⟩ (.string y) w.heap.size (by simp only; omega)).trans (unhide KW6))
      have b7 := hide (al_set (unhide B6) (Nat.le_of_lt hA) 4 (.string y))
      clear u2 f2
      generalize w6.setCell ⟨A, 4, none⟩ (.string y) = w7 at *
      have RX := show txW L = some ⟨1, 0, (k : Int), nv, x, ⟨#[]⟩, y, []⟩ from by
        rw [unhide RS, unhide HD, unhide HD3, if_pos h4, if_pos h4]
      subst hr2
      have IN2 := hide (show Calls Tryd.prog 18 #[.int .i64 2, .int .i64 (leastK k : Nat), .int .i64 (mostK k : Nat)] w5 fun e w' => e = .returned (.bool true) ∧ w' = w5 from unhide IN)
      clear IN hin hrl hr hm2 hr0 hr1 h4
      have t0 := (heap_at (unhide kA7) 0).1
      have t1 := (heap_at (unhide kA7) 1).1
      have t2 := (heap_at (unhide kA7) 2).1
      have t3 := (heap_at (unhide kA7) 3).1
      have t4 := (heap_at (unhide kA7) 4).1
      have run := run_storeAl (unhide kW7) ⟨1, 0, (k : Int), nv, x, ⟨#[]⟩, y, []⟩ none 0 0
      unfold sv8d at run
      simp only at run
      have kk := hide (sv8_heap (unhide kW7) (.int .i64 1) (.int .i64 0) (.int .i64 (k : Int)) (.int .i64 nv) (.string x) (.string ⟨#[]⟩) (.string y) (.slice none 0 0))
      have RES := hide (And.intro RX (sv8_below (unhide b7) (Nat.le_refl w.heap.size) (.int .i64 1) (.int .i64 0) (.int .i64 (k : Int)) (.int .i64 nv) (.string x) (.string ⟨#[]⟩) (.string y) (.slice none 0 0)))
      clear RX RS RA HD HD3 KA6 B6 KW6 R LN HL0 HL1 OB HO B5 hbA kA7 kW7 b7
      go_wp2_with (first | (go_at_call 18; refine (unhide IN2).mono ?_; rintro e w9 ⟨rfl, rfl⟩) | (refine al_wpStore rfl (.tmp 61) (.tmp 60) 9 rfl _ _ _ (by simp [Act.eval]) (by simp [Act.eval]) runS1 ?_) | (refine al_wpStore rfl (.tmp 70) (.tmp 69) 9 rfl _ _ _ (by simp [Act.eval]) (by simp [Act.eval]) runS2 ?_) | (refine al_wpStore rfl (.tmp 2) (.tmp 76) 26 rfl _ _ _ (by simp [Act.eval]) (by simp [Act.eval]) run ?_))
      generalize sv8 _ w.heap.size (.int .i64 1) (.int .i64 0) (.int .i64 (k : Int)) (.int .i64 nv) (.string x) (.string ⟨#[]⟩) (.string y) (.slice none 0 0) = u at *
      have y0 := (heap_at (unhide kk) 0).1
      have y1 := (heap_at (unhide kk) 1).1
      have y2 := (heap_at (unhide kk) 2).1
      have y3 := (heap_at (unhide kk) 3).1
      have y4 := (heap_at (unhide kk) 4).1
      have y5 := (heap_at (unhide kk) 5).1
      have y6 := (heap_at (unhide kk) 6).1
      have y7 := (heap_at (unhide kk) 7).1
      clear run kk
      go_wp2_with fail
      refine bodyPost_ret (v := .tuple #[.agg #[.int .i64 1, .int .i64 0, .int .i64 (k : Int), .int .i64 nv, .string x, .string ⟨#[]⟩, .string y, .slice none 0 0], .bool true]) (by simp [results, Tryd.results17, go_sem, y0, y1, y2, y3, y4, y5, y6, y7]) rfl ?_
      exact ⟨by rw [(unhide RES).1]; rfl, (unhide RES).2⟩
    · have hk4 : ((k : Int) == 4) = false := by rw [beq_eq_false_iff_ne]; omega
      have u2 := (heap_at (unhide KA6) 3).1
      have f2 := (heap_at (unhide KA6) 3).2
      have runS2 := run_storeS u2 f2 y
      have kA7 := hide (show (w6.setCell ⟨A, 3, none⟩ (.string y)).heap[A]? = some (.cells #[.int .i64 (k : Int), .int .i64 nv, .string x, .string y, .string ⟨#[]⟩] 23 (0, 0)) by simpa using heap_set (unhide KA6) 3 (.string y))
      have kW7 := hide ((Below.heap_setCell w6 ⟨A, 3, none⟩ (.string y) w.heap.size (by simp only; omega)).trans (unhide KW6))
      have b7 := hide (al_set (unhide B6) (Nat.le_of_lt hA) 3 (.string y))
      clear u2 f2
      generalize w6.setCell ⟨A, 3, none⟩ (.string y) = w7 at *
      have RX := show txW L = some ⟨1, 0, (k : Int), nv, x, y, ⟨#[]⟩, []⟩ from by
        rw [unhide RS, unhide HD, unhide HD3, if_neg h4, if_neg h4]
      subst hr2
      have IN2 := hide (show Calls Tryd.prog 18 #[.int .i64 2, .int .i64 (leastK k : Nat), .int .i64 (mostK k : Nat)] w5 fun e w' => e = .returned (.bool true) ∧ w' = w5 from unhide IN)
      clear IN hin hrl hr hm2 hr0 hr1 h4
      have t0 := (heap_at (unhide kA7) 0).1
      have t1 := (heap_at (unhide kA7) 1).1
      have t2 := (heap_at (unhide kA7) 2).1
      have t3 := (heap_at (unhide kA7) 3).1
      have t4 := (heap_at (unhide kA7) 4).1
      have run := run_storeAl (unhide kW7) ⟨1, 0, (k : Int), nv, x, y, ⟨#[]⟩, []⟩ none 0 0
      unfold sv8d at run
      simp only at run
      have kk := hide (sv8_heap (unhide kW7) (.int .i64 1) (.int .i64 0) (.int .i64 (k : Int)) (.int .i64 nv) (.string x) (.string y) (.string ⟨#[]⟩) (.slice none 0 0))
      have RES := hide (And.intro RX (sv8_below (unhide b7) (Nat.le_refl w.heap.size) (.int .i64 1) (.int .i64 0) (.int .i64 (k : Int)) (.int .i64 nv) (.string x) (.string y) (.string ⟨#[]⟩) (.slice none 0 0)))
      clear RX RS RA HD HD3 KA6 B6 KW6 R LN HL0 HL1 OB HO B5 hbA kA7 kW7 b7
      go_wp2_with (first | (go_at_call 18; refine (unhide IN2).mono ?_; rintro e w9 ⟨rfl, rfl⟩) | (refine al_wpStore rfl (.tmp 61) (.tmp 60) 9 rfl _ _ _ (by simp [Act.eval]) (by simp [Act.eval]) runS1 ?_) | (refine al_wpStore rfl (.tmp 74) (.tmp 73) 9 rfl _ _ _ (by simp [Act.eval]) (by simp [Act.eval]) runS2 ?_) | (refine al_wpStore rfl (.tmp 2) (.tmp 76) 26 rfl _ _ _ (by simp [Act.eval]) (by simp [Act.eval]) run ?_))
      generalize sv8 _ w.heap.size (.int .i64 1) (.int .i64 0) (.int .i64 (k : Int)) (.int .i64 nv) (.string x) (.string y) (.string ⟨#[]⟩) (.slice none 0 0) = u at *
      have y0 := (heap_at (unhide kk) 0).1
      have y1 := (heap_at (unhide kk) 1).1
      have y2 := (heap_at (unhide kk) 2).1
      have y3 := (heap_at (unhide kk) 3).1
      have y4 := (heap_at (unhide kk) 4).1
      have y5 := (heap_at (unhide kk) 5).1
      have y6 := (heap_at (unhide kk) 6).1
      have y7 := (heap_at (unhide kk) 7).1
      clear run kk
      go_wp2_with fail
      refine bodyPost_ret (v := .tuple #[.agg #[.int .i64 1, .int .i64 0, .int .i64 (k : Int), .int .i64 nv, .string x, .string y, .string ⟨#[]⟩, .slice none 0 0], .bool true]) (by simp [results, Tryd.results17, go_sem, y0, y1, y2, y3, y4, y5, y6, y7]) rfl ?_
      exact ⟨by rw [(unhide RES).1]; rfl, (unhide RES).2⟩
  · have RN := show txW L = none from by rw [unhide TX, ho]; exact if_neg (by rw [hrl]; exact hin)
    have hI : (decide (((leastK k : Nat) : Int) ≤ ((n - 2 : Nat) : Int)) && decide (((n - 2 : Nat) : Int) ≤ ((mostK k : Nat) : Int))) = false := by
      rw [Bool.and_eq_false_iff]
      rcases Classical.not_and_iff_not_or_not.1 hin with h | h
      · exact .inl (decide_eq_false (by omega))
      · exact .inr (decide_eq_false (by omega))
    rw [hI] at IN
    have run := run_storeAl (unhide KW5) noAl none 0 0
    have kk := hide (sv8_heap (unhide KW5) (.int .i64 0) (.int .i64 0) (.int .i64 0) (.int .i64 0) (.string ⟨#[]⟩) (.string ⟨#[]⟩) (.string ⟨#[]⟩) (.slice none 0 0))
    have RES := hide (And.intro RN (sv8_below (unhide B5) (Nat.le_refl w.heap.size) (.int .i64 0) (.int .i64 0) (.int .i64 0) (.int .i64 0) (.string ⟨#[]⟩) (.string ⟨#[]⟩) (.string ⟨#[]⟩) (.slice none 0 0)))
    unfold sv8d noAl at run
    simp only at run
    clear RN RA TX KA5 B5 KW5 R LN HL0 HL1 OB HO
    go_wp2_with (first | (go_at_call 18; refine (unhide IN).mono ?_; rintro e w9 ⟨rfl, rfl⟩) | (refine al_wpStore rfl (.tmp 2) (.tmp 54) 26 rfl _ _ _ (by simp [Act.eval]) (by simp [Act.eval]) run ?_))
    generalize sv8 _ w.heap.size (.int .i64 0) (.int .i64 0) (.int .i64 0) (.int .i64 0) (.string ⟨#[]⟩) (.string ⟨#[]⟩) (.string ⟨#[]⟩) (.slice none 0 0) = u at *
    have y0 := (heap_at (unhide kk) 0).1
    have y1 := (heap_at (unhide kk) 1).1
    have y2 := (heap_at (unhide kk) 2).1
    have y3 := (heap_at (unhide kk) 3).1
    have y4 := (heap_at (unhide kk) 4).1
    have y5 := (heap_at (unhide kk) 5).1
    have y6 := (heap_at (unhide kk) 6).1
    have y7 := (heap_at (unhide kk) 7).1
    clear run kk
    go_wp2_with fail
    refine bodyPost_ret (v := .tuple #[.agg #[.int .i64 0, .int .i64 0, .int .i64 0, .int .i64 0, .string ⟨#[]⟩, .string ⟨#[]⟩, .string ⟨#[]⟩, .slice none 0 0], .bool false]) (by simp [results, Tryd.results17, go_sem, y0, y1, y2, y3, y4, y5, y6, y7]) rfl ?_
    exact ⟨by rw [(unhide RES).1]; rfl, (unhide RES).2⟩
end Go.Proofs.YtmogcfiioajaeaaDoor
