/-
  spec.l06At.
-/
import Derived.Test.YtdnneomdokcpeaaVaL
import Derived.Test.YtdnneomdokcpeaaWrT
namespace Go.Proofs.Ytdnneomdokcpeaa
open Go.RowKit Go.Maps

theorem lastAt_snoc (L : List VerD) (d : VerD) (t : Int) : lastAt (L ++ [d]) t = if d.t ≤ t then some d else lastAt L t := by
  unfold lastAt
  rw [List.filter_append]
  by_cases h : d.t ≤ t <;> simp [h]
/-- The place of the last version of a key that is not later, of the first so many. -/
def Fnd (ds : List VerD) (k : ByteArray) (t : Int) (j : Nat) (q : Int) : Prop :=
  (q = -1 ∧ lastAt (grp (ds.take j) k) t = none) ∨ ∃ m : Nat, q = m ∧ ∃ h : m < ds.length, lastAt (grp (ds.take j) k) t = some ds[m]
theorem fnd_zero (ds : List VerD) (k : ByteArray) (t : Int) : Fnd ds k t 0 (-1) := .inl ⟨rfl, rfl⟩
theorem take_upV {ds : List VerD} {j : Nat} (hj : j < ds.length) : ds.take (j + 1) = ds.take j ++ [ds[j]] := by rw [List.take_add_one, List.getElem?_eq_getElem hj]; rfl
theorem fnd_yes {ds : List VerD} {k : ByteArray} {t : Int} {j : Nat} (hj : j < ds.length) (hk : ds[j].k = k) (ht : ds[j].t ≤ t) : Fnd ds k t (j + 1) (j : Int) := by
  refine .inr ⟨j, rfl, hj, ?_⟩
  subst hk
  rw [take_upV hj, grp_snoc_same, lastAt_snoc, if_pos ht]
theorem fnd_late {ds : List VerD} {k : ByteArray} {t : Int} {j : Nat} {q : Int} (hj : j < ds.length) (hk : ds[j].k = k) (ht : ¬ ds[j].t ≤ t) (h : Fnd ds k t j q) : Fnd ds k t (j + 1) q := by
  unfold Fnd at *
  subst hk
  rw [take_upV hj, grp_snoc_same, lastAt_snoc, if_neg ht]
  exact h
theorem fnd_other {ds : List VerD} {k : ByteArray} {t : Int} {j : Nat} {q : Int} (hj : j < ds.length) (hk : ¬ ds[j].k = k) (h : Fnd ds k t j q) : Fnd ds k t (j + 1) q := by
  unfold Fnd at *
  rw [take_upV hj, grp_snoc_other _ _ (fun e => hk e.symm)]
  exact h
theorem fnd_end {ds : List VerD} {k : ByteArray} {t : Int} {j : Nat} {q : Int} (hj : j = ds.length) (h : Fnd ds k t j q) :
    (q = -1 ∧ verAt ds k t = none) ∨ ∃ m : Nat, q = m ∧ ∃ h : m < ds.length, verAt ds k t = if ds[m].g = true then none else some ds[m] := by
  unfold Fnd at h
  unfold verAt
  subst hj
  rw [List.take_length] at h
  rcases h with ⟨h1, h2⟩ | ⟨m, h1, h2, h3⟩
  · exact .inl ⟨h1, by rw [h2]⟩
  · exact .inr ⟨m, h1, h2, by rw [h3]⟩
set_option maxRecDepth 100000 in
set_option maxHeartbeats 4000000 in
theorem l06At_any (a : Option Addr) (n c : Nat) (ds : List VerD) (k : ByteArray) (t : Int) (w : World) (hn : n ≤ 1048576) (hr : VRow w a n ds) :
    Calls Try.prog 52 #[.slice a n c, .string k, .int .i64 t] w fun e w' => VwRes ds k t w e w' := by
  have LN := hide hr.1
  have R := hide hr
  clear hr
  have b0 : Below w.heap.size w (w.alloc (.cells #[.string ⟨#[]⟩, .int .i64 0, .string ⟨#[]⟩, .bool false] 52)) := (Below.refl _ _).alloc (Nat.le_refl _) _
  have KR := hide (heap_alloc_new w (.cells #[.string ⟨#[]⟩, .int .i64 0, .string ⟨#[]⟩, .bool false] 52))
  have zs : (w.alloc (.cells #[.string ⟨#[]⟩, .int .i64 0, .string ⟨#[]⟩, .bool false] 52)).heap.size = w.heap.size + 1 := by simp
  have q3 : w.heap.size ≤ w.heap.size := Nat.le_refl _
  go_enter Try.func52, Try.ntmps52
  go_wp2_with fail
  generalize w.alloc (.cells #[.string ⟨#[]⟩, .int .i64 0, .string ⟨#[]⟩, .bool false] 52) = W at *
  go_loopw [8, 9] (fun q i wr => ∃ (j : Nat) (qq : Int), i = .int .i64 (j : Int) ∧ q = .int .i64 qq ∧ j ≤ n ∧ Hid (Fnd ds k t j qq) ∧ Hid (Below W.heap.size W wr)) (fun _ i _ => n - (intOf i).toNat)
  case atStart => exact ⟨0, -1, rfl, rfl, Nat.zero_le _, hide (fnd_zero ds k t), hide (Below.refl _ _)⟩
  case round =>
    obtain ⟨j, qq, rfl, rfl, hj, hF, hB⟩ := hrel
    have BR := hide (b0.trans ((unhide hB).mono b0.size))
    have RR := hide ((unhide R).below (unhide BR))
    by_cases hlt : j < n
    · have hj2 : j < ds.length := by rw [unhide LN]; exact hlt
      obtain ⟨b, off, rfl, d0, d1, d2, d3⟩ := (unhide RR).2 j hj2
      have F1 := hide (fun h1 h2 => fnd_yes (t := t) (k := k) hj2 h1 h2)
      have F2 := hide (fun h1 h2 => fnd_late hj2 h1 h2 (unhide hF))
      have F3 := hide (fun h1 => fnd_other hj2 h1 (unhide hF))
      generalize ds[j] = pd at *
      obtain ⟨pk, pt, pv, pg⟩ := pd
      simp only at d0 d1 F1 F2 F3
      clear d2 d3 hF BR RR KR R
      by_cases hk : pk = k
      · by_cases ht : pt ≤ t
        · have Z := hide (unhide F1 hk ht)
          clear F1 F2 F3
          go_wp2_with fail
          go_roundw
          case rel => exact ⟨j + 1, _, by go_num, rfl, by omega, Z, by first | exact hB | exact hide (unhide hB).drew | exact hide (unhide hB).drew.drew⟩
          case measure => simp [intOf]; omega
        · have Z := hide (unhide F2 hk ht)
          clear F1 F2 F3
          go_wp2_with fail
          go_roundw
          case rel => exact ⟨j + 1, _, by go_num, rfl, by omega, Z, by first | exact hB | exact hide (unhide hB).drew | exact hide (unhide hB).drew.drew⟩
          case measure => simp [intOf]; omega
      · have hol : ¬ pk.toList = k.toList := fun e => hk (toList_inj e)
        have Z := hide (unhide F3 hk)
        clear F1 F2 F3
        go_wp2_with fail
        go_roundw
        case rel => exact ⟨j + 1, _, by go_num, rfl, by omega, Z, by first | exact hB | exact hide (unhide hB).drew | exact hide (unhide hB).drew.drew⟩
        case measure => simp [intOf]; omega
    · obtain rfl : j = n := by omega
      have KW := hide (((unhide hB).block w.heap.size (by omega)).trans (unhide KR))
      rcases fnd_end (unhide LN).symm (unhide hF) with ⟨rfl, hv⟩ | ⟨m, rfl, hm, hv⟩
      · have HV := hide hv
        clear hv hF RR R KR
        obtain ⟨y0, y1, y2, y3⟩ : wr.cell? ⟨w.heap.size, 0, none⟩ = some (.string ⟨#[]⟩) ∧ wr.cell? ⟨w.heap.size, 1, none⟩ = some (.int .i64 0) ∧ wr.cell? ⟨w.heap.size, 2, none⟩ = some (.string ⟨#[]⟩) ∧ wr.cell? ⟨w.heap.size, 3, none⟩ = some (.bool false) := ⟨(heap_at (unhide KW) 0).1, (heap_at (unhide KW) 1).1, (heap_at (unhide KW) 2).1, (heap_at (unhide KW) 3).1⟩
        have f0 := (heap_at (unhide KW) 0).2
        have f1 := (heap_at (unhide KW) 1).2
        have f2 := (heap_at (unhide KW) 2).2
        have f3 := (heap_at (unhide KW) 3).2
        go_wp2_with fail
        refine bodyPost_ret (v := .tuple #[vv noV, .bool false]) (by unfold vv noV; simp [results, Try.results52, go_sem, *] <;> rfl) rfl ?_
        exact .inl ⟨noV, rfl, unhide HV, (((((unhide BR).setCell (p := ⟨w.heap.size, 0, none⟩) q3 _).setCell (p := ⟨w.heap.size, 1, none⟩) q3 _).setCell (p := ⟨w.heap.size, 2, none⟩) q3 _).setCell (p := ⟨w.heap.size, 3, none⟩) q3 _)⟩
      · obtain ⟨b, off, rfl, d0, d1, d2, d3⟩ := (unhide RR).2 m hm
        generalize ds[m] = xd at *
        obtain ⟨xk, xt, xv, xg⟩ := xd
        simp only at d0 d1 d2 d3 hv
        have hmj : m < j := by have := unhide LN; omega
        have hm0 : ¬ (m : Int) < 0 := by omega
        clear hF RR R KR
        cases xg
        · have HV := hide (show verAt ds k t = some ⟨xk, xt, xv, false⟩ by simpa using hv)
          clear hv
          obtain ⟨y0, y1, y2, y3⟩ : wr.cell? ⟨w.heap.size, 0, none⟩ = some (.string ⟨#[]⟩) ∧ wr.cell? ⟨w.heap.size, 1, none⟩ = some (.int .i64 0) ∧ wr.cell? ⟨w.heap.size, 2, none⟩ = some (.string ⟨#[]⟩) ∧ wr.cell? ⟨w.heap.size, 3, none⟩ = some (.bool false) := ⟨(heap_at (unhide KW) 0).1, (heap_at (unhide KW) 1).1, (heap_at (unhide KW) 2).1, (heap_at (unhide KW) 3).1⟩
          have f0 := (heap_at (unhide KW) 0).2
          have f1 := (heap_at (unhide KW) 1).2
          have f2 := (heap_at (unhide KW) 2).2
          have f3 := (heap_at (unhide KW) 3).2
          go_wp2_with fail
          refine bodyPost_ret (v := .tuple #[vv ⟨xk, xt, xv, false⟩, .bool true]) (by unfold vv; simp [results, Try.results52, go_sem, *] <;> rfl) rfl ?_
          exact .inr ⟨_, rfl, unhide HV, (((((unhide BR).setCell (p := ⟨w.heap.size, 0, none⟩) q3 _).setCell (p := ⟨w.heap.size, 1, none⟩) q3 _).setCell (p := ⟨w.heap.size, 2, none⟩) q3 _).setCell (p := ⟨w.heap.size, 3, none⟩) q3 _)⟩
        · have HV := hide (show verAt ds k t = none by simpa using hv)
          clear hv
          obtain ⟨y0, y1, y2, y3⟩ : wr.cell? ⟨w.heap.size, 0, none⟩ = some (.string ⟨#[]⟩) ∧ wr.cell? ⟨w.heap.size, 1, none⟩ = some (.int .i64 0) ∧ wr.cell? ⟨w.heap.size, 2, none⟩ = some (.string ⟨#[]⟩) ∧ wr.cell? ⟨w.heap.size, 3, none⟩ = some (.bool false) := ⟨(heap_at (unhide KW) 0).1, (heap_at (unhide KW) 1).1, (heap_at (unhide KW) 2).1, (heap_at (unhide KW) 3).1⟩
          have f0 := (heap_at (unhide KW) 0).2
          have f1 := (heap_at (unhide KW) 1).2
          have f2 := (heap_at (unhide KW) 2).2
          have f3 := (heap_at (unhide KW) 3).2
          go_wp2_with fail
          refine bodyPost_ret (v := .tuple #[vv noV, .bool false]) (by unfold vv noV; simp [results, Try.results52, go_sem, *] <;> rfl) rfl ?_
          exact .inl ⟨noV, rfl, unhide HV, (((((unhide BR).setCell (p := ⟨w.heap.size, 0, none⟩) q3 _).setCell (p := ⟨w.heap.size, 1, none⟩) q3 _).setCell (p := ⟨w.heap.size, 2, none⟩) q3 _).setCell (p := ⟨w.heap.size, 3, none⟩) q3 _)⟩
end Go.Proofs.Ytdnneomdokcpeaa
