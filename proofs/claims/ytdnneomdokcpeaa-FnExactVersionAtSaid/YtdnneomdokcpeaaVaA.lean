/-
  The program's view of a history: countUpTo, viewAt, what it gives.
-/
import Derived.Test.YtdnneomdokcpeaaHmB
import Derived.Test.YtdnneomdokcpeaaVaL
namespace Go.Proofs.Ytdnneomdokcpeaa
open Go.RowKit Go.Maps

set_option maxRecDepth 100000 in
set_option maxHeartbeats 1000000 in
theorem countUpTo_any (a : Option Addr) (n c : Nat) (L : List VerD) (t : Int) (w : World) (hn : n ≤ 1048576) (hr : VRow w a n L) :
    Calls Try.prog 74 #[.slice a n c, .int .i64 t] w fun e w' => e = .returned (.int .i64 (cnt L t : Nat)) ∧ w' = w := by
  have LN := hide hr.1
  have R := hide hr
  clear hr
  go_enter Try.func74, Try.ntmps74
  go_wp2_with fail
  go_loopw [5] (fun i wr => ∃ k : Nat, k ≤ n ∧ i = .int .i64 k ∧ Hid (∀ i (h : i < L.length), i < k → L[i].t ≤ t) ∧ Hid (wr = w)) (fun i _ => n - (intOf i).toNat)
  case atStart => exact ⟨0, Nat.zero_le _, rfl, (fun i _ hi => absurd hi (Nat.not_lt_zero _)), hide rfl⟩
  case round =>
    obtain ⟨k, hk, rfl, hA, hww⟩ := hrel
    have hww := unhide hww
    subst wr
    by_cases hlt : k < n
    · have hk2 : k < L.length := by rw [unhide LN]; exact hlt
      obtain ⟨b, off, rfl, d0, d1, d2, d3⟩ := (unhide R).2 k hk2
      have FY := hide (fun (h : L[k].t ≤ t) i (hi : i < L.length) (hik : i < k + 1) => show L[i].t ≤ t from if e : i < k then unhide hA i hi e else by
        obtain rfl : i = k := by omega
        exact h)
      have FZ := hide (fun (h : ¬ L[k].t ≤ t) => cnt_step hk2 (unhide hA) h)
      generalize L[k] = pd at *
      obtain ⟨pk, pt, pv, pg⟩ := pd
      simp only at d1 FY FZ
      clear d0 d2 d3 hA
      by_cases ht : pt ≤ t
      · have Z := hide (unhide FY ht)
        clear FY FZ
        go_wp2_with fail
        go_roundw
        case rel => exact ⟨k + 1, by omega, by go_num, unhide Z, by first | exact hide rfl | exact hide trivial⟩
        case measure => simp [intOf]; omega
      · have Z := hide (unhide FZ ht)
        clear FY FZ
        go_wp2_with fail
        go_ret
        exact ⟨ret_int (by rw [unhide Z]), rfl⟩
    · obtain rfl : k = n := by omega
      have Z := hide (show cnt L t = k by rw [cnt_all fun i h => unhide hA i h (by have := unhide LN; omega)]; exact unhide LN)
      go_wp2_with fail
      go_ret
      exact ⟨ret_int (by rw [unhide Z]), rfl⟩
set_option maxHeartbeats 1000000 in
theorem viewAt_any (m : Nat) (t : Int) (w : World) :
    Calls Try.prog 54 #[.map (some m), .int .i64 t] w fun e w' => e = .returned (.func (.func 73) #[] #[.pointer (some ⟨w.heap.size, 0, none⟩), .pointer (some ⟨w.heap.size + 1, 0, none⟩)]) ∧ w' = (w.alloc (.cells #[.map (some m)] 90)).alloc (.cells #[.int .i64 t] 3) := by
  have hmf : ∀ (fn : Fn) (first cap : Array Value) (w : World), (Instr.makeFunc fn first cap).run Try.prog w = .ok (.func fn first cap) w := fun _ _ _ _ => rfl
  go_enter Try.func54, Try.ntmps54
  go_wp2_with fail
  go_ret
  exact ⟨by simp, rfl⟩
theorem vowns_slice2 {w : World} {B : Nat} {v : Value} {ds : List VerD} (h : VOwns w B v ds) : ∃ a c, v = .slice a ds.length c := by
  rcases h.2 with ⟨rfl, hn⟩ | ⟨g, cap, cur, rfl, _⟩
  · exact ⟨none, 0, by rw [hn]⟩
  · exact ⟨_, _, rfl⟩
/-- A history that is only read. -/
structure HisRd (w : World) (m N : Nat) (f : ByteArray → Value) (ds : List VerD) : Prop where
  map : HMap w m N f
  row : ∀ k, ∃ a c, f k = .slice a (grp ds k).length c ∧ VRow w a (grp ds k).length (grp ds k) ∧ (grp ds k).length ≤ c
  no : ∀ k, grp ds k = [] → f k = .slice none 0 0
theorem HisRd.below {w w' : World} {m N : Nat} {f : ByteArray → Value} {ds : List VerD} (h : HisRd w m N f ds) (hb : Below w.heap.size w w') : HisRd w' m N f ds :=
  ⟨h.map.block (hb.block m h.map.lt), fun k => by obtain ⟨a, c, e, r, hc⟩ := h.row k; exact ⟨a, c, e, r.below hb, hc⟩, h.no⟩
theorem HisAt.rd {w : World} {m N B : Nat} {f : ByteArray → Value} {ds : List VerD} (h : HisAt w m N B f ds) : HisRd w m N f ds :=
  ⟨h.map, fun k => by
    obtain ⟨a, c, e⟩ := vowns_slice2 (h.own k)
    have ho := h.own k
    rw [e] at ho
    refine ⟨a, c, e, vrow_of_owns ho, ?_⟩
    rcases ho.2 with ⟨e2, h0⟩ | ⟨g, cap, cur, e2, _, _, hc, _⟩
    · omega
    · injection e2 with _ _ e2; omega, h.no⟩
theorem wpList_lookup_his (w : World) {ops : Array Oper} {rest : List Oper} {o : Oper} {a : Act} {Q : Exit → Act → World → Prop}
    (hg : o.guard = none) (m x : Operand) (hop : o.op = Op.lookup 90 m x false) (b : Nat) (k : ByteArray) (v : Value) (hm : a.eval m = .map (some b)) (hx : a.eval x = .string k)
    (hrun : (Instr.lookup 90 (.map (some b)) (.string k) false).run Try.prog w = .ok v w) (hK : wpList Try.prog ops Q rest (a.put o.dst v) w) : wpList Try.prog ops Q (o :: rest) a w := by
  refine wpList_plain hg fun K' hK' => ?_
  unfold Oper.wp
  simp [execOp, hop, hm, hx, hrun, Result.andThen]
  exact hK' _ _ hK
set_option maxRecDepth 100000 in
set_option maxHeartbeats 4000000 in
theorem viewR_any (hb tb m N : Nat) (f : ByteArray → Value) (ds : List VerD) (k : ByteArray) (t : Int) (w : World) (hH : HisRd w m N f ds) (hok : okVs ds = true) (hl : ds.length ≤ 4096) (hk : k.size ≤ maxLen) (h1 : w.cell? ⟨hb, 0, none⟩ = some (.map (some m))) (h2 : w.cell? ⟨tb, 0, none⟩ = some (.int .i64 t)) :
    Calls Try.prog 73 #[.string k, .pointer (some ⟨hb, 0, none⟩), .pointer (some ⟨tb, 0, none⟩)] w fun e w' => VwRes ds k t w e w' := by
  have b0 : Below w.heap.size w (w.alloc (.cells #[.string ⟨#[]⟩, .int .i64 0, .string ⟨#[]⟩, .bool false] 52)) := (Below.refl _ _).alloc (Nat.le_refl _) _
  have LK := (hH.below b0).map.lookup hk
  have c1 := (b0.cell (p := ⟨hb, 0, none⟩) (cell_lt h1)).trans h1
  have c2 := (b0.cell (p := ⟨tb, 0, none⟩) (cell_lt h2)).trans h2
  have KR := hide (heap_alloc_new w (.cells #[.string ⟨#[]⟩, .int .i64 0, .string ⟨#[]⟩, .bool false] 52))
  have LC := hide (last_cnt (grp_rise hok k) t)
  have hgl := grp_len ds k
  have VA := hide (show verAt ds k t = match lastAt (grp ds k) t with | some d => if d.g = true then none else some d | none => none from rfl)
  obtain ⟨av, cv, hf, hrow0, hcap0⟩ := hH.row k
  have VR := hide (show ∀ u, Below w.heap.size w u → VRow u av (grp ds k).length (grp ds k) from fun u hu => hrow0.below hu)
  have CP0 := hide hcap0
  clear hrow0 hcap0
  rw [hf] at LK
  clear hH hok h1 h2 hf
  generalize grp ds k = L at *
  go_enter Try.func73, Try.ntmps73
  go_wp2_with (at_lookup; refine wpList_lookup_his _ rfl (.tmp 8) (.tmp 9) rfl m k _ rfl rfl LK ?_)
  generalize hW : w.alloc (.cells #[.string ⟨#[]⟩, .int .i64 0, .string ⟨#[]⟩, .bool false] 52) = W at *
  refine (countUpTo_any av L.length cv L t W (by omega) (unhide VR W b0)).mono ?_
  rintro e w1 ⟨rfl, hww⟩
  subst w1
  have hcl := cnt_le L t
  generalize hcn : cnt L t = q at *
  by_cases hq : q = 0
  · subst hq
    have Z := hide (show verAt ds k t = none by rw [unhide VA, unhide LC]; rfl)
    clear LC VA
    obtain ⟨y0, y1, y2, y3⟩ : W.cell? ⟨w.heap.size, 0, none⟩ = some (.string ⟨#[]⟩) ∧ W.cell? ⟨w.heap.size, 1, none⟩ = some (.int .i64 0) ∧ W.cell? ⟨w.heap.size, 2, none⟩ = some (.string ⟨#[]⟩) ∧ W.cell? ⟨w.heap.size, 3, none⟩ = some (.bool false) := ⟨(heap_at (unhide KR) 0).1, (heap_at (unhide KR) 1).1, (heap_at (unhide KR) 2).1, (heap_at (unhide KR) 3).1⟩
    have f0 := (heap_at (unhide KR) 0).2
    have f1 := (heap_at (unhide KR) 1).2
    have f2 := (heap_at (unhide KR) 2).2
    have f3 := (heap_at (unhide KR) 3).2
    have q3 : w.heap.size ≤ w.heap.size := Nat.le_refl _
    go_wp2_with fail
    refine bodyPost_ret (v := .tuple #[vv noV, .bool false]) (by unfold vv noV; simp [results, Try.results73, go_sem, *] <;> rfl) rfl ?_
    exact .inl ⟨noV, rfl, unhide Z, (((b0.setCell (p := ⟨w.heap.size, 0, none⟩) q3 _).setCell (p := ⟨w.heap.size, 1, none⟩) q3 _).setCell (p := ⟨w.heap.size, 2, none⟩) q3 _).setCell (p := ⟨w.heap.size, 3, none⟩) q3 _⟩
  · have hql : q - 1 < L.length := by omega
    have hqi : (0 : Int) ≤ (q : Int) - 1 := by omega
    have hqi1 : (1 : Int) ≤ (q : Int) := by omega
    have hqi2 : (q : Int) - 1 < (L.length : Int) := by omega
    have hqt : ((q : Int) - 1).toNat = q - 1 := by omega
    have hwr : IntKind.i64.wrap ((q : Int) - 1) = (q : Int) - 1 := by rw [IntKind.wrap_i64]; omega
    have hq0 : ((q : Int) == 0) = false := by simpa using hq
    obtain ⟨b, off, ea, d0, d1, d2, d3⟩ := (unhide VR W b0).2 (q - 1) hql
    have ZZ := hide (show verAt ds k t = if L[q - 1].g = true then none else some L[q - 1] by rw [unhide VA, unhide LC, if_neg hq, List.getElem?_eq_getElem hql])
    subst ea
    clear LC VA
    generalize L[q - 1] = xd at *
    obtain ⟨xk, xt, xv, xg⟩ := xd
    simp only at d0 d1 d2 d3 ZZ
    have NEQ := hide hq
    clear hq
    have zs : W.heap.size = w.heap.size + 1 := by rw [← hW]; simp
    have bL : Below W.heap.size W (W.alloc (.cells #[.string xk, .int .i64 xt, .string xv, .bool xg] 52)) := (Below.refl _ _).alloc (Nat.le_refl _) _
    have KL := hide (heap_alloc_new W (.cells #[.string xk, .int .i64 xt, .string xv, .bool xg] 52))
    have KR2 := hide ((bL.block w.heap.size (by omega)).trans (unhide KR))
    have BL := hide (b0.trans (bL.mono b0.size))
    clear bL KR hW
    go_wp2_with (at_lookup; refine wpList_lookup_his _ rfl (.tmp 16) (.tmp 17) rfl m k _ rfl rfl LK ?_)
    generalize W.alloc (.cells #[.string xk, .int .i64 xt, .string xv, .bool xg] 52) = W6 at *
    generalize hlb : W.heap.size = lb at *
    have hne : w.heap.size ≠ lb := by omega
    generalize hrb : w.heap.size = rb at *
    obtain rfl : lb = rb + 1 := by omega
    clear d0 d1 d2 d3 c1 c2 LK VR b0 zs
    have SK := hide (show ∀ u : World, u.heap[rb + 1]? = some (.cells #[.string xk, .int .i64 xt, .string xv, .bool xg] 52 (0, 0)) → (fun u : World => u.cell? ⟨rb + 1, 0, none⟩ = some (.string xk) ∧ u.cell? ⟨rb + 1, 1, none⟩ = some (.int .i64 xt) ∧ u.cell? ⟨rb + 1, 2, none⟩ = some (.string xv) ∧ u.cell? ⟨rb + 1, 3, none⟩ = some (.bool xg)) u from fun u hk => ⟨(heap_at hk 0).1, (heap_at hk 1).1, (heap_at hk 2).1, (heap_at hk 3).1⟩)
    obtain ⟨y0, y1, y2, y3⟩ : W6.cell? ⟨rb, 0, none⟩ = some (.string ⟨#[]⟩) ∧ W6.cell? ⟨rb, 1, none⟩ = some (.int .i64 0) ∧ W6.cell? ⟨rb, 2, none⟩ = some (.string ⟨#[]⟩) ∧ W6.cell? ⟨rb, 3, none⟩ = some (.bool false) := ⟨(heap_at (unhide KR2) 0).1, (heap_at (unhide KR2) 1).1, (heap_at (unhide KR2) 2).1, (heap_at (unhide KR2) 3).1⟩
    have f0 := (heap_at (unhide KR2) 0).2
    have f1 := (heap_at (unhide KR2) 1).2
    have f2 := (heap_at (unhide KR2) 2).2
    have f3 := (heap_at (unhide KR2) 3).2
    have KS := hide (show ((((W6.drew.setCell ⟨rb, 0, none⟩ (.string xk)).setCell ⟨rb, 1, none⟩ (.int .i64 xt)).setCell ⟨rb, 2, none⟩ (.string xv)).setCell ⟨rb, 3, none⟩ (.bool xg)).heap[rb + 1]? = some (.cells #[.string xk, .int .i64 xt, .string xv, .bool xg] 52 (0, 0)) from
      (Below.heap_setCell _ _ _ _ hne.symm).trans ((Below.heap_setCell _ _ _ _ hne.symm).trans ((Below.heap_setCell _ _ _ _ hne.symm).trans ((Below.heap_setCell _ _ _ _ hne.symm).trans (unhide KL)))))
    refine wp_region_held_drew (S := (fun u : World => u.cell? ⟨rb + 1, 0, none⟩ = some (.string xk) ∧ u.cell? ⟨rb + 1, 1, none⟩ = some (.int .i64 xt) ∧ u.cell? ⟨rb + 1, 2, none⟩ = some (.string xv) ∧ u.cell? ⟨rb + 1, 3, none⟩ = some (.bool xg))) (by kernel_rfl) (unhide SK _ (unhide KL)) (fun hHeld => ?_)
    refine anyH_take 0 23 (v := ?v1) rfl rfl (by kernel_rfl) (by kernel_rfl) (by kernel_rfl) (fun _ _ _ h => h) (by rfl) ?h1 hHeld ?r1
    case h1 => (intro w hSw; (try dsimp only at hSw); go_simp; try (with_reducible rfl))
    simp only [Act.put, List.setIfInBounds_toArray, List.set_cons_zero, List.set_cons_succ]
    refine anyH_take 1 24 (v := ?v2) rfl rfl (by kernel_rfl) (by kernel_rfl) (by kernel_rfl) (fun _ _ _ h => h) (by rfl) ?h2 hHeld ?r2
    case h2 => (intro w hSw; (try dsimp only at hSw); go_simp; try (with_reducible rfl))
    simp only [Act.put, List.setIfInBounds_toArray, List.set_cons_zero, List.set_cons_succ]
    refine anyH_take 2 25 (v := ?v3) rfl rfl (by kernel_rfl) (by kernel_rfl) (by kernel_rfl) (fun _ _ _ h => h) (by rfl) ?h3 hHeld ?r3
    case h3 => (intro w hSw; (try dsimp only at hSw); go_simp; try (with_reducible rfl))
    simp only [Act.put, List.setIfInBounds_toArray, List.set_cons_zero, List.set_cons_succ]
    refine anyH_take 3 26 (v := ?v4) rfl rfl (by kernel_rfl) (by kernel_rfl) (by kernel_rfl) (fun _ _ _ h => h) (by rfl) ?h4 hHeld ?r4
    case h4 => (intro w hSw; (try dsimp only at hSw); go_simp; try (with_reducible rfl))
    simp only [Act.put, List.setIfInBounds_toArray, List.set_cons_zero, List.set_cons_succ]
    refine wpAnyH_ready (rs := [4]) (by kernel_rfl) (by simp) ?_
    refine AllReadyH.cons rfl (fun K hK => ?_) AllReadyH.nil
    go_simp
    refine hK.out _ _ (unhide SK _ (unhide KS)) (fun hHeld => ?_)
    clear hK K
    refine anyH_take 5 5 (v := ?v5) rfl rfl (by kernel_rfl) (by kernel_rfl) (by kernel_rfl) (fun _ _ _ h => h) (by rfl) ?h5 hHeld ?r5
    case h5 => (intro w hSw; (try dsimp only at hSw); go_simp; try (with_reducible rfl))
    simp only [Act.put, List.setIfInBounds_toArray, List.set_cons_zero, List.set_cons_succ]
    refine wpAnyH_done (by kernel_rfl) ?_ _
    subst hrb
    have q3 : w.heap.size ≤ w.heap.size := Nat.le_refl _
    have BF := hide ((((((unhide BL).drew.setCell (p := ⟨w.heap.size, 0, none⟩) q3 (.string xk)).setCell (p := ⟨w.heap.size, 1, none⟩) q3 (.int .i64 xt)).setCell (p := ⟨w.heap.size, 2, none⟩) q3 (.string xv)).setCell (p := ⟨w.heap.size, 3, none⟩) q3 (.bool xg)))
    go_wp2_with fail
    cases xg
    · refine bodyPost_ret (v := .tuple #[vv ⟨xk, xt, xv, false⟩, .bool true]) (by unfold vv; simp [results, Try.results73, go_sem, *] <;> rfl) rfl ?_
      exact .inr ⟨⟨xk, xt, xv, false⟩, rfl, by simpa using unhide ZZ, unhide BF⟩
    · refine bodyPost_ret (v := .tuple #[vv ⟨xk, xt, xv, true⟩, .bool false]) (by unfold vv; simp [results, Try.results73, go_sem, *] <;> rfl) rfl ?_
      exact .inl ⟨⟨xk, xt, xv, true⟩, rfl, by simpa using unhide ZZ, unhide BF⟩
theorem view_any (hb tb m N B : Nat) (f : ByteArray → Value) (ds : List VerD) (k : ByteArray) (t : Int) (w : World) (hH : HisAt w m N B f ds) (hok : okVs ds = true) (hl : ds.length ≤ 4096) (hk : k.size ≤ maxLen) (h1 : w.cell? ⟨hb, 0, none⟩ = some (.map (some m))) (h2 : w.cell? ⟨tb, 0, none⟩ = some (.int .i64 t)) :
    Calls Try.prog 73 #[.string k, .pointer (some ⟨hb, 0, none⟩), .pointer (some ⟨tb, 0, none⟩)] w fun e w' => VwRes ds k t w e w' := viewR_any hb tb m N f ds k t w hH.rd hok hl hk h1 h2
end Go.Proofs.Ytdnneomdokcpeaa
