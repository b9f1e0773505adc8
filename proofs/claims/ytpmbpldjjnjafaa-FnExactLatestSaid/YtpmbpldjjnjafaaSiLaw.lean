/-
  The walk of the law of ScanImages.
-/
import Derived.Test.YtpmbpldjjnjafaaScK
import Derived.Test.YtpmbpldjjnjafaaTo
namespace Go.Proofs.Ytpmbpldjjnjafaa
open Go.RowKit

theorem si_br {w : World} {B n c : Nat} {a : Option Addr} {xs : List Int} (h : Mine w B (.slice a n c) xs) (hl : xs.length = n) : BR w B a n xs := by
  obtain ⟨a', c', e, _, _, h3, h4⟩ := h
  injection e with e1 e2 e3
  subst e1
  rw [hl] at h3
  exact ⟨h3, h4⟩
theorem scanI_more {b : List Int} : ∀ (f p : Nat) (L : List ImD), Steps b L p → Steps b (L ++ (scanI b f p).1) (scanI b f p).2
  | 0, p, L, h => by simpa [scanI] using h
  | f + 1, p, L, h => by
    cases hn : nextI b p with
    | none => rw [scanI_none hn]; simpa using h
    | some x =>
      have := scanI_more f _ _ (Steps.more h hn)
      simp only [scanI, hn]
      simpa using this
theorem scanB_steps (b : List Int) : Steps b (scanB b).1 (scanB b).2 := by
  have := scanI_more (b.length + 1) 0 [] (Steps.start (b := b))
  simpa [scanB] using this
theorem sum_le (L : List ImD) : (L.map fun x => x.xs.length + 2).sum ≤ (L.map fun x => x.xs.length + 9).sum := by
  induction L with
  | nil => simp
  | cons x r ih => simp only [List.map_cons, List.sum_cons]; omega
theorem siL_sum (xs : List Int) : ((siL xs).map fun x => x.xs.length + 9).sum ≤ 65536 := by
  unfold siL
  split
  · rename_i h
    have h1 := steps_sum (scanB_steps xs)
    have h2 := (scanB_steps xs).le
    omega
  · simp
theorem si_kof {xs : List Int} {hs : List ImH} (h : hs.map (·.X) = siL xs) : kOf 1 hs ≤ 65537 := by
  rw [kOf_sum, show (hs.map fun h => h.X.xs.length + 2) = (hs.map (·.X)).map (fun x : ImD => x.xs.length + 2) by rw [List.map_map]; rfl, h]
  have h1 := siL_sum xs
  have h2 := sum_le (siL xs)
  omega
theorem mem_sum {L : List ImD} {x : ImD} (h : x ∈ L) : x.xs.length ≤ (L.map fun x => x.xs.length + 9).sum := by
  induction L with
  | nil => simp at h
  | cons y r ih =>
    simp only [List.map_cons, List.sum_cons]
    rcases List.mem_cons.1 h with rfl | h
    · omega
    · have := ih h; omega
theorem si_len {xs : List Int} {hs : List ImH} (h : hs.map (·.X) = siL xs) (i : Nat) (hi : i < hs.length) : hs[i].X.xs.length ≤ maxLen := by
  have h1 : hs[i].X ∈ siL xs := by rw [← h]; exact List.mem_map_of_mem (List.getElem_mem hi)
  have h2 := mem_sum h1
  have h3 := siL_sum xs
  unfold maxLen
  omega
theorem IOwn.wr {P : Nat → Prop} {w w' : World} {B : Nat} {v : Value} {hs : List ImH} (h : IOwn w B v hs) (hw : WrB P w w') (hp : ∀ i, ImBl v hs i → ¬ P i) : IOwn w' B v hs :=
  ⟨rr_owns_wr h.row hw (fun i hi => hp i (.inl hi)), fun i hi => (h.dat i hi).wr hw (fun x hx => by cases hx; exact hp _ (.inr ⟨_, List.getElem_mem hi, rfl⟩)), h.far, h.off⟩
theorem IOwn.lt {w : World} {B : Nat} {v : Value} {hs : List ImH} (h : IOwn w B v hs) (i : Nat) (hi : ImBl v hs i) : B ≤ i ∧ i < w.heap.size := by
  rcases hi with hi | ⟨x, hx, rfl⟩
  · exact h.row.lt i hi
  · obtain ⟨j, hj, rfl⟩ := List.getElem_of_mem hx
    exact hDat.lt (h.dat j hj)
set_option maxRecDepth 100000 in
set_option maxHeartbeats 16000000 in
theorem lawScanImages_any (a : Option Addr) (n c : Nat) (zs : List Int) (w : World) (h : IsRow .u8 w a n c zs) :
    Calls Try.prog 3 #[.slice a n c] w fun e w' => e = .returned (.bool true) ∧ Below w.heap.size w w' := by
  obtain ⟨hR, hn, _⟩ := row_of_isRow h
  have hby := bytes_of_isRow h
  obtain ⟨xs, hxs⟩ : ∃ xs, xs = zs.take n := ⟨_, rfl⟩
  rw [← hxs] at hR hby
  have BY := hide (show Bytes8 xs from fun i hi => hby i (by rw [← hR.1]; exact hi))
  have P := hide hR
  clear h hby hxs hR
  by_cases hlong : 1048576 < n
  · have hi : (1048576 : Int) < (n : Int) := by omega
    go_enter Try.func3, Try.ntmps3
    go_wp2_with fail
    go_ret
    exact ⟨rfl, Below.refl _ _⟩
  have hi : ¬ ((1048576 : Int) < (n : Int)) := by omega
  have hn2 : n ≤ 1048576 := by omega
  have B := Below.refl w.heap.size w
  have LX := hide (unhide P).1
  obtain ⟨Q, hQ⟩ : ∃ q, q = siL xs := ⟨_, rfl⟩
  obtain ⟨C, hC⟩ : ∃ x, x = siC xs := ⟨_, rfl⟩
  obtain ⟨E, hE⟩ : ∃ x : Int, x = (siE xs : Int) := ⟨_, rfl⟩
  obtain ⟨nR, hN⟩ : ∃ x, x = Q.length := ⟨_, rfl⟩
  have CON := hide (show ∀ W e W', SiRes xs W e W' → ∃ a c hs, e = .returned (.tuple #[.slice a nR c, .int .i64 E, .int .i64 C]) ∧ IOwn W' W.heap.size (.slice a nR c) hs ∧ hs.map (·.X) = Q ∧ Below W.heap.size W W' from fun W e W' h => by
    obtain ⟨v, hs, e, o, m, b⟩ := h
    rw [← hQ] at m
    obtain ⟨a, c, rfl⟩ := im_slice o
    have hl : hs.length = nR := by rw [hN, ← m, List.length_map]
    rw [hl] at o e
    exact ⟨a, c, hs, by rw [e, hC, hE], o, m, b⟩)
  have KO := hide (show ∀ hs : List ImH, hs.map (·.X) = Q → kOf 1 hs ≤ 65537 from fun hs h => si_kof (h.trans hQ))
  have KL := hide (show ∀ hs : List ImH, hs.map (·.X) = Q → ∀ i (hi : i < hs.length), hs[i].X.xs.length ≤ maxLen from fun hs h => si_len (h.trans hQ))
  have hnR : nR ≤ 65536 := by
    have h1 := siL_sum xs
    have h2 : ∀ l : List ImD, l.length ≤ (l.map fun x => x.xs.length + 9).sum := fun l => by
      induction l with
      | nil => simp
      | cons y r ih => simp only [List.map_cons, List.sum_cons, List.length_cons]; omega
    have := h2 (siL xs)
    rw [hN, hQ]
    omega
  have hCC : (C != C) = false := by simp
  have hEE : (E != E) = false := by simp
  clear hQ hC hE hN hn
  go_enter Try.func3, Try.ntmps3
  go_wp2_with fail
  refine (toByteS_at a n c xs w hn2 (im_grow (unhide P) B)).mono ?_
  rintro e w_t ⟨rfl, hM, hb⟩
  obtain ⟨a_t, ha_t⟩ : ∃ x, x = some (⟨w.heap.size, 0, none⟩ : Addr) := ⟨_, rfl⟩
  rw [← ha_t] at hM ⊢
  have NA_t : a_t = none → n = 0 := fun e => by rw [e] at ha_t; cases ha_t
  replace B := B.trans (hb.mono B.size)
  have zz_w_t := hb.size
  clear hb
  have R_t := hide (show BR w_t w.heap.size a_t n xs from si_br hM (unhide LX))
  have J_t := (unhide R_t).own'
  clear hM ha_t
  go_wp2_with fail
  refine (specScanImages_any a_t n n xs w_t (unhide R_t).row (unhide BY) hn2 (Nat.le_refl _) (by unfold maxLen; omega)).mono ?_
  intro e w_w hcon
  obtain ⟨a_w, c_w, hs_w, rfl, oo, mm_w, hb⟩ := unhide CON _ _ _ hcon
  have MM_w := hide mm_w
  clear hcon mm_w
  replace R_t := hide ((unhide R_t).below hb)
  replace B := B.trans (hb.mono B.size)
  have zz_w_w := hb.size
  clear hb
  have O_w := hide oo
  have M_w := fun i h => (unhide O_w).lt i h
  clear oo
  clear R_t J_t
  go_wp2_with fail
  refine (toByteS_at a n c xs w_w hn2 (im_grow (unhide P) B)).mono ?_
  rintro e w_x ⟨rfl, hM, hb⟩
  obtain ⟨a_x, ha_x⟩ : ∃ x, x = some (⟨w_w.heap.size, 0, none⟩ : Addr) := ⟨_, rfl⟩
  rw [← ha_x] at hM ⊢
  have NA_x : a_x = none → n = 0 := fun e => by rw [e] at ha_x; cases ha_x
  replace O_w := hide ((unhide O_w).below hb)
  replace B := B.trans (hb.mono B.size)
  have zz_w_x := hb.size
  clear hb
  have R_x := hide (show BR w_x w_w.heap.size a_x n xs from si_br hM (unhide LX))
  have J_x := (unhide R_x).own'
  clear hM ha_x
  go_wp2_with fail
  refine (implScanImages_any a_x n n xs w_x (unhide R_x).row (unhide BY) hn2 (Nat.le_refl _) (by unfold maxLen; omega) NA_x).mono ?_
  intro e w_g hcon
  obtain ⟨a_g, c_g, hs_g, rfl, oo, mm_g, hb⟩ := unhide CON _ _ _ hcon
  have MM_g := hide mm_g
  clear hcon mm_g
  replace O_w := hide ((unhide O_w).below hb)
  replace R_x := hide ((unhide R_x).below hb)
  replace B := B.trans (hb.mono B.size)
  have zz_w_g := hb.size
  clear hb
  have O_g := hide oo
  have M_g := fun i h => (unhide O_g).lt i h
  clear oo
  go_wp2_with fail
  refine (eqImageS_any a_g a_w nR c_g c_w _ _ hs_g hs_w w_g (by omega) (unhide O_g) (unhide O_w) ((unhide MM_g).trans (unhide MM_w).symm) (unhide KL _ (unhide MM_g))).mono ?_
  rintro e e0 ⟨rfl, hb⟩
  replace O_w := hide ((unhide O_w).below hb)
  replace R_x := hide ((unhide R_x).below hb)
  replace O_g := hide ((unhide O_g).below hb)
  replace B := B.trans (hb.mono B.size)
  have zz_e0 := hb.size
  clear hb
  go_wp2_with fail
  refine (toByteS_at a n c xs e0 hn2 (im_grow (unhide P) B)).mono ?_
  rintro e w_s ⟨rfl, hM, hb⟩
  obtain ⟨a_s, ha_s⟩ : ∃ x, x = some (⟨e0.heap.size, 0, none⟩ : Addr) := ⟨_, rfl⟩
  rw [← ha_s] at hM ⊢
  have NA_s : a_s = none → n = 0 := fun e => by rw [e] at ha_s; cases ha_s
  replace O_w := hide ((unhide O_w).below hb)
  replace R_x := hide ((unhide R_x).below hb)
  replace O_g := hide ((unhide O_g).below hb)
  replace B := B.trans (hb.mono B.size)
  have zz_w_s := hb.size
  clear hb
  have R_s := hide (show BR w_s e0.heap.size a_s n xs from si_br hM (unhide LX))
  have J_s := (unhide R_s).own'
  clear hM ha_s
  go_wp2_with fail
  refine (rr_eqBytes a_x a_s n n n xs w_s (by unfold maxLen; omega) (unhide R_x).row (unhide R_s).row).mono ?_
  rintro e e1 ⟨rfl, hb⟩
  replace O_w := hide ((unhide O_w).below hb)
  replace R_x := hide ((unhide R_x).below hb)
  replace O_g := hide ((unhide O_g).below hb)
  replace R_s := hide ((unhide R_s).below hb)
  replace B := B.trans (hb.mono B.size)
  have zz_e1 := hb.size
  clear hb
  clear R_s J_s
  go_wp2_with fail
  refine (markByteS_any a_x n n xs 1 e1 (by omega) (by omega) (by omega) (unhide R_x).row (fun x hx => ((unhide R_x).own x hx).2.2)).mono ?_
  rintro e wn ⟨rfl, rr, ht⟩
  have hw := WrB.of_touch ht
  clear rr ht
  replace O_w := hide ((unhide O_w).wr hw (fun i hi ⟨y, hy, e⟩ => by have h1 := M_w i hi; have h2 := J_x y hy; omega))
  replace O_g := hide ((unhide O_g).wr hw (fun i hi ⟨y, hy, e⟩ => by have h1 := M_g i hi; have h2 := J_x y hy; omega))
  replace B := B.trans (hw.below (fun i ⟨y, hy, e⟩ => by have := J_x y hy; omega) B.size)
  have zz_wn := hw.size
  clear hw
  clear R_x J_x
  have hk0 : ¬ ((1 + (n : Int)) < 0) := by omega
  generalize (1 + (n : Int)) = km at *
  go_wp2_with fail
  refine (eqImageS_any a_g a_w nR c_g c_w _ _ hs_g hs_w wn (by omega) (unhide O_g) (unhide O_w) ((unhide MM_g).trans (unhide MM_w).symm) (unhide KL _ (unhide MM_g))).mono ?_
  rintro e e2 ⟨rfl, hb⟩
  replace O_w := hide ((unhide O_w).below hb)
  replace O_g := hide ((unhide O_g).below hb)
  replace B := B.trans (hb.mono B.size)
  have zz_e2 := hb.size
  clear hb
  have hkg := unhide KO hs_g (unhide MM_g)
  go_wp2_with fail
  refine (markImageS_any _ a_g nR c_g 1 hs_g e2 (by omega) (unhide O_g)).mono ?_
  rintro e wm ⟨rfl, oo, hw⟩
  replace O_w := hide ((unhide O_w).wr hw (fun i hi hp => by have h1 := M_w i hi; have h2 := M_g i hp; omega))
  replace B := B.trans (hw.below (fun i hp => by have := M_g i hp; omega) B.size)
  have zz_wm := hw.size
  replace O_g := hide oo
  clear oo hw M_g
  generalize hkq : kOf 1 hs_g = kq at *
  have HKQ := hide hkq
  clear hkq
  have hm0 : ¬ ((kq : Int) < 0) := by omega
  have hmm : ((kq : Int) != (kq : Int)) = false := by simp
  go_wp2_with fail
  refine (heldImageS_any _ a_g nR c_g 1 hs_g wm (by rw [unhide HKQ]; omega) (unhide O_g)).mono ?_
  rintro e wz ⟨rfl, hw⟩
  subst wz
  rw [unhide HKQ]
  go_wp2_with fail
  refine (toByteS_at a n c xs wm hn2 (im_grow (unhide P) B)).mono ?_
  rintro e w_y ⟨rfl, hM, hb⟩
  obtain ⟨a_y, ha_y⟩ : ∃ x, x = some (⟨wm.heap.size, 0, none⟩ : Addr) := ⟨_, rfl⟩
  rw [← ha_y] at hM ⊢
  have NA_y : a_y = none → n = 0 := fun e => by rw [e] at ha_y; cases ha_y
  replace O_w := hide ((unhide O_w).below hb)
  replace O_g := hide ((unhide O_g).below hb)
  replace B := B.trans (hb.mono B.size)
  have zz_w_y := hb.size
  clear hb
  have R_y := hide (show BR w_y wm.heap.size a_y n xs from si_br hM (unhide LX))
  have J_y := (unhide R_y).own'
  clear hM ha_y
  go_wp2_with fail
  refine (implScanImages_any a_y n n xs w_y (unhide R_y).row (unhide BY) hn2 (Nat.le_refl _) (by unfold maxLen; omega) NA_y).mono ?_
  intro e w_h hcon
  obtain ⟨a_h, c_h, hs_h, rfl, oo, mm_h, hb⟩ := unhide CON _ _ _ hcon
  have MM_h := hide mm_h
  clear hcon mm_h
  replace O_w := hide ((unhide O_w).below hb)
  replace O_g := hide ((unhide O_g).below hb)
  replace R_y := hide ((unhide R_y).below hb)
  replace B := B.trans (hb.mono B.size)
  have zz_w_h := hb.size
  clear hb
  have O_h := hide oo
  have M_h := fun i h => (unhide O_h).lt i h
  clear oo
  clear R_y J_y
  go_wp2_with fail
  refine (eqImageS_any a_h a_w nR c_h c_w _ _ hs_h hs_w w_h (by omega) (unhide O_h) (unhide O_w) ((unhide MM_h).trans (unhide MM_w).symm) (unhide KL _ (unhide MM_h))).mono ?_
  rintro e e3 ⟨rfl, hb⟩
  replace O_w := hide ((unhide O_w).below hb)
  replace O_g := hide ((unhide O_g).below hb)
  replace O_h := hide ((unhide O_h).below hb)
  replace B := B.trans (hb.mono B.size)
  have zz_e3 := hb.size
  clear hb
  go_wp2_with fail
  refine (heldImageS_any _ a_g nR c_g 1 hs_g e3 (by rw [unhide HKQ]; omega) (unhide O_g)).mono ?_
  rintro e wz ⟨rfl, hw⟩
  subst wz
  rw [unhide HKQ]
  go_wp2_with fail
  go_ret
  exact ⟨rfl, B⟩
end Go.Proofs.Ytpmbpldjjnjafaa
