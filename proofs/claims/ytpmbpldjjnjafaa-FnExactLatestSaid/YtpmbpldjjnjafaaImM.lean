/-
  markImageS, heldImageS over images that the call owns.
-/
import Derived.Test.YtpmbpldjjnjafaaImC
namespace Go.Proofs.Ytpmbpldjjnjafaa
open Go.RowKit

/-- The next mark behind images. -/
def kOf (k : Nat) : List ImH → Nat
  | [] => k
  | h :: r => kOf (k + 2 + h.X.xs.length) r
def mkH (k : Nat) (h : ImH) : ImH := ⟨⟨(k : Int), decide ((k + 1) % 3 = 0), marks ((k + 2 : Nat) : Int) h.X.xs.length⟩, h.g, h.c⟩
/-- Images, marked. -/
def markI (k : Nat) : List ImH → List ImH
  | [] => []
  | h :: r => mkH k h :: markI (k + 2 + h.X.xs.length) r
theorem kOf_snoc : ∀ (k : Nat) (hs : List ImH) (h : ImH), kOf k (hs ++ [h]) = kOf k hs + 2 + h.X.xs.length
  | k, [], h => rfl
  | k, x :: r, h => by simp only [List.cons_append, kOf]; exact kOf_snoc _ r h
theorem markI_snoc : ∀ (k : Nat) (hs : List ImH) (h : ImH), markI k (hs ++ [h]) = markI k hs ++ [mkH (kOf k hs) h]
  | k, [], h => rfl
  | k, x :: r, h => by simp only [List.cons_append, markI, kOf]; rw [markI_snoc _ r h]
theorem markI_len : ∀ (k : Nat) (hs : List ImH), (markI k hs).length = hs.length
  | k, [] => rfl
  | k, x :: r => by simp only [markI, List.length_cons]; rw [markI_len _ r]
theorem kOf_mono : ∀ (k : Nat) (hs : List ImH), k ≤ kOf k hs
  | k, [] => Nat.le_refl _
  | k, x :: r => Nat.le_trans (by omega) (kOf_mono _ r)
theorem kOf_take (k : Nat) (hs : List ImH) (j : Nat) : kOf k (hs.take j) ≤ kOf k hs := by
  induction hs generalizing k j with
  | nil => simp [kOf]
  | cons x r ih =>
    cases j with
    | zero => exact kOf_mono _ _
    | succ j => exact ih _ j
theorem kOf_sum : ∀ (k : Nat) (hs : List ImH), kOf k hs = k + (hs.map fun h => h.X.xs.length + 2).sum
  | k, [] => rfl
  | k, x :: r => by simp only [kOf, List.map_cons, List.sum_cons]; rw [kOf_sum _ r]; omega
theorem kOf_len : ∀ (k : Nat) (hs : List ImH), hs.length ≤ kOf k hs
  | k, [] => Nat.zero_le _
  | k, x :: r => by
    have h1 := kOf_len (k + 2 + x.X.xs.length) r
    have h2 : r.length + 1 ≤ kOf (k + 2 + x.X.xs.length) r := by
      have := kOf_sum (k + 2 + x.X.xs.length) r
      have h3 : ∀ l : List ImH, l.length ≤ (l.map fun h => h.X.xs.length + 2).sum := fun l => by
        induction l with
        | nil => simp
        | cons y r ih => simp only [List.map_cons, List.sum_cons, List.length_cons]; omega
      have := h3 r
      omega
    simpa [kOf] using h2
/-- The first j marked, the others as they were. -/
def halfI (k : Nat) (hs : List ImH) (j : Nat) : List ImH := markI k (hs.take j) ++ hs.drop j
theorem halfI_len (k : Nat) (hs : List ImH) (j : Nat) (hj : j ≤ hs.length) : (halfI k hs j).length = hs.length := by
  unfold halfI
  rw [List.length_append, markI_len, List.length_take, List.length_drop]
  omega
theorem halfI_at {k : Nat} {hs : List ImH} {j : Nat} (hj : j < hs.length) : ∃ h : j < (halfI k hs j).length, (halfI k hs j)[j] = hs[j] := by
  refine ⟨by rw [halfI_len _ _ _ (by omega)]; exact hj, ?_⟩
  unfold halfI
  rw [List.getElem_append_right (by rw [markI_len, List.length_take]; omega)]
  simp only [markI_len, List.length_take, List.getElem_drop]
  congr 1
  omega
theorem halfI_step {k : Nat} {hs : List ImH} {j : Nat} (hj : j < hs.length) : halfI k hs (j + 1) = (halfI k hs j).set j (mkH (kOf k (hs.take j)) hs[j]) := by
  unfold halfI
  rw [rb_take_snoc hs j hj, markI_snoc, List.set_append_right _ _ (by rw [markI_len, List.length_take]; omega), markI_len, List.length_take, show j - min j hs.length = 0 by omega, List.drop_eq_getElem_cons hj, List.set_cons_zero, List.append_assoc, List.singleton_append]
/-- Header cells of an image set anew. -/
theorem gcs_set2 (ds : List ImR) (i : Nat) (hi : i < ds.length) (id : Int) (g : Bool) : ((gcs ds).set (i * 3) (.int .i64 id)).set (i * 3 + 1) (.bool g) = gcs (ds.set i ⟨id, g, ds[i].d⟩) := by
  rw [gcs_set]
  simp only
  symm
  apply List.ext_getElem?
  intro m
  by_cases e : m = i * 3 + 2
  · subst e
    rw [List.getElem?_set_self (by simp [gcs_len]; omega), List.getElem?_set_ne (by omega), List.getElem?_set_ne (by omega)]
    exact (gcs_at ds i hi).2.2.symm
  · rw [List.getElem?_set_ne (by omega)]
/-- One image marked: its header, its bytes. -/
theorem IOwn.mark {w w1 w2 : World} {B g n c : Nat} {hs : List ImH} (h : IOwn w B (.slice (some ⟨g, 0, none⟩) n c) hs) {j k : Nat} (hj : j < hs.length) (he : w1 = (w.setCell ⟨g, j * 3, none⟩ (.int .i64 (k : Int))).setCell ⟨g, j * 3 + 1, none⟩ (.bool (decide ((k + 1) % 3 = 0))))
    (hm : Row w2 (some ⟨hs[j].g, 0, none⟩) hs[j].X.xs.length (marks ((k + 2 : Nat) : Int) hs[j].X.xs.length)) (ht : Touch (some ⟨hs[j].g, 0, none⟩) w1 w2) :
    IOwn w2 B (.slice (some ⟨g, 0, none⟩) n c) (hs.set j (mkH k hs[j])) ∧ WrB (fun i => i = g ∨ i = hs[j].g) w w2 := by
  have hn : n = (hs.map hr).length := (grow_of_owns h.row).1.symm
  have hgl : g < w.heap.size := (h.row.lt g rfl).2
  have hne : ∀ i (hi : i < hs.length), hs[i].g ≠ g := fun i hi e => h.off i hi (by rw [e]; rfl)
  have only1 : Only g w w1 := by rw [he]; exact (Only.setCell _ _ _ _).trans (Only.setCell _ _ _ _)
  have sz2 : w2.heap.size = w.heap.size := by rw [ht.size, only1.size]
  have keep2 : ∀ i, i ≠ hs[j].g → w2.heap[i]? = w1.heap[i]? := fun i hi => by
    rcases ht with rfl | ⟨x, hx, ho⟩
    · rfl
    · cases hx
      exact ho.block i hi
  have r1 : GOwns w1 B (.slice (some ⟨g, 0, none⟩) n c) ((hs.map hr).set j ⟨(k : Int), decide ((k + 1) % 3 = 0), (hr hs[j]).d⟩) := by
    have hr0 : w.ownsRow B 48 3 (.slice (some ⟨g, 0, none⟩) n c) n (gcs (hs.map hr)) := by have := h.row; unfold GOwns at this; rwa [← hn] at this
    obtain ⟨o1, _⟩ := World.ownsRow.stored hr0 (j * 3) (.int .i64 (k : Int))
    obtain ⟨o2, _⟩ := World.ownsRow.stored o1 (j * 3 + 1) (.bool (decide ((k + 1) % 3 = 0)))
    rw [gcs_set2 _ j (by simpa using hj), ← he] at o2
    unfold GOwns
    rw [List.length_set, ← hn]
    simpa using o2
  refine ⟨⟨?_, fun i hi => ?_, fun i i' hi hi' hii => ?_, fun i hi => ?_⟩, ⟨?_, ?_, ?_, Nat.le_of_eq sz2.symm, fun i hi hp => ?_⟩⟩
  · have e : (hs.set j (mkH k hs[j])).map hr = (hs.map hr).set j ⟨(k : Int), decide ((k + 1) % 3 = 0), (hr hs[j]).d⟩ := by
      rw [List.map_set]
      congr 1
      unfold hr mkH
      simp only [marks_length]
    rw [e]
    exact ownsRow_heap r1 (fun i hi => by
      have : i = g := by simpa [Value.ownBlock] using hi.symm
      subst this
      exact keep2 _ (fun e => hne j hj e.symm))
  · have hi' : i < hs.length := by simpa using hi
    by_cases e : i = j
    · subst e
      rw [List.getElem_set_self]
      unfold hDat mkH
      simp only [marks_length]
      refine ⟨hm, fun x hx => ?_⟩
      cases hx
      obtain ⟨p1, p2, p3⟩ := (h.dat i hi').own _ rfl
      refine ⟨p1, by rw [sz2]; exact p2, fun q => ?_⟩
      rcases ht with rfl | ⟨y, _, ho⟩
      · exact (only1.frozen _).trans (p3 q)
      · exact (ho.frozen _).trans ((only1.frozen _).trans (p3 q))
    · rw [List.getElem_set_ne (fun e' => e e'.symm)]
      exact (h.dat i hi').of_blocks (Nat.le_of_eq sz2.symm) (fun x hx => by
        cases hx
        exact (keep2 _ (h.far i j hi' hj e)).trans (only1.block _ (hne i hi')))
  · have gg : ∀ q (hq : q < (hs.set j (mkH k hs[j])).length), (hs.set j (mkH k hs[j]))[q].g = (hs[q]'(by simpa using hq)).g := fun q hq => by
      by_cases e : q = j
      · subst e; rw [List.getElem_set_self]; rfl
      · rw [List.getElem_set_ne (fun e' => e e'.symm)]
    rw [gg, gg]
    exact h.far i i' (by simpa using hi) (by simpa using hi') hii
  · have gg : (hs.set j (mkH k hs[j]))[i].g = (hs[i]'(by simpa using hi)).g := by
      by_cases e : i = j
      · subst e; rw [List.getElem_set_self]; rfl
      · rw [List.getElem_set_ne (fun e' => e e'.symm)]
    rw [gg]
    exact h.off i (by simpa using hi)
  · rcases ht with rfl | ⟨y, _, ho⟩
    · exact only1.os
    · exact ho.os.trans only1.os
  · rcases ht with rfl | ⟨y, _, ho⟩
    · exact only1.tape
    · exact ho.tape.trans only1.tape
  · rcases ht with rfl | ⟨y, _, ho⟩
    · exact only1.output
    · exact ho.output.trans only1.output
  · exact (keep2 i (fun e => hp (.inr e))).trans (only1.block i (fun e => hp (.inl e)))
/-- The blocks of images. -/
def ImBl (v : Value) (hs : List ImH) (i : Nat) : Prop := v.ownBlock = some i ∨ ∃ h ∈ hs, i = h.g
theorem WrB.trans2 {P : Nat → Prop} {w1 w2 w3 : World} (h : WrB P w1 w2) (k : WrB P w2 w3) : WrB P w1 w3 :=
  ⟨k.os.trans h.os, k.tape.trans h.tape, k.output.trans h.output, Nat.le_trans h.size k.size, fun i hi hp => (k.block i (Nat.lt_of_lt_of_le hi h.size) hp).trans (h.block i hi hp)⟩
theorem WrB.mono2 {P Q : Nat → Prop} {w w' : World} (h : WrB P w w') (hpq : ∀ i, P i → Q i) : WrB Q w w' := ⟨h.os, h.tape, h.output, h.size, fun k hk hq => h.block k hk (fun hp => hq (hpq k hp))⟩
theorem WrB.refl2 (P : Nat → Prop) (w : World) : WrB P w w := ⟨rfl, rfl, rfl, Nat.le_refl _, fun _ _ _ => rfl⟩
set_option maxRecDepth 100000 in
set_option maxHeartbeats 4000000 in
theorem markImageS_some (B g n c k0 : Nat) (hs : List ImH) (w : World) (hk0 : kOf k0 hs ≤ 100000000) (h1 : IOwn w B (.slice (some ⟨g, 0, none⟩) n c) hs) :
    Calls Try.prog 11 #[.slice (some ⟨g, 0, none⟩) n c, .int .i64 (k0 : Int)] w fun e w' => e = .returned (.int .i64 ((kOf k0 hs : Nat) : Int)) ∧ IOwn w' B (.slice (some ⟨g, 0, none⟩) n c) (markI k0 hs) ∧ WrB (ImBl (.slice (some ⟨g, 0, none⟩) n c) hs) w w' := by
  have L := hide (show hs.length = n by have := (im_row h1).1; simpa using this)
  have H := hide h1
  have KT := hide (fun j => Nat.le_trans (kOf_take k0 hs j) hk0)
  have hnb : n ≤ 100000000 := by rw [← unhide L]; exact Nat.le_trans (kOf_len k0 hs) hk0
  clear h1
  go_enter Try.func11, Try.ntmps11
  go_wp2_with fail
  go_loopw [1, 5] (fun q i wr => ∃ j : Nat, j ≤ n ∧ i = .int .i64 j ∧ q = .int .i64 ((kOf k0 (hs.take j) : Nat) : Int) ∧ Hid (IOwn wr B (.slice (some ⟨g, 0, none⟩) n c) (halfI k0 hs j)) ∧ Hid (WrB (ImBl (.slice (some ⟨g, 0, none⟩) n c) hs) w wr)) (fun _ i _ => n - (intOf i).toNat)
  case atStart => exact ⟨0, Nat.zero_le _, rfl, by simp [kOf], unhide H, WrB.refl2 _ _⟩
  case round =>
    clear H
    obtain ⟨j, hj, rfl, rfl, hI, hw⟩ := hrel
    by_cases hlt : j < n
    · have hjl : j < hs.length := by rw [unhide L]; exact hlt
      obtain ⟨hjh, hat⟩ := halfI_at (k := k0) hjl
      have hkk : kOf k0 (hs.take (j + 1)) = kOf k0 (hs.take j) + 2 + hs[j].X.xs.length := by rw [rb_take_snoc hs j hjl, kOf_snoc]
      have hkb := unhide KT (j + 1)
      have ST := hide (halfI_step (k := k0) hjl)
      have hmem := List.getElem_mem hjl
      have d0 := gowns_at (unhide hI).row j (by simpa using hjh)
      have f0 := gowns_fz (unhide hI).row (j * 3)
      have f1 := gowns_fz (unhide hI).row (j * 3 + 1)
      simp only [List.getElem_map, hat] at d0
      obtain ⟨c0, c1, c2⟩ := d0
      have DAT := hide (by have := (unhide hI).dat j hjh; rw [hat] at this; exact this : hDat wr B hs[j])
      have NEG : hs[j].g ≠ g := fun e => (unhide hI).off j hjh (by rw [hat, e]; rfl)
      have MK := hide (fun (w1 w2 : World) (he : w1 = (wr.setCell ⟨g, j * 3, none⟩ (.int .i64 (kOf k0 (hs.take j) : Int))).setCell ⟨g, j * 3 + 1, none⟩ (.bool (decide ((kOf k0 (hs.take j) + 1) % 3 = 0)))) (hm : Row w2 (some ⟨hs[j].g, 0, none⟩) hs[j].X.xs.length (marks ((kOf k0 (hs.take j) + 2 : Nat) : Int) hs[j].X.xs.length)) (ht : Touch (some ⟨hs[j].g, 0, none⟩) w1 w2) =>
        show IOwn w2 B (.slice (some ⟨g, 0, none⟩) n c) (halfI k0 hs (j + 1)) ∧ WrB (ImBl (.slice (some ⟨g, 0, none⟩) n c) hs) w w2 from by
          have hm' : Row w2 (some ⟨(halfI k0 hs j)[j].g, 0, none⟩) (halfI k0 hs j)[j].X.xs.length (marks ((kOf k0 (hs.take j) + 2 : Nat) : Int) (halfI k0 hs j)[j].X.xs.length) := by rw [hat]; exact hm
          have ht' : Touch (some ⟨(halfI k0 hs j)[j].g, 0, none⟩) w1 w2 := by rw [hat]; exact ht
          obtain ⟨a1, a2⟩ := (unhide hI).mark hjh he hm' ht'
          rw [unhide ST]
          rw [hat] at a1 a2
          exact ⟨a1, (unhide hw).trans2 (a2.mono2 fun i hi => by
            rcases hi with rfl | rfl
            · exact .inl rfl
            · exact .inr ⟨_, hmem, rfl⟩)⟩)
      rw [hkk] at hkb
      have HKK := hide hkk
      clear hI hw ST hat hjh hmem hkk
      unfold hr at c0 c1 c2
      simp only at c0 c1 c2
      generalize hkq : kOf k0 (hs.take j) = kq at *
      have MB := hide (fun (w1 : World) (he : w1 = (wr.setCell ⟨g, j * 3, none⟩ (.int .i64 (kq : Int))).setCell ⟨g, j * 3 + 1, none⟩ (.bool (decide ((kq + 1) % 3 = 0)))) => markByteS_any (some ⟨hs[j].g, 0, none⟩) hs[j].X.xs.length hs[j].c hs[j].X.xs ((kq : Int) + 1 + 1) w1 (by omega) (by omega) (by omega)
        ((unhide DAT).of_blocks (by rw [he]; simp) (fun x hx => by cases hx; rw [he, Below.heap_setCell _ _ _ _ NEG, Below.heap_setCell _ _ _ _ NEG])).row
        (fun x hx => (((unhide DAT).of_blocks (by rw [he]; simp) (fun x hx => by cases hx; rw [he, Below.heap_setCell _ _ _ _ NEG, Below.heap_setCell _ _ _ _ NEG])).own x hx).2.2))
      have hk3 : (((kq : Int) + 1) % 3 == 0) = decide ((kq + 1) % 3 = 0) := by
        by_cases e : (kq + 1) % 3 = 0
        · rw [decide_eq_true e]; simp; omega
        · rw [decide_eq_false e]; simp; omega
      generalize hs[j].X.xs.length = ln at *
      generalize hs[j].g = dg at *
      generalize hs[j].c = dc at *
      go_wp2_with fail
      try rw [hk3]
      refine (unhide MB _ rfl).mono ?_
      rintro e w2 ⟨rfl, hm, ht⟩
      have hm' : Row w2 (some ⟨dg, 0, none⟩) ln (marks ((kq + 2 : Nat) : Int) ln) := by
        rw [show ((kq + 2 : Nat) : Int) = (kq : Int) + 1 + 1 by omega]
        exact hm
      have R := hide (unhide MK _ w2 rfl hm' ht)
      clear MB MK hm ht hm' DAT c0 c1 c2 f0 f1
      go_wp2_with fail
      go_roundw
      case rel => exact ⟨j + 1, by omega, by go_num, by rw [unhide HKK]; go_num, (unhide R).1, (unhide R).2⟩
      case measure => simp [intOf]; omega
    · obtain rfl : j = n := by omega
      have Z := hide (show IOwn wr B (.slice (some ⟨g, 0, none⟩) j c) (markI k0 hs) by
        have := unhide hI
        unfold halfI at this
        rwa [List.take_of_length_le (by rw [unhide L]; exact Nat.le_refl _), List.drop_of_length_le (by rw [unhide L]; exact Nat.le_refl _), List.append_nil] at this)
      have ZK := hide (show kOf k0 (hs.take j) = kOf k0 hs by rw [List.take_of_length_le (by rw [unhide L]; exact Nat.le_refl _)])
      go_wp2_with fail
      go_ret
      exact ⟨ret_int (by rw [unhide ZK]), unhide Z, unhide hw⟩
theorem markImageS_none (a : Option Addr) (c : Nat) (k0 : Int) (w : World) :
    Calls Try.prog 11 #[.slice a 0 c, .int .i64 k0] w fun e w' => e = .returned (.int .i64 k0) ∧ w' = w := by
  go_enter Try.func11, Try.ntmps11
  go_wp2_with fail
  refine wp_loop_rounds 1 ?_
  rw [rounds_succ]
  go_wp2_with fail
  go_ret
  exact ⟨rfl, rfl⟩
theorem markImageS_any (B : Nat) (a : Option Addr) (n c k0 : Nat) (hs : List ImH) (w : World) (hk0 : kOf k0 hs ≤ 100000000) (h1 : IOwn w B (.slice a n c) hs) :
    Calls Try.prog 11 #[.slice a n c, .int .i64 (k0 : Int)] w fun e w' => e = .returned (.int .i64 ((kOf k0 hs : Nat) : Int)) ∧ IOwn w' B (.slice a n c) (markI k0 hs) ∧ WrB (ImBl (.slice a n c) hs) w w' := by
  rcases h1.row.2 with ⟨e, hl⟩ | ⟨g, cap, cur, e, _⟩
  · injection e with e1 e2 e3
    subst e1 e2 e3
    obtain rfl : hs = [] := by simpa using hl
    refine (markImageS_none none 0 k0 w).mono ?_
    rintro e w' ⟨rfl, rfl⟩
    exact ⟨rfl, h1, WrB.refl2 _ _⟩
  · injection e with e1 e2 e3
    subst e1
    exact markImageS_some B g n c k0 hs w hk0 h1
theorem markI_dat : ∀ (k : Nat) (hs : List ImH) (j : Nat) (hj : j < hs.length), ∃ h : j < (markI k hs).length, (markI k hs)[j] = mkH (kOf k (hs.take j)) hs[j]
  | k, [], j, hj => by simp at hj
  | k, x :: r, 0, _ => ⟨by simp [markI], rfl⟩
  | k, x :: r, j + 1, hj => by
    obtain ⟨h, e⟩ := markI_dat (k + 2 + x.X.xs.length) r j (by simpa using hj)
    exact ⟨by simp only [markI, List.length_cons]; omega, by simp only [markI, List.getElem_cons_succ, List.take_succ_cons, kOf]; exact e⟩
set_option maxRecDepth 100000 in
set_option maxHeartbeats 4000000 in
theorem heldImageS_any (B : Nat) (a : Option Addr) (n c k0 : Nat) (hs : List ImH) (w : World) (hk0 : kOf k0 hs ≤ 100000000) (h1 : IOwn w B (.slice a n c) (markI k0 hs)) :
    Calls Try.prog 12 #[.slice a n c, .int .i64 (k0 : Int)] w fun e w' => e = .returned (.int .i64 ((kOf k0 hs : Nat) : Int)) ∧ w' = w := by
  have L := hide (show hs.length = n by have := (im_row h1).1; simpa [markI_len] using this)
  have R := hide (im_row h1)
  have D := hide h1.dat
  have KT := hide (fun j => Nat.le_trans (kOf_take k0 hs j) hk0)
  have hnb : n ≤ 100000000 := by rw [← unhide L]; exact Nat.le_trans (kOf_len k0 hs) hk0
  clear h1
  go_enter Try.func12, Try.ntmps12
  go_wp2_with fail
  go_loopw [1, 5] (fun q i wr => ∃ j : Nat, j ≤ n ∧ i = .int .i64 j ∧ q = .int .i64 ((kOf k0 (hs.take j) : Nat) : Int) ∧ Hid (wr = w)) (fun _ i _ => n - (intOf i).toNat)
  case atStart => exact ⟨0, Nat.zero_le _, rfl, by simp [kOf], hide rfl⟩
  case round =>
    obtain ⟨j, hj, rfl, rfl, hww⟩ := hrel
    have hww := unhide hww
    subst wr
    by_cases hlt : j < n
    · have hjl : j < hs.length := by rw [unhide L]; exact hlt
      obtain ⟨hjh, hat⟩ := markI_dat k0 hs j hjl
      have hkk : kOf k0 (hs.take (j + 1)) = kOf k0 (hs.take j) + 2 + hs[j].X.xs.length := by rw [rb_take_snoc hs j hjl, kOf_snoc]
      have hkb := unhide KT (j + 1)
      rw [hkk] at hkb
      have HKK := hide hkk
      obtain ⟨b, off, rfl, c0, c1, c2⟩ := (unhide R).2 j (by simpa using hjh)
      have dd := (unhide D j hjh).row
      simp only [List.getElem_map, hat] at c0 c1 c2 dd
      unfold hr mkH at c0 c1 c2
      unfold mkH at dd
      simp only [marks_length] at c0 c1 c2 dd
      generalize hkq : kOf k0 (hs.take j) = kq at *
      have hk3 : (((kq : Int) + 1) % 3 == 0) = decide ((kq + 1) % 3 = 0) := by
        by_cases e : (kq + 1) % 3 = 0
        · rw [decide_eq_true e]; simp; omega
        · rw [decide_eq_false e]; simp; omega
      have HB := hide (heldByteS_any (some ⟨hs[j].g, 0, none⟩) hs[j].X.xs.length hs[j].c ((kq : Int) + 1 + 1) w (by omega) (by omega) (by omega) (by rw [show (kq : Int) + 1 + 1 = ((kq + 2 : Nat) : Int) by omega]; exact dd))
      have hnn : ∀ b : Bool, (b != b) = false := fun b => by cases b <;> rfl
      have hk4 := hnn (decide ((kq + 1) % 3 = 0))
      clear dd hkk hat hjh hnn R D
      generalize hs[j].X.xs.length = ln at *
      generalize hs[j].g = dg at *
      generalize hs[j].c = dc at *
      generalize decide ((kq + 1) % 3 = 0) = bb at *
      go_wp2_with fail
      refine (unhide HB).mono ?_
      rintro e w2 ⟨rfl, hw2⟩
      subst w2
      go_wp2_with fail
      go_roundw
      case rel => exact ⟨j + 1, by omega, by go_num, by rw [unhide HKK]; go_num, by first | exact hide rfl | exact hide trivial⟩
      case measure => simp [intOf]; omega
    · obtain rfl : j = n := by omega
      have ZK := hide (show kOf k0 (hs.take j) = kOf k0 hs by rw [List.take_of_length_le (by rw [unhide L]; exact Nat.le_refl _)])
      go_wp2_with fail
      go_ret
      exact ⟨ret_int (by rw [unhide ZK]), rfl⟩
end Go.Proofs.Ytpmbpldjjnjafaa
