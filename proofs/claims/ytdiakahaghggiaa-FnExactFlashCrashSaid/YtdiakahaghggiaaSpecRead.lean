/-
  The walk of l02Read.
-/
import Derived.Test.YtdiakahaghggiaaSpecPut
import Derived.Test.YtdiakahaghggiaaLitA
import Derived.Test.YtdiakahaghggiaaFlashOK
namespace Go.Proofs.Ytdiakahaghggiaa
open Go.RowKit

theorem putD_len (xs : List Int) (d : WD) (t : Nat) (hd : d.xs.length = 16) (ht : t ≤ 16) : (putD xs d t).length = max xs.length ((d.at_.toNat + 1) * 16) := by
  unfold putD
  rw [putB_len _ _ _ (by rw [growD_len]; simp [hd]; omega), growD_len]
theorem readD_snoc (xs : List Int) (ws : List WD) (k : Nat) (hk : k < ws.length) : readD xs (ws.take (k + 1)) = putD (readD xs (ws.take k)) ws[k] 16 := by
  unfold readD
  rw [List.take_succ_eq_append_getElem hk, List.foldl_append]; rfl
theorem okW_shape {d : WD} (h : okW d = true) : ∃ (n : Nat) (s : List Int), d = ⟨(n : Int), s⟩ ∧ n ≤ 127 ∧ s.length = 16 := by
  unfold okW at h
  have h := of_decide_eq_true h
  obtain ⟨a, s⟩ := d
  simp only at h
  exact ⟨a.toNat, s, by congr 1; omega, by omega, h.2.2⟩
theorem readD_bounds (xs : List Int) (ws : List WD) (hx : xs.length % 16 = 0) (hx2 : xs.length ≤ 2048) (hall : ∀ d ∈ ws, okW d = true) : (readD xs ws).length % 16 = 0 ∧ (readD xs ws).length ≤ 2048 := by
  induction ws generalizing xs with
  | nil => exact ⟨hx, hx2⟩
  | cons d r ih =>
    obtain ⟨n, s, rfl, hn, hs⟩ := okW_shape (hall d (by simp))
    have hl := putD_len xs ⟨(n : Int), s⟩ 16 hs (Nat.le_refl _)
    simp only [Int.toNat_natCast] at hl
    exact ih (putD xs ⟨(n : Int), s⟩ 16) (by omega) (by omega) (fun d hd => hall d (by simp [hd]))
theorem row_of_owns {w : World} {B g cap : Nat} {xs : List Int} (h : Owns w B (.slice (some ⟨g, 0, none⟩) xs.length cap) xs) : Row w (some ⟨g, 0, none⟩) xs.length xs := by
  obtain ⟨a, c, e, _, _, h3, _⟩ := mine_of_owns h
  injection e with e1
  subst e1
  exact h3
theorem owns_mono {w : World} {B C : Nat} {v : Value} {xs : List Int} (h : Owns w B v xs) (hc : C ≤ B) : Owns w C v xs := by
  refine ⟨h.1, ?_⟩
  rcases h.2 with h | ⟨g, cap, cur, e, hb, r⟩
  · exact .inl h
  · exact .inr ⟨g, cap, cur, e, Nat.le_trans hc hb, r⟩
set_option maxRecDepth 100000 in
set_option maxHeartbeats 2000000 in
theorem l02Read_gen (ah : Option Addr) (n c : Nat) (aw : Option Addr) (nw cw : Nat) (xs : List Int) (ws : List WD) (w : World) (hR : Row w ah n xs) (hah : Adr ah n c) (hW : WRow w aw nw ws) (hn : n ≤ 2048) (h16 : n % 16 = 0) (hnw : nw ≤ 5000) (hall : ∀ d ∈ ws, okW d = true) :
    Calls Try.prog 41 #[fv ah n c aw nw cw] w fun e w' => ∃ g cap, e = .returned (.slice (some ⟨g, 0, none⟩) (readD xs ws).length cap) ∧ Owns w' w.heap.size (.slice (some ⟨g, 0, none⟩) (readD xs ws).length cap) (readD xs ws) ∧ Below w.heap.size w w' := by
  obtain ⟨i0, hi, hz0, hz1, hz2⟩ := info_parts Try.infoU8
  have hxl := hR.1
  have hb0 : ∀ o1 o2, Below w.heap.size w ((w.alloc o1).alloc o2) := fun o1 o2 => ((Below.refl _ _).alloc (Nat.le_refl _) _).alloc (by simp) _
  have hO : ∀ o1, ((w.alloc o1).alloc (.cells #[] 5)).ownsRow w.heap.size 5 1 (.slice (some ⟨w.heap.size + 1, 0, none⟩) 0 0) 0 [] := fun o1 => by
    have := World.ownsRow_lit (base := w.heap.size) (e := 5) (size := 1) (w.alloc o1) #[] 0 (by simp) (by unfold maxLen; simp) rfl
    simpa using this
  have HR := hide hR
  have HW := hide hW
  have HA := hide hall
  clear hR hW hall
  obtain ⟨g, cap, w1, hrun, O1, hgrow⟩ := lit_app 22 (show Owns _ w.heap.size _ [] from hO (.cells #[.slice ah n c, .slice aw nw cw] 30)) (row_grow (unhide HR) (hb0 _ _)) hah (by omega) (by simp; omega)
  have B1 : Below w.heap.size w w1 := (hb0 _ _).grown hgrow (by simp; omega) (fun k hk => by injection hk with hk; omega)
  have p1 : w1.cell? ⟨w.heap.size, 1, none⟩ = some (.slice aw nw cw) := by
    have e := hgrow.block w.heap.size (by simp; omega) (by simp)
    rw [World.cell?_of_block (a := ⟨w.heap.size, 1, none⟩) e]
    exact (cell_old (by simp)).trans ((cell_new rfl).trans rfl)
  have hs1 : w.heap.size + 1 ≤ w1.heap.size := by have := hgrow.size; simp at this; omega
  have OO := hide O1
  clear hgrow hb0 hO O1
  subst hxl
  go_enter Try.func41, Try.ntmps41
  go_wp2_with (at_builtin; refine sc_wpApp rfl _ _ 22 rfl _ _ _ w1 rfl rfl hrun ?_)
  go_loopw [3, 4] (fun o i wr => ∃ (k g cap : Nat) (ys : List Int), k ≤ nw ∧ i = .int .i64 k ∧ o = .slice (some ⟨g, 0, none⟩) ys.length cap ∧ Hid (ys = readD xs (ws.take k)) ∧ Hid (Owns wr w.heap.size (.slice (some ⟨g, 0, none⟩) ys.length cap) ys) ∧ wr.cell? ⟨w.heap.size, 1, none⟩ = some (.slice aw nw cw) ∧ w.heap.size + 1 ≤ wr.heap.size ∧ Below w.heap.size w wr) (fun _ i _ => nw - (intOf i).toNat)
  case atStart => exact ⟨0, g, cap, xs, Nat.zero_le _, rfl, rfl, by show xs = _; simp [readD], unhide OO, p1, hs1, B1⟩
  case round =>
    clear OO B1 p1 hs1
    obtain ⟨k, g, cap, ys, hk, rfl, rfl, hy, hO, p1, hs, hb⟩ := hrel
    have hwl := hide (unhide HW).1
    by_cases hlt : k < nw
    · have hk3 : k < ws.length := by rw [unhide hwl]; exact hlt
      obtain ⟨bw, ow, rfl, e0, ad, cd, e1, hm, rd⟩ := ((unhide HW).below hb).2 k hk3
      obtain ⟨m, s, hpd, hm127, hs16⟩ := okW_shape (unhide HA ws[k] (List.getElem_mem hk3))
      have hstep := readD_snoc xs ws k hk3
      rw [hpd] at e0 e1 rd hstep hm
      simp only at e0 e1 rd hm
      rw [hs16] at e1 rd hm
      obtain ⟨bd, od, rfl, _⟩ := rd.2 0 (by omega)
      have hbd := readD_bounds xs (ws.take k) h16 hn (fun d hd => unhide HA d (List.mem_of_mem_take hd))
      rw [← unhide hy] at hbd hstep
      have hcd := hm.2
      have HP := hide (l02Put_any g 0 ys.length cap ys m s bd od cd 16 wr (row_of_owns (unhide hO)) hbd.2 hbd.1 hm127 hs16 rd hcd (Nat.le_refl _))
      have HS := hide hstep
      have hlen := putD_len ys ⟨(m : Int), s⟩ 16 hs16 (Nat.le_refl _)
      simp only [Int.toNat_natCast] at hlen
      have HL := hide hlen
      clear hstep hlen rd hpd hm hbd
      go_wp2_with fail
      refine (unhide HP).mono ?_
      rintro e w2 ⟨g2, cap2, rfl, hO2, hb2⟩
      have q1 := (hb2.cell (p := ⟨w.heap.size, 1, none⟩) (show w.heap.size < wr.heap.size by omega)).trans p1
      have B2 := hide (hb.trans (hb2.mono (by omega)))
      have hs2 : w.heap.size + 1 ≤ w2.heap.size := Nat.le_trans hs hb2.size
      rw [← unhide HL] at hO2 ⊢
      have O2 := hide (owns_mono hO2 (show w.heap.size ≤ wr.heap.size by omega))
      clear hO2 hb2 hb p1 hO HP e0 e1
      generalize putD ys ⟨(m : Int), s⟩ 16 = zs at *
      go_wp2_with fail
      go_roundw
      case rel => exact ⟨k + 1, g2, cap2, zs, by omega, by go_num, rfl, (unhide HS).symm, unhide O2, q1, hs2, unhide B2⟩
      case measure => simp [intOf]; omega
    · obtain rfl : k = nw := by omega
      have e : ys = readD xs ws := by rw [unhide hy, List.take_of_length_le (by rw [unhide hwl]; exact Nat.le_refl _)]
      have HE := hide e
      clear e
      go_wp2_with fail
      go_ret
      rw [← unhide HE]
      exact ⟨g, cap, rfl, unhide hO, hb⟩
theorem l02Read_any (b off n c : Nat) (aw : Option Addr) (nw cw : Nat) (xs : List Int) (ws : List WD) (w : World) (hR : Row w (some ⟨b, off, none⟩) n xs) (hW : WRow w aw nw ws) (hn : n ≤ 2048) (h16 : n % 16 = 0) (hnw : nw ≤ 5000) (hall : ∀ d ∈ ws, okW d = true) :
    Calls Try.prog 41 #[fv (some ⟨b, off, none⟩) n c aw nw cw] w fun e w' => ∃ g cap, e = .returned (.slice (some ⟨g, 0, none⟩) (readD xs ws).length cap) ∧ Owns w' w.heap.size (.slice (some ⟨g, 0, none⟩) (readD xs ws).length cap) (readD xs ws) ∧ Below w.heap.size w w' :=
  l02Read_gen (some ⟨b, off, none⟩) n c aw nw cw xs ws w hR (.inr ⟨b, off, rfl⟩) hW hn h16 hnw hall
end Go.Proofs.Ytdiakahaghggiaa
